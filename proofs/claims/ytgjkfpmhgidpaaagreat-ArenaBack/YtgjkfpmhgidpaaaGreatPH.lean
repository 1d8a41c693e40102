/-
  Joined: PrH PrI PrJ PrK.
-/
import Derived.Test.YtgjkfpmhgidpaaaGreatPE

/-
  The program's arena: put, Write, WriteBefore; Make as a whole.
-/
namespace Go.Proofs.YtgjkfpmhgidpaaaGreat
open Go.RowKit Go.Maps Utf
set_option linter.unusedVariables false
set_option linter.unusedSimpArgs false

/-- append, whose run is known, as one step of a region that draws its order. -/
theorem step_app2 {P : Program} {ops : Array Oper} {o : Oper} {a : Act} {w w' : World} {K : Act → World → Prop} {Q : Exit → Act → World → Prop} {E : Prop}
    (hg : o.guard = none) (s x : Operand) (t t' : TypeId) (hop : o.op = Op.call { callee := Callee.builtin Builtin.append, args := #[s, x], argTypes := #[t, t'] })
    (v u : Value) {v' : Value} (hs : a.eval s = v) (hx : a.eval x = u) (hrun : ∀ ty, (Builtin.append_ #[t, t'] ty #[v, u]).run P w = .ok v' w') (hK : K (a.put o.dst v') w') :
    if Region.wanted o (yielded ops a.tmps) = true then Oper.wp P o a w K Q else E := by
  have hw : Region.wanted o (yielded ops a.tmps) = true := by simp [Region.wanted, hg]
  rw [if_pos hw]
  have hr := hrun o.type
  unfold Oper.wp
  simp [execOp, hop, resolve, invoke, builtin, hs, hx, hr, Result.andThen]
  exact hK

section
variable {tag : Nat → Nat} {w : World} {b g o c : Nat} {q : Bool} {n : Nat} {N : Nat → Pn} {pl : Nat → Np}

/-- One node's own lists have turned, and then one of its cells is written. -/
theorem Rw.turn {tag' : Nat → Nat} {S : List Nat} {w2 : World} {N' : Nat → Pn} {pl' : Nat → Np} (h : Rw tag w b g o c q n N pl) {i k : Nat} (hi : i < n) (hk : k < 11) (u : Value) (kp : Kp S w w2) (hS : ∀ x, x ∈ S → x < w.heap.size → tag x = 8 + 3 * i ∨ tag x = 9 + 3 * i ∨ tag x = 10 + 3 * i) (ht : ∀ x, x < w.heap.size → tag' x = tag x)
    (he : el (N' i) (pl' i) = (el (N i) (pl i)).set k u) (hN : ∀ j, j < n → j ≠ i → N' j = N j ∧ pl' j = pl j) (hs : Sd tag' w2 i (N' i).lb (pl' i)) :
    Rw tag' (w2.setCell ⟨g, o + i * 11 + k, none⟩ u) b g o c q n N' pl' ∧ Mv tag w tag' (w2.setCell ⟨g, o + i * 11 + k, none⟩ u) := by
  have hne := h.ne
  have hlt := h.lt
  obtain ⟨cur, h1, h2, h3⟩ := h.body
  have hbS : b ∉ S := fun hx => by have := hS b hx hlt.1; rw [h.tb] at this; omega
  have hgS : g ∉ S := fun hx => by have := hS g hx hlt.2; rw [h.tg] at this; omega
  have k1 : Kp [g] w2 (w2.setCell ⟨g, o + i * 11 + k, none⟩ u) := (Kp.refl _ _).setCell (Or.inl (by simp)) _
  have h1' := h1.kept kp hgS
  have g2 : ∀ x, x ∈ [g] → x < w2.heap.size → tag' x ≠ 8 + 3 * i ∧ tag' x ≠ 9 + 3 * i ∧ tag' x ≠ 10 + 3 * i := fun x hx _ => by
    rw [List.mem_singleton.1 hx, ht g hlt.2, h.tg]; omega
  have kk : Kp (g :: S) w (w2.setCell ⟨g, o + i * 11 + k, none⟩ u) := (kp.mono (T := g :: S) (fun x hx => Or.inl (List.mem_cons_of_mem _ hx))).trans k1 (fun x hx => Or.inl (by rw [List.mem_singleton.1 hx]; simp))
  refine ⟨⟨(h.hd.kept kp hbS).kept k1 (by simpa using hne), by rw [ht b hlt.1]; exact h.tb, h.cap, h.max, ⟨_, h1'.set _ u, by simpa using h2, fun j hj l hl => ?_⟩, by rw [ht g hlt.2]; exact h.tg, fun j hj => ?_⟩, ?_⟩
  · rw [Array.getElem?_setIfInBounds]
    have hcap := h.cap
    have hm : i * 11 + 11 ≤ c * 11 := by omega
    by_cases hjl : o + i * 11 + k = o + j * 11 + l
    · obtain ⟨rfl, rfl⟩ := (idx11 (i := i) (j := j) hk hl).1 (by omega)
      rw [if_pos rfl, if_pos (by omega), he, List.getElem?_set_self (by rw [el_len]; exact hk)]
    · rw [if_neg hjl]
      by_cases hji : j = i
      · subst hji
        rw [he, List.getElem?_set_ne (fun e => hjl (by rw [e])), h3 j hj l hl]
      · rw [(hN j hj hji).1, (hN j hj hji).2, h3 j hj l hl]
  · by_cases hji : j = i
    · subst hji; exact hs.keep k1 g2 (fun _ _ => rfl)
    · rw [(hN j hj hji).1, (hN j hj hji).2]
      refine (h.side j hj).keep kk (fun x hx hxl => ?_) ht
      rcases List.mem_cons.1 hx with rfl | hx
      · rw [h.tg]; omega
      · have := hS x hx hxl; omega
  · refine Mv.of_kp kk (fun x hx hxl => ?_) ht
    rcases List.mem_cons.1 hx with rfl | hx
    · exact .inr (.inl h.tg)
    · have := hS x hx hxl; exact .inr (.inr (by omega))

/-- A label with more text. -/
def txtL (l : Lb) (s : ByteArray) : Lb := (l.kind, l.ns, l.name, l.attrs, l.text ++ s)

/-- A text is put behind a node's text. -/
theorem Rw.text (h : Rw tag w b g o c q n N pl) {y : Nat} (hy : y < n) (s : ByteArray) (hs : 0 < s.size) (hl : (N y).lb.text.size + s.size ≤ 1000000) :
    ∃ ao' n' c' w2, (∀ ty, (Builtin.append_ #[54, 9] ty #[.slice (pl y).to (pl y).tn (pl y).tc, .string s]).run Tryz.prog w.drew = .ok (.slice ao' n' c') w2) ∧ (w2.cell? ⟨b, 0, none⟩ = some (.slice (some ⟨g, o, none⟩) n c) ∧ w2.cell? ⟨g, o + y * 11 + 5, none⟩ = some (.slice (pl y).to (pl y).tn (pl y).tc)) ∧ w2.frozen? ⟨g, o + y * 11 + 5, none⟩ = false ∧
      ∃ tag', Pa tag' (w2.setCell ⟨g, o + y * 11 + 5, none⟩ (.slice ao' n' c')) b q n (sLb N y (txtL (N y).lb s)) ∧ Mv tag w tag' (w2.setCell ⟨g, o + y * 11 + 5, none⟩ (.slice ao' n' c')) := by
  have hd := h.kept ((Kp.refl [] w).drew)
  have sd := hd.side y hy
  obtain ⟨v', w2, hrun, ot, k2, hb2, ao', c', rfl⟩ := sd.tx.app s hs hl
  have kw : Kp (blk (.slice (pl y).to (pl y).tn (pl y).tc)) w w2 := ((Kp.refl _ w).drew).trans k2 (fun x hx => Or.inl hx)
  have hne := h.ne
  have hlt := h.lt
  have hbS : b ∉ blk (.slice (pl y).to (pl y).tn (pl y).tc) := fun hx => by have := sd.txT b hx; rw [h.tb] at this; omega
  have hgS : g ∉ blk (.slice (pl y).to (pl y).tn (pl y).tc) := fun hx => by have := sd.txT g hx; rw [h.tg] at this; omega
  obtain ⟨cur, h1, h2, h3⟩ := h.body
  have hg2 := h1.kept kw hgS
  have hb2' := h.hd.kept kw hbS
  obtain ⟨T, hT⟩ : ∃ T : Nat → Nat, T = fun x => if x < w.heap.size then tag x else 10 + 3 * y := ⟨_, rfl⟩
  have T0 : ∀ x, x < w.heap.size → T x = tag x := fun x hx => by rw [hT]; simp only [if_pos hx]
  have hs2 : Sd T w2 y (txtL (N y).lb s) ⟨(pl y).ao, (pl y).an, (pl y).ac, (pl y).nm, ao', (N y).lb.text.size + s.size, c'⟩ := by
    have sd0 := h.side y hy
    have at2 := sd0.at'.keep kw (fun x hx hs => by have e1 := sd0.atT x hx; have e2 := sd.txT x hs; omega)
    refine ⟨at2, fun x hx => by rw [T0 x (sd0.at'.lt x hx)]; exact sd0.atT x hx, ot, fun x hx => ?_, fun z hz => ?_⟩
    · rcases hb2 x hx with h4 | h4
      · rw [T0 x (sd0.tx.lt x h4)]; exact sd0.txT x h4
      · rw [hT, h4]; simp only [if_neg (show ¬ (World.drew w).heap.size < w.heap.size from Nat.lt_irrefl _)]
    · obtain ⟨n1, n2⟩ := sd0.nm z hz
      exact ⟨n1.same (kw.block z n1.lt (fun hs => by have := sd.txT z hs; omega)), by rw [T0 z n1.lt]; exact n2⟩
  obtain ⟨r1, m1⟩ := h.turn (tag' := T) (N' := sLb N y (txtL (N y).lb s)) (pl' := fun j => if j = y then ⟨(pl y).ao, (pl y).an, (pl y).ac, (pl y).nm, ao', (N y).lb.text.size + s.size, c'⟩ else pl j) (k := 5) hy (by omega) (.slice ao' ((N y).lb.text.size + s.size) c') kw (fun x hx _ => .inr (.inr (sd.txT x hx))) T0
    (by simp [sLb, el, txtL]) (fun j _ hj => ⟨by simp [sLb, hj], by simp [hj]⟩) (by simp only [sLb, if_pos]; exact hs2)
  exact ⟨ao', _, c', w2, hrun, ⟨hb2'.cell 0, by rw [hg2.cell]; exact h3 y hy 5 (by omega)⟩, hg2.free _, T, ⟨g, o, c, _, r1⟩, m1⟩

end

namespace Ar
theorem tell_new {a : Ar} (l l' : Lb) (p i : Nat) : ((a.new l).put p i a.n).tell a.n l' = (a.new l').put p i a.n := by
  unfold tell put new
  simp only [Ar.mk.injEq, true_and, and_true]
  funext y
  by_cases hy : y = a.n
  · rw [if_pos hy, if_pos hy]
  · rw [if_neg hy, if_neg hy, if_neg hy]
end Ar

section
variable {tag : Nat → Nat} {w : World} {b g o c : Nat} {q : Bool} {A : Ar} {pl : Nat → Np}

theorem emp_yes {s : ByteArray} (h : s.size = 0) : s.toList.isEmpty = true := by
  rw [ByteArray.toList_eq]
  have : s.data.toList = [] := List.eq_nil_of_length_eq_zero (by rw [Array.length_toList]; exact h)
  rw [this]; rfl

set_option maxRecDepth 100000 in
set_option maxHeartbeats 1000000 in
theorem put_arena (h : Rw tag w b g o c q A.n A.raw pl) (ok : A.Ok) (hn : A.n < 40000) (p : Nat) (hp : p < A.n) (k1 k2 : List Nat) (ek : A.kids p = k1 ++ k2) (z : Int) (hz : z = hdI k2) (s : ByteArray) (hs : s.size ≤ 1000) (htx : ∀ x, (A.lb x).text.size ≤ 900000) :
    Calls Tryz.prog 69 #[.pointer (some ⟨b, 0, none⟩), .int .i64 p, .int .i64 z, .string s] w fun e w' => e = .returned (.tuple #[]) ∧ ∃ tag', Pa tag' w' b q (A.txt p k1.length s).n (A.txt p k1.length s).raw ∧ Mv tag w tag' w' := by
  have hp0 : (0 : Int) ≤ (p : Int) := by omega
  have hp1 : (p : Int) < (A.n : Int) := by omega
  obtain ⟨c0, _⟩ := h.head
  obtain ⟨f1, _⟩ := h.fields hp
  rw [show (A.raw p).lb = A.lb p from rfl] at f1
  obtain ⟨Z, hZ⟩ : ∃ Z, A.txt p k1.length s = Z := ⟨_, rfl⟩
  rw [hZ]
  unfold Ar.txt at hZ
  have pa0 : ∃ tag', Pa tag' w b q A.n A.raw ∧ Mv tag w tag' w := ⟨tag, ⟨g, o, c, pl, h⟩, Mv.refl tag w⟩
  by_cases h0 : s.size = 0
  · rw [if_pos (.inl h0)] at hZ
    subst hZ
    have t0 : s.toList.isEmpty = true := emp_yes h0
    have pa : Hid _ := pa0
    clear h pa0 hz
    go_enter Tryz.func69, Tryz.ntmps69
    go_wp2
    (try simp only [Exit.inBlock, Exit.then]); refine bodyPost_ret (results_none rfl _ _ _) rfl ?_
    exact ⟨rfl, pa.out⟩
  have t0 : s.toList.isEmpty = false := ne_empty h0
  by_cases hk : (A.lb p).kind = 1
  · rw [if_pos (.inr hk)] at hZ
    subst hZ
    rw [hk] at f1
    have pa : Hid _ := pa0
    clear h pa0 hz
    go_enter Tryz.func69, Tryz.ntmps69
    go_wp2
    (try simp only [Exit.inBlock, Exit.then]); refine bodyPost_ret (results_none rfl _ _ _) rfl ?_
    exact ⟨rfl, pa.out⟩
  rw [if_neg (by omega)] at hZ
  have t1 : ((A.lb p).kind == 1) = false := beq_false_of_ne hk
  have hkn : ∀ y, y ∈ k1 ∨ y ∈ k2 → y < A.n := fun y hy => (ok.kid_lt (p := p) (by rw [ek]; exact List.mem_append.2 hy)).1
  have HA := ahead_any h (by omega) p hp z (by rw [hz]; exact hdI_nn (fun y hy => hkn y (.inr hy)))
  have eah : aheadF A.raw p z = laI k1 := by
    rw [hz]
    unfold aheadF
    cases k2 with
    | nil => rw [hdI_nil, if_pos rfl]; show laI (A.kids p) = _; rw [ek, List.append_nil]
    | cons r k2 =>
      rw [if_neg (fun e => by have := hdI_neg.1 e; cases this)]
      show (A.raw ((r : Int).toNat)).ah = _
      rw [Int.toNat_natCast, (ok.chain ek).2]
  rw [eah] at HA
  generalize (A.lb p).kind = kp at f1 t1
  have etx : ∀ p i : Nat, ((((A.new (4, 0, ⟨#[]⟩, [], ⟨#[]⟩)).put p i A.n).raw A.n).lb).text = ⟨#[]⟩ := fun p i => by show (if A.n = A.n then _ else A.lb A.n : Lb).text = _; rw [if_pos rfl]
  have etl : ∀ p i : Nat, txtL ((((A.new (4, 0, ⟨#[]⟩, [], ⟨#[]⟩)).put p i A.n).raw A.n).lb) s = (4, 0, ⟨#[]⟩, [], s) := fun p i => by
    have : (((A.new (4, 0, ⟨#[]⟩, [], ⟨#[]⟩)).put p i A.n).raw A.n).lb = (4, 0, ⟨#[]⟩, [], ⟨#[]⟩) := by show (if A.n = A.n then _ else A.lb A.n : Lb) = _; rw [if_pos rfl]
    rw [this]
    show (4, 0, _, [], _ ++ s) = _
    rw [Fo.none_cat]
  have HADD : Calls Tryz.prog 17 #[.pointer (some ⟨b, 0, none⟩), .agg #[.int .i64 4, .int .i64 0, .string ⟨#[]⟩, .slice none 0 0, .map none, .slice none 0 0, .int .i64 0, .int .i64 0, .int .i64 0, .int .i64 0, .int .i64 0]] w fun e w' => e = .returned (.int .i64 (A.n : Int)) ∧ Hid (∃ tag' g' o' c' pl', Rw tag' w' b g' o' c' q (A.n + 1) (A.new (4, 0, ⟨#[]⟩, [], ⟨#[]⟩)).raw pl' ∧ Mv tag w tag' w') := by
    refine (add_any h (by omega) (4, 0, ⟨#[]⟩, [], ⟨#[]⟩) np0 (Fr.none (Kp.refl _ _) rfl rfl)).mono ?_
    rintro e w3 ⟨rfl, t3, p3, m3⟩
    obtain ⟨g', o', c', pl', r'⟩ := pa_new ok p3
    exact ⟨rfl, t3, g', o', c', pl', r', m3⟩
  have hzH : Hid (z = hdI k2) := hz
  clear hz
  rcases List.eq_nil_or_concat k1 with rfl | ⟨k3, y, rfl⟩
  · have hZ' : Z = (A.new (4, 0, ⟨#[]⟩, [], s)).put p ([] : List Nat).length A.n := hZ.symm
    rw [laI_nil] at HA
    clear h pa0 hZ eah htx
    go_enter Tryz.func69, Tryz.ntmps69
    -- a new node: made, linked, written
    (go_wp2_with (first | (go_at_call 83; refine (HA).mono ?_; rintro e w9 ⟨rfl, hw⟩; have hw2 := hw.symm; clear hw; subst hw2) | (go_at_call 17; refine HADD.mono ?_; rintro e w3 ⟨rfl, X3⟩; refine Hid.out ?_)))
    unfold Hid
    obtain ⟨t3, g3, o3, d3, pl3, r3, m3⟩ := X3.out
    have HL := (hid_link (A := A.new (4, 0, ⟨#[]⟩, [], ⟨#[]⟩)) r3 (ok.new _) (show A.n + 1 < 50000 by omega) (p := p) (x := A.n) (show p < A.n + 1 by omega) (show A.n < A.n + 1 by omega) (ok.out A.n (Nat.le_refl _)).2 (k1 := []) (k2 := k2) ek z hzH.out).out _ (Kp.refl _ _)
    clear HADD X3 HA
    go_wp2_with fail
    refine HL.mono ?_
    rintro e w4 ⟨rfl, z4⟩
    clear HL
    have m4 := m3.trans z4.mv
    obtain ⟨ao5, n5, c5, w5, hrun, hS2, hfz, t5, p5, m5⟩ := z4.1.text (y := A.n) (show A.n < A.n + 1 by omega) s (by omega) (by rw [etx]; show 0 + s.size ≤ _; omega)
    rw [← Ar.raw_tell] at p5
    rw [etl, Ar.tell_new] at p5
    have hfin : Hid (∃ tag', Pa tag' _ b q Z.n Z.raw ∧ Mv tag w tag' _) := ⟨t5, by rw [hZ']; exact p5, m4.trans m5⟩
    have hS0 : (World.drew w4).cell? ⟨b, 0, none⟩ = some (.slice (some ⟨g3, o3, none⟩) (A.n + 1) d3) ∧ (World.drew w4).cell? ⟨g3, o3 + A.n * 11 + 5, none⟩ = some (.slice (pl3 A.n).to (pl3 A.n).tn (pl3 A.n).tc) := ⟨z4.1.head.1, (z4.1.fields (show A.n < A.n + 1 by omega)).2.2.2.2.2⟩
    replace hS2 : w5.cell? ⟨b, 0, none⟩ = some (.slice (some ⟨g3, o3, none⟩) (A.n + 1) d3) ∧ w5.cell? ⟨g3, o3 + A.n * 11 + 5, none⟩ = some (.slice (pl3 A.n).to (pl3 A.n).tn (pl3 A.n).tc) := hS2
    have hy0 : (0 : Int) ≤ (A.n : Int) := by omega
    have hy1 : (A.n : Int) < (A.n : Int) + 1 := by omega
    clear p5 m5 m4 z4 r3 m3 hZ'
    go_wp2_with fail
    refine wp_region_g (S := fun V => V.cell? ⟨b, 0, none⟩ = some (.slice (some ⟨g3, o3, none⟩) (A.n + 1) d3) ∧ V.cell? ⟨g3, o3 + A.n * 11 + 5, none⟩ = some (.slice (pl3 A.n).to (pl3 A.n).tn (pl3 A.n).tc)) (T := [17]) (by kernel_rfl) hS0 (fun hHeld => ?_)
    refine g_pure 0 (oi := ⟨some 47, .move (.tmp 0), 22, "write.go:42", #[], none⟩) (v := ?_) (Or.inl ⟨by rfl, ?_⟩) ?_
    rotate_left
    · (intro w; go_simp; try with_reducible rfl)
    simp only [Act.put, pu1, pu2, pu3]
    refine g_pure 1 (oi := ⟨some 48, .nilCheck (.tmp 47), 0, "write.go:42", #[⟨0, .data⟩], none⟩) (v := ?_) (Or.inl ⟨by rfl, ?_⟩) ?_
    rotate_left
    · (intro w; go_simp; try with_reducible rfl)
    simp only [Act.put, pu1, pu2, pu3]
    refine g_pure 2 (oi := ⟨some 49, .fieldAddr 51 (.tmp 48) 0, 0, "write.go:42", #[⟨1, .data⟩], none⟩) (v := ?_) (Or.inl ⟨by rfl, ?_⟩) ?_
    rotate_left
    · (intro w; go_simp; try with_reducible rfl)
    simp only [Act.put, pu1, pu2, pu3]
    refine g_take 3 (oi := ⟨some 50, .load 49 (.tmp 49), 49, "write.go:42", #[⟨2, .data⟩], none⟩) (v := ?_) (Or.inl ⟨by rfl, ?_⟩) ?_
    rotate_left
    · (intro w hSw; (obtain ⟨q0, q5⟩ := hSw); go_simp; try with_reducible rfl)
    simp only [Act.put, pu1, pu2, pu3]
    refine g_pure 4 (oi := ⟨some 51, .move (.tmp 8), 3, "write.go:42", #[], none⟩) (v := ?_) (Or.inl ⟨by rfl, ?_⟩) ?_
    rotate_left
    · (intro w; go_simp; try with_reducible rfl)
    simp only [Act.put, pu1, pu2, pu3]
    refine g_pure 5 (oi := ⟨some 52, .move (.tmp 0), 22, "write.go:42", #[], none⟩) (v := ?_) (Or.inl ⟨by rfl, ?_⟩) ?_
    rotate_left
    · (intro w; go_simp; try with_reducible rfl)
    simp only [Act.put, pu1, pu2, pu3]
    refine g_pure 6 (oi := ⟨some 53, .nilCheck (.tmp 52), 0, "write.go:42", #[⟨5, .data⟩], none⟩) (v := ?_) (Or.inl ⟨by rfl, ?_⟩) ?_
    rotate_left
    · (intro w; go_simp; try with_reducible rfl)
    simp only [Act.put, pu1, pu2, pu3]
    refine g_pure 7 (oi := ⟨some 54, .fieldAddr 51 (.tmp 53) 0, 0, "write.go:42", #[⟨6, .data⟩], none⟩) (v := ?_) (Or.inl ⟨by rfl, ?_⟩) ?_
    rotate_left
    · (intro w; go_simp; try with_reducible rfl)
    simp only [Act.put, pu1, pu2, pu3]
    refine g_take 8 (oi := ⟨some 55, .load 49 (.tmp 54), 49, "write.go:42", #[⟨7, .data⟩], none⟩) (v := ?_) (Or.inl ⟨by rfl, ?_⟩) ?_
    rotate_left
    · (intro w hSw; (obtain ⟨q0, q5⟩ := hSw); go_simp; try with_reducible rfl)
    simp only [Act.put, pu1, pu2, pu3]
    refine g_pure 9 (oi := ⟨some 56, .move (.tmp 8), 3, "write.go:42", #[], none⟩) (v := ?_) (Or.inl ⟨by rfl, ?_⟩) ?_
    rotate_left
    · (intro w; go_simp; try with_reducible rfl)
    simp only [Act.put, pu1, pu2, pu3]
    refine g_pure 10 (oi := ⟨some 57, .indexAddr 49 (.tmp 55) (.tmp 56), 0, "write.go:42", #[⟨8, .data⟩, ⟨9, .data⟩], none⟩) (v := ?_) (Or.inl ⟨by rfl, ?_⟩) ?_
    rotate_left
    · (intro w; go_simp; try with_reducible rfl)
    simp only [Act.put, pu1, pu2, pu3]
    refine g_pure 11 (oi := ⟨some 58, .fieldAddr 56 (.tmp 57) 5, 0, "write.go:42", #[⟨10, .data⟩], none⟩) (v := ?_) (Or.inl ⟨by rfl, ?_⟩) ?_
    rotate_left
    · (intro w; go_simp; try with_reducible rfl)
    simp only [Act.put, pu1, pu2, pu3]
    refine g_take 12 (oi := ⟨some 59, .load 54 (.tmp 58), 54, "write.go:42", #[⟨11, .data⟩], none⟩) (v := ?_) (Or.inl ⟨by rfl, ?_⟩) ?_
    rotate_left
    · (intro w hSw; (obtain ⟨q0, q5⟩ := hSw); go_simp; try with_reducible rfl)
    simp only [Act.put, pu1, pu2, pu3]
    refine g_pure 13 (oi := ⟨some 60, .move (.tmp 3), 9, "write.go:42", #[], none⟩) (v := ?_) (Or.inl ⟨by rfl, ?_⟩) ?_
    rotate_left
    · (intro w; go_simp; try with_reducible rfl)
    simp only [Act.put, pu1, pu2, pu3]
    refine wpAnyG_ready (rs := [14]) (by kernel_rfl) (by simp) ?_
    refine AllReadyG.cons (o := ⟨some 61, .call { callee := .builtin .append, args := #[.tmp 59, .tmp 60], argTypes := #[54, 9] }, 54, "write.go:42", #[⟨12, .data⟩, ⟨13, .data⟩], none⟩) rfl (fun K hK => ?_) AllReadyG.nil
    refine step_app2 (by rfl) _ _ 54 9 (by rfl) _ _ (by rfl) (by rfl) hrun ?_
    refine hK.out _ _ hS2 (fun hHeld1 => ?_)
    clear hK K hHeld
    try simp only [Act.put, pu1, pu2, pu3]
    refine g_pure 15 (oi := ⟨some 62, .indexAddr 49 (.tmp 50) (.tmp 51), 0, "write.go:42", #[⟨3, .data⟩, ⟨4, .data⟩, ⟨0, .phase⟩, ⟨1, .phase⟩, ⟨2, .phase⟩, ⟨3, .phase⟩, ⟨4, .phase⟩, ⟨5, .phase⟩, ⟨6, .phase⟩, ⟨7, .phase⟩, ⟨8, .phase⟩, ⟨9, .phase⟩, ⟨10, .phase⟩, ⟨11, .phase⟩, ⟨12, .phase⟩, ⟨13, .phase⟩, ⟨14, .phase⟩], none⟩) (v := ?_) (Or.inl ⟨by rfl, ?_⟩) ?_
    rotate_left
    · (intro w; go_simp; try with_reducible rfl)
    simp only [Act.put, pu1, pu2, pu3]
    refine g_pure 16 (oi := ⟨some 63, .fieldAddr 56 (.tmp 62) 5, 0, "write.go:42", #[⟨15, .data⟩, ⟨0, .phase⟩, ⟨1, .phase⟩, ⟨2, .phase⟩, ⟨3, .phase⟩, ⟨4, .phase⟩, ⟨5, .phase⟩, ⟨6, .phase⟩, ⟨7, .phase⟩, ⟨8, .phase⟩, ⟨9, .phase⟩, ⟨10, .phase⟩, ⟨11, .phase⟩, ⟨12, .phase⟩, ⟨13, .phase⟩, ⟨14, .phase⟩], none⟩) (v := ?_) (Or.inl ⟨by rfl, ?_⟩) ?_
    rotate_left
    · (intro w; go_simp; try with_reducible rfl)
    simp only [Act.put, pu1, pu2, pu3]
    refine wpAnyG_free (by kernel_rfl) ?_
    refine wpAny_ready (rs := [17]) (by kernel_rfl) (by simp) ?_
    refine AllReady.cons (o := ⟨none, .store 54 (.tmp 63) (.tmp 61), 0, "write.go:42", #[⟨16, .data⟩, ⟨14, .data⟩, ⟨14, .chain⟩, ⟨0, .phase⟩, ⟨1, .phase⟩, ⟨2, .phase⟩, ⟨3, .phase⟩, ⟨4, .phase⟩, ⟨5, .phase⟩, ⟨6, .phase⟩, ⟨7, .phase⟩, ⟨8, .phase⟩, ⟨9, .phase⟩, ⟨10, .phase⟩, ⟨11, .phase⟩, ⟨12, .phase⟩, ⟨13, .phase⟩, ⟨14, .phase⟩], none⟩) rfl (fun K hK => ?_) AllReady.nil
    obtain ⟨q0, q5⟩ := hS2
    go_simp
    refine hK _ _ ?_
    clear hK K
    try simp only [Act.put, pu1, pu2, pu3]
    refine wpAny_done (by kernel_rfl) ?_ _
    go_wp2
    go_end0
    exact ⟨rfl, hfin.out⟩
  · rw [List.concat_eq_append] at ek hZ eah HA
    have hy : y < A.n := hkn y (.inl (by simp))
    have ela : laI (k3 ++ [y]) = (y : Int) := laI_app k3 y []
    rw [ela] at HA
    have eget : (if (k3 ++ [y]).length = 0 then none else (A.kids p)[(k3 ++ [y]).length - 1]?) = some y := by
      rw [ek, if_neg (by simp), List.append_assoc]
      simp
    rw [eget] at hZ
    replace hZ : (if (A.lb y).kind = 4 then A.tell y (4, (A.lb y).ns, (A.lb y).name, (A.lb y).attrs, (A.lb y).text ++ s) else (A.new (4, 0, ⟨#[]⟩, [], s)).put p (k3 ++ [y]).length A.n) = Z := hZ
    have t2 : ((y : Int) == -1) = false := beq_false_of_ne (by omega)
    have hy0' : (0 : Int) ≤ (y : Int) := by omega
    have hy1' : (y : Int) < (A.n : Int) := by omega
    obtain ⟨fy, _⟩ := h.fields hy
    rw [show (A.raw y).lb = A.lb y from rfl] at fy
    by_cases h4 : (A.lb y).kind = 4
    · rw [if_pos h4] at hZ
      rw [h4] at fy
      obtain ⟨ao5, n5, c5, w5, hrun, hS2, hfz, t5, p5, m5⟩ := h.text (y := y) hy s (by omega) (by have := htx y; show (A.lb y).text.size + s.size ≤ _; omega)
      rw [show txtL (A.raw y).lb s = (4, (A.lb y).ns, (A.lb y).name, (A.lb y).attrs, (A.lb y).text ++ s) by show (((A.lb y).kind, (A.lb y).ns, (A.lb y).name, (A.lb y).attrs, (A.lb y).text ++ s) : Lb) = _; rw [h4], ← Ar.raw_tell, hZ] at p5
      have hfin : Hid (∃ tag', Pa tag' _ b q Z.n Z.raw ∧ Mv tag w tag' _) := ⟨t5, by rw [show Z.n = A.n by rw [← hZ]; rfl]; exact p5, m5⟩
      have hS0 : (World.drew w).cell? ⟨b, 0, none⟩ = some (.slice (some ⟨g, o, none⟩) A.n c) ∧ (World.drew w).cell? ⟨g, o + y * 11 + 5, none⟩ = some (.slice (pl y).to (pl y).tn (pl y).tc) := ⟨h.head.1, (h.fields hy).2.2.2.2.2⟩
      clear h pa0 hZ eah htx p5 m5 HADD etx etl eget h4
      go_enter Tryz.func69, Tryz.ntmps69
      go_wp2_with (go_at_call 83; refine (HA).mono ?_; rintro e w9 ⟨rfl, hw⟩; have hw2 := hw.symm; clear hw; subst hw2)
      refine wp_region_g (S := fun V => V.cell? ⟨b, 0, none⟩ = some (.slice (some ⟨g, o, none⟩) A.n c) ∧ V.cell? ⟨g, o + y * 11 + 5, none⟩ = some (.slice (pl y).to (pl y).tn (pl y).tc)) (T := [17]) (by kernel_rfl) hS0 (fun hHeld => ?_)
      refine g_pure 0 (oi := ⟨some 47, .move (.tmp 0), 22, "write.go:42", #[], none⟩) (v := ?_) (Or.inl ⟨by rfl, ?_⟩) ?_
      rotate_left
      · (intro w; go_simp; try with_reducible rfl)
      simp only [Act.put, pu1, pu2, pu3]
      refine g_pure 1 (oi := ⟨some 48, .nilCheck (.tmp 47), 0, "write.go:42", #[⟨0, .data⟩], none⟩) (v := ?_) (Or.inl ⟨by rfl, ?_⟩) ?_
      rotate_left
      · (intro w; go_simp; try with_reducible rfl)
      simp only [Act.put, pu1, pu2, pu3]
      refine g_pure 2 (oi := ⟨some 49, .fieldAddr 51 (.tmp 48) 0, 0, "write.go:42", #[⟨1, .data⟩], none⟩) (v := ?_) (Or.inl ⟨by rfl, ?_⟩) ?_
      rotate_left
      · (intro w; go_simp; try with_reducible rfl)
      simp only [Act.put, pu1, pu2, pu3]
      refine g_take 3 (oi := ⟨some 50, .load 49 (.tmp 49), 49, "write.go:42", #[⟨2, .data⟩], none⟩) (v := ?_) (Or.inl ⟨by rfl, ?_⟩) ?_
      rotate_left
      · (intro w hSw; (obtain ⟨q0, q5⟩ := hSw); go_simp; try with_reducible rfl)
      simp only [Act.put, pu1, pu2, pu3]
      refine g_pure 4 (oi := ⟨some 51, .move (.tmp 8), 3, "write.go:42", #[], none⟩) (v := ?_) (Or.inl ⟨by rfl, ?_⟩) ?_
      rotate_left
      · (intro w; go_simp; try with_reducible rfl)
      simp only [Act.put, pu1, pu2, pu3]
      refine g_pure 5 (oi := ⟨some 52, .move (.tmp 0), 22, "write.go:42", #[], none⟩) (v := ?_) (Or.inl ⟨by rfl, ?_⟩) ?_
      rotate_left
      · (intro w; go_simp; try with_reducible rfl)
      simp only [Act.put, pu1, pu2, pu3]
      refine g_pure 6 (oi := ⟨some 53, .nilCheck (.tmp 52), 0, "write.go:42", #[⟨5, .data⟩], none⟩) (v := ?_) (Or.inl ⟨by rfl, ?_⟩) ?_
      rotate_left
      · (intro w; go_simp; try with_reducible rfl)
      simp only [Act.put, pu1, pu2, pu3]
      refine g_pure 7 (oi := ⟨some 54, .fieldAddr 51 (.tmp 53) 0, 0, "write.go:42", #[⟨6, .data⟩], none⟩) (v := ?_) (Or.inl ⟨by rfl, ?_⟩) ?_
      rotate_left
      · (intro w; go_simp; try with_reducible rfl)
      simp only [Act.put, pu1, pu2, pu3]
      refine g_take 8 (oi := ⟨some 55, .load 49 (.tmp 54), 49, "write.go:42", #[⟨7, .data⟩], none⟩) (v := ?_) (Or.inl ⟨by rfl, ?_⟩) ?_
      rotate_left
      · (intro w hSw; (obtain ⟨q0, q5⟩ := hSw); go_simp; try with_reducible rfl)
      simp only [Act.put, pu1, pu2, pu3]
      refine g_pure 9 (oi := ⟨some 56, .move (.tmp 8), 3, "write.go:42", #[], none⟩) (v := ?_) (Or.inl ⟨by rfl, ?_⟩) ?_
      rotate_left
      · (intro w; go_simp; try with_reducible rfl)
      simp only [Act.put, pu1, pu2, pu3]
      refine g_pure 10 (oi := ⟨some 57, .indexAddr 49 (.tmp 55) (.tmp 56), 0, "write.go:42", #[⟨8, .data⟩, ⟨9, .data⟩], none⟩) (v := ?_) (Or.inl ⟨by rfl, ?_⟩) ?_
      rotate_left
      · (intro w; go_simp; try with_reducible rfl)
      simp only [Act.put, pu1, pu2, pu3]
      refine g_pure 11 (oi := ⟨some 58, .fieldAddr 56 (.tmp 57) 5, 0, "write.go:42", #[⟨10, .data⟩], none⟩) (v := ?_) (Or.inl ⟨by rfl, ?_⟩) ?_
      rotate_left
      · (intro w; go_simp; try with_reducible rfl)
      simp only [Act.put, pu1, pu2, pu3]
      refine g_take 12 (oi := ⟨some 59, .load 54 (.tmp 58), 54, "write.go:42", #[⟨11, .data⟩], none⟩) (v := ?_) (Or.inl ⟨by rfl, ?_⟩) ?_
      rotate_left
      · (intro w hSw; (obtain ⟨q0, q5⟩ := hSw); go_simp; try with_reducible rfl)
      simp only [Act.put, pu1, pu2, pu3]
      refine g_pure 13 (oi := ⟨some 60, .move (.tmp 3), 9, "write.go:42", #[], none⟩) (v := ?_) (Or.inl ⟨by rfl, ?_⟩) ?_
      rotate_left
      · (intro w; go_simp; try with_reducible rfl)
      simp only [Act.put, pu1, pu2, pu3]
      refine wpAnyG_ready (rs := [14]) (by kernel_rfl) (by simp) ?_
      refine AllReadyG.cons (o := ⟨some 61, .call { callee := .builtin .append, args := #[.tmp 59, .tmp 60], argTypes := #[54, 9] }, 54, "write.go:42", #[⟨12, .data⟩, ⟨13, .data⟩], none⟩) rfl (fun K hK => ?_) AllReadyG.nil
      refine step_app2 (by rfl) _ _ 54 9 (by rfl) _ _ (by rfl) (by rfl) hrun ?_
      refine hK.out _ _ hS2 (fun hHeld1 => ?_)
      clear hK K hHeld
      try simp only [Act.put, pu1, pu2, pu3]
      refine g_pure 15 (oi := ⟨some 62, .indexAddr 49 (.tmp 50) (.tmp 51), 0, "write.go:42", #[⟨3, .data⟩, ⟨4, .data⟩, ⟨0, .phase⟩, ⟨1, .phase⟩, ⟨2, .phase⟩, ⟨3, .phase⟩, ⟨4, .phase⟩, ⟨5, .phase⟩, ⟨6, .phase⟩, ⟨7, .phase⟩, ⟨8, .phase⟩, ⟨9, .phase⟩, ⟨10, .phase⟩, ⟨11, .phase⟩, ⟨12, .phase⟩, ⟨13, .phase⟩, ⟨14, .phase⟩], none⟩) (v := ?_) (Or.inl ⟨by rfl, ?_⟩) ?_
      rotate_left
      · (intro w; go_simp; try with_reducible rfl)
      simp only [Act.put, pu1, pu2, pu3]
      refine g_pure 16 (oi := ⟨some 63, .fieldAddr 56 (.tmp 62) 5, 0, "write.go:42", #[⟨15, .data⟩, ⟨0, .phase⟩, ⟨1, .phase⟩, ⟨2, .phase⟩, ⟨3, .phase⟩, ⟨4, .phase⟩, ⟨5, .phase⟩, ⟨6, .phase⟩, ⟨7, .phase⟩, ⟨8, .phase⟩, ⟨9, .phase⟩, ⟨10, .phase⟩, ⟨11, .phase⟩, ⟨12, .phase⟩, ⟨13, .phase⟩, ⟨14, .phase⟩], none⟩) (v := ?_) (Or.inl ⟨by rfl, ?_⟩) ?_
      rotate_left
      · (intro w; go_simp; try with_reducible rfl)
      simp only [Act.put, pu1, pu2, pu3]
      refine wpAnyG_free (by kernel_rfl) ?_
      refine wpAny_ready (rs := [17]) (by kernel_rfl) (by simp) ?_
      refine AllReady.cons (o := ⟨none, .store 54 (.tmp 63) (.tmp 61), 0, "write.go:42", #[⟨16, .data⟩, ⟨14, .data⟩, ⟨14, .chain⟩, ⟨0, .phase⟩, ⟨1, .phase⟩, ⟨2, .phase⟩, ⟨3, .phase⟩, ⟨4, .phase⟩, ⟨5, .phase⟩, ⟨6, .phase⟩, ⟨7, .phase⟩, ⟨8, .phase⟩, ⟨9, .phase⟩, ⟨10, .phase⟩, ⟨11, .phase⟩, ⟨12, .phase⟩, ⟨13, .phase⟩, ⟨14, .phase⟩], none⟩) rfl (fun K hK => ?_) AllReady.nil
      obtain ⟨q0, q5⟩ := hS2
      go_simp
      refine hK _ _ ?_
      clear hK K
      try simp only [Act.put, pu1, pu2, pu3]
      refine wpAny_done (by kernel_rfl) ?_ _
      go_wp2
      go_end0
      exact ⟨rfl, hfin.out⟩
    · rw [if_neg h4] at hZ
      have hZ' : Z = (A.new (4, 0, ⟨#[]⟩, [], s)).put p (k3 ++ [y]).length A.n := hZ.symm
      have t4 : ((A.lb y).kind != 4) = true := bne_iff_ne.2 h4
      generalize (A.lb y).kind = ky at fy t4
      clear h pa0 hZ eah htx eget h4
      go_enter Tryz.func69, Tryz.ntmps69
      -- a new node: made, linked, written
      (go_wp2_with (first | (go_at_call 83; refine (HA).mono ?_; rintro e w9 ⟨rfl, hw⟩; have hw2 := hw.symm; clear hw; subst hw2) | (go_at_call 17; refine HADD.mono ?_; rintro e w3 ⟨rfl, X3⟩; refine Hid.out ?_)))
      unfold Hid
      obtain ⟨t3, g3, o3, d3, pl3, r3, m3⟩ := X3.out
      have HL := (hid_link (A := A.new (4, 0, ⟨#[]⟩, [], ⟨#[]⟩)) r3 (ok.new _) (show A.n + 1 < 50000 by omega) (p := p) (x := A.n) (show p < A.n + 1 by omega) (show A.n < A.n + 1 by omega) (ok.out A.n (Nat.le_refl _)).2 (k1 := k3 ++ [y]) (k2 := k2) ek z hzH.out).out _ (Kp.refl _ _)
      clear HADD X3 HA
      go_wp2_with fail
      refine HL.mono ?_
      rintro e w4 ⟨rfl, z4⟩
      clear HL
      have m4 := m3.trans z4.mv
      obtain ⟨ao5, n5, c5, w5, hrun, hS2, hfz, t5, p5, m5⟩ := z4.1.text (y := A.n) (show A.n < A.n + 1 by omega) s (by omega) (by rw [etx]; show 0 + s.size ≤ _; omega)
      rw [← Ar.raw_tell] at p5
      rw [etl, Ar.tell_new] at p5
      have hfin : Hid (∃ tag', Pa tag' _ b q Z.n Z.raw ∧ Mv tag w tag' _) := ⟨t5, by rw [hZ']; exact p5, m4.trans m5⟩
      have hS0 : (World.drew w4).cell? ⟨b, 0, none⟩ = some (.slice (some ⟨g3, o3, none⟩) (A.n + 1) d3) ∧ (World.drew w4).cell? ⟨g3, o3 + A.n * 11 + 5, none⟩ = some (.slice (pl3 A.n).to (pl3 A.n).tn (pl3 A.n).tc) := ⟨z4.1.head.1, (z4.1.fields (show A.n < A.n + 1 by omega)).2.2.2.2.2⟩
      replace hS2 : w5.cell? ⟨b, 0, none⟩ = some (.slice (some ⟨g3, o3, none⟩) (A.n + 1) d3) ∧ w5.cell? ⟨g3, o3 + A.n * 11 + 5, none⟩ = some (.slice (pl3 A.n).to (pl3 A.n).tn (pl3 A.n).tc) := hS2
      have hy0 : (0 : Int) ≤ (A.n : Int) := by omega
      have hy1 : (A.n : Int) < (A.n : Int) + 1 := by omega
      clear p5 m5 m4 z4 r3 m3 hZ'
      go_wp2_with fail
      refine wp_region_g (S := fun V => V.cell? ⟨b, 0, none⟩ = some (.slice (some ⟨g3, o3, none⟩) (A.n + 1) d3) ∧ V.cell? ⟨g3, o3 + A.n * 11 + 5, none⟩ = some (.slice (pl3 A.n).to (pl3 A.n).tn (pl3 A.n).tc)) (T := [17]) (by kernel_rfl) hS0 (fun hHeld => ?_)
      refine g_pure 0 (oi := ⟨some 47, .move (.tmp 0), 22, "write.go:42", #[], none⟩) (v := ?_) (Or.inl ⟨by rfl, ?_⟩) ?_
      rotate_left
      · (intro w; go_simp; try with_reducible rfl)
      simp only [Act.put, pu1, pu2, pu3]
      refine g_pure 1 (oi := ⟨some 48, .nilCheck (.tmp 47), 0, "write.go:42", #[⟨0, .data⟩], none⟩) (v := ?_) (Or.inl ⟨by rfl, ?_⟩) ?_
      rotate_left
      · (intro w; go_simp; try with_reducible rfl)
      simp only [Act.put, pu1, pu2, pu3]
      refine g_pure 2 (oi := ⟨some 49, .fieldAddr 51 (.tmp 48) 0, 0, "write.go:42", #[⟨1, .data⟩], none⟩) (v := ?_) (Or.inl ⟨by rfl, ?_⟩) ?_
      rotate_left
      · (intro w; go_simp; try with_reducible rfl)
      simp only [Act.put, pu1, pu2, pu3]
      refine g_take 3 (oi := ⟨some 50, .load 49 (.tmp 49), 49, "write.go:42", #[⟨2, .data⟩], none⟩) (v := ?_) (Or.inl ⟨by rfl, ?_⟩) ?_
      rotate_left
      · (intro w hSw; (obtain ⟨q0, q5⟩ := hSw); go_simp; try with_reducible rfl)
      simp only [Act.put, pu1, pu2, pu3]
      refine g_pure 4 (oi := ⟨some 51, .move (.tmp 8), 3, "write.go:42", #[], none⟩) (v := ?_) (Or.inl ⟨by rfl, ?_⟩) ?_
      rotate_left
      · (intro w; go_simp; try with_reducible rfl)
      simp only [Act.put, pu1, pu2, pu3]
      refine g_pure 5 (oi := ⟨some 52, .move (.tmp 0), 22, "write.go:42", #[], none⟩) (v := ?_) (Or.inl ⟨by rfl, ?_⟩) ?_
      rotate_left
      · (intro w; go_simp; try with_reducible rfl)
      simp only [Act.put, pu1, pu2, pu3]
      refine g_pure 6 (oi := ⟨some 53, .nilCheck (.tmp 52), 0, "write.go:42", #[⟨5, .data⟩], none⟩) (v := ?_) (Or.inl ⟨by rfl, ?_⟩) ?_
      rotate_left
      · (intro w; go_simp; try with_reducible rfl)
      simp only [Act.put, pu1, pu2, pu3]
      refine g_pure 7 (oi := ⟨some 54, .fieldAddr 51 (.tmp 53) 0, 0, "write.go:42", #[⟨6, .data⟩], none⟩) (v := ?_) (Or.inl ⟨by rfl, ?_⟩) ?_
      rotate_left
      · (intro w; go_simp; try with_reducible rfl)
      simp only [Act.put, pu1, pu2, pu3]
      refine g_take 8 (oi := ⟨some 55, .load 49 (.tmp 54), 49, "write.go:42", #[⟨7, .data⟩], none⟩) (v := ?_) (Or.inl ⟨by rfl, ?_⟩) ?_
      rotate_left
      · (intro w hSw; (obtain ⟨q0, q5⟩ := hSw); go_simp; try with_reducible rfl)
      simp only [Act.put, pu1, pu2, pu3]
      refine g_pure 9 (oi := ⟨some 56, .move (.tmp 8), 3, "write.go:42", #[], none⟩) (v := ?_) (Or.inl ⟨by rfl, ?_⟩) ?_
      rotate_left
      · (intro w; go_simp; try with_reducible rfl)
      simp only [Act.put, pu1, pu2, pu3]
      refine g_pure 10 (oi := ⟨some 57, .indexAddr 49 (.tmp 55) (.tmp 56), 0, "write.go:42", #[⟨8, .data⟩, ⟨9, .data⟩], none⟩) (v := ?_) (Or.inl ⟨by rfl, ?_⟩) ?_
      rotate_left
      · (intro w; go_simp; try with_reducible rfl)
      simp only [Act.put, pu1, pu2, pu3]
      refine g_pure 11 (oi := ⟨some 58, .fieldAddr 56 (.tmp 57) 5, 0, "write.go:42", #[⟨10, .data⟩], none⟩) (v := ?_) (Or.inl ⟨by rfl, ?_⟩) ?_
      rotate_left
      · (intro w; go_simp; try with_reducible rfl)
      simp only [Act.put, pu1, pu2, pu3]
      refine g_take 12 (oi := ⟨some 59, .load 54 (.tmp 58), 54, "write.go:42", #[⟨11, .data⟩], none⟩) (v := ?_) (Or.inl ⟨by rfl, ?_⟩) ?_
      rotate_left
      · (intro w hSw; (obtain ⟨q0, q5⟩ := hSw); go_simp; try with_reducible rfl)
      simp only [Act.put, pu1, pu2, pu3]
      refine g_pure 13 (oi := ⟨some 60, .move (.tmp 3), 9, "write.go:42", #[], none⟩) (v := ?_) (Or.inl ⟨by rfl, ?_⟩) ?_
      rotate_left
      · (intro w; go_simp; try with_reducible rfl)
      simp only [Act.put, pu1, pu2, pu3]
      refine wpAnyG_ready (rs := [14]) (by kernel_rfl) (by simp) ?_
      refine AllReadyG.cons (o := ⟨some 61, .call { callee := .builtin .append, args := #[.tmp 59, .tmp 60], argTypes := #[54, 9] }, 54, "write.go:42", #[⟨12, .data⟩, ⟨13, .data⟩], none⟩) rfl (fun K hK => ?_) AllReadyG.nil
      refine step_app2 (by rfl) _ _ 54 9 (by rfl) _ _ (by rfl) (by rfl) hrun ?_
      refine hK.out _ _ hS2 (fun hHeld1 => ?_)
      clear hK K hHeld
      try simp only [Act.put, pu1, pu2, pu3]
      refine g_pure 15 (oi := ⟨some 62, .indexAddr 49 (.tmp 50) (.tmp 51), 0, "write.go:42", #[⟨3, .data⟩, ⟨4, .data⟩, ⟨0, .phase⟩, ⟨1, .phase⟩, ⟨2, .phase⟩, ⟨3, .phase⟩, ⟨4, .phase⟩, ⟨5, .phase⟩, ⟨6, .phase⟩, ⟨7, .phase⟩, ⟨8, .phase⟩, ⟨9, .phase⟩, ⟨10, .phase⟩, ⟨11, .phase⟩, ⟨12, .phase⟩, ⟨13, .phase⟩, ⟨14, .phase⟩], none⟩) (v := ?_) (Or.inl ⟨by rfl, ?_⟩) ?_
      rotate_left
      · (intro w; go_simp; try with_reducible rfl)
      simp only [Act.put, pu1, pu2, pu3]
      refine g_pure 16 (oi := ⟨some 63, .fieldAddr 56 (.tmp 62) 5, 0, "write.go:42", #[⟨15, .data⟩, ⟨0, .phase⟩, ⟨1, .phase⟩, ⟨2, .phase⟩, ⟨3, .phase⟩, ⟨4, .phase⟩, ⟨5, .phase⟩, ⟨6, .phase⟩, ⟨7, .phase⟩, ⟨8, .phase⟩, ⟨9, .phase⟩, ⟨10, .phase⟩, ⟨11, .phase⟩, ⟨12, .phase⟩, ⟨13, .phase⟩, ⟨14, .phase⟩], none⟩) (v := ?_) (Or.inl ⟨by rfl, ?_⟩) ?_
      rotate_left
      · (intro w; go_simp; try with_reducible rfl)
      simp only [Act.put, pu1, pu2, pu3]
      refine wpAnyG_free (by kernel_rfl) ?_
      refine wpAny_ready (rs := [17]) (by kernel_rfl) (by simp) ?_
      refine AllReady.cons (o := ⟨none, .store 54 (.tmp 63) (.tmp 61), 0, "write.go:42", #[⟨16, .data⟩, ⟨14, .data⟩, ⟨14, .chain⟩, ⟨0, .phase⟩, ⟨1, .phase⟩, ⟨2, .phase⟩, ⟨3, .phase⟩, ⟨4, .phase⟩, ⟨5, .phase⟩, ⟨6, .phase⟩, ⟨7, .phase⟩, ⟨8, .phase⟩, ⟨9, .phase⟩, ⟨10, .phase⟩, ⟨11, .phase⟩, ⟨12, .phase⟩, ⟨13, .phase⟩, ⟨14, .phase⟩], none⟩) rfl (fun K hK => ?_) AllReady.nil
      obtain ⟨q0, q5⟩ := hS2
      go_simp
      refine hK _ _ ?_
      clear hK K
      try simp only [Act.put, pu1, pu2, pu3]
      refine wpAny_done (by kernel_rfl) ?_ _
      go_wp2
      go_end0
      exact ⟨rfl, hfin.out⟩

end

end Go.Proofs.YtgjkfpmhgidpaaaGreat

/-
  The program's arena: Write, WriteBefore, Make as a whole.
-/
namespace Go.Proofs.YtgjkfpmhgidpaaaGreat
open Go.RowKit Go.Maps Utf
set_option linter.unusedVariables false
set_option linter.unusedSimpArgs false

section
variable {tag : Nat → Nat} {w : World} {b g o c : Nat} {q : Bool} {A : Ar} {pl : Nat → Np}

set_option maxHeartbeats 1000000 in
theorem wr_arena (h : Rw tag w b g o c q A.n A.raw pl) (ok : A.Ok) (hn : A.n < 40000) (z : Int) (s : ByteArray) (hs : s.size ≤ 1000) (htx : ∀ x, (A.lb x).text.size ≤ 900000) :
    Calls Tryz.prog 30 #[.pointer (some ⟨b, 0, none⟩), .int .i64 z, .string s] w fun e w' => e = .returned (.int .i64 (A.wrF z s).2) ∧ ∃ tag', Pa tag' w' b q (A.wrF z s).1.n (A.wrF z s).1.raw ∧ Mv tag w tag' w' := by
  have HH := fun z => has_any h (by omega) z
  obtain ⟨Z, hZ⟩ : ∃ Z, A.wrF z s = Z := ⟨_, rfl⟩
  rw [hZ]
  unfold Ar.wrF at hZ
  have pa0 : ∃ tag', Pa tag' w b q A.n A.raw ∧ Mv tag w tag' w := ⟨tag, ⟨g, o, c, pl, h⟩, Mv.refl tag w⟩
  by_cases hz : A.there z = true
  case neg =>
    have hz : A.there z = false := by simpa using hz
    rw [if_pos hz] at hZ
    subst hZ
    rw [there_dec] at hz
    have pa : Hid _ := pa0
    clear pa0 h
    go_enter Tryz.func30, Tryz.ntmps30
    go_wp2_with (go_at_call 46; refine (HH _).mono ?_; rintro e w9 ⟨rfl, hw⟩; have hw2 := hw.symm; clear hw; subst hw2)
    go_ret
    exact ⟨rfl, pa.out⟩
  rw [if_neg (by simp [hz])] at hZ
  obtain ⟨p, rfl, hpn⟩ := there_nat hz
  rw [Int.toNat_natCast] at hZ
  rw [there_dec] at hz
  have HM := may_any h (by omega) p hpn
  rw [show (A.raw p).lb = A.lb p from rfl] at HM
  cases h1 : Ar.hld (A.lb p) with
  | false =>
    rw [h1] at HM
    rw [if_pos h1] at hZ
    subst hZ
    have pa : Hid _ := pa0
    clear pa0 h
    go_enter Tryz.func30, Tryz.ntmps30
    go_wp2_with (first | (go_at_call 46; refine (HH _).mono ?_; rintro e w9 ⟨rfl, hw⟩; have hw2 := hw.symm; clear hw; subst hw2) | (go_at_call 58; refine (HM).mono ?_; rintro e w9 ⟨rfl, hw⟩; have hw2 := hw.symm; clear hw; subst hw2))
    go_ret
    exact ⟨rfl, pa.out⟩
  | true =>
    rw [h1] at HM
    rw [if_neg (by rw [h1]; simp)] at hZ
    subst hZ
    have HP := put_arena h ok hn p hpn (A.kids p) [] (by rw [List.append_nil]) (-1) rfl s hs htx
    clear pa0 h
    go_enter Tryz.func30, Tryz.ntmps30
    go_wp2_with (first | (go_at_call 46; refine (HH _).mono ?_; rintro e w9 ⟨rfl, hw⟩; have hw2 := hw.symm; clear hw; subst hw2) | (go_at_call 58; refine (HM).mono ?_; rintro e w9 ⟨rfl, hw⟩; have hw2 := hw.symm; clear hw; subst hw2) | (go_at_call 69; refine HP.mono ?_; rintro e w3 ⟨rfl, X3⟩))
    go_ret
    exact ⟨rfl, X3⟩

set_option maxHeartbeats 1000000 in
theorem wb_arena (h : Rw tag w b g o c q A.n A.raw pl) (ok : A.Ok) (hn : A.n < 40000) (z : Int) (s : ByteArray) (hs : s.size ≤ 1000) (htx : ∀ x, (A.lb x).text.size ≤ 900000) :
    Calls Tryz.prog 32 #[.pointer (some ⟨b, 0, none⟩), .int .i64 z, .string s] w fun e w' => e = .returned (.int .i64 (A.wbF z s).2) ∧ ∃ tag', Pa tag' w' b q (A.wbF z s).1.n (A.wbF z s).1.raw ∧ Mv tag w tag' w' := by
  have HH := fun z => has_any h (by omega) z
  obtain ⟨Z, hZ⟩ : ∃ Z, A.wbF z s = Z := ⟨_, rfl⟩
  rw [hZ]
  unfold Ar.wbF at hZ
  have pa0 : ∃ tag', Pa tag' w b q A.n A.raw ∧ Mv tag w tag' w := ⟨tag, ⟨g, o, c, pl, h⟩, Mv.refl tag w⟩
  by_cases hz : A.there z = true
  case neg =>
    have hz : A.there z = false := by simpa using hz
    rw [if_pos hz] at hZ
    subst hZ
    rw [there_dec] at hz
    have pa : Hid _ := pa0
    clear pa0 h
    go_enter Tryz.func32, Tryz.ntmps32
    go_wp2_with (go_at_call 46; refine (HH _).mono ?_; rintro e w9 ⟨rfl, hw⟩; have hw2 := hw.symm; clear hw; subst hw2)
    go_ret
    exact ⟨rfl, pa.out⟩
  rw [if_neg (by simp [hz])] at hZ
  obtain ⟨r, rfl, hpn⟩ := there_nat hz
  rw [Int.toNat_natCast] at hZ
  rw [there_dec] at hz
  have HM := follow_any h (by omega) r hpn
  rw [show (A.raw r).lb = A.lb r from rfl] at HM
  cases hr : A.up r with
  | none =>
    rw [hr] at hZ
    rw [up_eq hr, show (!Ar.fix (A.lb r) && decide ((-1 : Int) ≠ -1)) = false by simp] at HM
    subst hZ
    have pa : Hid _ := pa0
    clear pa0 h
    go_enter Tryz.func32, Tryz.ntmps32
    go_wp2_with (first | (go_at_call 46; refine (HH _).mono ?_; rintro e w9 ⟨rfl, hw⟩; have hw2 := hw.symm; clear hw; subst hw2) | (go_at_call 66; refine (HM).mono ?_; rintro e w9 ⟨rfl, hw⟩; have hw2 := hw.symm; clear hw; subst hw2))
    go_ret
    exact ⟨rfl, pa.out⟩
  | some p =>
  rw [hr] at hZ
  replace hZ : (if Ar.fix (A.lb r) = true then (A, 23) else (A.txt p (A.place p r) s, 0)) = Z := hZ
  cases h1 : Ar.fix (A.lb r) with
  | true =>
    rw [h1, show (!true && decide ((A.raw r).up ≠ -1)) = false from rfl] at HM
    rw [if_pos h1] at hZ
    subst hZ
    have pa : Hid _ := pa0
    clear pa0 h
    go_enter Tryz.func32, Tryz.ntmps32
    go_wp2_with (first | (go_at_call 46; refine (HH _).mono ?_; rintro e w9 ⟨rfl, hw⟩; have hw2 := hw.symm; clear hw; subst hw2) | (go_at_call 66; refine (HM).mono ?_; rintro e w9 ⟨rfl, hw⟩; have hw2 := hw.symm; clear hw; subst hw2))
    go_ret
    exact ⟨rfl, pa.out⟩
  | false =>
    rw [h1, up_some hr, show (!false && decide ((p : Int) ≠ -1)) = true by simp] at HM
    rw [if_neg (by rw [h1]; simp)] at hZ
    subst hZ
    obtain ⟨k1, k2, ek, ek1, _, _⟩ := ok.split hr
    have epl : A.place p r = k1.length := by
      unfold Ar.place
      rw [ek, List.idxOf_append, if_neg ek1, List.idxOf_cons_self]; simp
    rw [epl]
    have HP := put_arena h ok hn p (ok.lt hr).2 k1 (r :: k2) ek (r : Int) rfl s hs htx
    obtain ⟨c0, _⟩ := h.head
    obtain ⟨l1, _⟩ := h.links hpn
    rw [up_some hr] at l1
    have hr0 : (0 : Int) ≤ (r : Int) := by omega
    have hr1 : (r : Int) < (A.n : Int) := by omega
    clear pa0 h ek ek1 epl
    go_enter Tryz.func32, Tryz.ntmps32
    go_wp2_with (first | (go_at_call 46; refine (HH _).mono ?_; rintro e w9 ⟨rfl, hw⟩; have hw2 := hw.symm; clear hw; subst hw2) | (go_at_call 66; refine (HM).mono ?_; rintro e w9 ⟨rfl, hw⟩; have hw2 := hw.symm; clear hw; subst hw2) | (go_at_call 69; refine HP.mono ?_; rintro e w3 ⟨rfl, X3⟩))
    go_ret
    exact ⟨rfl, X3⟩

set_option maxHeartbeats 1000000 in
theorem mk_arena (h : Rw tag w b g o c q A.n A.raw pl) (ok : A.Ok) (hn : A.n < 40000) (kind ns : Int) (name text : ByteArray) (l : List Att) (ao : Option Addr) (n' c' : Nat) (hr : Rp w ao n' c' l) (ha : n' ≤ 10000) (hf : fits l) (h1 : name.size ≤ 1000000) (h2 : text.size ≤ 1000000) :
    Calls Tryz.prog 20 #[.pointer (some ⟨b, 0, none⟩), .int .i64 kind, .int .i64 ns, .string name, .slice ao n' c', .string text] w fun e w' => e = .returned (.tuple #[.int .i64 (A.mkF kind ns name (uniq l) text).2.1, .int .i64 (A.mkF kind ns name (uniq l) text).2.2]) ∧ ∃ tag', Pa tag' w' b q (A.mkF kind ns name (uniq l) text).1.n (A.mkF kind ns name (uniq l) text).1.raw ∧ Mv tag w tag' w' := by
  obtain ⟨Z, hZ⟩ : ∃ Z, A.mkF kind ns name (uniq l) text = Z := ⟨_, rfl⟩
  rw [hZ]
  unfold Ar.mkF at hZ
  have pa0 : ∃ tag', Pa tag' w b q A.n A.raw ∧ Mv tag w tag' w := ⟨tag, ⟨g, o, c, pl, h⟩, Mv.refl tag w⟩
  by_cases hk : kind < 2 ∨ 5 < kind
  · rw [if_pos hk] at hZ
    subst hZ
    have t2 : (kind == 2) = false := beq_false_of_ne (by omega)
    have t3 : (kind == 3) = false := beq_false_of_ne (by omega)
    have t4 : (kind == 4) = false := beq_false_of_ne (by omega)
    have t5 : (kind == 5) = false := beq_false_of_ne (by omega)
    have pa : Hid _ := pa0
    clear pa0 h hk
    go_enter Tryz.func20, Tryz.ntmps20
    go_wp2
    go_ret2
    exact ⟨rfl, pa.out⟩
  rw [if_neg hk] at hZ
  by_cases e3 : kind = 3
  · subst e3
    rw [if_pos rfl] at hZ
    by_cases hbad : (ns ≠ 1 ∧ ns ≠ 2) ∨ name.size = 0
    · rw [if_pos hbad] at hZ
      subst hZ
      have pa : Hid _ := pa0
      rcases hbad with ⟨e1, e2⟩ | e0
      · have t1 : (ns != 1) = true := bne_iff_ne.2 e1
        have t2 : (ns != 2) = true := bne_iff_ne.2 e2
        clear pa0 h hk e1 e2
        go_enter Tryz.func20, Tryz.ntmps20
        go_wp2
        go_ret2
        exact ⟨rfl, pa.out⟩
      · have t9 : name.toList.isEmpty = true := emp_yes e0
        clear pa0 h hk e0
        by_cases e1 : ns = 1
        · subst e1
          go_enter Tryz.func20, Tryz.ntmps20
          go_wp2
          go_ret2
          exact ⟨rfl, pa.out⟩
        · have t1 : (ns != 1) = true := bne_iff_ne.2 e1
          by_cases e2 : ns = 2
          · subst e2
            clear e1 t1
            go_enter Tryz.func20, Tryz.ntmps20
            go_wp2
            go_ret2
            exact ⟨rfl, pa.out⟩
          · have t2 : (ns != 2) = true := bne_iff_ne.2 e2
            clear e1 e2
            go_enter Tryz.func20, Tryz.ntmps20
            go_wp2
            go_ret2
            exact ⟨rfl, pa.out⟩
    · rw [if_neg hbad] at hZ
      have eK : keptL (3, ns, name, l, text) = (3, ns, name, uniq l, ⟨#[]⟩) := rfl
      by_cases ht : tmplF (3, ns, name, uniq l, ⟨#[]⟩) = true
      · rw [if_pos ht] at hZ
        subst hZ
        obtain rfl : ns = 1 := by simp [tmplF, Lb.kind, Lb.ns] at ht; exact ht.1
        have := mk_tmpl h ok hn name text l ao n' c' hr ha hf h1 h2 (by omega) (by rw [eK]; exact ht)
        rw [eK] at this
        exact this
      · rw [if_neg ht] at hZ
        subst hZ
        have := mk_good h ok hn 3 ns name text l ao n' c' hr ha hf h1 h2 (by omega) (by rw [eK]; simpa using ht)
        rw [eK] at this
        exact this
  · rw [if_neg e3] at hZ
    by_cases e2 : kind = 2
    · subst e2
      rw [if_pos rfl] at hZ
      subst hZ
      have eK : keptL (2, ns, name, l, text) = (2, 0, name, [], ⟨#[]⟩) := rfl
      have := mk_good h ok hn 2 ns name text l ao n' c' hr ha hf h1 h2 (by omega) (by rw [eK]; simp [tmplF, Lb.kind])
      rw [eK] at this
      exact this
    · rw [if_neg e2] at hZ
      subst hZ
      have eK : keptL (kind, ns, name, l, text) = (kind, 0, ⟨#[]⟩, [], text) := by
        unfold keptL
        rw [if_neg e3, if_neg e2, if_pos (by show kind = 4 ∨ kind = 5; omega)]
      have := mk_good h ok hn kind ns name text l ao n' c' hr ha hf h1 h2 (by omega) (by rw [eK]; simp [tmplF, Lb.kind]; omega)
      rw [eK] at this
      exact this

end

end Go.Proofs.YtgjkfpmhgidpaaaGreat

/-
  The program's arena: keepNames.
-/
namespace Go.Proofs.YtgjkfpmhgidpaaaGreat
open Go.RowKit Go.Maps Utf
set_option linter.unusedVariables false
set_option linter.unusedSimpArgs false

theorem lawS : Keyed Tryz.prog 9 := string_keyed Tryz.underlying9
theorem zeroE (w : World) : (zeroValue 112).run Tryz.prog w = .ok (.agg #[]) w := by kernel_rfl

theorem hasN_snoc (l : List Att) (a : Att) (x : ByteArray) : hasN (l ++ [a]) x = (hasN l x || eqs a.1 x) := by
  unfold hasN
  rw [getF_append, getF_one]
  cases getF l x with
  | some y => rfl
  | none => cases eqs a.1 x <;> rfl

theorem Nt.look {w : World} {b : Nat} {l : List Att} (h : Nt w b l) (x : ByteArray) (hx : x.size ≤ 140737488355328) : (Instr.lookup 53 (.map (some b)) (.string x) true).run Tryz.prog w = .ok (.tuple #[.agg #[], .bool (hasN l x)]) w := by
  obtain ⟨D, k, h1, h2, h3⟩ := h
  obtain ⟨v, ps, hrun, hv⟩ := h1.look_ok lawS Tryz.underlying53 (zeroE w) unitElem_mk (key_of hx)
  obtain ⟨rfl, _⟩ := unitElem_inv hv
  rw [h3 x] at hrun
  exact hrun

theorem Nt.put {w : World} {b : Nat} {l : List Att} (h : Nt w b l) (a : Att) (hx : a.1.size ≤ 140737488355328) (hl : l.length < 100000) : ∃ w', (Instr.mapUpdate 53 (.map (some b)) (.string a.1) (.agg #[])).run Tryz.prog w = .ok () w' ∧ Nt w' b (l ++ [a]) ∧ Kp [b] w w' := by
  obtain ⟨D, k, h1, h2, h3⟩ := h
  obtain ⟨w', hrun, r1, r2⟩ := h1.update lawS Tryz.underlying53 (by unfold maxLen; omega) (key_of hx) (unitElem_mk (H := Unit))
  refine ⟨w', hrun, ⟨_, k + 1, r1, by rw [List.length_append]; simp; exact h2, fun x => ?_⟩, kp_grown r2⟩
  rw [hasN_snoc]
  cases he : eqs a.1 x
  · have hne : kl x ≠ kl a.1 := fun e => by rw [kl_inj e, eqs_refl] at he; cases he
    rw [Maps.has_put_other hne, h3 x, Bool.or_false]
  · obtain rfl := eqs_iff.1 he
    rw [Maps.has_put_same (h1.tidy lawS).isMap (kl_key a.1), Bool.or_true]

theorem nt_new (w : World) : Nt (w.alloc (.map #[] 0)) w.heap.size [] := ⟨.map [], 0, World.ownsMap_made w Tryz.prog 9 _, Nat.le_refl _, fun x => rfl⟩

theorem make_names (w : World) (n : Nat) : (Instr.makeMap 53 (some (.int .i64 (n : Int)))).run Tryz.prog w = .ok (.map (some w.heap.size)) (w.alloc (.map #[] 0)) := by
  simp [Instr.makeMap, run_underlying Tryz.underlying53, asInt, asIntOf, newObj]
  rfl

/-- A store into a map, whose run is known, as one step of a region that draws its order. -/
theorem step_updR {P : Program} {ops : Array Oper} {o : Oper} {a : Act} {w w' : World} {K : Act → World → Prop} {Q : Exit → Act → World → Prop} {E : Prop}
    (hg : o.guard = none) (m x v : Operand) (t : TypeId) (hop : o.op = Op.mapUpdate t m x v) (M X V : Value) (hm : a.eval m = M) (hx : a.eval x = X) (hv : a.eval v = V) (hrun : (Instr.mapUpdate t M X V).run P w = .ok () w') (hK : K (a.put o.dst undef) w') :
    if Region.wanted o (yielded ops a.tmps) = true then Oper.wp P o a w K Q else E := by
  have hw : Region.wanted o (yielded ops a.tmps) = true := by simp [Region.wanted, hg]
  rw [if_pos hw]
  unfold Oper.wp
  simp [execOp, hop, hm, hx, hv, hrun, Result.andThen]
  exact hK

section
variable {tag : Nat → Nat} {w : World} {b g o c : Nat} {q : Bool} {n : Nat} {N : Nat → Pn} {pl : Nat → Np}

/-- One node's own lists have turned, and one of its cells was written. -/
theorem Rw.turnF {tag' : Nat → Nat} {S : List Nat} {wf : World} {N' : Nat → Pn} {pl' : Nat → Np} (h : Rw tag w b g o c q n N pl) {i k : Nat} (hi : i < n) (hk : k < 11) (u : Value) (kk : Kp (g :: S) w wf) (hS : ∀ x, x ∈ S → x < w.heap.size → tag x = 8 + 3 * i ∨ tag x = 9 + 3 * i ∨ tag x = 10 + 3 * i) (ht : ∀ x, x < w.heap.size → tag' x = tag x)
    (hcur : ∀ cur, At w g cur 56 → At wf g (cur.setIfInBounds (o + i * 11 + k) u) 56)
    (he : el (N' i) (pl' i) = (el (N i) (pl i)).set k u) (hN : ∀ j, j < n → j ≠ i → N' j = N j ∧ pl' j = pl j) (hs : Sd tag' wf i (N' i).lb (pl' i)) :
    Rw tag' wf b g o c q n N' pl' ∧ Mv tag w tag' wf := by
  have hne := h.ne
  have hlt := h.lt
  obtain ⟨cur, h1, h2, h3⟩ := h.body
  have hbS : b ∉ g :: S := fun hx => by
    rcases List.mem_cons.1 hx with e | hx
    · exact hne e
    · have := hS b hx hlt.1; rw [h.tb] at this; omega
  refine ⟨⟨h.hd.kept kk hbS, by rw [ht b hlt.1]; exact h.tb, h.cap, h.max, ⟨_, hcur cur h1, by simpa using h2, fun j hj l hl => ?_⟩, by rw [ht g hlt.2]; exact h.tg, fun j hj => ?_⟩, ?_⟩
  · rw [Array.getElem?_setIfInBounds]
    have hcap := h.cap
    have hm : i * 11 + 11 ≤ c * 11 := by omega
    by_cases hjl : o + i * 11 + k = o + j * 11 + l
    · obtain ⟨rfl, rfl⟩ := (idx11 (i := i) (j := j) hk hl).1 (by omega)
      rw [if_pos rfl, if_pos (by omega), he, List.getElem?_set_self (by rw [el_len]; exact hk)]
    · rw [if_neg hjl]
      by_cases hji : j = i
      · subst hji
        rw [he, List.getElem?_set_ne (fun e => hjl (by rw [e])), h3 j hj l hl]
      · rw [(hN j hj hji).1, (hN j hj hji).2, h3 j hj l hl]
  · by_cases hji : j = i
    · subst hji; exact hs
    · rw [(hN j hj hji).1, (hN j hj hji).2]
      refine (h.side j hj).keep kk (fun x hx hxl => ?_) ht
      rcases List.mem_cons.1 hx with rfl | hx
      · rw [h.tg]; omega
      · have := hS x hx hxl; omega
  · refine Mv.of_kp kk (fun x hx hxl => ?_) ht
    rcases List.mem_cons.1 hx with rfl | hx
    · exact .inr (.inl h.tg)
    · have := hS x hx hxl; exact .inr (.inr (by omega))

/-- pl with a table for node i. -/
def nmP (pl : Nat → Np) (i mb : Nat) : Nat → Np := fun j => if j = i then ⟨(pl i).ao, (pl i).an, (pl i).ac, some mb, (pl i).to, (pl i).tn, (pl i).tc⟩ else pl j

theorem Sd.alen {tag : Nat → Nat} {w : World} {i : Nat} {l : Lb} {p : Np} (h : Sd tag w i l p) : p.an = l.attrs.length := by
  have := h.at'.1
  rw [cs_len] at this
  omega

set_option maxRecDepth 100000 in
set_option maxHeartbeats 1000000 in
theorem keep_any (h : Rw tag w b g o c q n N pl) (hn : n < 100000) {i : Nat} (hi : i < n) (hl : (N i).lb.attrs.length ≤ 20000) (hf : fits (N i).lb.attrs) :
    Calls Tryz.prog 71 #[.pointer (some ⟨g, o + i * 11, none⟩)] w fun e w' => e = .returned (.tuple #[]) ∧ ∃ tag' mb, Rw tag' w' b g o c q n N (nmP pl i mb) ∧ Mv tag w tag' w' := by
  obtain ⟨_, _, _, c3, c4, _⟩ := h.fields hi
  have sd := h.side i hi
  have hal := sd.alen
  obtain ⟨nm, hnm⟩ : ∃ nm, (pl i).nm = nm := ⟨_, rfl⟩
  rw [hnm] at c4
  cases nm with
  | some mb =>
    have e : nmP pl i mb = pl := by
      funext j
      unfold nmP
      by_cases hj : j = i
      · subst hj
        rw [if_pos rfl, ← hnm]
      · rw [if_neg hj]
    have X : Hid (∃ tag' mb, Rw tag' w b g o c q n N (nmP pl i mb) ∧ Mv tag w tag' w) := ⟨tag, mb, by rw [e]; exact h, Mv.refl _ _⟩
    have hneq : (binOp .neq 53 (.map (some mb)) (.map none)).run Tryz.prog w = .ok (.bool true) w := run_neq_map_nil w 53 9 112 (some mb) Tryz.underlying53
    clear h sd e
    go_enter Tryz.func71, Tryz.ntmps71
    go_wp2
    (try simp only [Exit.inBlock, Exit.then]); refine bodyPost_ret (results_none rfl _ _ _) rfl ?_
    exact ⟨rfl, X.out⟩
  | none =>
    have hmk := make_names w (pl i).an
    have hneq : (binOp .neq 53 (.map none) (.map none)).run Tryz.prog w = .ok (.bool false) w := run_neq_map_nil w 53 9 112 none Tryz.underlying53
    have hsl := h.lt
    have fr := h.free (o + i * 11 + 4)
    obtain ⟨cur, h1, h2, h3⟩ := h.body
    obtain ⟨B, hB⟩ : ∃ B, B = (w.setCell ⟨g, o + i * 11 + 4, none⟩ (.map (some w.heap.size))).alloc (.map #[] 0) := ⟨_, rfl⟩
    have kB : Kp [g] w B := by rw [hB]; exact ((Kp.refl _ _).setCell (Or.inl (by simp)) _).alloc _
    have hcB : At B g (cur.setIfInBounds (o + i * 11 + 4) (.map (some w.heap.size))) 56 := by rw [hB]; exact (h1.set _ _).kept ((Kp.refl [] _).alloc _) (by simp)
    have NB : Nt B w.heap.size [] := by
      have e := nt_new (w.setCell ⟨g, o + i * 11 + 4, none⟩ (.map (some w.heap.size)))
      rw [show (w.setCell ⟨g, o + i * 11 + 4, none⟩ (.map (some w.heap.size))).heap.size = w.heap.size by simp [World.setCell]] at e
      rw [hB]; exact e
    have hgx : g < w.heap.size := hsl.2
    have hcell : ∀ k, k < 11 → (cur.setIfInBounds (o + i * 11 + 4) (.map (some w.heap.size)))[o + i * 11 + k]? = ((el (N i) (pl i)).set 4 (.map (some w.heap.size)))[k]? := fun k hk => by
      rw [Array.getElem?_setIfInBounds]
      have := h.cap
      by_cases e : k = 4
      · subst e; rw [if_pos rfl, if_pos (by omega)]; rfl
      · rw [if_neg (by omega), h3 i hi k hk, List.getElem?_set_ne (by omega)]
    have HC : Hid (∀ V, Kp [w.heap.size] B V → V.cell? ⟨g, o + i * 11 + 3, none⟩ = some (.slice (pl i).ao (pl i).an (pl i).ac) ∧ V.cell? ⟨g, o + i * 11 + 4, none⟩ = some (.map (some w.heap.size)) ∧ Rp V (pl i).ao (pl i).an (pl i).ac (N i).lb.attrs) := fun V kV => by
      have hcV := hcB.kept kV (by simp; omega)
      refine ⟨(hcV.cell _).trans (hcell 3 (by omega)), (hcV.cell _).trans (hcell 4 (by omega)), Rp.of_own (e := 30) (m := (pl i).an) ?_⟩
      refine (sd.at'.keep kB (fun x hx hs => ?_)).keep kV (fun x hx hs => ?_)
      · have := sd.atT x hx; rw [List.mem_singleton.1 hs, h.tg] at this; omega
      · have := sd.at'.lt x hx; rw [List.mem_singleton.1 hs] at this; omega
    have HF : Hid (∀ V, Kp [w.heap.size] B V → Nt V w.heap.size (N i).lb.attrs → ∃ tag' mb, Rw tag' V b g o c q n N (nmP pl i mb) ∧ Mv tag w tag' V) := fun V kV hV => by
      obtain ⟨T, hT⟩ : ∃ T : Nat → Nat, T = fun x => if x < w.heap.size then tag x else 9 + 3 * i := ⟨_, rfl⟩
      have T0 : ∀ x, x < w.heap.size → T x = tag x := fun x hx => by rw [hT]; simp only [if_pos hx]
      have kwV : Kp [g] w V := kB.trans kV (fun x hx => Or.inr (by simp at hx; omega))
      obtain ⟨r1, m1⟩ := h.turnF (tag' := T) (S := []) (wf := V) (N' := N) (pl' := nmP pl i w.heap.size) (k := 4) hi (by omega) (.map (some w.heap.size)) kwV (fun x hx => by simp at hx) T0
        (fun cur' hc' => by
          have e : cur' = cur := by
            unfold At at h1 hc'
            rw [h1] at hc'
            simp only [Option.some.injEq, Obj.cells.injEq, and_true] at hc'
            exact hc'.symm
          rw [e]
          exact hcB.kept kV (by simp; omega)) (by simp [nmP, el]) (fun j _ hj => ⟨rfl, by simp [nmP, hj]⟩) (by
          unfold nmP
          rw [if_pos rfl]
          have s2 := sd.keep (tag' := T) kwV (fun x hx _ => by rw [List.mem_singleton.1 hx, h.tg]; omega) T0
          refine ⟨s2.at', s2.atT, s2.tx, s2.txT, fun z hz => ?_⟩
          obtain rfl : w.heap.size = z := by simpa using hz
          exact ⟨hV, by rw [hT]; simp only [if_neg (Nat.lt_irrefl _)]⟩)
      exact ⟨T, w.heap.size, r1, m1⟩
    have HB : Hid ((w.setCell ⟨g, o + i * 11 + 4, none⟩ (.map (some w.heap.size))).alloc (.map #[] 0) = B) := hB.symm
    have hsB : w.heap.size < B.heap.size := NB.lt
    generalize (N i).lb.attrs = l at HC HF hl hf hal
    clear h sd hB kB hcB hcell h1 h2 h3 hnm
    generalize (pl i).ao = ao at c3 HC
    generalize (pl i).an = an at c3 HC hal hmk
    generalize (pl i).ac = ac at c3 HC
    subst hal
    go_enter Tryz.func71, Tryz.ntmps71
    go_upto_region 2 with fail
    rw [HB.out]
    clear hmk HB fr c3 c4 hneq
    obtain ⟨d3, d4, _⟩ := HC.out B (Kp.refl _ _)
    go_wp2_with fail
    go_loopw [3, 23] (fun _ k wr => ∃ j : Nat, j ≤ l.length ∧ k = .int .i64 (j : Int) ∧ Kp [w.heap.size] B wr ∧ Nt wr w.heap.size (l.take j)) (fun _ k _ => l.length - (intOf k).toNat)
    case atStart => exact ⟨0, Nat.zero_le _, rfl, Kp.refl _ _, NB⟩
    case round =>
      obtain ⟨j, hj, rfl, kr, nr⟩ := hrel
      clear d3 d4 NB
      by_cases hlt : j < l.length
      · obtain ⟨d3, d4, hr⟩ := HC.out wr kr
        obtain ⟨b1, o1, rfl, g1, g2⟩ := hr.get j hlt
        have hts := take_snoc hlt
        have hfa := (hf l[j] (List.getElem_mem hlt)).1
        have hj0 : (0 : Int) ≤ (j : Int) := by omega
        have hj1 : (j : Int) < (l.length : Int) := by omega
        have hb1 := hr.len
        generalize l[j] = a at g1 g2 hts hfa
        have hbw : b1 < wr.heap.size := block_lt_of_cell g1
        have kA : Kp [] wr (wr.alloc (.cells #[.string a.1, .string a.2] 30)).drew := ((Kp.refl _ _).alloc _).drew
        have nA : Nt (wr.alloc (.cells #[.string a.1, .string a.2] 30)).drew w.heap.size (l.take j) := nr.same (kA.block _ nr.lt (by simp))
        obtain ⟨w3, hrun, n3, k3⟩ := nA.put a hfa (by rw [List.length_take]; omega)
        rw [← hts] at n3
        have K3 : Hid (Kp [w.heap.size] B w3) := (kr.trans kA (fun x hx => by simp at hx)).trans k3 (fun x hx => Or.inl hx)
        have hgm := nr.lt
        have hS0 : ((wr.alloc (.cells #[.string a.1, .string a.2] 30)).drew).cell? ⟨g, o + i * 11 + 4, none⟩ = some (.map (some w.heap.size)) ∧ ((wr.alloc (.cells #[.string a.1, .string a.2] 30)).drew).cell? ⟨wr.heap.size, 0, none⟩ = some (.string a.1) := by
          refine ⟨((HC.out _ (kr.trans kA (fun x hx => by simp at hx))).2.1), ?_⟩
          exact (At.new wr #[.string a.1, .string a.2] 30).cell 0
        clear kr nr hr hb1 kA nA k3 HC
        go_wp2_with fail
        refine wp_region_g (S := fun V => V.cell? ⟨g, o + i * 11 + 4, none⟩ = some (.map (some w.heap.size)) ∧ V.cell? ⟨wr.heap.size, 0, none⟩ = some (.string a.1)) (T := [7]) (by kernel_rfl) hS0 (fun hHeld => ?_)
        refine g_pure 0 (oi := ⟨some 27, .move (.tmp 0), 111, "write.go:71", #[], none⟩) (v := ?_) (Or.inl ⟨by rfl, ?_⟩) ?_
        rotate_left
        · (intro w; go_simp; try with_reducible rfl)
        simp only [Act.put, pu1, pu2, pu3]
        refine g_pure 1 (oi := ⟨some 28, .nilCheck (.tmp 27), 0, "write.go:71", #[⟨0, .data⟩], none⟩) (v := ?_) (Or.inl ⟨by rfl, ?_⟩) ?_
        rotate_left
        · (intro w; go_simp; try with_reducible rfl)
        simp only [Act.put, pu1, pu2, pu3]
        refine g_pure 2 (oi := ⟨some 29, .fieldAddr 56 (.tmp 28) 4, 0, "write.go:71", #[⟨1, .data⟩], none⟩) (v := ?_) (Or.inl ⟨by rfl, ?_⟩) ?_
        rotate_left
        · (intro w; go_simp; try with_reducible rfl)
        simp only [Act.put, pu1, pu2, pu3]
        refine g_take 3 (oi := ⟨some 30, .load 53 (.tmp 29), 53, "write.go:71", #[⟨2, .data⟩], none⟩) (v := ?_) (Or.inl ⟨by rfl, ?_⟩) ?_
        rotate_left
        · (intro w hSw; (obtain ⟨q0, q1⟩ := hSw); go_simp; try with_reducible rfl)
        simp only [Act.put, pu1, pu2, pu3]
        refine g_pure 4 (oi := ⟨some 31, .fieldAddr 30 (.tmp 3) 0, 0, "write.go:71", #[], none⟩) (v := ?_) (Or.inl ⟨by rfl, ?_⟩) ?_
        rotate_left
        · (intro w; go_simp; try with_reducible rfl)
        simp only [Act.put, pu1, pu2, pu3]
        refine g_take 5 (oi := ⟨some 32, .load 9 (.tmp 31), 9, "write.go:71", #[⟨4, .data⟩], none⟩) (v := ?_) (Or.inl ⟨by rfl, ?_⟩) ?_
        rotate_left
        · (intro w hSw; (obtain ⟨q0, q1⟩ := hSw); go_simp; try with_reducible rfl)
        simp only [Act.put, pu1, pu2, pu3]
        refine g_pure 6 (oi := ⟨some 33, .build 112 #[], 112, "write.go:71", #[], none⟩) (v := ?_) (Or.inl ⟨by rfl, ?_⟩) ?_
        rotate_left
        · (intro w; go_simp; try with_reducible rfl)
        simp only [Act.put, pu1, pu2, pu3]
        refine wpAnyG_free (by kernel_rfl) ?_
        refine wpAny_ready (rs := [7]) (by kernel_rfl) (by simp) ?_
        refine AllReady.cons (o := ⟨none, .mapUpdate 53 (.tmp 30) (.tmp 32) (.tmp 33), 0, "write.go:71", #[⟨3, .data⟩, ⟨5, .data⟩, ⟨6, .data⟩, ⟨0, .phase⟩, ⟨1, .phase⟩, ⟨2, .phase⟩, ⟨3, .phase⟩, ⟨4, .phase⟩, ⟨5, .phase⟩, ⟨6, .phase⟩], none⟩) rfl (fun K hK => ?_) AllReady.nil
        refine step_updR (by rfl) _ _ _ 53 (by rfl) _ _ _ (by rfl) (by rfl) (by rfl) hrun ?_
        refine hK _ _ ?_
        clear hK K
        try simp only [Act.put, pu1, pu2, pu3]
        refine wpAny_done (by kernel_rfl) ?_ _
        go_wp2
        go_roundw
        case rel => exact ⟨j + 1, by omega, by go_num, K3.out, n3⟩
        case measure => simp [intOf]; omega
      · obtain rfl : j = l.length := by omega
        rw [List.take_length] at nr
        have X := HF.out _ kr nr
        have X2 : Hid _ := X
        clear X HF HC kr nr
        go_wp2
        go_end0
        exact ⟨rfl, X2.out⟩

end

end Go.Proofs.YtgjkfpmhgidpaaaGreat

/-
  The program's arena: More.
-/
namespace Go.Proofs.YtgjkfpmhgidpaaaGreat
open Go.RowKit Go.Maps Utf
set_option linter.unusedVariables false
set_option linter.unusedSimpArgs false

/-- Blocks that are not the program's arena's. -/
def Qp (tag : Nat → Nat) (x : Nat) : Prop := ¬ isP (tag x)

theorem Mv.sm {tag tag' : Nat → Nat} {w w' : World} (m : Mv tag w tag' w') : Sm (Qp tag) w w' := fun x hq hx => m.block x hx hq
theorem Mv.rk {tag tag' : Nat → Nat} {w w' : World} {K : Nat} {ao : Option Addr} {n c : Nat} {xs : List Value} (m : Mv tag w tag' w') (h : Rk (Qp tag) K w ao n c xs) : Rk (Qp tag') K w' ao n c xs := by
  refine ⟨h.len, h.cap, fun hn => ?_⟩
  obtain ⟨b, off, cur, e, hq, h1, h2, h3⟩ := h.at' hn
  have hl := lt_of h2
  exact ⟨b, off, cur, e, by unfold Qp at hq ⊢; rw [m.tg b hl]; exact hq, h1, by rw [m.block b hl hq]; exact h2, h3⟩

/-- A label with other attributes. -/
def attL (l : Lb) (x : List Att) : Lb := (l.kind, l.ns, l.name, x, l.text)

section
variable {tag : Nat → Nat} {w : World} {b g o c : Nat} {q : Bool} {n : Nat} {N : Nat → Pn} {pl : Nat → Np}

set_option maxRecDepth 100000 in
set_option maxHeartbeats 1000000 in
/-- The loop of More: an element's attributes grow by those of u whose names it has not. -/
theorem mor_step (h : Rw tag w b g o c q n N pl) {i mb : Nat} (hi : i < n) (hm : (pl i).nm = some mb) (a : Att) (hfa : a.1.size ≤ 140737488355328) (hl : (N i).lb.attrs.length < 50000) (hN : hasN (N i).lb.attrs a.1 = false) {w1 : World} (k1 : Kp [] w w1) :
    ∃ w2, (Instr.mapUpdate 53 (.map (some mb)) (.string a.1) (.agg #[])).run Tryz.prog w1 = .ok () w2 ∧ (w2.cell? ⟨g, o + i * 11 + 3, none⟩ = some (.slice (pl i).ao (pl i).an (pl i).ac)) ∧ Kp [mb] w1 w2 ∧ mb < w.heap.size ∧ g ≠ mb ∧
      ∀ w3, Kp [] w2 w3 → ∃ ao' n' c' w4, (∀ ty, (Builtin.append_ #[26, 26] ty #[.slice (pl i).ao (pl i).an (pl i).ac, .slice (some ⟨w3.heap.size, 0, none⟩) 1 1]).run Tryz.prog (w3.alloc (.cells #[.string a.1, .string a.2] 30)) = .ok (.slice ao' n' c') w4) ∧ (w4.cell? ⟨g, o + i * 11 + 3, none⟩ = some (.slice (pl i).ao (pl i).an (pl i).ac)) ∧ (w4.frozen? ⟨g, o + i * 11 + 3, none⟩ = false) ∧ (∀ x, w.heap.size ≤ x → x < w3.heap.size → w4.heap[x]? = w3.heap[x]?) ∧
        ∃ tag' pl', Rw tag' (w4.setCell ⟨g, o + i * 11 + 3, none⟩ (.slice ao' n' c')) b g o c q n (sLb N i (attL (N i).lb ((N i).lb.attrs ++ [a]))) pl' ∧ Mv tag w tag' (w4.setCell ⟨g, o + i * 11 + 3, none⟩ (.slice ao' n' c')) ∧ (pl' i).nm = some mb := by
  have sd := h.side i hi
  obtain ⟨hnt, htg⟩ := sd.nm mb hm
  have hmb := hnt.lt
  have hlt := h.lt
  have hgm : g ≠ mb := fun e => by rw [← e, h.tg] at htg; omega
  obtain ⟨w2, hrun, n2, k2⟩ := (hnt.same (k1.block mb hmb (by simp))).put a hfa (by omega)
  obtain ⟨cur, h1, h2, h3⟩ := h.body
  have hg2 : At w2 g cur 56 := (h1.kept k1 (by simp)).kept k2 (by simpa using hgm)
  have kw2 : Kp [mb] w w2 := (k1.mono (T := [mb]) (fun x hx => by simp at hx)).trans k2 (fun x hx => Or.inl hx)
  have at2 : OwnK 2 w2 30 (.slice (pl i).ao (pl i).an (pl i).ac) (pl i).an (cs (N i).lb.attrs) := sd.at'.keep kw2 (fun x hx hs => by
    have := sd.atT x hx; rw [List.mem_singleton.1 hs, htg] at this; omega)
  have hal := sd.alen
  refine ⟨w2, hrun, by rw [hg2.cell]; exact h3 i hi 3 (by omega), k2, hmb, hgm, fun w3 k3 => ?_⟩
  have at3 := at2.keep k3 (fun _ _ => by simp)
  have ka : Kp [] w3 (w3.alloc (.cells #[.string a.1, .string a.2] 30)) := (Kp.refl _ _).alloc _
  have hr := (rp_lit w3 #[.string a.1, .string a.2] [a] 1 rfl rfl (by omega)).rp
  obtain ⟨v', w4, hrun4, o4, k4, b4, a4, c4, rfl⟩ := appK Tryz.underlying26 info23 rfl (by decide) _ _ _ _ (at3.keep ka (fun _ _ => by simp)) _ 1 (cs [a]) (hr.src Tryz.underlying26) (fun _ => by omega) (by omega)
  have hbg : g ∉ blk (.slice (pl i).ao (pl i).an (pl i).ac) := fun hx => by have := sd.atT g hx; rw [h.tg] at this; omega
  have kw4 : Kp (mb :: blk (.slice (pl i).ao (pl i).an (pl i).ac)) w w4 := by
    refine ((kw2.mono (fun x hx => Or.inl (by rw [List.mem_singleton.1 hx]; simp))).trans (T := []) (k3.trans ka (fun x hx => Or.inl hx)) (fun x hx => by simp at hx)).trans k4 (fun x hx => Or.inl (List.mem_cons_of_mem _ hx))
  have hg4 : At w4 g cur 56 := ((hg2.kept k3 (by simp)).kept ka (by simp)).kept k4 hbg
  have hsz3 : w.heap.size ≤ w3.heap.size := Nat.le_trans kw2.size k3.size
  obtain ⟨T, hT⟩ : ∃ T : Nat → Nat, T = fun x => if x < w.heap.size then tag x else 8 + 3 * i := ⟨_, rfl⟩
  have T0 : ∀ x, x < w.heap.size → T x = tag x := fun x hx => by rw [hT]; simp only [if_pos hx]
  have hb4 : ∀ x, x ∈ blk (Value.slice (some a4) ((pl i).an + 1) c4) → T x = 8 + 3 * i ∧ (x ∈ blk (.slice (pl i).ao (pl i).an (pl i).ac) ∨ w.heap.size ≤ x) := fun x hx => by
    rcases b4 x hx with h5 | h5
    · exact ⟨by rw [T0 x (sd.at'.lt x h5)]; exact sd.atT x h5, .inl h5⟩
    · have hx2 : w.heap.size ≤ x := by rw [h5]; simp; omega
      exact ⟨by rw [hT]; simp only [if_neg (show ¬ x < w.heap.size by omega)], .inr hx2⟩
  have n4 : Nt w4 mb ((N i).lb.attrs ++ [a]) := by
    refine n2.same ?_
    have e1 : w4.heap[mb]? = (w3.alloc (.cells #[.string a.1, .string a.2] 30)).heap[mb]? := k4.block mb (by have := kw2.size; have := k3.size; simp; omega) (fun hx => by have := sd.atT mb hx; omega)
    rw [e1, ka.block mb (by have := kw2.size; have := k3.size; omega) (by simp), k3.block mb (by have := kw2.size; omega) (by simp)]
  have sd4 : Sd T w4 i (attL (N i).lb ((N i).lb.attrs ++ [a])) ⟨some a4, (pl i).an + 1, c4, some mb, (pl i).to, (pl i).tn, (pl i).tc⟩ := by
    refine ⟨by rw [show (attL (N i).lb ((N i).lb.attrs ++ [a])).attrs = (N i).lb.attrs ++ [a] from rfl, cs_append]; exact o4, fun x hx => (hb4 x hx).1, sd.tx.keep kw4 (fun x hx hs => ?_), fun x hx => by rw [T0 x (sd.tx.lt x hx)]; exact sd.txT x hx, fun z hz => ?_⟩
    · have := sd.txT x hx
      rcases List.mem_cons.1 hs with rfl | hs
      · omega
      · have := sd.atT x hs; omega
    · obtain rfl : mb = z := by simpa using hz
      exact ⟨n4, by rw [T0 mb hmb]; exact htg⟩
  obtain ⟨r5, m5⟩ := h.turn (tag' := T) (N' := sLb N i (attL (N i).lb ((N i).lb.attrs ++ [a]))) (pl' := fun j => if j = i then ⟨some a4, (pl i).an + 1, c4, some mb, (pl i).to, (pl i).tn, (pl i).tc⟩ else pl j) (k := 3) hi (by omega) (.slice (some a4) ((pl i).an + 1) c4) kw4
    (fun x hx _ => by
      rcases List.mem_cons.1 hx with rfl | hx
      · exact .inr (.inl htg)
      · exact .inl (sd.atT x hx)) T0 (by simp [sLb, el, attL, hm]) (fun j _ hj => ⟨by simp [sLb, hj], by simp [hj]⟩) (by simp only [sLb, if_pos]; exact sd4)
  exact ⟨_, _, _, w4, hrun4, by rw [hg4.cell]; exact h3 i hi 3 (by omega), hg4.free _, fun x hx1 hx2 => (k4.block x (by simp; omega) (fun hm => by have := sd.at'.lt x hm; omega)).trans (ka.block x hx2 (by simp)), T, _, r5, m5, by simp⟩

end

section
variable {tag : Nat → Nat} {w : World} {b g o c : Nat} {q : Bool} {A : Ar} {pl : Nat → Np}

theorem sLb_self (N : Nat → Pn) (i : Nat) : sLb N i (N i).lb = N := by
  funext j
  unfold sLb
  by_cases hj : j = i
  · subst hj; rw [if_pos rfl]
  · rw [if_neg hj]
theorem sLb_twice (N : Nat → Pn) (i : Nat) (x y : Lb) : sLb (sLb N i x) i y = sLb N i y := by
  funext j
  unfold sLb
  by_cases hj : j = i
  · subst hj; simp
  · simp [hj]

set_option maxRecDepth 100000 in
set_option maxHeartbeats 2000000 in
theorem mor_arena (h : Rw tag w b g o c q A.n A.raw pl) (hn : A.n < 40000) (z : Int) (l : List Att) (ao : Option Addr) (n' c' : Nat) (hr : Rk (Qp tag) 2 w ao n' c' (cs l)) (ha : n' ≤ 10000) (hf : fits l) (hat : ∀ x, (A.lb x).attrs.length ≤ 20000 ∧ fits (A.lb x).attrs) :
    Calls Tryz.prog 34 #[.pointer (some ⟨b, 0, none⟩), .int .i64 z, .slice ao n' c'] w fun e w' => e = .returned (.int .i64 (A.morF z (fun x => more x l)).2) ∧ ∃ tag', Pa tag' w' b q (A.morF z (fun x => more x l)).1.n (A.morF z (fun x => more x l)).1.raw ∧ Mv tag w tag' w' := by
  have HH := fun z => has_any h (by omega) z
  obtain ⟨Z, hZ⟩ : ∃ Z, A.morF z (fun x => more x l) = Z := ⟨_, rfl⟩
  rw [hZ]
  unfold Ar.morF at hZ
  have pa0 : ∃ tag', Pa tag' w b q A.n A.raw ∧ Mv tag w tag' w := ⟨tag, ⟨g, o, c, pl, h⟩, Mv.refl tag w⟩
  by_cases hz : A.there z = true
  case neg =>
    have hz : A.there z = false := by simpa using hz
    rw [if_pos hz] at hZ
    subst hZ
    rw [there_dec] at hz
    have pa : Hid _ := pa0
    clear pa0 h hr
    go_enter Tryz.func34, Tryz.ntmps34
    go_wp2_with (go_at_call 46; refine (HH _).mono ?_; rintro e w9 ⟨rfl, hw⟩; have hw2 := hw.symm; clear hw; subst hw2)
    go_ret
    exact ⟨rfl, pa.out⟩
  rw [if_neg (by simp [hz])] at hZ
  obtain ⟨i, rfl, hi⟩ := there_nat hz
  rw [Int.toNat_natCast] at hZ
  rw [there_dec] at hz
  obtain ⟨c0, _⟩ := h.head
  obtain ⟨f1, _⟩ := h.fields hi
  rw [show (A.raw i).lb = A.lb i from rfl] at f1
  have hi0 : (0 : Int) ≤ (i : Int) := by omega
  have hi1 : (i : Int) < (A.n : Int) := by omega
  by_cases hk : (A.lb i).kind = 3
  case neg =>
    rw [if_pos hk] at hZ
    subst hZ
    have t3 : ((A.lb i).kind != 3) = true := bne_iff_ne.2 hk
    generalize (A.lb i).kind = k at f1 t3
    have pa : Hid _ := pa0
    clear pa0 h hr hk
    go_enter Tryz.func34, Tryz.ntmps34
    go_wp2_with (go_at_call 46; refine (HH _).mono ?_; rintro e w9 ⟨rfl, hw⟩; have hw2 := hw.symm; clear hw; subst hw2)
    go_ret
    exact ⟨rfl, pa.out⟩
  rw [if_neg (by simpa using hk)] at hZ
  subst hZ
  rw [hk] at f1
  have HK := keep_any h (by omega) hi (hat i).1 (hat i).2
  have HU : Hid (∀ tag1 w1, Mv tag w tag1 w1 → Calls Tryz.prog 72 #[.slice ao n' c'] w1 fun e w' => ∃ ao' n' c', e = .returned (.slice ao' n' c') ∧ Mp w1 w' ao' n' c' (uniq l)) := fun tag1 w1 m1 => uniq_any w1 l ao n' c' (m1.rk hr).rp ha hf
  have hu1 : (uniq l).length ≤ l.length := by have := more_len l []; simpa [uniq] using this
  have hu2 : fits (uniq l) := fits_more l (fun a ha => by simp at ha) hf
  have hll : l.length ≤ 10000 := by have := hr.rp.len; omega
  have hmu : Hid (more (A.lb i).attrs (uniq l) = more (A.lb i).attrs l) := Ar.more_uniq _ _
  have hlab : Hid ((3, (A.lb i).ns, (A.lb i).name, more (A.lb i).attrs l, (A.lb i).text) = attL (A.lb i) (more (A.lb i).attrs l)) := by unfold attL; rw [hk]; exact rfl
  rw [Ar.raw_tell, hlab.out]
  have hat0 := (hat i).1
  have e0 : Hid (sLb A.raw i (attL (A.lb i) (A.lb i).attrs) = A.raw) := sLb_self A.raw i
  have esl : Hid (∀ x, ((sLb A.raw i x) i).lb = x) := fun x => by unfold sLb; rw [if_pos rfl]
  have egr : Hid (∀ x y, attL (attL (A.lb i) x) y = attL (A.lb i) y) := fun x y => rfl
  have eat : Hid (∀ x, (attL (A.lb i) x).attrs = x) := fun x => rfl
  clear pa0 h hr hk hf hat
  generalize A.lb i = L at hmu hlab hat0 e0 egr eat f1 ⊢
  generalize uniq l = u at HU hu1 hu2 hmu
  go_enter Tryz.func34, Tryz.ntmps34
  go_wp2_with (first | (go_at_call 46; refine (HH _).mono ?_; rintro e w9 ⟨rfl, hw⟩; have hw2 := hw.symm; clear hw; subst hw2) | (go_at_call 71; refine HK.mono ?_; rintro e w1 ⟨rfl, tag1, mb, r1, m1⟩; refine Hid.out ?_))
  unfold Hid
  have HU1 := HU.out _ _ m1
  clear HK HU HH f1 c0
  go_wp2_with fail
  refine HU1.mono ?_
  rintro e w2 ⟨au, nu, cu, rfl, M2⟩
  clear HU1
  obtain ⟨T2, hT2⟩ : ∃ T : Nat → Nat, T = fun x => if x < w1.heap.size then tag1 x else 0 := ⟨_, rfl⟩
  have m2 : Mv tag1 w1 T2 w2 := Mv.of_kp M2.kp (fun x hx => by simp at hx) (fun x hx => by rw [hT2]; simp only [if_pos hx])
  have r2 : Rw T2 w2 b g o c q A.n A.raw (nmP pl i mb) := r1.keep M2.kp (fun x hx => by simp at hx) m2.tg
  have ru : Rk (Qp T2) 2 w2 au nu cu (cs u) := M2.rk (fun x hx => by unfold Qp isP; rw [hT2]; simp only [if_neg (show ¬ x < w1.heap.size by omega)]; omega)
  have hnu : nu = u.length := M2.len
  have m02 : Hid (Mv tag w T2 w2) := m1.trans m2
  have RU : Hid (Rk (Qp T2) 2 w2 au nu cu (cs u)) := ru
  have R2 : Hid (Rw T2 w2 b g o c q A.n A.raw (nmP pl i mb)) := r2
  clear r1 m1 M2 m2 r2 ru hT2
  subst hnu
  go_wp2_with fail
  go_loopw [9, 10, 11, 38] (fun _ _ _ kk wr => ∃ (k : Nat) (tagk : Nat → Nat) (plk : Nat → Np) (mk : Nat), k ≤ u.length ∧ kk = .int .i64 (k : Int) ∧ Rw tagk wr b g o c q A.n (sLb A.raw i (attL L (more L.attrs (u.take k)))) plk ∧ Mv T2 w2 tagk wr ∧ (plk i).nm = some mk) (fun _ _ _ kk _ => u.length - (intOf kk).toNat)
  case atStart => exact ⟨0, T2, nmP pl i mb, mb, Nat.zero_le _, rfl, by rw [List.take_zero]; show Rw T2 w2 b g o c q A.n (sLb A.raw i (attL L L.attrs)) _; rw [e0.out]; exact R2.out, Mv.refl _ _, by simp [nmP]⟩
  case round =>
    obtain ⟨k, tagk, plk, mk, hk, rfl, rk, mv, hmk⟩ := hrel
    clear R2 e0
    by_cases hlt : k < u.length
    · obtain ⟨b1, o1, rfl, g1, g2⟩ := (mv.rk RU.out).rp.get k hlt
      have hts := take_snoc hlt
      have hfa := (hu2 u[k] (List.getElem_mem hlt)).1
      have hk0 : (0 : Int) ≤ (k : Int) := by omega
      have hk1 : (k : Int) < (u.length : Int) := by omega
      generalize u[k] = a at g1 g2 hts hfa
      have hb1 : b1 < wr.heap.size := block_lt_of_cell g1
      have sd := rk.side i hi
      obtain ⟨hnt, _⟩ := sd.nm mk hmk
      rw [esl.out, eat.out] at hnt
      have hmore : Hid (more L.attrs (u.take (k + 1)) = add (more L.attrs (u.take k)) a) := by rw [hts]; exact more_snoc _ _ _
      have hml : (more L.attrs (u.take k)).length < 50000 := by have := more_len (u.take k) L.attrs; rw [List.length_take] at this; omega
      generalize more L.attrs (u.take k) = cur at rk hnt hmore hml
      have kA : Kp [] wr (wr.alloc (.cells #[.string a.1, .string a.2] 30)) := (Kp.refl _ _).alloc _
      have kX : Kp [] wr ((wr.alloc (.cells #[.string a.1, .string a.2] 30)).alloc (.cells #[] 112)).drew := (((Kp.refl _ _).alloc _).alloc _).drew
      obtain ⟨_, _, _, f3, f4, _⟩ := rk.fields hi
      rw [hmk] at f4
      obtain ⟨hb, hN⟩ : ∃ hb, hasN cur a.1 = hb := ⟨_, rfl⟩
      have HS : Hid (∀ V, Kp [] (wr.alloc (.cells #[.string a.1, .string a.2] 30)) V → V.cell? ⟨g, o + i * 11 + 4, none⟩ = some (.map (some mk)) ∧ V.cell? ⟨wr.heap.size, 0, none⟩ = some (.string a.1) ∧ (Instr.lookup 53 (.map (some mk)) (.string a.1) true).run Tryz.prog V = .ok (.tuple #[.agg #[], .bool hb]) V) := fun V kV => by
        have kwV := kA.trans kV (fun x hx => Or.inl hx)
        have e4 := ((rk.kept kwV).fields hi).2.2.2.2.1
        rw [hmk] at e4
        rw [← hN]
        exact ⟨e4, (kV.cell (by simp) (by simp)).trans ((At.new wr #[.string a.1, .string a.2] 30).cell 0), (hnt.same (kwV.block mk hnt.lt (by simp))).look a.1 hfa⟩
      cases hb with
      | true =>
        have X2 : Hid (Rw tagk ((wr.alloc (.cells #[.string a.1, .string a.2] 30)).alloc (.cells #[] 112)).drew b g o c q A.n (sLb A.raw i (attL L (more L.attrs (u.take (k + 1))))) plk ∧ Mv T2 w2 tagk ((wr.alloc (.cells #[.string a.1, .string a.2] 30)).alloc (.cells #[] 112)).drew ∧ (plk i).nm = some mk) := by
          refine ⟨?_, mv.trans (Mv.of_kp kX (fun x hx => by simp at hx) (fun _ _ => rfl)), hmk⟩
          rw [hmore.out]
          unfold add
          rw [hN, if_pos rfl]
          exact rk.kept kX
        clear f3 f4 kA hnt sd kX rk mv hmk hN
        go_wp2_with fail
        go_region_held3 (fun V => V.cell? ⟨g, o + i * 11 + 4, none⟩ = some (.map (some mk)) ∧ V.cell? ⟨wr.heap.size, 0, none⟩ = some (.string a.1) ∧ (Instr.lookup 53 (.map (some mk)) (.string a.1) true).run Tryz.prog V = .ok (.tuple #[.agg #[], .bool true]) V)
          (first
            | with_reducible exact HS.out _ (Kp.refl _ _).drew
            | with_reducible exact HS.out _ ((Kp.refl _ _).drew.alloc _)
            | with_reducible exact HS.out _ ((Kp.refl _ _).alloc _).drew)
          (fail)
        all_goals
          go_wp2
          go_roundw
          case rel => exact ⟨k + 1, _, _, mk, by omega, by go_num, X2.out⟩
          case measure => simp [intOf]; omega
      | false =>
        obtain ⟨w5, hrun5, f5, k5, hmw, hgm, HY⟩ := mor_step rk hi hmk a hfa (by rw [esl.out, eat.out]; exact hml) (by rw [esl.out, eat.out]; exact hN) (w1 := (((wr.alloc (.cells #[.string a.1, .string a.2] 30)).alloc (.cells #[] 112)).drew).drew) kX.drew
        obtain ⟨ao6, n6, c6, w6, hrun6, f6, fz6, kp6, tag6, pl6, r6, m6, nm6⟩ := HY w5.drew (Kp.refl [] w5).drew
        rw [esl.out, eat.out, egr.out, sLb_twice] at r6
        have X2 : Hid (Rw tag6 _ b g o c q A.n (sLb A.raw i (attL L (more L.attrs (u.take (k + 1))))) pl6 ∧ Mv T2 w2 tag6 _ ∧ (pl6 i).nm = some mk) := ⟨by rw [hmore.out]; unfold add; rw [hN, if_neg (by simp)]; exact r6, mv.trans m6, nm6⟩
        obtain ⟨X, hX⟩ : ∃ X, X = ((wr.alloc (.cells #[.string a.1, .string a.2] 30)).alloc (.cells #[] 112)).drew := ⟨_, rfl⟩
        have AX : At X wr.heap.size #[.string a.1, .string a.2] 30 := by rw [hX]; exact (At.new wr #[.string a.1, .string a.2] 30).kept (((Kp.refl [] _).alloc _).drew) (by simp)
        rw [← hX] at hrun5 k5
        have hS12 : (World.drew X).cell? ⟨g, o + i * 11 + 4, none⟩ = some (.map (some mk)) ∧ (World.drew X).cell? ⟨wr.heap.size, 0, none⟩ = some (.string a.1) := by
          rw [hX]
          obtain ⟨e1, e2, _⟩ := HS.out _ (((Kp.refl [] (wr.alloc (.cells #[.string a.1, .string a.2] 30))).alloc (.cells #[] 112)).drew)
          exact ⟨e1, e2⟩
        have A5 : At w5 wr.heap.size #[.string a.1, .string a.2] 30 := (AX.kept ((Kp.refl [] X).drew) (by simp)).kept k5 (by simp; omega)
        have A6 : At w6 wr.heap.size #[.string a.1, .string a.2] 30 := by unfold At; rw [kp6 wr.heap.size (Nat.le_refl _) A5.lt]; exact A5
        have hS13 : (World.drew w5).cell? ⟨g, o + i * 11 + 3, none⟩ = some (.slice (plk i).ao (plk i).an (plk i).ac) ∧ (World.drew w5).cell? ⟨wr.heap.size, 0, none⟩ = some (.string a.1) ∧ (World.drew w5).cell? ⟨wr.heap.size, 1, none⟩ = some (.string a.2) := ⟨f5, A5.cell 0, A5.cell 1⟩
        have hg5 : g < w5.heap.size := block_lt_of_cell f5
        have hw5 := A5.lt
        have hS13b : ((World.drew w5).alloc (.cells #[.string a.1, .string a.2] 30)).cell? ⟨g, o + i * 11 + 3, none⟩ = some (.slice (plk i).ao (plk i).an (plk i).ac) ∧ ((World.drew w5).alloc (.cells #[.string a.1, .string a.2] 30)).cell? ⟨wr.heap.size, 0, none⟩ = some (.string a.1) ∧ ((World.drew w5).alloc (.cells #[.string a.1, .string a.2] 30)).cell? ⟨wr.heap.size, 1, none⟩ = some (.string a.2) := by
          have ka : Kp [] (World.drew w5) ((World.drew w5).alloc (.cells #[.string a.1, .string a.2] 30)) := (Kp.refl _ _).alloc _
          exact ⟨(ka.cell hg5 (by simp)).trans f5, (ka.cell hw5 (by simp)).trans (A5.cell 0), (ka.cell hw5 (by simp)).trans (A5.cell 1)⟩
        have hS13c : w6.cell? ⟨g, o + i * 11 + 3, none⟩ = some (.slice (plk i).ao (plk i).an (plk i).ac) ∧ w6.cell? ⟨wr.heap.size, 0, none⟩ = some (.string a.1) ∧ w6.cell? ⟨wr.heap.size, 1, none⟩ = some (.string a.2) := ⟨f6, A6.cell 0, A6.cell 1⟩
        have HX : Hid (((wr.alloc (.cells #[.string a.1, .string a.2] 30)).alloc (.cells #[] 112)).drew = X) := hX.symm
        clear f3 f4 kA hnt sd kX rk mv hmk hN AX A5 A6 kp6 r6 m6 nm6 HY hX k5 f5 f6
        generalize (plk i).ao = pao at hS13 hS13b hS13c hrun6
        generalize (plk i).an = pan at hS13 hS13b hS13c hrun6
        generalize (plk i).ac = pac at hS13 hS13b hS13c hrun6
        go_wp2_with fail
        go_region_held3 (fun V => V.cell? ⟨g, o + i * 11 + 4, none⟩ = some (.map (some mk)) ∧ V.cell? ⟨wr.heap.size, 0, none⟩ = some (.string a.1) ∧ (Instr.lookup 53 (.map (some mk)) (.string a.1) true).run Tryz.prog V = .ok (.tuple #[.agg #[], .bool false]) V)
          (first
            | with_reducible exact HS.out _ (Kp.refl _ _).drew
            | with_reducible exact HS.out _ ((Kp.refl _ _).drew.alloc _)
            | with_reducible exact HS.out _ ((Kp.refl _ _).alloc _).drew)
          (fail)
        all_goals
          rw [HX.out]
          clear HX HS
          go_wp2_with fail
          refine wp_region_g (S := fun V => V.cell? ⟨g, o + i * 11 + 4, none⟩ = some (.map (some mk)) ∧ V.cell? ⟨wr.heap.size, 0, none⟩ = some (.string a.1)) (T := [7]) (by kernel_rfl) hS12 (fun hHeld => ?_)
          refine g_pure 0 (oi := ⟨some 54, .move (.tmp 7), 111, "write.go:57", #[], none⟩) (v := ?_) (Or.inl ⟨by rfl, ?_⟩) ?_
          rotate_left
          · (intro w; go_simp; try with_reducible rfl)
          simp only [Act.put, pu1, pu2, pu3]
          refine g_pure 1 (oi := ⟨some 55, .nilCheck (.tmp 54), 0, "write.go:57", #[⟨0, .data⟩], none⟩) (v := ?_) (Or.inl ⟨by rfl, ?_⟩) ?_
          rotate_left
          · (intro w; go_simp; try with_reducible rfl)
          simp only [Act.put, pu1, pu2, pu3]
          refine g_pure 2 (oi := ⟨some 56, .fieldAddr 56 (.tmp 55) 4, 0, "write.go:57", #[⟨1, .data⟩], none⟩) (v := ?_) (Or.inl ⟨by rfl, ?_⟩) ?_
          rotate_left
          · (intro w; go_simp; try with_reducible rfl)
          simp only [Act.put, pu1, pu2, pu3]
          refine g_take 3 (oi := ⟨some 57, .load 53 (.tmp 56), 53, "write.go:57", #[⟨2, .data⟩], none⟩) (v := ?_) (Or.inl ⟨by rfl, ?_⟩) ?_
          rotate_left
          · (intro w hSw; (obtain ⟨q0, q1⟩ := hSw); go_simp; try with_reducible rfl)
          simp only [Act.put, pu1, pu2, pu3]
          refine g_pure 4 (oi := ⟨some 58, .fieldAddr 30 (.tmp 9) 0, 0, "write.go:57", #[], none⟩) (v := ?_) (Or.inl ⟨by rfl, ?_⟩) ?_
          rotate_left
          · (intro w; go_simp; try with_reducible rfl)
          simp only [Act.put, pu1, pu2, pu3]
          refine g_take 5 (oi := ⟨some 59, .load 9 (.tmp 58), 9, "write.go:57", #[⟨4, .data⟩], none⟩) (v := ?_) (Or.inl ⟨by rfl, ?_⟩) ?_
          rotate_left
          · (intro w hSw; (obtain ⟨q0, q1⟩ := hSw); go_simp; try with_reducible rfl)
          simp only [Act.put, pu1, pu2, pu3]
          refine g_pure 6 (oi := ⟨some 60, .build 112 #[], 112, "write.go:57", #[], none⟩) (v := ?_) (Or.inl ⟨by rfl, ?_⟩) ?_
          rotate_left
          · (intro w; go_simp; try with_reducible rfl)
          simp only [Act.put, pu1, pu2, pu3]
          refine wpAnyG_free (by kernel_rfl) ?_
          refine wpAny_ready (rs := [7]) (by kernel_rfl) (by simp) ?_
          refine AllReady.cons (o := ⟨none, .mapUpdate 53 (.tmp 57) (.tmp 59) (.tmp 60), 0, "write.go:57", #[⟨3, .data⟩, ⟨5, .data⟩, ⟨6, .data⟩, ⟨0, .phase⟩, ⟨1, .phase⟩, ⟨2, .phase⟩, ⟨3, .phase⟩, ⟨4, .phase⟩, ⟨5, .phase⟩, ⟨6, .phase⟩], none⟩) rfl (fun K hK => ?_) AllReady.nil
          refine step_updR (by rfl) _ _ _ 53 (by rfl) _ _ _ (by rfl) (by rfl) (by rfl) hrun5 ?_
          refine hK _ _ ?_
          clear hK K
          try simp only [Act.put, pu1, pu2, pu3]
          refine wpAny_done (by kernel_rfl) ?_ _
          go_wp2_with fail
          refine wp_region_g (S := fun V => V.cell? ⟨g, o + i * 11 + 3, none⟩ = some (.slice pao pan pac) ∧ V.cell? ⟨wr.heap.size, 0, none⟩ = some (.string a.1) ∧ V.cell? ⟨wr.heap.size, 1, none⟩ = some (.string a.2)) (T := [10]) (by kernel_rfl) hS13 (fun hHeld => ?_)
          refine g_pure 0 (oi := ⟨some 61, .move (.tmp 7), 111, "write.go:58", #[], none⟩) (v := ?_) (Or.inl ⟨by rfl, ?_⟩) ?_
          rotate_left
          · (intro w; go_simp; try with_reducible rfl)
          simp only [Act.put, pu1, pu2, pu3]
          refine g_pure 1 (oi := ⟨some 62, .move (.tmp 7), 111, "write.go:58", #[], none⟩) (v := ?_) (Or.inl ⟨by rfl, ?_⟩) ?_
          rotate_left
          · (intro w; go_simp; try with_reducible rfl)
          simp only [Act.put, pu1, pu2, pu3]
          refine g_pure 2 (oi := ⟨some 63, .nilCheck (.tmp 62), 0, "write.go:58", #[⟨1, .data⟩], none⟩) (v := ?_) (Or.inl ⟨by rfl, ?_⟩) ?_
          rotate_left
          · (intro w; go_simp; try with_reducible rfl)
          simp only [Act.put, pu1, pu2, pu3]
          refine g_pure 3 (oi := ⟨some 64, .fieldAddr 56 (.tmp 63) 3, 0, "write.go:58", #[⟨2, .data⟩], none⟩) (v := ?_) (Or.inl ⟨by rfl, ?_⟩) ?_
          rotate_left
          · (intro w; go_simp; try with_reducible rfl)
          simp only [Act.put, pu1, pu2, pu3]
          refine g_take 4 (oi := ⟨some 65, .load 26 (.tmp 64), 26, "write.go:58", #[⟨3, .data⟩], none⟩) (v := ?_) (Or.inl ⟨by rfl, ?_⟩) ?_
          rotate_left
          · (intro w hSw; (obtain ⟨q0, q1, q2⟩ := hSw); go_simp; try with_reducible rfl)
          simp only [Act.put, pu1, pu2, pu3]
          refine g_take 5 (oi := ⟨some 66, .load 30 (.tmp 9), 30, "write.go:58", #[], none⟩) (v := ?_) (Or.inl ⟨by rfl, ?_⟩) ?_
          rotate_left
          · (intro w hSw; (obtain ⟨q0, q1, q2⟩ := hSw); go_simp; try with_reducible rfl)
          simp only [Act.put, pu1, pu2, pu3]
          refine wpAnyG_ready (rs := [6]) (by kernel_rfl) (by simp) ?_
          refine AllReadyG.cons (o := ⟨some 67, .buildSlice 26 1 #[(0, .tmp 66)], 26, "write.go:58", #[⟨5, .data⟩], none⟩) rfl (fun K hK => ?_) AllReadyG.nil
          go_simp
          refine hK.out _ _ hS13b (fun hHeld1 => ?_)
          clear hK K hHeld
          try simp only [Act.put, pu1, pu2, pu3]
          refine wpAnyG_ready (rs := [7]) (by kernel_rfl) (by simp) ?_
          refine AllReadyG.cons (o := ⟨some 68, .call { callee := .builtin .append, args := #[.tmp 65, .tmp 67], argTypes := #[26, 26] }, 26, "write.go:58", #[⟨4, .data⟩, ⟨6, .data⟩], none⟩) rfl (fun K hK => ?_) AllReadyG.nil
          refine step_app2 (by rfl) _ _ 26 26 (by rfl) _ _ (by rfl) (by rfl) hrun6 ?_
          refine hK.out _ _ hS13c (fun hHeld2 => ?_)
          clear hK K hHeld1
          try simp only [Act.put, pu1, pu2, pu3]
          refine g_pure 8 (oi := ⟨some 69, .nilCheck (.tmp 61), 0, "write.go:58", #[⟨0, .data⟩, ⟨0, .phase⟩, ⟨1, .phase⟩, ⟨2, .phase⟩, ⟨3, .phase⟩, ⟨4, .phase⟩, ⟨5, .phase⟩, ⟨6, .phase⟩, ⟨7, .phase⟩], none⟩) (v := ?_) (Or.inl ⟨by rfl, ?_⟩) ?_
          rotate_left
          · (intro w; go_simp; try with_reducible rfl)
          simp only [Act.put, pu1, pu2, pu3]
          refine g_pure 9 (oi := ⟨some 70, .fieldAddr 56 (.tmp 69) 3, 0, "write.go:58", #[⟨8, .data⟩, ⟨0, .phase⟩, ⟨1, .phase⟩, ⟨2, .phase⟩, ⟨3, .phase⟩, ⟨4, .phase⟩, ⟨5, .phase⟩, ⟨6, .phase⟩, ⟨7, .phase⟩], none⟩) (v := ?_) (Or.inl ⟨by rfl, ?_⟩) ?_
          rotate_left
          · (intro w; go_simp; try with_reducible rfl)
          simp only [Act.put, pu1, pu2, pu3]
          refine wpAnyG_free (by kernel_rfl) ?_
          refine wpAny_ready (rs := [10]) (by kernel_rfl) (by simp) ?_
          refine AllReady.cons (o := ⟨none, .store 26 (.tmp 70) (.tmp 68), 0, "write.go:58", #[⟨9, .data⟩, ⟨7, .data⟩, ⟨7, .chain⟩, ⟨0, .phase⟩, ⟨1, .phase⟩, ⟨2, .phase⟩, ⟨3, .phase⟩, ⟨4, .phase⟩, ⟨5, .phase⟩, ⟨6, .phase⟩, ⟨7, .phase⟩], none⟩) rfl (fun K hK => ?_) AllReady.nil
          obtain ⟨q0, q1, q2⟩ := hS13c
          go_simp
          refine hK _ _ ?_
          clear hK K
          try simp only [Act.put, pu1, pu2, pu3]
          refine wpAny_done (by kernel_rfl) ?_ _
          go_wp2
          go_roundw
          case rel => exact ⟨k + 1, _, _, mk, by omega, by go_num, X2.out⟩
          case measure => simp [intOf]; omega
    · obtain rfl : k = u.length := by omega
      rw [List.take_length] at rk
      have X2 : Hid (∃ tag', Pa tag' wr b q (A.tell i (attL L (more L.attrs l))).n (sLb A.raw i (attL L (more L.attrs l))) ∧ Mv tag w tag' wr) := ⟨tagk, ⟨g, o, c, plk, by rw [← hmu.out]; exact rk⟩, m02.out.trans mv⟩
      clear rk mv
      go_wp2
      go_ret
      exact ⟨rfl, X2.out⟩

end

end Go.Proofs.YtgjkfpmhgidpaaaGreat
