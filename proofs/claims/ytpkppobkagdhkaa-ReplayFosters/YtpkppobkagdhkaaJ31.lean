/-
  Joined: PrJ.
-/
import Derived.Test.YtpkppobkagdhkaaJ30

/-
  The program's arena: keepNames.
-/
namespace Go.Proofs.Ytpkppobkagdhkaa
open Go.RowKit Go.Maps Utf
set_option linter.unusedVariables false
set_option linter.unusedSimpArgs false

theorem lawS : Keyed Try.prog 9 := string_keyed Try.underlying9
theorem zeroE (w : World) : (zeroValue 96).run Try.prog w = .ok (.agg #[]) w := by kernel_rfl

theorem hasN_snoc (l : List Att) (a : Att) (x : ByteArray) : hasN (l ++ [a]) x = (hasN l x || eqs a.1 x) := by
  unfold hasN
  rw [getF_append, getF_one]
  cases getF l x with
  | some y => rfl
  | none => cases eqs a.1 x <;> rfl

theorem Nt.look {w : World} {b : Nat} {l : List Att} (h : Nt w b l) (x : ByteArray) (hx : x.size ≤ 140737488355328) : (Instr.lookup 64 (.map (some b)) (.string x) true).run Try.prog w = .ok (.tuple #[.agg #[], .bool (hasN l x)]) w := by
  obtain ⟨D, k, h1, h2, h3⟩ := h
  obtain ⟨v, ps, hrun, hv⟩ := h1.look_ok lawS Try.underlying64 (zeroE w) unitElem_mk (key_of hx)
  obtain ⟨rfl, _⟩ := unitElem_inv hv
  rw [h3 x] at hrun
  exact hrun

theorem Nt.put {w : World} {b : Nat} {l : List Att} (h : Nt w b l) (a : Att) (hx : a.1.size ≤ 140737488355328) (hl : l.length < 100000) : ∃ w', (Instr.mapUpdate 64 (.map (some b)) (.string a.1) (.agg #[])).run Try.prog w = .ok () w' ∧ Nt w' b (l ++ [a]) ∧ Kp [b] w w' := by
  obtain ⟨D, k, h1, h2, h3⟩ := h
  obtain ⟨w', hrun, r1, r2⟩ := h1.update lawS Try.underlying64 (by unfold maxLen; omega) (key_of hx) (unitElem_mk (H := Unit))
  refine ⟨w', hrun, ⟨_, k + 1, r1, by rw [List.length_append]; simp; exact h2, fun x => ?_⟩, kp_grown r2⟩
  rw [hasN_snoc]
  cases he : eqs a.1 x
  · have hne : kl x ≠ kl a.1 := fun e => by rw [kl_inj e, eqs_refl] at he; cases he
    rw [Maps.has_put_other hne, h3 x, Bool.or_false]
  · obtain rfl := eqs_iff.1 he
    rw [Maps.has_put_same (h1.tidy lawS).isMap (kl_key a.1), Bool.or_true]

theorem nt_new (w : World) : Nt (w.alloc (.map #[] 0)) w.heap.size [] := ⟨.map [], 0, World.ownsMap_made w Try.prog 9 _, Nat.le_refl _, fun x => rfl⟩

theorem make_names (w : World) (n : Nat) : (Instr.makeMap 64 (some (.int .i64 (n : Int)))).run Try.prog w = .ok (.map (some w.heap.size)) (w.alloc (.map #[] 0)) := by
  simp [Instr.makeMap, run_underlying Try.underlying64, asInt, asIntOf, newObj]
  rfl

/-- A store into a map, whose run is known, as one step of a region that draws its order. -/
theorem step_updR {P : Program} {ops : Array Oper} {o : Oper} {a : Act} {w w' : World} {K : Act → World → Prop} {Q : Exit → Act → World → Prop} {E : Prop}
    (hg : o.guard = none) (m x v : Operand) (t : TypeId) (hop : o.op = Op.mapUpdate t m x v) (M X V : Value) (hm : a.eval m = M) (hx : a.eval x = X) (hv : a.eval v = V) (hrun : (Instr.mapUpdate t M X V).run P w = .ok () w') (hK : K (a.put o.dst undef) w') :
    if Region.wanted o (yielded ops a.tmps) = true then Oper.wp P o a w K Q else E := by
  have hw : Region.wanted o (yielded ops a.tmps) = true := by simp [Region.wanted, hg]
  rw [if_pos hw]
  unfold Oper.wp
  simp [execOp, hop, hm, hx, hv, hrun, Result.andThen]
  exact hK

section
variable {tag : Nat → Nat} {w : World} {b g o c : Nat} {q : Bool} {n : Nat} {N : Nat → Pn} {pl : Nat → Np}

/-- One node's own lists have turned, and one of its cells was written. -/
theorem Rw.turnF {tag' : Nat → Nat} {S : List Nat} {wf : World} {N' : Nat → Pn} {pl' : Nat → Np} (h : Rw tag w b g o c q n N pl) {i k : Nat} (hi : i < n) (hk : k < 11) (u : Value) (kk : Kp (g :: S) w wf) (hS : ∀ x, x ∈ S → x < w.heap.size → tag x = 8 + 3 * i ∨ tag x = 9 + 3 * i ∨ tag x = 10 + 3 * i) (ht : ∀ x, x < w.heap.size → tag' x = tag x)
    (hcur : ∀ cur, At w g cur 67 → At wf g (cur.setIfInBounds (o + i * 11 + k) u) 67)
    (he : el (N' i) (pl' i) = (el (N i) (pl i)).set k u) (hN : ∀ j, j < n → j ≠ i → N' j = N j ∧ pl' j = pl j) (hs : Sd tag' wf i (N' i).lb (pl' i)) :
    Rw tag' wf b g o c q n N' pl' ∧ Mv tag w tag' wf := by
  have hne := h.ne
  have hlt := h.lt
  obtain ⟨cur, h1, h2, h3⟩ := h.body
  have hbS : b ∉ g :: S := fun hx => by
    rcases List.mem_cons.1 hx with e | hx
    · exact hne e
    · have := hS b hx hlt.1; rw [h.tb] at this; omega
  refine ⟨⟨h.hd.kept kk hbS, by rw [ht b hlt.1]; exact h.tb, h.cap, h.max, ⟨_, hcur cur h1, by simpa using h2, fun j hj l hl => ?_⟩, by rw [ht g hlt.2]; exact h.tg, fun j hj => ?_⟩, ?_⟩
  · rw [Array.getElem?_setIfInBounds]
    have hcap := h.cap
    have hm : i * 11 + 11 ≤ c * 11 := by omega
    by_cases hjl : o + i * 11 + k = o + j * 11 + l
    · obtain ⟨rfl, rfl⟩ := (idx11 (i := i) (j := j) hk hl).1 (by omega)
      rw [if_pos rfl, if_pos (by omega), he, List.getElem?_set_self (by rw [el_len]; exact hk)]
    · rw [if_neg hjl]
      by_cases hji : j = i
      · subst hji
        rw [he, List.getElem?_set_ne (fun e => hjl (by rw [e])), h3 j hj l hl]
      · rw [(hN j hj hji).1, (hN j hj hji).2, h3 j hj l hl]
  · by_cases hji : j = i
    · subst hji; exact hs
    · rw [(hN j hj hji).1, (hN j hj hji).2]
      refine (h.side j hj).keep kk (fun x hx hxl => ?_) ht
      rcases List.mem_cons.1 hx with rfl | hx
      · rw [h.tg]; omega
      · have := hS x hx hxl; omega
  · refine Mv.of_kp kk (fun x hx hxl => ?_) ht
    rcases List.mem_cons.1 hx with rfl | hx
    · exact .inr (.inl h.tg)
    · have := hS x hx hxl; exact .inr (.inr (by omega))

/-- pl with a table for node i. -/
def nmP (pl : Nat → Np) (i mb : Nat) : Nat → Np := fun j => if j = i then ⟨(pl i).ao, (pl i).an, (pl i).ac, some mb, (pl i).to, (pl i).tn, (pl i).tc⟩ else pl j

theorem Sd.alen {tag : Nat → Nat} {w : World} {i : Nat} {l : Lb} {p : Np} (h : Sd tag w i l p) : p.an = l.attrs.length := by
  have := h.at'.1
  rw [cs_len] at this
  omega

set_option maxRecDepth 100000 in
set_option maxHeartbeats 1000000 in
theorem keep_any (h : Rw tag w b g o c q n N pl) (hn : n < 100000) {i : Nat} (hi : i < n) (hl : (N i).lb.attrs.length ≤ 20000) (hf : fits (N i).lb.attrs) :
    Calls Try.prog 52 #[.pointer (some ⟨g, o + i * 11, none⟩)] w fun e w' => e = .returned (.tuple #[]) ∧ ∃ tag' mb, Rw tag' w' b g o c q n N (nmP pl i mb) ∧ Mv tag w tag' w' := by
  obtain ⟨_, _, _, c3, c4, _⟩ := h.fields hi
  have sd := h.side i hi
  have hal := sd.alen
  obtain ⟨nm, hnm⟩ : ∃ nm, (pl i).nm = nm := ⟨_, rfl⟩
  rw [hnm] at c4
  cases nm with
  | some mb =>
    have e : nmP pl i mb = pl := by
      funext j
      unfold nmP
      by_cases hj : j = i
      · subst hj
        rw [if_pos rfl, ← hnm]
      · rw [if_neg hj]
    have X : Hid (∃ tag' mb, Rw tag' w b g o c q n N (nmP pl i mb) ∧ Mv tag w tag' w) := ⟨tag, mb, by rw [e]; exact h, Mv.refl _ _⟩
    have hneq : (binOp .neq 64 (.map (some mb)) (.map none)).run Try.prog w = .ok (.bool true) w := run_neq_map_nil w 64 9 96 (some mb) Try.underlying64
    clear h sd e
    go_enter Try.func52, Try.ntmps52
    go_wp2
    (try simp only [Exit.inBlock, Exit.then]); refine bodyPost_ret (results_none rfl _ _ _) rfl ?_
    exact ⟨rfl, X.out⟩
  | none =>
    have hmk := make_names w (pl i).an
    have hneq : (binOp .neq 64 (.map none) (.map none)).run Try.prog w = .ok (.bool false) w := run_neq_map_nil w 64 9 96 none Try.underlying64
    have hsl := h.lt
    have fr := h.free (o + i * 11 + 4)
    obtain ⟨cur, h1, h2, h3⟩ := h.body
    obtain ⟨B, hB⟩ : ∃ B, B = (w.setCell ⟨g, o + i * 11 + 4, none⟩ (.map (some w.heap.size))).alloc (.map #[] 0) := ⟨_, rfl⟩
    have kB : Kp [g] w B := by rw [hB]; exact ((Kp.refl _ _).setCell (Or.inl (by simp)) _).alloc _
    have hcB : At B g (cur.setIfInBounds (o + i * 11 + 4) (.map (some w.heap.size))) 67 := by rw [hB]; exact (h1.set _ _).kept ((Kp.refl [] _).alloc _) (by simp)
    have NB : Nt B w.heap.size [] := by
      have e := nt_new (w.setCell ⟨g, o + i * 11 + 4, none⟩ (.map (some w.heap.size)))
      rw [show (w.setCell ⟨g, o + i * 11 + 4, none⟩ (.map (some w.heap.size))).heap.size = w.heap.size by simp [World.setCell]] at e
      rw [hB]; exact e
    have hgx : g < w.heap.size := hsl.2
    have hcell : ∀ k, k < 11 → (cur.setIfInBounds (o + i * 11 + 4) (.map (some w.heap.size)))[o + i * 11 + k]? = ((el (N i) (pl i)).set 4 (.map (some w.heap.size)))[k]? := fun k hk => by
      rw [Array.getElem?_setIfInBounds]
      have := h.cap
      by_cases e : k = 4
      · subst e; rw [if_pos rfl, if_pos (by omega)]; rfl
      · rw [if_neg (by omega), h3 i hi k hk, List.getElem?_set_ne (by omega)]
    have HC : Hid (∀ V, Kp [w.heap.size] B V → V.cell? ⟨g, o + i * 11 + 3, none⟩ = some (.slice (pl i).ao (pl i).an (pl i).ac) ∧ V.cell? ⟨g, o + i * 11 + 4, none⟩ = some (.map (some w.heap.size)) ∧ Rp V (pl i).ao (pl i).an (pl i).ac (N i).lb.attrs) := fun V kV => by
      have hcV := hcB.kept kV (by simp; omega)
      refine ⟨(hcV.cell _).trans (hcell 3 (by omega)), (hcV.cell _).trans (hcell 4 (by omega)), Rp.of_own (e := 70) (m := (pl i).an) ?_⟩
      refine (sd.at'.keep kB (fun x hx hs => ?_)).keep kV (fun x hx hs => ?_)
      · have := sd.atT x hx; rw [List.mem_singleton.1 hs, h.tg] at this; omega
      · have := sd.at'.lt x hx; rw [List.mem_singleton.1 hs] at this; omega
    have HF : Hid (∀ V, Kp [w.heap.size] B V → Nt V w.heap.size (N i).lb.attrs → ∃ tag' mb, Rw tag' V b g o c q n N (nmP pl i mb) ∧ Mv tag w tag' V) := fun V kV hV => by
      obtain ⟨T, hT⟩ : ∃ T : Nat → Nat, T = fun x => if x < w.heap.size then tag x else 9 + 3 * i := ⟨_, rfl⟩
      have T0 : ∀ x, x < w.heap.size → T x = tag x := fun x hx => by rw [hT]; simp only [if_pos hx]
      have kwV : Kp [g] w V := kB.trans kV (fun x hx => Or.inr (by simp at hx; omega))
      obtain ⟨r1, m1⟩ := h.turnF (tag' := T) (S := []) (wf := V) (N' := N) (pl' := nmP pl i w.heap.size) (k := 4) hi (by omega) (.map (some w.heap.size)) kwV (fun x hx => by simp at hx) T0
        (fun cur' hc' => by
          have e : cur' = cur := by
            unfold At at h1 hc'
            rw [h1] at hc'
            simp only [Option.some.injEq, Obj.cells.injEq, and_true] at hc'
            exact hc'.symm
          rw [e]
          exact hcB.kept kV (by simp; omega)) (by simp [nmP, el]) (fun j _ hj => ⟨rfl, by simp [nmP, hj]⟩) (by
          unfold nmP
          rw [if_pos rfl]
          have s2 := sd.keep (tag' := T) kwV (fun x hx _ => by rw [List.mem_singleton.1 hx, h.tg]; omega) T0
          refine ⟨s2.at', s2.atT, s2.tx, s2.txT, fun z hz => ?_⟩
          obtain rfl : w.heap.size = z := by simpa using hz
          exact ⟨hV, by rw [hT]; simp only [if_neg (Nat.lt_irrefl _)]⟩)
      exact ⟨T, w.heap.size, r1, m1⟩
    have HB : Hid ((w.setCell ⟨g, o + i * 11 + 4, none⟩ (.map (some w.heap.size))).alloc (.map #[] 0) = B) := hB.symm
    have hsB : w.heap.size < B.heap.size := NB.lt
    generalize (N i).lb.attrs = l at HC HF hl hf hal
    clear h sd hB kB hcB hcell h1 h2 h3 hnm
    generalize (pl i).ao = ao at c3 HC
    generalize (pl i).an = an at c3 HC hal hmk
    generalize (pl i).ac = ac at c3 HC
    subst hal
    go_enter Try.func52, Try.ntmps52
    go_upto_region 2 with fail
    rw [HB.out]
    clear hmk HB fr c3 c4 hneq
    obtain ⟨d3, d4, _⟩ := HC.out B (Kp.refl _ _)
    go_wp2_with fail
    go_loopw [3, 23] (fun _ k wr => ∃ j : Nat, j ≤ l.length ∧ k = .int .i64 (j : Int) ∧ Kp [w.heap.size] B wr ∧ Nt wr w.heap.size (l.take j)) (fun _ k _ => l.length - (intOf k).toNat)
    case atStart => exact ⟨0, Nat.zero_le _, rfl, Kp.refl _ _, NB⟩
    case round =>
      obtain ⟨j, hj, rfl, kr, nr⟩ := hrel
      clear d3 d4 NB
      by_cases hlt : j < l.length
      · obtain ⟨d3, d4, hr⟩ := HC.out wr kr
        obtain ⟨b1, o1, rfl, g1, g2⟩ := hr.get j hlt
        have hts := take_snoc hlt
        have hfa := (hf l[j] (List.getElem_mem hlt)).1
        have hj0 : (0 : Int) ≤ (j : Int) := by omega
        have hj1 : (j : Int) < (l.length : Int) := by omega
        have hb1 := hr.len
        generalize l[j] = a at g1 g2 hts hfa
        have hbw : b1 < wr.heap.size := block_lt_of_cell g1
        have kA : Kp [] wr (wr.alloc (.cells #[.string a.1, .string a.2] 70)).drew := ((Kp.refl _ _).alloc _).drew
        have nA : Nt (wr.alloc (.cells #[.string a.1, .string a.2] 70)).drew w.heap.size (l.take j) := nr.same (kA.block _ nr.lt (by simp))
        obtain ⟨w3, hrun, n3, k3⟩ := nA.put a hfa (by rw [List.length_take]; omega)
        rw [← hts] at n3
        have K3 : Hid (Kp [w.heap.size] B w3) := (kr.trans kA (fun x hx => by simp at hx)).trans k3 (fun x hx => Or.inl hx)
        have hgm := nr.lt
        have hS0 : ((wr.alloc (.cells #[.string a.1, .string a.2] 70)).drew).cell? ⟨g, o + i * 11 + 4, none⟩ = some (.map (some w.heap.size)) ∧ ((wr.alloc (.cells #[.string a.1, .string a.2] 70)).drew).cell? ⟨wr.heap.size, 0, none⟩ = some (.string a.1) := by
          refine ⟨((HC.out _ (kr.trans kA (fun x hx => by simp at hx))).2.1), ?_⟩
          exact (At.new wr #[.string a.1, .string a.2] 70).cell 0
        clear kr nr hr hb1 kA nA k3 HC
        go_wp2_with fail
        refine wp_region_g (S := fun V => V.cell? ⟨g, o + i * 11 + 4, none⟩ = some (.map (some w.heap.size)) ∧ V.cell? ⟨wr.heap.size, 0, none⟩ = some (.string a.1)) (T := [7]) (by kernel_rfl) hS0 (fun hHeld => ?_)
        refine g_pure 0 (some 27) (.move (.tmp 0)) ?_
        refine g_pure 1 (some 28) (.nilCheck (.tmp 27)) ?_
        refine g_pure 2 (some 29) (.fieldAddr 67 (.tmp 28) 4) ?_
        refine g_take 3 (some 30) (.load 64 (.tmp 29)) (by intro w hSw; (obtain ⟨q0, q1⟩ := hSw); go_simp; try with_reducible rfl) ?_
        refine g_pure 4 (some 31) (.fieldAddr 70 (.tmp 3) 0) ?_
        refine g_take 5 (some 32) (.load 9 (.tmp 31)) (by intro w hSw; (obtain ⟨q0, q1⟩ := hSw); go_simp; try with_reducible rfl) ?_
        refine g_pure 6 (some 33) (.build 96 #[]) ?_
        refine wpAnyG_free (by kernel_rfl) ?_
        refine wpAny_ready (rs := [7]) (by kernel_rfl) (by simp) ?_
        refine AllReady.cons (o := ⟨none, .mapUpdate 64 (.tmp 30) (.tmp 32) (.tmp 33), 0, _, _, none⟩) rfl (fun K hK => ?_) AllReady.nil
        refine step_updR (by rfl) _ _ _ 64 (by rfl) _ _ _ (by rfl) (by rfl) (by rfl) hrun ?_
        refine hK _ _ ?_
        clear hK K
        try simp only [Act.put, pu1, pu2, pu3]
        refine wpAny_done (by kernel_rfl) ?_ _
        go_wp2
        go_roundw
        case rel => exact ⟨j + 1, by omega, by go_num, K3.out, n3⟩
        case measure => simp [intOf]; omega
      · obtain rfl : j = l.length := by omega
        rw [List.take_length] at nr
        have X := HF.out _ kr nr
        have X2 : Hid _ := X
        clear X HF HC kr nr
        go_wp2
        go_end0
        exact ⟨rfl, X2.out⟩

end

end Go.Proofs.Ytpkppobkagdhkaa
