/-
  push of the laws.
-/
import Derived.Test.YtadcpkdnpfmphaaRb
import Derived.Test.YtadcpkdnpfmphaaStp
namespace Go.Proofs.Ytadcpkdnpfmphaa.Ints
open Go.RowKit
set_option linter.unusedSimpArgs false
set_option linter.unusedVariables false

/-- append, whose run is known, as one step of a region that draws its order. -/
theorem step_app2 {P : Program} {ops : Array Oper} {o : Oper} {a : Act} {w w' : World} {K : Act → World → Prop} {Q : Exit → Act → World → Prop} {E : Prop}
    (hg : o.guard = none) (s x : Operand) (t t' : TypeId) (hop : o.op = Op.call { callee := Callee.builtin Builtin.append, args := #[s, x], argTypes := #[t, t'] })
    (v u : Value) {v' : Value} (hs : a.eval s = v) (hx : a.eval x = u) (hrun : ∀ ty, (Builtin.append_ #[t, t'] ty #[v, u]).run P w = .ok v' w') (hK : K (a.put o.dst v') w') :
    if Region.wanted o (yielded ops a.tmps) = true then Oper.wp P o a w K Q else E := by
  have hw : Region.wanted o (yielded ops a.tmps) = true := by simp [Region.wanted, hg]
  rw [if_pos hw]
  have hr := hrun o.type
  unfold Oper.wp
  simp [execOp, hop, resolve, invoke, builtin, hs, hx, hr, Result.andThen]
  exact hK

theorem Sms.append' {w : World} {rs qs : List Raw} {zs ys : List Ent} (h : Sms w rs zs) (h2 : Sms w qs ys) : Sms w (rs ++ qs) (zs ++ ys) := Sms.append h2 h

theorem Hid.mk {p : Prop} (h : p) : Hid p := h

/-- A list that a call made, and the entries that it holds. -/
def Mz (w w' : World) (ao : Option Addr) (n c : Nat) (zs : List Ent) : Prop := ∃ rl, Ms w w' ao n c rl ∧ Sms w' rl zs

theorem Mz.ls {w w' : World} {ao : Option Addr} {n c : Nat} {zs : List Ent} (h : Mz w w' ao n c zs) : ∃ rl, Ls w' ao n c rl zs := by
  obtain ⟨rl, h1, h2⟩ := h
  exact ⟨rl, h1.rs, h2⟩

theorem Mz.off {w w' : World} {ao : Option Addr} {n c : Nat} {zs : List Ent} (h : Mz w w' ao n c zs) (B : List Nat) (hB : ∀ k, k ∈ B → k < w.heap.size) : Off B ao := by
  obtain ⟨rl, h1, _⟩ := h
  exact h1.off B hB

theorem Ms.ahead {w w1 w2 : World} {ao : Option Addr} {n c : Nat} {zs : List Raw} (k : Kp [] w w1) (h : Ms w1 w2 ao n c zs) : Ms w w2 ao n c zs := ⟨h.1, kt k h.2.1, fun x hx => Nat.le_trans k.size (h.2.2 x hx)⟩

theorem src_lit {w w1 : World} {g : Nat} {cur : Array Value} {x : Raw} (hc : cur = rc x) (h : w.heap[g]? = some (.cells cur 40 (0, 0))) : Src Try.prog 4 24 (.slice (some ⟨g, 0, none⟩) 1 1) 1 (cz [x]) w := by
  subst hc
  exact (lit_rs h).src

set_option maxRecDepth 100000 in
set_option maxHeartbeats 4000000 in
theorem lpush_any (w : World) (rl : List Raw) (zs : List Ent) (ao : Option Addr) (n c : Nat) (h : Int) (s : ByteArray) (a : List Att) (xo : Option Addr) (xn xc : Nat) (hr : Ls w ao n c rl zs) (hx : Sm w (false, h, s, xo, xn, xc) (false, h, s, a)) (hl : n < 90000) :
    Calls Try.prog 26 #[.slice ao n c, rv (false, h, s, xo, xn, xc)] w fun e w' => ∃ ao' n' c', e = .returned (.slice ao' n' c') ∧ Mz w w' ao' n' c' (psh zs h s a) ∧ Kp [] w w' := by
  obtain rfl : n = zs.length := hr.len
  obtain ⟨A, hA⟩ : ∃ A, scn (alk s a) (zs.take zs.length).reverse (-1) 0 = A := ⟨_, rfl⟩
  have hF := scn_from (alk s a) zs.reverse (-1) 0 0
  have hrg := scn_range (alk s a) zs.reverse (-1) 0
  rw [rev_all] at hA
  rw [hA] at hF hrg
  have HP1 : Hid (3 ≤ A.2 → 0 ≤ A.1 ∧ A.1 < zs.length ∧ psh zs h s a = rmv zs A.1 ++ [(false, h, s, a)]) := fun h3 => by
    have h4 := hrg.2.2.2 (by omega)
    refine ⟨h4.1, by simpa using h4.2, ?_⟩
    unfold psh
    rw [← hF.1, if_pos h3, ← hF.2 (by omega)]
  have HP2 : Hid (¬ 3 ≤ A.2 → psh zs h s a = zs ++ [(false, h, s, a)]) := fun h3 => by
    unfold psh
    rw [← hF.1, if_neg h3]
  have HA2 : Hid (A.2 ≤ zs.length) := by have := hrg.1; simp at this; exact this
  clear hF hrg
  have k1 : Kp [] w (w.alloc (.cells (rc (false, h, s, xo, xn, xc)) 40)) := (Kp.refl _ _).alloc _
  obtain ⟨w1, hw1⟩ : ∃ w1, w1 = w.alloc (.cells (rc (false, h, s, xo, xn, xc)) 40) := ⟨_, rfl⟩
  have hb1 : w1.heap[w.heap.size]? = some (.cells (rc (false, h, s, xo, xn, xc)) 40 (0, 0)) := by rw [hw1]; exact heap_new _ _
  rw [← hw1] at k1
  obtain ⟨gx, hgx⟩ : ∃ g, g = w.heap.size := ⟨_, rfl⟩
  rw [← hgx] at hb1
  have HX : Hid (∀ W, Kp [] w1 W → W.cell? ⟨gx, 0, none⟩ = some (.bool false) ∧ W.cell? ⟨gx, 1, none⟩ = some (.int .i64 h) ∧ W.cell? ⟨gx, 2, none⟩ = some (.string s) ∧ W.cell? ⟨gx, 3, none⟩ = some (.slice xo xn xc)) := fun W k => by
    have h2 := (k.block _ (lt_of hb1) (by simp)).trans hb1
    exact ⟨cell_of h2 0, cell_of h2 1, cell_of h2 2, cell_of h2 3⟩
  have HZ : Hid (∀ W, Kp [] w1 W → Rz W xo xn xc a ∧ xn ≤ 6 ∧ Sm W (false, h, s, xo, xn, xc) (false, h, s, a)) := fun W k => ⟨hx.2.2.2.1.kept (kt k1 k), by have h1 := hx.2.2.2.1.len; have h2 := hx.2.2.2.2.1; simp only at h1 h2; omega, hx.kept (kt k1 k)⟩
  have HL : Hid (∀ W, Kp [] w1 W → Ls W ao zs.length c rl zs) := fun W k => hr.kept (kt k1 k)
  have HBe : Hid (∀ W, Kp [] w1 W → Calls Try.prog 28 #[.slice ao zs.length c] W fun e w' => e = .returned (.int .i64 (beh zs : Nat)) ∧ w' = W) := fun W k => lbehind_any W rl zs ao zs.length c (hr.kept (kt k1 k)) (by omega)
  have HB1 : Hid (beh zs ≤ zs.length ∧ (∀ j (hj : j < zs.length), beh zs ≤ j → zs[j].1 = false) ∧ ∀ f n, scn (alk s a) (zs.take (beh zs)).reverse f n = (f, n)) := ⟨beh_le zs, fun j hj hb => beh_none zs j hj hb, fun f n => scn_stop _ zs f n⟩
  have hbl := beh_le zs
  generalize beh zs = be at HBe HB1 hbl
  have HHL : Hid (zs.length < 90000) := hl
  have hcap : zs.length ≤ c := hr.rs.cap
  have K1 : Hid (Kp [] w w1) := k1
  have HSr : Hid (∀ W, Kp [] w1 W → Src Try.prog 4 24 (.slice ao zs.length c) zs.length (cz rl) W) := fun W k => (hr.kept (kt k1 k)).rs.src
  -- what is left behind the loop
  have HFin : Hid (∀ w5 W ao' n' c' rl' zs', Kp [] w1 w5 → Ms w5 W ao' n' c' rl' → Kp [] w1 W → Sms w1 rl' zs' → zs' = psh zs h s a → Mz w W ao' n' c' (psh zs h s a) ∧ Kp [] w W) := fun w5 W ao' n' c' rl' zs' k5 M kW hs e => by
    refine ⟨⟨rl', Ms.ahead (kt k1 k5) M, ?_⟩, kt k1 kW⟩
    rw [← e]
    exact hs.kept kW
  have HS1 : Hid (Sms w1 rl zs ∧ Sms w1 [(false, h, s, xo, xn, xc)] [(false, h, s, a)]) := ⟨hr.sm.kept k1, Sms.one (hx.kept k1)⟩
  clear hr hx k1 hb1
  unfold rv
  simp only [rc] at hw1
  go_enter Try.func26, Try.ntmps26
  go_wp2_with fail
  rw [← hw1]
  rw [← hgx]
  clear hw1 hgx
  rw [← rev_all] at hA
  go_loopw [5, 6, 7] (fun f m i wr => ∃ (k : Nat) (f0 : Int) (m0 : Nat), k ≤ zs.length ∧ be ≤ k ∧ m0 + k ≤ zs.length ∧ f = .int .i64 f0 ∧ m = .int .i64 (m0 : Int) ∧ i = .int .i64 ((k : Int) - 1) ∧ Kp [] w1 wr ∧ scn (alk s a) (zs.take k).reverse f0 m0 = A) (fun _ _ i _ => (intOf i + 1).toNat)
  case atStart => exact ⟨zs.length, -1, 0, Nat.le_refl _, hbl, by omega, rfl, rfl, rfl, Kp.refl _ _, hA⟩
  case round =>
    obtain ⟨k, f0, m0, hk, hbk, hmk, rfl, rfl, rfl, kr, hp⟩ := hrel
    clear hA
    have HB := HBe.out wr kr
    by_cases hbe : be = k
    · subst hbe
      rw [HB1.out.2.2] at hp
      subst hp
      clear HBe HB1
      have hdq : decide ((be : Int) ≤ (be : Int) - 1) = false := decide_eq_false (by omega)
      have M0 := Ms.empty wr
      obtain ⟨a2, n2, c2, w2, run2, M2, ⟨a2a, rfl⟩, hn2, kk2⟩ := M0.app (HSr.out _ (kt kr M0.2.1)) (fun h => by simp at h) (by have := HHL.out; omega)
      have k2 : Kp [] w1 w2 := kt kr M2.2.1
      have KR : Hid (Kp [] w1 wr) := kr
      have HN2 : Hid (n2 = 0 + zs.length) := hn2
      clear kk2 M0 hn2 kr
      obtain ⟨x0, x1, x2, x3⟩ := HX.out w2 k2
      by_cases h3 : 3 ≤ m0
      · obtain ⟨b1, b2, b3⟩ := HP1.out h3
        simp only at b1 b2 b3
        have h3d : decide ((3 : Int) ≤ (m0 : Int)) = true := decide_eq_true (by omega)
        obtain ⟨k, rfl⟩ : ∃ k : Nat, f0 = (k : Int) := ⟨f0.toNat, by omega⟩
        have hk : k < zs.length := by omega
        have HB3 : Hid (psh zs h s a = zs.take k ++ zs.drop (k + 1) ++ [(false, h, s, a)]) := by
          have h9 := b3
          unfold rmv at h9
          rw [if_pos (by omega), show ((k : Int)).toNat = k by omega] at h9
          exact h9
        obtain ⟨w5, hw5⟩ : ∃ w5, w5 = w2 := ⟨_, rfl⟩
        have K5 : Hid (Kp [] w1 w5) := by rw [hw5]; exact k2
        obtain ⟨bb, of, _, _, _, hbo, _⟩ := (HL.out w2 k2).get k hk
        subst hbo
        obtain ⟨ko, hko⟩ : ∃ q, (if c = k + 1 then (some ⟨bb, of, none⟩ : Option Addr) else some ⟨bb, of + (k + 1) * 4, none⟩) = q := ⟨_, rfl⟩
        have CC : Hid (∀ W, Kp [] w5 W → W.cell? ⟨gx, 0, none⟩ = some (.bool false)) := fun W kW => (HX.out W (kt K5.out kW)).1
        have HST : Hid (∀ W, Kp [] w5 W → Src Try.prog 4 24 (.slice (some ⟨bb, of, none⟩) k c) k (cz (rl.take k)) W) := fun W kW => ((HL.out W (kt K5.out kW)).rs.take k (by omega)).src
        have HSD : Hid (∀ W, Kp [] w5 W → Src Try.prog 4 24 (.slice ko (zs.length - (k + 1)) (c - (k + 1))) (zs.length - (k + 1)) (cz (rl.drop (k + 1))) W) := fun W kW => ((HL.out W (kt K5.out kW)).rs.drop (k + 1) (by omega) ko hko.symm).src
        have HXX : Hid (∀ W, Kp [] w5 W → W.cell? ⟨gx, 0, none⟩ = some (.bool false) ∧ W.cell? ⟨gx, 1, none⟩ = some (.int .i64 h) ∧ W.cell? ⟨gx, 2, none⟩ = some (.string s) ∧ W.cell? ⟨gx, 3, none⟩ = some (.slice xo xn xc)) := fun W kW => HX.out W (kt K5.out kW)
        have q1 : (0 : Int) ≤ (k : Int) := by omega
        have q2 : (k : Int) ≤ (c : Int) := by omega
        have q3 : (k : Int) + 1 ≤ (zs.length : Int) := by omega
        have q4 : (k : Int) + 1 ≤ (c : Int) := by omega
        have q5 : (0 : Int) ≤ (k : Int) + 1 := by omega
        have q6 : (zs.length : Int) ≤ (c : Int) := by omega
        have qw : IntKind.i64.wrap ((k : Int) + 1) = (k : Int) + 1 := by rw [IntKind.wrap_i64]; have := HHL.out; omega
        have qn : ((k : Int) + 1).toNat = k + 1 := by omega
        clear b1 b2 b3 HP1 HP2 HL HX HZ HSr k2 M2 x0 x1 x2 x3
        go_wp2_with (first | (go_at_call 28; refine HB.mono ?_; rintro e w9 ⟨rfl, hw⟩; have hw2 := hw.symm; clear hw; subst hw2; clear HB) | (at_builtin; refine Lib.wpList_append_run _ rfl _ _ _ _ rfl _ _ rfl rfl _ _ (run2 _) ?_))
        rw [← hw5]
        clear hw5 run2 K1
        obtain ⟨A0, hA0⟩ : ∃ V, V = w5.drew := ⟨_, rfl⟩
        have KA0 : Hid (Kp [] w5 A0) := by rw [hA0]; exact (Kp.refl _ _).drew
        refine wp_region_g (S := fun V => V.cell? ⟨gx, 0, none⟩ = some (.bool false)) (T := []) (by kernel_rfl) (CC.out _ (Kp.refl [] w5).drew) (fun hHeld => ?_)
        rw [← hA0] at hHeld ⊢
        clear hA0
        refine g_pure 1 (some 45) (.move (.tmp 0)) ?_
        refine g_pure 2 (some 46) (.move (.tmp 5)) ?_
        refine g_pure 3 (some 47) (.slice 24 (.tmp 45) none (some (.tmp 46)) none) ?_
        refine g_pure 5 (some 49) (.move (.tmp 0)) ?_
        refine g_pure 6 (some 50) (.move (.tmp 5)) ?_
        refine g_pure 7 (some 51) (.binOp .add 3 (.tmp 50) (.const (.int .i64 1)) 3) ?_
        refine g_pure 8 (some 52) (.slice 24 (.tmp 49) (some (.tmp 51)) none none) ?_
        refine wpAnyG_ready (rs := [0]) (by kernel_rfl) (by simp) ?_
        refine AllReadyG.cons (o := ⟨some 44, .buildSlice 24 0 #[], 24, _, _, none⟩) rfl (fun K hK => ?_) AllReadyG.nil
        go_simp
        have MM := Ms.empty A0
        obtain ⟨A1, hU⟩ : ∃ V, V = World.alloc A0 (.cells #[] 40) := ⟨_, rfl⟩
        rw [← hU] at MM ⊢
        have KA1 : Hid (Kp [] w5 A1) := kt KA0.out MM.2.1
        have B0 : Hid (Kp [] w5 A0) := KA0
        obtain ⟨g0, hg0⟩ : ∃ g, A0.heap.size = g := ⟨_, rfl⟩
        rw [hg0] at MM ⊢
        clear hU hg0
        refine hK.out _ _ (CC.out _ KA1.out) (fun hHeld1 => ?_)
        clear hK K hHeld
        try simp only [Act.put, pu1, pu2, pu3]
        refine wpAnyG_ready (rs := [4]) (by kernel_rfl) (by simp) ?_
        refine AllReadyG.cons (o := ⟨some 48, .call { callee := .builtin .append, args := #[.tmp 44, .tmp 47], argTypes := #[24, 24] }, 24, _, _, none⟩) rfl (fun K hK => ?_) AllReadyG.nil
        obtain ⟨a4, n4, c4, A2, run, MN, ⟨aa4, rfl⟩, hn, kk⟩ := MM.app (HST.out _ KA1.out) (fun h => by simp at h) (by have := HHL.out; omega)
        refine step_app2 (by rfl) _ _ 24 24 (by rfl) _ _ (by rfl) (by rfl) run ?_
        have KA2 : Hid (Kp [] w5 A2) := kt B0.out MN.2.1
        clear MM
        have MM := MN
        have HNT : Hid (n4 = 0 + k) := hn
        clear run kk hn MN
        refine hK.out _ _ (CC.out _ KA2.out) (fun hHeld2 => ?_)
        clear hK K hHeld1
        try simp only [Act.put, pu1, pu2, pu3]
        refine wpAnyG_ready (rs := [9]) (by kernel_rfl) (by simp) ?_
        refine AllReadyG.cons (o := ⟨some 53, .call { callee := .builtin .append, args := #[.tmp 48, .tmp 52], argTypes := #[24, 24] }, 24, _, _, none⟩) rfl (fun K hK => ?_) AllReadyG.nil
        obtain ⟨a9, n9, c9, A3, run, MN, ⟨aa9, rfl⟩, hn, kk⟩ := MM.app (HSD.out _ KA2.out) (fun h => by simp at h) (by have := HHL.out; have := HNT.out; omega)
        refine step_app2 (by rfl) _ _ 24 24 (by rfl) _ _ (by rfl) (by rfl) run ?_
        have KA3 : Hid (Kp [] w5 A3) := kt B0.out MN.2.1
        clear MM
        have MM := MN
        have HND : Hid (n9 = n4 + (zs.length - (k + 1))) := hn
        clear run kk hn MN
        refine hK.out _ _ (CC.out _ KA3.out) (fun hHeld3 => ?_)
        clear hK K hHeld2
        try simp only [Act.put, pu1, pu2, pu3]
        refine g_pure 10 (some 8) (.assign (.tmp 53)) ?_
        refine wpAnyG_free (by kernel_rfl) ?_
        refine wpAny_done (by kernel_rfl) ?_ _
        skip
        obtain ⟨x0, x1, x2, x3⟩ := HXX.out A3 KA3.out
        have hxs := Ms.empty A3
        have kL : Kp [] A3 (A3.alloc (.cells #[.bool false, .int .i64 h, .string s, .slice xo xn xc] 40)) := (Kp.refl _ _).alloc _
        obtain ⟨a7, n7, c7, w7, run7, M7, ⟨a7a, rfl⟩, hn7, kk7⟩ := (MM.kept kL).app (src_lit (x := (false, h, s, xo, xn, xc)) (cur := #[.bool false, .int .i64 h, .string s, .slice xo xn xc]) (w1 := A3) rfl (heap_new _ _)) (fun h => by simp at h) (by have := HHL.out; have := HNT.out; have := HND.out; omega)
        have HR := HFin.out _ w7 _ _ _ _ _ (kt K5.out B0.out) M7 (kt (kt K5.out B0.out) M7.2.1) (((show Sms w1 ([] : List Raw) [] from trivial).append' (HS1.out.1.take k)).append' (HS1.out.1.drop (k + 1)) |>.append' HS1.out.2) (by rw [HB3.out]; simp)
        have HR2 := Hid.mk HR
        clear CC HST HSD HXX KA0 KA1 KA2 KA3 B0 MM HNT HND hxs kL M7 hn7 kk7 HR HFin HB3 HS1
        go_wp2_with (at_builtin; refine Lib.wpList_append_run _ rfl _ _ _ _ rfl _ _ rfl rfl _ _ (run7 _) ?_)
        go_ret
        exact ⟨_, _, _, rfl, HR2.out⟩
      · have h3d : decide ((3 : Int) ≤ (m0 : Int)) = false := decide_eq_false (by omega)
        have hps := HP2.out h3
        have kL : Kp [] w2 (w2.alloc (.cells #[.bool false, .int .i64 h, .string s, .slice xo xn xc] 40)) := (Kp.refl _ _).alloc _
        obtain ⟨a7, n7, c7, w7, run7, M7, ⟨a7a, rfl⟩, hn7, kk7⟩ := (M2.kept kL).app (src_lit (x := (false, h, s, xo, xn, xc)) (cur := #[.bool false, .int .i64 h, .string s, .slice xo xn xc]) (w1 := w2) rfl (heap_new _ _)) (fun h => by simp at h) (by have := HHL.out; have := HN2.out; omega)
        have HR := HFin.out _ w7 _ _ _ _ _ KR.out M7 (kt KR.out M7.2.1) (((show Sms w1 ([] : List Raw) [] from trivial).append' HS1.out.1).append' HS1.out.2) (by rw [hps]; simp)
        have HR2 := Hid.mk HR
        clear HL HX HZ HSr k2 M2 kL M7 hn7 kk7 HR HFin HS1 hps HP1 HP2
        go_wp2_with (first | (go_at_call 28; refine HB.mono ?_; rintro e w9 ⟨rfl, hw⟩; have hw2 := hw.symm; clear hw; subst hw2; clear HB) | (at_builtin; refine Lib.wpList_append_run _ rfl _ _ _ _ rfl _ _ rfl rfl _ _ (run2 _) ?_; clear run2) | (at_builtin; refine Lib.wpList_append_run _ rfl _ _ _ _ rfl _ _ rfl rfl _ _ (run7 _) ?_))
        go_ret
        exact ⟨_, _, _, rfl, HR2.out⟩
    · obtain ⟨j, rfl⟩ : ∃ j, k = j + 1 := ⟨k - 1, by omega⟩
      have hdq : decide ((be : Int) ≤ (j : Int)) = true := decide_eq_true (by omega)
      have hjl : j < zs.length := by omega
      have hmf := HB1.out.2.1 j hjl (by omega)
      obtain ⟨b, off, yo, yn, yc, rfl, c0, c1, c2, c3, hyz, hyf, _⟩ := (HL.out wr kr).get j hjl
      rw [rev_take zs j hjl] at hp
      have hlj : (zs.take j).reverse.length = j := by simp; omega
      generalize zs[j] = y at c0 c1 c2 c3 hp hyz hyf hmf
      obtain ⟨m, hh, nm, l⟩ := y
      simp only at hmf
      subst hmf
      unfold scn at hp
      rw [hlj] at hp
      simp only [Bool.false_eq_true, if_false] at hp
      unfold alk at hp
      simp only at hp c0 c1 c2 hyz
      have hyn : yn ≤ 6 := by rw [hyz.len]; exact hyf.1
      obtain ⟨hxz, hxn, _⟩ := HZ.out wr kr
      obtain ⟨x0, x1, x2, x3⟩ := HX.out wr kr
      have H2 : Hid (∀ W, Kp [] wr W → Calls Try.prog 17 #[.slice yo yn yc, .slice xo xn xc] W fun e w' => e = .returned (.bool (alike l a)) ∧ Kp [] W w') := fun W kW =>
        ref_alike_any W l a yo xo yn yc xn xc ((hyz.kept kW).rp) ((hxz.kept kW).rp) (by omega) (by omega)
      have HKr : Hid (Kp [] w1 wr) := kr
      have CC : Hid (∀ W, Kp [] wr W → W.cell? ⟨b, off + j * 4 + 2, none⟩ = some (.string nm) ∧ W.cell? ⟨b, off + j * 4 + 3, none⟩ = some (.slice yo yn yc) ∧ W.cell? ⟨gx, 2, none⟩ = some (.string s) ∧ W.cell? ⟨gx, 3, none⟩ = some (.slice xo xn xc)) := fun W kW => by
        refine ⟨?_, ?_, ?_, ?_⟩
        · rw [kW.cell (block_lt_of_cell c2) (by simp)]; exact c2
        · rw [kW.cell (block_lt_of_cell c3) (by simp)]; exact c3
        · rw [kW.cell (block_lt_of_cell x2) (by simp)]; exact x2
        · rw [kW.cell (block_lt_of_cell x3) (by simp)]; exact x3
      clear HBe HB1 HFin HS1 HP1 HP2 HL HX HZ HSr kr hyz hyf hxz x0 x1 c0 c1 K1
      unfold eqs at hp
      have hjj : ((j + 1 : Nat) : Int) - 1 = (j : Int) := by omega
      rw [hjj]
      cases hq : (nm.toList == s.toList)
      · rw [hq] at hp
        simp only [Bool.false_and, Bool.false_eq_true, if_false] at hp
        clear H2 CC
        go_wp2_with (first | (go_at_call 28; refine HB.mono ?_; rintro e w9 ⟨rfl, hw⟩; have hw2 := hw.symm; clear hw; subst hw2; clear HB))
        go_quiet (fail)
        go_wp2
        go_roundw
        case rel => exact ⟨j, f0, m0, by omega, by omega, by omega, rfl, rfl, by go_num, HKr.out.drewN _, hp⟩
        case measure => simp [intOf]
      · rw [hq, Bool.true_and] at hp
        generalize alike l a = z at H2 hp
        cases z
        · simp only [Bool.false_eq_true, if_false] at hp
          go_wp2_with (first | (go_at_call 28; refine HB.mono ?_; rintro e w9 ⟨rfl, hw⟩; have hw2 := hw.symm; clear hw; subst hw2; clear HB))
          go_region_held3 (fun V => V.cell? ⟨b, off + j * 4 + 2, none⟩ = some (.string nm) ∧ V.cell? ⟨b, off + j * 4 + 3, none⟩ = some (.slice yo yn yc) ∧ V.cell? ⟨gx, 2, none⟩ = some (.string s) ∧ V.cell? ⟨gx, 3, none⟩ = some (.slice xo xn xc))
            (first | with_reducible exact CC.out _ S1.out | exact CC.out _ (Kp.refl [] _).drew)
            (first | (go_at_call 17; refine (H2.out _ (Kp.refl [] _).drew).mono ?_; rintro e v1 ⟨rfl, kk⟩; have S1 : Hid (Kp [] wr v1) := kt (Kp.refl [] wr).drew kk; clear kk))
          all_goals (have KZ : Hid (Kp [] w1 v1) := kt HKr.out S1.out; clear S1 CC H2)
          all_goals go_wp2
          all_goals go_roundw
          case rel => exact ⟨j, f0, m0, by omega, by omega, by omega, rfl, rfl, by go_num, KZ.out, hp⟩
          case measure => simp [intOf]
        · simp only [if_true] at hp
          go_wp2_with (first | (go_at_call 28; refine HB.mono ?_; rintro e w9 ⟨rfl, hw⟩; have hw2 := hw.symm; clear hw; subst hw2; clear HB))
          go_region_held3 (fun V => V.cell? ⟨b, off + j * 4 + 2, none⟩ = some (.string nm) ∧ V.cell? ⟨b, off + j * 4 + 3, none⟩ = some (.slice yo yn yc) ∧ V.cell? ⟨gx, 2, none⟩ = some (.string s) ∧ V.cell? ⟨gx, 3, none⟩ = some (.slice xo xn xc))
            (first | with_reducible exact CC.out _ S1.out | exact CC.out _ (Kp.refl [] _).drew)
            (first | (go_at_call 17; refine (H2.out _ (Kp.refl [] _).drew).mono ?_; rintro e v1 ⟨rfl, kk⟩; have S1 : Hid (Kp [] wr v1) := kt (Kp.refl [] wr).drew kk; clear kk))
          all_goals (have KZ : Hid (Kp [] w1 v1) := kt HKr.out S1.out; clear S1 CC H2)
          all_goals go_wp2
          all_goals go_roundw
          case rel => exact ⟨j, j, m0 + 1, by omega, by omega, by omega, rfl, by go_num, by go_num, KZ.out, hp⟩
          case measure => simp [intOf]

end Go.Proofs.Ytadcpkdnpfmphaa.Ints
