/-
  Joined: RdM RdN RdO.
-/
import Derived.Test.YtgjkfpmhgidpaaaGreatRJ

/-
  The document's arena: Make, each way; More.
-/
namespace Go.Proofs.YtgjkfpmhgidpaaaGreat
open Go.RowKit Go.Maps Utf
set_option linter.unusedVariables false
set_option linter.unusedSimpArgs false

section
variable {tag : Nat → Nat} {w : World} {d : Nat} {q : Bool} {A : Ar}

set_option maxHeartbeats 1000000 in
theorem rmake_any (hD : Dn tag w d q A) (ful : A.Ful) (hn : A.n < 40000) (kind ns : Int) (name text : ByteArray) (l : List Att) (ao : Option Addr) (n' c' : Nat) (hr : Rp w ao n' c' l) (ha : n' ≤ 10000) :
    Calls Tryz.prog 21 #[.pointer (some ⟨d, 0, none⟩), .int .i64 kind, .int .i64 ns, .string name, .slice ao n' c', .string text] w fun e w' => e = .returned (.tuple #[.int .i64 (A.mkF kind ns name (uniq l) text).2.1, .int .i64 (A.mkF kind ns name (uniq l) text).2.2]) ∧ ∃ tag', Dn tag' w' d q (A.mkF kind ns name (uniq l) text).1 ∧ Dv tag w tag' w' := by
  have P0 : Hid (∀ V, Kp [] w V → ∃ tag', Dn tag' V d q A ∧ Dv tag w tag' V) := fun V k => ⟨tag, hD.kept k, Dv.of_kp0 k⟩
  obtain ⟨Z, hZ⟩ : ∃ Z, A.mkF kind ns name (uniq l) text = Z := ⟨_, rfl⟩
  rw [hZ]
  unfold Ar.mkF at hZ
  by_cases hk : kind < 2 ∨ 5 < kind
  · rw [if_pos hk] at hZ
    subst hZ
    by_cases hk2 : kind < 2
    · clear hD hk hr
      go_enter Tryz.func21, Tryz.ntmps21
      go_wp2
      go_ret2
      exact ⟨rfl, P0.out _ (Kp.refl _ _)⟩
    · have hk5 : 5 < kind := hk.resolve_left hk2
      clear hD hk hr
      go_enter Tryz.func21, Tryz.ntmps21
      go_wp2
      go_ret2
      exact ⟨rfl, P0.out _ (Kp.refl _ _)⟩
  rw [if_neg hk] at hZ
  by_cases e3 : kind = 3
  · subst e3
    rw [if_pos rfl] at hZ
    by_cases hbad : (ns ≠ 1 ∧ ns ≠ 2) ∨ name.size = 0
    · rw [if_pos hbad] at hZ
      subst hZ
      rcases hbad with ⟨e1, e2⟩ | e0
      · have t1 : (ns != 1) = true := bne_iff_ne.2 e1
        have t2 : (ns != 2) = true := bne_iff_ne.2 e2
        clear hD hk hr e1 e2
        go_enter Tryz.func21, Tryz.ntmps21
        go_wp2
        go_ret2
        exact ⟨rfl, P0.out _ ((Kp.refl _ _).alloc _)⟩
      · have t9 : name.toList.isEmpty = true := emp_yes e0
        clear hD hk hr e0
        by_cases e1 : ns = 1
        · subst e1
          go_enter Tryz.func21, Tryz.ntmps21
          go_wp2
          go_ret2
          exact ⟨rfl, P0.out _ ((Kp.refl _ _).alloc _)⟩
        · have t1 : (ns != 1) = true := bne_iff_ne.2 e1
          by_cases e2 : ns = 2
          · subst e2
            clear e1 t1
            go_enter Tryz.func21, Tryz.ntmps21
            go_wp2
            go_ret2
            exact ⟨rfl, P0.out _ ((Kp.refl _ _).alloc _)⟩
          · have t2 : (ns != 2) = true := bne_iff_ne.2 e2
            clear e1 e2
            go_enter Tryz.func21, Tryz.ntmps21
            go_wp2
            go_ret2
            exact ⟨rfl, P0.out _ ((Kp.refl _ _).alloc _)⟩
    · rw [if_neg hbad] at hZ
      obtain ⟨g, o, c, pl, h⟩ := hD
      have h0 : name.size ≠ 0 := fun e => hbad (.inr e)
      by_cases ht : tmplF (3, ns, name, uniq l, ⟨#[]⟩) = true
      · rw [if_pos ht] at hZ
        subst hZ
        obtain ⟨rfl, ht2⟩ : ns = 1 ∧ name = TMPL := by simp [tmplF, Lb.kind, Lb.ns, Lb.name] at ht; exact ht
        exact rmk_tmpl h ful hn 1 name text l ao n' c' hr ha rfl h0 ht2
      · rw [if_neg ht] at hZ
        subst hZ
        by_cases e1 : ns = 1
        · subst e1
          exact rmk_html h ful hn 1 name text l ao n' c' hr ha rfl h0 (fun e => ht (by simp [tmplF, Lb.kind, Lb.ns, Lb.name, e]))
        · obtain rfl : ns = 2 := by
            by_cases e2 : ns = 2
            · exact e2
            · exact absurd (.inl ⟨e1, e2⟩) hbad
          exact rmk_svg h ful hn 2 name text l ao n' c' hr ha rfl h0
  · rw [if_neg e3] at hZ
    obtain ⟨g, o, c, pl, h⟩ := hD
    by_cases e2 : kind = 2
    · subst e2
      rw [if_pos rfl] at hZ
      subst hZ
      exact rmk_two h ful hn ns name text l ao n' c' hr ha
    · rw [if_neg e2] at hZ
      subst hZ
      by_cases e4 : kind = 4
      · subst e4
        exact rmk_four h ful hn ns name text l ao n' c' hr ha
      · obtain rfl : kind = 5 := by omega
        exact rmk_five h ful hn ns name text l ao n' c' hr ha

theorem Rk.rp5 {Q : Nat → Prop} {ao : Option Addr} {n c : Nat} {l : List Att} (h : Rk Q 2 w ao n c (cs l)) : Rp w ao n c l := h.rp

set_option maxRecDepth 100000 in
set_option maxHeartbeats 1000000 in
theorem rmore_any (hD : Dn tag w d q A) (hn : A.n < 40000) (z : Int) (l : List Att) (ao : Option Addr) (n' c' : Nat) (hr : Rp w ao n' c' l) (ha : n' ≤ 10000) (hat : ∀ x, (A.lb x).attrs.length ≤ 10000) :
    Calls Tryz.prog 35 #[.pointer (some ⟨d, 0, none⟩), .int .i64 z, .slice ao n' c'] w fun e w' => e = .returned (.int .i64 (A.morF z (fun x => more x l)).2) ∧ ∃ tag', Dn tag' w' d q (A.morF z (fun x => more x l)).1 ∧ Dv tag w tag' w' := by
  have hD0 : Hid (∃ tag', Dn tag' w d q A ∧ Dv tag w tag' w) := ⟨tag, hD, Dv.refl tag w⟩
  obtain ⟨g, o, c, pl, h⟩ := hD
  have HT := rthere_any h z
  cases hx : A.there z with
  | false =>
    have eF : A.morF z (fun x => more x l) = (A, 22) := by unfold Ar.morF; rw [if_pos hx]
    rw [eF]
    rw [hx] at HT
    clear eF h hr
    go_enter Tryz.func35, Tryz.ntmps35
    go_wp2_with (go_at_call 61; refine (HT).mono ?_; rintro e w9 ⟨rfl, hw⟩; have hw2 := hw.symm; clear hw; subst hw2)
    go_ret
    exact ⟨rfl, hD0.out⟩
  | true =>
    rw [hx] at HT
    obtain ⟨x, rfl, hx'⟩ := there_nat hx
    have j1 : (0 : Int) ≤ (x : Int) := by omega
    have j2 : (x : Int) < (A.n : Int) := by omega
    have c0 := h.head.1
    have s0 := (h.seven hx').1
    by_cases hk : (A.lb x).kind = 3
    · have eF : A.morF (x : Int) (fun x => more x l) = (A.tell x (3, (A.lb x).ns, (A.lb x).name, more (A.lb x).attrs l, (A.lb x).text), 0) := by unfold Ar.morF; rw [if_neg (by rw [hx]; simp), Int.toNat_natCast, if_neg (by rw [hk]; simp)]
      rw [eF]
      clear eF
      have s4 := (h.seven hx').2.2.2.2.1
      have rA := h.att x hx'
      have hl4 := rA.len
      rw [cs_len] at hl4
      have hl5 : (pl x).1.2.1 ≤ 10000 := by have := hat x; omega
      have HM : Hid (∀ V, Kp [] w V → Calls Tryz.prog 73 #[.slice (pl x).1.1 (pl x).1.2.1 (pl x).1.2.2, .slice ao n' c'] V fun e w' => ∃ ao' n'' c'', e = .returned (.slice ao' n'' c'') ∧ Mp V w' ao' n'' c'' (more (A.lb x).attrs l)) := fun V kV => ref_more_any V _ _ _ _ _ _ _ _ ((rA.keep (kV.sms (fun x _ hx => by simp at hx))).rp) (hr.kept kV) hl5 ha
      have hdg := h.ne
      have HZ : Hid (∀ V U a5 n5 c5, Kp [] w V → Mp V U a5 n5 c5 (more (A.lb x).attrs l) → (U.cell? ⟨d, 0, none⟩ = some (.slice (some ⟨g, o, none⟩) A.n c) ∧ U.cell? ⟨g, o + x * 7 + 4, none⟩ = some (.slice (pl x).1.1 (pl x).1.2.1 (pl x).1.2.2) ∧ ∀ j, U.frozen? ⟨g, j, none⟩ = false) ∧ ∃ tag', Dn tag' (U.setCell ⟨g, o + x * 7 + 4, none⟩ (.slice a5 n5 c5)) d q (A.tell x (3, (A.lb x).ns, (A.lb x).name, more (A.lb x).attrs l, (A.lb x).text)) ∧ Dv tag w tag' (U.setCell ⟨g, o + x * 7 + 4, none⟩ (.slice a5 n5 c5))) := fun V U a5 n5 c5 kV M => by
        have kU : Kp [] w U := kV.trans M.kp (fun x hx => Or.inl hx)
        have hU := h.kept kU
        refine ⟨⟨hU.head.1, (hU.seven hx').2.2.2.2.1, hU.free⟩, ?_⟩
        have h1 := h.fresh kU
        have rN : Rk (Q5 (tg5 tag w)) 2 U a5 n5 c5 (cs (more (A.lb x).attrs l)) := (M.rk0 kV).mono (fun z hz hq => if_neg (by omega))
        obtain ⟨P, hP⟩ : ∃ P : Nat → Dp, P = fun y => if y = x then ((a5, n5, c5), (pl x).2) else pl y := ⟨_, rfl⟩
        have Pp : P x = ((a5, n5, c5), (pl x).2) := by rw [hP]; simp
        have Pn : ∀ j, j ≠ x → P j = pl j := fun j hj => by rw [hP]; simp [hj]
        have P2 : ∀ j, (P j).2 = (pl j).2 := fun j => by
          by_cases e : j = x
          · rw [e, Pp]
          · rw [Pn j e]
        have lx : (A.tell x (3, (A.lb x).ns, (A.lb x).name, more (A.lb x).attrs l, (A.lb x).text)).lb x = (3, (A.lb x).ns, (A.lb x).name, more (A.lb x).attrs l, (A.lb x).text) := if_pos rfl
        have ln : ∀ j, j ≠ x → (A.tell x (3, (A.lb x).ns, (A.lb x).name, more (A.lb x).attrs l, (A.lb x).text)).lb j = A.lb j := fun j hj => if_neg hj
        have h2 := h1.set (A' := A.tell x (3, (A.lb x).ns, (A.lb x).name, more (A.lb x).attrs l, (A.lb x).text)) (pl' := P) hx' (k := 4) (by omega) (.slice a5 n5 c5) rfl (by rw [lx, Pp]; simp [dl, Lb.kind, Lb.ns, Lb.name, Lb.text] at hk ⊢; exact ⟨hk.symm, rfl⟩) (fun j hj hne => by rw [ln j hne, Pn j hne]; rfl) (fun j hj => by
          by_cases e : j = x
          · subst e; rw [Pp, lx]; exact rN
          · rw [Pn j e, ln j e]; exact h1.att j hj) (fun j hj => by rw [P2 j]; exact h1.kid j hj) (fun j hj => by rw [P2 j]; exact h1.kf j hj)
        exact dn_turn h (kpg (kU.mono (T := [g]) (fun x hx => by simp at hx)) _ _) ⟨P, h2⟩
      rw [hk] at s0
      have HC : Hid (∀ V, Kp [] w V → V.cell? ⟨d, 0, none⟩ = some (.slice (some ⟨g, o, none⟩) A.n c) ∧ V.cell? ⟨g, o + x * 7 + 4, none⟩ = some (.slice (pl x).1.1 (pl x).1.2.1 (pl x).1.2.2)) := fun V k => ⟨(h.kept k).head.1, ((h.kept k).seven hx').2.2.2.2.1⟩
      clear h hr rA hD0 hl4 hl5 s4 hk
      generalize (pl x).1.1 = xo at *
      generalize (pl x).1.2.1 = xn at *
      generalize (pl x).1.2.2 = xc at *
      generalize A.tell x (3, (A.lb x).ns, (A.lb x).name, more (A.lb x).attrs l, (A.lb x).text) = AP at *
      generalize more (A.lb x).attrs l = ML at *
      go_enter Tryz.func35, Tryz.ntmps35
      go_upto_region 5 with (go_at_call 61; refine (HT).mono ?_; rintro e w9 ⟨rfl, hw⟩; have hw2 := hw.symm; clear hw; subst hw2)
      obtain ⟨U0, hU0⟩ : ∃ V, V = w.drew := ⟨_, rfl⟩
      have k0 : Kp [] w U0 := by rw [hU0]; exact (Kp.refl _ _).drew
      refine wp_region_g (S := fun V => V.cell? ⟨d, 0, none⟩ = some (.slice (some ⟨g, o, none⟩) A.n c) ∧ V.cell? ⟨g, o + x * 7 + 4, none⟩ = some (.slice xo xn xc)) (T := [17]) (by kernel_rfl) (HC.out _ (Kp.refl _ _).drew) (fun hHeld => ?_)
      rw [← hU0] at hHeld ⊢
      clear hU0
      refine g_pure 0 (oi := ⟨some 20, .move (.tmp 0), 24, "ref.go:212", #[], none⟩) (v := ?_) (Or.inl ⟨by rfl, ?_⟩) ?_
      rotate_left
      · (intro w; go_simp; try with_reducible rfl)
      simp only [Act.put, pu1, pu2, pu3]
      refine g_pure 1 (oi := ⟨some 21, .nilCheck (.tmp 20), 0, "ref.go:212", #[⟨0, .data⟩], none⟩) (v := ?_) (Or.inl ⟨by rfl, ?_⟩) ?_
      rotate_left
      · (intro w; go_simp; try with_reducible rfl)
      simp only [Act.put, pu1, pu2, pu3]
      refine g_pure 2 (oi := ⟨some 22, .fieldAddr 62 (.tmp 21) 0, 0, "ref.go:212", #[⟨1, .data⟩], none⟩) (v := ?_) (Or.inl ⟨by rfl, ?_⟩) ?_
      rotate_left
      · (intro w; go_simp; try with_reducible rfl)
      simp only [Act.put, pu1, pu2, pu3]
      refine g_takeC 3 (oi := ⟨some 23, .load 60 (.tmp 22), 60, "ref.go:212", #[⟨2, .data⟩], none⟩) (v := ?_) (Or.inl ⟨by rfl, ?_⟩) ?_
      rotate_left
      · (intro w hSw; (obtain ⟨q1, q2⟩ := hSw); go_simp; try with_reducible rfl)
      simp only [Act.put, pu1, pu2, pu3]
      refine g_pure 4 (oi := ⟨some 24, .move (.tmp 1), 3, "ref.go:212", #[], none⟩) (v := ?_) (Or.inl ⟨by rfl, ?_⟩) ?_
      rotate_left
      · (intro w; go_simp; try with_reducible rfl)
      simp only [Act.put, pu1, pu2, pu3]
      refine g_pure 5 (oi := ⟨some 25, .move (.tmp 0), 24, "ref.go:212", #[], none⟩) (v := ?_) (Or.inl ⟨by rfl, ?_⟩) ?_
      rotate_left
      · (intro w; go_simp; try with_reducible rfl)
      simp only [Act.put, pu1, pu2, pu3]
      refine g_pure 6 (oi := ⟨some 26, .nilCheck (.tmp 25), 0, "ref.go:212", #[⟨5, .data⟩], none⟩) (v := ?_) (Or.inl ⟨by rfl, ?_⟩) ?_
      rotate_left
      · (intro w; go_simp; try with_reducible rfl)
      simp only [Act.put, pu1, pu2, pu3]
      refine g_pure 7 (oi := ⟨some 27, .fieldAddr 62 (.tmp 26) 0, 0, "ref.go:212", #[⟨6, .data⟩], none⟩) (v := ?_) (Or.inl ⟨by rfl, ?_⟩) ?_
      rotate_left
      · (intro w; go_simp; try with_reducible rfl)
      simp only [Act.put, pu1, pu2, pu3]
      refine g_takeC 8 (oi := ⟨some 28, .load 60 (.tmp 27), 60, "ref.go:212", #[⟨7, .data⟩], none⟩) (v := ?_) (Or.inl ⟨by rfl, ?_⟩) ?_
      rotate_left
      · (intro w hSw; (obtain ⟨q1, q2⟩ := hSw); go_simp; try with_reducible rfl)
      simp only [Act.put, pu1, pu2, pu3]
      refine g_pure 9 (oi := ⟨some 29, .move (.tmp 1), 3, "ref.go:212", #[], none⟩) (v := ?_) (Or.inl ⟨by rfl, ?_⟩) ?_
      rotate_left
      · (intro w; go_simp; try with_reducible rfl)
      simp only [Act.put, pu1, pu2, pu3]
      refine g_pure 10 (oi := ⟨some 30, .indexAddr 60 (.tmp 28) (.tmp 29), 0, "ref.go:212", #[⟨8, .data⟩, ⟨9, .data⟩], none⟩) (v := ?_) (Or.inl ⟨by rfl, ?_⟩) ?_
      rotate_left
      · (intro w; go_simp; try with_reducible rfl)
      simp only [Act.put, pu1, pu2, pu3]
      refine g_pure 11 (oi := ⟨some 31, .fieldAddr 59 (.tmp 30) 4, 0, "ref.go:212", #[⟨10, .data⟩], none⟩) (v := ?_) (Or.inl ⟨by rfl, ?_⟩) ?_
      rotate_left
      · (intro w; go_simp; try with_reducible rfl)
      simp only [Act.put, pu1, pu2, pu3]
      refine g_takeC 12 (oi := ⟨some 32, .load 26 (.tmp 31), 26, "ref.go:212", #[⟨11, .data⟩], none⟩) (v := ?_) (Or.inl ⟨by rfl, ?_⟩) ?_
      rotate_left
      · (intro w hSw; (obtain ⟨q1, q2⟩ := hSw); go_simp; try with_reducible rfl)
      simp only [Act.put, pu1, pu2, pu3]
      refine g_pure 13 (oi := ⟨some 33, .move (.tmp 2), 26, "ref.go:212", #[], none⟩) (v := ?_) (Or.inl ⟨by rfl, ?_⟩) ?_
      rotate_left
      · (intro w; go_simp; try with_reducible rfl)
      simp only [Act.put, pu1, pu2, pu3]
      refine wpAnyG_ready (rs := [14]) (by kernel_rfl) (by simp) ?_
      refine AllReadyG.cons (o := ⟨some 34, .call { callee := .value (.func 73), args := #[.tmp 32, .tmp 33], argTypes := #[26, 26] }, 26, "ref.go:212", #[⟨12, .data⟩, ⟨13, .data⟩], none⟩) rfl (fun K hK => ?_) AllReadyG.nil
      go_simp
      go_at_call 73
      refine (HM.out _ k0).mono ?_
      rintro e U1 ⟨a5, n5, c5, rfl, M5⟩
      go_wp2_with fail
      obtain ⟨⟨z1, z2, z3⟩, z9⟩ := HZ.out _ _ _ _ _ k0 M5
      refine hK.out _ _ ⟨z1, z2⟩ (fun hHeld1 => ?_)
      clear hK K hHeld
      try simp only [Act.put, pu1, pu2, pu3]
      refine g_pure 15 (oi := ⟨some 35, .indexAddr 60 (.tmp 23) (.tmp 24), 0, "ref.go:212", #[⟨3, .data⟩, ⟨4, .data⟩, ⟨0, .phase⟩, ⟨1, .phase⟩, ⟨2, .phase⟩, ⟨3, .phase⟩, ⟨4, .phase⟩, ⟨5, .phase⟩, ⟨6, .phase⟩, ⟨7, .phase⟩, ⟨8, .phase⟩, ⟨9, .phase⟩, ⟨10, .phase⟩, ⟨11, .phase⟩, ⟨12, .phase⟩, ⟨13, .phase⟩, ⟨14, .phase⟩], none⟩) (v := ?_) (Or.inl ⟨by rfl, ?_⟩) ?_
      rotate_left
      · (intro w; go_simp; try with_reducible rfl)
      simp only [Act.put, pu1, pu2, pu3]
      refine g_pure 16 (oi := ⟨some 36, .fieldAddr 59 (.tmp 35) 4, 0, "ref.go:212", #[⟨15, .data⟩, ⟨0, .phase⟩, ⟨1, .phase⟩, ⟨2, .phase⟩, ⟨3, .phase⟩, ⟨4, .phase⟩, ⟨5, .phase⟩, ⟨6, .phase⟩, ⟨7, .phase⟩, ⟨8, .phase⟩, ⟨9, .phase⟩, ⟨10, .phase⟩, ⟨11, .phase⟩, ⟨12, .phase⟩, ⟨13, .phase⟩, ⟨14, .phase⟩], none⟩) (v := ?_) (Or.inl ⟨by rfl, ?_⟩) ?_
      rotate_left
      · (intro w; go_simp; try with_reducible rfl)
      simp only [Act.put, pu1, pu2, pu3]
      refine wpAnyG_free (by kernel_rfl) ?_
      refine wpAny_ready (rs := [17]) (by kernel_rfl) (by simp) ?_
      refine AllReady.cons (o := ⟨none, .store 26 (.tmp 36) (.tmp 34), 0, "ref.go:212", #[⟨16, .data⟩, ⟨14, .data⟩, ⟨14, .chain⟩, ⟨0, .phase⟩, ⟨1, .phase⟩, ⟨2, .phase⟩, ⟨3, .phase⟩, ⟨4, .phase⟩, ⟨5, .phase⟩, ⟨6, .phase⟩, ⟨7, .phase⟩, ⟨8, .phase⟩, ⟨9, .phase⟩, ⟨10, .phase⟩, ⟨11, .phase⟩, ⟨12, .phase⟩, ⟨13, .phase⟩, ⟨14, .phase⟩], none⟩) rfl (fun K hK => ?_) AllReady.nil
      go_simp
      refine hK _ _ ?_
      clear hK K
      try simp only [Act.put, pu1, pu2, pu3]
      refine wpAny_done (by kernel_rfl) ?_ _
      have ZZ : Hid _ := z9
      clear z9
      go_wp2
      go_ret
      exact ⟨rfl, ZZ.out⟩
    · have eF : A.morF (x : Int) (fun x => more x l) = (A, 23) := by unfold Ar.morF; rw [if_neg (by rw [hx]; simp), Int.toNat_natCast, if_pos hk]
      rw [eF]
      have t3 : ((A.lb x).kind != 3) = true := bne_iff_ne.2 hk
      clear eF h hr hk
      generalize (A.lb x).kind = kd at *
      go_enter Tryz.func35, Tryz.ntmps35
      go_wp2_with (go_at_call 61; refine (HT).mono ?_; rintro e w9 ⟨rfl, hw⟩; have hw2 := hw.symm; clear hw; subst hw2)
      go_ret
      exact ⟨rfl, hD0.out⟩

end

end Go.Proofs.YtgjkfpmhgidpaaaGreat

/-
  The document's arena: text, Write, WriteBefore.
-/
namespace Go.Proofs.YtgjkfpmhgidpaaaGreat
open Go.RowKit Go.Maps Utf
set_option linter.unusedVariables false
set_option linter.unusedSimpArgs false

section
variable {tag : Nat → Nat} {w : World} {d : Nat} {q : Bool} {A : Ar}

/-- A new text, and its place. -/
theorem rnewtext (hD : Dn tag w d q A) (ful : A.Ful) (hn : A.n < 40000) (p i : Nat) (hp : p < A.n) (hi : i ≤ (A.kids p).length) (s : ByteArray) :
    (Hid (∀ V, Kp [] w V → Calls Tryz.prog 21 #[.pointer (some ⟨d, 0, none⟩), .int .i64 4, .int .i64 0, .string ⟨#[]⟩, .slice none 0 0, .string s] V fun e w' => e = .returned (.tuple #[.int .i64 (A.n : Int), .int .i64 0]) ∧ ∃ tag', Dn tag' w' d q (A.new (4, 0, ⟨#[]⟩, [], s)) ∧ Dv tag w tag' w')) ∧
    (Hid (∀ tag1 V, Dn tag1 V d q (A.new (4, 0, ⟨#[]⟩, [], s)) → Dv tag w tag1 V → Calls Tryz.prog 65 #[.pointer (some ⟨d, 0, none⟩), .int .i64 (p : Int), .int .i64 (i : Int), .int .i64 (A.n : Int)] V fun e w' => e = .returned (.tuple #[]) ∧ ∃ tag', Dn tag' w' d q ((A.new (4, 0, ⟨#[]⟩, [], s)).put p i A.n) ∧ Dv tag w tag' w')) := by
  refine ⟨fun V kV => ?_, fun tag1 V dn dv => ?_⟩
  · have := rmake_any (hD.kept kV) ful hn 4 0 ⟨#[]⟩ s [] none 0 0 (Rp.of_own (e := 0) (m := 0) ⟨rfl, Or.inl ⟨rfl, rfl⟩⟩) (by omega)
    rw [show A.mkF 4 0 ⟨#[]⟩ (uniq []) s = (A.new (4, 0, ⟨#[]⟩, [], s), (A.n : Int), 0) from rfl] at this
    refine this.mono ?_
    rintro e w' ⟨rfl, tag', a, b⟩
    exact ⟨rfl, tag', a, (Dv.of_kp0 kV).trans b⟩
  · obtain ⟨g, o, c, pl, h⟩ := dn
    refine (rput_any h (ful.toOk.new _) (show A.n + 1 < 50000 by omega) p A.n i (show p < A.n + 1 by omega) (show A.n < A.n + 1 by omega) hi).mono ?_
    rintro e w' ⟨rfl, k6, h6⟩
    obtain ⟨tag6, a6, v6⟩ := dn_turn h k6 h6
    exact ⟨rfl, tag6, a6, dv.trans v6⟩

set_option maxRecDepth 100000 in
set_option maxHeartbeats 1000000 in
theorem rtext_any (hD : Dn tag w d q A) (ful : A.Ful) (hn : A.n < 40000) (p i : Nat) (hp : p < A.n) (hi : i ≤ (A.kids p).length) (s : ByteArray) (hs : s.size ≤ 1000000) (htx : ∀ x, (A.lb x).text.size ≤ 900000) :
    Calls Tryz.prog 70 #[.pointer (some ⟨d, 0, none⟩), .int .i64 (p : Int), .int .i64 (i : Int), .string s] w fun e w' => e = .returned (.tuple #[]) ∧ ∃ tag', Dn tag' w' d q (A.txt p i s) ∧ Dv tag w tag' w' := by
  have hD0 : Hid (∃ tag', Dn tag' w d q A ∧ Dv tag w tag' w) := ⟨tag, hD, Dv.refl tag w⟩
  obtain ⟨HMk, HPu⟩ := rnewtext hD ful hn p i hp hi s
  obtain ⟨g, o, c, pl, h⟩ := hD
  have c0 := h.head.1
  have s0 := (h.seven hp).1
  have j1 : (0 : Int) ≤ (p : Int) := by omega
  have j2 : (p : Int) < (A.n : Int) := by omega
  by_cases h1 : s.size = 0
  · have eF : A.txt p i s = A := by unfold Ar.txt; rw [if_pos (.inl h1)]
    rw [eF]
    have t9 : s.toList.isEmpty = true := emp_yes h1
    clear eF h c0 s0 HMk HPu
    go_enter Tryz.func70, Tryz.ntmps70
    go_wp2
    (try simp only [Exit.inBlock, Exit.then]); refine bodyPost_ret (results_none rfl _ _ _) rfl ?_
    exact ⟨rfl, hD0.out⟩
  have t9 : s.toList.isEmpty = false := ne_empty h1
  by_cases h2 : (A.lb p).kind = 1
  · have eF : A.txt p i s = A := by unfold Ar.txt; rw [if_pos (.inr h2)]
    rw [eF]
    rw [h2] at s0
    clear eF h HMk HPu
    go_enter Tryz.func70, Tryz.ntmps70
    go_wp2
    (try simp only [Exit.inBlock, Exit.then]); refine bodyPost_ret (results_none rfl _ _ _) rfl ?_
    exact ⟨rfl, hD0.out⟩
  have t1 : ((A.lb p).kind == 1) = false := beq_false_of_ne h2
  by_cases hi0 : i = 0
  · subst hi0
    have eF : A.txt p 0 s = (A.new (4, 0, ⟨#[]⟩, [], s)).put p 0 A.n := by unfold Ar.txt; rw [if_neg (by omega)]; simp
    rw [eF]
    generalize (A.lb p).kind = kd at *
    clear eF h hD0
    rw [show ((0 : Nat) : Int) = 0 from rfl] at *
    go_enter Tryz.func70, Tryz.ntmps70
    go_wp2_with (first | (go_at_call 21; refine (HMk.out _ (Kp.refl _ _)).mono ?_; rintro e w1 ⟨rfl, tag1, a1, v1⟩) | (go_at_call 65; refine (HPu.out _ _ a1 v1).mono ?_; rintro e w2 ⟨rfl, z2⟩))
    go_end0
    exact ⟨rfl, z2⟩
  obtain ⟨j, hj⟩ : ∃ j, i = j + 1 := ⟨i - 1, by omega⟩
  have hjl : j < (A.kids p).length := by omega
  have hb : (A.kids p).length ≤ A.n := Ar.pig _ _ (ful.toOk.one p) (fun y hy => (ful.toOk.kid_lt hy).1)
  obtain ⟨b7, o7, hk7, e7⟩ := (h.kid p hp).iv_at j hjl
  have hx' : (A.kids p)[j] < A.n := (ful.toOk.kid_lt (List.getElem_mem hjl)).1
  have hkj : (A.kids p)[j]? = some (A.kids p)[j] := List.getElem?_eq_getElem hjl
  have c5 := (h.seven hp).2.2.2.2.2.1
  rw [h.klen hp, hk7] at c5
  have hwr : IntKind.i64.wrap ((i : Int) - 1) = (j : Int) := by
    rw [hj]
    simp [IntKind.wrap, IntKind.bits, IntKind.signed]
    omega
  have i1 : (0 : Int) < (i : Int) := by omega
  have i2 : (0 : Int) ≤ (j : Int) := by omega
  have i3 : (j : Int) < ((A.kids p).length : Int) := by omega
  have eT : A.txt p i s = if (A.lb (A.kids p)[j]).kind = 4 then A.tell (A.kids p)[j] (4, (A.lb (A.kids p)[j]).ns, (A.lb (A.kids p)[j]).name, (A.lb (A.kids p)[j]).attrs, (A.lb (A.kids p)[j]).text ++ s) else (A.new (4, 0, ⟨#[]⟩, [], s)).put p i A.n := by
    unfold Ar.txt
    rw [if_neg (by omega), if_neg hi0, show i - 1 = j by omega, hkj]
  rw [eT]
  clear eT hkj
  generalize (A.kids p)[j] = x at *
  have y1 : (0 : Int) ≤ (x : Int) := by omega
  have y2 : (x : Int) < (A.n : Int) := by omega
  have s0x := (h.seven hx').1
  by_cases h4 : (A.lb x).kind = 4
  · rw [if_pos h4]
    have s3 := (h.seven hx').2.2.2.1
    have hdg := h.ne
    have HZ : Hid (∀ U, Kp [] w U → (∀ j, U.frozen? ⟨g, j, none⟩ = false) ∧ ∃ tag', Dn tag' (U.setCell ⟨g, o + x * 7 + 3, none⟩ (.string ((A.lb x).text ++ s))) d q (A.tell x (4, (A.lb x).ns, (A.lb x).name, (A.lb x).attrs, (A.lb x).text ++ s)) ∧ Dv tag w tag' (U.setCell ⟨g, o + x * 7 + 3, none⟩ (.string ((A.lb x).text ++ s)))) := fun U kU => by
      have h1 := h.fresh kU
      refine ⟨h1.free, ?_⟩
      have lx : (A.tell x (4, (A.lb x).ns, (A.lb x).name, (A.lb x).attrs, (A.lb x).text ++ s)).lb x = (4, (A.lb x).ns, (A.lb x).name, (A.lb x).attrs, (A.lb x).text ++ s) := if_pos rfl
      have ln : ∀ j, j ≠ x → (A.tell x (4, (A.lb x).ns, (A.lb x).name, (A.lb x).attrs, (A.lb x).text ++ s)).lb j = A.lb j := fun j hj => if_neg hj
      have h2 := h1.set (A' := A.tell x (4, (A.lb x).ns, (A.lb x).name, (A.lb x).attrs, (A.lb x).text ++ s)) (pl' := pl) hx' (k := 3) (by omega) (.string ((A.lb x).text ++ s)) rfl (by rw [lx]; simp [dl, Lb.kind, Lb.ns, Lb.name, Lb.text] at h4 ⊢; exact ⟨h4.symm, rfl⟩) (fun j hj hne => by rw [ln j hne]; rfl) (fun j hj => by
        by_cases e : j = x
        · subst e; rw [lx]; exact h1.att j hj
        · rw [ln j e]; exact h1.att j hj) h1.kid h1.kf
      exact dn_turn h (kpg (kU.mono (T := [g]) (fun x hx => by simp at hx)) _ _) ⟨pl, h2⟩
    rw [h4] at s0x
    have z9 := htx x
    generalize A.tell x (4, (A.lb x).ns, (A.lb x).name, (A.lb x).attrs, (A.lb x).text ++ s) = AP at *
    generalize (A.lb p).kind = kd at *
    generalize (A.lb x).text = tx at *
    have hS1 : (World.drew w).cell? ⟨d, 0, none⟩ = some (.slice (some ⟨g, o, none⟩) A.n c) ∧ (World.drew w).cell? ⟨g, o + x * 7 + 3, none⟩ = some (.string tx) := ⟨c0, s3⟩
    generalize (A.kids p).length = m at *
    clear h ful HMk HPu hD0 h4 h2 htx hj hjl hk7 hi0 hi hb
    go_enter Tryz.func70, Tryz.ntmps70
    go_upto_region 4 with fail
    have z8 : ¬ 9223372036854775807 < tx.size + s.size := by omega
    obtain ⟨U0, hU0⟩ : ∃ V, V = w.drew := ⟨_, rfl⟩
    obtain ⟨fr, z7⟩ := HZ.out U0 (by rw [hU0]; exact (Kp.refl _ _).drew)
    have Z7 : Hid _ := z7
    clear z7
    refine wp_region_g (S := fun V => V.cell? ⟨d, 0, none⟩ = some (.slice (some ⟨g, o, none⟩) A.n c) ∧ V.cell? ⟨g, o + x * 7 + 3, none⟩ = some (.string tx)) (T := [17]) (by kernel_rfl) hS1 (fun hHeld => ?_)
    rw [← hU0] at hHeld ⊢
    clear hU0
    refine g_pure 0 (oi := ⟨some 47, .move (.tmp 0), 24, "ref.go:175", #[], none⟩) (v := ?_) (Or.inl ⟨by rfl, ?_⟩) ?_
    rotate_left
    · (intro w; go_simp; try with_reducible rfl)
    simp only [Act.put, pu1, pu2, pu3]
    refine g_pure 1 (oi := ⟨some 48, .nilCheck (.tmp 47), 0, "ref.go:175", #[⟨0, .data⟩], none⟩) (v := ?_) (Or.inl ⟨by rfl, ?_⟩) ?_
    rotate_left
    · (intro w; go_simp; try with_reducible rfl)
    simp only [Act.put, pu1, pu2, pu3]
    refine g_pure 2 (oi := ⟨some 49, .fieldAddr 62 (.tmp 48) 0, 0, "ref.go:175", #[⟨1, .data⟩], none⟩) (v := ?_) (Or.inl ⟨by rfl, ?_⟩) ?_
    rotate_left
    · (intro w; go_simp; try with_reducible rfl)
    simp only [Act.put, pu1, pu2, pu3]
    refine g_takeC 3 (oi := ⟨some 50, .load 60 (.tmp 49), 60, "ref.go:175", #[⟨2, .data⟩], none⟩) (v := ?_) (Or.inl ⟨by rfl, ?_⟩) ?_
    rotate_left
    · (intro w hSw; (obtain ⟨q1, q2⟩ := hSw); go_simp; try with_reducible rfl)
    simp only [Act.put, pu1, pu2, pu3]
    refine g_pure 4 (oi := ⟨some 51, .move (.tmp 8), 3, "ref.go:175", #[], none⟩) (v := ?_) (Or.inl ⟨by rfl, ?_⟩) ?_
    rotate_left
    · (intro w; go_simp; try with_reducible rfl)
    simp only [Act.put, pu1, pu2, pu3]
    refine g_pure 5 (oi := ⟨some 52, .move (.tmp 0), 24, "ref.go:175", #[], none⟩) (v := ?_) (Or.inl ⟨by rfl, ?_⟩) ?_
    rotate_left
    · (intro w; go_simp; try with_reducible rfl)
    simp only [Act.put, pu1, pu2, pu3]
    refine g_pure 6 (oi := ⟨some 53, .nilCheck (.tmp 52), 0, "ref.go:175", #[⟨5, .data⟩], none⟩) (v := ?_) (Or.inl ⟨by rfl, ?_⟩) ?_
    rotate_left
    · (intro w; go_simp; try with_reducible rfl)
    simp only [Act.put, pu1, pu2, pu3]
    refine g_pure 7 (oi := ⟨some 54, .fieldAddr 62 (.tmp 53) 0, 0, "ref.go:175", #[⟨6, .data⟩], none⟩) (v := ?_) (Or.inl ⟨by rfl, ?_⟩) ?_
    rotate_left
    · (intro w; go_simp; try with_reducible rfl)
    simp only [Act.put, pu1, pu2, pu3]
    refine g_takeC 8 (oi := ⟨some 55, .load 60 (.tmp 54), 60, "ref.go:175", #[⟨7, .data⟩], none⟩) (v := ?_) (Or.inl ⟨by rfl, ?_⟩) ?_
    rotate_left
    · (intro w hSw; (obtain ⟨q1, q2⟩ := hSw); go_simp; try with_reducible rfl)
    simp only [Act.put, pu1, pu2, pu3]
    refine g_pure 9 (oi := ⟨some 56, .move (.tmp 8), 3, "ref.go:175", #[], none⟩) (v := ?_) (Or.inl ⟨by rfl, ?_⟩) ?_
    rotate_left
    · (intro w; go_simp; try with_reducible rfl)
    simp only [Act.put, pu1, pu2, pu3]
    refine g_pure 10 (oi := ⟨some 57, .indexAddr 60 (.tmp 55) (.tmp 56), 0, "ref.go:175", #[⟨8, .data⟩, ⟨9, .data⟩], none⟩) (v := ?_) (Or.inl ⟨by rfl, ?_⟩) ?_
    rotate_left
    · (intro w; go_simp; try with_reducible rfl)
    simp only [Act.put, pu1, pu2, pu3]
    refine g_pure 11 (oi := ⟨some 58, .fieldAddr 59 (.tmp 57) 3, 0, "ref.go:175", #[⟨10, .data⟩], none⟩) (v := ?_) (Or.inl ⟨by rfl, ?_⟩) ?_
    rotate_left
    · (intro w; go_simp; try with_reducible rfl)
    simp only [Act.put, pu1, pu2, pu3]
    refine g_takeC 12 (oi := ⟨some 59, .load 9 (.tmp 58), 9, "ref.go:175", #[⟨11, .data⟩], none⟩) (v := ?_) (Or.inl ⟨by rfl, ?_⟩) ?_
    rotate_left
    · (intro w hSw; (obtain ⟨q1, q2⟩ := hSw); go_simp; try with_reducible rfl)
    simp only [Act.put, pu1, pu2, pu3]
    refine g_pure 13 (oi := ⟨some 60, .move (.tmp 3), 9, "ref.go:175", #[], none⟩) (v := ?_) (Or.inl ⟨by rfl, ?_⟩) ?_
    rotate_left
    · (intro w; go_simp; try with_reducible rfl)
    simp only [Act.put, pu1, pu2, pu3]
    refine g_pure 14 (oi := ⟨some 61, .binOp .add 9 (.tmp 59) (.tmp 60) 9, 9, "ref.go:175", #[⟨12, .data⟩, ⟨13, .data⟩], none⟩) (v := ?_) (Or.inl ⟨by rfl, ?_⟩) ?_
    rotate_left
    · (intro w; go_simp; try with_reducible rfl)
    simp only [Act.put, pu1, pu2, pu3]
    refine g_pure 15 (oi := ⟨some 62, .indexAddr 60 (.tmp 50) (.tmp 51), 0, "ref.go:175", #[⟨3, .data⟩, ⟨4, .data⟩, ⟨0, .phase⟩, ⟨1, .phase⟩, ⟨2, .phase⟩, ⟨3, .phase⟩, ⟨4, .phase⟩, ⟨5, .phase⟩, ⟨6, .phase⟩, ⟨7, .phase⟩, ⟨8, .phase⟩, ⟨9, .phase⟩, ⟨10, .phase⟩, ⟨11, .phase⟩, ⟨12, .phase⟩, ⟨13, .phase⟩, ⟨14, .phase⟩], none⟩) (v := ?_) (Or.inl ⟨by rfl, ?_⟩) ?_
    rotate_left
    · (intro w; go_simp; try with_reducible rfl)
    simp only [Act.put, pu1, pu2, pu3]
    refine g_pure 16 (oi := ⟨some 63, .fieldAddr 59 (.tmp 62) 3, 0, "ref.go:175", #[⟨15, .data⟩, ⟨0, .phase⟩, ⟨1, .phase⟩, ⟨2, .phase⟩, ⟨3, .phase⟩, ⟨4, .phase⟩, ⟨5, .phase⟩, ⟨6, .phase⟩, ⟨7, .phase⟩, ⟨8, .phase⟩, ⟨9, .phase⟩, ⟨10, .phase⟩, ⟨11, .phase⟩, ⟨12, .phase⟩, ⟨13, .phase⟩, ⟨14, .phase⟩], none⟩) (v := ?_) (Or.inl ⟨by rfl, ?_⟩) ?_
    rotate_left
    · (intro w; go_simp; try with_reducible rfl)
    simp only [Act.put, pu1, pu2, pu3]
    refine wpAnyG_free (by kernel_rfl) ?_
    refine wpAny_ready (rs := [17]) (by kernel_rfl) (by simp) ?_
    refine AllReady.cons (o := ⟨none, .store 9 (.tmp 63) (.tmp 61), 0, "ref.go:175", #[⟨16, .data⟩, ⟨14, .data⟩, ⟨0, .phase⟩, ⟨1, .phase⟩, ⟨2, .phase⟩, ⟨3, .phase⟩, ⟨4, .phase⟩, ⟨5, .phase⟩, ⟨6, .phase⟩, ⟨7, .phase⟩, ⟨8, .phase⟩, ⟨9, .phase⟩, ⟨10, .phase⟩, ⟨11, .phase⟩, ⟨12, .phase⟩, ⟨13, .phase⟩, ⟨14, .phase⟩], none⟩) rfl (fun K hK => ?_) AllReady.nil
    have c3 : U0.cell? ⟨g, o + x * 7 + 3, none⟩ = some (.string tx) := (show _ ∧ _ from hHeld).2
    go_simp
    refine hK _ _ ?_
    clear hK K
    try simp only [Act.put, pu1, pu2, pu3]
    refine wpAny_done (by kernel_rfl) ?_ _
    clear hHeld
    go_wp2
    (try simp only [Exit.inBlock, Exit.then]); refine bodyPost_ret (results_none rfl _ _ _) rfl ?_
    exact ⟨rfl, Z7.out⟩
  · rw [if_neg h4]
    have t4 : ((A.lb x).kind == 4) = false := beq_false_of_ne h4
    generalize (A.lb p).kind = kd at *
    generalize (A.lb x).kind = kx at *
    generalize (A.kids p).length = m at *
    clear h ful hD0 h4 h2 htx hj hjl hk7 hi0 hi hb
    go_enter Tryz.func70, Tryz.ntmps70
    go_wp2_with (first | (go_at_call 21; refine (HMk.out _ (Kp.refl _ _)).mono ?_; rintro e w1 ⟨rfl, tag1, a1, v1⟩) | (go_at_call 65; refine (HPu.out _ _ a1 v1).mono ?_; rintro e w2 ⟨rfl, z2⟩))
    go_end0
    exact ⟨rfl, z2⟩

set_option maxRecDepth 100000 in
set_option maxHeartbeats 1000000 in
theorem rwrite_any (hD : Dn tag w d q A) (ful : A.Ful) (hn : A.n < 40000) (z : Int) (s : ByteArray) (hs : s.size ≤ 1000000) (htx : ∀ x, (A.lb x).text.size ≤ 900000) :
    Calls Tryz.prog 31 #[.pointer (some ⟨d, 0, none⟩), .int .i64 z, .string s] w fun e w' => e = .returned (.int .i64 (A.wrF z s).2) ∧ ∃ tag', Dn tag' w' d q (A.wrF z s).1 ∧ Dv tag w tag' w' := by
  have hD0 : Hid (∃ tag', Dn tag' w d q A ∧ Dv tag w tag' w) := ⟨tag, hD, Dv.refl tag w⟩
  have hD1 := hD
  obtain ⟨g, o, c, pl, h⟩ := hD
  have HT := rthere_any h z
  cases hx : A.there z with
  | false =>
    have eF : A.wrF z s = (A, 22) := by unfold Ar.wrF; rw [if_pos hx]
    rw [eF]
    rw [hx] at HT
    clear eF h hD1
    go_enter Tryz.func31, Tryz.ntmps31
    go_wp2_with (go_at_call 61; refine (HT).mono ?_; rintro e w9 ⟨rfl, hw⟩; have hw2 := hw.symm; clear hw; subst hw2)
    go_ret
    exact ⟨rfl, hD0.out⟩
  | true =>
    rw [hx] at HT
    obtain ⟨x, rfl, hx'⟩ := there_nat hx
    have HH := rholds_any h x hx'
    have j1 : (0 : Int) ≤ (x : Int) := by omega
    have j2 : (x : Int) < (A.n : Int) := by omega
    cases hf : Ar.hld (A.lb x) with
    | false =>
      have eF : A.wrF (x : Int) s = (A, 23) := by unfold Ar.wrF; rw [if_neg (by rw [hx]; simp), Int.toNat_natCast, if_pos hf]
      rw [eF]
      rw [hf] at HH
      clear eF h ful hD1
      go_enter Tryz.func31, Tryz.ntmps31
      go_wp2_with (first | (go_at_call 61; refine (HT).mono ?_; rintro e w9 ⟨rfl, hw⟩; have hw2 := hw.symm; clear hw; subst hw2) | (go_at_call 62; refine (HH).mono ?_; rintro e w9 ⟨rfl, hw⟩; have hw2 := hw.symm; clear hw; subst hw2))
      go_ret
      exact ⟨rfl, hD0.out⟩
    | true =>
      have eF : A.wrF (x : Int) s = (A.txt x (A.kids x).length s, 0) := by unfold Ar.wrF; rw [if_neg (by rw [hx]; simp), Int.toNat_natCast, if_neg (by rw [hf]; simp)]
      rw [eF]
      rw [hf] at HH
      have HTx := rtext_any hD1 ful hn x (A.kids x).length hx' (Nat.le_refl _) s hs htx
      have c0 := h.head.1
      have c5 := (h.seven hx').2.2.2.2.2.1
      rw [h.klen hx'] at c5
      clear eF h ful hD1 hD0
      generalize A.txt x (A.kids x).length s = AP at *
      generalize (A.kids x).length = m at *
      go_enter Tryz.func31, Tryz.ntmps31
      go_wp2_with (first | (go_at_call 61; refine (HT).mono ?_; rintro e w9 ⟨rfl, hw⟩; have hw2 := hw.symm; clear hw; subst hw2) | (go_at_call 62; refine (HH).mono ?_; rintro e w9 ⟨rfl, hw⟩; have hw2 := hw.symm; clear hw; subst hw2) | (go_at_call 70; refine HTx.mono ?_; rintro e w2 ⟨rfl, z2⟩))
      go_ret
      exact ⟨rfl, z2⟩

set_option maxRecDepth 100000 in
set_option maxHeartbeats 1000000 in
theorem rwbef_any (hD : Dn tag w d q A) (ful : A.Ful) (hn : A.n < 40000) (z : Int) (s : ByteArray) (hs : s.size ≤ 1000000) (htx : ∀ x, (A.lb x).text.size ≤ 900000) :
    Calls Tryz.prog 33 #[.pointer (some ⟨d, 0, none⟩), .int .i64 z, .string s] w fun e w' => e = .returned (.int .i64 (A.wbF z s).2) ∧ ∃ tag', Dn tag' w' d q (A.wbF z s).1 ∧ Dv tag w tag' w' := by
  have hD0 : Hid (∃ tag', Dn tag' w d q A ∧ Dv tag w tag' w) := ⟨tag, hD, Dv.refl tag w⟩
  have hD1 := hD
  obtain ⟨g, o, c, pl, h⟩ := hD
  have HT := rthere_any h z
  cases hx : A.there z with
  | false =>
    have eF : A.wbF z s = (A, 22) := by unfold Ar.wbF; rw [if_pos hx]
    rw [eF]
    rw [hx] at HT
    clear eF h hD1
    go_enter Tryz.func33, Tryz.ntmps33
    go_wp2_with (go_at_call 61; refine (HT).mono ?_; rintro e w9 ⟨rfl, hw⟩; have hw2 := hw.symm; clear hw; subst hw2)
    go_ret
    exact ⟨rfl, hD0.out⟩
  | true =>
    rw [hx] at HT
    obtain ⟨r, rfl, hr'⟩ := there_nat hx
    have HF := rfixed_any h r hr'
    have j1 : (0 : Int) ≤ (r : Int) := by omega
    have j2 : (r : Int) < (A.n : Int) := by omega
    have c0 := h.head.1
    have c6 := (h.seven hr').2.2.2.2.2.2
    cases hu : A.up r with
    | none =>
      have eF : A.wbF (r : Int) s = (A, 23) := by unfold Ar.wbF; rw [if_neg (by rw [hx]; simp), Int.toNat_natCast, hu]
      rw [eF]
      rw [hu, show Ar.upI none = -1 from rfl] at c6
      clear eF h ful hD1
      cases hf : Ar.fix (A.lb r) with
      | true =>
        rw [hf] at HF
        go_enter Tryz.func33, Tryz.ntmps33
        go_wp2_with (first | (go_at_call 61; refine (HT).mono ?_; rintro e w9 ⟨rfl, hw⟩; have hw2 := hw.symm; clear hw; subst hw2) | (go_at_call 63; refine (HF).mono ?_; rintro e w9 ⟨rfl, hw⟩; have hw2 := hw.symm; clear hw; subst hw2))
        go_ret
        exact ⟨rfl, hD0.out⟩
      | false =>
        rw [hf] at HF
        go_enter Tryz.func33, Tryz.ntmps33
        go_wp2_with (first | (go_at_call 61; refine (HT).mono ?_; rintro e w9 ⟨rfl, hw⟩; have hw2 := hw.symm; clear hw; subst hw2) | (go_at_call 63; refine (HF).mono ?_; rintro e w9 ⟨rfl, hw⟩; have hw2 := hw.symm; clear hw; subst hw2))
        go_ret
        exact ⟨rfl, hD0.out⟩
    | some p =>
      rw [hu, show Ar.upI (some p) = (p : Int) from rfl] at c6
      have jp : ¬ (p : Int) < 0 := by omega
      cases hf : Ar.fix (A.lb r) with
      | true =>
        have eF : A.wbF (r : Int) s = (A, 23) := by
          unfold Ar.wbF
          rw [if_neg (by rw [hx]; simp), Int.toNat_natCast, hu]
          exact if_pos hf
        rw [eF]
        rw [hf] at HF
        clear eF h ful hD1
        go_enter Tryz.func33, Tryz.ntmps33
        go_wp2_with (first | (go_at_call 61; refine (HT).mono ?_; rintro e w9 ⟨rfl, hw⟩; have hw2 := hw.symm; clear hw; subst hw2) | (go_at_call 63; refine (HF).mono ?_; rintro e w9 ⟨rfl, hw⟩; have hw2 := hw.symm; clear hw; subst hw2))
        go_ret
        exact ⟨rfl, hD0.out⟩
      | false =>
        have eF : A.wbF (r : Int) s = (A.txt p (A.place p r) s, 0) := by
          unfold Ar.wbF
          rw [if_neg (by rw [hx]; simp), Int.toNat_natCast, hu]
          exact if_neg (by rw [hf]; simp)
        rw [eF]
        rw [hf] at HF
        have hp := (ful.toOk.lt hu).2
        have hpl := (Ar.place_lt ful.toOk hu).1
        have HPl : Hid (∀ V, Kp [] w V → Calls Tryz.prog 67 #[.pointer (some ⟨d, 0, none⟩), .int .i64 (r : Int)] V fun e w' => e = .returned (.int .i64 (A.place p r : Int)) ∧ Kp [] V w') := fun V k => rplace_any (h.kept k) ful.toOk (by omega) r p hu
        have HTx : Hid (∀ V, Kp [] w V → Calls Tryz.prog 70 #[.pointer (some ⟨d, 0, none⟩), .int .i64 (p : Int), .int .i64 (A.place p r : Int), .string s] V fun e w' => e = .returned (.tuple #[]) ∧ ∃ tag', Dn tag' w' d q (A.txt p (A.place p r) s) ∧ Dv tag w tag' w') := fun V k => by
          refine (rtext_any (hD1.kept k) ful hn p (A.place p r) hp (Nat.le_of_lt hpl) s hs htx).mono ?_
          rintro e w' ⟨rfl, tag', a, b⟩
          exact ⟨rfl, tag', a, (Dv.of_kp0 k).trans b⟩
        have HC : Hid (∀ V, Kp [] w V → V.cell? ⟨d, 0, none⟩ = some (.slice (some ⟨g, o, none⟩) A.n c) ∧ V.cell? ⟨g, o + r * 7 + 6, none⟩ = some (.int .i64 (p : Int))) := fun V k => by
          have e6 := ((h.kept k).seven hr').2.2.2.2.2.2
          rw [hu] at e6
          exact ⟨(h.kept k).head.1, e6⟩
        clear h ful hD0 hD1 eF hpl
        generalize A.txt p (A.place p r) s = AP at *
        generalize A.place p r = m at *
        go_enter Tryz.func33, Tryz.ntmps33
        go_upto_region 5 with (first | (go_at_call 61; refine (HT).mono ?_; rintro e w9 ⟨rfl, hw⟩; have hw2 := hw.symm; clear hw; subst hw2) | (go_at_call 63; refine (HF).mono ?_; rintro e w9 ⟨rfl, hw⟩; have hw2 := hw.symm; clear hw; subst hw2))
        obtain ⟨U0, hU0⟩ : ∃ V, V = w.drew := ⟨_, rfl⟩
        have k0 : Kp [] w U0 := by rw [hU0]; exact (Kp.refl _ _).drew
        refine wp_region_g (S := fun V => V.cell? ⟨d, 0, none⟩ = some (.slice (some ⟨g, o, none⟩) A.n c) ∧ V.cell? ⟨g, o + r * 7 + 6, none⟩ = some (.int .i64 (p : Int))) (T := [13]) (by kernel_rfl) (HC.out _ (Kp.refl _ _).drew) (fun hHeld => ?_)
        rw [← hU0] at hHeld ⊢
        clear hU0
        refine g_pure 0 (oi := ⟨some 25, .move (.tmp 0), 24, "ref.go:201", #[], none⟩) (v := ?_) (Or.inl ⟨by rfl, ?_⟩) ?_
        rotate_left
        · (intro w; go_simp; try with_reducible rfl)
        simp only [Act.put, pu1, pu2, pu3]
        refine g_pure 1 (oi := ⟨some 26, .move (.tmp 0), 24, "ref.go:201", #[], none⟩) (v := ?_) (Or.inl ⟨by rfl, ?_⟩) ?_
        rotate_left
        · (intro w; go_simp; try with_reducible rfl)
        simp only [Act.put, pu1, pu2, pu3]
        refine g_pure 2 (oi := ⟨some 27, .nilCheck (.tmp 26), 0, "ref.go:201", #[⟨1, .data⟩], none⟩) (v := ?_) (Or.inl ⟨by rfl, ?_⟩) ?_
        rotate_left
        · (intro w; go_simp; try with_reducible rfl)
        simp only [Act.put, pu1, pu2, pu3]
        refine g_pure 3 (oi := ⟨some 28, .fieldAddr 62 (.tmp 27) 0, 0, "ref.go:201", #[⟨2, .data⟩], none⟩) (v := ?_) (Or.inl ⟨by rfl, ?_⟩) ?_
        rotate_left
        · (intro w; go_simp; try with_reducible rfl)
        simp only [Act.put, pu1, pu2, pu3]
        refine g_takeC 4 (oi := ⟨some 29, .load 60 (.tmp 28), 60, "ref.go:201", #[⟨3, .data⟩], none⟩) (v := ?_) (Or.inl ⟨by rfl, ?_⟩) ?_
        rotate_left
        · (intro w hSw; (obtain ⟨q1, q2⟩ := hSw); go_simp; try with_reducible rfl)
        simp only [Act.put, pu1, pu2, pu3]
        refine g_pure 5 (oi := ⟨some 30, .move (.tmp 1), 3, "ref.go:201", #[], none⟩) (v := ?_) (Or.inl ⟨by rfl, ?_⟩) ?_
        rotate_left
        · (intro w; go_simp; try with_reducible rfl)
        simp only [Act.put, pu1, pu2, pu3]
        refine g_pure 6 (oi := ⟨some 31, .indexAddr 60 (.tmp 29) (.tmp 30), 0, "ref.go:201", #[⟨4, .data⟩, ⟨5, .data⟩], none⟩) (v := ?_) (Or.inl ⟨by rfl, ?_⟩) ?_
        rotate_left
        · (intro w; go_simp; try with_reducible rfl)
        simp only [Act.put, pu1, pu2, pu3]
        refine g_pure 7 (oi := ⟨some 32, .fieldAddr 59 (.tmp 31) 6, 0, "ref.go:201", #[⟨6, .data⟩], none⟩) (v := ?_) (Or.inl ⟨by rfl, ?_⟩) ?_
        rotate_left
        · (intro w; go_simp; try with_reducible rfl)
        simp only [Act.put, pu1, pu2, pu3]
        refine g_takeC 8 (oi := ⟨some 33, .load 3 (.tmp 32), 3, "ref.go:201", #[⟨7, .data⟩], none⟩) (v := ?_) (Or.inl ⟨by rfl, ?_⟩) ?_
        rotate_left
        · (intro w hSw; (obtain ⟨q1, q2⟩ := hSw); go_simp; try with_reducible rfl)
        simp only [Act.put, pu1, pu2, pu3]
        refine g_pure 9 (oi := ⟨some 34, .move (.tmp 0), 24, "ref.go:201", #[], none⟩) (v := ?_) (Or.inl ⟨by rfl, ?_⟩) ?_
        rotate_left
        · (intro w; go_simp; try with_reducible rfl)
        simp only [Act.put, pu1, pu2, pu3]
        refine g_pure 10 (oi := ⟨some 35, .move (.tmp 1), 3, "ref.go:201", #[], none⟩) (v := ?_) (Or.inl ⟨by rfl, ?_⟩) ?_
        rotate_left
        · (intro w; go_simp; try with_reducible rfl)
        simp only [Act.put, pu1, pu2, pu3]
        refine g_pure 12 (oi := ⟨some 37, .move (.tmp 2), 9, "ref.go:201", #[], none⟩) (v := ?_) (Or.inl ⟨by rfl, ?_⟩) ?_
        rotate_left
        · (intro w; go_simp; try with_reducible rfl)
        simp only [Act.put, pu1, pu2, pu3]
        refine wpAnyG_ready (rs := [11]) (by kernel_rfl) (by simp) ?_
        refine AllReadyG.cons (o := ⟨some 36, .call { callee := .value (.func 67), args := #[.tmp 34, .tmp 35], argTypes := #[24, 3] }, 3, "ref.go:201", #[⟨9, .data⟩, ⟨10, .data⟩], none⟩) rfl (fun K hK => ?_) AllReadyG.nil
        go_simp
        go_at_call 67
        refine (HPl.out _ k0).mono ?_
        rintro e U1 ⟨rfl, u1⟩
        go_wp2_with fail
        have k1 : Kp [] w U1 := k0.trans u1 (fun z hz => Or.inl hz)
        refine hK.out _ _ (HC.out _ k1) (fun hHeld1 => ?_)
        clear hK K hHeld
        try simp only [Act.put, pu1, pu2, pu3]
        refine wpAnyG_free (by kernel_rfl) ?_
        refine wpAny_ready (rs := [13]) (by kernel_rfl) (by simp) ?_
        refine AllReady.cons (o := ⟨some 38, .call { callee := .value (.func 70), args := #[.tmp 25, .tmp 33, .tmp 36, .tmp 37], argTypes := #[24, 3, 3, 9] }, 0, "ref.go:201", #[⟨0, .data⟩, ⟨8, .data⟩, ⟨11, .data⟩, ⟨12, .data⟩, ⟨11, .chain⟩], none⟩) rfl (fun K hK => ?_) AllReady.nil
        go_simp
        go_at_call 70
        refine (HTx.out _ k1).mono ?_
        rintro e U2 ⟨rfl, z2⟩
        go_simp
        refine hK _ _ ?_
        clear hK K
        try simp only [Act.put, pu1, pu2, pu3]
        refine wpAny_done (by kernel_rfl) ?_ _
        have ZZ : Hid _ := z2
        clear z2
        go_wp2
        go_ret
        exact ⟨rfl, ZZ.out⟩

end

end Go.Proofs.YtgjkfpmhgidpaaaGreat

/-
  The document's arena: Content.
-/
namespace Go.Proofs.YtgjkfpmhgidpaaaGreat
open Go.RowKit Go.Maps Utf
set_option linter.unusedVariables false
set_option linter.unusedSimpArgs false

/-- The Content of a template, -1 of another node. -/
def Ar.rconF (A : Ar) (z : Int) : Int := if A.there z = true ∧ tmplF (A.lb z.toNat) = true then hdI (A.kids z.toNat) else -1

theorem Ar.rcon_head {A : Ar} (ful : A.Ful) {x c : Nat} {ks : List Nat} (hx : x < A.n) (hk : A.kids x = c :: ks) : ((A.lb c).kind = 6 ↔ tmplF (A.lb x) = true) := by
  constructor
  · intro h6
    obtain ⟨p, h1, h2⟩ := ful.con c (ful.toOk.kid_lt (p := x) (by rw [hk]; exact List.mem_cons_self ..)).1 h6
    have e1 := (ful.link x c).1 (by rw [hk]; exact List.mem_cons_self ..)
    have e2 := (ful.link p c).1 (by
      cases hq : A.kids p with
      | nil => rw [hq] at h1; cases h1
      | cons y ys => rw [hq] at h1; obtain rfl : y = c := by simpa using h1
                     exact List.mem_cons_self ..)
    rw [e1] at e2
    obtain rfl := Option.some.inj e2
    exact h2
  · intro ht
    obtain ⟨c', h1, h2⟩ := ful.has x hx ht
    rw [hk] at h1
    obtain rfl : c = c' := by simpa using h1
    exact h2

section
variable {tag : Nat → Nat} {w : World} {d : Nat} {q : Bool} {A : Ar}

set_option maxRecDepth 100000 in
set_option maxHeartbeats 1000000 in
theorem rcon_any (hD : Dn tag w d q A) (ful : A.Ful) (hn : A.n < 50000) (z : Int) :
    Calls Tryz.prog 77 #[.pointer (some ⟨d, 0, none⟩), .int .i64 z] w fun e w' => e = .returned (.int .i64 (A.rconF z)) ∧ Kp [] w w' := by
  obtain ⟨g, o, c, pl, h⟩ := hD
  have HT : Hid (∀ V, Kp [] w V → Calls Tryz.prog 61 #[.pointer (some ⟨d, 0, none⟩), .int .i64 z] V fun e w' => e = .returned (.bool (A.there z)) ∧ w' = V) := fun V k => rthere_any (h.kept k) z
  have hun : undef = Value.tuple #[] := rfl
  have kd : Kp [] w w.drew := (Kp.refl _ _).drew
  cases hx : A.there z with
  | false =>
    have eF : A.rconF z = -1 := by unfold Ar.rconF; rw [if_neg (by rw [hx]; simp)]
    rw [eF]
    have HT0 := HT.out _ kd
    rw [hx] at HT0
    have hS1 : (World.drew w).cell? ⟨d, 0, none⟩ = some (.slice (some ⟨g, o, none⟩) A.n c) := h.head.1
    clear eF h ful HT
    go_enter Tryz.func77, Tryz.ntmps77
    go_upto_region 1 with fail
    refine wp_region_g (S := fun V => V.cell? ⟨d, 0, none⟩ = some (.slice (some ⟨g, o, none⟩) A.n c)) (T := []) (by kernel_rfl) hS1 (fun hHeld => ?_)
    refine g_pure 0 (oi := ⟨some 5, .move (.tmp 0), 24, "ref.go:218", #[], none⟩) (v := ?_) (Or.inl ⟨by rfl, ?_⟩) ?_
    rotate_left
    · (intro w; go_simp; try with_reducible rfl)
    simp only [Act.put, pu1, pu2, pu3]
    refine g_pure 1 (oi := ⟨some 6, .move (.tmp 1), 3, "ref.go:218", #[], none⟩) (v := ?_) (Or.inl ⟨by rfl, ?_⟩) ?_
    rotate_left
    · (intro w; go_simp; try with_reducible rfl)
    simp only [Act.put, pu1, pu2, pu3]
    refine wpAnyG_ready (rs := [2]) (by kernel_rfl) (by simp) ?_
    refine AllReadyG.cons (o := ⟨some 7, .call { callee := .value (.func 61), args := #[.tmp 5, .tmp 6], argTypes := #[24, 3] }, 4, "ref.go:218", #[⟨0, .data⟩, ⟨1, .data⟩], none⟩) rfl (fun K hK => ?_) AllReadyG.nil
    go_simp
    go_at_call 61
    refine HT0.mono ?_
    rintro e w9 ⟨rfl, hw⟩
    have hw2 := hw.symm
    clear hw
    subst hw2
    go_wp2_with fail
    refine hK.out _ _ hS1 (fun hHeld1 => ?_)
    clear hK K hHeld
    try simp only [Act.put, pu1, pu2, pu3]
    refine g_pure 3 (oi := ⟨some 8, .move (.tmp 7), 4, "ref.go:218", #[⟨2, .data⟩, ⟨2, .chain⟩], none⟩) (v := ?_) (Or.inl ⟨by rfl, ?_⟩) ?_
    rotate_left
    · (intro w; go_simp; try with_reducible rfl)
    simp only [Act.put, pu1, pu2, pu3]
    refine g_pure 4 (oi := ⟨some 9, .move (.tmp 0), 24, "ref.go:218", #[⟨3, .guard⟩], some (3, true)⟩) (v := undef) (Or.inr ⟨by rfl, rfl⟩) ?_
    simp only [Act.put, pu1, pu2, pu3]
    refine g_pure 5 (oi := ⟨some 10, .nilCheck (.tmp 9), 0, "ref.go:218", #[⟨4, .data⟩, ⟨3, .guard⟩], some (3, true)⟩) (v := undef) (Or.inr ⟨by rfl, rfl⟩) ?_
    simp only [Act.put, pu1, pu2, pu3]
    refine g_pure 6 (oi := ⟨some 11, .fieldAddr 62 (.tmp 10) 0, 0, "ref.go:218", #[⟨5, .data⟩, ⟨3, .guard⟩], some (3, true)⟩) (v := undef) (Or.inr ⟨by rfl, rfl⟩) ?_
    simp only [Act.put, pu1, pu2, pu3]
    refine g_take 7 (oi := ⟨some 12, .load 60 (.tmp 11), 60, "ref.go:218", #[⟨6, .data⟩, ⟨3, .guard⟩], some (3, true)⟩) (v := undef) (Or.inr ⟨by rfl, rfl⟩) ?_
    simp only [Act.put, pu1, pu2, pu3]
    refine g_pure 8 (oi := ⟨some 13, .move (.tmp 1), 3, "ref.go:218", #[⟨3, .guard⟩], some (3, true)⟩) (v := undef) (Or.inr ⟨by rfl, rfl⟩) ?_
    simp only [Act.put, pu1, pu2, pu3]
    refine g_pure 9 (oi := ⟨some 14, .indexAddr 60 (.tmp 12) (.tmp 13), 0, "ref.go:218", #[⟨7, .data⟩, ⟨8, .data⟩, ⟨3, .guard⟩], some (3, true)⟩) (v := undef) (Or.inr ⟨by rfl, rfl⟩) ?_
    simp only [Act.put, pu1, pu2, pu3]
    refine g_pure 10 (oi := ⟨some 15, .fieldAddr 59 (.tmp 14) 5, 0, "ref.go:218", #[⟨9, .data⟩, ⟨3, .guard⟩], some (3, true)⟩) (v := undef) (Or.inr ⟨by rfl, rfl⟩) ?_
    simp only [Act.put, pu1, pu2, pu3]
    refine g_take 11 (oi := ⟨some 16, .load 57 (.tmp 15), 57, "ref.go:218", #[⟨10, .data⟩, ⟨3, .guard⟩], some (3, true)⟩) (v := undef) (Or.inr ⟨by rfl, rfl⟩) ?_
    simp only [Act.put, pu1, pu2, pu3]
    refine g_pure 12 (oi := ⟨some 17, .call { callee := .builtin .len, args := #[.tmp 16], argTypes := #[57] }, 3, "ref.go:218", #[⟨11, .data⟩, ⟨3, .guard⟩], some (3, true)⟩) (v := undef) (Or.inr ⟨by rfl, rfl⟩) ?_
    simp only [Act.put, pu1, pu2, pu3]
    refine g_pure 13 (oi := ⟨some 18, .binOp .gtr 3 (.tmp 17) (.const (.int .i64 0)) 3, 4, "ref.go:218", #[⟨12, .data⟩, ⟨3, .guard⟩], some (3, true)⟩) (v := undef) (Or.inr ⟨by rfl, rfl⟩) ?_
    simp only [Act.put, pu1, pu2, pu3]
    refine g_pure 14 (oi := ⟨some 19, .pick (.tmp 8) (.tmp 18) (.const (.bool false)), 4, "ref.go:218", #[⟨3, .data⟩, ⟨13, .data⟩], none⟩) (v := ?_) (Or.inl ⟨by rfl, ?_⟩) ?_
    rotate_left
    · (intro w; go_simp; try with_reducible rfl)
    simp only [Act.put, pu1, pu2, pu3]
    refine g_pure 15 (oi := ⟨some 20, .move (.tmp 19), 4, "ref.go:218", #[⟨14, .data⟩, ⟨3, .chain⟩], none⟩) (v := ?_) (Or.inl ⟨by rfl, ?_⟩) ?_
    rotate_left
    · (intro w; go_simp; try with_reducible rfl)
    simp only [Act.put, pu1, pu2, pu3]
    refine g_pure 16 (oi := ⟨some 21, .move (.tmp 0), 24, "ref.go:218", #[⟨15, .guard⟩], some (15, true)⟩) (v := undef) (Or.inr ⟨by rfl, rfl⟩) ?_
    simp only [Act.put, pu1, pu2, pu3]
    refine g_pure 17 (oi := ⟨some 22, .nilCheck (.tmp 21), 0, "ref.go:218", #[⟨16, .data⟩, ⟨15, .guard⟩], some (15, true)⟩) (v := undef) (Or.inr ⟨by rfl, rfl⟩) ?_
    simp only [Act.put, pu1, pu2, pu3]
    refine g_pure 18 (oi := ⟨some 23, .fieldAddr 62 (.tmp 22) 0, 0, "ref.go:218", #[⟨17, .data⟩, ⟨15, .guard⟩], some (15, true)⟩) (v := undef) (Or.inr ⟨by rfl, rfl⟩) ?_
    simp only [Act.put, pu1, pu2, pu3]
    refine g_take 19 (oi := ⟨some 24, .load 60 (.tmp 23), 60, "ref.go:218", #[⟨18, .data⟩, ⟨15, .guard⟩], some (15, true)⟩) (v := undef) (Or.inr ⟨by rfl, rfl⟩) ?_
    simp only [Act.put, pu1, pu2, pu3]
    refine g_pure 20 (oi := ⟨some 25, .move (.tmp 0), 24, "ref.go:218", #[⟨15, .guard⟩], some (15, true)⟩) (v := undef) (Or.inr ⟨by rfl, rfl⟩) ?_
    simp only [Act.put, pu1, pu2, pu3]
    refine g_pure 21 (oi := ⟨some 26, .nilCheck (.tmp 25), 0, "ref.go:218", #[⟨20, .data⟩, ⟨15, .guard⟩], some (15, true)⟩) (v := undef) (Or.inr ⟨by rfl, rfl⟩) ?_
    simp only [Act.put, pu1, pu2, pu3]
    refine g_pure 22 (oi := ⟨some 27, .fieldAddr 62 (.tmp 26) 0, 0, "ref.go:218", #[⟨21, .data⟩, ⟨15, .guard⟩], some (15, true)⟩) (v := undef) (Or.inr ⟨by rfl, rfl⟩) ?_
    simp only [Act.put, pu1, pu2, pu3]
    refine g_take 23 (oi := ⟨some 28, .load 60 (.tmp 27), 60, "ref.go:218", #[⟨22, .data⟩, ⟨15, .guard⟩], some (15, true)⟩) (v := undef) (Or.inr ⟨by rfl, rfl⟩) ?_
    simp only [Act.put, pu1, pu2, pu3]
    refine g_pure 24 (oi := ⟨some 29, .move (.tmp 1), 3, "ref.go:218", #[⟨15, .guard⟩], some (15, true)⟩) (v := undef) (Or.inr ⟨by rfl, rfl⟩) ?_
    simp only [Act.put, pu1, pu2, pu3]
    refine g_pure 25 (oi := ⟨some 30, .indexAddr 60 (.tmp 28) (.tmp 29), 0, "ref.go:218", #[⟨23, .data⟩, ⟨24, .data⟩, ⟨15, .guard⟩], some (15, true)⟩) (v := undef) (Or.inr ⟨by rfl, rfl⟩) ?_
    simp only [Act.put, pu1, pu2, pu3]
    refine g_pure 26 (oi := ⟨some 31, .fieldAddr 59 (.tmp 30) 5, 0, "ref.go:218", #[⟨25, .data⟩, ⟨15, .guard⟩], some (15, true)⟩) (v := undef) (Or.inr ⟨by rfl, rfl⟩) ?_
    simp only [Act.put, pu1, pu2, pu3]
    refine g_take 27 (oi := ⟨some 32, .load 57 (.tmp 31), 57, "ref.go:218", #[⟨26, .data⟩, ⟨15, .guard⟩], some (15, true)⟩) (v := undef) (Or.inr ⟨by rfl, rfl⟩) ?_
    simp only [Act.put, pu1, pu2, pu3]
    refine g_pure 28 (oi := ⟨some 33, .indexAddr 57 (.tmp 32) (.const (.int .i64 0)), 0, "ref.go:218", #[⟨27, .data⟩, ⟨15, .guard⟩], some (15, true)⟩) (v := undef) (Or.inr ⟨by rfl, rfl⟩) ?_
    simp only [Act.put, pu1, pu2, pu3]
    refine g_take 29 (oi := ⟨some 34, .load 3 (.tmp 33), 3, "ref.go:218", #[⟨28, .data⟩, ⟨15, .guard⟩], some (15, true)⟩) (v := undef) (Or.inr ⟨by rfl, rfl⟩) ?_
    simp only [Act.put, pu1, pu2, pu3]
    refine g_pure 30 (oi := ⟨some 35, .indexAddr 60 (.tmp 24) (.tmp 34), 0, "ref.go:218", #[⟨19, .data⟩, ⟨29, .data⟩, ⟨15, .guard⟩], some (15, true)⟩) (v := undef) (Or.inr ⟨by rfl, rfl⟩) ?_
    simp only [Act.put, pu1, pu2, pu3]
    refine g_pure 31 (oi := ⟨some 36, .fieldAddr 59 (.tmp 35) 0, 0, "ref.go:218", #[⟨30, .data⟩, ⟨15, .guard⟩], some (15, true)⟩) (v := undef) (Or.inr ⟨by rfl, rfl⟩) ?_
    simp only [Act.put, pu1, pu2, pu3]
    refine g_take 32 (oi := ⟨some 37, .load 3 (.tmp 36), 3, "ref.go:218", #[⟨31, .data⟩, ⟨15, .guard⟩], some (15, true)⟩) (v := undef) (Or.inr ⟨by rfl, rfl⟩) ?_
    simp only [Act.put, pu1, pu2, pu3]
    refine g_pure 33 (oi := ⟨some 38, .binOp .eql 3 (.tmp 37) (.const (.int .i64 6)) 3, 4, "ref.go:218", #[⟨32, .data⟩, ⟨15, .guard⟩], some (15, true)⟩) (v := undef) (Or.inr ⟨by rfl, rfl⟩) ?_
    simp only [Act.put, pu1, pu2, pu3]
    refine g_pure 34 (oi := ⟨some 39, .pick (.tmp 20) (.tmp 38) (.const (.bool false)), 4, "ref.go:218", #[⟨15, .data⟩, ⟨33, .data⟩], none⟩) (v := ?_) (Or.inl ⟨by rfl, ?_⟩) ?_
    rotate_left
    · (intro w; go_simp; try with_reducible rfl)
    simp only [Act.put, pu1, pu2, pu3]
    refine wpAnyG_free (by kernel_rfl) ?_
    refine wpAny_done (by kernel_rfl) ?_ _
    clear hS1
    go_wp2
    go_ret
    exact ⟨rfl, kd⟩
  | true =>
    have HT0 := HT.out _ kd
    rw [hx] at HT0
    obtain ⟨x, rfl, hx'⟩ := there_nat hx
    have j1 : (0 : Int) ≤ (x : Int) := by omega
    have j2 : (x : Int) < (A.n : Int) := by omega
    have c5 := (h.seven hx').2.2.2.2.2.1
    rw [h.klen hx'] at c5
    cases hk : A.kids x with
    | nil =>
      have eF : A.rconF (x : Int) = -1 := by
        unfold Ar.rconF
        rw [Int.toNat_natCast, if_neg]
        rintro ⟨_, ht⟩
        obtain ⟨c', h1, _⟩ := ful.has x hx' ht
        rw [hk] at h1; cases h1
      rw [eF]
      rw [hk] at c5
      have hS1 : (World.drew w).cell? ⟨d, 0, none⟩ = some (.slice (some ⟨g, o, none⟩) A.n c) ∧ (World.drew w).cell? ⟨g, o + x * 7 + 5, none⟩ = some (.slice (pl x).2.1 0 (pl x).2.2.2) := ⟨h.head.1, c5⟩
      clear eF h ful HT c5
      generalize (pl x).2.1 = ko at *
      generalize (pl x).2.2.2 = kc at *
      go_enter Tryz.func77, Tryz.ntmps77
      go_upto_region 1 with fail
      refine wp_region_g (S := fun V => V.cell? ⟨d, 0, none⟩ = some (.slice (some ⟨g, o, none⟩) A.n c) ∧ V.cell? ⟨g, o + x * 7 + 5, none⟩ = some (.slice ko 0 kc)) (T := []) (by kernel_rfl) hS1 (fun hHeld => ?_)
      refine g_pure 0 (oi := ⟨some 5, .move (.tmp 0), 24, "ref.go:218", #[], none⟩) (v := ?_) (Or.inl ⟨by rfl, ?_⟩) ?_
      rotate_left
      · (intro w; go_simp; try with_reducible rfl)
      simp only [Act.put, pu1, pu2, pu3]
      refine g_pure 1 (oi := ⟨some 6, .move (.tmp 1), 3, "ref.go:218", #[], none⟩) (v := ?_) (Or.inl ⟨by rfl, ?_⟩) ?_
      rotate_left
      · (intro w; go_simp; try with_reducible rfl)
      simp only [Act.put, pu1, pu2, pu3]
      refine wpAnyG_ready (rs := [2]) (by kernel_rfl) (by simp) ?_
      refine AllReadyG.cons (o := ⟨some 7, .call { callee := .value (.func 61), args := #[.tmp 5, .tmp 6], argTypes := #[24, 3] }, 4, "ref.go:218", #[⟨0, .data⟩, ⟨1, .data⟩], none⟩) rfl (fun K hK => ?_) AllReadyG.nil
      go_simp
      go_at_call 61
      refine HT0.mono ?_
      rintro e w9 ⟨rfl, hw⟩
      have hw2 := hw.symm
      clear hw
      subst hw2
      go_wp2_with fail
      refine hK.out _ _ hS1 (fun hHeld1 => ?_)
      clear hK K hHeld
      try simp only [Act.put, pu1, pu2, pu3]
      refine g_pure 3 (oi := ⟨some 8, .move (.tmp 7), 4, "ref.go:218", #[⟨2, .data⟩, ⟨2, .chain⟩], none⟩) (v := ?_) (Or.inl ⟨by rfl, ?_⟩) ?_
      rotate_left
      · (intro w; go_simp; try with_reducible rfl)
      simp only [Act.put, pu1, pu2, pu3]
      refine g_pure 4 (oi := ⟨some 9, .move (.tmp 0), 24, "ref.go:218", #[⟨3, .guard⟩], some (3, true)⟩) (v := ?_) (Or.inl ⟨by rfl, ?_⟩) ?_
      rotate_left
      · (intro w; go_simp; try with_reducible rfl)
      simp only [Act.put, pu1, pu2, pu3]
      refine g_pure 5 (oi := ⟨some 10, .nilCheck (.tmp 9), 0, "ref.go:218", #[⟨4, .data⟩, ⟨3, .guard⟩], some (3, true)⟩) (v := ?_) (Or.inl ⟨by rfl, ?_⟩) ?_
      rotate_left
      · (intro w; go_simp; try with_reducible rfl)
      simp only [Act.put, pu1, pu2, pu3]
      refine g_pure 6 (oi := ⟨some 11, .fieldAddr 62 (.tmp 10) 0, 0, "ref.go:218", #[⟨5, .data⟩, ⟨3, .guard⟩], some (3, true)⟩) (v := ?_) (Or.inl ⟨by rfl, ?_⟩) ?_
      rotate_left
      · (intro w; go_simp; try with_reducible rfl)
      simp only [Act.put, pu1, pu2, pu3]
      refine g_take 7 (oi := ⟨some 12, .load 60 (.tmp 11), 60, "ref.go:218", #[⟨6, .data⟩, ⟨3, .guard⟩], some (3, true)⟩) (v := ?_) (Or.inl ⟨by rfl, ?_⟩) ?_
      rotate_left
      · (intro w hSw; (obtain ⟨q1, q2⟩ := hSw); go_simp; try with_reducible rfl)
      simp only [Act.put, pu1, pu2, pu3]
      refine g_pure 8 (oi := ⟨some 13, .move (.tmp 1), 3, "ref.go:218", #[⟨3, .guard⟩], some (3, true)⟩) (v := ?_) (Or.inl ⟨by rfl, ?_⟩) ?_
      rotate_left
      · (intro w; go_simp; try with_reducible rfl)
      simp only [Act.put, pu1, pu2, pu3]
      refine g_pure 9 (oi := ⟨some 14, .indexAddr 60 (.tmp 12) (.tmp 13), 0, "ref.go:218", #[⟨7, .data⟩, ⟨8, .data⟩, ⟨3, .guard⟩], some (3, true)⟩) (v := ?_) (Or.inl ⟨by rfl, ?_⟩) ?_
      rotate_left
      · (intro w; go_simp; try with_reducible rfl)
      simp only [Act.put, pu1, pu2, pu3]
      refine g_pure 10 (oi := ⟨some 15, .fieldAddr 59 (.tmp 14) 5, 0, "ref.go:218", #[⟨9, .data⟩, ⟨3, .guard⟩], some (3, true)⟩) (v := ?_) (Or.inl ⟨by rfl, ?_⟩) ?_
      rotate_left
      · (intro w; go_simp; try with_reducible rfl)
      simp only [Act.put, pu1, pu2, pu3]
      refine g_take 11 (oi := ⟨some 16, .load 57 (.tmp 15), 57, "ref.go:218", #[⟨10, .data⟩, ⟨3, .guard⟩], some (3, true)⟩) (v := ?_) (Or.inl ⟨by rfl, ?_⟩) ?_
      rotate_left
      · (intro w hSw; (obtain ⟨q1, q2⟩ := hSw); go_simp; try with_reducible rfl)
      simp only [Act.put, pu1, pu2, pu3]
      refine g_pure 12 (oi := ⟨some 17, .call { callee := .builtin .len, args := #[.tmp 16], argTypes := #[57] }, 3, "ref.go:218", #[⟨11, .data⟩, ⟨3, .guard⟩], some (3, true)⟩) (v := ?_) (Or.inl ⟨by rfl, ?_⟩) ?_
      rotate_left
      · (intro w; go_simp; try with_reducible rfl)
      simp only [Act.put, pu1, pu2, pu3]
      refine g_pure 13 (oi := ⟨some 18, .binOp .gtr 3 (.tmp 17) (.const (.int .i64 0)) 3, 4, "ref.go:218", #[⟨12, .data⟩, ⟨3, .guard⟩], some (3, true)⟩) (v := ?_) (Or.inl ⟨by rfl, ?_⟩) ?_
      rotate_left
      · (intro w; go_simp; try with_reducible rfl)
      simp only [Act.put, pu1, pu2, pu3]
      refine g_pure 14 (oi := ⟨some 19, .pick (.tmp 8) (.tmp 18) (.const (.bool false)), 4, "ref.go:218", #[⟨3, .data⟩, ⟨13, .data⟩], none⟩) (v := ?_) (Or.inl ⟨by rfl, ?_⟩) ?_
      rotate_left
      · (intro w; go_simp; try with_reducible rfl)
      simp only [Act.put, pu1, pu2, pu3]
      refine g_pure 15 (oi := ⟨some 20, .move (.tmp 19), 4, "ref.go:218", #[⟨14, .data⟩, ⟨3, .chain⟩], none⟩) (v := ?_) (Or.inl ⟨by rfl, ?_⟩) ?_
      rotate_left
      · (intro w; go_simp; try with_reducible rfl)
      simp only [Act.put, pu1, pu2, pu3]
      refine g_pure 16 (oi := ⟨some 21, .move (.tmp 0), 24, "ref.go:218", #[⟨15, .guard⟩], some (15, true)⟩) (v := undef) (Or.inr ⟨by rfl, rfl⟩) ?_
      simp only [Act.put, pu1, pu2, pu3]
      refine g_pure 17 (oi := ⟨some 22, .nilCheck (.tmp 21), 0, "ref.go:218", #[⟨16, .data⟩, ⟨15, .guard⟩], some (15, true)⟩) (v := undef) (Or.inr ⟨by rfl, rfl⟩) ?_
      simp only [Act.put, pu1, pu2, pu3]
      refine g_pure 18 (oi := ⟨some 23, .fieldAddr 62 (.tmp 22) 0, 0, "ref.go:218", #[⟨17, .data⟩, ⟨15, .guard⟩], some (15, true)⟩) (v := undef) (Or.inr ⟨by rfl, rfl⟩) ?_
      simp only [Act.put, pu1, pu2, pu3]
      refine g_take 19 (oi := ⟨some 24, .load 60 (.tmp 23), 60, "ref.go:218", #[⟨18, .data⟩, ⟨15, .guard⟩], some (15, true)⟩) (v := undef) (Or.inr ⟨by rfl, rfl⟩) ?_
      simp only [Act.put, pu1, pu2, pu3]
      refine g_pure 20 (oi := ⟨some 25, .move (.tmp 0), 24, "ref.go:218", #[⟨15, .guard⟩], some (15, true)⟩) (v := undef) (Or.inr ⟨by rfl, rfl⟩) ?_
      simp only [Act.put, pu1, pu2, pu3]
      refine g_pure 21 (oi := ⟨some 26, .nilCheck (.tmp 25), 0, "ref.go:218", #[⟨20, .data⟩, ⟨15, .guard⟩], some (15, true)⟩) (v := undef) (Or.inr ⟨by rfl, rfl⟩) ?_
      simp only [Act.put, pu1, pu2, pu3]
      refine g_pure 22 (oi := ⟨some 27, .fieldAddr 62 (.tmp 26) 0, 0, "ref.go:218", #[⟨21, .data⟩, ⟨15, .guard⟩], some (15, true)⟩) (v := undef) (Or.inr ⟨by rfl, rfl⟩) ?_
      simp only [Act.put, pu1, pu2, pu3]
      refine g_take 23 (oi := ⟨some 28, .load 60 (.tmp 27), 60, "ref.go:218", #[⟨22, .data⟩, ⟨15, .guard⟩], some (15, true)⟩) (v := undef) (Or.inr ⟨by rfl, rfl⟩) ?_
      simp only [Act.put, pu1, pu2, pu3]
      refine g_pure 24 (oi := ⟨some 29, .move (.tmp 1), 3, "ref.go:218", #[⟨15, .guard⟩], some (15, true)⟩) (v := undef) (Or.inr ⟨by rfl, rfl⟩) ?_
      simp only [Act.put, pu1, pu2, pu3]
      refine g_pure 25 (oi := ⟨some 30, .indexAddr 60 (.tmp 28) (.tmp 29), 0, "ref.go:218", #[⟨23, .data⟩, ⟨24, .data⟩, ⟨15, .guard⟩], some (15, true)⟩) (v := undef) (Or.inr ⟨by rfl, rfl⟩) ?_
      simp only [Act.put, pu1, pu2, pu3]
      refine g_pure 26 (oi := ⟨some 31, .fieldAddr 59 (.tmp 30) 5, 0, "ref.go:218", #[⟨25, .data⟩, ⟨15, .guard⟩], some (15, true)⟩) (v := undef) (Or.inr ⟨by rfl, rfl⟩) ?_
      simp only [Act.put, pu1, pu2, pu3]
      refine g_take 27 (oi := ⟨some 32, .load 57 (.tmp 31), 57, "ref.go:218", #[⟨26, .data⟩, ⟨15, .guard⟩], some (15, true)⟩) (v := undef) (Or.inr ⟨by rfl, rfl⟩) ?_
      simp only [Act.put, pu1, pu2, pu3]
      refine g_pure 28 (oi := ⟨some 33, .indexAddr 57 (.tmp 32) (.const (.int .i64 0)), 0, "ref.go:218", #[⟨27, .data⟩, ⟨15, .guard⟩], some (15, true)⟩) (v := undef) (Or.inr ⟨by rfl, rfl⟩) ?_
      simp only [Act.put, pu1, pu2, pu3]
      refine g_take 29 (oi := ⟨some 34, .load 3 (.tmp 33), 3, "ref.go:218", #[⟨28, .data⟩, ⟨15, .guard⟩], some (15, true)⟩) (v := undef) (Or.inr ⟨by rfl, rfl⟩) ?_
      simp only [Act.put, pu1, pu2, pu3]
      refine g_pure 30 (oi := ⟨some 35, .indexAddr 60 (.tmp 24) (.tmp 34), 0, "ref.go:218", #[⟨19, .data⟩, ⟨29, .data⟩, ⟨15, .guard⟩], some (15, true)⟩) (v := undef) (Or.inr ⟨by rfl, rfl⟩) ?_
      simp only [Act.put, pu1, pu2, pu3]
      refine g_pure 31 (oi := ⟨some 36, .fieldAddr 59 (.tmp 35) 0, 0, "ref.go:218", #[⟨30, .data⟩, ⟨15, .guard⟩], some (15, true)⟩) (v := undef) (Or.inr ⟨by rfl, rfl⟩) ?_
      simp only [Act.put, pu1, pu2, pu3]
      refine g_take 32 (oi := ⟨some 37, .load 3 (.tmp 36), 3, "ref.go:218", #[⟨31, .data⟩, ⟨15, .guard⟩], some (15, true)⟩) (v := undef) (Or.inr ⟨by rfl, rfl⟩) ?_
      simp only [Act.put, pu1, pu2, pu3]
      refine g_pure 33 (oi := ⟨some 38, .binOp .eql 3 (.tmp 37) (.const (.int .i64 6)) 3, 4, "ref.go:218", #[⟨32, .data⟩, ⟨15, .guard⟩], some (15, true)⟩) (v := undef) (Or.inr ⟨by rfl, rfl⟩) ?_
      simp only [Act.put, pu1, pu2, pu3]
      refine g_pure 34 (oi := ⟨some 39, .pick (.tmp 20) (.tmp 38) (.const (.bool false)), 4, "ref.go:218", #[⟨15, .data⟩, ⟨33, .data⟩], none⟩) (v := ?_) (Or.inl ⟨by rfl, ?_⟩) ?_
      rotate_left
      · (intro w; go_simp; try with_reducible rfl)
      simp only [Act.put, pu1, pu2, pu3]
      refine wpAnyG_free (by kernel_rfl) ?_
      refine wpAny_done (by kernel_rfl) ?_ _
      clear hS1
      go_wp2
      go_ret
      exact ⟨rfl, kd⟩
    | cons y ys =>
      have hy : y < A.n := (ful.toOk.kid_lt (p := x) (by rw [hk]; exact List.mem_cons_self ..)).1
      have hiff := Ar.rcon_head ful hx' hk
      have y1 : (0 : Int) ≤ (y : Int) := by omega
      have y2 : (y : Int) < (A.n : Int) := by omega
      obtain ⟨b7, o7, hk7, e7⟩ := (h.kid x hx').iv_at 0 (by rw [hk]; simp)
      rw [Nat.add_zero] at e7
      have e8 : (A.kids x)[0]'(by rw [hk]; simp) = y := by simp [hk]
      rw [e8] at e7
      have hb : (A.kids x).length ≤ A.n := Ar.pig _ _ (ful.toOk.one x) (fun y hy => (ful.toOk.kid_lt hy).1)
      have hm : 0 < (A.kids x).length := by rw [hk]; simp
      rw [hk7] at c5
      have s0 := (h.seven hy).1
      have eF : A.rconF (x : Int) = if (A.lb y).kind = 6 then (y : Int) else -1 := by
        unfold Ar.rconF
        rw [Int.toNat_natCast, hx, hk]
        simp only [true_and, hiff, hdI]
      rw [eF]
      have c0 := h.head.1
      clear eF e8 hk hk7
      generalize (A.kids x).length = m at *
      have m1 : (0 : Int) < (m : Int) := by omega
      generalize (pl x).2.2.2 = kc at *
      by_cases h6 : (A.lb y).kind = 6
      · rw [if_pos h6]
        rw [h6] at s0
        have hS1 : (World.drew w).cell? ⟨d, 0, none⟩ = some (.slice (some ⟨g, o, none⟩) A.n c) ∧ (World.drew w).cell? ⟨g, o + x * 7 + 5, none⟩ = some (.slice (some ⟨b7, o7, none⟩) m kc) ∧ (World.drew w).cell? ⟨b7, o7, none⟩ = some (.int .i64 (y : Int)) ∧ (World.drew w).cell? ⟨g, o + y * 7, none⟩ = some (.int .i64 6) := ⟨c0, c5, e7, s0⟩
        clear h ful HT hiff h6
        go_enter Tryz.func77, Tryz.ntmps77
        go_upto_region 1 with fail
        refine wp_region_g (S := fun V => V.cell? ⟨d, 0, none⟩ = some (.slice (some ⟨g, o, none⟩) A.n c) ∧ V.cell? ⟨g, o + x * 7 + 5, none⟩ = some (.slice (some ⟨b7, o7, none⟩) m kc) ∧ V.cell? ⟨b7, o7, none⟩ = some (.int .i64 (y : Int)) ∧ V.cell? ⟨g, o + y * 7, none⟩ = some (.int .i64 6)) (T := []) (by kernel_rfl) hS1 (fun hHeld => ?_)
        refine g_pure 0 (oi := ⟨some 5, .move (.tmp 0), 24, "ref.go:218", #[], none⟩) (v := ?_) (Or.inl ⟨by rfl, ?_⟩) ?_
        rotate_left
        · (intro w; go_simp; try with_reducible rfl)
        simp only [Act.put, pu1, pu2, pu3]
        refine g_pure 1 (oi := ⟨some 6, .move (.tmp 1), 3, "ref.go:218", #[], none⟩) (v := ?_) (Or.inl ⟨by rfl, ?_⟩) ?_
        rotate_left
        · (intro w; go_simp; try with_reducible rfl)
        simp only [Act.put, pu1, pu2, pu3]
        refine wpAnyG_ready (rs := [2]) (by kernel_rfl) (by simp) ?_
        refine AllReadyG.cons (o := ⟨some 7, .call { callee := .value (.func 61), args := #[.tmp 5, .tmp 6], argTypes := #[24, 3] }, 4, "ref.go:218", #[⟨0, .data⟩, ⟨1, .data⟩], none⟩) rfl (fun K hK => ?_) AllReadyG.nil
        go_simp
        go_at_call 61
        refine HT0.mono ?_
        rintro e w9 ⟨rfl, hw⟩
        have hw2 := hw.symm
        clear hw
        subst hw2
        go_wp2_with fail
        refine hK.out _ _ hS1 (fun hHeld1 => ?_)
        clear hK K hHeld
        try simp only [Act.put, pu1, pu2, pu3]
        refine g_pure 3 (oi := ⟨some 8, .move (.tmp 7), 4, "ref.go:218", #[⟨2, .data⟩, ⟨2, .chain⟩], none⟩) (v := ?_) (Or.inl ⟨by rfl, ?_⟩) ?_
        rotate_left
        · (intro w; go_simp; try with_reducible rfl)
        simp only [Act.put, pu1, pu2, pu3]
        refine g_pure 4 (oi := ⟨some 9, .move (.tmp 0), 24, "ref.go:218", #[⟨3, .guard⟩], some (3, true)⟩) (v := ?_) (Or.inl ⟨by rfl, ?_⟩) ?_
        rotate_left
        · (intro w; go_simp; try with_reducible rfl)
        simp only [Act.put, pu1, pu2, pu3]
        refine g_pure 5 (oi := ⟨some 10, .nilCheck (.tmp 9), 0, "ref.go:218", #[⟨4, .data⟩, ⟨3, .guard⟩], some (3, true)⟩) (v := ?_) (Or.inl ⟨by rfl, ?_⟩) ?_
        rotate_left
        · (intro w; go_simp; try with_reducible rfl)
        simp only [Act.put, pu1, pu2, pu3]
        refine g_pure 6 (oi := ⟨some 11, .fieldAddr 62 (.tmp 10) 0, 0, "ref.go:218", #[⟨5, .data⟩, ⟨3, .guard⟩], some (3, true)⟩) (v := ?_) (Or.inl ⟨by rfl, ?_⟩) ?_
        rotate_left
        · (intro w; go_simp; try with_reducible rfl)
        simp only [Act.put, pu1, pu2, pu3]
        refine g_take 7 (oi := ⟨some 12, .load 60 (.tmp 11), 60, "ref.go:218", #[⟨6, .data⟩, ⟨3, .guard⟩], some (3, true)⟩) (v := ?_) (Or.inl ⟨by rfl, ?_⟩) ?_
        rotate_left
        · (intro w hSw; (obtain ⟨q1, q2, q3, q4⟩ := hSw); go_simp; try with_reducible rfl)
        simp only [Act.put, pu1, pu2, pu3]
        refine g_pure 8 (oi := ⟨some 13, .move (.tmp 1), 3, "ref.go:218", #[⟨3, .guard⟩], some (3, true)⟩) (v := ?_) (Or.inl ⟨by rfl, ?_⟩) ?_
        rotate_left
        · (intro w; go_simp; try with_reducible rfl)
        simp only [Act.put, pu1, pu2, pu3]
        refine g_pure 9 (oi := ⟨some 14, .indexAddr 60 (.tmp 12) (.tmp 13), 0, "ref.go:218", #[⟨7, .data⟩, ⟨8, .data⟩, ⟨3, .guard⟩], some (3, true)⟩) (v := ?_) (Or.inl ⟨by rfl, ?_⟩) ?_
        rotate_left
        · (intro w; go_simp; try with_reducible rfl)
        simp only [Act.put, pu1, pu2, pu3]
        refine g_pure 10 (oi := ⟨some 15, .fieldAddr 59 (.tmp 14) 5, 0, "ref.go:218", #[⟨9, .data⟩, ⟨3, .guard⟩], some (3, true)⟩) (v := ?_) (Or.inl ⟨by rfl, ?_⟩) ?_
        rotate_left
        · (intro w; go_simp; try with_reducible rfl)
        simp only [Act.put, pu1, pu2, pu3]
        refine g_take 11 (oi := ⟨some 16, .load 57 (.tmp 15), 57, "ref.go:218", #[⟨10, .data⟩, ⟨3, .guard⟩], some (3, true)⟩) (v := ?_) (Or.inl ⟨by rfl, ?_⟩) ?_
        rotate_left
        · (intro w hSw; (obtain ⟨q1, q2, q3, q4⟩ := hSw); go_simp; try with_reducible rfl)
        simp only [Act.put, pu1, pu2, pu3]
        refine g_pure 12 (oi := ⟨some 17, .call { callee := .builtin .len, args := #[.tmp 16], argTypes := #[57] }, 3, "ref.go:218", #[⟨11, .data⟩, ⟨3, .guard⟩], some (3, true)⟩) (v := ?_) (Or.inl ⟨by rfl, ?_⟩) ?_
        rotate_left
        · (intro w; go_simp; try with_reducible rfl)
        simp only [Act.put, pu1, pu2, pu3]
        refine g_pure 13 (oi := ⟨some 18, .binOp .gtr 3 (.tmp 17) (.const (.int .i64 0)) 3, 4, "ref.go:218", #[⟨12, .data⟩, ⟨3, .guard⟩], some (3, true)⟩) (v := ?_) (Or.inl ⟨by rfl, ?_⟩) ?_
        rotate_left
        · (intro w; go_simp; try with_reducible rfl)
        simp only [Act.put, pu1, pu2, pu3]
        refine g_pure 14 (oi := ⟨some 19, .pick (.tmp 8) (.tmp 18) (.const (.bool false)), 4, "ref.go:218", #[⟨3, .data⟩, ⟨13, .data⟩], none⟩) (v := ?_) (Or.inl ⟨by rfl, ?_⟩) ?_
        rotate_left
        · (intro w; go_simp; try with_reducible rfl)
        simp only [Act.put, pu1, pu2, pu3]
        refine g_pure 15 (oi := ⟨some 20, .move (.tmp 19), 4, "ref.go:218", #[⟨14, .data⟩, ⟨3, .chain⟩], none⟩) (v := ?_) (Or.inl ⟨by rfl, ?_⟩) ?_
        rotate_left
        · (intro w; go_simp; try with_reducible rfl)
        simp only [Act.put, pu1, pu2, pu3]
        refine g_pure 16 (oi := ⟨some 21, .move (.tmp 0), 24, "ref.go:218", #[⟨15, .guard⟩], some (15, true)⟩) (v := ?_) (Or.inl ⟨by rfl, ?_⟩) ?_
        rotate_left
        · (intro w; go_simp; try with_reducible rfl)
        simp only [Act.put, pu1, pu2, pu3]
        refine g_pure 17 (oi := ⟨some 22, .nilCheck (.tmp 21), 0, "ref.go:218", #[⟨16, .data⟩, ⟨15, .guard⟩], some (15, true)⟩) (v := ?_) (Or.inl ⟨by rfl, ?_⟩) ?_
        rotate_left
        · (intro w; go_simp; try with_reducible rfl)
        simp only [Act.put, pu1, pu2, pu3]
        refine g_pure 18 (oi := ⟨some 23, .fieldAddr 62 (.tmp 22) 0, 0, "ref.go:218", #[⟨17, .data⟩, ⟨15, .guard⟩], some (15, true)⟩) (v := ?_) (Or.inl ⟨by rfl, ?_⟩) ?_
        rotate_left
        · (intro w; go_simp; try with_reducible rfl)
        simp only [Act.put, pu1, pu2, pu3]
        refine g_take 19 (oi := ⟨some 24, .load 60 (.tmp 23), 60, "ref.go:218", #[⟨18, .data⟩, ⟨15, .guard⟩], some (15, true)⟩) (v := ?_) (Or.inl ⟨by rfl, ?_⟩) ?_
        rotate_left
        · (intro w hSw; (obtain ⟨q1, q2, q3, q4⟩ := hSw); go_simp; try with_reducible rfl)
        simp only [Act.put, pu1, pu2, pu3]
        refine g_pure 20 (oi := ⟨some 25, .move (.tmp 0), 24, "ref.go:218", #[⟨15, .guard⟩], some (15, true)⟩) (v := ?_) (Or.inl ⟨by rfl, ?_⟩) ?_
        rotate_left
        · (intro w; go_simp; try with_reducible rfl)
        simp only [Act.put, pu1, pu2, pu3]
        refine g_pure 21 (oi := ⟨some 26, .nilCheck (.tmp 25), 0, "ref.go:218", #[⟨20, .data⟩, ⟨15, .guard⟩], some (15, true)⟩) (v := ?_) (Or.inl ⟨by rfl, ?_⟩) ?_
        rotate_left
        · (intro w; go_simp; try with_reducible rfl)
        simp only [Act.put, pu1, pu2, pu3]
        refine g_pure 22 (oi := ⟨some 27, .fieldAddr 62 (.tmp 26) 0, 0, "ref.go:218", #[⟨21, .data⟩, ⟨15, .guard⟩], some (15, true)⟩) (v := ?_) (Or.inl ⟨by rfl, ?_⟩) ?_
        rotate_left
        · (intro w; go_simp; try with_reducible rfl)
        simp only [Act.put, pu1, pu2, pu3]
        refine g_take 23 (oi := ⟨some 28, .load 60 (.tmp 27), 60, "ref.go:218", #[⟨22, .data⟩, ⟨15, .guard⟩], some (15, true)⟩) (v := ?_) (Or.inl ⟨by rfl, ?_⟩) ?_
        rotate_left
        · (intro w hSw; (obtain ⟨q1, q2, q3, q4⟩ := hSw); go_simp; try with_reducible rfl)
        simp only [Act.put, pu1, pu2, pu3]
        refine g_pure 24 (oi := ⟨some 29, .move (.tmp 1), 3, "ref.go:218", #[⟨15, .guard⟩], some (15, true)⟩) (v := ?_) (Or.inl ⟨by rfl, ?_⟩) ?_
        rotate_left
        · (intro w; go_simp; try with_reducible rfl)
        simp only [Act.put, pu1, pu2, pu3]
        refine g_pure 25 (oi := ⟨some 30, .indexAddr 60 (.tmp 28) (.tmp 29), 0, "ref.go:218", #[⟨23, .data⟩, ⟨24, .data⟩, ⟨15, .guard⟩], some (15, true)⟩) (v := ?_) (Or.inl ⟨by rfl, ?_⟩) ?_
        rotate_left
        · (intro w; go_simp; try with_reducible rfl)
        simp only [Act.put, pu1, pu2, pu3]
        refine g_pure 26 (oi := ⟨some 31, .fieldAddr 59 (.tmp 30) 5, 0, "ref.go:218", #[⟨25, .data⟩, ⟨15, .guard⟩], some (15, true)⟩) (v := ?_) (Or.inl ⟨by rfl, ?_⟩) ?_
        rotate_left
        · (intro w; go_simp; try with_reducible rfl)
        simp only [Act.put, pu1, pu2, pu3]
        refine g_take 27 (oi := ⟨some 32, .load 57 (.tmp 31), 57, "ref.go:218", #[⟨26, .data⟩, ⟨15, .guard⟩], some (15, true)⟩) (v := ?_) (Or.inl ⟨by rfl, ?_⟩) ?_
        rotate_left
        · (intro w hSw; (obtain ⟨q1, q2, q3, q4⟩ := hSw); go_simp; try with_reducible rfl)
        simp only [Act.put, pu1, pu2, pu3]
        refine g_pure 28 (oi := ⟨some 33, .indexAddr 57 (.tmp 32) (.const (.int .i64 0)), 0, "ref.go:218", #[⟨27, .data⟩, ⟨15, .guard⟩], some (15, true)⟩) (v := ?_) (Or.inl ⟨by rfl, ?_⟩) ?_
        rotate_left
        · (intro w; go_simp; try with_reducible rfl)
        simp only [Act.put, pu1, pu2, pu3]
        refine g_take 29 (oi := ⟨some 34, .load 3 (.tmp 33), 3, "ref.go:218", #[⟨28, .data⟩, ⟨15, .guard⟩], some (15, true)⟩) (v := ?_) (Or.inl ⟨by rfl, ?_⟩) ?_
        rotate_left
        · (intro w hSw; (obtain ⟨q1, q2, q3, q4⟩ := hSw); go_simp; try with_reducible rfl)
        simp only [Act.put, pu1, pu2, pu3]
        refine g_pure 30 (oi := ⟨some 35, .indexAddr 60 (.tmp 24) (.tmp 34), 0, "ref.go:218", #[⟨19, .data⟩, ⟨29, .data⟩, ⟨15, .guard⟩], some (15, true)⟩) (v := ?_) (Or.inl ⟨by rfl, ?_⟩) ?_
        rotate_left
        · (intro w; go_simp; try with_reducible rfl)
        simp only [Act.put, pu1, pu2, pu3]
        refine g_pure 31 (oi := ⟨some 36, .fieldAddr 59 (.tmp 35) 0, 0, "ref.go:218", #[⟨30, .data⟩, ⟨15, .guard⟩], some (15, true)⟩) (v := ?_) (Or.inl ⟨by rfl, ?_⟩) ?_
        rotate_left
        · (intro w; go_simp; try with_reducible rfl)
        simp only [Act.put, pu1, pu2, pu3]
        refine g_take 32 (oi := ⟨some 37, .load 3 (.tmp 36), 3, "ref.go:218", #[⟨31, .data⟩, ⟨15, .guard⟩], some (15, true)⟩) (v := ?_) (Or.inl ⟨by rfl, ?_⟩) ?_
        rotate_left
        · (intro w hSw; (obtain ⟨q1, q2, q3, q4⟩ := hSw); go_simp; try with_reducible rfl)
        simp only [Act.put, pu1, pu2, pu3]
        refine g_pure 33 (oi := ⟨some 38, .binOp .eql 3 (.tmp 37) (.const (.int .i64 6)) 3, 4, "ref.go:218", #[⟨32, .data⟩, ⟨15, .guard⟩], some (15, true)⟩) (v := ?_) (Or.inl ⟨by rfl, ?_⟩) ?_
        rotate_left
        · (intro w; go_simp; try with_reducible rfl)
        simp only [Act.put, pu1, pu2, pu3]
        refine g_pure 34 (oi := ⟨some 39, .pick (.tmp 20) (.tmp 38) (.const (.bool false)), 4, "ref.go:218", #[⟨15, .data⟩, ⟨33, .data⟩], none⟩) (v := ?_) (Or.inl ⟨by rfl, ?_⟩) ?_
        rotate_left
        · (intro w; go_simp; try with_reducible rfl)
        simp only [Act.put, pu1, pu2, pu3]
        refine wpAnyG_free (by kernel_rfl) ?_
        refine wpAny_done (by kernel_rfl) ?_ _
        clear hS1
        go_wp2
        go_ret
        exact ⟨rfl, kd⟩
      · rw [if_neg h6]
        have t6 : ((A.lb y).kind == 6) = false := beq_false_of_ne h6
        generalize (A.lb y).kind = ky at *
        have hS1 : (World.drew w).cell? ⟨d, 0, none⟩ = some (.slice (some ⟨g, o, none⟩) A.n c) ∧ (World.drew w).cell? ⟨g, o + x * 7 + 5, none⟩ = some (.slice (some ⟨b7, o7, none⟩) m kc) ∧ (World.drew w).cell? ⟨b7, o7, none⟩ = some (.int .i64 (y : Int)) ∧ (World.drew w).cell? ⟨g, o + y * 7, none⟩ = some (.int .i64 ky) := ⟨c0, c5, e7, s0⟩
        clear h ful HT hiff h6
        go_enter Tryz.func77, Tryz.ntmps77
        go_upto_region 1 with fail
        refine wp_region_g (S := fun V => V.cell? ⟨d, 0, none⟩ = some (.slice (some ⟨g, o, none⟩) A.n c) ∧ V.cell? ⟨g, o + x * 7 + 5, none⟩ = some (.slice (some ⟨b7, o7, none⟩) m kc) ∧ V.cell? ⟨b7, o7, none⟩ = some (.int .i64 (y : Int)) ∧ V.cell? ⟨g, o + y * 7, none⟩ = some (.int .i64 ky)) (T := []) (by kernel_rfl) hS1 (fun hHeld => ?_)
        refine g_pure 0 (oi := ⟨some 5, .move (.tmp 0), 24, "ref.go:218", #[], none⟩) (v := ?_) (Or.inl ⟨by rfl, ?_⟩) ?_
        rotate_left
        · (intro w; go_simp; try with_reducible rfl)
        simp only [Act.put, pu1, pu2, pu3]
        refine g_pure 1 (oi := ⟨some 6, .move (.tmp 1), 3, "ref.go:218", #[], none⟩) (v := ?_) (Or.inl ⟨by rfl, ?_⟩) ?_
        rotate_left
        · (intro w; go_simp; try with_reducible rfl)
        simp only [Act.put, pu1, pu2, pu3]
        refine wpAnyG_ready (rs := [2]) (by kernel_rfl) (by simp) ?_
        refine AllReadyG.cons (o := ⟨some 7, .call { callee := .value (.func 61), args := #[.tmp 5, .tmp 6], argTypes := #[24, 3] }, 4, "ref.go:218", #[⟨0, .data⟩, ⟨1, .data⟩], none⟩) rfl (fun K hK => ?_) AllReadyG.nil
        go_simp
        go_at_call 61
        refine HT0.mono ?_
        rintro e w9 ⟨rfl, hw⟩
        have hw2 := hw.symm
        clear hw
        subst hw2
        go_wp2_with fail
        refine hK.out _ _ hS1 (fun hHeld1 => ?_)
        clear hK K hHeld
        try simp only [Act.put, pu1, pu2, pu3]
        refine g_pure 3 (oi := ⟨some 8, .move (.tmp 7), 4, "ref.go:218", #[⟨2, .data⟩, ⟨2, .chain⟩], none⟩) (v := ?_) (Or.inl ⟨by rfl, ?_⟩) ?_
        rotate_left
        · (intro w; go_simp; try with_reducible rfl)
        simp only [Act.put, pu1, pu2, pu3]
        refine g_pure 4 (oi := ⟨some 9, .move (.tmp 0), 24, "ref.go:218", #[⟨3, .guard⟩], some (3, true)⟩) (v := ?_) (Or.inl ⟨by rfl, ?_⟩) ?_
        rotate_left
        · (intro w; go_simp; try with_reducible rfl)
        simp only [Act.put, pu1, pu2, pu3]
        refine g_pure 5 (oi := ⟨some 10, .nilCheck (.tmp 9), 0, "ref.go:218", #[⟨4, .data⟩, ⟨3, .guard⟩], some (3, true)⟩) (v := ?_) (Or.inl ⟨by rfl, ?_⟩) ?_
        rotate_left
        · (intro w; go_simp; try with_reducible rfl)
        simp only [Act.put, pu1, pu2, pu3]
        refine g_pure 6 (oi := ⟨some 11, .fieldAddr 62 (.tmp 10) 0, 0, "ref.go:218", #[⟨5, .data⟩, ⟨3, .guard⟩], some (3, true)⟩) (v := ?_) (Or.inl ⟨by rfl, ?_⟩) ?_
        rotate_left
        · (intro w; go_simp; try with_reducible rfl)
        simp only [Act.put, pu1, pu2, pu3]
        refine g_take 7 (oi := ⟨some 12, .load 60 (.tmp 11), 60, "ref.go:218", #[⟨6, .data⟩, ⟨3, .guard⟩], some (3, true)⟩) (v := ?_) (Or.inl ⟨by rfl, ?_⟩) ?_
        rotate_left
        · (intro w hSw; (obtain ⟨q1, q2, q3, q4⟩ := hSw); go_simp; try with_reducible rfl)
        simp only [Act.put, pu1, pu2, pu3]
        refine g_pure 8 (oi := ⟨some 13, .move (.tmp 1), 3, "ref.go:218", #[⟨3, .guard⟩], some (3, true)⟩) (v := ?_) (Or.inl ⟨by rfl, ?_⟩) ?_
        rotate_left
        · (intro w; go_simp; try with_reducible rfl)
        simp only [Act.put, pu1, pu2, pu3]
        refine g_pure 9 (oi := ⟨some 14, .indexAddr 60 (.tmp 12) (.tmp 13), 0, "ref.go:218", #[⟨7, .data⟩, ⟨8, .data⟩, ⟨3, .guard⟩], some (3, true)⟩) (v := ?_) (Or.inl ⟨by rfl, ?_⟩) ?_
        rotate_left
        · (intro w; go_simp; try with_reducible rfl)
        simp only [Act.put, pu1, pu2, pu3]
        refine g_pure 10 (oi := ⟨some 15, .fieldAddr 59 (.tmp 14) 5, 0, "ref.go:218", #[⟨9, .data⟩, ⟨3, .guard⟩], some (3, true)⟩) (v := ?_) (Or.inl ⟨by rfl, ?_⟩) ?_
        rotate_left
        · (intro w; go_simp; try with_reducible rfl)
        simp only [Act.put, pu1, pu2, pu3]
        refine g_take 11 (oi := ⟨some 16, .load 57 (.tmp 15), 57, "ref.go:218", #[⟨10, .data⟩, ⟨3, .guard⟩], some (3, true)⟩) (v := ?_) (Or.inl ⟨by rfl, ?_⟩) ?_
        rotate_left
        · (intro w hSw; (obtain ⟨q1, q2, q3, q4⟩ := hSw); go_simp; try with_reducible rfl)
        simp only [Act.put, pu1, pu2, pu3]
        refine g_pure 12 (oi := ⟨some 17, .call { callee := .builtin .len, args := #[.tmp 16], argTypes := #[57] }, 3, "ref.go:218", #[⟨11, .data⟩, ⟨3, .guard⟩], some (3, true)⟩) (v := ?_) (Or.inl ⟨by rfl, ?_⟩) ?_
        rotate_left
        · (intro w; go_simp; try with_reducible rfl)
        simp only [Act.put, pu1, pu2, pu3]
        refine g_pure 13 (oi := ⟨some 18, .binOp .gtr 3 (.tmp 17) (.const (.int .i64 0)) 3, 4, "ref.go:218", #[⟨12, .data⟩, ⟨3, .guard⟩], some (3, true)⟩) (v := ?_) (Or.inl ⟨by rfl, ?_⟩) ?_
        rotate_left
        · (intro w; go_simp; try with_reducible rfl)
        simp only [Act.put, pu1, pu2, pu3]
        refine g_pure 14 (oi := ⟨some 19, .pick (.tmp 8) (.tmp 18) (.const (.bool false)), 4, "ref.go:218", #[⟨3, .data⟩, ⟨13, .data⟩], none⟩) (v := ?_) (Or.inl ⟨by rfl, ?_⟩) ?_
        rotate_left
        · (intro w; go_simp; try with_reducible rfl)
        simp only [Act.put, pu1, pu2, pu3]
        refine g_pure 15 (oi := ⟨some 20, .move (.tmp 19), 4, "ref.go:218", #[⟨14, .data⟩, ⟨3, .chain⟩], none⟩) (v := ?_) (Or.inl ⟨by rfl, ?_⟩) ?_
        rotate_left
        · (intro w; go_simp; try with_reducible rfl)
        simp only [Act.put, pu1, pu2, pu3]
        refine g_pure 16 (oi := ⟨some 21, .move (.tmp 0), 24, "ref.go:218", #[⟨15, .guard⟩], some (15, true)⟩) (v := ?_) (Or.inl ⟨by rfl, ?_⟩) ?_
        rotate_left
        · (intro w; go_simp; try with_reducible rfl)
        simp only [Act.put, pu1, pu2, pu3]
        refine g_pure 17 (oi := ⟨some 22, .nilCheck (.tmp 21), 0, "ref.go:218", #[⟨16, .data⟩, ⟨15, .guard⟩], some (15, true)⟩) (v := ?_) (Or.inl ⟨by rfl, ?_⟩) ?_
        rotate_left
        · (intro w; go_simp; try with_reducible rfl)
        simp only [Act.put, pu1, pu2, pu3]
        refine g_pure 18 (oi := ⟨some 23, .fieldAddr 62 (.tmp 22) 0, 0, "ref.go:218", #[⟨17, .data⟩, ⟨15, .guard⟩], some (15, true)⟩) (v := ?_) (Or.inl ⟨by rfl, ?_⟩) ?_
        rotate_left
        · (intro w; go_simp; try with_reducible rfl)
        simp only [Act.put, pu1, pu2, pu3]
        refine g_take 19 (oi := ⟨some 24, .load 60 (.tmp 23), 60, "ref.go:218", #[⟨18, .data⟩, ⟨15, .guard⟩], some (15, true)⟩) (v := ?_) (Or.inl ⟨by rfl, ?_⟩) ?_
        rotate_left
        · (intro w hSw; (obtain ⟨q1, q2, q3, q4⟩ := hSw); go_simp; try with_reducible rfl)
        simp only [Act.put, pu1, pu2, pu3]
        refine g_pure 20 (oi := ⟨some 25, .move (.tmp 0), 24, "ref.go:218", #[⟨15, .guard⟩], some (15, true)⟩) (v := ?_) (Or.inl ⟨by rfl, ?_⟩) ?_
        rotate_left
        · (intro w; go_simp; try with_reducible rfl)
        simp only [Act.put, pu1, pu2, pu3]
        refine g_pure 21 (oi := ⟨some 26, .nilCheck (.tmp 25), 0, "ref.go:218", #[⟨20, .data⟩, ⟨15, .guard⟩], some (15, true)⟩) (v := ?_) (Or.inl ⟨by rfl, ?_⟩) ?_
        rotate_left
        · (intro w; go_simp; try with_reducible rfl)
        simp only [Act.put, pu1, pu2, pu3]
        refine g_pure 22 (oi := ⟨some 27, .fieldAddr 62 (.tmp 26) 0, 0, "ref.go:218", #[⟨21, .data⟩, ⟨15, .guard⟩], some (15, true)⟩) (v := ?_) (Or.inl ⟨by rfl, ?_⟩) ?_
        rotate_left
        · (intro w; go_simp; try with_reducible rfl)
        simp only [Act.put, pu1, pu2, pu3]
        refine g_take 23 (oi := ⟨some 28, .load 60 (.tmp 27), 60, "ref.go:218", #[⟨22, .data⟩, ⟨15, .guard⟩], some (15, true)⟩) (v := ?_) (Or.inl ⟨by rfl, ?_⟩) ?_
        rotate_left
        · (intro w hSw; (obtain ⟨q1, q2, q3, q4⟩ := hSw); go_simp; try with_reducible rfl)
        simp only [Act.put, pu1, pu2, pu3]
        refine g_pure 24 (oi := ⟨some 29, .move (.tmp 1), 3, "ref.go:218", #[⟨15, .guard⟩], some (15, true)⟩) (v := ?_) (Or.inl ⟨by rfl, ?_⟩) ?_
        rotate_left
        · (intro w; go_simp; try with_reducible rfl)
        simp only [Act.put, pu1, pu2, pu3]
        refine g_pure 25 (oi := ⟨some 30, .indexAddr 60 (.tmp 28) (.tmp 29), 0, "ref.go:218", #[⟨23, .data⟩, ⟨24, .data⟩, ⟨15, .guard⟩], some (15, true)⟩) (v := ?_) (Or.inl ⟨by rfl, ?_⟩) ?_
        rotate_left
        · (intro w; go_simp; try with_reducible rfl)
        simp only [Act.put, pu1, pu2, pu3]
        refine g_pure 26 (oi := ⟨some 31, .fieldAddr 59 (.tmp 30) 5, 0, "ref.go:218", #[⟨25, .data⟩, ⟨15, .guard⟩], some (15, true)⟩) (v := ?_) (Or.inl ⟨by rfl, ?_⟩) ?_
        rotate_left
        · (intro w; go_simp; try with_reducible rfl)
        simp only [Act.put, pu1, pu2, pu3]
        refine g_take 27 (oi := ⟨some 32, .load 57 (.tmp 31), 57, "ref.go:218", #[⟨26, .data⟩, ⟨15, .guard⟩], some (15, true)⟩) (v := ?_) (Or.inl ⟨by rfl, ?_⟩) ?_
        rotate_left
        · (intro w hSw; (obtain ⟨q1, q2, q3, q4⟩ := hSw); go_simp; try with_reducible rfl)
        simp only [Act.put, pu1, pu2, pu3]
        refine g_pure 28 (oi := ⟨some 33, .indexAddr 57 (.tmp 32) (.const (.int .i64 0)), 0, "ref.go:218", #[⟨27, .data⟩, ⟨15, .guard⟩], some (15, true)⟩) (v := ?_) (Or.inl ⟨by rfl, ?_⟩) ?_
        rotate_left
        · (intro w; go_simp; try with_reducible rfl)
        simp only [Act.put, pu1, pu2, pu3]
        refine g_take 29 (oi := ⟨some 34, .load 3 (.tmp 33), 3, "ref.go:218", #[⟨28, .data⟩, ⟨15, .guard⟩], some (15, true)⟩) (v := ?_) (Or.inl ⟨by rfl, ?_⟩) ?_
        rotate_left
        · (intro w hSw; (obtain ⟨q1, q2, q3, q4⟩ := hSw); go_simp; try with_reducible rfl)
        simp only [Act.put, pu1, pu2, pu3]
        refine g_pure 30 (oi := ⟨some 35, .indexAddr 60 (.tmp 24) (.tmp 34), 0, "ref.go:218", #[⟨19, .data⟩, ⟨29, .data⟩, ⟨15, .guard⟩], some (15, true)⟩) (v := ?_) (Or.inl ⟨by rfl, ?_⟩) ?_
        rotate_left
        · (intro w; go_simp; try with_reducible rfl)
        simp only [Act.put, pu1, pu2, pu3]
        refine g_pure 31 (oi := ⟨some 36, .fieldAddr 59 (.tmp 35) 0, 0, "ref.go:218", #[⟨30, .data⟩, ⟨15, .guard⟩], some (15, true)⟩) (v := ?_) (Or.inl ⟨by rfl, ?_⟩) ?_
        rotate_left
        · (intro w; go_simp; try with_reducible rfl)
        simp only [Act.put, pu1, pu2, pu3]
        refine g_take 32 (oi := ⟨some 37, .load 3 (.tmp 36), 3, "ref.go:218", #[⟨31, .data⟩, ⟨15, .guard⟩], some (15, true)⟩) (v := ?_) (Or.inl ⟨by rfl, ?_⟩) ?_
        rotate_left
        · (intro w hSw; (obtain ⟨q1, q2, q3, q4⟩ := hSw); go_simp; try with_reducible rfl)
        simp only [Act.put, pu1, pu2, pu3]
        refine g_pure 33 (oi := ⟨some 38, .binOp .eql 3 (.tmp 37) (.const (.int .i64 6)) 3, 4, "ref.go:218", #[⟨32, .data⟩, ⟨15, .guard⟩], some (15, true)⟩) (v := ?_) (Or.inl ⟨by rfl, ?_⟩) ?_
        rotate_left
        · (intro w; go_simp; try with_reducible rfl)
        simp only [Act.put, pu1, pu2, pu3]
        refine g_pure 34 (oi := ⟨some 39, .pick (.tmp 20) (.tmp 38) (.const (.bool false)), 4, "ref.go:218", #[⟨15, .data⟩, ⟨33, .data⟩], none⟩) (v := ?_) (Or.inl ⟨by rfl, ?_⟩) ?_
        rotate_left
        · (intro w; go_simp; try with_reducible rfl)
        simp only [Act.put, pu1, pu2, pu3]
        refine wpAnyG_free (by kernel_rfl) ?_
        refine wpAny_done (by kernel_rfl) ?_ _
        clear hS1
        go_wp2
        go_ret
        exact ⟨rfl, kd⟩

end

end Go.Proofs.YtgjkfpmhgidpaaaGreat
