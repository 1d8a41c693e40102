/-
  Joined: RdO RdP.
-/
import Derived.Test.YtpkppobkagdhkaaGreatJ35
import Derived.Test.YtpkppobkagdhkaaGreatJ23

/-
  The document's arena: Content.
-/
namespace Go.Proofs.YtpkppobkagdhkaaGreat
open Go.RowKit Go.Maps Utf
set_option linter.unusedVariables false
set_option linter.unusedSimpArgs false

/-- The Content of a template, -1 of another node. -/
def Ar.rconF (A : Ar) (z : Int) : Int := if A.there z = true ∧ tmplF (A.lb z.toNat) = true then hdI (A.kids z.toNat) else -1

theorem Ar.rcon_head {A : Ar} (ful : A.Ful) {x c : Nat} {ks : List Nat} (hx : x < A.n) (hk : A.kids x = c :: ks) : ((A.lb c).kind = 6 ↔ tmplF (A.lb x) = true) := by
  constructor
  · intro h6
    obtain ⟨p, h1, h2⟩ := ful.con c (ful.toOk.kid_lt (p := x) (by rw [hk]; exact List.mem_cons_self ..)).1 h6
    have e1 := (ful.link x c).1 (by rw [hk]; exact List.mem_cons_self ..)
    have e2 := (ful.link p c).1 (by
      cases hq : A.kids p with
      | nil => rw [hq] at h1; cases h1
      | cons y ys => rw [hq] at h1; obtain rfl : y = c := by simpa using h1
                     exact List.mem_cons_self ..)
    rw [e1] at e2
    obtain rfl := Option.some.inj e2
    exact h2
  · intro ht
    obtain ⟨c', h1, h2⟩ := ful.has x hx ht
    rw [hk] at h1
    obtain rfl : c = c' := by simpa using h1
    exact h2

section
variable {tag : Nat → Nat} {w : World} {d : Nat} {q : Bool} {A : Ar}

set_option maxRecDepth 100000 in
set_option maxHeartbeats 1000000 in
theorem rcon_any (hD : Dn tag w d q A) (ful : A.Ful) (hn : A.n < 50000) (z : Int) :
    Calls Tryz.prog 52 #[.pointer (some ⟨d, 0, none⟩), .int .i64 z] w fun e w' => e = .returned (.int .i64 (A.rconF z)) ∧ Kp [] w w' := by
  obtain ⟨g, o, c, pl, h⟩ := hD
  have HT : Hid (∀ V, Kp [] w V → Calls Tryz.prog 92 #[.pointer (some ⟨d, 0, none⟩), .int .i64 z] V fun e w' => e = .returned (.bool (A.there z)) ∧ w' = V) := fun V k => rthere_any (h.kept k) z
  have hun : undef = Value.tuple #[] := rfl
  have kd : Kp [] w w.drew := (Kp.refl _ _).drew
  cases hx : A.there z with
  | false =>
    have eF : A.rconF z = -1 := by unfold Ar.rconF; rw [if_neg (by rw [hx]; simp)]
    rw [eF]
    have HT0 := HT.out _ kd
    rw [hx] at HT0
    have hS1 : (World.drew w).cell? ⟨d, 0, none⟩ = some (.slice (some ⟨g, o, none⟩) A.n c) := h.head.1
    clear eF h ful HT
    go_enter Tryz.func52, Tryz.ntmps52
    go_upto_region 1 with fail
    refine wp_region_g (S := fun V => V.cell? ⟨d, 0, none⟩ = some (.slice (some ⟨g, o, none⟩) A.n c)) (T := []) (by kernel_rfl) hS1 (fun hHeld => ?_)
    refine g_pure 0 (some 5) (.move (.tmp 0)) ?_
    refine g_pure 1 (some 6) (.move (.tmp 1)) ?_
    refine wpAnyG_ready (rs := [2]) (by kernel_rfl) (by simp) ?_
    refine AllReadyG.cons (o := ⟨some 7, .call { callee := .value (.func 92), args := #[.tmp 5, .tmp 6], argTypes := #[63, 3] }, 4, _, _, none⟩) rfl (fun K hK => ?_) AllReadyG.nil
    go_simp
    go_at_call 92
    refine HT0.mono ?_
    rintro e w9 ⟨rfl, hw⟩
    have hw2 := hw.symm
    clear hw
    subst hw2
    go_wp2_with fail
    refine hK.out _ _ hS1 (fun hHeld1 => ?_)
    clear hK K hHeld
    try simp only [Act.put, pu1, pu2, pu3]
    refine g_pure 3 (some 8) (.move (.tmp 7)) ?_
    refine g_skip 4 (some 9) (.move (.tmp 0)) ?_
    refine g_skip 5 (some 10) (.nilCheck (.tmp 9)) ?_
    refine g_skip 6 (some 11) (.fieldAddr 69 (.tmp 10) 0) ?_
    refine g_skip 7 (some 12) (.load 67 (.tmp 11)) ?_
    refine g_skip 8 (some 13) (.move (.tmp 1)) ?_
    refine g_skip 9 (some 14) (.indexAddr 67 (.tmp 12) (.tmp 13)) ?_
    refine g_skip 10 (some 15) (.fieldAddr 106 (.tmp 14) 5) ?_
    refine g_skip 11 (some 16) (.load 61 (.tmp 15)) ?_
    refine g_skip 12 (some 17) (.call { callee := .builtin .len, args := #[.tmp 16], argTypes := #[61] }) ?_
    refine g_skip 13 (some 18) (.binOp .gtr 3 (.tmp 17) (.const (.int .i64 0)) 3) ?_
    refine g_pure 14 (some 19) (.pick (.tmp 8) (.tmp 18) (.const (.bool false))) ?_
    refine g_pure 15 (some 20) (.move (.tmp 19)) ?_
    refine g_skip 16 (some 21) (.move (.tmp 0)) ?_
    refine g_skip 17 (some 22) (.nilCheck (.tmp 21)) ?_
    refine g_skip 18 (some 23) (.fieldAddr 69 (.tmp 22) 0) ?_
    refine g_skip 19 (some 24) (.load 67 (.tmp 23)) ?_
    refine g_skip 20 (some 25) (.move (.tmp 0)) ?_
    refine g_skip 21 (some 26) (.nilCheck (.tmp 25)) ?_
    refine g_skip 22 (some 27) (.fieldAddr 69 (.tmp 26) 0) ?_
    refine g_skip 23 (some 28) (.load 67 (.tmp 27)) ?_
    refine g_skip 24 (some 29) (.move (.tmp 1)) ?_
    refine g_skip 25 (some 30) (.indexAddr 67 (.tmp 28) (.tmp 29)) ?_
    refine g_skip 26 (some 31) (.fieldAddr 106 (.tmp 30) 5) ?_
    refine g_skip 27 (some 32) (.load 61 (.tmp 31)) ?_
    refine g_skip 28 (some 33) (.indexAddr 61 (.tmp 32) (.const (.int .i64 0))) ?_
    refine g_skip 29 (some 34) (.load 3 (.tmp 33)) ?_
    refine g_skip 30 (some 35) (.indexAddr 67 (.tmp 24) (.tmp 34)) ?_
    refine g_skip 31 (some 36) (.fieldAddr 106 (.tmp 35) 0) ?_
    refine g_skip 32 (some 37) (.load 3 (.tmp 36)) ?_
    refine g_skip 33 (some 38) (.binOp .eql 3 (.tmp 37) (.const (.int .i64 6)) 3) ?_
    refine g_pure 34 (some 39) (.pick (.tmp 20) (.tmp 38) (.const (.bool false))) ?_
    refine wpAnyG_free (by kernel_rfl) ?_
    refine wpAny_done (by kernel_rfl) ?_ _
    clear hS1
    go_wp2
    go_ret
    exact ⟨rfl, kd⟩
  | true =>
    have HT0 := HT.out _ kd
    rw [hx] at HT0
    obtain ⟨x, rfl, hx'⟩ := there_nat hx
    have j1 : (0 : Int) ≤ (x : Int) := by omega
    have j2 : (x : Int) < (A.n : Int) := by omega
    have c5 := (h.seven hx').2.2.2.2.2.1
    rw [h.klen hx'] at c5
    cases hk : A.kids x with
    | nil =>
      have eF : A.rconF (x : Int) = -1 := by
        unfold Ar.rconF
        rw [Int.toNat_natCast, if_neg]
        rintro ⟨_, ht⟩
        obtain ⟨c', h1, _⟩ := ful.has x hx' ht
        rw [hk] at h1; cases h1
      rw [eF]
      rw [hk] at c5
      have hS1 : (World.drew w).cell? ⟨d, 0, none⟩ = some (.slice (some ⟨g, o, none⟩) A.n c) ∧ (World.drew w).cell? ⟨g, o + x * 7 + 5, none⟩ = some (.slice (pl x).2.1 0 (pl x).2.2.2) := ⟨h.head.1, c5⟩
      clear eF h ful HT c5
      generalize (pl x).2.1 = ko at *
      generalize (pl x).2.2.2 = kc at *
      go_enter Tryz.func52, Tryz.ntmps52
      go_upto_region 1 with fail
      refine wp_region_g (S := fun V => V.cell? ⟨d, 0, none⟩ = some (.slice (some ⟨g, o, none⟩) A.n c) ∧ V.cell? ⟨g, o + x * 7 + 5, none⟩ = some (.slice ko 0 kc)) (T := []) (by kernel_rfl) hS1 (fun hHeld => ?_)
      refine g_pure 0 (some 5) (.move (.tmp 0)) ?_
      refine g_pure 1 (some 6) (.move (.tmp 1)) ?_
      refine wpAnyG_ready (rs := [2]) (by kernel_rfl) (by simp) ?_
      refine AllReadyG.cons (o := ⟨some 7, .call { callee := .value (.func 92), args := #[.tmp 5, .tmp 6], argTypes := #[63, 3] }, 4, _, _, none⟩) rfl (fun K hK => ?_) AllReadyG.nil
      go_simp
      go_at_call 92
      refine HT0.mono ?_
      rintro e w9 ⟨rfl, hw⟩
      have hw2 := hw.symm
      clear hw
      subst hw2
      go_wp2_with fail
      refine hK.out _ _ hS1 (fun hHeld1 => ?_)
      clear hK K hHeld
      try simp only [Act.put, pu1, pu2, pu3]
      refine g_pure 3 (some 8) (.move (.tmp 7)) ?_
      refine g_pure 4 (some 9) (.move (.tmp 0)) ?_
      refine g_pure 5 (some 10) (.nilCheck (.tmp 9)) ?_
      refine g_pure 6 (some 11) (.fieldAddr 69 (.tmp 10) 0) ?_
      refine g_take 7 (some 12) (.load 67 (.tmp 11)) (by intro w hSw; (obtain ⟨q1, q2⟩ := hSw); go_simp; try with_reducible rfl) ?_
      refine g_pure 8 (some 13) (.move (.tmp 1)) ?_
      refine g_pure 9 (some 14) (.indexAddr 67 (.tmp 12) (.tmp 13)) ?_
      refine g_pure 10 (some 15) (.fieldAddr 106 (.tmp 14) 5) ?_
      refine g_take 11 (some 16) (.load 61 (.tmp 15)) (by intro w hSw; (obtain ⟨q1, q2⟩ := hSw); go_simp; try with_reducible rfl) ?_
      refine g_pure 12 (some 17) (.call { callee := .builtin .len, args := #[.tmp 16], argTypes := #[61] }) ?_
      refine g_pure 13 (some 18) (.binOp .gtr 3 (.tmp 17) (.const (.int .i64 0)) 3) ?_
      refine g_pure 14 (some 19) (.pick (.tmp 8) (.tmp 18) (.const (.bool false))) ?_
      refine g_pure 15 (some 20) (.move (.tmp 19)) ?_
      refine g_skip 16 (some 21) (.move (.tmp 0)) ?_
      refine g_skip 17 (some 22) (.nilCheck (.tmp 21)) ?_
      refine g_skip 18 (some 23) (.fieldAddr 69 (.tmp 22) 0) ?_
      refine g_skip 19 (some 24) (.load 67 (.tmp 23)) ?_
      refine g_skip 20 (some 25) (.move (.tmp 0)) ?_
      refine g_skip 21 (some 26) (.nilCheck (.tmp 25)) ?_
      refine g_skip 22 (some 27) (.fieldAddr 69 (.tmp 26) 0) ?_
      refine g_skip 23 (some 28) (.load 67 (.tmp 27)) ?_
      refine g_skip 24 (some 29) (.move (.tmp 1)) ?_
      refine g_skip 25 (some 30) (.indexAddr 67 (.tmp 28) (.tmp 29)) ?_
      refine g_skip 26 (some 31) (.fieldAddr 106 (.tmp 30) 5) ?_
      refine g_skip 27 (some 32) (.load 61 (.tmp 31)) ?_
      refine g_skip 28 (some 33) (.indexAddr 61 (.tmp 32) (.const (.int .i64 0))) ?_
      refine g_skip 29 (some 34) (.load 3 (.tmp 33)) ?_
      refine g_skip 30 (some 35) (.indexAddr 67 (.tmp 24) (.tmp 34)) ?_
      refine g_skip 31 (some 36) (.fieldAddr 106 (.tmp 35) 0) ?_
      refine g_skip 32 (some 37) (.load 3 (.tmp 36)) ?_
      refine g_skip 33 (some 38) (.binOp .eql 3 (.tmp 37) (.const (.int .i64 6)) 3) ?_
      refine g_pure 34 (some 39) (.pick (.tmp 20) (.tmp 38) (.const (.bool false))) ?_
      refine wpAnyG_free (by kernel_rfl) ?_
      refine wpAny_done (by kernel_rfl) ?_ _
      clear hS1
      go_wp2
      go_ret
      exact ⟨rfl, kd⟩
    | cons y ys =>
      have hy : y < A.n := (ful.toOk.kid_lt (p := x) (by rw [hk]; exact List.mem_cons_self ..)).1
      have hiff := Ar.rcon_head ful hx' hk
      have y1 : (0 : Int) ≤ (y : Int) := by omega
      have y2 : (y : Int) < (A.n : Int) := by omega
      obtain ⟨b7, o7, hk7, e7⟩ := (h.kid x hx').iv_at 0 (by rw [hk]; simp)
      rw [Nat.add_zero] at e7
      have e8 : (A.kids x)[0]'(by rw [hk]; simp) = y := by simp [hk]
      rw [e8] at e7
      have hb : (A.kids x).length ≤ A.n := Ar.pig _ _ (ful.toOk.one x) (fun y hy => (ful.toOk.kid_lt hy).1)
      have hm : 0 < (A.kids x).length := by rw [hk]; simp
      rw [hk7] at c5
      have s0 := (h.seven hy).1
      have eF : A.rconF (x : Int) = if (A.lb y).kind = 6 then (y : Int) else -1 := by
        unfold Ar.rconF
        rw [Int.toNat_natCast, hx, hk]
        simp only [true_and, hiff, hdI]
      rw [eF]
      have c0 := h.head.1
      clear eF e8 hk hk7
      generalize (A.kids x).length = m at *
      have m1 : (0 : Int) < (m : Int) := by omega
      generalize (pl x).2.2.2 = kc at *
      by_cases h6 : (A.lb y).kind = 6
      · rw [if_pos h6]
        rw [h6] at s0
        have hS1 : (World.drew w).cell? ⟨d, 0, none⟩ = some (.slice (some ⟨g, o, none⟩) A.n c) ∧ (World.drew w).cell? ⟨g, o + x * 7 + 5, none⟩ = some (.slice (some ⟨b7, o7, none⟩) m kc) ∧ (World.drew w).cell? ⟨b7, o7, none⟩ = some (.int .i64 (y : Int)) ∧ (World.drew w).cell? ⟨g, o + y * 7, none⟩ = some (.int .i64 6) := ⟨c0, c5, e7, s0⟩
        clear h ful HT hiff h6
        go_enter Tryz.func52, Tryz.ntmps52
        go_upto_region 1 with fail
        refine wp_region_g (S := fun V => V.cell? ⟨d, 0, none⟩ = some (.slice (some ⟨g, o, none⟩) A.n c) ∧ V.cell? ⟨g, o + x * 7 + 5, none⟩ = some (.slice (some ⟨b7, o7, none⟩) m kc) ∧ V.cell? ⟨b7, o7, none⟩ = some (.int .i64 (y : Int)) ∧ V.cell? ⟨g, o + y * 7, none⟩ = some (.int .i64 6)) (T := []) (by kernel_rfl) hS1 (fun hHeld => ?_)
        refine g_pure 0 (some 5) (.move (.tmp 0)) ?_
        refine g_pure 1 (some 6) (.move (.tmp 1)) ?_
        refine wpAnyG_ready (rs := [2]) (by kernel_rfl) (by simp) ?_
        refine AllReadyG.cons (o := ⟨some 7, .call { callee := .value (.func 92), args := #[.tmp 5, .tmp 6], argTypes := #[63, 3] }, 4, _, _, none⟩) rfl (fun K hK => ?_) AllReadyG.nil
        go_simp
        go_at_call 92
        refine HT0.mono ?_
        rintro e w9 ⟨rfl, hw⟩
        have hw2 := hw.symm
        clear hw
        subst hw2
        go_wp2_with fail
        refine hK.out _ _ hS1 (fun hHeld1 => ?_)
        clear hK K hHeld
        try simp only [Act.put, pu1, pu2, pu3]
        refine g_pure 3 (some 8) (.move (.tmp 7)) ?_
        refine g_pure 4 (some 9) (.move (.tmp 0)) ?_
        refine g_pure 5 (some 10) (.nilCheck (.tmp 9)) ?_
        refine g_pure 6 (some 11) (.fieldAddr 69 (.tmp 10) 0) ?_
        refine g_take 7 (some 12) (.load 67 (.tmp 11)) (by intro w hSw; (obtain ⟨q1, q2, q3, q4⟩ := hSw); go_simp; try with_reducible rfl) ?_
        refine g_pure 8 (some 13) (.move (.tmp 1)) ?_
        refine g_pure 9 (some 14) (.indexAddr 67 (.tmp 12) (.tmp 13)) ?_
        refine g_pure 10 (some 15) (.fieldAddr 106 (.tmp 14) 5) ?_
        refine g_take 11 (some 16) (.load 61 (.tmp 15)) (by intro w hSw; (obtain ⟨q1, q2, q3, q4⟩ := hSw); go_simp; try with_reducible rfl) ?_
        refine g_pure 12 (some 17) (.call { callee := .builtin .len, args := #[.tmp 16], argTypes := #[61] }) ?_
        refine g_pure 13 (some 18) (.binOp .gtr 3 (.tmp 17) (.const (.int .i64 0)) 3) ?_
        refine g_pure 14 (some 19) (.pick (.tmp 8) (.tmp 18) (.const (.bool false))) ?_
        refine g_pure 15 (some 20) (.move (.tmp 19)) ?_
        refine g_pure 16 (some 21) (.move (.tmp 0)) ?_
        refine g_pure 17 (some 22) (.nilCheck (.tmp 21)) ?_
        refine g_pure 18 (some 23) (.fieldAddr 69 (.tmp 22) 0) ?_
        refine g_take 19 (some 24) (.load 67 (.tmp 23)) (by intro w hSw; (obtain ⟨q1, q2, q3, q4⟩ := hSw); go_simp; try with_reducible rfl) ?_
        refine g_pure 20 (some 25) (.move (.tmp 0)) ?_
        refine g_pure 21 (some 26) (.nilCheck (.tmp 25)) ?_
        refine g_pure 22 (some 27) (.fieldAddr 69 (.tmp 26) 0) ?_
        refine g_take 23 (some 28) (.load 67 (.tmp 27)) (by intro w hSw; (obtain ⟨q1, q2, q3, q4⟩ := hSw); go_simp; try with_reducible rfl) ?_
        refine g_pure 24 (some 29) (.move (.tmp 1)) ?_
        refine g_pure 25 (some 30) (.indexAddr 67 (.tmp 28) (.tmp 29)) ?_
        refine g_pure 26 (some 31) (.fieldAddr 106 (.tmp 30) 5) ?_
        refine g_take 27 (some 32) (.load 61 (.tmp 31)) (by intro w hSw; (obtain ⟨q1, q2, q3, q4⟩ := hSw); go_simp; try with_reducible rfl) ?_
        refine g_pure 28 (some 33) (.indexAddr 61 (.tmp 32) (.const (.int .i64 0))) ?_
        refine g_take 29 (some 34) (.load 3 (.tmp 33)) (by intro w hSw; (obtain ⟨q1, q2, q3, q4⟩ := hSw); go_simp; try with_reducible rfl) ?_
        refine g_pure 30 (some 35) (.indexAddr 67 (.tmp 24) (.tmp 34)) ?_
        refine g_pure 31 (some 36) (.fieldAddr 106 (.tmp 35) 0) ?_
        refine g_take 32 (some 37) (.load 3 (.tmp 36)) (by intro w hSw; (obtain ⟨q1, q2, q3, q4⟩ := hSw); go_simp; try with_reducible rfl) ?_
        refine g_pure 33 (some 38) (.binOp .eql 3 (.tmp 37) (.const (.int .i64 6)) 3) ?_
        refine g_pure 34 (some 39) (.pick (.tmp 20) (.tmp 38) (.const (.bool false))) ?_
        refine wpAnyG_free (by kernel_rfl) ?_
        refine wpAny_done (by kernel_rfl) ?_ _
        clear hS1
        go_wp2
        go_ret
        exact ⟨rfl, kd⟩
      · rw [if_neg h6]
        have t6 : ((A.lb y).kind == 6) = false := beq_false_of_ne h6
        generalize (A.lb y).kind = ky at *
        have hS1 : (World.drew w).cell? ⟨d, 0, none⟩ = some (.slice (some ⟨g, o, none⟩) A.n c) ∧ (World.drew w).cell? ⟨g, o + x * 7 + 5, none⟩ = some (.slice (some ⟨b7, o7, none⟩) m kc) ∧ (World.drew w).cell? ⟨b7, o7, none⟩ = some (.int .i64 (y : Int)) ∧ (World.drew w).cell? ⟨g, o + y * 7, none⟩ = some (.int .i64 ky) := ⟨c0, c5, e7, s0⟩
        clear h ful HT hiff h6
        go_enter Tryz.func52, Tryz.ntmps52
        go_upto_region 1 with fail
        refine wp_region_g (S := fun V => V.cell? ⟨d, 0, none⟩ = some (.slice (some ⟨g, o, none⟩) A.n c) ∧ V.cell? ⟨g, o + x * 7 + 5, none⟩ = some (.slice (some ⟨b7, o7, none⟩) m kc) ∧ V.cell? ⟨b7, o7, none⟩ = some (.int .i64 (y : Int)) ∧ V.cell? ⟨g, o + y * 7, none⟩ = some (.int .i64 ky)) (T := []) (by kernel_rfl) hS1 (fun hHeld => ?_)
        refine g_pure 0 (some 5) (.move (.tmp 0)) ?_
        refine g_pure 1 (some 6) (.move (.tmp 1)) ?_
        refine wpAnyG_ready (rs := [2]) (by kernel_rfl) (by simp) ?_
        refine AllReadyG.cons (o := ⟨some 7, .call { callee := .value (.func 92), args := #[.tmp 5, .tmp 6], argTypes := #[63, 3] }, 4, _, _, none⟩) rfl (fun K hK => ?_) AllReadyG.nil
        go_simp
        go_at_call 92
        refine HT0.mono ?_
        rintro e w9 ⟨rfl, hw⟩
        have hw2 := hw.symm
        clear hw
        subst hw2
        go_wp2_with fail
        refine hK.out _ _ hS1 (fun hHeld1 => ?_)
        clear hK K hHeld
        try simp only [Act.put, pu1, pu2, pu3]
        refine g_pure 3 (some 8) (.move (.tmp 7)) ?_
        refine g_pure 4 (some 9) (.move (.tmp 0)) ?_
        refine g_pure 5 (some 10) (.nilCheck (.tmp 9)) ?_
        refine g_pure 6 (some 11) (.fieldAddr 69 (.tmp 10) 0) ?_
        refine g_take 7 (some 12) (.load 67 (.tmp 11)) (by intro w hSw; (obtain ⟨q1, q2, q3, q4⟩ := hSw); go_simp; try with_reducible rfl) ?_
        refine g_pure 8 (some 13) (.move (.tmp 1)) ?_
        refine g_pure 9 (some 14) (.indexAddr 67 (.tmp 12) (.tmp 13)) ?_
        refine g_pure 10 (some 15) (.fieldAddr 106 (.tmp 14) 5) ?_
        refine g_take 11 (some 16) (.load 61 (.tmp 15)) (by intro w hSw; (obtain ⟨q1, q2, q3, q4⟩ := hSw); go_simp; try with_reducible rfl) ?_
        refine g_pure 12 (some 17) (.call { callee := .builtin .len, args := #[.tmp 16], argTypes := #[61] }) ?_
        refine g_pure 13 (some 18) (.binOp .gtr 3 (.tmp 17) (.const (.int .i64 0)) 3) ?_
        refine g_pure 14 (some 19) (.pick (.tmp 8) (.tmp 18) (.const (.bool false))) ?_
        refine g_pure 15 (some 20) (.move (.tmp 19)) ?_
        refine g_pure 16 (some 21) (.move (.tmp 0)) ?_
        refine g_pure 17 (some 22) (.nilCheck (.tmp 21)) ?_
        refine g_pure 18 (some 23) (.fieldAddr 69 (.tmp 22) 0) ?_
        refine g_take 19 (some 24) (.load 67 (.tmp 23)) (by intro w hSw; (obtain ⟨q1, q2, q3, q4⟩ := hSw); go_simp; try with_reducible rfl) ?_
        refine g_pure 20 (some 25) (.move (.tmp 0)) ?_
        refine g_pure 21 (some 26) (.nilCheck (.tmp 25)) ?_
        refine g_pure 22 (some 27) (.fieldAddr 69 (.tmp 26) 0) ?_
        refine g_take 23 (some 28) (.load 67 (.tmp 27)) (by intro w hSw; (obtain ⟨q1, q2, q3, q4⟩ := hSw); go_simp; try with_reducible rfl) ?_
        refine g_pure 24 (some 29) (.move (.tmp 1)) ?_
        refine g_pure 25 (some 30) (.indexAddr 67 (.tmp 28) (.tmp 29)) ?_
        refine g_pure 26 (some 31) (.fieldAddr 106 (.tmp 30) 5) ?_
        refine g_take 27 (some 32) (.load 61 (.tmp 31)) (by intro w hSw; (obtain ⟨q1, q2, q3, q4⟩ := hSw); go_simp; try with_reducible rfl) ?_
        refine g_pure 28 (some 33) (.indexAddr 61 (.tmp 32) (.const (.int .i64 0))) ?_
        refine g_take 29 (some 34) (.load 3 (.tmp 33)) (by intro w hSw; (obtain ⟨q1, q2, q3, q4⟩ := hSw); go_simp; try with_reducible rfl) ?_
        refine g_pure 30 (some 35) (.indexAddr 67 (.tmp 24) (.tmp 34)) ?_
        refine g_pure 31 (some 36) (.fieldAddr 106 (.tmp 35) 0) ?_
        refine g_take 32 (some 37) (.load 3 (.tmp 36)) (by intro w hSw; (obtain ⟨q1, q2, q3, q4⟩ := hSw); go_simp; try with_reducible rfl) ?_
        refine g_pure 33 (some 38) (.binOp .eql 3 (.tmp 37) (.const (.int .i64 6)) 3) ?_
        refine g_pure 34 (some 39) (.pick (.tmp 20) (.tmp 38) (.const (.bool false))) ?_
        refine wpAnyG_free (by kernel_rfl) ?_
        refine wpAny_done (by kernel_rfl) ?_ _
        clear hS1
        go_wp2
        go_ret
        exact ⟨rfl, kd⟩

end

end Go.Proofs.YtpkppobkagdhkaaGreat

/-
  The document's arena: Pure.
-/
namespace Go.Proofs.YtpkppobkagdhkaaGreat
open Go.RowKit Go.Maps Utf
set_option linter.unusedVariables false
set_option linter.unusedSimpArgs false

/-- A row of nodes with all below them. -/
def Ar.row (A : Ar) (l : List Nat) : Fo := l.foldr (fun c r => .cons (A.lb c) (A.below c) r) .nil
theorem Ar.row_cat (A : Ar) (l : List Nat) (y : Nat) : A.row (l ++ [y]) = (A.row l).app (.cons (A.lb y) (A.below y) .nil) := by
  induction l with
  | nil => rfl
  | cons x xs ih => exact congrArg (Fo.cons (A.lb x) (A.below x)) ih

/-- Lists that are never written again, and such as have come since. -/
abbrev Qe (tag : Nat → Nat) (m e : Nat) : Nat → Prop := fun z => (z < m ∧ tag z = 5) ∨ m + e ≤ z

/-- The document's Pure under way. -/
structure Gp (tag : Nat → Nat) (w wr : World) (A : Ar) (x : Nat) (P : Dp) (k : Nat) (bo : Option Addr) (d2 : Nat) : Prop where
  kp : Kp [] w wr
  a4 : At wr w.heap.size #[.int .i64 0, .int .i64 0, .string ⟨#[]⟩, .slice none 0 0, .string ⟨#[]⟩, .slice none 0 0] 40
  a5 : At wr (w.heap.size + 1) #[.int .i64 (A.lb x).kind, .int .i64 (A.lb x).ns, .string (A.lb x).name, .string (A.lb x).text, .slice P.1.1 P.1.2.1 P.1.2.2, .slice P.2.1 P.2.2.1 P.2.2.2, .int .i64 (Ar.upI (A.up x))] 106
  a6 : At wr (w.heap.size + 2) #[.int .i64 (A.lb x).kind, .int .i64 (A.lb x).ns, .string (A.lb x).name, .slice P.1.1 P.1.2.1 P.1.2.2, .string (A.lb x).text, .slice bo k d2] 40
  own : ∃ zs, OwnK 6 wr 40 (.slice bo k d2) k zs ∧ Lf (fun z => Qe tag w.heap.size 3 z ∧ z ∉ blk (.slice bo k d2)) wr (A.row ((A.kids x).take k)) zs
  nw : ∀ z, z ∈ blk (.slice bo k d2) → w.heap.size + 3 ≤ z

section
variable {tag : Nat → Nat} {w wr : World} {d g o c : Nat} {q : Bool} {A : Ar} {pl : Nat → Dp}


theorem six_one (l : Lb) (p : Pl) : ∀ v, v ∈ six l p → v.oneCell' = true := fun v hv => by
  simp [six] at hv
  rcases hv with rfl | rfl | rfl | rfl | rfl | rfl <;> rfl

/-- One kid more. -/
theorem Gp.step {x : Nat} {P : Dp} {k : Nat} {bo : Option Addr} {d2 : Nat} (gp : Gp tag w wr A x P k bo d2) {U1 : World} (kU : Kp [] wr U1) {y : Nat} (hk : k < 50000) (hy : (A.kids x)[k]? = some y) {p : Pl} (nd : Nd (fun z => (z < w.heap.size ∧ tag z = 5) ∨ wr.heap.size ≤ z) U1 (A.lb y) (A.below y) p) {U2 : World} {g9 : Nat} (hU2 : U2 = U1.alloc (.cells #[.int .i64 (A.lb y).kind, .int .i64 (A.lb y).ns, .string (A.lb y).name, .slice p.1.1 p.1.2.1 p.1.2.2, .string (A.lb y).text, .slice p.2.1 p.2.2.1 p.2.2.2] 40)) (hg9 : U1.heap.size = g9) :
    ∃ v' U3, (∀ ty, (Builtin.append_ #[38, 38] ty #[.slice bo k d2, .slice (some ⟨g9, 0, none⟩) 1 1]).run Tryz.prog U2 = .ok v' U3) ∧ Kp [] w U3 ∧ (∃ a c', v' = .slice (some a) (k + 1) c' ∧ Gp tag w (U3.setCell ⟨w.heap.size + 2, 5, none⟩ v') A x P (k + 1) (some a) c') ∧
      At U3 (w.heap.size + 2) #[.int .i64 (A.lb x).kind, .int .i64 (A.lb x).ns, .string (A.lb x).name, .slice P.1.1 P.1.2.1 P.1.2.2, .string (A.lb x).text, .slice bo k d2] 40 ∧ At U3 (w.heap.size + 1) #[.int .i64 (A.lb x).kind, .int .i64 (A.lb x).ns, .string (A.lb x).name, .string (A.lb x).text, .slice P.1.1 P.1.2.1 P.1.2.2, .slice P.2.1 P.2.2.1 P.2.2.2, .int .i64 (Ar.upI (A.up x))] 106 := by
  obtain ⟨zs, o1, l1⟩ := gp.own
  have u2 : Kp [] U1 U2 := by rw [hU2]; exact (Kp.refl _ _).alloc _
  have kW : Kp [] wr U2 := kU.trans u2 (fun x hx => Or.inl hx)
  have a9 : At U2 g9 (six (A.lb y) p).toArray 40 := by rw [hU2, ← hg9]; exact At.new _ _ _
  have sz6 := gp.a6.lt
  have nw := gp.nw
  have hkz := gp.kp.size
  obtain ⟨v', U3, hrun, o3, k3, b3, a3, c3, e3⟩ := appK Tryz.underlying38 info42 rfl (by decide) U2 _ k zs (o1.keep kW (fun _ _ => by simp)) _ 1 _ (src_new Tryz.underlying38 a9 (six (A.lb y) p) rfl (six_one _ _)) (fun _ => by omega) (by omega)
  have wk := kW.size
  have hS : ∀ z, z < w.heap.size + 3 → z ∉ blk (.slice bo k d2) := fun z hz hm => by have := nw z hm; omega
  have kw3 : Kp [] w U3 := by
    refine (gp.kp.trans kW (fun x hx => Or.inl hx)).trans k3 (fun z hz => Or.inr ?_)
    have := nw z hz; omega
  have A6 := (gp.a6.kept kW (by simp)).kept k3 (hS _ (by omega))
  have A5 := (gp.a5.kept kW (by simp)).kept k3 (hS _ (by omega))
  have A4 := (gp.a4.kept kW (by simp)).kept k3 (hS _ (by omega))
  have kS : Kp [w.heap.size + 2] U3 (U3.setCell ⟨w.heap.size + 2, 5, none⟩ v') := (Kp.refl _ _).setCell (Or.inl (by simp)) _
  have bn : ∀ z, z ∈ blk v' → w.heap.size + 3 ≤ z := fun z hz => by
    rcases b3 z hz with h1 | h1
    · exact nw z h1
    · omega
  have olt := o1.lt
  refine ⟨v', U3, hrun, kw3, ⟨a3, c3, e3, ?_⟩, A6, A5⟩
  subst e3
  refine ⟨kw3.trans kS (fun z hz => by rw [List.mem_singleton.1 hz]; exact Or.inr (by omega)), A4.kept kS (by simp), A5.kept kS (by simp), ?_, ⟨zs ++ six (A.lb y) p, o3.keep kS (fun z hz hs => by rw [List.mem_singleton.1 hs] at hz; have := bn _ hz; omega), ?_⟩, bn⟩
  · exact A6.set 5 _
  · rw [List.take_add_one, hy]
    show Lf _ _ (A.row ((A.kids x).take k ++ [y])) _
    rw [A.row_cat]
    have k13 := kU.size
    have q1 : Lf (fun z => Qe tag w.heap.size 3 z ∧ z ∉ blk (.slice bo k d2)) U1 ((A.row ((A.kids x).take k)).app (.cons (A.lb y) (A.below y) .nil)) (zs ++ six (A.lb y) p) := by
      have n2 : Nd (fun z => Qe tag w.heap.size 3 z ∧ z ∉ blk (.slice bo k d2)) U1 (A.lb y) (A.below y) p := nd.mono (fun z hz hq => by
        rcases hq with hq | hq
        · exact ⟨.inl hq, fun hm => by have := nw z hm; omega⟩
        · exact ⟨.inr (by omega), fun hm => by have := olt z hm; omega⟩)
      have := Lf.cons n2 (Lf.nil (fun z => Qe tag w.heap.size 3 z ∧ z ∉ blk (.slice bo k d2)) U1)
      rw [List.append_nil] at this
      exact Lf.app this (l1.kept kU)
    have q2 := ((q1.keep (u2.sm _)).keep (k3.sms (fun z hz => hz.2))).keep (kS.sms (fun z hz hs => by
      rw [List.mem_singleton.1 hs] at hz
      rcases hz.1 with h1 | h1 <;> omega))
    -- blocks that the new slice does not lie in
    have q3 : Lf (fun z => Qe tag w.heap.size 3 z ∧ z ∉ blk (.slice bo k d2) ∧ z < U1.heap.size) U1 ((A.row ((A.kids x).take k)).app (.cons (A.lb y) (A.below y) .nil)) (zs ++ six (A.lb y) p) := q1.mono (fun z hz hq => ⟨hq.1, hq.2, hz⟩)
    have q4 := ((q3.keep (u2.sm _)).keep (k3.sms (fun z hz => hz.2.1))).keep (kS.sms (fun z hz hs => by
      rw [List.mem_singleton.1 hs] at hz
      rcases hz.1 with h1 | h1 <;> omega))
    have u2s := u2.size
    exact q4.mono (fun z _ hq => ⟨hq.1, fun hm => by
      rcases b3 z hm with h1 | h1
      · exact hq.2.1 h1
      · have := hq.2.2; omega⟩)

set_option maxRecDepth 100000 in
set_option maxHeartbeats 1000000 in
theorem rpure_step (h : Dd tag w d g o c q A pl) (ok : A.Ok) (hn : A.n < 50000) (x : Nat) (hx : x < A.n)
    (HR : Hid (∀ tag' V y, Dd tag' V d g o c q A pl → y ∈ A.kids x → Calls Tryz.prog 28 #[.pointer (some ⟨d, 0, none⟩), .int .i64 (y : Int)] V fun e w' => ∃ p, e = .returned (wv (A.lb y) p) ∧ Kp [] V w' ∧ Nd (Qe tag' V.heap.size 0) w' (A.lb y) (A.below y) p)) :
    Calls Tryz.prog 28 #[.pointer (some ⟨d, 0, none⟩), .int .i64 (x : Int)] w fun e w' => ∃ p, e = .returned (wv (A.lb x) p) ∧ Kp [] w w' ∧ Nd (Qe tag w.heap.size 0) w' (A.lb x) (A.below x) p := by
  obtain ⟨c0, _⟩ := h.head
  obtain ⟨s0, s1, s2, s3, s4, s5, s6⟩ := h.seven hx
  have j1 : (0 : Int) ≤ (x : Int) := by omega
  have j2 : (x : Int) < (A.n : Int) := by omega
  have hb : (A.kids x).length ≤ A.n := Ar.pig _ _ (ok.one x) (fun y hy => (ok.kid_lt hy).1)
  have kl := h.klen hx
  have ra := h.att x hx
  have HK : Hid (∀ V, Kp [] w V → ∀ i (hi : i < (A.kids x).length), ∃ b7 o7, (pl x).2.1 = some ⟨b7, o7, none⟩ ∧ V.cell? ⟨b7, o7 + i, none⟩ = some (.int .i64 ((A.kids x)[i] : Int))) := fun V kV i hi => ((h.kept kV).kid x hx).iv_at i hi
  -- a kid's tree, in a later world
  have HC : Hid (∀ V y, Kp [] w V → y ∈ A.kids x → Calls Tryz.prog 28 #[.pointer (some ⟨d, 0, none⟩), .int .i64 (y : Int)] V fun e w' => ∃ p, e = .returned (wv (A.lb y) p) ∧ Kp [] V w' ∧ Nd (fun z => (z < w.heap.size ∧ tag z = 5) ∨ V.heap.size ≤ z) w' (A.lb y) (A.below y) p) := fun V y kV hy => by
    have hd := h.sm (tag' := fun z => if z < w.heap.size then tag z else 0) (w' := V) (fun x hx _ => kV.block x hx (by simp)) (fun x hx => if_pos hx)
    refine (HR.out _ V y hd hy).mono ?_
    rintro e w' ⟨p, rfl, k1, n1⟩
    refine ⟨p, rfl, k1, n1.mono (fun z hz hq => ?_)⟩
    rcases hq with ⟨h1, h2⟩ | h1
    · by_cases hz2 : z < w.heap.size
      · simp only [if_pos hz2] at h2
        exact .inl ⟨hz2, h2⟩
      · simp only [if_neg hz2] at h2
        cases h2
    · exact .inr (by omega)
  have hbel : A.below x = A.row (A.kids x) := ok.below_kids x
  obtain ⟨W3, hW3⟩ : ∃ W, W = ((w.alloc (.cells #[.int .i64 0, .int .i64 0, .string ⟨#[]⟩, .slice none 0 0, .string ⟨#[]⟩, .slice none 0 0] 40)).alloc (.cells #[.int .i64 (A.lb x).kind, .int .i64 (A.lb x).ns, .string (A.lb x).name, .string (A.lb x).text, .slice (pl x).1.1 (pl x).1.2.1 (pl x).1.2.2, .slice (pl x).2.1 (pl x).2.2.1 (pl x).2.2.2, .int .i64 (Ar.upI (A.up x))] 106)).alloc (.cells #[.int .i64 (A.lb x).kind, .int .i64 (A.lb x).ns, .string (A.lb x).name, .slice (pl x).1.1 (pl x).1.2.1 (pl x).1.2.2, .string (A.lb x).text, .slice none 0 0] 40) := ⟨_, rfl⟩
  have HW : Hid (((w.alloc (.cells #[.int .i64 0, .int .i64 0, .string ⟨#[]⟩, .slice none 0 0, .string ⟨#[]⟩, .slice none 0 0] 40)).alloc (.cells #[.int .i64 (A.lb x).kind, .int .i64 (A.lb x).ns, .string (A.lb x).name, .string (A.lb x).text, .slice (pl x).1.1 (pl x).1.2.1 (pl x).1.2.2, .slice (pl x).2.1 (pl x).2.2.1 (pl x).2.2.2, .int .i64 (Ar.upI (A.up x))] 106)).alloc (.cells #[.int .i64 (A.lb x).kind, .int .i64 (A.lb x).ns, .string (A.lb x).name, .slice (pl x).1.1 (pl x).1.2.1 (pl x).1.2.2, .string (A.lb x).text, .slice none 0 0] 40) = W3) := hW3.symm
  have G0 : Hid (Gp tag w W3 A x (pl x) 0 none 0) := by
    have b1 : ∀ (W : World) (a : Array Value) e, (W.alloc (.cells a e)).heap.size = W.heap.size + 1 := fun W a e => by simp
    have q1 := At.new w #[.int .i64 0, .int .i64 0, .string ⟨#[]⟩, .slice none 0 0, .string ⟨#[]⟩, .slice none 0 0] 40
    have q2 := At.new (w.alloc (.cells #[.int .i64 0, .int .i64 0, .string ⟨#[]⟩, .slice none 0 0, .string ⟨#[]⟩, .slice none 0 0] 40)) #[.int .i64 (A.lb x).kind, .int .i64 (A.lb x).ns, .string (A.lb x).name, .string (A.lb x).text, .slice (pl x).1.1 (pl x).1.2.1 (pl x).1.2.2, .slice (pl x).2.1 (pl x).2.2.1 (pl x).2.2.2, .int .i64 (Ar.upI (A.up x))] 106
    rw [b1] at q2
    have q3 := At.new ((w.alloc (.cells #[.int .i64 0, .int .i64 0, .string ⟨#[]⟩, .slice none 0 0, .string ⟨#[]⟩, .slice none 0 0] 40)).alloc (.cells #[.int .i64 (A.lb x).kind, .int .i64 (A.lb x).ns, .string (A.lb x).name, .string (A.lb x).text, .slice (pl x).1.1 (pl x).1.2.1 (pl x).1.2.2, .slice (pl x).2.1 (pl x).2.2.1 (pl x).2.2.2, .int .i64 (Ar.upI (A.up x))] 106)) #[.int .i64 (A.lb x).kind, .int .i64 (A.lb x).ns, .string (A.lb x).name, .slice (pl x).1.1 (pl x).1.2.1 (pl x).1.2.2, .string (A.lb x).text, .slice none 0 0] 40
    rw [b1, b1] at q3
    refine ⟨by rw [hW3]; exact (((Kp.refl _ _).alloc _).alloc _).alloc _, ?_, ?_, by rw [hW3]; exact q3, ⟨[], ⟨rfl, Or.inl ⟨rfl, rfl⟩⟩, Lf.nil _ _⟩, fun z hz => by simp [blk] at hz⟩
    · rw [hW3]; exact q1.kept (((Kp.refl [] _).alloc _).alloc _) (by simp)
    · rw [hW3]; exact q2.kept ((Kp.refl [] _).alloc _) (by simp)
  clear hW3
  have hra : Hid (∀ W, Kp [] w W → Rk (Qe tag w.heap.size 0) 2 W (pl x).1.1 (pl x).1.2.1 (pl x).1.2.2 (cs (A.lb x).attrs)) := fun W kW => (ra.mono (fun z hz hq => .inl ⟨hz, hq⟩)).kept kW
  -- the end
  have HE : Hid (∀ W bo d2, Gp tag w W A x (pl x) (A.kids x).length bo d2 → ∃ p, p = ((pl x).1, (bo, (A.kids x).length, d2)) ∧ Kp [] w (putZ W w.heap.size (.int .i64 (A.lb x).kind) (.int .i64 (A.lb x).ns) (.string (A.lb x).name) (.slice (pl x).1.1 (pl x).1.2.1 (pl x).1.2.2) (.string (A.lb x).text) (.slice bo (A.kids x).length d2)) ∧ Nd (Qe tag w.heap.size 0) (putZ W w.heap.size (.int .i64 (A.lb x).kind) (.int .i64 (A.lb x).ns) (.string (A.lb x).name) (.slice (pl x).1.1 (pl x).1.2.1 (pl x).1.2.2) (.string (A.lb x).text) (.slice bo (A.kids x).length d2)) (A.lb x) (A.below x) p) := fun W bo d2 gp => by
    have kz := gp.kp.putZ (g := w.heap.size) (Or.inr (Nat.le_refl _)) (.int .i64 (A.lb x).kind) (.int .i64 (A.lb x).ns) (.string (A.lb x).name) (.slice (pl x).1.1 (pl x).1.2.1 (pl x).1.2.2) (.string (A.lb x).text) (.slice bo (A.kids x).length d2)
    have ky := (Kp.refl [w.heap.size] W).putZ (g := w.heap.size) (Or.inl (by simp)) (.int .i64 (A.lb x).kind) (.int .i64 (A.lb x).ns) (.string (A.lb x).name) (.slice (pl x).1.1 (pl x).1.2.1 (pl x).1.2.2) (.string (A.lb x).text) (.slice bo (A.kids x).length d2)
    obtain ⟨zs, o1, l1⟩ := gp.own
    rw [List.take_length] at l1
    refine ⟨_, rfl, kz, hra.out _ kz, zs, ?_, ?_⟩
    · exact (Rk.of_own (Q := fun z => w.heap.size + 3 ≤ z) o1 rfl gp.nw).keep (ky.sms (fun z hz hs => by rw [List.mem_singleton.1 hs] at hz; omega)) |>.mono (fun z _ hz => .inr (by omega))
    · rw [hbel]
      exact (l1.keep (ky.sms (fun z hz hs => by rw [List.mem_singleton.1 hs] at hz; rcases hz.1 with h1 | h1 <;> omega))).mono (fun z _ hz => by
        rcases hz.1 with h1 | h1
        · exact .inl h1
        · exact .inr (by omega))
  obtain ⟨W1, hW1⟩ : ∃ W, W = w.alloc (.cells #[.int .i64 0, .int .i64 0, .string ⟨#[]⟩, .slice none 0 0, .string ⟨#[]⟩, .slice none 0 0] 40) := ⟨_, rfl⟩
  have HW1 : Hid (w.alloc (.cells #[.int .i64 0, .int .i64 0, .string ⟨#[]⟩, .slice none 0 0, .string ⟨#[]⟩, .slice none 0 0] 40) = W1) := hW1.symm
  have HW2 : Hid (∀ K : World → Prop, K W3 → K ((W1.alloc (.cells #[.int .i64 (A.lb x).kind, .int .i64 (A.lb x).ns, .string (A.lb x).name, .string (A.lb x).text, .slice (pl x).1.1 (pl x).1.2.1 (pl x).1.2.2, .slice (pl x).2.1 (pl x).2.2.1 (pl x).2.2.2, .int .i64 (Ar.upI (A.up x))] 106)).alloc (.cells #[.int .i64 (A.lb x).kind, .int .i64 (A.lb x).ns, .string (A.lb x).name, .slice (pl x).1.1 (pl x).1.2.1 (pl x).1.2.2, .string (A.lb x).text, .slice none 0 0] 40))) := fun K hK => by rw [hW1, HW.out]; exact hK
  have HW3 : Hid ((W1.alloc (.cells #[.int .i64 (A.lb x).kind, .int .i64 (A.lb x).ns, .string (A.lb x).name, .string (A.lb x).text, .slice (pl x).1.1 (pl x).1.2.1 (pl x).1.2.2, .slice (pl x).2.1 (pl x).2.2.1 (pl x).2.2.2, .int .i64 (Ar.upI (A.up x))] 106)).alloc (.cells #[.int .i64 (A.lb x).kind, .int .i64 (A.lb x).ns, .string (A.lb x).name, .slice (pl x).1.1 (pl x).1.2.1 (pl x).1.2.2, .string (A.lb x).text, .slice none 0 0] 40) = W3) := HW2.out (fun V => V = W3) rfl
  have kW1 : Kp [] w W1 := by rw [hW1]; exact (Kp.refl _ _).alloc _
  have hs1 : W1.heap.size = w.heap.size + 1 := by rw [hW1]; simp
  clear c0 s0 s1 s2 s3 s4 s5 s6
  have c0 := (h.kept kW1).head.1
  obtain ⟨s0, s1, s2, s3, s4, s5, s6⟩ := (h.kept kW1).seven hx
  clear h ra hra hbel HR hW1 kW1 HW HW2
  rw [kl] at s5 HW3
  have kl2 : Hid ((pl x).2.2.1 = (A.kids x).length) := kl
  clear kl
  unfold wv
  go_enter Tryz.func28, Tryz.ntmps28
  go_upto_region 1 with fail
  rw [HW1.out]
  clear HW1
  go_wp2_with fail
  rw [HW3.out, show w.heap.size + 1 + 1 = w.heap.size + 2 from rfl]
  clear HW3 c0 s0 s1 s2 s3 s4 s5 s6
  go_loopw [7] (fun i wr => ∃ (k : Nat) (bo : Option Addr) (d2 : Nat), k ≤ (A.kids x).length ∧ i = .int .i64 (k : Int) ∧ Gp tag w wr A x (pl x) k bo d2) (fun i _ => (A.kids x).length - (intOf i).toNat)
  case atStart => exact ⟨0, none, 0, Nat.zero_le _, rfl, G0.out⟩
  case round =>
    obtain ⟨k, bo, d2, hk, rfl, gp⟩ := hrel
    clear G0
    have x5 := gp.a5.cell 5
    simp only [List.getElem?_toArray, List.getElem?_cons_succ, List.getElem?_cons_zero, kl2.out] at x5
    by_cases hlt : k < (A.kids x).length
    · have hk1 : (k : Int) < ((A.kids x).length : Int) := by omega
      have hk0 : (0 : Int) ≤ (k : Int) := by omega
      have hym : (A.kids x)[k] ∈ A.kids x := List.getElem_mem hlt
      have hye : (A.kids x)[k]? = some (A.kids x)[k] := List.getElem?_eq_getElem hlt
      obtain ⟨b7, o7, hko, h7⟩ := HK.out _ gp.kp k hlt
      have HS0 : Hid (∀ V, Kp [] wr V → V.cell? ⟨w.heap.size + 2, 5, none⟩ = some (.slice bo k d2) ∧ V.cell? ⟨w.heap.size + 1, 5, none⟩ = some (.slice (some ⟨b7, o7, none⟩) (A.kids x).length (pl x).2.2.2) ∧ V.cell? ⟨b7, o7 + k, none⟩ = some (.int .i64 ((A.kids x)[k] : Int))) := fun V kV => by
        have e5 := (gp.a5.kept kV (by simp)).cell 5
        simp only [List.getElem?_toArray, List.getElem?_cons_succ, List.getElem?_cons_zero, kl2.out, hko] at e5
        obtain ⟨b8, o8, e8, e9⟩ := HK.out _ (gp.kp.trans kV (fun x hx => Or.inl hx)) k hlt
        rw [hko] at e8
        simp only [Option.some.injEq, Addr.mk.injEq] at e8
        obtain ⟨rfl, rfl, _⟩ := e8
        exact ⟨(gp.a6.kept kV (by simp)).cell 5, e5, e9⟩
      have HC2 : Hid (∀ V, Kp [] wr V → Calls Tryz.prog 28 #[.pointer (some ⟨d, 0, none⟩), .int .i64 ((A.kids x)[k] : Int)] V fun e w' => ∃ p, e = .returned (wv (A.lb (A.kids x)[k]) p) ∧ Kp [] V w' ∧ Nd (fun z => (z < w.heap.size ∧ tag z = 5) ∨ wr.heap.size ≤ z) w' (A.lb (A.kids x)[k]) (A.below (A.kids x)[k]) p) := fun V kV => by
        refine (HC.out V _ (gp.kp.trans kV (fun x hx => Or.inl hx)) hym).mono ?_
        rintro e w' ⟨p, rfl, k1, n1⟩
        exact ⟨p, rfl, k1, n1.mono (fun z hz hq => hq.imp id (fun h1 => by have := kV.size; omega))⟩
      have HT : Hid (∀ U1 p U2 g9, Kp [] wr U1 → Nd (fun z => (z < w.heap.size ∧ tag z = 5) ∨ wr.heap.size ≤ z) U1 (A.lb (A.kids x)[k]) (A.below (A.kids x)[k]) p → U2 = U1.alloc (.cells #[.int .i64 (A.lb (A.kids x)[k]).kind, .int .i64 (A.lb (A.kids x)[k]).ns, .string (A.lb (A.kids x)[k]).name, .slice p.1.1 p.1.2.1 p.1.2.2, .string (A.lb (A.kids x)[k]).text, .slice p.2.1 p.2.2.1 p.2.2.2] 40) → U1.heap.size = g9 →
          ∃ v' U3, (∀ ty, (Builtin.append_ #[38, 38] ty #[.slice bo k d2, .slice (some ⟨g9, 0, none⟩) 1 1]).run Tryz.prog U2 = .ok v' U3) ∧ (∃ a c', v' = .slice (some a) (k + 1) c' ∧ Gp tag w (U3.setCell ⟨w.heap.size + 2, 5, none⟩ v') A x (pl x) (k + 1) (some a) c') ∧
          (U3.cell? ⟨w.heap.size + 2, 5, none⟩ = some (.slice bo k d2) ∧ U3.cell? ⟨w.heap.size + 1, 5, none⟩ = some (.slice (some ⟨b7, o7, none⟩) (A.kids x).length (pl x).2.2.2) ∧ U3.cell? ⟨b7, o7 + k, none⟩ = some (.int .i64 ((A.kids x)[k] : Int))) ∧ U3.frozen? ⟨w.heap.size + 2, 5, none⟩ = false) := fun U1 p U2 g9 kU nd hU2 hg9 => by
        obtain ⟨v', U3, r1, k3, g3, a6, a5⟩ := gp.step kU (by omega) hye nd hU2 hg9
        have e5 := a5.cell 5
        simp only [List.getElem?_toArray, List.getElem?_cons_succ, List.getElem?_cons_zero, kl2.out, hko] at e5
        obtain ⟨b8, o8, e8, e9⟩ := HK.out _ k3 k hlt
        rw [hko] at e8
        simp only [Option.some.injEq, Addr.mk.injEq] at e8
        obtain ⟨rfl, rfl, _⟩ := e8
        exact ⟨v', U3, r1, g3, ⟨a6.cell 5, e5, e9⟩, a6.free 5⟩
      rw [hko] at x5
      clear HK HC HE gp hye hym h7 hko
      generalize (A.kids x)[k] = y at *
      generalize (A.kids x).length = m at *
      generalize (pl x).2.2.2 = kc at *
      go_upto_region 6 with fail
      clear x5
      obtain ⟨U0, hU0⟩ : ∃ V, V = wr.drew := ⟨_, rfl⟩
      have k0 : Kp [] wr U0 := by rw [hU0]; exact (Kp.refl _ _).drew
      refine wp_region_g (S := fun V => V.cell? ⟨w.heap.size + 2, 5, none⟩ = some (.slice bo k d2) ∧ V.cell? ⟨w.heap.size + 1, 5, none⟩ = some (.slice (some ⟨b7, o7, none⟩) m kc) ∧ V.cell? ⟨b7, o7 + k, none⟩ = some (.int .i64 (y : Int))) (T := [12]) (by kernel_rfl) (HS0.out _ (Kp.refl _ _).drew) (fun hHeld => ?_)
      rw [← hU0] at hHeld ⊢
      clear hU0
      refine g_pure 0 (some 33) (.fieldAddr 40 (.tmp 6) 5) ?_
      refine g_takeC 1 (some 34) (.load 38 (.tmp 33)) (by intro w hSw; (obtain ⟨q1, q2, q3⟩ := hSw); go_simp; try with_reducible rfl) ?_
      refine g_pure 2 (some 35) (.move (.tmp 0)) ?_
      refine g_pure 3 (some 36) (.fieldAddr 106 (.tmp 5) 5) ?_
      refine g_takeC 4 (some 37) (.load 61 (.tmp 36)) (by intro w hSw; (obtain ⟨q1, q2, q3⟩ := hSw); go_simp; try with_reducible rfl) ?_
      refine g_pure 5 (some 38) (.move (.tmp 7)) ?_
      refine g_pure 6 (some 39) (.indexAddr 61 (.tmp 37) (.tmp 38)) ?_
      refine g_takeC 7 (some 40) (.load 3 (.tmp 39)) (by intro w hSw; (obtain ⟨q1, q2, q3⟩ := hSw); go_simp; try with_reducible rfl) ?_
      refine wpAnyG_ready (rs := [8]) (by kernel_rfl) (by simp) ?_
      refine AllReadyG.cons (o := ⟨some 41, .call { callee := .value (.func 28), args := #[.tmp 35, .tmp 40], argTypes := #[63, 3] }, 40, _, _, none⟩) rfl (fun K hK => ?_) AllReadyG.nil
      go_simp
      go_at_call 28
      refine (HC2.out _ k0).mono ?_
      rintro e U1 ⟨p1, rfl, u1, n1⟩
      go_wp2_with fail
      have k1 : Kp [] wr U1 := k0.trans u1 (fun z hz => Or.inl hz)
      refine hK.out _ _ (HS0.out _ k1) (fun hHeld1 => ?_)
      clear hK K hHeld
      try simp only [Act.put, pu1, pu2, pu3]
      refine wpAnyG_ready (rs := [9]) (by kernel_rfl) (by simp) ?_
      refine AllReadyG.cons (o := ⟨some 42, .buildSlice 38 1 #[(0, .tmp 41)], 38, _, _, none⟩) rfl (fun K hK => ?_) AllReadyG.nil
      unfold wv
      go_simp
      obtain ⟨U2, hU⟩ : ∃ V, V = World.alloc U1 (.cells #[.int .i64 (A.lb y).kind, .int .i64 (A.lb y).ns, .string (A.lb y).name, .slice p1.1.1 p1.1.2.1 p1.1.2.2, .string (A.lb y).text, .slice p1.2.1 p1.2.2.1 p1.2.2.2] 40) := ⟨_, rfl⟩
      rw [← hU]
      obtain ⟨g9, hg9⟩ : ∃ g, U1.heap.size = g := ⟨_, rfl⟩
      rw [hg9]
      obtain ⟨v7, U3, run7, ⟨a7, c7, e7, gp7⟩, s7, f7⟩ := HT.out U1 p1 U2 g9 k1 n1 hU hg9
      have k2 : Kp [] wr U2 := by rw [hU]; exact k1.alloc _
      clear hU hg9
      subst e7
      refine hK.out _ _ (HS0.out _ k2) (fun hHeld2 => ?_)
      clear hK K hHeld1
      try simp only [Act.put, pu1, pu2, pu3]
      refine wpAnyG_ready (rs := [10]) (by kernel_rfl) (by simp) ?_
      refine AllReadyG.cons (o := ⟨some 43, .call { callee := .builtin .append, args := #[.tmp 34, .tmp 42], argTypes := #[38, 38] }, 38, _, _, none⟩) rfl (fun K hK => ?_) AllReadyG.nil
      refine step_app2 (by rfl) _ _ 38 38 (by rfl) _ _ (by rfl) (by rfl) run7 ?_
      have G7 : Hid _ := gp7
      refine hK.out _ _ s7 (fun hHeld3 => ?_)
      clear hK K hHeld2
      try simp only [Act.put, pu1, pu2, pu3]
      refine g_pure 11 (some 44) (.fieldAddr 40 (.tmp 6) 5) ?_
      refine wpAnyG_free (by kernel_rfl) ?_
      refine wpAny_ready (rs := [12]) (by kernel_rfl) (by simp) ?_
      refine AllReady.cons (o := ⟨none, .store 38 (.tmp 44) (.tmp 43), 0, _, _, none⟩) rfl (fun K hK => ?_) AllReady.nil
      have s8 := s7.1
      go_simp
      refine hK _ _ ?_
      clear hK K
      try simp only [Act.put, pu1, pu2, pu3]
      refine wpAny_done (by kernel_rfl) ?_ _
      clear gp7 s7 f7 s8 run7 HT HC2 HS0
      go_wp2
      go_roundw
      case rel => exact ⟨k + 1, _, _, by omega, by go_num, G7.out⟩
      case measure => simp [intOf]; omega
    · obtain rfl : k = (A.kids x).length := by omega
      obtain ⟨p, hp, kz, nz⟩ := HE.out _ _ _ gp
      have N9 : Hid _ := And.intro kz nz
      clear kz nz
      obtain ⟨e0, e1, e2, e3, e4, e5⟩ := gp.a6.six
      obtain ⟨f0, f1, f2, f3, f4, f5⟩ := gp.a4.six
      have fr := fun j => gp.a4.free j
      have X9 : Hid _ := (gp.a4.putZ (.int .i64 (A.lb x).kind) (.int .i64 (A.lb x).ns) (.string (A.lb x).name) (.slice (pl x).1.1 (pl x).1.2.1 (pl x).1.2.2) (.string (A.lb x).text) (.slice bo (A.kids x).length d2)).six
      clear gp HE HK HC hlt hk
      unfold putZ at X9 N9
      generalize (A.kids x).length = m at *
      go_wp2
      obtain ⟨x0, x1, x2, x3, x4, x6⟩ := X9.out
      (try simp only [Exit.inBlock, Exit.then])
      refine bodyPost_ret (v := .agg #[.int .i64 (A.lb x).kind, .int .i64 (A.lb x).ns, .string (A.lb x).name, .slice (pl x).1.1 (pl x).1.2.1 (pl x).1.2.2, .string (A.lb x).text, .slice bo m d2]) (by simp [results, go_sem, x0, x1, x2, x3, x4, x6]) rfl ?_
      refine ⟨p, ?_, N9.out⟩
      rw [hp]

theorem rpure_ind (ok : A.Ok) (hn : A.n < 50000) : ∀ (f : Nat) (tag : Nat → Nat) (w : World) (h : Dd tag w d g o c q A pl) (k x y : Nat), x < A.n → A.anc k x = some y → A.n ≤ f + k →
    Calls Tryz.prog 28 #[.pointer (some ⟨d, 0, none⟩), .int .i64 (x : Int)] w fun e w' => ∃ p, e = .returned (wv (A.lb x) p) ∧ Kp [] w w' ∧ Nd (Qe tag w.heap.size 0) w' (A.lb x) (A.below x) p
  | 0, tag, w, h, k, x, y, hx, e, hf => absurd (ok.anc_lt hx e) (by omega)
  | f + 1, tag, w, h, k, x, y, hx, e, hf => rpure_step h ok hn x hx (fun tag' V z hV hz => by
      have hu := (ok.link x z).1 hz
      exact rpure_ind ok hn f tag' V hV (k + 1) z y (ok.lt hu).1 (by simp only [Ar.anc, hu, Option.bind_some, e]) (by omega))

theorem rpure_any (h : Dd tag w d g o c q A pl) (ok : A.Ok) (hn : A.n < 50000) (x : Nat) (hx : x < A.n) :
    Calls Tryz.prog 28 #[.pointer (some ⟨d, 0, none⟩), .int .i64 (x : Int)] w fun e w' => ∃ p, e = .returned (wv (A.lb x) p) ∧ Kp [] w w' ∧ Nd (Qe tag w.heap.size 0) w' (A.lb x) (A.below x) p :=
  rpure_ind ok hn A.n tag w h 0 x x hx rfl (by omega)

end
end Go.Proofs.YtpkppobkagdhkaaGreat
