/-
 RdO.
-/
import Derived.Test.YtpkppobkagdhkaaGreatB36
set_option linter.unusedVariables false
set_option linter.unusedSimpArgs false
set_option maxRecDepth 100000
set_option maxHeartbeats 1000000
namespace Go.Proofs.YtpkppobkagdhkaaGreat
open Go.RowKit Go.Maps Utf
def Ar.rconF (A : Ar) (z : Int) : Int := if A.there z = true ∧ tmplF (A.lb z.toNat) = true then hdI (A.kids z.toNat) else -1
theorem Ar.rcon_head {A : Ar} (ful : A.Ful) {x c : Nat} {ks : List Nat} (hx : x < A.n) (hk : A.kids x = c :: ks) : ((A.lb c).kind = 6 ↔ tmplF (A.lb x) = true) := by
 constructor
 ·intro h6
  obtain ⟨p,h1,h2⟩ := ful.con c (ful.toOk.kid_lt (p := x) (by rw [hk]; exact List.mem_cons_self ..)).1 h6
  have e1 := (ful.link x c).1 (by rw [hk]; exact List.mem_cons_self ..)
  have e2 := (ful.link p c).1 (by
   cases hq : A.kids p with
   | nil => rw [hq] at h1; cases h1
   | cons y ys => rw [hq] at h1; obtain rfl : y = c := by simpa using h1
                  exact List.mem_cons_self ..)
  rw [e1] at e2
  obtain rfl := Option.some.inj e2
  exact h2
 ·intro ht
  obtain ⟨c',h1,h2⟩ := ful.has x hx ht
  rw [hk] at h1
  obtain rfl : c = c' := by simpa using h1
  exact h2
section
variable {tag : Nat → Nat} {w : World} {d : Nat} {q : Bool} {A : Ar}
theorem rcon_any (hD : Dn tag w d q A) (ful : A.Ful) (hn : A.n < 50000) (z : Int) :
  Calls Tryz.prog 52 #[.pointer (some ⟨d,0,none⟩),.int .i64 z] w fun e w' => e = .returned (.int .i64 (A.rconF z)) ∧ Kp [] w w' := by
 obtain ⟨g,o,c,pl,h⟩ := hD
 have HT : Hid (∀ V,Kp [] w V → Calls Tryz.prog 92 #[.pointer (some ⟨d,0,none⟩),.int .i64 z] V fun e w' => e = .returned (.bool (A.there z)) ∧ w' = V) := fun V k => rthere_any (h.kept k) z
 have hun : undef = Value.tuple #[] := rfl
 have kd : Kp [] w w.drew := (Kp.refl _ _).drew
 cases hx : A.there z with
 | false =>
   have eF : A.rconF z = -1 := by unfold Ar.rconF; rw [if_neg (by rw [hx]; simp)]
   rw [eF]
   have HT0 := HT.out _ kd
   rw [hx] at HT0
   have hS1 : (World.drew w).cell? ⟨d,0,none⟩ = some (.slice (some ⟨g,o,none⟩) A.n c) := h.head.1
   clear eF h ful HT
   go_enter Tryz.func52,Tryz.ntmps52
   go_upto_region 1 with fail
   refine wp_region_g (S := fun V => V.cell? ⟨d,0,none⟩ = some (.slice (some ⟨g,o,none⟩) A.n c)) (T := []) (by kernel_rfl) hS1 (fun hHeld => ?_)
   refine g_pure 0 (some 5) (.move (.tmp 0)) ?_
   refine g_pure 1 (some 6) (.move (.tmp 1)) ?_
   refine wpAnyG_ready (rs := [2]) (by kernel_rfl) (by simp) ?_
   refine AllReadyG.cons (o := ⟨some 7,.call { callee := .value (.func 92),args := #[.tmp 5,.tmp 6],argTypes := #[63,3] },4,_,_,none⟩) rfl (fun K hK => ?_) AllReadyG.nil
   go_simp
   go_at_call 92
   refine HT0.mono ?_
   rintro e w9 ⟨rfl,hw⟩
   have hw2 := hw.symm
   clear hw
   subst hw2
   go_wp2_with fail
   refine hK.out _ _ hS1 (fun hHeld1 => ?_)
   clear hK K hHeld
   try simp only [Act.put,pu1,pu2,pu3]
   refine g_pure 3 (some 8) (.move (.tmp 7)) ?_
   refine g_skip 4 (some 9) (.move (.tmp 0)) ?_
   refine g_skip 5 (some 10) (.nilCheck (.tmp 9)) ?_
   refine g_skip 6 (some 11) (.fieldAddr 69 (.tmp 10) 0) ?_
   refine g_skip 7 (some 12) (.load 67 (.tmp 11)) ?_
   refine g_skip 8 (some 13) (.move (.tmp 1)) ?_
   refine g_skip 9 (some 14) (.indexAddr 67 (.tmp 12) (.tmp 13)) ?_
   refine g_skip 10 (some 15) (.fieldAddr 106 (.tmp 14) 5) ?_
   refine g_skip 11 (some 16) (.load 61 (.tmp 15)) ?_
   refine g_skip 12 (some 17) (.call { callee := .builtin .len,args := #[.tmp 16],argTypes := #[61] }) ?_
   refine g_skip 13 (some 18) (.binOp .gtr 3 (.tmp 17) (.const (.int .i64 0)) 3) ?_
   refine g_pure 14 (some 19) (.pick (.tmp 8) (.tmp 18) (.const (.bool false))) ?_
   refine g_pure 15 (some 20) (.move (.tmp 19)) ?_
   refine g_skip 16 (some 21) (.move (.tmp 0)) ?_
   refine g_skip 17 (some 22) (.nilCheck (.tmp 21)) ?_
   refine g_skip 18 (some 23) (.fieldAddr 69 (.tmp 22) 0) ?_
   refine g_skip 19 (some 24) (.load 67 (.tmp 23)) ?_
   refine g_skip 20 (some 25) (.move (.tmp 0)) ?_
   refine g_skip 21 (some 26) (.nilCheck (.tmp 25)) ?_
   refine g_skip 22 (some 27) (.fieldAddr 69 (.tmp 26) 0) ?_
   refine g_skip 23 (some 28) (.load 67 (.tmp 27)) ?_
   refine g_skip 24 (some 29) (.move (.tmp 1)) ?_
   refine g_skip 25 (some 30) (.indexAddr 67 (.tmp 28) (.tmp 29)) ?_
   refine g_skip 26 (some 31) (.fieldAddr 106 (.tmp 30) 5) ?_
   refine g_skip 27 (some 32) (.load 61 (.tmp 31)) ?_
   refine g_skip 28 (some 33) (.indexAddr 61 (.tmp 32) (.const (.int .i64 0))) ?_
   refine g_skip 29 (some 34) (.load 3 (.tmp 33)) ?_
   refine g_skip 30 (some 35) (.indexAddr 67 (.tmp 24) (.tmp 34)) ?_
   refine g_skip 31 (some 36) (.fieldAddr 106 (.tmp 35) 0) ?_
   refine g_skip 32 (some 37) (.load 3 (.tmp 36)) ?_
   refine g_skip 33 (some 38) (.binOp .eql 3 (.tmp 37) (.const (.int .i64 6)) 3) ?_
   refine g_pure 34 (some 39) (.pick (.tmp 20) (.tmp 38) (.const (.bool false))) ?_
   refine wpAnyG_free (by kernel_rfl) ?_
   refine wpAny_done (by kernel_rfl) ?_ _
   clear hS1
   go_wp2
   go_ret
   exact ⟨rfl,kd⟩
 | true =>
   have HT0 := HT.out _ kd
   rw [hx] at HT0
   obtain ⟨x,rfl,hx'⟩ := there_nat hx
   have j1 : (0 : Int) ≤ (x : Int) := by omega
   have j2 : (x : Int) < (A.n : Int) := by omega
   have c5 := (h.seven hx').2.2.2.2.2.1
   rw [h.klen hx'] at c5
   cases hk : A.kids x with
   | nil =>
     have eF : A.rconF (x : Int) = -1 := by
      unfold Ar.rconF
      rw [Int.toNat_natCast,if_neg]
      rintro ⟨_,ht⟩
      obtain ⟨c',h1,_⟩ := ful.has x hx' ht
      rw [hk] at h1; cases h1
     rw [eF]
     rw [hk] at c5
     have hS1 : (World.drew w).cell? ⟨d,0,none⟩ = some (.slice (some ⟨g,o,none⟩) A.n c) ∧ (World.drew w).cell? ⟨g,o + x * 7 + 5,none⟩ = some (.slice (pl x).2.1 0 (pl x).2.2.2) := ⟨h.head.1,c5⟩
     clear eF h ful HT c5
     generalize (pl x).2.1 = ko at *
     generalize (pl x).2.2.2 = kc at *
     go_enter Tryz.func52,Tryz.ntmps52
     go_upto_region 1 with fail
     refine wp_region_g (S := fun V => V.cell? ⟨d,0,none⟩ = some (.slice (some ⟨g,o,none⟩) A.n c) ∧ V.cell? ⟨g,o + x * 7 + 5,none⟩ = some (.slice ko 0 kc)) (T := []) (by kernel_rfl) hS1 (fun hHeld => ?_)
     refine g_pure 0 (some 5) (.move (.tmp 0)) ?_
     refine g_pure 1 (some 6) (.move (.tmp 1)) ?_
     refine wpAnyG_ready (rs := [2]) (by kernel_rfl) (by simp) ?_
     refine AllReadyG.cons (o := ⟨some 7,.call { callee := .value (.func 92),args := #[.tmp 5,.tmp 6],argTypes := #[63,3] },4,_,_,none⟩) rfl (fun K hK => ?_) AllReadyG.nil
     go_simp
     go_at_call 92
     refine HT0.mono ?_
     rintro e w9 ⟨rfl,hw⟩
     have hw2 := hw.symm
     clear hw
     subst hw2
     go_wp2_with fail
     refine hK.out _ _ hS1 (fun hHeld1 => ?_)
     clear hK K hHeld
     try simp only [Act.put,pu1,pu2,pu3]
     refine g_pure 3 (some 8) (.move (.tmp 7)) ?_
     refine g_pure 4 (some 9) (.move (.tmp 0)) ?_
     refine g_pure 5 (some 10) (.nilCheck (.tmp 9)) ?_
     refine g_pure 6 (some 11) (.fieldAddr 69 (.tmp 10) 0) ?_
     refine g_take 7 (some 12) (.load 67 (.tmp 11)) (by intro w hSw; (obtain ⟨q1,q2⟩ := hSw); go_simp; try with_reducible rfl) ?_
     refine g_pure 8 (some 13) (.move (.tmp 1)) ?_
     refine g_pure 9 (some 14) (.indexAddr 67 (.tmp 12) (.tmp 13)) ?_
     refine g_pure 10 (some 15) (.fieldAddr 106 (.tmp 14) 5) ?_
     refine g_take 11 (some 16) (.load 61 (.tmp 15)) (by intro w hSw; (obtain ⟨q1,q2⟩ := hSw); go_simp; try with_reducible rfl) ?_
     refine g_pure 12 (some 17) (.call { callee := .builtin .len,args := #[.tmp 16],argTypes := #[61] }) ?_
     refine g_pure 13 (some 18) (.binOp .gtr 3 (.tmp 17) (.const (.int .i64 0)) 3) ?_
     refine g_pure 14 (some 19) (.pick (.tmp 8) (.tmp 18) (.const (.bool false))) ?_
     refine g_pure 15 (some 20) (.move (.tmp 19)) ?_
     refine g_skip 16 (some 21) (.move (.tmp 0)) ?_
     refine g_skip 17 (some 22) (.nilCheck (.tmp 21)) ?_
     refine g_skip 18 (some 23) (.fieldAddr 69 (.tmp 22) 0) ?_
     refine g_skip 19 (some 24) (.load 67 (.tmp 23)) ?_
     refine g_skip 20 (some 25) (.move (.tmp 0)) ?_
     refine g_skip 21 (some 26) (.nilCheck (.tmp 25)) ?_
     refine g_skip 22 (some 27) (.fieldAddr 69 (.tmp 26) 0) ?_
     refine g_skip 23 (some 28) (.load 67 (.tmp 27)) ?_
     refine g_skip 24 (some 29) (.move (.tmp 1)) ?_
     refine g_skip 25 (some 30) (.indexAddr 67 (.tmp 28) (.tmp 29)) ?_
     refine g_skip 26 (some 31) (.fieldAddr 106 (.tmp 30) 5) ?_
     refine g_skip 27 (some 32) (.load 61 (.tmp 31)) ?_
     refine g_skip 28 (some 33) (.indexAddr 61 (.tmp 32) (.const (.int .i64 0))) ?_
     refine g_skip 29 (some 34) (.load 3 (.tmp 33)) ?_
     refine g_skip 30 (some 35) (.indexAddr 67 (.tmp 24) (.tmp 34)) ?_
     refine g_skip 31 (some 36) (.fieldAddr 106 (.tmp 35) 0) ?_
     refine g_skip 32 (some 37) (.load 3 (.tmp 36)) ?_
     refine g_skip 33 (some 38) (.binOp .eql 3 (.tmp 37) (.const (.int .i64 6)) 3) ?_
     refine g_pure 34 (some 39) (.pick (.tmp 20) (.tmp 38) (.const (.bool false))) ?_
     refine wpAnyG_free (by kernel_rfl) ?_
     refine wpAny_done (by kernel_rfl) ?_ _
     clear hS1
     go_wp2
     go_ret
     exact ⟨rfl,kd⟩
   | cons y ys =>
     have hy : y < A.n := (ful.toOk.kid_lt (p := x) (by rw [hk]; exact List.mem_cons_self ..)).1
     have hiff := Ar.rcon_head ful hx' hk
     have y1 : (0 : Int) ≤ (y : Int) := by omega
     have y2 : (y : Int) < (A.n : Int) := by omega
     obtain ⟨b7,o7,hk7,e7⟩ := (h.kid x hx').iv_at 0 (by rw [hk]; simp)
     rw [Nat.add_zero] at e7
     have e8 : (A.kids x)[0]'(by rw [hk]; simp) = y := by simp [hk]
     rw [e8] at e7
     have hb : (A.kids x).length ≤ A.n := Ar.pig _ _ (ful.toOk.one x) (fun y hy => (ful.toOk.kid_lt hy).1)
     have hm : 0 < (A.kids x).length := by rw [hk]; simp
     rw [hk7] at c5
     have s0 := (h.seven hy).1
     have eF : A.rconF (x : Int) = if (A.lb y).kind = 6 then (y : Int) else -1 := by
      unfold Ar.rconF
      rw [Int.toNat_natCast,hx,hk]
      simp only [true_and,hiff,hdI]
     rw [eF]
     have c0 := h.head.1
     clear eF e8 hk hk7
     generalize (A.kids x).length = m at *
     have m1 : (0 : Int) < (m : Int) := by omega
     generalize (pl x).2.2.2 = kc at *
     by_cases h6 : (A.lb y).kind = 6
     ·rw [if_pos h6]
      rw [h6] at s0
      have hS1 : (World.drew w).cell? ⟨d,0,none⟩ = some (.slice (some ⟨g,o,none⟩) A.n c) ∧ (World.drew w).cell? ⟨g,o + x * 7 + 5,none⟩ = some (.slice (some ⟨b7,o7,none⟩) m kc) ∧ (World.drew w).cell? ⟨b7,o7,none⟩ = some (.int .i64 (y : Int)) ∧ (World.drew w).cell? ⟨g,o + y * 7,none⟩ = some (.int .i64 6) := ⟨c0,c5,e7,s0⟩
      clear h ful HT hiff h6
      go_enter Tryz.func52,Tryz.ntmps52
      go_upto_region 1 with fail
      refine wp_region_g (S := fun V => V.cell? ⟨d,0,none⟩ = some (.slice (some ⟨g,o,none⟩) A.n c) ∧ V.cell? ⟨g,o + x * 7 + 5,none⟩ = some (.slice (some ⟨b7,o7,none⟩) m kc) ∧ V.cell? ⟨b7,o7,none⟩ = some (.int .i64 (y : Int)) ∧ V.cell? ⟨g,o + y * 7,none⟩ = some (.int .i64 6)) (T := []) (by kernel_rfl) hS1 (fun hHeld => ?_)
      refine g_pure 0 (some 5) (.move (.tmp 0)) ?_
      refine g_pure 1 (some 6) (.move (.tmp 1)) ?_
      refine wpAnyG_ready (rs := [2]) (by kernel_rfl) (by simp) ?_
      refine AllReadyG.cons (o := ⟨some 7,.call { callee := .value (.func 92),args := #[.tmp 5,.tmp 6],argTypes := #[63,3] },4,_,_,none⟩) rfl (fun K hK => ?_) AllReadyG.nil
      go_simp
      go_at_call 92
      refine HT0.mono ?_
      rintro e w9 ⟨rfl,hw⟩
      have hw2 := hw.symm
      clear hw
      subst hw2
      go_wp2_with fail
      refine hK.out _ _ hS1 (fun hHeld1 => ?_)
      clear hK K hHeld
      try simp only [Act.put,pu1,pu2,pu3]
      refine g_pure 3 (some 8) (.move (.tmp 7)) ?_
      refine g_pure 4 (some 9) (.move (.tmp 0)) ?_
      refine g_pure 5 (some 10) (.nilCheck (.tmp 9)) ?_
      refine g_pure 6 (some 11) (.fieldAddr 69 (.tmp 10) 0) ?_
      refine g_take 7 (some 12) (.load 67 (.tmp 11)) (by intro w hSw; (obtain ⟨q1,q2,q3,q4⟩ := hSw); go_simp; try with_reducible rfl) ?_
      refine g_pure 8 (some 13) (.move (.tmp 1)) ?_
      refine g_pure 9 (some 14) (.indexAddr 67 (.tmp 12) (.tmp 13)) ?_
      refine g_pure 10 (some 15) (.fieldAddr 106 (.tmp 14) 5) ?_
      refine g_take 11 (some 16) (.load 61 (.tmp 15)) (by intro w hSw; (obtain ⟨q1,q2,q3,q4⟩ := hSw); go_simp; try with_reducible rfl) ?_
      refine g_pure 12 (some 17) (.call { callee := .builtin .len,args := #[.tmp 16],argTypes := #[61] }) ?_
      refine g_pure 13 (some 18) (.binOp .gtr 3 (.tmp 17) (.const (.int .i64 0)) 3) ?_
      refine g_pure 14 (some 19) (.pick (.tmp 8) (.tmp 18) (.const (.bool false))) ?_
      refine g_pure 15 (some 20) (.move (.tmp 19)) ?_
      refine g_pure 16 (some 21) (.move (.tmp 0)) ?_
      refine g_pure 17 (some 22) (.nilCheck (.tmp 21)) ?_
      refine g_pure 18 (some 23) (.fieldAddr 69 (.tmp 22) 0) ?_
      refine g_take 19 (some 24) (.load 67 (.tmp 23)) (by intro w hSw; (obtain ⟨q1,q2,q3,q4⟩ := hSw); go_simp; try with_reducible rfl) ?_
      refine g_pure 20 (some 25) (.move (.tmp 0)) ?_
      refine g_pure 21 (some 26) (.nilCheck (.tmp 25)) ?_
      refine g_pure 22 (some 27) (.fieldAddr 69 (.tmp 26) 0) ?_
      refine g_take 23 (some 28) (.load 67 (.tmp 27)) (by intro w hSw; (obtain ⟨q1,q2,q3,q4⟩ := hSw); go_simp; try with_reducible rfl) ?_
      refine g_pure 24 (some 29) (.move (.tmp 1)) ?_
      refine g_pure 25 (some 30) (.indexAddr 67 (.tmp 28) (.tmp 29)) ?_
      refine g_pure 26 (some 31) (.fieldAddr 106 (.tmp 30) 5) ?_
      refine g_take 27 (some 32) (.load 61 (.tmp 31)) (by intro w hSw; (obtain ⟨q1,q2,q3,q4⟩ := hSw); go_simp; try with_reducible rfl) ?_
      refine g_pure 28 (some 33) (.indexAddr 61 (.tmp 32) (.const (.int .i64 0))) ?_
      refine g_take 29 (some 34) (.load 3 (.tmp 33)) (by intro w hSw; (obtain ⟨q1,q2,q3,q4⟩ := hSw); go_simp; try with_reducible rfl) ?_
      refine g_pure 30 (some 35) (.indexAddr 67 (.tmp 24) (.tmp 34)) ?_
      refine g_pure 31 (some 36) (.fieldAddr 106 (.tmp 35) 0) ?_
      refine g_take 32 (some 37) (.load 3 (.tmp 36)) (by intro w hSw; (obtain ⟨q1,q2,q3,q4⟩ := hSw); go_simp; try with_reducible rfl) ?_
      refine g_pure 33 (some 38) (.binOp .eql 3 (.tmp 37) (.const (.int .i64 6)) 3) ?_
      refine g_pure 34 (some 39) (.pick (.tmp 20) (.tmp 38) (.const (.bool false))) ?_
      refine wpAnyG_free (by kernel_rfl) ?_
      refine wpAny_done (by kernel_rfl) ?_ _
      clear hS1
      go_wp2
      go_ret
      exact ⟨rfl,kd⟩
     ·rw [if_neg h6]
      have t6 : ((A.lb y).kind == 6) = false := beq_false_of_ne h6
      generalize (A.lb y).kind = ky at *
      have hS1 : (World.drew w).cell? ⟨d,0,none⟩ = some (.slice (some ⟨g,o,none⟩) A.n c) ∧ (World.drew w).cell? ⟨g,o + x * 7 + 5,none⟩ = some (.slice (some ⟨b7,o7,none⟩) m kc) ∧ (World.drew w).cell? ⟨b7,o7,none⟩ = some (.int .i64 (y : Int)) ∧ (World.drew w).cell? ⟨g,o + y * 7,none⟩ = some (.int .i64 ky) := ⟨c0,c5,e7,s0⟩
      clear h ful HT hiff h6
      go_enter Tryz.func52,Tryz.ntmps52
      go_upto_region 1 with fail
      refine wp_region_g (S := fun V => V.cell? ⟨d,0,none⟩ = some (.slice (some ⟨g,o,none⟩) A.n c) ∧ V.cell? ⟨g,o + x * 7 + 5,none⟩ = some (.slice (some ⟨b7,o7,none⟩) m kc) ∧ V.cell? ⟨b7,o7,none⟩ = some (.int .i64 (y : Int)) ∧ V.cell? ⟨g,o + y * 7,none⟩ = some (.int .i64 ky)) (T := []) (by kernel_rfl) hS1 (fun hHeld => ?_)
      refine g_pure 0 (some 5) (.move (.tmp 0)) ?_
      refine g_pure 1 (some 6) (.move (.tmp 1)) ?_
      refine wpAnyG_ready (rs := [2]) (by kernel_rfl) (by simp) ?_
      refine AllReadyG.cons (o := ⟨some 7,.call { callee := .value (.func 92),args := #[.tmp 5,.tmp 6],argTypes := #[63,3] },4,_,_,none⟩) rfl (fun K hK => ?_) AllReadyG.nil
      go_simp
      go_at_call 92
      refine HT0.mono ?_
      rintro e w9 ⟨rfl,hw⟩
      have hw2 := hw.symm
      clear hw
      subst hw2
      go_wp2_with fail
      refine hK.out _ _ hS1 (fun hHeld1 => ?_)
      clear hK K hHeld
      try simp only [Act.put,pu1,pu2,pu3]
      refine g_pure 3 (some 8) (.move (.tmp 7)) ?_
      refine g_pure 4 (some 9) (.move (.tmp 0)) ?_
      refine g_pure 5 (some 10) (.nilCheck (.tmp 9)) ?_
      refine g_pure 6 (some 11) (.fieldAddr 69 (.tmp 10) 0) ?_
      refine g_take 7 (some 12) (.load 67 (.tmp 11)) (by intro w hSw; (obtain ⟨q1,q2,q3,q4⟩ := hSw); go_simp; try with_reducible rfl) ?_
      refine g_pure 8 (some 13) (.move (.tmp 1)) ?_
      refine g_pure 9 (some 14) (.indexAddr 67 (.tmp 12) (.tmp 13)) ?_
      refine g_pure 10 (some 15) (.fieldAddr 106 (.tmp 14) 5) ?_
      refine g_take 11 (some 16) (.load 61 (.tmp 15)) (by intro w hSw; (obtain ⟨q1,q2,q3,q4⟩ := hSw); go_simp; try with_reducible rfl) ?_
      refine g_pure 12 (some 17) (.call { callee := .builtin .len,args := #[.tmp 16],argTypes := #[61] }) ?_
      refine g_pure 13 (some 18) (.binOp .gtr 3 (.tmp 17) (.const (.int .i64 0)) 3) ?_
      refine g_pure 14 (some 19) (.pick (.tmp 8) (.tmp 18) (.const (.bool false))) ?_
      refine g_pure 15 (some 20) (.move (.tmp 19)) ?_
      refine g_pure 16 (some 21) (.move (.tmp 0)) ?_
      refine g_pure 17 (some 22) (.nilCheck (.tmp 21)) ?_
      refine g_pure 18 (some 23) (.fieldAddr 69 (.tmp 22) 0) ?_
      refine g_take 19 (some 24) (.load 67 (.tmp 23)) (by intro w hSw; (obtain ⟨q1,q2,q3,q4⟩ := hSw); go_simp; try with_reducible rfl) ?_
      refine g_pure 20 (some 25) (.move (.tmp 0)) ?_
      refine g_pure 21 (some 26) (.nilCheck (.tmp 25)) ?_
      refine g_pure 22 (some 27) (.fieldAddr 69 (.tmp 26) 0) ?_
      refine g_take 23 (some 28) (.load 67 (.tmp 27)) (by intro w hSw; (obtain ⟨q1,q2,q3,q4⟩ := hSw); go_simp; try with_reducible rfl) ?_
      refine g_pure 24 (some 29) (.move (.tmp 1)) ?_
      refine g_pure 25 (some 30) (.indexAddr 67 (.tmp 28) (.tmp 29)) ?_
      refine g_pure 26 (some 31) (.fieldAddr 106 (.tmp 30) 5) ?_
      refine g_take 27 (some 32) (.load 61 (.tmp 31)) (by intro w hSw; (obtain ⟨q1,q2,q3,q4⟩ := hSw); go_simp; try with_reducible rfl) ?_
      refine g_pure 28 (some 33) (.indexAddr 61 (.tmp 32) (.const (.int .i64 0))) ?_
      refine g_take 29 (some 34) (.load 3 (.tmp 33)) (by intro w hSw; (obtain ⟨q1,q2,q3,q4⟩ := hSw); go_simp; try with_reducible rfl) ?_
      refine g_pure 30 (some 35) (.indexAddr 67 (.tmp 24) (.tmp 34)) ?_
      refine g_pure 31 (some 36) (.fieldAddr 106 (.tmp 35) 0) ?_
      refine g_take 32 (some 37) (.load 3 (.tmp 36)) (by intro w hSw; (obtain ⟨q1,q2,q3,q4⟩ := hSw); go_simp; try with_reducible rfl) ?_
      refine g_pure 33 (some 38) (.binOp .eql 3 (.tmp 37) (.const (.int .i64 6)) 3) ?_
      refine g_pure 34 (some 39) (.pick (.tmp 20) (.tmp 38) (.const (.bool false))) ?_
      refine wpAnyG_free (by kernel_rfl) ?_
      refine wpAny_done (by kernel_rfl) ?_ _
      clear hS1
      go_wp2
      go_ret
      exact ⟨rfl,kd⟩
end
end Go.Proofs.YtpkppobkagdhkaaGreat
