/-
 Rtc RdA RdB.
-/
import Derived.Test.YtpkppobkagdhkaaGreatB15
import Derived.Test.YtpkppobkagdhkaaGreatB22
set_option linter.unusedVariables false
set_option linter.unusedSimpArgs false
set_option maxRecDepth 100000
set_option maxHeartbeats 1000000
namespace Go.Proofs.YtpkppobkagdhkaaGreat
open Go.RowKit
def onlyP (o : Ot) (p : Sl) : Sl := if o.kd = 1 ∨ o.kd = 10 then p else (none,0,0)
theorem only_at {w : World} {o : Ot} {p : Sl} (h : Ap w (o,p)) : Ap w (onlyO o,onlyP o p) := by
 unfold Ap onlyP
 by_cases h1 : o.kd = 1 ∨ o.kd = 10
 ·rw [if_pos h1]
  have e : (onlyO o).al = o.al := by
   unfold onlyO
   rcases h1 with h1 | h1 <;> simp [h1]
  rw [e]
  exact h
 ·rw [if_neg h1]
  have e : (onlyO o).al = [] := by
   unfold onlyO
   split
   ·omega
   ·repeat' split
    all_goals first | rfl | omega
  rw [e]
  exact ⟨rfl,Nat.le_refl _,fun j hj => by simp at hj⟩
theorem onlyP_le {o : Ot} {p : Sl} {m : Nat} (h : p.2.1 ≤ m) : (onlyP o p).2.1 ≤ m := by
 unfold onlyP
 split
 ·exact h
 ·exact Nat.zero_le _
theorem two_new (w : World) (c : Array Value) (o : Ot) (p : Sl) : Nine ((w.alloc (.cells c 24)).alloc (.cells (oc o p) 24)) (w.heap.size + 1) 0 o p ∧ Kp [] w ((w.alloc (.cells c 24)).alloc (.cells (oc o p) 24)) :=
 ⟨nine_of (heap_new' _ _ _ (by simp)),((Kp.refl _ _).alloc _).alloc _⟩
theorem named_1 (w : World) (a2 a3 a4 a5 a6 : Int) (a7 : ByteArray) (a8 : List Att) (a9 : ByteArray) (p1 : Option Addr) (p2 p3 : Nat) :
  Calls Tryz.prog 63 #[ov ⟨1,a2,a3,a4,a5,a6,a7,a8,a9⟩ (p1,p2,p3)] w fun e w' => e = .returned (.tuple #[.agg #[.int .i64 1,.int .i64 a2,.int .i64 0,.int .i64 0,.int .i64 a5,.int .i64 a6,.string a7,.slice p1 p2 p3,.string a9],.bool true]) ∧ Kp [] w w' := by
 obtain ⟨D,kz⟩ := two_new w (oc ⟨1,a2,a3,a4,a5,a6,a7,a8,a9⟩ (p1,p2,p3)) ⟨1,a2,0,0,a5,a6,a7,a8,a9⟩ (p1,p2,p3)
 simp only [oc,ov] at D kz ⊢
 have DD : Hid (Nine _ _ _ _ _) := D
 clear D
 go_enter Tryz.func63,Tryz.ntmps63
 go_wp2
 obtain ⟨d0,d1,d2,d3,d4,d5,d6,d7,d8⟩ := DD.out
 refine bodyPost_ret (v := .tuple #[.agg #[.int .i64 1,.int .i64 a2,.int .i64 0,.int .i64 0,.int .i64 a5,.int .i64 a6,.string a7,.slice p1 p2 p3,.string a9],.bool true]) (by simp [results,go_sem,d0,d1,d2,d3,d4,d5,d6,d7,d8]) rfl ⟨rfl,kz⟩
theorem named_2 (w : World) (a2 a3 a4 a5 a6 : Int) (a7 : ByteArray) (a8 : List Att) (a9 : ByteArray) (p1 : Option Addr) (p2 p3 : Nat) :
  Calls Tryz.prog 63 #[ov ⟨2,a2,a3,a4,a5,a6,a7,a8,a9⟩ (p1,p2,p3)] w fun e w' => e = .returned (.tuple #[.agg #[.int .i64 2,.int .i64 a2,.int .i64 a3,.int .i64 0,.int .i64 0,.int .i64 0,.string ⟨#[]⟩,.slice none 0 0,.string ⟨#[]⟩],.bool true]) ∧ Kp [] w w' := by
 obtain ⟨D,kz⟩ := two_new w (oc ⟨2,a2,a3,a4,a5,a6,a7,a8,a9⟩ (p1,p2,p3)) ⟨2,a2,a3,0,0,0,⟨#[]⟩,[],⟨#[]⟩⟩ (none,0,0)
 simp only [oc,ov] at D kz ⊢
 have DD : Hid (Nine _ _ _ _ _) := D
 clear D
 go_enter Tryz.func63,Tryz.ntmps63
 go_wp2
 obtain ⟨d0,d1,d2,d3,d4,d5,d6,d7,d8⟩ := DD.out
 refine bodyPost_ret (v := .tuple #[.agg #[.int .i64 2,.int .i64 a2,.int .i64 a3,.int .i64 0,.int .i64 0,.int .i64 0,.string ⟨#[]⟩,.slice none 0 0,.string ⟨#[]⟩],.bool true]) (by simp [results,go_sem,d0,d1,d2,d3,d4,d5,d6,d7,d8]) rfl ⟨rfl,kz⟩
theorem named_3 (w : World) (a2 a3 a4 a5 a6 : Int) (a7 : ByteArray) (a8 : List Att) (a9 : ByteArray) (p1 : Option Addr) (p2 p3 : Nat) :
  Calls Tryz.prog 63 #[ov ⟨3,a2,a3,a4,a5,a6,a7,a8,a9⟩ (p1,p2,p3)] w fun e w' => e = .returned (.tuple #[.agg #[.int .i64 3,.int .i64 a2,.int .i64 0,.int .i64 a4,.int .i64 0,.int .i64 0,.string ⟨#[]⟩,.slice none 0 0,.string ⟨#[]⟩],.bool true]) ∧ Kp [] w w' := by
 obtain ⟨D,kz⟩ := two_new w (oc ⟨3,a2,a3,a4,a5,a6,a7,a8,a9⟩ (p1,p2,p3)) ⟨3,a2,0,a4,0,0,⟨#[]⟩,[],⟨#[]⟩⟩ (none,0,0)
 simp only [oc,ov] at D kz ⊢
 have DD : Hid (Nine _ _ _ _ _) := D
 clear D
 go_enter Tryz.func63,Tryz.ntmps63
 go_wp2
 obtain ⟨d0,d1,d2,d3,d4,d5,d6,d7,d8⟩ := DD.out
 refine bodyPost_ret (v := .tuple #[.agg #[.int .i64 3,.int .i64 a2,.int .i64 0,.int .i64 a4,.int .i64 0,.int .i64 0,.string ⟨#[]⟩,.slice none 0 0,.string ⟨#[]⟩],.bool true]) (by simp [results,go_sem,d0,d1,d2,d3,d4,d5,d6,d7,d8]) rfl ⟨rfl,kz⟩
theorem named_4 (w : World) (a2 a3 a4 a5 a6 : Int) (a7 : ByteArray) (a8 : List Att) (a9 : ByteArray) (p1 : Option Addr) (p2 p3 : Nat) :
  Calls Tryz.prog 63 #[ov ⟨4,a2,a3,a4,a5,a6,a7,a8,a9⟩ (p1,p2,p3)] w fun e w' => e = .returned (.tuple #[.agg #[.int .i64 4,.int .i64 a2,.int .i64 a3,.int .i64 a4,.int .i64 0,.int .i64 0,.string ⟨#[]⟩,.slice none 0 0,.string ⟨#[]⟩],.bool true]) ∧ Kp [] w w' := by
 obtain ⟨D,kz⟩ := two_new w (oc ⟨4,a2,a3,a4,a5,a6,a7,a8,a9⟩ (p1,p2,p3)) ⟨4,a2,a3,a4,0,0,⟨#[]⟩,[],⟨#[]⟩⟩ (none,0,0)
 simp only [oc,ov] at D kz ⊢
 have DD : Hid (Nine _ _ _ _ _) := D
 clear D
 go_enter Tryz.func63,Tryz.ntmps63
 go_wp2
 obtain ⟨d0,d1,d2,d3,d4,d5,d6,d7,d8⟩ := DD.out
 refine bodyPost_ret (v := .tuple #[.agg #[.int .i64 4,.int .i64 a2,.int .i64 a3,.int .i64 a4,.int .i64 0,.int .i64 0,.string ⟨#[]⟩,.slice none 0 0,.string ⟨#[]⟩],.bool true]) (by simp [results,go_sem,d0,d1,d2,d3,d4,d5,d6,d7,d8]) rfl ⟨rfl,kz⟩
theorem named_5 (w : World) (a2 a3 a4 a5 a6 : Int) (a7 : ByteArray) (a8 : List Att) (a9 : ByteArray) (p1 : Option Addr) (p2 p3 : Nat) :
  Calls Tryz.prog 63 #[ov ⟨5,a2,a3,a4,a5,a6,a7,a8,a9⟩ (p1,p2,p3)] w fun e w' => e = .returned (.tuple #[.agg #[.int .i64 5,.int .i64 0,.int .i64 a3,.int .i64 0,.int .i64 0,.int .i64 0,.string ⟨#[]⟩,.slice none 0 0,.string a9],.bool true]) ∧ Kp [] w w' := by
 obtain ⟨D,kz⟩ := two_new w (oc ⟨5,a2,a3,a4,a5,a6,a7,a8,a9⟩ (p1,p2,p3)) ⟨5,0,a3,0,0,0,⟨#[]⟩,[],a9⟩ (none,0,0)
 simp only [oc,ov] at D kz ⊢
 have DD : Hid (Nine _ _ _ _ _) := D
 clear D
 go_enter Tryz.func63,Tryz.ntmps63
 go_wp2
 obtain ⟨d0,d1,d2,d3,d4,d5,d6,d7,d8⟩ := DD.out
 refine bodyPost_ret (v := .tuple #[.agg #[.int .i64 5,.int .i64 0,.int .i64 a3,.int .i64 0,.int .i64 0,.int .i64 0,.string ⟨#[]⟩,.slice none 0 0,.string a9],.bool true]) (by simp [results,go_sem,d0,d1,d2,d3,d4,d5,d6,d7,d8]) rfl ⟨rfl,kz⟩
theorem named_6 (w : World) (a2 a3 a4 a5 a6 : Int) (a7 : ByteArray) (a8 : List Att) (a9 : ByteArray) (p1 : Option Addr) (p2 p3 : Nat) :
  Calls Tryz.prog 63 #[ov ⟨6,a2,a3,a4,a5,a6,a7,a8,a9⟩ (p1,p2,p3)] w fun e w' => e = .returned (.tuple #[.agg #[.int .i64 6,.int .i64 0,.int .i64 a3,.int .i64 a4,.int .i64 0,.int .i64 0,.string ⟨#[]⟩,.slice none 0 0,.string a9],.bool true]) ∧ Kp [] w w' := by
 obtain ⟨D,kz⟩ := two_new w (oc ⟨6,a2,a3,a4,a5,a6,a7,a8,a9⟩ (p1,p2,p3)) ⟨6,0,a3,a4,0,0,⟨#[]⟩,[],a9⟩ (none,0,0)
 simp only [oc,ov] at D kz ⊢
 have DD : Hid (Nine _ _ _ _ _) := D
 clear D
 go_enter Tryz.func63,Tryz.ntmps63
 go_wp2
 obtain ⟨d0,d1,d2,d3,d4,d5,d6,d7,d8⟩ := DD.out
 refine bodyPost_ret (v := .tuple #[.agg #[.int .i64 6,.int .i64 0,.int .i64 a3,.int .i64 a4,.int .i64 0,.int .i64 0,.string ⟨#[]⟩,.slice none 0 0,.string a9],.bool true]) (by simp [results,go_sem,d0,d1,d2,d3,d4,d5,d6,d7,d8]) rfl ⟨rfl,kz⟩
theorem named_7 (w : World) (a2 a3 a4 a5 a6 : Int) (a7 : ByteArray) (a8 : List Att) (a9 : ByteArray) (p1 : Option Addr) (p2 p3 : Nat) :
  Calls Tryz.prog 63 #[ov ⟨7,a2,a3,a4,a5,a6,a7,a8,a9⟩ (p1,p2,p3)] w fun e w' => e = .returned (.tuple #[.agg #[.int .i64 7,.int .i64 a2,.int .i64 0,.int .i64 0,.int .i64 0,.int .i64 0,.string ⟨#[]⟩,.slice none 0 0,.string ⟨#[]⟩],.bool true]) ∧ Kp [] w w' := by
 obtain ⟨D,kz⟩ := two_new w (oc ⟨7,a2,a3,a4,a5,a6,a7,a8,a9⟩ (p1,p2,p3)) ⟨7,a2,0,0,0,0,⟨#[]⟩,[],⟨#[]⟩⟩ (none,0,0)
 simp only [oc,ov] at D kz ⊢
 have DD : Hid (Nine _ _ _ _ _) := D
 clear D
 go_enter Tryz.func63,Tryz.ntmps63
 go_wp2
 obtain ⟨d0,d1,d2,d3,d4,d5,d6,d7,d8⟩ := DD.out
 refine bodyPost_ret (v := .tuple #[.agg #[.int .i64 7,.int .i64 a2,.int .i64 0,.int .i64 0,.int .i64 0,.int .i64 0,.string ⟨#[]⟩,.slice none 0 0,.string ⟨#[]⟩],.bool true]) (by simp [results,go_sem,d0,d1,d2,d3,d4,d5,d6,d7,d8]) rfl ⟨rfl,kz⟩
theorem named_8 (w : World) (a2 a3 a4 a5 a6 : Int) (a7 : ByteArray) (a8 : List Att) (a9 : ByteArray) (p1 : Option Addr) (p2 p3 : Nat) :
  Calls Tryz.prog 63 #[ov ⟨8,a2,a3,a4,a5,a6,a7,a8,a9⟩ (p1,p2,p3)] w fun e w' => e = .returned (.tuple #[.agg #[.int .i64 8,.int .i64 0,.int .i64 a3,.int .i64 a4,.int .i64 0,.int .i64 0,.string ⟨#[]⟩,.slice none 0 0,.string ⟨#[]⟩],.bool true]) ∧ Kp [] w w' := by
 obtain ⟨D,kz⟩ := two_new w (oc ⟨8,a2,a3,a4,a5,a6,a7,a8,a9⟩ (p1,p2,p3)) ⟨8,0,a3,a4,0,0,⟨#[]⟩,[],⟨#[]⟩⟩ (none,0,0)
 simp only [oc,ov] at D kz ⊢
 have DD : Hid (Nine _ _ _ _ _) := D
 clear D
 go_enter Tryz.func63,Tryz.ntmps63
 go_wp2
 obtain ⟨d0,d1,d2,d3,d4,d5,d6,d7,d8⟩ := DD.out
 refine bodyPost_ret (v := .tuple #[.agg #[.int .i64 8,.int .i64 0,.int .i64 a3,.int .i64 a4,.int .i64 0,.int .i64 0,.string ⟨#[]⟩,.slice none 0 0,.string ⟨#[]⟩],.bool true]) (by simp [results,go_sem,d0,d1,d2,d3,d4,d5,d6,d7,d8]) rfl ⟨rfl,kz⟩
theorem named_9 (w : World) (a2 a3 a4 a5 a6 : Int) (a7 : ByteArray) (a8 : List Att) (a9 : ByteArray) (p1 : Option Addr) (p2 p3 : Nat) :
  Calls Tryz.prog 63 #[ov ⟨9,a2,a3,a4,a5,a6,a7,a8,a9⟩ (p1,p2,p3)] w fun e w' => e = .returned (.tuple #[.agg #[.int .i64 9,.int .i64 a2,.int .i64 0,.int .i64 a4,.int .i64 0,.int .i64 0,.string ⟨#[]⟩,.slice none 0 0,.string ⟨#[]⟩],.bool true]) ∧ Kp [] w w' := by
 obtain ⟨D,kz⟩ := two_new w (oc ⟨9,a2,a3,a4,a5,a6,a7,a8,a9⟩ (p1,p2,p3)) ⟨9,a2,0,a4,0,0,⟨#[]⟩,[],⟨#[]⟩⟩ (none,0,0)
 simp only [oc,ov] at D kz ⊢
 have DD : Hid (Nine _ _ _ _ _) := D
 clear D
 go_enter Tryz.func63,Tryz.ntmps63
 go_wp2
 obtain ⟨d0,d1,d2,d3,d4,d5,d6,d7,d8⟩ := DD.out
 refine bodyPost_ret (v := .tuple #[.agg #[.int .i64 9,.int .i64 a2,.int .i64 0,.int .i64 a4,.int .i64 0,.int .i64 0,.string ⟨#[]⟩,.slice none 0 0,.string ⟨#[]⟩],.bool true]) (by simp [results,go_sem,d0,d1,d2,d3,d4,d5,d6,d7,d8]) rfl ⟨rfl,kz⟩
theorem named_10 (w : World) (a2 a3 a4 a5 a6 : Int) (a7 : ByteArray) (a8 : List Att) (a9 : ByteArray) (p1 : Option Addr) (p2 p3 : Nat) :
  Calls Tryz.prog 63 #[ov ⟨10,a2,a3,a4,a5,a6,a7,a8,a9⟩ (p1,p2,p3)] w fun e w' => e = .returned (.tuple #[.agg #[.int .i64 10,.int .i64 a2,.int .i64 0,.int .i64 0,.int .i64 0,.int .i64 0,.string ⟨#[]⟩,.slice p1 p2 p3,.string ⟨#[]⟩],.bool true]) ∧ Kp [] w w' := by
 obtain ⟨D,kz⟩ := two_new w (oc ⟨10,a2,a3,a4,a5,a6,a7,a8,a9⟩ (p1,p2,p3)) ⟨10,a2,0,0,0,0,⟨#[]⟩,a8,⟨#[]⟩⟩ (p1,p2,p3)
 simp only [oc,ov] at D kz ⊢
 have DD : Hid (Nine _ _ _ _ _) := D
 clear D
 go_enter Tryz.func63,Tryz.ntmps63
 go_wp2
 obtain ⟨d0,d1,d2,d3,d4,d5,d6,d7,d8⟩ := DD.out
 refine bodyPost_ret (v := .tuple #[.agg #[.int .i64 10,.int .i64 a2,.int .i64 0,.int .i64 0,.int .i64 0,.int .i64 0,.string ⟨#[]⟩,.slice p1 p2 p3,.string ⟨#[]⟩],.bool true]) (by simp [results,go_sem,d0,d1,d2,d3,d4,d5,d6,d7,d8]) rfl ⟨rfl,kz⟩
theorem named_11 (w : World) (a2 a3 a4 a5 a6 : Int) (a7 : ByteArray) (a8 : List Att) (a9 : ByteArray) (p1 : Option Addr) (p2 p3 : Nat) :
  Calls Tryz.prog 63 #[ov ⟨11,a2,a3,a4,a5,a6,a7,a8,a9⟩ (p1,p2,p3)] w fun e w' => e = .returned (.tuple #[.agg #[.int .i64 11,.int .i64 0,.int .i64 0,.int .i64 0,.int .i64 0,.int .i64 0,.string ⟨#[]⟩,.slice none 0 0,.string ⟨#[]⟩],.bool true]) ∧ Kp [] w w' := by
 obtain ⟨D,kz⟩ := two_new w (oc ⟨11,a2,a3,a4,a5,a6,a7,a8,a9⟩ (p1,p2,p3)) ⟨11,0,0,0,0,0,⟨#[]⟩,[],⟨#[]⟩⟩ (none,0,0)
 simp only [oc,ov] at D kz ⊢
 have DD : Hid (Nine _ _ _ _ _) := D
 clear D
 go_enter Tryz.func63,Tryz.ntmps63
 go_wp2
 obtain ⟨d0,d1,d2,d3,d4,d5,d6,d7,d8⟩ := DD.out
 refine bodyPost_ret (v := .tuple #[.agg #[.int .i64 11,.int .i64 0,.int .i64 0,.int .i64 0,.int .i64 0,.int .i64 0,.string ⟨#[]⟩,.slice none 0 0,.string ⟨#[]⟩],.bool true]) (by simp [results,go_sem,d0,d1,d2,d3,d4,d5,d6,d7,d8]) rfl ⟨rfl,kz⟩
theorem named_no (w : World) (a1 : Int) (a2 a3 a4 a5 a6 : Int) (a7 : ByteArray) (a8 : List Att) (a9 : ByteArray) (p1 : Option Addr) (p2 p3 : Nat) (n1 : (a1 == 1) = false) (n2 : (a1 == 2) = false) (n3 : (a1 == 3) = false) (n4 : (a1 == 4) = false) (n5 : (a1 == 5) = false) (n6 : (a1 == 6) = false) (n7 : (a1 == 7) = false) (n8 : (a1 == 8) = false) (n9 : (a1 == 9) = false) (n10 : (a1 == 10) = false) (n11 : (a1 == 11) = false) :
  Calls Tryz.prog 63 #[ov ⟨a1,a2,a3,a4,a5,a6,a7,a8,a9⟩ (p1,p2,p3)] w fun e w' => e = .returned (.tuple #[.agg #[.int .i64 0,.int .i64 0,.int .i64 0,.int .i64 0,.int .i64 0,.int .i64 0,.string ⟨#[]⟩,.slice none 0 0,.string ⟨#[]⟩],.bool false]) ∧ Kp [] w w' := by
 obtain ⟨D,kz⟩ := two_new w (oc ⟨a1,a2,a3,a4,a5,a6,a7,a8,a9⟩ (p1,p2,p3)) ⟨0,0,0,0,0,0,⟨#[]⟩,[],⟨#[]⟩⟩ (none,0,0)
 simp only [oc,ov] at D kz ⊢
 have DD : Hid (Nine _ _ _ _ _) := D
 clear D
 go_enter Tryz.func63,Tryz.ntmps63
 go_wp2
 obtain ⟨d0,d1,d2,d3,d4,d5,d6,d7,d8⟩ := DD.out
 refine bodyPost_ret (v := .tuple #[.agg #[.int .i64 0,.int .i64 0,.int .i64 0,.int .i64 0,.int .i64 0,.int .i64 0,.string ⟨#[]⟩,.slice none 0 0,.string ⟨#[]⟩],.bool false]) (by simp [results,go_sem,d0,d1,d2,d3,d4,d5,d6,d7,d8]) rfl ⟨rfl,kz⟩
theorem named_any (w : World) (o : Ot) (p : Sl) :
  Calls Tryz.prog 63 #[ov o p] w fun e w' => e = .returned (.tuple #[ov (onlyO o) (onlyP o p),.bool (kk o.kd)]) ∧ Kp [] w w' := by
 obtain ⟨a1,a2,a3,a4,a5,a6,a7,a8,a9⟩ := o
 obtain ⟨p1,p2,p3⟩ := p
 by_cases hk : 1 ≤ a1 ∧ a1 ≤ 11
 ·obtain rfl | rfl | rfl | rfl | rfl | rfl | rfl | rfl | rfl | rfl | rfl : a1 = 1 ∨ a1 = 2 ∨ a1 = 3 ∨ a1 = 4 ∨ a1 = 5 ∨ a1 = 6 ∨ a1 = 7 ∨ a1 = 8 ∨ a1 = 9 ∨ a1 = 10 ∨ a1 = 11 := by omega
  ·exact named_1 w a2 a3 a4 a5 a6 a7 a8 a9 p1 p2 p3
  ·exact named_2 w a2 a3 a4 a5 a6 a7 a8 a9 p1 p2 p3
  ·exact named_3 w a2 a3 a4 a5 a6 a7 a8 a9 p1 p2 p3
  ·exact named_4 w a2 a3 a4 a5 a6 a7 a8 a9 p1 p2 p3
  ·exact named_5 w a2 a3 a4 a5 a6 a7 a8 a9 p1 p2 p3
  ·exact named_6 w a2 a3 a4 a5 a6 a7 a8 a9 p1 p2 p3
  ·exact named_7 w a2 a3 a4 a5 a6 a7 a8 a9 p1 p2 p3
  ·exact named_8 w a2 a3 a4 a5 a6 a7 a8 a9 p1 p2 p3
  ·exact named_9 w a2 a3 a4 a5 a6 a7 a8 a9 p1 p2 p3
  ·exact named_10 w a2 a3 a4 a5 a6 a7 a8 a9 p1 p2 p3
  ·exact named_11 w a2 a3 a4 a5 a6 a7 a8 a9 p1 p2 p3
 ·have hn : ∀ k : Int,1 ≤ k → k ≤ 11 → (a1 == k) = false := fun k h1 h2 => by simp; omega
  have e1 : onlyO ⟨a1,a2,a3,a4,a5,a6,a7,a8,a9⟩ = ⟨0,0,0,0,0,0,e0,[],e0⟩ := by
   unfold onlyO
   simp only
   repeat rw [if_neg (by omega)]
  have e2 : onlyP ⟨a1,a2,a3,a4,a5,a6,a7,a8,a9⟩ (p1,p2,p3) = (none,0,0) := by
   unfold onlyP
   simp only
   rw [if_neg (by omega)]
  have e3 : kk a1 = false := by
   unfold kk
   simp
   omega
  rw [e1,e2]
  simp only [e3]
  exact named_no w a1 a2 a3 a4 a5 a6 a7 a8 a9 p1 p2 p3 (hn 1 (by omega) (by omega)) (hn 2 (by omega) (by omega)) (hn 3 (by omega) (by omega)) (hn 4 (by omega) (by omega)) (hn 5 (by omega) (by omega)) (hn 6 (by omega) (by omega)) (hn 7 (by omega) (by omega)) (hn 8 (by omega) (by omega)) (hn 9 (by omega) (by omega)) (hn 10 (by omega) (by omega)) (hn 11 (by omega) (by omega))
end Go.Proofs.YtpkppobkagdhkaaGreat
namespace Go.Proofs.YtpkppobkagdhkaaGreat
open Go.RowKit Go.Maps Utf
abbrev Dp := (Option Addr × Nat × Nat) × (Option Addr × Nat × Nat)
def dl (l : Lb) (up : Int) (p : Dp) : List Value := [.int .i64 l.kind,.int .i64 l.ns,.string l.name,.string l.text,.slice p.1.1 p.1.2.1 p.1.2.2,.slice p.2.1 p.2.2.1 p.2.2.2,.int .i64 up]
theorem dl_len (l : Lb) (up : Int) (p : Dp) : (dl l up p).length = 7 := rfl
abbrev Q5 (tag : Nat → Nat) : Nat → Prop := fun x => tag x = 5
structure Dd (tag : Nat → Nat) (w : World) (d g o c : Nat) (q : Bool) (A : Ar) (pl : Nat → Dp) : Prop where
 hd : At w d #[.slice (some ⟨g,o,none⟩) A.n c,.bool q] 69
 td : tag d = 3
 cap : A.n ≤ c
 max : c ≤ maxLen
 body : ∃ cur,At w g cur 106 ∧ o + c * 7 ≤ cur.size ∧ ∀ i,i < A.n → ∀ k,k < 7 → cur[o + i * 7 + k]? = (dl (A.lb i) (Ar.upI (A.up i)) (pl i))[k]?
 tg : tag g = 4
 att : ∀ i,i < A.n → Rk (Q5 tag) 2 w (pl i).1.1 (pl i).1.2.1 (pl i).1.2.2 (cs (A.lb i).attrs)
 kid : ∀ i,i < A.n → Rk (Q5 tag) 1 w (pl i).2.1 (pl i).2.2.1 (pl i).2.2.2 (iv (A.kids i))
 kf : ∀ i,i < A.n → (pl i).2 = (none,0,0) ∨ ∃ b7 o7,(pl i).2.1 = some ⟨b7,o7,none⟩
section
variable {tag : Nat → Nat} {w : World} {d g o c : Nat} {q : Bool} {A : Ar} {pl : Nat → Dp}
theorem Dd.ne (h : Dd tag w d g o c q A pl) : d ≠ g := fun e => by
 have h1 := h.td
 rw [e,h.tg] at h1
 cases h1
theorem Dd.lt (h : Dd tag w d g o c q A pl) : d < w.heap.size ∧ g < w.heap.size := by
 obtain ⟨cur,h1,_⟩ := h.body
 exact ⟨h.hd.lt,h1.lt⟩
theorem Dd.sm {tag' : Nat → Nat} {w' : World} (h : Dd tag w d g o c q A pl) (hb : ∀ x,x < w.heap.size → tag x = 3 ∨ tag x = 4 ∨ tag x = 5 → w'.heap[x]? = w.heap[x]?) (ht : ∀ x,x < w.heap.size → tag' x = tag x) : Dd tag' w' d g o c q A pl := by
 obtain ⟨ld,lg⟩ := h.lt
 obtain ⟨cur,h1,h2,h3⟩ := h.body
 have hs : Sm (Q5 tag) w w' := fun x hq hx => hb x hx (.inr (.inr hq))
 have hm : ∀ {K ao n c xs},Rk (Q5 tag) K w ao n c xs → Rk (Q5 tag') K w' ao n c xs := fun {K ao n c xs} r => by
  refine ⟨r.len,r.cap,fun hn => ?_⟩
  obtain ⟨b,off,cur,t,hq,e1,e2,e3⟩ := r.at' hn
  have hl := lt_of e2
  exact ⟨b,off,cur,t,(ht b hl).trans hq,e1,by rw [hs b hq hl]; exact e2,e3⟩
 refine ⟨?_,by rw [ht d ld]; exact h.td,h.cap,h.max,⟨cur,?_,h2,h3⟩,by rw [ht g lg]; exact h.tg,fun i hi => hm (h.att i hi),fun i hi => hm (h.kid i hi),h.kf⟩
 ·unfold At; rw [hb d ld (.inl h.td)]; exact h.hd
 ·unfold At; rw [hb g lg (.inr (.inl h.tg))]; exact h1
theorem Dd.kept {w' : World} (h : Dd tag w d g o c q A pl) (k : Kp [] w w') : Dd tag w' d g o c q A pl := h.sm (fun x hx _ => k.block x hx (by simp)) (fun _ _ => rfl)
theorem Dd.head (h : Dd tag w d g o c q A pl) : w.cell? ⟨d,0,none⟩ = some (.slice (some ⟨g,o,none⟩) A.n c) ∧ w.cell? ⟨d,1,none⟩ = some (.bool q) := ⟨h.hd.cell 0,h.hd.cell 1⟩
theorem Dd.at (h : Dd tag w d g o c q A pl) {i : Nat} (hi : i < A.n) {k : Nat} (hk : k < 7) : w.cell? ⟨g,o + i * 7 + k,none⟩ = (dl (A.lb i) (Ar.upI (A.up i)) (pl i))[k]? := by
 obtain ⟨cur,h1,h2,h3⟩ := h.body
 rw [h1.cell,h3 i hi k hk]
theorem Dd.seven (h : Dd tag w d g o c q A pl) {i : Nat} (hi : i < A.n) : w.cell? ⟨g,o + i * 7,none⟩ = some (.int .i64 (A.lb i).kind) ∧ w.cell? ⟨g,o + i * 7 + 1,none⟩ = some (.int .i64 (A.lb i).ns) ∧ w.cell? ⟨g,o + i * 7 + 2,none⟩ = some (.string (A.lb i).name) ∧ w.cell? ⟨g,o + i * 7 + 3,none⟩ = some (.string (A.lb i).text) ∧ w.cell? ⟨g,o + i * 7 + 4,none⟩ = some (.slice (pl i).1.1 (pl i).1.2.1 (pl i).1.2.2) ∧ w.cell? ⟨g,o + i * 7 + 5,none⟩ = some (.slice (pl i).2.1 (pl i).2.2.1 (pl i).2.2.2) ∧ w.cell? ⟨g,o + i * 7 + 6,none⟩ = some (.int .i64 (Ar.upI (A.up i))) :=
 ⟨h.at hi (k := 0) (by omega),h.at hi (k := 1) (by omega),h.at hi (k := 2) (by omega),h.at hi (k := 3) (by omega),h.at hi (k := 4) (by omega),h.at hi (k := 5) (by omega),h.at hi (k := 6) (by omega)⟩
theorem Dd.free (h : Dd tag w d g o c q A pl) (j : Nat) : w.frozen? ⟨g,j,none⟩ = false := by
 obtain ⟨cur,h1,h2,h3⟩ := h.body
 exact h1.free j
theorem Dd.klen (h : Dd tag w d g o c q A pl) {i : Nat} (hi : i < A.n) : (pl i).2.2.1 = (A.kids i).length := by
 have := (h.kid i hi).len
 rw [iv_len] at this
 omega
theorem Rk.iv_at {Q : Nat → Prop} {ao : Option Addr} {n c : Nat} {l : List Nat} (h : Rk Q 1 w ao n c (iv l)) (k : Nat) (hk : k < l.length) : ∃ b off,ao = some ⟨b,off,none⟩ ∧ w.cell? ⟨b,off + k,none⟩ = some (.int .i64 (l[k] : Int)) := by
 have hl := h.len
 rw [iv_len] at hl
 obtain ⟨b,off,cur,t,_,e1,e2,e3⟩ := h.at' (by omega)
 refine ⟨b,off,e1,?_⟩
 rw [cell_of e2,e3 k (by omega)]
 simp [iv,hk]
theorem rthere_any (h : Dd tag w d g o c q A pl) (z : Int) :
  Calls Tryz.prog 92 #[.pointer (some ⟨d,0,none⟩),.int .i64 z] w fun e w' => e = .returned (.bool (A.there z)) ∧ w' = w := by
 obtain ⟨c0,_⟩ := h.head
 clear h
 rw [there_dec]
 by_cases h1 : 0 ≤ z
 ·by_cases h2 : z < A.n
  ·rw [decide_eq_true ⟨h1,h2⟩]
   go_enter Tryz.func92,Tryz.ntmps92
   go_wp2
   go_ret
   exact ⟨rfl,rfl⟩
  ·rw [decide_eq_false (fun e => h2 e.2)]
   go_enter Tryz.func92,Tryz.ntmps92
   go_wp2
   go_ret
   exact ⟨rfl,rfl⟩
 ·rw [decide_eq_false (fun e => h1 e.1)]
  go_enter Tryz.func92,Tryz.ntmps92
  go_wp2
  go_ret
  exact ⟨rfl,rfl⟩
theorem rholds_any (h : Dd tag w d g o c q A pl) (x : Nat) (hx : x < A.n) :
  Calls Tryz.prog 93 #[.pointer (some ⟨d,0,none⟩),.int .i64 (x : Int)] w fun e w' => e = .returned (.bool (Ar.hld (A.lb x))) ∧ w' = w := by
 obtain ⟨c0,_⟩ := h.head
 obtain ⟨s0,_⟩ := h.seven hx
 have j1 : (0 : Int) ≤ (x : Int) := by omega
 have j2 : (x : Int) < (A.n : Int) := by omega
 clear h
 unfold Ar.hld
 generalize (A.lb x).kind = kd at s0 ⊢
 by_cases e1 : kd = 1
 ·subst e1
  go_enter Tryz.func93,Tryz.ntmps93
  go_wp2
  go_ret
  exact ⟨rfl,rfl⟩
 by_cases e3 : kd = 3
 ·subst e3
  go_enter Tryz.func93,Tryz.ntmps93
  go_wp2
  go_ret
  exact ⟨rfl,rfl⟩
 by_cases e6 : kd = 6
 ·subst e6
  go_enter Tryz.func93,Tryz.ntmps93
  go_wp2
  go_ret
  exact ⟨rfl,rfl⟩
 rw [decide_eq_false e1,decide_eq_false e3,decide_eq_false e6]
 have b1 : (kd == 1) = false := beq_false_of_ne e1
 have b3 : (kd == 3) = false := beq_false_of_ne e3
 have b6 : (kd == 6) = false := beq_false_of_ne e6
 go_enter Tryz.func93,Tryz.ntmps93
 go_wp2
 go_ret
 exact ⟨rfl,rfl⟩
theorem rfixed_any (h : Dd tag w d g o c q A pl) (x : Nat) (hx : x < A.n) :
  Calls Tryz.prog 94 #[.pointer (some ⟨d,0,none⟩),.int .i64 (x : Int)] w fun e w' => e = .returned (.bool (Ar.fix (A.lb x))) ∧ w' = w := by
 obtain ⟨c0,_⟩ := h.head
 obtain ⟨s0,_⟩ := h.seven hx
 have j1 : (0 : Int) ≤ (x : Int) := by omega
 have j2 : (x : Int) < (A.n : Int) := by omega
 clear h
 unfold Ar.fix
 generalize (A.lb x).kind = kd at s0 ⊢
 by_cases e1 : kd = 1
 ·subst e1
  go_enter Tryz.func94,Tryz.ntmps94
  go_wp2
  go_ret
  exact ⟨rfl,rfl⟩
 by_cases e6 : kd = 6
 ·subst e6
  go_enter Tryz.func94,Tryz.ntmps94
  go_wp2
  go_ret
  exact ⟨rfl,rfl⟩
 rw [decide_eq_false e1,decide_eq_false e6]
 have b1 : (kd == 1) = false := beq_false_of_ne e1
 have b6 : (kd == 6) = false := beq_false_of_ne e6
 go_enter Tryz.func94,Tryz.ntmps94
 go_wp2
 go_ret
 exact ⟨rfl,rfl⟩
end
section
variable {tag : Nat → Nat} {w : World} {d g o c : Nat} {q : Bool} {A : Ar} {pl : Nat → Dp}
theorem rwithin_any (h : Dd tag w d g o c q A pl) (ok : A.Ok) (x t : Nat) (hx : x < A.n) :
  Calls Tryz.prog 95 #[.pointer (some ⟨d,0,none⟩),.int .i64 (x : Int),.int .i64 (t : Int)] w fun e w' => e = .returned (.bool (A.wn x t)) ∧ w' = w := by
 obtain ⟨c0,_⟩ := h.head
 obtain ⟨R,hR⟩ : ∃ R,A.wn x t = R := ⟨_,rfl⟩
 have HR : Hid (A.Wn x t ↔ R = true) := by rw [← hR]; exact (Ar.wn_iff ok hx).symm
 rw [hR]
 have HU : Hid (∀ i,i < A.n → w.cell? ⟨g,o + i * 7 + 6,none⟩ = some (.int .i64 (Ar.upI (A.up i)))) := fun i hi => (h.seven hi).2.2.2.2.2.2
 have ok' := ok
 obtain ⟨r,hr⟩ := ok'.rank
 obtain ⟨μ,hμ1,hμ2⟩ : ∃ μ : Int → Nat,μ (-1) = 0 ∧ ∀ k : Nat,μ (k : Int) = r k + 1 := ⟨fun z => if z < 0 then 0 else r z.toNat + 1,by simp,fun k => by simp only []; rw [if_neg (by omega),Int.toNat_natCast]⟩
 have HM1 : Hid (μ (-1) = 0) := hμ1
 have HM2 : Hid (∀ k : Nat,μ (k : Int) = r k + 1) := hμ2
 clear hμ1 hμ2
 clear h hR
 go_enter Tryz.func95,Tryz.ntmps95
 go_wp2_with fail
 go_loopw [1] (fun z wr => wr = w ∧ ((z = .int .i64 (-1) ∧ R = false) ∨ ∃ cur : Nat,z = .int .i64 (cur : Int) ∧ cur < A.n ∧ (R = true ↔ A.Wn cur t))) (fun z _ => μ (intOf z))
 case atStart => exact ⟨rfl,.inr ⟨x,rfl,hx,HR.out.symm⟩⟩
 case round =>
  obtain ⟨hw,hz⟩ := hrel
  obtain rfl : wr = w := hw
  rcases hz with ⟨rfl,rfl⟩ | ⟨cur,rfl,hc,hW⟩
  ·clear HU HR
   go_wp2
   go_ret
   exact ⟨rfl,rfl⟩
  ·have j1 : (0 : Int) ≤ (cur : Int) := by omega
   have j2 : (cur : Int) < (A.n : Int) := by omega
   by_cases hct : cur = t
   ·subst hct
    obtain rfl : R = true := hW.2 (Ar.Wn.refl A cur)
    clear HU HR hW
    go_wp2
    go_ret
    exact ⟨rfl,rfl⟩
   ·have t1 : ((cur : Int) == (t : Int)) = false := beq_false_of_ne (by omega)
    have d1 := HU.out cur hc
    cases hu : A.up cur with
    | none =>
      rw [hu,show Ar.upI none = -1 from rfl] at d1
      have hR0 : Hid (R = false) := by
       cases R with
       | false => rfl
       | true => exact absurd ((Ar.Wn.none hu).1 (hW.1 rfl)) hct
      clear HU HR hW hu
      go_wp2
      go_roundw
      case rel => exact ⟨trivial,.inl ⟨rfl,hR0.out⟩⟩
      case measure => show μ (-1) < μ (cur : Int); rw [HM1.out,HM2.out]; omega
    | some p =>
      rw [hu,show Ar.upI (some p) = (p : Int) from rfl] at d1
      have hW2 : Hid (R = true ↔ A.Wn p t) := hW.trans ((Ar.Wn.some hu).trans ⟨fun h => h.resolve_left hct,.inr⟩)
      have hrp : Hid (r p < r cur ∧ p < A.n) := ⟨hr cur p hu,(ok.lt hu).2⟩
      clear HU HR hW hu
      go_wp2
      go_roundw
      case rel => exact ⟨trivial,.inr ⟨p,rfl,hrp.out.2,hW2.out⟩⟩
      case measure => show μ (p : Int) < μ (cur : Int); rw [HM2.out,HM2.out]; have := hrp.out.1; omega
theorem rplace_any (h : Dd tag w d g o c q A pl) (ok : A.Ok) (hn : A.n < 50000) (x p : Nat) (hu : A.up x = some p) :
  Calls Tryz.prog 97 #[.pointer (some ⟨d,0,none⟩),.int .i64 (x : Int)] w fun e w' => e = .returned (.int .i64 (A.place p x : Int)) ∧ Kp [] w w' := by
 obtain ⟨hx,hp⟩ := ok.lt hu
 obtain ⟨m1,m2⟩ := Ar.place_lt ok hu
 have kl := h.klen hp
 have hb : (A.kids p).length ≤ A.n := Ar.pig _ _ (ok.one p) (fun y hy => (ok.kid_lt hy).1)
 have HK : Hid (∀ i (hi : i < (A.kids p).length) V,Kp [] w V → ∃ b7 o7,(pl p).2.1 = some ⟨b7,o7,none⟩ ∧ V.cell? ⟨b7,o7 + i,none⟩ = some (.int .i64 ((A.kids p)[i] : Int))) := fun i hi V kV => ((h.kept kV).kid p hp).iv_at i hi
 have HPl : Hid (∀ i (hi : i < (A.kids p).length),(A.kids p)[i] = x → i = A.place p x) := fun i hi e => by rw [← e]; exact (Ar.place_at ok hi).symm
 have HPx : Hid ((A.kids p)[A.place p x]? = some x) := m2
 have hS1 : (World.drew w).cell? ⟨d,0,none⟩ = some (.slice (some ⟨g,o,none⟩) A.n c) ∧ (World.drew w).cell? ⟨g,o + x * 7 + 6,none⟩ = some (.int .i64 (p : Int)) ∧ (World.drew w).cell? ⟨g,o + p * 7 + 5,none⟩ = some (.slice (pl p).2.1 (pl p).2.2.1 (pl p).2.2.2) := by
  have e6 := (h.seven hx).2.2.2.2.2.2
  rw [hu] at e6
  exact ⟨h.head.1,e6,(h.seven hp).2.2.2.2.2.1⟩
 have j1 : (0 : Int) ≤ (x : Int) := by omega
 have j2 : (x : Int) < (A.n : Int) := by omega
 have j3 : (0 : Int) ≤ (p : Int) := by omega
 have j4 : (p : Int) < (A.n : Int) := by omega
 rw [kl] at hS1
 generalize (pl p).2.1 = ko at HK hS1
 generalize (pl p).2.2.2 = kc at hS1
 clear h kl
 generalize A.place p x = m at *
 generalize A.kids p = ks at *
 go_enter Tryz.func97,Tryz.ntmps97
 go_wp2_with fail
 refine wp_region_g (S := fun V => V.cell? ⟨d,0,none⟩ = some (.slice (some ⟨g,o,none⟩) A.n c) ∧ V.cell? ⟨g,o + x * 7 + 6,none⟩ = some (.int .i64 (p : Int)) ∧ V.cell? ⟨g,o + p * 7 + 5,none⟩ = some (.slice ko ks.length kc)) (T := []) (by kernel_rfl) hS1 (fun hHeld => ?_)
 refine g_pure 0 (some 7) (.move (.tmp 0)) ?_
 refine g_pure 1 (some 8) (.nilCheck (.tmp 7)) ?_
 refine g_pure 2 (some 9) (.fieldAddr 69 (.tmp 8) 0) ?_
 refine g_take 3 (some 10) (.load 67 (.tmp 9)) (by intro w hSw; (obtain ⟨q1,q2,q3⟩ := hSw); go_simp; try with_reducible rfl) ?_
 refine g_pure 4 (some 11) (.move (.tmp 0)) ?_
 refine g_pure 5 (some 12) (.nilCheck (.tmp 11)) ?_
 refine g_pure 6 (some 13) (.fieldAddr 69 (.tmp 12) 0) ?_
 refine g_take 7 (some 14) (.load 67 (.tmp 13)) (by intro w hSw; (obtain ⟨q1,q2,q3⟩ := hSw); go_simp; try with_reducible rfl) ?_
 refine g_pure 8 (some 15) (.move (.tmp 1)) ?_
 refine g_pure 9 (some 16) (.indexAddr 67 (.tmp 14) (.tmp 15)) ?_
 refine g_pure 10 (some 17) (.fieldAddr 106 (.tmp 16) 6) ?_
 refine g_take 11 (some 18) (.load 3 (.tmp 17)) (by intro w hSw; (obtain ⟨q1,q2,q3⟩ := hSw); go_simp; try with_reducible rfl) ?_
 refine g_pure 12 (some 19) (.indexAddr 67 (.tmp 10) (.tmp 18)) ?_
 refine g_pure 13 (some 20) (.fieldAddr 106 (.tmp 19) 5) ?_
 refine g_take 14 (some 21) (.load 61 (.tmp 20)) (by intro w hSw; (obtain ⟨q1,q2,q3⟩ := hSw); go_simp; try with_reducible rfl) ?_
 refine g_pure 15 (some 5) (.assign (.tmp 21)) ?_
 refine wpAnyG_free (by kernel_rfl) ?_
 refine wpAny_done (by kernel_rfl) ?_ _
 clear hS1
 go_wp2_with fail
 go_loopw [6] (fun z wr => ∃ i : Nat,z = .int .i64 (i : Int) ∧ i ≤ m ∧ Kp [] w wr) (fun z _ => m - (intOf z).toNat)
 case atStart => exact ⟨0,rfl,Nat.zero_le _,(Kp.refl _ _).drew⟩
 case round =>
  obtain ⟨i,rfl,hi,kr⟩ := hrel
  have hik : i < ks.length := by omega
  obtain ⟨b7,o7,rfl,hc7⟩ := HK.out i hik wr kr
  have i1 : (0 : Int) ≤ (i : Int) := by omega
  have i2 : (i : Int) < (ks.length : Int) := by omega
  have b1 : decide ((i : Int) < (ks.length : Int)) = true := decide_eq_true i2
  by_cases e : ks[i] = x
  ·obtain rfl : i = m := HPl.out i hik e
   rw [e] at hc7
   clear HK HPl HPx
   go_wp2
   go_ret
   exact ⟨rfl,kr⟩
  ·have him : i < m := by
    rcases Nat.lt_or_ge i m with h1 | h1
    ·exact h1
    ·obtain rfl : i = m := by omega
     have := HPx.out
     rw [List.getElem?_eq_getElem hik] at this
     exact absurd (Option.some.inj this) e
   have b2 : ((ks[i] : Int) == (x : Int)) = false := beq_false_of_ne (by omega)
   generalize ks[i] = y at hc7 b2 e
   clear HK HPl HPx
   go_wp2
   go_roundw
   case rel => exact ⟨i + 1,by go_num,by omega,kr⟩
   case measure => simp [intOf]; omega
end
end Go.Proofs.YtpkppobkagdhkaaGreat
