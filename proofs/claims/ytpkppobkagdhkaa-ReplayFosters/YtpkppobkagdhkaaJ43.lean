/-
  Joined: Rtc.
-/
import Derived.Test.YtpkppobkagdhkaaJ19

/-
  The program's named.
-/
namespace Go.Proofs.Ytpkppobkagdhkaa
open Go.RowKit
set_option linter.unusedVariables false
set_option linter.unusedSimpArgs false

/-- Where the attributes of what a Kind names alone lie. -/
def onlyP (o : Ot) (p : Sl) : Sl := if o.kd = 1 ∨ o.kd = 10 then p else (none, 0, 0)

theorem only_at {w : World} {o : Ot} {p : Sl} (h : Ap w (o, p)) : Ap w (onlyO o, onlyP o p) := by
  unfold Ap onlyP
  by_cases h1 : o.kd = 1 ∨ o.kd = 10
  · rw [if_pos h1]
    have e : (onlyO o).al = o.al := by
      unfold onlyO
      rcases h1 with h1 | h1 <;> simp [h1]
    rw [e]
    exact h
  · rw [if_neg h1]
    have e : (onlyO o).al = [] := by
      unfold onlyO
      split
      · omega
      · repeat' split
        all_goals first | rfl | omega
    rw [e]
    exact ⟨rfl, Nat.le_refl _, fun j hj => by simp at hj⟩

theorem onlyP_le {o : Ot} {p : Sl} {m : Nat} (h : p.2.1 ≤ m) : (onlyP o p).2.1 ≤ m := by
  unfold onlyP
  split
  · exact h
  · exact Nat.zero_le _

/-- Two blocks, the second one an operation's. -/
theorem two_new (w : World) (c : Array Value) (o : Ot) (p : Sl) : Nine ((w.alloc (.cells c 25)).alloc (.cells (oc o p) 25)) (w.heap.size + 1) 0 o p ∧ Kp [] w ((w.alloc (.cells c 25)).alloc (.cells (oc o p) 25)) :=
  ⟨nine_of (heap_new' _ _ _ (by simp)), ((Kp.refl _ _).alloc _).alloc _⟩

set_option maxRecDepth 100000 in
set_option maxHeartbeats 1000000 in
theorem named_1 (w : World) (a2 a3 a4 a5 a6 : Int) (a7 : ByteArray) (a8 : List Att) (a9 : ByteArray) (p1 : Option Addr) (p2 p3 : Nat) :
    Calls Try.prog 22 #[ov ⟨1, a2, a3, a4, a5, a6, a7, a8, a9⟩ (p1, p2, p3)] w fun e w' => e = .returned (.tuple #[.agg #[.int .i64 1, .int .i64 a2, .int .i64 0, .int .i64 0, .int .i64 a5, .int .i64 a6, .string a7, .slice p1 p2 p3, .string a9], .bool true]) ∧ Kp [] w w' := by
  obtain ⟨D, kz⟩ := two_new w (oc ⟨1, a2, a3, a4, a5, a6, a7, a8, a9⟩ (p1, p2, p3)) ⟨1, a2, 0, 0, a5, a6, a7, a8, a9⟩ (p1, p2, p3)
  simp only [oc, ov] at D kz ⊢
  have DD : Hid (Nine _ _ _ _ _) := D
  clear D
  go_enter Try.func22, Try.ntmps22
  go_wp2
  obtain ⟨d0, d1, d2, d3, d4, d5, d6, d7, d8⟩ := DD.out
  refine bodyPost_ret (v := .tuple #[.agg #[.int .i64 1, .int .i64 a2, .int .i64 0, .int .i64 0, .int .i64 a5, .int .i64 a6, .string a7, .slice p1 p2 p3, .string a9], .bool true]) (by simp [results, go_sem, d0, d1, d2, d3, d4, d5, d6, d7, d8]) rfl ⟨rfl, kz⟩

set_option maxRecDepth 100000 in
set_option maxHeartbeats 1000000 in
theorem named_2 (w : World) (a2 a3 a4 a5 a6 : Int) (a7 : ByteArray) (a8 : List Att) (a9 : ByteArray) (p1 : Option Addr) (p2 p3 : Nat) :
    Calls Try.prog 22 #[ov ⟨2, a2, a3, a4, a5, a6, a7, a8, a9⟩ (p1, p2, p3)] w fun e w' => e = .returned (.tuple #[.agg #[.int .i64 2, .int .i64 a2, .int .i64 a3, .int .i64 0, .int .i64 0, .int .i64 0, .string ⟨#[]⟩, .slice none 0 0, .string ⟨#[]⟩], .bool true]) ∧ Kp [] w w' := by
  obtain ⟨D, kz⟩ := two_new w (oc ⟨2, a2, a3, a4, a5, a6, a7, a8, a9⟩ (p1, p2, p3)) ⟨2, a2, a3, 0, 0, 0, ⟨#[]⟩, [], ⟨#[]⟩⟩ (none, 0, 0)
  simp only [oc, ov] at D kz ⊢
  have DD : Hid (Nine _ _ _ _ _) := D
  clear D
  go_enter Try.func22, Try.ntmps22
  go_wp2
  obtain ⟨d0, d1, d2, d3, d4, d5, d6, d7, d8⟩ := DD.out
  refine bodyPost_ret (v := .tuple #[.agg #[.int .i64 2, .int .i64 a2, .int .i64 a3, .int .i64 0, .int .i64 0, .int .i64 0, .string ⟨#[]⟩, .slice none 0 0, .string ⟨#[]⟩], .bool true]) (by simp [results, go_sem, d0, d1, d2, d3, d4, d5, d6, d7, d8]) rfl ⟨rfl, kz⟩

set_option maxRecDepth 100000 in
set_option maxHeartbeats 1000000 in
theorem named_3 (w : World) (a2 a3 a4 a5 a6 : Int) (a7 : ByteArray) (a8 : List Att) (a9 : ByteArray) (p1 : Option Addr) (p2 p3 : Nat) :
    Calls Try.prog 22 #[ov ⟨3, a2, a3, a4, a5, a6, a7, a8, a9⟩ (p1, p2, p3)] w fun e w' => e = .returned (.tuple #[.agg #[.int .i64 3, .int .i64 a2, .int .i64 0, .int .i64 a4, .int .i64 0, .int .i64 0, .string ⟨#[]⟩, .slice none 0 0, .string ⟨#[]⟩], .bool true]) ∧ Kp [] w w' := by
  obtain ⟨D, kz⟩ := two_new w (oc ⟨3, a2, a3, a4, a5, a6, a7, a8, a9⟩ (p1, p2, p3)) ⟨3, a2, 0, a4, 0, 0, ⟨#[]⟩, [], ⟨#[]⟩⟩ (none, 0, 0)
  simp only [oc, ov] at D kz ⊢
  have DD : Hid (Nine _ _ _ _ _) := D
  clear D
  go_enter Try.func22, Try.ntmps22
  go_wp2
  obtain ⟨d0, d1, d2, d3, d4, d5, d6, d7, d8⟩ := DD.out
  refine bodyPost_ret (v := .tuple #[.agg #[.int .i64 3, .int .i64 a2, .int .i64 0, .int .i64 a4, .int .i64 0, .int .i64 0, .string ⟨#[]⟩, .slice none 0 0, .string ⟨#[]⟩], .bool true]) (by simp [results, go_sem, d0, d1, d2, d3, d4, d5, d6, d7, d8]) rfl ⟨rfl, kz⟩

set_option maxRecDepth 100000 in
set_option maxHeartbeats 1000000 in
theorem named_4 (w : World) (a2 a3 a4 a5 a6 : Int) (a7 : ByteArray) (a8 : List Att) (a9 : ByteArray) (p1 : Option Addr) (p2 p3 : Nat) :
    Calls Try.prog 22 #[ov ⟨4, a2, a3, a4, a5, a6, a7, a8, a9⟩ (p1, p2, p3)] w fun e w' => e = .returned (.tuple #[.agg #[.int .i64 4, .int .i64 a2, .int .i64 a3, .int .i64 a4, .int .i64 0, .int .i64 0, .string ⟨#[]⟩, .slice none 0 0, .string ⟨#[]⟩], .bool true]) ∧ Kp [] w w' := by
  obtain ⟨D, kz⟩ := two_new w (oc ⟨4, a2, a3, a4, a5, a6, a7, a8, a9⟩ (p1, p2, p3)) ⟨4, a2, a3, a4, 0, 0, ⟨#[]⟩, [], ⟨#[]⟩⟩ (none, 0, 0)
  simp only [oc, ov] at D kz ⊢
  have DD : Hid (Nine _ _ _ _ _) := D
  clear D
  go_enter Try.func22, Try.ntmps22
  go_wp2
  obtain ⟨d0, d1, d2, d3, d4, d5, d6, d7, d8⟩ := DD.out
  refine bodyPost_ret (v := .tuple #[.agg #[.int .i64 4, .int .i64 a2, .int .i64 a3, .int .i64 a4, .int .i64 0, .int .i64 0, .string ⟨#[]⟩, .slice none 0 0, .string ⟨#[]⟩], .bool true]) (by simp [results, go_sem, d0, d1, d2, d3, d4, d5, d6, d7, d8]) rfl ⟨rfl, kz⟩

set_option maxRecDepth 100000 in
set_option maxHeartbeats 1000000 in
theorem named_5 (w : World) (a2 a3 a4 a5 a6 : Int) (a7 : ByteArray) (a8 : List Att) (a9 : ByteArray) (p1 : Option Addr) (p2 p3 : Nat) :
    Calls Try.prog 22 #[ov ⟨5, a2, a3, a4, a5, a6, a7, a8, a9⟩ (p1, p2, p3)] w fun e w' => e = .returned (.tuple #[.agg #[.int .i64 5, .int .i64 0, .int .i64 a3, .int .i64 0, .int .i64 0, .int .i64 0, .string ⟨#[]⟩, .slice none 0 0, .string a9], .bool true]) ∧ Kp [] w w' := by
  obtain ⟨D, kz⟩ := two_new w (oc ⟨5, a2, a3, a4, a5, a6, a7, a8, a9⟩ (p1, p2, p3)) ⟨5, 0, a3, 0, 0, 0, ⟨#[]⟩, [], a9⟩ (none, 0, 0)
  simp only [oc, ov] at D kz ⊢
  have DD : Hid (Nine _ _ _ _ _) := D
  clear D
  go_enter Try.func22, Try.ntmps22
  go_wp2
  obtain ⟨d0, d1, d2, d3, d4, d5, d6, d7, d8⟩ := DD.out
  refine bodyPost_ret (v := .tuple #[.agg #[.int .i64 5, .int .i64 0, .int .i64 a3, .int .i64 0, .int .i64 0, .int .i64 0, .string ⟨#[]⟩, .slice none 0 0, .string a9], .bool true]) (by simp [results, go_sem, d0, d1, d2, d3, d4, d5, d6, d7, d8]) rfl ⟨rfl, kz⟩

set_option maxRecDepth 100000 in
set_option maxHeartbeats 1000000 in
theorem named_6 (w : World) (a2 a3 a4 a5 a6 : Int) (a7 : ByteArray) (a8 : List Att) (a9 : ByteArray) (p1 : Option Addr) (p2 p3 : Nat) :
    Calls Try.prog 22 #[ov ⟨6, a2, a3, a4, a5, a6, a7, a8, a9⟩ (p1, p2, p3)] w fun e w' => e = .returned (.tuple #[.agg #[.int .i64 6, .int .i64 0, .int .i64 a3, .int .i64 a4, .int .i64 0, .int .i64 0, .string ⟨#[]⟩, .slice none 0 0, .string a9], .bool true]) ∧ Kp [] w w' := by
  obtain ⟨D, kz⟩ := two_new w (oc ⟨6, a2, a3, a4, a5, a6, a7, a8, a9⟩ (p1, p2, p3)) ⟨6, 0, a3, a4, 0, 0, ⟨#[]⟩, [], a9⟩ (none, 0, 0)
  simp only [oc, ov] at D kz ⊢
  have DD : Hid (Nine _ _ _ _ _) := D
  clear D
  go_enter Try.func22, Try.ntmps22
  go_wp2
  obtain ⟨d0, d1, d2, d3, d4, d5, d6, d7, d8⟩ := DD.out
  refine bodyPost_ret (v := .tuple #[.agg #[.int .i64 6, .int .i64 0, .int .i64 a3, .int .i64 a4, .int .i64 0, .int .i64 0, .string ⟨#[]⟩, .slice none 0 0, .string a9], .bool true]) (by simp [results, go_sem, d0, d1, d2, d3, d4, d5, d6, d7, d8]) rfl ⟨rfl, kz⟩

set_option maxRecDepth 100000 in
set_option maxHeartbeats 1000000 in
theorem named_7 (w : World) (a2 a3 a4 a5 a6 : Int) (a7 : ByteArray) (a8 : List Att) (a9 : ByteArray) (p1 : Option Addr) (p2 p3 : Nat) :
    Calls Try.prog 22 #[ov ⟨7, a2, a3, a4, a5, a6, a7, a8, a9⟩ (p1, p2, p3)] w fun e w' => e = .returned (.tuple #[.agg #[.int .i64 7, .int .i64 a2, .int .i64 0, .int .i64 0, .int .i64 0, .int .i64 0, .string ⟨#[]⟩, .slice none 0 0, .string ⟨#[]⟩], .bool true]) ∧ Kp [] w w' := by
  obtain ⟨D, kz⟩ := two_new w (oc ⟨7, a2, a3, a4, a5, a6, a7, a8, a9⟩ (p1, p2, p3)) ⟨7, a2, 0, 0, 0, 0, ⟨#[]⟩, [], ⟨#[]⟩⟩ (none, 0, 0)
  simp only [oc, ov] at D kz ⊢
  have DD : Hid (Nine _ _ _ _ _) := D
  clear D
  go_enter Try.func22, Try.ntmps22
  go_wp2
  obtain ⟨d0, d1, d2, d3, d4, d5, d6, d7, d8⟩ := DD.out
  refine bodyPost_ret (v := .tuple #[.agg #[.int .i64 7, .int .i64 a2, .int .i64 0, .int .i64 0, .int .i64 0, .int .i64 0, .string ⟨#[]⟩, .slice none 0 0, .string ⟨#[]⟩], .bool true]) (by simp [results, go_sem, d0, d1, d2, d3, d4, d5, d6, d7, d8]) rfl ⟨rfl, kz⟩

set_option maxRecDepth 100000 in
set_option maxHeartbeats 1000000 in
theorem named_8 (w : World) (a2 a3 a4 a5 a6 : Int) (a7 : ByteArray) (a8 : List Att) (a9 : ByteArray) (p1 : Option Addr) (p2 p3 : Nat) :
    Calls Try.prog 22 #[ov ⟨8, a2, a3, a4, a5, a6, a7, a8, a9⟩ (p1, p2, p3)] w fun e w' => e = .returned (.tuple #[.agg #[.int .i64 8, .int .i64 0, .int .i64 a3, .int .i64 a4, .int .i64 0, .int .i64 0, .string ⟨#[]⟩, .slice none 0 0, .string ⟨#[]⟩], .bool true]) ∧ Kp [] w w' := by
  obtain ⟨D, kz⟩ := two_new w (oc ⟨8, a2, a3, a4, a5, a6, a7, a8, a9⟩ (p1, p2, p3)) ⟨8, 0, a3, a4, 0, 0, ⟨#[]⟩, [], ⟨#[]⟩⟩ (none, 0, 0)
  simp only [oc, ov] at D kz ⊢
  have DD : Hid (Nine _ _ _ _ _) := D
  clear D
  go_enter Try.func22, Try.ntmps22
  go_wp2
  obtain ⟨d0, d1, d2, d3, d4, d5, d6, d7, d8⟩ := DD.out
  refine bodyPost_ret (v := .tuple #[.agg #[.int .i64 8, .int .i64 0, .int .i64 a3, .int .i64 a4, .int .i64 0, .int .i64 0, .string ⟨#[]⟩, .slice none 0 0, .string ⟨#[]⟩], .bool true]) (by simp [results, go_sem, d0, d1, d2, d3, d4, d5, d6, d7, d8]) rfl ⟨rfl, kz⟩

set_option maxRecDepth 100000 in
set_option maxHeartbeats 1000000 in
theorem named_9 (w : World) (a2 a3 a4 a5 a6 : Int) (a7 : ByteArray) (a8 : List Att) (a9 : ByteArray) (p1 : Option Addr) (p2 p3 : Nat) :
    Calls Try.prog 22 #[ov ⟨9, a2, a3, a4, a5, a6, a7, a8, a9⟩ (p1, p2, p3)] w fun e w' => e = .returned (.tuple #[.agg #[.int .i64 9, .int .i64 a2, .int .i64 0, .int .i64 a4, .int .i64 0, .int .i64 0, .string ⟨#[]⟩, .slice none 0 0, .string ⟨#[]⟩], .bool true]) ∧ Kp [] w w' := by
  obtain ⟨D, kz⟩ := two_new w (oc ⟨9, a2, a3, a4, a5, a6, a7, a8, a9⟩ (p1, p2, p3)) ⟨9, a2, 0, a4, 0, 0, ⟨#[]⟩, [], ⟨#[]⟩⟩ (none, 0, 0)
  simp only [oc, ov] at D kz ⊢
  have DD : Hid (Nine _ _ _ _ _) := D
  clear D
  go_enter Try.func22, Try.ntmps22
  go_wp2
  obtain ⟨d0, d1, d2, d3, d4, d5, d6, d7, d8⟩ := DD.out
  refine bodyPost_ret (v := .tuple #[.agg #[.int .i64 9, .int .i64 a2, .int .i64 0, .int .i64 a4, .int .i64 0, .int .i64 0, .string ⟨#[]⟩, .slice none 0 0, .string ⟨#[]⟩], .bool true]) (by simp [results, go_sem, d0, d1, d2, d3, d4, d5, d6, d7, d8]) rfl ⟨rfl, kz⟩

set_option maxRecDepth 100000 in
set_option maxHeartbeats 1000000 in
theorem named_10 (w : World) (a2 a3 a4 a5 a6 : Int) (a7 : ByteArray) (a8 : List Att) (a9 : ByteArray) (p1 : Option Addr) (p2 p3 : Nat) :
    Calls Try.prog 22 #[ov ⟨10, a2, a3, a4, a5, a6, a7, a8, a9⟩ (p1, p2, p3)] w fun e w' => e = .returned (.tuple #[.agg #[.int .i64 10, .int .i64 a2, .int .i64 0, .int .i64 0, .int .i64 0, .int .i64 0, .string ⟨#[]⟩, .slice p1 p2 p3, .string ⟨#[]⟩], .bool true]) ∧ Kp [] w w' := by
  obtain ⟨D, kz⟩ := two_new w (oc ⟨10, a2, a3, a4, a5, a6, a7, a8, a9⟩ (p1, p2, p3)) ⟨10, a2, 0, 0, 0, 0, ⟨#[]⟩, a8, ⟨#[]⟩⟩ (p1, p2, p3)
  simp only [oc, ov] at D kz ⊢
  have DD : Hid (Nine _ _ _ _ _) := D
  clear D
  go_enter Try.func22, Try.ntmps22
  go_wp2
  obtain ⟨d0, d1, d2, d3, d4, d5, d6, d7, d8⟩ := DD.out
  refine bodyPost_ret (v := .tuple #[.agg #[.int .i64 10, .int .i64 a2, .int .i64 0, .int .i64 0, .int .i64 0, .int .i64 0, .string ⟨#[]⟩, .slice p1 p2 p3, .string ⟨#[]⟩], .bool true]) (by simp [results, go_sem, d0, d1, d2, d3, d4, d5, d6, d7, d8]) rfl ⟨rfl, kz⟩

set_option maxRecDepth 100000 in
set_option maxHeartbeats 1000000 in
theorem named_11 (w : World) (a2 a3 a4 a5 a6 : Int) (a7 : ByteArray) (a8 : List Att) (a9 : ByteArray) (p1 : Option Addr) (p2 p3 : Nat) :
    Calls Try.prog 22 #[ov ⟨11, a2, a3, a4, a5, a6, a7, a8, a9⟩ (p1, p2, p3)] w fun e w' => e = .returned (.tuple #[.agg #[.int .i64 11, .int .i64 0, .int .i64 0, .int .i64 0, .int .i64 0, .int .i64 0, .string ⟨#[]⟩, .slice none 0 0, .string ⟨#[]⟩], .bool true]) ∧ Kp [] w w' := by
  obtain ⟨D, kz⟩ := two_new w (oc ⟨11, a2, a3, a4, a5, a6, a7, a8, a9⟩ (p1, p2, p3)) ⟨11, 0, 0, 0, 0, 0, ⟨#[]⟩, [], ⟨#[]⟩⟩ (none, 0, 0)
  simp only [oc, ov] at D kz ⊢
  have DD : Hid (Nine _ _ _ _ _) := D
  clear D
  go_enter Try.func22, Try.ntmps22
  go_wp2
  obtain ⟨d0, d1, d2, d3, d4, d5, d6, d7, d8⟩ := DD.out
  refine bodyPost_ret (v := .tuple #[.agg #[.int .i64 11, .int .i64 0, .int .i64 0, .int .i64 0, .int .i64 0, .int .i64 0, .string ⟨#[]⟩, .slice none 0 0, .string ⟨#[]⟩], .bool true]) (by simp [results, go_sem, d0, d1, d2, d3, d4, d5, d6, d7, d8]) rfl ⟨rfl, kz⟩

set_option maxRecDepth 100000 in
set_option maxHeartbeats 1000000 in
theorem named_no (w : World) (a1 : Int) (a2 a3 a4 a5 a6 : Int) (a7 : ByteArray) (a8 : List Att) (a9 : ByteArray) (p1 : Option Addr) (p2 p3 : Nat) (n1 : (a1 == 1) = false) (n2 : (a1 == 2) = false) (n3 : (a1 == 3) = false) (n4 : (a1 == 4) = false) (n5 : (a1 == 5) = false) (n6 : (a1 == 6) = false) (n7 : (a1 == 7) = false) (n8 : (a1 == 8) = false) (n9 : (a1 == 9) = false) (n10 : (a1 == 10) = false) (n11 : (a1 == 11) = false) :
    Calls Try.prog 22 #[ov ⟨a1, a2, a3, a4, a5, a6, a7, a8, a9⟩ (p1, p2, p3)] w fun e w' => e = .returned (.tuple #[.agg #[.int .i64 0, .int .i64 0, .int .i64 0, .int .i64 0, .int .i64 0, .int .i64 0, .string ⟨#[]⟩, .slice none 0 0, .string ⟨#[]⟩], .bool false]) ∧ Kp [] w w' := by
  obtain ⟨D, kz⟩ := two_new w (oc ⟨a1, a2, a3, a4, a5, a6, a7, a8, a9⟩ (p1, p2, p3)) ⟨0, 0, 0, 0, 0, 0, ⟨#[]⟩, [], ⟨#[]⟩⟩ (none, 0, 0)
  simp only [oc, ov] at D kz ⊢
  have DD : Hid (Nine _ _ _ _ _) := D
  clear D
  go_enter Try.func22, Try.ntmps22
  go_wp2
  obtain ⟨d0, d1, d2, d3, d4, d5, d6, d7, d8⟩ := DD.out
  refine bodyPost_ret (v := .tuple #[.agg #[.int .i64 0, .int .i64 0, .int .i64 0, .int .i64 0, .int .i64 0, .int .i64 0, .string ⟨#[]⟩, .slice none 0 0, .string ⟨#[]⟩], .bool false]) (by simp [results, go_sem, d0, d1, d2, d3, d4, d5, d6, d7, d8]) rfl ⟨rfl, kz⟩

theorem named_any (w : World) (o : Ot) (p : Sl) :
    Calls Try.prog 22 #[ov o p] w fun e w' => e = .returned (.tuple #[ov (onlyO o) (onlyP o p), .bool (kk o.kd)]) ∧ Kp [] w w' := by
  obtain ⟨a1, a2, a3, a4, a5, a6, a7, a8, a9⟩ := o
  obtain ⟨p1, p2, p3⟩ := p
  by_cases hk : 1 ≤ a1 ∧ a1 ≤ 11
  · obtain rfl | rfl | rfl | rfl | rfl | rfl | rfl | rfl | rfl | rfl | rfl : a1 = 1 ∨ a1 = 2 ∨ a1 = 3 ∨ a1 = 4 ∨ a1 = 5 ∨ a1 = 6 ∨ a1 = 7 ∨ a1 = 8 ∨ a1 = 9 ∨ a1 = 10 ∨ a1 = 11 := by omega
    · exact named_1 w a2 a3 a4 a5 a6 a7 a8 a9 p1 p2 p3
    · exact named_2 w a2 a3 a4 a5 a6 a7 a8 a9 p1 p2 p3
    · exact named_3 w a2 a3 a4 a5 a6 a7 a8 a9 p1 p2 p3
    · exact named_4 w a2 a3 a4 a5 a6 a7 a8 a9 p1 p2 p3
    · exact named_5 w a2 a3 a4 a5 a6 a7 a8 a9 p1 p2 p3
    · exact named_6 w a2 a3 a4 a5 a6 a7 a8 a9 p1 p2 p3
    · exact named_7 w a2 a3 a4 a5 a6 a7 a8 a9 p1 p2 p3
    · exact named_8 w a2 a3 a4 a5 a6 a7 a8 a9 p1 p2 p3
    · exact named_9 w a2 a3 a4 a5 a6 a7 a8 a9 p1 p2 p3
    · exact named_10 w a2 a3 a4 a5 a6 a7 a8 a9 p1 p2 p3
    · exact named_11 w a2 a3 a4 a5 a6 a7 a8 a9 p1 p2 p3
  · have hn : ∀ k : Int, 1 ≤ k → k ≤ 11 → (a1 == k) = false := fun k h1 h2 => by simp; omega
    have e1 : onlyO ⟨a1, a2, a3, a4, a5, a6, a7, a8, a9⟩ = ⟨0, 0, 0, 0, 0, 0, e0, [], e0⟩ := by
      unfold onlyO
      simp only
      repeat rw [if_neg (by omega)]
    have e2 : onlyP ⟨a1, a2, a3, a4, a5, a6, a7, a8, a9⟩ (p1, p2, p3) = (none, 0, 0) := by
      unfold onlyP
      simp only
      rw [if_neg (by omega)]
    have e3 : kk a1 = false := by
      unfold kk
      simp
      omega
    rw [e1, e2]
    simp only [e3]
    exact named_no w a1 a2 a3 a4 a5 a6 a7 a8 a9 p1 p2 p3 (hn 1 (by omega) (by omega)) (hn 2 (by omega) (by omega)) (hn 3 (by omega) (by omega)) (hn 4 (by omega) (by omega)) (hn 5 (by omega) (by omega)) (hn 6 (by omega) (by omega)) (hn 7 (by omega) (by omega)) (hn 8 (by omega) (by omega)) (hn 9 (by omega) (by omega)) (hn 10 (by omega) (by omega)) (hn 11 (by omega) (by omega))

end Go.Proofs.Ytpkppobkagdhkaa
