/-
  The document's Right of a Start or an End: ways that end at the first test.
-/
import Derived.Test.YtgeebmlincddkaaJudge
namespace Go.Proofs.Ytgeebmlincddkaa
open Go.RowKit Utf

set_option maxRecDepth 100000 in
set_option maxHeartbeats 1000000 in
theorem judge2T (w : World) (x y : ByteArray) (b : Bool) (ao : Option Addr) (n c : Nat) (hY : y.toList.isEmpty = false) :
    Calls Try.prog 16 #[tv 2 x ao n c b y] w fun e w' => e = .returned (.bool false) ∧ Kp [] w w' := by
  obtain ⟨W, hW⟩ : ∃ W, W = w.alloc (.cells #[.int .i64 2, .string x, .slice ao n c, .bool b, .string y] 24) := ⟨_, rfl⟩
  have k0 : Kp [] w W := by rw [hW]; exact (Kp.refl _ _).alloc _
  have C1 : Hid (Laid5 W w.heap.size 2 x (.slice ao n c) b y) := by rw [hW]; exact laid5 w 2 x _ b y
  obtain ⟨c0, c1, c2, c3, c4⟩ := C1.out W (Kp.refl _ _)
  clear C1
  unfold tv
  go_enter Try.func16, Try.ntmps16
  go_wp2_with fail
  rw [← hW]
  clear hW
  go_quiet (fail)
  have kz := k0.drewN nq
  clear c0 c1 c2 c3 c4 k0
  go_wp2
  go_ret
  exact ⟨rfl, kz⟩

set_option maxRecDepth 100000 in
set_option maxHeartbeats 1000000 in
theorem judge2E (w : World) (x y : ByteArray) (b : Bool) (ao : Option Addr) (n c : Nat) (hY : y.toList.isEmpty = true) (hX : x.toList.isEmpty = true) :
    Calls Try.prog 16 #[tv 2 x ao n c b y] w fun e w' => e = .returned (.bool false) ∧ Kp [] w w' := by
  obtain ⟨W, hW⟩ : ∃ W, W = w.alloc (.cells #[.int .i64 2, .string x, .slice ao n c, .bool b, .string y] 24) := ⟨_, rfl⟩
  have k0 : Kp [] w W := by rw [hW]; exact (Kp.refl _ _).alloc _
  have C1 : Hid (Laid5 W w.heap.size 2 x (.slice ao n c) b y) := by rw [hW]; exact laid5 w 2 x _ b y
  obtain ⟨c0, c1, c2, c3, c4⟩ := C1.out W (Kp.refl _ _)
  clear C1
  unfold tv
  go_enter Try.func16, Try.ntmps16
  go_wp2_with fail
  rw [← hW]
  clear hW
  go_quiet (fail)
  have kz := k0.drewN nq
  clear c0 c1 c2 c3 c4 k0
  go_wp2
  go_ret
  exact ⟨rfl, kz⟩

set_option maxRecDepth 100000 in
set_option maxHeartbeats 1000000 in
theorem judge2L (w : World) (x y : ByteArray) (b : Bool) (ao : Option Addr) (n c : Nat) (hY : y.toList.isEmpty = true) (hX : x.toList.isEmpty = false) (h0 : 0 < x.size) (hL : isLet (bt x 0) = false) :
    Calls Try.prog 16 #[tv 2 x ao n c b y] w fun e w' => e = .returned (.bool false) ∧ Kp [] w w' := by
  obtain ⟨W, hW⟩ : ∃ W, W = w.alloc (.cells #[.int .i64 2, .string x, .slice ao n c, .bool b, .string y] 24) := ⟨_, rfl⟩
  have k0 : Kp [] w W := by rw [hW]; exact (Kp.refl _ _).alloc _
  have C1 : Hid (Laid5 W w.heap.size 2 x (.slice ao n c) b y) := by rw [hW]; exact laid5 w 2 x _ b y
  obtain ⟨c0, c1, c2, c3, c4⟩ := C1.out W (Kp.refl _ _)
  clear C1
  have ix := index_at x 0 0 rfl h0
  rw [bt_at x 0 h0] at hL
  have l1 : 0 ≤ ((x[0]'h0).toNat : Int) ∧ ((x[0]'h0).toNat : Int) < 256 := by have := (x[0]'h0).toNat_lt; omega
  generalize ((x[0]'h0).toNat : Int) = a at ix l1 hL
  obtain ⟨l1, l2⟩ := l1
  have HL := fun v => ref_letter_any v a
  simp only [hL] at HL
  clear hL h0
  unfold tv
  go_enter Try.func16, Try.ntmps16
  go_wp2_with fail
  rw [← hW]
  clear hW
  go_quiet (first | (go_at_call 30; refine Calls.quiet_of_same (HL _)))
  have kz := k0.drewN nq
  clear c0 c1 c2 c3 c4 k0
  go_wp2
  go_ret
  exact ⟨rfl, kz⟩

set_option maxRecDepth 100000 in
set_option maxHeartbeats 1000000 in
theorem judge3T (w : World) (x y : ByteArray) (b : Bool) (ao : Option Addr) (n c : Nat) (hY : y.toList.isEmpty = false) :
    Calls Try.prog 16 #[tv 3 x ao n c b y] w fun e w' => e = .returned (.bool false) ∧ Kp [] w w' := by
  obtain ⟨W, hW⟩ : ∃ W, W = w.alloc (.cells #[.int .i64 3, .string x, .slice ao n c, .bool b, .string y] 24) := ⟨_, rfl⟩
  have k0 : Kp [] w W := by rw [hW]; exact (Kp.refl _ _).alloc _
  have C1 : Hid (Laid5 W w.heap.size 3 x (.slice ao n c) b y) := by rw [hW]; exact laid5 w 3 x _ b y
  obtain ⟨c0, c1, c2, c3, c4⟩ := C1.out W (Kp.refl _ _)
  clear C1
  unfold tv
  go_enter Try.func16, Try.ntmps16
  go_wp2_with fail
  rw [← hW]
  clear hW
  go_quiet (fail)
  have kz := k0.drewN nq
  clear c0 c1 c2 c3 c4 k0
  go_wp2
  go_ret
  exact ⟨rfl, kz⟩

set_option maxRecDepth 100000 in
set_option maxHeartbeats 1000000 in
theorem judge3S (w : World) (x y : ByteArray) (ao : Option Addr) (n c : Nat) (hY : y.toList.isEmpty = true) :
    Calls Try.prog 16 #[tv 3 x ao n c true y] w fun e w' => e = .returned (.bool false) ∧ Kp [] w w' := by
  obtain ⟨W, hW⟩ : ∃ W, W = w.alloc (.cells #[.int .i64 3, .string x, .slice ao n c, .bool true, .string y] 24) := ⟨_, rfl⟩
  have k0 : Kp [] w W := by rw [hW]; exact (Kp.refl _ _).alloc _
  have C1 : Hid (Laid5 W w.heap.size 3 x (.slice ao n c) true y) := by rw [hW]; exact laid5 w 3 x _ true y
  obtain ⟨c0, c1, c2, c3, c4⟩ := C1.out W (Kp.refl _ _)
  clear C1
  unfold tv
  go_enter Try.func16, Try.ntmps16
  go_wp2_with fail
  rw [← hW]
  clear hW
  go_quiet (fail)
  have kz := k0.drewN nq
  clear c0 c1 c2 c3 c4 k0
  go_wp2
  go_ret
  exact ⟨rfl, kz⟩

set_option maxRecDepth 100000 in
set_option maxHeartbeats 1000000 in
theorem judge3N (w : World) (x y : ByteArray) (ao : Option Addr) (n c : Nat) (hY : y.toList.isEmpty = true) (hE : decide (0 < n) = true) :
    Calls Try.prog 16 #[tv 3 x ao n c false y] w fun e w' => e = .returned (.bool false) ∧ Kp [] w w' := by
  obtain ⟨W, hW⟩ : ∃ W, W = w.alloc (.cells #[.int .i64 3, .string x, .slice ao n c, .bool false, .string y] 24) := ⟨_, rfl⟩
  have k0 : Kp [] w W := by rw [hW]; exact (Kp.refl _ _).alloc _
  have C1 : Hid (Laid5 W w.heap.size 3 x (.slice ao n c) false y) := by rw [hW]; exact laid5 w 3 x _ false y
  obtain ⟨c0, c1, c2, c3, c4⟩ := C1.out W (Kp.refl _ _)
  clear C1
  unfold tv
  go_enter Try.func16, Try.ntmps16
  go_wp2_with fail
  rw [← hW]
  clear hW
  go_quiet (fail)
  have kz := k0.drewN nq
  clear c0 c1 c2 c3 c4 k0
  go_wp2
  go_ret
  exact ⟨rfl, kz⟩

set_option maxRecDepth 100000 in
set_option maxHeartbeats 1000000 in
theorem judge3E (w : World) (x y : ByteArray) (ao : Option Addr) (n c : Nat) (hY : y.toList.isEmpty = true) (hE : decide (0 < n) = false) (hX : x.toList.isEmpty = true) :
    Calls Try.prog 16 #[tv 3 x ao n c false y] w fun e w' => e = .returned (.bool false) ∧ Kp [] w w' := by
  obtain ⟨W, hW⟩ : ∃ W, W = w.alloc (.cells #[.int .i64 3, .string x, .slice ao n c, .bool false, .string y] 24) := ⟨_, rfl⟩
  have k0 : Kp [] w W := by rw [hW]; exact (Kp.refl _ _).alloc _
  have C1 : Hid (Laid5 W w.heap.size 3 x (.slice ao n c) false y) := by rw [hW]; exact laid5 w 3 x _ false y
  obtain ⟨c0, c1, c2, c3, c4⟩ := C1.out W (Kp.refl _ _)
  clear C1
  unfold tv
  go_enter Try.func16, Try.ntmps16
  go_wp2_with fail
  rw [← hW]
  clear hW
  go_quiet (fail)
  have kz := k0.drewN nq
  clear c0 c1 c2 c3 c4 k0
  go_wp2
  go_ret
  exact ⟨rfl, kz⟩

set_option maxRecDepth 100000 in
set_option maxHeartbeats 1000000 in
theorem judge3L (w : World) (x y : ByteArray) (ao : Option Addr) (n c : Nat) (hY : y.toList.isEmpty = true) (hE : decide (0 < n) = false) (hX : x.toList.isEmpty = false) (h0 : 0 < x.size) (hL : isLet (bt x 0) = false) :
    Calls Try.prog 16 #[tv 3 x ao n c false y] w fun e w' => e = .returned (.bool false) ∧ Kp [] w w' := by
  obtain ⟨W, hW⟩ : ∃ W, W = w.alloc (.cells #[.int .i64 3, .string x, .slice ao n c, .bool false, .string y] 24) := ⟨_, rfl⟩
  have k0 : Kp [] w W := by rw [hW]; exact (Kp.refl _ _).alloc _
  have C1 : Hid (Laid5 W w.heap.size 3 x (.slice ao n c) false y) := by rw [hW]; exact laid5 w 3 x _ false y
  obtain ⟨c0, c1, c2, c3, c4⟩ := C1.out W (Kp.refl _ _)
  clear C1
  have ix := index_at x 0 0 rfl h0
  rw [bt_at x 0 h0] at hL
  have l1 : 0 ≤ ((x[0]'h0).toNat : Int) ∧ ((x[0]'h0).toNat : Int) < 256 := by have := (x[0]'h0).toNat_lt; omega
  generalize ((x[0]'h0).toNat : Int) = a at ix l1 hL
  obtain ⟨l1, l2⟩ := l1
  have HL := fun v => ref_letter_any v a
  simp only [hL] at HL
  clear hL h0
  unfold tv
  go_enter Try.func16, Try.ntmps16
  go_wp2_with fail
  rw [← hW]
  clear hW
  go_quiet (first | (go_at_call 30; refine Calls.quiet_of_same (HL _)))
  have kz := k0.drewN nq
  clear c0 c1 c2 c3 c4 k0
  go_wp2
  go_ret
  exact ⟨rfl, kz⟩

end Go.Proofs.Ytgeebmlincddkaa
