/-
  The document's Right, of any token that is not too long.
-/
import Derived.Test.YtgeebmlincddkaaJust
import Derived.BigQuiet
import Derived.Deep.RegionWith
namespace Go.Proofs.Ytgeebmlincddkaa
open Go.RowKit Utf

theorem plain_eq (k : Int) (x x' y y' : ByteArray) (l : List Att) (b : Bool) : decide (((k, x, l, b, y) : Tok) = (k, x', [], false, y')) = (eqs x x' && l.isEmpty && !b && eqs y y') := by
  rw [Bool.eq_iff_iff]
  simp only [decide_eq_true_eq, Prod.mk.injEq, Bool.and_eq_true, eqs_iff, List.isEmpty_iff, Bool.not_eq_true', true_and]
  constructor
  · rintro ⟨h1, h2, h3, h4⟩
    exact ⟨⟨⟨h1, h2⟩, h3⟩, h4⟩
  · rintro ⟨⟨⟨h1, h2⟩, h3⟩, h4⟩
    exact ⟨h1, h2, h3, h4⟩

theorem index_at (s : ByteArray) (i : Int) (j : Nat) (hi : i = j) (h : j < s.size) (W : World) : (Instr.index 9 (.string s) (.int .i64 i)).run Try.prog W = .ok (.int .u8 ((s[j]'h).toNat : Int)) W := by
  subst hi
  rw [run_index_string W 9 s .i64 j Try.underlying9]
  simp [h]

/-- What the cells of a token that was laid hold, whatever was laid behind it. -/
def Laid5 (W : World) (g : Nat) (k : Int) (x : ByteArray) (v : Value) (b : Bool) (y : ByteArray) : Prop := ∀ V, Kp [] W V → V.cell? ⟨g, 0, none⟩ = some (.int .i64 k) ∧ V.cell? ⟨g, 1, none⟩ = some (.string x) ∧ V.cell? ⟨g, 2, none⟩ = some v ∧ V.cell? ⟨g, 3, none⟩ = some (.bool b) ∧ V.cell? ⟨g, 4, none⟩ = some (.string y)

theorem laid5 (w : World) (k : Int) (x : ByteArray) (v : Value) (b : Bool) (y : ByteArray) : Laid5 (w.alloc (.cells #[.int .i64 k, .string x, v, .bool b, .string y] 24)) w.heap.size k x v b y := fun V kV => by
  obtain ⟨c0, c1, c2, c3, c4⟩ := box_one w k x y v b V kV
  exact ⟨c0, c1, c2, c3, c4⟩

set_option maxRecDepth 100000 in
set_option maxHeartbeats 1000000 in
theorem judge1a (w : World) (x y : ByteArray) (b : Bool) (ao : Option Addr) (n c : Nat) (hx : x.size ≤ 100000) (hD : ((lower x).toList == x.toList) = false) :
    Calls Try.prog 16 #[tv 1 x ao n c b y] w fun e w' => e = .returned (.bool false) ∧ Kp [] w w' := by
  obtain ⟨W, hW⟩ : ∃ W, W = w.alloc (.cells #[.int .i64 1, .string x, .slice ao n c, .bool b, .string y] 24) := ⟨_, rfl⟩
  have k0 : Kp [] w W := by rw [hW]; exact (Kp.refl _ _).alloc _
  have C1 : Hid (Laid5 W w.heap.size 1 x (.slice ao n c) b y) := by rw [hW]; exact laid5 w 1 x _ b y
  obtain ⟨c0, c1, c2, c3, c4⟩ := C1.out W (Kp.refl _ _)
  have HL := fun v => ref_lower_any v x hx
  unfold tv
  go_enter Try.func16, Try.ntmps16
  go_wp2_with fail
  rw [← hW]
  clear hW
  first | (go_region_with (first
    | (go_at_call 29; refine (HL _).mono ?_; rintro e v1 ⟨rfl, kk⟩; have S1 : Hid (Kp [] W v1) := (Kp.refl [] W).drew.trans kk (fun x hx => by simp at hx); clear kk; obtain ⟨d0, d1, d2, d3, d4⟩ := C1.out _ S1.out))) | fail
  all_goals
    have kz := k0.trans S1.out (fun x hx => by simp at hx)
    clear HL C1 c0 c1 c2 c3 c4 d0 d1 d2 d3 d4 S1 k0
    go_wp2
    go_ret
    exact ⟨rfl, kz⟩

set_option maxRecDepth 100000 in
set_option maxHeartbeats 1000000 in
theorem judge1b (w : World) (x y : ByteArray) (b : Bool) (ao : Option Addr) (n c : Nat) (hx : x.size ≤ 100000) (hD : ((lower x).toList == x.toList) = true) (hE : ((n : Int) == 0) = false) :
    Calls Try.prog 16 #[tv 1 x ao n c b y] w fun e w' => e = .returned (.bool false) ∧ Kp [] w w' := by
  obtain ⟨W, hW⟩ : ∃ W, W = w.alloc (.cells #[.int .i64 1, .string x, .slice ao n c, .bool b, .string y] 24) := ⟨_, rfl⟩
  have k0 : Kp [] w W := by rw [hW]; exact (Kp.refl _ _).alloc _
  have C1 : Hid (Laid5 W w.heap.size 1 x (.slice ao n c) b y) := by rw [hW]; exact laid5 w 1 x _ b y
  obtain ⟨c0, c1, c2, c3, c4⟩ := C1.out W (Kp.refl _ _)
  have HL := fun v => ref_lower_any v x hx
  unfold tv
  go_enter Try.func16, Try.ntmps16
  go_wp2_with fail
  rw [← hW]
  clear hW
  first | (go_region_with (first
    | (go_at_call 29; refine (HL _).mono ?_; rintro e v1 ⟨rfl, kk⟩; have S1 : Hid (Kp [] W v1) := (Kp.refl [] W).drew.trans kk (fun x hx => by simp at hx); clear kk; obtain ⟨d0, d1, d2, d3, d4⟩ := C1.out _ S1.out))) | fail
  all_goals
    have kz := k0.trans S1.out (fun x hx => by simp at hx)
    clear HL C1 c0 c1 c2 c3 c4 d0 d1 d2 d3 d4 S1 k0
    go_wp2
    go_ret
    exact ⟨rfl, kz⟩

set_option maxRecDepth 100000 in
set_option maxHeartbeats 1000000 in
theorem judge1c (w : World) (x y : ByteArray) (ao : Option Addr) (n c : Nat) (hx : x.size ≤ 100000) (hD : ((lower x).toList == x.toList) = true) (hE : ((n : Int) == 0) = true) :
    Calls Try.prog 16 #[tv 1 x ao n c true y] w fun e w' => e = .returned (.bool false) ∧ Kp [] w w' := by
  obtain ⟨W, hW⟩ : ∃ W, W = w.alloc (.cells #[.int .i64 1, .string x, .slice ao n c, .bool true, .string y] 24) := ⟨_, rfl⟩
  have k0 : Kp [] w W := by rw [hW]; exact (Kp.refl _ _).alloc _
  have C1 : Hid (Laid5 W w.heap.size 1 x (.slice ao n c) true y) := by rw [hW]; exact laid5 w 1 x _ true y
  obtain ⟨c0, c1, c2, c3, c4⟩ := C1.out W (Kp.refl _ _)
  have HL := fun v => ref_lower_any v x hx
  unfold tv
  go_enter Try.func16, Try.ntmps16
  go_wp2_with fail
  rw [← hW]
  clear hW
  first | (go_region_with (first
    | (go_at_call 29; refine (HL _).mono ?_; rintro e v1 ⟨rfl, kk⟩; have S1 : Hid (Kp [] W v1) := (Kp.refl [] W).drew.trans kk (fun x hx => by simp at hx); clear kk; obtain ⟨d0, d1, d2, d3, d4⟩ := C1.out _ S1.out))) | fail
  all_goals
    have kz := k0.trans S1.out (fun x hx => by simp at hx)
    clear HL C1 c0 c1 c2 c3 c4 d0 d1 d2 d3 d4 S1 k0
    go_wp2
    go_ret
    exact ⟨rfl, kz⟩

set_option maxRecDepth 100000 in
set_option maxHeartbeats 1000000 in
theorem judge1d (w : World) (x y : ByteArray) (ao : Option Addr) (n c : Nat) (hx : x.size ≤ 100000) (hD : ((lower x).toList == x.toList) = true) (hE : ((n : Int) == 0) = true) (hY : y.toList.isEmpty = false) :
    Calls Try.prog 16 #[tv 1 x ao n c false y] w fun e w' => e = .returned (.bool false) ∧ Kp [] w w' := by
  obtain ⟨W, hW⟩ : ∃ W, W = w.alloc (.cells #[.int .i64 1, .string x, .slice ao n c, .bool false, .string y] 24) := ⟨_, rfl⟩
  have k0 : Kp [] w W := by rw [hW]; exact (Kp.refl _ _).alloc _
  have C1 : Hid (Laid5 W w.heap.size 1 x (.slice ao n c) false y) := by rw [hW]; exact laid5 w 1 x _ false y
  obtain ⟨c0, c1, c2, c3, c4⟩ := C1.out W (Kp.refl _ _)
  have HL := fun v => ref_lower_any v x hx
  unfold tv
  go_enter Try.func16, Try.ntmps16
  go_wp2_with fail
  rw [← hW]
  clear hW
  first | (go_region_with (first
    | (go_at_call 29; refine (HL _).mono ?_; rintro e v1 ⟨rfl, kk⟩; have S1 : Hid (Kp [] W v1) := (Kp.refl [] W).drew.trans kk (fun x hx => by simp at hx); clear kk; obtain ⟨d0, d1, d2, d3, d4⟩ := C1.out _ S1.out))) | fail
  all_goals
    have kz := k0.trans S1.out (fun x hx => by simp at hx)
    clear HL C1 c0 c1 c2 c3 c4 d0 d1 d2 d3 d4 S1 k0
    go_wp2
    go_ret
    exact ⟨rfl, kz⟩

set_option maxRecDepth 100000 in
set_option maxHeartbeats 1000000 in
theorem judge1e (w : World) (x y : ByteArray) (ao : Option Addr) (n c : Nat) (hx : x.size ≤ 100000) (hD : ((lower x).toList == x.toList) = true) (hE : ((n : Int) == 0) = true) (hY : y.toList.isEmpty = true) :
    Calls Try.prog 16 #[tv 1 x ao n c false y] w fun e w' => e = .returned (.bool true) ∧ Kp [] w w' := by
  obtain ⟨W, hW⟩ : ∃ W, W = w.alloc (.cells #[.int .i64 1, .string x, .slice ao n c, .bool false, .string y] 24) := ⟨_, rfl⟩
  have k0 : Kp [] w W := by rw [hW]; exact (Kp.refl _ _).alloc _
  have C1 : Hid (Laid5 W w.heap.size 1 x (.slice ao n c) false y) := by rw [hW]; exact laid5 w 1 x _ false y
  obtain ⟨c0, c1, c2, c3, c4⟩ := C1.out W (Kp.refl _ _)
  have HL := fun v => ref_lower_any v x hx
  unfold tv
  go_enter Try.func16, Try.ntmps16
  go_wp2_with fail
  rw [← hW]
  clear hW
  first | (go_region_with (first
    | (go_at_call 29; refine (HL _).mono ?_; rintro e v1 ⟨rfl, kk⟩; have S1 : Hid (Kp [] W v1) := (Kp.refl [] W).drew.trans kk (fun x hx => by simp at hx); clear kk; obtain ⟨d0, d1, d2, d3, d4⟩ := C1.out _ S1.out))) | fail
  all_goals
    have kz := k0.trans S1.out (fun x hx => by simp at hx)
    clear HL C1 c0 c1 c2 c3 c4 d0 d1 d2 d3 d4 S1 k0
    go_wp2
    go_ret
    exact ⟨rfl, kz⟩

end Go.Proofs.Ytgeebmlincddkaa
