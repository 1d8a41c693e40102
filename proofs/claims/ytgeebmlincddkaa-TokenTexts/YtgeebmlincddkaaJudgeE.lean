/-
  The document's Right of Texts, Comments, ends of file, and tokens of no Kind.
-/
import Derived.Test.YtgeebmlincddkaaJudge
namespace Go.Proofs.Ytgeebmlincddkaa
open Go.RowKit Utf

theorem len_empty (l : List Att) : ((l.length : Int) == 0) = l.isEmpty := by
  cases l with
  | nil => rfl
  | cons a l =>
    simp
    omega

theorem len_pos (l : List Att) : decide (0 < l.length) = !l.isEmpty := by
  cases l with
  | nil => rfl
  | cons a l => simp

theorem is4 (x y : ByteArray) (l : List Att) (b : Bool) : right (4, x, l, b, y) = (!(eqs y ⟨#[]⟩) && (eqs x ⟨#[]⟩ && l.isEmpty && !b)) := by
  have : right (4, x, l, b, y) = (!(eqs y ⟨#[]⟩) && decide (((4, x, l, b, y) : Tok) = (4, ⟨#[]⟩, [], false, y))) := rfl
  rw [this, plain_eq, eqs_refl, Bool.and_true]

theorem is5 (x y : ByteArray) (l : List Att) (b : Bool) : right (5, x, l, b, y) = (eqs x ⟨#[]⟩ && l.isEmpty && !b) := by
  have : right (5, x, l, b, y) = decide (((5, x, l, b, y) : Tok) = (5, ⟨#[]⟩, [], false, y)) := rfl
  rw [this, plain_eq, eqs_refl, Bool.and_true]

theorem is6 (x y : ByteArray) (l : List Att) (b : Bool) : right (6, x, l, b, y) = (eqs x ⟨#[]⟩ && l.isEmpty && !b && eqs y ⟨#[]⟩) := by
  have : right (6, x, l, b, y) = decide (((6, x, l, b, y) : Tok) = (6, ⟨#[]⟩, [], false, ⟨#[]⟩)) := rfl
  rw [this, plain_eq]

theorem empty_is (y : ByteArray) : y.toList.isEmpty = eqs y ⟨#[]⟩ := by
  cases h : eqs y ⟨#[]⟩ with
  | true => exact empty_yes h
  | false => exact empty_no h

set_option maxRecDepth 100000 in
set_option maxHeartbeats 4000000 in
theorem judge4 (w : World) (x y : ByteArray) (l : List Att) (b : Bool) (ao : Option Addr) (n c : Nat) (hr : Rp w ao n c l) :
    Calls Try.prog 16 #[tv 4 x ao n c b y] w fun e w' => e = .returned (.bool (right (4, x, l, b, y))) ∧ Kp [] w w' := by
  obtain rfl := hr.len
  have k0 : Kp [] w (w.alloc (.cells #[.int .i64 4, .string x, .slice ao l.length c, .bool b, .string y] 24)) := (Kp.refl _ _).alloc _
  rw [is4]
  have hX := empty_is x
  have hY := empty_is y
  have hE := len_empty l
  generalize eqs x ⟨#[]⟩ = X at hX ⊢
  generalize eqs y ⟨#[]⟩ = Y at hY ⊢
  generalize l.isEmpty = E at hE ⊢
  clear hr
  unfold tv
  cases X
  · go_enter Try.func16, Try.ntmps16
    go_wp2
    go_ret
    exact ⟨by cases Y <;> rfl, k0⟩
  cases E
  · go_enter Try.func16, Try.ntmps16
    go_wp2
    go_ret
    exact ⟨by cases Y <;> rfl, k0⟩
  cases b
  · cases Y
    all_goals
      go_enter Try.func16, Try.ntmps16
      go_wp2
      go_ret
      exact ⟨rfl, k0⟩
  · go_enter Try.func16, Try.ntmps16
    go_wp2
    go_ret
    exact ⟨by cases Y <;> rfl, k0⟩

set_option maxRecDepth 100000 in
set_option maxHeartbeats 4000000 in
theorem judge5 (w : World) (x y : ByteArray) (l : List Att) (b : Bool) (ao : Option Addr) (n c : Nat) (hr : Rp w ao n c l) :
    Calls Try.prog 16 #[tv 5 x ao n c b y] w fun e w' => e = .returned (.bool (right (5, x, l, b, y))) ∧ Kp [] w w' := by
  obtain rfl := hr.len
  have k0 : Kp [] w (w.alloc (.cells #[.int .i64 5, .string x, .slice ao l.length c, .bool b, .string y] 24)) := (Kp.refl _ _).alloc _
  rw [is5]
  have hX := empty_is x
  have hY := empty_is y
  have hE := len_empty l
  generalize eqs x ⟨#[]⟩ = X at hX ⊢
  generalize eqs y ⟨#[]⟩ = Y at hY ⊢
  generalize l.isEmpty = E at hE ⊢
  clear hr
  unfold tv
  cases X
  · go_enter Try.func16, Try.ntmps16
    go_wp2
    go_ret
    exact ⟨by cases Y <;> rfl, k0⟩
  cases E
  · go_enter Try.func16, Try.ntmps16
    go_wp2
    go_ret
    exact ⟨by cases Y <;> rfl, k0⟩
  cases b
  · cases Y
    all_goals
      go_enter Try.func16, Try.ntmps16
      go_wp2
      go_ret
      exact ⟨rfl, k0⟩
  · go_enter Try.func16, Try.ntmps16
    go_wp2
    go_ret
    exact ⟨by cases Y <;> rfl, k0⟩

set_option maxRecDepth 100000 in
set_option maxHeartbeats 4000000 in
theorem judge6 (w : World) (x y : ByteArray) (l : List Att) (b : Bool) (ao : Option Addr) (n c : Nat) (hr : Rp w ao n c l) :
    Calls Try.prog 16 #[tv 6 x ao n c b y] w fun e w' => e = .returned (.bool (right (6, x, l, b, y))) ∧ Kp [] w w' := by
  obtain rfl := hr.len
  have k0 : Kp [] w (w.alloc (.cells #[.int .i64 6, .string x, .slice ao l.length c, .bool b, .string y] 24)) := (Kp.refl _ _).alloc _
  rw [is6]
  have hX := empty_is x
  have hY := empty_is y
  have hE := len_empty l
  generalize eqs x ⟨#[]⟩ = X at hX ⊢
  generalize eqs y ⟨#[]⟩ = Y at hY ⊢
  generalize l.isEmpty = E at hE ⊢
  clear hr
  unfold tv
  cases X
  · go_enter Try.func16, Try.ntmps16
    go_wp2
    go_ret
    exact ⟨by cases Y <;> rfl, k0⟩
  cases E
  · go_enter Try.func16, Try.ntmps16
    go_wp2
    go_ret
    exact ⟨by cases Y <;> rfl, k0⟩
  cases b
  · cases Y
    all_goals
      go_enter Try.func16, Try.ntmps16
      go_wp2
      go_ret
      exact ⟨rfl, k0⟩
  · go_enter Try.func16, Try.ntmps16
    go_wp2
    go_ret
    exact ⟨by cases Y <;> rfl, k0⟩

set_option maxRecDepth 100000 in
theorem judge0 (w : World) (k : Int) (x y : ByteArray) (l : List Att) (b : Bool) (ao : Option Addr) (n c : Nat) (h1 : ¬ k = 1) (h2 : ¬ k = 2) (h3 : ¬ k = 3) (h4 : ¬ k = 4) (h5 : ¬ k = 5) (h6 : ¬ k = 6) :
    Calls Try.prog 16 #[tv k x ao n c b y] w fun e w' => e = .returned (.bool (right (k, x, l, b, y))) ∧ Kp [] w w' := by
  have k0 : Kp [] w (w.alloc (.cells #[.int .i64 k, .string x, .slice ao n c, .bool b, .string y] 24)) := (Kp.refl _ _).alloc _
  have hA : right (k, x, l, b, y) = false := by simp [right, h1, h2, h3, h4, h5, h6]
  rw [hA]
  clear hA
  unfold tv
  go_enter Try.func16, Try.ntmps16
  go_wp2
  go_ret
  exact ⟨rfl, k0⟩

end Go.Proofs.Ytgeebmlincddkaa
