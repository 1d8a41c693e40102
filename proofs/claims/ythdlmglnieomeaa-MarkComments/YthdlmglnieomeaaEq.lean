/-
  Same of tokens: of the program, of the document and of the book.
-/
import Derived.Test.YthdlmglnieomeaaTag
namespace Go.Proofs.Ythdlmglnieomeaa
open Go.RowKit

theorem eqs_no {x y : ByteArray} (h : ¬ x = y) : (x.toList == y.toList) = false := by
  cases hx : eqs x y with
  | false => exact hx
  | true => exact absurd (eqs_iff.1 hx) h

theorem eqs_yes {x y : ByteArray} (h : x = y) : (x.toList == y.toList) = true := eqs_iff.2 h

/-- A token's five cells. -/
structure Box (w : World) (g : Nat) (k : Int) (x : ByteArray) (v : Value) (b : Bool) (y : ByteArray) : Prop where
  c0 : w.cell? ⟨g, 0, none⟩ = some (.int .i64 k)
  c1 : w.cell? ⟨g, 1, none⟩ = some (.string x)
  c2 : w.cell? ⟨g, 2, none⟩ = some v
  c3 : w.cell? ⟨g, 3, none⟩ = some (.bool b)
  c4 : w.cell? ⟨g, 4, none⟩ = some (.string y)

theorem box_of {w : World} {g : Nat} {k : Int} {x : ByteArray} {v : Value} {b : Bool} {y : ByteArray} {e : TypeId} (h : w.heap[g]? = some (.cells #[.int .i64 k, .string x, v, .bool b, .string y] e)) : Box w g k x v b y :=
  ⟨by rw [cell_of h]; rfl, by rw [cell_of h]; rfl, by rw [cell_of h]; rfl, by rw [cell_of h]; rfl, by rw [cell_of h]; rfl⟩

theorem Box.kept {w w' : World} {g : Nat} {k : Int} {x : ByteArray} {v : Value} {b : Bool} {y : ByteArray} {S : List Nat} (h : Box w g k x v b y) (kp : Kp S w w') (hg : g ∉ S) : Box w' g k x v b y := by
  have hl := block_lt_of_cell h.c0
  exact ⟨by rw [kp.cell (a := ⟨g, 0, none⟩) hl hg]; exact h.c0, by rw [kp.cell (a := ⟨g, 1, none⟩) hl hg]; exact h.c1, by rw [kp.cell (a := ⟨g, 2, none⟩) hl hg]; exact h.c2, by rw [kp.cell (a := ⟨g, 3, none⟩) hl hg]; exact h.c3, by rw [kp.cell (a := ⟨g, 4, none⟩) hl hg]; exact h.c4⟩

/-- Two that were laid one behind the other. -/
theorem box_two (w : World) (k k' : Int) (x x' y y' : ByteArray) (v v' : Value) (b b' : Bool) (w1 : World) (kp : Kp [] ((w.alloc (.cells #[.int .i64 k, .string x, v, .bool b, .string y] 32)).alloc (.cells #[.int .i64 k', .string x', v', .bool b', .string y'] 32)) w1) :
    Box w1 w.heap.size k x v b y ∧ Box w1 (w.heap.size + 1) k' x' v' b' y' := by
  constructor
  · refine (box_of (e := 32) ?_).kept kp (by simp)
    rw [Below.heap_alloc _ _ _ (by simp)]
    exact heap_new w _
  · exact (box_of (heap_new' _ _ _ (by simp))).kept kp (by simp)

/-- A token, as a value. -/
def tv (k : Int) (x : ByteArray) (ao : Option Addr) (n c : Nat) (b : Bool) (y : ByteArray) : Value := .agg #[.int .i64 k, .string x, .slice ao n c, .bool b, .string y]

set_option maxHeartbeats 1000000 in
theorem tsame_any (w : World) (k k' : Int) (x x' y y' : ByteArray) (l l' : List Att) (b b' : Bool) (ao bo : Option Addr) (n c p d : Nat) (hr : Rp w ao n c l) (hs : Rp w bo p d l') (hl : n ≤ 1000) (hm : p ≤ 1000) :
    Calls Try.prog 19 #[tv k x ao n c b y, tv k' x' bo p d b' y'] w fun e w' => e = .returned (.bool (decide (((k, x, l, b, y) : Tok) = (k', x', l', b', y')))) ∧ Kp [] w w' := by
  unfold tv
  obtain ⟨A, hA⟩ : ∃ A, decide (((k, x, l, b, y) : Tok) = (k', x', l', b', y')) = A := ⟨_, rfl⟩
  rw [hA]
  have k0 : Kp [] w ((w.alloc (.cells #[.int .i64 k, .string x, .slice ao n c, .bool b, .string y] 32)).alloc (.cells #[.int .i64 k', .string x', .slice bo p d, .bool b', .string y'] 32)) := ((Kp.refl _ _).alloc _).alloc _
  have HC := same_any _ l l' ao bo n c p d (hr.kept k0) (hs.kept k0) hl hm
  obtain ⟨C, hC⟩ : ∃ C, same l l' = C := ⟨_, rfl⟩
  rw [hC] at HC
  clear hr hs hl hm
  by_cases e1 : k = k'
  · have q1 : ((k : Int) == (k' : Int)) = true := by simp [e1]
    by_cases e2 : x = x'
    · have q2 : (x.toList == x'.toList) = true := eqs_yes e2
      by_cases e3 : b = b'
      · have q3 : (b == b') = true := by simp [e3]
        by_cases e4 : y = y'
        · have q4 : (y.toList == y'.toList) = true := eqs_yes e4
          cases C with
          | false =>
            have hne : ¬ l = l' := of_decide_eq_false hC
            obtain rfl : A = false := by rw [← hA]; simp [hne]
            clear hA hC hne e1 e2 e3 e4
            go_enter Try.func19, Try.ntmps19
            go_wp2_with fail
            refine HC.mono ?_
            rintro e w1 ⟨rfl, k1⟩
            have k2 := k0.trans k1 (fun z hz => by simp at hz)
            clear HC k0 k1
            go_wp2
            go_ret
            exact ⟨rfl, k2⟩
          | true =>
            have heq : l = l' := of_decide_eq_true hC
            obtain rfl : A = true := by rw [← hA]; simp [e1, e2, e3, e4, heq]
            clear hA hC e1 e2 e3 e4 heq
            go_enter Try.func19, Try.ntmps19
            go_wp2_with fail
            refine HC.mono ?_
            rintro e w1 ⟨rfl, k1⟩
            have k2 := k0.trans k1 (fun z hz => by simp at hz)
            clear HC k0 k1
            go_wp2
            go_ret
            exact ⟨rfl, k2⟩
        · have q4 : (y.toList == y'.toList) = false := eqs_no e4
          obtain rfl : A = false := by rw [← hA]; simp [e4]
          clear hA hC e1 e2 e3 e4
          go_enter Try.func19, Try.ntmps19
          clear HC
          go_wp2
          go_ret
          exact ⟨rfl, k0⟩
      · have q3 : (b == b') = false := by simpa using e3
        obtain rfl : A = false := by rw [← hA]; simp [e3]
        clear hA hC e1 e2 e3
        go_enter Try.func19, Try.ntmps19
        clear HC
        go_wp2
        go_ret
        exact ⟨rfl, k0⟩
    · have q2 : (x.toList == x'.toList) = false := eqs_no e2
      obtain rfl : A = false := by rw [← hA]; simp [e2]
      clear hA hC e1 e2
      go_enter Try.func19, Try.ntmps19
      clear HC
      go_wp2
      go_ret
      exact ⟨rfl, k0⟩
  · have q1 : ((k : Int) == (k' : Int)) = false := by simpa using e1
    obtain rfl : A = false := by rw [← hA]; simp [e1]
    clear hA hC e1
    go_enter Try.func19, Try.ntmps19
    clear HC
    go_wp2
    go_ret
    exact ⟨rfl, k0⟩


set_option maxHeartbeats 1000000 in
theorem book_tsame_any (w : World) (k k' : Int) (x x' y y' : ByteArray) (l l' : List Att) (b b' : Bool) (ao bo : Option Addr) (n c p d : Nat) (hr : Rp w ao n c l) (hs : Rp w bo p d l') (hl : n ≤ 1000) (hm : p ≤ 1000) :
    Calls Try.prog 14 #[tv k x ao n c b y, tv k' x' bo p d b' y'] w fun e w' => e = .returned (.bool (decide (((k, x, l, b, y) : Tok) = (k', x', l', b', y')))) ∧ Kp [] w w' := by
  unfold tv
  obtain ⟨A, hA⟩ : ∃ A, decide (((k, x, l, b, y) : Tok) = (k', x', l', b', y')) = A := ⟨_, rfl⟩
  rw [hA]
  have k0 : Kp [] w ((w.alloc (.cells #[.int .i64 k, .string x, .slice ao n c, .bool b, .string y] 32)).alloc (.cells #[.int .i64 k', .string x', .slice bo p d, .bool b', .string y'] 32)) := ((Kp.refl _ _).alloc _).alloc _
  have HC := attrs_any _ l l' ao bo n c p d (hr.kept k0) (hs.kept k0) hl hm
  obtain ⟨C, hC⟩ : ∃ C, same l l' = C := ⟨_, rfl⟩
  rw [hC] at HC
  clear hr hs hl hm
  by_cases e1 : k = k'
  · have q1 : ((k : Int) == (k' : Int)) = true := by simp [e1]
    by_cases e2 : x = x'
    · have q2 : (x.toList == x'.toList) = true := eqs_yes e2
      cases C with
      | false =>
        have hne : ¬ l = l' := of_decide_eq_false hC
        obtain rfl : A = false := by rw [← hA]; simp [hne]
        clear hA hC hne e1 e2
        go_enter Try.func14, Try.ntmps14
        go_wp2_with fail
        refine HC.mono ?_
        rintro e w1 ⟨rfl, k1⟩
        have k2 := k0.trans k1 (fun z hz => by simp at hz)
        obtain ⟨B1, B2⟩ := box_two _ _ _ _ _ _ _ _ _ _ _ w1 k1
        obtain ⟨_, _, _, b3, b4⟩ := B1
        obtain ⟨_, _, _, d3, d4⟩ := B2
        clear HC k0 k1
        go_wp2
        go_ret
        exact ⟨rfl, k2⟩
      | true =>
        have heq : l = l' := of_decide_eq_true hC
        by_cases e3 : b = b'
        · have q3 : (b == b') = true := by simp [e3]
          by_cases e4 : y = y'
          · have q4 : (y.toList == y'.toList) = true := eqs_yes e4
            obtain rfl : A = true := by rw [← hA]; simp [e1, e2, heq, e3, e4]
            clear hA hC e1 e2 heq e3 e4
            go_enter Try.func14, Try.ntmps14
            go_wp2_with fail
            refine HC.mono ?_
            rintro e w1 ⟨rfl, k1⟩
            have k2 := k0.trans k1 (fun z hz => by simp at hz)
            obtain ⟨B1, B2⟩ := box_two _ _ _ _ _ _ _ _ _ _ _ w1 k1
            obtain ⟨_, _, _, b3, b4⟩ := B1
            obtain ⟨_, _, _, d3, d4⟩ := B2
            clear HC k0 k1
            go_wp2
            go_ret
            exact ⟨rfl, k2⟩
          · have q4 : (y.toList == y'.toList) = false := eqs_no e4
            obtain rfl : A = false := by rw [← hA]; simp [e4]
            clear hA hC e1 e2 heq e3 e4
            go_enter Try.func14, Try.ntmps14
            go_wp2_with fail
            refine HC.mono ?_
            rintro e w1 ⟨rfl, k1⟩
            have k2 := k0.trans k1 (fun z hz => by simp at hz)
            obtain ⟨B1, B2⟩ := box_two _ _ _ _ _ _ _ _ _ _ _ w1 k1
            obtain ⟨_, _, _, b3, b4⟩ := B1
            obtain ⟨_, _, _, d3, d4⟩ := B2
            clear HC k0 k1
            go_wp2
            go_ret
            exact ⟨rfl, k2⟩
        · have q3 : (b == b') = false := by simpa using e3
          obtain rfl : A = false := by rw [← hA]; simp [e3]
          clear hA hC e1 e2 heq e3
          go_enter Try.func14, Try.ntmps14
          go_wp2_with fail
          refine HC.mono ?_
          rintro e w1 ⟨rfl, k1⟩
          have k2 := k0.trans k1 (fun z hz => by simp at hz)
          obtain ⟨B1, B2⟩ := box_two _ _ _ _ _ _ _ _ _ _ _ w1 k1
          obtain ⟨_, _, _, b3, b4⟩ := B1
          obtain ⟨_, _, _, d3, d4⟩ := B2
          clear HC k0 k1
          go_wp2
          go_ret
          exact ⟨rfl, k2⟩
    · have q2 : (x.toList == x'.toList) = false := eqs_no e2
      obtain rfl : A = false := by rw [← hA]; simp [e2]
      clear hA hC e1 e2
      go_enter Try.func14, Try.ntmps14
      clear HC
      go_wp2
      go_ret
      exact ⟨rfl, k0⟩
  · have q1 : ((k : Int) == (k' : Int)) = false := by simpa using e1
    obtain rfl : A = false := by rw [← hA]; simp [e1]
    clear hA hC e1
    go_enter Try.func14, Try.ntmps14
    clear HC
    go_wp2
    go_ret
    exact ⟨rfl, k0⟩

end Go.Proofs.Ythdlmglnieomeaa
