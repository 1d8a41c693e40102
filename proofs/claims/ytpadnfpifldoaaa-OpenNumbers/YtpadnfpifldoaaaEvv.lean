/-
  What a call on a list of open elements may turn (Ev: piles and their rows alone, that were made since w0); slices.Index and slices.Contains of texts.
-/
import Derived.Test.YtpadnfpifldoaaaPl
import Derived.Test.YtpadnfpifldoaaaNam
import Derived.Test.YtpadnfpifldoaaaOit
namespace Go.Proofs.Ytpadnfpifldoaaa
open Go.RowKit
set_option linter.unusedSimpArgs false

/-- The types of piles and of their rows. -/
def pil (t : TypeId) : Prop := t = 96 ∨ t = 62 ∨ t = 100 ∨ t = 76

/-- All that was there at w0, and all blocks of other types than piles, are in w' as they were in w. -/
structure Ev (w0 w w' : World) : Prop where
  os : w'.os = w.os
  tape : w'.tape = w.tape
  output : w'.output = w.output
  size : w.heap.size ≤ w'.heap.size
  old : ∀ k, k < w.heap.size → k < w0.heap.size → w'.heap[k]? = w.heap[k]?
  cells : ∀ (k : Nat) (cur : Array Value) (t : TypeId), w.heap[k]? = some (Obj.cells cur t (0, 0)) → ¬ pil t → w'.heap[k]? = some (Obj.cells cur t (0, 0))

theorem Ev.refl (w0 w : World) : Ev w0 w w := ⟨rfl, rfl, rfl, Nat.le_refl _, fun _ _ _ => rfl, fun _ _ _ h _ => h⟩

theorem Ev.trans {w0 a b c : World} (h : Ev w0 a b) (k : Ev w0 b c) : Ev w0 a c :=
  ⟨k.os.trans h.os, k.tape.trans h.tape, k.output.trans h.output, Nat.le_trans h.size k.size,
    fun i h1 h2 => (k.old i (Nat.lt_of_lt_of_le h1 h.size) h2).trans (h.old i h1 h2), fun i cur t h1 h2 => k.cells i cur t (h.cells i cur t h1 h2) h2⟩

theorem Ev.of_kp {w0 w w' : World} (k : Kp [] w w') : Ev w0 w w' :=
  ⟨k.os, k.tape, k.output, k.size, fun i h1 _ => k.block i h1 (by simp), fun i cur t h1 _ => by rw [k.block i (lt_of h1) (by simp)]; exact h1⟩

/-- What turns piles alone. -/
theorem Ev.of_pil {w0 w w' : World} {S : List Nat} (k : Kp S w w') (hS : ∀ x, x ∈ S → w0.heap.size ≤ x ∧ ∀ (cur : Array Value) (t : TypeId), w.heap[x]? = some (Obj.cells cur t (0, 0)) → pil t) : Ev w0 w w' :=
  ⟨k.os, k.tape, k.output, k.size, fun i h1 h2 => k.block i h1 (fun hx => by have := (hS i hx).1; omega),
    fun i cur t h1 h2 => by rw [k.block i (lt_of h1) (fun hx => h2 ((hS i hx).2 cur t h1))]; exact h1⟩

/-- What w0 had is as it was. -/
theorem Ev.kp {w0 w w' : World} (h : Ev w0 w w') (k : Kp [] w0 w) : Kp [] w0 w' :=
  ⟨h.os.trans k.os, h.tape.trans k.tape, h.output.trans k.output, Nat.le_trans k.size h.size,
    fun i h1 h2 => (h.old i (Nat.lt_of_lt_of_le h1 k.size) h1).trans (k.block i h1 h2)⟩

theorem Ev.back {w0 w w1 w2 : World} (h : Ev w0 w w1) (k : Kp [] w1 w2) : Ev w0 w w2 := h.trans (Ev.of_kp k)

theorem not_pil_string : ¬ pil 9 := by unfold pil; decide
theorem not_pil_item : ¬ pil 36 := by unfold pil; decide
theorem not_pil_sitem : ¬ pil 40 := by unfold pil; decide
theorem not_pil_list : ¬ pil 64 := by unfold pil; decide
theorem not_pil_slist : ¬ pil 78 := by unfold pil; decide
theorem not_pil_ask : ¬ pil 26 := by unfold pil; decide

theorem beq_swap (s x : ByteArray) : (s.toList == x.toList) = (x.toList == s.toList) := by
  rw [Bool.eq_iff_iff, beq_iff_eq, beq_iff_eq]
  exact eq_comm

set_option maxHeartbeats 1000000 in
/-- slices.Index, of a text among some. -/
theorem index_any (zs : List ByteArray) (w : World) (s : ByteArray) (ao : Option Addr) (n c : Nat) (hr : Rb w ao n c (tx zs)) (hl : n ≤ 1000) :
    Calls Try.prog 80 #[.slice ao n c, .string s] w fun e w' => ∃ i : Int, e = .returned (.int .i64 i) ∧ decide (0 ≤ i) = (zs.any fun x => x.toList == s.toList) ∧ w' = w := by
  obtain rfl : n = zs.length := by rw [hr.len, tx_len]
  obtain ⟨A, hA⟩ : ∃ A, (zs.any fun x => x.toList == s.toList) = A := ⟨_, rfl⟩
  rw [hA]
  go_enter Try.func80, Try.ntmps80
  go_wp2
  go_loopw [8] (fun i wr => ∃ k : Nat, k ≤ zs.length ∧ i = .int .i64 k ∧ wr = w ∧ ((zs.drop k).any fun x => x.toList == s.toList) = A) (fun i _ => zs.length - (intOf i).toNat)
  case atStart => exact ⟨0, Nat.zero_le _, rfl, rfl, hA⟩
  case round =>
    obtain ⟨k, hk, rfl, rfl, hp⟩ := hrel
    clear hA
    by_cases hlt : k < zs.length
    · obtain ⟨b1, o1, rfl, h1⟩ := hr.tx_at k hlt
      rw [List.drop_eq_getElem_cons hlt, List.any_cons] at hp
      generalize zs[k] = x at h1 hp
      clear hr
      cases hx : (x.toList == s.toList)
      · have hy := beq_swap s x
        rw [hx, Bool.false_or] at hp
        rw [hx] at hy
        go_wp2
        go_roundw
        case rel => exact ⟨k + 1, by omega, by go_num, by first | rfl | trivial, hp⟩
        case measure => simp [intOf]; omega
      · have hy := beq_swap s x
        rw [hx, Bool.true_or] at hp
        rw [hx] at hy
        subst hp
        go_wp2
        go_ret
        refine ⟨_, rfl, ?_⟩
        simp
    · rw [List.drop_eq_nil_of_le (by omega), List.any_nil] at hp
      subst hp
      go_wp2
      go_ret
      refine ⟨_, rfl, ?_⟩
      simp

theorem contains_any (zs : List ByteArray) (w : World) (s : ByteArray) (ao : Option Addr) (n c : Nat) (hr : Rb w ao n c (tx zs)) (hl : n ≤ 1000) :
    Calls Try.prog 73 #[.slice ao n c, .string s] w fun e w' => e = .returned (.bool (zs.any fun x => x.toList == s.toList)) ∧ w' = w := by
  have H := index_any zs w s ao n c hr hl
  generalize (zs.any fun x => x.toList == s.toList) = B at H
  clear hr hl
  go_enter Try.func73, Try.ntmps73
  go_wp2_with fail
  refine H.mono ?_
  rintro e w2 ⟨i, rfl, hi, rfl⟩
  go_wp2
  go_ret
  exact ⟨rfl, rfl⟩

set_option maxHeartbeats 4000000 in
/-- bounds, of the program. -/
theorem bounds_any {α : Type} (w : World) (k : Int) (x : Itm α) : Calls Try.prog 49 #[.int .i64 k, .int .i64 x.2.1, .string x.2.2] w fun e w' => e = .returned (.bool (bnd k x)) ∧ w' = w := by
  obtain ⟨h, ns, s⟩ := x
  have H := bound_any w ns s
  obtain ⟨A, hA⟩ : ∃ A, bnd k (h, ns, s) = A := ⟨_, rfl⟩
  rw [hA]
  unfold bnd isIn OLUL BUT TAB at hA
  simp only [List.any_cons, List.any_nil, Bool.or_false, beq_swap _ s] at hA
  generalize bound ns s = B at H hA
  by_cases k2 : k = 2
  · subst k2
    simp only [if_true] at hA
    go_enter Try.func49, Try.ntmps49
    go_wp2_with (go_at_call 74; refine H.mono ?_; rintro e w2 ⟨rfl, rfl⟩)
    all_goals (go_ret; refine ⟨?_, rfl⟩)
    all_goals (clear H; subst hA; simp [*, Bool.or_assoc])
  · by_cases k3 : k = 3
    · subst k3
      simp only [show ¬ ((3 : Int) = 2) by decide, if_false, if_true] at hA
      go_enter Try.func49, Try.ntmps49
      go_wp2_with (go_at_call 74; refine H.mono ?_; rintro e w2 ⟨rfl, rfl⟩)
      all_goals (go_ret; refine ⟨?_, rfl⟩)
      all_goals (clear H; subst hA; simp [*, Bool.or_assoc])
    · by_cases k4 : k = 4
      · subst k4
        simp only [show ¬ ((4 : Int) = 2) by decide, show ¬ ((4 : Int) = 3) by decide, if_false, if_true] at hA
        go_enter Try.func49, Try.ntmps49
        go_wp2
        all_goals (go_ret; refine ⟨?_, rfl⟩)
        all_goals (clear H; subst hA; simp [*, Bool.or_assoc])
      · simp only [if_neg k2, if_neg k3, if_neg k4] at hA
        subst hA
        go_enter Try.func49, Try.ntmps49
        go_wp2_with (go_at_call 74; refine H.mono ?_; rintro e w2 ⟨rfl, rfl⟩)
        go_ret
        exact ⟨rfl, rfl⟩

end Go.Proofs.Ytpadnfpifldoaaa
