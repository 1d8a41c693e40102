/-
  Alike, of the program and of the document.
-/
import Derived.Test.YtgeebmlincddkaaSame
namespace Go.Proofs.Ytgeebmlincddkaa
open Go.RowKit Go.Maps

theorem Tab.look {w : World} {b : Nat} {l : List Att} {k : Nat} (h : Tab w b l k) {x : ByteArray} (hs : x.size ≤ 140737488355328) {i : Nat} (hi : idx l x = some i) : (Instr.lookup 66 (.map (some b)) (.string x) false).run Try.prog w = .ok (.int .i64 (i : Int)) w := by
  obtain ⟨D, h1, h2, h3⟩ := h
  obtain ⟨c, hrun, hat, _⟩ := h1.lookup_int law9 Try.underlying66 Try.underlying3 (zero3 _) (key_of hs)
  rw [(h3 x).2 i hi] at hat
  simp only [DataW.lit.injEq, Lit.int.injEq, true_and] at hat
  rw [hrun, hat]

theorem Tab.look_ok {w : World} {b : Nat} {l : List Att} {k : Nat} (h : Tab w b l k) {x : ByteArray} (hs : x.size ≤ 140737488355328) {i : Nat} (hi : idx l x = some i) : (Instr.lookup 66 (.map (some b)) (.string x) true).run Try.prog w = .ok (.tuple #[.int .i64 (i : Int), .bool true]) w := by
  obtain ⟨D, h1, h2, h3⟩ := h
  obtain ⟨v, ps, hrun, hv⟩ := h1.look_ok law9 Try.underlying66 (zero3 _) (plainElem_int Try.underlying3 (by decide)) (key_of hs)
  obtain ⟨c, rfl, hc, _⟩ := plainElem_int_inv Try.underlying3 hv
  rw [(h3 x).2 i hi] at hc
  simp only [Prod.mk.injEq, DataW.lit.injEq, Lit.int.injEq, true_and] at hc
  rw [hrun, (h3 x).1, hi, hc.1]
  rfl

theorem Tab.look_no {w : World} {b : Nat} {l : List Att} {k : Nat} (h : Tab w b l k) {x : ByteArray} (hs : x.size ≤ 140737488355328) (hi : idx l x = none) : ∃ c, (Instr.lookup 66 (.map (some b)) (.string x) true).run Try.prog w = .ok (.tuple #[.int .i64 c, .bool false]) w := by
  obtain ⟨D, h1, h2, h3⟩ := h
  obtain ⟨v, ps, hrun, hv⟩ := h1.look_ok law9 Try.underlying66 (zero3 _) (plainElem_int Try.underlying3 (by decide)) (key_of hs)
  obtain ⟨c, rfl, hc, _⟩ := plainElem_int_inv Try.underlying3 hv
  exact ⟨c, by rw [hrun, (h3 x).1, hi]; rfl⟩

theorem Tab.length {w : World} {b : Nat} {l : List Att} {k : Nat} (h : Tab w b l k) (ty : TypeId) : (Builtin.len_ #[66] ty #[.map (some b)]).run Try.prog w = .ok (.int .i64 ((uniq l).length : Int)) w := by
  obtain ⟨D, h1, h2, h3⟩ := h
  rw [h1.len Try.underlying66 ty, h2]

/-- Each has a first one of its name. -/
theorem idx_self (l : List Att) (k : Nat) (hk : k < l.length) : ∃ i, idx l l[k].1 = some i := by
  cases h : idx l l[k].1 with
  | some i => exact ⟨i, rfl⟩
  | none => exact absurd rfl (getF_none (idx_none.1 h) _ (List.getElem_mem hk))

theorem idx_lt {l : List Att} {x : ByteArray} {i : Nat} (h : idx l x = some i) : i < l.length := (idx_get h).1


theorem alike_end {a b : List Att} (h : ∀ i (hi : i < (uniq a).length), okIn b (uniq a)[i] = true) : alike a b = ((uniq a).length == (uniq b).length) := by
  unfold alike
  rw [List.all_eq_true.2 (fun x hx => by obtain ⟨i, hi, rfl⟩ := List.getElem_of_mem hx; exact h i hi), Bool.true_and]

theorem alike_fails {a b : List Att} (i : Nat) (hi : i < (uniq a).length) (h : okIn b (uniq a)[i] = false) : alike a b = false := by
  unfold alike
  rw [Bool.and_eq_false_iff]
  exact Or.inl (List.all_eq_false.2 ⟨_, List.getElem_mem hi, by rw [h]; simp⟩)

end Go.Proofs.Ytgeebmlincddkaa
