/-
  The document's zero.
-/
import Derived.Test.YtpjkpobdkmcedaaDoorOlist
import Derived.Deep.Cut
namespace Go.Proofs.YtpjkpobdkmcedaaDoor
open Go.RowKit
set_option linter.unusedVariables false
set_option linter.unusedSimpArgs false

/-- Numbers, as values. -/
def iz (l : List Int) : List Value := l.map (Value.int .i64)
theorem iz_len (l : List Int) : (iz l).length = l.length := by simp [iz]

theorem Rb.iz_at {w : World} {ao : Option Addr} {n c : Nat} {l : List Int} (h : Rb w ao n c (iz l)) (k : Nat) (hk : k < l.length) : ∃ b off, ao = some ⟨b, off, none⟩ ∧ w.cell? ⟨b, off + k, none⟩ = some (.int .i64 l[k]) := by
  have hl := h.len
  rw [iz_len] at hl
  obtain ⟨b, off, h1, h2⟩ := h.at' k (by omega)
  exact ⟨b, off, h1, by rw [h2]; simp [iz, hk]⟩

theorem zr_not {l : List Int} {x y : ByteArray} {q : List Att} {k : Nat} (hk : k < l.length) (h : l[k] ≠ 0) : zr l x y q = false := by
  have : l.all (fun n => n == 0) = false := by
    rw [List.all_eq_false]
    exact ⟨l[k], List.getElem_mem hk, by simpa using h⟩
  simp [zr, this]

theorem zr_all {l : List Int} {x y : ByteArray} {q : List Att} (h : ∀ j (hj : j < l.length), l[j] = 0) : zr l x y q = (eqs x e0 && (eqs y e0 && q.isEmpty)) := by
  have : l.all (fun n => n == 0) = true := by
    rw [List.all_eq_true]
    intro a ha
    obtain ⟨j, hj, rfl⟩ := List.mem_iff_getElem.1 ha
    simpa using h j hj
  simp [zr, this]

theorem eqs_e0 (x : ByteArray) : x.toList.isEmpty = eqs x e0 := by
  have e : e0.toList = [] := by rw [e0, ByteArray.toList_eq]
  unfold eqs
  rw [e]
  cases x.toList <;> rfl

set_option maxRecDepth 100000 in
set_option maxHeartbeats 1000000 in
theorem zero_any (w : World) (x y : ByteArray) (q : List Att) (l : List Int) (ao bo : Option Addr) (n c m d : Nat) (hq : n = q.length) (hl : Rb w bo m d (iz l)) (hn : n ≤ 100000) (hm : m ≤ 1000) :
    Calls Tryd.prog 28 #[.string x, .string y, .slice ao n c, .slice bo m d] w fun e w' => e = .returned (.bool (zr l x y q)) ∧ w' = w := by
  obtain ⟨A, hA0⟩ : ∃ A, zr l x y q = A := ⟨_, rfl⟩
  rw [hA0]
  have hA : Hid (zr l x y q = A) := hA0
  clear hA0
  have hml : m = l.length := by rw [hl.len, iz_len]
  subst hml
  have hq2 : ((n : Int) == 0) = q.isEmpty := by
    rw [hq]
    cases q with
    | nil => rfl
    | cons a q => simp; omega
  clear hq
  go_enter Tryd.func28, Tryd.ntmps28
  go_wp2
  go_loopw [9] (fun i wr => ∃ k : Nat, k ≤ l.length ∧ i = .int .i64 k ∧ wr = w ∧ ∀ j (hj : j < l.length), j < k → l[j] = 0) (fun i _ => l.length - (intOf i).toNat)
  case atStart => exact ⟨0, Nat.zero_le _, rfl, rfl, fun j _ hj => by omega⟩
  case round =>
    obtain ⟨k, hk, rfl, rfl, hp⟩ := hrel
    by_cases hlt : k < l.length
    · obtain ⟨b, off, rfl, hc⟩ := hl.iz_at k hlt
      by_cases hz : l[k] = 0
      · have hp2 : Hid (∀ j (hj : j < l.length), j < k + 1 → l[j] = 0) := fun j hj hjk => by
          by_cases e : j = k
          · subst e; exact hz
          · exact hp j hj (by omega)
        rw [hz] at hc
        clear hp hz hl
        go_wp2
        go_roundw
        case rel => exact ⟨k + 1, by omega, by go_num, by trivial, hp2.out⟩
        case measure => simp [intOf]; omega
      · have hz2 : (l[k] != 0) = true := by simpa using hz
        have hA2 := hA.out
        rw [zr_not hlt hz] at hA2
        subst hA2
        clear hA hp hl
        generalize l[k] = z at hc hz hz2
        go_wp2
        go_ret
        exact ⟨rfl, rfl⟩
    · obtain rfl : k = l.length := by omega
      have hA2 := hA.out
      rw [zr_all (fun j hj => hp j hj hj)] at hA2
      clear hA hp hl hk
      have e1 := eqs_e0 x
      have e2 := eqs_e0 y
      cases c1 : eqs x e0
      · rw [c1] at hA2 e1
        simp only [Bool.false_and] at hA2
        subst hA2
        go_wp2
        go_ret
        exact ⟨rfl, rfl⟩
      · rw [c1] at hA2 e1
        cases c2 : eqs y e0
        · rw [c2] at hA2 e2
          simp only [Bool.false_and, Bool.true_and] at hA2
          subst hA2
          go_wp2
          go_ret
          exact ⟨rfl, rfl⟩
        · rw [c2] at hA2 e2
          simp only [Bool.true_and] at hA2
          subst hA2
          go_wp2
          go_ret
          exact ⟨by first | rfl | rw [hq2], rfl⟩

end Go.Proofs.YtpjkpobdkmcedaaDoor
