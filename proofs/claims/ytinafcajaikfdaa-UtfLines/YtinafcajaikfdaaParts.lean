/-
  What Head and Within do, and how a line goes behind others.
-/
import Derived.Test.YtinafcajaikfdaaText
import Derived.Laws.RangeAny
namespace Go.Proofs.Ytinafcajaikfdaa
open Go.RowKit Utf

theorem head_any (w : World) (s : ByteArray) : Calls Try.prog 16 #[.string s, .int .i64 20] w fun e w' => (∃ t : ByteArray, e = .returned (.string t) ∧ t.size ≤ 20) ∧ w' = w := by
  by_cases h : 20 < s.size
  · go_enter Try.func16, Try.ntmps16
    go_wp2
    go_ret
    exact ⟨⟨s.extract 0 20, rfl, by simp; omega⟩, rfl⟩
  · go_enter Try.func16, Try.ntmps16
    go_wp2
    go_ret
    exact ⟨⟨s, rfl, by omega⟩, rfl⟩

theorem within_any (w : World) (n : Int) :
    Calls Try.prog 17 #[.int .i64 n, .int .i64 0, .int .i64 2] w fun e w' => (∃ r : Nat, r ≤ 2 ∧ e = .returned (.int .i64 (r : Int))) ∧ w' = w := by
  have t1 : n.tmod 3 < 3 := Int.tmod_lt_of_pos n (by omega)
  have t2 : -3 < n.tmod 3 := Int.lt_tmod_of_pos n (by omega)
  go_enter Try.func17, Try.ntmps17
  go_wp2
  · go_ret
    refine ⟨⟨(n.tmod 3 + 3).toNat, by omega, ?_⟩, rfl⟩
    show Ending.returned (.int .i64 _) = _
    congr 2
    omega
  · go_ret
    refine ⟨⟨(n.tmod 3).toNat, by omega, ?_⟩, rfl⟩
    show Ending.returned (.int .i64 _) = _
    congr 2
    omega

theorem decode_pos (s : ByteArray) (i : Nat) : 1 ≤ (Utf8.decode s i).2 := by
  unfold Utf8.decode
  simp only []
  repeat' split
  all_goals simp

/-- Runes of a line: none of them NUL, LF or CR. -/
def plain (l : List Int) : Prop := ∀ r, r ∈ l → good r ∧ r ≠ 0 ∧ r ≠ 10 ∧ r ≠ 13

/-- Lines in the making: what is told, and what must come of it. -/
structure Page (a b : ByteArray) (xs ys : List Int) (k : Nat) : Prop where
  left : a = strOfNums (encs xs)
  right : b = strOfNums (encs ys)
  head : ∃ t, xs = 120 :: t
  good : ∀ r, r ∈ xs → good r
  same : lines xs = ys
  len : xs.length ≤ 1 + 23 * k
  lem : ys.length ≤ 1 + 23 * k

theorem Page.start : Page ⟨#[120]⟩ ⟨#[120]⟩ [120] [120] 0 := by
  have h : encs [120] = [120] := by
    rw [encs_low (by decide) (by decide)]
    rfl
  exact ⟨by rw [h]; rfl, by rw [h]; rfl, ⟨[], rfl⟩, fun r hr => by simp at hr; subst hr; exact Or.inl (by omega), rfl, by simp, by simp⟩

theorem ends_good (e : Nat) : ∀ r, r ∈ ends e → good r := fun r hr => by
  unfold ends at hr
  split at hr
  · simp at hr; subst hr; exact Or.inl (by omega)
  · simp at hr; rcases hr with rfl | rfl <;> exact Or.inl (by omega)
  · simp at hr; subst hr; exact Or.inl (by omega)

theorem ends_len (e : Nat) : (ends e).length ≤ 2 := by
  unfold ends
  split <;> simp

/-- One more line. -/
theorem Page.more {a b : ByteArray} {xs ys : List Int} {k : Nat} (h : Page a b xs ys k) (ss : List Int) (hp : plain ss) (hl : ss.length ≤ 20) (e : Nat) (t : ByteArray) (ht : t = strOfNums (encs (ends e))) :
    Page (a ++ strOfNums (encs ss) ++ ⟨#[122]⟩ ++ t) (b ++ strOfNums (encs ss) ++ ⟨#[122, 10]⟩) (xs ++ (ss ++ [122] ++ ends e)) (ys ++ (ss ++ [122] ++ [10])) (k + 1) := by
  have z1 : (⟨#[122]⟩ : ByteArray) = strOfNums (encs [122]) := by
    rw [encs_low (by decide) (by decide)]
    rfl
  have z2 : (⟨#[122, 10]⟩ : ByteArray) = strOfNums (encs ([122] ++ [10])) := by
    rw [List.cons_append, encs_low (by decide) (by decide), List.nil_append, encs_low (by decide) (by decide)]
    rfl
  obtain ⟨h1, h2, ⟨t0, h3⟩, h4, h5, h6, h7⟩ := h
  have hend := ends_len e
  refine ⟨?_, ?_, ⟨t0 ++ (ss ++ [122] ++ ends e), by rw [h3]; rfl⟩, fun r hr => ?_, ?_, ?_, ?_⟩
  · rw [h1, z1, ht, ← strs_append, ← strs_append, ← strs_append, ← encs_append, ← encs_append, ← encs_append]
    simp
  · rw [h2, z2, ← strs_append, ← strs_append, ← encs_append, ← encs_append]
    simp
  · rcases List.mem_append.1 hr with h8 | h8
    · exact h4 r h8
    rcases List.mem_append.1 h8 with h8 | h8
    · rcases List.mem_append.1 h8 with h8 | h8
      · exact (hp r h8).1
      · simp at h8
        subst h8
        exact Or.inl (by omega)
    · exact ends_good e r h8
  · rw [lines_append _ (by
      cases ss with
      | nil => simp
      | cons r rs =>
        simp
        exact (hp r (by simp)).2.2.1), h5, lines_line ss (fun r hr => ⟨(hp r hr).2.1, (hp r hr).2.2.2⟩)]
  · simp only [List.length_append, List.length_singleton]
    omega
  · simp only [List.length_append, List.length_singleton]
    omega

theorem Page.size {a b : ByteArray} {xs ys : List Int} {k : Nat} (h : Page a b xs ys k) (hk : k ≤ 12) : a.size ≤ 2000 ∧ b.size ≤ 2000 := by
  have e1 := encs_len xs
  have e2 := encs_len ys
  have l1 := h.len
  have l2 := h.lem
  rw [h.left, h.right, strOfNums_size, strOfNums_size]
  omega

/-- Made ready, with a mark or without one. -/
theorem Page.ready {a b : ByteArray} {xs ys : List Int} {k : Nat} (h : Page a b xs ys k) : bytesOf a = encs xs ∧ prep (encs xs) = ys ∧ prep (mark ++ encs xs) = ys := by
  obtain ⟨t, h3⟩ := h.head
  have hd : lines (dec (encs xs)) = ys := by rw [dec_encs xs h.good, h.same]
  have hs : strip (encs xs) = encs xs := by
    rw [h3, encs_low (by decide) (by decide)]
    exact strip_low (by decide) _
  refine ⟨by rw [h.left]; exact bytes_strs (encs_byt xs), ?_, ?_⟩
  · unfold prep
    rw [hs, hd]
  · unfold prep
    rw [show mark ++ encs xs = 239 :: 187 :: 191 :: encs xs from rfl, strip_mark, hd]

end Go.Proofs.Ytinafcajaikfdaa
