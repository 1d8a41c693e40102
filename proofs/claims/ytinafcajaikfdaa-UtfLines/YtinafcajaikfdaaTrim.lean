/-
  A mark at the beginning is taken away: the library's Equal, HasPrefix and TrimPrefix.
-/
import Derived.Test.YtinafcajaikfdaaDec
import Derived.Test.YtinafcajaikfdaaEnc
import Derived.Lib.Bytes
namespace Go.Proofs.Ytinafcajaikfdaa
open Go.RowKit Utf

/-- string(b), of bytes that are read. -/
theorem conv_rb {w : World} {ao : Option Addr} {n c : Nat} {xs : List Int} (h : Rb w ao n c (b8 xs)) : (convert 23 9 (.slice ao n c)).run Try.prog w = .ok (.string (strOfNums xs)) w := by
  have hl := h.len
  rw [b8_len] at hl
  by_cases h0 : n = 0
  · have hx : xs = [] := List.eq_nil_of_length_eq_zero (by omega)
    subst hx
    cases ao with
    | none =>
      rw [run_convert_bytes_nil (P := Try.prog) w 23 5 Try.underlying23 Try.underlying5 n c 9 Try.underlying9]
      rfl
    | some a =>
      subst h0
      obtain ⟨b, o, p⟩ := a
      have hz : (loadCells ⟨b, o, p⟩ 0).run Try.prog w = .ok #[] w := by simpa using run_loadCells_list (P := Try.prog) w ⟨b, o, p⟩ [] (by simp)
      simp [convert, run_underlying Try.underlying23, run_underlying Try.underlying9, run_underlying Try.underlying5, Conv.bytesToString, hz, strOfNums]
      rfl
  · obtain ⟨b, off, rfl, _⟩ := h.at' 0 (by omega)
    refine run_convert_bytes_arg (P := Try.prog) w 23 5 Try.underlying23 Try.underlying5 b off n c xs hl.symm (fun i hi => ?_) 9 Try.underlying9
    obtain ⟨b', off', h1, h2⟩ := h.at' i hi
    simp only [Option.some.injEq, Addr.mk.injEq] at h1
    obtain ⟨rfl, rfl, _⟩ := h1
    rw [h2]
    simp [b8, show i < xs.length by omega]

theorem strs_inj {xs ys : List Int} (hx : byt xs) (hy : byt ys) (h : strOfNums xs = strOfNums ys) : xs = ys := by
  rw [← bytes_strs hx, ← bytes_strs hy, h]

theorem equal_any (w : World) (ao bo : Option Addr) (n c m d : Nat) (xs ys : List Int) (h : Rb w ao n c (b8 xs)) (k : Rb w bo m d (b8 ys)) (hx : byt xs) (hy : byt ys) :
    Calls Try.prog 31 #[.slice ao n c, .slice bo m d] w fun e w' => e = .returned (.bool (decide (xs = ys))) ∧ w' = w := by
  have h1 := conv_rb h
  have k1 := conv_rb k
  have HE : Hid (((strOfNums xs).toList == (strOfNums ys).toList) = decide (xs = ys)) := by
    show _ = _
    by_cases he : xs = ys
    · subst he
      simp
    · have : (strOfNums xs).toList ≠ (strOfNums ys).toList := fun h => by
        rw [Lib.strOfNums_toList, Lib.strOfNums_toList] at h
        exact he (strs_inj hx hy (ByteArray.ext (Array.toList_inj.1 h)))
      simp [he, this]
  clear h k
  go_enter Try.func31, Try.ntmps31
  go_wp2
  go_ret
  exact ⟨by rw [← HE.out]; rfl, rfl⟩

/-- The mark. -/
def mark : List Int := [239, 187, 191]

theorem strip_yes {bs : List Int} (h : bs.take 3 = mark) : strip bs = bs.drop 3 := by
  match bs, h with
  | a :: b :: c :: r, h =>
    simp [mark] at h
    obtain ⟨rfl, rfl, rfl⟩ := h
    rfl
  | [], h => simp [mark] at h
  | [_], h => simp [mark] at h
  | [_, _], h => simp [mark] at h

theorem strip_no {bs : List Int} (h : bs.take 3 ≠ mark) : strip bs = bs := by
  unfold strip
  split
  · exact absurd rfl h
  · rfl

theorem mark_byt : byt mark := fun x hx => by
  simp [mark] at hx
  omega

theorem prefix_any (w : World) (ao bo : Option Addr) (n c d : Nat) (bs : List Int) (h : Rb w ao n c (b8 bs)) (k : Rb w bo 3 d (b8 mark)) (hb : byt bs) :
    Calls Try.prog 29 #[.slice ao n c, .slice bo 3 d] w fun e w' => e = .returned (.bool (decide (bs.take 3 = mark))) ∧ w' = w := by
  have hl := h.len
  rw [b8_len] at hl
  have hc := h.cap
  by_cases h3 : 3 ≤ n
  · have ht := h.take 3 h3
    rw [b8_take] at ht
    have HE := equal_any w ao bo 3 c 3 d _ _ ht k (byt_take hb 3) mark_byt
    clear h k ht hl
    go_enter Try.func29, Try.ntmps29
    go_wp2_with fail
    refine HE.mono ?_
    rintro e w1 ⟨rfl, rfl⟩
    clear HE
    go_wp2
    go_ret
    exact ⟨rfl, rfl⟩
  · have HN : Hid (decide (bs.take 3 = mark) = false) := by
      show _ = _
      simp only [decide_eq_false_iff_not]
      intro he
      have := congrArg List.length he
      rw [List.length_take] at this
      simp [mark] at this
      omega
    rw [HN.out]
    clear h k hl
    go_enter Try.func29, Try.ntmps29
    go_wp2
    go_ret
    exact ⟨rfl, rfl⟩

theorem trim_any (w : World) (ao bo : Option Addr) (n c d : Nat) (bs : List Int) (h : Rb w ao n c (b8 bs)) (k : Rb w bo 3 d (b8 mark)) (hb : byt bs) :
    Calls Try.prog 24 #[.slice ao n c, .slice bo 3 d] w fun e w' => (∃ ao' n' c', e = .returned (.slice ao' n' c') ∧ n' ≤ n ∧ Rb w ao' n' c' (b8 (strip bs))) ∧ w' = w := by
  have HP := prefix_any w ao bo n c d bs h k hb
  have hl := h.len
  rw [b8_len] at hl
  have hc := h.cap
  by_cases hm : bs.take 3 = mark
  · rw [decide_eq_true hm] at HP
    have h3 : 3 ≤ n := by
      have := congrArg List.length hm
      rw [List.length_take] at this
      simp [mark] at this
      omega
    have hd := h.drop 3 h3
    rw [b8_drop, ← strip_yes hm] at hd
    obtain ⟨q, off, rfl, _⟩ := h.at' 0 (by omega)
    unfold offAt at hd
    simp only [Option.map, Addr.add_lit] at hd
    clear h k hl hm
    by_cases hc3 : c = 3
    · rw [if_pos hc3] at hd
      obtain rfl : n = 3 := by omega
      subst hc3
      go_enter Try.func24, Try.ntmps24
      go_wp2_with fail
      refine HP.mono ?_
      rintro e w1 ⟨rfl, rfl⟩
      clear HP
      go_wp2
      go_ret
      exact ⟨⟨_, _, _, rfl, by omega, hd⟩, rfl⟩
    · rw [if_neg hc3] at hd
      go_enter Try.func24, Try.ntmps24
      go_wp2_with fail
      refine HP.mono ?_
      rintro e w1 ⟨rfl, rfl⟩
      clear HP
      go_wp2
      go_ret
      exact ⟨⟨_, _, _, rfl, by omega, hd⟩, rfl⟩
  · rw [decide_eq_false hm] at HP
    rw [strip_no hm]
    clear k hl hm hb
    go_enter Try.func24, Try.ntmps24
    go_wp2_with fail
    refine HP.mono ?_
    rintro e w1 ⟨rfl, rfl⟩
    clear HP
    go_wp2
    go_ret
    exact ⟨⟨_, _, _, rfl, Nat.le_refl _, h⟩, rfl⟩

end Go.Proofs.Ytinafcajaikfdaa
