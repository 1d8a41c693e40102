/-
  Small letters: the program's and the document's Lower, and the program's Same, of any text.
-/
import Derived.Test.YthdlmglnieomeaaBase
import Derived.Lib.Bytes
namespace Go.Proofs.Ythdlmglnieomeaa
open Go.RowKit Utf

/-- A byte as a small letter. -/
def low (x : Int) : Int := if 65 ≤ x ∧ x ≤ 90 then x + 32 else x
/-- A text in small letters. -/
def lower (s : ByteArray) : ByteArray := strOfNums ((bytesOf s).map low)
/-- The first k bytes are small. -/
def half (l : List Int) (k : Nat) : List Int := (l.take k).map low ++ l.drop k

theorem half_len (l : List Int) (k : Nat) (hk : k ≤ l.length) : (half l k).length = l.length := by
  simp [half]
  omega
theorem half_zero (l : List Int) : half l 0 = l := by simp [half]
theorem half_all (l : List Int) : half l l.length = l.map low := by simp [half]
theorem half_at (l : List Int) (k : Nat) (hk : k < l.length) (h : k < (half l k).length) : (half l k)[k] = l[k] := by
  simp [half, Nat.min_eq_left (Nat.le_of_lt hk)]
theorem half_set (l : List Int) (k : Nat) (hk : k < l.length) : (half l k).set k (low l[k]) = half l (k + 1) := by
  unfold half
  rw [List.take_succ_eq_append_getElem hk, List.drop_eq_getElem_cons hk, List.map_append, List.set_append_right _ _ (by simp; omega)]
  simp only [List.length_map, List.length_take, Nat.min_eq_left (Nat.le_of_lt hk), Nat.sub_self, List.set_cons_zero, List.map_cons, List.map_nil, List.append_assoc, List.singleton_append]
theorem half_same (l : List Int) (k : Nat) (hk : k < l.length) (h : low l[k] = l[k]) : half l (k + 1) = half l k := by
  rw [← half_set l k hk, h]
  have h2 : k < (half l k).length := by rw [half_len l k (by omega)]; exact hk
  have := half_at l k hk h2
  rw [← this]
  simp

/-- In block g, made since w, lie the bytes ys. -/
structure Lay (w wr : World) (g : Nat) (ys : List Int) : Prop where
  kp : Kp [] w wr
  new : w.heap.size ≤ g
  at' : ∀ j (h : j < ys.length), wr.cell? ⟨g, j, none⟩ = some (.int .u8 ys[j])
  free : ∀ j, j < ys.length → wr.frozen? ⟨g, j, none⟩ = false

/-- []byte(s). -/
theorem to_bytes (w : World) (s : ByteArray) : ∃ W c, (convert 9 56 (.string s)).run Try.prog w = .ok (.slice (some ⟨w.heap.size, 0, none⟩) s.size c) W ∧ s.size ≤ c ∧ Lay w W w.heap.size (bytesOf s) := by
  refine ⟨_, _, Lib.run_convert_string_bytes (P := Try.prog) w 9 56 5 s Try.underlying9 Try.underlying56 Try.underlying5, grownCap_ge w s.size 0 5, ⟨⟨rfl, rfl, rfl, ?_, fun k hk _ => Lib.bytesWorld_at_old w 5 s k hk⟩, Nat.le_refl _, fun j hj => ?_, fun j hj => ?_⟩⟩
  · rw [Lib.bytesWorld_size]
    omega
  · rw [bytes_len] at hj
    rw [Lib.bytesWorld_cell w 5 s j hj]
    simp [bytesOf, List.getD, hj]
  · rw [bytes_len] at hj
    simp only [World.frozen?, Lib.bytesWorld_at_new]
    have h2 : s.size ≤ (Lib.bytesCells w 5 s).size := by
      simp [Lib.bytesCells]
    simp
    omega

theorem Lay.set {w wr : World} {g : Nat} {ys : List Int} (h : Lay w wr g ys) (k : Nat) (hk : k < ys.length) (x : Int) : Lay w (wr.setCell ⟨g, k, none⟩ (.int .u8 x)) g (ys.set k x) := by
  refine ⟨h.kp.setCell (Or.inr h.new) _, h.new, fun j hj => ?_, fun j hj => ?_⟩
  · have hj2 : j < ys.length := by simpa using hj
    by_cases he : j = k
    · subst he
      rw [World.cell?_setCell_same _ _ _ (h.at' j hj2)]
      simp
    · rw [World.cell?_setCell_other _ _ _ _ (fun e => he (congrArg Addr.off e).symm), h.at' j hj2, List.getElem_set_ne (fun e => he e.symm)]
  · rw [World.frozen?_setCell]
    exact h.free j (by simpa using hj)

theorem Lay.rb {w wr : World} {g c : Nat} {ys : List Int} (h : Lay w wr g ys) (hc : ys.length ≤ c) : Rb wr (some ⟨g, 0, none⟩) ys.length c (b8 ys) :=
  ⟨(b8_len ys).symm, hc, fun j hj => ⟨g, 0, rfl, by rw [Nat.zero_add, h.at' j hj]; simp [b8, hj]⟩⟩

set_option maxHeartbeats 1000000 in
set_option maxRecDepth 100000 in
theorem lower_any (w : World) (s : ByteArray) (hl : s.size ≤ 100000) : Calls Try.prog 39 #[.string s] w fun e w' => e = .returned (.string (lower s)) ∧ Kp [] w w' := by
  obtain ⟨W, c, hcv, hc, lay⟩ := to_bytes w s
  have hbl := bytes_len s
  have hby := bytes_byt s
  have HL : Hid (lower s = strOfNums ((bytesOf s).map low)) := rfl
  generalize bytesOf s = l at lay hbl hby HL
  generalize w.heap.size = g at lay hcv
  obtain ⟨n, hn⟩ : ∃ n, n = s.size := ⟨_, rfl⟩
  rw [← hn] at hcv hc hbl hl
  rw [HL.out]
  clear HL
  go_enter Try.func39, Try.ntmps39
  go_wp2
  rw [← hn]
  clear hn hcv
  go_loopw [10] (fun i wr => ∃ k : Nat, k ≤ n ∧ i = .int .i64 k ∧ Lay w wr g (half l k)) (fun i _ => n - (intOf i).toNat)
  case atStart => exact ⟨0, Nat.zero_le _, rfl, by rw [half_zero]; exact lay⟩
  case round =>
    obtain ⟨k, hk, rfl, hm⟩ := hrel
    clear lay
    by_cases hlt : k < n
    · have hk2 : k < l.length := by omega
      have hh := half_len l k (by omega)
      have hcell := hm.at' k (by omega)
      have hfree := hm.free k (by omega)
      rw [half_at l k hk2] at hcell
      obtain ⟨x0, x1⟩ := hby l[k] (List.getElem_mem hk2)
      by_cases hx : 65 ≤ l[k] ∧ l[k] ≤ 90
      · have hs : Hid (Lay w (wr.setCell ⟨g, k, none⟩ (.int .u8 (l[k] + 32))) g (half l (k + 1))) := by
          have := hm.set k (by omega) (low l[k])
          rw [half_set l k hk2] at this
          rw [show low l[k] = l[k] + 32 by simp [low, hx]] at this
          exact this
        obtain ⟨hx1, hx2⟩ := hx
        generalize l[k] = x at hcell x0 x1 hx1 hx2 hs
        clear hm hh
        go_wp2
        go_roundw
        case rel => exact ⟨k + 1, by omega, by go_num, hs.out⟩
        case measure => simp [intOf]; omega
      · have hs : Hid (Lay w wr g (half l (k + 1))) := by
          show Lay _ _ _ _
          rw [half_same l k hk2 (by simp [low, hx])]
          exact hm
        generalize l[k] = x at hcell x0 x1 hx hs
        clear hm hh
        rcases (show ¬ 65 ≤ x ∨ (65 ≤ x ∧ ¬ x ≤ 90) by omega) with d1 | ⟨d1, d2⟩
        all_goals
          clear hx
          go_wp2
          go_roundw
          case rel => exact ⟨k + 1, by omega, by go_num, hs.out⟩
          case measure => simp [intOf]; omega
    · obtain rfl : k = n := by omega
      rw [← hbl, half_all] at hm
      have hrb := hm.rb (c := c) (by simp; omega)
      rw [List.length_map, hbl] at hrb
      have hcv := conv_rb hrb
      have hk := hm.kp
      clear hm hrb
      go_wp2
      go_ret
      exact ⟨rfl, hk⟩

set_option maxHeartbeats 1000000 in
set_option maxRecDepth 100000 in
theorem ref_lower_any (w : World) (s : ByteArray) (hl : s.size ≤ 100000) : Calls Try.prog 30 #[.string s] w fun e w' => e = .returned (.string (lower s)) ∧ Kp [] w w' := by
  obtain ⟨W, c, hcv, hc, lay⟩ := to_bytes w s
  have hbl := bytes_len s
  have hby := bytes_byt s
  have HL : Hid (lower s = strOfNums ((bytesOf s).map low)) := rfl
  generalize bytesOf s = l at lay hbl hby HL
  generalize w.heap.size = g at lay hcv
  obtain ⟨n, hn⟩ : ∃ n, n = s.size := ⟨_, rfl⟩
  rw [← hn] at hcv hc hbl hl
  rw [HL.out]
  clear HL
  go_enter Try.func30, Try.ntmps30
  go_wp2
  rw [← hn]
  clear hn hcv
  go_loopw [4] (fun i wr => ∃ k : Nat, k ≤ n ∧ i = .int .i64 k ∧ Lay w wr g (half l k)) (fun i _ => n - (intOf i).toNat)
  case atStart => exact ⟨0, Nat.zero_le _, rfl, by rw [half_zero]; exact lay⟩
  case round =>
    obtain ⟨k, hk, rfl, hm⟩ := hrel
    clear lay
    by_cases hlt : k < n
    · have hk2 : k < l.length := by omega
      have hh := half_len l k (by omega)
      have hcell := hm.at' k (by omega)
      have hfree := hm.free k (by omega)
      rw [half_at l k hk2] at hcell
      obtain ⟨x0, x1⟩ := hby l[k] (List.getElem_mem hk2)
      by_cases hx : 65 ≤ l[k] ∧ l[k] ≤ 90
      · have hs : Hid (Lay w (wr.setCell ⟨g, k, none⟩ (.int .u8 (l[k] + 32))) g (half l (k + 1))) := by
          have := hm.set k (by omega) (low l[k])
          rw [half_set l k hk2] at this
          rw [show low l[k] = l[k] + 32 by simp [low, hx]] at this
          exact this
        obtain ⟨hx1, hx2⟩ := hx
        generalize l[k] = x at hcell x0 x1 hx1 hx2 hs
        clear hm hh
        go_wp2
        go_roundw
        case rel => exact ⟨k + 1, by omega, by go_num, hs.out⟩
        case measure => simp [intOf]; omega
      · have hs : Hid (Lay w wr g (half l (k + 1))) := by
          show Lay _ _ _ _
          rw [half_same l k hk2 (by simp [low, hx])]
          exact hm
        generalize l[k] = x at hcell x0 x1 hx hs
        clear hm hh
        rcases (show ¬ 65 ≤ x ∨ (65 ≤ x ∧ ¬ x ≤ 90) by omega) with d1 | ⟨d1, d2⟩
        all_goals
          clear hx
          go_wp2
          go_roundw
          case rel => exact ⟨k + 1, by omega, by go_num, hs.out⟩
          case measure => simp [intOf]; omega
    · obtain rfl : k = n := by omega
      rw [← hbl, half_all] at hm
      have hrb := hm.rb (c := c) (by simp; omega)
      rw [List.length_map, hbl] at hrb
      have hcv := conv_rb hrb
      have hk := hm.kp
      clear hm hrb
      go_wp2
      go_ret
      exact ⟨rfl, hk⟩

theorem low_low (x : Int) : low (low x) = low x := by
  unfold low
  repeat' split
  all_goals omega

theorem low_byt {l : List Int} (h : byt l) : byt (l.map low) := fun x hx => by
  obtain ⟨y, hy, rfl⟩ := List.mem_map.1 hx
  have := h y hy
  unfold low
  split <;> omega

theorem lower_bytes (s : ByteArray) : bytesOf (lower s) = (bytesOf s).map low := bytes_strs (low_byt (bytes_byt s))
theorem lower_size (s : ByteArray) : (lower s).size = s.size := by rw [← bytes_len, lower_bytes, List.length_map, bytes_len]
theorem lower_lower (s : ByteArray) : lower (lower s) = lower s := by
  refine bytes_inj ?_
  rw [lower_bytes, lower_bytes, List.map_map]
  exact List.map_congr_left fun x _ => low_low x

theorem list_eq (s t : ByteArray) : (s.toList == t.toList) = decide (s = t) := by
  by_cases h : s = t
  · subst h
    simp
  · have : s.toList ≠ t.toList := fun e => h (by
      rw [Lib.toList_data, Lib.toList_data] at e
      exact ByteArray.ext (Array.toList_inj.1 e))
    simp [h, this]

end Go.Proofs.Ythdlmglnieomeaa
