/-
  The walk of ScanFolds: it answers true, for any arguments, and leaves what was there as it was.
-/
import Derived.Test.YtoegjgajleamkaaFinds
namespace Go.Proofs.Ytoegjgajleamkaa
open Go.RowKit Utf

/-- A byte as a capital. -/
def upb (x : Int) : Int := if 97 ≤ x ∧ x ≤ 122 then x - 32 else x
/-- The first k bytes are capitals. -/
def halfU (l : List Int) (k : Nat) : List Int := (l.take k).map upb ++ l.drop k

theorem halfU_len (l : List Int) (k : Nat) (hk : k ≤ l.length) : (halfU l k).length = l.length := by
  simp [halfU]
  omega
theorem halfU_zero (l : List Int) : halfU l 0 = l := by simp [halfU]
theorem halfU_all (l : List Int) : halfU l l.length = l.map upb := by simp [halfU]
theorem halfU_at (l : List Int) (k : Nat) (hk : k < l.length) (h : k < (halfU l k).length) : (halfU l k)[k] = l[k] := by
  simp [halfU, Nat.min_eq_left (Nat.le_of_lt hk)]
theorem halfU_set (l : List Int) (k : Nat) (hk : k < l.length) : (halfU l k).set k (upb l[k]) = halfU l (k + 1) := by
  unfold halfU
  rw [List.take_succ_eq_append_getElem hk, List.drop_eq_getElem_cons hk, List.map_append, List.set_append_right _ _ (by simp; omega)]
  simp only [List.length_map, List.length_take, Nat.min_eq_left (Nat.le_of_lt hk), Nat.sub_self, List.set_cons_zero, List.map_cons, List.map_nil, List.append_assoc, List.singleton_append]
theorem halfU_same (l : List Int) (k : Nat) (hk : k < l.length) (h : upb l[k] = l[k]) : halfU l (k + 1) = halfU l k := by
  rw [← halfU_set l k hk, h]
  have h2 : k < (halfU l k).length := by rw [halfU_len l k (by omega)]; exact hk
  have := halfU_at l k hk h2
  rw [← this]
  simp

theorem low_upb (x : Int) : low (upb x) = low x := by
  unfold low upb
  repeat' split
  all_goals omega

/-- A text in capitals. -/
def upper (s : ByteArray) : ByteArray := strOfNums ((bytesOf s).map upb)
theorem upb_byt {l : List Int} (h : byt l) : byt (l.map upb) := fun x hx => by
  obtain ⟨y, hy, rfl⟩ := List.mem_map.1 hx
  have := h y hy
  unfold upb
  split <;> omega
theorem upper_bytes (s : ByteArray) : bytesOf (upper s) = (bytesOf s).map upb := bytes_strs (upb_byt (bytes_byt s))
theorem upper_size (s : ByteArray) : (upper s).size = s.size := by rw [← bytes_len, upper_bytes, List.length_map, bytes_len]
theorem bt_upper (s : ByteArray) (j : Nat) : bt (upper s) j = upb (bt s j) := by
  unfold bt
  rw [upper_bytes, List.getD_eq_getElem?_getD, List.getD_eq_getElem?_getD, List.getElem?_map]
  cases (bytesOf s)[j]? with
  | none => rfl
  | some x => rfl

theorem ext_size {s : ByteArray} {a b : Nat} (h : b ≤ s.size) : (s.extract a b).size = b - a := by simp; omega

theorem st_piece {s : ByteArray} {a b : Nat} (h1 : a ≤ b) (h2 : b ≤ s.size) : st s a (s.extract a b) = true := by
  have hz := ext_size (a := a) h2
  exact st_true (by omega) fun j hj => by rw [bt_cut s a b j (by omega) h2]

theorem fo_piece {s : ByteArray} {a b : Nat} (h1 : a ≤ b) (h2 : b ≤ s.size) : fo s a (s.extract a b) = true := by
  have hz := ext_size (a := a) h2
  exact fo_true (by omega) fun j hj => by rw [bt_cut s a b j (by omega) h2]

theorem fo_upper {s : ByteArray} {a b : Nat} (h1 : a ≤ b) (h2 : b ≤ s.size) : fo s a (upper (s.extract a b)) = true := by
  have hz := ext_size (a := a) h2
  refine fo_true (by rw [upper_size]; omega) fun j hj => ?_
  rw [upper_size] at hj
  rw [bt_upper, low_upb, bt_cut s a b j (by omega) h2]

theorem st_upper {s : ByteArray} {a b : Nat} (h1 : a ≤ b) (h2 : b ≤ s.size) : st s a (upper (s.extract a b)) = ((upper (s.extract a b)).toList == (s.extract a b).toList) := by
  have hz := ext_size (a := a) h2
  rw [st_cut (by rw [upper_size]; omega), upper_size, hz, show a + (b - a) = b by omega, list_eq, decide_eq_decide]
  exact eq_comm

theorem fold_at (w : World) (s : ByteArray) (p : Nat) (sub : ByteArray) (hp : p ≤ s.size) (hs : s.size ≤ 100000) : Calls Try.prog 18 #[.string s, .int .i64 (p : Int), .string sub] w fun e w' => e = .returned (.bool (fo s p sub)) ∧ Kp [] w w' := by
  have := fold_any w s p sub hs
  rw [pl_of hp] at this
  exact this

set_option maxRecDepth 100000 in
set_option maxHeartbeats 1000000 in
theorem folds_any (w : World) (s0 : ByteArray) (p n : Int) : Calls Try.prog 7 #[.string s0, .int .i64 p, .int .i64 n] w fun e w' => e = .returned (.bool true) ∧ Kp [] w w' := by
  have H1 := head_any w s0 60 60 rfl (by omega)
  have hs := cutB_size s0 60
  generalize cutB s0 60 = s at H1 hs
  have H3 := from_zero w p s.size (by omega)
  have ha := wi_le p s.size
  generalize wi p s.size = a at H3 ha
  have H4 := within_any w n a s.size ha (by omega)
  obtain ⟨b, hb⟩ : ∃ b, a + wi n (s.size - a) = b := ⟨_, rfl⟩
  have hb1 : a ≤ b := by omega
  have hb2 : b ≤ s.size := by have := wi_le n (s.size - a); omega
  rw [hb] at H4
  clear hb
  obtain ⟨W, c, hcv, hc, lay⟩ := to_bytes w (s.extract a b)
  have hbl := bytes_len (s.extract a b)
  have hby := bytes_byt (s.extract a b)
  have hz := ext_size (a := a) hb2
  obtain ⟨m, hm⟩ : ∃ m, (s.extract a b).size = m := ⟨_, rfl⟩
  have hm2 : m ≤ 60 := by omega
  rw [hm] at hcv hc hbl
  have HX : Hid (upper (s.extract a b) = strOfNums ((bytesOf (s.extract a b)).map upb)) := rfl
  have HS1 : Hid (∀ V, Calls Try.prog 14 #[.string s, .int .i64 (a : Int), .string (s.extract a b)] V fun e w' => e = .returned (.bool true) ∧ Kp [] V w') := fun V => by
    have := starts_at V s a (s.extract a b) ha (by omega)
    rw [st_piece hb1 hb2] at this
    exact this
  have HS2 : Hid (∀ V, Calls Try.prog 18 #[.string s, .int .i64 (a : Int), .string (s.extract a b)] V fun e w' => e = .returned (.bool true) ∧ Kp [] V w') := fun V => by
    have := fold_at V s a (s.extract a b) ha (by omega)
    rw [fo_piece hb1 hb2] at this
    exact this
  have HS3 : Hid (∀ V, Calls Try.prog 18 #[.string s, .int .i64 (a : Int), .string (upper (s.extract a b))] V fun e w' => e = .returned (.bool true) ∧ Kp [] V w') := fun V => by
    have := fold_at V s a (upper (s.extract a b)) ha (by omega)
    rw [fo_upper hb1 hb2] at this
    exact this
  have HS4 : Hid (∀ V, Calls Try.prog 14 #[.string s, .int .i64 (a : Int), .string (upper (s.extract a b))] V fun e w' => e = .returned (.bool ((upper (s.extract a b)).toList == (s.extract a b).toList)) ∧ Kp [] V w') := fun V => by
    have := starts_at V s a (upper (s.extract a b)) ha (by omega)
    rw [st_upper hb1 hb2] at this
    exact this
  generalize bytesOf (s.extract a b) = l at lay hbl hby HX
  generalize upper (s.extract a b) = X at HX HS3 HS4
  generalize w.heap.size = g at lay hcv
  have b1 : (0 : Int) ≤ (a : Int) := by omega
  have b2 : (a : Int) ≤ (b : Int) := by omega
  have b3 : (b : Int) ≤ (s.size : Int) := by omega
  have b4 : (0 : Int) ≤ (b : Int) := by omega
  clear hm hz
  go_enter Try.func7, Try.ntmps7
  go_wp2_with fail
  refine H1.mono ?_
  rintro e w1 ⟨rfl, rfl⟩
  clear H1
  go_wp2_with fail
  refine H3.mono ?_
  rintro e w3 ⟨rfl, rfl⟩
  clear H3
  go_wp2_with fail
  refine H4.mono ?_
  rintro e w4 ⟨rfl, rfl⟩
  clear H4
  go_wp2
  clear hcv
  go_loopw [9] (fun i wr => ∃ k : Nat, k ≤ m ∧ i = .int .i64 k ∧ Lay w4 wr g (halfU l k)) (fun i _ => m - (intOf i).toNat)
  case atStart => exact ⟨0, Nat.zero_le _, rfl, by rw [halfU_zero]; exact lay⟩
  case round =>
    obtain ⟨k, hk, rfl, hm⟩ := hrel
    clear lay
    by_cases hlt : k < m
    · have hk2 : k < l.length := by omega
      have hh := halfU_len l k (by omega)
      have hcell := hm.at' k (by omega)
      have hfree := hm.free k (by omega)
      rw [halfU_at l k hk2] at hcell
      obtain ⟨x0, x1⟩ := hby l[k] (List.getElem_mem hk2)
      by_cases hx : 97 ≤ l[k] ∧ l[k] ≤ 122
      · have hs : Hid (Lay w4 (wr.setCell ⟨g, k, none⟩ (.int .u8 (l[k] - 32))) g (halfU l (k + 1))) := by
          have := hm.set k (by omega) (upb l[k])
          rw [halfU_set l k hk2] at this
          rw [show upb l[k] = l[k] - 32 by simp [upb, hx]] at this
          exact this
        obtain ⟨hx1, hx2⟩ := hx
        generalize l[k] = x at hcell x0 x1 hx1 hx2 hs
        clear hm hh
        go_wp2
        go_roundw
        case rel => exact ⟨k + 1, by omega, by go_num, hs.out⟩
        case measure => simp [intOf]; omega
      · have hs : Hid (Lay w4 wr g (halfU l (k + 1))) := by
          show Lay _ _ _ _
          rw [halfU_same l k hk2 (by simp [upb, hx])]
          exact hm
        generalize l[k] = x at hcell x0 x1 hx hs
        clear hm hh
        rcases (show ¬ 97 ≤ x ∨ (97 ≤ x ∧ ¬ x ≤ 122) by omega) with d1 | ⟨d1, d2⟩
        all_goals
          clear hx
          go_wp2
          go_roundw
          case rel => exact ⟨k + 1, by omega, by go_num, hs.out⟩
          case measure => simp [intOf]; omega
    · obtain rfl : k = m := by omega
      rw [← hbl, halfU_all] at hm
      have hrb := hm.rb (c := c) (by simp; omega)
      rw [List.length_map, hbl] at hrb
      have HV : Hid (∀ V, Kp [] wr V → (convert 31 9 (.slice (some ⟨g, 0, none⟩) k c)).run Try.prog V = .ok (.string X) V) := fun V kV => by
        rw [HX.out]
        exact conv_rb (hrb.kept kV)
      have hkp := hm.kp
      have v0 := HV.out wr (Kp.refl _ _)
      clear hm hrb HX hby hbl
      obtain ⟨t, ht⟩ : ∃ t, (X.toList == (s.extract a b).toList) = t := ⟨_, rfl⟩
      have htt : (t == t) = true := by simp
      rw [ht] at HS4
      go_wp2_with fail
      go_region_held3 (fun V => (convert 31 9 (.slice (some ⟨g, 0, none⟩) k c)).run Try.prog V = .ok (.string X) V)
        (first
          | exact HV.out _ S5.out
          | exact HV.out _ S4.out
          | exact HV.out _ S3.out
          | exact HV.out _ S2.out
          | exact HV.out _ S1.out
          | exact HV.out _ (Kp.refl [] wr).drew)
        (first
          | (go_at_call 10; refine (known_any _).mono ?_; rintro e v5 ⟨rfl, kk⟩; have S5 : Hid (Kp [] wr v5) := S4.out.trans kk (fun x hx => by simp at hx); clear kk)
          | (go_at_call 14; have D4 := S3.out; refine (HS4.out _).mono ?_; rintro e v4 ⟨rfl, kk⟩; have S4 : Hid (Kp [] wr v4) := S3.out.trans kk (fun x hx => by simp at hx); clear kk)
          | (go_at_call 18; have D3 := S2.out; refine (HS3.out _).mono ?_; rintro e v3 ⟨rfl, kk⟩; have S3 : Hid (Kp [] wr v3) := S2.out.trans kk (fun x hx => by simp at hx); clear kk)
          | (go_at_call 18; refine (HS2.out _).mono ?_; rintro e v2 ⟨rfl, kk⟩; have S2 : Hid (Kp [] wr v2) := S1.out.trans kk (fun x hx => by simp at hx); clear kk)
          | (go_at_call 14; refine (HS1.out _).mono ?_; rintro e v1 ⟨rfl, kk⟩; have S1 : Hid (Kp [] wr v1) := (Kp.refl [] wr).drew.trans kk (fun x hx => by simp at hx); clear kk))
      go_wp2
      go_ret
      exact ⟨rfl, hkp.trans S5.out (fun x hx => by simp at hx)⟩

end Go.Proofs.Ytoegjgajleamkaa
