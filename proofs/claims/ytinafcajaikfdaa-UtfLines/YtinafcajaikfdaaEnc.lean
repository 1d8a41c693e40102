/-
  Runes, written as UTF-8: the library's AppendRune, the program's Encode, and the document's.
-/
import Derived.Test.YtinafcajaikfdaaBase
namespace Go.Proofs.Ytinafcajaikfdaa
open Go.RowKit Utf

/-- append of some, as a call makes it: its slice is built ahead of it. -/
theorem app_lit {P : Program} {t e : TypeId} {z : Value} {bytes : Nat} (ht : P.underlying t = some (.slice e)) (hi : (P.info? e).map (fun i => (i.zero, i.size, i.bytes)) = some (some z, 1, bytes)) (hz : z.cells = #[z]) (hby : bytes ≤ 1024)
    (w : World) (v : Value) (xs : List Value) (h : Own w e v xs) (arr : Array Value) (m : Nat) (hm : m = arr.size) (h0 : 0 < m) (hu : ∀ u, u ∈ arr.toList → u.oneCell' = true) (hlen : xs.length + m ≤ 1000000) :
    ∃ v' w', (∀ ty, (Builtin.append_ #[t, t] ty #[v, .slice (some ⟨w.heap.size, 0, none⟩) m m]).run P (w.alloc (.cells arr e)) = .ok v' w') ∧ Own w' e v' (xs ++ arr.toList) ∧ Kp (blk v) w w' ∧ (∀ k, k ∈ blk v' → k ∈ blk v ∨ w.heap.size ≤ k) ∧ (∃ a c, v' = .slice (some a) (xs.length + m) c) := by
  subst hm
  have hk1 : Kp (blk v) w (w.alloc (.cells arr e)) := (Kp.refl _ _).alloc _
  have hown1 : Own (w.alloc (.cells arr e)) e v xs := h.keep ((Kp.refl [] w).alloc _) (fun _ _ => by simp)
  have hg := heap_new w (.cells arr e)
  have hsrc : Src P 1 t (.slice (some ⟨w.heap.size, 0, none⟩) arr.size arr.size) arr.size arr.toList (w.alloc (.cells arr e)) :=
    Src.ofSlice _ ht ⟨w.heap.size, 0, none⟩ arr.size arr.size arr.toList (by simp) (fun j y hj => by
      rw [Addr.add_lit, cell_of hg, Nat.zero_add, ← Array.getElem?_toList]
      exact hj) hu
  obtain ⟨v', w2, hrun, hown2, hk2, hb2, hv2⟩ := app_any ht hi hz hby _ v _ hown1 _ arr.size _ hsrc (fun _ => h0) hlen
  refine ⟨v', w2, hrun, hown2, hk1.trans hk2 (fun x hx => Or.inl hx), fun k hk => ?_, hv2⟩
  rcases hb2 k hk with h1 | h1
  · exact Or.inl h1
  · right
    rw [h1]
    simp

/-- What becomes of a slice onto which bytes are appended. -/
def Grown (w : World) (v : Value) (xs ys : List Value) (e : Ending) (w' : World) : Prop :=
  ∃ a n c, e = .returned (.slice (some a) n c) ∧ Own w' 5 (.slice (some a) n c) (xs ++ ys) ∧ Kp (blk v) w w' ∧ (∀ k, k ∈ blk (.slice (some a) n c) → k ∈ blk v ∨ w.heap.size ≤ k)

theorem enc_bad {r : Int} (h : ¬ good r) : enc r = [239, 191, 189] := by
  have hv : Utf8.valid r = false := by
    unfold good at h
    unfold Utf8.valid
    simp
    omega
  have h1 : enc r = enc 65533 := by
    unfold enc Utf8.encode
    rw [hv, show Utf8.valid 65533 = true from rfl]
    rfl
  rw [h1, enc_good (Or.inr (by omega))]
  rfl

set_option maxHeartbeats 4000000 in
set_option maxRecDepth 100000 in
theorem append_two (w : World) (v : Value) (xs : List Value) (r : Int) (h0 : 128 ≤ r) (h1 : r ≤ 2047) (ho : Own w 5 v xs) (hl : xs.length + 4 ≤ 1000000) :
    Calls Try.prog 28 #[v, .int .i32 r] w fun e w' => Grown w v xs [.int .u8 (192 + r / 64), .int .u8 (128 + r % 64)] e w' := by
  obtain ⟨v', w2, hrun, o2, k2, b2, a2, c2, rfl⟩ := app_lit Try.underlying23 info5 rfl (by decide) w v xs ho #[.int .u8 (192 + r / 64), .int .u8 (128 + r % 64)] 2 rfl (by omega) (by simp [Value.oneCell']) (by omega)
  have F : Hid (Grown w v xs [.int .u8 (192 + r / 64), .int .u8 (128 + r % 64)] (.returned (.slice (some a2) (xs.length + 2) c2)) w2) := ⟨_, _, _, rfl, o2, k2, b2⟩
  clear o2 k2 b2 ho
  go_enter Try.func28, Try.ntmps28
  go_wp2_with (at_builtin; refine Lib.wpList_append_run _ rfl _ _ _ _ rfl _ _ rfl rfl _ _ (hrun _) ?_)
  go_ret
  exact F.out

set_option maxHeartbeats 4000000 in
set_option maxRecDepth 100000 in
theorem append_lo (w : World) (v : Value) (xs : List Value) (r : Int) (h0 : 2048 ≤ r) (h1 : r < 55296) (ho : Own w 5 v xs) (hl : xs.length + 4 ≤ 1000000) :
    Calls Try.prog 28 #[v, .int .i32 r] w fun e w' => Grown w v xs [.int .u8 (224 + r / 4096), .int .u8 (128 + r / 64 % 64), .int .u8 (128 + r % 64)] e w' := by
  obtain ⟨v', w2, hrun, o2, k2, b2, a2, c2, rfl⟩ := app_lit Try.underlying23 info5 rfl (by decide) w v xs ho #[.int .u8 (224 + r / 4096), .int .u8 (128 + r / 64 % 64), .int .u8 (128 + r % 64)] 3 rfl (by omega) (by simp [Value.oneCell']) (by omega)
  have F : Hid (Grown w v xs [.int .u8 (224 + r / 4096), .int .u8 (128 + r / 64 % 64), .int .u8 (128 + r % 64)] (.returned (.slice (some a2) (xs.length + 3) c2)) w2) := ⟨_, _, _, rfl, o2, k2, b2⟩
  clear o2 k2 b2 ho
  go_enter Try.func28, Try.ntmps28
  go_wp2_with (at_builtin; refine Lib.wpList_append_run _ rfl _ _ _ _ rfl _ _ rfl rfl _ _ (hrun _) ?_)
  go_ret
  exact F.out

set_option maxHeartbeats 4000000 in
set_option maxRecDepth 100000 in
theorem append_hi (w : World) (v : Value) (xs : List Value) (r : Int) (h0 : 57343 < r) (h1 : r ≤ 65535) (ho : Own w 5 v xs) (hl : xs.length + 4 ≤ 1000000) :
    Calls Try.prog 28 #[v, .int .i32 r] w fun e w' => Grown w v xs [.int .u8 (224 + r / 4096), .int .u8 (128 + r / 64 % 64), .int .u8 (128 + r % 64)] e w' := by
  obtain ⟨v', w2, hrun, o2, k2, b2, a2, c2, rfl⟩ := app_lit Try.underlying23 info5 rfl (by decide) w v xs ho #[.int .u8 (224 + r / 4096), .int .u8 (128 + r / 64 % 64), .int .u8 (128 + r % 64)] 3 rfl (by omega) (by simp [Value.oneCell']) (by omega)
  have F : Hid (Grown w v xs [.int .u8 (224 + r / 4096), .int .u8 (128 + r / 64 % 64), .int .u8 (128 + r % 64)] (.returned (.slice (some a2) (xs.length + 3) c2)) w2) := ⟨_, _, _, rfl, o2, k2, b2⟩
  clear o2 k2 b2 ho
  go_enter Try.func28, Try.ntmps28
  go_wp2_with (at_builtin; refine Lib.wpList_append_run _ rfl _ _ _ _ rfl _ _ rfl rfl _ _ (hrun _) ?_)
  go_ret
  exact F.out

set_option maxHeartbeats 4000000 in
set_option maxRecDepth 100000 in
theorem append_four (w : World) (v : Value) (xs : List Value) (r : Int) (h0 : 65536 ≤ r) (h1 : r ≤ 1114111) (ho : Own w 5 v xs) (hl : xs.length + 4 ≤ 1000000) :
    Calls Try.prog 28 #[v, .int .i32 r] w fun e w' => Grown w v xs [.int .u8 (240 + r / 262144), .int .u8 (128 + r / 4096 % 64), .int .u8 (128 + r / 64 % 64), .int .u8 (128 + r % 64)] e w' := by
  obtain ⟨v', w2, hrun, o2, k2, b2, a2, c2, rfl⟩ := app_lit Try.underlying23 info5 rfl (by decide) w v xs ho #[.int .u8 (240 + r / 262144), .int .u8 (128 + r / 4096 % 64), .int .u8 (128 + r / 64 % 64), .int .u8 (128 + r % 64)] 4 rfl (by omega) (by simp [Value.oneCell']) (by omega)
  have F : Hid (Grown w v xs [.int .u8 (240 + r / 262144), .int .u8 (128 + r / 4096 % 64), .int .u8 (128 + r / 64 % 64), .int .u8 (128 + r % 64)] (.returned (.slice (some a2) (xs.length + 4) c2)) w2) := ⟨_, _, _, rfl, o2, k2, b2⟩
  clear o2 k2 b2 ho
  go_enter Try.func28, Try.ntmps28
  go_wp2_with (at_builtin; refine Lib.wpList_append_run _ rfl _ _ _ _ rfl _ _ rfl rfl _ _ (hrun _) ?_)
  go_ret
  exact F.out

set_option maxHeartbeats 4000000 in
set_option maxRecDepth 100000 in
theorem append_less (w : World) (v : Value) (xs : List Value) (r : Int) (h0 : -2147483648 ≤ r) (h1 : r < 0) (ho : Own w 5 v xs) (hl : xs.length + 4 ≤ 1000000) :
    Calls Try.prog 28 #[v, .int .i32 r] w fun e w' => Grown w v xs [.int .u8 239, .int .u8 191, .int .u8 189] e w' := by
  obtain ⟨v', w2, hrun, o2, k2, b2, a2, c2, rfl⟩ := app_lit Try.underlying23 info5 rfl (by decide) w v xs ho #[.int .u8 239, .int .u8 191, .int .u8 189] 3 rfl (by omega) (by simp [Value.oneCell']) (by omega)
  have F : Hid (Grown w v xs [.int .u8 239, .int .u8 191, .int .u8 189] (.returned (.slice (some a2) (xs.length + 3) c2)) w2) := ⟨_, _, _, rfl, o2, k2, b2⟩
  clear o2 k2 b2 ho
  go_enter Try.func28, Try.ntmps28
  go_wp2_with (at_builtin; refine Lib.wpList_append_run _ rfl _ _ _ _ rfl _ _ rfl rfl _ _ (hrun _) ?_)
  go_ret
  exact F.out

set_option maxHeartbeats 4000000 in
set_option maxRecDepth 100000 in
theorem append_half (w : World) (v : Value) (xs : List Value) (r : Int) (h0 : 55296 ≤ r) (h1 : r ≤ 57343) (ho : Own w 5 v xs) (hl : xs.length + 4 ≤ 1000000) :
    Calls Try.prog 28 #[v, .int .i32 r] w fun e w' => Grown w v xs [.int .u8 239, .int .u8 191, .int .u8 189] e w' := by
  obtain ⟨v', w2, hrun, o2, k2, b2, a2, c2, rfl⟩ := app_lit Try.underlying23 info5 rfl (by decide) w v xs ho #[.int .u8 239, .int .u8 191, .int .u8 189] 3 rfl (by omega) (by simp [Value.oneCell']) (by omega)
  have F : Hid (Grown w v xs [.int .u8 239, .int .u8 191, .int .u8 189] (.returned (.slice (some a2) (xs.length + 3) c2)) w2) := ⟨_, _, _, rfl, o2, k2, b2⟩
  clear o2 k2 b2 ho
  go_enter Try.func28, Try.ntmps28
  go_wp2_with (at_builtin; refine Lib.wpList_append_run _ rfl _ _ _ _ rfl _ _ rfl rfl _ _ (hrun _) ?_)
  go_ret
  exact F.out

set_option maxHeartbeats 4000000 in
set_option maxRecDepth 100000 in
theorem append_great (w : World) (v : Value) (xs : List Value) (r : Int) (h0 : 1114111 < r) (h1 : r ≤ 2147483647) (ho : Own w 5 v xs) (hl : xs.length + 4 ≤ 1000000) :
    Calls Try.prog 28 #[v, .int .i32 r] w fun e w' => Grown w v xs [.int .u8 239, .int .u8 191, .int .u8 189] e w' := by
  obtain ⟨v', w2, hrun, o2, k2, b2, a2, c2, rfl⟩ := app_lit Try.underlying23 info5 rfl (by decide) w v xs ho #[.int .u8 239, .int .u8 191, .int .u8 189] 3 rfl (by omega) (by simp [Value.oneCell']) (by omega)
  have F : Hid (Grown w v xs [.int .u8 239, .int .u8 191, .int .u8 189] (.returned (.slice (some a2) (xs.length + 3) c2)) w2) := ⟨_, _, _, rfl, o2, k2, b2⟩
  clear o2 k2 b2 ho
  go_enter Try.func28, Try.ntmps28
  go_wp2_with (at_builtin; refine Lib.wpList_append_run _ rfl _ _ _ _ rfl _ _ rfl rfl _ _ (hrun _) ?_)
  go_ret
  exact F.out

/-- A number that an int32 may be. -/
def int32 (r : Int) : Prop := -2147483648 ≤ r ∧ r ≤ 2147483647

/-- appendRuneNonASCII, of whatever is no ASCII. -/
theorem append_non (w : World) (v : Value) (xs : List Value) (r : Int) (hr : int32 r) (hn : r < 0 ∨ 128 ≤ r) (ho : Own w 5 v xs) (hl : xs.length + 4 ≤ 1000000) :
    Calls Try.prog 28 #[v, .int .i32 r] w fun e w' => Grown w v xs (b8 (enc r)) e w' := by
  obtain ⟨r1, r2⟩ := hr
  by_cases hg : good r
  · have he := enc_good hg
    unfold good at hg
    rw [if_neg (by omega)] at he
    by_cases h2 : r < 2048
    · rw [if_pos h2] at he
      rw [he]
      exact append_two w v xs r (by omega) (by omega) ho hl
    rw [if_neg h2] at he
    by_cases h3 : r < 65536
    · rw [if_pos h3] at he
      rw [he]
      by_cases h4 : r < 55296
      · exact append_lo w v xs r (by omega) (by omega) ho hl
      · exact append_hi w v xs r (by omega) (by omega) ho hl
    rw [if_neg h3] at he
    rw [he]
    exact append_four w v xs r (by omega) (by omega) ho hl
  · rw [enc_bad hg]
    unfold good at hg
    rcases hn with h | h
    · exact append_less w v xs r r1 h ho hl
    · by_cases h4 : r ≤ 57343
      · exact append_half w v xs r (by omega) h4 ho hl
      · exact append_great w v xs r (by omega) r2 ho hl

set_option maxHeartbeats 4000000 in
set_option maxRecDepth 100000 in
/-- utf8.AppendRune. -/
theorem append_rune (w : World) (v : Value) (xs : List Value) (r : Int) (hr : int32 r) (ho : Own w 5 v xs) (hl : xs.length + 4 ≤ 1000000) :
    Calls Try.prog 22 #[v, .int .i32 r] w fun e w' => Grown w v xs (b8 (enc r)) e w' := by
  by_cases hn : r < 0 ∨ 128 ≤ r
  · have HN := append_non w v xs r hr hn ho hl
    obtain ⟨r1, r2⟩ := hr
    clear ho
    rcases hn with hn | hn
    all_goals
      go_enter Try.func22, Try.ntmps22
      go_wp2_with fail
      refine HN.mono ?_
      rintro e w1 ⟨a, n, c, rfl, o1, k1, b1⟩
      clear HN
      go_wp2
      go_ret
      exact ⟨a, n, c, rfl, o1, k1, b1⟩
  · have h0 : 0 ≤ r := by omega
    have h1 : r < 128 := by omega
    have he : enc r = [r] := by
      rw [enc_good (Or.inl (by omega)), if_pos h1]
    obtain ⟨v', w2, hrun, o2, k2, b2, a2, c2, rfl⟩ := app_lit Try.underlying23 info5 rfl (by decide) w v xs ho #[.int .u8 r] 1 rfl (by omega) (by simp [Value.oneCell']) (by omega)
    have F : Hid (Grown w v xs (b8 (enc r)) (.returned (.slice (some a2) (xs.length + 1) c2)) w2) := by
      rw [he]
      exact ⟨_, _, _, rfl, o2, k2, b2⟩
    clear o2 k2 b2 ho he hn hr
    go_enter Try.func22, Try.ntmps22
    go_wp2_with (at_builtin; refine Lib.wpList_append_run _ rfl _ _ _ _ rfl _ _ rfl rfl _ _ (hrun _) ?_)
    go_ret
    exact F.out

theorem enc_len (r : Int) : (enc r).length ≤ 4 := by
  by_cases hg : good r
  · rw [enc_good hg]
    split
    · simp
    split
    · simp
    split <;> simp
  · rw [enc_bad hg]
    simp

theorem encs_len : ∀ (l : List Int), (encs l).length ≤ 4 * l.length
  | [] => by simp [encs]
  | r :: l => by
    have h1 := enc_len r
    have h2 := encs_len l
    rw [show encs (r :: l) = enc r ++ encs l by simp [encs]]
    simp only [List.length_append, List.length_cons]
    omega

theorem encs_byt (l : List Int) : byt (encs l) := fun x hx => by
  obtain ⟨r, _, hx⟩ := List.mem_flatMap.1 hx
  exact bytesOf_range _ x hx

theorem encs_take (l : List Int) (k : Nat) (hk : k < l.length) : encs (l.take (k + 1)) = encs (l.take k) ++ enc l[k] := by
  rw [List.take_succ_eq_append_getElem hk, encs_append, encs_one]

/-- string(b), of bytes in a block of their own. -/
theorem conv_own {w : World} {a : Addr} {n c : Nat} {xs : List Int} (h : Own w 5 (.slice (some a) n c) (b8 xs)) : (convert 23 9 (.slice (some a) n c)).run Try.prog w = .ok (.string (strOfNums xs)) w := by
  rcases h with ⟨h1, _⟩ | ⟨g, o, cap, cur, hv, hg, h1, h2, h3, h4⟩
  · cases h1
  · simp only [Value.slice.injEq, Option.some.injEq] at hv
    obtain ⟨rfl, rfl, rfl⟩ := hv
    refine run_convert_bytes_arg (P := Try.prog) w 23 5 Try.underlying23 Try.underlying5 g o _ c xs (b8_len xs).symm (fun i hi => ?_) 9 Try.underlying9
    rw [cell_of hg, h4 i hi]
    rw [b8_len] at hi
    simp [b8, hi]

set_option maxHeartbeats 4000000 in
set_option maxRecDepth 100000 in
/-- The program's Encode. -/
theorem encode_any (w : World) (ao : Option Addr) (n c : Nat) (l : List Int) (h : Rb w ao n c (r32 l)) (hr : ∀ r, r ∈ l → int32 r) (hl : n ≤ 100000) :
    Calls Try.prog 11 #[.slice ao n c] w fun e w' => e = .returned (.string (strOfNums (encs l))) ∧ Kp [] w w' := by
  obtain rfl : n = l.length := by rw [h.len, r32_len]
  obtain ⟨i0, hi0, hz0, hz1, hz2⟩ := info_parts info5
  obtain ⟨MC, hMC⟩ : ∃ MC, MC = madeCells (((Value.int .u8 0) : Value).cells) (l.length * 1) := ⟨_, rfl⟩
  have hMs : MC.size = l.length := by rw [hMC, size_madeCells, Nat.mul_one]
  have hmk : (Instr.makeSlice 23 (.int .i64 0) (.int .i64 (l.length : Int))).run Try.prog w = .ok (.slice (some ⟨w.heap.size, 0, none⟩) 0 l.length) (w.alloc (.cells MC 5)) := by
    have h1 := run_make (P := Try.prog) w 23 5 i0 (Value.int .u8 0) Try.underlying23 hi0 hz0 .i64 .i64 0 l.length (by omega) (by omega) (by rw [hz2]; omega) (by omega)
    rw [hz1] at h1
    rw [hMC]
    exact h1
  have o1 : Own (w.alloc (.cells MC 5)) 5 (.slice (some ⟨w.heap.size, 0, none⟩) 0 l.length) (b8 (encs (l.take 0))) := own_made w 5 MC l.length (by unfold maxLen; omega) hMs
  have k1 : Kp [] w (w.alloc (.cells MC 5)) := (Kp.refl _ _).alloc _
  clear hMC hMs hi0 hz0 hz1 hz2
  go_enter Try.func11, Try.ntmps11
  go_wp2
  generalize w.alloc (.cells MC 5) = w1 at o1 k1 ⊢
  clear hmk
  go_loopw [3, 11] (fun v i wr => ∃ (k : Nat) (a : Addr) (n c : Nat), k ≤ l.length ∧ v = .slice (some a) n c ∧ i = .int .i64 k ∧ Own wr 5 v (b8 (encs (l.take k))) ∧ Kp [] w wr ∧ w.heap.size ≤ a.block) (fun _ i _ => l.length - (intOf i).toNat)
  case atStart => exact ⟨0, _, 0, l.length, Nat.zero_le _, rfl, rfl, o1, k1, Nat.le_refl _⟩
  case round =>
    obtain ⟨k, a, m, d, hk, rfl, rfl, ho, hkp, ha⟩ := hrel
    clear o1 k1
    by_cases hlt : k < l.length
    · obtain ⟨b, off, rfl, hcell⟩ := (h.kept hkp).r32_at k hlt
      have he := encs_take l k hlt
      have hx := hr l[k] (List.getElem_mem hlt)
      generalize l[k] = x at hcell he hx
      have hle : (b8 (encs (l.take k))).length + 4 ≤ 1000000 := by
        have := encs_len (l.take k)
        rw [List.length_take] at this
        rw [b8_len]
        omega
      have HA := append_rune wr _ _ x hx ho hle
      have HE : Hid (b8 (encs (l.take k)) ++ b8 (enc x) = b8 (encs (l.take (k + 1)))) := by
        show _ = _
        rw [he]
        simp [b8]
      clear he hx hle h hr
      go_wp2_with fail
      refine HA.mono ?_
      rintro e w2 ⟨a2, n2, c2, rfl, o2, k2, b2⟩
      rw [HE.out] at o2
      have kp2 := hkp.trans k2 (fun y hy => by
        simp only [blk, List.mem_singleton] at hy
        exact Or.inr (by omega))
      have ha2 : w.heap.size ≤ a2.block := by
        rcases b2 a2.block (by simp [blk]) with h1 | h1
        · simp only [blk, List.mem_singleton] at h1
          omega
        · have := hkp.size
          omega
      clear HA ho hkp k2 b2 hcell HE
      go_wp2
      go_roundw
      case rel => exact ⟨k + 1, a2, n2, c2, by omega, rfl, by go_num, o2, kp2, ha2⟩
      case measure => simp [intOf]; omega
    · obtain rfl : k = l.length := by omega
      rw [List.take_length] at ho
      have hcv := conv_own ho
      clear ho h
      go_wp2
      go_ret
      exact ⟨rfl, hkp⟩

theorem strs_append (a b : List Int) : strOfNums (a ++ b) = strOfNums a ++ strOfNums b := by
  apply ByteArray.ext
  simp [strOfNums, ByteArray.data_append]

theorem strs_bytes (s : ByteArray) : strOfNums (bytesOf s) = s := by
  apply ByteArray.ext
  simp [strOfNums, bytesOf, Function.comp_def]

theorem bytes_strs {l : List Int} (h : byt l) : bytesOf (strOfNums l) = l := by
  unfold strOfNums bytesOf
  simp only [List.map_map, Function.comp_def]
  conv => rhs; rw [← List.map_id l]
  apply List.map_congr_left
  intro x hx
  have := h x hx
  simp
  omega

set_option maxHeartbeats 4000000 in
set_option maxRecDepth 100000 in
/-- The document's Encode. -/
theorem ref_encode_any (w : World) (ao : Option Addr) (n c : Nat) (l : List Int) (h : Rb w ao n c (r32 l)) (hl : n ≤ 100000) :
    Calls Try.prog 12 #[.slice ao n c] w fun e w' => e = .returned (.string (strOfNums (encs l))) ∧ w' = w := by
  obtain rfl : n = l.length := by rw [h.len, r32_len]
  go_enter Try.func12, Try.ntmps12
  go_wp2
  go_loopw [3, 4] (fun v i wr => ∃ (k : Nat), k ≤ l.length ∧ v = .string (strOfNums (encs (l.take k))) ∧ i = .int .i64 k ∧ wr = w) (fun _ i _ => l.length - (intOf i).toNat)
  case atStart => exact ⟨0, Nat.zero_le _, rfl, rfl, rfl⟩
  case round =>
    obtain ⟨k, hk, rfl, rfl, rfl⟩ := hrel
    by_cases hlt : k < l.length
    · obtain ⟨b, off, rfl, hcell⟩ := h.r32_at k hlt
      have he := encs_take l k hlt
      generalize l[k] = x at hcell he
      have HE : Hid (strOfNums (encs (l.take k)) ++ Utf8.encode x = strOfNums (encs (l.take (k + 1)))) := by
        show _ = _
        rw [he, strs_append, enc, strs_bytes]
      have hs1 : (strOfNums (encs (l.take k))).size ≤ 400000 := by
        have := encs_len (l.take k)
        rw [List.length_take] at this
        rw [strOfNums_size]
        omega
      have hs2 : (Utf8.encode x).size ≤ 4 := by
        have := enc_len x
        simpa [enc, bytesOf] using this
      generalize strOfNums (encs (l.take k)) = s at HE hs1 ⊢
      clear he h
      go_wp2
      go_roundw
      case rel => exact ⟨k + 1, by omega, by rw [← HE.out], by go_num, trivial⟩
      case measure => simp [intOf]; omega
    · obtain rfl : k = l.length := by omega
      rw [List.take_length]
      go_wp2
      go_ret
      exact ⟨rfl, rfl⟩

end Go.Proofs.Ytinafcajaikfdaa
