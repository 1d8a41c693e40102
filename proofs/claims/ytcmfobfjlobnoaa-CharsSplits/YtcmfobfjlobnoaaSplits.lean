/-
  The walk of CharsSplits: whatever text it is given, it answers true, and leaves what was there as it was.
-/
import Derived.Test.YtcmfobfjlobnoaaAgree
import Derived.Deep.RegionHeld3
namespace Go.Proofs.Ytcmfobfjlobnoaa
open Go.RowKit Utf

theorem bytes_assoc (a b c : ByteArray) : a ++ b ++ c = a ++ (b ++ c) := by
  apply ByteArray.ext
  simp [ByteArray.data_append, Array.append_assoc]

theorem fold_bytes : ∀ (L : List ByteArray) (a : ByteArray), L.foldl (· ++ ·) a = a ++ joined L
  | [], a => by
    apply ByteArray.ext
    simp [joined, ByteArray.data_append]
  | p :: L, a => by
    rw [List.foldl_cons, fold_bytes L, show joined (p :: L) = L.foldl (· ++ ·) (⟨#[]⟩ ++ p) from rfl, fold_bytes L, bytes_assoc]
    apply ByteArray.ext
    simp [ByteArray.data_append]

theorem joined_append (A B : List ByteArray) : joined (A ++ B) = joined A ++ joined B := by
  rw [joined, List.foldl_append, fold_bytes]
  rfl

theorem joined_take (L : List ByteArray) (k : Nat) (hk : k < L.length) : joined (L.take (k + 1)) = joined (L.take k) ++ L[k] := by
  rw [List.take_succ_eq_append_getElem hk, joined_snoc]

theorem joined_size (L : List ByteArray) (k : Nat) : (joined (L.take k)).size ≤ (joined L).size := by
  conv => rhs; rw [← List.take_append_drop k L, joined_append, ByteArray.size_append]
  omega

theorem joined_one (L : List ByteArray) (k : Nat) (hk : k < L.length) : L[k].size ≤ (joined L).size := by
  have h1 := joined_size L (k + 1)
  rw [joined_take L k hk, ByteArray.size_append] at h1
  omega

theorem empty_no (p : ByteArray) (h : p.size ≠ 0) : p.toList.isEmpty = false := by
  rw [Lib.toList_data]
  cases hd : p.data.toList with
  | nil => exact absurd (by rw [Lib.size_eq, hd]; rfl) h
  | cons x r => rfl

set_option maxHeartbeats 1000000 in
set_option maxRecDepth 100000 in
theorem splits_any (w : World) (s0 : ByteArray) : Calls Try.prog 5 #[.string s0] w fun e w' => e = .returned (.bool true) ∧ Kp [] w w' := by
  go_enter Try.func5, Try.ntmps5
  go_wp2_with fail
  refine (head_any _ s0 200 (by omega)).mono ?_
  rintro e w' ⟨⟨s, rfl, hs⟩, rfl⟩
  obtain ⟨hfine, hjoin⟩ := split_fine s
  have hlen := split_len s
  have HF : Hid (Fine (split s)) := hfine
  have HJ : Hid (joined (split s) = s) := hjoin
  go_wp2_with fail
  refine (split_any _ s (by omega)).mono ?_
  rintro e w1 ⟨ao, n, c, rfl, m1⟩
  generalize split s = L at HF HJ hlen m1
  have k1 := m1.2.1
  have r1 := m1.rb
  have hn := r1.len
  have hc := r1.cap
  rw [tx_len] at hn
  have HN : Hid (n = L.length) := hn
  have hn2 : n ≤ 200 := by omega
  clear m1 hfine hjoin hlen hn
  go_wp2
  go_loopw [4, 5] (fun v i wr => ∃ k : Nat, k ≤ n ∧ i = .int .i64 k ∧ v = .string (joined (L.take k)) ∧ Kp [] w1 wr) (fun _ i _ => n - (intOf i).toNat)
  case atStart => exact ⟨0, Nat.zero_le _, rfl, rfl, Kp.refl _ _⟩
  case round =>
    obtain ⟨k, hk, rfl, rfl, kp⟩ := hrel
    have hjs : (joined (L.take k)).size ≤ 200 := by
      have := joined_size L k
      rw [HJ.out] at this
      omega
    by_cases hlt : k < n
    · have hkL : k < L.length := by
        have := HN.out
        omega
      obtain ⟨b, o, rfl, h1⟩ := r1.tx_at k hkL
      have hf1 := HF.out.one k hkL
      have hpl : L[k].size ≤ 200 := by
        have := joined_one L k hkL
        rw [HJ.out] at this
        omega
      have HJ2 : Hid (joined (L.take (k + 1)) = joined (L.take k) ++ L[k]) := joined_take L k hkL
      have HTW : Hid (∀ q (hq : k = q + 1), (spaces L[k] == spaces (L[q]'(by omega))) = false ∧ w1.cell? ⟨b, o + q, none⟩ = some (.string (L[q]'(by omega)))) := fun q hq => by
        subst hq
        refine ⟨?_, ?_⟩
        · have := HF.out.two q hkL
          simpa using this
        · obtain ⟨b', o', h2, h3⟩ := r1.tx_at q (by omega)
          simp only [Option.some.injEq, Addr.mk.injEq] at h2
          obtain ⟨rfl, rfl, _⟩ := h2
          exact h3
      obtain ⟨p, hp⟩ : ∃ p, p = L[k] := ⟨_, rfl⟩
      have HK : Hid (∀ j, j < p.size → kind p j = spaces p) := by
        rw [hp]
        exact hf1.2
      have hpe : p.toList.isEmpty = false := empty_no p (by rw [hp]; exact hf1.1)
      rw [← hp] at h1 hpl HJ2
      have HC : Hid (∀ w', Kp [] w1 w' → w'.cell? ⟨b, o + k, none⟩ = some (.string p)) := fun w' kk => by
        rw [kk.cell (a := ⟨b, o + k, none⟩) (block_lt_of_cell h1) (by simp)]
        exact h1
      generalize joined (L.take k) = J at hjs HJ2 ⊢
      clear r1 h1 hf1
      rcases Nat.eq_zero_or_pos k with hk0 | hk0
      · subst hk0
        rw [Nat.add_zero] at HC
        rw [show ((0 : Nat) : Int) = 0 from rfl]
        have hcell := HC.out _ kp
        clear HTW hp
        go_wp2
        go_quiet (fail)
        have kA := kp.drewN nq
        generalize wr.drewN nq = wA at kA ⊢
        clear kp hcell hpe
        have hcell := HC.out _ kA
        go_wp2
        go_loopw [] (fun wq => ∃ pos : Nat, Kp [] (wA.iter p pos) wq ∧ pos ≤ p.size) (fun wq => p.size - wq.iterPos wA.heap.size)
        case atStart => exact ⟨0, Kp.refl _ _, Nat.zero_le _⟩
        case round =>
          obtain ⟨pos, kq, hps⟩ := hrel
          have hip := iter_pos kq
          by_cases hp : pos < p.size
          · have hnx := next_at kq hp
            obtain ⟨d1, d2, d3⟩ := decode_kind p pos hp
            have hy := d3 pos (Nat.le_refl _) (by omega)
            rw [HK.out pos hp] at hy
            obtain ⟨x, hx⟩ : ∃ x : Int, x = ((Utf8.decode p pos).1 : Int) := ⟨_, rfl⟩
            rw [← hx] at hnx hy
            generalize (Utf8.decode p pos).2 = sz at hnx d1 d2
            clear hx d3
            have kt := tick_kp kq (pos + sz)
            have HS := fun W' => space_any W' x
            have HP := fun W' => spaces_any W' p
            simp only [hy] at HP
            generalize isSp x = y at HS HP
            clear hy
            generalize tick wr wA.heap.size p (pos + sz) = W1 at hnx kt
            have hc1 := HC.out _ (kA.trans (iter_kp kt) (fun x hx => by simp at hx))
            have HC1 : Hid (∀ w', Kp [] W1 w' → w'.cell? ⟨b, o, none⟩ = some (.string p)) := fun w' kk => by
              rw [kk.cell (a := ⟨b, o, none⟩) (block_lt_of_cell hc1) (by simp)]
              exact hc1
            have KT : Hid (Kp [] (wA.iter p (pos + sz)) W1) := kt
            clear kt kq hc1
            cases y
            all_goals
              go_wp2_with fail
              go_region_held3 (fun w' => w'.cell? ⟨b, o, none⟩ = some (.string p) ∧ Kp [] W1 w')
                (first
                  | exact ⟨HC1.out _ (Kp.refl [] W1).drew, (Kp.refl [] W1).drew⟩
                  | exact ⟨HC1.out _ S2.out, S2.out⟩)
                (first
                  | (go_at_call 15; refine (HS _).mono ?_; rintro e w2 ⟨rfl, rfl⟩)
                  | (go_at_call 14; refine (HP _).mono ?_; rintro e w9 ⟨rfl, kk⟩; have S2 : Hid (Kp [] W1 w9) := (Kp.refl [] W1).drew.trans kk (fun x hx => by simp at hx); clear kk))
              go_wp2
              go_roundw
              case rel => exact ⟨pos + sz, KT.out.trans S2.out (fun x hx => by simp at hx), d2⟩
              case measure =>
                rw [hip, iter_pos (KT.out.trans S2.out (fun x hx => by simp at hx))]
                omega
          · have hnx := next_end kq hp
            have kk := kA.trans (iter_kp kq) (fun x hx => by simp at hx)
            have hcell := HC.out _ kk
            clear HC kq
            go_wp2
            go_roundw
            case rel => exact ⟨0 + 1, by omega, by go_num, by rw [HJ2.out], kk⟩
            case measure => simp [intOf]; omega
      · obtain ⟨q, rfl⟩ : ∃ q, k = q + 1 := ⟨k - 1, by omega⟩
        obtain ⟨hne, hc2⟩ := HTW.out q rfl
        rw [← hp] at hne
        generalize L[q] = p2 at hne hc2
        have HC0 : Hid (∀ w', Kp [] wr w' → w'.cell? ⟨b, o + (q + 1), none⟩ = some (.string p) ∧ w'.cell? ⟨b, o + q, none⟩ = some (.string p2)) := fun w' kk => by
          have k2 := kp.trans kk (fun x hx => by simp at hx)
          refine ⟨HC.out _ k2, ?_⟩
          rw [k2.cell (a := ⟨b, o + q, none⟩) (block_lt_of_cell hc2) (by simp)]
          exact hc2
        have i1 : (0 : Int) ≤ (q : Int) + 1 := by omega
        have i2 : (q : Int) + 1 < (n : Int) := by omega
        have i3 : (0 : Int) ≤ (q : Int) := by omega
        have i4 : (q : Int) < (n : Int) := by omega
        have i5 : IntKind.i64.wrap (q : Int) = (q : Int) := by rw [IntKind.wrap_i64]; omega
        rw [show ((q + 1 : Nat) : Int) = (q : Int) + 1 from rfl]
        clear HTW hp hc2
        go_wp2_with fail
        go_region_held3 (fun w' => (w'.cell? ⟨b, o + (q + 1), none⟩ = some (.string p) ∧ w'.cell? ⟨b, o + q, none⟩ = some (.string p2)) ∧ Kp [] wr w')
          (first
            | exact ⟨HC0.out _ (Kp.refl [] wr).drew, (Kp.refl [] wr).drew⟩
            | exact ⟨HC0.out _ S3.out, S3.out⟩
            | exact ⟨HC0.out _ S2.out, S2.out⟩)
          (first
            | (go_at_call 14; refine (spaces_any _ _).mono ?_; rintro e w3 ⟨rfl, kk⟩; have S3 : Hid (Kp [] wr w3) := S2.out.trans kk (fun x hx => by simp at hx); clear kk)
            | (go_at_call 14; refine (spaces_any _ _).mono ?_; rintro e w2 ⟨rfl, kk⟩; have S2 : Hid (Kp [] wr w2) := (Kp.refl [] wr).drew.trans kk (fun x hx => by simp at hx); clear kk))
        have kA := kp.trans S3.out (fun x hx => by simp at hx)
        have hcell := HC.out _ kA
        clear kp HC0 hne S2 S3 i5 hpe
        go_wp2
        go_loopw [] (fun wq => ∃ pos : Nat, Kp [] (w3.iter p pos) wq ∧ pos ≤ p.size) (fun wq => p.size - wq.iterPos w3.heap.size)
        case atStart => exact ⟨0, Kp.refl _ _, Nat.zero_le _⟩
        case round =>
          obtain ⟨pos, kq, hps⟩ := hrel
          have hip := iter_pos kq
          by_cases hp : pos < p.size
          · have hnx := next_at kq hp
            obtain ⟨d1, d2, d3⟩ := decode_kind p pos hp
            have hy := d3 pos (Nat.le_refl _) (by omega)
            rw [HK.out pos hp] at hy
            obtain ⟨x, hx⟩ : ∃ x : Int, x = ((Utf8.decode p pos).1 : Int) := ⟨_, rfl⟩
            rw [← hx] at hnx hy
            generalize (Utf8.decode p pos).2 = sz at hnx d1 d2
            clear hx d3
            have kt := tick_kp kq (pos + sz)
            have HS := fun W' => space_any W' x
            have HP := fun W' => spaces_any W' p
            simp only [hy] at HP
            generalize isSp x = y at HS HP
            clear hy
            generalize tick wr w3.heap.size p (pos + sz) = W1 at hnx kt
            have hc1 := HC.out _ (kA.trans (iter_kp kt) (fun x hx => by simp at hx))
            have HC1 : Hid (∀ w', Kp [] W1 w' → w'.cell? ⟨b, o + (q + 1), none⟩ = some (.string p)) := fun w' kk => by
              rw [kk.cell (a := ⟨b, o + (q + 1), none⟩) (block_lt_of_cell hc1) (by simp)]
              exact hc1
            have KT : Hid (Kp [] (w3.iter p (pos + sz)) W1) := kt
            clear kt kq hc1
            cases y
            all_goals
              go_wp2_with fail
              go_region_held3 (fun w' => w'.cell? ⟨b, o + (q + 1), none⟩ = some (.string p) ∧ Kp [] W1 w')
                (first
                  | exact ⟨HC1.out _ (Kp.refl [] W1).drew, (Kp.refl [] W1).drew⟩
                  | exact ⟨HC1.out _ S2.out, S2.out⟩)
                (first
                  | (go_at_call 15; refine (HS _).mono ?_; rintro e w2 ⟨rfl, rfl⟩)
                  | (go_at_call 14; refine (HP _).mono ?_; rintro e w9 ⟨rfl, kk⟩; have S2 : Hid (Kp [] W1 w9) := (Kp.refl [] W1).drew.trans kk (fun x hx => by simp at hx); clear kk))
              go_wp2
              go_roundw
              case rel => exact ⟨pos + sz, KT.out.trans S2.out (fun x hx => by simp at hx), d2⟩
              case measure =>
                rw [hip, iter_pos (KT.out.trans S2.out (fun x hx => by simp at hx))]
                omega
          · have hnx := next_end kq hp
            have kk := kA.trans (iter_kp kq) (fun x hx => by simp at hx)
            have hcell := HC.out _ kk
            clear HC kq
            go_wp2
            go_roundw
            case rel => exact ⟨(q + 1) + 1, by omega, by go_num, by rw [HJ2.out], kk⟩
            case measure => simp [intOf]; omega
    · obtain rfl : k = n := by omega
      have hall : joined (L.take k) = s := by
        rw [List.take_of_length_le (by have := HN.out; omega)]
        exact HJ.out
      rw [hall]
      have k2 := k1.trans kp (fun x hx => by simp at hx)
      have hls := lower_size s
      have A1 := fun W => lower_any W s (by omega)
      have A2 := fun W => lower_any W (lower s) (by omega)
      simp only [lower_lower] at A2
      generalize lower s = A at A1 A2 hls
      clear hall kp k1 r1 hjs
      go_wp2_with fail
      refine (A1 _).mono ?_
      rintro e w2 ⟨rfl, kk⟩
      have k3 := k2.trans kk (fun x hx => by simp at hx)
      clear k2 kk
      go_wp2_with fail
      refine (A2 _).mono ?_
      rintro e w3 ⟨rfl, kk⟩
      have k4 := k3.trans kk (fun x hx => by simp at hx)
      clear k3 kk
      go_wp2_with fail
      refine (A1 _).mono ?_
      rintro e w4 ⟨rfl, kk⟩
      have k5 := k4.trans kk (fun x hx => by simp at hx)
      clear k4 kk
      go_wp2_with fail
      refine (A1 _).mono ?_
      rintro e w5 ⟨rfl, kk⟩
      have k6 := k5.trans kk (fun x hx => by simp at hx)
      clear k5 kk A1 A2
      go_wp2_with fail
      refine (known_any _).mono ?_
      rintro e w6 ⟨rfl, kk⟩
      have k7 := k6.trans kk (fun x hx => by simp at hx)
      clear k6 kk
      go_wp2
      go_ret
      exact ⟨rfl, k7⟩

end Go.Proofs.Ytcmfobfjlobnoaa
