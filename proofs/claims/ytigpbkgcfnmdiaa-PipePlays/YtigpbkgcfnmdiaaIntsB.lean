/-
  What Len, Room, Fill and Drain of a line of ints, and Same, do to the world.
-/
import Derived.Test.YtigpbkgcfnmdiaaIntsA
namespace Go.Proofs.Ytigpbkgcfnmdiaa.Ints
open Go.RowKit

theorem one (zs : List Int) : ∀ u, u ∈ zs.map (Value.int .i64) → u.oneCell' = true := fun u hu => by
  obtain ⟨x, _, rfl⟩ := List.mem_map.1 hu
  rfl

theorem run_len {w : World} {p c room : Nat} {ks : List Nat} {zs : List Int} (h : LX w p c room ks zs) (ty : TypeId) : (Builtin.len_ #[52] ty #[.chan (some c)]).run Try.prog w = .ok (.int .i64 (zs.length : Int)) w := by
  obtain ⟨s, r, hc⟩ := h.chan
  have := Go.Conc.run_len_chan (P := Try.prog) 52 ty Try.underlying52 hc
  have hs := h.size
  rw [List.length_map] at hs
  simpa [goInt, hs] using this

theorem run_cap {w : World} {p c room : Nat} {ks : List Nat} {zs : List Int} (h : LX w p c room ks zs) (ty : TypeId) : (Builtin.cap_ #[52] ty #[.chan (some c)]).run Try.prog w = .ok (.int .i64 (room : Int)) w := by
  obtain ⟨s, r, hc⟩ := h.chan
  exact Go.Conc.run_cap_chan (P := Try.prog) 52 ty Try.underlying52 hc

theorem len_any (w : World) (p c room : Nat) (ks : List Nat) (zs : List Int) (h : LX w p c room ks zs) :
    Calls Try.prog 9 #[.pointer (some ⟨p, 0, none⟩)] w fun e w' => e = .returned (.int .i64 (zs.length : Int)) ∧ w' = w := by
  have hcell : w.cell? ⟨p, 0, none⟩ = some (.chan (some c)) := by rw [cell_of h.head]; rfl
  have hln := run_len h
  clear h
  go_enter Try.func9, Try.ntmps9
  go_wp2
  go_ret
  exact ⟨rfl, rfl⟩

theorem room_any (w : World) (p c room : Nat) (ks : List Nat) (zs : List Int) (h : LX w p c room ks zs) (hr : room ≤ 4096) :
    Calls Try.prog 10 #[.pointer (some ⟨p, 0, none⟩)] w fun e w' => e = .returned (.int .i64 ((room : Int) - (zs.length : Int))) ∧ LX w' p c room ks zs ∧ Kp [] w w' := by
  have hcell : w.cell? ⟨p, 0, none⟩ = some (.chan (some c)) := by rw [cell_of h.head]; rfl
  have hd : LX w.drew p c room ks zs := Line.keep0 h (Kp.refl [] w).drew
  have hln := run_len hd
  have hcp := run_cap hd
  have hf := h.fits
  rw [List.length_map] at hf
  have H : Hid (LX w.drew p c room ks zs) := hd
  clear h hd
  go_enter Try.func10, Try.ntmps10
  go_wp2
  go_region
  all_goals (try go_wp2)
  all_goals
    go_ret
    exact ⟨by go_num, H.out, (Kp.refl _ _).drew⟩

theorem rd_at {w : World} {ao : Option Addr} {n c : Nat} {zs : List Int} (h : Rd w (.slice ao n c) (zs.map (Value.int .i64))) (k : Nat) (hk : k < zs.length) : ∃ b off, ao = some ⟨b, off, none⟩ ∧ w.cell? ⟨b, off + k, none⟩ = some (Value.int .i64 zs[k]) := by
  obtain ⟨ao', c', he, hcs⟩ := h
  simp only [Value.slice.injEq] at he
  obtain ⟨rfl, _, rfl⟩ := he
  obtain ⟨b, off, h1, h2⟩ := hcs k (by simpa using hk)
  exact ⟨b, off, h1, by rw [h2]; simp [hk]⟩

set_option maxHeartbeats 1000000 in
/-- Fill: as many as there is room for. -/
theorem fill_any (w : World) (p c room : Nat) (ks : List Nat) (zs : List Int) (h : LX w p c room ks zs) (ao : Option Addr) (cap : Nat) (ys : List Int) (hr : Rd w (.slice ao ys.length cap) (ys.map (Value.int .i64))) (hb : ys.length ≤ 9223372036854775807) :
    Calls Try.prog 11 #[.pointer (some ⟨p, 0, none⟩), .slice ao ys.length cap] w fun e w' => e = .returned (.int .i64 ((min (room - zs.length) ys.length : Nat) : Int)) ∧
      Kp [c] w w' ∧ ∃ ks', LX w' p c room (ks ++ ks') (zs ++ ys.take (min (room - zs.length) ys.length)) ∧ ∀ q, q ∈ ks' → w.heap.size ≤ q := by
  have hf := h.fits
  rw [List.length_map] at hf
  go_enter Try.func11, Try.ntmps11
  go_wp2
  go_loopw [9] (fun i wr => ∃ (k : Nat) (ks' : List Nat), k ≤ ys.length ∧ i = .int .i64 (k : Nat) ∧ zs.length + k ≤ room ∧ LX wr p c room (ks ++ ks') (zs ++ ys.take k) ∧ Kp [c] w wr ∧ ∀ q, q ∈ ks' → w.heap.size ≤ q) (fun i _ => ys.length - (intOf i).toNat)
  case atStart => exact ⟨0, [], Nat.zero_le _, rfl, by omega, by simpa using h, Kp.refl _ _, by simp⟩
  case round =>
    obtain ⟨k, ks', hk, rfl, hkr, hl, hkp, hq⟩ := hrel
    by_cases hlt : k < ys.length
    · obtain ⟨b, off, rfl, hcell⟩ := rd_at (hr.past h hkp) k hlt
      obtain ⟨x, hx⟩ : ∃ x, x = ys[k] := ⟨_, rfl⟩
      rw [← hx] at hcell
      have hlen : (zs ++ ys.take k).length = zs.length + k := by simp; omega
      by_cases hroom : zs.length + k < room
      · have HP := put_in wr p c room _ _ x hl (by omega)
        have hT : Hid (zs ++ ys.take (k + 1) = (zs ++ ys.take k) ++ [x]) := by
          show _ = _
          rw [hx, List.take_succ_eq_append_getElem hlt, List.append_assoc]
        clear hx hr h hlen
        go_wp2_with fail
        refine HP.mono ?_
        rintro e w2 ⟨rfl, l2, k2⟩
        rw [← hT.out, List.append_assoc] at l2
        have hq2 : ∀ q, q ∈ ks' ++ [wr.heap.size] → w.heap.size ≤ q := fun q hm => by
          rcases List.mem_append.1 hm with h1 | h1
          · exact hq q h1
          · simp only [List.mem_singleton] at h1
            rw [h1]
            exact hkp.size
        have hkp2 := hkp.trans k2 (fun x hx => Or.inl hx)
        clear HP hl hkp hq k2 hcell
        generalize ks' ++ [wr.heap.size] = ks2 at l2 hq2
        go_wp2
        go_roundw
        case rel => exact ⟨k + 1, ks2, by omega, by go_num, by omega, l2, hkp2, hq2⟩
        case measure => simp [intOf]; omega
      · have HP := put_out wr p c room _ _ x hl (by omega)
        have hm : Hid (min (room - zs.length) ys.length = k) := by
          show _ = _
          omega
        clear hx hr h hlen
        go_wp2_with fail
        refine HP.mono ?_
        rintro e w2 ⟨rfl, l2, k2⟩
        have hkp2 := hkp.trans k2 (fun x hx => by simp at hx)
        clear HP hl hkp k2 hcell
        go_wp2
        go_ret
        exact ⟨by rw [hm.out]; rfl, hkp2, ks', by rw [hm.out]; exact l2, hq⟩
    · obtain rfl : k = ys.length := by omega
      have hm : Hid (min (room - zs.length) ys.length = ys.length) := by
        show _ = _
        omega
      clear hr h
      go_wp2
      go_ret
      exact ⟨by rw [hm.out]; rfl, hkp, ks', by rw [hm.out]; exact hl, hq⟩

set_option maxHeartbeats 1000000 in
/-- Drain: all of them, in order. -/
theorem drain_any (w : World) (p c room : Nat) (ks : List Nat) (zs : List Int) (h : LX w p c room ks zs) (hrm : room ≤ 4096) :
    Calls Try.prog 13 #[.pointer (some ⟨p, 0, none⟩)] w fun e w' => ∃ a cap, e = .returned (.slice (some a) zs.length cap) ∧ Own w' 3 (.slice (some a) zs.length cap) (zs.map (Value.int .i64)) ∧ LX w' p c room [] [] ∧ Kp [c] w w' ∧ w.heap.size ≤ a.block := by
  have hf := h.fits
  rw [List.length_map] at hf
  obtain ⟨i0, hi0, hz0, hz1, hz2⟩ := info_parts info
  obtain ⟨MC, hMC⟩ : ∃ MC, MC = madeCells (((Value.int .i64 0) : Value).cells) (zs.length * 1) := ⟨_, rfl⟩
  have hMs : MC.size = zs.length := by rw [hMC, size_madeCells, Nat.mul_one]
  have hmk : (Instr.makeSlice 22 (.int .i64 0) (.int .i64 (zs.length : Int))).run Try.prog w = .ok (.slice (some ⟨w.heap.size, 0, none⟩) 0 zs.length) (w.alloc (.cells MC 3)) := by
    have h1 := run_make (P := Try.prog) w 22 3 i0 (Value.int .i64 0) Try.underlying22 hi0 hz0 .i64 .i64 0 zs.length (by omega) (by omega) (by rw [hz2]; omega) (by omega)
    rw [hz1] at h1
    rw [hMC]
    exact h1
  have hl1 : LX (w.alloc (.cells MC 3)) p c room ks zs := Line.keep0 h ((Kp.refl _ _).alloc _)
  have ho1 : Own (w.alloc (.cells MC 3)) 3 (.slice (some ⟨w.heap.size, 0, none⟩) 0 zs.length) [] := own_made w 3 MC zs.length (by unfold maxLen; omega) hMs
  have hk1 : Kp [c] w (w.alloc (.cells MC 3)) := (Kp.refl _ _).alloc _
  have hlt := h.lt.2.2
  have HL := len_any w p c room ks zs h
  clear hMC hMs hi0 hz0 hz1 hz2 h
  go_enter Try.func13, Try.ntmps13
  go_wp2_with fail
  refine HL.mono ?_
  rintro e w1 ⟨rfl, rfl⟩
  clear HL
  go_wp2
  generalize w1.alloc (.cells MC 3) = w2 at hl1 ho1 hk1 ⊢
  clear hmk
  go_loopw [3] (fun v wr => ∃ (us rest : List Int) (ks2 : List Nat) (a : Addr) (cap : Nat), v = .slice (some a) us.length cap ∧ zs = us ++ rest ∧ LX wr p c room ks2 rest ∧ Own wr 3 v (us.map (Value.int .i64)) ∧ Kp [c] w1 wr ∧ w1.heap.size ≤ a.block ∧ ∀ q, q ∈ ks2 → q < w1.heap.size) (fun v _ => zs.length - slen v)
  case atStart => exact ⟨[], zs, ks, _, zs.length, rfl, rfl, hl1, ho1, hk1, Nat.le_refl _, hlt⟩
  case round =>
    obtain ⟨us, rest, ks2, a, cap, rfl, hzs, hl, ho, hkp, ha, hq⟩ := hrel
    clear hl1 ho1 hk1 hlt
    rcases rest with _ | ⟨x, rest⟩
    · have hks : ks2 = [] := List.eq_nil_of_length_eq_zero (by have := hl.size; simpa using this)
      subst hks
      have HT := take_out wr p c room hl
      obtain rfl : zs = us := by simpa using hzs
      clear hzs
      go_wp2_with fail
      refine HT.mono ?_
      rintro e w3 ⟨rfl, rfl⟩
      clear HT
      go_wp2
      go_ret
      exact ⟨a, cap, rfl, ho, hl, hkp, ha⟩
    · obtain ⟨k, ks3, rfl⟩ : ∃ k ks3, ks2 = k :: ks3 := by
        rcases ks2 with _ | ⟨k, ks3⟩
        · have := hl.size
          simp at this
        · exact ⟨k, ks3, rfl⟩
      have HT := take_in wr p c room k ks3 x rest hl
      go_wp2_with fail
      refine HT.mono ?_
      rintro e w3 ⟨rfl, l3, k3⟩
      have o3 := ho.past hl k3
      have kp3 := hkp.trans k3 (fun x hx => Or.inl hx)
      clear HT hl k3 ho hkp
      have hfl : us.length < zs.length := by rw [hzs]; simp
      obtain ⟨v', w4, hrun, o4, k4, b4, a4, c4, rfl⟩ := app_one Try.underlying22 info rfl (by decide) w3 _ _ o3 (Value.int .i64 x) rfl (by simp; omega)
      have hbl : ∀ y, y ∈ blk (.slice (some a) us.length cap) → w1.heap.size ≤ y := fun y hy => by
        simp only [blk, List.mem_singleton] at hy
        omega
      have l4 : LX w4 p c room ks3 rest := by
        obtain ⟨n1, n2⟩ := l3.own (by decide) o3
        exact l3.kept k4 n1 n2 (fun y hy hm => by
          have := hq y (by simp [hy])
          have := hbl y hm
          omega)
      have kp4 := kp3.trans k4 (fun y hy => Or.inr (hbl y hy))
      have ha4 : w1.heap.size ≤ a4.block := by
        rcases b4 a4.block (by simp [blk]) with h1 | h1
        · exact hbl _ h1
        · have := kp3.size
          omega
      simp only [List.length_map] at o4 hrun
      have HZ : Hid (zs = us ++ x :: rest) := hzs
      clear l3 k4 kp3 b4 hbl o3 hzs
      go_wp2_with (at_builtin; refine Lib.wpList_append_run _ rfl _ _ _ _ rfl _ _ rfl rfl _ _ (hrun _) ?_)
      go_roundw
      case rel => exact ⟨us ++ [x], rest, ks3, a4, c4, by simp, by rw [HZ.out]; simp, l4, by simpa using o4, kp4, ha4, fun q hm => hq q (by simp [hm])⟩
      case measure => simp [slen]; omega

set_option maxHeartbeats 1000000 in
/-- Same, of two that read alike. -/
theorem same_eq (w : World) (v u : Value) (zs : List Int) (hv : Rd w v (zs.map (Value.int .i64))) (hu : Rd w u (zs.map (Value.int .i64))) (hl : zs.length < 100000) :
    Calls Try.prog 16 #[v, u] w fun e w' => e = .returned (.bool true) ∧ ∃ q, w' = w.drewN q := by
  obtain ⟨ao, c, rfl, hcv⟩ := hv
  obtain ⟨bo, d, rfl, hcu⟩ := hu
  simp only [List.length_map] at hcv hcu ⊢
  go_enter Try.func16, Try.ntmps16
  go_wp2
  go_loopw [5] (fun i wr => ∃ k q : Nat, k ≤ zs.length ∧ i = .int .i64 k ∧ wr = w.drewN q) (fun i _ => zs.length - (intOf i).toNat)
  case atStart => exact ⟨0, 0, Nat.zero_le _, rfl, rfl⟩
  case round =>
    obtain ⟨k, q, hk, rfl, rfl⟩ := hrel
    by_cases hlt : k < zs.length
    · obtain ⟨b1, o1, rfl, h1⟩ := hcv k hlt
      obtain ⟨b2, o2, rfl, h2⟩ := hcu k hlt
      rw [List.getElem?_map, List.getElem?_eq_getElem hlt] at h1 h2
      obtain ⟨x, hx⟩ : ∃ x, x = zs[k] := ⟨_, rfl⟩
      rw [← hx] at h1 h2
      have e1 : w.cell? ⟨b1, o1 + k, none⟩ = some (Value.int .i64 x) := h1
      have e2 : w.cell? ⟨b2, o2 + k, none⟩ = some (Value.int .i64 x) := h2
      clear hx h1 h2 hcv hcu
      go_wp2
      go_region
      all_goals (try go_wp2)
      all_goals
        go_roundw
        case rel => exact ⟨k + 1, q + 1, by omega, by go_num, rfl⟩
        case measure => simp [intOf]; omega
    · go_wp2
      go_ret
      exact ⟨rfl, q, rfl⟩

end Go.Proofs.Ytigpbkgcfnmdiaa.Ints
