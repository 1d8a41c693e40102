/-
  The walk of RefsLongest: whatever it is given, it answers true, and leaves what was there as it was.
-/
import Derived.Test.YtidkcfblfibaaaaDoorTells
import Derived.Deep.RegionHeld3
namespace Go.Proofs.YtidkcfblfibaaaaDoor
open Go.RowKit Utf

theorem pre_append (x t : ByteArray) : pre x (x ++ t) = true := by
  rw [pre_iff]
  rw [ByteArray.data_append, Array.toList_append]
  exact List.prefix_append _ _

/-- What is found of a text that begins with a name. -/
theorem found_name {x t : ByteArray} (hx : x ∈ NM) : found (x ++ t) ∈ NM ∧ mean (found (x ++ t)) ≠ ⟨#[]⟩ ∧ pre (found (x ++ t)) (x ++ t) = true ∧ ∀ y, y ∈ NM → pre y (x ++ t) = true → y.size ≤ (found (x ++ t)).size := by
  obtain ⟨h1, h2, h3⟩ := longest (x ++ t)
  have h4 := h3 x hx (pre_append x t)
  have h5 := (nm_size x hx).1
  have h6 : found (x ++ t) ∈ NM := by
    rcases h2 with h2 | h2
    · rw [h2] at h4
      have : (⟨#[]⟩ : ByteArray).size = 0 := rfl
      omega
    · exact h2
  exact ⟨h6, mean_some _ h6, h1, h3⟩

theorem pre_size {x s : ByteArray} (h : pre x s = true) : x.size ≤ s.size := by
  unfold pre at h
  simp at h
  exact h.1

/-- The names up to some place have one of n bytes that s begins with. -/
def seen (s : ByteArray) (n k : Nat) : Bool := (NM.take k).any fun x => pre x s && x.size == n

theorem seen_step (s : ByteArray) (n k : Nat) (hk : k < NM.length) : seen s n (k + 1) = (seen s n k || (pre NM[k] s && NM[k].size == n)) := by
  unfold seen
  rw [List.take_succ_eq_append_getElem hk, List.any_append]
  simp

theorem seen_all {s x : ByteArray} {n : Nat} (hx : x ∈ NM) (hp : pre x s = true) (hn : x.size = n) : seen s n 51 = true := by
  unfold seen
  rw [show NM.take 51 = NM by kernel_rfl, List.any_eq_true]
  exact ⟨x, hx, by simp [hp, hn]⟩

theorem rising {q : Nat} (h : q + 1 < NM.length) : less (NM[q]'(by omega)) (NM[q + 1]) = true :=
  List.pairwise_iff_getElem.1 nm_rising q (q + 1) (by omega) h (by omega)

set_option maxHeartbeats 2000000 in
theorem longest_any (w : World) (hn : Nm w) (s0 : ByteArray) (i : Int) : Calls Tryd.prog 5 #[.string s0, .int .i64 i] w fun e w' => e = .returned (.bool true) ∧ Kp [] w w' := by
  have hwi := wi_le i 50
  have hsz := head_size s0 20
  go_enter Tryd.func5, Tryd.ntmps5
  go_wp2_with fail
  refine (all_any _ hn).mono ?_
  rintro e w1 ⟨ao, m, c, rfl, m1⟩
  obtain rfl : m = 51 := by
    have := m1.rb.len
    rw [tx_len, nm_len] at this
    exact this
  have r1 := m1.rb
  obtain ⟨b1, o1, rfl, h1⟩ := r1.tx_at (wi i 50) (by rw [nm_len]; omega)
  have k1 := m1.2.1
  have hmem : NM[wi i 50]'(by rw [nm_len]; omega) ∈ NM := List.getElem_mem _
  generalize NM[wi i 50]'(by rw [nm_len]; omega) = x at h1 hmem
  have hx := (nm_size x hmem).2
  have n1 := hn.kept k1
  clear m1 hn
  have HW := fun W => within_any W i 50 (by omega)
  have HH := fun W => head_any W s0 20 (by omega)
  have HF := found_name (t := if 20 < s0.size then s0.extract 0 20 else s0) hmem
  generalize wi i 50 = j at h1 hwi HW
  generalize (if 20 < s0.size then s0.extract 0 20 else s0) = t at hsz HH HF
  have i1 : (0 : Int) ≤ (j : Int) := by omega
  have i2 : (j : Int) < ((51 : Nat) : Int) := by omega
  go_wp2_with fail
  have i7 : ¬ 9223372036854775807 < x.size + t.size := by omega
  go_quiet (first | (go_at_call 15; refine Calls.quiet_of_same (HW _)) | (go_at_call 14; refine Calls.quiet_of_same (HH _)))
  have r2 := r1.kept ((Kp.refl [] w1).drewN nq)
  have n2 := n1.kept ((Kp.refl [] w1).drewN nq)
  have k2 := k1.drewN nq
  generalize w1.drewN nq = w2 at r2 n2 k2 ⊢
  have hxs : (x ++ t).size = x.size + t.size := by simp
  generalize x ++ t = s at HF hxs ⊢
  obtain ⟨f1, f2, f3, f4⟩ := HF
  have f5 := (nm_size _ f1).1
  have f6 := pre_size f3
  have HD := named_any w2 n2 s
  have HSA := seen_all f1 f3 rfl
  generalize mean (found s) = M at f2 HD
  generalize (found s).size = n at f4 f5 f6 HD HSA
  have hM : M.toList.isEmpty = false := by
    cases hh : M.toList.isEmpty
    · rfl
    · exfalso
      apply f2
      rw [List.isEmpty_iff, ByteArray.toList_eq] at hh
      exact ByteArray.ext (Array.toList_inj.1 hh)
  have hs34 : s.size ≤ 34 := by omega
  clear f1 f2 f3 h1 HW HH hmem hx hsz hwi i1 i2 i7 hxs r1 n1 k1
  go_wp2_with fail
  refine HD.mono ?_
  rintro e w' ⟨rfl, rfl⟩
  clear HD
  go_wp2
  go_loopw [8, 9] (fun f i wr => ∃ (k : Nat) (b : Bool), f = .bool b ∧ i = .int .i64 (k : Int) ∧ k ≤ 51 ∧ b = seen s n k ∧ Kp [] w' wr) (fun _ i _ => 51 - (intOf i).toNat)
  case atStart => exact ⟨0, false, rfl, rfl, by omega, rfl, Kp.refl _ _⟩
  case round =>
    obtain ⟨k, fb, rfl, rfl, hk, hfb, kr⟩ := hrel
    have rr := r2.kept kr
    by_cases hlt : k < 51
    · have hkn : k < NM.length := by rw [nm_len]; exact hlt
      obtain ⟨b2, o2, he, h1⟩ := rr.tx_at k hkn
      simp only [Option.some.injEq, Addr.mk.injEq] at he
      obtain ⟨rfl, rfl, _⟩ := he
      have hst := seen_step s n k hkn
      have hlong := f4 NM[k] (List.getElem_mem _)
      have hy14 := (nm_size NM[k] (List.getElem_mem _)).2
      rw [← hfb] at hst
      clear hfb HSA f4 k2 n2 r2
      by_cases hk0 : k = 0
      · subst hk0
        clear rr
        generalize NM[0] = y at h1 hst hlong hy14
        simp only [Nat.add_zero] at h1
        have i1 : (0 : Int) ≤ ((0 : Nat) : Int) := by omega
        have i2 : ((0 : Nat) : Int) < ((51 : Nat) : Int) := by omega
        have i3 : decide ((0 : Int) < ((0 : Nat) : Int)) = false := rfl
        rw [show ((0 : Nat) : Int) = 0 from rfl]
        cases fb
        · by_cases hle : y.size ≤ s.size
          · have hle2 : decide ((y.size : Int) ≤ (s.size : Int)) = true := by simpa using hle
            cases heq : ((s.extract 0 y.size).toList == y.toList)
            · have hpr : pre y s = false := by simp [pre, heq]
              rw [hpr] at hst
              go_wp2_with fail
              go_quiet (fail)
              go_wp2_with fail
              go_quiet (fail)
              go_wp2
              go_roundw
              case rel => exact ⟨0 + 1, _, rfl, by go_num, by omega, hst.symm, kr.trans ((Kp.refl [] wr).drewN _) (fun x hx => by simp at hx)⟩
              case measure => (simp [intOf]; try omega)
            · have hpr : pre y s = true := by simp [pre, heq, hle]
              rw [hpr] at hst
              have hmax := hlong hpr
              by_cases hsn : y.size = n
              · have hsn2 : ((y.size : Int) == (n : Int)) = true := by rw [hsn]; simp
                rw [show (y.size == n) = true by simpa using hsn] at hst
                clear hsn
                go_wp2_with fail
                go_quiet (fail)
                go_wp2_with fail
                go_quiet (fail)
                go_wp2
                go_roundw
                case rel => exact ⟨0 + 1, _, rfl, by go_num, by omega, hst.symm, kr.trans ((Kp.refl [] wr).drewN _) (fun x hx => by simp at hx)⟩
                case measure => (simp [intOf]; try omega)
              · have hsn2 : ((y.size : Int) == (n : Int)) = false := by simp; omega
                rw [show (y.size == n) = false by simpa using hsn] at hst
                clear hsn
                go_wp2_with fail
                go_quiet (fail)
                go_wp2_with fail
                go_quiet (fail)
                go_wp2
                go_roundw
                case rel => exact ⟨0 + 1, _, rfl, by go_num, by omega, hst.symm, kr.trans ((Kp.refl [] wr).drewN _) (fun x hx => by simp at hx)⟩
                case measure => (simp [intOf]; try omega)
          · have hle2 : decide ((y.size : Int) ≤ (s.size : Int)) = false := by simpa using hle
            have hpr : pre y s = false := by simp [pre, hle]
            rw [hpr] at hst
            go_wp2_with fail
            go_quiet (fail)
            go_wp2_with fail
            go_quiet (fail)
            go_wp2
            go_roundw
            case rel => exact ⟨0 + 1, _, rfl, by go_num, by omega, hst.symm, kr.trans ((Kp.refl [] wr).drewN _) (fun x hx => by simp at hx)⟩
            case measure => (simp [intOf]; try omega)
        · by_cases hle : y.size ≤ s.size
          · have hle2 : decide ((y.size : Int) ≤ (s.size : Int)) = true := by simpa using hle
            cases heq : ((s.extract 0 y.size).toList == y.toList)
            · have hpr : pre y s = false := by simp [pre, heq]
              rw [hpr] at hst
              go_wp2_with fail
              go_quiet (fail)
              go_wp2_with fail
              go_quiet (fail)
              go_wp2
              go_roundw
              case rel => exact ⟨0 + 1, _, rfl, by go_num, by omega, hst.symm, kr.trans ((Kp.refl [] wr).drewN _) (fun x hx => by simp at hx)⟩
              case measure => (simp [intOf]; try omega)
            · have hpr : pre y s = true := by simp [pre, heq, hle]
              rw [hpr] at hst
              have hmax := hlong hpr
              by_cases hsn : y.size = n
              · have hsn2 : ((y.size : Int) == (n : Int)) = true := by rw [hsn]; simp
                rw [show (y.size == n) = true by simpa using hsn] at hst
                clear hsn
                go_wp2_with fail
                go_quiet (fail)
                go_wp2_with fail
                go_quiet (fail)
                go_wp2
                go_roundw
                case rel => exact ⟨0 + 1, _, rfl, by go_num, by omega, hst.symm, kr.trans ((Kp.refl [] wr).drewN _) (fun x hx => by simp at hx)⟩
                case measure => (simp [intOf]; try omega)
              · have hsn2 : ((y.size : Int) == (n : Int)) = false := by simp; omega
                rw [show (y.size == n) = false by simpa using hsn] at hst
                clear hsn
                go_wp2_with fail
                go_quiet (fail)
                go_wp2_with fail
                go_quiet (fail)
                go_wp2
                go_roundw
                case rel => exact ⟨0 + 1, _, rfl, by go_num, by omega, hst.symm, kr.trans ((Kp.refl [] wr).drewN _) (fun x hx => by simp at hx)⟩
                case measure => (simp [intOf]; try omega)
          · have hle2 : decide ((y.size : Int) ≤ (s.size : Int)) = false := by simpa using hle
            have hpr : pre y s = false := by simp [pre, hle]
            rw [hpr] at hst
            go_wp2_with fail
            go_quiet (fail)
            go_wp2_with fail
            go_quiet (fail)
            go_wp2
            go_roundw
            case rel => exact ⟨0 + 1, _, rfl, by go_num, by omega, hst.symm, kr.trans ((Kp.refl [] wr).drewN _) (fun x hx => by simp at hx)⟩
            case measure => (simp [intOf]; try omega)
      · obtain ⟨q, rfl⟩ : ∃ q, k = q + 1 := ⟨k - 1, by omega⟩
        obtain ⟨b3, o3, he, h2⟩ := rr.tx_at q (by rw [nm_len]; omega)
        simp only [Option.some.injEq, Addr.mk.injEq] at he
        obtain ⟨rfl, rfl, _⟩ := he
        have hri : Op.bytesLess (NM[q]'(by omega)).toList (NM[q + 1]).toList = true := rising hkn
        clear rr
        generalize NM[q + 1] = y at h1 hst hlong hy14 hri
        generalize NM[q]'(by omega) = z at h2 hri
        have i1 : (0 : Int) ≤ (q : Int) + 1 := by omega
        have i2 : (q : Int) + 1 < ((51 : Nat) : Int) := by omega
        have i3 : (0 : Int) ≤ (q : Int) := by omega
        have i4 : (q : Int) < ((51 : Nat) : Int) := by omega
        have i5 : IntKind.i64.wrap (q : Int) = (q : Int) := by rw [IntKind.wrap_i64]; omega
        have i6 : decide ((0 : Int) < (q : Int) + 1) = true := decide_eq_true (by omega)
        rw [show ((q + 1 : Nat) : Int) = (q : Int) + 1 from rfl]
        clear hkn
        cases fb
        · by_cases hle : y.size ≤ s.size
          · have hle2 : decide ((y.size : Int) ≤ (s.size : Int)) = true := by simpa using hle
            cases heq : ((s.extract 0 y.size).toList == y.toList)
            · have hpr : pre y s = false := by simp [pre, heq]
              rw [hpr] at hst
              go_wp2_with fail
              go_quiet (fail)
              go_wp2_with fail
              go_quiet (fail)
              go_wp2
              go_roundw
              case rel => exact ⟨q + 1 + 1, _, rfl, by go_num, by omega, hst.symm, kr.trans ((Kp.refl [] wr).drewN _) (fun x hx => by simp at hx)⟩
              case measure => (simp [intOf]; try omega)
            · have hpr : pre y s = true := by simp [pre, heq, hle]
              rw [hpr] at hst
              have hmax := hlong hpr
              by_cases hsn : y.size = n
              · have hsn2 : ((y.size : Int) == (n : Int)) = true := by rw [hsn]; simp
                rw [show (y.size == n) = true by simpa using hsn] at hst
                clear hsn
                go_wp2_with fail
                go_quiet (fail)
                go_wp2_with fail
                go_quiet (fail)
                go_wp2
                go_roundw
                case rel => exact ⟨q + 1 + 1, _, rfl, by go_num, by omega, hst.symm, kr.trans ((Kp.refl [] wr).drewN _) (fun x hx => by simp at hx)⟩
                case measure => (simp [intOf]; try omega)
              · have hsn2 : ((y.size : Int) == (n : Int)) = false := by simp; omega
                rw [show (y.size == n) = false by simpa using hsn] at hst
                clear hsn
                go_wp2_with fail
                go_quiet (fail)
                go_wp2_with fail
                go_quiet (fail)
                go_wp2
                go_roundw
                case rel => exact ⟨q + 1 + 1, _, rfl, by go_num, by omega, hst.symm, kr.trans ((Kp.refl [] wr).drewN _) (fun x hx => by simp at hx)⟩
                case measure => (simp [intOf]; try omega)
          · have hle2 : decide ((y.size : Int) ≤ (s.size : Int)) = false := by simpa using hle
            have hpr : pre y s = false := by simp [pre, hle]
            rw [hpr] at hst
            go_wp2_with fail
            go_quiet (fail)
            go_wp2_with fail
            go_quiet (fail)
            go_wp2
            go_roundw
            case rel => exact ⟨q + 1 + 1, _, rfl, by go_num, by omega, hst.symm, kr.trans ((Kp.refl [] wr).drewN _) (fun x hx => by simp at hx)⟩
            case measure => (simp [intOf]; try omega)
        · by_cases hle : y.size ≤ s.size
          · have hle2 : decide ((y.size : Int) ≤ (s.size : Int)) = true := by simpa using hle
            cases heq : ((s.extract 0 y.size).toList == y.toList)
            · have hpr : pre y s = false := by simp [pre, heq]
              rw [hpr] at hst
              go_wp2_with fail
              go_quiet (fail)
              go_wp2_with fail
              go_quiet (fail)
              go_wp2
              go_roundw
              case rel => exact ⟨q + 1 + 1, _, rfl, by go_num, by omega, hst.symm, kr.trans ((Kp.refl [] wr).drewN _) (fun x hx => by simp at hx)⟩
              case measure => (simp [intOf]; try omega)
            · have hpr : pre y s = true := by simp [pre, heq, hle]
              rw [hpr] at hst
              have hmax := hlong hpr
              by_cases hsn : y.size = n
              · have hsn2 : ((y.size : Int) == (n : Int)) = true := by rw [hsn]; simp
                rw [show (y.size == n) = true by simpa using hsn] at hst
                clear hsn
                go_wp2_with fail
                go_quiet (fail)
                go_wp2_with fail
                go_quiet (fail)
                go_wp2
                go_roundw
                case rel => exact ⟨q + 1 + 1, _, rfl, by go_num, by omega, hst.symm, kr.trans ((Kp.refl [] wr).drewN _) (fun x hx => by simp at hx)⟩
                case measure => (simp [intOf]; try omega)
              · have hsn2 : ((y.size : Int) == (n : Int)) = false := by simp; omega
                rw [show (y.size == n) = false by simpa using hsn] at hst
                clear hsn
                go_wp2_with fail
                go_quiet (fail)
                go_wp2_with fail
                go_quiet (fail)
                go_wp2
                go_roundw
                case rel => exact ⟨q + 1 + 1, _, rfl, by go_num, by omega, hst.symm, kr.trans ((Kp.refl [] wr).drewN _) (fun x hx => by simp at hx)⟩
                case measure => (simp [intOf]; try omega)
          · have hle2 : decide ((y.size : Int) ≤ (s.size : Int)) = false := by simpa using hle
            have hpr : pre y s = false := by simp [pre, hle]
            rw [hpr] at hst
            go_wp2_with fail
            go_quiet (fail)
            go_wp2_with fail
            go_quiet (fail)
            go_wp2
            go_roundw
            case rel => exact ⟨q + 1 + 1, _, rfl, by go_num, by omega, hst.symm, kr.trans ((Kp.refl [] wr).drewN _) (fun x hx => by simp at hx)⟩
            case measure => (simp [intOf]; try omega)
    · obtain rfl : k = 51 := by omega
      have HK := known_any _ (n2.kept kr)
      rw [HSA] at hfb
      subst hfb
      have kf := k2.trans kr (fun x hx => by simp at hx)
      clear rr r2 n2 k2 kr HSA f4
      go_wp2_with fail
      refine HK.mono ?_
      rintro e w'' ⟨rfl, rfl⟩
      go_wp2
      go_ret
      exact ⟨rfl, kf⟩

end Go.Proofs.YtidkcfblfibaaaaDoor
