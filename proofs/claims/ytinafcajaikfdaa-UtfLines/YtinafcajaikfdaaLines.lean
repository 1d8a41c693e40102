/-
  The walk of UtfLines: whatever texts and numbers it is given, it answers true, and leaves what was there as it was.
-/
import Derived.Test.YtinafcajaikfdaaParts
namespace Go.Proofs.Ytinafcajaikfdaa
open Go.RowKit Utf

set_option maxHeartbeats 1000000 in
set_option maxRecDepth 100000 in
theorem lines_any (w : World) (ao : Option Addr) (n c : Nat) (h : ∀ k, k < n → ∃ b off s, ao = some ⟨b, off, none⟩ ∧ w.cell? ⟨b, off + k, none⟩ = some (Value.string s)) (eo : Option Addr) (m d : Nat) (es : List Int) (he : Rb w eo m d (es.map (Value.int .i64))) :
    Calls Try.prog 7 #[.slice ao n c, .slice eo m d] w fun e w' => e = .returned (.bool true) ∧ Kp [] w w' := by
  have HM : Hid (m = es.length) := by show _ = _; rw [he.len, List.length_map]
  go_enter Try.func7, Try.ntmps7
  go_wp2
  go_loopw [5, 6, 7] (fun u v i wr => ∃ (k : Nat) (a b : ByteArray) (xs ys : List Int), k ≤ 12 ∧ k ≤ n ∧ u = .string a ∧ v = .string b ∧ i = .int .i64 k ∧ Page a b xs ys k ∧ Kp [] w wr) (fun _ _ i _ => 12 - (intOf i).toNat)
  case atStart => exact ⟨0, _, _, [120], [120], by omega, by omega, rfl, rfl, rfl, Page.start, Kp.refl _ _⟩
  case round =>
    obtain ⟨k, a, b, xs, ys, hk, hkn, rfl, rfl, rfl, pg, kp⟩ := hrel
    obtain ⟨hsa, hsb⟩ := pg.size hk
    by_cases hlt : k < n ∧ k < 12
    · obtain ⟨hl1, hl2⟩ := hlt
      obtain ⟨g, o, s0, rfl, hcell0⟩ := h k hl1
      have hcell : wr.cell? ⟨g, o + k, none⟩ = some (.string s0) := by
        rw [kp.cell (a := ⟨g, o + k, none⟩) (block_lt_of_cell hcell0) (by simp)]
        exact hcell0
      have PG : Hid (Page a b xs ys k) := pg
      clear pg hcell0
      go_wp2_with fail
      refine (head_any wr s0).mono ?_
      rintro e w1 ⟨⟨t, rfl, ht⟩, rfl⟩
      go_wp2
      go_loopw [8] (fun v wq => ∃ (pos : Nat) (ss : List Int), v = .string (strOfNums (encs ss)) ∧ wq = w1.iter t pos ∧ ss.length ≤ pos ∧ ss.length ≤ 20 ∧ Hid (plain ss)) (fun _ wq => t.size - wq.iterPos w1.heap.size)
      case atStart => exact ⟨0, [], rfl, rfl, Nat.le_refl _, by simp, fun r hr => by simp at hr⟩
      case round =>
        obtain ⟨pos, ss, rfl, rfl, hs1, hs2, hpl⟩ := hrel
        have hss : (strOfNums (encs ss)).size ≤ 80 := by
          rw [strOfNums_size]
          have := encs_len ss
          omega
        by_cases hp : pos < t.size
        · have hnx := fun ty => run_next_any (P := Try.prog) w1 t pos ty hp
          have hwd := decode_pos t pos
          have hgd := range_good t pos
          obtain ⟨x, hx⟩ : ∃ x : Int, x = ((Utf8.decode t pos).1 : Int) := ⟨_, rfl⟩
          rw [← hx] at hnx hgd
          generalize (Utf8.decode t pos).2 = sz at hnx hwd
          clear hx
          by_cases hx3 : x = 10 ∨ x = 13 ∨ x = 0
          · rcases hx3 with rfl | rfl | rfl
            all_goals
              go_wp2
              go_roundw
              case rel => exact ⟨pos + sz, ss, rfl, rfl, by omega, hs2, hpl⟩
              case measure => simp; omega
          · have hx1 : ¬ x = 10 := fun h => hx3 (Or.inl h)
            have hx2 : ¬ x = 13 := fun h => hx3 (Or.inr (Or.inl h))
            have hx4 : ¬ x = 0 := fun h => hx3 (Or.inr (Or.inr h))
            have HE : Hid (strOfNums (encs ss) ++ Utf8.encode x = strOfNums (encs (ss ++ [x]))) := by
              show _ = _
              rw [encs_append, encs_one, strs_append, enc, strs_bytes]
            have HQ : Hid (plain (ss ++ [x])) := fun r hr => by
              rcases List.mem_append.1 hr with h1 | h1
              · exact hpl.out r h1
              · simp only [List.mem_singleton] at h1
                subst h1
                exact ⟨hgd, hx4, hx1, hx2⟩
            have hsx : (Utf8.encode x).size ≤ 4 := by
              have := enc_len x
              simpa [enc, bytesOf] using this
            generalize strOfNums (encs ss) = S at hss HE ⊢
            have bx1 : (x != 10) = true := by simpa using hx1
            have bx2 : (x != 13) = true := by simpa using hx2
            have bx4 : (x != 0) = true := by simpa using hx4
            clear hx3 hgd hx1 hx2 hx4
            go_wp2
            go_roundw
            case rel => exact ⟨pos + sz, ss ++ [x], by rw [← HE.out], rfl, by simp; omega, by simp; omega, HQ⟩
            case measure => simp; omega
        · have hnx := fun ty => run_next_end (P := Try.prog) w1 t pos ty hp
          have kq : Kp [] w (w1.iter t pos) := kp.alloc _
          by_cases hkm : k < m
          · obtain ⟨g2, o2, rfl, hc2⟩ := (he.kept kq).at' k hkm
            obtain ⟨y, hy⟩ : ∃ y, (es.map (Value.int .i64))[k]? = some (.int .i64 y) := ⟨es[k]'(by have := HM.out; omega), by simp [show k < es.length by have := HM.out; omega]⟩
            rw [hy] at hc2
            clear hy he
            go_wp2_with fail
            clear hnx
            generalize w1.iter t pos = w2 at kq hc2 ⊢
            refine (within_any w2 y).mono ?_
            rintro e w3 ⟨⟨r, hr, rfl⟩, rfl⟩
            rcases (show r = 0 ∨ r = 1 ∨ r = 2 by omega) with rfl | rfl | rfl
            · as_aux_lemma =>
              have PN : Hid (Page (a ++ strOfNums (encs ss) ++ ⟨#[122]⟩ ++ ⟨#[10]⟩) (b ++ strOfNums (encs ss) ++ ⟨#[122, 10]⟩) (xs ++ (ss ++ [122] ++ ends 0)) (ys ++ (ss ++ [122] ++ [10])) (k + 1)) := PG.out.more ss hpl.out hs2 0 ⟨#[10]⟩ (by simp only [ends]; rw [encs_low (by decide) (by decide)]; rfl)
              generalize strOfNums (encs ss) = S at hss PN ⊢
              clear PG hpl
              go_wp2
              go_roundw
              case rel => exact ⟨k + 1, _, _, _, _, by omega, by omega, rfl, rfl, by go_num, PN.out, kq.alloc _⟩
              case measure => simp [intOf]; omega
            · as_aux_lemma =>
              have PN : Hid (Page (a ++ strOfNums (encs ss) ++ ⟨#[122]⟩ ++ ⟨#[13, 10]⟩) (b ++ strOfNums (encs ss) ++ ⟨#[122, 10]⟩) (xs ++ (ss ++ [122] ++ ends 1)) (ys ++ (ss ++ [122] ++ [10])) (k + 1)) := PG.out.more ss hpl.out hs2 1 ⟨#[13, 10]⟩ (by simp only [ends]; rw [encs_low (by decide) (by decide)]; rw [encs_low (by decide) (by decide)]; rfl)
              generalize strOfNums (encs ss) = S at hss PN ⊢
              clear PG hpl
              go_wp2
              go_roundw
              case rel => exact ⟨k + 1, _, _, _, _, by omega, by omega, rfl, rfl, by go_num, PN.out, kq.alloc _⟩
              case measure => simp [intOf]; omega
            · as_aux_lemma =>
              have PN : Hid (Page (a ++ strOfNums (encs ss) ++ ⟨#[122]⟩ ++ ⟨#[13]⟩) (b ++ strOfNums (encs ss) ++ ⟨#[122, 10]⟩) (xs ++ (ss ++ [122] ++ ends 2)) (ys ++ (ss ++ [122] ++ [10])) (k + 1)) := PG.out.more ss hpl.out hs2 2 ⟨#[13]⟩ (by simp only [ends]; rw [encs_low (by decide) (by decide)]; rfl)
              generalize strOfNums (encs ss) = S at hss PN ⊢
              clear PG hpl
              go_wp2
              go_roundw
              case rel => exact ⟨k + 1, _, _, _, _, by omega, by omega, rfl, rfl, by go_num, PN.out, kq.alloc _⟩
              case measure => simp [intOf]; omega
          · as_aux_lemma =>
            have PN : Hid (Page (a ++ strOfNums (encs ss) ++ ⟨#[122]⟩ ++ ⟨#[10]⟩) (b ++ strOfNums (encs ss) ++ ⟨#[122, 10]⟩) (xs ++ (ss ++ [122] ++ ends 0)) (ys ++ (ss ++ [122] ++ [10])) (k + 1)) := PG.out.more ss hpl.out hs2 0 ⟨#[10]⟩ (by simp only [ends]; rw [encs_low (by decide) (by decide)]; rfl)
            generalize strOfNums (encs ss) = S at hss PN ⊢
            clear PG hpl
            go_wp2
            go_roundw
            case rel => exact ⟨k + 1, _, _, _, _, by omega, by omega, rfl, rfl, by go_num, PN.out, kq.alloc _⟩
            case measure => simp [intOf]; omega
    · obtain ⟨q1, q2, q3⟩ := pg.ready
      have HR : Hid (b = strOfNums (encs ys)) := pg.right
      have hbx := encs_byt xs
      obtain ⟨w2, c2, hcv2, kk, r2⟩ := to_bytes wr a
      rw [q1] at r2
      have k2 := kp.trans kk (fun x hx => by simp at hx)
      have HP := prepare_any _ _ _ _ _ r2 hbx (by omega)
      rw [q2, ← HR.out] at HP
      have Q1 : Hid (bytesOf a = encs xs) := q1
      have Q3 : Hid (prep (mark ++ encs xs) = ys) := q3
      have HB : Hid (byt (encs xs)) := hbx
      clear q1 q2 q3 pg r2 kk hbx
      rcases (show ¬ k < n ∨ (k < n ∧ ¬ k < 12) by omega) with d1 | ⟨d1, d2⟩
      all_goals
        clear hlt
        go_wp2_with fail
        refine HP.mono ?_
        rintro e w3 ⟨rfl, kk⟩
        have k3 := k2.trans kk (fun x hx => by simp at hx)
        clear HP k2 kk hcv2
        obtain ⟨w4, c4, hcv4, kk, r4⟩ := to_bytes w3 (⟨#[239, 187, 191]⟩ ++ a)
        rw [bytesOf_append, Q1.out, show bytesOf ⟨#[239, 187, 191]⟩ = mark from rfl] at r4
        have k4 := k3.trans kk (fun x hx => by simp at hx)
        have hz4 : ((⟨#[239, 187, 191]⟩ : ByteArray) ++ a).size = 3 + a.size := by
          rw [ByteArray.size_append]
          rfl
        rw [hz4] at r4
        have HP := prepare_any _ _ _ _ _ r4 (byt_append mark_byt HB.out) (by omega)
        rw [Q3.out, ← HR.out] at HP
        clear r4 kk k3 hz4
        go_wp2_with fail
        refine HP.mono ?_
        rintro e w5 ⟨rfl, kk⟩
        have k5 := k4.trans kk (fun x hx => by simp at hx)
        clear HP k4 kk hcv4
        go_wp2_with fail
        refine (known_any _).mono ?_
        rintro e w6 ⟨rfl, kk⟩
        have k6 := k5.trans kk (fun x hx => by simp at hx)
        clear k5 kk
        go_wp2
        go_ret
        exact ⟨rfl, k6⟩

end Go.Proofs.Ytinafcajaikfdaa
