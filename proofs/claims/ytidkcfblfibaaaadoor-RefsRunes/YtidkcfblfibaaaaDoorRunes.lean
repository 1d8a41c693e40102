/-
  The walk of RefsRunes: whatever it is given, it answers true, and leaves what was there as it was.
-/
import Derived.Test.YtidkcfblfibaaaaDoorTells
import Derived.Test.YtidkcfblfibaaaaDoorOne
namespace Go.Proofs.YtidkcfblfibaaaaDoor
open Go.RowKit Utf

set_option maxHeartbeats 2000000 in
theorem runes_any (w : World) (hn : Nm w) (hi : In w) (n : Int) (h64 : int64 n) : Calls Tryd.prog 6 #[.int .i64 n] w fun e w' => e = .returned (.bool true) ∧ Kp [] w w' := by
  have hwi := wi_le n 1114112
  have h64' : int64 (wi n 1114112 : Int) := by unfold int64; omega
  have HW := within_any w n 1114112 (by omega)
  generalize (wi n 1114112 : Int) = m at h64' HW
  have HR : Rb (w.alloc (.cells #[.int .i64 n, .int .i64 m] 3)) (some ⟨w.heap.size, 0, none⟩) 2 2 [.int .i64 n, .int .i64 m] := rb_lit w 3 _ [.int .i64 n, .int .i64 m] 2 rfl rfl (by omega)
  have kw : Kp [] w (w.alloc (.cells #[.int .i64 n, .int .i64 m] 3)) := (Kp.refl _ _).alloc _
  clear hwi
  go_enter Tryd.func6, Tryd.ntmps6
  go_wp2_with fail
  refine HW.mono ?_
  rintro e w' ⟨rfl, rfl⟩
  clear HW
  go_wp2
  generalize w'.alloc (.cells #[.int .i64 n, .int .i64 m] 3) = w1 at HR kw ⊢
  generalize some (⟨w'.heap.size, 0, none⟩ : Addr) = la at HR ⊢
  go_loopw [12] (fun i wr => ∃ k : Nat, i = .int .i64 (k : Int) ∧ k ≤ 2 ∧ Kp [] w' wr ∧ Rb wr la 2 2 [.int .i64 n, .int .i64 m]) (fun i _ => 2 - (intOf i).toNat)
  case atStart => exact ⟨0, rfl, by omega, kw, HR⟩
  case round =>
    obtain ⟨p, rfl, hp, kp, rp⟩ := hrel
    clear kw HR
    by_cases hlt : p < 2
    · obtain ⟨b, o, k, rfl, hc, hk64⟩ : ∃ b o k, la = some ⟨b, o, none⟩ ∧ wr.cell? ⟨b, o + p, none⟩ = some (.int .i64 k) ∧ int64 k := by
        obtain ⟨b, o, h1, h2⟩ := rp.at' p hlt
        have hp2 : p = 0 ∨ p = 1 := by omega
        rcases hp2 with rfl | rfl
        · exact ⟨b, o, n, h1, h2, h64⟩
        · exact ⟨b, o, m, h1, h2, h64'⟩
      have HN := number_any wr (hi.kept kp) k hk64
      have hg := rune_good k
      have hs := @rune_self k
      obtain ⟨cp, w2, hcv, k2, hcell, hback⟩ := to_runes wr hg
      rw [show num k = Utf8.encode (rune k) from rfl] at HN
      have hk2 := kp.trans k2 (fun x hx => by simp at hx)
      have rp2 := rp.kept k2
      clear hn hi h64 h64' kp k2
      generalize Utf8.encode (rune k) = s at HN hcv hback
      generalize rune k = r at hg hs hcell
      by_cases h1 : 32 ≤ k ∧ k < 127
      · obtain rfl := hs (Or.inl h1)
        obtain ⟨h2, h3⟩ := h1
        clear hs hg
        go_wp2_with fail
        refine HN.mono ?_
        rintro e w3 ⟨rfl, rfl⟩
        clear HN
        go_wp2
        go_roundw
        case rel => exact ⟨p + 1, by go_num, by omega, hk2, rp2⟩
        case measure => simp [intOf]; omega
      by_cases h4 : 160 ≤ k ∧ k < 55296
      · obtain rfl := hs (Or.inr h4)
        obtain ⟨h5, h6⟩ := h4
        clear hs hg h1
        have h7 : ¬ r < 127 := by omega
        go_wp2_with fail
        refine HN.mono ?_
        rintro e w3 ⟨rfl, rfl⟩
        clear HN
        go_wp2
        go_roundw
        case rel => exact ⟨p + 1, by go_num, by omega, hk2, rp2⟩
        case measure => simp [intOf]; omega
      clear hs
      have hx : k < 32 ∨ (32 ≤ k ∧ 127 ≤ k ∧ k < 160) ∨ (32 ≤ k ∧ 160 ≤ k ∧ 55296 ≤ k) := by omega
      have hy : r < 55296 ∨ (55296 ≤ r ∧ 57343 < r) := by unfold good at hg; omega
      clear h1 h4 hg
      rcases hx with hx | ⟨hx0, hx1, hx2⟩ | ⟨hx0, hx1, hx2⟩
      · rcases hy with hy | ⟨hy1, hy2⟩
        · go_wp2_with fail
          refine HN.mono ?_
          rintro e w3 ⟨rfl, rfl⟩
          clear HN
          go_wp2
          go_roundw
          case rel => exact ⟨p + 1, by go_num, by omega, hk2, rp2⟩
          case measure => simp [intOf]; omega
        · go_wp2_with fail
          refine HN.mono ?_
          rintro e w3 ⟨rfl, rfl⟩
          clear HN
          go_wp2
          go_roundw
          case rel => exact ⟨p + 1, by go_num, by omega, hk2, rp2⟩
          case measure => simp [intOf]; omega
      · rcases hy with hy | ⟨hy1, hy2⟩
        · go_wp2_with fail
          refine HN.mono ?_
          rintro e w3 ⟨rfl, rfl⟩
          clear HN
          go_wp2
          go_roundw
          case rel => exact ⟨p + 1, by go_num, by omega, hk2, rp2⟩
          case measure => simp [intOf]; omega
        · go_wp2_with fail
          refine HN.mono ?_
          rintro e w3 ⟨rfl, rfl⟩
          clear HN
          go_wp2
          go_roundw
          case rel => exact ⟨p + 1, by go_num, by omega, hk2, rp2⟩
          case measure => simp [intOf]; omega
      · rcases hy with hy | ⟨hy1, hy2⟩
        · go_wp2_with fail
          refine HN.mono ?_
          rintro e w3 ⟨rfl, rfl⟩
          clear HN
          go_wp2
          go_roundw
          case rel => exact ⟨p + 1, by go_num, by omega, hk2, rp2⟩
          case measure => simp [intOf]; omega
        · go_wp2_with fail
          refine HN.mono ?_
          rintro e w3 ⟨rfl, rfl⟩
          clear HN
          go_wp2
          go_roundw
          case rel => exact ⟨p + 1, by go_num, by omega, hk2, rp2⟩
          case measure => simp [intOf]; omega
    · go_wp2_with fail
      refine (known_any _ (hn.kept kp)).mono ?_
      rintro e w3 ⟨rfl, rfl⟩
      go_wp2
      go_ret
      exact ⟨rfl, kp⟩

end Go.Proofs.YtidkcfblfibaaaaDoor
