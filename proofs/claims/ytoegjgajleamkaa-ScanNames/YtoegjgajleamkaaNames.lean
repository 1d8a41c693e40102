/-
  The walk of ScanNames: it answers true, for any arguments, and leaves what was there as it was.
-/
import Derived.Test.YtoegjgajleamkaaFinds
namespace Go.Proofs.Ytoegjgajleamkaa
open Go.RowKit Utf

/-- No sign that ends a name. -/
theorem enN_no {x : Int} (h : enN x = false) : isSp x = false ∧ (x == 47) = false ∧ (x == 62) = false := by
  unfold enN at h
  simp only [Bool.or_eq_false_iff] at h
  exact ⟨h.1.1, h.1.2, h.2⟩

theorem enN_yes {x : Int} (h : enN x = true) : (x == 47) = true ∨ ((x == 47) = false ∧ (x == 62) = true) ∨ ((x == 47) = false ∧ (x == 62) = false ∧ isSp x = true) := by
  unfold enN at h
  cases h1 : x == 47 <;> cases h2 : x == 62 <;> cases h3 : isSp x <;> simp [h1, h2, h3] at h ⊢

theorem skip_stays {s : ByteArray} {p : Nat} (hp : p < s.size) (h : isSp (bt s p) = false) : skipF s p = p :=
  fs_eq ⟨Nat.le_refl _, by omega, fun j h1 h2 => by omega, fun _ => by rw [h]; rfl⟩

theorem skip_goes {s : ByteArray} {p : Nat} (hp : p < s.size) (h : isSp (bt s p) = true) : p < skipF s p ∧ skipF s p ≤ s.size := by
  have F := fs_is (fun i => !isSp (bt s i)) (show p ≤ s.size by omega)
  have h1 : p ≤ skipF s p := F.lo
  have h2 : skipF s p ≤ s.size := F.hi
  refine ⟨?_, h2⟩
  by_cases he : skipF s p = p
  · have := F.at' (show skipF s p < s.size by omega)
    have h3 : fs (fun i => !isSp (bt s i)) p s.size = p := he
    rw [h3] at this
    simp only [h] at this
    cases this
  · omega

set_option maxRecDepth 100000 in
set_option maxHeartbeats 1000000 in
theorem names_any (w : World) (s0 : ByteArray) (p : Int) : Calls Try.prog 6 #[.string s0, .int .i64 p] w fun e w' => e = .returned (.bool true) ∧ Kp [] w w' := by
  have H1 := head_any w s0 80 80 rfl (by omega)
  have hs := cutB_size s0 80
  generalize cutB s0 80 = s at H1 hs
  have H3 := from_zero w p s.size (by omega)
  have ha := wi_le p s.size
  generalize wi p s.size = a at H3 ha
  have H4 := name_at w s a ha (by omega)
  obtain ⟨f, hf⟩ : ∃ f, nameF s a = f := ⟨_, rfl⟩
  have F := fs_is (fun i => enN (bt s i)) ha
  rw [show fs (fun i => enN (bt s i)) a s.size = f from hf] at F
  have HF : Hid (Fs (fun i => enN (bt s i)) a s.size f) := F
  have f1 := F.lo
  have f2 := F.hi
  have HM : Hid (∀ W, Calls Try.prog 17 #[.string s, .int .i64 (f : Int)] W fun e w' => e = .returned (.int .i64 (f : Int)) ∧ Kp [] W w') := fun W => by
    have := name_at W s f f2 (by omega)
    rw [show nameF s f = f by rw [← hf]; exact fs_again _ ha] at this
    exact this
  rw [hf] at H4
  clear hf F
  have d1 : decide (f < a) = false := decide_eq_false (by omega)
  have d2 : decide (s.size < f) = false := decide_eq_false (by omega)
  go_enter Try.func6, Try.ntmps6
  go_wp2_with fail
  refine H1.mono ?_
  rintro e w1 ⟨rfl, rfl⟩
  clear H1
  go_wp2_with fail
  refine H3.mono ?_
  rintro e w3 ⟨rfl, rfl⟩
  clear H3
  go_wp2_with fail
  refine H4.mono ?_
  rintro e w4 ⟨rfl, q4⟩
  clear H4
  go_upto_region 6 with fail
  clear d1 d2
  go_wp2
  go_loopw [6] (fun i wr => ∃ m : Nat, a ≤ m ∧ m ≤ f ∧ i = .int .i64 m ∧ Kp [] w3 wr) (fun i _ => f - (intOf i).toNat)
  case atStart => exact ⟨a, Nat.le_refl _, f1, rfl, q4⟩
  case round =>
    obtain ⟨m, hm1, hm2, rfl, km⟩ := hrel
    clear q4
    by_cases hlt : m < f
    · obtain ⟨g1, g2, g3⟩ := enN_no (HF.out.no m hm1 hlt)
      have HC := skip_at wr s m (by omega) (by omega)
      rw [skip_stays (by omega) g1] at HC
      have i1 := index_at s (m : Int) m rfl (by omega)
      generalize bt s m = x at i1 g1 g2 g3
      clear g1
      have em : ((m : Int) == (m : Int)) = true := by simp
      have em2 : ((m : Int) != (m : Int)) = false := by simp
      go_wp2_with fail
      refine (from_back HC km).mono ?_
      rintro e w6 ⟨rfl, q6⟩
      clear HC km
      go_wp2
      go_roundw
      case rel => exact ⟨m + 1, by omega, by omega, by go_num, q6⟩
      case measure => simp [intOf]; omega
    · obtain rfl : m = f := by omega
      have em : ((m : Int) == (m : Int)) = true := by simp
      by_cases hn : m < s.size
      · have hx := HF.out.at' hn
        have i1 := index_at s (m : Int) m rfl hn
        have HC := skip_at wr s m (by omega) (by omega)
        have HG : Hid (isSp (bt s m) = true → m < skipF s m ∧ skipF s m ≤ s.size) := fun h => skip_goes hn h
        have ne1 : ((m : Int) == (s.size : Int)) = false := by
          simp
          omega
        generalize bt s m = x at i1 hx HG
        generalize skipF s m = k at HC HG
        clear HF hlt
        rcases enN_yes hx with c1 | ⟨c1, c2⟩ | ⟨c1, c2, c3⟩
        · clear HC HG hx
          go_wp2_with fail
          refine (from_back (HM.out _) km).mono ?_
          rintro e w7 ⟨rfl, q7⟩
          clear HM km
          go_wp2_with fail
          refine (from_back (known_any _) q7).mono ?_
          rintro e w8 ⟨rfl, q8⟩
          clear q7
          go_wp2
          go_ret
          exact ⟨rfl, q8⟩
        · clear HC HG hx
          go_wp2_with fail
          refine (from_back (HM.out _) km).mono ?_
          rintro e w7 ⟨rfl, q7⟩
          clear HM km
          go_wp2_with fail
          refine (from_back (known_any _) q7).mono ?_
          rintro e w8 ⟨rfl, q8⟩
          clear q7
          go_wp2
          go_ret
          exact ⟨rfl, q8⟩
        · obtain ⟨z1, z2⟩ := HG.out c3
          clear HG hx c3
          go_wp2_with fail
          refine (from_back HC km).mono ?_
          rintro e w6 ⟨rfl, q6⟩
          clear HC km
          go_wp2_with fail
          refine (from_back (HM.out _) q6).mono ?_
          rintro e w7 ⟨rfl, q7⟩
          clear HM q6
          go_wp2_with fail
          refine (from_back (known_any _) q7).mono ?_
          rintro e w8 ⟨rfl, q8⟩
          clear q7
          go_wp2
          go_ret
          exact ⟨rfl, q8⟩
      · have ne1 : ((m : Int) == (s.size : Int)) = true := by
          simp
          omega
        clear HF hlt
        go_wp2_with fail
        refine (from_back (HM.out _) km).mono ?_
        rintro e w7 ⟨rfl, q7⟩
        clear HM km
        go_wp2_with fail
        refine (from_back (known_any _) q7).mono ?_
        rintro e w8 ⟨rfl, q8⟩
        clear q7
        go_wp2
        go_ret
        exact ⟨rfl, q8⟩

end Go.Proofs.Ytoegjgajleamkaa
