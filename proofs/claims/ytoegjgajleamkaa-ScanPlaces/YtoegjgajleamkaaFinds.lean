/-
  The walk of ScanFinds: it answers true, for any arguments, and leaves what was there as it was.
-/
import Derived.Test.YtoegjgajleamkaaTells
namespace Go.Proofs.Ytoegjgajleamkaa
open Go.RowKit Utf

theorem fs_again (f : Nat → Bool) {p n : Nat} (h : p ≤ n) : fs f (fs f p n) n = fs f p n :=
  fs_eq ⟨Nat.le_refl _, (fs_is f h).hi, fun j h1 h2 => by omega, (fs_is f h).at'⟩

theorem starts_at (w : World) (s : ByteArray) (p : Nat) (sub : ByteArray) (hp : p ≤ s.size) (hs : s.size ≤ 100000) : Calls Try.prog 14 #[.string s, .int .i64 (p : Int), .string sub] w fun e w' => e = .returned (.bool (st s p sub)) ∧ Kp [] w w' := by
  have := starts_any w s p sub hs
  rw [pl_of hp] at this
  exact this

theorem find_at (w : World) (s : ByteArray) (p : Nat) (sub : ByteArray) (hp : p ≤ s.size) (hs : s.size ≤ 100000) (hb : sub.size ≤ 100000) : Calls Try.prog 13 #[.string s, .int .i64 (p : Int), .string sub] w fun e w' => e = .returned (.int .i64 (findF s sub p : Int)) ∧ Kp [] w w' := by
  have := find_any w s p sub hs hb
  rw [pl_of hp] at this
  exact this

theorem until_at (w : World) (s : ByteArray) (p : Nat) (sub : ByteArray) (hp : p ≤ s.size) (hs : s.size ≤ 100000) (hb : sub.size ≤ 100000) : Calls Try.prog 16 #[.string s, .int .i64 (p : Int), .string sub] w fun e w' => e = .returned (.int .i64 (untilF s sub p : Int)) ∧ Kp [] w w' := by
  have := until_any w s p sub hs hb
  rw [pl_of hp] at this
  exact this

theorem skip_at (w : World) (s : ByteArray) (p : Nat) (hp : p ≤ s.size) (hs : s.size ≤ 100000) : Calls Try.prog 15 #[.string s, .int .i64 (p : Int)] w fun e w' => e = .returned (.int .i64 (skipF s p : Int)) ∧ Kp [] w w' := by
  have := still (skip_any w s p hs)
  rw [pl_of hp] at this
  exact this

theorem name_at (w : World) (s : ByteArray) (p : Nat) (hp : p ≤ s.size) (hs : s.size ≤ 100000) : Calls Try.prog 17 #[.string s, .int .i64 (p : Int)] w fun e w' => e = .returned (.int .i64 (nameF s p : Int)) ∧ Kp [] w w' := by
  have := still (name_any w s p hs)
  rw [pl_of hp] at this
  exact this

set_option maxRecDepth 100000 in
set_option maxHeartbeats 1000000 in
theorem finds_any (w : World) (s0 : ByteArray) (p : Int) (sub0 : ByteArray) : Calls Try.prog 5 #[.string s0, .int .i64 p, .string sub0] w fun e w' => e = .returned (.bool true) ∧ Kp [] w w' := by
  have H1 := head_any w s0 80 80 rfl (by omega)
  have H2 := head_any w sub0 10 10 rfl (by omega)
  have hs := cutB_size s0 80
  have hb := cutB_size sub0 10
  generalize cutB s0 80 = s at H1 hs
  generalize cutB sub0 10 = sub at H2 hb
  have H3 := from_zero w p s.size (by omega)
  have ha := wi_le p s.size
  generalize wi p s.size = a at H3 ha
  have H4 := find_at w s a sub ha (by omega) (by omega)
  obtain ⟨f, hf⟩ : ∃ f, findF s sub a = f := ⟨_, rfl⟩
  have F := fs_is (fun i => st s i sub) ha
  rw [show fs (fun i => st s i sub) a s.size = f from hf] at F
  rw [hf] at H4
  clear hf
  have f1 := F.lo
  have f2 := F.hi
  have HB : Hid (∀ W (i : Nat), a ≤ i → i < f → Calls Try.prog 14 #[.string s, .int .i64 (i : Int), .string sub] W fun e w' => e = .returned (.bool false) ∧ Kp [] W w') := fun W i h1 h2 => by
    have := starts_at W s i sub (by omega) (by omega)
    rw [F.no i h1 h2] at this
    exact this
  have HE : Hid (f < s.size → ∀ W, Calls Try.prog 14 #[.string s, .int .i64 (f : Int), .string sub] W fun e w' => e = .returned (.bool true) ∧ Kp [] W w') := fun h W => by
    have := starts_at W s f sub (by omega) (by omega)
    rw [F.at' h] at this
    exact this
  have HK : Hid (∀ W, Calls Try.prog 15 #[.string s, .int .i64 (a : Int)] W fun e w' => e = .returned (.int .i64 (skipF s a : Int)) ∧ Kp [] W w') := fun W => skip_at W s a ha (by omega)
  have HU : Hid (∀ W, Calls Try.prog 16 #[.string s, .int .i64 (a : Int), .string sub] W fun e w' => e = .returned (.int .i64 (untilF s sub a : Int)) ∧ Kp [] W w') := fun W => until_at W s a sub ha (by omega) (by omega)
  obtain ⟨k, hk⟩ : ∃ k, skipF s a = k := ⟨_, rfl⟩
  obtain ⟨u, hu⟩ : ∃ u, untilF s sub a = u := ⟨_, rfl⟩
  have K := fs_is (fun i => !isSp (bt s i)) ha
  have U := fs_is (fun i => inS sub (bt s i)) ha
  rw [show fs (fun i => !isSp (bt s i)) a s.size = k from hk] at K
  rw [show fs (fun i => inS sub (bt s i)) a s.size = u from hu] at U
  have k1 := K.lo
  have k2 := K.hi
  have u1 := U.lo
  have u2 := U.hi
  have HK2 : Hid (∀ W, Calls Try.prog 15 #[.string s, .int .i64 (k : Int)] W fun e w' => e = .returned (.int .i64 (k : Int)) ∧ Kp [] W w') := fun W => by
    have := skip_at W s k k2 (by omega)
    rw [show skipF s k = k by rw [← hk]; exact fs_again _ ha] at this
    exact this
  have HU2 : Hid (∀ W, Calls Try.prog 16 #[.string s, .int .i64 (u : Int), .string sub] W fun e w' => e = .returned (.int .i64 (u : Int)) ∧ Kp [] W w') := fun W => by
    have := until_at W s u sub u2 (by omega) (by omega)
    rw [show untilF s sub u = u by rw [← hu]; exact fs_again _ ha] at this
    exact this
  rw [hk] at HK
  rw [hu] at HU
  clear hk hu K U F
  go_enter Try.func5, Try.ntmps5
  go_wp2_with fail
  refine H1.mono ?_
  rintro e w1 ⟨rfl, rfl⟩
  clear H1
  go_wp2_with fail
  refine H2.mono ?_
  rintro e w2 ⟨rfl, rfl⟩
  clear H2
  go_wp2_with fail
  refine H3.mono ?_
  rintro e w3 ⟨rfl, rfl⟩
  clear H3
  go_wp2_with fail
  refine H4.mono ?_
  rintro e w4 ⟨rfl, q4⟩
  clear H4
  have d1 : decide (f < a) = false := decide_eq_false (by omega)
  have d2 : decide (s.size < f) = false := decide_eq_false (by omega)
  by_cases hfn : f < s.size
  · have HE2 := HE.out hfn
    have d3 : decide (f < s.size) = true := decide_eq_true hfn
    clear HE
    go_upto_region 6 with (first | (go_at_call 14; refine (from_back (HE2 _) q4).mono ?_; rintro e w5 ⟨rfl, q5⟩))
    clear HE2 q4
    clear d1 d2 d3
    go_wp2
    go_loopw [8] (fun i wr => ∃ m : Nat, a ≤ m ∧ m ≤ f ∧ i = .int .i64 m ∧ Kp [] w3 wr) (fun i _ => f - (intOf i).toNat)
    case atStart => exact ⟨a, Nat.le_refl _, f1, rfl, by assumption⟩
    case round =>
      obtain ⟨m, hm1, hm2, rfl, km⟩ := hrel
      by_cases hlt : m < f
      · have HC := HB.out wr m hm1 hlt
        go_wp2_with fail
        refine (from_back HC km).mono ?_
        rintro e w6 ⟨rfl, q6⟩
        clear HC km
        go_wp2
        go_roundw
        case rel => exact ⟨m + 1, by omega, by omega, by go_num, q6⟩
        case measure => simp [intOf]; omega
      · obtain rfl : m = f := by omega
        clear HB
        go_wp2_with fail
        refine (from_back (HK.out _) km).mono ?_
        rintro e w6 ⟨rfl, q6⟩
        clear HK km
        go_wp2_with fail
        refine (from_back (HU.out _) q6).mono ?_
        rintro e w7 ⟨rfl, q7⟩
        clear HU q6
        go_wp2_with fail
        refine (from_back (HK2.out _) q7).mono ?_
        rintro e w8 ⟨rfl, q8⟩
        clear HK2 q7
        have ek : ((k : Int) == (k : Int)) = true := by simp
        have eu : ((u : Int) == (u : Int)) = true := by simp
        go_wp2_with fail
        refine (from_back (HU2.out _) q8).mono ?_
        rintro e w9 ⟨rfl, q9⟩
        clear HU2 q8
        go_wp2_with fail
        refine (from_back (known_any _) q9).mono ?_
        rintro e w10 ⟨rfl, q10⟩
        clear q9
        go_wp2
        go_ret
        exact ⟨rfl, q10⟩
  · have d3 : decide (f < s.size) = false := decide_eq_false hfn
    clear HE
    go_upto_region 6 with fail
    clear d1 d2 d3
    go_wp2
    go_loopw [8] (fun i wr => ∃ m : Nat, a ≤ m ∧ m ≤ f ∧ i = .int .i64 m ∧ Kp [] w3 wr) (fun i _ => f - (intOf i).toNat)
    case atStart => exact ⟨a, Nat.le_refl _, f1, rfl, by assumption⟩
    case round =>
      obtain ⟨m, hm1, hm2, rfl, km⟩ := hrel
      by_cases hlt : m < f
      · have HC := HB.out wr m hm1 hlt
        go_wp2_with fail
        refine (from_back HC km).mono ?_
        rintro e w6 ⟨rfl, q6⟩
        clear HC km
        go_wp2
        go_roundw
        case rel => exact ⟨m + 1, by omega, by omega, by go_num, q6⟩
        case measure => simp [intOf]; omega
      · obtain rfl : m = f := by omega
        clear HB
        go_wp2_with fail
        refine (from_back (HK.out _) km).mono ?_
        rintro e w6 ⟨rfl, q6⟩
        clear HK km
        go_wp2_with fail
        refine (from_back (HU.out _) q6).mono ?_
        rintro e w7 ⟨rfl, q7⟩
        clear HU q6
        go_wp2_with fail
        refine (from_back (HK2.out _) q7).mono ?_
        rintro e w8 ⟨rfl, q8⟩
        clear HK2 q7
        have ek : ((k : Int) == (k : Int)) = true := by simp
        have eu : ((u : Int) == (u : Int)) = true := by simp
        go_wp2_with fail
        refine (from_back (HU2.out _) q8).mono ?_
        rintro e w9 ⟨rfl, q9⟩
        clear HU2 q8
        go_wp2_with fail
        refine (from_back (known_any _) q9).mono ?_
        rintro e w10 ⟨rfl, q10⟩
        clear q9
        go_wp2
        go_ret
        exact ⟨rfl, q10⟩

end Go.Proofs.Ytoegjgajleamkaa
