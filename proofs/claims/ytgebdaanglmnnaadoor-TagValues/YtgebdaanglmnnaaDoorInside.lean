/-
  The program's begin and inside, of any text.
-/
import Derived.Test.YtgebdaanglmnnaaDoorAttrs
namespace Go.Proofs.YtgebdaanglmnnaaDoor
open Go.RowKit Utf
set_option linter.unusedVariables false

theorem beg_no {s : ByteArray} {a : Int} (h : ¬ (0 ≤ a ∧ a < s.size ∧ bt s a.toNat = 60)) : begF s a = (0, 0) := by unfold begF; rw [if_neg h]
theorem beg_end {s : ByteArray} {p : Nat} (h1 : p < s.size) (h2 : bt s p = 60) (h3 : st s (p + 1) SL = true) : begF s (p : Int) = if isLet (bt s (p + 2)) = true then (3, p + 2) else (0, 0) := by
  unfold begF
  rw [Int.toNat_natCast, if_pos ⟨by omega, by omega, h2⟩, if_pos h3]
theorem beg_start {s : ByteArray} {p : Nat} (h1 : p < s.size) (h2 : bt s p = 60) (h3 : st s (p + 1) SL = false) : begF s (p : Int) = if isLet (bt s (p + 1)) = true then (2, p + 1) else (0, 0) := by
  unfold begF
  rw [Int.toNat_natCast, if_pos ⟨by omega, by omega, h2⟩, if_neg (by rw [h3]; simp)]
theorem let_out {s : ByteArray} {p : Nat} (h : s.size ≤ p) : isLet (bt s p) = false := by rw [bt_out h]; decide
theorem sl_is {s : ByteArray} {p : Nat} (h : st s p SL = true) : p < s.size := st_le h

set_option maxHeartbeats 1000000 in
set_option maxRecDepth 100000 in
theorem begin_any (w : World) (s : ByteArray) (a : Int) (hs : s.size ≤ 20000) : Calls Tryd.prog 31 #[.string s, .int .i64 a] w fun e w' => e = .returned (.tuple #[.int .i64 (begF s a).1, .int .i64 ((begF s a).2 : Int)]) ∧ Kp [] w w' := by
  by_cases h1 : a < 0
  · rw [beg_no (fun h => by omega)]
    go_enter Tryd.func31, Tryd.ntmps31
    go_wp2
    go_ret2
    exact ⟨rfl, Kp.refl _ _⟩
  by_cases h2 : ¬ a < s.size
  · rw [beg_no (fun h => by omega)]
    go_enter Tryd.func31, Tryd.ntmps31
    go_wp2
    go_ret2
    exact ⟨rfl, Kp.refl _ _⟩
  obtain ⟨p, rfl⟩ : ∃ p : Nat, a = p := ⟨a.toNat, by omega⟩
  have hp : p < s.size := by omega
  have i1 := index_at s (p : Int) p rfl hp
  obtain ⟨r1, r2⟩ := bt_range s p
  by_cases h3 : ¬ bt s p = 60
  · rw [beg_no (fun h => h3 (by have := h.2.2; rwa [Int.toNat_natCast] at this))]
    generalize bt s p = x at i1 h3 r1 r2
    have b1 : (x != 60) = true := by simpa using h3
    clear h3
    go_enter Tryd.func31, Tryd.ntmps31
    go_wp2
    go_ret2
    exact ⟨rfl, Kp.refl _ _⟩
  have h3 : bt s p = 60 := by simpa using h3
  rw [h3] at i1
  have HS := fun W => starts_any W s ((p + 1 : Nat) : Int) ⟨#[47]⟩ (by omega)
  rw [pl_of (by omega), show st s (p + 1) ⟨#[47]⟩ = st s (p + 1) SL from rfl] at HS
  push_cast at HS
  clear h1 h2 r1 r2
  cases h4 : st s (p + 1) SL with
  | true =>
    rw [h4] at HS
    have l1 := sl_is h4
    rw [beg_end hp h3 h4]
    by_cases h5 : p + 2 < s.size
    · have i2 := index_at s ((p : Int) + 1 + 1) (p + 2) (by omega) h5
      have b1 : ((p : Int) + 1 + 1 == (s.size : Int)) = false := by simp only [beq_eq_false_iff_ne, ne_eq]; omega
      obtain ⟨r1, r2⟩ := bt_range s (p + 2)
      have HL := fun W => letter_any W (bt s (p + 2))
      generalize bt s (p + 2) = x at i2 r1 r2 HL
      clear h3 h4
      cases hx : isLet x with
      | true =>
        rw [hx] at HL
        rw [if_pos rfl]
        push_cast
        clear hx
        go_enter Tryd.func31, Tryd.ntmps31
        go_wp2_with fail
        refine (HS _).mono ?_
        rintro e w1 ⟨rfl, k1⟩
        clear HS
        go_wp2_with fail
        refine (HL _).mono ?_
        rintro e w2 ⟨rfl, rfl⟩
        clear HL
        go_wp2
        go_ret2
        exact ⟨rfl, k1⟩
      | false =>
        rw [hx] at HL
        rw [if_neg (by simp)]
        clear hx
        go_enter Tryd.func31, Tryd.ntmps31
        go_wp2_with fail
        refine (HS _).mono ?_
        rintro e w1 ⟨rfl, k1⟩
        clear HS
        go_wp2_with fail
        refine (HL _).mono ?_
        rintro e w2 ⟨rfl, rfl⟩
        clear HL
        go_wp2
        go_ret2
        exact ⟨rfl, k1⟩
    · have b1 : ((p : Int) + 1 + 1 == (s.size : Int)) = true := by simp only [beq_iff_eq]; omega
      rw [let_out (by omega), if_neg (by simp)]
      clear h3 h4
      go_enter Tryd.func31, Tryd.ntmps31
      go_wp2_with fail
      refine (HS _).mono ?_
      rintro e w1 ⟨rfl, k1⟩
      clear HS
      go_wp2
      go_ret2
      exact ⟨rfl, k1⟩
  | false =>
    rw [h4] at HS
    rw [beg_start hp h3 h4]
    by_cases h5 : p + 1 < s.size
    · have i2 := index_at s ((p : Int) + 1) (p + 1) (by omega) h5
      have b1 : ((p : Int) + 1 == (s.size : Int)) = false := by simp only [beq_eq_false_iff_ne, ne_eq]; omega
      obtain ⟨r1, r2⟩ := bt_range s (p + 1)
      have HL := fun W => letter_any W (bt s (p + 1))
      generalize bt s (p + 1) = x at i2 r1 r2 HL
      clear h3 h4
      cases hx : isLet x with
      | true =>
        rw [hx] at HL
        rw [if_pos rfl]
        push_cast
        clear hx
        go_enter Tryd.func31, Tryd.ntmps31
        go_wp2_with fail
        refine (HS _).mono ?_
        rintro e w1 ⟨rfl, k1⟩
        clear HS
        go_wp2_with fail
        refine (HL _).mono ?_
        rintro e w2 ⟨rfl, rfl⟩
        clear HL
        go_wp2
        go_ret2
        exact ⟨rfl, k1⟩
      | false =>
        rw [hx] at HL
        rw [if_neg (by simp)]
        clear hx
        go_enter Tryd.func31, Tryd.ntmps31
        go_wp2_with fail
        refine (HS _).mono ?_
        rintro e w1 ⟨rfl, k1⟩
        clear HS
        go_wp2_with fail
        refine (HL _).mono ?_
        rintro e w2 ⟨rfl, rfl⟩
        clear HL
        go_wp2
        go_ret2
        exact ⟨rfl, k1⟩
    · have b1 : ((p : Int) + 1 == (s.size : Int)) = true := by simp only [beq_iff_eq]; omega
      rw [let_out (by omega), if_neg (by simp)]
      clear h3 h4
      go_enter Tryd.func31, Tryd.ntmps31
      go_wp2_with fail
      refine (HS _).mono ?_
      rintro e w1 ⟨rfl, k1⟩
      clear HS
      go_wp2
      go_ret2
      exact ⟨rfl, k1⟩

theorem Mp.none {w w' : World} (k : Kp [] w w') : Mp w w' none 0 0 [] := ⟨⟨rfl, Or.inl ⟨rfl, rfl⟩⟩, k, fun x hx => by simp [blk] at hx⟩

theorem in_end {s : ByteArray} {p : Nat} (hp : p ≤ s.size) (hq : skipF s p = s.size) (l : List Att) : inF s p l = ([], false, 0) := by rw [in_step hp hq, if_pos rfl]
theorem in_gt {s : ByteArray} {p q : Nat} (hp : p ≤ s.size) (hq : skipF s p = q) (h : q < s.size) (hb : bt s q = 62) (l : List Att) : inF s p l = (l, false, q + 1) := by rw [in_step hp hq, if_neg (by omega), if_pos hb]
theorem in_self {s : ByteArray} {p q : Nat} (hp : p ≤ s.size) (hq : skipF s p = q) (h : q < s.size) (hb : ¬ bt s q = 62) (hg : st s q SG = true) (l : List Att) : inF s p l = (l, true, q + 2) := by rw [in_step hp hq, if_neg (by omega), if_neg hb, if_pos hg]
theorem in_slash {s : ByteArray} {p q : Nat} (hp : p ≤ s.size) (hq : skipF s p = q) (h : q < s.size) (hg : st s q SG = false) (hb : bt s q = 47) (l : List Att) : inF s p l = inF s (q + 1) l := by rw [in_step hp hq, if_neg (by omega), if_neg (by rw [hb]; decide), if_neg (by rw [hg]; simp), if_pos hb]
theorem in_attr {s : ByteArray} {p q : Nat} (hp : p ≤ s.size) (hq : skipF s p = q) (h : q < s.size) (h1 : ¬ bt s q = 62) (h2 : ¬ bt s q = 47) (l : List Att) : inF s p l = if (aF s q).2.2 = 0 then ([], false, 0) else if (aF s q).2.2 = 2 then (l ++ [(aF s q).1], false, (aF s q).2.1) else inF s (aF s q).2.1 (l ++ [(aF s q).1]) := by
  rw [in_step hp hq, if_neg (by omega), if_neg h1, if_neg (fun e => h2 (sg_is.1 e).2.1), if_neg h2]

set_option maxHeartbeats 1000000 in
set_option maxRecDepth 100000 in
theorem inside_any (w : World) (hn : Nm w) (hi : In w) (s : ByteArray) (p0 : Nat) (hp0 : p0 ≤ s.size) (hs : s.size ≤ 380) : Calls Tryd.prog 33 #[.string s, .int .i64 (p0 : Int)] w fun e w' => ∃ ao n c, e = .returned (.tuple #[.slice ao n c, .bool (inF s p0 []).2.1, .int .i64 ((inF s p0 []).2.2 : Int)]) ∧ Mp w w' ao n c (inF s p0 []).1 := by
  obtain ⟨A, hA⟩ : ∃ A, inF s p0 [] = A := ⟨_, rfl⟩
  rw [hA]
  go_enter Tryd.func33, Tryd.ntmps33
  go_wp2
  go_loopw [1, 4] (fun i v wr => ∃ (p : Nat) (ao : Option Addr) (n c : Nat) (L : List Att), p ≤ s.size ∧ i = .int .i64 (p : Int) ∧ v = .slice ao n c ∧ Hid (Mp w wr ao n c L) ∧ Hid (L.length ≤ p) ∧ Hid (inF s p L = A)) (fun i _ _ => s.size - (intOf i).toNat)
  case atStart => exact ⟨p0, _, _, _, [], hp0, rfl, rfl, Mp.nil w, Nat.zero_le _, hA⟩
  case round =>
    obtain ⟨p, ao, n, c, L, hp, rfl, rfl, M, hL, hI⟩ := hrel
    clear hA hp0
    have HK := skip_any wr s (p : Int) (by omega)
    rw [pl_of hp] at HK
    have hk := skip_is s hp
    obtain ⟨q, hq⟩ : ∃ q, skipF s p = q := ⟨_, rfl⟩
    rw [hq] at HK hk
    have l1 := hk.lo
    have l2 := hk.hi
    clear hk
    by_cases h1 : q = s.size
    · have hB := hI.out
      rw [in_end hp (hq.trans h1)] at hB
      subst hB
      subst h1
      clear hI hn hi hq hL
      go_wp2_with fail
      refine HK.mono ?_
      rintro e w1 ⟨rfl, rfl⟩
      clear HK
      go_wp2
      go_ret3
      exact ⟨_, _, _, rfl, Mp.none M.out.kp⟩
    have l3 : q < s.size := by omega
    have b1 : ((q : Int) == (s.size : Int)) = false := by simp only [beq_eq_false_iff_ne, ne_eq]; omega
    have i1 := index_at s (q : Int) q rfl l3
    obtain ⟨r1, r2⟩ := bt_range s q
    by_cases h2 : bt s q = 62
    · have hB := hI.out
      rw [in_gt hp hq l3 h2] at hB
      subst hB
      rw [h2] at i1
      clear hI hn hi hq hL h1 h2
      push_cast
      go_wp2_with fail
      refine HK.mono ?_
      rintro e w1 ⟨rfl, rfl⟩
      clear HK
      go_wp2
      go_ret3
      exact ⟨_, _, _, rfl, M.out⟩
    have HG := starts_any wr s (q : Int) ⟨#[47, 62]⟩ (by omega)
    rw [pl_of l2, show st s q ⟨#[47, 62]⟩ = st s q SG from rfl] at HG
    have b2 : (bt s q == 62) = false := by simpa using h2
    cases h3 : st s q SG with
    | true =>
      have hB := hI.out
      rw [in_self hp hq l3 h2 h3] at hB
      subst hB
      rw [h3] at HG
      generalize bt s q = x at i1 r1 r2 b2
      clear hI hn hi hq hL h1 h2 h3
      push_cast
      go_wp2_with fail
      refine HK.mono ?_
      rintro e w1 ⟨rfl, rfl⟩
      clear HK
      go_wp2_with fail
      refine HG.mono ?_
      rintro e w2 ⟨rfl, k2⟩
      clear HG
      go_wp2
      go_ret3
      exact ⟨_, _, _, rfl, M.out.kept k2⟩
    | false =>
      rw [h3] at HG
      by_cases h4 : bt s q = 47
      · have hB := hI.out
        rw [in_slash hp hq l3 h3 h4] at hB
        have hB2 : Hid (inF s (q + 1) L = A) := hB
        have hL2 : Hid (L.length ≤ q + 1) := by show _ ≤ _; have := hL.out; omega
        rw [h4] at i1
        clear hI hn hi hq hL h1 h2 h3 h4 hB b2 r1 r2
        go_wp2_with fail
        refine HK.mono ?_
        rintro e w1 ⟨rfl, rfl⟩
        clear HK
        go_wp2_with fail
        refine HG.mono ?_
        rintro e w2 ⟨rfl, k2⟩
        clear HG
        go_wp2
        go_roundw
        case rel => exact ⟨q + 1, _, _, _, L, l3, by go_num, rfl, M.out.kept k2, hL2, hB2⟩
        case measure => simp [intOf]; omega
      · have hB := hI.out
        rw [in_attr hp hq l3 h2 h4] at hB
        have HA := fun W (kk : Kp [] w W) => attr_any W (hn.kept kk) (hi.kept kk) s q l3 (by omega)
        obtain ⟨g1, g2, g3, g4⟩ := aF_goes l3
        generalize aF s q = T at HA g1 g2 g3 g4 hB
        obtain ⟨⟨a1, a2⟩, t, th⟩ := T
        simp only [av] at HA g1 g2 g3 g4 hB
        have b4 : (bt s q == 47) = false := by simpa using h4
        have hn1 : n + 1 ≤ 1000 := by have := M.out.len; have := hL.out; omega
        generalize bt s q = x at i1 r1 r2 b2 b4
        clear hI hn hi hq h1 h2 h3 h4
        by_cases h5 : th = 0
        · rw [if_pos h5] at hB
          subst hB
          subst h5
          clear g3 g4 hL
          go_wp2_with fail
          refine HK.mono ?_
          rintro e w1 ⟨rfl, rfl⟩
          clear HK
          go_wp2_with fail
          refine HG.mono ?_
          rintro e w2 ⟨rfl, k2⟩
          clear HG
          have M2 := M.out.kept k2
          clear M
          go_wp2_with fail
          refine (HA _ M2.kp).mono ?_
          rintro e w3 ⟨rfl, k3⟩
          clear HA
          have M3 := (M2.kept k3).kept ((Kp.refl _ _).alloc (.cells #[.string a1, .string a2] 31))
          clear M2 k3
          go_wp2
          go_ret3
          exact ⟨_, _, _, rfl, Mp.none M3.kp⟩
        rw [if_neg h5] at hB
        have b5 : (th == 0) = false := by simpa using h5
        by_cases h6 : th = 2
        · rw [if_pos h6] at hB
          subst hB
          subst h6
          clear g3 g4 hL
          go_wp2_with fail
          refine HK.mono ?_
          rintro e w1 ⟨rfl, rfl⟩
          clear HK
          go_wp2_with fail
          refine HG.mono ?_
          rintro e w2 ⟨rfl, k2⟩
          clear HG
          have M2 := M.out.kept k2
          clear M
          go_wp2_with fail
          refine (HA _ M2.kp).mono ?_
          rintro e w3 ⟨rfl, k3⟩
          clear HA
          have M3 := (M2.kept k3).kept ((Kp.refl _ _).alloc (.cells #[.string a1, .string a2] 31))
          clear M2 k3
          obtain ⟨a4, n4, c4, w4, hrun, M4⟩ := M3.one (a1, a2) (by omega)
          rw [show (w3.alloc (.cells #[.string a1, .string a2] 31)).heap.size = w3.heap.size + 1 by simp] at hrun
          clear M3
          go_wp2_with (at_builtin; refine Lib.wpList_append_run _ rfl _ _ _ _ rfl _ _ rfl rfl _ _ (hrun _) ?_)
          go_ret3
          exact ⟨_, _, _, rfl, M4⟩
        · rw [if_neg h6] at hB
          obtain rfl : th = 1 := by omega
          have hB2 : Hid (inF s t (L ++ [(a1, a2)]) = A) := hB
          have hL2 : Hid ((L ++ [(a1, a2)]).length ≤ t) := by show _ ≤ _; have := hL.out; rw [List.length_append, List.length_singleton]; omega
          clear g3 g4 hL hB h5 h6
          go_wp2_with fail
          refine HK.mono ?_
          rintro e w1 ⟨rfl, rfl⟩
          clear HK
          go_wp2_with fail
          refine HG.mono ?_
          rintro e w2 ⟨rfl, k2⟩
          clear HG
          have M2 := M.out.kept k2
          clear M
          go_wp2_with fail
          refine (HA _ M2.kp).mono ?_
          rintro e w3 ⟨rfl, k3⟩
          clear HA
          have M3 := (M2.kept k3).kept ((Kp.refl _ _).alloc (.cells #[.string a1, .string a2] 31))
          clear M2 k3
          obtain ⟨a4, n4, c4, w4, hrun, M4⟩ := M3.one (a1, a2) (by omega)
          rw [show (w3.alloc (.cells #[.string a1, .string a2] 31)).heap.size = w3.heap.size + 1 by simp] at hrun
          clear M3
          go_wp2_with (at_builtin; refine Lib.wpList_append_run _ rfl _ _ _ _ rfl _ _ rfl rfl _ _ (hrun _) ?_)
          go_roundw
          case rel => exact ⟨t, _, _, _, _, g2, rfl, rfl, M4, hL2, hB2⟩
          case measure => simp [intOf]; omega

end Go.Proofs.YtgebdaanglmnnaaDoor
