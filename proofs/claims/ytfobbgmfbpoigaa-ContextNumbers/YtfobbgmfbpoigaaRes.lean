/-
  The current element, Adjusted and Foreign; the modes reset: Reset of the program.
-/
import Derived.Test.YtfobbgmfbpoigaaCxt
namespace Go.Proofs.Ytfobbgmfbpoigaa.Ints
open Go.RowKit Utf
set_option linter.unusedSimpArgs false
set_option linter.unusedVariables false

/-- NS and Name of the current element, or of the context that it stands for; nothing of an empty list. -/
def cur (c : Option (Int × ByteArray)) (zs : List It) : Int × ByteArray := ((vw c zs)[zs.length - 1]?).getD (0, ⟨#[]⟩)

theorem cur_nil (c : Option (Int × ByteArray)) : cur c [] = (0, ⟨#[]⟩) := by
  unfold cur vw
  cases c <;> rfl

set_option maxHeartbeats 1000000 in
theorem current_any (w0 w : World) (q : Nat) (zs : List It) (co : Option Addr) (c : Option (Int × ByteArray)) (h : Li w0 w q zs) (hc : Cp w co c) (hl : zs.length ≤ 1000) :
    Calls Try.prog 24 #[.pointer (some ⟨q, 0, none⟩), .pointer co] w fun e w' => e = .returned (nv (cur c zs)) ∧ Kp [] w w' := by
  have HC := count_any w0 w q zs h
  rcases Nat.eq_zero_or_pos zs.length with h0 | h0
  · obtain rfl := List.eq_nil_of_length_eq_zero h0
    rw [cur_nil]
    unfold nv
    simp only [List.length_nil, Int.ofNat_zero, Int.cast_ofNat_Int] at HC ⊢
    clear h hc h0 hl
    go_enter Try.func24, Try.ntmps24
    go_wp2_with fail
    refine HC.mono ?_
    rintro e w2 ⟨rfl, rfl⟩
    go_wp2
    go_ret2
    exact ⟨rfl, Kp.refl _ _⟩
  · have hv : zs.length - 1 < (vw c zs).length := by rw [vw_len]; omega
    have HS := seen_any w0 w q zs co c (zs.length - 1) h hc hv hl
    have e1 : cur c zs = (vw c zs)[zs.length - 1] := by unfold cur; rw [List.getElem?_eq_getElem hv]; rfl
    rw [← e1, show ((zs.length - 1 : Nat) : Int) = (zs.length : Int) - 1 from Int.ofNat_sub h0] at HS
    have hz : ((zs.length : Int) == 0) = false := by rw [beq_eq_false_iff_ne]; omega
    generalize cur c zs = x at HS
    clear e1 hv h hc
    unfold nv at HS ⊢
    go_enter Try.func24, Try.ntmps24
    go_wp2_with fail
    refine HC.mono ?_
    rintro e w2 ⟨rfl, hw⟩
    have hw2 := hw.symm
    clear hw HC
    subst hw2
    go_wp2_with fail
    refine HS.mono ?_
    rintro e w3 ⟨rfl, k3⟩
    clear HS
    go_wp2
    go_ret2
    exact ⟨rfl, k3⟩

theorem current_nil (w : World) (co : Option Addr) : Calls Try.prog 24 #[.pointer none, .pointer co] w fun e w' => e = .returned (nv (0, ⟨#[]⟩)) ∧ Kp [] w w' := by
  have HC := count_nil w
  unfold nv
  go_enter Try.func24, Try.ntmps24
  go_wp2_with fail
  refine HC.mono ?_
  rintro e w2 ⟨rfl, rfl⟩
  go_wp2
  go_ret2
  exact ⟨rfl, Kp.refl _ _⟩

set_option maxHeartbeats 1000000 in
theorem adj_all (w : World) (lo co : Option Addr) (x : Int × ByteArray) (hx : x.2.size ≤ 1000000) (H : Calls Try.prog 24 #[.pointer lo, .pointer co] w fun e w' => e = .returned (nv x) ∧ Kp [] w w') :
    Calls Try.prog 10 #[.pointer lo, .pointer co] w fun e w' => e = .returned (nv x) ∧ Kp [] w w' := by
  have HL := fun W => clone_any W x.2 hx
  obtain ⟨ns, s⟩ := x
  unfold nv at H ⊢
  simp only at H HL ⊢
  clear hx
  go_enter Try.func10, Try.ntmps10
  go_wp2_with fail
  refine H.mono ?_
  rintro e w2 ⟨rfl, k2⟩
  have K2 : Hid (Kp [] w w2) := k2
  clear H k2
  go_wp2_with fail
  refine (HL w2).mono ?_
  rintro e w3 ⟨rfl, k3⟩
  have K3 : Hid (Kp [] w w3) := K2.out.trans k3 (fun y hy => by simp at hy)
  clear HL k3 K2
  go_wp2
  go_ret2
  exact ⟨rfl, K3.out⟩

set_option maxHeartbeats 1000000 in
theorem foreign_all (w : World) (lo co : Option Addr) (x : Int × ByteArray) (H : Calls Try.prog 24 #[.pointer lo, .pointer co] w fun e w' => e = .returned (nv x) ∧ Kp [] w w') :
    Calls Try.prog 23 #[.pointer lo, .pointer co] w fun e w' => e = .returned (.bool (x.1 == 2)) ∧ Kp [] w w' := by
  obtain ⟨ns, s⟩ := x
  unfold nv at H
  simp only at H ⊢
  go_enter Try.func23, Try.ntmps23
  go_wp2_with fail
  refine H.mono ?_
  rintro e w2 ⟨rfl, k2⟩
  clear H
  go_wp2
  go_ret
  exact ⟨rfl, k2⟩

/-- What an element says of the mode: a mode, or nothing (f: it is the first one). -/
def go1 (t : Int) (hd f : Bool) (x : Int × ByteArray) : Option Int :=
  if x.1 == 1 then (if x.2.toList == wTEMPLATE then some t else if x.2.toList == wHTML then some (if hd then 5 else 3) else if wth x.2 f == 0 then none else some (wth x.2 f)) else none

/-- The mode that the first k of these ask for, the last one first. -/
def rsK (t : Int) (hd : Bool) (l : List (Int × ByteArray)) : Nat → Int
  | 0 => 6
  | k + 1 => match l[k]? with
    | some x => (go1 t hd (k == 0) x).getD (rsK t hd l k)
    | none => 6

theorem rsK_on {t : Int} {hd : Bool} {l : List (Int × ByteArray)} {k : Nat} (h : k < l.length) : rsK t hd l (k + 1) = (go1 t hd (k == 0) l[k]).getD (rsK t hd l k) := by
  show (match l[k]? with | some x => (go1 t hd (k == 0) x).getD (rsK t hd l k) | none => 6) = _
  rw [List.getElem?_eq_getElem h]

set_option maxRecDepth 100000 in
set_option maxHeartbeats 1000000 in
theorem reset_any (w0 w : World) (q : Nat) (zs : List It) (co : Option Addr) (c : Option (Int × ByteArray)) (t : Int) (hd : Bool) (h : Li w0 w q zs) (hc : Cp w co c) (hl : zs.length ≤ 1000) :
    Calls Try.prog 21 #[.pointer (some ⟨q, 0, none⟩), .pointer co, .int .i64 t, .bool hd] w fun e w' => e = .returned (.int .i64 (rsK t hd (vw c zs) zs.length)) ∧ Kp [] w w' := by
  obtain ⟨A, hA⟩ : ∃ A, rsK t hd (vw c zs) zs.length = A := ⟨_, rfl⟩
  rw [hA]
  have HC := count_any w0 w q zs h
  go_enter Try.func21, Try.ntmps21
  go_wp2_with fail
  refine HC.mono ?_
  rintro e w2 ⟨rfl, hw⟩
  have hw2 := hw.symm
  clear hw HC
  subst hw2
  go_wp2
  go_loopw [9] (fun i wr => ∃ k : Nat, k ≤ zs.length ∧ i = .int .i64 ((k : Int) - 1) ∧ Kp [] w wr ∧ rsK t hd (vw c zs) k = A) (fun i _ => (intOf i + 1).toNat)
  case atStart => exact ⟨zs.length, Nat.le_refl _, rfl, Kp.refl _ _, hA⟩
  case round =>
    obtain ⟨k, hk, rfl, kr, hp⟩ := hrel
    clear hA
    cases k with
    | zero =>
      have hA2 : (6 : Int) = A := hp
      subst hA2
      have e0 : ((0 : Nat) : Int) - 1 = -1 := rfl
      rw [e0]
      go_wp2
      go_ret
      exact ⟨rfl, kr⟩
    | succ m =>
      have hv : m < (vw c zs).length := by rw [vw_len]; omega
      have HS := seen_any w0 wr q zs co c m (h.kept kr) (hc.kept kr) hv hl
      rw [rsK_on hv] at hp
      generalize (vw c zs)[m] = x at HS hp
      obtain ⟨ns, s⟩ := x
      have e0 : ((m + 1 : Nat) : Int) - 1 = (m : Int) := by omega
      rw [e0]
      have HW := fun W => wth_any W s ((m : Int) == 0)
      have e1 : (m == 0) = ((m : Int) == 0) := by
        rw [Bool.eq_iff_iff, beq_iff_eq, beq_iff_eq]
        omega
      rw [e1] at hp
      have KR : Hid (Kp [] w wr) := kr
      clear h hc hv e0 e1 kr
      unfold nv at HS
      unfold go1 at hp
      simp only at HS hp
      go_wp2_with fail
      refine HS.mono ?_
      rintro e w2 ⟨rfl, k2⟩
      have K2 : Hid (Kp [] w w2) := KR.out.trans k2 (fun y hy => by simp at hy)
      clear HS KR k2
      cases hn : (ns == 1)
      · rw [hn] at hp
        simp only [Bool.false_eq_true, if_false, Option.getD_none] at hp
        go_wp2
        go_roundw
        case rel => exact ⟨m, by omega, by go_num, K2.out, hp⟩
        case measure => first | (simp [intOf]; done) | (simp [intOf]; omega)
      · rw [hn] at hp
        simp only [if_true] at hp
        unfold wTEMPLATE wHTML at hp
        cases hT : (s.toList == ([116, 101, 109, 112, 108, 97, 116, 101] : List UInt8))
        · rw [hT] at hp
          cases hH : (s.toList == ([104, 116, 109, 108] : List UInt8))
          · rw [hH] at hp
            simp only [Bool.false_eq_true, if_false] at hp
            generalize wth s ((m : Int) == 0) = m1 at HW hp
            cases hm : (m1 == 0)
            · rw [hm] at hp
              simp only [Bool.false_eq_true, if_false, Option.getD_some] at hp
              subst hp
              go_wp2_with fail
              refine (HW _).mono ?_
              rintro e w3 ⟨rfl, hw⟩
              have hw2 := hw.symm
              clear hw HW
              subst hw2
              go_wp2
              go_ret
              exact ⟨rfl, K2.out⟩
            · rw [hm] at hp
              simp only [if_true, Option.getD_none] at hp
              go_wp2_with fail
              refine (HW _).mono ?_
              rintro e w3 ⟨rfl, hw⟩
              have hw2 := hw.symm
              clear hw HW
              subst hw2
              go_wp2
              go_roundw
              case rel => exact ⟨m, by omega, by go_num, K2.out, hp⟩
              case measure => first | (simp [intOf]; done) | (simp [intOf]; omega)
          · rw [hH] at hp
            simp only [Bool.false_eq_true, if_false, if_true, Option.getD_some] at hp
            subst hp
            cases hd
            all_goals
              go_wp2
              go_ret
              exact ⟨rfl, K2.out⟩
        · rw [hT] at hp
          simp only [if_true, Option.getD_some] at hp
          subst hp
          go_wp2
          go_ret
          exact ⟨rfl, K2.out⟩

end Go.Proofs.Ytfobbgmfbpoigaa.Ints
