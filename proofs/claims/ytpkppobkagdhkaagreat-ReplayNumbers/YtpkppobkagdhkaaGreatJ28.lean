/-
  Joined: Rts Rtb RdF RdG RdH RdI Rref RefA Okt.
-/
import Derived.Test.YtpkppobkagdhkaaGreatJ7
import Derived.Deep.Cut
import Derived.Test.YtpkppobkagdhkaaGreatJ27
import Derived.Test.YtpkppobkagdhkaaGreatJ26
import Derived.Test.YtpkppobkagdhkaaGreatJ21
import Derived.Test.YtpkppobkagdhkaaGreatJ10
import Derived.Test.YtpkppobkagdhkaaGreatJ8
import Derived.Test.YtpkppobkagdhkaaGreatJ11

/-
  The program's Equal, isNumber, isMade, Same, named, Right.
-/
namespace Go.Proofs.YtpkppobkagdhkaaGreat
open Go.RowKit
set_option linter.unusedVariables false

set_option maxHeartbeats 1000000 in
theorem equal_any (w : World) (l m : List Att) (ao bo : Option Addr) (n c p d : Nat) (hr : Rp w ao n c l) (hs : Rp w bo p d m) (hl : n ≤ 100000) (hm : p ≤ 100000) :
    Calls Tryz.prog 103 #[.slice ao n c, .slice bo p d] w fun e w' => e = .returned (.bool (same l m)) ∧ Kp [] w w' := by
  obtain rfl := hr.len
  obtain rfl := hs.len
  by_cases hlen : l.length = m.length
  · have hne : ((l.length : Int) != (m.length : Int)) = false := by rw [hlen]; simp
    obtain ⟨A, hA⟩ : ∃ A, same l m = A := ⟨_, rfl⟩
    rw [hA]
    have hkm : ∀ k, k < l.length → k < m.length := fun k hk => by omega
    have hend : Hid (l.take l.length = m.take l.length → l = m) := fun h => by rw [List.take_length, hlen, List.take_length] at h; exact h
    clear hlen
    go_enter Tryz.func103, Tryz.ntmps103
    go_wp2
    go_loopw [13] (fun i wr => ∃ k q : Nat, k ≤ l.length ∧ i = .int .i64 k ∧ wr = w.drewN q ∧ l.take k = m.take k) (fun i _ => l.length - (intOf i).toNat)
    case atStart => exact ⟨0, 0, Nat.zero_le _, rfl, rfl, rfl⟩
    case round =>
      obtain ⟨k, q, hk, rfl, rfl, hp⟩ := hrel
      by_cases hlt : k < l.length
      · have hlt2 := hkm k hlt
        obtain ⟨b1, o1, rfl, h1, h2⟩ := hr.get k hlt
        obtain ⟨b2, o2, rfl, h3, h4⟩ := hs.get k hlt2
        have htk : Hid (l[k] = m[k] → l.take (k + 1) = m.take (k + 1)) := take_eq hlt hlt2 hp
        have hnt : Hid (l[k] ≠ m[k] → same l m = false) := fun h => same_not (fun e => h (by simp only [e]))
        clear hr hs hp hkm hend
        generalize l[k] = x at h1 h2 htk hnt
        generalize m[k] = y at h3 h4 htk hnt
        rcases parted x y with ⟨e0, e1, e2⟩ | ⟨e0, e1⟩ | ⟨e0, e1, e2⟩
        · subst e0
          have hp := htk.out rfl
          clear htk hnt
          go_wp2_with fail
          go_region
          go_wp2
          go_roundw
          case rel => exact ⟨k + 1, _, by omega, by go_num, rfl, hp⟩
          case measure => simp [intOf]; omega
        all_goals
          have hp := hnt.out e0
          rw [hA] at hp
          subst hp
          clear htk hnt e0 hA
          go_wp2_with fail
          go_region
          go_wp2
          go_ret
          exact ⟨rfl, (Kp.refl _ _).drewN _⟩
      · obtain rfl : k = l.length := by omega
        rw [same_yes (hend.out hp)] at hA
        subst hA
        go_wp2
        go_ret
        exact ⟨rfl, (Kp.refl _ _).drewN _⟩
  · have hne : ((l.length : Int) != (m.length : Int)) = true := by simp; omega
    rw [same_not (fun e => hlen (by rw [e]))]
    clear hlen
    go_enter Tryz.func103, Tryz.ntmps103
    go_wp2
    go_ret
    exact ⟨rfl, Kp.refl _ _⟩

theorem isnum_any (w : World) (n : Int) : Calls Tryz.prog 65 #[.int .i64 n] w fun e w' => e = .returned (.bool (inR n)) ∧ w' = w := by
  by_cases h1 : 0 ≤ n
  · by_cases h2 : n ≤ 2147483647
    · rw [show inR n = true by simp [inR, h1, h2]]
      go_enter Tryz.func65, Tryz.ntmps65
      go_wp2
      go_ret
      exact ⟨rfl, rfl⟩
    · rw [show inR n = false by simp [inR, h2]]
      go_enter Tryz.func65, Tryz.ntmps65
      go_wp2
      go_ret
      exact ⟨rfl, rfl⟩
  · rw [show inR n = false by simp [inR, h1]]
    go_enter Tryz.func65, Tryz.ntmps65
    go_wp2
    go_ret
    exact ⟨rfl, rfl⟩

theorem ismade_any (w : World) (n : Int) : Calls Tryz.prog 66 #[.int .i64 n] w fun e w' => e = .returned (.bool (mk3 n)) ∧ w' = w := by
  have key : ∀ A, mk3 n = A → Calls Tryz.prog 66 #[.int .i64 n] w fun e w' => e = .returned (.bool A) ∧ w' = w := fun A hA => by
    by_cases h1 : n = 2
    · obtain rfl : A = true := by rw [← hA]; simp [mk3, h1]
      clear hA
      subst h1
      go_enter Tryz.func66, Tryz.ntmps66
      go_wp2
      go_ret
      exact ⟨rfl, rfl⟩
    · have q1 : (n == 2) = false := by simpa using h1
      by_cases h2 : n = 3
      · obtain rfl : A = true := by rw [← hA]; simp [mk3, h2]
        clear hA
        subst h2
        go_enter Tryz.func66, Tryz.ntmps66
        go_wp2
        go_ret
        exact ⟨rfl, rfl⟩
      · have q2 : (n == 3) = false := by simpa using h2
        obtain ⟨q3, h3⟩ : ∃ B, (n == 5) = B := ⟨_, rfl⟩
        obtain rfl : A = q3 := by rw [← hA, ← h3]; simp [mk3, q1, q2]
        clear hA
        go_enter Tryz.func66, Tryz.ntmps66
        go_wp2
        go_ret
        exact ⟨rfl, rfl⟩
  exact key _ rfl

end Go.Proofs.YtpkppobkagdhkaaGreat

/-
  The program's Same, named, Right.
-/
namespace Go.Proofs.YtpkppobkagdhkaaGreat
open Go.RowKit
set_option linter.unusedVariables false
set_option linter.unusedSimpArgs false

set_option maxRecDepth 100000 in
set_option maxHeartbeats 1000000 in
theorem osame_any (w : World) (a b : Ot) (p q : Sl) (h1 : Ap w (a, p)) (h2 : Ap w (b, q)) (hl : p.2.1 ≤ 100000) (hm : q.2.1 ≤ 100000) :
    Calls Tryz.prog 64 #[ov a p, ov b q] w fun e w' => e = .returned (.bool (sameO a b)) ∧ Kp [] w w' := by
  obtain ⟨a1, a2, a3, a4, a5, a6, a7, a8, a9⟩ := a
  obtain ⟨b1, b2, b3, b4, b5, b6, b7, b8, b9⟩ := b
  obtain ⟨p1, p2, p3⟩ := p
  obtain ⟨q1, q2, q3⟩ := q
  have k0 : Kp [] w ((w.alloc (.cells (oc ⟨a1, a2, a3, a4, a5, a6, a7, a8, a9⟩ (p1, p2, p3)) 24)).alloc (.cells (oc ⟨b1, b2, b3, b4, b5, b6, b7, b8, b9⟩ (q1, q2, q3)) 24)) := ((Kp.refl _ _).alloc _).alloc _
  have HC := equal_any _ _ _ _ _ _ _ _ _ (Rp.kept h1 k0) (Rp.kept h2 k0) hl hm
  clear h1 h2
  simp only [oc, ov] at HC k0 ⊢
  obtain ⟨A, hA⟩ : ∃ A, sameO ⟨a1, a2, a3, a4, a5, a6, a7, a8, a9⟩ ⟨b1, b2, b3, b4, b5, b6, b7, b8, b9⟩ = A := ⟨_, rfl⟩
  rw [hA]
  simp only [sameO, eqs] at hA
  cases c0 : (a1 == b1)
  · simp only [c0, Bool.true_and, Bool.false_and] at hA
    subst hA
    clear HC
    go_enter Tryz.func64, Tryz.ntmps64
    go_wp2
    go_ret
    exact ⟨rfl, k0⟩
  cases c1 : (a2 == b2)
  · simp only [c0, c1, Bool.true_and, Bool.false_and] at hA
    subst hA
    clear HC
    go_enter Tryz.func64, Tryz.ntmps64
    go_wp2
    go_ret
    exact ⟨rfl, k0⟩
  cases c2 : (a3 == b3)
  · simp only [c0, c1, c2, Bool.true_and, Bool.false_and] at hA
    subst hA
    clear HC
    go_enter Tryz.func64, Tryz.ntmps64
    go_wp2
    go_ret
    exact ⟨rfl, k0⟩
  cases c3 : (a4 == b4)
  · simp only [c0, c1, c2, c3, Bool.true_and, Bool.false_and] at hA
    subst hA
    clear HC
    go_enter Tryz.func64, Tryz.ntmps64
    go_wp2
    go_ret
    exact ⟨rfl, k0⟩
  cases c4 : (a5 == b5)
  · simp only [c0, c1, c2, c3, c4, Bool.true_and, Bool.false_and] at hA
    subst hA
    clear HC
    go_enter Tryz.func64, Tryz.ntmps64
    go_wp2
    go_ret
    exact ⟨rfl, k0⟩
  cases c5 : (a6 == b6)
  · simp only [c0, c1, c2, c3, c4, c5, Bool.true_and, Bool.false_and] at hA
    subst hA
    clear HC
    go_enter Tryz.func64, Tryz.ntmps64
    go_wp2
    go_ret
    exact ⟨rfl, k0⟩
  cases c6 : (a7.toList == b7.toList)
  · simp only [c0, c1, c2, c3, c4, c5, c6, Bool.true_and, Bool.false_and] at hA
    subst hA
    clear HC
    go_enter Tryz.func64, Tryz.ntmps64
    go_wp2
    go_ret
    exact ⟨rfl, k0⟩
  cases c7 : (a9.toList == b9.toList)
  · simp only [c0, c1, c2, c3, c4, c5, c6, c7, Bool.true_and, Bool.false_and] at hA
    subst hA
    clear HC
    go_enter Tryz.func64, Tryz.ntmps64
    go_wp2
    go_ret
    exact ⟨rfl, k0⟩
  simp only [c0, c1, c2, c3, c4, c5, c6, c7, Bool.true_and] at hA
  subst hA
  go_enter Tryz.func64, Tryz.ntmps64
  go_wp2_with (go_at_call 103; refine HC.mono ?_; rintro e w1 ⟨rfl, k1⟩)
  go_ret
  exact ⟨rfl, k0.trans k1 (fun x hx => Or.inl hx)⟩

end Go.Proofs.YtpkppobkagdhkaaGreat

/-
  The document's arena: Append.
-/
namespace Go.Proofs.YtpkppobkagdhkaaGreat
open Go.RowKit Go.Maps Utf
set_option linter.unusedVariables false
set_option linter.unusedSimpArgs false

/-- The document's arena is there, somewhere. -/
def Dn (tag : Nat → Nat) (w : World) (d : Nat) (q : Bool) (A : Ar) : Prop := ∃ g o c pl, Dd tag w d g o c q A pl

/-- Blocks of the marks 3 and 4 alone have turned; new ones have come. -/
structure Dv (tag : Nat → Nat) (w : World) (tag' : Nat → Nat) (w' : World) : Prop where
  os : w'.os = w.os
  tape : w'.tape = w.tape
  output : w'.output = w.output
  size : w.heap.size ≤ w'.heap.size
  block : ∀ k, k < w.heap.size → tag k ≠ 3 → tag k ≠ 4 → w'.heap[k]? = w.heap[k]?
  tg : ∀ k, k < w.heap.size → tag' k = tag k

theorem Dv.of_kp {S : List Nat} {w w' : World} {tag tag' : Nat → Nat} (k : Kp S w w') (hS : ∀ x, x ∈ S → x < w.heap.size → tag x = 3 ∨ tag x = 4) (ht : ∀ x, x < w.heap.size → tag' x = tag x) : Dv tag w tag' w' :=
  ⟨k.os, k.tape, k.output, k.size, fun x hx h3 h4 => k.block x hx (fun hs => by rcases hS x hs hx with e | e <;> omega), ht⟩
theorem Dv.refl (tag : Nat → Nat) (w : World) : Dv tag w tag w := Dv.of_kp (Kp.refl [] w) (fun x hx => by simp at hx) (fun _ _ => rfl)
theorem Dv.trans {w w1 w2 : World} {tag tag1 tag2 : Nat → Nat} (h : Dv tag w tag1 w1) (k : Dv tag1 w1 tag2 w2) : Dv tag w tag2 w2 :=
  ⟨k.os.trans h.os, k.tape.trans h.tape, k.output.trans h.output, Nat.le_trans h.size k.size, fun x hx h3 h4 => (k.block x (Nat.lt_of_lt_of_le hx h.size) (by rw [h.tg x hx]; exact h3) (by rw [h.tg x hx]; exact h4)).trans (h.block x hx h3 h4), fun x hx => (k.tg x (Nat.lt_of_lt_of_le hx h.size)).trans (h.tg x hx)⟩

section
variable {tag : Nat → Nat} {w : World} {d : Nat} {q : Bool} {A : Ar}

theorem dn_turn {g o c : Nat} {pl : Nat → Dp} {w' : World} {A' : Ar} (h : Dd tag w d g o c q A pl) (k : Kp [g] w w') (h' : ∃ pl', Dd (tg5 tag w) w' d g o c q A' pl') : ∃ tag', Dn tag' w' d q A' ∧ Dv tag w tag' w' := by
  obtain ⟨pl', h'⟩ := h'
  exact ⟨_, ⟨g, o, c, pl', h'⟩, Dv.of_kp k (fun x hx _ => by rw [List.mem_singleton.1 hx]; exact .inr h.tg) (fun x hx => tg5_lt hx)⟩

set_option maxRecDepth 100000 in
set_option maxHeartbeats 1000000 in
theorem rapp_any (hD : Dn tag w d q A) (ful : A.Ful) (hn : A.n < 50000) (p x : Int) :
    Calls Tryz.prog 53 #[.pointer (some ⟨d, 0, none⟩), .int .i64 p, .int .i64 x] w fun e w' => e = .returned (.int .i64 (A.appF p x).2) ∧ ∃ tag', Dn tag' w' d q (A.appF p x).1 ∧ Dv tag w tag' w' := by
  have hD0 : Hid (∃ tag', Dn tag' w d q A ∧ Dv tag w tag' w) := ⟨tag, hD, Dv.refl tag w⟩
  obtain ⟨g, o, c, pl, h⟩ := hD
  have HT : Hid (∀ z, Calls Tryz.prog 92 #[.pointer (some ⟨d, 0, none⟩), .int .i64 z] w fun e w' => e = .returned (.bool (A.there z)) ∧ w' = w) := fun z => rthere_any h z
  by_cases h1 : A.there p = false ∨ A.there x = false
  · have eF : A.appF p x = (A, 22) := by unfold Ar.appF; rw [if_pos h1]
    rw [eF]
    clear eF h ful
    cases hp : A.there p with
    | false =>
      clear h1
      go_enter Tryz.func53, Tryz.ntmps53
      go_wp2_with (go_at_call 92; refine (HT.out _).mono ?_; rintro e w9 ⟨rfl, hw⟩; have hw2 := hw.symm; clear hw; subst hw2)
      go_ret
      exact ⟨rfl, hD0.out⟩
    | true =>
      have hx : A.there x = false := h1.resolve_left (by rw [hp]; simp)
      clear h1
      go_enter Tryz.func53, Tryz.ntmps53
      go_wp2_with (go_at_call 92; refine (HT.out _).mono ?_; rintro e w9 ⟨rfl, hw⟩; have hw2 := hw.symm; clear hw; subst hw2)
      go_ret
      exact ⟨rfl, hD0.out⟩
  · have hp : A.there p = true := by cases e : A.there p with | true => rfl | false => exact absurd (.inl e) h1
    have hx : A.there x = true := by cases e : A.there x with | true => rfl | false => exact absurd (.inr e) h1
    obtain ⟨p, rfl, hp'⟩ := there_nat hp
    obtain ⟨x, rfl, hx'⟩ := there_nat hx
    have HH := rholds_any h p hp'
    have HF := rfixed_any h x hx'
    have HW := rwithin_any h ful.toOk p x hp'
    have c0 := h.head.1
    have c6 := (h.seven hx').2.2.2.2.2.2
    have j1 : (0 : Int) ≤ (x : Int) := by omega
    have j2 : (x : Int) < (A.n : Int) := by omega
    by_cases h2 : Ar.hld (A.lb p) = false ∨ Ar.fix (A.lb x) = true
    · have eF : A.appF (p : Int) (x : Int) = (A, 23) := by unfold Ar.appF; rw [if_neg h1, Int.toNat_natCast, Int.toNat_natCast, if_pos h2]
      rw [eF]
      clear eF h ful HW c0 c6 h1
      cases e2 : Ar.hld (A.lb p) with
      | false =>
        rw [e2] at HH
        clear h2
        go_enter Tryz.func53, Tryz.ntmps53
        go_wp2_with (first | (go_at_call 92; refine (HT.out _).mono ?_; rintro e w9 ⟨rfl, hw⟩; have hw2 := hw.symm; clear hw; subst hw2) | (go_at_call 93; refine (HH).mono ?_; rintro e w9 ⟨rfl, hw⟩; have hw2 := hw.symm; clear hw; subst hw2))
        go_ret
        exact ⟨rfl, hD0.out⟩
      | true =>
        have e3 : Ar.fix (A.lb x) = true := h2.resolve_left (by rw [e2]; simp)
        rw [e2] at HH
        rw [e3] at HF
        clear h2
        go_enter Tryz.func53, Tryz.ntmps53
        go_wp2_with (first | (go_at_call 92; refine (HT.out _).mono ?_; rintro e w9 ⟨rfl, hw⟩; have hw2 := hw.symm; clear hw; subst hw2) | (go_at_call 93; refine (HH).mono ?_; rintro e w9 ⟨rfl, hw⟩; have hw2 := hw.symm; clear hw; subst hw2) | (go_at_call 94; refine (HF).mono ?_; rintro e w9 ⟨rfl, hw⟩; have hw2 := hw.symm; clear hw; subst hw2))
        go_ret
        exact ⟨rfl, hD0.out⟩
    · have e2 : Ar.hld (A.lb p) = true := by cases e : Ar.hld (A.lb p) with | true => rfl | false => exact absurd (.inl e) h2
      have e3 : Ar.fix (A.lb x) = false := by cases e : Ar.fix (A.lb x) with | false => rfl | true => exact absurd (.inr e) h2
      rw [e2] at HH
      rw [e3] at HF
      cases hu : A.up x with
      | some u =>
        have eF : A.appF (p : Int) (x : Int) = (A, 24) := by unfold Ar.appF; rw [if_neg h1, Int.toNat_natCast, Int.toNat_natCast, if_neg h2, if_pos (by rw [hu]; simp)]
        rw [eF]
        rw [hu, show Ar.upI (some u) = (u : Int) from rfl] at c6
        have ju : (0 : Int) ≤ (u : Int) := by omega
        clear eF h ful HW h1 h2
        go_enter Tryz.func53, Tryz.ntmps53
        go_wp2_with (first | (go_at_call 92; refine (HT.out _).mono ?_; rintro e w9 ⟨rfl, hw⟩; have hw2 := hw.symm; clear hw; subst hw2) | (go_at_call 93; refine (HH).mono ?_; rintro e w9 ⟨rfl, hw⟩; have hw2 := hw.symm; clear hw; subst hw2) | (go_at_call 94; refine (HF).mono ?_; rintro e w9 ⟨rfl, hw⟩; have hw2 := hw.symm; clear hw; subst hw2))
        go_ret
        exact ⟨rfl, hD0.out⟩
      | none =>
        rw [hu, show Ar.upI none = -1 from rfl] at c6
        cases hw : A.wn p x with
        | true =>
          have eF : A.appF (p : Int) (x : Int) = (A, 26) := by unfold Ar.appF; rw [if_neg h1, Int.toNat_natCast, Int.toNat_natCast, if_neg h2, if_neg (by rw [hu]; simp), if_pos hw]
          rw [eF]
          rw [hw] at HW
          clear eF h ful h1 h2
          go_enter Tryz.func53, Tryz.ntmps53
          go_wp2_with (first | (go_at_call 92; refine (HT.out _).mono ?_; rintro e w9 ⟨rfl, hw⟩; have hw2 := hw.symm; clear hw; subst hw2) | (go_at_call 93; refine (HH).mono ?_; rintro e w9 ⟨rfl, hw⟩; have hw2 := hw.symm; clear hw; subst hw2) | (go_at_call 94; refine (HF).mono ?_; rintro e w9 ⟨rfl, hw⟩; have hw2 := hw.symm; clear hw; subst hw2) | (go_at_call 95; refine (HW).mono ?_; rintro e w9 ⟨rfl, hw⟩; have hw2 := hw.symm; clear hw; subst hw2))
          go_ret
          exact ⟨rfl, hD0.out⟩
        | false =>
          have eF : A.appF (p : Int) (x : Int) = (A.put p (A.kids p).length x, 0) := by unfold Ar.appF; rw [if_neg h1, Int.toNat_natCast, Int.toNat_natCast, if_neg h2, if_neg (by rw [hu]; simp), if_neg (by rw [hw]; simp)]
          rw [eF]
          rw [hw] at HW
          have HP := rput_any h ful.toOk hn p x (A.kids p).length hp' hx' (Nat.le_refl _)
          have c5 := (h.seven hp').2.2.2.2.2.1
          rw [h.klen hp'] at c5
          have j3 : (0 : Int) ≤ (p : Int) := by omega
          have j4 : (p : Int) < (A.n : Int) := by omega
          have HE : Hid (∀ w', Kp [g] w w' → (∃ pl', Dd (tg5 tag w) w' d g o c q (A.put p (A.kids p).length x) pl') → ∃ tag', Dn tag' w' d q (A.put p (A.kids p).length x) ∧ Dv tag w tag' w') := fun w' k h' => dn_turn h k h'
          clear eF h ful h1 h2 hD0
          go_enter Tryz.func53, Tryz.ntmps53
          go_wp2_with (first | (go_at_call 92; refine (HT.out _).mono ?_; rintro e w9 ⟨rfl, hw⟩; have hw2 := hw.symm; clear hw; subst hw2) | (go_at_call 93; refine (HH).mono ?_; rintro e w9 ⟨rfl, hw⟩; have hw2 := hw.symm; clear hw; subst hw2) | (go_at_call 94; refine (HF).mono ?_; rintro e w9 ⟨rfl, hw⟩; have hw2 := hw.symm; clear hw; subst hw2) | (go_at_call 95; refine (HW).mono ?_; rintro e w9 ⟨rfl, hw⟩; have hw2 := hw.symm; clear hw; subst hw2) | (go_at_call 96; refine HP.mono ?_; rintro e w1 ⟨rfl, k1, h1⟩))
          go_ret
          exact ⟨rfl, HE.out _ k1 h1⟩

end

end Go.Proofs.YtpkppobkagdhkaaGreat

/-
  The document's arena: Detach.
-/
namespace Go.Proofs.YtpkppobkagdhkaaGreat
open Go.RowKit Go.Maps Utf
set_option linter.unusedVariables false
set_option linter.unusedSimpArgs false

theorem Ar.cut_eq {A : Ar} (ok : A.Ok) {x p : Nat} (hu : A.up x = some p) : A.cut x = { A with kids := fun y => if y = p then (A.kids p).take (A.place p x) ++ (A.kids p).drop (A.place p x + 1) else A.kids y, up := fun y => if y = x then none else A.up y } := by
  have hk : ∀ y, (if A.up x = some y then (A.kids y).erase x else A.kids y) = if y = p then (A.kids p).take (A.place p x) ++ (A.kids p).drop (A.place p x + 1) else A.kids y := fun y => by
    by_cases e : y = p
    · subst e
      rw [if_pos hu, if_pos rfl, List.erase_eq_eraseIdx_of_idxOf (i := A.place y x) rfl, List.eraseIdx_eq_take_drop_succ]
    · rw [if_neg (by rw [hu]; intro h; exact e (Option.some.inj h).symm), if_neg e]
  unfold Ar.cut
  simp only [hk]

section
variable {tag : Nat → Nat} {w : World} {d : Nat} {q : Bool} {A : Ar}

set_option maxRecDepth 100000 in
set_option maxHeartbeats 1000000 in
theorem rdet_cut {g o c : Nat} {pl : Nat → Dp} (h : Dd tag w d g o c q A pl) (ful : A.Ful) (hn : A.n < 50000) (p x : Nat) (hx : x < A.n) (hf : Ar.fix (A.lb x) = false) (hu : A.up x = some p) :
    Calls Tryz.prog 57 #[.pointer (some ⟨d, 0, none⟩), .int .i64 (x : Int)] w fun e w' => e = .returned (.int .i64 0) ∧ ∃ tag', Dn tag' w' d q (A.cut x) ∧ Dv tag w tag' w' := by
  have ok := ful.toOk
  have hp : p < A.n := (ok.lt hu).2
  obtain ⟨m1, m2⟩ := Ar.place_lt ok hu
  have kl := h.klen hp
  have hb : (A.kids p).length ≤ A.n := Ar.pig _ _ (ok.one p) (fun y hy => (ok.kid_lt hy).1)
  obtain ⟨b7, o7, hk⟩ : ∃ b7 o7, (pl p).2.1 = some ⟨b7, o7, none⟩ := by
    rcases h.kf p hp with e | e
    · rw [e] at kl; simp only at kl; omega
    · exact e
  have hth : A.there (x : Int) = true := by unfold Ar.there; exact decide_eq_true (by omega)
  have HT := rthere_any h (x : Int)
  rw [hth] at HT
  have HF := rfixed_any h x hx
  rw [hf] at HF
  have HPl := rplace_any h ok hn x p hu
  have hcut := Ar.cut_eq ok hu
  obtain ⟨i, hi⟩ : ∃ i, A.place p x = i := ⟨_, rfl⟩
  rw [hi] at HPl m1 hcut
  have j3 : (0 : Int) ≤ (p : Int) := by omega
  have j4 : (p : Int) < (A.n : Int) := by omega
  have j1 : (0 : Int) ≤ (x : Int) := by omega
  have j2 : (x : Int) < (A.n : Int) := by omega
  have i1 : (0 : Int) ≤ (i : Int) := by omega
  have i2 : (i : Int) + 1 ≤ ((A.kids p).length : Int) := by omega
  have kcp := (h.kid p hp).cap
  rw [kl] at kcp
  have i3 : (i : Int) ≤ ((pl p).2.2.2 : Int) := by omega
  have i4 : ((A.kids p).length : Int) ≤ ((pl p).2.2.2 : Int) := by omega
  obtain ⟨i5, hi5⟩ : ∃ z, i + 1 = z := ⟨_, rfl⟩
  have hwr : IntKind.i64.wrap ((i : Int) + 1) = (i5 : Int) := by
    rw [← hi5]
    simp [IntKind.wrap, IntKind.bits, IntKind.signed]
    omega
  have i6 : (0 : Int) ≤ (i5 : Int) := by omega
  have i7 : (i5 : Int) ≤ ((A.kids p).length : Int) := by omega
  rw [hi5] at hcut
  obtain ⟨ko2, hko⟩ : ∃ a, (if (pl p).2.2.2 = i5 then (some ⟨b7, o7, none⟩ : Option Addr) else some ⟨b7, o7 + i5, none⟩) = a := ⟨_, rfl⟩
  have c0 := h.head.1
  have c6 := (h.seven hx).2.2.2.2.2.2
  rw [hu, show Ar.upI (some p) = (p : Int) from rfl] at c6
  have HC : Hid (∀ V, Kp [] w V → V.cell? ⟨d, 0, none⟩ = some (.slice (some ⟨g, o, none⟩) A.n c)) := fun V k => (h.kept k).head.1
  have HF5 : Hid (∀ V, Kp [] w V → V.cell? ⟨g, o + p * 7 + 5, none⟩ = some (.slice (some ⟨b7, o7, none⟩) (A.kids p).length (pl p).2.2.2) ∧ ∀ j, V.frozen? ⟨g, j, none⟩ = false) := fun V k => by
    have := ((h.kept k).seven hp).2.2.2.2.2.1
    rw [hk, kl] at this
    exact ⟨this, (h.kept k).free⟩
  have HTk : Hid (∀ V, Kp [] w V → Src Tryz.prog 1 61 (.slice (some ⟨b7, o7, none⟩) i (pl p).2.2.2) i (iv ((A.kids p).take i)) V) := fun V k => by
    have := ((h.kept k).kid p hp).take i (by omega)
    rw [hk, Nat.mul_one, show (iv (A.kids p)).take i = iv ((A.kids p).take i) by simp [iv]] at this
    exact this.src Tryz.underlying61 (iv_one _)
  have HD : Hid (∀ V, Kp [] w V → Src Tryz.prog 1 61 (.slice ko2 ((A.kids p).length - i5) ((pl p).2.2.2 - i5)) ((A.kids p).length - i5) (iv ((A.kids p).drop i5)) V) := fun V k => by
    have := (h.kept k).kid p hp
    rw [hk, kl] at this
    have := this.drop2 i5 (by omega)
    rw [hko, show (iv (A.kids p)).drop i5 = iv ((A.kids p).drop i5) by simp [iv]] at this
    exact this.src Tryz.underlying61 (iv_one _)
  have hdg := h.ne
  have HZ : Hid (∀ U a n' c', Made w U 3 (some a) n' c' (iv [] ++ iv ((A.kids p).take i) ++ iv ((A.kids p).drop i5)) → ((U.setCell ⟨g, o + p * 7 + 5, none⟩ (.slice (some a) n' c')).cell? ⟨d, 0, none⟩ = some (.slice (some ⟨g, o, none⟩) A.n c) ∧ (U.setCell ⟨g, o + p * 7 + 5, none⟩ (.slice (some a) n' c')).cell? ⟨g, o + x * 7 + 6, none⟩ = some (.int .i64 (p : Int)) ∧ ∀ j, (U.setCell ⟨g, o + p * 7 + 5, none⟩ (.slice (some a) n' c')).frozen? ⟨g, j, none⟩ = false) ∧ ∃ tag', Dn tag' ((U.setCell ⟨g, o + p * 7 + 5, none⟩ (.slice (some a) n' c')).setCell ⟨g, o + x * 7 + 6, none⟩ (.int .i64 (-1))) d q (A.cut x) ∧ Dv tag w tag' ((U.setCell ⟨g, o + p * 7 + 5, none⟩ (.slice (some a) n' c')).setCell ⟨g, o + x * 7 + 6, none⟩ (.int .i64 (-1)))) := fun U a n' c' M => by
    have M' : Made w U 3 (some a) n' c' (iv ((A.kids p).take i ++ (A.kids p).drop i5)) := by
      rw [show iv ((A.kids p).take i ++ (A.kids p).drop i5) = iv [] ++ iv ((A.kids p).take i) ++ iv ((A.kids p).drop i5) by simp [iv]]
      exact M
    obtain ⟨P, e1, e2⟩ := h.kids M' hp hx none
    have e6 := (e1.seven hx).2.2.2.2.2.2
    rw [show ({ A with kids := fun y => if y = p then (A.kids p).take i ++ (A.kids p).drop i5 else A.kids y } : Ar).up x = A.up x from rfl, hu] at e6
    exact ⟨⟨e1.head.1, e6, e1.free⟩, dn_turn h (kpg (kpg (M.2.1.mono (T := [g]) (fun x hx => by simp at hx)) _ _) _ _) ⟨P, by rw [hcut]; exact e2⟩⟩
  generalize (pl p).2.2.2 = kc at *
  clear h kl hk ok ful hcut m2 hi hu hf hth hi5
  generalize A.kids p = ks at *
  generalize A.cut x = AC at *
  go_enter Tryz.func57, Tryz.ntmps57
  go_upto_region 9 with (first | (go_at_call 92; refine (HT).mono ?_; rintro e w9 ⟨rfl, hw⟩; have hw2 := hw.symm; clear hw; subst hw2) | (go_at_call 94; refine (HF).mono ?_; rintro e w9 ⟨rfl, hw⟩; have hw2 := hw.symm; clear hw; subst hw2) | (go_at_call 97; refine HPl.mono ?_; rintro e w1 ⟨rfl, kp1⟩; have d1 := HC.out _ kp1; have d5 := (HF5.out _ kp1).1))
  have hS1 : (World.drew w1).cell? ⟨d, 0, none⟩ = some (.slice (some ⟨g, o, none⟩) A.n c) := d1
  clear d1 d5 HT HF HPl c0 c6
  obtain ⟨U0, hU0⟩ : ∃ V, V = w1.drew := ⟨_, rfl⟩
  have k0 : Kp [] w U0 := by rw [hU0]; exact kp1.drew
  refine wp_region_g (S := fun V => V.cell? ⟨d, 0, none⟩ = some (.slice (some ⟨g, o, none⟩) A.n c)) (T := [17]) (by kernel_rfl) hS1 (fun hHeld => ?_)
  rw [← hU0] at hHeld ⊢
  clear hU0
  refine g_pure 0 (some 36) (.move (.tmp 0)) ?_
  refine g_pure 1 (some 37) (.nilCheck (.tmp 36)) ?_
  refine g_pure 2 (some 38) (.fieldAddr 69 (.tmp 37) 0) ?_
  refine g_take 3 (some 39) (.load 67 (.tmp 38)) (by intro w hSw; (have q1 := hSw); go_simp; try with_reducible rfl) ?_
  refine g_pure 4 (some 40) (.move (.tmp 5)) ?_
  refine g_pure 6 (some 42) (.move (.tmp 7)) ?_
  refine g_pure 7 (some 43) (.move (.tmp 6)) ?_
  refine g_pure 8 (some 44) (.slice 61 (.tmp 42) none (some (.tmp 43)) none) ?_
  refine g_pure 10 (some 46) (.move (.tmp 7)) ?_
  refine g_pure 11 (some 47) (.move (.tmp 6)) ?_
  refine g_pure 12 (some 48) (.binOp .add 3 (.tmp 47) (.const (.int .i64 1)) 3) ?_
  refine g_pure 13 (some 49) (.slice 61 (.tmp 46) (some (.tmp 48)) none none) ?_
  refine wpAnyG_ready (rs := [5]) (by kernel_rfl) (by simp) ?_
  refine AllReadyG.cons (o := ⟨some 41, .buildSlice 61 0 #[], 61, _, _, none⟩) rfl (fun K hK => ?_) AllReadyG.nil
  go_simp
  obtain ⟨U1, hU⟩ : ∃ V, V = World.alloc U0 (.cells #[] 3) := ⟨_, rfl⟩
  rw [← hU]
  have u1 : Kp [] U0 U1 := by rw [hU]; exact (Kp.refl _ _).alloc _
  have k1 : Kp [] w U1 := k0.trans u1 (fun z hz => by simp at hz)
  have M5 : Made w U1 3 (some ⟨U0.heap.size, 0, none⟩) 0 0 (iv []) := ⟨Or.inr ⟨_, 0, 0, #[], rfl, by rw [hU]; exact heap_new _ _, Nat.le_refl _, Nat.zero_le _, by simp, fun j hj => by cases hj⟩, k1, fun z hz => by simp [blk] at hz; have := k0.size; omega⟩
  obtain ⟨g5, hg5⟩ : ∃ g, U0.heap.size = g := ⟨_, rfl⟩
  rw [hg5] at M5 ⊢
  clear hU
  refine hK.out _ _ (HC.out _ k1) (fun hHeld1 => ?_)
  clear hK K hHeld
  try simp only [Act.put, pu1, pu2, pu3]
  refine wpAnyG_ready (rs := [9]) (by kernel_rfl) (by simp) ?_
  refine AllReadyG.cons (o := ⟨some 45, .call { callee := .builtin .append, args := #[.tmp 41, .tmp 44], argTypes := #[61, 61] }, 61, _, _, none⟩) rfl (fun K hK => ?_) AllReadyG.nil
  obtain ⟨a9, n9, c9, U2, run9, M9, kk9, _⟩ := M5.join (by simp) _ _ _ (HTk.out _ k1) (by simp [iv]; omega)
  refine step_app2 (by rfl) _ _ 61 61 (by rfl) _ _ (by rfl) (by rfl) run9 ?_
  have k2 := M9.2.1
  refine hK.out _ _ (HC.out _ k2) (fun hHeld2 => ?_)
  clear hK K hHeld1
  try simp only [Act.put, pu1, pu2, pu3]
  refine wpAnyG_ready (rs := [14]) (by kernel_rfl) (by simp) ?_
  refine AllReadyG.cons (o := ⟨some 50, .call { callee := .builtin .append, args := #[.tmp 45, .tmp 49], argTypes := #[61, 61] }, 61, _, _, none⟩) rfl (fun K hK => ?_) AllReadyG.nil
  obtain ⟨a14, n14, c14, U3, run14, M14, kk14, _⟩ := M9.join (by simp) _ _ _ (HD.out _ k2) (by simp [iv]; omega)
  refine step_app2 (by rfl) _ _ 61 61 (by rfl) _ _ (by rfl) (by rfl) run14 ?_
  have k3 := M14.2.1
  refine hK.out _ _ (HC.out _ k3) (fun hHeld3 => ?_)
  clear hK K hHeld2
  try simp only [Act.put, pu1, pu2, pu3]
  refine g_pure 15 (some 51) (.indexAddr 67 (.tmp 39) (.tmp 40)) ?_
  refine g_pure 16 (some 52) (.fieldAddr 106 (.tmp 51) 5) ?_
  refine wpAnyG_free (by kernel_rfl) ?_
  refine wpAny_ready (rs := [17]) (by kernel_rfl) (by simp) ?_
  refine AllReady.cons (o := ⟨none, .store 61 (.tmp 52) (.tmp 50), 0, _, _, none⟩) rfl (fun K hK => ?_) AllReady.nil
  obtain ⟨f5, fr⟩ := HF5.out _ k3
  go_simp
  refine hK _ _ ?_
  clear hK K
  try simp only [Act.put, pu1, pu2, pu3]
  refine wpAny_done (by kernel_rfl) ?_ _
  obtain ⟨⟨z1, z2, z3⟩, z4⟩ := HZ.out _ _ _ _ M14
  have ZZ : Hid (∃ tag', Dn tag' _ d q AC ∧ Dv tag w tag' _) := z4
  clear z4
  go_wp2
  go_ret
  exact ⟨rfl, ZZ.out⟩

end

end Go.Proofs.YtpkppobkagdhkaaGreat

/-
  The document's arena: Detach, each way.
-/
namespace Go.Proofs.YtpkppobkagdhkaaGreat
open Go.RowKit Go.Maps Utf
set_option linter.unusedVariables false
set_option linter.unusedSimpArgs false

section
variable {tag : Nat → Nat} {w : World} {d : Nat} {q : Bool} {A : Ar}

set_option maxRecDepth 100000 in
set_option maxHeartbeats 1000000 in
theorem rdet_any (hD : Dn tag w d q A) (ful : A.Ful) (hn : A.n < 50000) (x : Int) :
    Calls Tryz.prog 57 #[.pointer (some ⟨d, 0, none⟩), .int .i64 x] w fun e w' => e = .returned (.int .i64 (A.detF x).2) ∧ ∃ tag', Dn tag' w' d q (A.detF x).1 ∧ Dv tag w tag' w' := by
  have hD0 : Hid (∃ tag', Dn tag' w d q A ∧ Dv tag w tag' w) := ⟨tag, hD, Dv.refl tag w⟩
  obtain ⟨g, o, c, pl, h⟩ := hD
  have HT := rthere_any h x
  cases hx : A.there x with
  | false =>
    have eF : A.detF x = (A, 22) := by unfold Ar.detF; rw [if_pos hx]
    rw [eF]
    rw [hx] at HT
    clear eF h ful
    go_enter Tryz.func57, Tryz.ntmps57
    go_wp2_with (go_at_call 92; refine (HT).mono ?_; rintro e w9 ⟨rfl, hw⟩; have hw2 := hw.symm; clear hw; subst hw2)
    go_ret
    exact ⟨rfl, hD0.out⟩
  | true =>
    rw [hx] at HT
    obtain ⟨x, rfl, hx'⟩ := there_nat hx
    have HF := rfixed_any h x hx'
    have j1 : (0 : Int) ≤ (x : Int) := by omega
    have j2 : (x : Int) < (A.n : Int) := by omega
    cases hf : Ar.fix (A.lb x) with
    | true =>
      have eF : A.detF (x : Int) = (A, 23) := by unfold Ar.detF; rw [if_neg (by rw [hx]; simp), Int.toNat_natCast, if_pos hf]
      rw [eF]
      rw [hf] at HF
      clear eF h ful
      go_enter Tryz.func57, Tryz.ntmps57
      go_wp2_with (first | (go_at_call 92; refine (HT).mono ?_; rintro e w9 ⟨rfl, hw⟩; have hw2 := hw.symm; clear hw; subst hw2) | (go_at_call 94; refine (HF).mono ?_; rintro e w9 ⟨rfl, hw⟩; have hw2 := hw.symm; clear hw; subst hw2))
      go_ret
      exact ⟨rfl, hD0.out⟩
    | false =>
      have eF : A.detF (x : Int) = (A.cut x, 0) := by unfold Ar.detF; rw [if_neg (by rw [hx]; simp), Int.toNat_natCast, if_neg (by rw [hf]; simp)]
      rw [eF]
      cases hu : A.up x with
      | some p => exact rdet_cut h ful hn p x hx' hf hu
      | none =>
        rw [Ar.cut_none hu]
        rw [hf] at HF
        have c0 := h.head.1
        have c6 := (h.seven hx').2.2.2.2.2.2
        rw [hu, show Ar.upI none = -1 from rfl] at c6
        clear eF h ful
        go_enter Tryz.func57, Tryz.ntmps57
        go_wp2_with (first | (go_at_call 92; refine (HT).mono ?_; rintro e w9 ⟨rfl, hw⟩; have hw2 := hw.symm; clear hw; subst hw2) | (go_at_call 94; refine (HF).mono ?_; rintro e w9 ⟨rfl, hw⟩; have hw2 := hw.symm; clear hw; subst hw2))
        go_ret
        exact ⟨rfl, hD0.out⟩

end

end Go.Proofs.YtpkppobkagdhkaaGreat

/-
  The document's arena: Before.
-/
namespace Go.Proofs.YtpkppobkagdhkaaGreat
open Go.RowKit Go.Maps Utf
set_option linter.unusedVariables false
set_option linter.unusedSimpArgs false

section
variable {tag : Nat → Nat} {w : World} {d : Nat} {q : Bool} {A : Ar}

set_option maxRecDepth 100000 in
set_option maxHeartbeats 1000000 in
theorem rbef_any (hD : Dn tag w d q A) (ful : A.Ful) (hn : A.n < 50000) (r x : Int) :
    Calls Tryz.prog 54 #[.pointer (some ⟨d, 0, none⟩), .int .i64 r, .int .i64 x] w fun e w' => e = .returned (.int .i64 (A.befF r x).2) ∧ ∃ tag', Dn tag' w' d q (A.befF r x).1 ∧ Dv tag w tag' w' := by
  have hD0 : Hid (∃ tag', Dn tag' w d q A ∧ Dv tag w tag' w) := ⟨tag, hD, Dv.refl tag w⟩
  obtain ⟨g, o, c, pl, h⟩ := hD
  have HT : Hid (∀ z, Calls Tryz.prog 92 #[.pointer (some ⟨d, 0, none⟩), .int .i64 z] w fun e w' => e = .returned (.bool (A.there z)) ∧ w' = w) := fun z => rthere_any h z
  by_cases h1 : A.there r = false ∨ A.there x = false
  · have eF : A.befF r x = (A, 22) := by unfold Ar.befF; rw [if_pos h1]
    rw [eF]
    clear eF h ful
    cases hr : A.there r with
    | false =>
      clear h1
      go_enter Tryz.func54, Tryz.ntmps54
      go_wp2_with (go_at_call 92; refine (HT.out _).mono ?_; rintro e w9 ⟨rfl, hw⟩; have hw2 := hw.symm; clear hw; subst hw2)
      go_ret
      exact ⟨rfl, hD0.out⟩
    | true =>
      have hx : A.there x = false := h1.resolve_left (by rw [hr]; simp)
      clear h1
      go_enter Tryz.func54, Tryz.ntmps54
      go_wp2_with (go_at_call 92; refine (HT.out _).mono ?_; rintro e w9 ⟨rfl, hw⟩; have hw2 := hw.symm; clear hw; subst hw2)
      go_ret
      exact ⟨rfl, hD0.out⟩
  · have hr : A.there r = true := by cases e : A.there r with | true => rfl | false => exact absurd (.inl e) h1
    have hx : A.there x = true := by cases e : A.there x with | true => rfl | false => exact absurd (.inr e) h1
    obtain ⟨r, rfl, hr'⟩ := there_nat hr
    obtain ⟨x, rfl, hx'⟩ := there_nat hx
    have HFr : Hid (Calls Tryz.prog 94 #[.pointer (some ⟨d, 0, none⟩), .int .i64 (r : Int)] w fun e w' => e = .returned (.bool (Ar.fix (A.lb r))) ∧ w' = w) := rfixed_any h r hr'
    have HF : Hid (∀ z : Nat, z < A.n → Calls Tryz.prog 94 #[.pointer (some ⟨d, 0, none⟩), .int .i64 (z : Int)] w fun e w' => e = .returned (.bool (Ar.fix (A.lb z))) ∧ w' = w) := fun z hz => rfixed_any h z hz
    have HW := rwithin_any h ful.toOk r x hr'
    have c0 := h.head.1
    have c6 := (h.seven hx').2.2.2.2.2.2
    have c6r := (h.seven hr').2.2.2.2.2.2
    have j1 : (0 : Int) ≤ (x : Int) := by omega
    have j2 : (x : Int) < (A.n : Int) := by omega
    have j3 : (0 : Int) ≤ (r : Int) := by omega
    have j4 : (r : Int) < (A.n : Int) := by omega
    have eB : A.befF (r : Int) (x : Int) = (match A.up r with | none => (A, 23) | some p => if Ar.fix (A.lb r) = true ∨ Ar.fix (A.lb x) = true then (A, 23) else if A.up x ≠ none then (A, 24) else if A.wn r x = true then (A, 26) else (A.put p (A.place p r) x, 0)) := by unfold Ar.befF; rw [if_neg h1]; simp only [Int.toNat_natCast]; rfl
    rw [eB]
    clear eB h1
    cases hfr : Ar.fix (A.lb r) with
    | true =>
      have eF : (match A.up r with | none => (A, (23 : Int)) | some p => if true = true ∨ Ar.fix (A.lb x) = true then (A, 23) else if A.up x ≠ none then (A, 24) else if A.wn r x = true then (A, 26) else (A.put p (A.place p r) x, 0)) = (A, 23) := by
        cases A.up r with
        | none => rfl
        | some p => exact if_pos (.inl rfl)
      rw [eF]
      clear eF h ful HW c0 c6 c6r
      go_enter Tryz.func54, Tryz.ntmps54
      go_wp2_with (first | (go_at_call 92; refine (HT.out _).mono ?_; rintro e w9 ⟨rfl, hw⟩; have hw2 := hw.symm; clear hw; subst hw2) | (go_at_call 94; refine (HF.out _ (by assumption)).mono ?_; rintro e w9 ⟨rfl, hw⟩; have hw2 := hw.symm; clear hw; subst hw2))
      go_ret
      exact ⟨rfl, hD0.out⟩
    | false =>
      cases hur : A.up r with
      | none =>
        rw [hur, show Ar.upI none = -1 from rfl] at c6r
        clear h ful HW c6
        go_enter Tryz.func54, Tryz.ntmps54
        go_wp2_with (first | (go_at_call 92; refine (HT.out _).mono ?_; rintro e w9 ⟨rfl, hw⟩; have hw2 := hw.symm; clear hw; subst hw2) | (go_at_call 94; refine (HF.out _ (by assumption)).mono ?_; rintro e w9 ⟨rfl, hw⟩; have hw2 := hw.symm; clear hw; subst hw2))
        go_ret
        exact ⟨rfl, hD0.out⟩
      | some p =>
        rw [hur, show Ar.upI (some p) = (p : Int) from rfl] at c6r
        have jp : ¬ (p : Int) < 0 := by omega
        have hp := (ful.toOk.lt hur).2
        cases hfx : Ar.fix (A.lb x) with
        | true =>
          clear h ful HW c6
          go_enter Tryz.func54, Tryz.ntmps54
          go_wp2_with (first | (go_at_call 92; refine (HT.out _).mono ?_; rintro e w9 ⟨rfl, hw⟩; have hw2 := hw.symm; clear hw; subst hw2) | (go_at_call 94; refine (HF.out _ (by assumption)).mono ?_; rintro e w9 ⟨rfl, hw⟩; have hw2 := hw.symm; clear hw; subst hw2))
          go_ret
          exact ⟨by simp, by simpa using hD0.out⟩
        | false =>
          cases hu : A.up x with
          | some u =>
            rw [hu, show Ar.upI (some u) = (u : Int) from rfl] at c6
            have ju : (0 : Int) ≤ (u : Int) := by omega
            clear h ful HW
            go_enter Tryz.func54, Tryz.ntmps54
            go_wp2_with (first | (go_at_call 92; refine (HT.out _).mono ?_; rintro e w9 ⟨rfl, hw⟩; have hw2 := hw.symm; clear hw; subst hw2) | (go_at_call 94; refine (HF.out _ (by assumption)).mono ?_; rintro e w9 ⟨rfl, hw⟩; have hw2 := hw.symm; clear hw; subst hw2))
            go_ret
            exact ⟨by simp, by simpa using hD0.out⟩
          | none =>
            rw [hu, show Ar.upI none = -1 from rfl] at c6
            cases hw : A.wn r x with
            | true =>
              rw [hw] at HW
              clear h ful
              go_enter Tryz.func54, Tryz.ntmps54
              go_wp2_with (first | (go_at_call 92; refine (HT.out _).mono ?_; rintro e w9 ⟨rfl, hw⟩; have hw2 := hw.symm; clear hw; subst hw2) | (go_at_call 94; refine (HF.out _ (by assumption)).mono ?_; rintro e w9 ⟨rfl, hw⟩; have hw2 := hw.symm; clear hw; subst hw2) | (go_at_call 95; refine (HW).mono ?_; rintro e w9 ⟨rfl, hw⟩; have hw2 := hw.symm; clear hw; subst hw2))
              go_ret
              exact ⟨by simp, by simpa using hD0.out⟩
            | false =>
              rw [hw] at HW
              simp only [Bool.false_eq_true, or_self, if_false, ne_eq, not_true_eq_false]
              have hpl := (Ar.place_lt ful.toOk hur).1
              have HPl : Hid (∀ V, Kp [] w V → Calls Tryz.prog 97 #[.pointer (some ⟨d, 0, none⟩), .int .i64 (r : Int)] V fun e w' => e = .returned (.int .i64 (A.place p r : Int)) ∧ Kp [] V w') := fun V k => rplace_any (h.kept k) ful.toOk hn r p hur
              have HPu : Hid (∀ V, Kp [] w V → Calls Tryz.prog 96 #[.pointer (some ⟨d, 0, none⟩), .int .i64 (p : Int), .int .i64 (A.place p r : Int), .int .i64 (x : Int)] V fun e w' => e = .returned (.tuple #[]) ∧ (w'.cell? ⟨d, 0, none⟩ = some (.slice (some ⟨g, o, none⟩) A.n c) ∧ w'.cell? ⟨g, o + r * 7 + 6, none⟩ = some (.int .i64 (p : Int))) ∧ ∃ tag', Dn tag' w' d q (A.put p (A.place p r) x) ∧ Dv tag w tag' w') := fun V k => by
                refine (rput_any (h.kept k) ful.toOk hn p x _ hp hx' (Nat.le_of_lt hpl)).mono ?_
                rintro e w' ⟨rfl, k1, h1⟩
                have hrx : r ≠ x := fun e => by rw [e, hu] at hur; cases hur
                have hS8 : (w'.cell? ⟨d, 0, none⟩ = some (.slice (some ⟨g, o, none⟩) A.n c) ∧ w'.cell? ⟨g, o + r * 7 + 6, none⟩ = some (.int .i64 (p : Int))) := by
                  obtain ⟨pl', h2⟩ := h1
                  have e6 := (h2.seven (i := r) hr').2.2.2.2.2.2
                  rw [show (A.put p (A.place p r) x).up r = some p from (if_neg hrx).trans hur] at e6
                  exact ⟨h2.head.1, e6⟩
                obtain ⟨tag', a, b⟩ := dn_turn (h.kept k) k1 h1
                exact ⟨rfl, hS8, tag', a, (Dv.of_kp k (fun x hx => by simp at hx) (fun _ _ => rfl)).trans b⟩
              have HC : Hid (∀ V, Kp [] w V → V.cell? ⟨d, 0, none⟩ = some (.slice (some ⟨g, o, none⟩) A.n c) ∧ V.cell? ⟨g, o + r * 7 + 6, none⟩ = some (.int .i64 (p : Int))) := fun V k => by
                have e6 := ((h.kept k).seven hr').2.2.2.2.2.2
                rw [hur] at e6
                exact ⟨(h.kept k).head.1, e6⟩
              have hS9 : (World.drew w).cell? ⟨d, 0, none⟩ = some (.slice (some ⟨g, o, none⟩) A.n c) ∧ (World.drew w).cell? ⟨g, o + r * 7 + 6, none⟩ = some (.int .i64 (p : Int)) := ⟨c0, c6r⟩
              clear h ful hD0 hpl
              generalize A.place p r = m at *
              generalize A.put p m x = AP at *
              go_enter Tryz.func54, Tryz.ntmps54
              go_upto_region 9 with (first | (go_at_call 92; refine (HT.out _).mono ?_; rintro e w9 ⟨rfl, hw⟩; have hw2 := hw.symm; clear hw; subst hw2) | (go_at_call 94; refine (HF.out _ (by assumption)).mono ?_; rintro e w9 ⟨rfl, hw⟩; have hw2 := hw.symm; clear hw; subst hw2) | (go_at_call 95; refine (HW).mono ?_; rintro e w9 ⟨rfl, hw⟩; have hw2 := hw.symm; clear hw; subst hw2))
              obtain ⟨U0, hU0⟩ : ∃ V, V = w.drew := ⟨_, rfl⟩
              have k0 : Kp [] w U0 := by rw [hU0]; exact (Kp.refl _ _).drew
              refine wp_region_g (S := fun V => V.cell? ⟨d, 0, none⟩ = some (.slice (some ⟨g, o, none⟩) A.n c) ∧ V.cell? ⟨g, o + r * 7 + 6, none⟩ = some (.int .i64 (p : Int))) (T := []) (by kernel_rfl) hS9 (fun hHeld => ?_)
              rw [← hU0] at hHeld ⊢
              clear hU0
              refine g_pure 0 (some 53) (.move (.tmp 0)) ?_
              refine g_pure 1 (some 54) (.move (.tmp 0)) ?_
              refine g_pure 2 (some 55) (.nilCheck (.tmp 54)) ?_
              refine g_pure 3 (some 56) (.fieldAddr 69 (.tmp 55) 0) ?_
              refine g_take 4 (some 57) (.load 67 (.tmp 56)) (by intro w hSw; (obtain ⟨q1, q2⟩ := hSw); go_simp; try with_reducible rfl) ?_
              refine g_pure 5 (some 58) (.move (.tmp 1)) ?_
              refine g_pure 6 (some 59) (.indexAddr 67 (.tmp 57) (.tmp 58)) ?_
              refine g_pure 7 (some 60) (.fieldAddr 106 (.tmp 59) 6) ?_
              refine g_take 8 (some 61) (.load 3 (.tmp 60)) (by intro w hSw; (obtain ⟨q1, q2⟩ := hSw); go_simp; try with_reducible rfl) ?_
              refine g_pure 9 (some 62) (.move (.tmp 0)) ?_
              refine g_pure 10 (some 63) (.move (.tmp 1)) ?_
              refine g_pure 12 (some 65) (.move (.tmp 2)) ?_
              refine wpAnyG_ready (rs := [11]) (by kernel_rfl) (by simp) ?_
              refine AllReadyG.cons (o := ⟨some 64, .call { callee := .value (.func 97), args := #[.tmp 62, .tmp 63], argTypes := #[63, 3] }, 3, _, _, none⟩) rfl (fun K hK => ?_) AllReadyG.nil
              go_simp
              go_at_call 97
              refine (HPl.out _ k0).mono ?_
              rintro e U1 ⟨rfl, u1⟩
              go_wp2_with fail
              have k1 : Kp [] w U1 := k0.trans u1 (fun z hz => Or.inl hz)
              refine hK.out _ _ (HC.out _ k1) (fun hHeld1 => ?_)
              clear hK K hHeld
              try simp only [Act.put, pu1, pu2, pu3]
              refine wpAnyG_ready (rs := [13]) (by kernel_rfl) (by simp) ?_
              refine AllReadyG.cons (o := ⟨some 66, .call { callee := .value (.func 96), args := #[.tmp 53, .tmp 61, .tmp 64, .tmp 65], argTypes := #[63, 3, 3, 3] }, 0, _, _, none⟩) rfl (fun K hK => ?_) AllReadyG.nil
              go_simp
              go_at_call 96
              refine (HPu.out _ k1).mono ?_
              rintro e U2 ⟨rfl, z8, z9⟩
              go_wp2_with fail
              refine hK.out _ _ z8 (fun hHeld2 => ?_)
              clear hK K hHeld1
              try simp only [Act.put, pu1, pu2, pu3]
              refine wpAnyG_free (by kernel_rfl) ?_
              refine wpAny_done (by kernel_rfl) ?_ _
              have ZZ : Hid (∃ tag', Dn tag' _ d q AP ∧ Dv tag w tag' _) := z9
              clear z9
              go_wp2
              go_ret
              exact ⟨rfl, ZZ.out⟩

end

end Go.Proofs.YtpkppobkagdhkaaGreat

/-
  The document's Right.
-/
namespace Go.Proofs.YtpkppobkagdhkaaGreat
open Go.RowKit
set_option linter.unusedVariables false
set_option linter.unusedSimpArgs false

theorem rref_any (w : World) (o : Ot) (p : Sl) (h : Ap w (o, p)) (hl : p.2.1 ≤ 100000) :
    Calls Tryz.prog 48 #[ov o p] w fun e w' => e = .returned (.bool (rightO o)) ∧ Kp [] w w' := by
  have hq : p.2.1 = o.al.length := Rp.len h
  obtain ⟨a1, a2, a3, a4, a5, a6, a7, a8, a9⟩ := o
  obtain ⟨p1, p2, p3⟩ := p
  by_cases hk : 1 ≤ a1 ∧ a1 ≤ 11
  · obtain rfl | rfl | rfl | rfl | rfl | rfl | rfl | rfl | rfl | rfl | rfl : a1 = 1 ∨ a1 = 2 ∨ a1 = 3 ∨ a1 = 4 ∨ a1 = 5 ∨ a1 = 6 ∨ a1 = 7 ∨ a1 = 8 ∨ a1 = 9 ∨ a1 = 10 ∨ a1 = 11 := by omega
    · exact rref_1 w a2 a3 a4 a5 a6 a7 a8 a9 p1 p2 p3 hq hl
    · exact rref_2 w a2 a3 a4 a5 a6 a7 a8 a9 p1 p2 p3 hq hl
    · exact rref_3 w a2 a3 a4 a5 a6 a7 a8 a9 p1 p2 p3 hq hl
    · exact rref_4 w a2 a3 a4 a5 a6 a7 a8 a9 p1 p2 p3 hq hl
    · exact rref_5 w a2 a3 a4 a5 a6 a7 a8 a9 p1 p2 p3 hq hl
    · exact rref_6 w a2 a3 a4 a5 a6 a7 a8 a9 p1 p2 p3 hq hl
    · exact rref_7 w a2 a3 a4 a5 a6 a7 a8 a9 p1 p2 p3 hq hl
    · exact rref_8 w a2 a3 a4 a5 a6 a7 a8 a9 p1 p2 p3 hq hl
    · exact rref_9 w a2 a3 a4 a5 a6 a7 a8 a9 p1 p2 p3 hq hl
    · exact rref_10 w a2 a3 a4 a5 a6 a7 a8 a9 p1 p2 p3 hq hl
    · exact rref_11 w a2 a3 a4 a5 a6 a7 a8 a9 p1 p2 p3 hq hl
  · have hn : ∀ k : Int, 1 ≤ k → k ≤ 11 → (a1 == k) = false := fun k h1 h2 => by simp; omega
    exact rref_no w a1 a2 a3 a4 a5 a6 a7 a8 a9 p1 p2 p3 hq hl (hn 1 (by omega) (by omega)) (hn 2 (by omega) (by omega)) (hn 3 (by omega) (by omega)) (hn 4 (by omega) (by omega)) (hn 5 (by omega) (by omega)) (hn 6 (by omega) (by omega)) (hn 7 (by omega) (by omega)) (hn 8 (by omega) (by omega)) (hn 9 (by omega) (by omega)) (hn 10 (by omega) (by omega)) (hn 11 (by omega) (by omega))

end Go.Proofs.YtpkppobkagdhkaaGreat

/-
  Count, Depth and Text of the document: they call themselves.
-/
namespace Go.Proofs.YtpkppobkagdhkaaGreat
open Go.RowKit
set_option linter.unusedVariables false

theorem all_at {C : Lb → Fo → Prop} {k : Fo} (h : k.All C) {i : Nat} {l' : Lb} {k' r : Fo} (e : k.drop i = .cons l' k' r) : C l' k' := by
  have := Fo.all_drop i h
  rw [e] at this
  exact ((Fo.all_cons ..).1 this).1

theorem take_all {k : Fo} {i : Nat} (h : k.len ≤ i) : k.take i = k := by
  have h1 := Fo.take_drop i k
  have h2 : k.drop i = .nil := Fo.len_zero.1 (by rw [Fo.len_drop]; omega)
  rw [h2, Fo.app_nil'] at h1
  exact h1
theorem kid_cnt {k : Fo} {i : Nat} {l' : Lb} {k' r : Fo} (e : k.drop i = .cons l' k' r) : k'.cnt < k.cnt := by
  have h := congrArg Fo.cnt (Fo.take_drop i k)
  rw [Fo.cnt_app, e, Fo.cnt_cons] at h
  omega

/-- A kid, as it lies in a later world. -/
theorem Nd.kid {w W : World} {l : Lb} {k : Fo} {p : Pl} (h : Nd Any w l k p) (kW : Kp [] w W) {i : Nat} {l' : Lb} {k' : Fo} (e : k.drop i = .cons l' k' (k.drop (i + 1))) : ∃ p' b off, p.2.1 = some ⟨b, off, none⟩ ∧ Nd Any W l' k' p' ∧ Cl W b (off + i * 6) l' p' := by
  obtain ⟨p', b, off, _, h1, h2, h3⟩ := h.kids.at e
  exact ⟨p', b, off, h1, h2.kept kW, h3.keep kW (by simp)⟩


end Go.Proofs.YtpkppobkagdhkaaGreat

/-
  Trees that are not too great.
-/
namespace Go.Proofs.YtpkppobkagdhkaaGreat
open Go.RowKit
set_option linter.unusedVariables false

/-- A label that is not too great. -/
def okL (l : Lb) : Prop := l.attrs.length ≤ 8000 ∧ fits l.attrs

/-- A tree that is not too great. -/
def okT (l : Lb) (k : Fo) : Prop := (Fo.cons l k .nil).Each okL ∧ k.cnt ≤ 20000

end Go.Proofs.YtpkppobkagdhkaaGreat
