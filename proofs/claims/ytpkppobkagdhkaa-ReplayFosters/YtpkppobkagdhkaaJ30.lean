/-
  Joined: PrI.
-/
import Derived.Test.YtpkppobkagdhkaaJ29

/-
  The program's arena: Write, WriteBefore, Make as a whole.
-/
namespace Go.Proofs.Ytpkppobkagdhkaa
open Go.RowKit Go.Maps Utf
set_option linter.unusedVariables false
set_option linter.unusedSimpArgs false

section
variable {tag : Nat → Nat} {w : World} {b g o c : Nat} {q : Bool} {A : Ar} {pl : Nat → Np}

set_option maxHeartbeats 1000000 in
theorem wr_arena (h : Rw tag w b g o c q A.n A.raw pl) (ok : A.Ok) (hn : A.n < 40000) (z : Int) (s : ByteArray) (hs : s.size ≤ 1000) (htx : ∀ x, (A.lb x).text.size ≤ 900000) :
    Calls Try.prog 30 #[.pointer (some ⟨b, 0, none⟩), .int .i64 z, .string s] w fun e w' => e = .returned (.int .i64 (A.wrF z s).2) ∧ ∃ tag', Pa tag' w' b q (A.wrF z s).1.n (A.wrF z s).1.raw ∧ Mv tag w tag' w' := by
  have HH := fun z => has_any h (by omega) z
  obtain ⟨Z, hZ⟩ : ∃ Z, A.wrF z s = Z := ⟨_, rfl⟩
  rw [hZ]
  unfold Ar.wrF at hZ
  have pa0 : ∃ tag', Pa tag' w b q A.n A.raw ∧ Mv tag w tag' w := ⟨tag, ⟨g, o, c, pl, h⟩, Mv.refl tag w⟩
  by_cases hz : A.there z = true
  case neg =>
    have hz : A.there z = false := by simpa using hz
    rw [if_pos hz] at hZ
    subst hZ
    rw [there_dec] at hz
    have pa : Hid _ := pa0
    clear pa0 h
    go_enter Try.func30, Try.ntmps30
    go_wp2_with (go_at_call 10; refine (HH _).mono ?_; rintro e w9 ⟨rfl, hw⟩; have hw2 := hw.symm; clear hw; subst hw2)
    go_ret
    exact ⟨rfl, pa.out⟩
  rw [if_neg (by simp [hz])] at hZ
  obtain ⟨p, rfl, hpn⟩ := there_nat hz
  rw [Int.toNat_natCast] at hZ
  rw [there_dec] at hz
  have HM := may_any h (by omega) p hpn
  rw [show (A.raw p).lb = A.lb p from rfl] at HM
  cases h1 : Ar.hld (A.lb p) with
  | false =>
    rw [h1] at HM
    rw [if_pos h1] at hZ
    subst hZ
    have pa : Hid _ := pa0
    clear pa0 h
    go_enter Try.func30, Try.ntmps30
    go_wp2_with (first | (go_at_call 10; refine (HH _).mono ?_; rintro e w9 ⟨rfl, hw⟩; have hw2 := hw.symm; clear hw; subst hw2) | (go_at_call 42; refine (HM).mono ?_; rintro e w9 ⟨rfl, hw⟩; have hw2 := hw.symm; clear hw; subst hw2))
    go_ret
    exact ⟨rfl, pa.out⟩
  | true =>
    rw [h1] at HM
    rw [if_neg (by rw [h1]; simp)] at hZ
    subst hZ
    have HP := put_arena h ok hn p hpn (A.kids p) [] (by rw [List.append_nil]) (-1) rfl s hs htx
    clear pa0 h
    go_enter Try.func30, Try.ntmps30
    go_wp2_with (first | (go_at_call 10; refine (HH _).mono ?_; rintro e w9 ⟨rfl, hw⟩; have hw2 := hw.symm; clear hw; subst hw2) | (go_at_call 42; refine (HM).mono ?_; rintro e w9 ⟨rfl, hw⟩; have hw2 := hw.symm; clear hw; subst hw2) | (go_at_call 48; refine HP.mono ?_; rintro e w3 ⟨rfl, X3⟩))
    go_ret
    exact ⟨rfl, X3⟩

set_option maxHeartbeats 1000000 in
theorem wb_arena (h : Rw tag w b g o c q A.n A.raw pl) (ok : A.Ok) (hn : A.n < 40000) (z : Int) (s : ByteArray) (hs : s.size ≤ 1000) (htx : ∀ x, (A.lb x).text.size ≤ 900000) :
    Calls Try.prog 49 #[.pointer (some ⟨b, 0, none⟩), .int .i64 z, .string s] w fun e w' => e = .returned (.int .i64 (A.wbF z s).2) ∧ ∃ tag', Pa tag' w' b q (A.wbF z s).1.n (A.wbF z s).1.raw ∧ Mv tag w tag' w' := by
  have HH := fun z => has_any h (by omega) z
  obtain ⟨Z, hZ⟩ : ∃ Z, A.wbF z s = Z := ⟨_, rfl⟩
  rw [hZ]
  unfold Ar.wbF at hZ
  have pa0 : ∃ tag', Pa tag' w b q A.n A.raw ∧ Mv tag w tag' w := ⟨tag, ⟨g, o, c, pl, h⟩, Mv.refl tag w⟩
  by_cases hz : A.there z = true
  case neg =>
    have hz : A.there z = false := by simpa using hz
    rw [if_pos hz] at hZ
    subst hZ
    rw [there_dec] at hz
    have pa : Hid _ := pa0
    clear pa0 h
    go_enter Try.func49, Try.ntmps49
    go_wp2_with (go_at_call 10; refine (HH _).mono ?_; rintro e w9 ⟨rfl, hw⟩; have hw2 := hw.symm; clear hw; subst hw2)
    go_ret
    exact ⟨rfl, pa.out⟩
  rw [if_neg (by simp [hz])] at hZ
  obtain ⟨r, rfl, hpn⟩ := there_nat hz
  rw [Int.toNat_natCast] at hZ
  rw [there_dec] at hz
  have HM := follow_any h (by omega) r hpn
  rw [show (A.raw r).lb = A.lb r from rfl] at HM
  cases hr : A.up r with
  | none =>
    rw [hr] at hZ
    rw [up_eq hr, show (!Ar.fix (A.lb r) && decide ((-1 : Int) ≠ -1)) = false by simp] at HM
    subst hZ
    have pa : Hid _ := pa0
    clear pa0 h
    go_enter Try.func49, Try.ntmps49
    go_wp2_with (first | (go_at_call 10; refine (HH _).mono ?_; rintro e w9 ⟨rfl, hw⟩; have hw2 := hw.symm; clear hw; subst hw2) | (go_at_call 46; refine (HM).mono ?_; rintro e w9 ⟨rfl, hw⟩; have hw2 := hw.symm; clear hw; subst hw2))
    go_ret
    exact ⟨rfl, pa.out⟩
  | some p =>
  rw [hr] at hZ
  replace hZ : (if Ar.fix (A.lb r) = true then (A, 23) else (A.txt p (A.place p r) s, 0)) = Z := hZ
  cases h1 : Ar.fix (A.lb r) with
  | true =>
    rw [h1, show (!true && decide ((A.raw r).up ≠ -1)) = false from rfl] at HM
    rw [if_pos h1] at hZ
    subst hZ
    have pa : Hid _ := pa0
    clear pa0 h
    go_enter Try.func49, Try.ntmps49
    go_wp2_with (first | (go_at_call 10; refine (HH _).mono ?_; rintro e w9 ⟨rfl, hw⟩; have hw2 := hw.symm; clear hw; subst hw2) | (go_at_call 46; refine (HM).mono ?_; rintro e w9 ⟨rfl, hw⟩; have hw2 := hw.symm; clear hw; subst hw2))
    go_ret
    exact ⟨rfl, pa.out⟩
  | false =>
    rw [h1, up_some hr, show (!false && decide ((p : Int) ≠ -1)) = true by simp] at HM
    rw [if_neg (by rw [h1]; simp)] at hZ
    subst hZ
    obtain ⟨k1, k2, ek, ek1, _, _⟩ := ok.split hr
    have epl : A.place p r = k1.length := by
      unfold Ar.place
      rw [ek, List.idxOf_append, if_neg ek1, List.idxOf_cons_self]; simp
    rw [epl]
    have HP := put_arena h ok hn p (ok.lt hr).2 k1 (r :: k2) ek (r : Int) rfl s hs htx
    obtain ⟨c0, _⟩ := h.head
    obtain ⟨l1, _⟩ := h.links hpn
    rw [up_some hr] at l1
    have hr0 : (0 : Int) ≤ (r : Int) := by omega
    have hr1 : (r : Int) < (A.n : Int) := by omega
    clear pa0 h ek ek1 epl
    go_enter Try.func49, Try.ntmps49
    go_wp2_with (first | (go_at_call 10; refine (HH _).mono ?_; rintro e w9 ⟨rfl, hw⟩; have hw2 := hw.symm; clear hw; subst hw2) | (go_at_call 46; refine (HM).mono ?_; rintro e w9 ⟨rfl, hw⟩; have hw2 := hw.symm; clear hw; subst hw2) | (go_at_call 48; refine HP.mono ?_; rintro e w3 ⟨rfl, X3⟩))
    go_ret
    exact ⟨rfl, X3⟩

set_option maxHeartbeats 1000000 in
theorem mk_arena (h : Rw tag w b g o c q A.n A.raw pl) (ok : A.Ok) (hn : A.n < 40000) (kind ns : Int) (name text : ByteArray) (l : List Att) (ao : Option Addr) (n' c' : Nat) (hr : Rp w ao n' c' l) (ha : n' ≤ 10000) (hf : fits l) (h1 : name.size ≤ 1000000) (h2 : text.size ≤ 1000000) :
    Calls Try.prog 41 #[.pointer (some ⟨b, 0, none⟩), .int .i64 kind, .int .i64 ns, .string name, .slice ao n' c', .string text] w fun e w' => e = .returned (.tuple #[.int .i64 (A.mkF kind ns name (uniq l) text).2.1, .int .i64 (A.mkF kind ns name (uniq l) text).2.2]) ∧ ∃ tag', Pa tag' w' b q (A.mkF kind ns name (uniq l) text).1.n (A.mkF kind ns name (uniq l) text).1.raw ∧ Mv tag w tag' w' := by
  obtain ⟨Z, hZ⟩ : ∃ Z, A.mkF kind ns name (uniq l) text = Z := ⟨_, rfl⟩
  rw [hZ]
  unfold Ar.mkF at hZ
  have pa0 : ∃ tag', Pa tag' w b q A.n A.raw ∧ Mv tag w tag' w := ⟨tag, ⟨g, o, c, pl, h⟩, Mv.refl tag w⟩
  by_cases hk : kind < 2 ∨ 5 < kind
  · rw [if_pos hk] at hZ
    subst hZ
    have t2 : (kind == 2) = false := beq_false_of_ne (by omega)
    have t3 : (kind == 3) = false := beq_false_of_ne (by omega)
    have t4 : (kind == 4) = false := beq_false_of_ne (by omega)
    have t5 : (kind == 5) = false := beq_false_of_ne (by omega)
    have pa : Hid _ := pa0
    clear pa0 h hk
    go_enter Try.func41, Try.ntmps41
    go_wp2
    go_ret2
    exact ⟨rfl, pa.out⟩
  rw [if_neg hk] at hZ
  by_cases e3 : kind = 3
  · subst e3
    rw [if_pos rfl] at hZ
    by_cases hbad : (ns ≠ 1 ∧ ns ≠ 2) ∨ name.size = 0
    · rw [if_pos hbad] at hZ
      subst hZ
      have pa : Hid _ := pa0
      rcases hbad with ⟨e1, e2⟩ | e0
      · have t1 : (ns != 1) = true := bne_iff_ne.2 e1
        have t2 : (ns != 2) = true := bne_iff_ne.2 e2
        clear pa0 h hk e1 e2
        go_enter Try.func41, Try.ntmps41
        go_wp2
        go_ret2
        exact ⟨rfl, pa.out⟩
      · have t9 : name.toList.isEmpty = true := emp_yes e0
        clear pa0 h hk e0
        by_cases e1 : ns = 1
        · subst e1
          go_enter Try.func41, Try.ntmps41
          go_wp2
          go_ret2
          exact ⟨rfl, pa.out⟩
        · have t1 : (ns != 1) = true := bne_iff_ne.2 e1
          by_cases e2 : ns = 2
          · subst e2
            clear e1 t1
            go_enter Try.func41, Try.ntmps41
            go_wp2
            go_ret2
            exact ⟨rfl, pa.out⟩
          · have t2 : (ns != 2) = true := bne_iff_ne.2 e2
            clear e1 e2
            go_enter Try.func41, Try.ntmps41
            go_wp2
            go_ret2
            exact ⟨rfl, pa.out⟩
    · rw [if_neg hbad] at hZ
      have eK : keptL (3, ns, name, l, text) = (3, ns, name, uniq l, ⟨#[]⟩) := rfl
      by_cases ht : tmplF (3, ns, name, uniq l, ⟨#[]⟩) = true
      · rw [if_pos ht] at hZ
        subst hZ
        obtain rfl : ns = 1 := by simp [tmplF, Lb.kind, Lb.ns] at ht; exact ht.1
        have := mk_tmpl h ok hn name text l ao n' c' hr ha hf h1 h2 (by omega) (by rw [eK]; exact ht)
        rw [eK] at this
        exact this
      · rw [if_neg ht] at hZ
        subst hZ
        have := mk_good h ok hn 3 ns name text l ao n' c' hr ha hf h1 h2 (by omega) (by rw [eK]; simpa using ht)
        rw [eK] at this
        exact this
  · rw [if_neg e3] at hZ
    by_cases e2 : kind = 2
    · subst e2
      rw [if_pos rfl] at hZ
      subst hZ
      have eK : keptL (2, ns, name, l, text) = (2, 0, name, [], ⟨#[]⟩) := rfl
      have := mk_good h ok hn 2 ns name text l ao n' c' hr ha hf h1 h2 (by omega) (by rw [eK]; simp [tmplF, Lb.kind])
      rw [eK] at this
      exact this
    · rw [if_neg e2] at hZ
      subst hZ
      have eK : keptL (kind, ns, name, l, text) = (kind, 0, ⟨#[]⟩, [], text) := by
        unfold keptL
        rw [if_neg e3, if_neg e2, if_pos (by show kind = 4 ∨ kind = 5; omega)]
      have := mk_good h ok hn kind ns name text l ao n' c' hr ha hf h1 h2 (by omega) (by rw [eK]; simp [tmplF, Lb.kind]; omega)
      rw [eK] at this
      exact this

end

end Go.Proofs.Ytpkppobkagdhkaa
