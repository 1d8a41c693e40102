/-
  Joined: RightA RightB RightC RightD Rights.
-/
import Derived.Test.YtgjkfpmhgidpaaaGreatVisits
import Derived.Test.YtgjkfpmhgidpaaaGreatGL
import Derived.Test.YtgjkfpmhgidpaaaGreatWB
import Derived.Test.YtgjkfpmhgidpaaaGreatGT
import Derived.Deep.RegionWith

/-
  isTemplate, mayStand, hasRightKids of the program.
-/
namespace Go.Proofs.YtgjkfpmhgidpaaaGreat
open Go.RowKit
set_option linter.unusedVariables false

theorem tmplR_any (w : World) (b off : Nat) (l : Lb) (p : Pl) (hc : Cl w b off l p) :
    Calls Tryz.prog 93 #[.pointer (some ⟨b, off, none⟩)] w fun e w' => e = .returned (.bool (tmplF l)) ∧ w' = w := by
  obtain ⟨A, hA⟩ : ∃ A, tmplF l = A := ⟨_, rfl⟩
  rw [hA]
  obtain ⟨c0, c1, c2, c3, c4, c5⟩ := hc.cells
  clear hc
  unfold tmplF at hA
  by_cases e1 : l.kind = 3
  · have q1 : ((l.kind : Int) == 3) = true := by simpa using e1
    by_cases e2 : l.ns = 1
    · have q2 : ((l.ns : Int) == 1) = true := by simpa using e2
      by_cases e3 : l.name = TMPL
      · have q3 : (l.name.toList == TMPL.toList) = true := eqs_yes e3
        obtain rfl : true = A := by rw [← hA]; simp [e1, e2, e3]
        rw [show TMPL.toList = [116, 101, 109, 112, 108, 97, 116, 101] from by decide +kernel] at q3
        clear hA e1 e2 e3
        go_enter Tryz.func93, Tryz.ntmps93
        go_wp2
        go_ret
        exact ⟨rfl, rfl⟩
      · have q3 : (l.name.toList == TMPL.toList) = false := eqs_no e3
        obtain rfl : false = A := by rw [← hA]; simp [e3]
        rw [show TMPL.toList = [116, 101, 109, 112, 108, 97, 116, 101] from by decide +kernel] at q3
        clear hA e1 e2 e3
        go_enter Tryz.func93, Tryz.ntmps93
        go_wp2
        go_ret
        exact ⟨rfl, rfl⟩
    · have q2 : ((l.ns : Int) == 1) = false := by simpa using e2
      obtain rfl : false = A := by rw [← hA]; simp [e2]
      clear hA e1 e2
      go_enter Tryz.func93, Tryz.ntmps93
      go_wp2
      go_ret
      exact ⟨rfl, rfl⟩
  · have q1 : ((l.kind : Int) == 3) = false := by simpa using e1
    obtain rfl : false = A := by rw [← hA]; simp [e1]
    clear hA e1
    go_enter Tryz.func93, Tryz.ntmps93
    go_wp2
    go_ret
    exact ⟨rfl, rfl⟩

/-- Is the node ahead of this place of the row a Text? -/
def behF (k : Fo) : Nat → Bool
  | 0 => false
  | n + 1 => match k.drop n with
    | ⟨false, _, _, _⟩ => false
    | ⟨true, l, _, _⟩ => decide ((l rfl).kind = 4)

theorem beh_of {k : Fo} {n : Nat} {l : Lb} {f r : Fo} (e : k.drop n = .cons l f r) : behF k (n + 1) = decide (l.kind = 4) := by
  show (match k.drop n with
    | ⟨false, _, _, _⟩ => false
    | ⟨true, l, _, _⟩ => decide ((l rfl).kind = 4)) = _
  rw [e]; rfl

theorem int_eq_yes {a b : Int} (h : a = b) : (a == b) = true := by simpa using h
theorem int_eq_no {a b : Int} (h : ¬ a = b) : (a == b) = false := by simpa using h

set_option maxRecDepth 100000 in
set_option maxHeartbeats 1000000 in
theorem stand_any (w : World) (b off : Nat) (l : Lb) (k : Fo) (p : Pl) (hc : Cl w b off l p) (hk : Rt Any w p.2.1 p.2.2.1 p.2.2.2 k) (i : Nat) (l' : Lb) (k' : Fo) (hi : k.drop i = .cons l' k' (k.drop (i + 1))) (hil : i < k.len) (hn : k.len ≤ 20000) :
    Calls Tryz.prog 94 #[.pointer (some ⟨b, off, none⟩), .int .i64 (i : Int)] w fun e w' => e = .returned (.bool (hereF l (decide (i = 0)) (behF k i) l')) ∧ w' = w := by
  obtain ⟨A, hA⟩ : ∃ A, hereF l (decide (i = 0)) (behF k i) l' = A := ⟨_, rfl⟩
  rw [hA]
  have HT := tmplR_any w b off l p hc
  obtain ⟨c0, c1, c2, c3, c4, c5⟩ := hc.cells
  have hkl := hk.len
  obtain ⟨p', b', off', _, hbo, nd', cl'⟩ := hk.at hi
  rw [hbo] at c5
  have d0 := cl'.cells.1
  have j1 : (0 : Int) ≤ (i : Int) := by omega
  have j2 : (i : Int) < (p.2.2.1 : Int) := by omega
  have j3 : i < p.2.2.1 := by omega
  have j4 : i < 20000 := by omega
  -- the one ahead
  have hb : ∀ n, i = n + 1 → ∃ l2 : Lb, w.cell? ⟨b', off' + n * 6, none⟩ = some (.int .i64 l2.kind) ∧ behF k i = decide (l2.kind = 4) := fun n e => by
    subst e
    obtain ⟨l2, k2, e2⟩ := Fo.at_lt (show n < k.len by omega)
    obtain ⟨p2, b2, off2, _, hbo2, _, cl2⟩ := hk.at e2
    rw [hbo] at hbo2
    simp only [Option.some.injEq, Addr.mk.injEq, and_true] at hbo2
    obtain ⟨rfl, rfl⟩ := hbo2
    exact ⟨l2, cl2.cells.1, beh_of e2⟩
  clear hc hk nd' cl' hi c1 c2 c3 c4 hkl
  unfold hereF at hA
  generalize tmplF l = TT at HT hA
  obtain ⟨BB, hbb⟩ : ∃ BB, behF k i = BB := ⟨_, rfl⟩
  rw [hbb] at hA
  simp only [hbb] at hb
  cases i with
  | zero =>
    obtain rfl : BB = false := by rw [← hbb]; rfl
    clear hb hbb
    simp only [Nat.zero_mul, Nat.add_zero] at d0
    rw [show ((0 : Nat) : Int) = 0 from rfl]
    clear j1 j2 j4
    cases TT with
    | false =>
      by_cases h6 : l'.kind = 6
      · have r6 : ((l'.kind : Int) == 6) = true := int_eq_yes h6
        have r1 : ((l'.kind : Int) == 1) = false := int_eq_no (by omega)
        have r2 : ((l'.kind : Int) == 2) = false := int_eq_no (by omega)
        have r4 : ((l'.kind : Int) == 4) = false := int_eq_no (by omega)
        simp [h6] at hA
        subst hA
        go_enter Tryz.func94, Tryz.ntmps94
        go_wp2_with (go_at_call 93; refine HT.mono ?_; rintro e w1 ⟨rfl, rfl⟩)
        go_ret
        exact ⟨rfl, rfl⟩
      · have r6 : ((l'.kind : Int) == 6) = false := int_eq_no h6
        by_cases h1 : l'.kind = 1
        · have r1 : ((l'.kind : Int) == 1) = true := int_eq_yes h1
          have r6 : ((l'.kind : Int) == 6) = false := int_eq_no (by omega)
          have r2 : ((l'.kind : Int) == 2) = false := int_eq_no (by omega)
          have r4 : ((l'.kind : Int) == 4) = false := int_eq_no (by omega)
          simp [h1] at hA
          subst hA
          go_enter Tryz.func94, Tryz.ntmps94
          go_wp2_with (go_at_call 93; refine HT.mono ?_; rintro e w1 ⟨rfl, rfl⟩)
          go_ret
          exact ⟨rfl, rfl⟩
        · have r1 : ((l'.kind : Int) == 1) = false := int_eq_no h1
          by_cases h2 : l'.kind = 2
          · have r2 : ((l'.kind : Int) == 2) = true := int_eq_yes h2
            have r6 : ((l'.kind : Int) == 6) = false := int_eq_no (by omega)
            have r1 : ((l'.kind : Int) == 1) = false := int_eq_no (by omega)
            have r4 : ((l'.kind : Int) == 4) = false := int_eq_no (by omega)
            by_cases hp : l.kind = 1
            · have rp : ((l.kind : Int) == 1) = true := int_eq_yes hp
              simp [h2, hp] at hA
              subst hA
              go_enter Tryz.func94, Tryz.ntmps94
              go_wp2_with (go_at_call 93; refine HT.mono ?_; rintro e w1 ⟨rfl, rfl⟩)
              go_ret
              exact ⟨rfl, rfl⟩
            · have rp : ((l.kind : Int) == 1) = false := int_eq_no hp
              have rp2 : ((l.kind : Int) != 1) = true := by simp [bne, rp]
              simp [h2, hp] at hA
              subst hA
              go_enter Tryz.func94, Tryz.ntmps94
              go_wp2_with (go_at_call 93; refine HT.mono ?_; rintro e w1 ⟨rfl, rfl⟩)
              go_ret
              exact ⟨rfl, rfl⟩
          · have r2 : ((l'.kind : Int) == 2) = false := int_eq_no h2
            by_cases h4 : l'.kind = 4
            · have r4 : ((l'.kind : Int) == 4) = true := int_eq_yes h4
              have r6 : ((l'.kind : Int) == 6) = false := int_eq_no (by omega)
              have r1 : ((l'.kind : Int) == 1) = false := int_eq_no (by omega)
              have r2 : ((l'.kind : Int) == 2) = false := int_eq_no (by omega)
              by_cases hp : l.kind = 1
              · have rp : ((l.kind : Int) == 1) = true := int_eq_yes hp
                simp [h4, hp] at hA
                subst hA
                go_enter Tryz.func94, Tryz.ntmps94
                go_wp2_with (go_at_call 93; refine HT.mono ?_; rintro e w1 ⟨rfl, rfl⟩)
                go_ret
                exact ⟨rfl, rfl⟩
              · have rp : ((l.kind : Int) == 1) = false := int_eq_no hp
                have rp2 : ((l.kind : Int) != 1) = true := by simp [bne, rp]
                simp [h4, hp] at hA
                subst hA
                go_enter Tryz.func94, Tryz.ntmps94
                go_wp2_with (go_at_call 93; refine HT.mono ?_; rintro e w1 ⟨rfl, rfl⟩)
                go_ret
                exact ⟨rfl, rfl⟩
            · have r4 : ((l'.kind : Int) == 4) = false := int_eq_no h4
              simp [h6, h1, h2, h4] at hA
              subst hA
              go_enter Tryz.func94, Tryz.ntmps94
              go_wp2_with (go_at_call 93; refine HT.mono ?_; rintro e w1 ⟨rfl, rfl⟩)
              go_ret
              exact ⟨rfl, rfl⟩
    | true =>
      by_cases h6 : l'.kind = 6
      · have r6 : ((l'.kind : Int) == 6) = true := int_eq_yes h6
        have r1 : ((l'.kind : Int) == 1) = false := int_eq_no (by omega)
        have r2 : ((l'.kind : Int) == 2) = false := int_eq_no (by omega)
        have r4 : ((l'.kind : Int) == 4) = false := int_eq_no (by omega)
        simp [h6] at hA
        subst hA
        go_enter Tryz.func94, Tryz.ntmps94
        go_wp2_with (go_at_call 93; refine HT.mono ?_; rintro e w1 ⟨rfl, rfl⟩)
        go_ret
        exact ⟨rfl, rfl⟩
      · have r6 : ((l'.kind : Int) == 6) = false := int_eq_no h6
        by_cases h1 : l'.kind = 1
        · have r1 : ((l'.kind : Int) == 1) = true := int_eq_yes h1
          have r6 : ((l'.kind : Int) == 6) = false := int_eq_no (by omega)
          have r2 : ((l'.kind : Int) == 2) = false := int_eq_no (by omega)
          have r4 : ((l'.kind : Int) == 4) = false := int_eq_no (by omega)
          simp [h1] at hA
          subst hA
          go_enter Tryz.func94, Tryz.ntmps94
          go_wp2_with (go_at_call 93; refine HT.mono ?_; rintro e w1 ⟨rfl, rfl⟩)
          go_ret
          exact ⟨rfl, rfl⟩
        · have r1 : ((l'.kind : Int) == 1) = false := int_eq_no h1
          by_cases h2 : l'.kind = 2
          · have r2 : ((l'.kind : Int) == 2) = true := int_eq_yes h2
            have r6 : ((l'.kind : Int) == 6) = false := int_eq_no (by omega)
            have r1 : ((l'.kind : Int) == 1) = false := int_eq_no (by omega)
            have r4 : ((l'.kind : Int) == 4) = false := int_eq_no (by omega)
            by_cases hp : l.kind = 1
            · have rp : ((l.kind : Int) == 1) = true := int_eq_yes hp
              simp [h2, hp] at hA
              subst hA
              go_enter Tryz.func94, Tryz.ntmps94
              go_wp2_with (go_at_call 93; refine HT.mono ?_; rintro e w1 ⟨rfl, rfl⟩)
              go_ret
              exact ⟨rfl, rfl⟩
            · have rp : ((l.kind : Int) == 1) = false := int_eq_no hp
              have rp2 : ((l.kind : Int) != 1) = true := by simp [bne, rp]
              simp [h2, hp] at hA
              subst hA
              go_enter Tryz.func94, Tryz.ntmps94
              go_wp2_with (go_at_call 93; refine HT.mono ?_; rintro e w1 ⟨rfl, rfl⟩)
              go_ret
              exact ⟨rfl, rfl⟩
          · have r2 : ((l'.kind : Int) == 2) = false := int_eq_no h2
            by_cases h4 : l'.kind = 4
            · have r4 : ((l'.kind : Int) == 4) = true := int_eq_yes h4
              have r6 : ((l'.kind : Int) == 6) = false := int_eq_no (by omega)
              have r1 : ((l'.kind : Int) == 1) = false := int_eq_no (by omega)
              have r2 : ((l'.kind : Int) == 2) = false := int_eq_no (by omega)
              by_cases hp : l.kind = 1
              · have rp : ((l.kind : Int) == 1) = true := int_eq_yes hp
                simp [h4, hp] at hA
                subst hA
                go_enter Tryz.func94, Tryz.ntmps94
                go_wp2_with (go_at_call 93; refine HT.mono ?_; rintro e w1 ⟨rfl, rfl⟩)
                go_ret
                exact ⟨rfl, rfl⟩
              · have rp : ((l.kind : Int) == 1) = false := int_eq_no hp
                have rp2 : ((l.kind : Int) != 1) = true := by simp [bne, rp]
                simp [h4, hp] at hA
                subst hA
                go_enter Tryz.func94, Tryz.ntmps94
                go_wp2_with (go_at_call 93; refine HT.mono ?_; rintro e w1 ⟨rfl, rfl⟩)
                go_ret
                exact ⟨rfl, rfl⟩
            · have r4 : ((l'.kind : Int) == 4) = false := int_eq_no h4
              simp [h6, h1, h2, h4] at hA
              subst hA
              go_enter Tryz.func94, Tryz.ntmps94
              go_wp2_with (go_at_call 93; refine HT.mono ?_; rintro e w1 ⟨rfl, rfl⟩)
              go_ret
              exact ⟨rfl, rfl⟩
  | succ n =>
    obtain ⟨l2, d2, rfl⟩ := hb n rfl
    clear hb hbb HT
    have j5 : (0 : Int) ≤ (n : Int) := by omega
    have j6 : (n : Int) < (p.2.2.1 : Int) := by omega
    have j7 : n < p.2.2.1 := by omega
    have j8 : (((n : Int) + 1) == 0) = false := int_eq_no (by omega)
    rw [show (((n + 1 : Nat)) : Int) = (n : Int) + 1 from rfl] at j1 j2 ⊢
    by_cases h6 : l'.kind = 6
    · have r6 : ((l'.kind : Int) == 6) = true := int_eq_yes h6
      have r1 : ((l'.kind : Int) == 1) = false := int_eq_no (by omega)
      have r2 : ((l'.kind : Int) == 2) = false := int_eq_no (by omega)
      have r4 : ((l'.kind : Int) == 4) = false := int_eq_no (by omega)
      simp [h6] at hA
      subst hA
      go_enter Tryz.func94, Tryz.ntmps94
      go_wp2
      go_ret
      exact ⟨rfl, rfl⟩
    · have r6 : ((l'.kind : Int) == 6) = false := int_eq_no h6
      by_cases h1 : l'.kind = 1
      · have r1 : ((l'.kind : Int) == 1) = true := int_eq_yes h1
        have r6 : ((l'.kind : Int) == 6) = false := int_eq_no (by omega)
        have r2 : ((l'.kind : Int) == 2) = false := int_eq_no (by omega)
        have r4 : ((l'.kind : Int) == 4) = false := int_eq_no (by omega)
        simp [h1] at hA
        subst hA
        go_enter Tryz.func94, Tryz.ntmps94
        go_wp2
        go_ret
        exact ⟨rfl, rfl⟩
      · have r1 : ((l'.kind : Int) == 1) = false := int_eq_no h1
        by_cases h2 : l'.kind = 2
        · have r2 : ((l'.kind : Int) == 2) = true := int_eq_yes h2
          have r6 : ((l'.kind : Int) == 6) = false := int_eq_no (by omega)
          have r1 : ((l'.kind : Int) == 1) = false := int_eq_no (by omega)
          have r4 : ((l'.kind : Int) == 4) = false := int_eq_no (by omega)
          by_cases hp : l.kind = 1
          · have rp : ((l.kind : Int) == 1) = true := int_eq_yes hp
            simp [h2, hp] at hA
            subst hA
            go_enter Tryz.func94, Tryz.ntmps94
            go_wp2
            go_ret
            exact ⟨rfl, rfl⟩
          · have rp : ((l.kind : Int) == 1) = false := int_eq_no hp
            have rp2 : ((l.kind : Int) != 1) = true := by simp [bne, rp]
            simp [h2, hp] at hA
            subst hA
            go_enter Tryz.func94, Tryz.ntmps94
            go_wp2
            go_ret
            exact ⟨rfl, rfl⟩
        · have r2 : ((l'.kind : Int) == 2) = false := int_eq_no h2
          by_cases h4 : l'.kind = 4
          · have r4 : ((l'.kind : Int) == 4) = true := int_eq_yes h4
            have r6 : ((l'.kind : Int) == 6) = false := int_eq_no (by omega)
            have r1 : ((l'.kind : Int) == 1) = false := int_eq_no (by omega)
            have r2 : ((l'.kind : Int) == 2) = false := int_eq_no (by omega)
            by_cases hp : l.kind = 1
            · have rp : ((l.kind : Int) == 1) = true := int_eq_yes hp
              by_cases ht : l2.kind = 4
              · have rt : ((l2.kind : Int) == 4) = true := int_eq_yes ht
                simp [h4, hp, ht] at hA
                subst hA
                go_enter Tryz.func94, Tryz.ntmps94
                go_wp2
                go_ret
                exact ⟨rfl, rfl⟩
              · have rt : ((l2.kind : Int) == 4) = false := int_eq_no ht
                simp [h4, hp, ht] at hA
                subst hA
                go_enter Tryz.func94, Tryz.ntmps94
                go_wp2
                go_ret
                exact ⟨rfl, rfl⟩
            · have rp : ((l.kind : Int) == 1) = false := int_eq_no hp
              have rp2 : ((l.kind : Int) != 1) = true := by simp [bne, rp]
              by_cases ht : l2.kind = 4
              · have rt : ((l2.kind : Int) == 4) = true := int_eq_yes ht
                simp [h4, hp, ht] at hA
                subst hA
                go_enter Tryz.func94, Tryz.ntmps94
                go_wp2
                go_ret
                exact ⟨rfl, rfl⟩
              · have rt : ((l2.kind : Int) == 4) = false := int_eq_no ht
                simp [h4, hp, ht] at hA
                subst hA
                go_enter Tryz.func94, Tryz.ntmps94
                go_wp2
                go_ret
                exact ⟨rfl, rfl⟩
          · have r4 : ((l'.kind : Int) == 4) = false := int_eq_no h4
            simp [h6, h1, h2, h4] at hA
            subst hA
            go_enter Tryz.func94, Tryz.ntmps94
            go_wp2
            go_ret
            exact ⟨rfl, rfl⟩

end Go.Proofs.YtgjkfpmhgidpaaaGreat

/-
  hasRightKids of the program.
-/
namespace Go.Proofs.YtgjkfpmhgidpaaaGreat
open Go.RowKit
set_option linter.unusedVariables false

def kidsOkF (l : Lb) (k : Fo) : Bool := if l.kind = 2 ∨ l.kind = 4 ∨ l.kind = 5 then decide (k.len = 0) else !(tmplF l && decide (k.len = 0)) && standF k l true false

/-- From a place of the row on. -/
def stF (k : Fo) (l : Lb) (i : Nat) : Bool := standF (k.drop i) l (decide (i = 0)) (behF k i)

theorem st_zero (k : Fo) (l : Lb) : stF k l 0 = standF k l true false := by
  unfold stF
  rw [Fo.drop_zero]; rfl
theorem st_step {k : Fo} {l l' : Lb} {k' : Fo} {i : Nat} (e : k.drop i = .cons l' k' (k.drop (i + 1))) : stF k l i = (hereF l (decide (i = 0)) (behF k i) l' && stF k l (i + 1)) := by
  unfold stF
  rw [beh_of e]
  conv => lhs; rw [e, stand_cons]
  rw [decide_eq_false (show ¬ i + 1 = 0 by omega)]
theorem st_end {k : Fo} {l : Lb} {i : Nat} (h : k.len ≤ i) : stF k l i = true := by
  unfold stF
  have : k.drop i = .nil := Fo.len_zero.1 (by rw [Fo.len_drop]; omega)
  rw [this, stand_nil]

set_option maxRecDepth 100000 in
set_option maxHeartbeats 1000000 in
theorem kidsR_any (w : World) (b off : Nat) (l : Lb) (k : Fo) (p : Pl) (hc : Cl w b off l p) (hk : Rt Any w p.2.1 p.2.2.1 p.2.2.2 k) (hn : k.len ≤ 20000) :
    Calls Tryz.prog 54 #[.pointer (some ⟨b, off, none⟩)] w fun e w' => e = .returned (.bool (kidsOkF l k)) ∧ w' = w := by
  obtain ⟨A, hA⟩ : ∃ A, kidsOkF l k = A := ⟨_, rfl⟩
  rw [hA]
  have HT := tmplR_any w b off l p hc
  obtain ⟨c0, c1, c2, c3, c4, c5⟩ := hc.cells
  have hkl := hk.len
  have HS : Hid (∀ (i : Nat) (l' : Lb) (k' : Fo), k.drop i = .cons l' k' (k.drop (i + 1)) → i < k.len → Calls Tryz.prog 94 #[.pointer (some ⟨b, off, none⟩), .int .i64 (i : Int)] w fun e w' => e = .returned (.bool (hereF l (decide (i = 0)) (behF k i) l')) ∧ w' = w) := fun i l' k' hi hil => stand_any w b off l k p hc hk i l' k' hi hil hn
  clear hc hk c1 c2 c3 c4
  unfold kidsOkF at hA
  rw [← st_zero] at hA
  generalize tmplF l = TT at HT hA
  rw [← hkl] at hA hn
  generalize hm : p.2.2.1 = m at *
  by_cases h0 : l.kind = 2 ∨ l.kind = 4 ∨ l.kind = 5
  · rw [if_pos h0] at hA
    subst hA
    clear HT HS
    have r0 : (decide (m = 0)) = ((m : Int) == 0) := by
      by_cases e : m = 0
      · subst e; rfl
      · rw [decide_eq_false e, int_eq_no (by omega)]
    rw [r0]
    clear hm hkl r0
    by_cases h2 : l.kind = 2
    · have r2 := int_eq_yes h2
      clear h0
      go_enter Tryz.func54, Tryz.ntmps54
      go_wp2
      go_ret
      exact ⟨rfl, rfl⟩
    · have r2 := int_eq_no h2
      by_cases h4 : l.kind = 4
      · have r4 := int_eq_yes h4
        clear h0
        go_enter Tryz.func54, Tryz.ntmps54
        go_wp2
        go_ret
        exact ⟨rfl, rfl⟩
      · have r4 := int_eq_no h4
        have r5 := int_eq_yes (show l.kind = 5 by omega)
        clear h0
        go_enter Tryz.func54, Tryz.ntmps54
        go_wp2
        go_ret
        exact ⟨rfl, rfl⟩
  · rw [if_neg h0] at hA
    have r2 := int_eq_no (show ¬ l.kind = 2 by omega)
    have r4 := int_eq_no (show ¬ l.kind = 4 by omega)
    have r5 := int_eq_no (show ¬ l.kind = 5 by omega)
    clear h0
    by_cases hz : (TT && decide (m = 0)) = true
    · rw [hz] at hA
      obtain rfl : false = A := by rw [← hA]; rfl
      obtain ⟨rfl, hm0⟩ : TT = true ∧ m = 0 := by simpa using hz
      have q0 : ((m : Int) == 0) = true := int_eq_yes (by omega)
      clear hA hz HS hm hkl hm0
      go_enter Tryz.func54, Tryz.ntmps54
      go_wp2_with (go_at_call 93; refine HT.mono ?_; rintro e w1 ⟨rfl, rfl⟩)
      go_ret
      exact ⟨rfl, rfl⟩
    · have hz' : (TT && decide (m = 0)) = false := by simpa using hz
      rw [hz'] at hA
      have HA : Hid (stF k l 0 = A) := by
        show stF k l 0 = A
        rw [← hA]; simp
      have q0 : TT = true → ((m : Int) == 0) = false := fun h => int_eq_no (by
        rw [h] at hz'
        simp at hz'
        omega)
      have HN : Hid (m = k.len) := hm ▸ hkl
      have hn' : m ≤ 20000 := hn
      clear hA hz hz' hm hkl hn
      cases TT with
      | false =>
        clear q0
        go_enter Tryz.func54, Tryz.ntmps54
        go_wp2_with (go_at_call 93; refine HT.mono ?_; rintro e w1 ⟨rfl, rfl⟩)
        go_loopw [33] (fun x wr => ∃ i : Nat, x = .int .i64 i ∧ i ≤ m ∧ stF k l i = A ∧ wr = w1) (fun x wr => m - (intOf x).toNat)
        case atStart => exact ⟨0, rfl, Nat.zero_le _, HA.out, rfl⟩
        case round =>
          obtain ⟨i, rfl, hi, hs, rfl⟩ := hrel
          clear HA
          by_cases hlt : i < m
          · obtain ⟨l', k', e⟩ := Fo.at_lt (show i < k.len by have := HN.out; omega)
            have HC := HS.out i l' k' e (by have := HN.out; omega)
            rw [st_step e] at hs
            have HX : Hid ((hereF l (decide (i = 0)) (behF k i) l' && stF k l (i + 1)) = A) := hs
            clear hs e
            generalize hereF l (decide (i = 0)) (behF k i) l' = H at HC HX
            cases H with
            | false =>
              obtain rfl : false = A := HX.out
              go_wp2_with (go_at_call 94; refine HC.mono ?_; rintro e w2 ⟨rfl, rfl⟩)
              go_ret
              exact ⟨rfl, rfl⟩
            | true =>
              go_wp2_with (go_at_call 94; refine HC.mono ?_; rintro e w2 ⟨rfl, rfl⟩)
              go_roundw
              case rel => exact ⟨i + 1, by go_num, by omega, HX.out, trivial⟩
              case measure => simp [intOf]; omega
          · obtain rfl : i = m := by omega
            obtain rfl : true = A := by rw [← hs]; exact (st_end (by have := HN.out; omega)).symm
            clear hs
            go_wp2
            go_ret
            exact ⟨rfl, rfl⟩
      | true =>
        have q1 := q0 rfl
        clear q0
        go_enter Tryz.func54, Tryz.ntmps54
        go_wp2_with (go_at_call 93; refine HT.mono ?_; rintro e w1 ⟨rfl, rfl⟩)
        go_loopw [33] (fun x wr => ∃ i : Nat, x = .int .i64 i ∧ i ≤ m ∧ stF k l i = A ∧ wr = w1) (fun x wr => m - (intOf x).toNat)
        case atStart => exact ⟨0, rfl, Nat.zero_le _, HA.out, rfl⟩
        case round =>
          obtain ⟨i, rfl, hi, hs, rfl⟩ := hrel
          clear HA
          by_cases hlt : i < m
          · obtain ⟨l', k', e⟩ := Fo.at_lt (show i < k.len by have := HN.out; omega)
            have HC := HS.out i l' k' e (by have := HN.out; omega)
            rw [st_step e] at hs
            have HX : Hid ((hereF l (decide (i = 0)) (behF k i) l' && stF k l (i + 1)) = A) := hs
            clear hs e
            generalize hereF l (decide (i = 0)) (behF k i) l' = H at HC HX
            cases H with
            | false =>
              obtain rfl : false = A := HX.out
              go_wp2_with (go_at_call 94; refine HC.mono ?_; rintro e w2 ⟨rfl, rfl⟩)
              go_ret
              exact ⟨rfl, rfl⟩
            | true =>
              go_wp2_with (go_at_call 94; refine HC.mono ?_; rintro e w2 ⟨rfl, rfl⟩)
              go_roundw
              case rel => exact ⟨i + 1, by go_num, by omega, HX.out, trivial⟩
              case measure => simp [intOf]; omega
          · obtain rfl : i = m := by omega
            obtain rfl : true = A := by rw [← hs]; exact (st_end (by have := HN.out; omega)).symm
            clear hs
            go_wp2
            go_ret
            exact ⟨rfl, rfl⟩

end Go.Proofs.YtgjkfpmhgidpaaaGreat

/-
  isRightElement, hasRightFields of the program.
-/
namespace Go.Proofs.YtgjkfpmhgidpaaaGreat
open Go.RowKit
set_option linter.unusedVariables false

def elemF (l : Lb) : Bool := decide ((l.ns = 1 ∨ l.ns = 2) ∧ ¬ l.name = NON ∧ l.text = NON ∧ (uniq l.attrs).length = l.attrs.length)

def fieldsF (l : Lb) : Bool :=
  if l.kind = 1 ∨ l.kind = 6 then sameL l (l.kind, 0, NON, [], NON)
  else if l.kind = 2 then sameL l (l.kind, 0, l.name, [], NON)
  else if l.kind = 3 then elemF l
  else if l.kind = 4 then !decide (l.text = NON) && sameL l (l.kind, 0, NON, [], l.text)
  else if l.kind = 5 then sameL l (l.kind, 0, NON, [], l.text)
  else false

theorem len_nil_iff {α : Type} (l : List α) : l.length = 0 ↔ l = [] := by cases l <;> simp

theorem same_lb (l : Lb) (ns : Int) (name : ByteArray) (text : ByteArray) : sameL l (l.kind, ns, name, [], text) = decide (l.ns = ns ∧ l.name = name ∧ l.attrs.length = 0 ∧ l.text = text) := by
  unfold sameL
  obtain ⟨a, b, c, d, e⟩ := l
  simp [Lb.kind, Lb.ns, Lb.name, Lb.attrs, Lb.text]

theorem node_split (l : Lb) (k : Fo) : nodeF l k = (fieldsF l && kidsOkF l k) := by
  unfold nodeF selfF aloneF fieldsF kidsOkF
  have hs : k.len = 0 → standF k l true false = true := fun h => by rw [Fo.len_zero.1 h]; rfl
  have ht : ¬ l.kind = 3 → tmplF l = false := fun h => by unfold tmplF; simp [h]
  rw [Bool.eq_iff_iff]
  by_cases h3 : l.kind = 3
  · rw [if_pos h3, if_neg (by omega), if_neg (by omega), if_pos h3, if_neg (by omega)]
    unfold elemF
    rw [Bool.and_eq_true, Bool.and_eq_true, Bool.and_eq_true, Bool.and_eq_true]
    exact and_assoc
  rw [if_neg h3, ht h3]
  by_cases h4 : l.kind = 4
  · rw [if_pos h4, if_neg (by omega), if_neg (by omega), if_neg h3, if_pos h4, if_pos (by omega), same_lb]
    simp only [Bool.and_eq_true, decide_eq_true_eq, Bool.not_eq_true', decide_eq_false_iff_not, Bool.false_and]
    exact ⟨fun ⟨⟨⟨a, b, c, d, e⟩, _⟩, _⟩ => ⟨⟨d, a, b, c, trivial⟩, e⟩, fun ⟨⟨d, a, b, c, _⟩, e⟩ => ⟨⟨⟨a, b, c, d, e⟩, trivial⟩, hs e⟩⟩
  rw [if_neg h4]
  by_cases h5 : l.kind = 5
  · rw [if_pos h5, if_neg (by omega), if_neg (by omega), if_neg h3, if_neg h4, if_pos h5, if_pos (by omega), same_lb]
    simp only [Bool.and_eq_true, decide_eq_true_eq, Bool.not_eq_true', Bool.false_and]
    exact ⟨fun ⟨⟨⟨a, b, c, e⟩, _⟩, _⟩ => ⟨⟨a, b, c, trivial⟩, e⟩, fun ⟨⟨a, b, c, _⟩, e⟩ => ⟨⟨⟨a, b, c, e⟩, trivial⟩, hs e⟩⟩
  rw [if_neg h5]
  by_cases h2 : l.kind = 2
  · rw [if_pos h2, if_neg (by omega), if_pos h2, if_pos (by omega), same_lb]
    simp only [Bool.and_eq_true, decide_eq_true_eq, Bool.not_eq_true', Bool.false_and]
    exact ⟨fun ⟨⟨⟨a, b, c, e⟩, _⟩, _⟩ => ⟨⟨a, trivial, c, b⟩, e⟩, fun ⟨⟨a, _, c, b⟩, e⟩ => ⟨⟨⟨a, b, c, e⟩, trivial⟩, hs e⟩⟩
  rw [if_neg h2]
  by_cases h1 : l.kind = 1 ∨ l.kind = 6
  · rw [if_pos h1, if_pos h1, if_neg (by omega), same_lb]
    simp only [Bool.and_eq_true, decide_eq_true_eq, Bool.not_eq_true', Bool.false_and]
    exact ⟨fun ⟨⟨⟨a, b, c, d⟩, x⟩, y⟩ => ⟨⟨a, b, d, c⟩, x, y⟩, fun ⟨⟨a, b, d, c⟩, x, y⟩ => ⟨⟨⟨a, b, c, d⟩, x⟩, y⟩⟩
  · rw [if_neg h1, if_neg h1, if_neg h2, if_neg h3, if_neg h4, if_neg h5]
    simp

set_option maxRecDepth 100000 in
set_option maxHeartbeats 1000000 in
theorem elem_any (w : World) (b off : Nat) (l : Lb) (p : Pl) (hc : Cl w b off l p) (h1 : Rp w p.1.1 p.1.2.1 p.1.2.2 l.attrs) (hl : l.attrs.length ≤ 8000) (hf : fits l.attrs) :
    Calls Tryz.prog 92 #[.pointer (some ⟨b, off, none⟩)] w fun e w' => e = .returned (.bool (elemF l)) ∧ Kp [] w w' := by
  obtain ⟨A, hA⟩ : ∃ A, elemF l = A := ⟨_, rfl⟩
  rw [hA]
  have HPL : Hid (p.1.2.1 = l.attrs.length) := h1.len
  have HU : Hid (∀ W, Kp [] w W → Calls Tryz.prog 72 #[.slice p.1.1 p.1.2.1 p.1.2.2] W fun e w' => ∃ ao' n' c', e = .returned (.slice ao' n' c') ∧ Mp W w' ao' n' c' (uniq l.attrs)) := fun W kW => uniq_any W l.attrs _ _ _ (h1.kept kW) (by have := HPL.out; omega) hf
  have HS : Hid (∀ W, Kp [] w W → W.cell? ⟨b, off + 3, none⟩ = some (.slice p.1.1 p.1.2.1 p.1.2.2)) := fun W kW => (hc.keep kW (by simp)).cells.2.2.2.1
  obtain ⟨c0, c1, c2, c3, c4, c5⟩ := hc.cells
  clear hc h1
  unfold elemF at hA
  by_cases e1 : l.ns = 1 ∨ l.ns = 2
  · by_cases e2 : l.name = NON
    · have q2 : (l.name.toList == NON.toList) = true := eqs_yes e2
      obtain rfl : false = A := by rw [← hA]; simp [e2]
      rw [show NON.toList = [] from by decide +kernel] at q2
      clear HU HS hA HPL
      by_cases e3 : l.ns = 1
      · have r1 : ((l.ns : Int) == 1) = true := int_eq_yes e3
        have r2 : ((l.ns : Int) != 1) = false := by simp [bne, r1]
        clear e1 e2 e3
        go_enter Tryz.func92, Tryz.ntmps92
        go_wp2
        go_ret
        exact ⟨rfl, Kp.refl _ _⟩
      · have r1 : ((l.ns : Int) == 1) = false := int_eq_no e3
        have r2 : ((l.ns : Int) != 1) = true := by simp [bne, r1]
        have r3 : ((l.ns : Int) == 2) = true := int_eq_yes (by omega)
        have r4 : ((l.ns : Int) != 2) = false := by simp [bne, r3]
        clear e1 e2 e3
        go_enter Tryz.func92, Tryz.ntmps92
        go_wp2
        go_ret
        exact ⟨rfl, Kp.refl _ _⟩
    · have q2 : (l.name.toList == NON.toList) = false := eqs_no e2
      rw [show NON.toList = [] from by decide +kernel] at q2
      by_cases e4 : l.text = NON
      · have q4 : (l.text.toList == NON.toList) = true := eqs_yes e4
        rw [show NON.toList = [] from by decide +kernel] at q4
        have q5 : (l.text.toList != []) = false := by simp only [bne, q4]; rfl
        have hA' : decide ((uniq l.attrs).length = l.attrs.length) = A := by rw [← hA]; simp [e1, e2, e4]
        clear hA
        have hA := hA'
        clear hA'
        by_cases e3 : l.ns = 1
        · have r1 : ((l.ns : Int) == 1) = true := int_eq_yes e3
          have r2 : ((l.ns : Int) != 1) = false := by simp [bne, r1]
          clear e1 e2 e3 e4
          go_enter Tryz.func92, Tryz.ntmps92
          go_wp2_with fail
          go_region_held3 (fun V => V.cell? ⟨b, off + 3, none⟩ = some (.slice p.1.1 p.1.2.1 p.1.2.2))
            (first
              | exact HS.out _ K1.out
              | exact HS.out _ (Kp.refl _ _).drew)
            (first | (go_at_call 72; refine (HU.out _ (Kp.refl _ _).drew).mono ?_; rintro e w1 ⟨ao1, n1, d1, rfl, M1⟩; have K1 : Hid (Kp [] w w1) := (Kp.refl _ _).drew.trans M1.kp (fun x hx => Or.inl hx)))
          have hl1 := M1.len
          have hA2 : Hid (((n1 : Int) == (p.1.2.1 : Int)) = A) := by
            show ((n1 : Int) == (p.1.2.1 : Int)) = A
            rw [← hA, hl1, HPL.out]
            by_cases hh : (uniq l.attrs).length = l.attrs.length
            · rw [int_eq_yes (by omega), decide_eq_true hh]
            · rw [int_eq_no (by omega), decide_eq_false hh]
          clear hl1 M1 HU HS hA HPL
          go_wp2
          go_ret
          exact ⟨by rw [← hA2.out]; rfl, K1.out⟩
        · have r1 : ((l.ns : Int) == 1) = false := int_eq_no e3
          have r2 : ((l.ns : Int) != 1) = true := by simp [bne, r1]
          have r3 : ((l.ns : Int) == 2) = true := int_eq_yes (by omega)
          have r4 : ((l.ns : Int) != 2) = false := by simp [bne, r3]
          clear e1 e2 e3 e4
          go_enter Tryz.func92, Tryz.ntmps92
          go_wp2_with fail
          go_region_held3 (fun V => V.cell? ⟨b, off + 3, none⟩ = some (.slice p.1.1 p.1.2.1 p.1.2.2))
            (first
              | exact HS.out _ K1.out
              | exact HS.out _ (Kp.refl _ _).drew)
            (first | (go_at_call 72; refine (HU.out _ (Kp.refl _ _).drew).mono ?_; rintro e w1 ⟨ao1, n1, d1, rfl, M1⟩; have K1 : Hid (Kp [] w w1) := (Kp.refl _ _).drew.trans M1.kp (fun x hx => Or.inl hx)))
          have hl1 := M1.len
          have hA2 : Hid (((n1 : Int) == (p.1.2.1 : Int)) = A) := by
            show ((n1 : Int) == (p.1.2.1 : Int)) = A
            rw [← hA, hl1, HPL.out]
            by_cases hh : (uniq l.attrs).length = l.attrs.length
            · rw [int_eq_yes (by omega), decide_eq_true hh]
            · rw [int_eq_no (by omega), decide_eq_false hh]
          clear hl1 M1 HU HS hA HPL
          go_wp2
          go_ret
          exact ⟨by rw [← hA2.out]; rfl, K1.out⟩
      · have q4 : (l.text.toList == NON.toList) = false := eqs_no e4
        rw [show NON.toList = [] from by decide +kernel] at q4
        have q5 : (l.text.toList != []) = true := by simp only [bne, q4]; rfl
        obtain rfl : false = A := by rw [← hA]; simp [e4]
        clear HU HS hA HPL
        by_cases e3 : l.ns = 1
        · have r1 : ((l.ns : Int) == 1) = true := int_eq_yes e3
          have r2 : ((l.ns : Int) != 1) = false := by simp [bne, r1]
          clear e1 e2 e3 e4
          go_enter Tryz.func92, Tryz.ntmps92
          go_wp2
          go_ret
          exact ⟨rfl, Kp.refl _ _⟩
        · have r1 : ((l.ns : Int) == 1) = false := int_eq_no e3
          have r2 : ((l.ns : Int) != 1) = true := by simp [bne, r1]
          have r3 : ((l.ns : Int) == 2) = true := int_eq_yes (by omega)
          have r4 : ((l.ns : Int) != 2) = false := by simp [bne, r3]
          clear e1 e2 e3 e4
          go_enter Tryz.func92, Tryz.ntmps92
          go_wp2
          go_ret
          exact ⟨rfl, Kp.refl _ _⟩
  · have r1 : ((l.ns : Int) == 1) = false := int_eq_no (by omega)
    have r2 : ((l.ns : Int) != 1) = true := by simp [bne, r1]
    have r3 : ((l.ns : Int) == 2) = false := int_eq_no (by omega)
    have r4 : ((l.ns : Int) != 2) = true := by simp [bne, r3]
    obtain rfl : false = A := by rw [← hA]; simp [e1]
    clear hA e1 HU HS HPL
    go_enter Tryz.func92, Tryz.ntmps92
    go_wp2
    go_ret
    exact ⟨rfl, Kp.refl _ _⟩

end Go.Proofs.YtgjkfpmhgidpaaaGreat

/-
  hasRightFields of the program.
-/
namespace Go.Proofs.YtgjkfpmhgidpaaaGreat
open Go.RowKit
set_option linter.unusedVariables false

theorem rp_none (w : World) : Rp w none 0 0 [] := ⟨rfl, Nat.le_refl _, fun j hj => by omega⟩

set_option maxRecDepth 100000 in
set_option maxHeartbeats 1000000 in
theorem fields_any (w : World) (b off : Nat) (l : Lb) (p : Pl) (hc : Cl w b off l p) (hr : Rp w p.1.1 p.1.2.1 p.1.2.2 l.attrs) (hl : l.attrs.length ≤ 8000) (hf : fits l.attrs) :
    Calls Tryz.prog 53 #[.pointer (some ⟨b, off, none⟩)] w fun e w' => e = .returned (.bool (fieldsF l)) ∧ Kp [] w w' := by
  obtain ⟨A, hA⟩ : ∃ A, fieldsF l = A := ⟨_, rfl⟩
  rw [hA]
  have HL : Hid (∀ (m : Lb), m.attrs = [] → ∀ W, Kp [] w W → Calls Tryz.prog 91 #[.pointer (some ⟨b, off, none⟩), wv m ((none, 0, 0), (none, 0, 0))] W fun e w' => e = .returned (.bool (sameL l m)) ∧ Kp [] W w') := fun m hm W kW =>
    label_any W b off l m p ((none, 0, 0), (none, 0, 0)) (hc.keep kW (by simp)) (hr.kept kW) (by rw [hm]; exact rp_none W) (by have := hr.len; omega) (by simp)
  have HE := elem_any w b off l p hc hr hl hf
  have HS : Hid (∀ W, Kp [] w W → W.cell? ⟨b, off, none⟩ = some (.int .i64 l.kind) ∧ W.cell? ⟨b, off + 2, none⟩ = some (.string l.name) ∧ W.cell? ⟨b, off + 4, none⟩ = some (.string l.text)) := fun W kW => by
    have := (hc.keep kW (by simp)).cells
    exact ⟨this.1, this.2.2.1, this.2.2.2.2.1⟩
  obtain ⟨c0, c1, c2, c3, c4, c5⟩ := hc.cells
  clear hc hr hl hf c1 c3 c5
  unfold fieldsF at hA
  by_cases h1 : l.kind = 1
  · have r1 : ((l.kind : Int) == 1) = true := int_eq_yes h1
    rw [if_pos (by omega)] at hA
    have HC : Hid _ := HL.out (l.kind, 0, NON, [], NON) rfl
    rw [hA] at HC
    simp only [wv, NON, Lb.kind, Lb.ns, Lb.name, Lb.text] at HC
    clear HL HE hA h1
    go_enter Tryz.func53, Tryz.ntmps53
    go_wp2_with (go_at_call 91; refine (HC.out _ (Kp.refl _ _)).mono ?_; rintro e w1 ⟨rfl, k1⟩)
    go_ret
    exact ⟨rfl, k1⟩
  · have r1 : ((l.kind : Int) == 1) = false := int_eq_no h1
    by_cases h6 : l.kind = 6
    · have r6 : ((l.kind : Int) == 6) = true := int_eq_yes h6
      rw [if_pos (by omega)] at hA
      have HC : Hid _ := HL.out (l.kind, 0, NON, [], NON) rfl
      rw [hA] at HC
      simp only [wv, NON, Lb.kind, Lb.ns, Lb.name, Lb.text] at HC
      clear HL HE hA h1 h6
      go_enter Tryz.func53, Tryz.ntmps53
      go_wp2_with (go_at_call 91; refine (HC.out _ (Kp.refl _ _)).mono ?_; rintro e w1 ⟨rfl, k1⟩)
      go_ret
      exact ⟨rfl, k1⟩
    · have r6 : ((l.kind : Int) == 6) = false := int_eq_no h6
      by_cases h2 : l.kind = 2
      · have r2 : ((l.kind : Int) == 2) = true := int_eq_yes h2
        rw [if_neg (by omega), if_pos h2] at hA
        have HC : Hid _ := HL.out (l.kind, 0, l.name, [], NON) rfl
        rw [hA] at HC
        simp only [wv, NON, Lb.kind, Lb.ns, Lb.name, Lb.text] at HC
        clear HL HE hA h1 h6 h2
        go_enter Tryz.func53, Tryz.ntmps53
        go_wp2_with fail
        go_region_held3 (fun V => V.cell? ⟨b, off, none⟩ = some (.int .i64 l.kind) ∧ V.cell? ⟨b, off + 2, none⟩ = some (.string l.name) ∧ V.cell? ⟨b, off + 4, none⟩ = some (.string l.text))
          (first
            | exact HS.out _ K1.out
            | exact HS.out _ (Kp.refl _ _).drew)
          (first | (go_at_call 91; refine (HC.out _ (Kp.refl _ _).drew).mono ?_; rintro e w1 ⟨rfl, k1⟩; have K1 : Hid (Kp [] w w1) := (Kp.refl _ _).drew.trans k1 (fun x hx => Or.inl hx)))
        go_wp2
        go_ret
        exact ⟨rfl, K1.out⟩
      · have r2 : ((l.kind : Int) == 2) = false := int_eq_no h2
        by_cases h3 : l.kind = 3
        · have r3 : ((l.kind : Int) == 3) = true := int_eq_yes h3
          rw [if_neg (by omega), if_neg h2, if_pos h3] at hA
          rw [hA] at HE
          clear HL HS hA h1 h6 h2 h3
          go_enter Tryz.func53, Tryz.ntmps53
          go_wp2_with (go_at_call 92; refine HE.mono ?_; rintro e w1 ⟨rfl, k1⟩)
          go_ret
          exact ⟨rfl, k1⟩
        · have r3 : ((l.kind : Int) == 3) = false := int_eq_no h3
          by_cases h4 : l.kind = 4
          · have r4 : ((l.kind : Int) == 4) = true := int_eq_yes h4
            rw [if_neg (by omega), if_neg h2, if_neg h3, if_pos h4] at hA
            by_cases ht : l.text = NON
            · have q4 : (l.text.toList == NON.toList) = true := eqs_yes ht
              rw [show NON.toList = [] from by decide +kernel] at q4
              have q5 : (l.text.toList != []) = false := by simp only [bne, q4]; rfl
              obtain rfl : false = A := by rw [← hA]; simp [ht]
              clear HL HE HS hA ht h1 h6 h2 h3 h4
              go_enter Tryz.func53, Tryz.ntmps53
              go_wp2_with fail
              go_quiet (fail)
              go_wp2
              go_ret
              exact ⟨rfl, (Kp.refl _ _).drewN nq⟩
            · have q4 : (l.text.toList == NON.toList) = false := eqs_no ht
              rw [show NON.toList = [] from by decide +kernel] at q4
              have q5 : (l.text.toList != []) = true := by simp only [bne, q4]; rfl
              have hA2 : sameL l (l.kind, 0, NON, [], l.text) = A := by rw [← hA]; simp [ht]
              have HC : Hid _ := HL.out (l.kind, 0, NON, [], l.text) rfl
              rw [hA2] at HC
              simp only [wv, NON, Lb.kind, Lb.ns, Lb.name, Lb.text] at HC
              clear HL HE hA hA2 ht h1 h6 h2 h3 h4
              go_enter Tryz.func53, Tryz.ntmps53
              go_wp2_with fail
              go_region_held3 (fun V => V.cell? ⟨b, off, none⟩ = some (.int .i64 l.kind) ∧ V.cell? ⟨b, off + 2, none⟩ = some (.string l.name) ∧ V.cell? ⟨b, off + 4, none⟩ = some (.string l.text))
                (first
                  | exact HS.out _ K1.out
                  | exact HS.out _ (Kp.refl _ _).drew)
                (first | (go_at_call 91; refine (HC.out _ (Kp.refl _ _).drew).mono ?_; rintro e w1 ⟨rfl, k1⟩; have K1 : Hid (Kp [] w w1) := (Kp.refl _ _).drew.trans k1 (fun x hx => Or.inl hx)))
              go_wp2
              go_ret
              exact ⟨rfl, K1.out⟩
          · have r4 : ((l.kind : Int) == 4) = false := int_eq_no h4
            by_cases h5 : l.kind = 5
            · have r5 : ((l.kind : Int) == 5) = true := int_eq_yes h5
              rw [if_neg (by omega), if_neg h2, if_neg h3, if_neg h4, if_pos h5] at hA
              have HC : Hid _ := HL.out (l.kind, 0, NON, [], l.text) rfl
              rw [hA] at HC
              simp only [wv, NON, Lb.kind, Lb.ns, Lb.name, Lb.text] at HC
              clear HL HE hA h1 h6 h2 h3 h4 h5
              go_enter Tryz.func53, Tryz.ntmps53
              go_wp2_with fail
              go_region_held3 (fun V => V.cell? ⟨b, off, none⟩ = some (.int .i64 l.kind) ∧ V.cell? ⟨b, off + 2, none⟩ = some (.string l.name) ∧ V.cell? ⟨b, off + 4, none⟩ = some (.string l.text))
                (first
                  | exact HS.out _ K1.out
                  | exact HS.out _ (Kp.refl _ _).drew)
                (first | (go_at_call 91; refine (HC.out _ (Kp.refl _ _).drew).mono ?_; rintro e w1 ⟨rfl, k1⟩; have K1 : Hid (Kp [] w w1) := (Kp.refl _ _).drew.trans k1 (fun x hx => Or.inl hx)))
              go_wp2
              go_ret
              exact ⟨rfl, K1.out⟩
            · have r5 : ((l.kind : Int) == 5) = false := int_eq_no h5
              rw [if_neg (by omega), if_neg h2, if_neg h3, if_neg h4, if_neg h5] at hA
              subst hA
              clear HL HE HS h1 h6 h2 h3 h4 h5
              go_enter Tryz.func53, Tryz.ntmps53
              go_wp2
              go_ret
              exact ⟨rfl, Kp.refl _ _⟩

end Go.Proofs.YtgjkfpmhgidpaaaGreat

/-
  Right of the program.
-/
namespace Go.Proofs.YtgjkfpmhgidpaaaGreat
open Go.RowKit
set_option linter.unusedVariables false

theorem vis_each {P : Lb → Prop} (f : Fo) : ∀ d, f.Each P → ∀ v, v ∈ f.vis d → P v.2.1 := by
  refine Fo.ind (P := fun f => ∀ d, f.Each P → ∀ v, v ∈ f.vis d → P v.2.1) (fun d _ v h => by simp [vis_nil] at h) (fun l k r hk hr d he v h => ?_) f
  rw [vis_cons, List.mem_cons, List.mem_append] at h
  rcases h with rfl | h | h
  · exact he.1
  · exact hk _ he.2.1 v h
  · exact hr _ he.2.2 v h

theorem least_Rn {P : Nat → Prop} : ∀ n, P n → ∃ m, P m ∧ ∀ j, P j → m ≤ j := by
  intro n
  induction n using Nat.strongRecOn with
  | ind n ih =>
    intro h
    by_cases hx : ∃ m, m < n ∧ P m
    · obtain ⟨m, h1, h2⟩ := hx
      exact ih m h1 h2
    · exact ⟨n, h, fun j hj => Nat.le_of_not_lt (fun hlt => hx ⟨j, hlt, hj⟩)⟩

/-- How many rounds there are at most: a number for each state, out of what is known of it. -/
theorem least_R {α : Type} (R : α → Nat → Prop) : ∃ μ : α → Nat, ∀ a n, R a n → R a (μ a) ∧ μ a ≤ n := by
  classical
  refine ⟨fun a => if h : ∃ n, R a n then (least_Rn h.choose h.choose_spec).choose else 0, fun a n hn => ?_⟩
  have h : ∃ n, R a n := ⟨n, hn⟩
  have hs := (least_Rn h.choose h.choose_spec).choose_spec
  simp only [dif_pos h]
  exact ⟨hs.1, hs.2 n hn⟩

theorem vis_cnt (f : Fo) : ∀ d v, v ∈ f.vis d → v.2.2.cnt < f.cnt := by
  refine Fo.ind (P := fun f => ∀ d v, v ∈ f.vis d → v.2.2.cnt < f.cnt) (fun d v h => by simp [vis_nil] at h) (fun l k r hk hr d v h => ?_) f
  rw [vis_cons, List.mem_cons, List.mem_append] at h
  rw [Fo.cnt_cons]
  rcases h with rfl | h | h
  · simp only; omega
  · have := hk _ _ h; omega
  · have := hr _ _ h; omega

/-- The loop of Right. -/
def RRight (W : World) (s : Ws) (l : Lb) (k : Fo) (p : Pl) (A : Bool) (a : Value × Value × World) (n : Nat) : Prop :=
  ∃ (S : List Vt) (v : Value) (ao : Option Addr) (d : Int) (y : Bool), a.1 = .pointer ao ∧ a.2.1 = .bool y ∧ okV S = A ∧ S.length = n ∧ Wl W a.2.2 (s.at v) S.tail l k p ∧ Come W a.2.2 (s.at v) S ao d y ∧ (∀ v, v ∈ S → okL v.2.1 ∧ v.2.2.len ≤ 20000)

theorem okV_cons (v : Vt) (S : List Vt) : okV (v :: S) = (nodeF v.2.1 v.2.2 && okV S) := rfl

set_option maxHeartbeats 1000000 in
theorem right_any (w : World) (l : Lb) (k : Fo) (p : Pl) (h : Nd Any w l k p) (ho : okT l k) :
    Calls Tryz.prog 13 #[wv l p] w fun e w' => e = .returned (.bool (rightF l k)) ∧ Kp [] w w' := by
  obtain ⟨W, hW⟩ : ∃ W, W = w.alloc (.cells (six l p).toArray 38) := ⟨_, rfl⟩
  have k1 : Kp [] w W := by rw [hW]; exact (Kp.refl _ _).alloc _
  have HB := begin_c W W l k p (Kp.refl _ _) (h.kept k1) ho.2
  have HO : Hid (∀ v, v ∈ (Fo.cons l k .nil).vis 0 → okL v.2.1 ∧ v.2.2.len ≤ 20000) := fun v hv => ⟨vis_each _ 0 ho.1 v hv, by
    have h1 := vis_cnt _ 0 v hv
    have h2 := Fo.len_le_cnt v.2.2
    have h3 := ho.2
    rw [Fo.cnt_cons, Fo.cnt_nil] at h1
    omega⟩
  have HB' : Hid (∀ V, V = W → Calls Tryz.prog 51 #[wv l p] V fun e w' => ∃ s, e = .returned (.pointer (some ⟨s.P, 0, none⟩)) ∧ Wl W w' s ((Fo.cons l k .nil).vis 0) l k p ∧ Kp [] W w' ∧ ∀ x, x ∈ s.own → W.heap.size ≤ x) := fun V hV => by rw [hV]; exact HB
  have HW : Hid (w.alloc (.cells #[.int .i64 l.kind, .int .i64 l.ns, .string l.name, .slice p.1.1 p.1.2.1 p.1.2.2, .string l.text, .slice p.2.1 p.2.2.1 p.2.2.2] 38) = W) := hW.symm
  have KB : Hid (Kp [] w W) := k1
  obtain ⟨A, hA⟩ : ∃ A, rightF l k = A := ⟨_, rfl⟩
  rw [hA]
  rw [right_vis] at hA
  clear HB k1 h ho
  simp only [wv] at HB' ⊢
  by_cases e1 : l.kind = 1
  · have hA2 : Hid (okV ((Fo.cons l k .nil).vis 0) = A) := by
      show okV ((Fo.cons l k .nil).vis 0) = A
      rw [← hA, decide_eq_true e1]; rfl
    have r1 : ((l.kind : Int) != 1) = false := by simp [bne, e1]
    clear hA e1 hW
    go_enter Tryz.func13, Tryz.ntmps13
    go_wp2_with (first
      | (go_at_call 51; refine (HB'.out _ HW.out).mono ?_; rintro e w1 ⟨s, rfl, L1, _, _⟩)
      | (go_at_call 52; refine (next_c _ _ _ _ _ _ _ L1).mono ?_; rintro e w2 ⟨ao, d, y, v1, rfl, L2, N2, C2⟩))
    obtain ⟨μ, hμ⟩ := least_R (RRight W s l k p A)
    go_loopw [4, 6] (fun x4 x6 wr => ∃ n, RRight W s l k p A (x4, x6, wr) n) (fun x4 x6 wr => μ (x4, x6, wr))
    case atStart => exact ⟨_, _, v1, ao, d, y, rfl, rfl, hA2.out, rfl, L2, C2, HO.out⟩
    case round =>
      clear L2 N2 C2 L1 HB' hA2 HO
      obtain ⟨n0, hrel⟩ := hrel
      obtain ⟨S, v, ao, d, y, h4, h6, hN, hS, L, C, hO⟩ := (hμ _ _ hrel).1
      simp only at h4 h6
      subst h4 h6
      have KF : Hid (Kp [] w wr) := KB.out.trans L.kp (fun x hx => Or.inl hx)
      have HM : Hid (∀ a n, RRight W s l k p A a n → μ a ≤ n) := fun a n hn => (hμ a n hn).2
      have HS : Hid (S.length = μ (.pointer ao, .bool y, wr)) := hS
      clear hrel hμ hS
      cases S with
      | nil =>
        obtain ⟨rfl, rfl, rfl⟩ := C
        obtain rfl : true = A := hN
        have hend : wr.cell? ⟨s.P, 2, none⟩ = some (.bool false) := by
          obtain ⟨fs, L, _⟩ := L
          exact cell_of L.b.walk 2
        clear L HM HS hO
        go_wp2
        go_ret
        exact ⟨rfl, KF.out⟩
      | cons u S =>
        obtain ⟨b, off, rfl, rfl, rfl, p', hc, nd, _⟩ := C
        simp only [List.tail_cons] at L
        have ndr := nd.kept L.kp
        have hu := hO u (by simp)
        have HFD := fields_any wr b off u.2.1 p' hc ndr.at'.rp hu.1.1 hu.1.2
        have HKD : Hid (∀ V, Kp [] wr V → Calls Tryz.prog 54 #[.pointer (some ⟨b, off, none⟩)] V fun e w' => e = .returned (.bool (kidsOkF u.2.1 u.2.2)) ∧ w' = V) := fun V kV => kidsR_any V b off u.2.1 u.2.2 p' (hc.keep kV (by simp)) (ndr.kids.kept kV) hu.2
        rw [okV_cons, node_split] at hN
        have HO2 : Hid (∀ v, v ∈ S → okL v.2.1 ∧ v.2.2.len ≤ 20000) := fun v hv => hO v (by simp [hv])
        have HL : Hid (Wl W wr (s.at v) S l k p) := L
        clear L nd ndr hu hO hc
        generalize fieldsF u.2.1 = F1 at hN HFD
        generalize kidsOkF u.2.1 u.2.2 = F2 at hN HKD
        cases F1 with
        | false =>
          obtain rfl : false = A := by rw [← hN]; simp
          clear hN HKD
          go_wp2_with (go_at_call 53; refine HFD.mono ?_; rintro e w3 ⟨rfl, k3⟩)
          go_ret
          exact ⟨rfl, KF.out.trans k3 (fun x hx => Or.inl hx)⟩
        | true =>
          cases F2 with
          | false =>
            obtain rfl : false = A := by rw [← hN]; simp
            clear hN
            go_wp2_with (first
              | (go_at_call 53; refine HFD.mono ?_; rintro e w3 ⟨rfl, k3⟩)
              | (go_at_call 54; refine (HKD.out _ k3).mono ?_; rintro e w4 ⟨rfl, rfl⟩))
            go_ret
            exact ⟨rfl, KF.out.trans k3 (fun x hx => Or.inl hx)⟩
          | true =>
            have HX : Hid (okV S = A) := by
              show okV S = A
              rw [← hN]; simp
            clear hN
            go_wp2_with (first
              | (go_at_call 53; refine HFD.mono ?_; rintro e w3 ⟨rfl, k3⟩)
              | (go_at_call 54; refine (HKD.out _ k3).mono ?_; rintro e w4 ⟨rfl, rfl⟩)
              | (go_at_call 52; refine (next_c _ _ _ _ _ _ _ (HL.out.kept k3)).mono ?_; rintro e w5 ⟨ao5, d5, y5, v5, rfl, L5, N5, C5⟩))
            have RR : RRight W s l k p A (.pointer ao5, .bool y5, w5) S.length := ⟨S, v5, ao5, d5, y5, rfl, rfl, HX.out, rfl, L5, C5, HO2.out⟩
            go_roundw
            case rel => exact ⟨_, RR⟩
            case measure =>
              refine Nat.lt_of_le_of_lt (HM.out _ _ RR) ?_
              rw [← HS.out]; simp
  · obtain rfl : false = A := by rw [← hA, decide_eq_false e1]; rfl
    have r1 : ((l.kind : Int) != 1) = true := by simp [bne, e1]
    have K2 : Hid (Kp [] w (w.alloc (.cells #[.int .i64 l.kind, .int .i64 l.ns, .string l.name, .slice p.1.1 p.1.2.1 p.1.2.2, .string l.text, .slice p.2.1 p.2.2.1 p.2.2.2] 38))) := (Kp.refl _ _).alloc _
    clear hA e1 HB' HW HO KB hW
    go_enter Tryz.func13, Tryz.ntmps13
    go_wp2
    go_ret
    exact ⟨rfl, K2.out⟩

end Go.Proofs.YtgjkfpmhgidpaaaGreat
