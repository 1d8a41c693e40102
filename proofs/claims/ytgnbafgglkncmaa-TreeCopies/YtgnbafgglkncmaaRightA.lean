/-
  isTemplate, mayStand, hasRightKids of the program.
-/
import Derived.Test.YtgnbafgglkncmaaVisits
import Derived.Test.YtgnbafgglkncmaaLabel
namespace Go.Proofs.Ytgnbafgglkncmaa
open Go.RowKit
set_option linter.unusedVariables false

theorem tmpl_any (w : World) (b off : Nat) (l : Lb) (p : Pl) (hc : Cl w b off l p) :
    Calls Try.prog 65 #[.pointer (some ⟨b, off, none⟩)] w fun e w' => e = .returned (.bool (tmplF l)) ∧ w' = w := by
  obtain ⟨A, hA⟩ : ∃ A, tmplF l = A := ⟨_, rfl⟩
  rw [hA]
  obtain ⟨c0, c1, c2, c3, c4, c5⟩ := hc.cells
  clear hc
  unfold tmplF at hA
  by_cases e1 : l.kind = 3
  · have q1 : ((l.kind : Int) == 3) = true := by simpa using e1
    by_cases e2 : l.ns = 1
    · have q2 : ((l.ns : Int) == 1) = true := by simpa using e2
      by_cases e3 : l.name = TMPL
      · have q3 : (l.name.toList == TMPL.toList) = true := eqs_yes e3
        obtain rfl : true = A := by rw [← hA]; simp [e1, e2, e3]
        rw [show TMPL.toList = [116, 101, 109, 112, 108, 97, 116, 101] from by decide +kernel] at q3
        clear hA e1 e2 e3
        go_enter Try.func65, Try.ntmps65
        go_wp2
        go_ret
        exact ⟨rfl, rfl⟩
      · have q3 : (l.name.toList == TMPL.toList) = false := eqs_no e3
        obtain rfl : false = A := by rw [← hA]; simp [e3]
        rw [show TMPL.toList = [116, 101, 109, 112, 108, 97, 116, 101] from by decide +kernel] at q3
        clear hA e1 e2 e3
        go_enter Try.func65, Try.ntmps65
        go_wp2
        go_ret
        exact ⟨rfl, rfl⟩
    · have q2 : ((l.ns : Int) == 1) = false := by simpa using e2
      obtain rfl : false = A := by rw [← hA]; simp [e2]
      clear hA e1 e2
      go_enter Try.func65, Try.ntmps65
      go_wp2
      go_ret
      exact ⟨rfl, rfl⟩
  · have q1 : ((l.kind : Int) == 3) = false := by simpa using e1
    obtain rfl : false = A := by rw [← hA]; simp [e1]
    clear hA e1
    go_enter Try.func65, Try.ntmps65
    go_wp2
    go_ret
    exact ⟨rfl, rfl⟩

/-- Is the node ahead of this place of the row a Text? -/
def behF (k : Fo) : Nat → Bool
  | 0 => false
  | n + 1 => match k.drop n with
    | ⟨false, _, _, _⟩ => false
    | ⟨true, l, _, _⟩ => decide ((l rfl).kind = 4)

theorem beh_of {k : Fo} {n : Nat} {l : Lb} {f r : Fo} (e : k.drop n = .cons l f r) : behF k (n + 1) = decide (l.kind = 4) := by
  show (match k.drop n with
    | ⟨false, _, _, _⟩ => false
    | ⟨true, l, _, _⟩ => decide ((l rfl).kind = 4)) = _
  rw [e]; rfl

theorem int_eq_yes {a b : Int} (h : a = b) : (a == b) = true := by simpa using h
theorem int_eq_no {a b : Int} (h : ¬ a = b) : (a == b) = false := by simpa using h

set_option maxRecDepth 100000 in
set_option maxHeartbeats 1000000 in
theorem stand_any (w : World) (b off : Nat) (l : Lb) (k : Fo) (p : Pl) (hc : Cl w b off l p) (hk : Rt Any w p.2.1 p.2.2.1 p.2.2.2 k) (i : Nat) (l' : Lb) (k' : Fo) (hi : k.drop i = .cons l' k' (k.drop (i + 1))) (hil : i < k.len) (hn : k.len ≤ 20000) :
    Calls Try.prog 66 #[.pointer (some ⟨b, off, none⟩), .int .i64 (i : Int)] w fun e w' => e = .returned (.bool (hereF l (decide (i = 0)) (behF k i) l')) ∧ w' = w := by
  obtain ⟨A, hA⟩ : ∃ A, hereF l (decide (i = 0)) (behF k i) l' = A := ⟨_, rfl⟩
  rw [hA]
  have HT := tmpl_any w b off l p hc
  obtain ⟨c0, c1, c2, c3, c4, c5⟩ := hc.cells
  have hkl := hk.len
  obtain ⟨p', b', off', _, hbo, nd', cl'⟩ := hk.at hi
  rw [hbo] at c5
  have d0 := cl'.cells.1
  have j1 : (0 : Int) ≤ (i : Int) := by omega
  have j2 : (i : Int) < (p.2.2.1 : Int) := by omega
  have j3 : i < p.2.2.1 := by omega
  have j4 : i < 20000 := by omega
  -- the one ahead
  have hb : ∀ n, i = n + 1 → ∃ l2 : Lb, w.cell? ⟨b', off' + n * 6, none⟩ = some (.int .i64 l2.kind) ∧ behF k i = decide (l2.kind = 4) := fun n e => by
    subst e
    obtain ⟨l2, k2, e2⟩ := Fo.at_lt (show n < k.len by omega)
    obtain ⟨p2, b2, off2, _, hbo2, _, cl2⟩ := hk.at e2
    rw [hbo] at hbo2
    simp only [Option.some.injEq, Addr.mk.injEq, and_true] at hbo2
    obtain ⟨rfl, rfl⟩ := hbo2
    exact ⟨l2, cl2.cells.1, beh_of e2⟩
  clear hc hk nd' cl' hi c1 c2 c3 c4 hkl
  unfold hereF at hA
  generalize tmplF l = TT at HT hA
  obtain ⟨BB, hbb⟩ : ∃ BB, behF k i = BB := ⟨_, rfl⟩
  rw [hbb] at hA
  simp only [hbb] at hb
  cases i with
  | zero =>
    obtain rfl : BB = false := by rw [← hbb]; rfl
    clear hb hbb
    simp only [Nat.zero_mul, Nat.add_zero] at d0
    rw [show ((0 : Nat) : Int) = 0 from rfl]
    clear j1 j2 j4
    cases TT with
    | false =>
      by_cases h6 : l'.kind = 6
      · have r6 : ((l'.kind : Int) == 6) = true := int_eq_yes h6
        have r1 : ((l'.kind : Int) == 1) = false := int_eq_no (by omega)
        have r2 : ((l'.kind : Int) == 2) = false := int_eq_no (by omega)
        have r4 : ((l'.kind : Int) == 4) = false := int_eq_no (by omega)
        simp [h6] at hA
        subst hA
        go_enter Try.func66, Try.ntmps66
        go_wp2_with (go_at_call 65; refine HT.mono ?_; rintro e w1 ⟨rfl, rfl⟩)
        go_ret
        exact ⟨rfl, rfl⟩
      · have r6 : ((l'.kind : Int) == 6) = false := int_eq_no h6
        by_cases h1 : l'.kind = 1
        · have r1 : ((l'.kind : Int) == 1) = true := int_eq_yes h1
          have r6 : ((l'.kind : Int) == 6) = false := int_eq_no (by omega)
          have r2 : ((l'.kind : Int) == 2) = false := int_eq_no (by omega)
          have r4 : ((l'.kind : Int) == 4) = false := int_eq_no (by omega)
          simp [h1] at hA
          subst hA
          go_enter Try.func66, Try.ntmps66
          go_wp2_with (go_at_call 65; refine HT.mono ?_; rintro e w1 ⟨rfl, rfl⟩)
          go_ret
          exact ⟨rfl, rfl⟩
        · have r1 : ((l'.kind : Int) == 1) = false := int_eq_no h1
          by_cases h2 : l'.kind = 2
          · have r2 : ((l'.kind : Int) == 2) = true := int_eq_yes h2
            have r6 : ((l'.kind : Int) == 6) = false := int_eq_no (by omega)
            have r1 : ((l'.kind : Int) == 1) = false := int_eq_no (by omega)
            have r4 : ((l'.kind : Int) == 4) = false := int_eq_no (by omega)
            by_cases hp : l.kind = 1
            · have rp : ((l.kind : Int) == 1) = true := int_eq_yes hp
              simp [h2, hp] at hA
              subst hA
              go_enter Try.func66, Try.ntmps66
              go_wp2_with (go_at_call 65; refine HT.mono ?_; rintro e w1 ⟨rfl, rfl⟩)
              go_ret
              exact ⟨rfl, rfl⟩
            · have rp : ((l.kind : Int) == 1) = false := int_eq_no hp
              have rp2 : ((l.kind : Int) != 1) = true := by simp [bne, rp]
              simp [h2, hp] at hA
              subst hA
              go_enter Try.func66, Try.ntmps66
              go_wp2_with (go_at_call 65; refine HT.mono ?_; rintro e w1 ⟨rfl, rfl⟩)
              go_ret
              exact ⟨rfl, rfl⟩
          · have r2 : ((l'.kind : Int) == 2) = false := int_eq_no h2
            by_cases h4 : l'.kind = 4
            · have r4 : ((l'.kind : Int) == 4) = true := int_eq_yes h4
              have r6 : ((l'.kind : Int) == 6) = false := int_eq_no (by omega)
              have r1 : ((l'.kind : Int) == 1) = false := int_eq_no (by omega)
              have r2 : ((l'.kind : Int) == 2) = false := int_eq_no (by omega)
              by_cases hp : l.kind = 1
              · have rp : ((l.kind : Int) == 1) = true := int_eq_yes hp
                simp [h4, hp] at hA
                subst hA
                go_enter Try.func66, Try.ntmps66
                go_wp2_with (go_at_call 65; refine HT.mono ?_; rintro e w1 ⟨rfl, rfl⟩)
                go_ret
                exact ⟨rfl, rfl⟩
              · have rp : ((l.kind : Int) == 1) = false := int_eq_no hp
                have rp2 : ((l.kind : Int) != 1) = true := by simp [bne, rp]
                simp [h4, hp] at hA
                subst hA
                go_enter Try.func66, Try.ntmps66
                go_wp2_with (go_at_call 65; refine HT.mono ?_; rintro e w1 ⟨rfl, rfl⟩)
                go_ret
                exact ⟨rfl, rfl⟩
            · have r4 : ((l'.kind : Int) == 4) = false := int_eq_no h4
              simp [h6, h1, h2, h4] at hA
              subst hA
              go_enter Try.func66, Try.ntmps66
              go_wp2_with (go_at_call 65; refine HT.mono ?_; rintro e w1 ⟨rfl, rfl⟩)
              go_ret
              exact ⟨rfl, rfl⟩
    | true =>
      by_cases h6 : l'.kind = 6
      · have r6 : ((l'.kind : Int) == 6) = true := int_eq_yes h6
        have r1 : ((l'.kind : Int) == 1) = false := int_eq_no (by omega)
        have r2 : ((l'.kind : Int) == 2) = false := int_eq_no (by omega)
        have r4 : ((l'.kind : Int) == 4) = false := int_eq_no (by omega)
        simp [h6] at hA
        subst hA
        go_enter Try.func66, Try.ntmps66
        go_wp2_with (go_at_call 65; refine HT.mono ?_; rintro e w1 ⟨rfl, rfl⟩)
        go_ret
        exact ⟨rfl, rfl⟩
      · have r6 : ((l'.kind : Int) == 6) = false := int_eq_no h6
        by_cases h1 : l'.kind = 1
        · have r1 : ((l'.kind : Int) == 1) = true := int_eq_yes h1
          have r6 : ((l'.kind : Int) == 6) = false := int_eq_no (by omega)
          have r2 : ((l'.kind : Int) == 2) = false := int_eq_no (by omega)
          have r4 : ((l'.kind : Int) == 4) = false := int_eq_no (by omega)
          simp [h1] at hA
          subst hA
          go_enter Try.func66, Try.ntmps66
          go_wp2_with (go_at_call 65; refine HT.mono ?_; rintro e w1 ⟨rfl, rfl⟩)
          go_ret
          exact ⟨rfl, rfl⟩
        · have r1 : ((l'.kind : Int) == 1) = false := int_eq_no h1
          by_cases h2 : l'.kind = 2
          · have r2 : ((l'.kind : Int) == 2) = true := int_eq_yes h2
            have r6 : ((l'.kind : Int) == 6) = false := int_eq_no (by omega)
            have r1 : ((l'.kind : Int) == 1) = false := int_eq_no (by omega)
            have r4 : ((l'.kind : Int) == 4) = false := int_eq_no (by omega)
            by_cases hp : l.kind = 1
            · have rp : ((l.kind : Int) == 1) = true := int_eq_yes hp
              simp [h2, hp] at hA
              subst hA
              go_enter Try.func66, Try.ntmps66
              go_wp2_with (go_at_call 65; refine HT.mono ?_; rintro e w1 ⟨rfl, rfl⟩)
              go_ret
              exact ⟨rfl, rfl⟩
            · have rp : ((l.kind : Int) == 1) = false := int_eq_no hp
              have rp2 : ((l.kind : Int) != 1) = true := by simp [bne, rp]
              simp [h2, hp] at hA
              subst hA
              go_enter Try.func66, Try.ntmps66
              go_wp2_with (go_at_call 65; refine HT.mono ?_; rintro e w1 ⟨rfl, rfl⟩)
              go_ret
              exact ⟨rfl, rfl⟩
          · have r2 : ((l'.kind : Int) == 2) = false := int_eq_no h2
            by_cases h4 : l'.kind = 4
            · have r4 : ((l'.kind : Int) == 4) = true := int_eq_yes h4
              have r6 : ((l'.kind : Int) == 6) = false := int_eq_no (by omega)
              have r1 : ((l'.kind : Int) == 1) = false := int_eq_no (by omega)
              have r2 : ((l'.kind : Int) == 2) = false := int_eq_no (by omega)
              by_cases hp : l.kind = 1
              · have rp : ((l.kind : Int) == 1) = true := int_eq_yes hp
                simp [h4, hp] at hA
                subst hA
                go_enter Try.func66, Try.ntmps66
                go_wp2_with (go_at_call 65; refine HT.mono ?_; rintro e w1 ⟨rfl, rfl⟩)
                go_ret
                exact ⟨rfl, rfl⟩
              · have rp : ((l.kind : Int) == 1) = false := int_eq_no hp
                have rp2 : ((l.kind : Int) != 1) = true := by simp [bne, rp]
                simp [h4, hp] at hA
                subst hA
                go_enter Try.func66, Try.ntmps66
                go_wp2_with (go_at_call 65; refine HT.mono ?_; rintro e w1 ⟨rfl, rfl⟩)
                go_ret
                exact ⟨rfl, rfl⟩
            · have r4 : ((l'.kind : Int) == 4) = false := int_eq_no h4
              simp [h6, h1, h2, h4] at hA
              subst hA
              go_enter Try.func66, Try.ntmps66
              go_wp2_with (go_at_call 65; refine HT.mono ?_; rintro e w1 ⟨rfl, rfl⟩)
              go_ret
              exact ⟨rfl, rfl⟩
  | succ n =>
    obtain ⟨l2, d2, rfl⟩ := hb n rfl
    clear hb hbb HT
    have j5 : (0 : Int) ≤ (n : Int) := by omega
    have j6 : (n : Int) < (p.2.2.1 : Int) := by omega
    have j7 : n < p.2.2.1 := by omega
    have j8 : (((n : Int) + 1) == 0) = false := int_eq_no (by omega)
    rw [show (((n + 1 : Nat)) : Int) = (n : Int) + 1 from rfl] at j1 j2 ⊢
    by_cases h6 : l'.kind = 6
    · have r6 : ((l'.kind : Int) == 6) = true := int_eq_yes h6
      have r1 : ((l'.kind : Int) == 1) = false := int_eq_no (by omega)
      have r2 : ((l'.kind : Int) == 2) = false := int_eq_no (by omega)
      have r4 : ((l'.kind : Int) == 4) = false := int_eq_no (by omega)
      simp [h6] at hA
      subst hA
      go_enter Try.func66, Try.ntmps66
      go_wp2
      go_ret
      exact ⟨rfl, rfl⟩
    · have r6 : ((l'.kind : Int) == 6) = false := int_eq_no h6
      by_cases h1 : l'.kind = 1
      · have r1 : ((l'.kind : Int) == 1) = true := int_eq_yes h1
        have r6 : ((l'.kind : Int) == 6) = false := int_eq_no (by omega)
        have r2 : ((l'.kind : Int) == 2) = false := int_eq_no (by omega)
        have r4 : ((l'.kind : Int) == 4) = false := int_eq_no (by omega)
        simp [h1] at hA
        subst hA
        go_enter Try.func66, Try.ntmps66
        go_wp2
        go_ret
        exact ⟨rfl, rfl⟩
      · have r1 : ((l'.kind : Int) == 1) = false := int_eq_no h1
        by_cases h2 : l'.kind = 2
        · have r2 : ((l'.kind : Int) == 2) = true := int_eq_yes h2
          have r6 : ((l'.kind : Int) == 6) = false := int_eq_no (by omega)
          have r1 : ((l'.kind : Int) == 1) = false := int_eq_no (by omega)
          have r4 : ((l'.kind : Int) == 4) = false := int_eq_no (by omega)
          by_cases hp : l.kind = 1
          · have rp : ((l.kind : Int) == 1) = true := int_eq_yes hp
            simp [h2, hp] at hA
            subst hA
            go_enter Try.func66, Try.ntmps66
            go_wp2
            go_ret
            exact ⟨rfl, rfl⟩
          · have rp : ((l.kind : Int) == 1) = false := int_eq_no hp
            have rp2 : ((l.kind : Int) != 1) = true := by simp [bne, rp]
            simp [h2, hp] at hA
            subst hA
            go_enter Try.func66, Try.ntmps66
            go_wp2
            go_ret
            exact ⟨rfl, rfl⟩
        · have r2 : ((l'.kind : Int) == 2) = false := int_eq_no h2
          by_cases h4 : l'.kind = 4
          · have r4 : ((l'.kind : Int) == 4) = true := int_eq_yes h4
            have r6 : ((l'.kind : Int) == 6) = false := int_eq_no (by omega)
            have r1 : ((l'.kind : Int) == 1) = false := int_eq_no (by omega)
            have r2 : ((l'.kind : Int) == 2) = false := int_eq_no (by omega)
            by_cases hp : l.kind = 1
            · have rp : ((l.kind : Int) == 1) = true := int_eq_yes hp
              by_cases ht : l2.kind = 4
              · have rt : ((l2.kind : Int) == 4) = true := int_eq_yes ht
                simp [h4, hp, ht] at hA
                subst hA
                go_enter Try.func66, Try.ntmps66
                go_wp2
                go_ret
                exact ⟨rfl, rfl⟩
              · have rt : ((l2.kind : Int) == 4) = false := int_eq_no ht
                simp [h4, hp, ht] at hA
                subst hA
                go_enter Try.func66, Try.ntmps66
                go_wp2
                go_ret
                exact ⟨rfl, rfl⟩
            · have rp : ((l.kind : Int) == 1) = false := int_eq_no hp
              have rp2 : ((l.kind : Int) != 1) = true := by simp [bne, rp]
              by_cases ht : l2.kind = 4
              · have rt : ((l2.kind : Int) == 4) = true := int_eq_yes ht
                simp [h4, hp, ht] at hA
                subst hA
                go_enter Try.func66, Try.ntmps66
                go_wp2
                go_ret
                exact ⟨rfl, rfl⟩
              · have rt : ((l2.kind : Int) == 4) = false := int_eq_no ht
                simp [h4, hp, ht] at hA
                subst hA
                go_enter Try.func66, Try.ntmps66
                go_wp2
                go_ret
                exact ⟨rfl, rfl⟩
          · have r4 : ((l'.kind : Int) == 4) = false := int_eq_no h4
            simp [h6, h1, h2, h4] at hA
            subst hA
            go_enter Try.func66, Try.ntmps66
            go_wp2
            go_ret
            exact ⟨rfl, rfl⟩

end Go.Proofs.Ytgnbafgglkncmaa
