/-
  hasRightKids of the program.
-/
import Derived.Test.YtgnbafgglkncmaaRightA
namespace Go.Proofs.Ytgnbafgglkncmaa
open Go.RowKit
set_option linter.unusedVariables false

def kidsOkF (l : Lb) (k : Fo) : Bool := if l.kind = 2 ∨ l.kind = 4 ∨ l.kind = 5 then decide (k.len = 0) else !(tmplF l && decide (k.len = 0)) && standF k l true false

/-- From a place of the row on. -/
def stF (k : Fo) (l : Lb) (i : Nat) : Bool := standF (k.drop i) l (decide (i = 0)) (behF k i)

theorem st_zero (k : Fo) (l : Lb) : stF k l 0 = standF k l true false := by
  unfold stF
  rw [Fo.drop_zero]; rfl
theorem st_step {k : Fo} {l l' : Lb} {k' : Fo} {i : Nat} (e : k.drop i = .cons l' k' (k.drop (i + 1))) : stF k l i = (hereF l (decide (i = 0)) (behF k i) l' && stF k l (i + 1)) := by
  unfold stF
  rw [beh_of e]
  conv => lhs; rw [e, stand_cons]
  rw [decide_eq_false (show ¬ i + 1 = 0 by omega)]
theorem st_end {k : Fo} {l : Lb} {i : Nat} (h : k.len ≤ i) : stF k l i = true := by
  unfold stF
  have : k.drop i = .nil := Fo.len_zero.1 (by rw [Fo.len_drop]; omega)
  rw [this, stand_nil]

set_option maxRecDepth 100000 in
set_option maxHeartbeats 1000000 in
theorem kids_any (w : World) (b off : Nat) (l : Lb) (k : Fo) (p : Pl) (hc : Cl w b off l p) (hk : Rt Any w p.2.1 p.2.2.1 p.2.2.2 k) (hn : k.len ≤ 20000) :
    Calls Try.prog 47 #[.pointer (some ⟨b, off, none⟩)] w fun e w' => e = .returned (.bool (kidsOkF l k)) ∧ w' = w := by
  obtain ⟨A, hA⟩ : ∃ A, kidsOkF l k = A := ⟨_, rfl⟩
  rw [hA]
  have HT := tmpl_any w b off l p hc
  obtain ⟨c0, c1, c2, c3, c4, c5⟩ := hc.cells
  have hkl := hk.len
  have HS : Hid (∀ (i : Nat) (l' : Lb) (k' : Fo), k.drop i = .cons l' k' (k.drop (i + 1)) → i < k.len → Calls Try.prog 66 #[.pointer (some ⟨b, off, none⟩), .int .i64 (i : Int)] w fun e w' => e = .returned (.bool (hereF l (decide (i = 0)) (behF k i) l')) ∧ w' = w) := fun i l' k' hi hil => stand_any w b off l k p hc hk i l' k' hi hil hn
  clear hc hk c1 c2 c3 c4
  unfold kidsOkF at hA
  rw [← st_zero] at hA
  generalize tmplF l = TT at HT hA
  rw [← hkl] at hA hn
  generalize hm : p.2.2.1 = m at *
  by_cases h0 : l.kind = 2 ∨ l.kind = 4 ∨ l.kind = 5
  · rw [if_pos h0] at hA
    subst hA
    clear HT HS
    have r0 : (decide (m = 0)) = ((m : Int) == 0) := by
      by_cases e : m = 0
      · subst e; rfl
      · rw [decide_eq_false e, int_eq_no (by omega)]
    rw [r0]
    clear hm hkl r0
    by_cases h2 : l.kind = 2
    · have r2 := int_eq_yes h2
      clear h0
      go_enter Try.func47, Try.ntmps47
      go_wp2
      go_ret
      exact ⟨rfl, rfl⟩
    · have r2 := int_eq_no h2
      by_cases h4 : l.kind = 4
      · have r4 := int_eq_yes h4
        clear h0
        go_enter Try.func47, Try.ntmps47
        go_wp2
        go_ret
        exact ⟨rfl, rfl⟩
      · have r4 := int_eq_no h4
        have r5 := int_eq_yes (show l.kind = 5 by omega)
        clear h0
        go_enter Try.func47, Try.ntmps47
        go_wp2
        go_ret
        exact ⟨rfl, rfl⟩
  · rw [if_neg h0] at hA
    have r2 := int_eq_no (show ¬ l.kind = 2 by omega)
    have r4 := int_eq_no (show ¬ l.kind = 4 by omega)
    have r5 := int_eq_no (show ¬ l.kind = 5 by omega)
    clear h0
    by_cases hz : (TT && decide (m = 0)) = true
    · rw [hz] at hA
      obtain rfl : false = A := by rw [← hA]; rfl
      obtain ⟨rfl, hm0⟩ : TT = true ∧ m = 0 := by simpa using hz
      have q0 : ((m : Int) == 0) = true := int_eq_yes (by omega)
      clear hA hz HS hm hkl hm0
      go_enter Try.func47, Try.ntmps47
      go_wp2_with (go_at_call 65; refine HT.mono ?_; rintro e w1 ⟨rfl, rfl⟩)
      go_ret
      exact ⟨rfl, rfl⟩
    · have hz' : (TT && decide (m = 0)) = false := by simpa using hz
      rw [hz'] at hA
      have HA : Hid (stF k l 0 = A) := by
        show stF k l 0 = A
        rw [← hA]; simp
      have q0 : TT = true → ((m : Int) == 0) = false := fun h => int_eq_no (by
        rw [h] at hz'
        simp at hz'
        omega)
      have HN : Hid (m = k.len) := hm ▸ hkl
      have hn' : m ≤ 20000 := hn
      clear hA hz hz' hm hkl hn
      cases TT with
      | false =>
        clear q0
        go_enter Try.func47, Try.ntmps47
        go_wp2_with (go_at_call 65; refine HT.mono ?_; rintro e w1 ⟨rfl, rfl⟩)
        go_loopw [33] (fun x wr => ∃ i : Nat, x = .int .i64 i ∧ i ≤ m ∧ stF k l i = A ∧ wr = w1) (fun x wr => m - (intOf x).toNat)
        case atStart => exact ⟨0, rfl, Nat.zero_le _, HA.out, rfl⟩
        case round =>
          obtain ⟨i, rfl, hi, hs, rfl⟩ := hrel
          clear HA
          by_cases hlt : i < m
          · obtain ⟨l', k', e⟩ := Fo.at_lt (show i < k.len by have := HN.out; omega)
            have HC := HS.out i l' k' e (by have := HN.out; omega)
            rw [st_step e] at hs
            have HX : Hid ((hereF l (decide (i = 0)) (behF k i) l' && stF k l (i + 1)) = A) := hs
            clear hs e
            generalize hereF l (decide (i = 0)) (behF k i) l' = H at HC HX
            cases H with
            | false =>
              obtain rfl : false = A := HX.out
              go_wp2_with (go_at_call 66; refine HC.mono ?_; rintro e w2 ⟨rfl, rfl⟩)
              go_ret
              exact ⟨rfl, rfl⟩
            | true =>
              go_wp2_with (go_at_call 66; refine HC.mono ?_; rintro e w2 ⟨rfl, rfl⟩)
              go_roundw
              case rel => exact ⟨i + 1, by go_num, by omega, HX.out, trivial⟩
              case measure => simp [intOf]; omega
          · obtain rfl : i = m := by omega
            obtain rfl : true = A := by rw [← hs]; exact (st_end (by have := HN.out; omega)).symm
            clear hs
            go_wp2
            go_ret
            exact ⟨rfl, rfl⟩
      | true =>
        have q1 := q0 rfl
        clear q0
        go_enter Try.func47, Try.ntmps47
        go_wp2_with (go_at_call 65; refine HT.mono ?_; rintro e w1 ⟨rfl, rfl⟩)
        go_loopw [33] (fun x wr => ∃ i : Nat, x = .int .i64 i ∧ i ≤ m ∧ stF k l i = A ∧ wr = w1) (fun x wr => m - (intOf x).toNat)
        case atStart => exact ⟨0, rfl, Nat.zero_le _, HA.out, rfl⟩
        case round =>
          obtain ⟨i, rfl, hi, hs, rfl⟩ := hrel
          clear HA
          by_cases hlt : i < m
          · obtain ⟨l', k', e⟩ := Fo.at_lt (show i < k.len by have := HN.out; omega)
            have HC := HS.out i l' k' e (by have := HN.out; omega)
            rw [st_step e] at hs
            have HX : Hid ((hereF l (decide (i = 0)) (behF k i) l' && stF k l (i + 1)) = A) := hs
            clear hs e
            generalize hereF l (decide (i = 0)) (behF k i) l' = H at HC HX
            cases H with
            | false =>
              obtain rfl : false = A := HX.out
              go_wp2_with (go_at_call 66; refine HC.mono ?_; rintro e w2 ⟨rfl, rfl⟩)
              go_ret
              exact ⟨rfl, rfl⟩
            | true =>
              go_wp2_with (go_at_call 66; refine HC.mono ?_; rintro e w2 ⟨rfl, rfl⟩)
              go_roundw
              case rel => exact ⟨i + 1, by go_num, by omega, HX.out, trivial⟩
              case measure => simp [intOf]; omega
          · obtain rfl : i = m := by omega
            obtain rfl : true = A := by rw [← hs]; exact (st_end (by have := HN.out; omega)).symm
            clear hs
            go_wp2
            go_ret
            exact ⟨rfl, rfl⟩

end Go.Proofs.Ytgnbafgglkncmaa
