/-
  The program's Equal, isNumber, isMade, Same, named, Right.
-/
import Derived.Test.YtpjkpobdkmcedaaDoorOlist
import Derived.Deep.Cut
namespace Go.Proofs.YtpjkpobdkmcedaaDoor
open Go.RowKit
set_option linter.unusedVariables false

set_option maxHeartbeats 1000000 in
theorem equal_any (w : World) (l m : List Att) (ao bo : Option Addr) (n c p d : Nat) (hr : Rp w ao n c l) (hs : Rp w bo p d m) (hl : n ≤ 100000) (hm : p ≤ 100000) :
    Calls Tryd.prog 33 #[.slice ao n c, .slice bo p d] w fun e w' => e = .returned (.bool (same l m)) ∧ Kp [] w w' := by
  obtain rfl := hr.len
  obtain rfl := hs.len
  by_cases hlen : l.length = m.length
  · have hne : ((l.length : Int) != (m.length : Int)) = false := by rw [hlen]; simp
    obtain ⟨A, hA⟩ : ∃ A, same l m = A := ⟨_, rfl⟩
    rw [hA]
    have hkm : ∀ k, k < l.length → k < m.length := fun k hk => by omega
    have hend : Hid (l.take l.length = m.take l.length → l = m) := fun h => by rw [List.take_length, hlen, List.take_length] at h; exact h
    clear hlen
    go_enter Tryd.func33, Tryd.ntmps33
    go_wp2
    go_loopw [13] (fun i wr => ∃ k q : Nat, k ≤ l.length ∧ i = .int .i64 k ∧ wr = w.drewN q ∧ l.take k = m.take k) (fun i _ => l.length - (intOf i).toNat)
    case atStart => exact ⟨0, 0, Nat.zero_le _, rfl, rfl, rfl⟩
    case round =>
      obtain ⟨k, q, hk, rfl, rfl, hp⟩ := hrel
      by_cases hlt : k < l.length
      · have hlt2 := hkm k hlt
        obtain ⟨b1, o1, rfl, h1, h2⟩ := hr.get k hlt
        obtain ⟨b2, o2, rfl, h3, h4⟩ := hs.get k hlt2
        have htk : Hid (l[k] = m[k] → l.take (k + 1) = m.take (k + 1)) := take_eq hlt hlt2 hp
        have hnt : Hid (l[k] ≠ m[k] → same l m = false) := fun h => same_not (fun e => h (by simp only [e]))
        clear hr hs hp hkm hend
        generalize l[k] = x at h1 h2 htk hnt
        generalize m[k] = y at h3 h4 htk hnt
        rcases parted x y with ⟨e0, e1, e2⟩ | ⟨e0, e1⟩ | ⟨e0, e1, e2⟩
        · subst e0
          have hp := htk.out rfl
          clear htk hnt
          go_wp2_with fail
          go_region
          go_wp2
          go_roundw
          case rel => exact ⟨k + 1, _, by omega, by go_num, rfl, hp⟩
          case measure => simp [intOf]; omega
        all_goals
          have hp := hnt.out e0
          rw [hA] at hp
          subst hp
          clear htk hnt e0 hA
          go_wp2_with fail
          go_region
          go_wp2
          go_ret
          exact ⟨rfl, (Kp.refl _ _).drewN _⟩
      · obtain rfl : k = l.length := by omega
        rw [same_yes (hend.out hp)] at hA
        subst hA
        go_wp2
        go_ret
        exact ⟨rfl, (Kp.refl _ _).drewN _⟩
  · have hne : ((l.length : Int) != (m.length : Int)) = true := by simp; omega
    rw [same_not (fun e => hlen (by rw [e]))]
    clear hlen
    go_enter Tryd.func33, Tryd.ntmps33
    go_wp2
    go_ret
    exact ⟨rfl, Kp.refl _ _⟩

theorem isnum_any (w : World) (n : Int) : Calls Tryd.prog 26 #[.int .i64 n] w fun e w' => e = .returned (.bool (inR n)) ∧ w' = w := by
  by_cases h1 : 0 ≤ n
  · by_cases h2 : n ≤ 2147483647
    · rw [show inR n = true by simp [inR, h1, h2]]
      go_enter Tryd.func26, Tryd.ntmps26
      go_wp2
      go_ret
      exact ⟨rfl, rfl⟩
    · rw [show inR n = false by simp [inR, h2]]
      go_enter Tryd.func26, Tryd.ntmps26
      go_wp2
      go_ret
      exact ⟨rfl, rfl⟩
  · rw [show inR n = false by simp [inR, h1]]
    go_enter Tryd.func26, Tryd.ntmps26
    go_wp2
    go_ret
    exact ⟨rfl, rfl⟩

theorem ismade_any (w : World) (n : Int) : Calls Tryd.prog 27 #[.int .i64 n] w fun e w' => e = .returned (.bool (mk3 n)) ∧ w' = w := by
  have key : ∀ A, mk3 n = A → Calls Tryd.prog 27 #[.int .i64 n] w fun e w' => e = .returned (.bool A) ∧ w' = w := fun A hA => by
    by_cases h1 : n = 2
    · obtain rfl : A = true := by rw [← hA]; simp [mk3, h1]
      clear hA
      subst h1
      go_enter Tryd.func27, Tryd.ntmps27
      go_wp2
      go_ret
      exact ⟨rfl, rfl⟩
    · have q1 : (n == 2) = false := by simpa using h1
      by_cases h2 : n = 3
      · obtain rfl : A = true := by rw [← hA]; simp [mk3, h2]
        clear hA
        subst h2
        go_enter Tryd.func27, Tryd.ntmps27
        go_wp2
        go_ret
        exact ⟨rfl, rfl⟩
      · have q2 : (n == 3) = false := by simpa using h2
        obtain ⟨q3, h3⟩ : ∃ B, (n == 5) = B := ⟨_, rfl⟩
        obtain rfl : A = q3 := by rw [← hA, ← h3]; simp [mk3, q1, q2]
        clear hA
        go_enter Tryd.func27, Tryd.ntmps27
        go_wp2
        go_ret
        exact ⟨rfl, rfl⟩
  exact key _ rfl

end Go.Proofs.YtpjkpobdkmcedaaDoor
