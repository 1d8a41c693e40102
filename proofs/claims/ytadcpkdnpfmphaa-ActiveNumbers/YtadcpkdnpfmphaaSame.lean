/-
  Same, of the program, of the document and of the book.
-/
import Derived.Test.YtadcpkdnpfmphaaMore
namespace Go.Proofs.Ytadcpkdnpfmphaa
open Go.RowKit

/-- Two attributes are the same, or parted by their names, or by their values. -/
theorem parted (x y : Att) : (x = y ∧ x.1.toList = y.1.toList ∧ x.2.toList = y.2.toList) ∨ (x ≠ y ∧ ¬ x.1.toList = y.1.toList) ∨ (x ≠ y ∧ x.1.toList = y.1.toList ∧ ¬ x.2.toList = y.2.toList) := by
  by_cases h1 : x.1 = y.1
  · by_cases h2 : x.2 = y.2
    · exact Or.inl ⟨Prod.ext h1 h2, by rw [h1], by rw [h2]⟩
    · refine Or.inr (Or.inr ⟨fun h => h2 (by rw [h]), by rw [h1], fun h => h2 (eqs_iff.1 ?_)⟩)
      unfold eqs
      rw [h]
      simp
  · refine Or.inr (Or.inl ⟨fun h => h1 (by rw [h]), fun h => h1 (eqs_iff.1 ?_)⟩)
    unfold eqs
    rw [h]
    simp

/-- The same, in order? -/
def same (l m : List Att) : Bool := decide (l = m)

theorem same_not {l m : List Att} (h : l ≠ m) : same l m = false := decide_eq_false h
theorem same_yes {l m : List Att} (h : l = m) : same l m = true := decide_eq_true h

theorem take_eq {l m : List Att} {k : Nat} (h1 : k < l.length) (h2 : k < m.length) (h : l.take k = m.take k) (e : l[k] = m[k]) : l.take (k + 1) = m.take (k + 1) := by
  rw [take_snoc h1, take_snoc h2, h, e]

set_option maxHeartbeats 1000000 in
theorem ref_same_any (w : World) (l m : List Att) (ao bo : Option Addr) (n c p d : Nat) (hr : Rp w ao n c l) (hs : Rp w bo p d m) (hl : n ≤ 1000) (hm : p ≤ 1000) :
    Calls Try.prog 57 #[.slice ao n c, .slice bo p d] w fun e w' => e = .returned (.bool (same l m)) ∧ Kp [] w w' := by
  obtain rfl := hr.len
  obtain rfl := hs.len
  by_cases hlen : l.length = m.length
  · have hne : ((l.length : Int) != (m.length : Int)) = false := by rw [hlen]; simp
    obtain ⟨A, hA⟩ : ∃ A, same l m = A := ⟨_, rfl⟩
    rw [hA]
    have hkm : ∀ k, k < l.length → k < m.length := fun k hk => by omega
    have hend : Hid (l.take l.length = m.take l.length → l = m) := fun h => by rw [List.take_length, hlen, List.take_length] at h; exact h
    clear hlen
    go_enter Try.func57, Try.ntmps57
    go_wp2
    go_loopw [5] (fun i wr => ∃ k q : Nat, k ≤ l.length ∧ i = .int .i64 k ∧ wr = w.drewN q ∧ l.take k = m.take k) (fun i _ => l.length - (intOf i).toNat)
    case atStart => exact ⟨0, 0, Nat.zero_le _, rfl, rfl, rfl⟩
    case round =>
      obtain ⟨k, q, hk, rfl, rfl, hp⟩ := hrel
      by_cases hlt : k < l.length
      · have hlt2 := hkm k hlt
        obtain ⟨b1, o1, rfl, h1, h2⟩ := hr.get k hlt
        obtain ⟨b2, o2, rfl, h3, h4⟩ := hs.get k hlt2
        have htk : Hid (l[k] = m[k] → l.take (k + 1) = m.take (k + 1)) := take_eq hlt hlt2 hp
        have hnt : Hid (l[k] ≠ m[k] → same l m = false) := fun h => same_not (fun e => h (by simp only [e]))
        clear hr hs hp hkm hend
        generalize l[k] = x at h1 h2 htk hnt
        generalize m[k] = y at h3 h4 htk hnt
        rcases parted x y with ⟨e0, e1, e2⟩ | ⟨e0, e1⟩ | ⟨e0, e1, e2⟩
        · subst e0
          have hp := htk.out rfl
          clear htk hnt
          go_wp2_with fail
          go_region
          go_wp2
          go_roundw
          case rel => exact ⟨k + 1, _, by omega, by go_num, rfl, hp⟩
          case measure => simp [intOf]; omega
        all_goals
          have hp := hnt.out e0
          rw [hA] at hp
          subst hp
          clear htk hnt e0 hA
          go_wp2_with fail
          go_region
          go_wp2
          go_ret
          exact ⟨rfl, (Kp.refl _ _).drewN _⟩
      · obtain rfl : k = l.length := by omega
        rw [same_yes (hend.out hp)] at hA
        subst hA
        go_wp2
        go_ret
        exact ⟨rfl, (Kp.refl _ _).drewN _⟩
  · have hne : ((l.length : Int) != (m.length : Int)) = true := by simp; omega
    rw [same_not (fun e => hlen (by rw [e]))]
    clear hlen
    go_enter Try.func57, Try.ntmps57
    go_wp2
    go_ret
    exact ⟨rfl, Kp.refl _ _⟩



theorem attrs_any (w : World) (l m : List Att) (ao bo : Option Addr) (n c p d : Nat) (hr : Rp w ao n c l) (hs : Rp w bo p d m) (hl : n ≤ 1000) (hm : p ≤ 1000) :
    Calls Try.prog 48 #[.slice ao n c, .slice bo p d] w fun e w' => e = .returned (.bool (same l m)) ∧ Kp [] w w' := by
  have H := ref_same_any w l m ao bo n c p d hr hs hl hm
  generalize same l m = A at H
  clear hr hs hl hm
  go_enter Try.func48, Try.ntmps48
  go_wp2_with fail
  refine H.mono ?_
  rintro e w1 ⟨rfl, k1⟩
  clear H
  go_wp2
  go_ret
  exact ⟨rfl, k1⟩

end Go.Proofs.Ytadcpkdnpfmphaa
