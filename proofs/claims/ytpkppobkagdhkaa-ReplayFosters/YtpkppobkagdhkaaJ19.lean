/-
  Joined: Six Rts Rtb.
-/
import Derived.Test.YtpkppobkagdhkaaJ11
import Derived.Test.YtpkppobkagdhkaaJ17
import Derived.Test.YtpkppobkagdhkaaJ18
import Derived.Deep.Cut

/-
  A node's block: six cells that are written and read at once. No program.
-/
namespace Go.Proofs.Ytpkppobkagdhkaa
open Go.RowKit
set_option linter.unusedVariables false

/-- Block g holds these cells. -/
def At (w : World) (g : Nat) (cur : Array Value) (e : TypeId) : Prop := w.heap[g]? = some (.cells cur e (0, 0))

theorem At.lt {w : World} {g : Nat} {cur : Array Value} {e : TypeId} (h : At w g cur e) : g < w.heap.size := (Array.getElem?_eq_some_iff.1 h).1

theorem At.kept {w w' : World} {g : Nat} {cur : Array Value} {e : TypeId} {S : List Nat} (h : At w g cur e) (k : Kp S w w') (hg : g ∉ S) : At w' g cur e := by
  unfold At
  rw [k.block g h.lt hg]
  exact h

theorem At.set {w : World} {g : Nat} {cur : Array Value} {e : TypeId} (h : At w g cur e) (o : Nat) (u : Value) : At (w.setCell ⟨g, o, none⟩ u) g (cur.setIfInBounds o u) e := setCell_block h o u

theorem At.new (w : World) (cur : Array Value) (e : TypeId) : At (w.alloc (.cells cur e)) w.heap.size cur e := heap_new w _
theorem At.new' (w : World) (cur : Array Value) (e : TypeId) (n : Nat) (h : n = w.heap.size) : At (w.alloc (.cells cur e)) n cur e := heap_new' w _ n h

theorem At.cell {w : World} {g : Nat} {cur : Array Value} {e : TypeId} (h : At w g cur e) (j : Nat) : w.cell? ⟨g, j, none⟩ = cur[j]? := cell_of h j

theorem At.free {w : World} {g : Nat} {cur : Array Value} {e : TypeId} (h : At w g cur e) (j : Nat) : w.frozen? ⟨g, j, none⟩ = false := frozen_of h j

/-- Six cells are written, from o on. -/
def put6 (w : World) (g o : Nat) (v0 v1 v2 v3 v4 v5 : Value) : World := (((((w.setCell ⟨g, o, none⟩ v0).setCell ⟨g, o + 1, none⟩ v1).setCell ⟨g, o + 2, none⟩ v2).setCell ⟨g, o + 3, none⟩ v3).setCell ⟨g, o + 4, none⟩ v4).setCell ⟨g, o + 5, none⟩ v5

/-- Six cells of a block are written, from its head on. -/
def putZ (w : World) (g : Nat) (v0 v1 v2 v3 v4 v5 : Value) : World := (((((w.setCell ⟨g, 0, none⟩ v0).setCell ⟨g, 1, none⟩ v1).setCell ⟨g, 2, none⟩ v2).setCell ⟨g, 3, none⟩ v3).setCell ⟨g, 4, none⟩ v4).setCell ⟨g, 5, none⟩ v5

theorem Kp.put6 {S : List Nat} {a w : World} (h : Kp S a w) {g : Nat} (hg : g ∈ S ∨ a.heap.size ≤ g) (o : Nat) (v0 v1 v2 v3 v4 v5 : Value) : Kp S a (put6 w g o v0 v1 v2 v3 v4 v5) :=
  (((((h.setCell hg v0).setCell hg v1).setCell hg v2).setCell hg v3).setCell hg v4).setCell hg v5

theorem Kp.putZ {S : List Nat} {a w : World} (h : Kp S a w) {g : Nat} (hg : g ∈ S ∨ a.heap.size ≤ g) (v0 v1 v2 v3 v4 v5 : Value) : Kp S a (putZ w g v0 v1 v2 v3 v4 v5) :=
  (((((h.setCell hg v0).setCell hg v1).setCell hg v2).setCell hg v3).setCell hg v4).setCell hg v5

theorem At.putZ {w : World} {g : Nat} {e : TypeId} {u0 u1 u2 u3 u4 u5 : Value} (h : At w g #[u0, u1, u2, u3, u4, u5] e) (v0 v1 v2 v3 v4 v5 : Value) : At (putZ w g v0 v1 v2 v3 v4 v5) g #[v0, v1, v2, v3, v4, v5] e :=
  (((((h.set 0 v0).set 1 v1).set 2 v2).set 3 v3).set 4 v4).set 5 v5

theorem At.six {w : World} {g : Nat} {e : TypeId} {v0 v1 v2 v3 v4 v5 : Value} (h : At w g #[v0, v1, v2, v3, v4, v5] e) : w.cell? ⟨g, 0, none⟩ = some v0 ∧ w.cell? ⟨g, 1, none⟩ = some v1 ∧ w.cell? ⟨g, 2, none⟩ = some v2 ∧ w.cell? ⟨g, 3, none⟩ = some v3 ∧ w.cell? ⟨g, 4, none⟩ = some v4 ∧ w.cell? ⟨g, 5, none⟩ = some v5 :=
  ⟨h.cell 0, h.cell 1, h.cell 2, h.cell 3, h.cell 4, h.cell 5⟩

theorem put6_eq (w : World) (g o : Nat) (v0 v1 v2 v3 v4 v5 : Value) : put6 w g o v0 v1 v2 v3 v4 v5 = w.setCells g o [v0, v1, v2, v3, v4, v5] := rfl

/-- Ints as values. -/
def iv (l : List Nat) : List Value := l.map (fun n : Nat => Value.int .i64 (n : Int))
theorem iv_len (l : List Nat) : (iv l).length = l.length := by simp [iv]

end Go.Proofs.Ytpkppobkagdhkaa

/-
  The program's Equal, isNumber, isMade, Same, named, Right.
-/
namespace Go.Proofs.Ytpkppobkagdhkaa
open Go.RowKit
set_option linter.unusedVariables false

set_option maxHeartbeats 1000000 in
theorem equal_any (w : World) (l m : List Att) (ao bo : Option Addr) (n c p d : Nat) (hr : Rp w ao n c l) (hs : Rp w bo p d m) (hl : n ≤ 100000) (hm : p ≤ 100000) :
    Calls Try.prog 40 #[.slice ao n c, .slice bo p d] w fun e w' => e = .returned (.bool (same l m)) ∧ Kp [] w w' := by
  obtain rfl := hr.len
  obtain rfl := hs.len
  by_cases hlen : l.length = m.length
  · have hne : ((l.length : Int) != (m.length : Int)) = false := by rw [hlen]; simp
    obtain ⟨A, hA⟩ : ∃ A, same l m = A := ⟨_, rfl⟩
    rw [hA]
    have hkm : ∀ k, k < l.length → k < m.length := fun k hk => by omega
    have hend : Hid (l.take l.length = m.take l.length → l = m) := fun h => by rw [List.take_length, hlen, List.take_length] at h; exact h
    clear hlen
    go_enter Try.func40, Try.ntmps40
    go_wp2
    go_loopw [13] (fun i wr => ∃ k q : Nat, k ≤ l.length ∧ i = .int .i64 k ∧ wr = w.drewN q ∧ l.take k = m.take k) (fun i _ => l.length - (intOf i).toNat)
    case atStart => exact ⟨0, 0, Nat.zero_le _, rfl, rfl, rfl⟩
    case round =>
      obtain ⟨k, q, hk, rfl, rfl, hp⟩ := hrel
      by_cases hlt : k < l.length
      · have hlt2 := hkm k hlt
        obtain ⟨b1, o1, rfl, h1, h2⟩ := hr.get k hlt
        obtain ⟨b2, o2, rfl, h3, h4⟩ := hs.get k hlt2
        have htk : Hid (l[k] = m[k] → l.take (k + 1) = m.take (k + 1)) := take_eq hlt hlt2 hp
        have hnt : Hid (l[k] ≠ m[k] → same l m = false) := fun h => same_not (fun e => h (by simp only [e]))
        clear hr hs hp hkm hend
        generalize l[k] = x at h1 h2 htk hnt
        generalize m[k] = y at h3 h4 htk hnt
        rcases parted x y with ⟨e0, e1, e2⟩ | ⟨e0, e1⟩ | ⟨e0, e1, e2⟩
        · subst e0
          have hp := htk.out rfl
          clear htk hnt
          go_wp2_with fail
          go_region
          go_wp2
          go_roundw
          case rel => exact ⟨k + 1, _, by omega, by go_num, rfl, hp⟩
          case measure => simp [intOf]; omega
        all_goals
          have hp := hnt.out e0
          rw [hA] at hp
          subst hp
          clear htk hnt e0 hA
          go_wp2_with fail
          go_region
          go_wp2
          go_ret
          exact ⟨rfl, (Kp.refl _ _).drewN _⟩
      · obtain rfl : k = l.length := by omega
        rw [same_yes (hend.out hp)] at hA
        subst hA
        go_wp2
        go_ret
        exact ⟨rfl, (Kp.refl _ _).drewN _⟩
  · have hne : ((l.length : Int) != (m.length : Int)) = true := by simp; omega
    rw [same_not (fun e => hlen (by rw [e]))]
    clear hlen
    go_enter Try.func40, Try.ntmps40
    go_wp2
    go_ret
    exact ⟨rfl, Kp.refl _ _⟩

theorem isnum_any (w : World) (n : Int) : Calls Try.prog 24 #[.int .i64 n] w fun e w' => e = .returned (.bool (inR n)) ∧ w' = w := by
  by_cases h1 : 0 ≤ n
  · by_cases h2 : n ≤ 2147483647
    · rw [show inR n = true by simp [inR, h1, h2]]
      go_enter Try.func24, Try.ntmps24
      go_wp2
      go_ret
      exact ⟨rfl, rfl⟩
    · rw [show inR n = false by simp [inR, h2]]
      go_enter Try.func24, Try.ntmps24
      go_wp2
      go_ret
      exact ⟨rfl, rfl⟩
  · rw [show inR n = false by simp [inR, h1]]
    go_enter Try.func24, Try.ntmps24
    go_wp2
    go_ret
    exact ⟨rfl, rfl⟩

theorem ismade_any (w : World) (n : Int) : Calls Try.prog 25 #[.int .i64 n] w fun e w' => e = .returned (.bool (mk3 n)) ∧ w' = w := by
  have key : ∀ A, mk3 n = A → Calls Try.prog 25 #[.int .i64 n] w fun e w' => e = .returned (.bool A) ∧ w' = w := fun A hA => by
    by_cases h1 : n = 2
    · obtain rfl : A = true := by rw [← hA]; simp [mk3, h1]
      clear hA
      subst h1
      go_enter Try.func25, Try.ntmps25
      go_wp2
      go_ret
      exact ⟨rfl, rfl⟩
    · have q1 : (n == 2) = false := by simpa using h1
      by_cases h2 : n = 3
      · obtain rfl : A = true := by rw [← hA]; simp [mk3, h2]
        clear hA
        subst h2
        go_enter Try.func25, Try.ntmps25
        go_wp2
        go_ret
        exact ⟨rfl, rfl⟩
      · have q2 : (n == 3) = false := by simpa using h2
        obtain ⟨q3, h3⟩ : ∃ B, (n == 5) = B := ⟨_, rfl⟩
        obtain rfl : A = q3 := by rw [← hA, ← h3]; simp [mk3, q1, q2]
        clear hA
        go_enter Try.func25, Try.ntmps25
        go_wp2
        go_ret
        exact ⟨rfl, rfl⟩
  exact key _ rfl

end Go.Proofs.Ytpkppobkagdhkaa

/-
  The program's Same, named, Right.
-/
namespace Go.Proofs.Ytpkppobkagdhkaa
open Go.RowKit
set_option linter.unusedVariables false
set_option linter.unusedSimpArgs false

set_option maxRecDepth 100000 in
set_option maxHeartbeats 1000000 in
theorem osame_any (w : World) (a b : Ot) (p q : Sl) (h1 : Ap w (a, p)) (h2 : Ap w (b, q)) (hl : p.2.1 ≤ 100000) (hm : q.2.1 ≤ 100000) :
    Calls Try.prog 23 #[ov a p, ov b q] w fun e w' => e = .returned (.bool (sameO a b)) ∧ Kp [] w w' := by
  obtain ⟨a1, a2, a3, a4, a5, a6, a7, a8, a9⟩ := a
  obtain ⟨b1, b2, b3, b4, b5, b6, b7, b8, b9⟩ := b
  obtain ⟨p1, p2, p3⟩ := p
  obtain ⟨q1, q2, q3⟩ := q
  have k0 : Kp [] w ((w.alloc (.cells (oc ⟨a1, a2, a3, a4, a5, a6, a7, a8, a9⟩ (p1, p2, p3)) 25)).alloc (.cells (oc ⟨b1, b2, b3, b4, b5, b6, b7, b8, b9⟩ (q1, q2, q3)) 25)) := ((Kp.refl _ _).alloc _).alloc _
  have HC := equal_any _ _ _ _ _ _ _ _ _ (Rp.kept h1 k0) (Rp.kept h2 k0) hl hm
  clear h1 h2
  simp only [oc, ov] at HC k0 ⊢
  obtain ⟨A, hA⟩ : ∃ A, sameO ⟨a1, a2, a3, a4, a5, a6, a7, a8, a9⟩ ⟨b1, b2, b3, b4, b5, b6, b7, b8, b9⟩ = A := ⟨_, rfl⟩
  rw [hA]
  simp only [sameO, eqs] at hA
  cases c0 : (a1 == b1)
  · simp only [c0, Bool.true_and, Bool.false_and] at hA
    subst hA
    clear HC
    go_enter Try.func23, Try.ntmps23
    go_wp2
    go_ret
    exact ⟨rfl, k0⟩
  cases c1 : (a2 == b2)
  · simp only [c0, c1, Bool.true_and, Bool.false_and] at hA
    subst hA
    clear HC
    go_enter Try.func23, Try.ntmps23
    go_wp2
    go_ret
    exact ⟨rfl, k0⟩
  cases c2 : (a3 == b3)
  · simp only [c0, c1, c2, Bool.true_and, Bool.false_and] at hA
    subst hA
    clear HC
    go_enter Try.func23, Try.ntmps23
    go_wp2
    go_ret
    exact ⟨rfl, k0⟩
  cases c3 : (a4 == b4)
  · simp only [c0, c1, c2, c3, Bool.true_and, Bool.false_and] at hA
    subst hA
    clear HC
    go_enter Try.func23, Try.ntmps23
    go_wp2
    go_ret
    exact ⟨rfl, k0⟩
  cases c4 : (a5 == b5)
  · simp only [c0, c1, c2, c3, c4, Bool.true_and, Bool.false_and] at hA
    subst hA
    clear HC
    go_enter Try.func23, Try.ntmps23
    go_wp2
    go_ret
    exact ⟨rfl, k0⟩
  cases c5 : (a6 == b6)
  · simp only [c0, c1, c2, c3, c4, c5, Bool.true_and, Bool.false_and] at hA
    subst hA
    clear HC
    go_enter Try.func23, Try.ntmps23
    go_wp2
    go_ret
    exact ⟨rfl, k0⟩
  cases c6 : (a7.toList == b7.toList)
  · simp only [c0, c1, c2, c3, c4, c5, c6, Bool.true_and, Bool.false_and] at hA
    subst hA
    clear HC
    go_enter Try.func23, Try.ntmps23
    go_wp2
    go_ret
    exact ⟨rfl, k0⟩
  cases c7 : (a9.toList == b9.toList)
  · simp only [c0, c1, c2, c3, c4, c5, c6, c7, Bool.true_and, Bool.false_and] at hA
    subst hA
    clear HC
    go_enter Try.func23, Try.ntmps23
    go_wp2
    go_ret
    exact ⟨rfl, k0⟩
  simp only [c0, c1, c2, c3, c4, c5, c6, c7, Bool.true_and] at hA
  subst hA
  go_enter Try.func23, Try.ntmps23
  go_wp2_with (go_at_call 40; refine HC.mono ?_; rintro e w1 ⟨rfl, k1⟩)
  go_ret
  exact ⟨rfl, k0.trans k1 (fun x hx => Or.inl hx)⟩

end Go.Proofs.Ytpkppobkagdhkaa
