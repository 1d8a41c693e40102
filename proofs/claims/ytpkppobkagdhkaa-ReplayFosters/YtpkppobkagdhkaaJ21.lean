/-
  Joined: PrA.
-/
import Derived.Test.YtpkppobkagdhkaaJ20
import Derived.Deep.RegionHeld3
import Derived.BigQuiet

/-
  The program's arena: has, join, aheadOf, link, unlink; what a node may be.
-/
namespace Go.Proofs.Ytpkppobkagdhkaa
open Go.RowKit Go.Maps Utf
set_option linter.unusedVariables false
set_option linter.unusedSimpArgs false

/-- A node, or none. -/
def Nn (n : Nat) (z : Int) : Prop := z = -1 ∨ ∃ x : Nat, z = (x : Int) ∧ x < n

section
variable {tag : Nat → Nat} {w : World} {b g o c : Nat} {q : Bool} {n : Nat} {N : Nat → Pn} {pl : Nat → Np}

theorem has_any (h : Rw tag w b g o c q n N pl) (hn : n < 100000) (z : Int) :
    Calls Try.prog 10 #[.pointer (some ⟨b, 0, none⟩), .int .i64 z] w fun e w' => e = .returned (.bool (decide (0 ≤ z ∧ z < n))) ∧ w' = w := by
  obtain ⟨c0, _⟩ := h.head
  clear h
  by_cases h1 : 0 ≤ z
  · by_cases h2 : z < n
    · rw [decide_eq_true ⟨h1, h2⟩]
      go_enter Try.func10, Try.ntmps10
      go_wp2
      go_ret
      exact ⟨rfl, rfl⟩
    · rw [decide_eq_false (fun e => h2 e.2)]
      go_enter Try.func10, Try.ntmps10
      go_wp2
      go_ret
      exact ⟨rfl, rfl⟩
  · rw [decide_eq_false (fun e => h1 e.1)]
    go_enter Try.func10, Try.ntmps10
    go_wp2
    go_ret
    exact ⟨rfl, rfl⟩

theorem kpg {g : Nat} {a w : World} (h : Kp [g] a w) (j : Nat) (u : Value) : Kp [g] a (w.setCell ⟨g, j, none⟩ u) := h.setCell (Or.inl (by simp)) u

/-- The arena in w, whose nodes' block alone has turned since w0. -/
def Rz (w0 : World) (tag : Nat → Nat) (w : World) (b g o c : Nat) (q : Bool) (n : Nat) (N : Nat → Pn) (pl : Nat → Np) : Prop := Rw tag w b g o c q n N pl ∧ Kp [g] w0 w

theorem Rz.mk {w0 : World} (h : Rw tag w b g o c q n N pl) (k : Kp [g] w0 w) : Rz w0 tag w b g o c q n N pl := ⟨h, k⟩
theorem Rz.sUp {w0 : World} (h : Rz w0 tag w b g o c q n N pl) {i : Nat} (hi : i < n) (v : Int) : Rz w0 tag (w.setCell ⟨g, o + i * 11 + 6, none⟩ (.int .i64 v)) b g o c q n (sUp N i v) pl := ⟨h.1.sUp hi v, kpg h.2 _ _⟩
theorem Rz.sFi {w0 : World} (h : Rz w0 tag w b g o c q n N pl) {i : Nat} (hi : i < n) (v : Int) : Rz w0 tag (w.setCell ⟨g, o + i * 11 + 7, none⟩ (.int .i64 v)) b g o c q n (sFi N i v) pl := ⟨h.1.sFi hi v, kpg h.2 _ _⟩
theorem Rz.sLa {w0 : World} (h : Rz w0 tag w b g o c q n N pl) {i : Nat} (hi : i < n) (v : Int) : Rz w0 tag (w.setCell ⟨g, o + i * 11 + 8, none⟩ (.int .i64 v)) b g o c q n (sLa N i v) pl := ⟨h.1.sLa hi v, kpg h.2 _ _⟩
theorem Rz.sAh {w0 : World} (h : Rz w0 tag w b g o c q n N pl) {i : Nat} (hi : i < n) (v : Int) : Rz w0 tag (w.setCell ⟨g, o + i * 11 + 9, none⟩ (.int .i64 v)) b g o c q n (sAh N i v) pl := ⟨h.1.sAh hi v, kpg h.2 _ _⟩
theorem Rz.sBe {w0 : World} (h : Rz w0 tag w b g o c q n N pl) {i : Nat} (hi : i < n) (v : Int) : Rz w0 tag (w.setCell ⟨g, o + i * 11 + 10, none⟩ (.int .i64 v)) b g o c q n (sBe N i v) pl := ⟨h.1.sBe hi v, kpg h.2 _ _⟩

set_option maxHeartbeats 1000000 in
theorem join_any (h : Rw tag w b g o c q n N pl) (hn : n < 100000) (p : Nat) (hp : p < n) (a z : Int) (ha : Nn n a) (hz : Nn n z) :
    Calls Try.prog 61 #[.pointer (some ⟨b, 0, none⟩), .int .i64 p, .int .i64 a, .int .i64 z] w fun e w' => e = .returned (.tuple #[]) ∧ Rz w tag w' b g o c q n (joinF N p a z) pl := by
  have hne := h.ne
  have hp0 : (0 : Int) ≤ (p : Int) := by omega
  have hp1 : (p : Int) < (n : Int) := by omega
  have hN : ∀ y : Nat, ¬ ((y : Int) = -1) := fun y => by omega
  rcases ha with rfl | ⟨x, rfl, hx⟩
  · have h1 := h.sFi hp z
    have z1 := (Rz.mk h (Kp.refl [g] w)).sFi hp z
    rcases hz with rfl | ⟨y, rfl, hy⟩
    · have hfin : Hid (Rz w tag _ b g o c q n (joinF N p (-1) (-1)) pl) := z1.sLa hp (-1)
      obtain ⟨c0, _⟩ := h.head
      obtain ⟨_, l1, l2, _⟩ := h.links hp
      obtain ⟨c1, _⟩ := h1.head
      obtain ⟨_, _, m2, _⟩ := h1.links hp
      have f0 := h.free
      have f1 := h1.free
      clear h h1 z1
      go_enter Try.func61, Try.ntmps61
      go_wp2
      go_end0
      exact ⟨rfl, hfin.out⟩
    · have e : joinF N p (-1) (y : Int) = sAh (sFi N p y) y (-1) := by unfold joinF joinA joinB; rw [if_pos rfl, if_neg (hN y), Int.toNat_natCast]
      have hf := z1.sAh hy (-1)
      rw [← e] at hf
      have hfin : Hid (Rz w tag _ b g o c q n (joinF N p (-1) (y : Int)) pl) := hf
      clear hf
      have hy0 : (0 : Int) ≤ (y : Int) := by omega
      have hy1 : (y : Int) < (n : Int) := by omega
      have t1 : ((y : Int) == -1) = false := beq_false_of_ne (by omega)
      obtain ⟨c0, _⟩ := h.head
      obtain ⟨_, l1, l2, _⟩ := h.links hp
      obtain ⟨c1, _⟩ := h1.head
      obtain ⟨_, _, _, m2, _⟩ := h1.links hy
      have f0 := h.free
      have f1 := h1.free
      clear h h1 z1
      go_enter Try.func61, Try.ntmps61
      go_wp2
      go_end0
      exact ⟨rfl, hfin.out⟩
  · have h1 := h.sBe hx z
    have z1 := (Rz.mk h (Kp.refl [g] w)).sBe hx z
    have hx0 : (0 : Int) ≤ (x : Int) := by omega
    have hx1 : (x : Int) < (n : Int) := by omega
    have t2 : ((x : Int) == -1) = false := beq_false_of_ne (by omega)
    rcases hz with rfl | ⟨y, rfl, hy⟩
    · have e : joinF N p (x : Int) (-1) = sLa (sBe N x (-1)) p x := by unfold joinF joinA joinB; rw [if_neg (hN x), if_pos rfl, Int.toNat_natCast]
      have hf := z1.sLa hp x
      rw [← e] at hf
      have hfin : Hid (Rz w tag _ b g o c q n (joinF N p (x : Int) (-1)) pl) := hf
      clear hf
      obtain ⟨c0, _⟩ := h.head
      obtain ⟨_, _, _, _, l1⟩ := h.links hx
      obtain ⟨c1, _⟩ := h1.head
      obtain ⟨_, _, m2, _⟩ := h1.links hp
      have f0 := h.free
      have f1 := h1.free
      clear h h1 z1
      go_enter Try.func61, Try.ntmps61
      go_wp2
      go_end0
      exact ⟨rfl, hfin.out⟩
    · have e : joinF N p (x : Int) (y : Int) = sAh (sBe N x y) y x := by unfold joinF joinA joinB; rw [if_neg (hN x), if_neg (hN y), Int.toNat_natCast, Int.toNat_natCast]
      have hf := z1.sAh hy x
      rw [← e] at hf
      have hfin : Hid (Rz w tag _ b g o c q n (joinF N p (x : Int) (y : Int)) pl) := hf
      clear hf
      have hy0 : (0 : Int) ≤ (y : Int) := by omega
      have hy1 : (y : Int) < (n : Int) := by omega
      have t1 : ((y : Int) == -1) = false := beq_false_of_ne (by omega)
      obtain ⟨c0, _⟩ := h.head
      obtain ⟨_, _, _, _, l1⟩ := h.links hx
      obtain ⟨c1, _⟩ := h1.head
      obtain ⟨_, _, _, m2, _⟩ := h1.links hy
      have f0 := h.free
      have f1 := h1.free
      clear h h1 z1
      go_enter Try.func61, Try.ntmps61
      go_wp2
      go_end0
      exact ⟨rfl, hfin.out⟩

theorem ahead_any (h : Rw tag w b g o c q n N pl) (hn : n < 100000) (p : Nat) (hp : p < n) (z : Int) (hz : Nn n z) :
    Calls Try.prog 60 #[.pointer (some ⟨b, 0, none⟩), .int .i64 p, .int .i64 z] w fun e w' => e = .returned (.int .i64 (aheadF N p z)) ∧ w' = w := by
  have hp0 : (0 : Int) ≤ (p : Int) := by omega
  have hp1 : (p : Int) < (n : Int) := by omega
  obtain ⟨c0, _⟩ := h.head
  rcases hz with rfl | ⟨y, rfl, hy⟩
  · obtain ⟨_, _, l1, _⟩ := h.links hp
    clear h
    show Calls _ _ _ _ fun e w' => e = .returned (.int .i64 (N p).la) ∧ w' = w
    go_enter Try.func60, Try.ntmps60
    go_wp2
    go_ret
    exact ⟨rfl, rfl⟩
  · obtain ⟨_, _, _, l1, _⟩ := h.links hy
    clear h
    have t1 : ((y : Int) == -1) = false := beq_false_of_ne (by omega)
    have hy0 : (0 : Int) ≤ (y : Int) := by omega
    have hy1 : (y : Int) < (n : Int) := by omega
    have e : aheadF N p (y : Int) = (N y).ah := by unfold aheadF; rw [if_neg (by omega), Int.toNat_natCast]
    rw [e]
    go_enter Try.func60, Try.ntmps60
    go_wp2
    go_ret
    exact ⟨rfl, rfl⟩

theorem aheadF_nn (hN : ∀ i, i < n → Nn n (N i).la ∧ Nn n (N i).ah) {p : Nat} (hp : p < n) {z : Int} (hz : Nn n z) : Nn n (aheadF N p z) := by
  unfold aheadF
  rcases hz with rfl | ⟨y, rfl, hy⟩
  · rw [if_pos rfl]; exact (hN p hp).1
  · rw [if_neg (by omega), Int.toNat_natCast]; exact (hN y hy).2

set_option maxHeartbeats 1000000 in
theorem link_any (h : Rw tag w b g o c q n N pl) (hn : n < 100000) (p : Nat) (hp : p < n) (z : Int) (hz : Nn n z) (x : Nat) (hx : x < n) (ha : Nn n (aheadF N p z)) :
    Calls Try.prog 45 #[.pointer (some ⟨b, 0, none⟩), .int .i64 p, .int .i64 z, .int .i64 x] w fun e w' => e = .returned (.tuple #[]) ∧ Rz w tag w' b g o c q n (linkF N p z x) pl := by
  have HA := ahead_any h hn p hp z hz
  have h1 := h.sUp hx (p : Int)
  have k1 : Kp [g] w (w.setCell ⟨g, o + x * 11 + 6, none⟩ (.int .i64 (p : Int))) := kpg (Kp.refl [g] w) _ _
  have HJ := join_any h1 hn p hp (aheadF N p z) (x : Int) ha (.inr ⟨x, rfl, hx⟩)
  have HK : Hid (∀ V, Rw tag V b g o c q n (joinF (sUp N x p) p (aheadF N p z) x) pl → Calls Try.prog 61 #[.pointer (some ⟨b, 0, none⟩), .int .i64 p, .int .i64 x, .int .i64 z] V fun e w' => e = .returned (.tuple #[]) ∧ Rz V tag w' b g o c q n (linkF N p z x) pl) := fun V hV => join_any hV hn p hp (x : Int) z (.inr ⟨x, rfl, hx⟩) hz
  obtain ⟨c0, _⟩ := h.head
  obtain ⟨l1, _⟩ := h.links hx
  have f0 := h.free
  have hx0 : (0 : Int) ≤ (x : Int) := by omega
  have hx1 : (x : Int) < (n : Int) := by omega
  generalize aheadF N p z = y at HA HJ HK
  clear h h1
  go_enter Try.func45, Try.ntmps45
  go_wp2_with (go_at_call 60; refine HA.mono ?_; rintro e w2 ⟨rfl, hw⟩; have hw2 := hw.symm; clear hw; subst hw2)
  refine HJ.mono ?_
  rintro e w2 ⟨rfl, r2, k2⟩
  have HK2 := HK.out _ r2
  have K2 : Hid (Kp [g] w w2) := k1.trans k2 (fun x hx => Or.inl hx)
  clear HA HJ k1 HK r2 k2
  go_wp2_with fail
  refine HK2.mono ?_
  rintro e w3 ⟨rfl, r3, k3⟩
  go_wp2
  go_end0
  exact ⟨rfl, r3, K2.out.trans k3 (fun x hx => Or.inl hx)⟩

set_option maxRecDepth 100000 in
set_option maxHeartbeats 1000000 in
theorem unlink_any (h : Rw tag w b g o c q n N pl) (hn : n < 100000) (p : Nat) (hp : p < n) (x : Nat) (hx : x < n) (hu : (N x).up = p) (ha : Nn n (N x).ah) (hb : Nn n (N x).be) (hna : (N x).ah ≠ x) (hnb : (N x).be ≠ x) :
    Calls Try.prog 50 #[.pointer (some ⟨b, 0, none⟩), .int .i64 x] w fun e w' => e = .returned (.tuple #[]) ∧ Rz w tag w' b g o c q n (unlinkF N p x) pl := by
  have HJ : Hid (∀ V, Kp [] w V → Calls Try.prog 61 #[.pointer (some ⟨b, 0, none⟩), .int .i64 p, .int .i64 (N x).ah, .int .i64 (N x).be] V fun e w' => e = .returned (.tuple #[]) ∧ Rz V tag w' b g o c q n (joinF N p (N x).ah (N x).be) pl) := fun V kV => join_any (h.kept kV) hn p hp _ _ ha hb
  have e1 : (joinF N p (N x).ah (N x).be x).up = p := by rw [joinF_up]; exact hu
  have e2 : (joinF N p (N x).ah (N x).be x).ah = (N x).ah := by rw [joinF_ah, if_neg]; rintro ⟨h1, h2⟩; exact hnb (by rcases hb with h3 | ⟨y, h3, _⟩ <;> omega)
  have e3 : (joinF N p (N x).ah (N x).be x).be = (N x).be := by rw [joinF_be, if_neg]; rintro ⟨h1, h2⟩; exact hna (by rcases ha with h3 | ⟨y, h3, _⟩ <;> omega)
  have C1 : Hid (∀ V, Rw tag V b g o c q n (joinF N p (N x).ah (N x).be) pl → V.cell? ⟨g, o + x * 11 + 6, none⟩ = some (.int .i64 p) ∧ V.cell? ⟨g, o + x * 11 + 9, none⟩ = some (.int .i64 (N x).ah) ∧ V.cell? ⟨g, o + x * 11 + 10, none⟩ = some (.int .i64 (N x).be)) := fun V hV => by
    obtain ⟨m1, _, _, m2, m3⟩ := hV.links hx
    rw [e1] at m1; rw [e2] at m2; rw [e3] at m3
    exact ⟨m1, m2, m3⟩
  have HF : Hid (∀ V, Rz w tag V b g o c q n (joinF N p (N x).ah (N x).be) pl → Rz w tag (((V.setCell ⟨g, o + x * 11 + 6, none⟩ (.int .i64 (-1))).setCell ⟨g, o + x * 11 + 9, none⟩ (.int .i64 (-1))).setCell ⟨g, o + x * 11 + 10, none⟩ (.int .i64 (-1))) b g o c q n (unlinkF N p x) pl) := fun V hV => ((hV.sUp hx (-1)).sAh hx (-1)).sBe hx (-1)
  have HC : Hid (∀ V, Rw tag V b g o c q n (joinF N p (N x).ah (N x).be) pl → (∃ u, V.cell? ⟨g, o + x * 11 + 6, none⟩ = some u) ∧ (∀ j, V.frozen? ⟨g, j, none⟩ = false) ∧ (∃ u, (V.setCell ⟨g, o + x * 11 + 6, none⟩ (.int .i64 (-1))).cell? ⟨g, o + x * 11 + 9, none⟩ = some u) ∧ (∃ u, ((V.setCell ⟨g, o + x * 11 + 6, none⟩ (.int .i64 (-1))).setCell ⟨g, o + x * 11 + 9, none⟩ (.int .i64 (-1))).cell? ⟨g, o + x * 11 + 10, none⟩ = some u)) := fun V hV => ⟨⟨_, (hV.links hx).1⟩, hV.free, ⟨_, ((hV.sUp hx (-1)).links hx).2.2.2.1⟩, ⟨_, (((hV.sUp hx (-1)).sAh hx (-1)).links hx).2.2.2.2⟩⟩
  obtain ⟨c0, _⟩ := h.head
  obtain ⟨l1, _, _, l2, l3⟩ := h.links hx
  rw [hu] at l1
  have hx0 : (0 : Int) ≤ (x : Int) := by omega
  have hx1 : (x : Int) < (n : Int) := by omega
  have hsx : g < w.heap.size := h.lt.2
  generalize (N x).ah = ah at HJ C1 HF HC l2
  generalize (N x).be = be at HJ C1 HF HC l3
  clear h ha hb hna hnb e1 e2 e3 hu
  go_enter Try.func50, Try.ntmps50
  go_wp2_with fail
  go_region_held3 (fun V => V.cell? ⟨g, o + x * 11 + 6, none⟩ = some (.int .i64 p) ∧ V.cell? ⟨g, o + x * 11 + 9, none⟩ = some (.int .i64 ah) ∧ V.cell? ⟨g, o + x * 11 + 10, none⟩ = some (.int .i64 be))
    (first | exact C1.out _ r2.1 | exact ⟨l1, l2, l3⟩)
    (first | (go_at_call 61; refine (HJ.out _ (Kp.refl _ _).drew).mono ?_; rintro e w2 ⟨rfl, r2⟩))
  have z2 := HF.out _ (Rz.mk r2.1 ((Kp.refl [g] w).drew.trans r2.2 (fun x hx => Or.inl hx)))
  obtain ⟨⟨u1, d1⟩, d2, ⟨u3, d3⟩, ⟨u4, d4⟩⟩ := HC.out _ r2.1
  have hfin : Hid (Rz w tag _ b g o c q n (unlinkF N p x) pl) := z2
  clear HF HC z2 r2 C1 HJ l1 l2 l3 c0
  go_wp2
  go_end0
  exact ⟨rfl, hfin.out⟩

theorem tmpl_list : TMPL.toList = [116, 101, 109, 112, 108, 97, 116, 101] := by rw [ByteArray.toList_eq]; rfl

theorem tmpl_any (h : Rw tag w b g o c q n N pl) (hn : n < 100000) (x : Nat) (hx : x < n) :
    Calls Try.prog 56 #[.pointer (some ⟨b, 0, none⟩), .int .i64 x] w fun e w' => e = .returned (.bool (tmplF (N x).lb)) ∧ w' = w := by
  obtain ⟨c0, _⟩ := h.head
  obtain ⟨f1, f2, f3, _⟩ := h.fields hx
  have hx0 : (0 : Int) ≤ (x : Int) := by omega
  have hx1 : (x : Int) < (n : Int) := by omega
  clear h
  generalize (N x).lb = l at f1 f2 f3 ⊢
  by_cases h1 : l.kind = 3
  · by_cases h2 : l.ns = 1
    · have t1 : (l.kind == 3) = true := by rw [h1]; rfl
      have t2 : (l.ns == 1) = true := by rw [h2]; rfl
      by_cases h3 : l.name = TMPL
      · have e : tmplF l = true := decide_eq_true ⟨h1, h2, h3⟩
        rw [e]
        have t3 : (l.name.toList == [116, 101, 109, 112, 108, 97, 116, 101]) = true := by rw [h3, tmpl_list]; rfl
        clear h1 h2 h3
        go_enter Try.func56, Try.ntmps56
        go_wp2
        go_ret
        exact ⟨rfl, rfl⟩
      · have e : tmplF l = false := decide_eq_false (fun hh => h3 hh.2.2)
        rw [e]
        have t3 : (l.name.toList == [116, 101, 109, 112, 108, 97, 116, 101]) = false := beq_false_of_ne (fun hh => h3 (eqs_iff.1 (by unfold eqs; rw [hh, tmpl_list]; rfl)))
        clear h1 h2 h3
        go_enter Try.func56, Try.ntmps56
        go_wp2
        go_ret
        exact ⟨rfl, rfl⟩
    · have e : tmplF l = false := decide_eq_false (fun hh => h2 hh.2.1)
      rw [e]
      have t1 : (l.kind == 3) = true := by rw [h1]; rfl
      have t2 : (l.ns == 1) = false := beq_false_of_ne h2
      clear h1 h2
      go_enter Try.func56, Try.ntmps56
      go_wp2
      go_ret
      exact ⟨rfl, rfl⟩
  · have e : tmplF l = false := decide_eq_false (fun hh => h1 hh.1)
    rw [e]
    have t1 : (l.kind == 3) = false := beq_false_of_ne h1
    clear h1
    go_enter Try.func56, Try.ntmps56
    go_wp2
    go_ret
    exact ⟨rfl, rfl⟩

theorem may_any (h : Rw tag w b g o c q n N pl) (hn : n < 100000) (x : Nat) (hx : x < n) :
    Calls Try.prog 42 #[.pointer (some ⟨b, 0, none⟩), .int .i64 x] w fun e w' => e = .returned (.bool (Ar.hld (N x).lb)) ∧ w' = w := by
  obtain ⟨c0, _⟩ := h.head
  obtain ⟨f1, _⟩ := h.fields hx
  have hx0 : (0 : Int) ≤ (x : Int) := by omega
  have hx1 : (x : Int) < (n : Int) := by omega
  clear h
  generalize (N x).lb = l at f1 ⊢
  unfold Ar.hld
  generalize l.kind = k at f1 ⊢
  by_cases h1 : k = 1
  · subst h1
    go_enter Try.func42, Try.ntmps42
    go_wp2
    go_ret
    exact ⟨rfl, rfl⟩
  · by_cases h3 : k = 3
    · subst h3
      go_enter Try.func42, Try.ntmps42
      go_wp2
      go_ret
      exact ⟨rfl, rfl⟩
    · by_cases h6 : k = 6
      · subst h6
        go_enter Try.func42, Try.ntmps42
        go_wp2
        go_ret
        exact ⟨rfl, rfl⟩
      · rw [decide_eq_false h1, decide_eq_false h3, decide_eq_false h6]
        have t1 : (k == 1) = false := beq_false_of_ne h1
        have t3 : (k == 3) = false := beq_false_of_ne h3
        have t6 : (k == 6) = false := beq_false_of_ne h6
        clear h1 h3 h6
        go_enter Try.func42, Try.ntmps42
        go_wp2
        go_ret
        exact ⟨rfl, rfl⟩

theorem fixed_any (h : Rw tag w b g o c q n N pl) (hn : n < 100000) (x : Nat) (hx : x < n) :
    Calls Try.prog 43 #[.pointer (some ⟨b, 0, none⟩), .int .i64 x] w fun e w' => e = .returned (.bool (Ar.fix (N x).lb)) ∧ w' = w := by
  obtain ⟨c0, _⟩ := h.head
  obtain ⟨f1, _⟩ := h.fields hx
  have hx0 : (0 : Int) ≤ (x : Int) := by omega
  have hx1 : (x : Int) < (n : Int) := by omega
  clear h
  generalize (N x).lb = l at f1 ⊢
  unfold Ar.fix
  generalize l.kind = k at f1 ⊢
  by_cases h1 : k = 1
  · subst h1
    go_enter Try.func43, Try.ntmps43
    go_wp2
    go_ret
    exact ⟨rfl, rfl⟩
  · by_cases h6 : k = 6
    · subst h6
      go_enter Try.func43, Try.ntmps43
      go_wp2
      go_ret
      exact ⟨rfl, rfl⟩
    · rw [decide_eq_false h1, decide_eq_false h6]
      have t1 : (k == 1) = false := beq_false_of_ne h1
      have t6 : (k == 6) = false := beq_false_of_ne h6
      clear h1 h6
      go_enter Try.func43, Try.ntmps43
      go_wp2
      go_ret
      exact ⟨rfl, rfl⟩

theorem follow_any (h : Rw tag w b g o c q n N pl) (hn : n < 100000) (x : Nat) (hx : x < n) :
    Calls Try.prog 46 #[.pointer (some ⟨b, 0, none⟩), .int .i64 x] w fun e w' => e = .returned (.bool (!Ar.fix (N x).lb && decide ((N x).up ≠ -1))) ∧ w' = w := by
  have HF := fixed_any h hn x hx
  obtain ⟨c0, _⟩ := h.head
  obtain ⟨f1, _⟩ := h.links hx
  have hx0 : (0 : Int) ≤ (x : Int) := by omega
  have hx1 : (x : Int) < (n : Int) := by omega
  clear h
  generalize Ar.fix (N x).lb = k at HF ⊢
  generalize (N x).up = u at f1 ⊢
  cases k with
  | true =>
    go_enter Try.func46, Try.ntmps46
    go_wp2_with (go_at_call 43; refine HF.mono ?_; rintro e w2 ⟨rfl, hw⟩; have hw2 := hw.symm; clear hw; subst hw2)
    go_ret
    exact ⟨rfl, rfl⟩
  | false =>
    by_cases hu : u = -1
    · subst hu
      go_enter Try.func46, Try.ntmps46
      go_wp2_with (go_at_call 43; refine HF.mono ?_; rintro e w2 ⟨rfl, hw⟩; have hw2 := hw.symm; clear hw; subst hw2)
      go_ret
      exact ⟨rfl, rfl⟩
    · rw [decide_eq_true hu]
      have t1 : (u != -1) = true := bne_iff_ne.2 hu
      clear hu
      go_enter Try.func46, Try.ntmps46
      go_wp2_with (go_at_call 43; refine HF.mono ?_; rintro e w2 ⟨rfl, hw⟩; have hw2 := hw.symm; clear hw; subst hw2)
      go_ret
      exact ⟨rfl, rfl⟩

end

end Go.Proofs.Ytpkppobkagdhkaa
