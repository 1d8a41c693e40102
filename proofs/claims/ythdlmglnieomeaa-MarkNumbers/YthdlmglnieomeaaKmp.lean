/-
  Beginnings of a pattern that stand at an end: what Find keeps as it goes. No program.
-/
import Derived.Test.YthdlmglnieomeaaStand
namespace Go.Proofs.Ythdlmglnieomeaa

/-- The first j of P are the last j of P's first q. -/
def Suf (P : Nat → Int) (q j : Nat) : Prop := j ≤ q ∧ ∀ i, i < j → P i = P (q - j + i)

theorem Suf.refl (P : Nat → Int) (q : Nat) : Suf P q q := ⟨Nat.le_refl _, fun i _ => by rw [Nat.sub_self, Nat.zero_add]⟩
theorem Suf.zero (P : Nat → Int) (q : Nat) : Suf P q 0 := ⟨Nat.zero_le _, fun i h => by omega⟩
theorem Suf.trans {P : Nat → Int} {a b c : Nat} (h : Suf P a b) (k : Suf P b c) : Suf P a c := by
  obtain ⟨h1, h2⟩ := h
  obtain ⟨k1, k2⟩ := k
  refine ⟨by omega, fun i hi => ?_⟩
  rw [k2 i hi, h2 (b - c + i) (by omega)]
  congr 1
  omega
theorem Suf.down {P : Nat → Int} {a b c : Nat} (h : Suf P a b) (k : Suf P a c) (hc : c ≤ b) : Suf P b c := by
  obtain ⟨h1, h2⟩ := h
  obtain ⟨k1, k2⟩ := k
  refine ⟨hc, fun i hi => ?_⟩
  rw [k2 i hi, h2 (b - c + i) (by omega)]
  congr 1
  omega

/-- f is the longest shorter beginning that the first k end in. -/
structure Fl (P : Nat → Int) (k f : Nat) : Prop where
  lt : f < k
  suf : Suf P k f
  most : ∀ j, j < k → Suf P k j → j ≤ f

/-- r of P stand at the end, where q did and x is the next; no more do. -/
structure Nx (P : Nat → Int) (q : Nat) (x : Int) (r : Nat) : Prop where
  is : r = 0 ∨ ∃ r', r = r' + 1 ∧ Suf P q r' ∧ P r' = x
  most : ∀ j, Suf P q j → P j = x → j + 1 ≤ r

/-- What longer holds in each round. -/
structure Mid (P : Nat → Int) (q : Nat) (x : Int) (h : Nat) : Prop where
  suf : Suf P q h
  most : ∀ j, Suf P q j → P j = x → j ≤ h

theorem Mid.start (P : Nat → Int) (q : Nat) (x : Int) : Mid P q x q := ⟨Suf.refl P q, fun _ h _ => h.1⟩

theorem Mid.step {P : Nat → Int} {q : Nat} {x : Int} {h f : Nat} (m : Mid P q x h) (hx : ¬ P h = x) (hf : Fl P h f) : Mid P q x f := by
  refine ⟨m.suf.trans hf.suf, fun j hj hp => ?_⟩
  have h1 := m.most j hj hp
  have h2 : j ≠ h := fun e => hx (e ▸ hp)
  exact hf.most j (by omega) (m.suf.down hj h1)

theorem Mid.yes {P : Nat → Int} {q : Nat} {x : Int} {h : Nat} (m : Mid P q x h) (hx : P h = x) : Nx P q x (h + 1) :=
  ⟨Or.inr ⟨h, rfl, m.suf, hx⟩, fun j hj hp => by have := m.most j hj hp; omega⟩

theorem Mid.no {P : Nat → Int} {q : Nat} {x : Int} (m : Mid P q x 0) (hx : ¬ P 0 = x) : Nx P q x 0 :=
  ⟨Or.inl rfl, fun j hj hp => by
    have h := m.most j hj hp
    obtain rfl : j = 0 := by omega
    exact absurd hp hx⟩

theorem Nx.le {P : Nat → Int} {q : Nat} {x : Int} {r : Nat} (h : Nx P q x r) : r ≤ q + 1 := by
  rcases h.is with rfl | ⟨r', rfl, h1, _⟩
  · omega
  · have := h1.1
    omega

theorem Fl.one (P : Nat → Int) : Fl P 1 0 := ⟨by omega, Suf.zero P 1, fun j h _ => by omega⟩

theorem Fl.next {P : Nat → Int} {i q r : Nat} (h : Fl P i q) (n : Nx P q (P i) r) : Fl P (i + 1) r := by
  have hl := h.lt
  have hr := n.le
  refine ⟨by omega, ?_, fun j hj hs => ?_⟩
  · rcases n.is with rfl | ⟨r', rfl, h1, h2⟩
    · exact Suf.zero _ _
    · obtain ⟨g1, g2⟩ := h.suf.trans h1
      refine ⟨by omega, fun t ht => ?_⟩
      by_cases he : t = r'
      · rw [he, h2]
        congr 1
        omega
      · rw [g2 t (by omega)]
        congr 1
        omega
  · cases j with
    | zero => omega
    | succ j' =>
      obtain ⟨g1, g2⟩ := hs
      have hs' : Suf P i j' := ⟨by omega, fun t ht => by rw [g2 t (by omega)]; congr 1; omega⟩
      have hp : P j' = P i := by rw [g2 j' (by omega)]; congr 1; omega
      have hq : j' ≤ q := h.most j' (by omega) hs'
      exact n.most j' (h.suf.down hs' hq) hp

/-- The first q of sub stand in s just ahead of a, and not ahead of p; no more of it do. -/
structure Sx (s sub : ByteArray) (p a q : Nat) : Prop where
  fit : p + q ≤ a
  is : ∀ i, i < q → bt sub i = bt s (a - q + i)

/-- What Find holds in each round. -/
structure Fi (s sub : ByteArray) (p a q : Nat) : Prop where
  sx : Sx s sub p a q
  lt : q < sub.size
  most : ∀ j, j ≤ sub.size → Sx s sub p a j → j ≤ q
  no : ∀ i, p ≤ i → i + sub.size ≤ a → st s i sub = false

theorem Fi.start {s sub : ByteArray} {p : Nat} (h : 0 < sub.size) : Fi s sub p p 0 :=
  ⟨⟨by omega, fun i hi => by omega⟩, h, fun j _ hj => by have := hj.fit; omega, fun i h1 h2 => by omega⟩

theorem Sx.suf {s sub : ByteArray} {p a q j : Nat} (h : Sx s sub p a q) (k : Sx s sub p a j) (hj : j ≤ q) : Suf (bt sub) q j := by
  refine ⟨hj, fun i hi => ?_⟩
  have hf := h.fit
  rw [k.is i hi, h.is (q - j + i) (by omega)]
  congr 1
  omega

theorem Sx.of_suf {s sub : ByteArray} {p a q j : Nat} (h : Sx s sub p a q) (k : Suf (bt sub) q j) : Sx s sub p a j := by
  obtain ⟨k1, k2⟩ := k
  have hf := h.fit
  refine ⟨by omega, fun i hi => ?_⟩
  rw [k2 i hi, h.is (q - j + i) (by omega)]
  congr 1
  omega

theorem Sx.more {s sub : ByteArray} {p a j : Nat} (h : Sx s sub p a j) (hx : bt sub j = bt s a) : Sx s sub p (a + 1) (j + 1) := by
  have hf := h.fit
  refine ⟨by omega, fun i hi => ?_⟩
  by_cases he : i = j
  · rw [he, hx]
    congr 1
    omega
  · rw [h.is i (by omega)]
    congr 1
    omega

theorem Sx.less {s sub : ByteArray} {p a j : Nat} (h : Sx s sub p (a + 1) (j + 1)) : Sx s sub p a j ∧ bt sub j = bt s a := by
  have hf := h.fit
  refine ⟨⟨by omega, fun i hi => ?_⟩, ?_⟩
  · rw [h.is i (by omega)]
    congr 1
    omega
  · rw [h.is j (by omega)]
    congr 1
    omega

theorem Fi.sx_next {s sub : ByteArray} {p a q r : Nat} (h : Fi s sub p a q) (hp : p ≤ a) (n : Nx (bt sub) q (bt s a) r) : Sx s sub p (a + 1) r := by
  rcases n.is with rfl | ⟨r', rfl, h1, h2⟩
  · exact ⟨by omega, fun i hi => by omega⟩
  · exact (h.sx.of_suf h1).more h2

theorem Fi.most_next {s sub : ByteArray} {p a q r : Nat} (h : Fi s sub p a q) (n : Nx (bt sub) q (bt s a) r) (j : Nat) (hj : j ≤ sub.size) (hs : Sx s sub p (a + 1) j) : j ≤ r := by
  cases j with
  | zero => omega
  | succ j' =>
    obtain ⟨h1, h2⟩ := hs.less
    have hq := h.most j' (by omega) h1
    exact n.most j' (h.sx.suf h1 hq) h2

theorem st_sx {s sub : ByteArray} {p i : Nat} (hp : p ≤ i) (h : st s i sub = true) : Sx s sub p (i + sub.size) sub.size := by
  obtain ⟨h1, h2⟩ := of_decide_eq_true h
  refine ⟨by omega, fun j hj => ?_⟩
  rw [← h2 j hj]
  congr 1
  omega

theorem Fi.next {s sub : ByteArray} {p a q r : Nat} (h : Fi s sub p a q) (hp : p ≤ a) (n : Nx (bt sub) q (bt s a) r) (hr : ¬ r = sub.size) : Fi s sub p (a + 1) r := by
  have hl := n.le
  have hq := h.lt
  refine ⟨h.sx_next hp n, by omega, h.most_next n, fun i h1 h2 => ?_⟩
  by_cases he : i + sub.size = a + 1
  · cases hst : st s i sub with
    | false => rfl
    | true =>
      have := h.most_next n sub.size (Nat.le_refl _) (he ▸ st_sx h1 hst)
      omega
  · exact h.no i h1 (by omega)

theorem Fi.found {s sub : ByteArray} {p a q r : Nat} (h : Fi s sub p a q) (hp : p ≤ a) (ha : a < s.size) (n : Nx (bt sub) q (bt s a) r) (hr : r = sub.size) : findF s sub p = a + 1 - sub.size := by
  have hx := h.sx_next hp n
  subst hr
  have hf := hx.fit
  refine fs_eq ⟨by omega, by omega, fun j h1 h2 => h.no j h1 (by omega), fun _ => st_true (by omega) fun j hj => ?_⟩
  exact (hx.is j hj).symm

theorem Fi.none {s sub : ByteArray} {p q : Nat} (h : Fi s sub p s.size q) (hp : p ≤ s.size) : findF s sub p = s.size := by
  refine fs_eq ⟨hp, Nat.le_refl _, fun j h1 h2 => ?_, fun h => by omega⟩
  by_cases hj : j + sub.size ≤ s.size
  · exact h.no j h1 hj
  · exact st_long hj

theorem find_long {s sub : ByteArray} {p : Nat} (hp : p ≤ s.size) (h : ¬ p + sub.size ≤ s.size) : findF s sub p = s.size :=
  fs_eq ⟨hp, Nat.le_refl _, fun j h1 h2 => st_long (by omega), fun h => by omega⟩

theorem find_empty {s sub : ByteArray} {p : Nat} (hp : p ≤ s.size) (h : sub.size = 0) : findF s sub p = p :=
  fs_eq ⟨Nat.le_refl _, hp, fun j h1 h2 => by omega, fun _ => st_true (by omega) fun j hj => by omega⟩

end Go.Proofs.Ythdlmglnieomeaa
