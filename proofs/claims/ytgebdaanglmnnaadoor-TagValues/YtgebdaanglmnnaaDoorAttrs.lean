/-
  The program's Attr, of any text.
-/
import Derived.Test.YtgebdaanglmnnaaDoorAttr
namespace Go.Proofs.YtgebdaanglmnnaaDoor
open Go.RowKit Utf
set_option linter.unusedVariables false

/-- Block g holds these cells. -/
def At (w : World) (g : Nat) (cur : Array Value) (e : TypeId) : Prop := w.heap[g]? = some (.cells cur e)

theorem At.lt {w : World} {g : Nat} {cur : Array Value} {e : TypeId} (h : At w g cur e) : g < w.heap.size := (Array.getElem?_eq_some_iff.1 h).1
theorem At.kept {w w' : World} {g : Nat} {cur : Array Value} {e : TypeId} {S : List Nat} (h : At w g cur e) (k : Kp S w w') (hg : g ∉ S) : At w' g cur e := by
  unfold At
  rw [k.block g h.lt hg]
  exact h
theorem At.set {w : World} {g : Nat} {cur : Array Value} {e : TypeId} (h : At w g cur e) (o : Nat) (u : Value) : At (w.setCell ⟨g, o, none⟩ u) g (cur.setIfInBounds o u) e := setCell_block h o u
theorem At.other {w : World} {g f : Nat} {cur : Array Value} {e : TypeId} (h : At w g cur e) (hf : f ≠ g) (o : Nat) (u : Value) : At (w.setCell ⟨f, o, none⟩ u) g cur e := by
  unfold At
  rw [Below.heap_setCell _ _ _ _ (by simpa using fun e => hf e.symm)]
  exact h
theorem At.new (w : World) (cur : Array Value) (e : TypeId) : At (w.alloc (.cells cur e)) w.heap.size cur e := heap_new w _
theorem At.cell {w : World} {g : Nat} {cur : Array Value} {e : TypeId} (h : At w g cur e) (j : Nat) : w.cell? ⟨g, j, none⟩ = cur[j]? := cell_of h j
theorem At.free {w : World} {g : Nat} {cur : Array Value} {e : TypeId} (h : At w g cur e) (j : Nat) : w.frozen? ⟨g, j, none⟩ = false := frozen_of h j

/-- The result's block and the attribute's own one. -/
structure Two (w W : World) (g0 g8 : Nat) (x y : ByteArray) : Prop where
  kp : Kp [] w W
  r : At W g0 #[.string ⟨#[]⟩, .string ⟨#[]⟩] 31
  a : At W g8 #[.string x, .string y] 31
  ne : g0 ≠ g8
  n0 : w.heap.size ≤ g0
  n8 : w.heap.size ≤ g8

theorem Two.kept {w W W' : World} {g0 g8 : Nat} {x y : ByteArray} (h : Two w W g0 g8 x y) (k : Kp [] W W') : Two w W' g0 g8 x y :=
  ⟨h.kp.trans k (fun z hz => by simp at hz), h.r.kept k (by simp), h.a.kept k (by simp), h.ne, h.n0, h.n8⟩
theorem Two.set {w W : World} {g0 g8 : Nat} {x y : ByteArray} (h : Two w W g0 g8 x y) (v : ByteArray) : Two w (W.setCell ⟨g8, 1, none⟩ (.string v)) g0 g8 x v :=
  ⟨h.kp.setCell (Or.inr h.n8) _, h.r.other (fun e => h.ne e.symm) _ _, h.a.set 1 _, h.ne, h.n0, h.n8⟩
theorem Two.new {w w2 : World} (k : Kp [] w w2) (r : At w2 w.heap.size #[.string ⟨#[]⟩, .string ⟨#[]⟩] 31) (x : ByteArray) : Two w (w2.alloc (.cells #[.string x, .string ⟨#[]⟩] 31)) w.heap.size w2.heap.size x ⟨#[]⟩ :=
  ⟨k.alloc _, r.kept ((Kp.refl [] _).alloc _) (by simp), At.new _ _ _, by have := r.lt; omega, Nat.le_refl _, k.size⟩
/-- What is read and written there. -/
theorem Two.facts {w W : World} {g0 g8 : Nat} {x y : ByteArray} (h : Two w W g0 g8 x y) : W.cell? ⟨g8, 0, none⟩ = some (.string x) ∧ W.cell? ⟨g8, 1, none⟩ = some (.string y) ∧ W.frozen? ⟨g8, 1, none⟩ = false ∧
    W.cell? ⟨g0, 0, none⟩ = some (.string ⟨#[]⟩) ∧ W.cell? ⟨g0, 1, none⟩ = some (.string ⟨#[]⟩) ∧ W.frozen? ⟨g0, 0, none⟩ = false ∧ W.frozen? ⟨g0, 1, none⟩ = false :=
  ⟨h.a.cell 0, h.a.cell 1, h.a.free 1, h.r.cell 0, h.r.cell 1, h.r.free 0, h.r.free 1⟩
/-- Once the result is laid. -/
theorem Two.laid {w W : World} {g0 g8 : Nat} {x y : ByteArray} (h : Two w W g0 g8 x y) (p q : ByteArray) : ((W.setCell ⟨g0, 0, none⟩ (.string p)).setCell ⟨g0, 1, none⟩ (.string q)).cell? ⟨g0, 0, none⟩ = some (.string p) ∧ ((W.setCell ⟨g0, 0, none⟩ (.string p)).setCell ⟨g0, 1, none⟩ (.string q)).cell? ⟨g0, 1, none⟩ = some (.string q) ∧ Kp [] w ((W.setCell ⟨g0, 0, none⟩ (.string p)).setCell ⟨g0, 1, none⟩ (.string q)) :=
  ⟨((h.r.set 0 _).set 1 _).cell 0, ((h.r.set 0 _).set 1 _).cell 1, (h.kp.setCell (Or.inr h.n0) _).setCell (Or.inr h.n0) _⟩

set_option maxHeartbeats 1000000 in
set_option maxRecDepth 100000 in
theorem attr_any (w : World) (hn : Nm w) (hi : In w) (s : ByteArray) (p : Nat) (hp : p < s.size) (hs : s.size ≤ 20000) : Calls Tryd.prog 14 #[.string s, .int .i64 (p : Int)] w fun e w' => e = .returned (.tuple #[av (aF s p).1, .int .i64 ((aF s p).2.1 : Int), .int .i64 (aF s p).2.2]) ∧ Kp [] w w' := by
  have k0 : Kp [] w (w.alloc (.cells #[.string ⟨#[]⟩, .string ⟨#[]⟩] 31)) := (Kp.refl _ _).alloc _
  have A0 := At.new w #[.string ⟨#[]⟩, .string ⟨#[]⟩] 31
  have HU := fun W => until_any W s ((p + 1 : Nat) : Int) NE (by omega) (by decide)
  rw [pl_of (by omega)] at HU
  push_cast at HU
  have hu := until_is s NE (p := p + 1) (by omega)
  obtain ⟨V, hV⟩ : ∃ V, aF s p = V := ⟨_, rfl⟩
  rw [hV]
  unfold aF at hV
  generalize untilF s NE (p + 1) = u at HU hu hV
  have l1 := hu.lo
  have l2 := hu.hi
  clear hu
  by_cases h1 : u = s.size
  · rw [if_pos h1] at hV
    subst h1
    subst hV
    clear hn hi
    go_enter Tryd.func14, Tryd.ntmps14
    go_wp2_with fail
    refine (HU _).mono ?_
    rintro e w1 ⟨rfl, k1⟩
    have A1 := A0.kept k1 (by simp)
    have k2 := k0.trans k1 (fun z hz => by simp at hz)
    have k3 := (k2.setCell (p := ⟨w.heap.size, 0, none⟩) (Or.inr (Nat.le_refl _)) (.string ⟨#[]⟩)).setCell (p := ⟨w.heap.size, 1, none⟩) (Or.inr (Nat.le_refl _)) (.string ⟨#[]⟩)
    have A2 := (A1.set 0 (.string ⟨#[]⟩)).set 1 (.string ⟨#[]⟩)
    have c0 := A1.cell 0
    have c1 := A1.cell 1
    have f0 := A1.free 0
    have f1 := A1.free 1
    simp at c0 c1
    clear HU k0 A0 k1 A1 k2
    go_wp2
    have d0 := A2.cell 0
    have d1 := A2.cell 1
    simp at d0 d1
    refine bodyPost_ret (v := .tuple #[.agg #[.string ⟨#[]⟩, .string ⟨#[]⟩], .int .i64 (s.size : Int), .int .i64 0]) (by simp [results, go_sem, d0, d1]) rfl ⟨rfl, k3⟩
  rw [if_neg h1] at hV
  have h2 : ((u : Int) == (s.size : Int)) = false := by simp only [beq_eq_false_iff_ne, ne_eq]; omega
  have HL := fun W => lower_any W (s.extract p u) (by have := cut_le s p u; omega)
  generalize lower (s.extract p u) = nm at HL hV
  have HK := fun W => skip_any W s (u : Int) (by omega)
  rw [pl_of l2] at HK
  have hk := skip_is s (p := u) l2
  generalize skipF s u = k at HK hk hV
  have l3 := hk.lo
  have l4 := hk.hi
  clear hk h1
  have HE := fun W => starts_any W s (k : Int) ⟨#[61]⟩ (by omega)
  rw [pl_of l4, show st s k ⟨#[61]⟩ = st s k EQ from rfl] at HE
  cases h3 : st s k EQ with
  | false =>
    rw [if_pos h3] at hV
    subst hV
    rw [h3] at HE
    clear hn hi h3
    go_enter Tryd.func14, Tryd.ntmps14
    go_wp2_with fail
    refine (HU _).mono ?_
    rintro e w1 ⟨rfl, k1⟩
    have A1 := A0.kept k1 (by simp)
    have k2 := k0.trans k1 (fun z hz => by simp at hz)
    clear HU k0 A0 k1
    go_wp2_with fail
    refine (HL _).mono ?_
    rintro e w2 ⟨rfl, k3⟩
    have T1 := Two.new (k2.trans k3 (fun z hz => by simp at hz)) (A1.kept k3 (by simp)) nm
    clear HL A1 k2 k3
    go_wp2_with fail
    refine (HK _).mono ?_
    rintro e w3 ⟨rfl, rfl⟩
    clear HK
    generalize w2.alloc (.cells #[.string nm, .string ⟨#[]⟩] 31) = W at T1
    generalize w2.heap.size = g8 at T1
    go_wp2_with fail
    refine (HE _).mono ?_
    rintro e w3 ⟨rfl, k3⟩
    have T2 := T1.kept k3
    clear HE k3 T1
    obtain ⟨c0, c1, c2, c3, c4, c5, c6⟩ := T2.facts
    obtain ⟨d0, d1, kz⟩ := T2.laid nm ⟨#[]⟩
    clear T2
    generalize w.heap.size = g0 at c3 c4 c5 c6 d0 d1 kz
    go_wp2
    refine bodyPost_ret (v := .tuple #[.agg #[.string nm, .string ⟨#[]⟩], .int .i64 (k : Int), .int .i64 1]) (by simp [results, go_sem, d0, d1]) rfl ⟨rfl, kz⟩
  | true =>
    rw [if_neg (by rw [h3]; simp)] at hV
    rw [h3] at HE
    obtain ⟨l5, _⟩ := eq_is.1 h3
    have HJ := fun W => skip_any W s ((k + 1 : Nat) : Int) (by omega)
    rw [pl_of (by omega)] at HJ
    push_cast at HJ
    have hj := skip_is s (p := k + 1) l5
    generalize skipF s (k + 1) = j at HJ hj hV
    have l6 := hj.lo
    have l7 := hj.hi
    have HV := fun W (kk : Kp [] w W) => value_any W (hn.kept kk) (hi.kept kk) s j l7 hs
    obtain ⟨_, _, g3, g4⟩ := vF_goes (s := s) (p := j) l7
    generalize vF s j = T at HV g3 g4 hV
    obtain ⟨tx, tn, th⟩ := T
    simp only at HV g3 g4 hV
    clear hj hn hi h3
    by_cases h5 : th = 0
    · rw [if_pos h5] at hV
      subst hV
      obtain rfl := g4 h5
      subst h5
      go_enter Tryd.func14, Tryd.ntmps14
      go_wp2_with fail
      refine (HU _).mono ?_
      rintro e w1 ⟨rfl, k1⟩
      have A1 := A0.kept k1 (by simp)
      have k2 := k0.trans k1 (fun z hz => by simp at hz)
      clear HU k0 A0 k1
      go_wp2_with fail
      refine (HL _).mono ?_
      rintro e w2 ⟨rfl, k3⟩
      have T1 := Two.new (k2.trans k3 (fun z hz => by simp at hz)) (A1.kept k3 (by simp)) nm
      clear HL A1 k2 k3
      go_wp2_with fail
      refine (HK _).mono ?_
      rintro e w3 ⟨rfl, rfl⟩
      clear HK
      generalize w2.alloc (.cells #[.string nm, .string ⟨#[]⟩] 31) = W at T1
      generalize w2.heap.size = g8 at T1
      go_wp2_with fail
      refine (HE _).mono ?_
      rintro e w3 ⟨rfl, k3⟩
      have T2 := T1.kept k3
      clear HE k3 T1
      go_wp2_with fail
      refine (HJ _).mono ?_
      rintro e w4 ⟨rfl, rfl⟩
      clear HJ
      go_wp2_with fail
      refine (HV _ T2.kp).mono ?_
      rintro e w5 ⟨rfl, k5⟩
      have T3 := T2.kept k5
      clear HV k5 T2
      obtain ⟨c0, c1, c2, c3, c4, c5, c6⟩ := T3.facts
      obtain ⟨d0, d1, kz⟩ := T3.laid ⟨#[]⟩ ⟨#[]⟩
      clear T3
      generalize w.heap.size = g0 at c3 c4 c5 c6 d0 d1 kz
      go_wp2
      refine bodyPost_ret (v := .tuple #[.agg #[.string ⟨#[]⟩, .string ⟨#[]⟩], .int .i64 (s.size : Int), .int .i64 0]) (by simp [results, go_sem, d0, d1]) rfl ⟨rfl, kz⟩
    · rw [if_neg h5] at hV
      subst hV
      have h6 : (th == 0) = false := by simpa using h5
      clear g3 g4 h5
      go_enter Tryd.func14, Tryd.ntmps14
      go_wp2_with fail
      refine (HU _).mono ?_
      rintro e w1 ⟨rfl, k1⟩
      have A1 := A0.kept k1 (by simp)
      have k2 := k0.trans k1 (fun z hz => by simp at hz)
      clear HU k0 A0 k1
      go_wp2_with fail
      refine (HL _).mono ?_
      rintro e w2 ⟨rfl, k3⟩
      have T1 := Two.new (k2.trans k3 (fun z hz => by simp at hz)) (A1.kept k3 (by simp)) nm
      clear HL A1 k2 k3
      go_wp2_with fail
      refine (HK _).mono ?_
      rintro e w3 ⟨rfl, rfl⟩
      clear HK
      generalize w2.alloc (.cells #[.string nm, .string ⟨#[]⟩] 31) = W at T1
      generalize w2.heap.size = g8 at T1
      go_wp2_with fail
      refine (HE _).mono ?_
      rintro e w3 ⟨rfl, k3⟩
      have T2 := T1.kept k3
      clear HE k3 T1
      go_wp2_with fail
      refine (HJ _).mono ?_
      rintro e w4 ⟨rfl, rfl⟩
      clear HJ
      go_wp2_with fail
      refine (HV _ T2.kp).mono ?_
      rintro e w5 ⟨rfl, k5⟩
      have T3 := T2.kept k5
      clear HV k5 T2
      have T4 := T3.set tx
      obtain ⟨_, b1, b2, _, _, _, _⟩ := T3.facts
      obtain ⟨c0, c1, c2, c3, c4, c5, c6⟩ := T4.facts
      obtain ⟨d0, d1, kz⟩ := T4.laid nm tx
      clear T3 T4
      generalize w.heap.size = g0 at c3 c4 c5 c6 d0 d1 kz
      go_wp2
      refine bodyPost_ret (v := .tuple #[.agg #[.string nm, .string tx], .int .i64 (tn : Int), .int .i64 th]) (by simp [results, go_sem, d0, d1]) rfl ⟨rfl, kz⟩

end Go.Proofs.YtgebdaanglmnnaaDoor
