/-
  TreeTells.
-/
import Derived.Test.YtgnbafgglkncmaaGrow
import Derived.Test.YtgnbafgglkncmaaSameZ
namespace Go.Proofs.Ytgnbafgglkncmaa
open Go.RowKit
set_option linter.unusedVariables false

theorem short_small (l : List Att) : (short l).length ≤ 6 ∧ ∀ a, a ∈ short l → a.1.size ≤ 100 ∧ a.2.size ≤ 100 := by
  refine ⟨short_len l, fun a ha => ?_⟩
  simp only [short, List.mem_map] at ha
  obtain ⟨b, _, rfl⟩ := ha
  have h1 := cutB_le b.1 20
  have h2 := cutB_le b.2 30
  exact ⟨by show (cutB b.1 20).size ≤ 100; omega, by show (cutB b.2 30).size ≤ 100; omega⟩

theorem cutN_small (n : Nn) : small (cutN n) := by
  have h1 := cutB_le n.name 9
  have h2 := cutB_le n.text 9
  exact ⟨by show (cutB n.name 9).size ≤ 100; omega, by show (cutB n.text 9).size ≤ 100; omega, (short_small n.attrs).1, (short_small n.attrs).2⟩

theorem bare_small {k s : Int} {x y : ByteArray} (h1 : x.size ≤ 100) (h2 : y.size ≤ 100) : small (k, s, x, [], y) := ⟨h1, h2, Nat.zero_le _, fun a ha => absurd ha (by simp [Lb.attrs])⟩

theorem made_small (k s : Int) {x y : ByteArray} (h1 : x.size ≤ 9) (h2 : y.size ≤ 9) : small (madeF k s x y).1 ∧ (madeF k s x y).2.Each small := by
  have hn : NON.size ≤ 100 := by decide
  have ht : TMPL.size ≤ 100 := by decide
  unfold madeF
  split
  · exact ⟨bare_small hn (by omega), trivial⟩
  split
  · exact ⟨bare_small hn (by omega), trivial⟩
  split
  · exact ⟨bare_small ht hn, ⟨bare_small hn hn, trivial, trivial⟩⟩
  · exact ⟨bare_small (by rw [ByteArray.size_append]; have : (⟨#[120]⟩ : ByteArray).size = 1 := rfl; omega) hn, trivial⟩

theorem nodeN_small (right : Bool) (n : Nn) : small (nodeN right n).2.1 ∧ (nodeN right n).2.2.Each small := by
  unfold nodeN
  split
  · exact made_small _ _ (cutB_le _ _) (cutB_le _ _)
  · exact ⟨cutN_small n, trivial⟩

theorem grow_tiny (right : Bool) (L : List Nn) : Tiny lD (growT right L) := by
  have hn : (⟨#[]⟩ : ByteArray).size ≤ 100 := by decide
  refine ⟨bare_small hn hn, grow_each _ (fun n hn => ?_), ?_⟩
  · simp only [rowN, List.mem_map] at hn
    obtain ⟨m, _, rfl⟩ := hn
    exact nodeN_small right m
  · have h1 := grow_cnt (rowN right L) (by have := (rowN_cnt right L 30).2; rwa [List.take_of_length_le (by rw [rowN_len]; omega)] at this)
    have h2 := rowN_len right L
    unfold growT
    omega

/-- grow, its answer laid out. -/
theorem grow_c (w : World) (L : List Nn) (lo : Option Addr) (ln lc : Nat) (right : Bool) (h : Ns w lo ln lc L) :
    Calls Try.prog 11 #[.slice lo ln lc, .bool right] w fun e w' => ∃ p : Pl, e = .returned (.agg #[.int .i64 1, .int .i64 0, .string ⟨#[]⟩, .slice p.1.1 p.1.2.1 p.1.2.2, .string ⟨#[]⟩, .slice p.2.1 p.2.2.1 p.2.2.2]) ∧ Nd Any w' lD (growT right L) p ∧ Kp [] w w' := grow_any w L lo ln lc right h

theorem both_c (w : World) (k : Fo) (p : Pl) (g : Fo) (q : Pl) (h : Nd Any w lD k p) (h' : Nd Any w lD g q) (t : Tiny lD k) (t' : Tiny lD g) :
    Calls Try.prog 9 #[.agg #[.int .i64 1, .int .i64 0, .string ⟨#[]⟩, .slice p.1.1 p.1.2.1 p.1.2.2, .string ⟨#[]⟩, .slice p.2.1 p.2.2.1 p.2.2.2], .agg #[.int .i64 1, .int .i64 0, .string ⟨#[]⟩, .slice q.1.1 q.1.2.1 q.1.2.2, .string ⟨#[]⟩, .slice q.2.1 q.2.2.1 q.2.2.2]] w fun e w' => e = .returned (.bool true) ∧ Kp [] w w' := both_any w lD k p lD g q h h' t t'

abbrev doc6 (p : Pl) : Array Value := #[.int .i64 1, .int .i64 0, .string ⟨#[]⟩, .slice p.1.1 p.1.2.1 p.1.2.2, .string ⟨#[]⟩, .slice p.2.1 p.2.2.1 p.2.2.2]

theorem two6 (W : World) (p q : Pl) : ∃ V, (W.alloc (.cells (doc6 p) 25)).alloc (.cells (doc6 q) 25) = V ∧ At V W.heap.size (doc6 p) 25 ∧ At V (W.heap.size + 1) (doc6 q) 25 ∧ Kp [] W V :=
  ⟨_, rfl, (At.new _ _ _).kept ((Kp.refl [] _).alloc _) (by simp), At.new' _ _ _ _ (by simp), ((Kp.refl _ _).alloc _).alloc _⟩

set_option maxRecDepth 100000 in
set_option maxHeartbeats 2000000 in
theorem tells_any (w : World) (L M : List Nn) (lo mo : Option Addr) (ln lc mn mc : Nat) (h : Ns w lo ln lc L) (h' : Ns w mo mn mc M) :
    Calls Try.prog 4 #[.slice lo ln lc, .slice mo mn mc] w fun e w' => e = .returned (.bool true) ∧ Kp [] w w' := by
  have HL : Hid (∀ W right, Kp [] w W → Calls Try.prog 11 #[.slice lo ln lc, .bool right] W fun e w' => ∃ p : Pl, e = .returned (.agg #[.int .i64 1, .int .i64 0, .string ⟨#[]⟩, .slice p.1.1 p.1.2.1 p.1.2.2, .string ⟨#[]⟩, .slice p.2.1 p.2.2.1 p.2.2.2]) ∧ Nd Any w' lD (growT right L) p ∧ Kp [] W w') := fun W right kW => grow_c W L lo ln lc right (h.kept kW)
  have HM : Hid (∀ W right, Kp [] w W → Calls Try.prog 11 #[.slice mo mn mc, .bool right] W fun e w' => ∃ p : Pl, e = .returned (.agg #[.int .i64 1, .int .i64 0, .string ⟨#[]⟩, .slice p.1.1 p.1.2.1 p.1.2.2, .string ⟨#[]⟩, .slice p.2.1 p.2.2.1 p.2.2.2]) ∧ Nd Any w' lD (growT right M) p ∧ Kp [] W w') := fun W right kW => grow_c W M mo mn mc right (h'.kept kW)
  have t1 := grow_tiny false L
  have t2 := grow_tiny false M
  have t3 := grow_tiny true L
  have t4 := grow_tiny true M
  have K0 : Hid (Kp [] w w) := Kp.refl _ _
  clear h h'
  go_enter Try.func4, Try.ntmps4
  go_upto_region 2 with (first
    | (have D := G1.out; go_at_call 11; refine (HM.out _ false G1.out).mono ?_; rintro e w2 ⟨p2, rfl, N2, k2⟩; have G2 : Hid (Kp [] w w2) := G1.out.trans k2 (fun z hz => by simp at hz))
    | (go_at_call 11; refine (HL.out _ false K0.out).mono ?_; rintro e w1 ⟨p1, rfl, N1, k1⟩; have G1 : Hid (Kp [] w w1) := k1))
  obtain ⟨V, hV, T5, T6, kV⟩ := two6 w2 p1 p2
  rw [hV]
  have N1 := (N1.kept k2).kept kV
  have N2 := N2.kept kV
  have GV : Hid (Kp [] w V) := G2.out.trans kV (fun z hz => by simp at hz)
  obtain ⟨g5, hg5⟩ : ∃ g, w2.heap.size = g := ⟨_, rfl⟩
  rw [hg5] at T5 T6 ⊢
  clear hV kV k1 k2 G1 G2 K0 hg5
  go_upto_region 3 with (first
    | (have D := G3.out; go_at_call 11; refine (HM.out _ true G3.out).mono ?_; rintro e w4 ⟨p4, rfl, N4, k4⟩; have G4 : Hid (Kp [] w w4) := G3.out.trans k4 (fun z hz => by simp at hz))
    | (go_at_call 11; refine (HL.out _ true GV.out).mono ?_; rintro e w3 ⟨p3, rfl, N3, k3⟩; have G3 : Hid (Kp [] w w3) := GV.out.trans k3 (fun z hz => by simp at hz)))
  obtain ⟨U, hU, T7, T8, kU⟩ := two6 w4 p3 p4
  rw [hU]
  have k4U : Kp [] V U := (k3.trans k4 (fun z hz => by simp at hz)).trans kU (fun z hz => by simp at hz)
  have N1 := N1.kept k4U
  have N2 := N2.kept k4U
  have N3 := (N3.kept k4).kept kU
  have N4 := N4.kept kU
  have T5 := T5.kept k4U (by simp)
  have T6 := T6.kept k4U (by simp)
  have GU : Hid (Kp [] w U) := G4.out.trans kU (fun z hz => by simp at hz)
  obtain ⟨g7, hg7⟩ : ∃ g, w4.heap.size = g := ⟨_, rfl⟩
  rw [hg7] at T7 T8 ⊢
  have H1 := both_c U _ p1 _ p2 N1 N2 t1 t2
  have H2 : Hid (∀ W, Kp [] U W → Calls Try.prog 9 _ W fun e w' => e = .returned (.bool true) ∧ Kp [] W w') := fun W kW => both_c W _ p3 _ p4 (N3.kept kW) (N4.kept kW) t3 t4
  have H3 : Hid (∀ W, Kp [] U W → Calls Try.prog 9 _ W fun e w' => e = .returned (.bool true) ∧ Kp [] W w') := fun W kW => both_c W _ p4 _ p3 (N4.kept kW) (N3.kept kW) t4 t3
  have T7k : Hid (∀ W, Kp [] U W → At W g7 (doc6 p3) 25) := fun W kW => T7.kept kW (by simp)
  have T8k : Hid (∀ W, Kp [] U W → At W (g7 + 1) (doc6 p4) 25) := fun W kW => T8.kept kW (by simp)
  clear hU kU k3 k4 G3 G4 GV hg7 N1 N2 N3 N4 T7 T8 k4U HL HM t1 t2 t3 t4
  obtain ⟨c50, c51, c52, c53, c54, c55⟩ := T5.six
  obtain ⟨c60, c61, c62, c63, c64, c65⟩ := T6.six
  clear T5 T6
  go_wp2_with (first
    | (have D := S3.out; go_at_call 10; refine (known_any _).mono ?_; rintro e u4 ⟨rfl, j4⟩)
    | (have D := S2.out; go_at_call 9; refine (H3.out _ S2.out).mono ?_; rintro e u3 ⟨rfl, j3⟩; have S3 : Hid (Kp [] U u3) := S2.out.trans j3 (fun z hz => by simp at hz))
    | (have D := S1.out; go_at_call 9; refine (H2.out _ S1.out).mono ?_; rintro e u2 ⟨rfl, j2⟩; have S2 : Hid (Kp [] U u2) := S1.out.trans j2 (fun z hz => by simp at hz); clear c70 c71 c72 c73 c74 c75 c80 c81 c82 c83 c84 c85; obtain ⟨d70, d71, d72, d73, d74, d75⟩ := (T7k.out _ S2.out).six; obtain ⟨d80, d81, d82, d83, d84, d85⟩ := (T8k.out _ S2.out).six)
    | (go_at_call 9; refine H1.mono ?_; rintro e u1 ⟨rfl, j1⟩; have S1 : Hid (Kp [] U u1) := j1; clear c50 c51 c52 c53 c54 c55 c60 c61 c62 c63 c64 c65; obtain ⟨c70, c71, c72, c73, c74, c75⟩ := (T7k.out _ S1.out).six; obtain ⟨c80, c81, c82, c83, c84, c85⟩ := (T8k.out _ S1.out).six))
  go_ret
  exact ⟨rfl, (GU.out.trans S3.out (fun z hz => by simp at hz)).trans j4 (fun z hz => by simp at hz)⟩

end Go.Proofs.Ytgnbafgglkncmaa
