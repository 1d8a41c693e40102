/-
  ArenaNumbers: chapter 15's runs, and each call on each of some nodes.
-/
import Derived.Test.YtgjkfpmhgidpaaaGreatOfR
import Derived.Test.YtgjkfpmhgidpaaaGreatPlay
import Derived.Test.YtgjkfpmhgidpaaaGreatAll
namespace Go.Proofs.YtgjkfpmhgidpaaaGreat
open Go.RowKit Go.Maps Utf
set_option linter.unusedVariables false
set_option linter.unusedSimpArgs false

theorem Rp.two {w : World} {g : Nat} {e : TypeId} {a : Att} (h : At w g #[.string a.1, .string a.2] e) : Rp w (some ⟨g, 0, none⟩) 1 1 [a] :=
  Rk.rp (Q := Any) ⟨rfl, Nat.le_refl _, fun _ => ⟨g, 0, _, e, trivial, rfl, h, fun j hj => by rw [Nat.zero_add]; simp [cs]⟩⟩

theorem Rk.four {Q : Nat → Prop} {w : World} {g : Nat} {e : TypeId} {a b : Att} (h : At w g #[.string a.1, .string a.2, .string b.1, .string b.2] e) (hq : Q g) : Rk Q 2 w (some ⟨g, 0, none⟩) 2 2 (cs [a, b]) :=
  ⟨rfl, Nat.le_refl _, fun _ => ⟨g, 0, _, e, hq, rfl, h, fun j hj => by rw [Nat.zero_add]; simp [cs]⟩⟩

/-- The calls of the first loop. -/
def nA : Nat → Aq
  | 0 => ⟨1, 0, 0, 3, 1, ⟨#[116, 101, 109, 112, 108, 97, 116, 101]⟩, ⟨#[]⟩, [], false⟩
  | 1 => ⟨1, 0, 0, 3, 1, ⟨#[112]⟩, ⟨#[110, 111, 116, 32, 107, 101, 112, 116]⟩, [(⟨#[97]⟩, ⟨#[]⟩), (⟨#[97]⟩, ⟨#[50]⟩)], false⟩
  | 2 => ⟨1, 0, 0, 4, 0, ⟨#[110, 111, 116, 32, 107, 101, 112, 116]⟩, ⟨#[116]⟩, [], false⟩
  | 3 => ⟨1, 0, 0, 5, 0, ⟨#[]⟩, ⟨#[99]⟩, [], false⟩
  | 4 => ⟨1, 0, 0, 2, 0, ⟨#[104, 116, 109, 108]⟩, ⟨#[]⟩, [], false⟩
  | 5 => ⟨1, 0, 0, 1, 0, ⟨#[]⟩, ⟨#[]⟩, [], false⟩
  | 6 => ⟨1, 0, 0, 6, 0, ⟨#[]⟩, ⟨#[]⟩, [], false⟩
  | 7 => ⟨1, 0, 0, 3, 3, ⟨#[120]⟩, ⟨#[]⟩, [], false⟩
  | 8 => ⟨1, 0, 0, 3, 2, ⟨#[]⟩, ⟨#[]⟩, [], false⟩
  | 9 => ⟨1, 0, 0, 3, 2, ⟨#[116, 101, 109, 112, 108, 97, 116, 101]⟩, ⟨#[]⟩, [], false⟩
  | _ => ⟨1, 0, 0, 9, 0, ⟨#[]⟩, ⟨#[]⟩, [], false⟩

/-- Where its attributes lie. -/
def nP (g : Nat) : Nat → Option Addr × Nat × Nat
  | 1 => (some ⟨g, 0, none⟩, 2, 2)
  | _ => (none, 0, 0)

/-- The cells of the calls. -/
def nC (g : Nat) : Array Value := #[.int .i64 1, .int .i64 0, .int .i64 0, .int .i64 3, .int .i64 1, .string ⟨#[116, 101, 109, 112, 108, 97, 116, 101]⟩, .string ⟨#[]⟩, .slice none 0 0, .bool false, .int .i64 1, .int .i64 0, .int .i64 0, .int .i64 3, .int .i64 1, .string ⟨#[112]⟩, .string ⟨#[110, 111, 116, 32, 107, 101, 112, 116]⟩, .slice (some ⟨g, 0, none⟩) 2 2, .bool false, .int .i64 1, .int .i64 0, .int .i64 0, .int .i64 4, .int .i64 0, .string ⟨#[110, 111, 116, 32, 107, 101, 112, 116]⟩, .string ⟨#[116]⟩, .slice none 0 0, .bool false, .int .i64 1, .int .i64 0, .int .i64 0, .int .i64 5, .int .i64 0, .string ⟨#[]⟩, .string ⟨#[99]⟩, .slice none 0 0, .bool false, .int .i64 1, .int .i64 0, .int .i64 0, .int .i64 2, .int .i64 0, .string ⟨#[104, 116, 109, 108]⟩, .string ⟨#[]⟩, .slice none 0 0, .bool false, .int .i64 1, .int .i64 0, .int .i64 0, .int .i64 1, .int .i64 0, .string ⟨#[]⟩, .string ⟨#[]⟩, .slice none 0 0, .bool false, .int .i64 1, .int .i64 0, .int .i64 0, .int .i64 6, .int .i64 0, .string ⟨#[]⟩, .string ⟨#[]⟩, .slice none 0 0, .bool false, .int .i64 1, .int .i64 0, .int .i64 0, .int .i64 3, .int .i64 3, .string ⟨#[120]⟩, .string ⟨#[]⟩, .slice none 0 0, .bool false, .int .i64 1, .int .i64 0, .int .i64 0, .int .i64 3, .int .i64 2, .string ⟨#[]⟩, .string ⟨#[]⟩, .slice none 0 0, .bool false, .int .i64 1, .int .i64 0, .int .i64 0, .int .i64 3, .int .i64 2, .string ⟨#[116, 101, 109, 112, 108, 97, 116, 101]⟩, .string ⟨#[]⟩, .slice none 0 0, .bool false, .int .i64 1, .int .i64 0, .int .i64 0, .int .i64 9, .int .i64 0, .string ⟨#[]⟩, .string ⟨#[]⟩, .slice none 0 0, .bool false]

theorem nC_at (g i : Nat) (hi : i < 11) : ∀ j, j < 9 → (nC g)[i * 9 + j]? = (aqc (nA i) (nP g i))[j]? := by
  intro j hj
  rcases (show i = 0 ∨ i = 1 ∨ i = 2 ∨ i = 3 ∨ i = 4 ∨ i = 5 ∨ i = 6 ∨ i = 7 ∨ i = 8 ∨ i = 9 ∨ i = 10 by omega) with rfl | rfl | rfl | rfl | rfl | rfl | rfl | rfl | rfl | rfl | rfl <;> rcases (show j = 0 ∨ j = 1 ∨ j = 2 ∨ j = 3 ∨ j = 4 ∨ j = 5 ∨ j = 6 ∨ j = 7 ∨ j = 8 by omega) with rfl | rfl | rfl | rfl | rfl | rfl | rfl | rfl | rfl <;> rfl

/-- A call of the second loop. -/
theorem do_two {tag : Nat → Nat} {V : World} {b d k : Nat} {q : Bool} {A : Ar} (B : Bo tag V b d q A k) (hk : k < 1300) (kd i j : Int) :
    Calls Tryz.prog 7 #[.pointer (some ⟨b, 0, none⟩), .pointer (some ⟨d, 0, none⟩), .agg #[.int .i64 kd, .int .i64 i, .int .i64 j, .int .i64 0, .int .i64 0, .string ⟨#[]⟩, .string ⟨#[117]⟩, .slice (some ⟨V.heap.size, 0, none⟩) 1 1, .bool false]] (V.alloc (.cells #[.string ⟨#[98]⟩, .string ⟨#[]⟩] 30)) fun e w' => e = .returned (.bool true) ∧ ∃ tag' q' A', Bo tag' w' b d q' A' (k + 1) ∧ Bv tag V tag' w' := by
  have kp : Kp [] V (V.alloc (.cells #[.string ⟨#[98]⟩, .string ⟨#[]⟩] 30)) := (Kp.refl _ _).alloc _
  refine (do_any (B.kept kp) hk ⟨kd, i, j, 0, 0, ⟨#[]⟩, ⟨#[117]⟩, [(⟨#[98]⟩, ⟨#[]⟩)], false⟩ (some ⟨V.heap.size, 0, none⟩, 1, 1) (Rp.two (a := (⟨#[98]⟩, ⟨#[]⟩)) (At.new V _ _)) (show (1 : Nat) ≤ 140737488355328 by omega)).mono ?_
  rintro e w' ⟨rfl, tag', q', A', h1, h2⟩
  exact ⟨rfl, tag', q', A', h1, (Bv.of_kp kp (fun _ _ => rfl)).trans h2⟩

/-- A call of the first loop. -/
theorem do_one {tag0 tag : Nat → Nat} {W V U : World} {b d k gA i : Nat} {q : Bool} {A : Ar} (B : Bo tag V b d q A k) (hk : k < 1300) (hi : i < 11) (kU : Kp [] V U) (aA : At W gA #[.string ⟨#[97]⟩, .string ⟨#[]⟩, .string ⟨#[97]⟩, .string ⟨#[50]⟩] 30) (qA : Nq (tag0 gA)) (v : Bv tag0 W tag V) :
    Calls Tryz.prog 7 #[.pointer (some ⟨b, 0, none⟩), .pointer (some ⟨d, 0, none⟩), .agg #[.int .i64 (nA i).kd, .int .i64 (nA i).za, .int .i64 (nA i).zb, .int .i64 (nA i).ty, .int .i64 (nA i).ns, .string (nA i).nm, .string (nA i).tx, .slice (nP gA i).1 (nP gA i).2.1 (nP gA i).2.2, .bool (nA i).fl]] U fun e w' => e = .returned (.bool true) ∧ ∃ tag' q' A', Bo tag' w' b d q' A' (k + 1) ∧ Bv tag V tag' w' := by
  have hr : Rp U (nP gA i).1 (nP gA i).2.1 (nP gA i).2.2 (nA i).l ∧ (nP gA i).2.1 ≤ 140737488355328 := by
    have h1 : Rp U (some ⟨gA, 0, none⟩) 2 2 [(⟨#[97]⟩, ⟨#[]⟩), (⟨#[97]⟩, ⟨#[50]⟩)] := (Rk.four (Q := Any) (a := (⟨#[97]⟩, ⟨#[]⟩)) (b := (⟨#[97]⟩, ⟨#[50]⟩)) ((aA.bv v qA).kept kU (by simp)) trivial).rp
    have h0 : Rp U none 0 0 [] := Rp.nil U
    rcases (show i = 0 ∨ i = 1 ∨ i = 2 ∨ i = 3 ∨ i = 4 ∨ i = 5 ∨ i = 6 ∨ i = 7 ∨ i = 8 ∨ i = 9 ∨ i = 10 by omega) with rfl | rfl | rfl | rfl | rfl | rfl | rfl | rfl | rfl | rfl | rfl
    · exact ⟨h0, show (0 : Nat) ≤ 140737488355328 by omega⟩
    · exact ⟨h1, show (2 : Nat) ≤ 140737488355328 by omega⟩
    all_goals exact ⟨h0, show (0 : Nat) ≤ 140737488355328 by omega⟩
  refine (do_any (B.kept kU) hk (nA i) (nP gA i) hr.1 hr.2).mono ?_
  rintro e w' ⟨rfl, tag', q', A', h1, h2⟩
  exact ⟨rfl, tag', q', A', h1, (Bv.of_kp kU (fun _ _ => rfl)).trans h2⟩

set_option maxRecDepth 100000 in
set_option maxHeartbeats 4000000 in
theorem numbers_any (w : World) :
    Calls Tryz.prog 3 #[] w fun e w' => e = .returned (.bool true) ∧ Kp [] w w' := by
  obtain ⟨HN, HR⟩ := new2 w
  have HN := HN.out
  go_enter Tryz.func3, Tryz.ntmps3
  go_upto_region 4 with (first | (go_at_call 5; refine HN.mono ?_; rintro e w1 ⟨b, tag1, rfl, p1, m1⟩) | (go_at_call 6; refine (HR.out _ _ _ p1 m1).mono ?_; rintro e w2 ⟨d, tag2, rfl, B2, v2⟩))
  have H0 : Hid (Bo tag2 w2 b d false Ar.first 0 ∧ Bv (fun _ => 0) w tag2 w2) := ⟨B2, v2⟩
  clear HN HR p1 m1 B2 v2
  obtain ⟨W3, hW3⟩ : ∃ W, W = w2.alloc (.cells #[.string ⟨#[97]⟩, .string ⟨#[]⟩, .string ⟨#[97]⟩, .string ⟨#[50]⟩] 30) := ⟨_, rfl⟩
  obtain ⟨W4, hW4⟩ : ∃ W, W = W3.alloc (.cells (nC w2.heap.size) 28) := ⟨_, rfl⟩
  have k3 : Kp [] w2 W3 := by rw [hW3]; exact (Kp.refl _ _).alloc _
  have k34 : Kp [] W3 W4 := by rw [hW4]; exact (Kp.refl _ _).alloc _
  have k4 : Kp [] w2 W4 := k3.trans k34 (fun x hx => Or.inl hx)
  have aA : At W4 w2.heap.size #[.string ⟨#[97]⟩, .string ⟨#[]⟩, .string ⟨#[97]⟩, .string ⟨#[50]⟩] 30 := by
    have : At W3 w2.heap.size #[.string ⟨#[97]⟩, .string ⟨#[]⟩, .string ⟨#[97]⟩, .string ⟨#[50]⟩] 30 := by rw [hW3]; exact At.new _ _ _
    exact this.kept k34 (by simp)
  have hs3 : W3.heap.size = w2.heap.size + 1 := by rw [hW3]; simp
  have aB : At W4 (w2.heap.size + 1) (nC w2.heap.size) 28 := by rw [hW4, ← hs3]; exact At.new _ _ _
  have HB4 : Hid (Bo (tg0 tag2 w2) W4 b d false Ar.first 0 ∧ Bv (fun _ => 0) w (tg0 tag2 w2) W4) := ⟨H0.out.1.re k4 (fun x hx => tg0_lt hx), H0.out.2.trans (Bv.of_kp k4 (fun x hx => tg0_lt hx))⟩
  have qA : Nq (tg0 tag2 w2 w2.heap.size) := tg0_nq (Nat.le_refl _)
  have qB : Nq (tg0 tag2 w2 (w2.heap.size + 1)) := tg0_nq (by omega)
  have HC : Hid (∀ tag V U i, Bv (tg0 tag2 w2) W4 tag V → Kp [] V U → i < 11 → U.cell? ⟨w2.heap.size + 1, i * 9, none⟩ = some (.int .i64 (nA i).kd) ∧ U.cell? ⟨w2.heap.size + 1, i * 9 + 1, none⟩ = some (.int .i64 (nA i).za) ∧ U.cell? ⟨w2.heap.size + 1, i * 9 + 2, none⟩ = some (.int .i64 (nA i).zb) ∧ U.cell? ⟨w2.heap.size + 1, i * 9 + 3, none⟩ = some (.int .i64 (nA i).ty) ∧ U.cell? ⟨w2.heap.size + 1, i * 9 + 4, none⟩ = some (.int .i64 (nA i).ns) ∧ U.cell? ⟨w2.heap.size + 1, i * 9 + 5, none⟩ = some (.string (nA i).nm) ∧ U.cell? ⟨w2.heap.size + 1, i * 9 + 6, none⟩ = some (.string (nA i).tx) ∧ U.cell? ⟨w2.heap.size + 1, i * 9 + 7, none⟩ = some (.slice (nP w2.heap.size i).1 (nP w2.heap.size i).2.1 (nP w2.heap.size i).2.2) ∧ U.cell? ⟨w2.heap.size + 1, i * 9 + 8, none⟩ = some (.bool (nA i).fl)) := fun tag V U i v kU hi => by
    have a := (aB.bv v qB).kept kU (by simp)
    have f : ∀ j, j < 9 → ∀ u, (aqc (nA i) (nP w2.heap.size i))[j]? = some u → U.cell? ⟨w2.heap.size + 1, i * 9 + j, none⟩ = some u := fun j hj u hu => by rw [a.cell, nC_at _ i hi j hj]; exact hu
    exact ⟨f 0 (by omega) _ rfl, f 1 (by omega) _ rfl, f 2 (by omega) _ rfl, f 3 (by omega) _ rfl, f 4 (by omega) _ rfl, f 5 (by omega) _ rfl, f 6 (by omega) _ rfl, f 7 (by omega) _ rfl, f 8 (by omega) _ rfl⟩
  have HD1 : Hid (∀ tag V U q A k i, Bv (tg0 tag2 w2) W4 tag V → Kp [] V U → i < 11 → Bo tag V b d q A k → k < 1300 → Calls Tryz.prog 7 #[.pointer (some ⟨b, 0, none⟩), .pointer (some ⟨d, 0, none⟩), .agg #[.int .i64 (nA i).kd, .int .i64 (nA i).za, .int .i64 (nA i).zb, .int .i64 (nA i).ty, .int .i64 (nA i).ns, .string (nA i).nm, .string (nA i).tx, .slice (nP w2.heap.size i).1 (nP w2.heap.size i).2.1 (nP w2.heap.size i).2.2, .bool (nA i).fl]] U fun e w' => e = .returned (.bool true) ∧ ∃ tag' q' A', Bo tag' w' b d q' A' (k + 1) ∧ Bv tag V tag' w') := fun tag V U q A k i v kU hi B hk => do_one B hk hi kU aA qA v
  have HW : Hid ((w2.alloc (.cells #[.string ⟨#[97]⟩, .string ⟨#[]⟩, .string ⟨#[97]⟩, .string ⟨#[50]⟩] 30)).alloc (.cells (nC w2.heap.size) 28) = W4) := (by rw [hW4, hW3] : _ = W4)
  clear hW3 hW4 k3 k34 k4 aA aB qA qB hs3 H0
  unfold nC at HW
  generalize tg0 tag2 w2 = tag4 at *
  go_upto_region 5 with fail
  rw [HW.out]
  clear HW
  generalize w2.heap.size = gA at *
  go_loopw [31] (fun v wr => ∃ (i : Nat) (tag : Nat → Nat) (q : Bool) (A : Ar), v = .int .i64 (i : Int) ∧ i ≤ 11 ∧ Bo tag wr b d q A i ∧ Bv (fun _ => 0) w tag wr ∧ Bv tag4 W4 tag wr) (fun v _ => 11 - (intOf v).toNat)
  case atStart => exact ⟨0, tag4, false, Ar.first, rfl, by omega, HB4.out.1, HB4.out.2, Bv.refl _ _⟩
  case round =>
    clear HB4
    obtain ⟨i, tag, q, A, rfl, h5, B, v, v4⟩ := hrel
    by_cases hi : i < 11
    · obtain ⟨f0, f1, f2, f3, f4, f5, f6, f7, f8⟩ := HC.out tag wr wr i v4 (Kp.refl _ _) hi
      have ku : Kp [] wr (wr.alloc (.cells #[.int .i64 (nA i).kd, .int .i64 (nA i).za, .int .i64 (nA i).zb, .int .i64 (nA i).ty, .int .i64 (nA i).ns, .string (nA i).nm, .string (nA i).tx, .slice (nP gA i).1 (nP gA i).2.1 (nP gA i).2.2, .bool (nA i).fl] 28)) := (Kp.refl _ _).alloc _
      have HDo := HD1.out tag wr _ q A i i v4 ku hi B (by omega)
      have HV : Hid (Bv (fun _ => 0) w tag wr ∧ Bv tag4 W4 tag wr) := ⟨v, v4⟩
      have j0 : (0 : Int) ≤ (i : Int) := by omega
      have j1 : (i : Int) < 11 := by omega
      clear HC HD1 B v v4 ku
      generalize nA i = x at *
      generalize nP gA i = p at *
      go_wp2_with (go_at_call 7; refine HDo.mono ?_; rintro e w3 ⟨rfl, tag3, q3, A3, B3, v3⟩)
      go_roundw
      case rel => exact ⟨i + 1, tag3, q3, A3, by go_num, by omega, B3, HV.out.1.trans v3, HV.out.2.trans v3⟩
      case measure => simp [intOf]; omega
    · obtain rfl : i = 11 := by omega
      have H1 : Hid (Bo tag wr b d q A 11 ∧ Bv (fun _ => 0) w tag wr) := ⟨B, v⟩
      clear HC HD1 B v v4 hi h5
      rw [show ((11 : Nat) : Int) = 11 from rfl]
      obtain ⟨W5, hW5⟩ : ∃ x, x = wr := ⟨_, rfl⟩
      subst hW5
      go_wp2_with fail
      go_loopw [5] (fun v wr => ∃ (r : Nat) (k : Nat) (tag : Nat → Nat) (q : Bool) (A : Ar), v = .int .i64 (r : Int) ∧ ((r = 0 ∧ k ≤ 11) ∨ (r = 1 ∧ k ≤ 711) ∨ (r = 2 ∧ k ≤ 1061)) ∧ Bo tag wr b d q A k ∧ Bv (fun _ => 0) w tag wr) (fun v _ => 2 - (intOf v).toNat)
      case atStart => exact ⟨0, 11, tag, q, A, rfl, by omega, H1.out.1, H1.out.2⟩
      case round =>
        clear H1
        obtain ⟨r, k, tag, q, A, rfl, hr, B, v⟩ := hrel
        by_cases hr2 : r < 2
        · have j1 : (r : Int) < 2 := by omega
          have H2 : Hid (Bo tag wr b d q A k ∧ Bv (fun _ => 0) w tag wr ∧ ((r = 0 ∧ k ≤ 11) ∨ (r = 1 ∧ k ≤ 711))) := ⟨B, v, by omega⟩
          clear B v hr
          obtain ⟨W6, hW6⟩ : ∃ x, x = wr := ⟨_, rfl⟩
          subst hW6
          go_wp2_with fail
          go_loopw [6] (fun v wr => ∃ (kd : Nat) (k : Nat) (tag : Nat → Nat) (q : Bool) (A : Ar), v = .int .i64 (kd : Int) ∧ (2 ≤ kd ∧ kd ≤ 9) ∧ ((r = 0 ∧ k + 200 ≤ 11 + 100 * kd) ∨ (r = 1 ∧ k + 100 ≤ 711 + 50 * kd)) ∧ Bo tag wr b d q A k ∧ Bv (fun _ => 0) w tag wr) (fun v _ => 9 - (intOf v).toNat)
          case atStart => exact ⟨2, k, tag, q, A, rfl, by omega, by have := H2.out.2.2; omega, H2.out.1, H2.out.2.1⟩
          case round =>
            clear H2
            obtain ⟨kd, k, tag, q, A, rfl, hkd, hr, B, v⟩ := hrel
            by_cases hk8 : kd ≤ 8
            · have j2 : (kd : Int) ≤ 8 := by omega
              have H3 : Hid (Bo tag wr b d q A k ∧ Bv (fun _ => 0) w tag wr ∧ ((r = 0 ∧ k + 200 ≤ 11 + 100 * kd) ∨ (r = 1 ∧ k + 100 ≤ 711 + 50 * kd)) ∧ 2 ≤ kd) := ⟨B, v, hr, by omega⟩
              clear B v hr hkd
              obtain ⟨W7, hW7⟩ : ∃ x, x = wr := ⟨_, rfl⟩
              subst hW7
              go_wp2_with fail
              go_loopw [7] (fun v wr => ∃ (m : Nat) (k : Nat) (tag : Nat → Nat) (q : Bool) (A : Ar), v = .int .i64 ((m : Int) - 1) ∧ m ≤ 10 ∧ ((r = 0 ∧ k + 200 ≤ 11 + 100 * kd + 10 * m) ∨ (r = 1 ∧ k + 100 ≤ 711 + 50 * kd + 5 * m)) ∧ Bo tag wr b d q A k ∧ Bv (fun _ => 0) w tag wr) (fun v _ => (9 - intOf v).toNat)
              case atStart => exact ⟨0, k, tag, q, A, rfl, by omega, by have := H3.out.2.2; omega, H3.out.1, H3.out.2.1⟩
              case round =>
                have hkd2 := H3.out.2.2.2
                clear H3
                obtain ⟨m, k, tag, q, A, rfl, hm, hr, B, v⟩ := hrel
                obtain ⟨z, hz⟩ : ∃ z : Int, (m : Int) - 1 = z := ⟨_, rfl⟩
                rw [hz]
                by_cases hm9 : m < 10
                · have j3 : z < 9 := by omega
                  have H4 : Hid (Bo tag wr b d q A k ∧ Bv (fun _ => 0) w tag wr ∧ ((r = 0 ∧ k + 200 ≤ 11 + 100 * kd + 10 * m) ∨ (r = 1 ∧ k + 100 ≤ 711 + 50 * kd + 5 * m)) ∧ (m : Int) - 1 = z) := ⟨B, v, hr, hz⟩
                  clear B v hr hz
                  obtain ⟨W8, hW8⟩ : ∃ x, x = wr := ⟨_, rfl⟩
                  subst hW8
                  go_wp2_with fail
                  go_loopw [8] (fun v wr => ∃ (j : Int) (c : Nat) (k : Nat) (tag : Nat → Nat) (q : Bool) (A : Ar), v = .int .i64 j ∧ (-1 ≤ j ∧ j ≤ 9) ∧ ((r = 0 ∧ j + 1 = (c : Int) ∧ k + 200 ≤ 11 + 100 * kd + 10 * m + c) ∨ (r = 1 ∧ j + 1 = 2 * (c : Int) ∧ k + 100 ≤ 711 + 50 * kd + 5 * m + c)) ∧ Bo tag wr b d q A k ∧ Bv (fun _ => 0) w tag wr) (fun v _ => (9 - intOf v).toNat)
                  case atStart => exact ⟨-1, 0, k, tag, q, A, rfl, by omega, by have := H4.out.2.2.1; omega, H4.out.1, H4.out.2.1⟩
                  case round =>
                    have hz := H4.out.2.2.2
                    clear H4
                    obtain ⟨j, c, k, tag, q, A, rfl, hj, hr, B, v⟩ := hrel
                    by_cases hj9 : j < 9
                    · have HDo := do_two B (by omega) (kd : Int) z j
                      have HV : Hid (Bv (fun _ => 0) w tag wr ∧ ((r = 0 ∧ j + 1 = (c : Int) ∧ k + 200 ≤ 11 + 100 * kd + 10 * m + c) ∨ (r = 1 ∧ j + 1 = 2 * (c : Int) ∧ k + 100 ≤ 711 + 50 * kd + 5 * m + c)) ∧ -1 ≤ j) := ⟨v, hr, hj.1⟩
                      have hw1 : IntKind.i64.wrap (j + 1) = j + 1 := by
                        simp [IntKind.wrap, IntKind.bits, IntKind.signed]
                        omega
                      have hw2 : IntKind.i64.wrap (j + 1 + (r : Int)) = j + 1 + (r : Int) := by
                        simp [IntKind.wrap, IntKind.bits, IntKind.signed]
                        omega
                      have hZ : Hid ((m : Int) - 1 = z) := hz
                      clear B v hr hj hz
                      go_wp2_with (go_at_call 7; refine HDo.mono ?_; rintro e w3 ⟨rfl, tag3, q3, A3, B3, v3⟩)
                      go_roundw
                      case rel => exact ⟨j + 1 + (r : Int), c + 1, k + 1, tag3, q3, A3, rfl, by have := HV.out.2; omega, by have := HV.out.2; omega, B3, HV.out.1.trans v3⟩
                      case measure => simp [intOf]; omega
                    · have j4 : ¬ j < 9 := hj9
                      have H5 : Hid (Bo tag wr b d q A k ∧ Bv (fun _ => 0) w tag wr ∧ ((r = 0 ∧ k + 200 ≤ 11 + 100 * kd + 10 * (m + 1)) ∨ (r = 1 ∧ k + 100 ≤ 711 + 50 * kd + 5 * (m + 1))) ∧ z + 1 = ((m + 1 : Nat) : Int) - 1) := ⟨B, v, by omega, by omega⟩
                      have hw1 : IntKind.i64.wrap (z + 1) = z + 1 := by
                        simp [IntKind.wrap, IntKind.bits, IntKind.signed]
                        omega
                      clear B v hr hj hz hj9
                      go_wp2
                      go_roundw
                      case rel => exact ⟨m + 1, k, tag, q, A, by rw [← H5.out.2.2.2], by omega, H5.out.2.2.1, H5.out.1, H5.out.2.1⟩
                      case measure => simp [intOf]; omega
                · have j3 : ¬ z < 9 := by omega
                  have H5 : Hid (Bo tag wr b d q A k ∧ Bv (fun _ => 0) w tag wr ∧ ((r = 0 ∧ k + 200 ≤ 11 + 100 * (kd + 1)) ∨ (r = 1 ∧ k + 100 ≤ 711 + 50 * (kd + 1))) ∧ 2 ≤ kd ∧ kd ≤ 8) := ⟨B, v, by omega, hkd2, hk8⟩
                  clear B v hr hz hm hm9
                  go_wp2
                  go_roundw
                  case rel => exact ⟨kd + 1, k, tag, q, A, by go_num, by have := H5.out.2.2.2; omega, H5.out.2.2.1, H5.out.1, H5.out.2.1⟩
                  case measure => simp [intOf]; omega
            · have j2 : ¬ (kd : Int) ≤ 8 := by omega
              have H5 : Hid (Bo tag wr b d q A k ∧ Bv (fun _ => 0) w tag wr ∧ ((r = 0 ∧ k ≤ 711) ∨ (r = 1 ∧ k ≤ 1061))) := ⟨B, v, by omega⟩
              clear B v hr hkd hk8
              go_wp2
              go_roundw
              case rel => exact ⟨r + 1, k, tag, q, A, by go_num, by have := H5.out.2.2; omega, H5.out.1, H5.out.2.1⟩
              case measure => simp [intOf]; omega
        · obtain rfl : r = 2 := by omega
          have HA : Hid (∀ V, Kp [] wr V → Calls Tryz.prog 9 #[.pointer (some ⟨b, 0, none⟩), .pointer (some ⟨d, 0, none⟩)] V fun e w' => e = .returned (.bool true) ∧ Kp [] V w') := fun V kV => all_any (B.kept kV)
          have HOf := of_wrong wr (0, 0, ⟨#[]⟩, [], ⟨#[]⟩) .nil ((none, 0, 0), (none, 0, 0)) ⟨Rk.nil _ _ _ _ _, ⟨[], Rk.nil _ _ _ _ _, Lf.nil _ _⟩⟩ ⟨⟨⟨Nat.zero_le _, fun a ha => by cases ha⟩, trivial, trivial⟩, Nat.zero_le _⟩ rfl
          unfold wv at HOf
          have HV : Hid (Kp [] w wr) := v.kp (fun _ _ => rfl)
          clear B v hr hr2
          rw [show ((2 : Nat) : Int) = 2 from rfl]
          go_wp2_with (first | (go_at_call 8; refine HOf.mono ?_; rintro e w6 ⟨rfl, k6⟩) | (go_at_call 9; refine (HA.out _ k6).mono ?_; rintro e w7 ⟨rfl, k7⟩) | (go_at_call 10; refine (known_any _).mono ?_; rintro e w8 ⟨rfl, k8⟩))
          go_ret
          exact ⟨rfl, ((HV.out.trans k6 (fun x hx => Or.inl hx)).trans k7 (fun x hx => Or.inl hx)).trans k8 (fun x hx => Or.inl hx)⟩

end Go.Proofs.YtgjkfpmhgidpaaaGreat
