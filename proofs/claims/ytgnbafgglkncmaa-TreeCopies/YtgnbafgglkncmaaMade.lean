/-
  made of the law: a node that may be.
-/
import Derived.Test.YtgnbafgglkncmaaKnows
import Derived.Deep.RegionWith
namespace Go.Proofs.Ytgnbafgglkncmaa
open Go.RowKit
set_option linter.unusedVariables false

/-- A Node, as a value. -/
def nv (k s u : Int) (x y : ByteArray) (ao : Option Addr) (n c : Nat) : Value := .agg #[.int .i64 k, .int .i64 s, .int .i64 u, .string x, .string y, .slice ao n c]

set_option maxRecDepth 100000 in
set_option maxHeartbeats 600000 in
theorem made_any (w : World) (k s u : Int) (x y : ByteArray) (ao : Option Addr) (n c : Nat) (l : Lb) (p : Pl) (hx : l.name.size ≤ 1000) :
    Calls Try.prog 28 #[nv k s u x y ao n c, wv l p] w fun e w' => ∃ q, e = .returned (wv (madeF k s l.name l.text).1 q) ∧ Nd (fun z => w.heap.size ≤ z) w' (madeF k s l.name l.text).1 (madeF k s l.name l.text).2 q ∧ Kp [] w w' := by
  obtain ⟨⟨pa, pn, pcap⟩, pb, pm, pd⟩ := p
  have HWI : Hid (∀ W : World, Calls Try.prog 17 #[.int .i64 k, .int .i64 0, .int .i64 1000] W fun e w' => e = .returned (.int .i64 (wi k 1000 : Nat)) ∧ w' = W) := fun W => by
    have := within_any W k 0 1000 (by omega) (by omega)
    simpa using this
  have HW1 : Hid (∀ W : World, Calls Try.prog 17 #[.int .i64 s, .int .i64 0, .int .i64 1] W fun e w' => e = .returned (.int .i64 (wi s 1 : Nat)) ∧ w' = W) := fun W => by
    have := within_any W s 0 1 (by omega) (by omega)
    simpa using this
  have hw1 := wi_le s 1
  have KA : Hid (∀ a b o : Obj, Kp [] w (((w.alloc a).alloc b).alloc o)) := fun a b o => (((Kp.refl _ _).alloc _).alloc _).alloc _
  obtain ⟨R, hR⟩ : ∃ R, madeF k s l.name l.text = R := ⟨_, rfl⟩
  rw [hR]
  unfold madeF at hR
  generalize wi k 1000 = K at HWI hR
  generalize wi s 1 = S1 at HW1 hR hw1
  have hlt : K % 4 < 4 := Nat.mod_lt _ (by omega)
  simp only [nv, wv]
  by_cases h0 : K % 4 = 0
  · have q0 : (((K : Int) % 4) == 0) = true := by simp; omega
    rw [if_pos h0] at hR
    subst hR
    clear HW1 hw1 hlt h0
    go_enter Try.func28, Try.ntmps28
    go_wp2_with (go_at_call 17; refine (HWI.out _).mono ?_; rintro e w1 ⟨rfl, rfl⟩)
    refine bodyPost_ret (v := .agg #[.int .i64 5, .int .i64 0, .string ⟨#[]⟩, .slice none 0 0, .string l.text, .slice none 0 0]) (by simp [results, go_sem]) rfl ⟨((none, 0, 0), (none, 0, 0)), rfl, Nd.bare _ _ _ _ _ _ (Rt.nil _ _ none 0), KA.out _ _ _⟩
  · have q0 : (((K : Int) % 4) == 0) = false := by simp; omega
    rw [if_neg h0] at hR
    by_cases h1 : K % 4 = 1
    · have q1 : (((K : Int) % 4) == 1) = true := by simp; omega
      by_cases ht : l.text = NON
      · have q4 : (l.text.toList == NON.toList) = true := eqs_yes ht
        rw [show NON.toList = [] from by decide +kernel] at q4
        have q5 : (l.text.toList != []) = false := by simp only [bne, q4]; rfl
        rw [if_neg (by simp [ht]), if_neg (by omega)] at hR
        subst hR
        clear h0 h1 ht hlt
        have hwr : IntKind.i64.wrap (1 + (S1 : Int)) = 1 + (S1 : Int) := by rw [IntKind.wrap_i64]; omega
        have z9 : ¬ 9223372036854775807 < 1 + l.name.size := by omega
        have j9 : (S1 : Int) ≤ 1 := by omega
        go_enter Try.func28, Try.ntmps28
        go_wp2_with (go_at_call 17; refine (HWI.out _).mono ?_; rintro e w1 ⟨rfl, rfl⟩)
        go_region_with (first | (go_at_call 17; refine (HW1.out _).mono ?_; rintro e w2 ⟨rfl, rfl⟩))
        all_goals (go_wp2; refine bodyPost_ret (v := .agg #[.int .i64 3, .int .i64 (1 + (S1 : Int)), .string (⟨#[120]⟩ ++ l.name), .slice none 0 0, .string ⟨#[]⟩, .slice none 0 0]) (by simp [results, go_sem]) rfl ⟨((none, 0, 0), (none, 0, 0)), rfl, Nd.bare _ _ _ _ _ _ (Rt.nil _ _ none 0), (KA.out _ _ _).drew⟩)
      · have q4 : (l.text.toList == NON.toList) = false := eqs_no ht
        rw [show NON.toList = [] from by decide +kernel] at q4
        have q5 : (l.text.toList != []) = true := by simp only [bne, q4]; rfl
        rw [if_pos ⟨h1, ht⟩] at hR
        subst hR
        clear HW1 hw1 hlt h0 h1 ht
        go_enter Try.func28, Try.ntmps28
        go_wp2_with (go_at_call 17; refine (HWI.out _).mono ?_; rintro e w1 ⟨rfl, rfl⟩)
        refine bodyPost_ret (v := .agg #[.int .i64 4, .int .i64 0, .string ⟨#[]⟩, .slice none 0 0, .string l.text, .slice none 0 0]) (by simp [results, go_sem]) rfl ⟨((none, 0, 0), (none, 0, 0)), rfl, Nd.bare _ _ _ _ _ _ (Rt.nil _ _ none 0), KA.out _ _ _⟩
    · have q1 : (((K : Int) % 4) == 1) = false := by simp; omega
      rw [if_neg (by simp [h1])] at hR
      by_cases h2 : K % 4 = 2
      · have q2 : (((K : Int) % 4) == 2) = true := by simp; omega
        rw [if_pos h2] at hR
        subst hR
        clear HW1 hw1 hlt h0 h1 h2
        go_enter Try.func28, Try.ntmps28
        go_wp2_with (go_at_call 17; refine (HWI.out _).mono ?_; rintro e w1 ⟨rfl, rfl⟩)
        refine bodyPost_ret (v := .agg #[.int .i64 3, .int .i64 1, .string ⟨#[116, 101, 109, 112, 108, 97, 116, 101]⟩, .slice none 0 0, .string ⟨#[]⟩, .slice (some ⟨w.heap.size + 1 + 1 + 1 + 1, 0, none⟩) 1 1]) (by simp [results, go_sem]) rfl ⟨((none, 0, 0), (some ⟨w.heap.size + 1 + 1 + 1 + 1, 0, none⟩, 1, 1)), rfl, Nd.bare _ _ _ _ _ _ (Rt.one (l := (6, 0, NON, [], NON)) (p := ((none, 0, 0), (none, 0, 0))) (heap_new' _ _ _ (by simp)) rfl (by show _ ≤ _; omega) (Nd.bare _ _ _ _ _ _ (Rt.nil _ _ none 0))), ?_⟩
        exact (((((Kp.refl _ _).alloc _).alloc _).alloc _).alloc _).alloc _
      · have q2 : (((K : Int) % 4) == 2) = false := by simp; omega
        rw [if_neg h2] at hR
        subst hR
        clear h0 h1 h2 hlt
        have hwr : IntKind.i64.wrap (1 + (S1 : Int)) = 1 + (S1 : Int) := by rw [IntKind.wrap_i64]; omega
        have z9 : ¬ 9223372036854775807 < 1 + l.name.size := by omega
        have j9 : (S1 : Int) ≤ 1 := by omega
        go_enter Try.func28, Try.ntmps28
        go_wp2_with (go_at_call 17; refine (HWI.out _).mono ?_; rintro e w1 ⟨rfl, rfl⟩)
        go_region_with (first | (go_at_call 17; refine (HW1.out _).mono ?_; rintro e w2 ⟨rfl, rfl⟩))
        all_goals (go_wp2; refine bodyPost_ret (v := .agg #[.int .i64 3, .int .i64 (1 + (S1 : Int)), .string (⟨#[120]⟩ ++ l.name), .slice none 0 0, .string ⟨#[]⟩, .slice none 0 0]) (by simp [results, go_sem]) rfl ⟨((none, 0, 0), (none, 0, 0)), rfl, Nd.bare _ _ _ _ _ _ (Rt.nil _ _ none 0), (KA.out _ _ _).drew⟩)

end Go.Proofs.Ytgnbafgglkncmaa
