/-
  The law's known: some of chapter 14's runs.
-/
import Derived.Test.YtgnbafgglkncmaaShows
import Derived.Test.YtgnbafgglkncmaaRights
namespace Go.Proofs.Ytgnbafgglkncmaa
open Go.RowKit
set_option linter.unusedVariables false

/-- A slice of one node. -/
theorem Rt.one {Q : Nat → Prop} {w : World} {g : Nat} {l : Lb} {k : Fo} {p : Pl} {cur : Array Value} {e : TypeId} (hg : w.heap[g]? = some (.cells cur e (0, 0))) (hc : cur = (six l p).toArray) (hq : Q g) (h : Nd Q w l k p) : Rt Q w (some ⟨g, 0, none⟩) 1 1 (.cons l k .nil) :=
  ⟨six l p ++ [], ⟨rfl, Nat.le_refl _, fun _ => ⟨g, 0, cur, e, hq, rfl, hg, fun j hj => by rw [hc, Nat.zero_add, List.append_nil]; simp⟩⟩, Lf.cons h (Lf.nil _ _)⟩

theorem Nd.bare (Q : Nat → Prop) (w : World) (kind ns : Int) (name text : ByteArray) {bo : Option Addr} {m d : Nat} {k : Fo} (h : Rt Q w bo m d k) : Nd Q w (kind, ns, name, [], text) k ((none, 0, 0), (bo, m, d)) := ⟨Rk.nil Q 2 w none 0, h⟩

theorem okL_bare (kind ns : Int) (name text : ByteArray) : okL (kind, ns, name, [], text) := ⟨Nat.zero_le _, fun a ha => absurd ha (by simp [Lb.attrs])⟩

def lA : Lb := (4, 0, ⟨#[]⟩, [], ⟨#[97]⟩)
def lP : Lb := (3, 1, ⟨#[112]⟩, [], ⟨#[]⟩)
def lD : Lb := (1, 0, ⟨#[]⟩, [], ⟨#[]⟩)
def fA : Fo := .cons lA .nil .nil
def fP : Fo := .cons lP fA .nil

theorem show_known : showT lD fP = ⟨#[60, 112, 62, 10, 32, 32, 34, 97, 34, 10]⟩ := by decide +kernel
theorem right_known : rightF lD fP = true := by decide +kernel
theorem pad_known : padT lD fP = 2 := by decide +kernel

set_option maxRecDepth 100000 in
set_option maxHeartbeats 1000000 in
theorem known_any (w : World) : Calls Try.prog 10 #[] w fun e w' => e = .returned (.bool true) ∧ Kp [] w w' := by
  obtain ⟨W, hW⟩ : ∃ W, W = ((w.alloc (.cells #[.int .i64 4, .int .i64 0, .string ⟨#[]⟩, .slice none 0 0, .string ⟨#[97]⟩, .slice none 0 0] 25)).alloc (.cells #[.int .i64 3, .int .i64 1, .string ⟨#[112]⟩, .slice none 0 0, .string ⟨#[]⟩, .slice (some ⟨w.heap.size, 0, none⟩) 1 1] 25)).alloc (.cells #[.int .i64 1, .int .i64 0, .string ⟨#[]⟩, .slice none 0 0, .string ⟨#[]⟩, .slice (some ⟨w.heap.size + 1, 0, none⟩) 1 1] 25) := ⟨_, rfl⟩
  have k0 : Kp [] w W := by rw [hW]; exact (((Kp.refl _ _).alloc _).alloc _).alloc _
  have g0 : W.heap[w.heap.size]? = some (.cells #[.int .i64 4, .int .i64 0, .string ⟨#[]⟩, .slice none 0 0, .string ⟨#[97]⟩, .slice none 0 0] 25 (0, 0)) := by
    rw [hW, Below.heap_alloc _ _ _ (by simp; omega), Below.heap_alloc _ _ _ (by simp)]
    exact heap_new _ _
  have g1 : W.heap[w.heap.size + 1]? = some (.cells #[.int .i64 3, .int .i64 1, .string ⟨#[112]⟩, .slice none 0 0, .string ⟨#[]⟩, .slice (some ⟨w.heap.size, 0, none⟩) 1 1] 25 (0, 0)) := by
    rw [hW, Below.heap_alloc _ _ _ (by simp)]
    exact heap_new' _ _ _ (by simp)
  have g2 : W.heap[w.heap.size + 1 + 1]? = some (.cells #[.int .i64 1, .int .i64 0, .string ⟨#[]⟩, .slice none 0 0, .string ⟨#[]⟩, .slice (some ⟨w.heap.size + 1, 0, none⟩) 1 1] 25 (0, 0)) := by
    rw [hW]
    exact heap_new' _ _ _ (by simp)
  have nd : Nd Any W lD fP ((none, 0, 0), (some ⟨w.heap.size + 1, 0, none⟩, 1, 1)) :=
    Nd.bare Any W 1 0 _ _ (Rt.one (l := lP) (p := ((none, 0, 0), (some ⟨w.heap.size, 0, none⟩, 1, 1))) g1 rfl trivial (Nd.bare Any W 3 1 _ _ (Rt.one (l := lA) (p := ((none, 0, 0), (none, 0, 0))) g0 rfl trivial (Nd.bare Any W 4 0 _ _ (Rt.nil Any W none 0)))))
  have ok : okT lD fP := ⟨⟨okL_bare _ _ _ _, ⟨okL_bare _ _ _ _, ⟨okL_bare _ _ _ _, trivial, trivial⟩, trivial⟩, trivial⟩, by decide⟩
  have HS : Hid (∀ V, V = W → Calls Try.prog 16 #[wv lD ((none, 0, 0), (some ⟨w.heap.size + 1, 0, none⟩, 1, 1))] V fun e w' => e = .returned (.string ⟨#[60, 112, 62, 10, 32, 32, 34, 97, 34, 10]⟩) ∧ Kp [] W w') := fun V hV => by
    rw [hV, ← show_known]
    exact show_any W lD fP _ nd ok (by rw [pad_known]; omega) (by rw [show_known]; decide)
  have HC : Hid (∀ V, Kp [] W V → Calls Try.prog 15 #[wv lD ((none, 0, 0), (some ⟨w.heap.size + 1, 0, none⟩, 1, 1))] V fun e w' => e = .returned (.int .i64 3) ∧ Kp [] V w') := fun V kV => count_any V lD fP _ (nd.kept kV) (by decide)
  have HR : Hid (∀ V, Kp [] W V → Calls Try.prog 21 #[wv lD ((none, 0, 0), (some ⟨w.heap.size + 1, 0, none⟩, 1, 1))] V fun e w' => e = .returned (.bool true) ∧ Kp [] V w') := fun V kV => by
    have := right_any V lD fP _ (nd.kept kV) ok
    rw [right_known] at this
    exact this
  have H1 : Hid (∀ V, Calls Try.prog 15 #[wv lD ((none, 0, 0), (none, 0, 0))] V fun e w' => e = .returned (.int .i64 1) ∧ Kp [] V w') := fun V => count_any V lD .nil _ (Nd.bare Any V 1 0 _ _ (Rt.nil Any V none 0)) (by decide)
  have HX : Hid (∀ V, Kp [] W V → V.cell? ⟨w.heap.size + 1 + 1, 0, none⟩ = some (.int .i64 1) ∧ V.cell? ⟨w.heap.size + 1 + 1, 1, none⟩ = some (.int .i64 0) ∧ V.cell? ⟨w.heap.size + 1 + 1, 2, none⟩ = some (.string ⟨#[]⟩) ∧ V.cell? ⟨w.heap.size + 1 + 1, 3, none⟩ = some (.slice none 0 0) ∧ V.cell? ⟨w.heap.size + 1 + 1, 4, none⟩ = some (.string ⟨#[]⟩) ∧ V.cell? ⟨w.heap.size + 1 + 1, 5, none⟩ = some (.slice (some ⟨w.heap.size + 1, 0, none⟩) 1 1)) := fun V kV => by
    have h := (kV.block _ (Array.getElem?_eq_some_iff.1 g2).1 (by simp)).trans g2
    exact ⟨cell_of h 0, cell_of h 1, cell_of h 2, cell_of h 3, cell_of h 4, cell_of h 5⟩
  have HW : Hid (_ = W) := hW.symm
  have K0 : Hid (Kp [] w W) := k0
  clear hW k0 g0 g1 g2 nd ok
  simp only [wv, lD, Lb.kind, Lb.ns, Lb.name, Lb.text] at HS HC HR H1
  go_enter Try.func10, Try.ntmps10
  go_wp2_with (first
    | (go_at_call 15; have D3 := Q3.out; refine (H1.out _).mono ?_; rintro e w4 ⟨rfl, k4⟩)
    | (go_at_call 21; have D2 := Q2.out; refine (HR.out _ D2).mono ?_; rintro e w3 ⟨rfl, k3⟩; have Q3 : Hid (Kp [] W w3) := D2.trans k3 (fun x hx => Or.inl hx))
    | (go_at_call 15; have D1 := Q1.out; refine (HC.out _ D1).mono ?_; rintro e w2 ⟨rfl, k2⟩; have Q2 : Hid (Kp [] W w2) := D1.trans k2 (fun x hx => Or.inl hx); obtain ⟨b0, b1, b2, b3, b4, b5⟩ := HX.out _ Q2.out)
    | (go_at_call 16; refine (HS.out _ HW.out).mono ?_; rintro e w1 ⟨rfl, k1⟩; have Q1 : Hid (Kp [] W w1) := k1; obtain ⟨a0, a1, a2, a3, a4, a5⟩ := HX.out _ k1))
  go_ret
  exact ⟨rfl, K0.out.trans (Q3.out.trans k4 (fun x hx => Or.inl hx)) (fun x hx => Or.inl hx)⟩

end Go.Proofs.Ytgnbafgglkncmaa
