/-
  Of of the program: what is not right is refused.
-/
import Derived.Test.YtgjkfpmhgidpaaaGreatWC
import Derived.Test.YtgjkfpmhgidpaaaGreatGS
import Derived.Deep.CutRange
namespace Go.Proofs.YtgjkfpmhgidpaaaGreat
open Go.RowKit Go.Maps Utf
set_option linter.unusedVariables false
set_option linter.unusedSimpArgs false

set_option maxRecDepth 100000 in
set_option maxHeartbeats 2000000 in
theorem of_wrong (w : World) (l : Lb) (k : Fo) (p : Pl) (h : Nd Any w l k p) (ho : okT l k) (hr : rightF l k = false) :
    Calls Tryz.prog 8 #[wv l p] w fun e w' => e = .returned (.tuple #[.pointer none, .int .i64 12]) ∧ Kp [] w w' := by
  obtain ⟨W, hW⟩ : ∃ W, W = w.alloc (.cells #[.int .i64 l.kind, .int .i64 l.ns, .string l.name, .slice p.1.1 p.1.2.1 p.1.2.2, .string l.text, .slice p.2.1 p.2.2.1 p.2.2.2] 38) := ⟨_, rfl⟩
  have k1 : Kp [] w W := by rw [hW]; exact (Kp.refl _ _).alloc _
  have A1 : At W w.heap.size #[.int .i64 l.kind, .int .i64 l.ns, .string l.name, .slice p.1.1 p.1.2.1 p.1.2.2, .string l.text, .slice p.2.1 p.2.2.1 p.2.2.2] 38 := by rw [hW]; exact At.new _ _ _
  have HW : Hid (w.alloc (.cells #[.int .i64 l.kind, .int .i64 l.ns, .string l.name, .slice p.1.1 p.1.2.1 p.1.2.2, .string l.text, .slice p.2.1 p.2.2.1 p.2.2.2] 38) = W) := hW.symm
  have HR := right_any W l k p (h.kept k1) ho
  rw [hr] at HR
  unfold wv at HR ⊢
  obtain ⟨x0, x1, x2, x3, x4, x5⟩ := A1.six
  clear hW h ho hr A1
  go_enter Tryz.func8, Tryz.ntmps8
  go_upto_region 1 with fail
  rw [HW.out]
  clear HW
  go_wp2_with (go_at_call 13; refine HR.mono ?_; rintro e w1 ⟨rfl, kR⟩)
  go_ret2
  exact ⟨rfl, k1.trans kR (fun x hx => Or.inl hx)⟩

end Go.Proofs.YtgjkfpmhgidpaaaGreat
