/-
  Trees held against each other.
-/
import Derived.Test.YtgjkfpmhgidpaaaGreatBO
import Derived.Test.YtgjkfpmhgidpaaaGreatGT
namespace Go.Proofs.YtgjkfpmhgidpaaaGreat
open Go.RowKit Go.Maps Utf
set_option linter.unusedVariables false
set_option linter.unusedSimpArgs false

/-- Trees held against each other. -/
theorem ktree_any (w : World) (l l' : Lb) (k k' : Fo) (p p' : Pl) (h : Nd Any w l k p) (h' : Nd Any w l' k' p') (ho : okT l k) (ho' : okT l' k') :
    Calls Tryz.prog 14 #[wv l p, wv l' p'] w fun e w' => e = .returned (.bool (sameT l k l' k')) ∧ Kp [] w w' := by
  obtain ⟨W2, hW2⟩ : ∃ W, W = (w.alloc (.cells (six l p).toArray 38)).alloc (.cells (six l' p').toArray 38) := ⟨_, rfl⟩
  have k2 : Kp [] w W2 := by rw [hW2]; exact ((Kp.refl _ _).alloc _).alloc _
  have H := ref_tsame_any l k W2 p l' k' p' (h.kept k2) (h'.kept k2) ho ho'
  have HW : Hid ((w.alloc (.cells (six l p).toArray 38)).alloc (.cells (six l' p').toArray 38) = W2) := hW2.symm
  clear h h' ho ho' hW2
  generalize sameT l k l' k' = r at *
  rw [six_arr, six_arr] at HW
  unfold wv at *
  go_enter Tryz.func14, Tryz.ntmps14
  go_wp2_with fail
  rw [HW.out]
  refine H.mono ?_
  rintro e w2 ⟨rfl, k3⟩
  go_wp2
  go_ret
  exact ⟨rfl, k2.trans k3 (fun x hx => Or.inl hx)⟩

section
variable {tag : Nat → Nat} {w : World} {b d k : Nat} {q : Bool} {A : Ar}

theorem Bo.okT (B : Bo tag w b d q A k) (x : Nat) : okT (A.lb x) (A.below x) := B.ps.ful.toOk.okT (by have := B.n_lt; omega) B.att x

end

end Go.Proofs.YtgjkfpmhgidpaaaGreat
