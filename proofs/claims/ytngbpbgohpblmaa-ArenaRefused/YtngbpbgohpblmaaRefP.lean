/-
  What the walks of several laws want: calls that are refused, trees of a node, Within of a number.
-/
import Derived.Test.YtngbpbgohpblmaaPlay
import Derived.Test.YtngbpbgohpblmaaAllP
import Derived.Test.YtngbpbgohpblmaaMovP
import Derived.Test.YtngbpbgohpblmaaGA
namespace Go.Proofs.Ytngbpbgohpblmaa
open Go.RowKit Go.Maps Utf
set_option linter.unusedVariables false
set_option linter.unusedSimpArgs false

namespace Ar
theorem appF_no {a : Ar} {p x : Int} (h : (a.appF p x).2 ≠ 0) : (a.appF p x).1 = a := by
  unfold appF at h ⊢
  repeat' split
  all_goals first | rfl | (exfalso; apply h; simp_all)
theorem befF_no {a : Ar} {p x : Int} (h : (a.befF p x).2 ≠ 0) : (a.befF p x).1 = a := by
  revert h
  unfold befF
  repeat' split
  all_goals first | exact fun _ => rfl | exact fun h => absurd rfl h
theorem movF_no {a : Ar} {p x : Int} (h : (a.movF p x).2 ≠ 0) : (a.movF p x).1 = a := by
  revert h
  unfold movF
  repeat' split
  all_goals first | exact fun _ => rfl | exact fun h => absurd rfl h
theorem wbF_no {a : Ar} {p : Int} {s : ByteArray} (h : (a.wbF p s).2 ≠ 0) : (a.wbF p s).1 = a := by
  revert h
  unfold wbF
  repeat' split
  all_goals first | exact fun _ => rfl | exact fun h => absurd rfl h
end Ar

theorem Bv.sm {tag tag' : Nat → Nat} {w w' : World} (m : Bv tag w tag' w') : Sm (fun x => Nq (tag x)) w w' := fun x hq hx => m.block x hx hq

section
variable {tag : Nat → Nat} {w : World} {b d k : Nat} {q : Bool} {A : Ar}

/-- The program's tree of a node, in a later world. -/
theorem Bo.pure (B : Bo tag w b d q A k) (x : Nat) (hx : x < A.n) :
    Calls Try.prog 20 #[.pointer (some ⟨b, 0, none⟩), .int .i64 (x : Int)] w fun e w' => ∃ p, e = .returned (.tuple #[wv (A.lb x) p, .int .i64 0]) ∧ Kp [] w w' ∧ Nd (fun y => w.heap.size ≤ y) w' (A.lb x) (A.below x) p := B.ps.pure x hx

theorem Bo.tree (B : Bo tag w b d q A k) (V : World) (x : Nat) (p p' : Pl) (n1 : Nd Any V (A.lb x) (A.below x) p) (n2 : Nd Any V (A.lb x) (A.below x) p') :
    Calls Try.prog 22 #[wv (A.lb x) p, wv (A.lb x) p'] V fun e w' => e = .returned (.bool true) ∧ Kp [] V w' := by
  have := ktree_any V _ _ _ _ p p' n1 n2 (B.okT x) (B.okT x)
  rw [(sameT_iff _ _ _ _).2 ⟨rfl, rfl⟩] at this
  exact this
end

/-- Within, of a node's number. -/
theorem within_node (w : World) (z : Int) (m : Nat) (hm : m ≤ 100000) :
    Calls Try.prog 19 #[.int .i64 z, .int .i64 0, .int .i64 (m : Int)] w fun e w' => e = .returned (.int .i64 (wi z m : Int)) ∧ w' = w := by
  have := within_any w z 0 m (by omega) (by omega)
  rw [Nat.zero_add, Nat.sub_zero] at this
  exact this

end Go.Proofs.Ytngbpbgohpblmaa
