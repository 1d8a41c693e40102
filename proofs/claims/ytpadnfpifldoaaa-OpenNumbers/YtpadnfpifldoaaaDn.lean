/-
  do of the laws: what it leaves.
-/
import Derived.Test.YtpadnfpifldoaaaTelW
import Derived.Test.YtpadnfpifldoaaaRf
import Derived.Test.YtpadnfpifldoaaaApp
import Derived.Test.YtpadnfpifldoaaaStp
namespace Go.Proofs.Ytpadnfpifldoaaa.Ints
open Go.RowKit
set_option linter.unusedSimpArgs false
set_option linter.unusedVariables false

/-- What do leaves: the list and the slice tell the same. -/
def Dn (w0 w : World) (q : Nat) (zs : List It) (e : Ending) (w' : World) : Prop :=
  ∃ bo n d zs', e = .returned (.tuple #[.slice bo n d, .bool true]) ∧ Li w0 w' q zs' ∧ Rs w' bo n d zs' ∧ Ev w0 w w' ∧ zs'.length ≤ zs.length + 1

/-- append, whose run is known, as one step of a region that draws its order. -/
theorem step_app2 {P : Program} {ops : Array Oper} {o : Oper} {a : Act} {w w' : World} {K : Act → World → Prop} {Q : Exit → Act → World → Prop} {E : Prop}
    (hg : o.guard = none) (s x : Operand) (t t' : TypeId) (hop : o.op = Op.call { callee := Callee.builtin Builtin.append, args := #[s, x], argTypes := #[t, t'] })
    (v u : Value) {v' : Value} (hs : a.eval s = v) (hx : a.eval x = u) (hrun : ∀ ty, (Builtin.append_ #[t, t'] ty #[v, u]).run P w = .ok v' w') (hK : K (a.put o.dst v') w') :
    if Region.wanted o (yielded ops a.tmps) = true then Oper.wp P o a w K Q else E := by
  have hw : Region.wanted o (yielded ops a.tmps) = true := by simp [Region.wanted, hg]
  rw [if_pos hw]
  have hr := hrun o.type
  unfold Oper.wp
  simp [execOp, hop, resolve, invoke, builtin, hs, hx, hr, Result.andThen]
  exact hK

theorem lit_rs {w : World} {g : Nat} {x : It} (h : w.heap[g]? = some (.cells (ic x) 36 (0, 0))) : Rs w (some ⟨g, 0, none⟩) 1 1 [x] :=
  ⟨rfl, Nat.le_refl _, Or.inr ⟨g, 0, ic x, rfl, h, fun j hj => by simp [ic, cz]⟩⟩

theorem rmv_pos (zs : List It) (k : Nat) : rmv zs (k : Int) = [] ++ zs.take k ++ zs.drop (k + 1) := by
  unfold rmv
  rw [if_pos (by omega)]
  simp

theorem rpl_pos (zs : List It) (k : Nat) (x : It) (hk : k < zs.length) : rpl zs (k : Int) x = [] ++ zs.take k ++ [x] ++ zs.drop (k + 1) := by
  unfold rpl
  rw [if_pos (by omega), show ((k : Int)).toNat = k by omega, List.set_eq_take_append_cons_drop, if_pos hk]
  simp

theorem aft_pos (zs : List It) (k : Nat) (x : It) : aft zs (k : Int) x = [] ++ zs.take (k + 1) ++ [x] ++ zs.drop (k + 1) := by
  unfold aft
  rw [if_pos (by omega)]
  simp

theorem Hid.mk {p : Prop} (h : p) : Hid p := h

end Go.Proofs.Ytpadnfpifldoaaa.Ints
