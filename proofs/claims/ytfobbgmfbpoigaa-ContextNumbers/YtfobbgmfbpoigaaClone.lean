/-
  A piece of a text, in memory of its own: the program's piece, over the library's Clone, whose contract is laid at this program.
-/
import Derived.Shelf.Pu.Clone
import Derived.Test.YtfobbgmfbpoigaaBase
namespace Go.Proofs
open Go.Shelf
def Try.lays25_ren : Go.Shelf.Ren := ⟨fun | 25 => 34 | n => n, fun | 37 => 74 | 47 => 75 | n => n, fun | n => n⟩
theorem Try.lays25 : Go.Proofs.LaysPu.n25 Try.prog Try.lays25_ren := {
  mixed := by kernel_rfl
  f25 := Try.func34.trans (congrArg some (by kernel_rfl))
  t0 := Try.underlying0
  a0 := Try.isAgg0
  z0 := Try.sizeOf0
  v0 := Try.zeroValue0
  i0 := by kernel_rfl
  t3 := Try.underlying3
  a3 := Try.isAgg3
  z3 := Try.sizeOf3
  v3 := Try.zeroValue3
  i3 := by kernel_rfl
  t4 := Try.underlying4
  a4 := Try.isAgg4
  z4 := Try.sizeOf4
  v4 := Try.zeroValue4
  i4 := by kernel_rfl
  t5 := Try.underlying5
  a5 := Try.isAgg5
  z5 := Try.sizeOf5
  v5 := Try.zeroValue5
  i5 := by kernel_rfl
  t9 := Try.underlying9
  a9 := Try.isAgg9
  z9 := Try.sizeOf9
  v9 := Try.zeroValue9
  i9 := by kernel_rfl
  t37 := Try.underlying74
  a37 := Try.isAgg74
  z37 := Try.sizeOf74
  v37 := Try.zeroValue74
  i37 := by kernel_rfl
  t47 := Try.underlying75
  a47 := Try.isAgg75
  z47 := Try.sizeOf75
  v47 := Try.zeroValue75
  i47 := by kernel_rfl }
end Go.Proofs
namespace Go.Proofs.Ytfobbgmfbpoigaa
open Go.RowKit Utf

theorem kp_below {w w' : World} (h : Below w.heap.size w w') : Kp [] w w' := ⟨h.os, h.tape, h.output, h.size, fun k hk _ => h.block k hk⟩

theorem clone_any (w : World) (s : ByteArray) (hl : s.size ≤ 1000000) : Calls Try.prog 25 #[.string s] w fun e w' => e = .returned (.string s) ∧ Kp [] w w' := by
  have HC : Calls Try.prog 34 #[.string s] w fun e w' => e = .returned (.string s) ∧ Below w.heap.size w w' := AnyPu.stringslite_Clone Try.lays25 s w (by omega)
  go_enter Try.func25, Try.ntmps25
  go_wp2_with fail
  refine HC.mono ?_
  rintro e w1 ⟨rfl, hb⟩
  clear HC
  go_wp2
  go_ret
  exact ⟨rfl, kp_below hb⟩

end Go.Proofs.Ytfobbgmfbpoigaa
