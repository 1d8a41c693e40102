/-
  The mode behind a start's name: names.Raw.
-/
import Derived.Test.YtcfaejbbjmjgpaaGreatDoorGroundA
namespace Go.Proofs.YtcfaejbbjmjgpaaGreatDoor
open Go.RowKit Utf
set_option linter.unusedVariables false

/-- The text s is one of these. -/
def has (L : List (List UInt8)) (s : ByteArray) : Bool := L.any fun x => s.toList == x

/-- The text of these bytes. -/
def txt (l : List UInt8) : ByteArray := ⟨l.toArray⟩

def RCD : List (List UInt8) := [[116, 101, 120, 116, 97, 114, 101, 97], [116, 105, 116, 108, 101]]

def RWT : List (List UInt8) := [[115, 99, 114, 105, 112, 116], [115, 116, 121, 108, 101], [120, 109, 112]]

def NOS : List UInt8 := [110, 111, 115, 99, 114, 105, 112, 116]

def PLN : List UInt8 := [112, 108, 97, 105, 110, 116, 101, 120, 116]

/-- The mode behind a start of that name. -/
def raw (s : ByteArray) (b : Bool) : Int :=
  if has RCD s then 2 else if has RWT s then 3 else if s.toList == NOS then (if b then 3 else 1) else if s.toList == PLN then 4 else 1

set_option maxHeartbeats 4000000 in
theorem raw_any (w : World) (s : ByteArray) (b : Bool) : Calls Tryz.prog 33 #[.string s, .bool b] w fun e w' => e = .returned (.int .i64 (raw s b)) ∧ w' = w := by
  cases b
  all_goals
    go_enter Tryz.func33, Tryz.ntmps33
    go_wp2
    all_goals go_ret
    all_goals refine ⟨?_, rfl⟩
    all_goals first
      | (rename_i h1 h2; exact absurd (h1.symm.trans h2) (by decide))
      | (simp [raw, has, RCD, RWT, NOS, PLN, *]; done)
      | (exfalso; simp_all; done)

set_option maxHeartbeats 4000000 in
theorem ref_raw_any (w : World) (s : ByteArray) (b : Bool) : Calls Tryz.prog 34 #[.string s, .bool b] w fun e w' => e = .returned (.int .i64 (raw s b)) ∧ w' = w := by
  cases b
  all_goals
    go_enter Tryz.func34, Tryz.ntmps34
    go_wp2
    all_goals go_ret
    all_goals refine ⟨?_, rfl⟩
    all_goals first
      | (rename_i h1 h2; exact absurd (h1.symm.trans h2) (by decide))
      | (simp [raw, has, RCD, RWT, NOS, PLN, *]; done)
      | (exfalso; simp_all; done)
      | (simp_all [raw, has, RCD, RWT, NOS, PLN]; done)

end Go.Proofs.YtcfaejbbjmjgpaaGreatDoor
