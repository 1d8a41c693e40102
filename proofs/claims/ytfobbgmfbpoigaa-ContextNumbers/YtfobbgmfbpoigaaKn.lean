/-
  known of the laws.
-/
import Derived.Test.YtfobbgmfbpoigaaSam
import Derived.Test.YtfobbgmfbpoigaaOne
namespace Go.Proofs.Ytfobbgmfbpoigaa
open Go.RowKit Ints
set_option linter.unusedSimpArgs false
set_option linter.unusedVariables false

/-- The elements of known. -/
def KF (i : Nat) : Int × Bool := (if i = 0 then 28 else if i = 1 then 27 else if i = 2 then 5 else 6, false)

theorem es_kf (w : World) : Es (w.alloc (.cells #[.int .i64 28, .bool false, .int .i64 27, .bool false, .int .i64 5, .bool false, .int .i64 6, .bool false] 28)) (some ⟨w.heap.size, 0, none⟩) 4 4 KF :=
  ⟨Nat.le_refl _, fun i hi => by
    have h := heap_new w (.cells #[.int .i64 28, .bool false, .int .i64 27, .bool false, .int .i64 5, .bool false, .int .i64 6, .bool false] 28)
    refine ⟨w.heap.size, 0, rfl, ?_, ?_⟩
    · rw [cell_of h]
      rcases (show i = 0 ∨ i = 1 ∨ i = 2 ∨ i = 3 by omega) with rfl | rfl | rfl | rfl <;> rfl
    · rw [cell_of h]
      rcases (show i = 0 ∨ i = 1 ∨ i = 2 ∨ i = 3 by omega) with rfl | rfl | rfl | rfl <;> rfl⟩

theorem nm6 : nm 6 = txt [116, 114] := by kernel_rfl

theorem kf_reset : rsK 0 true (vw none (lsT KF 4)) (lsT KF 4).length = 11 := by
  have h : 3 < (vw none (lsT KF 4)).length := by rw [vw_len, lsT_len]; omega
  have e1 : (vw none (lsT KF 4))[3] = (1, nm 6) := by rw [vw_none _ 3 h, lsT_get]; rfl
  have e2 : go1 0 true (3 == 0) (1, txt [116, 114]) = some 11 := by decide +kernel
  rw [lsT_len, rsK_on h, e1, nm6, e2]
  rfl

set_option maxRecDepth 100000 in
set_option maxHeartbeats 2000000 in
theorem known_any (w : World) : Calls Try.prog 11 #[] w fun e w' => e = .returned (.bool true) ∧ Kp [] w w' := by
  have k1 : Kp [] w (w.alloc (.cells #[.int .i64 28, .bool false, .int .i64 27, .bool false, .int .i64 5, .bool false, .int .i64 6, .bool false] 28)) := (Kp.refl _ _).alloc _
  have HL := list_any _ _ 4 4 KF (es_kf w)
  have K1 : Hid (Kp [] w (w.alloc (.cells #[.int .i64 28, .bool false, .int .i64 27, .bool false, .int .i64 5, .bool false, .int .i64 6, .bool false] 28))) := k1
  go_enter Try.func11, Try.ntmps11
  go_wp2_with fail
  refine HL.mono ?_
  rintro e w2 ⟨q, bo, d, rfl, L2, _, k2⟩
  have HR := reset_any _ w2 q _ none none 0 true L2 (Or.inl ⟨rfl, rfl⟩) (by rw [lsT_len]; omega)
  have e4 : rsK 0 true (vw none (lsT KF (min 4 20))) (lsT KF (min 4 20)).length = 11 := kf_reset
  rw [e4] at HR
  have K2 : Hid (Kp [] w w2) := kt K1.out k2
  clear HL L2 k1 K1 k2 e4
  have HX := fun W => lexer_any W 1 (txt [116, 105, 116, 108, 101]) none 0 0 false
  have eL : lex 1 (txt [116, 105, 116, 108, 101]) false = 2 := by kernel_rfl
  rw [eL] at HX
  unfold cv txt at HX
  go_wp2_with fail
  refine HR.mono ?_
  rintro e w3 ⟨rfl, k3⟩
  have K3 : Hid (Kp [] w w3) := kt K2.out k3
  clear HR k3 K2
  go_wp2_with fail
  refine (HX w3).mono ?_
  rintro e w4 ⟨rfl, k4⟩
  have K4 : Hid (Kp [] w w4) := kt K3.out k4
  clear HX k4 K3
  go_wp2
  go_ret
  exact ⟨rfl, K4.out⟩

end Go.Proofs.Ytfobbgmfbpoigaa
