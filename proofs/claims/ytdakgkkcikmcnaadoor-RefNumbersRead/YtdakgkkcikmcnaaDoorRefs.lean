/-
  The document's Starts, Fold, Find, Until, Skip and Name, of any text and any place.
-/
import Derived.Test.YtdakgkkcikmcnaaDoorReads
namespace Go.Proofs.YtdakgkkcikmcnaaDoor
open Go.RowKit Utf

set_option maxHeartbeats 1000000 in
set_option maxRecDepth 100000 in
theorem ref_starts_any (w : World) (s : ByteArray) (p : Int) (sub : ByteArray) (hs : s.size ≤ 100000) (hb : sub.size ≤ 100000) : Calls Tryd.prog 23 #[.string s, .int .i64 p, .string sub] w fun e w' => e = .returned (.bool (st s (pl s.size p) sub)) ∧ w' = w := by
  have HP := ref_place_any w s p
  have hpl := pl_le s.size p
  generalize pl s.size p = a at HP hpl
  by_cases hf : a + sub.size ≤ s.size
  · have hd : Hid (((s.extract a (a + sub.size)).toList == sub.toList) = st s a sub) := by
      show _ = _
      rw [st_cut hf, list_eq]
    have hc : ((sub.size : Int) ≤ (s.size : Int) - (a : Int)) := by omega
    go_enter Tryd.func23, Tryd.ntmps23
    go_wp2_with fail
    refine HP.mono ?_
    rintro e w1 ⟨rfl, rfl⟩
    clear HP
    go_wp2
    go_ret
    exact ⟨by rw [← hd.out]; rfl, rfl⟩
  · have hc : ¬ ((sub.size : Int) ≤ (s.size : Int) - (a : Int)) := by omega
    rw [st_long hf]
    clear hf
    go_enter Tryd.func23, Tryd.ntmps23
    go_wp2_with fail
    refine HP.mono ?_
    rintro e w1 ⟨rfl, rfl⟩
    clear HP
    go_wp2
    go_ret
    exact ⟨rfl, rfl⟩

theorem ref_fold_any (w : World) (s : ByteArray) (p : Int) (sub : ByteArray) (hs : s.size ≤ 100000) (hb : sub.size ≤ 100000) : Calls Tryd.prog 24 #[.string s, .int .i64 p, .string sub] w fun e w' => e = .returned (.bool (fo s (pl s.size p) sub)) ∧ Kp [] w w' := by
  have H1 := ref_lower_any w s hs
  go_enter Tryd.func24, Tryd.ntmps24
  go_wp2_with fail
  refine H1.mono ?_
  rintro e w1 ⟨rfl, k1⟩
  clear H1
  have H2 := ref_lower_any w1 sub hb
  go_wp2_with fail
  refine H2.mono ?_
  rintro e w2 ⟨rfl, k2⟩
  clear H2
  have k3 := k1.trans k2 (fun x hx => by simp at hx)
  have H3 := ref_starts_any w2 (lower s) p (lower sub) (by rw [lower_size]; exact hs) (by rw [lower_size]; exact hb)
  rw [lower_size, st_lower] at H3
  clear k1 k2
  go_wp2_with fail
  refine H3.mono ?_
  rintro e w3 ⟨rfl, rfl⟩
  clear H3
  go_wp2
  go_ret
  exact ⟨rfl, k3⟩





end Go.Proofs.YtdakgkkcikmcnaaDoor
