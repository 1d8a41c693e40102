/-
  What the methods New, Push, Len, holds, At, Set and Top of a pile of pointers do to the world.
-/
import Derived.Test.YtfobbgmfbpoigaaPl
import Derived.WalkLawsBesides
namespace Go.Proofs.Ytfobbgmfbpoigaa.Ints
open Go.RowKit

theorem info : (Try.prog.info? 67).map (fun i => (i.zero, i.size, i.bytes)) = some (some (Value.pointer none), 1, 8) := by kernel_rfl

/-- A pile that holds zs. -/
def PX (w : World) (p : Nat) (v : Value) (zs : List (Option Addr)) : Prop := Pile w 79 67 p v (zs.map (Value.pointer))
/-- It holds zs now. -/
def TX (w w' : World) (p : Nat) (v : Value) (zs : List (Option Addr)) : Prop := Turned w w' 79 67 p v (zs.map (Value.pointer))

theorem new_any (w : World) : Calls Try.prog 36 #[] w fun e w' => e = .returned (.pointer (some ⟨w.heap.size, 0, none⟩)) ∧ w' = w.alloc (.cells #[.slice none 0 0] 79) := by
  go_enter Try.func36, Try.ntmps36
  go_wp2
  go_ret
  exact ⟨rfl, rfl⟩

set_option maxHeartbeats 400000 in
theorem push_any (w : World) (p : Nat) (v : Value) (zs : List (Option Addr)) (x : (Option Addr)) (h : PX w p v zs) (hl : zs.length < 100000) :
    Calls Try.prog 37 #[.pointer (some ⟨p, 0, none⟩), Value.pointer x] w fun e w' => e = .returned (.tuple #[]) ∧ TX w w' p v (zs ++ [x]) := by
  obtain ⟨hp, hown, hpb⟩ := h
  have hpl : p < w.heap.size := (Array.getElem?_eq_some_iff.1 hp).1
  have hc : w.cell? ⟨p, 0, none⟩ = some v := by rw [cell_of hp]; rfl
  have hk1 : Kp (blk v) w (w.alloc (.cells #[Value.pointer x] 67)) := (Kp.refl _ _).alloc _
  have hown1 : Ow (w.alloc (.cells #[Value.pointer x] 67)) 67 v (zs.map (Value.pointer)) := hown.keep ((Kp.refl [] w).alloc _) (fun _ _ => by simp)
  have hsrc : Src Try.prog 1 77 (.slice (some ⟨w.heap.size, 0, none⟩) 1 1) 1 [Value.pointer x] (w.alloc (.cells #[Value.pointer x] 67)) :=
    Src.ofSlice _ Try.underlying77 ⟨w.heap.size, 0, none⟩ 1 1 [Value.pointer x] rfl (fun j u hj => by
      match j, hj with
      | 0, hj => simp at hj; subst hj; simp [Addr.add]) (fun u hu => by simp at hu; subst hu; rfl)
  obtain ⟨v', w2, hrun, hown2, hk2, hb2, a2, c2, hv2⟩ := ow_app Try.underlying77 info rfl (by decide) _ v _ hown1 _ 1 _ hsrc (fun _ => by omega) (by simp; omega)
  have hp2 : w2.heap[p]? = some (.cells #[v] 79 (0, 0)) := by
    rw [hk2.block p (by simp; omega) hpb, Below.heap_alloc _ _ _ hpl]; exact hp
  have hc2 : w2.cell? ⟨p, 0, none⟩ = some v := by rw [cell_of hp2]; rfl
  have hf2 : w2.frozen? ⟨p, 0, none⟩ = false := frozen_of hp2 0
  have hfin : TX w (w2.setCell ⟨p, 0, none⟩ v') p v (zs ++ [x]) := by
    refine Turned.mk hpl hp2 hpb (by simpa using hown2) ((hk1.trans hk2 (fun y hy => Or.inl hy)).mono (fun y hy => Or.inl (by simp [hy]))) (fun k hk => ?_)
    rcases hb2 k hk with h1 | h1
    · exact Or.inl h1
    · right; rw [h1]; simp
  rw [List.length_map] at hv2
  subst hv2
  clear hk1 hown1 hsrc hown2 hk2 hb2 hp2
  go_enter Try.func37, Try.ntmps37
  go_wp2_with (at_builtin; refine Lib.wpList_append_run _ rfl _ _ _ _ rfl _ _ rfl rfl _ _ (hrun _) ?_)
  go_end0
  exact ⟨rfl, hfin⟩

/-- What the walks want of a pile: its slice written out. -/
theorem PX.out {w : World} {p : Nat} {v : Value} {zs : List (Option Addr)} (h : PX w p v zs) : ∃ ao c, v = .slice ao zs.length c ∧ w.cell? ⟨p, 0, none⟩ = some (.slice ao zs.length c) ∧ w.frozen? ⟨p, 0, none⟩ = false ∧
    ∀ j (hj : j < zs.length), ∃ g, ao = some ⟨g, 0, none⟩ ∧ g ≠ p ∧ w.cell? ⟨g, j, none⟩ = some (Value.pointer zs[j]) ∧ w.frozen? ⟨g, j, none⟩ = false := by
  obtain ⟨hp, hown, hpb⟩ := h
  have hc : w.cell? ⟨p, 0, none⟩ = some v := by rw [cell_of hp]; rfl
  rcases hown with ⟨rfl, h0⟩ | ⟨g, cap, cur, rfl, hg, h1, h2, h3, h4⟩
  · obtain rfl : zs = [] := by simpa using h0
    exact ⟨none, 0, rfl, hc, frozen_of hp 0, fun j hj => by simp at hj⟩
  · rw [List.length_map] at hc h4 ⊢
    exact ⟨some ⟨g, 0, none⟩, cap, rfl, hc, frozen_of hp 0, fun j hj => ⟨g, rfl, by simp [blk] at hpb; omega, by rw [cell_of hg, h4 j hj]; simp [hj], frozen_of hg j⟩⟩

theorem len_any (w : World) (p : Nat) (v : Value) (zs : List (Option Addr)) (h : PX w p v zs) :
    Calls Try.prog 41 #[.pointer (some ⟨p, 0, none⟩)] w fun e w' => e = .returned (.int .i64 zs.length) ∧ w' = w := by
  obtain ⟨ao, c, rfl, hc, hf, hcs⟩ := h.out
  clear h hcs
  go_enter Try.func41, Try.ntmps41
  go_wp2
  go_ret
  exact ⟨rfl, rfl⟩

theorem holds_in (w : World) (p : Nat) (v : Value) (zs : List (Option Addr)) (i : Int) (h : PX w p v zs) (h0 : 0 ≤ i) (h1 : i < zs.length) :
    Calls Try.prog 44 #[.pointer (some ⟨p, 0, none⟩), .int .i64 i] w fun e w' => e = .returned (.bool true) ∧ w' = w := by
  obtain ⟨ao, c, rfl, hc, hf, hcs⟩ := h.out
  clear h hcs
  go_enter Try.func44, Try.ntmps44
  go_wp2
  go_ret
  exact ⟨rfl, rfl⟩

theorem holds_out (w : World) (p : Nat) (v : Value) (zs : List (Option Addr)) (i : Int) (h : PX w p v zs) (h1 : i < 0 ∨ zs.length ≤ i) :
    Calls Try.prog 44 #[.pointer (some ⟨p, 0, none⟩), .int .i64 i] w fun e w' => e = .returned (.bool false) ∧ w' = w := by
  obtain ⟨ao, c, rfl, hc, hf, hcs⟩ := h.out
  clear h hcs
  rcases h1 with h1 | h1
  · go_enter Try.func44, Try.ntmps44
    go_wp2
    go_ret
    exact ⟨rfl, rfl⟩
  · have h2 : 0 ≤ i := by omega
    have h3 : decide (i < (zs.length : Int)) = false := by simp; omega
    go_enter Try.func44, Try.ntmps44
    go_wp2
    go_ret
    exact ⟨rfl, rfl⟩

theorem at_in (w : World) (p : Nat) (v : Value) (zs : List (Option Addr)) (i : Int) (h : PX w p v zs) (h0 : 0 ≤ i) (h1 : i < zs.length) (y : (Option Addr)) (hy : zs[i.toNat]? = some y) :
    Calls Try.prog 43 #[.pointer (some ⟨p, 0, none⟩), .int .i64 i] w fun e w' => e = .returned (.tuple #[Value.pointer y, .bool true]) ∧ w' = w := by
  obtain ⟨ao, c, hv, hc, hf, hcs⟩ := h.out
  obtain ⟨g, rfl, hgp, hg1, hg2⟩ := hcs i.toNat (by omega)
  rw [List.getElem?_eq_getElem (by omega)] at hy
  obtain rfl : zs[i.toNat] = y := by simpa using hy
  have hh := holds_in w p v zs i h h0 h1
  obtain ⟨u, hu⟩ : ∃ u, u = zs[i.toNat] := ⟨_, rfl⟩
  rw [← hu] at hg1 ⊢
  clear h hcs hv hy hu
  go_enter Try.func43, Try.ntmps43
  go_wp2_with (go_at_call 44; refine hh.mono ?_; rintro e w' ⟨rfl, rfl⟩)
  go_ret2
  exact ⟨rfl, rfl⟩

theorem at_out (w : World) (p : Nat) (v : Value) (zs : List (Option Addr)) (i : Int) (h : PX w p v zs) (h1 : i < 0 ∨ zs.length ≤ i) :
    Calls Try.prog 43 #[.pointer (some ⟨p, 0, none⟩), .int .i64 i] w fun e w' => e = .returned (.tuple #[Value.pointer none, .bool false]) ∧ w' = w := by
  have hh := holds_out w p v zs i h h1
  clear h h1
  go_enter Try.func43, Try.ntmps43
  go_wp2_with (go_at_call 44; refine hh.mono ?_; rintro e w' ⟨rfl, rfl⟩)
  go_ret2
  exact ⟨rfl, rfl⟩

end Go.Proofs.Ytfobbgmfbpoigaa.Ints
