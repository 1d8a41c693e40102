/-
  What the methods of a pile of places do to the world.
-/
import Derived.Test.YtgnbafgglkncmaaRows
import Derived.Test.YtgnbafgglkncmaaPile
import Derived.WalkLawsBesides
import Derived.Deep.RegionHeld3
namespace Go.Proofs.Ytgnbafgglkncmaa
open Go.RowKit

def zp : Value := .agg #[.pointer none, .int .i64 0]
theorem info88 : (Try.prog.info? 88).map (fun i => (i.zero, i.size, i.bytes)) = some (some zp, 2, 16) := by kernel_rfl

/-- A place, as a value. -/
def pv (a : Addr) (i : Int) : Value := .agg #[.pointer (some a), .int .i64 i]
def pc (a : Addr) (i : Int) : List Value := [.pointer (some a), .int .i64 i]

theorem pl_new (w : World) : Calls Try.prog 50 #[] w fun e w' => e = .returned (.pointer (some ⟨w.heap.size, 0, none⟩)) ∧ w' = w.alloc (.cells #[.slice none 0 0] 100) := by
  go_enter Try.func50, Try.ntmps50
  go_wp2
  go_ret
  exact ⟨rfl, rfl⟩

theorem pl_len (w : World) (p : Nat) (v : Value) (n : Nat) (xs : List Value) (h : Pk 2 w 100 88 p v n xs) :
    Calls Try.prog 53 #[.pointer (some ⟨p, 0, none⟩)] w fun e w' => e = .returned (.int .i64 n) ∧ w' = w := by
  obtain ⟨ao, c, rfl, hc, hf, _⟩ := h.out
  clear h
  go_enter Try.func53, Try.ntmps53
  go_wp2
  go_ret
  exact ⟨rfl, rfl⟩

theorem pc_one (a : Addr) (i : Int) : ∀ u, u ∈ pc a i → u.oneCell' = true := fun u hu => by
  simp [pc] at hu
  rcases hu with rfl | rfl <;> rfl

set_option maxHeartbeats 1000000 in
theorem pl_push (w : World) (p : Nat) (v : Value) (n : Nat) (xs : List Value) (a : Addr) (i : Int) (h : Pk 2 w 100 88 p v n xs) (hl : n < 100000) :
    Calls Try.prog 54 #[.pointer (some ⟨p, 0, none⟩), pv a i] w fun e w' => e = .returned (.tuple #[]) ∧ Tk 2 w w' 100 88 p v (n + 1) (xs ++ pc a i) := by
  obtain ⟨ao, c, rfl, hc, hf, hnc, hpl, _⟩ := h.out
  obtain ⟨hp, hown, hpb⟩ := h
  obtain ⟨w1, hw1⟩ : ∃ w1, w1 = ((w.alloc (.cells #[.pointer (some a), .int .i64 i] 88)).alloc (.cells #[.pointer (some a), .int .i64 i] 88)).drew := ⟨_, rfl⟩
  have hk1 : Kp [] w w1 := by rw [hw1]; exact (((Kp.refl _ _).alloc _).alloc _).drew
  have hown1 : OwnK 2 w1 88 (.slice ao n c) n xs := hown.keep hk1 (fun _ _ => by simp)
  have hq : w1.heap[w.heap.size + 1]? = some (.cells #[.pointer (some a), .int .i64 i] 88 (0, 0)) := by rw [hw1]; exact heap_new' _ _ _ (by simp)
  obtain ⟨v', w2, hrun, hown2, hk2, hb2, a2, c2, hv2⟩ := appK Try.underlying98 info88 rfl (by decide) w1 _ n xs hown1 _ 1 _ (src_new Try.underlying98 hq (pc a i) rfl (pc_one a i)) (fun _ => by omega) (by omega)
  have hsz : w1.heap.size = w.heap.size + 2 := by rw [hw1]; simp
  have hp2 : w2.heap[p]? = some (.cells #[.slice ao n c] 100 (0, 0)) := by
    rw [hk2.block p (by omega) hpb, hk1.block p hpl (by simp)]; exact hp
  have hc2 : w2.cell? ⟨p, 0, none⟩ = some (.slice ao n c) := by rw [cell_of hp2]; rfl
  have hf2 : w2.frozen? ⟨p, 0, none⟩ = false := frozen_of hp2 0
  have hfin : Hid (Tk 2 w (w2.setCell ⟨p, 0, none⟩ v') 100 88 p (.slice ao n c) (n + 1) (xs ++ pc a i)) := by
    refine Tk.mk hpl hp2 hpb hown2 ((hk1.mono (T := p :: blk _) (fun y hy => by simp at hy)).trans hk2 (fun y hy => Or.inl (by simp [hy]))) (fun k hk => ?_)
    rcases hb2 k hk with h1 | h1
    · exact Or.inl h1
    · right; omega
  rw [hw1] at hrun
  subst hv2
  clear hk1 hown1 hown2 hk2 hb2 hp2 hown hq hsz hw1 hp hpb
  unfold pv
  go_enter Try.func54, Try.ntmps54
  go_wp2_with fail
  refine wp_region_any (by kernel_rfl) ?_
  change wpAny _ _ _ _ _ _ _ (World.drew _)
  refine wpAny_take (i := 0) (v := ?_) rfl (by kernel_rfl) (by kernel_rfl) (by kernel_rfl) (fun _ _ _ h => h) (Or.inl ⟨by rfl, ?_⟩) ?_
  rotate_left
  · intro w; go_simp <;> with_reducible rfl
  refine wpAny_take (i := 1) (v := ?_) rfl (by kernel_rfl) (by kernel_rfl) (by kernel_rfl) (fun _ _ _ h => h) (Or.inl ⟨by rfl, ?_⟩) ?_
  rotate_left
  · intro w; go_simp <;> with_reducible rfl
  refine wpAny_take (i := 2) (v := ?_) rfl (by kernel_rfl) (by kernel_rfl) (by kernel_rfl) (fun _ _ _ h => h) (Or.inl ⟨by rfl, ?_⟩) ?_
  rotate_left
  · intro w; go_simp <;> with_reducible rfl
  refine wpAny_take (i := 3) (v := ?_) rfl (by kernel_rfl) (by kernel_rfl) (by kernel_rfl) (fun _ _ _ h => h) (Or.inl ⟨by rfl, ?_⟩) ?_
  rotate_left
  · intro w; go_simp <;> with_reducible rfl
  refine wpAny_ready (rs := [4, 5]) (by kernel_rfl) (by simp) (AllReady.cons rfl (fun K hK => ?_) (AllReady.cons rfl (fun K hK => ?_) AllReady.nil))
  · go_simp; refine hK _ _ ?_; clear hK K
    refine wpAny_ready (rs := [5]) (by kernel_rfl) (by simp) (AllReady.cons rfl (fun K hK => ?_) AllReady.nil)
    go_simp; refine hK _ _ ?_; clear hK K
    refine wpAny_ready (rs := [6]) (by kernel_rfl) (by simp) (AllReady.cons rfl (fun K hK => ?_) AllReady.nil)
    go_simp; refine hK _ _ ?_; clear hK K
    refine wpAny_ready (rs := [7]) (by kernel_rfl) (by simp) (AllReady.cons rfl (fun K hK => ?_) AllReady.nil)
    refine step_appR (by rfl) _ _ 98 (by rfl) _ _ (by rfl) (by rfl) hrun ?_; refine hK _ _ ?_; clear hK K
    refine wpAny_take (i := 8) (v := ?_) rfl (by kernel_rfl) (by kernel_rfl) (by kernel_rfl) (fun _ _ _ h => h) (Or.inl ⟨by rfl, ?_⟩) ?_
    rotate_left
    · intro w; go_simp <;> with_reducible rfl
    refine wpAny_take (i := 9) (v := ?_) rfl (by kernel_rfl) (by kernel_rfl) (by kernel_rfl) (fun _ _ _ h => h) (Or.inl ⟨by rfl, ?_⟩) ?_
    rotate_left
    · intro w; go_simp <;> with_reducible rfl
    refine wpAny_ready (rs := [10]) (by kernel_rfl) (by simp) (AllReady.cons rfl (fun K hK => ?_) AllReady.nil)
    go_simp; refine hK _ _ ?_; clear hK K
    refine wpAny_done (by kernel_rfl) ?_ _
    go_end0
    exact ⟨rfl, hfin.out⟩
  · go_simp; refine hK _ _ ?_; clear hK K
    refine wpAny_ready (rs := [4, 6]) (by kernel_rfl) (by simp) (AllReady.cons rfl (fun K hK => ?_) (AllReady.cons rfl (fun K hK => ?_) AllReady.nil))
    · go_simp; refine hK _ _ ?_; clear hK K
      refine wpAny_ready (rs := [6]) (by kernel_rfl) (by simp) (AllReady.cons rfl (fun K hK => ?_) AllReady.nil)
      go_simp; refine hK _ _ ?_; clear hK K
      refine wpAny_ready (rs := [7]) (by kernel_rfl) (by simp) (AllReady.cons rfl (fun K hK => ?_) AllReady.nil)
      refine step_appR (by rfl) _ _ 98 (by rfl) _ _ (by rfl) (by rfl) hrun ?_; refine hK _ _ ?_; clear hK K
      refine wpAny_take (i := 8) (v := ?_) rfl (by kernel_rfl) (by kernel_rfl) (by kernel_rfl) (fun _ _ _ h => h) (Or.inl ⟨by rfl, ?_⟩) ?_
      rotate_left
      · intro w; go_simp <;> with_reducible rfl
      refine wpAny_take (i := 9) (v := ?_) rfl (by kernel_rfl) (by kernel_rfl) (by kernel_rfl) (fun _ _ _ h => h) (Or.inl ⟨by rfl, ?_⟩) ?_
      rotate_left
      · intro w; go_simp <;> with_reducible rfl
      refine wpAny_ready (rs := [10]) (by kernel_rfl) (by simp) (AllReady.cons rfl (fun K hK => ?_) AllReady.nil)
      go_simp; refine hK _ _ ?_; clear hK K
      refine wpAny_done (by kernel_rfl) ?_ _
      go_end0
      exact ⟨rfl, hfin.out⟩
    · go_simp; refine hK _ _ ?_; clear hK K
      refine wpAny_ready (rs := [4]) (by kernel_rfl) (by simp) (AllReady.cons rfl (fun K hK => ?_) AllReady.nil)
      go_simp; refine hK _ _ ?_; clear hK K
      refine wpAny_ready (rs := [7]) (by kernel_rfl) (by simp) (AllReady.cons rfl (fun K hK => ?_) AllReady.nil)
      refine step_appR (by rfl) _ _ 98 (by rfl) _ _ (by rfl) (by rfl) hrun ?_; refine hK _ _ ?_; clear hK K
      refine wpAny_take (i := 8) (v := ?_) rfl (by kernel_rfl) (by kernel_rfl) (by kernel_rfl) (fun _ _ _ h => h) (Or.inl ⟨by rfl, ?_⟩) ?_
      rotate_left
      · intro w; go_simp <;> with_reducible rfl
      refine wpAny_take (i := 9) (v := ?_) rfl (by kernel_rfl) (by kernel_rfl) (by kernel_rfl) (fun _ _ _ h => h) (Or.inl ⟨by rfl, ?_⟩) ?_
      rotate_left
      · intro w; go_simp <;> with_reducible rfl
      refine wpAny_ready (rs := [10]) (by kernel_rfl) (by simp) (AllReady.cons rfl (fun K hK => ?_) AllReady.nil)
      go_simp; refine hK _ _ ?_; clear hK K
      refine wpAny_done (by kernel_rfl) ?_ _
      go_end0
      exact ⟨rfl, hfin.out⟩

theorem pl_holds_in (w : World) (p : Nat) (v : Value) (n : Nat) (xs : List Value) (i : Nat) (h : Pk 2 w 100 88 p v n xs) (h1 : i < n) :
    Calls Try.prog 81 #[.pointer (some ⟨p, 0, none⟩), .int .i64 i] w fun e w' => e = .returned (.bool true) ∧ w' = w := by
  obtain ⟨ao, c, rfl, hc, hf, _⟩ := h.out
  clear h
  have h2 : (0 : Int) ≤ (i : Int) := by omega
  have h3 : (i : Int) < (n : Int) := by omega
  go_enter Try.func81, Try.ntmps81
  go_wp2
  go_ret
  exact ⟨rfl, rfl⟩

theorem pl_holds_none (w : World) (p : Nat) (v : Value) (xs : List Value) (h : Pk 2 w 100 88 p v 0 xs) :
    Calls Try.prog 81 #[.pointer (some ⟨p, 0, none⟩), .int .i64 (-1)] w fun e w' => e = .returned (.bool false) ∧ w' = w := by
  obtain ⟨ao, c, rfl, hc, hf, _⟩ := h.out
  clear h
  go_enter Try.func81, Try.ntmps81
  go_wp2
  go_ret
  exact ⟨rfl, rfl⟩

set_option maxHeartbeats 1000000 in
theorem pl_at_in (w : World) (p : Nat) (v : Value) (n : Nat) (xs : List Value) (i : Nat) (a : Addr) (k : Int) (h : Pk 2 w 100 88 p v n xs) (h1 : i < n) (e0 : xs[i * 2]? = some (.pointer (some a))) (e1 : xs[i * 2 + 1]? = some (.int .i64 k)) (hn : n < 1000000) :
    Calls Try.prog 77 #[.pointer (some ⟨p, 0, none⟩), .int .i64 i] w fun e w' => e = .returned (.tuple #[pv a k, .bool true]) ∧ Kp [] w w' := by
  obtain ⟨ao, c, hv, hc, hf, hnc, hpl, hcs⟩ := h.out
  obtain ⟨g, o, rfl, hgp, hcs⟩ := hcs (by omega)
  have c0 := (hcs (i * 2) (by omega)).1
  have c1 := (hcs (i * 2 + 1) (by omega)).1
  rw [e0] at c0
  rw [e1, ← Nat.add_assoc] at c1
  have hgl : g < w.heap.size := block_lt_of_cell c0
  obtain ⟨w1, hw1⟩ : ∃ w1, w1 = w.alloc (.cells #[.pointer none, .int .i64 0] 88) := ⟨_, rfl⟩
  have hk : Kp [] w w1 := by rw [hw1]; exact (Kp.refl _ _).alloc _
  have hh := pl_holds_in w1 p v n xs i (h.keep hk (by simp) (fun _ _ => by simp)) h1
  rw [hw1] at hh
  have h2 : (0 : Int) ≤ (i : Int) := by omega
  have h3 : (i : Int) < (n : Int) := by omega
  clear h hcs hv e0 e1 hk hw1 w1
  go_enter Try.func77, Try.ntmps77
  go_wp2_with (go_at_call 81; refine hh.mono ?_; rintro e w' ⟨rfl, rfl⟩)
  refine bodyPost_ret (v := .tuple #[pv a k, .bool true]) (by simp [results, go_sem, pv]) rfl ⟨rfl, (Kp.refl _ _).alloc _⟩

set_option maxHeartbeats 1000000 in
theorem pl_at_none (w : World) (p : Nat) (v : Value) (xs : List Value) (h : Pk 2 w 100 88 p v 0 xs) :
    Calls Try.prog 77 #[.pointer (some ⟨p, 0, none⟩), .int .i64 (-1)] w fun e w' => e = .returned (.tuple #[zp, .bool false]) ∧ Kp [] w w' := by
  have hh := fun w1 (hk : Kp [] w w1) => pl_holds_none w1 p v xs (h.keep hk (by simp) (fun _ _ => by simp))
  have H1 := hh _ ((Kp.refl [] w).alloc (.cells #[.pointer none, .int .i64 0] 88))
  clear hh h
  go_enter Try.func77, Try.ntmps77
  go_wp2_with (go_at_call 81; refine H1.mono ?_; rintro e w' ⟨rfl, rfl⟩)
  refine bodyPost_ret (v := .tuple #[zp, .bool false]) (by simp [results, go_sem, zp]) rfl ⟨rfl, ?_⟩
  exact ((Kp.refl _ _).alloc _).alloc _

theorem zv88 (w : World) : (zeroValue 88).run Try.prog w = .ok zp w := by kernel_rfl

set_option maxHeartbeats 1000000 in
/-- slices.Delete, of the last one. -/
theorem pl_delete (w : World) (g o n c : Nat) (xs ys : List Value) (hown : OwnK 2 w 88 (.slice (some ⟨g, o, none⟩) (n + 1) c) (n + 1) (xs ++ ys)) (hx : xs.length = n * 2) (hl : n < 100000) :
    Calls Try.prog 78 #[.slice (some ⟨g, o, none⟩) (n + 1) c, .int .i64 (n : Int), .int .i64 ((n : Int) + 1)] w fun e w' => e = .returned (.slice (some ⟨g, o, none⟩) n c) ∧ OwnK 2 w' 88 (.slice (some ⟨g, o, none⟩) n c) n xs ∧ Kp [g] w w' := by
  have HF : Hid (OwnK 2 (w.drew.setCells g (o + n * 2) [.pointer none, .int .i64 0]) 88 (.slice (some ⟨g, o, none⟩) n c) n xs ∧ Kp [g] w (w.drew.setCells g (o + n * 2) [.pointer none, .int .i64 0])) :=
    ⟨(hown.keep (Kp.refl [] w).drew (fun _ _ => by simp)).pop hx rfl, Kp.setCells g (Or.inl (by simp)) _ _ _ (Kp.refl _ _).drew⟩
  have hnc : n + 1 ≤ c := by
    rcases hown.2 with ⟨h1, _⟩ | ⟨g', o', cap', cur, hv, hg, h1, h2, h3, h4⟩
    · cases h1
    · simp only [Value.slice.injEq] at hv
      omega
  have HC : ∀ ty, (Builtin.clear_ #[98] ty #[.slice (some ⟨g, o + n * 2, none⟩) 1 (c - n)]).run Try.prog w.drew = .ok (.tuple #[]) (w.drew.setCells g (o + n * 2) [.pointer none, .int .i64 0]) := fun ty => by
    rcases hown.2 with ⟨h1, _⟩ | ⟨g', o', cap', cur, hv, hg, h1, h2, h3, h4⟩
    · cases h1
    · simp only [Value.slice.injEq, Option.some.injEq, Addr.mk.injEq] at hv
      obtain ⟨⟨rfl, rfl, _⟩, _, rfl⟩ := hv
      exact clear_one w.drew 98 88 ty zp _ Try.underlying98 zv88 rfl (fun u hu => by simp at hu; rcases hu with rfl | rfl <;> rfl) g (o + n * 2) (c - n)
        (fun j hj => by
          show (w.cell? _).isSome = true
          simp at hj
          rw [cell_of hg, Array.getElem?_eq_getElem (by omega)]; rfl) (fun j hj => frozen_of (w := w) hg _)
  have HA : ∀ W : World, (storeCells ⟨g, o + n * 2, none⟩ []).run Try.prog W = .ok () W := fun W => rfl
  clear hown hx
  have i1 : (0 : Int) ≤ (n : Int) := by omega
  have i4 : (0 : Int) ≤ (n : Int) + 1 := by omega
  have i5 : (n : Int) ≤ (n : Int) + 1 := by omega
  by_cases hlt : n + 1 < c
  · have i2 : (n : Int) ≤ (c : Int) := by omega
    have i3 : (n : Int) + 1 ≤ (c : Int) := by omega
    have i6 : ¬ c = n + 1 := by omega
    have HB := app_none (P := Try.prog) Try.underlying98 info88 w.drew g o n c ⟨g, o + (n + 1) * 2, none⟩ (c - (n + 1)) (by omega)
    clear HA
    go_enter Try.func78, Try.ntmps78
    go_wp2_with fail
    go_region_held3 (fun _ => True) (trivial)
      (first | refine step_appR (by rfl) _ _ 98 (by rfl) _ _ (by rfl) (by rfl) HB ?_)
    go_wp2_with (at_builtin; refine wpList_clear_run _ rfl _ _ rfl _ rfl HC ?_)
    go_ret
    exact ⟨rfl, HF.out⟩
  · obtain rfl : c = n + 1 := by omega
    rw [show n + 1 - n = 1 by omega] at HC
    go_enter Try.func78, Try.ntmps78
    go_wp2_with fail
    go_region_held3 (fun _ => True) (trivial)
      (fail)
    go_wp2_with (at_builtin; refine wpList_clear_run _ rfl _ _ rfl _ rfl HC ?_)
    go_ret
    exact ⟨rfl, HF.out⟩

end Go.Proofs.Ytgnbafgglkncmaa
