/-
  Joined: Places PlacesB Keys Walk.
-/
import Derived.Test.YtgjkfpmhgidpaaaGreatRows
import Derived.Test.YtgjkfpmhgidpaaaGreatGP
import Derived.WalkLawsBesides
import Derived.Deep.RegionHeld3
import Derived.Test.YtgjkfpmhgidpaaaGreatGB
import Derived.LaidEqlPtr
import Derived.Maps.OwnSet
import Derived.Test.YtgjkfpmhgidpaaaGreatVisits
import Derived.Test.YtgjkfpmhgidpaaaGreatGT

/-
  What the methods of a pile of places do to the world.
-/
namespace Go.Proofs.YtgjkfpmhgidpaaaGreat
open Go.RowKit

def zp : Value := .agg #[.pointer none, .int .i64 0]
theorem info88 : (Tryz.prog.info? 132).map (fun i => (i.zero, i.size, i.bytes)) = some (some zp, 2, 16) := by kernel_rfl

/-- A place, as a value. -/
def pv (a : Addr) (i : Int) : Value := .agg #[.pointer (some a), .int .i64 i]
def pc (a : Addr) (i : Int) : List Value := [.pointer (some a), .int .i64 i]

theorem pl_new (w : World) : Calls Tryz.prog 86 #[] w fun e w' => e = .returned (.pointer (some ⟨w.heap.size, 0, none⟩)) ∧ w' = w.alloc (.cells #[.slice none 0 0] 149) := by
  go_enter Tryz.func86, Tryz.ntmps86
  go_wp2
  go_ret
  exact ⟨rfl, rfl⟩

theorem pl_len (w : World) (p : Nat) (v : Value) (n : Nat) (xs : List Value) (h : Pk 2 w 149 132 p v n xs) :
    Calls Tryz.prog 89 #[.pointer (some ⟨p, 0, none⟩)] w fun e w' => e = .returned (.int .i64 n) ∧ w' = w := by
  obtain ⟨ao, c, rfl, hc, hf, _⟩ := h.out
  clear h
  go_enter Tryz.func89, Tryz.ntmps89
  go_wp2
  go_ret
  exact ⟨rfl, rfl⟩

theorem pc_one (a : Addr) (i : Int) : ∀ u, u ∈ pc a i → u.oneCell' = true := fun u hu => by
  simp [pc] at hu
  rcases hu with rfl | rfl <;> rfl

set_option maxHeartbeats 1000000 in
theorem pl_push (w : World) (p : Nat) (v : Value) (n : Nat) (xs : List Value) (a : Addr) (i : Int) (h : Pk 2 w 149 132 p v n xs) (hl : n < 100000) :
    Calls Tryz.prog 90 #[.pointer (some ⟨p, 0, none⟩), pv a i] w fun e w' => e = .returned (.tuple #[]) ∧ Tk 2 w w' 149 132 p v (n + 1) (xs ++ pc a i) := by
  obtain ⟨ao, c, rfl, hc, hf, hnc, hpl, _⟩ := h.out
  obtain ⟨hp, hown, hpb⟩ := h
  obtain ⟨w1, hw1⟩ : ∃ w1, w1 = ((w.alloc (.cells #[.pointer (some a), .int .i64 i] 132)).alloc (.cells #[.pointer (some a), .int .i64 i] 132)).drew := ⟨_, rfl⟩
  have hk1 : Kp [] w w1 := by rw [hw1]; exact (((Kp.refl _ _).alloc _).alloc _).drew
  have hown1 : OwnK 2 w1 132 (.slice ao n c) n xs := hown.keep hk1 (fun _ _ => by simp)
  have hq : w1.heap[w.heap.size + 1]? = some (.cells #[.pointer (some a), .int .i64 i] 132 (0, 0)) := by rw [hw1]; exact heap_new' _ _ _ (by simp)
  obtain ⟨v', w2, hrun, hown2, hk2, hb2, a2, c2, hv2⟩ := appK Tryz.underlying147 info88 rfl (by decide) w1 _ n xs hown1 _ 1 _ (src_new Tryz.underlying147 hq (pc a i) rfl (pc_one a i)) (fun _ => by omega) (by omega)
  have hsz : w1.heap.size = w.heap.size + 2 := by rw [hw1]; simp
  have hp2 : w2.heap[p]? = some (.cells #[.slice ao n c] 149 (0, 0)) := by
    rw [hk2.block p (by omega) hpb, hk1.block p hpl (by simp)]; exact hp
  have hc2 : w2.cell? ⟨p, 0, none⟩ = some (.slice ao n c) := by rw [cell_of hp2]; rfl
  have hf2 : w2.frozen? ⟨p, 0, none⟩ = false := frozen_of hp2 0
  have hfin : Hid (Tk 2 w (w2.setCell ⟨p, 0, none⟩ v') 149 132 p (.slice ao n c) (n + 1) (xs ++ pc a i)) := by
    refine Tk.mk hpl hp2 hpb hown2 ((hk1.mono (T := p :: blk _) (fun y hy => by simp at hy)).trans hk2 (fun y hy => Or.inl (by simp [hy]))) (fun k hk => ?_)
    rcases hb2 k hk with h1 | h1
    · exact Or.inl h1
    · right; omega
  rw [hw1] at hrun
  subst hv2
  clear hk1 hown1 hown2 hk2 hb2 hp2 hown hq hsz hw1 hp hpb
  unfold pv
  go_enter Tryz.func90, Tryz.ntmps90
  go_wp2_with fail
  refine wp_region_any (by kernel_rfl) ?_
  change wpAny _ _ _ _ _ _ _ (World.drew _)
  refine wpAny_take (i := 0) (v := ?_) rfl (by kernel_rfl) (by kernel_rfl) (by kernel_rfl) (fun _ _ _ h => h) (Or.inl ⟨by rfl, ?_⟩) ?_
  rotate_left
  · intro w; go_simp <;> with_reducible rfl
  refine wpAny_take (i := 1) (v := ?_) rfl (by kernel_rfl) (by kernel_rfl) (by kernel_rfl) (fun _ _ _ h => h) (Or.inl ⟨by rfl, ?_⟩) ?_
  rotate_left
  · intro w; go_simp <;> with_reducible rfl
  refine wpAny_take (i := 2) (v := ?_) rfl (by kernel_rfl) (by kernel_rfl) (by kernel_rfl) (fun _ _ _ h => h) (Or.inl ⟨by rfl, ?_⟩) ?_
  rotate_left
  · intro w; go_simp <;> with_reducible rfl
  refine wpAny_take (i := 3) (v := ?_) rfl (by kernel_rfl) (by kernel_rfl) (by kernel_rfl) (fun _ _ _ h => h) (Or.inl ⟨by rfl, ?_⟩) ?_
  rotate_left
  · intro w; go_simp <;> with_reducible rfl
  refine wpAny_ready (rs := [4, 5]) (by kernel_rfl) (by simp) (AllReady.cons rfl (fun K hK => ?_) (AllReady.cons rfl (fun K hK => ?_) AllReady.nil))
  · go_simp; refine hK _ _ ?_; clear hK K
    refine wpAny_ready (rs := [5]) (by kernel_rfl) (by simp) (AllReady.cons rfl (fun K hK => ?_) AllReady.nil)
    go_simp; refine hK _ _ ?_; clear hK K
    refine wpAny_ready (rs := [6]) (by kernel_rfl) (by simp) (AllReady.cons rfl (fun K hK => ?_) AllReady.nil)
    go_simp; refine hK _ _ ?_; clear hK K
    refine wpAny_ready (rs := [7]) (by kernel_rfl) (by simp) (AllReady.cons rfl (fun K hK => ?_) AllReady.nil)
    refine step_appR (by rfl) _ _ 147 (by rfl) _ _ (by rfl) (by rfl) hrun ?_; refine hK _ _ ?_; clear hK K
    refine wpAny_take (i := 8) (v := ?_) rfl (by kernel_rfl) (by kernel_rfl) (by kernel_rfl) (fun _ _ _ h => h) (Or.inl ⟨by rfl, ?_⟩) ?_
    rotate_left
    · intro w; go_simp <;> with_reducible rfl
    refine wpAny_take (i := 9) (v := ?_) rfl (by kernel_rfl) (by kernel_rfl) (by kernel_rfl) (fun _ _ _ h => h) (Or.inl ⟨by rfl, ?_⟩) ?_
    rotate_left
    · intro w; go_simp <;> with_reducible rfl
    refine wpAny_ready (rs := [10]) (by kernel_rfl) (by simp) (AllReady.cons rfl (fun K hK => ?_) AllReady.nil)
    go_simp; refine hK _ _ ?_; clear hK K
    refine wpAny_done (by kernel_rfl) ?_ _
    go_end0
    exact ⟨rfl, hfin.out⟩
  · go_simp; refine hK _ _ ?_; clear hK K
    refine wpAny_ready (rs := [4, 6]) (by kernel_rfl) (by simp) (AllReady.cons rfl (fun K hK => ?_) (AllReady.cons rfl (fun K hK => ?_) AllReady.nil))
    · go_simp; refine hK _ _ ?_; clear hK K
      refine wpAny_ready (rs := [6]) (by kernel_rfl) (by simp) (AllReady.cons rfl (fun K hK => ?_) AllReady.nil)
      go_simp; refine hK _ _ ?_; clear hK K
      refine wpAny_ready (rs := [7]) (by kernel_rfl) (by simp) (AllReady.cons rfl (fun K hK => ?_) AllReady.nil)
      refine step_appR (by rfl) _ _ 147 (by rfl) _ _ (by rfl) (by rfl) hrun ?_; refine hK _ _ ?_; clear hK K
      refine wpAny_take (i := 8) (v := ?_) rfl (by kernel_rfl) (by kernel_rfl) (by kernel_rfl) (fun _ _ _ h => h) (Or.inl ⟨by rfl, ?_⟩) ?_
      rotate_left
      · intro w; go_simp <;> with_reducible rfl
      refine wpAny_take (i := 9) (v := ?_) rfl (by kernel_rfl) (by kernel_rfl) (by kernel_rfl) (fun _ _ _ h => h) (Or.inl ⟨by rfl, ?_⟩) ?_
      rotate_left
      · intro w; go_simp <;> with_reducible rfl
      refine wpAny_ready (rs := [10]) (by kernel_rfl) (by simp) (AllReady.cons rfl (fun K hK => ?_) AllReady.nil)
      go_simp; refine hK _ _ ?_; clear hK K
      refine wpAny_done (by kernel_rfl) ?_ _
      go_end0
      exact ⟨rfl, hfin.out⟩
    · go_simp; refine hK _ _ ?_; clear hK K
      refine wpAny_ready (rs := [4]) (by kernel_rfl) (by simp) (AllReady.cons rfl (fun K hK => ?_) AllReady.nil)
      go_simp; refine hK _ _ ?_; clear hK K
      refine wpAny_ready (rs := [7]) (by kernel_rfl) (by simp) (AllReady.cons rfl (fun K hK => ?_) AllReady.nil)
      refine step_appR (by rfl) _ _ 147 (by rfl) _ _ (by rfl) (by rfl) hrun ?_; refine hK _ _ ?_; clear hK K
      refine wpAny_take (i := 8) (v := ?_) rfl (by kernel_rfl) (by kernel_rfl) (by kernel_rfl) (fun _ _ _ h => h) (Or.inl ⟨by rfl, ?_⟩) ?_
      rotate_left
      · intro w; go_simp <;> with_reducible rfl
      refine wpAny_take (i := 9) (v := ?_) rfl (by kernel_rfl) (by kernel_rfl) (by kernel_rfl) (fun _ _ _ h => h) (Or.inl ⟨by rfl, ?_⟩) ?_
      rotate_left
      · intro w; go_simp <;> with_reducible rfl
      refine wpAny_ready (rs := [10]) (by kernel_rfl) (by simp) (AllReady.cons rfl (fun K hK => ?_) AllReady.nil)
      go_simp; refine hK _ _ ?_; clear hK K
      refine wpAny_done (by kernel_rfl) ?_ _
      go_end0
      exact ⟨rfl, hfin.out⟩

theorem pl_holds_in (w : World) (p : Nat) (v : Value) (n : Nat) (xs : List Value) (i : Nat) (h : Pk 2 w 149 132 p v n xs) (h1 : i < n) :
    Calls Tryz.prog 120 #[.pointer (some ⟨p, 0, none⟩), .int .i64 i] w fun e w' => e = .returned (.bool true) ∧ w' = w := by
  obtain ⟨ao, c, rfl, hc, hf, _⟩ := h.out
  clear h
  have h2 : (0 : Int) ≤ (i : Int) := by omega
  have h3 : (i : Int) < (n : Int) := by omega
  go_enter Tryz.func120, Tryz.ntmps120
  go_wp2
  go_ret
  exact ⟨rfl, rfl⟩

theorem pl_holds_none (w : World) (p : Nat) (v : Value) (xs : List Value) (h : Pk 2 w 149 132 p v 0 xs) :
    Calls Tryz.prog 120 #[.pointer (some ⟨p, 0, none⟩), .int .i64 (-1)] w fun e w' => e = .returned (.bool false) ∧ w' = w := by
  obtain ⟨ao, c, rfl, hc, hf, _⟩ := h.out
  clear h
  go_enter Tryz.func120, Tryz.ntmps120
  go_wp2
  go_ret
  exact ⟨rfl, rfl⟩

set_option maxHeartbeats 1000000 in
theorem pl_at_in (w : World) (p : Nat) (v : Value) (n : Nat) (xs : List Value) (i : Nat) (a : Addr) (k : Int) (h : Pk 2 w 149 132 p v n xs) (h1 : i < n) (e0 : xs[i * 2]? = some (.pointer (some a))) (e1 : xs[i * 2 + 1]? = some (.int .i64 k)) (hn : n < 1000000) :
    Calls Tryz.prog 116 #[.pointer (some ⟨p, 0, none⟩), .int .i64 i] w fun e w' => e = .returned (.tuple #[pv a k, .bool true]) ∧ Kp [] w w' := by
  obtain ⟨ao, c, hv, hc, hf, hnc, hpl, hcs⟩ := h.out
  obtain ⟨g, o, rfl, hgp, hcs⟩ := hcs (by omega)
  have c0 := (hcs (i * 2) (by omega)).1
  have c1 := (hcs (i * 2 + 1) (by omega)).1
  rw [e0] at c0
  rw [e1, ← Nat.add_assoc] at c1
  have hgl : g < w.heap.size := block_lt_of_cell c0
  obtain ⟨w1, hw1⟩ : ∃ w1, w1 = w.alloc (.cells #[.pointer none, .int .i64 0] 132) := ⟨_, rfl⟩
  have hk : Kp [] w w1 := by rw [hw1]; exact (Kp.refl _ _).alloc _
  have hh := pl_holds_in w1 p v n xs i (h.keep hk (by simp) (fun _ _ => by simp)) h1
  rw [hw1] at hh
  have h2 : (0 : Int) ≤ (i : Int) := by omega
  have h3 : (i : Int) < (n : Int) := by omega
  clear h hcs hv e0 e1 hk hw1 w1
  go_enter Tryz.func116, Tryz.ntmps116
  go_wp2_with (go_at_call 120; refine hh.mono ?_; rintro e w' ⟨rfl, rfl⟩)
  refine bodyPost_ret (v := .tuple #[pv a k, .bool true]) (by simp [results, go_sem, pv]) rfl ⟨rfl, (Kp.refl _ _).alloc _⟩

set_option maxHeartbeats 1000000 in
theorem pl_at_none (w : World) (p : Nat) (v : Value) (xs : List Value) (h : Pk 2 w 149 132 p v 0 xs) :
    Calls Tryz.prog 116 #[.pointer (some ⟨p, 0, none⟩), .int .i64 (-1)] w fun e w' => e = .returned (.tuple #[zp, .bool false]) ∧ Kp [] w w' := by
  have hh := fun w1 (hk : Kp [] w w1) => pl_holds_none w1 p v xs (h.keep hk (by simp) (fun _ _ => by simp))
  have H1 := hh _ ((Kp.refl [] w).alloc (.cells #[.pointer none, .int .i64 0] 132))
  clear hh h
  go_enter Tryz.func116, Tryz.ntmps116
  go_wp2_with (go_at_call 120; refine H1.mono ?_; rintro e w' ⟨rfl, rfl⟩)
  refine bodyPost_ret (v := .tuple #[zp, .bool false]) (by simp [results, go_sem, zp]) rfl ⟨rfl, ?_⟩
  exact ((Kp.refl _ _).alloc _).alloc _

theorem zv88 (w : World) : (zeroValue 132).run Tryz.prog w = .ok zp w := by kernel_rfl

set_option maxHeartbeats 1000000 in
/-- slices.Delete, of the last one. -/
theorem pl_delete (w : World) (g o n c : Nat) (xs ys : List Value) (hown : OwnK 2 w 132 (.slice (some ⟨g, o, none⟩) (n + 1) c) (n + 1) (xs ++ ys)) (hx : xs.length = n * 2) (hl : n < 100000) :
    Calls Tryz.prog 117 #[.slice (some ⟨g, o, none⟩) (n + 1) c, .int .i64 (n : Int), .int .i64 ((n : Int) + 1)] w fun e w' => e = .returned (.slice (some ⟨g, o, none⟩) n c) ∧ OwnK 2 w' 132 (.slice (some ⟨g, o, none⟩) n c) n xs ∧ Kp [g] w w' := by
  have HF : Hid (OwnK 2 (w.drew.setCells g (o + n * 2) [.pointer none, .int .i64 0]) 132 (.slice (some ⟨g, o, none⟩) n c) n xs ∧ Kp [g] w (w.drew.setCells g (o + n * 2) [.pointer none, .int .i64 0])) :=
    ⟨(hown.keep (Kp.refl [] w).drew (fun _ _ => by simp)).pop hx rfl, Kp.setCells g (Or.inl (by simp)) _ _ _ (Kp.refl _ _).drew⟩
  have hnc : n + 1 ≤ c := by
    rcases hown.2 with ⟨h1, _⟩ | ⟨g', o', cap', cur, hv, hg, h1, h2, h3, h4⟩
    · cases h1
    · simp only [Value.slice.injEq] at hv
      omega
  have HC : ∀ ty, (Builtin.clear_ #[147] ty #[.slice (some ⟨g, o + n * 2, none⟩) 1 (c - n)]).run Tryz.prog w.drew = .ok (.tuple #[]) (w.drew.setCells g (o + n * 2) [.pointer none, .int .i64 0]) := fun ty => by
    rcases hown.2 with ⟨h1, _⟩ | ⟨g', o', cap', cur, hv, hg, h1, h2, h3, h4⟩
    · cases h1
    · simp only [Value.slice.injEq, Option.some.injEq, Addr.mk.injEq] at hv
      obtain ⟨⟨rfl, rfl, _⟩, _, rfl⟩ := hv
      exact clear_one w.drew 147 132 ty zp _ Tryz.underlying147 zv88 rfl (fun u hu => by simp at hu; rcases hu with rfl | rfl <;> rfl) g (o + n * 2) (c - n)
        (fun j hj => by
          show (w.cell? _).isSome = true
          simp at hj
          rw [cell_of hg, Array.getElem?_eq_getElem (by omega)]; rfl) (fun j hj => frozen_of (w := w) hg _)
  have HA : ∀ W : World, (storeCells ⟨g, o + n * 2, none⟩ []).run Tryz.prog W = .ok () W := fun W => rfl
  clear hown hx
  have i1 : (0 : Int) ≤ (n : Int) := by omega
  have i4 : (0 : Int) ≤ (n : Int) + 1 := by omega
  have i5 : (n : Int) ≤ (n : Int) + 1 := by omega
  by_cases hlt : n + 1 < c
  · have i2 : (n : Int) ≤ (c : Int) := by omega
    have i3 : (n : Int) + 1 ≤ (c : Int) := by omega
    have i6 : ¬ c = n + 1 := by omega
    have HB := app_none (P := Tryz.prog) Tryz.underlying147 info88 w.drew g o n c ⟨g, o + (n + 1) * 2, none⟩ (c - (n + 1)) (by omega)
    clear HA
    go_enter Tryz.func117, Tryz.ntmps117
    go_wp2_with fail
    go_region_held3 (fun _ => True) (trivial)
      (first | refine step_appR (by rfl) _ _ 147 (by rfl) _ _ (by rfl) (by rfl) HB ?_)
    go_wp2_with (at_builtin; refine wpList_clear_run _ rfl _ _ rfl _ rfl HC ?_)
    go_ret
    exact ⟨rfl, HF.out⟩
  · obtain rfl : c = n + 1 := by omega
    rw [show n + 1 - n = 1 by omega] at HC
    go_enter Tryz.func117, Tryz.ntmps117
    go_wp2_with fail
    go_region_held3 (fun _ => True) (trivial)
      (fail)
    go_wp2_with (at_builtin; refine wpList_clear_run _ rfl _ _ rfl _ rfl HC ?_)
    go_ret
    exact ⟨rfl, HF.out⟩

end Go.Proofs.YtgjkfpmhgidpaaaGreat

/-
  Cut and Pop of a pile of places.
-/
namespace Go.Proofs.YtgjkfpmhgidpaaaGreat
open Go.RowKit

set_option maxRecDepth 100000 in
set_option maxHeartbeats 1000000 in
theorem pl_cut (w : World) (p : Nat) (v : Value) (n : Nat) (xs : List Value) (a : Addr) (k : Int) (h : Pk 2 w 149 132 p v (n + 1) (xs ++ pc a k)) (hl : n < 100000) :
    Calls Tryz.prog 106 #[.pointer (some ⟨p, 0, none⟩), .int .i64 n] w fun e w' => e = .returned (.tuple #[pv a k, .bool true]) ∧ Tk 2 w w' 149 132 p v n xs := by
  have hx : xs.length = n * 2 := by have := h.2.1.1; rw [List.length_append] at this; simp [pc] at this; omega
  have H1 := fun W (kw : Kp [] w W) => pl_at_in W p v (n + 1) _ n a k (h.keep kw (by simp) (fun _ _ => by simp)) (by omega) (by rw [← hx, List.getElem?_append_right (by omega)]; simp [pc]) (by rw [← hx, List.getElem?_append_right (by omega)]; simp [pc]) (by omega)
  obtain ⟨ao, c, rfl, hc, hf, hnc, hpl, hcs⟩ := h.out
  obtain ⟨g, o, rfl, hgp, _⟩ := hcs (by omega)
  obtain ⟨hp, hown, hpb⟩ := h
  have hgl : g < w.heap.size := hown.lt g (by simp [blk])
  have H1' := H1 _ ((Kp.refl [] w).alloc (.cells #[.pointer none, .int .i64 0] 132))
  have HD : Hid (∀ W, Kp [] w W → Calls Tryz.prog 117 #[.slice (some ⟨g, o, none⟩) (n + 1) c, .int .i64 (n : Int), .int .i64 ((n : Int) + 1)] W fun e w' => e = .returned (.slice (some ⟨g, o, none⟩) n c) ∧ OwnK 2 w' 132 (.slice (some ⟨g, o, none⟩) n c) n xs ∧ Kp [g] W w') := fun W kw => pl_delete W g o n c xs _ (hown.keep kw (fun _ _ => by simp)) hx hl
  have HP : Hid (w.heap[p]? = some (.cells #[.slice (some ⟨g, o, none⟩) (n + 1) c] 149 (0, 0))) := hp
  clear H1 hcs hp hown hpb hx
  have i1 : (n : Int) < 100000 := by omega
  unfold pv at H1' ⊢
  go_enter Tryz.func106, Tryz.ntmps106
  go_wp2_with fail
  refine H1'.mono ?_
  rintro e w2 ⟨rfl, K2⟩
  have K0 : Hid (Kp [] w w2) := ((Kp.refl [] w).alloc _).trans K2 (fun x hx => Or.inl hx)
  have R2 : Hid (w2.heap[w.heap.size]? = some (.cells #[.pointer none, .int .i64 0] 132 (0, 0))) := (K2.block _ (by simp) (by simp)).trans (heap_new w _)
  have hs2 : w.heap.size < w2.heap.size := (Array.getElem?_eq_some_iff.1 R2.out).1
  have c2 : w2.cell? ⟨p, 0, none⟩ = some (.slice (some ⟨g, o, none⟩) (n + 1) c) := (cell_of ((K0.out.block p hpl (by simp)).trans HP.out) 0)
  have hpl2 : p < w2.heap.size := by omega
  clear K2 H1'
  go_wp2_with fail
  refine (HD.out _ (K0.out.alloc _)).mono ?_
  rintro e w3 ⟨rfl, O3, K3⟩
  have P3 : w3.heap[p]? = some (.cells #[.slice (some ⟨g, o, none⟩) (n + 1) c] 149 (0, 0)) := (K3.block p (by simp; omega) (by simp; omega)).trans ((((K0.out.alloc _).block p hpl (by simp))).trans HP.out)
  have R3 : w3.heap[w.heap.size]? = some (.cells #[.pointer none, .int .i64 0] 132 (0, 0)) := (K3.block _ (by simp; omega) (by simp; omega)).trans ((((Kp.refl [] w2).alloc _).block _ hs2 (by simp)).trans R2.out)
  have X3 : w3.heap[w2.heap.size]? = some (.cells #[.pointer (some a), .int .i64 k] 132 (0, 0)) := (K3.block _ (by simp) (by simp; omega)).trans (heap_new w2 _)
  have cp3 : w3.cell? ⟨p, 0, none⟩ = some (.slice (some ⟨g, o, none⟩) (n + 1) c) := cell_of P3 0
  have fp3 := frozen_of P3 0
  have cr0 : w3.cell? ⟨w.heap.size, 0, none⟩ = some (.pointer none) := cell_of R3 0
  have cr1 : w3.cell? ⟨w.heap.size, 1, none⟩ = some (.int .i64 0) := cell_of R3 1
  have fr0 := frozen_of R3 0
  have fr1 := frozen_of R3 1
  have cx0 : w3.cell? ⟨w2.heap.size, 0, none⟩ = some (.pointer (some a)) := cell_of X3 0
  have cx1 : w3.cell? ⟨w2.heap.size, 1, none⟩ = some (.int .i64 k) := cell_of X3 1
  have n1 : ¬ p = w.heap.size := by omega
  have n2 : ¬ p = w2.heap.size := by omega
  have n5 : ¬ w.heap.size = p := by omega
  have n6 : ¬ w2.heap.size = p := by omega
  have HF : Hid (Tk 2 w (((w3.setCell ⟨p, 0, none⟩ (.slice (some ⟨g, o, none⟩) n c)).setCell ⟨w.heap.size, 0, none⟩ (.pointer (some a))).setCell ⟨w.heap.size, 1, none⟩ (.int .i64 k)) 149 132 p (.slice (some ⟨g, o, none⟩) (n + 1) c) n xs) := by
    obtain ⟨v', h1, h2, h3⟩ := Tk.mk (K := 2) (w := w) hpl P3 (by simp [blk]; omega) O3 ((K0.out.alloc _).mono (T := p :: blk (.slice (some ⟨g, o, none⟩) (n + 1) c)) (fun x hx => by simp at hx) |>.trans K3 (fun x hx => by simp at hx; subst hx; exact Or.inl (by simp [blk]))) (fun x hx => Or.inl (by simpa [blk] using hx))
    have hv : ∀ x, x ∈ blk v' → x < w.heap.size := fun x hx => by
      rcases h3 x hx with h4 | h4
      · simp [blk] at h4; omega
      · have := h1.2.1.lt x hx
        rcases Nat.lt_or_ge x w.heap.size with h5 | h5
        · exact h5
        · exact absurd hx (by
            have e : v' = .slice (some ⟨g, o, none⟩) n c := by
              have := h1.1
              rw [setCell_block P3] at this
              simp at this
              exact this.symm
            rw [e]; simp [blk]; omega)
    refine ⟨v', (h1.keep (((Kp.refl [w.heap.size] _).setCell (Or.inl (by simp)) _).setCell (Or.inl (by simp)) _) (by simp; omega) (fun x hx => by have := hv x hx; simp; omega)), (h2.setCell (Or.inr (Nat.le_refl _)) _).setCell (Or.inr (Nat.le_refl _)) _, h3⟩
  clear O3 K3 P3 R3 X3 HD HP
  go_wp2
  refine bodyPost_ret (v := .tuple #[.agg #[.pointer (some a), .int .i64 k], .bool true]) (by simp [results, go_sem, cr0, cr1]) rfl ⟨rfl, HF.out⟩

set_option maxRecDepth 100000 in
set_option maxHeartbeats 1000000 in
theorem pl_pop (w : World) (p : Nat) (v : Value) (n : Nat) (xs : List Value) (a : Addr) (k : Int) (h : Pk 2 w 149 132 p v (n + 1) (xs ++ pc a k)) (hl : n < 100000) :
    Calls Tryz.prog 88 #[.pointer (some ⟨p, 0, none⟩)] w fun e w' => e = .returned (.tuple #[pv a k, .bool true]) ∧ Tk 2 w w' 149 132 p v n xs := by
  have H1 := pl_cut _ p v n xs a k (h.keep ((Kp.refl [] w).alloc (.cells #[.pointer none, .int .i64 0] 132)) (by simp) (fun _ _ => by simp)) hl
  have hlt := h.2.1.lt
  obtain ⟨ao, c, rfl, hc, hf, hnc, hpl, hcs⟩ := h.out
  have HL : Hid (∀ x, x ∈ blk (.slice ao (n + 1) c) → x < w.heap.size) := hlt
  clear hcs h hlt
  have i1 : (n : Int) < 100000 := by omega
  unfold pv at H1 ⊢
  go_enter Tryz.func88, Tryz.ntmps88
  go_wp2_with fail
  refine H1.mono ?_
  rintro e w2 ⟨rfl, v', T1, T2, T3⟩
  have hn : w.heap.size ∉ p :: blk (.slice ao (n + 1) c) := fun hx => by
    rcases List.mem_cons.1 hx with h1 | h1
    · omega
    · have := HL.out _ h1; omega
  have R2 : w2.heap[w.heap.size]? = some (.cells #[.pointer none, .int .i64 0] 132 (0, 0)) := (T2.block _ (by simp) hn).trans (heap_new w _)
  have cr0 : w2.cell? ⟨w.heap.size, 0, none⟩ = some (.pointer none) := cell_of R2 0
  have cr1 : w2.cell? ⟨w.heap.size, 1, none⟩ = some (.int .i64 0) := cell_of R2 1
  have fr0 := frozen_of R2 0
  have fr1 := frozen_of R2 1
  have HF : Hid (Tk 2 w ((w2.setCell ⟨w.heap.size, 0, none⟩ (.pointer (some a))).setCell ⟨w.heap.size, 1, none⟩ (.int .i64 k)) 149 132 p (.slice ao (n + 1) c) n xs) := by
    have hb : ∀ x, x ∈ blk v' → x ∈ blk (.slice ao (n + 1) c) ∨ w.heap.size + 1 ≤ x := fun x hx => by have := T3 x hx; simpa using this
    refine ⟨v', T1.keep (((Kp.refl [w.heap.size] _).setCell (Or.inl (by simp)) _).setCell (Or.inl (by simp)) _) (by simp; omega) (fun x hx => ?_), ((((Kp.refl _ w).alloc _).trans T2 (fun x hx => Or.inl hx)).setCell (Or.inr (Nat.le_refl _)) _).setCell (Or.inr (Nat.le_refl _)) _, fun x hx => ?_⟩
    · rcases hb x hx with h1 | h1
      · have := HL.out x h1; simp; omega
      · simp; omega
    · rcases hb x hx with h1 | h1
      · exact Or.inl h1
      · right; omega
  clear T1 T2 T3 R2 H1 hn
  go_wp2
  refine bodyPost_ret (v := .tuple #[.agg #[.pointer (some a), .int .i64 k], .bool true]) (by simp [results, go_sem, cr0, cr1]) rfl ⟨rfl, HF.out⟩

set_option maxRecDepth 100000 in
set_option maxHeartbeats 1000000 in
theorem pl_cut_none (w : World) (p : Nat) (v : Value) (xs : List Value) (h : Pk 2 w 149 132 p v 0 xs) :
    Calls Tryz.prog 106 #[.pointer (some ⟨p, 0, none⟩), .int .i64 (-1)] w fun e w' => e = .returned (.tuple #[zp, .bool false]) ∧ Kp [] w w' := by
  have H1 := pl_at_none _ p v xs (h.keep ((Kp.refl [] w).alloc (.cells #[.pointer none, .int .i64 0] 132)) (by simp) (fun _ _ => by simp))
  clear h
  unfold zp at H1 ⊢
  go_enter Tryz.func106, Tryz.ntmps106
  go_wp2_with fail
  refine H1.mono ?_
  rintro e w2 ⟨rfl, K2⟩
  have R2 : w2.heap[w.heap.size]? = some (.cells #[.pointer none, .int .i64 0] 132 (0, 0)) := (K2.block _ (by simp) (by simp)).trans (heap_new w _)
  have hs2 : w.heap.size < w2.heap.size := (Array.getElem?_eq_some_iff.1 R2).1
  have cr0 : w2.cell? ⟨w.heap.size, 0, none⟩ = some (.pointer none) := cell_of R2 0
  have cr1 : w2.cell? ⟨w.heap.size, 1, none⟩ = some (.int .i64 0) := cell_of R2 1
  have fr0 := frozen_of R2 0
  have fr1 := frozen_of R2 1
  have K0 : Hid (Kp [] w w2) := ((Kp.refl [] w).alloc _).trans K2 (fun x hx => Or.inl hx)
  have R3 : (((w2.setCell ⟨w.heap.size, 0, none⟩ (.pointer none)).setCell ⟨w.heap.size, 1, none⟩ (.int .i64 0)).alloc (.cells #[.pointer none, .int .i64 0] 132)).heap[w.heap.size]? = some (.cells #[.pointer none, .int .i64 0] 132 (0, 0)) := by
    rw [Below.heap_alloc _ _ _ (by simp [World.setCell]; omega), setCell_block (setCell_block R2 _ _)]; rfl
  have D : Hid (_ ∧ _) := ⟨cell_of R3 0, cell_of R3 1⟩
  clear K2 R2 H1 R3
  go_wp2
  obtain ⟨d0, d1⟩ := D.out
  refine bodyPost_ret (v := .tuple #[.agg #[.pointer none, .int .i64 0], .bool false]) (by simp [results, go_sem, d0, d1]) rfl ⟨rfl, ?_⟩
  exact ((K0.out.setCell (Or.inr (Nat.le_refl _)) _).setCell (Or.inr (Nat.le_refl _)) _).alloc _

set_option maxRecDepth 100000 in
set_option maxHeartbeats 1000000 in
theorem pl_pop_none (w : World) (p : Nat) (v : Value) (xs : List Value) (h : Pk 2 w 149 132 p v 0 xs) :
    Calls Tryz.prog 88 #[.pointer (some ⟨p, 0, none⟩)] w fun e w' => e = .returned (.tuple #[zp, .bool false]) ∧ Kp [] w w' := by
  have H1 := pl_cut_none _ p v xs (h.keep ((Kp.refl [] w).alloc (.cells #[.pointer none, .int .i64 0] 132)) (by simp) (fun _ _ => by simp))
  obtain ⟨ao, c, rfl, hc, hf, hnc, hpl, hcs⟩ := h.out
  clear h hcs
  unfold zp at H1 ⊢
  go_enter Tryz.func88, Tryz.ntmps88
  go_wp2_with fail
  refine H1.mono ?_
  rintro e w2 ⟨rfl, K2⟩
  have R2 : w2.heap[w.heap.size]? = some (.cells #[.pointer none, .int .i64 0] 132 (0, 0)) := (K2.block _ (by simp) (by simp)).trans (heap_new w _)
  have cr0 : w2.cell? ⟨w.heap.size, 0, none⟩ = some (.pointer none) := cell_of R2 0
  have cr1 : w2.cell? ⟨w.heap.size, 1, none⟩ = some (.int .i64 0) := cell_of R2 1
  have fr0 := frozen_of R2 0
  have fr1 := frozen_of R2 1
  have K0 : Hid (Kp [] w w2) := ((Kp.refl [] w).alloc _).trans K2 (fun x hx => Or.inl hx)
  clear K2 R2 H1
  go_wp2
  refine bodyPost_ret (v := .tuple #[.agg #[.pointer none, .int .i64 0], .bool false]) (by simp [results, go_sem, cr0, cr1]) rfl ⟨rfl, ?_⟩
  exact (K0.out.setCell (Or.inr (Nat.le_refl _)) _).setCell (Or.inr (Nat.le_refl _)) _

end Go.Proofs.YtgjkfpmhgidpaaaGreat

/-
  A map from nodes' addresses to nothing: the addresses that it holds, in the order in which they came.
-/
namespace Go.Proofs.YtgjkfpmhgidpaaaGreat
open Go.RowKit

theorem info25 : (Tryz.prog.info? 38).map (·.size) = some 6 := by kernel_rfl

/-- An address in a block of cells. -/
def Inb (w : World) (a : Addr) : Prop := ∃ cur e, w.heap[a.block]? = some (.cells cur e (0, 0))

/-- Two nodes' addresses held against each other. -/
theorem eql_ptr (w : World) (a b : Addr) (ha : Inb w a) (hb : Inb w b) : (Op.equal 81 (.pointer (some a)) (.pointer (some b))).run Tryz.prog w = .ok (decide (a = b)) w := by
  obtain ⟨j, hj, hjs⟩ := Option.map_eq_some_iff.1 info25
  by_cases h : a = b
  · subst h
    rw [decide_eq_true rfl]
    have h : ∀ d : Nat, (Op.equalIn (d + 1) 81 (.pointer (some a)) (.pointer (some a))).run Tryz.prog w = .ok true w := fun d => by
      simp [Op.equalIn, run_underlying Tryz.underlying81, sizeOf, typeInfo, hj, run_sameAddr_same]
    exact h 9999
  · rw [decide_eq_false h]
    obtain ⟨ca, ta, ha⟩ := ha
    obtain ⟨cb, tb, hb⟩ := hb
    have h : ∀ d : Nat, (Op.equalIn (d + 1) 81 (.pointer (some a)) (.pointer (some b))).run Tryz.prog w = .ok false w := fun d => by
      simp [Op.equalIn, run_underlying Tryz.underlying81, sizeOf, typeInfo, hj, hjs, run_sameAddr_other w h ha hb]
    exact h 9999

theorem check_ptr (w : World) (em : Bool) (a : Addr) : (Instr.checkKey em 10000 81 (.pointer (some a))).run Tryz.prog w = .ok () w := by
  have h : ∀ d : Nat, (Instr.checkKey em (d + 1) 81 (.pointer (some a))).run Tryz.prog w = .ok () w := fun d => by
    simp [Instr.checkKey, run_underlying Tryz.underlying81]
  exact h 9999

/-- The keys of a map. -/
def ksOf (es : List MapEntry) : List Value := es.map (·.key)

theorem find_asking (w : World) (a : Addr) (ha : Inb w a) : ∀ (es : List MapEntry) (ad : List Addr) (i : Nat), ksOf es = ad.map (fun x => .pointer (some x)) → (∀ x, x ∈ ad → Inb w x) → a ∉ ad → (Instr.findAsking 81 (.pointer (some a)) es i).run Tryz.prog w = .ok none w
  | [], ad, i, _, _, _ => by simp [Instr.findAsking]
  | e :: es, [], i, h, _, _ => by simp [ksOf] at h
  | e :: es, x :: ad, i, h, hi, hn => by
    simp only [ksOf, List.map_cons, List.cons.injEq] at h
    have h1 := eql_ptr w a x ha (hi x (by simp))
    rw [decide_eq_false (fun e => hn (by simp [e]))] at h1
    have ih := find_asking w a ha es ad (i + 1) h.2 (fun y hy => hi y (by simp [hy])) (fun hy => hn (by simp [hy]))
    unfold Instr.findAsking
    simp [h.1, h1, ih]

theorem find_last (w : World) (a : Addr) (ha : Inb w a) (u : MapEntry) (hu : u.key = .pointer (some a)) : ∀ (es : List MapEntry) (ad : List Addr) (i : Nat), ksOf es = ad.map (fun x => .pointer (some x)) → (∀ x, x ∈ ad → Inb w x) → a ∉ ad → (Instr.findAsking 81 (.pointer (some a)) (es ++ [u]) i).run Tryz.prog w = .ok (some (i + es.length, u.val)) w
  | [], ad, i, _, _, _ => by
    have h1 := eql_ptr w a a ha ha
    rw [decide_eq_true rfl] at h1
    unfold Instr.findAsking
    simp [hu, h1]
  | e :: es, [], i, h, _, _ => by simp [ksOf] at h
  | e :: es, x :: ad, i, h, hi, hn => by
    simp only [ksOf, List.map_cons, List.cons.injEq] at h
    have h1 := eql_ptr w a x ha (hi x (by simp))
    rw [decide_eq_false (fun e => hn (by simp [e]))] at h1
    have ih := find_last w a ha u hu es ad (i + 1) h.2 (fun y hy => hi y (by simp [hy])) (fun hy => hn (by simp [hy]))
    rw [List.cons_append]
    unfold Instr.findAsking
    simp [h.1, h1, ih]
    omega

theorem find_now (a : Addr) (te : TypeId) : ∀ (es : List MapEntry), es ≠ [] → Instr.findNow (.pointer te) (.pointer (some a)) es 0 = none
  | [], h => absurd rfl h
  | e :: es, _ => by
    unfold Instr.findNow
    simp [Instr.sameNow]

/-- Block m is a map that holds these addresses. -/
def Ks (w : World) (m : Nat) (ad : List Addr) : Prop := ∃ es clock, w.heap[m]? = some (.map es clock) ∧ ksOf es.toList = ad.map (fun x => .pointer (some x))

theorem Ks.lt {w : World} {m : Nat} {ad : List Addr} (h : Ks w m ad) : m < w.heap.size := by
  obtain ⟨es, clock, h1, _⟩ := h
  exact (Array.getElem?_eq_some_iff.1 h1).1

theorem Ks.keep {S : List Nat} {w w' : World} {m : Nat} {ad : List Addr} (h : Ks w m ad) (k : Kp S w w') (hn : m ∉ S) : Ks w' m ad := by
  have hl := h.lt
  obtain ⟨es, clock, h1, h2⟩ := h
  exact ⟨es, clock, by rw [k.block m hl hn]; exact h1, h2⟩

theorem ks_new (w : World) : Ks (w.alloc (.map #[] 0)) w.heap.size [] := ⟨#[], 0, heap_new w _, rfl⟩

theorem find_none (w : World) (a : Addr) (ha : Inb w a) (es : List MapEntry) (ad : List Addr) (h : ksOf es = ad.map (fun x => .pointer (some x))) (hi : ∀ x, x ∈ ad → Inb w x) (hn : a ∉ ad) : (Instr.findKey 81 (.pointer (some a)) es).run Tryz.prog w = .ok none w := by
  have h1 := find_asking w a ha es ad 0 h hi hn
  unfold Instr.findKey
  cases es with
  | nil => simp [run_underlying Tryz.underlying81, Instr.findNow]
  | cons e es => simp [run_underlying Tryz.underlying81, find_now a 38 (e :: es) (by simp), h1]

/-- It is not there. -/
theorem Ks.look {w : World} {m : Nat} {ad : List Addr} (h : Ks w m ad) (a : Addr) (ha : Inb w a) (hi : ∀ x, x ∈ ad → Inb w x) (hn : a ∉ ad) : (Instr.lookup 105 (.map (some m)) (.pointer (some a)) true).run Tryz.prog w = .ok (.tuple #[.agg #[], .bool false]) w := by
  obtain ⟨es, clock, h1, h2⟩ := h
  simp [Instr.lookup, run_underlying Tryz.underlying105, MapKept.run_getObj_map h1, check_ptr, find_none w a ha es.toList ad h2 hi hn]

/-- It is put there. -/
theorem Ks.put {w : World} {m : Nat} {ad : List Addr} (h : Ks w m ad) (a : Addr) (ha : Inb w a) (hi : ∀ x, x ∈ ad → Inb w x) (hn : a ∉ ad) : ∃ w', (Instr.mapUpdate 105 (.map (some m)) (.pointer (some a)) (.agg #[])).run Tryz.prog w = .ok () w' ∧ Ks w' m (ad ++ [a]) ∧ Kp [m] w w' := by
  obtain ⟨es, clock, h1, h2⟩ := h
  refine ⟨ChangeMaps.setBlock w m (.map (es.push ⟨.pointer (some a), .agg #[], clock⟩) (clock + 1)), ?_, ⟨_, _, ChangeMaps.heap_setBlock_same h1 _, ?_⟩, ⟨rfl, rfl, rfl, by simp [ChangeMaps.setBlock], fun k _ hk => ChangeMaps.heap_setBlock_other h1 _ (by simpa using hk)⟩⟩
  · simp [Instr.mapUpdate, run_underlying Tryz.underlying105, MapKept.run_getObj_map h1, check_ptr, find_none w a ha es.toList ad h2 hi hn, MapKept.run_setObj_map _ h1, ChangeMaps.setBlock]
  · simp only [ksOf, Array.toList_push, List.map_append, List.map_cons, List.map_nil] at h2 ⊢
    rw [h2]

/-- The last one is taken away. -/
theorem Ks.del {w : World} {m : Nat} {ad : List Addr} (a : Addr) (h : Ks w m (ad ++ [a])) (ha : Inb w a) (hi : ∀ x, x ∈ ad → Inb w x) (hn : a ∉ ad) : ∃ w', (∀ ty, (Builtin.delete_ #[105, 81] ty #[.map (some m), .pointer (some a)]).run Tryz.prog w = .ok (.tuple #[]) w') ∧ Ks w' m ad ∧ Kp [m] w w' := by
  obtain ⟨es, clock, h1, h2⟩ := h
  obtain ⟨l, hl⟩ : ∃ l, l = es.toList := ⟨_, rfl⟩
  have hll : l.length = es.size := by rw [hl]; simp
  rw [← hl] at h2
  have hne : l ≠ [] := fun e => by rw [e] at h2; simp [ksOf] at h2
  obtain ⟨es0, u, he⟩ : ∃ es0 u, l = es0 ++ [u] := ⟨l.dropLast, l.getLast hne, (List.dropLast_concat_getLast hne).symm⟩
  rw [he] at h2
  simp only [ksOf, List.map_append, List.map_cons, List.map_nil] at h2
  obtain ⟨h3, h4⟩ := List.append_inj' h2 rfl
  simp only [List.cons.injEq, and_true] at h4
  have hf := find_last w a ha u h4 es0 ad 0 h3 hi hn
  have hk : (Instr.findKey 81 (.pointer (some a)) es.toList).run Tryz.prog w = .ok (some (es0.length, u.val)) w := by
    rw [← hl, he]
    unfold Instr.findKey
    simp only [Nat.zero_add] at hf
    simp [run_underlying Tryz.underlying81, find_now a 38 (es0 ++ [u]) (by simp), hf]
  refine ⟨ChangeMaps.setBlock w m (.map (es.eraseIdxIfInBounds es0.length) clock), fun ty => ?_, ⟨_, _, ChangeMaps.heap_setBlock_same h1 _, ?_⟩, ⟨rfl, rfl, rfl, by simp [ChangeMaps.setBlock], fun k _ hk => ChangeMaps.heap_setBlock_other h1 _ (by simpa using hk)⟩⟩
  · simp [Builtin.delete_, run_underlying Tryz.underlying105, MapKept.run_getObj_map h1, check_ptr, hk, MapKept.run_setObj_map _ h1, ChangeMaps.setBlock]
  · have : (es.eraseIdxIfInBounds es0.length).toList = es0 := by
      have e1 : es = (es0 ++ [u]).toArray := by rw [← he, hl]
      rw [e1]
      simp [Array.eraseIdxIfInBounds, List.eraseIdx_append_of_length_le]
    rw [this]
    exact h3

end Go.Proofs.YtgjkfpmhgidpaaaGreat

/-
  A walk through a tree: what its blocks hold, and what is still to come.
-/
namespace Go.Proofs.YtgjkfpmhgidpaaaGreat
open Go.RowKit
set_option linter.unusedVariables false

/-- A place on the way: the node's address, its kids, which of them comes next. -/
abbrev Frw := Addr × Fo × Nat

/-- The cells of the places, the last one on top. -/
def plC : List Frw → List Value
  | [] => []
  | f :: r => plC r ++ pc f.1 f.2.2
/-- The addresses of the places, the last one on top. -/
def adC : List Frw → List Addr
  | [] => []
  | f :: r => adC r ++ [f.1]
/-- What is still to come. -/
def toC : List Frw → List Vt
  | [] => []
  | f :: r => (f.2.1.drop f.2.2).vis r.length ++ toC r

theorem mem_adC {x : Addr} : ∀ {fs : List Frw}, x ∈ adC fs → ∃ f, f ∈ fs ∧ f.1 = x
  | [], h => by simp [adC] at h
  | f :: r, h => by
    rw [adC, List.mem_append] at h
    rcases h with h | h
    · obtain ⟨g, h1, h2⟩ := mem_adC h
      exact ⟨g, by simp [h1], h2⟩
    · exact ⟨f, by simp, (List.mem_singleton.1 h).symm⟩

/-- At this address lies a node with these kids. -/
def At6 (w : World) (a : Addr) (k : Fo) : Prop := ∃ b off cur e bo m d, a = ⟨b, off, none⟩ ∧ w.heap[b]? = some (.cells cur e (0, 0)) ∧ cur[off + 5]? = some (.slice bo m d) ∧ Rt Any w bo m d k

theorem At6.det {w : World} {a : Addr} {k k' : Fo} (h : At6 w a k) (h' : At6 w a k') : k = k' := by
  obtain ⟨b, off, cur, e, bo, m, d, h1, h2, h3, h4⟩ := h
  obtain ⟨b', off', cur', e', bo', m', d', h1', h2', h3', h4'⟩ := h'
  rw [h1] at h1'
  simp only [Addr.mk.injEq] at h1'
  obtain ⟨rfl, rfl, _⟩ := h1'
  rw [h2] at h2'
  simp only [Option.some.injEq, Obj.cells.injEq] at h2'
  obtain ⟨rfl, _⟩ := h2'
  rw [h3] at h3'
  simp only [Option.some.injEq, Value.slice.injEq] at h3'
  obtain ⟨rfl, rfl, rfl⟩ := h3'
  exact h4.det h4'

theorem At6.kept {w w' : World} {a : Addr} {k : Fo} (h : At6 w a k) (kp : Kp [] w w') : At6 w' a k := by
  obtain ⟨b, off, cur, e, bo, m, d, h1, h2, h3, h4⟩ := h
  exact ⟨b, off, cur, e, bo, m, d, h1, by rw [kp.block b (Array.getElem?_eq_some_iff.1 h2).1 (by simp)]; exact h2, h3, h4.kept kp⟩

theorem At6.inb {w : World} {a : Addr} {k : Fo} (h : At6 w a k) : Inb w a := by
  obtain ⟨b, off, cur, e, bo, m, d, rfl, h2, _⟩ := h
  exact ⟨cur, e, h2⟩

theorem Cl.at6 {w : World} {b off : Nat} {l : Lb} {p : Pl} {k : Fo} (h : Cl w b off l p) (hk : Rt Any w p.2.1 p.2.2.1 p.2.2.2 k) : At6 w ⟨b, off, none⟩ k := by
  obtain ⟨cur, e, h1, h2⟩ := h
  exact ⟨b, off, cur, e, _, _, _, rfl, h1, h2 5 (by omega), hk⟩

/-- A node of w0, or the one above the top (in block r), or the top one (in block L). -/
def Lies (w0 : World) (r L : Nat) (l : Lb) (k : Fo) (a : Addr) (f : Fo) : Prop := At6 w0 a f ∨ (a = ⟨r, 0, none⟩ ∧ f = .cons l k .nil) ∨ (a = ⟨L, 0, none⟩ ∧ f = k)

/-- The places of the way; each has fewer below it than those ahead of it. -/
def Way6 (w0 : World) (r L : Nat) (l : Lb) (k : Fo) : List Frw → Prop
  | [] => True
  | f :: fs => Lies w0 r L l k f.1 f.2.1 ∧ f.2.2 ≤ f.2.1.len ∧ fs.length + f.2.1.cnt ≤ (Fo.cons l k .nil).cnt ∧ (∀ g, g ∈ fs → f.2.1.cnt < g.2.1.cnt) ∧ Way6 w0 r L l k fs

theorem Way6.mem {w0 : World} {r L : Nat} {l : Lb} {k : Fo} : ∀ {fs : List Frw}, Way6 w0 r L l k fs → ∀ g, g ∈ fs → Lies w0 r L l k g.1 g.2.1
  | [], _, g, hg => by simp at hg
  | f :: fs, h, g, hg => by
    rcases List.mem_cons.1 hg with rfl | hg
    · exact h.1
    · exact Way6.mem h.2.2.2.2 g hg

/-- The walk's own blocks: the walk's, the pile's, the map's, the places' (v), the node's above the top one and its list's. -/
structure Ws where
  P : Nat
  T : Nat
  M : Nat
  R : Nat
  L : Nat
  v : Value

def Ws.own (s : Ws) : List Nat := s.P :: s.T :: s.M :: s.R :: s.L :: blk s.v

/-- The walk in block P, begun at w0: what it stands on. -/
structure Wb (w0 w : World) (s : Ws) (l : Lb) (k : Fo) (p : Pl) : Prop where
  kp : Kp [] w0 w
  new : ∀ x, x ∈ s.own → w0.heap.size ≤ x
  lt : ∀ x, x ∈ s.own → x < w.heap.size
  walk : w.heap[s.P]? = some (.cells #[.pointer (some ⟨s.T, 0, none⟩), .map (some s.M), .bool false] 107 (0, 0))
  root : w.heap[s.R]? = some (.cells #[.int .i64 0, .int .i64 0, .string ⟨#[]⟩, .slice none 0 0, .string ⟨#[]⟩, .slice (some ⟨s.L, 0, none⟩) 1 1] 38 (0, 0))
  top : w.heap[s.L]? = some (.cells (six l p).toArray 38 (0, 0))
  node : Nd Any w0 l k p
  apart : s.P ≠ s.T ∧ s.P ≠ s.M ∧ s.P ≠ s.R ∧ s.P ≠ s.L ∧ s.T ≠ s.M ∧ s.T ≠ s.R ∧ s.T ≠ s.L ∧ s.M ≠ s.R ∧ s.M ≠ s.L ∧ s.R ≠ s.L
  apv : ∀ x, x ∈ blk s.v → x ≠ s.P ∧ x ≠ s.T ∧ x ≠ s.M ∧ x ≠ s.R ∧ x ≠ s.L
  few : k.cnt ≤ 20000

/-- .. and what its pile and its map hold: what is to come. -/
structure Wk (w0 w : World) (s : Ws) (fs : List Frw) (l : Lb) (k : Fo) (p : Pl) : Prop where
  b : Wb w0 w s l k p
  pile : Pk 2 w 149 132 s.T s.v fs.length (plC fs)
  keys : Ks w s.M (adC fs)
  way : Way6 w0 s.R s.L l k fs

/-- What others do, elsewhere, does not matter. -/
theorem Wb.other {w0 w w' : World} {s : Ws} {l : Lb} {k : Fo} {p : Pl} (h : Wb w0 w s l k p) {D : List Nat} (hk : Kp D w w') (h1 : ∀ x, x ∈ D → w0.heap.size ≤ x) (h2 : ∀ x, x ∈ s.own → x ∉ D) : Wb w0 w' s l k p := by
  have key : ∀ x, x ∈ s.own → w'.heap[x]? = w.heap[x]? := fun x hx => hk.block x (h.lt x hx) (h2 x hx)
  exact ⟨h.kp.trans hk (fun x hx => Or.inr (h1 x hx)), h.new, fun x hx => Nat.lt_of_lt_of_le (h.lt x hx) hk.size, (key _ (by simp [Ws.own])).trans h.walk,
    (key _ (by simp [Ws.own])).trans h.root, (key _ (by simp [Ws.own])).trans h.top, h.node, h.apart, h.apv, h.few⟩

theorem Wk.other {w0 w w' : World} {s : Ws} {fs : List Frw} {l : Lb} {k : Fo} {p : Pl} (h : Wk w0 w s fs l k p) {D : List Nat} (hk : Kp D w w') (h1 : ∀ x, x ∈ D → w0.heap.size ≤ x) (h2 : ∀ x, x ∈ s.own → x ∉ D) : Wk w0 w' s fs l k p :=
  ⟨h.b.other hk h1 h2, h.pile.keep hk (h2 _ (by simp [Ws.own])) (fun x hx => h2 x (by simp [Ws.own, hx])), h.keys.keep hk (h2 _ (by simp [Ws.own])), h.way⟩

/-- The node above the top one. -/
theorem Wb.at_root {w0 w : World} {s : Ws} {l : Lb} {k : Fo} {p : Pl} (h : Wb w0 w s l k p) : At6 w ⟨s.R, 0, none⟩ (.cons l k .nil) :=
  ⟨s.R, 0, _, _, _, _, _, rfl, h.root, rfl, six l p ++ [], ⟨rfl, Nat.le_refl _, fun _ => ⟨s.L, 0, _, _, trivial, rfl, h.top, fun j hj => by
    rw [Nat.zero_add, List.append_nil]
    simp⟩⟩, Lf.cons (h.node.kept h.kp) (Lf.nil _ _)⟩

theorem Wb.cl_top {w0 w : World} {s : Ws} {l : Lb} {k : Fo} {p : Pl} (h : Wb w0 w s l k p) : Cl w s.L 0 l p := ⟨_, _, h.top, fun j hj => by simp⟩

theorem Wb.at_way {w0 w : World} {s : Ws} {l : Lb} {k : Fo} {p : Pl} (h : Wb w0 w s l k p) {a : Addr} {f : Fo} (hg : Lies w0 s.R s.L l k a f) : At6 w a f := by
  rcases hg with hg | ⟨h1, h2⟩ | ⟨h1, h2⟩
  · exact hg.kept h.kp
  · rw [h1, h2]; exact h.at_root
  · rw [h1, h2]; exact h.cl_top.at6 (h.node.kept h.kp).kids

theorem Wb.inb {w0 w : World} {s : Ws} {l : Lb} {k : Fo} {p : Pl} (h : Wb w0 w s l k p) {fs : List Frw} (hw : Way6 w0 s.R s.L l k fs) : ∀ x, x ∈ adC fs → Inb w x := fun x hx => by
  obtain ⟨f, h1, rfl⟩ := mem_adC hx
  exact (h.at_way (hw.mem f h1)).inb

/-- A node with fewer below it than all of the way is not on it. -/
theorem Wb.fresh {w0 w : World} {s : Ws} {l : Lb} {k : Fo} {p : Pl} (h : Wb w0 w s l k p) {fs : List Frw} (hw : Way6 w0 s.R s.L l k fs) {a : Addr} {f : Fo} (ha : At6 w a f) (hf : ∀ g, g ∈ fs → f.cnt < g.2.1.cnt) : a ∉ adC fs := fun hx => by
  obtain ⟨g, h1, rfl⟩ := mem_adC hx
  have e := ha.det (h.at_way (hw.mem g h1))
  have := hf g h1
  rw [e] at this
  omega

end Go.Proofs.YtgjkfpmhgidpaaaGreat
