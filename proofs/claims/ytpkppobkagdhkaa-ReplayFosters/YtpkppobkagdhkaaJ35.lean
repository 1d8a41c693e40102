/-
  Joined: Cop.
-/
import Derived.Test.YtpkppobkagdhkaaRows
import Derived.Test.YtpkppobkagdhkaaJ10
import Derived.WalkLawsBesides
import Derived.Deep.RegionHeld3

/-
  What the methods of a pile of pairs (a number, an address) do to the world.
-/
namespace Go.Proofs.Ytpkppobkagdhkaa
open Go.RowKit

def zpc : Value := .agg #[.int .i64 0, .pointer none]
theorem infoCc : (Try.prog.info? 50).map (fun i => (i.zero, i.size, i.bytes)) = some (some zpc, 2, 16) := by kernel_rfl

/-- A place, as a value. -/
def pvc (a : Addr) (i : Int) : Value := .agg #[.int .i64 i, .pointer (some a)]
def pcc (a : Addr) (i : Int) : List Value := [.int .i64 i, .pointer (some a)]

theorem cp_new (w : World) : Calls Try.prog 12 #[] w fun e w' => e = .returned (.pointer (some ⟨w.heap.size, 0, none⟩)) ∧ w' = w.alloc (.cells #[.slice none 0 0] 73) := by
  go_enter Try.func12, Try.ntmps12
  go_wp2
  go_ret
  exact ⟨rfl, rfl⟩


theorem pcc_one (a : Addr) (i : Int) : ∀ u, u ∈ pcc a i → u.oneCell' = true := fun u hu => by
  simp [pcc] at hu
  rcases hu with rfl | rfl <;> rfl

set_option maxHeartbeats 1000000 in
theorem cp_push (w : World) (p : Nat) (v : Value) (n : Nat) (xs : List Value) (a : Addr) (i : Int) (h : Pk 2 w 73 50 p v n xs) (hl : n < 100000) :
    Calls Try.prog 13 #[.pointer (some ⟨p, 0, none⟩), pvc a i] w fun e w' => e = .returned (.tuple #[]) ∧ Tk 2 w w' 73 50 p v (n + 1) (xs ++ pcc a i) := by
  obtain ⟨ao, c, rfl, hc, hf, hnc, hpl, _⟩ := h.out
  obtain ⟨hp, hown, hpb⟩ := h
  obtain ⟨w1, hw1⟩ : ∃ w1, w1 = ((w.alloc (.cells #[.int .i64 i, .pointer (some a)] 50)).alloc (.cells #[.int .i64 i, .pointer (some a)] 50)).drew := ⟨_, rfl⟩
  have hk1 : Kp [] w w1 := by rw [hw1]; exact (((Kp.refl _ _).alloc _).alloc _).drew
  have hown1 : OwnK 2 w1 50 (.slice ao n c) n xs := hown.keep hk1 (fun _ _ => by simp)
  have hq : w1.heap[w.heap.size + 1]? = some (.cells #[.int .i64 i, .pointer (some a)] 50 (0, 0)) := by rw [hw1]; exact heap_new' _ _ _ (by simp)
  obtain ⟨v', w2, hrun, hown2, hk2, hb2, a2, c2, hv2⟩ := appK Try.underlying71 infoCc rfl (by decide) w1 _ n xs hown1 _ 1 _ (src_new Try.underlying71 hq (pcc a i) rfl (pcc_one a i)) (fun _ => by omega) (by omega)
  have hsz : w1.heap.size = w.heap.size + 2 := by rw [hw1]; simp
  have hp2 : w2.heap[p]? = some (.cells #[.slice ao n c] 73 (0, 0)) := by
    rw [hk2.block p (by omega) hpb, hk1.block p hpl (by simp)]; exact hp
  have hc2 : w2.cell? ⟨p, 0, none⟩ = some (.slice ao n c) := by rw [cell_of hp2]; rfl
  have hf2 : w2.frozen? ⟨p, 0, none⟩ = false := frozen_of hp2 0
  have hfin : Hid (Tk 2 w (w2.setCell ⟨p, 0, none⟩ v') 73 50 p (.slice ao n c) (n + 1) (xs ++ pcc a i)) := by
    refine Tk.mk hpl hp2 hpb hown2 ((hk1.mono (T := p :: blk _) (fun y hy => by simp at hy)).trans hk2 (fun y hy => Or.inl (by simp [hy]))) (fun k hk => ?_)
    rcases hb2 k hk with h1 | h1
    · exact Or.inl h1
    · right; omega
  rw [hw1] at hrun
  subst hv2
  clear hk1 hown1 hown2 hk2 hb2 hp2 hown hq hsz hw1 hp hpb
  unfold pvc
  go_enter Try.func13, Try.ntmps13
  go_wp2_with fail
  refine wp_region_any (by kernel_rfl) ?_
  change wpAny _ _ _ _ _ _ _ (World.drew _)
  refine wpAny_take (i := 0) (v := ?_) rfl (by kernel_rfl) (by kernel_rfl) (by kernel_rfl) (fun _ _ _ h => h) (Or.inl ⟨by rfl, ?_⟩) ?_
  rotate_left
  · intro w; go_simp <;> with_reducible rfl
  refine wpAny_take (i := 1) (v := ?_) rfl (by kernel_rfl) (by kernel_rfl) (by kernel_rfl) (fun _ _ _ h => h) (Or.inl ⟨by rfl, ?_⟩) ?_
  rotate_left
  · intro w; go_simp <;> with_reducible rfl
  refine wpAny_take (i := 2) (v := ?_) rfl (by kernel_rfl) (by kernel_rfl) (by kernel_rfl) (fun _ _ _ h => h) (Or.inl ⟨by rfl, ?_⟩) ?_
  rotate_left
  · intro w; go_simp <;> with_reducible rfl
  refine wpAny_take (i := 3) (v := ?_) rfl (by kernel_rfl) (by kernel_rfl) (by kernel_rfl) (fun _ _ _ h => h) (Or.inl ⟨by rfl, ?_⟩) ?_
  rotate_left
  · intro w; go_simp <;> with_reducible rfl
  refine wpAny_ready (rs := [4, 5]) (by kernel_rfl) (by simp) (AllReady.cons rfl (fun K hK => ?_) (AllReady.cons rfl (fun K hK => ?_) AllReady.nil))
  · go_simp; refine hK _ _ ?_; clear hK K
    refine wpAny_ready (rs := [5]) (by kernel_rfl) (by simp) (AllReady.cons rfl (fun K hK => ?_) AllReady.nil)
    go_simp; refine hK _ _ ?_; clear hK K
    refine wpAny_ready (rs := [6]) (by kernel_rfl) (by simp) (AllReady.cons rfl (fun K hK => ?_) AllReady.nil)
    go_simp; refine hK _ _ ?_; clear hK K
    refine wpAny_ready (rs := [7]) (by kernel_rfl) (by simp) (AllReady.cons rfl (fun K hK => ?_) AllReady.nil)
    refine step_appR (by rfl) _ _ 71 (by rfl) _ _ (by rfl) (by rfl) hrun ?_; refine hK _ _ ?_; clear hK K
    refine wpAny_take (i := 8) (v := ?_) rfl (by kernel_rfl) (by kernel_rfl) (by kernel_rfl) (fun _ _ _ h => h) (Or.inl ⟨by rfl, ?_⟩) ?_
    rotate_left
    · intro w; go_simp <;> with_reducible rfl
    refine wpAny_take (i := 9) (v := ?_) rfl (by kernel_rfl) (by kernel_rfl) (by kernel_rfl) (fun _ _ _ h => h) (Or.inl ⟨by rfl, ?_⟩) ?_
    rotate_left
    · intro w; go_simp <;> with_reducible rfl
    refine wpAny_ready (rs := [10]) (by kernel_rfl) (by simp) (AllReady.cons rfl (fun K hK => ?_) AllReady.nil)
    go_simp; refine hK _ _ ?_; clear hK K
    refine wpAny_done (by kernel_rfl) ?_ _
    go_end0
    exact ⟨rfl, hfin.out⟩
  · go_simp; refine hK _ _ ?_; clear hK K
    refine wpAny_ready (rs := [4, 6]) (by kernel_rfl) (by simp) (AllReady.cons rfl (fun K hK => ?_) (AllReady.cons rfl (fun K hK => ?_) AllReady.nil))
    · go_simp; refine hK _ _ ?_; clear hK K
      refine wpAny_ready (rs := [6]) (by kernel_rfl) (by simp) (AllReady.cons rfl (fun K hK => ?_) AllReady.nil)
      go_simp; refine hK _ _ ?_; clear hK K
      refine wpAny_ready (rs := [7]) (by kernel_rfl) (by simp) (AllReady.cons rfl (fun K hK => ?_) AllReady.nil)
      refine step_appR (by rfl) _ _ 71 (by rfl) _ _ (by rfl) (by rfl) hrun ?_; refine hK _ _ ?_; clear hK K
      refine wpAny_take (i := 8) (v := ?_) rfl (by kernel_rfl) (by kernel_rfl) (by kernel_rfl) (fun _ _ _ h => h) (Or.inl ⟨by rfl, ?_⟩) ?_
      rotate_left
      · intro w; go_simp <;> with_reducible rfl
      refine wpAny_take (i := 9) (v := ?_) rfl (by kernel_rfl) (by kernel_rfl) (by kernel_rfl) (fun _ _ _ h => h) (Or.inl ⟨by rfl, ?_⟩) ?_
      rotate_left
      · intro w; go_simp <;> with_reducible rfl
      refine wpAny_ready (rs := [10]) (by kernel_rfl) (by simp) (AllReady.cons rfl (fun K hK => ?_) AllReady.nil)
      go_simp; refine hK _ _ ?_; clear hK K
      refine wpAny_done (by kernel_rfl) ?_ _
      go_end0
      exact ⟨rfl, hfin.out⟩
    · go_simp; refine hK _ _ ?_; clear hK K
      refine wpAny_ready (rs := [4]) (by kernel_rfl) (by simp) (AllReady.cons rfl (fun K hK => ?_) AllReady.nil)
      go_simp; refine hK _ _ ?_; clear hK K
      refine wpAny_ready (rs := [7]) (by kernel_rfl) (by simp) (AllReady.cons rfl (fun K hK => ?_) AllReady.nil)
      refine step_appR (by rfl) _ _ 71 (by rfl) _ _ (by rfl) (by rfl) hrun ?_; refine hK _ _ ?_; clear hK K
      refine wpAny_take (i := 8) (v := ?_) rfl (by kernel_rfl) (by kernel_rfl) (by kernel_rfl) (fun _ _ _ h => h) (Or.inl ⟨by rfl, ?_⟩) ?_
      rotate_left
      · intro w; go_simp <;> with_reducible rfl
      refine wpAny_take (i := 9) (v := ?_) rfl (by kernel_rfl) (by kernel_rfl) (by kernel_rfl) (fun _ _ _ h => h) (Or.inl ⟨by rfl, ?_⟩) ?_
      rotate_left
      · intro w; go_simp <;> with_reducible rfl
      refine wpAny_ready (rs := [10]) (by kernel_rfl) (by simp) (AllReady.cons rfl (fun K hK => ?_) AllReady.nil)
      go_simp; refine hK _ _ ?_; clear hK K
      refine wpAny_done (by kernel_rfl) ?_ _
      go_end0
      exact ⟨rfl, hfin.out⟩

theorem cp_holds_in (w : World) (p : Nat) (v : Value) (n : Nat) (xs : List Value) (i : Nat) (h : Pk 2 w 73 50 p v n xs) (h1 : i < n) :
    Calls Try.prog 54 #[.pointer (some ⟨p, 0, none⟩), .int .i64 i] w fun e w' => e = .returned (.bool true) ∧ w' = w := by
  obtain ⟨ao, c, rfl, hc, hf, _⟩ := h.out
  clear h
  have h2 : (0 : Int) ≤ (i : Int) := by omega
  have h3 : (i : Int) < (n : Int) := by omega
  go_enter Try.func54, Try.ntmps54
  go_wp2
  go_ret
  exact ⟨rfl, rfl⟩

theorem cp_holds_none (w : World) (p : Nat) (v : Value) (xs : List Value) (h : Pk 2 w 73 50 p v 0 xs) :
    Calls Try.prog 54 #[.pointer (some ⟨p, 0, none⟩), .int .i64 (-1)] w fun e w' => e = .returned (.bool false) ∧ w' = w := by
  obtain ⟨ao, c, rfl, hc, hf, _⟩ := h.out
  clear h
  go_enter Try.func54, Try.ntmps54
  go_wp2
  go_ret
  exact ⟨rfl, rfl⟩

set_option maxHeartbeats 1000000 in
theorem cp_at_in (w : World) (p : Nat) (v : Value) (n : Nat) (xs : List Value) (i : Nat) (a : Addr) (k : Int) (h : Pk 2 w 73 50 p v n xs) (h1 : i < n) (e0 : xs[i * 2]? = some (.int .i64 k)) (e1 : xs[i * 2 + 1]? = some (.pointer (some a))) (hn : n < 1000000) :
    Calls Try.prog 38 #[.pointer (some ⟨p, 0, none⟩), .int .i64 i] w fun e w' => e = .returned (.tuple #[pvc a k, .bool true]) ∧ Kp [] w w' := by
  obtain ⟨ao, c, hv, hc, hf, hnc, hpl, hcs⟩ := h.out
  obtain ⟨g, o, rfl, hgp, hcs⟩ := hcs (by omega)
  have c0 := (hcs (i * 2) (by omega)).1
  have c1 := (hcs (i * 2 + 1) (by omega)).1
  rw [e0] at c0
  rw [e1, ← Nat.add_assoc] at c1
  have hgl : g < w.heap.size := block_lt_of_cell c0
  obtain ⟨w1, hw1⟩ : ∃ w1, w1 = w.alloc (.cells #[.int .i64 0, .pointer none] 50) := ⟨_, rfl⟩
  have hk : Kp [] w w1 := by rw [hw1]; exact (Kp.refl _ _).alloc _
  have hh := cp_holds_in w1 p v n xs i (h.keep hk (by simp) (fun _ _ => by simp)) h1
  rw [hw1] at hh
  have h2 : (0 : Int) ≤ (i : Int) := by omega
  have h3 : (i : Int) < (n : Int) := by omega
  clear h hcs hv e0 e1 hk hw1 w1
  go_enter Try.func38, Try.ntmps38
  go_wp2_with (go_at_call 54; refine hh.mono ?_; rintro e w' ⟨rfl, rfl⟩)
  refine bodyPost_ret (v := .tuple #[pvc a k, .bool true]) (by simp [results, go_sem, pvc]) rfl ⟨rfl, (Kp.refl _ _).alloc _⟩

set_option maxHeartbeats 1000000 in
theorem cp_at_none (w : World) (p : Nat) (v : Value) (xs : List Value) (h : Pk 2 w 73 50 p v 0 xs) :
    Calls Try.prog 38 #[.pointer (some ⟨p, 0, none⟩), .int .i64 (-1)] w fun e w' => e = .returned (.tuple #[zpc, .bool false]) ∧ Kp [] w w' := by
  have hh := fun w1 (hk : Kp [] w w1) => cp_holds_none w1 p v xs (h.keep hk (by simp) (fun _ _ => by simp))
  have H1 := hh _ ((Kp.refl [] w).alloc (.cells #[.int .i64 0, .pointer none] 50))
  clear hh h
  go_enter Try.func38, Try.ntmps38
  go_wp2_with (go_at_call 54; refine H1.mono ?_; rintro e w' ⟨rfl, rfl⟩)
  refine bodyPost_ret (v := .tuple #[zpc, .bool false]) (by simp [results, go_sem, zpc]) rfl ⟨rfl, ?_⟩
  exact ((Kp.refl _ _).alloc _).alloc _

theorem zvCc (w : World) : (zeroValue 50).run Try.prog w = .ok zpc w := by kernel_rfl

set_option maxHeartbeats 1000000 in
/-- slices.Delete, of the last one. -/
theorem cp_delete (w : World) (g o n c : Nat) (xs ys : List Value) (hown : OwnK 2 w 50 (.slice (some ⟨g, o, none⟩) (n + 1) c) (n + 1) (xs ++ ys)) (hx : xs.length = n * 2) (hl : n < 100000) :
    Calls Try.prog 39 #[.slice (some ⟨g, o, none⟩) (n + 1) c, .int .i64 (n : Int), .int .i64 ((n : Int) + 1)] w fun e w' => e = .returned (.slice (some ⟨g, o, none⟩) n c) ∧ OwnK 2 w' 50 (.slice (some ⟨g, o, none⟩) n c) n xs ∧ Kp [g] w w' := by
  have HF : Hid (OwnK 2 (w.drew.setCells g (o + n * 2) [.int .i64 0, .pointer none]) 50 (.slice (some ⟨g, o, none⟩) n c) n xs ∧ Kp [g] w (w.drew.setCells g (o + n * 2) [.int .i64 0, .pointer none])) :=
    ⟨(hown.keep (Kp.refl [] w).drew (fun _ _ => by simp)).pop hx rfl, Kp.setCells g (Or.inl (by simp)) _ _ _ (Kp.refl _ _).drew⟩
  have hnc : n + 1 ≤ c := by
    rcases hown.2 with ⟨h1, _⟩ | ⟨g', o', cap', cur, hv, hg, h1, h2, h3, h4⟩
    · cases h1
    · simp only [Value.slice.injEq] at hv
      omega
  have HC : ∀ ty, (Builtin.clear_ #[71] ty #[.slice (some ⟨g, o + n * 2, none⟩) 1 (c - n)]).run Try.prog w.drew = .ok (.tuple #[]) (w.drew.setCells g (o + n * 2) [.int .i64 0, .pointer none]) := fun ty => by
    rcases hown.2 with ⟨h1, _⟩ | ⟨g', o', cap', cur, hv, hg, h1, h2, h3, h4⟩
    · cases h1
    · simp only [Value.slice.injEq, Option.some.injEq, Addr.mk.injEq] at hv
      obtain ⟨⟨rfl, rfl, _⟩, _, rfl⟩ := hv
      exact clear_one w.drew 71 50 ty zpc _ Try.underlying71 zvCc rfl (fun u hu => by simp at hu; rcases hu with rfl | rfl <;> rfl) g (o + n * 2) (c - n)
        (fun j hj => by
          show (w.cell? _).isSome = true
          simp at hj
          rw [cell_of hg, Array.getElem?_eq_getElem (by omega)]; rfl) (fun j hj => frozen_of (w := w) hg _)
  have HA : ∀ W : World, (storeCells ⟨g, o + n * 2, none⟩ []).run Try.prog W = .ok () W := fun W => rfl
  clear hown hx
  have i1 : (0 : Int) ≤ (n : Int) := by omega
  have i4 : (0 : Int) ≤ (n : Int) + 1 := by omega
  have i5 : (n : Int) ≤ (n : Int) + 1 := by omega
  by_cases hlt : n + 1 < c
  · have i2 : (n : Int) ≤ (c : Int) := by omega
    have i3 : (n : Int) + 1 ≤ (c : Int) := by omega
    have i6 : ¬ c = n + 1 := by omega
    have HB := app_none (P := Try.prog) Try.underlying71 infoCc w.drew g o n c ⟨g, o + (n + 1) * 2, none⟩ (c - (n + 1)) (by omega)
    clear HA
    go_enter Try.func39, Try.ntmps39
    go_wp2_with fail
    go_region_held3 (fun _ => True) (trivial)
      (first | refine step_appR (by rfl) _ _ 71 (by rfl) _ _ (by rfl) (by rfl) HB ?_)
    go_wp2_with (at_builtin; refine wpList_clear_run _ rfl _ _ rfl _ rfl HC ?_)
    go_ret
    exact ⟨rfl, HF.out⟩
  · obtain rfl : c = n + 1 := by omega
    rw [show n + 1 - n = 1 by omega] at HC
    go_enter Try.func39, Try.ntmps39
    go_wp2_with fail
    go_region_held3 (fun _ => True) (trivial)
      (fail)
    go_wp2_with (at_builtin; refine wpList_clear_run _ rfl _ _ rfl _ rfl HC ?_)
    go_ret
    exact ⟨rfl, HF.out⟩


set_option maxRecDepth 100000 in
set_option maxHeartbeats 1000000 in
theorem cp_cut (w : World) (p : Nat) (v : Value) (n : Nat) (xs : List Value) (a : Addr) (k : Int) (h : Pk 2 w 73 50 p v (n + 1) (xs ++ pcc a k)) (hl : n < 100000) :
    Calls Try.prog 20 #[.pointer (some ⟨p, 0, none⟩), .int .i64 n] w fun e w' => e = .returned (.tuple #[pvc a k, .bool true]) ∧ Tk 2 w w' 73 50 p v n xs := by
  have hx : xs.length = n * 2 := by have := h.2.1.1; rw [List.length_append] at this; simp [pcc] at this; omega
  have H1 := fun W (kw : Kp [] w W) => cp_at_in W p v (n + 1) _ n a k (h.keep kw (by simp) (fun _ _ => by simp)) (by omega) (by rw [← hx, List.getElem?_append_right (by omega)]; simp [pcc]) (by rw [← hx, List.getElem?_append_right (by omega)]; simp [pcc]) (by omega)
  obtain ⟨ao, c, rfl, hc, hf, hnc, hpl, hcs⟩ := h.out
  obtain ⟨g, o, rfl, hgp, _⟩ := hcs (by omega)
  obtain ⟨hp, hown, hpb⟩ := h
  have hgl : g < w.heap.size := hown.lt g (by simp [blk])
  have H1' := H1 _ ((Kp.refl [] w).alloc (.cells #[.int .i64 0, .pointer none] 50))
  have HD : Hid (∀ W, Kp [] w W → Calls Try.prog 39 #[.slice (some ⟨g, o, none⟩) (n + 1) c, .int .i64 (n : Int), .int .i64 ((n : Int) + 1)] W fun e w' => e = .returned (.slice (some ⟨g, o, none⟩) n c) ∧ OwnK 2 w' 50 (.slice (some ⟨g, o, none⟩) n c) n xs ∧ Kp [g] W w') := fun W kw => cp_delete W g o n c xs _ (hown.keep kw (fun _ _ => by simp)) hx hl
  have HP : Hid (w.heap[p]? = some (.cells #[.slice (some ⟨g, o, none⟩) (n + 1) c] 73 (0, 0))) := hp
  clear H1 hcs hp hown hpb hx
  have i1 : (n : Int) < 100000 := by omega
  unfold pvc at H1' ⊢
  go_enter Try.func20, Try.ntmps20
  go_wp2_with fail
  refine H1'.mono ?_
  rintro e w2 ⟨rfl, K2⟩
  have K0 : Hid (Kp [] w w2) := ((Kp.refl [] w).alloc _).trans K2 (fun x hx => Or.inl hx)
  have R2 : Hid (w2.heap[w.heap.size]? = some (.cells #[.int .i64 0, .pointer none] 50 (0, 0))) := (K2.block _ (by simp) (by simp)).trans (heap_new w _)
  have hs2 : w.heap.size < w2.heap.size := (Array.getElem?_eq_some_iff.1 R2.out).1
  have c2 : w2.cell? ⟨p, 0, none⟩ = some (.slice (some ⟨g, o, none⟩) (n + 1) c) := (cell_of ((K0.out.block p hpl (by simp)).trans HP.out) 0)
  have hpl2 : p < w2.heap.size := by omega
  clear K2 H1'
  go_wp2_with fail
  refine (HD.out _ (K0.out.alloc _)).mono ?_
  rintro e w3 ⟨rfl, O3, K3⟩
  have P3 : w3.heap[p]? = some (.cells #[.slice (some ⟨g, o, none⟩) (n + 1) c] 73 (0, 0)) := (K3.block p (by simp; omega) (by simp; omega)).trans ((((K0.out.alloc _).block p hpl (by simp))).trans HP.out)
  have R3 : w3.heap[w.heap.size]? = some (.cells #[.int .i64 0, .pointer none] 50 (0, 0)) := (K3.block _ (by simp; omega) (by simp; omega)).trans ((((Kp.refl [] w2).alloc _).block _ hs2 (by simp)).trans R2.out)
  have X3 : w3.heap[w2.heap.size]? = some (.cells #[.int .i64 k, .pointer (some a)] 50 (0, 0)) := (K3.block _ (by simp) (by simp; omega)).trans (heap_new w2 _)
  have cp3 : w3.cell? ⟨p, 0, none⟩ = some (.slice (some ⟨g, o, none⟩) (n + 1) c) := cell_of P3 0
  have fp3 := frozen_of P3 0
  have cr0 : w3.cell? ⟨w.heap.size, 0, none⟩ = some (.int .i64 0) := cell_of R3 0
  have cr1 : w3.cell? ⟨w.heap.size, 1, none⟩ = some (.pointer none) := cell_of R3 1
  have fr0 := frozen_of R3 0
  have fr1 := frozen_of R3 1
  have cx0 : w3.cell? ⟨w2.heap.size, 0, none⟩ = some (.int .i64 k) := cell_of X3 0
  have cx1 : w3.cell? ⟨w2.heap.size, 1, none⟩ = some (.pointer (some a)) := cell_of X3 1
  have n1 : ¬ p = w.heap.size := by omega
  have n2 : ¬ p = w2.heap.size := by omega
  have n5 : ¬ w.heap.size = p := by omega
  have n6 : ¬ w2.heap.size = p := by omega
  have HF : Hid (Tk 2 w (((w3.setCell ⟨p, 0, none⟩ (.slice (some ⟨g, o, none⟩) n c)).setCell ⟨w.heap.size, 0, none⟩ (.int .i64 k)).setCell ⟨w.heap.size, 1, none⟩ (.pointer (some a))) 73 50 p (.slice (some ⟨g, o, none⟩) (n + 1) c) n xs) := by
    obtain ⟨v', h1, h2, h3⟩ := Tk.mk (K := 2) (w := w) hpl P3 (by simp [blk]; omega) O3 ((K0.out.alloc _).mono (T := p :: blk (.slice (some ⟨g, o, none⟩) (n + 1) c)) (fun x hx => by simp at hx) |>.trans K3 (fun x hx => by simp at hx; subst hx; exact Or.inl (by simp [blk]))) (fun x hx => Or.inl (by simpa [blk] using hx))
    have hv : ∀ x, x ∈ blk v' → x < w.heap.size := fun x hx => by
      rcases h3 x hx with h4 | h4
      · simp [blk] at h4; omega
      · have := h1.2.1.lt x hx
        rcases Nat.lt_or_ge x w.heap.size with h5 | h5
        · exact h5
        · exact absurd hx (by
            have e : v' = .slice (some ⟨g, o, none⟩) n c := by
              have := h1.1
              rw [setCell_block P3] at this
              simp at this
              exact this.symm
            rw [e]; simp [blk]; omega)
    refine ⟨v', (h1.keep (((Kp.refl [w.heap.size] _).setCell (Or.inl (by simp)) _).setCell (Or.inl (by simp)) _) (by simp; omega) (fun x hx => by have := hv x hx; simp; omega)), (h2.setCell (Or.inr (Nat.le_refl _)) _).setCell (Or.inr (Nat.le_refl _)) _, h3⟩
  clear O3 K3 P3 R3 X3 HD HP
  go_wp2
  refine bodyPost_ret (v := .tuple #[.agg #[.int .i64 k, .pointer (some a)], .bool true]) (by simp [results, go_sem, cr0, cr1]) rfl ⟨rfl, HF.out⟩

set_option maxRecDepth 100000 in
set_option maxHeartbeats 1000000 in
theorem cp_pop (w : World) (p : Nat) (v : Value) (n : Nat) (xs : List Value) (a : Addr) (k : Int) (h : Pk 2 w 73 50 p v (n + 1) (xs ++ pcc a k)) (hl : n < 100000) :
    Calls Try.prog 14 #[.pointer (some ⟨p, 0, none⟩)] w fun e w' => e = .returned (.tuple #[pvc a k, .bool true]) ∧ Tk 2 w w' 73 50 p v n xs := by
  have H1 := cp_cut _ p v n xs a k (h.keep ((Kp.refl [] w).alloc (.cells #[.int .i64 0, .pointer none] 50)) (by simp) (fun _ _ => by simp)) hl
  have hlt := h.2.1.lt
  obtain ⟨ao, c, rfl, hc, hf, hnc, hpl, hcs⟩ := h.out
  have HL : Hid (∀ x, x ∈ blk (.slice ao (n + 1) c) → x < w.heap.size) := hlt
  clear hcs h hlt
  have i1 : (n : Int) < 100000 := by omega
  unfold pvc at H1 ⊢
  go_enter Try.func14, Try.ntmps14
  go_wp2_with fail
  refine H1.mono ?_
  rintro e w2 ⟨rfl, v', T1, T2, T3⟩
  have hn : w.heap.size ∉ p :: blk (.slice ao (n + 1) c) := fun hx => by
    rcases List.mem_cons.1 hx with h1 | h1
    · omega
    · have := HL.out _ h1; omega
  have R2 : w2.heap[w.heap.size]? = some (.cells #[.int .i64 0, .pointer none] 50 (0, 0)) := (T2.block _ (by simp) hn).trans (heap_new w _)
  have cr0 : w2.cell? ⟨w.heap.size, 0, none⟩ = some (.int .i64 0) := cell_of R2 0
  have cr1 : w2.cell? ⟨w.heap.size, 1, none⟩ = some (.pointer none) := cell_of R2 1
  have fr0 := frozen_of R2 0
  have fr1 := frozen_of R2 1
  have HF : Hid (Tk 2 w ((w2.setCell ⟨w.heap.size, 0, none⟩ (.int .i64 k)).setCell ⟨w.heap.size, 1, none⟩ (.pointer (some a))) 73 50 p (.slice ao (n + 1) c) n xs) := by
    have hb : ∀ x, x ∈ blk v' → x ∈ blk (.slice ao (n + 1) c) ∨ w.heap.size + 1 ≤ x := fun x hx => by have := T3 x hx; simpa using this
    refine ⟨v', T1.keep (((Kp.refl [w.heap.size] _).setCell (Or.inl (by simp)) _).setCell (Or.inl (by simp)) _) (by simp; omega) (fun x hx => ?_), ((((Kp.refl _ w).alloc _).trans T2 (fun x hx => Or.inl hx)).setCell (Or.inr (Nat.le_refl _)) _).setCell (Or.inr (Nat.le_refl _)) _, fun x hx => ?_⟩
    · rcases hb x hx with h1 | h1
      · have := HL.out x h1; simp; omega
      · simp; omega
    · rcases hb x hx with h1 | h1
      · exact Or.inl h1
      · right; omega
  clear T1 T2 T3 R2 H1 hn
  go_wp2
  refine bodyPost_ret (v := .tuple #[.agg #[.int .i64 k, .pointer (some a)], .bool true]) (by simp [results, go_sem, cr0, cr1]) rfl ⟨rfl, HF.out⟩

set_option maxRecDepth 100000 in
set_option maxHeartbeats 1000000 in
theorem cp_cut_none (w : World) (p : Nat) (v : Value) (xs : List Value) (h : Pk 2 w 73 50 p v 0 xs) :
    Calls Try.prog 20 #[.pointer (some ⟨p, 0, none⟩), .int .i64 (-1)] w fun e w' => e = .returned (.tuple #[zpc, .bool false]) ∧ Kp [] w w' := by
  have H1 := cp_at_none _ p v xs (h.keep ((Kp.refl [] w).alloc (.cells #[.int .i64 0, .pointer none] 50)) (by simp) (fun _ _ => by simp))
  clear h
  unfold zpc at H1 ⊢
  go_enter Try.func20, Try.ntmps20
  go_wp2_with fail
  refine H1.mono ?_
  rintro e w2 ⟨rfl, K2⟩
  have R2 : w2.heap[w.heap.size]? = some (.cells #[.int .i64 0, .pointer none] 50 (0, 0)) := (K2.block _ (by simp) (by simp)).trans (heap_new w _)
  have hs2 : w.heap.size < w2.heap.size := (Array.getElem?_eq_some_iff.1 R2).1
  have cr0 : w2.cell? ⟨w.heap.size, 0, none⟩ = some (.int .i64 0) := cell_of R2 0
  have cr1 : w2.cell? ⟨w.heap.size, 1, none⟩ = some (.pointer none) := cell_of R2 1
  have fr0 := frozen_of R2 0
  have fr1 := frozen_of R2 1
  have K0 : Hid (Kp [] w w2) := ((Kp.refl [] w).alloc _).trans K2 (fun x hx => Or.inl hx)
  have R3 : (((w2.setCell ⟨w.heap.size, 0, none⟩ (.int .i64 0)).setCell ⟨w.heap.size, 1, none⟩ (.pointer none)).alloc (.cells #[.int .i64 0, .pointer none] 50)).heap[w.heap.size]? = some (.cells #[.int .i64 0, .pointer none] 50 (0, 0)) := by
    rw [Below.heap_alloc _ _ _ (by simp [World.setCell]; omega), setCell_block (setCell_block R2 _ _)]; rfl
  have D : Hid (_ ∧ _) := ⟨cell_of R3 0, cell_of R3 1⟩
  clear K2 R2 H1 R3
  go_wp2
  obtain ⟨d0, d1⟩ := D.out
  refine bodyPost_ret (v := .tuple #[.agg #[.int .i64 0, .pointer none], .bool false]) (by simp [results, go_sem, d0, d1]) rfl ⟨rfl, ?_⟩
  exact ((K0.out.setCell (Or.inr (Nat.le_refl _)) _).setCell (Or.inr (Nat.le_refl _)) _).alloc _

set_option maxRecDepth 100000 in
set_option maxHeartbeats 1000000 in
theorem cp_pop_none (w : World) (p : Nat) (v : Value) (xs : List Value) (h : Pk 2 w 73 50 p v 0 xs) :
    Calls Try.prog 14 #[.pointer (some ⟨p, 0, none⟩)] w fun e w' => e = .returned (.tuple #[zpc, .bool false]) ∧ Kp [] w w' := by
  have H1 := cp_cut_none _ p v xs (h.keep ((Kp.refl [] w).alloc (.cells #[.int .i64 0, .pointer none] 50)) (by simp) (fun _ _ => by simp))
  obtain ⟨ao, c, rfl, hc, hf, hnc, hpl, hcs⟩ := h.out
  clear h hcs
  unfold zpc at H1 ⊢
  go_enter Try.func14, Try.ntmps14
  go_wp2_with fail
  refine H1.mono ?_
  rintro e w2 ⟨rfl, K2⟩
  have R2 : w2.heap[w.heap.size]? = some (.cells #[.int .i64 0, .pointer none] 50 (0, 0)) := (K2.block _ (by simp) (by simp)).trans (heap_new w _)
  have cr0 : w2.cell? ⟨w.heap.size, 0, none⟩ = some (.int .i64 0) := cell_of R2 0
  have cr1 : w2.cell? ⟨w.heap.size, 1, none⟩ = some (.pointer none) := cell_of R2 1
  have fr0 := frozen_of R2 0
  have fr1 := frozen_of R2 1
  have K0 : Hid (Kp [] w w2) := ((Kp.refl [] w).alloc _).trans K2 (fun x hx => Or.inl hx)
  clear K2 R2 H1
  go_wp2
  refine bodyPost_ret (v := .tuple #[.agg #[.int .i64 0, .pointer none], .bool false]) (by simp [results, go_sem, cr0, cr1]) rfl ⟨rfl, ?_⟩
  exact (K0.out.setCell (Or.inr (Nat.le_refl _)) _).setCell (Or.inr (Nat.le_refl _)) _

end Go.Proofs.Ytpkppobkagdhkaa
