/-
  A pile of pointers.
-/
import Derived.Test.YtgnbafgglkncmaaPlacesB
namespace Go.Proofs.Ytgnbafgglkncmaa
open Go.RowKit
set_option linter.unusedVariables false

theorem info52t : (Try.prog.info? 52).map (fun i => (i.zero, i.size, i.bytes)) = some (some (.pointer none), 1, 8) := by kernel_rfl
theorem zv52 (w : World) : (zeroValue 52).run Try.prog w = .ok (.pointer none) w := by kernel_rfl

theorem pt_new (w : World) : Calls Try.prog 30 #[] w fun e w' => e = .returned (.pointer (some ⟨w.heap.size, 0, none⟩)) ∧ w' = w.alloc (.cells #[.slice none 0 0] 85) := by
  go_enter Try.func30, Try.ntmps30
  go_wp2
  go_ret
  exact ⟨rfl, rfl⟩

theorem pt_len (w : World) (p : Nat) (v : Value) (n : Nat) (xs : List Value) (h : Pk 1 w 85 52 p v n xs) :
    Calls Try.prog 34 #[.pointer (some ⟨p, 0, none⟩)] w fun e w' => e = .returned (.int .i64 (n : Int)) ∧ w' = w := by
  obtain ⟨ao, c, rfl, hc, hf, _⟩ := h.out
  clear h
  go_enter Try.func34, Try.ntmps34
  go_wp2
  go_ret
  exact ⟨rfl, rfl⟩

set_option maxHeartbeats 1000000 in
theorem pt_push (w : World) (p : Nat) (v : Value) (n : Nat) (xs : List Value) (a : Addr) (h : Pk 1 w 85 52 p v n xs) (hl : n < 100000) :
    Calls Try.prog 31 #[.pointer (some ⟨p, 0, none⟩), .pointer (some a)] w fun e w' => e = .returned (.tuple #[]) ∧ Tk 1 w w' 85 52 p v (n + 1) (xs ++ [.pointer (some a)]) := by
  obtain ⟨ao, c, rfl, hc, hf, hnc, hpl, _⟩ := h.out
  obtain ⟨hp, hown, hpb⟩ := h
  obtain ⟨w1, hw1⟩ : ∃ w1, w1 = w.alloc (.cells #[.pointer (some a)] 52) := ⟨_, rfl⟩
  have hk1 : Kp [] w w1 := by rw [hw1]; exact (Kp.refl _ _).alloc _
  have hown1 : OwnK 1 w1 52 (.slice ao n c) n xs := hown.keep hk1 (fun _ _ => by simp)
  have hq : w1.heap[w.heap.size]? = some (.cells #[.pointer (some a)] 52 (0, 0)) := by rw [hw1]; exact heap_new _ _
  obtain ⟨v', w2, hrun, hown2, hk2, hb2, a2, c2, hv2⟩ := appK Try.underlying83 info52t rfl (by decide) w1 _ n xs hown1 _ 1 _ (src_new Try.underlying83 hq [.pointer (some a)] rfl (fun u hu => by simp at hu; rw [hu]; rfl)) (fun _ => by omega) (by omega)
  have hsz : w1.heap.size = w.heap.size + 1 := by rw [hw1]; simp
  have hp2 : w2.heap[p]? = some (.cells #[.slice ao n c] 85 (0, 0)) := by
    rw [hk2.block p (by omega) hpb, hk1.block p hpl (by simp)]; exact hp
  have hc2 : w2.cell? ⟨p, 0, none⟩ = some (.slice ao n c) := by rw [cell_of hp2]; rfl
  have hf2 : w2.frozen? ⟨p, 0, none⟩ = false := frozen_of hp2 0
  have hfin : Hid (Tk 1 w (w2.setCell ⟨p, 0, none⟩ v') 85 52 p (.slice ao n c) (n + 1) (xs ++ [.pointer (some a)])) := by
    refine Tk.mk hpl hp2 hpb hown2 ((hk1.mono (T := p :: blk _) (fun y hy => by simp at hy)).trans hk2 (fun y hy => Or.inl (by simp [hy]))) (fun k hk => ?_)
    rcases hb2 k hk with h1 | h1
    · exact Or.inl h1
    · right; omega
  rw [hw1] at hrun
  subst hv2
  have hc1 : (w.alloc (.cells #[.pointer (some a)] 52)).cell? ⟨p, 0, none⟩ = some (.slice ao n c) := by rw [← hw1]; exact cell_of ((hk1.block p hpl (by simp)).trans hp) 0
  clear hk1 hown1 hown2 hk2 hb2 hp2 hown hq hsz hw1 hp hpb
  go_enter Try.func31, Try.ntmps31
  go_wp2_with (at_builtin; refine Lib.wpList_append_run _ rfl _ _ _ _ rfl _ _ rfl rfl _ _ (hrun _) ?_)
  go_end0
  exact ⟨rfl, hfin.out⟩

theorem pt_holds_in (w : World) (p : Nat) (v : Value) (n : Nat) (xs : List Value) (i : Nat) (h : Pk 1 w 85 52 p v n xs) (h1 : i < n) :
    Calls Try.prog 71 #[.pointer (some ⟨p, 0, none⟩), .int .i64 i] w fun e w' => e = .returned (.bool true) ∧ w' = w := by
  obtain ⟨ao, c, rfl, hc, hf, _⟩ := h.out
  clear h
  have h2 : (0 : Int) ≤ (i : Int) := by omega
  have h3 : (i : Int) < (n : Int) := by omega
  go_enter Try.func71, Try.ntmps71
  go_wp2
  go_ret
  exact ⟨rfl, rfl⟩

set_option maxHeartbeats 1000000 in
theorem pt_at_in (w : World) (p : Nat) (v : Value) (n : Nat) (xs : List Value) (i : Nat) (a : Addr) (h : Pk 1 w 85 52 p v n xs) (h1 : i < n) (e0 : xs[i]? = some (.pointer (some a))) (hn : n < 1000000) :
    Calls Try.prog 56 #[.pointer (some ⟨p, 0, none⟩), .int .i64 i] w fun e w' => e = .returned (.tuple #[.pointer (some a), .bool true]) ∧ w' = w := by
  have hh := pt_holds_in w p v n xs i h h1
  obtain ⟨ao, c, hv, hc, hf, hnc, hpl, hcs⟩ := h.out
  obtain ⟨g, o, rfl, hgp, hcs⟩ := hcs (by omega)
  have c0 := (hcs i (by omega)).1
  rw [e0] at c0
  have h2 : (0 : Int) ≤ (i : Int) := by omega
  have h3 : (i : Int) < (n : Int) := by omega
  clear h hcs hv e0
  go_enter Try.func56, Try.ntmps56
  go_wp2_with (go_at_call 71; refine hh.mono ?_; rintro e w' ⟨rfl, hw⟩; have hw2 := hw.symm; clear hw; subst hw2)
  go_ret2
  exact ⟨rfl, rfl⟩

set_option maxHeartbeats 1000000 in
theorem pt_delete (w : World) (g o n c : Nat) (xs ys : List Value) (hown : OwnK 1 w 52 (.slice (some ⟨g, o, none⟩) (n + 1) c) (n + 1) (xs ++ ys)) (hx : xs.length = n * 1) (hl : n < 100000) :
    Calls Try.prog 70 #[.slice (some ⟨g, o, none⟩) (n + 1) c, .int .i64 (n : Int), .int .i64 ((n : Int) + 1)] w fun e w' => e = .returned (.slice (some ⟨g, o, none⟩) n c) ∧ OwnK 1 w' 52 (.slice (some ⟨g, o, none⟩) n c) n xs ∧ Kp [g] w w' := by
  have HF : Hid (OwnK 1 (w.drew.setCells g (o + n * 1) [.pointer none]) 52 (.slice (some ⟨g, o, none⟩) n c) n xs ∧ Kp [g] w (w.drew.setCells g (o + n * 1) [.pointer none])) :=
    ⟨(hown.keep (Kp.refl [] w).drew (fun _ _ => by simp)).pop hx rfl, Kp.setCells g (Or.inl (by simp)) _ _ _ (Kp.refl _ _).drew⟩
  rw [Nat.mul_one] at HF
  have hnc : n + 1 ≤ c := by
    rcases hown.2 with ⟨h1, _⟩ | ⟨g', o', cap', cur, hv, hg, h1, h2, h3, h4⟩
    · cases h1
    · simp only [Value.slice.injEq] at hv
      omega
  have HC : ∀ ty, (Builtin.clear_ #[83] ty #[.slice (some ⟨g, o + n, none⟩) 1 (c - n)]).run Try.prog w.drew = .ok (.tuple #[]) (w.drew.setCells g (o + n) [.pointer none]) := fun ty => by
    rcases hown.2 with ⟨h1, _⟩ | ⟨g', o', cap', cur, hv, hg, h1, h2, h3, h4⟩
    · cases h1
    · simp only [Value.slice.injEq, Option.some.injEq, Addr.mk.injEq] at hv
      obtain ⟨⟨rfl, rfl, _⟩, _, rfl⟩ := hv
      exact clear_one w.drew 83 52 ty (.pointer none) _ Try.underlying83 zv52 rfl (fun u hu => by simp at hu; rw [hu]; rfl) g (o + n) (c - n)
        (fun j hj => by
          show (w.cell? _).isSome = true
          simp at hj
          rw [cell_of hg, Array.getElem?_eq_getElem (by omega)]; rfl) (fun j hj => frozen_of (w := w) hg _)
  clear hown hx
  have i1 : (0 : Int) ≤ (n : Int) := by omega
  have i4 : (0 : Int) ≤ (n : Int) + 1 := by omega
  have i5 : (n : Int) ≤ (n : Int) + 1 := by omega
  by_cases hlt : n + 1 < c
  · have i2 : (n : Int) ≤ (c : Int) := by omega
    have i3 : (n : Int) + 1 ≤ (c : Int) := by omega
    have i6 : ¬ c = n + 1 := by omega
    have HB := app_none (P := Try.prog) Try.underlying83 info52t w.drew g o n c ⟨g, o + (n + 1), none⟩ (c - (n + 1)) (by omega)
    go_enter Try.func70, Try.ntmps70
    go_wp2_with fail
    go_region_held3 (fun _ => True) (trivial)
      (first | refine step_appR (by rfl) _ _ 83 (by rfl) _ _ (by rfl) (by rfl) HB ?_)
    go_wp2_with (at_builtin; refine wpList_clear_run _ rfl _ _ rfl _ rfl HC ?_)
    go_ret
    exact ⟨rfl, HF.out⟩
  · obtain rfl : c = n + 1 := by omega
    rw [show n + 1 - n = 1 by omega] at HC
    go_enter Try.func70, Try.ntmps70
    go_wp2_with fail
    go_region_held3 (fun _ => True) (trivial)
      (fail)
    go_wp2_with (at_builtin; refine wpList_clear_run _ rfl _ _ rfl _ rfl HC ?_)
    go_ret
    exact ⟨rfl, HF.out⟩

set_option maxRecDepth 100000 in
set_option maxHeartbeats 1000000 in
theorem pt_cut (w : World) (p : Nat) (v : Value) (n : Nat) (xs : List Value) (a : Addr) (h : Pk 1 w 85 52 p v (n + 1) (xs ++ [.pointer (some a)])) (hl : n < 100000) :
    Calls Try.prog 55 #[.pointer (some ⟨p, 0, none⟩), .int .i64 n] w fun e w' => e = .returned (.tuple #[.pointer (some a), .bool true]) ∧ Tk 1 w w' 85 52 p v n xs := by
  have hx : xs.length = n * 1 := by have := h.2.1.1; rw [List.length_append] at this; simp at this; omega
  have H1 := pt_at_in w p v (n + 1) _ n a h (by omega) (by rw [List.getElem?_append_right (by omega)]; simp [hx]) (by omega)
  obtain ⟨ao, c, rfl, hc, hf, hnc, hpl, hcs⟩ := h.out
  obtain ⟨g, o, rfl, hgp, _⟩ := hcs (by omega)
  obtain ⟨hp, hown, hpb⟩ := h
  have HD := pt_delete w g o n c xs _ hown hx hl
  have HF : Hid (∀ w3, OwnK 1 w3 52 (.slice (some ⟨g, o, none⟩) n c) n xs → Kp [g] w w3 → Tk 1 w (w3.setCell ⟨p, 0, none⟩ (.slice (some ⟨g, o, none⟩) n c)) 85 52 p (.slice (some ⟨g, o, none⟩) (n + 1) c) n xs) := fun w3 O3 K3 => by
    have P3 : w3.heap[p]? = some (.cells #[.slice (some ⟨g, o, none⟩) (n + 1) c] 85 (0, 0)) := (K3.block p hpl (by simp; omega)).trans hp
    exact Tk.mk hpl P3 hpb O3 (K3.mono (fun x hx => by simp at hx; subst hx; exact Or.inl (by simp [blk]))) (fun x hx => Or.inl (by simpa [blk] using hx))
  have HP : Hid (∀ w3, Kp [g] w w3 → w3.cell? ⟨p, 0, none⟩ = some (.slice (some ⟨g, o, none⟩) (n + 1) c) ∧ w3.frozen? ⟨p, 0, none⟩ = false) := fun w3 K3 => by
    have P3 : w3.heap[p]? = some (.cells #[.slice (some ⟨g, o, none⟩) (n + 1) c] 85 (0, 0)) := (K3.block p hpl (by simp; omega)).trans hp
    exact ⟨cell_of P3 0, frozen_of P3 0⟩
  clear hcs hp hown hpb hx
  have i1 : (n : Int) < 100000 := by omega
  go_enter Try.func55, Try.ntmps55
  go_wp2_with (first
    | (go_at_call 56; refine H1.mono ?_; rintro e w' ⟨rfl, hw⟩; have hw2 := hw.symm; clear hw; subst hw2)
    | (go_at_call 70; refine HD.mono ?_; rintro e w3 ⟨rfl, O3, K3⟩; obtain ⟨cp3, fp3⟩ := HP.out _ K3))
  go_ret2
  exact ⟨rfl, HF.out _ O3 K3⟩

set_option maxHeartbeats 1000000 in
theorem pt_pop (w : World) (p : Nat) (v : Value) (n : Nat) (xs : List Value) (a : Addr) (h : Pk 1 w 85 52 p v (n + 1) (xs ++ [.pointer (some a)])) (hl : n < 100000) :
    Calls Try.prog 35 #[.pointer (some ⟨p, 0, none⟩)] w fun e w' => e = .returned (.tuple #[.pointer (some a), .bool true]) ∧ Tk 1 w w' 85 52 p v n xs := by
  have H1 := pt_cut w p v n xs a h hl
  obtain ⟨ao, c, rfl, hc, hf, hnc, hpl, hcs⟩ := h.out
  clear hcs h
  have i1 : (n : Int) < 100000 := by omega
  go_enter Try.func35, Try.ntmps35
  go_wp2_with (go_at_call 55; refine H1.mono ?_; rintro e w2 ⟨rfl, T2⟩)
  go_ret2
  exact ⟨rfl, T2⟩

set_option maxHeartbeats 1000000 in
theorem pt_top (w : World) (p : Nat) (v : Value) (n : Nat) (xs : List Value) (a : Addr) (h : Pk 1 w 85 52 p v (n + 1) (xs ++ [.pointer (some a)])) (hl : n < 100000) :
    Calls Try.prog 36 #[.pointer (some ⟨p, 0, none⟩)] w fun e w' => e = .returned (.tuple #[.pointer (some a), .bool true]) ∧ w' = w := by
  have hx : xs.length = n * 1 := by have := h.2.1.1; rw [List.length_append] at this; simp at this; omega
  have H1 := pt_at_in w p v (n + 1) _ n a h (by omega) (by rw [List.getElem?_append_right (by omega)]; simp [hx]) (by omega)
  obtain ⟨ao, c, rfl, hc, hf, hnc, hpl, hcs⟩ := h.out
  clear hcs h hx
  have i1 : (n : Int) < 100000 := by omega
  go_enter Try.func36, Try.ntmps36
  go_wp2_with (go_at_call 56; refine H1.mono ?_; rintro e w2 ⟨rfl, hw⟩; have hw2 := hw.symm; clear hw; subst hw2)
  go_ret2
  exact ⟨rfl, rfl⟩

end Go.Proofs.Ytgnbafgglkncmaa
