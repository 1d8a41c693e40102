/-
  Joined: Ints.
-/
import Derived.Test.YtpkppobkagdhkaaJ12
import Derived.Test.YtpkppobkagdhkaaJ19
import Derived.WalkLawsBesides

/-
  A pile of numbers.
-/
namespace Go.Proofs.Ytpkppobkagdhkaa
open Go.RowKit
set_option linter.unusedVariables false

theorem infoI : (Try.prog.info? 3).map (fun i => (i.zero, i.size, i.bytes)) = some (some (.int .i64 0), 1, 8) := by kernel_rfl
theorem zvI (w : World) : (zeroValue 3).run Try.prog w = .ok (.int .i64 0) w := by kernel_rfl

theorem ip_new (w : World) : Calls Try.prog 57 #[] w fun e w' => e = .returned (.pointer (some ⟨w.heap.size, 0, none⟩)) ∧ w' = w.alloc (.cells #[.slice none 0 0] 107) := by
  go_enter Try.func57, Try.ntmps57
  go_wp2
  go_ret
  exact ⟨rfl, rfl⟩


set_option maxHeartbeats 1000000 in
theorem ip_push (w : World) (p : Nat) (v : Value) (n : Nat) (xs : List Value) (a : Int) (h : Pk 1 w 107 3 p v n xs) (hl : n < 100000) :
    Calls Try.prog 63 #[.pointer (some ⟨p, 0, none⟩), .int .i64 a] w fun e w' => e = .returned (.tuple #[]) ∧ Tk 1 w w' 107 3 p v (n + 1) (xs ++ [.int .i64 a]) := by
  obtain ⟨ao, c, rfl, hc, hf, hnc, hpl, _⟩ := h.out
  obtain ⟨hp, hown, hpb⟩ := h
  obtain ⟨w1, hw1⟩ : ∃ w1, w1 = w.alloc (.cells #[.int .i64 a] 3) := ⟨_, rfl⟩
  have hk1 : Kp [] w w1 := by rw [hw1]; exact (Kp.refl _ _).alloc _
  have hown1 : OwnK 1 w1 3 (.slice ao n c) n xs := hown.keep hk1 (fun _ _ => by simp)
  have hq : w1.heap[w.heap.size]? = some (.cells #[.int .i64 a] 3 (0, 0)) := by rw [hw1]; exact heap_new _ _
  obtain ⟨v', w2, hrun, hown2, hk2, hb2, a2, c2, hv2⟩ := appK Try.underlying54 infoI rfl (by decide) w1 _ n xs hown1 _ 1 _ (src_new Try.underlying54 hq [.int .i64 a] rfl (fun u hu => by simp at hu; rw [hu]; rfl)) (fun _ => by omega) (by omega)
  have hsz : w1.heap.size = w.heap.size + 1 := by rw [hw1]; simp
  have hp2 : w2.heap[p]? = some (.cells #[.slice ao n c] 107 (0, 0)) := by
    rw [hk2.block p (by omega) hpb, hk1.block p hpl (by simp)]; exact hp
  have hc2 : w2.cell? ⟨p, 0, none⟩ = some (.slice ao n c) := by rw [cell_of hp2]; rfl
  have hf2 : w2.frozen? ⟨p, 0, none⟩ = false := frozen_of hp2 0
  have hfin : Hid (Tk 1 w (w2.setCell ⟨p, 0, none⟩ v') 107 3 p (.slice ao n c) (n + 1) (xs ++ [.int .i64 a])) := by
    refine Tk.mk hpl hp2 hpb hown2 ((hk1.mono (T := p :: blk _) (fun y hy => by simp at hy)).trans hk2 (fun y hy => Or.inl (by simp [hy]))) (fun k hk => ?_)
    rcases hb2 k hk with h1 | h1
    · exact Or.inl h1
    · right; omega
  rw [hw1] at hrun
  subst hv2
  have hc1 : (w.alloc (.cells #[.int .i64 a] 3)).cell? ⟨p, 0, none⟩ = some (.slice ao n c) := by rw [← hw1]; exact cell_of ((hk1.block p hpl (by simp)).trans hp) 0
  clear hk1 hown1 hown2 hk2 hb2 hp2 hown hq hsz hw1 hp hpb
  go_enter Try.func63, Try.ntmps63
  go_wp2_with (at_builtin; refine Lib.wpList_append_run _ rfl _ _ _ _ rfl _ _ rfl rfl _ _ (hrun _) ?_)
  go_end0
  exact ⟨rfl, hfin.out⟩

theorem ip_holds_in (w : World) (p : Nat) (v : Value) (n : Nat) (xs : List Value) (i : Nat) (h : Pk 1 w 107 3 p v n xs) (h1 : i < n) :
    Calls Try.prog 70 #[.pointer (some ⟨p, 0, none⟩), .int .i64 i] w fun e w' => e = .returned (.bool true) ∧ w' = w := by
  obtain ⟨ao, c, rfl, hc, hf, _⟩ := h.out
  clear h
  have h2 : (0 : Int) ≤ (i : Int) := by omega
  have h3 : (i : Int) < (n : Int) := by omega
  go_enter Try.func70, Try.ntmps70
  go_wp2
  go_ret
  exact ⟨rfl, rfl⟩

set_option maxHeartbeats 1000000 in
theorem ip_at_in (w : World) (p : Nat) (v : Value) (n : Nat) (xs : List Value) (i : Nat) (a : Int) (h : Pk 1 w 107 3 p v n xs) (h1 : i < n) (e0 : xs[i]? = some (.int .i64 a)) (hn : n < 1000000) :
    Calls Try.prog 68 #[.pointer (some ⟨p, 0, none⟩), .int .i64 i] w fun e w' => e = .returned (.tuple #[.int .i64 a, .bool true]) ∧ w' = w := by
  have hh := ip_holds_in w p v n xs i h h1
  obtain ⟨ao, c, hv, hc, hf, hnc, hpl, hcs⟩ := h.out
  obtain ⟨g, o, rfl, hgp, hcs⟩ := hcs (by omega)
  have c0 := (hcs i (by omega)).1
  rw [e0] at c0
  have h2 : (0 : Int) ≤ (i : Int) := by omega
  have h3 : (i : Int) < (n : Int) := by omega
  clear h hcs hv e0
  go_enter Try.func68, Try.ntmps68
  go_wp2_with (go_at_call 70; refine hh.mono ?_; rintro e w' ⟨rfl, hw⟩; have hw2 := hw.symm; clear hw; subst hw2)
  go_ret2
  exact ⟨rfl, rfl⟩

set_option maxHeartbeats 1000000 in
theorem ip_delete (w : World) (g o n c : Nat) (xs ys : List Value) (hown : OwnK 1 w 3 (.slice (some ⟨g, o, none⟩) (n + 1) c) (n + 1) (xs ++ ys)) (hx : xs.length = n * 1) (hl : n < 100000) :
    Calls Try.prog 69 #[.slice (some ⟨g, o, none⟩) (n + 1) c, .int .i64 (n : Int), .int .i64 ((n : Int) + 1)] w fun e w' => e = .returned (.slice (some ⟨g, o, none⟩) n c) ∧ OwnK 1 w' 3 (.slice (some ⟨g, o, none⟩) n c) n xs ∧ Kp [g] w w' := by
  have HF : Hid (OwnK 1 (w.drew.setCells g (o + n * 1) [.int .i64 0]) 3 (.slice (some ⟨g, o, none⟩) n c) n xs ∧ Kp [g] w (w.drew.setCells g (o + n * 1) [.int .i64 0])) :=
    ⟨(hown.keep (Kp.refl [] w).drew (fun _ _ => by simp)).pop hx rfl, Kp.setCells g (Or.inl (by simp)) _ _ _ (Kp.refl _ _).drew⟩
  rw [Nat.mul_one] at HF
  have hnc : n + 1 ≤ c := by
    rcases hown.2 with ⟨h1, _⟩ | ⟨g', o', cap', cur, hv, hg, h1, h2, h3, h4⟩
    · cases h1
    · simp only [Value.slice.injEq] at hv
      omega
  have HC : ∀ ty, (Builtin.clear_ #[54] ty #[.slice (some ⟨g, o + n, none⟩) 1 (c - n)]).run Try.prog w.drew = .ok (.tuple #[]) (w.drew.setCells g (o + n) [.int .i64 0]) := fun ty => by
    rcases hown.2 with ⟨h1, _⟩ | ⟨g', o', cap', cur, hv, hg, h1, h2, h3, h4⟩
    · cases h1
    · simp only [Value.slice.injEq, Option.some.injEq, Addr.mk.injEq] at hv
      obtain ⟨⟨rfl, rfl, _⟩, _, rfl⟩ := hv
      exact clear_one w.drew 54 3 ty (.int .i64 0) _ Try.underlying54 zvI rfl (fun u hu => by simp at hu; rw [hu]; rfl) g (o + n) (c - n)
        (fun j hj => by
          show (w.cell? _).isSome = true
          simp at hj
          rw [cell_of hg, Array.getElem?_eq_getElem (by omega)]; rfl) (fun j hj => frozen_of (w := w) hg _)
  clear hown hx
  have i1 : (0 : Int) ≤ (n : Int) := by omega
  have i4 : (0 : Int) ≤ (n : Int) + 1 := by omega
  have i5 : (n : Int) ≤ (n : Int) + 1 := by omega
  by_cases hlt : n + 1 < c
  · have i2 : (n : Int) ≤ (c : Int) := by omega
    have i3 : (n : Int) + 1 ≤ (c : Int) := by omega
    have i6 : ¬ c = n + 1 := by omega
    have HB := app_none (P := Try.prog) Try.underlying54 infoI w.drew g o n c ⟨g, o + (n + 1), none⟩ (c - (n + 1)) (by omega)
    go_enter Try.func69, Try.ntmps69
    go_wp2_with fail
    go_region_held3 (fun _ => True) (trivial)
      (first | refine step_appR (by rfl) _ _ 54 (by rfl) _ _ (by rfl) (by rfl) HB ?_)
    go_wp2_with (at_builtin; refine wpList_clear_run _ rfl _ _ rfl _ rfl HC ?_)
    go_ret
    exact ⟨rfl, HF.out⟩
  · obtain rfl : c = n + 1 := by omega
    rw [show n + 1 - n = 1 by omega] at HC
    go_enter Try.func69, Try.ntmps69
    go_wp2_with fail
    go_region_held3 (fun _ => True) (trivial)
      (fail)
    go_wp2_with (at_builtin; refine wpList_clear_run _ rfl _ _ rfl _ rfl HC ?_)
    go_ret
    exact ⟨rfl, HF.out⟩

set_option maxRecDepth 100000 in
set_option maxHeartbeats 1000000 in
theorem ip_cut (w : World) (p : Nat) (v : Value) (n : Nat) (xs : List Value) (a : Int) (h : Pk 1 w 107 3 p v (n + 1) (xs ++ [.int .i64 a])) (hl : n < 100000) :
    Calls Try.prog 64 #[.pointer (some ⟨p, 0, none⟩), .int .i64 n] w fun e w' => e = .returned (.tuple #[.int .i64 a, .bool true]) ∧ Tk 1 w w' 107 3 p v n xs := by
  have hx : xs.length = n * 1 := by have := h.2.1.1; rw [List.length_append] at this; simp at this; omega
  have H1 := ip_at_in w p v (n + 1) _ n a h (by omega) (by rw [List.getElem?_append_right (by omega)]; simp [hx]) (by omega)
  obtain ⟨ao, c, rfl, hc, hf, hnc, hpl, hcs⟩ := h.out
  obtain ⟨g, o, rfl, hgp, _⟩ := hcs (by omega)
  obtain ⟨hp, hown, hpb⟩ := h
  have HD := ip_delete w g o n c xs _ hown hx hl
  have HF : Hid (∀ w3, OwnK 1 w3 3 (.slice (some ⟨g, o, none⟩) n c) n xs → Kp [g] w w3 → Tk 1 w (w3.setCell ⟨p, 0, none⟩ (.slice (some ⟨g, o, none⟩) n c)) 107 3 p (.slice (some ⟨g, o, none⟩) (n + 1) c) n xs) := fun w3 O3 K3 => by
    have P3 : w3.heap[p]? = some (.cells #[.slice (some ⟨g, o, none⟩) (n + 1) c] 107 (0, 0)) := (K3.block p hpl (by simp; omega)).trans hp
    exact Tk.mk hpl P3 hpb O3 (K3.mono (fun x hx => by simp at hx; subst hx; exact Or.inl (by simp [blk]))) (fun x hx => Or.inl (by simpa [blk] using hx))
  have HP : Hid (∀ w3, Kp [g] w w3 → w3.cell? ⟨p, 0, none⟩ = some (.slice (some ⟨g, o, none⟩) (n + 1) c) ∧ w3.frozen? ⟨p, 0, none⟩ = false) := fun w3 K3 => by
    have P3 : w3.heap[p]? = some (.cells #[.slice (some ⟨g, o, none⟩) (n + 1) c] 107 (0, 0)) := (K3.block p hpl (by simp; omega)).trans hp
    exact ⟨cell_of P3 0, frozen_of P3 0⟩
  clear hcs hp hown hpb hx
  have i1 : (n : Int) < 100000 := by omega
  go_enter Try.func64, Try.ntmps64
  go_wp2_with (first
    | (go_at_call 68; refine H1.mono ?_; rintro e w' ⟨rfl, hw⟩; have hw2 := hw.symm; clear hw; subst hw2)
    | (go_at_call 69; refine HD.mono ?_; rintro e w3 ⟨rfl, O3, K3⟩; obtain ⟨cp3, fp3⟩ := HP.out _ K3))
  go_ret2
  exact ⟨rfl, HF.out _ O3 K3⟩

set_option maxHeartbeats 1000000 in
theorem ip_pop (w : World) (p : Nat) (v : Value) (n : Nat) (xs : List Value) (a : Int) (h : Pk 1 w 107 3 p v (n + 1) (xs ++ [.int .i64 a])) (hl : n < 100000) :
    Calls Try.prog 59 #[.pointer (some ⟨p, 0, none⟩)] w fun e w' => e = .returned (.tuple #[.int .i64 a, .bool true]) ∧ Tk 1 w w' 107 3 p v n xs := by
  have H1 := ip_cut w p v n xs a h hl
  obtain ⟨ao, c, rfl, hc, hf, hnc, hpl, hcs⟩ := h.out
  clear hcs h
  have i1 : (n : Int) < 100000 := by omega
  go_enter Try.func59, Try.ntmps59
  go_wp2_with (go_at_call 64; refine H1.mono ?_; rintro e w2 ⟨rfl, T2⟩)
  go_ret2
  exact ⟨rfl, T2⟩


theorem ip_holds_none (w : World) (p : Nat) (v : Value) (xs : List Value) (h : Pk 1 w 107 3 p v 0 xs) :
    Calls Try.prog 70 #[.pointer (some ⟨p, 0, none⟩), .int .i64 (-1)] w fun e w' => e = .returned (.bool false) ∧ w' = w := by
  obtain ⟨ao, c, rfl, hc, hf, _⟩ := h.out
  clear h
  go_enter Try.func70, Try.ntmps70
  go_wp2
  go_ret
  exact ⟨rfl, rfl⟩

theorem ip_at_none (w : World) (p : Nat) (v : Value) (xs : List Value) (h : Pk 1 w 107 3 p v 0 xs) :
    Calls Try.prog 68 #[.pointer (some ⟨p, 0, none⟩), .int .i64 (-1)] w fun e w' => e = .returned (.tuple #[.int .i64 0, .bool false]) ∧ Kp [] w w' := by
  have H1 := ip_holds_none w p v xs h
  obtain ⟨ao, c, rfl, hc, hf, _⟩ := h.out
  clear h
  go_enter Try.func68, Try.ntmps68
  go_wp2_with (go_at_call 70; refine H1.mono ?_; rintro e w' ⟨rfl, hw⟩; have hw2 := hw.symm; clear hw; subst hw2)
  go_ret2
  exact ⟨rfl, Kp.refl _ _⟩

theorem ip_cut_none (w : World) (p : Nat) (v : Value) (xs : List Value) (h : Pk 1 w 107 3 p v 0 xs) :
    Calls Try.prog 64 #[.pointer (some ⟨p, 0, none⟩), .int .i64 (-1)] w fun e w' => e = .returned (.tuple #[.int .i64 0, .bool false]) ∧ Kp [] w w' := by
  have H1 := ip_at_none w p v xs h
  clear h
  go_enter Try.func64, Try.ntmps64
  go_wp2_with (go_at_call 68; refine H1.mono ?_; rintro e w2 ⟨rfl, k2⟩)
  go_ret2
  exact ⟨rfl, k2⟩

theorem ip_pop_none (w : World) (p : Nat) (v : Value) (xs : List Value) (h : Pk 1 w 107 3 p v 0 xs) :
    Calls Try.prog 59 #[.pointer (some ⟨p, 0, none⟩)] w fun e w' => e = .returned (.tuple #[.int .i64 0, .bool false]) ∧ Kp [] w w' := by
  have H1 := ip_cut_none w p v xs h
  obtain ⟨ao, c, rfl, hc, hf, _⟩ := h.out
  clear h
  go_enter Try.func59, Try.ntmps59
  go_wp2_with (go_at_call 64; refine H1.mono ?_; rintro e w2 ⟨rfl, k2⟩)
  go_ret2
  exact ⟨rfl, k2⟩

end Go.Proofs.Ytpkppobkagdhkaa
