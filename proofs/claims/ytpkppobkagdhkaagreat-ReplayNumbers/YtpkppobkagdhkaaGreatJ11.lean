/-
  Joined: Six Ints RrefA Label.
-/
import Derived.Test.YtpkppobkagdhkaaGreatJ4
import Derived.Test.YtpkppobkagdhkaaGreatJ10
import Derived.Test.YtpkppobkagdhkaaGreatJ5
import Derived.WalkLawsBesides
import Derived.Test.YtpkppobkagdhkaaGreatJ8
import Derived.Deep.RegionHeld3
import Derived.BigQuiet

/-
  A node's block: six cells that are written and read at once. No program.
-/
namespace Go.Proofs.YtpkppobkagdhkaaGreat
open Go.RowKit
set_option linter.unusedVariables false

/-- Block g holds these cells. -/
def At (w : World) (g : Nat) (cur : Array Value) (e : TypeId) : Prop := w.heap[g]? = some (.cells cur e (0, 0))

theorem At.lt {w : World} {g : Nat} {cur : Array Value} {e : TypeId} (h : At w g cur e) : g < w.heap.size := (Array.getElem?_eq_some_iff.1 h).1

theorem At.kept {w w' : World} {g : Nat} {cur : Array Value} {e : TypeId} {S : List Nat} (h : At w g cur e) (k : Kp S w w') (hg : g ∉ S) : At w' g cur e := by
  unfold At
  rw [k.block g h.lt hg]
  exact h

theorem At.set {w : World} {g : Nat} {cur : Array Value} {e : TypeId} (h : At w g cur e) (o : Nat) (u : Value) : At (w.setCell ⟨g, o, none⟩ u) g (cur.setIfInBounds o u) e := setCell_block h o u

theorem At.new (w : World) (cur : Array Value) (e : TypeId) : At (w.alloc (.cells cur e)) w.heap.size cur e := heap_new w _
theorem At.new' (w : World) (cur : Array Value) (e : TypeId) (n : Nat) (h : n = w.heap.size) : At (w.alloc (.cells cur e)) n cur e := heap_new' w _ n h

theorem At.cell {w : World} {g : Nat} {cur : Array Value} {e : TypeId} (h : At w g cur e) (j : Nat) : w.cell? ⟨g, j, none⟩ = cur[j]? := cell_of h j

theorem At.free {w : World} {g : Nat} {cur : Array Value} {e : TypeId} (h : At w g cur e) (j : Nat) : w.frozen? ⟨g, j, none⟩ = false := frozen_of h j

/-- Six cells are written, from o on. -/
def put6 (w : World) (g o : Nat) (v0 v1 v2 v3 v4 v5 : Value) : World := (((((w.setCell ⟨g, o, none⟩ v0).setCell ⟨g, o + 1, none⟩ v1).setCell ⟨g, o + 2, none⟩ v2).setCell ⟨g, o + 3, none⟩ v3).setCell ⟨g, o + 4, none⟩ v4).setCell ⟨g, o + 5, none⟩ v5

/-- Six cells of a block are written, from its head on. -/
def putZ (w : World) (g : Nat) (v0 v1 v2 v3 v4 v5 : Value) : World := (((((w.setCell ⟨g, 0, none⟩ v0).setCell ⟨g, 1, none⟩ v1).setCell ⟨g, 2, none⟩ v2).setCell ⟨g, 3, none⟩ v3).setCell ⟨g, 4, none⟩ v4).setCell ⟨g, 5, none⟩ v5

theorem Kp.put6 {S : List Nat} {a w : World} (h : Kp S a w) {g : Nat} (hg : g ∈ S ∨ a.heap.size ≤ g) (o : Nat) (v0 v1 v2 v3 v4 v5 : Value) : Kp S a (put6 w g o v0 v1 v2 v3 v4 v5) :=
  (((((h.setCell hg v0).setCell hg v1).setCell hg v2).setCell hg v3).setCell hg v4).setCell hg v5

theorem Kp.putZ {S : List Nat} {a w : World} (h : Kp S a w) {g : Nat} (hg : g ∈ S ∨ a.heap.size ≤ g) (v0 v1 v2 v3 v4 v5 : Value) : Kp S a (putZ w g v0 v1 v2 v3 v4 v5) :=
  (((((h.setCell hg v0).setCell hg v1).setCell hg v2).setCell hg v3).setCell hg v4).setCell hg v5

theorem At.putZ {w : World} {g : Nat} {e : TypeId} {u0 u1 u2 u3 u4 u5 : Value} (h : At w g #[u0, u1, u2, u3, u4, u5] e) (v0 v1 v2 v3 v4 v5 : Value) : At (putZ w g v0 v1 v2 v3 v4 v5) g #[v0, v1, v2, v3, v4, v5] e :=
  (((((h.set 0 v0).set 1 v1).set 2 v2).set 3 v3).set 4 v4).set 5 v5

theorem At.six {w : World} {g : Nat} {e : TypeId} {v0 v1 v2 v3 v4 v5 : Value} (h : At w g #[v0, v1, v2, v3, v4, v5] e) : w.cell? ⟨g, 0, none⟩ = some v0 ∧ w.cell? ⟨g, 1, none⟩ = some v1 ∧ w.cell? ⟨g, 2, none⟩ = some v2 ∧ w.cell? ⟨g, 3, none⟩ = some v3 ∧ w.cell? ⟨g, 4, none⟩ = some v4 ∧ w.cell? ⟨g, 5, none⟩ = some v5 :=
  ⟨h.cell 0, h.cell 1, h.cell 2, h.cell 3, h.cell 4, h.cell 5⟩

theorem put6_eq (w : World) (g o : Nat) (v0 v1 v2 v3 v4 v5 : Value) : put6 w g o v0 v1 v2 v3 v4 v5 = w.setCells g o [v0, v1, v2, v3, v4, v5] := rfl

/-- Ints as values. -/
def iv (l : List Nat) : List Value := l.map (fun n : Nat => Value.int .i64 (n : Int))
theorem iv_len (l : List Nat) : (iv l).length = l.length := by simp [iv]

end Go.Proofs.YtpkppobkagdhkaaGreat

/-
  A pile of numbers.
-/
namespace Go.Proofs.YtpkppobkagdhkaaGreat
open Go.RowKit
set_option linter.unusedVariables false

theorem infoI : (Tryz.prog.info? 3).map (fun i => (i.zero, i.size, i.bytes)) = some (some (.int .i64 0), 1, 8) := by kernel_rfl
theorem zvI (w : World) : (zeroValue 3).run Tryz.prog w = .ok (.int .i64 0) w := by kernel_rfl

theorem ip_new (w : World) : Calls Tryz.prog 124 #[] w fun e w' => e = .returned (.pointer (some ⟨w.heap.size, 0, none⟩)) ∧ w' = w.alloc (.cells #[.slice none 0 0] 180) := by
  go_enter Tryz.func124, Tryz.ntmps124
  go_wp2
  go_ret
  exact ⟨rfl, rfl⟩


set_option maxHeartbeats 1000000 in
theorem ip_push (w : World) (p : Nat) (v : Value) (n : Nat) (xs : List Value) (a : Int) (h : Pk 1 w 180 3 p v n xs) (hl : n < 100000) :
    Calls Tryz.prog 133 #[.pointer (some ⟨p, 0, none⟩), .int .i64 a] w fun e w' => e = .returned (.tuple #[]) ∧ Tk 1 w w' 180 3 p v (n + 1) (xs ++ [.int .i64 a]) := by
  obtain ⟨ao, c, rfl, hc, hf, hnc, hpl, _⟩ := h.out
  obtain ⟨hp, hown, hpb⟩ := h
  obtain ⟨w1, hw1⟩ : ∃ w1, w1 = w.alloc (.cells #[.int .i64 a] 3) := ⟨_, rfl⟩
  have hk1 : Kp [] w w1 := by rw [hw1]; exact (Kp.refl _ _).alloc _
  have hown1 : OwnK 1 w1 3 (.slice ao n c) n xs := hown.keep hk1 (fun _ _ => by simp)
  have hq : w1.heap[w.heap.size]? = some (.cells #[.int .i64 a] 3 (0, 0)) := by rw [hw1]; exact heap_new _ _
  obtain ⟨v', w2, hrun, hown2, hk2, hb2, a2, c2, hv2⟩ := appK Tryz.underlying61 infoI rfl (by decide) w1 _ n xs hown1 _ 1 _ (src_new Tryz.underlying61 hq [.int .i64 a] rfl (fun u hu => by simp at hu; rw [hu]; rfl)) (fun _ => by omega) (by omega)
  have hsz : w1.heap.size = w.heap.size + 1 := by rw [hw1]; simp
  have hp2 : w2.heap[p]? = some (.cells #[.slice ao n c] 180 (0, 0)) := by
    rw [hk2.block p (by omega) hpb, hk1.block p hpl (by simp)]; exact hp
  have hc2 : w2.cell? ⟨p, 0, none⟩ = some (.slice ao n c) := by rw [cell_of hp2]; rfl
  have hf2 : w2.frozen? ⟨p, 0, none⟩ = false := frozen_of hp2 0
  have hfin : Hid (Tk 1 w (w2.setCell ⟨p, 0, none⟩ v') 180 3 p (.slice ao n c) (n + 1) (xs ++ [.int .i64 a])) := by
    refine Tk.mk hpl hp2 hpb hown2 ((hk1.mono (T := p :: blk _) (fun y hy => by simp at hy)).trans hk2 (fun y hy => Or.inl (by simp [hy]))) (fun k hk => ?_)
    rcases hb2 k hk with h1 | h1
    · exact Or.inl h1
    · right; omega
  rw [hw1] at hrun
  subst hv2
  have hc1 : (w.alloc (.cells #[.int .i64 a] 3)).cell? ⟨p, 0, none⟩ = some (.slice ao n c) := by rw [← hw1]; exact cell_of ((hk1.block p hpl (by simp)).trans hp) 0
  clear hk1 hown1 hown2 hk2 hb2 hp2 hown hq hsz hw1 hp hpb
  go_enter Tryz.func133, Tryz.ntmps133
  go_wp2_with (at_builtin; refine Lib.wpList_append_run _ rfl _ _ _ _ rfl _ _ rfl rfl _ _ (hrun _) ?_)
  go_end0
  exact ⟨rfl, hfin.out⟩

theorem ip_holds_in (w : World) (p : Nat) (v : Value) (n : Nat) (xs : List Value) (i : Nat) (h : Pk 1 w 180 3 p v n xs) (h1 : i < n) :
    Calls Tryz.prog 141 #[.pointer (some ⟨p, 0, none⟩), .int .i64 i] w fun e w' => e = .returned (.bool true) ∧ w' = w := by
  obtain ⟨ao, c, rfl, hc, hf, _⟩ := h.out
  clear h
  have h2 : (0 : Int) ≤ (i : Int) := by omega
  have h3 : (i : Int) < (n : Int) := by omega
  go_enter Tryz.func141, Tryz.ntmps141
  go_wp2
  go_ret
  exact ⟨rfl, rfl⟩

set_option maxHeartbeats 1000000 in
theorem ip_at_in (w : World) (p : Nat) (v : Value) (n : Nat) (xs : List Value) (i : Nat) (a : Int) (h : Pk 1 w 180 3 p v n xs) (h1 : i < n) (e0 : xs[i]? = some (.int .i64 a)) (hn : n < 1000000) :
    Calls Tryz.prog 139 #[.pointer (some ⟨p, 0, none⟩), .int .i64 i] w fun e w' => e = .returned (.tuple #[.int .i64 a, .bool true]) ∧ w' = w := by
  have hh := ip_holds_in w p v n xs i h h1
  obtain ⟨ao, c, hv, hc, hf, hnc, hpl, hcs⟩ := h.out
  obtain ⟨g, o, rfl, hgp, hcs⟩ := hcs (by omega)
  have c0 := (hcs i (by omega)).1
  rw [e0] at c0
  have h2 : (0 : Int) ≤ (i : Int) := by omega
  have h3 : (i : Int) < (n : Int) := by omega
  clear h hcs hv e0
  go_enter Tryz.func139, Tryz.ntmps139
  go_wp2_with (go_at_call 141; refine hh.mono ?_; rintro e w' ⟨rfl, hw⟩; have hw2 := hw.symm; clear hw; subst hw2)
  go_ret2
  exact ⟨rfl, rfl⟩

set_option maxHeartbeats 1000000 in
theorem ip_delete (w : World) (g o n c : Nat) (xs ys : List Value) (hown : OwnK 1 w 3 (.slice (some ⟨g, o, none⟩) (n + 1) c) (n + 1) (xs ++ ys)) (hx : xs.length = n * 1) (hl : n < 100000) :
    Calls Tryz.prog 140 #[.slice (some ⟨g, o, none⟩) (n + 1) c, .int .i64 (n : Int), .int .i64 ((n : Int) + 1)] w fun e w' => e = .returned (.slice (some ⟨g, o, none⟩) n c) ∧ OwnK 1 w' 3 (.slice (some ⟨g, o, none⟩) n c) n xs ∧ Kp [g] w w' := by
  have HF : Hid (OwnK 1 (w.drew.setCells g (o + n * 1) [.int .i64 0]) 3 (.slice (some ⟨g, o, none⟩) n c) n xs ∧ Kp [g] w (w.drew.setCells g (o + n * 1) [.int .i64 0])) :=
    ⟨(hown.keep (Kp.refl [] w).drew (fun _ _ => by simp)).pop hx rfl, Kp.setCells g (Or.inl (by simp)) _ _ _ (Kp.refl _ _).drew⟩
  rw [Nat.mul_one] at HF
  have hnc : n + 1 ≤ c := by
    rcases hown.2 with ⟨h1, _⟩ | ⟨g', o', cap', cur, hv, hg, h1, h2, h3, h4⟩
    · cases h1
    · simp only [Value.slice.injEq] at hv
      omega
  have HC : ∀ ty, (Builtin.clear_ #[61] ty #[.slice (some ⟨g, o + n, none⟩) 1 (c - n)]).run Tryz.prog w.drew = .ok (.tuple #[]) (w.drew.setCells g (o + n) [.int .i64 0]) := fun ty => by
    rcases hown.2 with ⟨h1, _⟩ | ⟨g', o', cap', cur, hv, hg, h1, h2, h3, h4⟩
    · cases h1
    · simp only [Value.slice.injEq, Option.some.injEq, Addr.mk.injEq] at hv
      obtain ⟨⟨rfl, rfl, _⟩, _, rfl⟩ := hv
      exact clear_one w.drew 61 3 ty (.int .i64 0) _ Tryz.underlying61 zvI rfl (fun u hu => by simp at hu; rw [hu]; rfl) g (o + n) (c - n)
        (fun j hj => by
          show (w.cell? _).isSome = true
          simp at hj
          rw [cell_of hg, Array.getElem?_eq_getElem (by omega)]; rfl) (fun j hj => frozen_of (w := w) hg _)
  clear hown hx
  have i1 : (0 : Int) ≤ (n : Int) := by omega
  have i4 : (0 : Int) ≤ (n : Int) + 1 := by omega
  have i5 : (n : Int) ≤ (n : Int) + 1 := by omega
  by_cases hlt : n + 1 < c
  · have i2 : (n : Int) ≤ (c : Int) := by omega
    have i3 : (n : Int) + 1 ≤ (c : Int) := by omega
    have i6 : ¬ c = n + 1 := by omega
    have HB := app_none (P := Tryz.prog) Tryz.underlying61 infoI w.drew g o n c ⟨g, o + (n + 1), none⟩ (c - (n + 1)) (by omega)
    go_enter Tryz.func140, Tryz.ntmps140
    go_wp2_with fail
    go_region_held3 (fun _ => True) (trivial)
      (first | refine step_appR (by rfl) _ _ 61 (by rfl) _ _ (by rfl) (by rfl) HB ?_)
    go_wp2_with (at_builtin; refine wpList_clear_run _ rfl _ _ rfl _ rfl HC ?_)
    go_ret
    exact ⟨rfl, HF.out⟩
  · obtain rfl : c = n + 1 := by omega
    rw [show n + 1 - n = 1 by omega] at HC
    go_enter Tryz.func140, Tryz.ntmps140
    go_wp2_with fail
    go_region_held3 (fun _ => True) (trivial)
      (fail)
    go_wp2_with (at_builtin; refine wpList_clear_run _ rfl _ _ rfl _ rfl HC ?_)
    go_ret
    exact ⟨rfl, HF.out⟩

set_option maxRecDepth 100000 in
set_option maxHeartbeats 1000000 in
theorem ip_cut (w : World) (p : Nat) (v : Value) (n : Nat) (xs : List Value) (a : Int) (h : Pk 1 w 180 3 p v (n + 1) (xs ++ [.int .i64 a])) (hl : n < 100000) :
    Calls Tryz.prog 134 #[.pointer (some ⟨p, 0, none⟩), .int .i64 n] w fun e w' => e = .returned (.tuple #[.int .i64 a, .bool true]) ∧ Tk 1 w w' 180 3 p v n xs := by
  have hx : xs.length = n * 1 := by have := h.2.1.1; rw [List.length_append] at this; simp at this; omega
  have H1 := ip_at_in w p v (n + 1) _ n a h (by omega) (by rw [List.getElem?_append_right (by omega)]; simp [hx]) (by omega)
  obtain ⟨ao, c, rfl, hc, hf, hnc, hpl, hcs⟩ := h.out
  obtain ⟨g, o, rfl, hgp, _⟩ := hcs (by omega)
  obtain ⟨hp, hown, hpb⟩ := h
  have HD := ip_delete w g o n c xs _ hown hx hl
  have HF : Hid (∀ w3, OwnK 1 w3 3 (.slice (some ⟨g, o, none⟩) n c) n xs → Kp [g] w w3 → Tk 1 w (w3.setCell ⟨p, 0, none⟩ (.slice (some ⟨g, o, none⟩) n c)) 180 3 p (.slice (some ⟨g, o, none⟩) (n + 1) c) n xs) := fun w3 O3 K3 => by
    have P3 : w3.heap[p]? = some (.cells #[.slice (some ⟨g, o, none⟩) (n + 1) c] 180 (0, 0)) := (K3.block p hpl (by simp; omega)).trans hp
    exact Tk.mk hpl P3 hpb O3 (K3.mono (fun x hx => by simp at hx; subst hx; exact Or.inl (by simp [blk]))) (fun x hx => Or.inl (by simpa [blk] using hx))
  have HP : Hid (∀ w3, Kp [g] w w3 → w3.cell? ⟨p, 0, none⟩ = some (.slice (some ⟨g, o, none⟩) (n + 1) c) ∧ w3.frozen? ⟨p, 0, none⟩ = false) := fun w3 K3 => by
    have P3 : w3.heap[p]? = some (.cells #[.slice (some ⟨g, o, none⟩) (n + 1) c] 180 (0, 0)) := (K3.block p hpl (by simp; omega)).trans hp
    exact ⟨cell_of P3 0, frozen_of P3 0⟩
  clear hcs hp hown hpb hx
  have i1 : (n : Int) < 100000 := by omega
  go_enter Tryz.func134, Tryz.ntmps134
  go_wp2_with (first
    | (go_at_call 139; refine H1.mono ?_; rintro e w' ⟨rfl, hw⟩; have hw2 := hw.symm; clear hw; subst hw2)
    | (go_at_call 140; refine HD.mono ?_; rintro e w3 ⟨rfl, O3, K3⟩; obtain ⟨cp3, fp3⟩ := HP.out _ K3))
  go_ret2
  exact ⟨rfl, HF.out _ O3 K3⟩

set_option maxHeartbeats 1000000 in
theorem ip_pop (w : World) (p : Nat) (v : Value) (n : Nat) (xs : List Value) (a : Int) (h : Pk 1 w 180 3 p v (n + 1) (xs ++ [.int .i64 a])) (hl : n < 100000) :
    Calls Tryz.prog 126 #[.pointer (some ⟨p, 0, none⟩)] w fun e w' => e = .returned (.tuple #[.int .i64 a, .bool true]) ∧ Tk 1 w w' 180 3 p v n xs := by
  have H1 := ip_cut w p v n xs a h hl
  obtain ⟨ao, c, rfl, hc, hf, hnc, hpl, hcs⟩ := h.out
  clear hcs h
  have i1 : (n : Int) < 100000 := by omega
  go_enter Tryz.func126, Tryz.ntmps126
  go_wp2_with (go_at_call 134; refine H1.mono ?_; rintro e w2 ⟨rfl, T2⟩)
  go_ret2
  exact ⟨rfl, T2⟩


theorem ip_holds_none (w : World) (p : Nat) (v : Value) (xs : List Value) (h : Pk 1 w 180 3 p v 0 xs) :
    Calls Tryz.prog 141 #[.pointer (some ⟨p, 0, none⟩), .int .i64 (-1)] w fun e w' => e = .returned (.bool false) ∧ w' = w := by
  obtain ⟨ao, c, rfl, hc, hf, _⟩ := h.out
  clear h
  go_enter Tryz.func141, Tryz.ntmps141
  go_wp2
  go_ret
  exact ⟨rfl, rfl⟩

theorem ip_at_none (w : World) (p : Nat) (v : Value) (xs : List Value) (h : Pk 1 w 180 3 p v 0 xs) :
    Calls Tryz.prog 139 #[.pointer (some ⟨p, 0, none⟩), .int .i64 (-1)] w fun e w' => e = .returned (.tuple #[.int .i64 0, .bool false]) ∧ Kp [] w w' := by
  have H1 := ip_holds_none w p v xs h
  obtain ⟨ao, c, rfl, hc, hf, _⟩ := h.out
  clear h
  go_enter Tryz.func139, Tryz.ntmps139
  go_wp2_with (go_at_call 141; refine H1.mono ?_; rintro e w' ⟨rfl, hw⟩; have hw2 := hw.symm; clear hw; subst hw2)
  go_ret2
  exact ⟨rfl, Kp.refl _ _⟩

theorem ip_cut_none (w : World) (p : Nat) (v : Value) (xs : List Value) (h : Pk 1 w 180 3 p v 0 xs) :
    Calls Tryz.prog 134 #[.pointer (some ⟨p, 0, none⟩), .int .i64 (-1)] w fun e w' => e = .returned (.tuple #[.int .i64 0, .bool false]) ∧ Kp [] w w' := by
  have H1 := ip_at_none w p v xs h
  clear h
  go_enter Tryz.func134, Tryz.ntmps134
  go_wp2_with (go_at_call 139; refine H1.mono ?_; rintro e w2 ⟨rfl, k2⟩)
  go_ret2
  exact ⟨rfl, k2⟩

theorem ip_pop_none (w : World) (p : Nat) (v : Value) (xs : List Value) (h : Pk 1 w 180 3 p v 0 xs) :
    Calls Tryz.prog 126 #[.pointer (some ⟨p, 0, none⟩)] w fun e w' => e = .returned (.tuple #[.int .i64 0, .bool false]) ∧ Kp [] w w' := by
  have H1 := ip_cut_none w p v xs h
  obtain ⟨ao, c, rfl, hc, hf, _⟩ := h.out
  clear h
  go_enter Tryz.func126, Tryz.ntmps126
  go_wp2_with (go_at_call 134; refine H1.mono ?_; rintro e w2 ⟨rfl, k2⟩)
  go_ret2
  exact ⟨rfl, k2⟩

end Go.Proofs.YtpkppobkagdhkaaGreat

/-
  The document's Right.
-/
namespace Go.Proofs.YtpkppobkagdhkaaGreat
open Go.RowKit
set_option linter.unusedVariables false
set_option linter.unusedSimpArgs false

/-- The first k of three numbers are in their range. -/
def inK (a b c : Int) (k : Nat) : Prop := (0 < k → inR a = true) ∧ (1 < k → inR b = true) ∧ (2 < k → inR c = true)

theorem inR_no {n : Int} (h : inR n = false) : n < 0 ∨ (0 ≤ n ∧ 2147483647 < n) := by
  unfold inR at h
  simp at h
  omega

theorem inR_yes {n : Int} (h : inR n = true) : 0 ≤ n ∧ n ≤ 2147483647 := by
  unfold inR at h
  simpa using h

set_option maxRecDepth 100000 in
set_option maxHeartbeats 2000000 in
theorem rref_1 (w : World) (a2 a3 a4 a5 a6 : Int) (a7 : ByteArray) (a8 : List Att) (a9 : ByteArray) (p1 : Option Addr) (p2 p3 : Nat) (hq : p2 = a8.length) (hb : p2 ≤ 100000) :
    Calls Tryz.prog 48 #[ov ⟨1, a2, a3, a4, a5, a6, a7, a8, a9⟩ (p1, p2, p3)] w fun e w' => e = .returned (.bool (rightO ⟨1, a2, a3, a4, a5, a6, a7, a8, a9⟩)) ∧ Kp [] w w' := by
  obtain ⟨A, hA0⟩ : ∃ A, rightO ⟨1, a2, a3, a4, a5, a6, a7, a8, a9⟩ = A := ⟨_, rfl⟩
  rw [hA0]
  have hA : Hid (rightO ⟨1, a2, a3, a4, a5, a6, a7, a8, a9⟩ = A) := hA0
  clear hA0
  have hk : Kp [] w ((w.alloc (.cells #[.int .i64 1, .int .i64 a2, .int .i64 a3, .int .i64 a4, .int .i64 a5, .int .i64 a6, .string a7, .slice p1 p2 p3, .string a9] 24)).alloc (.cells #[.int .i64 a2, .int .i64 a3, .int .i64 a4] 3)) := ((Kp.refl _ _).alloc _).alloc _
  clear hq hb
  simp only [ov]
  go_enter Tryz.func48, Tryz.ntmps48
  go_wp2
  go_loopw [13] (fun i wr => ∃ k : Nat, k ≤ 3 ∧ i = .int .i64 k ∧ wr = ((w.alloc (.cells #[.int .i64 1, .int .i64 a2, .int .i64 a3, .int .i64 a4, .int .i64 a5, .int .i64 a6, .string a7, .slice p1 p2 p3, .string a9] 24)).alloc (.cells #[.int .i64 a2, .int .i64 a3, .int .i64 a4] 3)) ∧ inK a2 a3 a4 k) (fun i _ => 3 - (intOf i).toNat)
  case atStart => exact ⟨0, by omega, rfl, rfl, fun h => by omega, fun h => by omega, fun h => by omega⟩
  case round =>
    obtain ⟨k, hk3, rfl, rfl, i1, i2, i3⟩ := hrel
    obtain rfl | rfl | rfl | rfl : k = 0 ∨ k = 1 ∨ k = 2 ∨ k = 3 := by omega
    · cases c : inR a2
      · have hA2 := hA.out
        rw [show rightO ⟨1, a2, a3, a4, a5, a6, a7, a8, a9⟩ = false by simp [rightO, c]] at hA2
        subst hA2
        clear hA i1 i2 i3
        rcases inR_no c with c1 | ⟨c1, c2⟩
        · clear c
          go_wp2
          go_ret
          exact ⟨rfl, hk⟩
        · clear c
          go_wp2
          go_ret
          exact ⟨rfl, hk⟩
      · have II : Hid (inK a2 a3 a4 1) := ⟨fun _ => c, fun _ => absurd ‹_› (by omega), fun _ => absurd ‹_› (by omega)⟩
        obtain ⟨c1, c2⟩ := inR_yes c
        clear c i1 i2 i3 hA hk
        go_wp2
        go_roundw
        case rel => exact ⟨1, by omega, by first | rfl | go_num, by trivial, II.out⟩
        case measure => simp [intOf]
    · cases c : inR a3
      · have hA2 := hA.out
        rw [show rightO ⟨1, a2, a3, a4, a5, a6, a7, a8, a9⟩ = false by simp [rightO, c]] at hA2
        subst hA2
        clear hA i1 i2 i3
        rcases inR_no c with c1 | ⟨c1, c2⟩
        · clear c
          go_wp2
          go_ret
          exact ⟨rfl, hk⟩
        · clear c
          go_wp2
          go_ret
          exact ⟨rfl, hk⟩
      · have II : Hid (inK a2 a3 a4 2) := ⟨fun _ => i1 (by omega), fun _ => c, fun _ => absurd ‹_› (by omega)⟩
        obtain ⟨c1, c2⟩ := inR_yes c
        clear c i1 i2 i3 hA hk
        go_wp2
        go_roundw
        case rel => exact ⟨2, by omega, by first | rfl | go_num, by trivial, II.out⟩
        case measure => simp [intOf]
    · cases c : inR a4
      · have hA2 := hA.out
        rw [show rightO ⟨1, a2, a3, a4, a5, a6, a7, a8, a9⟩ = false by simp [rightO, c]] at hA2
        subst hA2
        clear hA i1 i2 i3
        rcases inR_no c with c1 | ⟨c1, c2⟩
        · clear c
          go_wp2
          go_ret
          exact ⟨rfl, hk⟩
        · clear c
          go_wp2
          go_ret
          exact ⟨rfl, hk⟩
      · have II : Hid (inK a2 a3 a4 3) := ⟨fun _ => i1 (by omega), fun _ => i2 (by omega), fun _ => c⟩
        obtain ⟨c1, c2⟩ := inR_yes c
        clear c i1 i2 i3 hA hk
        go_wp2
        go_roundw
        case rel => exact ⟨3, by omega, by first | rfl | go_num, by trivial, II.out⟩
        case measure => simp [intOf]
    · have q1 := i1 (by omega)
      have q2 := i2 (by omega)
      have q3 := i3 (by omega)
      clear i1 i2 i3
      by_cases s1 : 0 ≤ a6
      · by_cases s2 : a6 ≤ 2
        · have hA2 := hA.out
          rw [show rightO ⟨1, a2, a3, a4, a5, a6, a7, a8, a9⟩ = (mk3 a5 && ((a3 == 0) && (a4 == 0))) by simp [rightO, rightK, q1, q2, q3, s1, s2]] at hA2
          clear hA q1 q2 q3
          simp only [mk3] at hA2
          cases t1 : (a5 == 2)
          · cases t2 : (a5 == 3)
            · cases t3 : (a5 == 5)
              · skip
                simp only [t1, t2, t3, Bool.true_or, Bool.false_or, Bool.or_true, Bool.or_false, Bool.true_and, Bool.false_and, Bool.and_true, Bool.and_false] at hA2
                subst hA2
                go_wp2
                go_ret
                exact ⟨rfl, hk⟩
              · skip
                cases t4 : (a3 == 0)
                · skip
                  simp only [t1, t2, t3, t4, Bool.true_or, Bool.false_or, Bool.or_true, Bool.or_false, Bool.true_and, Bool.false_and, Bool.and_true, Bool.and_false] at hA2
                  subst hA2
                  go_wp2
                  go_ret
                  exact ⟨rfl, hk⟩
                · cases t5 : (a4 == 0)
                  · skip
                    simp only [t1, t2, t3, t4, t5, Bool.true_or, Bool.false_or, Bool.or_true, Bool.or_false, Bool.true_and, Bool.false_and, Bool.and_true, Bool.and_false] at hA2
                    subst hA2
                    go_wp2
                    go_ret
                    exact ⟨rfl, hk⟩
                  · skip
                    simp only [t1, t2, t3, t4, t5, Bool.true_or, Bool.false_or, Bool.or_true, Bool.or_false, Bool.true_and, Bool.false_and, Bool.and_true, Bool.and_false] at hA2
                    subst hA2
                    go_wp2
                    go_ret
                    exact ⟨rfl, hk⟩
            · skip
              cases t4 : (a3 == 0)
              · skip
                simp only [t1, t2, t4, Bool.true_or, Bool.false_or, Bool.or_true, Bool.or_false, Bool.true_and, Bool.false_and, Bool.and_true, Bool.and_false] at hA2
                subst hA2
                go_wp2
                go_ret
                exact ⟨rfl, hk⟩
              · cases t5 : (a4 == 0)
                · skip
                  simp only [t1, t2, t4, t5, Bool.true_or, Bool.false_or, Bool.or_true, Bool.or_false, Bool.true_and, Bool.false_and, Bool.and_true, Bool.and_false] at hA2
                  subst hA2
                  go_wp2
                  go_ret
                  exact ⟨rfl, hk⟩
                · skip
                  simp only [t1, t2, t4, t5, Bool.true_or, Bool.false_or, Bool.or_true, Bool.or_false, Bool.true_and, Bool.false_and, Bool.and_true, Bool.and_false] at hA2
                  subst hA2
                  go_wp2
                  go_ret
                  exact ⟨rfl, hk⟩
          · skip
            cases t4 : (a3 == 0)
            · skip
              simp only [t1, t4, Bool.true_or, Bool.false_or, Bool.or_true, Bool.or_false, Bool.true_and, Bool.false_and, Bool.and_true, Bool.and_false] at hA2
              subst hA2
              go_wp2
              go_ret
              exact ⟨rfl, hk⟩
            · cases t5 : (a4 == 0)
              · skip
                simp only [t1, t4, t5, Bool.true_or, Bool.false_or, Bool.or_true, Bool.or_false, Bool.true_and, Bool.false_and, Bool.and_true, Bool.and_false] at hA2
                subst hA2
                go_wp2
                go_ret
                exact ⟨rfl, hk⟩
              · skip
                simp only [t1, t4, t5, Bool.true_or, Bool.false_or, Bool.or_true, Bool.or_false, Bool.true_and, Bool.false_and, Bool.and_true, Bool.and_false] at hA2
                subst hA2
                go_wp2
                go_ret
                exact ⟨rfl, hk⟩
        · have hA2 := hA.out
          rw [show rightO ⟨1, a2, a3, a4, a5, a6, a7, a8, a9⟩ = false by simp [rightO, s2]] at hA2
          subst hA2
          clear hA q1 q2 q3
          go_wp2
          go_ret
          exact ⟨rfl, hk⟩
      · have hA2 := hA.out
        rw [show rightO ⟨1, a2, a3, a4, a5, a6, a7, a8, a9⟩ = false by simp [rightO, s1]] at hA2
        subst hA2
        clear hA q1 q2 q3
        go_wp2
        go_ret
        exact ⟨rfl, hk⟩

end Go.Proofs.YtpkppobkagdhkaaGreat

/-
  Labels held against each other: isLabelled of the program, Label of the document.
-/
namespace Go.Proofs.YtpkppobkagdhkaaGreat
open Go.RowKit
set_option linter.unusedVariables false

theorem eqs_no {x y : ByteArray} (h : ¬ x = y) : (x.toList == y.toList) = false := by
  cases hx : eqs x y with
  | false => exact hx
  | true => exact absurd (eqs_iff.1 hx) h
theorem eqs_yes {x y : ByteArray} (h : x = y) : (x.toList == y.toList) = true := eqs_iff.2 h

set_option maxRecDepth 100000 in
set_option maxHeartbeats 1000000 in
theorem ref_label_any (w : World) (l m : Lb) (p q : Pl) (h1 : Rp w p.1.1 p.1.2.1 p.1.2.2 l.attrs) (h2 : Rp w q.1.1 q.1.2.1 q.1.2.2 m.attrs) (hl : p.1.2.1 ≤ 100000) (hm : q.1.2.1 ≤ 100000) :
    Calls Tryz.prog 78 #[wv l p, wv m q] w fun e w' => e = .returned (.bool (sameL l m)) ∧ Kp [] w w' := by
  obtain ⟨A, hA⟩ : ∃ A, sameL l m = A := ⟨_, rfl⟩
  rw [hA]
  have k0 : Kp [] w ((w.alloc (.cells (six l p).toArray 40)).alloc (.cells (six m q).toArray 40)) := ((Kp.refl _ _).alloc _).alloc _
  have HC := ref_same_any _ _ _ _ _ _ _ _ _ (h1.kept k0) (h2.kept k0) hl hm
  clear h1 h2
  simp only [six, wv] at HC k0 ⊢
  by_cases e1 : l.kind = m.kind
  · have q1 : ((l.kind : Int) == (m.kind : Int)) = true := by simpa using e1
    by_cases e2 : l.ns = m.ns
    · have q2 : ((l.ns : Int) == (m.ns : Int)) = true := by simpa using e2
      by_cases e3 : l.name = m.name
      · have q3 : (l.name.toList == m.name.toList) = true := eqs_yes e3
        by_cases e4 : l.text = m.text
        · have q4 : (l.text.toList == m.text.toList) = true := eqs_yes e4
          obtain rfl : A = same l.attrs m.attrs := by
            rw [← hA]
            unfold sameL same
            exact decide_eq_decide.2 ⟨fun h => by rw [h], fun h => Prod.ext e1 (Prod.ext e2 (Prod.ext e3 (Prod.ext h e4)))⟩
          clear hA e1 e2 e3 e4
          go_enter Tryz.func78, Tryz.ntmps78
          go_wp2_with (go_at_call 117; refine HC.mono ?_; rintro e w1 ⟨rfl, k1⟩)
          go_ret
          exact ⟨rfl, k0.trans k1 (fun x hx => Or.inl hx)⟩
        · have q4 : (l.text.toList == m.text.toList) = false := eqs_no e4
          obtain rfl : A = false := by rw [← hA]; exact decide_eq_false (fun h => e4 (by rw [h]))
          clear e1 e2 e3 e4
          clear HC hA
          go_enter Tryz.func78, Tryz.ntmps78
          go_wp2
          go_ret
          exact ⟨rfl, k0⟩
      · have q3 : (l.name.toList == m.name.toList) = false := eqs_no e3
        obtain rfl : A = false := by rw [← hA]; exact decide_eq_false (fun h => e3 (by rw [h]))
        clear e1 e2 e3
        clear HC hA
        go_enter Tryz.func78, Tryz.ntmps78
        go_wp2
        go_ret
        exact ⟨rfl, k0⟩
    · have q2 : ((l.ns : Int) == (m.ns : Int)) = false := by simpa using e2
      obtain rfl : A = false := by rw [← hA]; exact decide_eq_false (fun h => e2 (by rw [h]))
      clear e1 e2
      clear HC hA
      go_enter Tryz.func78, Tryz.ntmps78
      go_wp2
      go_ret
      exact ⟨rfl, k0⟩
  · have q1 : ((l.kind : Int) == (m.kind : Int)) = false := by simpa using e1
    obtain rfl : A = false := by rw [← hA]; exact decide_eq_false (fun h => e1 (by rw [h]))
    clear e1
    clear HC hA
    go_enter Tryz.func78, Tryz.ntmps78
    go_wp2
    go_ret
    exact ⟨rfl, k0⟩

end Go.Proofs.YtpkppobkagdhkaaGreat
