/-
  Joined: Pla Plb.
-/
import Derived.Test.YtpkppobkagdhkaaJ40
import Derived.Test.YtpkppobkagdhkaaJ18

/-
  The program's player in memory: its own block, the table of numbers, the arena.
-/
namespace Go.Proofs.Ytpkppobkagdhkaa
open Go.RowKit Go.Maps Utf
set_option linter.unusedVariables false
set_option linter.unusedSimpArgs false

theorem lawI : Keyed Try.prog 3 := int_keyed Try.underlying3

/-- A number that an int can hold. -/
def wf64 (x : Int) : Prop := (Lit.int .i64 x).wf = true
theorem wf_of {x : Int} (h1 : -9223372036854775808 ≤ x) (h2 : x ≤ 9223372036854775807) : wf64 x := by
  unfold wf64
  simp only [Lit.wf, Bool.and_eq_true, decide_eq_true_eq]
  exact ⟨h1, h2⟩
theorem il_key (x : Int) : WideAt.IsKeyLit (.int .i64 x) := trivial

/-- Block b is the table of the numbers of handles. -/
def Nb (w : World) (b : Nat) (M : List (Int × Nat)) : Prop :=
  ∃ D : DataW Unit, w.ownsMap Try.prog 3 (plainElem Try.prog 3) b M.length D ∧
    ∀ x, Maps.has D (.int .i64 x) = (num M x).isSome ∧ D.atKey (.int .i64 x) (.lit (.int .i64 0)) = .lit (.int .i64 (((num M x).getD 0 : Nat) : Int))

theorem Nb.lt {w : World} {b : Nat} {M : List (Int × Nat)} (h : Nb w b M) : b < w.heap.size := by
  obtain ⟨D, h, _⟩ := h
  exact h.lt
theorem Nb.same {w w' : World} {b : Nat} {M : List (Int × Nat)} (h : Nb w b M) (hb : w'.heap[b]? = w.heap[b]?) : Nb w' b M := by
  obtain ⟨D, ⟨es, clock, h1, r⟩, r2⟩ := h
  exact ⟨D, ⟨es, clock, by rw [hb]; exact h1, r⟩, r2⟩

theorem nb_new (w : World) : Nb (w.alloc (.map #[] 0)) w.heap.size [] := ⟨.map [], World.ownsMap_made w Try.prog 3 _, fun x => ⟨rfl, rfl⟩⟩

theorem Nb.look {w : World} {b : Nat} {M : List (Int × Nat)} (h : Nb w b M) {x : Int} (hx : wf64 x) : (Instr.lookup 41 (.map (some b)) (.int .i64 x) true).run Try.prog w = .ok (.tuple #[.int .i64 (((num M x).getD 0 : Nat) : Int), .bool (num M x).isSome]) w := by
  obtain ⟨D, h1, h2⟩ := h
  obtain ⟨v, ps, hrun, hv⟩ := h1.look_ok lawI Try.underlying41 (zero3 w) (plainElem_int Try.underlying3 (by decide)) (keyOf_int_mk Try.underlying3 hx)
  obtain ⟨a, rfl, e, _⟩ := plainElem_int_inv Try.underlying3 hv
  rw [(h2 x).2] at e
  simp only [Prod.mk.injEq, DataW.lit.injEq, Lit.int.injEq, true_and] at e
  rw [(h2 x).1] at hrun
  rw [hrun, e.1]

theorem Nb.put {w : World} {b : Nat} {M : List (Int × Nat)} (h : Nb w b M) {x : Int} (hx : wf64 x) {n : Nat} (hn : n < 1000000) (hM : M.length < 1000000) (hno : num M x = none) : ∃ w', (Instr.mapUpdate 41 (.map (some b)) (.int .i64 x) (.int .i64 (n : Int))).run Try.prog w = .ok () w' ∧ Nb w' b (M ++ [(x, n)]) ∧ Kp [b] w w' := by
  obtain ⟨D, h1, h2⟩ := h
  obtain ⟨w', hrun, r1, r2⟩ := h1.update lawI Try.underlying41 (by unfold maxLen; omega) (keyOf_int_mk Try.underlying3 hx) (plainElem_int (H := Unit) Try.underlying3 (wf_of (x := (n : Int)) (by omega) (by omega)))
  refine ⟨w', hrun, ⟨_, by rw [List.length_append]; exact r1, fun y => ?_⟩, kp_grown r2⟩
  rw [num_snoc]
  by_cases hy : x = y
  · subst hy
    rw [hno, if_pos rfl]
    exact ⟨Maps.has_put_same (h1.tidy lawI).isMap (il_key x) _, by rw [Maps.atKey_put_same (h1.tidy lawI).isMap (il_key x)]; rfl⟩
  · have hne : (Lit.int .i64 y) ≠ (Lit.int .i64 x) := fun e => hy (by simp only [Lit.int.injEq, true_and] at e; exact e.symm)
    rw [Maps.has_put_other hne, Maps.atKey_put_other hne, (h2 y).1, (h2 y).2]
    cases num M y with
    | some z => exact ⟨rfl, rfl⟩
    | none => rw [if_neg hy]; exact ⟨rfl, rfl⟩

/-- The player in block b, its arena in block a, its table in block m (mark 6). -/
structure Pp (tag : Nat → Nat) (w : World) (b a m : Nat) (s : Py) (k : Nat) : Prop where
  hd : At w b #[.pointer (some ⟨a, 0, none⟩), .map (some m)] 43
  tb : tag b = 6
  ps : Ps tag w a s.q s.A k
  nb : Nb w m s.M
  tm : tag m = 6
  fit : s.Fit k

/-- Blocks of a player alone have turned; new ones have come. -/
structure Pv (tag : Nat → Nat) (w : World) (tag' : Nat → Nat) (w' : World) : Prop where
  os : w'.os = w.os
  tape : w'.tape = w.tape
  output : w'.output = w.output
  size : w.heap.size ≤ w'.heap.size
  block : ∀ k, k < w.heap.size → ¬ isP (tag k) → tag k ≠ 6 → w'.heap[k]? = w.heap[k]?
  tg : ∀ k, k < w.heap.size → tag' k = tag k

section
variable {tag tag' tag'' : Nat → Nat} {w w' w'' : World} {b a m k : Nat} {s : Py}

theorem Ps.sm {q : Bool} {A : Ar} (h : Ps tag w b q A k) (hs : w.heap.size ≤ w'.heap.size) (ho : w'.os = w.os) (ht : w'.tape = w.tape) (hu : w'.output = w.output) (hb : ∀ x, x < w.heap.size → isP (tag x) → w'.heap[x]? = w.heap[x]?) (hg : ∀ x, x < w.heap.size → tag' x = tag x) : Ps tag' w' b q A k := by
  classical
  obtain ⟨g, o, c, pl, r⟩ := h.pa
  have kp : Kp ((List.range w.heap.size).filter fun x => decide (¬ isP (tag x))) w w' := ⟨ho, ht, hu, hs, fun x hx hn => hb x hx (by
    simp only [List.mem_filter, List.mem_range, decide_eq_true_eq, not_and, Classical.not_not] at hn
    exact hn hx)⟩
  exact ⟨⟨g, o, c, pl, r.keep kp (fun x hx _ => by simp only [List.mem_filter, decide_eq_true_eq] at hx; exact hx.2) hg⟩, h.ful, h.sz, h.hk⟩
theorem Ps.re {q : Bool} {A : Ar} (h : Ps tag w b q A k) (kp : Kp [] w w') (hg : ∀ x, x < w.heap.size → tag' x = tag x) : Ps tag' w' b q A k := h.sm kp.size kp.os kp.tape kp.output (fun x hx _ => kp.block x hx (by simp)) hg
theorem Mv.kp (h : Mv tag w tag' w') (h0 : ∀ x, x < w.heap.size → tag x = 0) : Kp [] w w' := ⟨h.os, h.tape, h.output, h.size, fun x hx _ => h.block x hx (by rw [h0 x hx]; unfold isP; omega)⟩

theorem Pv.refl (tag : Nat → Nat) (w : World) : Pv tag w tag w := ⟨rfl, rfl, rfl, Nat.le_refl _, fun _ _ _ _ => rfl, fun _ _ => rfl⟩
theorem Pv.trans (h : Pv tag w tag' w') (g : Pv tag' w' tag'' w'') : Pv tag w tag'' w'' :=
  ⟨g.os.trans h.os, g.tape.trans h.tape, g.output.trans h.output, Nat.le_trans h.size g.size, fun x hx hn h6 => (g.block x (Nat.lt_of_lt_of_le hx h.size) (by rw [h.tg x hx]; exact hn) (by rw [h.tg x hx]; exact h6)).trans (h.block x hx hn h6), fun x hx => (g.tg x (Nat.lt_of_lt_of_le hx h.size)).trans (h.tg x hx)⟩
theorem Mv.pv (h : Mv tag w tag' w') : Pv tag w tag' w' := ⟨h.os, h.tape, h.output, h.size, fun x hx hn _ => h.block x hx hn, h.tg⟩
theorem Pv.of_kp {S : List Nat} (k : Kp S w w') (hS : ∀ x, x ∈ S → x < w.heap.size → tag x = 6) (ht : ∀ x, x < w.heap.size → tag' x = tag x) : Pv tag w tag' w' := ⟨k.os, k.tape, k.output, k.size, fun x hx _ h6 => k.block x hx (fun hs => h6 (hS x hs hx)), ht⟩
theorem Pv.of_kp0 (k : Kp [] w w') : Pv tag w tag w' := Pv.of_kp k (fun x hx => by simp at hx) (fun _ _ => rfl)
theorem Pv.kp (h : Pv tag w tag' w') (h0 : ∀ x, x < w.heap.size → tag x = 0) : Kp [] w w' := ⟨h.os, h.tape, h.output, h.size, fun x hx _ => h.block x hx (by rw [h0 x hx]; unfold isP; omega) (by rw [h0 x hx]; omega)⟩

theorem Pp.re (h : Pp tag w b a m s k) (kp : Kp [] w w') (hg : ∀ x, x < w.heap.size → tag' x = tag x) : Pp tag' w' b a m s k :=
  ⟨h.hd.kept kp (by simp), by rw [hg b h.hd.lt]; exact h.tb, h.ps.re kp hg, h.nb.same (kp.block m h.nb.lt (by simp)), by rw [hg m h.nb.lt]; exact h.tm, h.fit⟩
theorem Pp.kept (h : Pp tag w b a m s k) (kp : Kp [] w w') : Pp tag w' b a m s k := h.re kp (fun _ _ => rfl)

/-- The arena has turned. -/
theorem Pp.mv (h : Pp tag w b a m s k) (mv : Mv tag w tag' w') {q : Bool} {A : Ar} {j : Nat} (p : Ps tag' w' a q A j) (f : (Py.mk A q s.M).Fit j) : Pp tag' w' b a m ⟨A, q, s.M⟩ j := by
  have n6 : ∀ x, tag x = 6 → ¬ isP (tag x) := fun x e => by rw [e]; unfold isP; omega
  refine ⟨?_, by rw [mv.tg b h.hd.lt]; exact h.tb, p, h.nb.same (mv.block m h.nb.lt (n6 m h.tm)), by rw [mv.tg m h.nb.lt]; exact h.tm, f⟩
  unfold At
  rw [mv.block b h.hd.lt (n6 b h.tb)]
  exact h.hd

theorem Pp.ne (h : Pp tag w b a m s k) : b ≠ m := fun e => by
  obtain ⟨D, ⟨es, clock, h1, _⟩, _⟩ := h.nb
  have h2 := h.hd
  unfold At at h2
  rw [e, h1] at h2
  cases h2

/-- A handle becomes known. -/
theorem Pp.snoc (h : Pp tag w b a m s k) (kp : Kp [m] w w') {x : Int} {n : Nat} (hn : Nb w' m (s.M ++ [(x, n)])) {j : Nat} (hj : k ≤ j) (hj2 : j ≤ 3000) (f : (Py.mk s.A s.q (s.M ++ [(x, n)])).Fit j) : Pp tag w' b a m ⟨s.A, s.q, s.M ++ [(x, n)]⟩ j := by
  refine ⟨h.hd.kept kp (by simpa using h.ne), h.tb, ?_, hn, h.tm, f⟩
  have := h.ps.sm (tag' := tag) kp.size kp.os kp.tape kp.output (fun y hy hp => kp.block y hy (fun hm => by rw [List.mem_singleton.1 hm, h.tm] at hp; unfold isP at hp; omega)) (fun _ _ => rfl)
  exact ⟨this.pa, this.ful, this.sz.succ hj, hj2⟩

theorem Ps.up' {q : Bool} {A : Ar} (h : Ps tag w a q A k) {j : Nat} (hj : k ≤ j) (hj2 : j ≤ 3000) : Ps tag w a q A j := ⟨h.pa, h.ful, h.sz.succ hj, hj2⟩
theorem Pp.up (h : Pp tag w b a m s k) (hk : k < 1300) : Pp tag w b a m s (k + 1) := ⟨h.hd, h.tb, h.ps.up' (Nat.le_succ _) (by omega), h.nb, h.tm, h.fit.succ hk⟩

end

end Go.Proofs.Ytpkppobkagdhkaa

/-
  The program's player: Arena, foster, pour, enter, build.
-/
namespace Go.Proofs.Ytpkppobkagdhkaa
open Go.RowKit Go.Maps Utf
set_option linter.unusedVariables false
set_option linter.unusedSimpArgs false

section
variable {tag : Nat → Nat} {w : World} {b a m k : Nat} {s : Py}

theorem Pp.head (h : Pp tag w b a m s k) : w.cell? ⟨b, 0, none⟩ = some (.pointer (some ⟨a, 0, none⟩)) ∧ w.cell? ⟨b, 1, none⟩ = some (.map (some m)) := ⟨h.hd.cell 0, h.hd.cell 1⟩

theorem Py.Fit.up_par {s : Py} {k : Nat} (h : s.Fit k) {r : Nat} (hr : r < s.A.n) : ∃ z, s.A.parF (r : Int) = (z, (s.A.up r).isSome) := by
  have hth : s.A.there (r : Int) = true := by unfold Ar.there; exact decide_eq_true (by omega)
  unfold Ar.parF
  rw [if_pos hth, Int.toNat_natCast]
  cases s.A.up r with
  | none => exact ⟨0, rfl⟩
  | some p => exact ⟨p, rfl⟩

set_option maxHeartbeats 1000000 in
theorem foster_any (h : Pp tag w b a m s k) (r p n : Nat) (hr : r < s.A.n) (hf : (s.fosF r p n).1.Fit (k + 1)) :
    Calls Try.prog 29 #[.pointer (some ⟨b, 0, none⟩), .int .i64 (r : Int), .int .i64 (p : Int), .int .i64 (n : Int)] w fun e w' => e = .returned (.int .i64 (s.fosF r p n).2) ∧ ∃ tag', Pp tag' w' b a m (s.fosF r p n).1 (k + 1) ∧ Pv tag w tag' w' := by
  obtain ⟨c0, _⟩ := h.head
  have hk := hf.hk
  obtain ⟨z, hz⟩ := h.fit.up_par hr
  have HP := h.ps.par (r : Int)
  rw [hz] at HP
  have HB := h.ps.bef (r : Int) (n : Int)
  have HA := h.ps.app (p : Int) (n : Int)
  unfold Py.fosF at hf ⊢
  cases hu : (s.A.up r).isSome with
  | true =>
    rw [hu] at HP
    rw [hu, if_pos rfl] at hf
    rw [if_pos rfl]
    have H9 : Hid (∀ W, Ps tag W a s.q (s.A.befF r n).1 k → Mv tag w tag W → ∃ tag', Pp tag' W b a m (s.upd (s.A.befF r n)).1 (k + 1) ∧ Pv tag w tag' W) := fun W p1 m1 => ⟨tag, h.mv m1 (p1.up' (Nat.le_succ _) (by omega)) hf, m1.pv⟩
    clear h HA hz
    go_enter Try.func29, Try.ntmps29
    go_wp2_with (first | (go_at_call 47; refine (HP).mono ?_; rintro e w9 ⟨rfl, hw⟩; have hw2 := hw.symm; clear hw; subst hw2) | (go_at_call 28; refine HB.mono ?_; rintro e W ⟨rfl, p1, m1⟩))
    go_ret
    exact ⟨rfl, H9.out _ p1 m1⟩
  | false =>
    rw [hu] at HP
    rw [hu, if_neg (by simp)] at hf
    rw [if_neg (by simp)]
    have H9 : Hid (∀ W, Ps tag W a s.q (s.A.appF p n).1 k → Mv tag w tag W → ∃ tag', Pp tag' W b a m (s.upd (s.A.appF p n)).1 (k + 1) ∧ Pv tag w tag' W) := fun W p1 m1 => ⟨tag, h.mv m1 (p1.up' (Nat.le_succ _) (by omega)) hf, m1.pv⟩
    clear h HB hz
    go_enter Try.func29, Try.ntmps29
    go_wp2_with (first | (go_at_call 47; refine (HP).mono ?_; rintro e w9 ⟨rfl, hw⟩; have hw2 := hw.symm; clear hw; subst hw2) | (go_at_call 27; refine HA.mono ?_; rintro e W ⟨rfl, p1, m1⟩))
    go_ret
    exact ⟨rfl, H9.out _ p1 m1⟩

set_option maxHeartbeats 1000000 in
theorem pour_any (h : Pp tag w b a m s k) (hk : k < 1300) (r p : Nat) (t : ByteArray) (ht : t.size ≤ 10) (hr : r < s.A.n) (hf : (s.pouF r p t).1.Fit (k + 1)) :
    Calls Try.prog 31 #[.pointer (some ⟨b, 0, none⟩), .int .i64 (r : Int), .int .i64 (p : Int), .string t] w fun e w' => e = .returned (.int .i64 (s.pouF r p t).2) ∧ ∃ tag', Pp tag' w' b a m (s.pouF r p t).1 (k + 1) ∧ Pv tag w tag' w' := by
  obtain ⟨c0, _⟩ := h.head
  obtain ⟨z, hz⟩ := h.fit.up_par hr
  have HP := h.ps.par (r : Int)
  rw [hz] at HP
  have HB := h.ps.wb (by omega) (r : Int) t ht
  have HA := h.ps.wr (by omega) (p : Int) t ht
  unfold Py.pouF at hf ⊢
  cases hu : (s.A.up r).isSome with
  | true =>
    rw [hu] at HP
    rw [hu, if_pos rfl] at hf
    rw [if_pos rfl]
    have H9 : Hid (∀ tag1 W, Ps tag1 W a s.q (s.A.wbF r t).1 (k + 1) → Mv tag w tag1 W → ∃ tag', Pp tag' W b a m (s.upd (s.A.wbF r t)).1 (k + 1) ∧ Pv tag w tag' W) := fun tag1 W p1 m1 => ⟨tag1, h.mv m1 p1 hf, m1.pv⟩
    clear h HA hz
    go_enter Try.func31, Try.ntmps31
    go_wp2_with (first | (go_at_call 47; refine (HP).mono ?_; rintro e w9 ⟨rfl, hw⟩; have hw2 := hw.symm; clear hw; subst hw2) | (go_at_call 49; refine HB.mono ?_; rintro e W ⟨rfl, tag1, p1, m1⟩))
    go_ret
    exact ⟨rfl, H9.out _ _ p1 m1⟩
  | false =>
    rw [hu] at HP
    rw [hu, if_neg (by simp)] at hf
    rw [if_neg (by simp)]
    have H9 : Hid (∀ tag1 W, Ps tag1 W a s.q (s.A.wrF p t).1 (k + 1) → Mv tag w tag1 W → ∃ tag', Pp tag' W b a m (s.upd (s.A.wrF p t)).1 (k + 1) ∧ Pv tag w tag' W) := fun tag1 W p1 m1 => ⟨tag1, h.mv m1 p1 hf, m1.pv⟩
    clear h HB hz
    go_enter Try.func31, Try.ntmps31
    go_wp2_with (first | (go_at_call 47; refine (HP).mono ?_; rintro e w9 ⟨rfl, hw⟩; have hw2 := hw.symm; clear hw; subst hw2) | (go_at_call 30; refine HA.mono ?_; rintro e W ⟨rfl, tag1, p1, m1⟩))
    go_ret
    exact ⟨rfl, H9.out _ _ p1 m1⟩

end

end Go.Proofs.Ytpkppobkagdhkaa
