/-
  Joined: Smo.
-/
import Derived.Test.YtpkppobkagdhkaaGreatJ33
import Derived.Test.YtpkppobkagdhkaaGreatJ40
import Derived.Test.YtpkppobkagdhkaaGreatJ37

/-
  some of the law: raw operations that came in, made, those that the document refuses left out, if asked.
-/
namespace Go.Proofs.YtpkppobkagdhkaaGreat
open Go.RowKit Go.Maps Utf
set_option linter.unusedVariables false
set_option linter.unusedSimpArgs false

/-- A slice of raw operations, that is read. -/
structure Xin (w : World) (ao : Option Addr) (n c : Nat) (F : Nat → Rx) : Prop where
  cap : n ≤ c
  max : n ≤ 140737488355328
  at' : ∀ i, i < n → ∃ b off p, ao = some ⟨b, off, none⟩ ∧ (∀ j, j < 9 → w.cell? ⟨b, off + i * 9 + j, none⟩ = (rxc (F i) p)[j]?) ∧ Rp w p.1 p.2.1 p.2.2 (F i).l ∧ p.2.1 ≤ 140737488355328

theorem Xin.kept {w w' : World} {ao : Option Addr} {n c : Nat} {F : Nat → Rx} (h : Xin w ao n c F) (k : Kp [] w w') : Xin w' ao n c F := by
  refine ⟨h.cap, h.max, fun i hi => ?_⟩
  obtain ⟨b, off, p, e, hc, hr, hl⟩ := h.at' i hi
  have hb : b < w.heap.size := block_lt_of_cell (a := ⟨b, off + i * 9 + 0, none⟩) (hc 0 (by omega))
  exact ⟨b, off, p, e, fun j hj => by rw [k.cell hb (by simp)]; exact hc j hj, hr.kept k, hl⟩

/-- The operations that are made. -/
def lis (F : Nat → Rx) (m : Nat) : List Ot := (List.range m).map fun i => madF (F i)
theorem lis_succ (F : Nat → Rx) (m : Nat) : lis F (m + 1) = lis F m ++ [madF (F m)] := by simp [lis, List.range_succ]
theorem lis_tiny {F : Nat → Rx} {m : Nat} {o : Ot} (h : o ∈ lis F m) : tinyO o := by
  obtain ⟨i, _, rfl⟩ := List.mem_map.1 h
  exact madF_tiny _

/-- Those that are told. -/
def somF (F : Nat → Rx) (m : Nat) (fine : Bool) : List Ot := if fine = true then Py.fil Py.first (lis F m) else lis F m

theorem somF_succ (F : Nat → Rx) (m : Nat) (fine : Bool) : somF F (m + 1) fine = if ((((Py.aft Py.first (lis F m)).doF (madF (F m))).2 == 0) || !fine) = true then somF F m fine ++ [madF (F m)] else somF F m fine := by
  unfold somF
  cases fine with
  | true =>
    simp only [if_pos, lis_succ, Py.fil_snoc, Bool.not_true, Bool.or_false, beq_iff_eq]
  | false => simp [lis_succ]

theorem somF_mem {F : Nat → Rx} {m : Nat} {fine : Bool} {o : Ot} (h : o ∈ somF F m fine) : o ∈ lis F m := by
  unfold somF at h
  split at h
  · exact (Py.fil_mem _ _ _ h).1
  · exact h

section
variable {tag tag' : Nat → Nat} {w U U' : World} {b d k : Nat} {l1 l2 : Sl} {s : Py} {q : List Oq} {ao : Option Addr} {n c : Nat}

/-- Blocks of mark 0 alone have turned. -/
theorem Pd.sm0 {S : List Nat} (h : Pd tag U b d l1 l2 s k) (kp : Kp S U U') (hS : ∀ x, x ∈ S → x < U.heap.size → tag x = 0) (hg : ∀ x, x < U.heap.size → tag' x = tag x) : Pd tag' U' b d l1 l2 s k := by
  have n7 : ∀ x, x < U.heap.size → tag x = 7 → x ∉ S := fun x hx e hs => by have := hS x hs hx; omega
  exact ⟨h.hd.kept kp (n7 b h.hd.lt h.tb), by rw [hg b h.hd.lt]; exact h.tb, h.dn.sm (fun x hx ht => kp.block x hx (fun hs => by have := hS x hs hx; omega)) hg, h.o1.keep kp (fun x hx => n7 x (h.o1.lt x hx) (h.t1 x hx)), fun x hx => by rw [hg x (h.o1.lt x hx)]; exact h.t1 x hx, h.o2.keep kp (fun x hx => n7 x (h.o2.lt x hx) (h.t2 x hx)), fun x hx => by rw [hg x (h.o2.lt x hx)]; exact h.t2 x hx, h.dj, h.b1, h.b2, h.fit⟩

/-- The list of operations so far, in blocks of mark 0, new since w. -/
structure Ou (tag : Nat → Nat) (w U : World) (ao : Option Addr) (n c : Nat) (q : List Oq) : Prop where
  own : OwnK 9 U 24 (.slice ao n c) n (qs q)
  nw : ∀ x, x ∈ blk (.slice ao n c) → w.heap.size ≤ x ∧ tag x = 0
  ar : ∀ p, p ∈ q → Ao U p ∧ ∀ x, x ∈ blk (.slice p.2.1 p.2.2.1 p.2.2.2) → tag x = 0
  kp : Kp [] w U
  t0 : ∀ x, x < w.heap.size → tag x = 0

theorem Ou.mq (h : Ou tag w U ao n c q) : Mq w U ao n c q := ⟨h.own, h.kp, fun x hx => (h.nw x hx).1, fun p hp => (h.ar p hp).1⟩

theorem Ou.nil (w : World) (tag : Nat → Nat) (k : Kp [] w U) (t : ∀ x, x < w.heap.size → tag x = 0) : Ou tag w U none 0 0 [] := ⟨⟨rfl, Or.inl ⟨rfl, rfl⟩⟩, fun x hx => by simp [blk] at hx, fun p hp => (by cases hp), k, t⟩

theorem Ao.lt {p : Oq} (h : Ao U p) : ∀ x, x ∈ blk (.slice p.2.1 p.2.2.1 p.2.2.2) → x < U.heap.size := OwnK.lt h

theorem Ou.sm {S : List Nat} (h : Ou tag w U ao n c q) (kp : Kp S U U') (hS : ∀ x, x ∈ S → x < U.heap.size → tag x ≠ 0) (hg : ∀ x, x < U.heap.size → tag' x = tag x) : Ou tag' w U' ao n c q := by
  have n0 : ∀ x, x < U.heap.size → tag x = 0 → x ∉ S := fun x hx e hs => hS x hs hx e
  have hl := h.own.lt
  refine ⟨h.own.keep kp (fun x hx => n0 x (hl x hx) (h.nw x hx).2), fun x hx => ⟨(h.nw x hx).1, by rw [hg x (hl x hx)]; exact (h.nw x hx).2⟩, fun p hp => ?_, h.kp.trans kp (fun x hx => ?_), fun x hx => ?_⟩
  · obtain ⟨a, t⟩ := h.ar p hp
    have hl := Ao.lt a
    exact ⟨a.keep kp (fun x hx => n0 x (hl x hx) (t x hx)), fun x hx => by rw [hg x (hl x hx)]; exact t x hx⟩
  · by_cases hw : x < w.heap.size
    · exact absurd hx (n0 x (Nat.lt_of_lt_of_le hw h.kp.size) (h.t0 x hw))
    · exact Or.inr (by omega)
  · rw [hg x (Nat.lt_of_lt_of_le hx h.kp.size)]; exact h.t0 x hx

theorem Qv.kps (v : Qv tag U tag' U') : ∃ S, Kp S U U' ∧ ∀ x, x ∈ S → x < U.heap.size → tag x ≠ 0 := by
  classical
  refine ⟨(List.range U.heap.size).filter fun x => decide (tag x ≠ 0), ⟨v.os, v.tape, v.output, v.size, fun x hx hn => ?_⟩, fun x hx _ => ?_⟩
  · simp only [List.mem_filter, List.mem_range, decide_eq_true_eq, not_and, Classical.not_not] at hn
    have := hn hx
    exact v.block x hx (by omega) (by omega) (by omega)
  · simp only [List.mem_filter, decide_eq_true_eq] at hx
    exact hx.2

theorem Ou.qv (h : Ou tag w U ao n c q) (v : Qv tag U tag' U') : Ou tag' w U' ao n c q := by
  obtain ⟨S, kp, hS⟩ := v.kps
  exact h.sm kp hS v.tg

theorem Ou.re (h : Ou tag w U ao n c q) (kp : Kp [] U U') (hg : ∀ x, x < U.heap.size → tag' x = tag x) : Ou tag' w U' ao n c q := h.sm kp (fun x hx => by simp at hx) hg

/-- One more. -/
theorem Ou.app (h : Ou tag w U ao n c q) (hP : Pd tag U b d l1 l2 s k) (p : Oq) (hp : Ao U p) (ht : ∀ x, x ∈ blk (.slice p.2.1 p.2.2.1 p.2.2.2) → tag x = 0) (hlen : n + 1 ≤ 1000000) :
    ∃ ao' n' c' U2 tag2, (∀ ty, (Builtin.append_ #[25, 25] ty #[.slice ao n c, .slice (some ⟨U.heap.size, 0, none⟩) 1 1]).run Tryz.prog (U.alloc (.cells (oc p.1 p.2) 24)) = .ok (.slice ao' n' c') U2) ∧ Ou tag2 w U2 ao' n' c' (q ++ [p]) ∧ Pd tag2 U2 b d l1 l2 s k := by
  have k1 : Kp [] U (U.alloc (.cells (oc p.1 p.2) 24)) := (Kp.refl _ _).alloc _
  have hg : ∀ x, x < U.heap.size → (fun x => if x < U.heap.size then tag x else 0) x = tag x := fun x hx => if_pos hx
  have h1 := h.re k1 hg
  have P1 := hP.re k1 hg
  have hs := src_op (p := p) (heap_new U _)
  obtain ⟨v', U2, hrun, o2, k2, b2, a2, c2, rfl⟩ := appK Tryz.underlying25 infoOp rfl (by decide) _ _ _ _ h1.own _ 1 (qs [p]) hs (fun _ => by omega) hlen
  have hz : U.heap.size < (U.alloc (.cells (oc p.1 p.2) 24)).heap.size := by simp
  have hSz : ∀ x, x ∈ blk (.slice ao n c) → x < (U.alloc (.cells (oc p.1 p.2) 24)).heap.size → (fun x => if x < U.heap.size then tag x else 0) x = 0 := fun x hx _ => (h1.nw x hx).2
  have t2 : ∀ x, (x < (U.alloc (.cells (oc p.1 p.2) 24)).heap.size → (fun x => if x < U.heap.size then tag x else 0) x = 0) → (fun x => if x < U.heap.size then tag x else 0) x = 0 := fun x hx => by
    by_cases hl : x < (U.alloc (.cells (oc p.1 p.2) 24)).heap.size
    · exact hx hl
    · exact if_neg (by omega)
  refine ⟨_, _, _, U2, fun x => if x < U.heap.size then tag x else 0, hrun, ⟨by rw [qs_append]; exact o2, fun x hx => ?_, fun r hr => ?_, h1.kp.trans k2 (fun x hx => Or.inr (h1.nw x hx).1), h1.t0⟩, P1.sm0 k2 hSz (fun _ _ => rfl)⟩
  · rcases b2 x hx with e | e
    · exact h1.nw x e
    · refine ⟨?_, if_neg (by omega)⟩
      have := h1.kp.size
      omega
  · have hx : Ao (U.alloc (.cells (oc p.1 p.2) 24)) r ∧ ∀ x, x ∈ blk (.slice r.2.1 r.2.2.1 r.2.2.2) → (fun x => if x < U.heap.size then tag x else 0) x = 0 := by
      rcases List.mem_append.1 hr with e | e
      · exact h1.ar r e
      · rw [List.mem_singleton.1 e]
        exact ⟨hp.keep k1 (fun _ _ => by simp), fun x hx => by
          show (if x < U.heap.size then tag x else 0) = 0
          rw [if_pos (Ao.lt hp x hx)]
          exact ht x hx⟩
    exact ⟨hx.1.keep k2 (hx.1.apart h1.own), hx.2⟩

end

end Go.Proofs.YtpkppobkagdhkaaGreat
