/-
  Joined: Olist.
-/
import Derived.Test.YtpkppobkagdhkaaJ12

/-
  Slices of operations: what one that is read holds (Rq), and one that a call made (Mq); append onto it.
-/
namespace Go.Proofs.Ytpkppobkagdhkaa
open Go.RowKit
set_option linter.unusedVariables false

/-- An operation, and where its attributes lie. -/
abbrev Oq := Ot × Sl

/-- Operations, cell by cell. -/
def qs : List Oq → List Value
  | [] => []
  | p :: l => .int .i64 p.1.kd :: .int .i64 p.1.nd :: .int .i64 p.1.pa :: .int .i64 p.1.rf :: .int .i64 p.1.ty :: .int .i64 p.1.ns :: .string p.1.nm :: .slice p.2.1 p.2.2.1 p.2.2.2 :: .string p.1.tt :: qs l

theorem qs_len : ∀ l : List Oq, (qs l).length = l.length * 9
  | [] => rfl
  | a :: l => by
    simp only [qs, List.length_cons, qs_len l]
    omega

theorem qs_append : ∀ l m : List Oq, qs (l ++ m) = qs l ++ qs m
  | [], m => rfl
  | a :: l, m => by simp only [List.cons_append, qs, qs_append l m]

theorem qs_shift (a : Oq) (l : List Oq) (m : Nat) : (qs (a :: l))[m + 9]? = (qs l)[m]? := rfl

theorem qs_at : ∀ (l : List Oq) (j i : Nat) (h : j < l.length), i < 9 → (qs l)[j * 9 + i]? = (oc l[j].1 l[j].2)[i]?
  | a :: l, 0, i, _, hi => by
    match i, hi with
    | 0, _ => rfl
    | 1, _ => rfl
    | 2, _ => rfl
    | 3, _ => rfl
    | 4, _ => rfl
    | 5, _ => rfl
    | 6, _ => rfl
    | 7, _ => rfl
    | 8, _ => rfl
  | a :: l, j + 1, i, h, hi => by
    rw [show (j + 1) * 9 + i = j * 9 + i + 9 by omega, qs_shift, qs_at l j i (by simpa using h) hi]
    rfl

theorem qs_one : ∀ (l : List Oq) u, u ∈ qs l → u.oneCell' = true
  | [], u, h => by simp [qs] at h
  | a :: l, u, h => by
    simp only [qs, List.mem_cons] at h
    rcases h with rfl | rfl | rfl | rfl | rfl | rfl | rfl | rfl | rfl | h
    all_goals first | rfl | exact qs_one l u h

/-- The slice of n operations from ao on, with room for c, reads as q. -/
structure Rq (w : World) (ao : Option Addr) (n c : Nat) (q : List Oq) : Prop where
  len : n = q.length
  cap : n ≤ c
  at' : ∀ j, j < n * 9 → ∃ b off, ao = some ⟨b, off, none⟩ ∧ w.cell? ⟨b, off + j, none⟩ = (qs q)[j]?

theorem Rq.of_own {w : World} {e : TypeId} {ao : Option Addr} {n m c : Nat} {q : List Oq} (h : OwnK 9 w e (.slice ao n c) m (qs q)) : Rq w ao n c q := by
  obtain ⟨h0, h⟩ := h
  rw [qs_len] at h0
  have hm : m = q.length := by omega
  rcases h with ⟨h1, h2⟩ | ⟨g, o, cap, cur, hv, hg, h1, h2, h3, h4⟩
  · simp only [Value.slice.injEq] at h1
    obtain ⟨rfl, rfl, rfl⟩ := h1
    exact ⟨by omega, Nat.le_refl _, fun j hj => by omega⟩
  · simp only [Value.slice.injEq] at hv
    obtain ⟨rfl, rfl, rfl⟩ := hv
    exact ⟨hm, h1, fun j hj => ⟨g, o, rfl, by rw [cell_of hg, h4 j hj]⟩⟩

theorem Rq.keep {w w' : World} {ao : Option Addr} {n c : Nat} {q : List Oq} (h : Rq w ao n c q) (hs : ∀ a, (∃ u, w.cell? a = some u) → w'.cell? a = w.cell? a) : Rq w' ao n c q := by
  refine ⟨h.len, h.cap, fun j hj => ?_⟩
  obtain ⟨b, off, h1, h2⟩ := h.at' j hj
  exact ⟨b, off, h1, by rw [hs _ ⟨_, h2.trans (List.getElem?_eq_getElem (by rw [qs_len]; have := h.len; omega))⟩]; exact h2⟩

theorem Rq.kept {w w' : World} {ao : Option Addr} {n c : Nat} {q : List Oq} (h : Rq w ao n c q) (k : Kp [] w w') : Rq w' ao n c q :=
  h.keep (fun a ha => by
    obtain ⟨u, hu⟩ := ha
    exact k.cell (block_lt_of_cell hu) (by simp))

/-- Nine cells from a place on are an operation's. -/
def Nine (w : World) (b off : Nat) (o : Ot) (p : Sl) : Prop :=
  w.cell? ⟨b, off, none⟩ = some (.int .i64 o.kd) ∧ w.cell? ⟨b, off + 1, none⟩ = some (.int .i64 o.nd) ∧ w.cell? ⟨b, off + 2, none⟩ = some (.int .i64 o.pa) ∧ w.cell? ⟨b, off + 3, none⟩ = some (.int .i64 o.rf) ∧ w.cell? ⟨b, off + 4, none⟩ = some (.int .i64 o.ty) ∧ w.cell? ⟨b, off + 5, none⟩ = some (.int .i64 o.ns) ∧ w.cell? ⟨b, off + 6, none⟩ = some (.string o.nm) ∧ w.cell? ⟨b, off + 7, none⟩ = some (.slice p.1 p.2.1 p.2.2) ∧ w.cell? ⟨b, off + 8, none⟩ = some (.string o.tt)

theorem Nine.kept {w w' : World} {b off : Nat} {o : Ot} {p : Sl} {S : List Nat} (h : Nine w b off o p) (k : Kp S w w') (hb : b ∉ S) : Nine w' b off o p := by
  obtain ⟨h0, h1, h2, h3, h4, h5, h6, h7, h8⟩ := h
  have hl : b < w.heap.size := block_lt_of_cell h0
  exact ⟨(k.cell hl hb).trans h0, (k.cell hl hb).trans h1, (k.cell hl hb).trans h2, (k.cell hl hb).trans h3, (k.cell hl hb).trans h4, (k.cell hl hb).trans h5, (k.cell hl hb).trans h6, (k.cell hl hb).trans h7, (k.cell hl hb).trans h8⟩

theorem nine_of {w : World} {b : Nat} {o : Ot} {p : Sl} (h : w.heap[b]? = some (.cells (oc o p) 25 (0, 0))) : Nine w b 0 o p :=
  ⟨cell_of h 0, cell_of h 1, cell_of h 2, cell_of h 3, cell_of h 4, cell_of h 5, cell_of h 6, cell_of h 7, cell_of h 8⟩

/-- What stands at a place. -/
theorem Rq.get {w : World} {ao : Option Addr} {n c : Nat} {q : List Oq} (h : Rq w ao n c q) (k : Nat) (hk : k < q.length) :
    ∃ b off, ao = some ⟨b, off, none⟩ ∧ Nine w b (off + k * 9) q[k].1 q[k].2 := by
  have hl := h.len
  obtain ⟨b, off, h1, h2⟩ := h.at' (k * 9) (by omega)
  have key : ∀ i, i < 9 → w.cell? ⟨b, off + k * 9 + i, none⟩ = (oc q[k].1 q[k].2)[i]? := fun i hi => by
    obtain ⟨b', off', h3, h4⟩ := h.at' (k * 9 + i) (by omega)
    rw [h1] at h3
    simp only [Option.some.injEq, Addr.mk.injEq] at h3
    obtain ⟨rfl, rfl, _⟩ := h3
    rw [Nat.add_assoc, h4, qs_at q k i hk hi]
  exact ⟨b, off, h1, key 0 (by omega), key 1 (by omega), key 2 (by omega), key 3 (by omega), key 4 (by omega), key 5 (by omega), key 6 (by omega), key 7 (by omega), key 8 (by omega)⟩

/-- Its attributes can be read. -/
def Ap (w : World) (p : Oq) : Prop := Rp w p.2.1 p.2.2.1 p.2.2.2 p.1.al

theorem Ap.kept {w w' : World} {p : Oq} (h : Ap w p) (k : Kp [] w w') : Ap w' p := Rp.kept h k

/-- Its attributes lie in a block of attributes. -/
def Ao (w : World) (p : Oq) : Prop := OwnK 2 w 70 (.slice p.2.1 p.2.2.1 p.2.2.2) p.2.2.1 (cs p.1.al)

theorem Ao.rp {w : World} {p : Oq} (h : Ao w p) : Ap w p := Rp.of_own h

theorem Ao.keep {w w' : World} {S : List Nat} {p : Oq} (h : Ao w p) (k : Kp S w w') (hn : ∀ x, x ∈ blk (.slice p.2.1 p.2.2.1 p.2.2.2) → x ∉ S) : Ao w' p := OwnK.keep h k hn

theorem Ao.kept {w w' : World} {p : Oq} (h : Ao w p) (k : Kp [] w w') : Ao w' p := OwnK.keep h k (fun _ _ => by simp)

theorem ar_nil (w : World) (o : Ot) (h : o.al = []) : Ao w (o, none, 0, 0) := by
  unfold Ao
  rw [h]
  exact ⟨rfl, Or.inl ⟨rfl, rfl⟩⟩

/-- No block of operations holds them. -/
theorem Ao.apart {w : World} {p : Oq} {u : Value} {n : Nat} {xs : List Value} (h : Ao w p) (ho : OwnK 9 w 25 u n xs) : ∀ x, x ∈ blk (.slice p.2.1 p.2.2.1 p.2.2.2) → x ∉ blk u := by
  intro x hx hu
  obtain ⟨_, h1⟩ := h
  rcases h1 with ⟨e, _⟩ | ⟨g, o, cap, cur, e, hg, _⟩
  · rw [e] at hx
    simp [blk] at hx
  · rw [e] at hx
    obtain ⟨_, ho⟩ := ho
    rcases ho with ⟨rfl, _⟩ | ⟨g', o', cap', cur', rfl, hg', _⟩
    · simp [blk] at hu
    · simp [blk] at hx hu
      subst hx
      subst hu
      rw [hg] at hg'
      simp at hg'

/-- A slice of operations that a call made: it holds q, in blocks that are new since w, with attributes in blocks of their own. -/
def Mq (w w' : World) (ao : Option Addr) (n c : Nat) (q : List Oq) : Prop := OwnK 9 w' 25 (.slice ao n c) n (qs q) ∧ Kp [] w w' ∧ (∀ k, k ∈ blk (.slice ao n c) → w.heap.size ≤ k) ∧ ∀ p, p ∈ q → Ao w' p

theorem Mq.nil (w : World) : Mq w w none 0 0 [] := ⟨⟨rfl, Or.inl ⟨rfl, rfl⟩⟩, Kp.refl _ _, fun k hk => by simp [blk] at hk, fun p hp => by simp at hp⟩

theorem Mq.len {w w' : World} {ao : Option Addr} {n c : Nat} {q : List Oq} (h : Mq w w' ao n c q) : n = q.length := by
  have := h.1.1
  rw [qs_len] at this
  omega

theorem Mq.rq {w w' : World} {ao : Option Addr} {n c : Nat} {q : List Oq} (h : Mq w w' ao n c q) : Rq w' ao n c q := Rq.of_own h.1

theorem Mq.kp {w w' : World} {ao : Option Addr} {n c : Nat} {q : List Oq} (h : Mq w w' ao n c q) : Kp [] w w' := h.2.1

theorem Mq.ar {w w' : World} {ao : Option Addr} {n c : Nat} {q : List Oq} (h : Mq w w' ao n c q) : ∀ p, p ∈ q → Ao w' p := h.2.2.2

/-- What a call changes in no block that was there is kept. -/
theorem Mq.kept {w w1 w2 : World} {ao : Option Addr} {n c : Nat} {q : List Oq} (h : Mq w w1 ao n c q) (k : Kp [] w1 w2) : Mq w w2 ao n c q :=
  ⟨h.1.keep k (fun _ _ => by simp), h.2.1.trans k (fun x hx => by simp at hx), h.2.2.1, fun p hp => (h.2.2.2 p hp).keep k (fun _ _ => by simp)⟩

theorem infoOp : (Try.prog.info? 25).map (fun i => (i.zero, i.size, i.bytes)) = some (some (.agg #[.int .i64 0, .int .i64 0, .int .i64 0, .int .i64 0, .int .i64 0, .int .i64 0, .string ⟨#[]⟩, .slice none 0 0, .string ⟨#[]⟩]), 9, 104) := by kernel_rfl

/-- A slice of one, laid. -/
theorem src_op {w : World} {g : Nat} {p : Oq} (hg : w.heap[g]? = some (.cells (oc p.1 p.2) 25)) : Src Try.prog 9 26 (.slice (some ⟨g, 0, none⟩) 1 1) 1 (qs [p]) w := by
  refine Src.ofSlice w Try.underlying26 ⟨g, 0, none⟩ 1 1 (qs [p]) rfl (fun j u hj => ?_) (qs_one [p])
  rw [Addr.add_lit, cell_of hg, Nat.zero_add]
  rw [← hj, ← List.getElem?_toArray]
  rfl

/-- append of one, as a call makes it: its slice of one is built ahead of it. -/
theorem Mq.one {w w1 : World} {ao : Option Addr} {n c : Nat} {q : List Oq} (h : Mq w w1 ao n c q) (p : Oq) (hp : Ao w1 p) (hlen : n + 1 ≤ 1000000) :
    ∃ ao' n' c' w2, (∀ ty, (Builtin.append_ #[26, 26] ty #[.slice ao n c, .slice (some ⟨w1.heap.size, 0, none⟩) 1 1]).run Try.prog (w1.alloc (.cells (oc p.1 p.2) 25)) = .ok (.slice ao' n' c') w2) ∧ Mq w w2 ao' n' c' (q ++ [p]) := by
  have k1 : Kp [] w1 (w1.alloc (.cells (oc p.1 p.2) 25)) := (Kp.refl _ _).alloc _
  have hs := src_op (p := p) (heap_new w1 _)
  have hp' := hp.keep k1 (fun _ _ => by simp)
  obtain ⟨h1, h2, h3, h4⟩ := h.kept k1
  obtain ⟨v', w2, hrun, o2, k2, b2, a2, c2, rfl⟩ := appK Try.underlying26 infoOp rfl (by decide) _ _ _ _ h1 _ 1 (qs [p]) hs (fun _ => by omega) hlen
  refine ⟨_, _, _, w2, hrun, by rw [qs_append]; exact o2, h2.trans k2 (fun x hx => Or.inr (h3 x hx)), fun k hk => ?_, fun r hr => ?_⟩
  · rcases b2 k hk with h4 | h4
    · exact h3 k h4
    · have := h2.size
      omega
  · have hx := (List.mem_append.1 hr).elim (h4 r) (fun e => by rw [List.mem_singleton.1 e]; exact hp')
    exact hx.keep k2 (hx.apart h1)

end Go.Proofs.Ytpkppobkagdhkaa
