/-
  Slices of tokens: what one that is read holds (Rq), and one that a call made (Mq); append onto it.
-/
import Derived.Test.YtcfaejbbjmjgpaaGreatDoorGroundE
namespace Go.Proofs.YtcfaejbbjmjgpaaGreatDoor
open Go.RowKit

/-- A token, and where its attributes lie. -/
abbrev Q := Tok × Option Addr × Nat × Nat

/-- Its value. -/
def qv (p : Q) : Value := tv p.1.1 p.1.2.1 p.2.1 p.2.2.1 p.2.2.2 p.1.2.2.2.1 p.1.2.2.2.2

/-- Tokens, cell by cell. -/
def qs : List Q → List Value
  | [] => []
  | p :: l => .int .i64 p.1.1 :: .string p.1.2.1 :: .slice p.2.1 p.2.2.1 p.2.2.2 :: .bool p.1.2.2.2.1 :: .string p.1.2.2.2.2 :: qs l

theorem qs_len : ∀ l : List Q, (qs l).length = l.length * 5
  | [] => rfl
  | a :: l => by
    simp only [qs, List.length_cons, qs_len l]
    omega

theorem qs_append : ∀ l m : List Q, qs (l ++ m) = qs l ++ qs m
  | [], m => rfl
  | a :: l, m => by simp only [List.cons_append, qs, qs_append l m]

theorem qs_shift (a : Q) (l : List Q) (m : Nat) : (qs (a :: l))[m + 5]? = (qs l)[m]? := rfl

theorem qs_at : ∀ (l : List Q) (j : Nat) (h : j < l.length), (qs l)[j * 5]? = some (.int .i64 l[j].1.1) ∧ (qs l)[j * 5 + 1]? = some (.string l[j].1.2.1) ∧ (qs l)[j * 5 + 2]? = some (.slice l[j].2.1 l[j].2.2.1 l[j].2.2.2) ∧ (qs l)[j * 5 + 3]? = some (.bool l[j].1.2.2.2.1) ∧ (qs l)[j * 5 + 4]? = some (.string l[j].1.2.2.2.2)
  | a :: l, 0, _ => ⟨rfl, rfl, rfl, rfl, rfl⟩
  | a :: l, j + 1, h => by
    obtain ⟨h0, h1, h2, h3, h4⟩ := qs_at l j (by simpa using h)
    refine ⟨?_, ?_, ?_, ?_, ?_⟩
    · rw [show (j + 1) * 5 = j * 5 + 5 by omega, qs_shift, h0]; rfl
    · rw [show (j + 1) * 5 + 1 = j * 5 + 1 + 5 by omega, qs_shift, h1]; rfl
    · rw [show (j + 1) * 5 + 2 = j * 5 + 2 + 5 by omega, qs_shift, h2]; rfl
    · rw [show (j + 1) * 5 + 3 = j * 5 + 3 + 5 by omega, qs_shift, h3]; rfl
    · rw [show (j + 1) * 5 + 4 = j * 5 + 4 + 5 by omega, qs_shift, h4]; rfl

theorem qs_one : ∀ (l : List Q) u, u ∈ qs l → u.oneCell' = true
  | [], u, h => by simp [qs] at h
  | a :: l, u, h => by
    simp only [qs, List.mem_cons] at h
    rcases h with rfl | rfl | rfl | rfl | rfl | h
    · rfl
    · rfl
    · rfl
    · rfl
    · rfl
    · exact qs_one l u h

/-- The slice of n tokens from ao on, with room for c, reads as q. -/
structure Rq (w : World) (ao : Option Addr) (n c : Nat) (q : List Q) : Prop where
  len : n = q.length
  cap : n ≤ c
  at' : ∀ j, j < n * 5 → ∃ b off, ao = some ⟨b, off, none⟩ ∧ w.cell? ⟨b, off + j, none⟩ = (qs q)[j]?

theorem Rq.of_own {w : World} {e : TypeId} {ao : Option Addr} {n m c : Nat} {q : List Q} (h : OwnK 5 w e (.slice ao n c) m (qs q)) : Rq w ao n c q := by
  obtain ⟨h0, h⟩ := h
  rw [qs_len] at h0
  have hm : m = q.length := by omega
  rcases h with ⟨h1, h2⟩ | ⟨g, o, cap, cur, hv, hg, h1, h2, h3, h4⟩
  · simp only [Value.slice.injEq] at h1
    obtain ⟨rfl, rfl, rfl⟩ := h1
    exact ⟨by omega, Nat.le_refl _, fun j hj => by omega⟩
  · simp only [Value.slice.injEq] at hv
    obtain ⟨rfl, rfl, rfl⟩ := hv
    exact ⟨hm, h1, fun j hj => ⟨g, o, rfl, by rw [cell_of hg, h4 j hj]⟩⟩

theorem Rq.keep {w w' : World} {ao : Option Addr} {n c : Nat} {q : List Q} (h : Rq w ao n c q) (hs : ∀ a, (∃ u, w.cell? a = some u) → w'.cell? a = w.cell? a) : Rq w' ao n c q := by
  refine ⟨h.len, h.cap, fun j hj => ?_⟩
  obtain ⟨b, off, h1, h2⟩ := h.at' j hj
  exact ⟨b, off, h1, by rw [hs _ ⟨_, h2.trans (List.getElem?_eq_getElem (by rw [qs_len]; have := h.len; omega))⟩]; exact h2⟩

theorem Rq.kept {w w' : World} {ao : Option Addr} {n c : Nat} {q : List Q} (h : Rq w ao n c q) (k : Kp [] w w') : Rq w' ao n c q :=
  h.keep (fun a ha => by
    obtain ⟨u, hu⟩ := ha
    exact k.cell (block_lt_of_cell hu) (by simp))

/-- What stands at a place. -/
theorem Rq.get {w : World} {ao : Option Addr} {n c : Nat} {q : List Q} (h : Rq w ao n c q) (k : Nat) (hk : k < q.length) :
    ∃ b off, ao = some ⟨b, off, none⟩ ∧ w.cell? ⟨b, off + k * 5, none⟩ = some (.int .i64 q[k].1.1) ∧ w.cell? ⟨b, off + k * 5 + 1, none⟩ = some (.string q[k].1.2.1) ∧ w.cell? ⟨b, off + k * 5 + 2, none⟩ = some (.slice q[k].2.1 q[k].2.2.1 q[k].2.2.2) ∧ w.cell? ⟨b, off + k * 5 + 3, none⟩ = some (.bool q[k].1.2.2.2.1) ∧ w.cell? ⟨b, off + k * 5 + 4, none⟩ = some (.string q[k].1.2.2.2.2) := by
  have hl := h.len
  obtain ⟨b, off, h1, h2⟩ := h.at' (k * 5) (by omega)
  have key : ∀ i, i < 5 → w.cell? ⟨b, off + k * 5 + i, none⟩ = (qs q)[k * 5 + i]? := fun i hi => by
    obtain ⟨b', off', h3, h4⟩ := h.at' (k * 5 + i) (by omega)
    rw [h1] at h3
    simp only [Option.some.injEq, Addr.mk.injEq] at h3
    obtain ⟨rfl, rfl, _⟩ := h3
    rw [Nat.add_assoc, h4]
  obtain ⟨e0, e1, e2, e3, e4⟩ := qs_at q k hk
  exact ⟨b, off, h1, by rw [h2, e0], by rw [key 1 (by omega), e1], by rw [key 2 (by omega), e2], by rw [key 3 (by omega), e3], by rw [key 4 (by omega), e4]⟩

/-- Its attributes can be read. -/
def Aq (w : World) (p : Q) : Prop := Rp w p.2.1 p.2.2.1 p.2.2.2 p.1.2.2.1

theorem Aq.kept {w w' : World} {p : Q} (h : Aq w p) (k : Kp [] w w') : Aq w' p := Rp.kept h k

/-- Its attributes lie in a block of attributes. -/
def Ar (w : World) (p : Q) : Prop := OwnK 2 w 73 (.slice p.2.1 p.2.2.1 p.2.2.2) p.2.2.1 (cs p.1.2.2.1)

theorem Ar.rp {w : World} {p : Q} (h : Ar w p) : Aq w p := Rp.of_own h

theorem Ar.keep {w w' : World} {S : List Nat} {p : Q} (h : Ar w p) (k : Kp S w w') (hn : ∀ x, x ∈ blk (.slice p.2.1 p.2.2.1 p.2.2.2) → x ∉ S) : Ar w' p := OwnK.keep h k hn

/-- No block of tokens holds them. -/
theorem Ar.apart {w : World} {p : Q} {u : Value} {n : Nat} {xs : List Value} (h : Ar w p) (ho : OwnK 5 w 44 u n xs) : ∀ x, x ∈ blk (.slice p.2.1 p.2.2.1 p.2.2.2) → x ∉ blk u := by
  intro x hx hu
  obtain ⟨_, h1⟩ := h
  rcases h1 with ⟨e, _⟩ | ⟨g, o, cap, cur, e, hg, _⟩
  · rw [e] at hx
    simp [blk] at hx
  · rw [e] at hx
    obtain ⟨_, ho⟩ := ho
    rcases ho with ⟨rfl, _⟩ | ⟨g', o', cap', cur', rfl, hg', _⟩
    · simp [blk] at hu
    · simp [blk] at hx hu
      subst hx
      subst hu
      rw [hg] at hg'
      simp at hg'

/-- A slice of tokens that a call made: it holds q, in blocks that are new since w, with attributes in blocks of their own. -/
def Mq (w w' : World) (ao : Option Addr) (n c : Nat) (q : List Q) : Prop := OwnK 5 w' 44 (.slice ao n c) n (qs q) ∧ Kp [] w w' ∧ (∀ k, k ∈ blk (.slice ao n c) → w.heap.size ≤ k) ∧ ∀ p, p ∈ q → Ar w' p

theorem Mq.nil (w : World) : Mq w w none 0 0 [] := ⟨⟨rfl, Or.inl ⟨rfl, rfl⟩⟩, Kp.refl _ _, fun k hk => by simp [blk] at hk, fun p hp => by simp at hp⟩

theorem Mq.len {w w' : World} {ao : Option Addr} {n c : Nat} {q : List Q} (h : Mq w w' ao n c q) : n = q.length := by
  have := h.1.1
  rw [qs_len] at this
  omega

theorem Mq.rq {w w' : World} {ao : Option Addr} {n c : Nat} {q : List Q} (h : Mq w w' ao n c q) : Rq w' ao n c q := Rq.of_own h.1

theorem Mq.kp {w w' : World} {ao : Option Addr} {n c : Nat} {q : List Q} (h : Mq w w' ao n c q) : Kp [] w w' := h.2.1

theorem Mq.ar {w w' : World} {ao : Option Addr} {n c : Nat} {q : List Q} (h : Mq w w' ao n c q) : ∀ p, p ∈ q → Ar w' p := h.2.2.2

/-- What a call changes in no block that was there is kept. -/
theorem Mq.kept {w w1 w2 : World} {ao : Option Addr} {n c : Nat} {q : List Q} (h : Mq w w1 ao n c q) (k : Kp [] w1 w2) : Mq w w2 ao n c q :=
  ⟨h.1.keep k (fun _ _ => by simp), h.2.1.trans k (fun x hx => by simp at hx), h.2.2.1, fun p hp => (h.2.2.2 p hp).keep k (fun _ _ => by simp)⟩

theorem info24 : (Tryz.prog.info? 44).map (fun i => (i.zero, i.size, i.bytes)) = some (some (.agg #[.int .i64 0, .string ⟨#[]⟩, .slice none 0 0, .bool false, .string ⟨#[]⟩]), 5, 72) := by kernel_rfl

/-- A slice of one, laid. -/
theorem src_tok {w : World} {g : Nat} {p : Q} (hg : w.heap[g]? = some (.cells #[.int .i64 p.1.1, .string p.1.2.1, .slice p.2.1 p.2.2.1 p.2.2.2, .bool p.1.2.2.2.1, .string p.1.2.2.2.2] 44)) : Src Tryz.prog 5 49 (.slice (some ⟨g, 0, none⟩) 1 1) 1 (qs [p]) w := by
  refine Src.ofSlice w Tryz.underlying49 ⟨g, 0, none⟩ 1 1 (qs [p]) rfl (fun j u hj => ?_) (qs_one [p])
  rw [Addr.add_lit, cell_of hg, Nat.zero_add]
  rw [← hj, ← List.getElem?_toArray]
  rfl

/-- append of one, as a call makes it: its slice of one is built ahead of it. -/
theorem Mq.one {w w1 : World} {ao : Option Addr} {n c : Nat} {q : List Q} (h : Mq w w1 ao n c q) (p : Q) (hp : Ar w1 p) (hlen : n + 1 ≤ 1000000) :
    ∃ ao' n' c' w2, (∀ ty, (Builtin.append_ #[49, 49] ty #[.slice ao n c, .slice (some ⟨w1.heap.size, 0, none⟩) 1 1]).run Tryz.prog (w1.alloc (.cells #[.int .i64 p.1.1, .string p.1.2.1, .slice p.2.1 p.2.2.1 p.2.2.2, .bool p.1.2.2.2.1, .string p.1.2.2.2.2] 44)) = .ok (.slice ao' n' c') w2) ∧ Mq w w2 ao' n' c' (q ++ [p]) := by
  have k1 : Kp [] w1 (w1.alloc (.cells #[.int .i64 p.1.1, .string p.1.2.1, .slice p.2.1 p.2.2.1 p.2.2.2, .bool p.1.2.2.2.1, .string p.1.2.2.2.2] 44)) := (Kp.refl _ _).alloc _
  have hs := src_tok (p := p) (heap_new w1 _)
  have hp' := hp.keep k1 (fun _ _ => by simp)
  obtain ⟨h1, h2, h3, h4⟩ := h.kept k1
  obtain ⟨v', w2, hrun, o2, k2, b2, a2, c2, rfl⟩ := appK Tryz.underlying49 info24 rfl (by decide) _ _ _ _ h1 _ 1 (qs [p]) hs (fun _ => by omega) hlen
  refine ⟨_, _, _, w2, hrun, by rw [qs_append]; exact o2, h2.trans k2 (fun x hx => Or.inr (h3 x hx)), fun k hk => ?_, fun r hr => ?_⟩
  · rcases b2 k hk with h4 | h4
    · exact h3 k h4
    · have := h2.size
      omega
  · have hx := (List.mem_append.1 hr).elim (h4 r) (fun e => by rw [List.mem_singleton.1 e]; exact hp')
    exact hx.keep k2 (hx.apart h1)

end Go.Proofs.YtcfaejbbjmjgpaaGreatDoor
