/-
  Lists of elements as the laws hold them: slices of structs of four cells (Rs: one that is only read).
-/
import Derived.Test.YtfobbgmfbpoigaaLc
import Derived.Test.YtfobbgmfbpoigaaRow
namespace Go.Proofs.Ytfobbgmfbpoigaa.Ints
open Go.RowKit
set_option linter.unusedSimpArgs false

/-- Elements, cell by cell. -/
def cz : List It → List Value
  | [] => []
  | x :: l => .int .i64 x.1 :: .int .i64 x.2.1 :: .string x.2.2 :: .slice none 0 0 :: cz l

theorem cz_len : ∀ l : List It, (cz l).length = l.length * 4
  | [] => rfl
  | x :: l => by
    simp only [cz, List.length_cons, cz_len l]
    omega

theorem cz_append : ∀ l m : List It, cz (l ++ m) = cz l ++ cz m
  | [], m => rfl
  | x :: l, m => by simp only [List.cons_append, cz, cz_append l m]

theorem cz_at : ∀ (l : List It) (j : Nat) (h : j < l.length), (cz l)[j * 4]? = some (.int .i64 l[j].1) ∧ (cz l)[j * 4 + 1]? = some (.int .i64 l[j].2.1) ∧ (cz l)[j * 4 + 2]? = some (.string l[j].2.2) ∧ (cz l)[j * 4 + 3]? = some (.slice none 0 0)
  | x :: l, 0, _ => ⟨rfl, rfl, rfl, rfl⟩
  | x :: l, j + 1, h => by
    have := cz_at l j (by simpa using h)
    rw [show (j + 1) * 4 = j * 4 + 1 + 1 + 1 + 1 by omega]
    simp only [cz, List.getElem?_cons_succ, List.getElem_cons_succ]
    exact this

theorem cz_one : ∀ (l : List It) u, u ∈ cz l → u.oneCell' = true
  | [], u, h => by simp [cz] at h
  | x :: l, u, h => by
    simp only [cz, List.mem_cons] at h
    rcases h with rfl | rfl | rfl | rfl | h
    · rfl
    · rfl
    · rfl
    · rfl
    · exact cz_one l u h

theorem cz_take (l : List It) (k : Nat) (j : Nat) (h : j < k * 4) : (cz (l.take k))[j]? = (cz l)[j]? := by
  have e1 : cz l = cz (l.take k) ++ cz (l.drop k) := by rw [← cz_append, List.take_append_drop]
  by_cases hk : k ≤ l.length
  · rw [e1, List.getElem?_append_left (by rw [cz_len]; simp; omega)]
  · rw [List.take_of_length_le (by omega)]

theorem cz_drop (l : List It) (k : Nat) (j : Nat) (hk : k ≤ l.length) : (cz (l.drop k))[j]? = (cz l)[k * 4 + j]? := by
  have e1 : cz l = cz (l.take k) ++ cz (l.drop k) := by rw [← cz_append, List.take_append_drop]
  have e2 : (cz (l.take k)).length = k * 4 := by rw [cz_len]; simp; omega
  rw [e1, List.getElem?_append_right (by omega), e2]
  congr 1
  omega

/-- The slice of n elements from ao on, with room for c, reads as zs. -/
structure Rs (w : World) (ao : Option Addr) (n c : Nat) (zs : List It) : Prop where
  len : n = zs.length
  cap : n ≤ c
  at' : (ao = none ∧ n = 0 ∧ c = 0) ∨ ∃ b off cur, ao = some ⟨b, off, none⟩ ∧ w.heap[b]? = some (Obj.cells cur 51 (0, 0)) ∧ ∀ j, j < n * 4 → cur[off + j]? = (cz zs)[j]?

theorem Rs.nil (w : World) : Rs w none 0 0 [] := ⟨rfl, Nat.le_refl _, Or.inl ⟨rfl, rfl, rfl⟩⟩

theorem Rs.ev {w0 w w' : World} {ao : Option Addr} {n c : Nat} {zs : List It} (h : Rs w ao n c zs) (k : Ev w0 w w') : Rs w' ao n c zs := by
  refine ⟨h.len, h.cap, ?_⟩
  rcases h.at' with h1 | ⟨b, off, cur, h1, h2, h3⟩
  · exact Or.inl h1
  · exact Or.inr ⟨b, off, cur, h1, k.cells _ _ _ h2 not_pil_item, h3⟩

theorem Rs.kept {w w' : World} {ao : Option Addr} {n c : Nat} {zs : List It} (h : Rs w ao n c zs) (k : Kp [] w w') : Rs w' ao n c zs := h.ev (Ev.of_kp (w0 := w) k)

theorem Rs.of_own {w : World} {ao : Option Addr} {n m c : Nat} {zs : List It} (h : OwnK 4 w 51 (.slice ao n c) m (cz zs)) : Rs w ao n c zs := by
  obtain ⟨h0, h⟩ := h
  rw [cz_len] at h0
  rcases h with ⟨h1, h2⟩ | ⟨g, o, cap, cur, hv, hg, h1, h2, h3, h4⟩
  · simp only [Value.slice.injEq] at h1
    obtain ⟨rfl, rfl, rfl⟩ := h1
    exact ⟨by omega, Nat.le_refl _, Or.inl ⟨rfl, rfl, rfl⟩⟩
  · simp only [Value.slice.injEq] at hv
    obtain ⟨rfl, rfl, rfl⟩ := hv
    exact ⟨by omega, h1, Or.inr ⟨g, o, cur, rfl, hg, h4⟩⟩

/-- What stands at a place. -/
theorem Rs.get {w : World} {ao : Option Addr} {n c : Nat} {zs : List It} (h : Rs w ao n c zs) (k : Nat) (hk : k < zs.length) :
    ∃ b off, ao = some ⟨b, off, none⟩ ∧ w.cell? ⟨b, off + k * 4, none⟩ = some (.int .i64 zs[k].1) ∧ w.cell? ⟨b, off + k * 4 + 1, none⟩ = some (.int .i64 zs[k].2.1) ∧ w.cell? ⟨b, off + k * 4 + 2, none⟩ = some (.string zs[k].2.2) ∧ w.cell? ⟨b, off + k * 4 + 3, none⟩ = some (.slice none 0 0) := by
  have hl := h.len
  rcases h.at' with ⟨_, h1, _⟩ | ⟨b, off, cur, h1, h2, h3⟩
  · omega
  · obtain ⟨a0, a1, a2, a3⟩ := cz_at zs k hk
    refine ⟨b, off, h1, ?_, ?_, ?_, ?_⟩
    · rw [cell_of h2, h3 _ (by omega), a0]
    · rw [cell_of h2, Nat.add_assoc, h3 _ (by omega), a1]
    · rw [cell_of h2, Nat.add_assoc, h3 _ (by omega), a2]
    · rw [cell_of h2, Nat.add_assoc, h3 _ (by omega), a3]

/-- It may be appended. -/
theorem Rs.src {w : World} {ao : Option Addr} {n c : Nat} {zs : List It} (h : Rs w ao n c zs) : Src Try.prog 4 47 (.slice ao n c) n (cz zs) w := by
  have hl := h.len
  rcases h.at' with ⟨rfl, rfl, _⟩ | ⟨b, off, cur, rfl, h2, h3⟩
  · obtain rfl : zs = [] := List.eq_nil_of_length_eq_zero hl.symm
    exact Src.ofNil w Try.underlying47 c
  · refine Src.ofSlice w Try.underlying47 _ n c (cz zs) (by rw [cz_len, hl]) (fun j u hj => ?_) (cz_one zs)
    have hjl := (List.getElem?_eq_some_iff.1 hj).1
    rw [cz_len] at hjl
    rw [Addr.add_lit, cell_of h2, h3 j (by omega)]
    exact hj

/-- The first ones. -/
theorem Rs.take {w : World} {ao : Option Addr} {n c : Nat} {zs : List It} (h : Rs w ao n c zs) (k : Nat) (hk : k ≤ n) : Rs w ao k c (zs.take k) := by
  have hl := h.len
  refine ⟨by simp; omega, by have := h.cap; omega, ?_⟩
  rcases h.at' with ⟨h1, h2, h4⟩ | ⟨b, off, cur, h1, h2, h3⟩
  · exact Or.inl ⟨h1, by omega, h4⟩
  · exact Or.inr ⟨b, off, cur, h1, h2, fun j hj => by rw [h3 j (by omega), cz_take zs k j hj]⟩

/-- The ones from k on, of some. -/
theorem Rs.drop {w : World} {b off n c : Nat} {zs : List It} (h : Rs w (some ⟨b, off, none⟩) n c zs) (k : Nat) (hk : k ≤ n) (ao : Option Addr) (hao : ao = if c = k then some ⟨b, off, none⟩ else some ⟨b, off + k * 4, none⟩) : Rs w ao (n - k) (c - k) (zs.drop k) := by
  have hl := h.len
  have hc := h.cap
  refine ⟨by simp; omega, by omega, ?_⟩
  rcases h.at' with ⟨h1, _⟩ | ⟨b', off', cur, h1, h2, h3⟩
  · cases h1
  · simp only [Option.some.injEq, Addr.mk.injEq] at h1
    obtain ⟨rfl, rfl, _⟩ := h1
    by_cases he : c = k
    · rw [if_pos he] at hao
      exact Or.inr ⟨b, off, cur, hao, h2, fun j hj => by omega⟩
    · rw [if_neg he] at hao
      exact Or.inr ⟨b, off + k * 4, cur, hao, h2, fun j hj => by rw [Nat.add_assoc, h3 _ (by omega), cz_drop zs k j (by omega)]⟩

theorem infoI : (Try.prog.info? 51).map (fun i => (i.zero, i.size, i.bytes)) = some (some (iv z0), 4, 56) := by kernel_rfl

/-- A list that a call made. -/
def Ms (w w' : World) (ao : Option Addr) (n c : Nat) (zs : List It) : Prop := OwnK 4 w' 51 (.slice ao n c) n (cz zs) ∧ Kp [] w w' ∧ ∀ k, k ∈ blk (.slice ao n c) → w.heap.size ≤ k

theorem Ms.rs {w w' : World} {ao : Option Addr} {n c : Nat} {zs : List It} (h : Ms w w' ao n c zs) : Rs w' ao n c zs := Rs.of_own h.1

theorem Ms.len {w w' : World} {ao : Option Addr} {n c : Nat} {zs : List It} (h : Ms w w' ao n c zs) : n = zs.length := by
  have := h.1.1
  rw [cz_len] at this
  omega

theorem Ms.kept {w w1 w2 : World} {ao : Option Addr} {n c : Nat} {zs : List It} (h : Ms w w1 ao n c zs) (k : Kp [] w1 w2) : Ms w w2 ao n c zs :=
  ⟨h.1.keep k (fun _ _ => by simp), h.2.1.trans k (fun x hx => by simp at hx), h.2.2⟩

theorem Ms.nil (w : World) : Ms w w none 0 0 [] := ⟨⟨rfl, Or.inl ⟨rfl, rfl⟩⟩, Kp.refl _ _, fun k hk => by simp [blk] at hk⟩

/-- []item{} -/
theorem Ms.empty (w : World) : Ms w (w.alloc (.cells #[] 51)) (some ⟨w.heap.size, 0, none⟩) 0 0 [] :=
  ⟨ownK_new 4 w 51 #[] [] 0 0 rfl (Nat.le_refl _) (by unfold maxLen; omega) (by simp) (fun j hj => by omega), (Kp.refl _ _).alloc _, fun k hk => by simp [blk] at hk; omega⟩

/-- More of them behind it. -/
theorem Ms.app {w w1 : World} {ao : Option Addr} {n c : Nat} {zs : List It} (h : Ms w w1 ao n c zs) {src : Value} {m : Nat} {ys : List It} (hs : Src Try.prog 4 47 src m (cz ys) w1) (hm : ao = none → 0 < m) (hlen : n + m ≤ 1000000) :
    ∃ ao' n' c' w2, (∀ ty, (Builtin.append_ #[47, 47] ty #[.slice ao n c, src]).run Try.prog w1 = .ok (.slice ao' n' c') w2) ∧ Ms w w2 ao' n' c' (zs ++ ys) ∧ (∃ a, ao' = some a) ∧ n' = n + m ∧ Kp (blk (.slice ao n c)) w1 w2 := by
  obtain ⟨h1, h2, h3⟩ := h
  obtain ⟨v', w2, hrun, o2, k2, b2, a2, c2, rfl⟩ := appK Try.underlying47 infoI rfl (by decide) w1 _ _ _ h1 src m (cz ys) hs (fun hv => by simp only [Value.slice.injEq] at hv; exact hm hv.1) hlen
  refine ⟨_, _, _, w2, hrun, ⟨by rw [cz_append]; exact o2, h2.trans k2 (fun x hx => Or.inr (h3 x hx)), fun k hk => ?_⟩, ⟨_, rfl⟩, rfl, k2⟩
  rcases b2 k hk with h4 | h4
  · exact h3 k h4
  · have := h2.size
    omega

/-- A literal of one. -/
theorem Ms.lit (w : World) (x : It) : Ms w (w.alloc (.cells (ic x) 51)) (some ⟨w.heap.size, 0, none⟩) 1 1 [x] :=
  ⟨ownK_new 4 w 51 (ic x) (cz [x]) 1 1 rfl (Nat.le_refl _) (by unfold maxLen; omega) (by simp [ic]) (fun j hj => by simp [ic, cz]), (Kp.refl _ _).alloc _, fun k hk => by simp [blk] at hk; omega⟩

end Go.Proofs.Ytfobbgmfbpoigaa.Ints
