/-
  Lists of entries as the laws hold them: slices of structs of four cells (Rs: one that is only read; Ls: and the entries that its cells hold); same of the laws.
-/
import Derived.Test.YtadcpkdnpfmphaaLf
namespace Go.Proofs.Ytadcpkdnpfmphaa.Ints
open Go.RowKit
set_option linter.unusedSimpArgs false
set_option linter.unusedVariables false

/-- Entries, cell by cell. -/
def cz : List Raw → List Value
  | [] => []
  | r :: l => .bool r.1 :: .int .i64 r.2.1 :: .string r.2.2.1 :: .slice r.2.2.2.1 r.2.2.2.2.1 r.2.2.2.2.2 :: cz l

theorem cz_len : ∀ l : List Raw, (cz l).length = l.length * 4
  | [] => rfl
  | x :: l => by
    simp only [cz, List.length_cons, cz_len l]
    omega

theorem cz_append : ∀ l m : List Raw, cz (l ++ m) = cz l ++ cz m
  | [], m => rfl
  | x :: l, m => by simp only [List.cons_append, cz, cz_append l m]

theorem cz_at : ∀ (l : List Raw) (j : Nat) (h : j < l.length), (cz l)[j * 4]? = some (.bool l[j].1) ∧ (cz l)[j * 4 + 1]? = some (.int .i64 l[j].2.1) ∧ (cz l)[j * 4 + 2]? = some (.string l[j].2.2.1) ∧ (cz l)[j * 4 + 3]? = some (.slice l[j].2.2.2.1 l[j].2.2.2.2.1 l[j].2.2.2.2.2)
  | x :: l, 0, _ => ⟨rfl, rfl, rfl, rfl⟩
  | x :: l, j + 1, h => by
    have := cz_at l j (by simpa using h)
    rw [show (j + 1) * 4 = j * 4 + 1 + 1 + 1 + 1 by omega]
    simp only [cz, List.getElem?_cons_succ, List.getElem_cons_succ]
    exact this

theorem cz_one : ∀ (l : List Raw) u, u ∈ cz l → u.oneCell' = true
  | [], u, h => by simp [cz] at h
  | x :: l, u, h => by
    simp only [cz, List.mem_cons] at h
    rcases h with rfl | rfl | rfl | rfl | h
    · rfl
    · rfl
    · rfl
    · rfl
    · exact cz_one l u h

theorem cz_take (l : List Raw) (k : Nat) (j : Nat) (h : j < k * 4) : (cz (l.take k))[j]? = (cz l)[j]? := by
  have e1 : cz l = cz (l.take k) ++ cz (l.drop k) := by rw [← cz_append, List.take_append_drop]
  by_cases hk : k ≤ l.length
  · rw [e1, List.getElem?_append_left (by rw [cz_len]; simp; omega)]
  · rw [List.take_of_length_le (by omega)]

theorem cz_drop (l : List Raw) (k : Nat) (j : Nat) (hk : k ≤ l.length) : (cz (l.drop k))[j]? = (cz l)[k * 4 + j]? := by
  have e1 : cz l = cz (l.take k) ++ cz (l.drop k) := by rw [← cz_append, List.take_append_drop]
  have e2 : (cz (l.take k)).length = k * 4 := by rw [cz_len]; simp; omega
  rw [e1, List.getElem?_append_right (by omega), e2]
  congr 1
  omega

/-- The slice of n entries from ao on, with room for c, reads as these cells. -/
structure Rs (w : World) (ao : Option Addr) (n c : Nat) (zs : List Raw) : Prop where
  len : n = zs.length
  cap : n ≤ c
  at' : (ao = none ∧ n = 0 ∧ c = 0) ∨ ∃ b off cur, ao = some ⟨b, off, none⟩ ∧ w.heap[b]? = some (Obj.cells cur 40 (0, 0)) ∧ ∀ j, j < n * 4 → cur[off + j]? = (cz zs)[j]?

/-- It is in none of these blocks. -/
def Off (B : List Nat) (ao : Option Addr) : Prop := ∀ a, ao = some a → a.block ∉ B

theorem Rs.nil (w : World) : Rs w none 0 0 [] := ⟨rfl, Nat.le_refl _, Or.inl ⟨rfl, rfl, rfl⟩⟩

theorem Rs.ev {w0 w w' : World} {B : List Nat} {ao : Option Addr} {n c : Nat} {zs : List Raw} (h : Rs w ao n c zs) (k : Ev w0 B w w') (hB : Off B ao) : Rs w' ao n c zs := by
  refine ⟨h.len, h.cap, ?_⟩
  rcases h.at' with h1 | ⟨b, off, cur, h1, h2, h3⟩
  · exact Or.inl h1
  · exact Or.inr ⟨b, off, cur, h1, k.cells _ _ _ h2 not_pil_item (fun _ => hB _ h1), h3⟩

theorem off_nil (ao : Option Addr) : Off [] ao := fun _ _ => by simp

theorem Rs.kept {w w' : World} {ao : Option Addr} {n c : Nat} {zs : List Raw} (h : Rs w ao n c zs) (k : Kp [] w w') : Rs w' ao n c zs := h.ev (Ev.of_kp (w0 := w) (B := []) k) (off_nil _)

theorem Rs.of_own {w : World} {ao : Option Addr} {n m c : Nat} {zs : List Raw} (h : OwnK 4 w 40 (.slice ao n c) m (cz zs)) : Rs w ao n c zs := by
  obtain ⟨h0, h⟩ := h
  rw [cz_len] at h0
  rcases h with ⟨h1, h2⟩ | ⟨g, o, cap, cur, hv, hg, h1, h2, h3, h4⟩
  · simp only [Value.slice.injEq] at h1
    obtain ⟨rfl, rfl, rfl⟩ := h1
    exact ⟨by omega, Nat.le_refl _, Or.inl ⟨rfl, rfl, rfl⟩⟩
  · simp only [Value.slice.injEq] at hv
    obtain ⟨rfl, rfl, rfl⟩ := hv
    exact ⟨by omega, h1, Or.inr ⟨g, o, cur, rfl, hg, h4⟩⟩

/-- What stands at a place. -/
theorem Rs.get {w : World} {ao : Option Addr} {n c : Nat} {zs : List Raw} (h : Rs w ao n c zs) (k : Nat) (hk : k < zs.length) :
    ∃ b off, ao = some ⟨b, off, none⟩ ∧ w.cell? ⟨b, off + k * 4, none⟩ = some (.bool zs[k].1) ∧ w.cell? ⟨b, off + k * 4 + 1, none⟩ = some (.int .i64 zs[k].2.1) ∧ w.cell? ⟨b, off + k * 4 + 2, none⟩ = some (.string zs[k].2.2.1) ∧ w.cell? ⟨b, off + k * 4 + 3, none⟩ = some (.slice zs[k].2.2.2.1 zs[k].2.2.2.2.1 zs[k].2.2.2.2.2) := by
  have hl := h.len
  rcases h.at' with ⟨_, h1, _⟩ | ⟨b, off, cur, h1, h2, h3⟩
  · omega
  · obtain ⟨a0, a1, a2, a3⟩ := cz_at zs k hk
    refine ⟨b, off, h1, ?_, ?_, ?_, ?_⟩
    · rw [cell_of h2, h3 _ (by omega), a0]
    · rw [cell_of h2, Nat.add_assoc, h3 _ (by omega), a1]
    · rw [cell_of h2, Nat.add_assoc, h3 _ (by omega), a2]
    · rw [cell_of h2, Nat.add_assoc, h3 _ (by omega), a3]

/-- It may be appended. -/
theorem Rs.src {w : World} {ao : Option Addr} {n c : Nat} {zs : List Raw} (h : Rs w ao n c zs) : Src Try.prog 4 24 (.slice ao n c) n (cz zs) w := by
  have hl := h.len
  rcases h.at' with ⟨rfl, rfl, _⟩ | ⟨b, off, cur, rfl, h2, h3⟩
  · obtain rfl : zs = [] := List.eq_nil_of_length_eq_zero hl.symm
    exact Src.ofNil w Try.underlying24 c
  · refine Src.ofSlice w Try.underlying24 _ n c (cz zs) (by rw [cz_len, hl]) (fun j u hj => ?_) (cz_one zs)
    have hjl := (List.getElem?_eq_some_iff.1 hj).1
    rw [cz_len] at hjl
    rw [Addr.add_lit, cell_of h2, h3 j (by omega)]
    exact hj

/-- The first ones. -/
theorem Rs.take {w : World} {ao : Option Addr} {n c : Nat} {zs : List Raw} (h : Rs w ao n c zs) (k : Nat) (hk : k ≤ n) : Rs w ao k c (zs.take k) := by
  have hl := h.len
  refine ⟨by simp; omega, by have := h.cap; omega, ?_⟩
  rcases h.at' with ⟨h1, h2, h4⟩ | ⟨b, off, cur, h1, h2, h3⟩
  · exact Or.inl ⟨h1, by omega, h4⟩
  · exact Or.inr ⟨b, off, cur, h1, h2, fun j hj => by rw [h3 j (by omega), cz_take zs k j hj]⟩

/-- The ones from k on, of some. -/
theorem Rs.drop {w : World} {b off n c : Nat} {zs : List Raw} (h : Rs w (some ⟨b, off, none⟩) n c zs) (k : Nat) (hk : k ≤ n) (ao : Option Addr) (hao : ao = if c = k then some ⟨b, off, none⟩ else some ⟨b, off + k * 4, none⟩) : Rs w ao (n - k) (c - k) (zs.drop k) := by
  have hl := h.len
  have hc := h.cap
  refine ⟨by simp; omega, by omega, ?_⟩
  rcases h.at' with ⟨h1, _⟩ | ⟨b', off', cur, h1, h2, h3⟩
  · cases h1
  · simp only [Option.some.injEq, Addr.mk.injEq] at h1
    obtain ⟨rfl, rfl, _⟩ := h1
    by_cases he : c = k
    · rw [if_pos he] at hao
      exact Or.inr ⟨b, off, cur, hao, h2, fun j hj => by omega⟩
    · rw [if_neg he] at hao
      exact Or.inr ⟨b, off + k * 4, cur, hao, h2, fun j hj => by rw [Nat.add_assoc, h3 _ (by omega), cz_drop zs k j (by omega)]⟩

theorem infoI : (Try.prog.info? 40).map (fun i => (i.zero, i.size, i.bytes)) = some (some (rv r0), 4, 56) := by kernel_rfl

/-- A list that a call made. -/
def Ms (w w' : World) (ao : Option Addr) (n c : Nat) (zs : List Raw) : Prop := OwnK 4 w' 40 (.slice ao n c) n (cz zs) ∧ Kp [] w w' ∧ ∀ k, k ∈ blk (.slice ao n c) → w.heap.size ≤ k

theorem Ms.rs {w w' : World} {ao : Option Addr} {n c : Nat} {zs : List Raw} (h : Ms w w' ao n c zs) : Rs w' ao n c zs := Rs.of_own h.1

theorem Ms.len {w w' : World} {ao : Option Addr} {n c : Nat} {zs : List Raw} (h : Ms w w' ao n c zs) : n = zs.length := by
  have := h.1.1
  rw [cz_len] at this
  omega

theorem Ms.kept {w w1 w2 : World} {ao : Option Addr} {n c : Nat} {zs : List Raw} (h : Ms w w1 ao n c zs) (k : Kp [] w1 w2) : Ms w w2 ao n c zs :=
  ⟨h.1.keep k (fun _ _ => by simp), kt h.2.1 k, h.2.2⟩

theorem Ms.nil (w : World) : Ms w w none 0 0 [] := ⟨⟨rfl, Or.inl ⟨rfl, rfl⟩⟩, Kp.refl _ _, fun k hk => by simp [blk] at hk⟩

/-- []entry{} -/
theorem Ms.empty (w : World) : Ms w (w.alloc (.cells #[] 40)) (some ⟨w.heap.size, 0, none⟩) 0 0 [] :=
  ⟨ownK_new 4 w 40 #[] [] 0 0 rfl (Nat.le_refl _) (by unfold maxLen; omega) (by simp) (fun j hj => by omega), (Kp.refl _ _).alloc _, fun k hk => by simp [blk] at hk; omega⟩

/-- More of them behind it. -/
theorem Ms.app {w w1 : World} {ao : Option Addr} {n c : Nat} {zs : List Raw} (h : Ms w w1 ao n c zs) {src : Value} {m : Nat} {ys : List Raw} (hs : Src Try.prog 4 24 src m (cz ys) w1) (hm : ao = none → 0 < m) (hlen : n + m ≤ 1000000) :
    ∃ ao' n' c' w2, (∀ ty, (Builtin.append_ #[24, 24] ty #[.slice ao n c, src]).run Try.prog w1 = .ok (.slice ao' n' c') w2) ∧ Ms w w2 ao' n' c' (zs ++ ys) ∧ (∃ a, ao' = some a) ∧ n' = n + m ∧ Kp (blk (.slice ao n c)) w1 w2 := by
  obtain ⟨h1, h2, h3⟩ := h
  obtain ⟨v', w2, hrun, o2, k2, b2, a2, c2, rfl⟩ := appK Try.underlying24 infoI rfl (by decide) w1 _ _ _ h1 src m (cz ys) hs (fun hv => by simp only [Value.slice.injEq] at hv; exact hm hv.1) hlen
  refine ⟨_, _, _, w2, hrun, ⟨by rw [cz_append]; exact o2, h2.trans k2 (fun x hx => Or.inr (h3 x hx)), fun k hk => ?_⟩, ⟨_, rfl⟩, rfl, k2⟩
  rcases b2 k hk with h4 | h4
  · exact h3 k h4
  · have := h2.size
    omega

/-- It is in no block that was there. -/
theorem Ms.off {w w' : World} {ao : Option Addr} {n c : Nat} {zs : List Raw} (h : Ms w w' ao n c zs) (B : List Nat) (hB : ∀ k, k ∈ B → k < w.heap.size) : Off B ao := by
  intro a ha hm
  subst ha
  have h1 := h.1.2
  rcases h1 with ⟨h1, _⟩ | ⟨g, o, cap, cur, hv, _⟩
  · cases h1
  · simp only [Value.slice.injEq, Option.some.injEq] at hv
    obtain ⟨rfl, _, _⟩ := hv
    have := h.2.2 g (by simp [blk])
    have := hB g hm
    omega

/-- A literal of one. -/
theorem lit_rs {w : World} {g : Nat} {x : Raw} (h : w.heap[g]? = some (.cells (rc x) 40 (0, 0))) : Rs w (some ⟨g, 0, none⟩) 1 1 [x] :=
  ⟨rfl, Nat.le_refl _, Or.inr ⟨g, 0, rc x, rfl, h, fun j hj => by simp [rc, cz]⟩⟩

/-- These cells hold these entries. -/
def Sms (w : World) : List Raw → List Ent → Prop
  | [], [] => True
  | r :: rs, x :: zs => Sm w r x ∧ Sms w rs zs
  | _, _ => False

theorem Sms.len {w : World} : ∀ {rs : List Raw} {zs : List Ent}, Sms w rs zs → rs.length = zs.length
  | [], [], _ => rfl
  | [], x :: zs, h => h.elim
  | r :: rs, [], h => h.elim
  | r :: rs, x :: zs, h => by simp only [List.length_cons, Sms.len h.2]

theorem Sms.ev {w0 w w' : World} {B : List Nat} (k : Ev w0 B w w') : ∀ {rs : List Raw} {zs : List Ent}, Sms w rs zs → Sms w' rs zs
  | [], [], _ => trivial
  | [], x :: zs, h => h.elim
  | r :: rs, [], h => h.elim
  | r :: rs, x :: zs, h => ⟨h.1.ev k, Sms.ev k h.2⟩

theorem Sms.kept {w w' : World} {rs : List Raw} {zs : List Ent} (h : Sms w rs zs) (k : Kp [] w w') : Sms w' rs zs := Sms.ev (Ev.of_kp (w0 := w) (B := []) k) h

theorem Sms.get {w : World} : ∀ {rs : List Raw} {zs : List Ent}, Sms w rs zs → ∀ (k : Nat) (h1 : k < rs.length) (h2 : k < zs.length), Sm w rs[k] zs[k]
  | [], [], _, k, h1, _ => by simp at h1
  | [], x :: zs, h, _, _, _ => h.elim
  | r :: rs, [], h, _, _, _ => h.elim
  | r :: rs, x :: zs, h, 0, _, _ => h.1
  | r :: rs, x :: zs, h, k + 1, h1, h2 => by
    simp only [List.getElem_cons_succ]
    exact Sms.get h.2 k (by simpa using h1) (by simpa using h2)

theorem Sms.append {w : World} {qs : List Raw} {ys : List Ent} (h2 : Sms w qs ys) : ∀ {rs : List Raw} {zs : List Ent}, Sms w rs zs → Sms w (rs ++ qs) (zs ++ ys)
  | [], [], _ => h2
  | [], x :: zs, h => h.elim
  | r :: rs, [], h => h.elim
  | r :: rs, x :: zs, h => ⟨h.1, Sms.append h2 h.2⟩

theorem Sms.take {w : World} : ∀ {rs : List Raw} {zs : List Ent}, Sms w rs zs → ∀ k, Sms w (rs.take k) (zs.take k)
  | [], [], _, k => by simp [Sms]
  | [], x :: zs, h, _ => h.elim
  | r :: rs, [], h, _ => h.elim
  | r :: rs, x :: zs, h, 0 => trivial
  | r :: rs, x :: zs, h, k + 1 => ⟨h.1, Sms.take h.2 k⟩

theorem Sms.drop {w : World} : ∀ {rs : List Raw} {zs : List Ent}, Sms w rs zs → ∀ k, Sms w (rs.drop k) (zs.drop k)
  | [], [], _, k => by simp [Sms]
  | [], x :: zs, h, _ => h.elim
  | r :: rs, [], h, _ => h.elim
  | r :: rs, x :: zs, h, 0 => h
  | r :: rs, x :: zs, h, k + 1 => Sms.drop h.2 k

theorem Sms.one {w : World} {r : Raw} {x : Ent} (h : Sm w r x) : Sms w [r] [x] := ⟨h, trivial⟩

/-- A handle is another one. -/
theorem Sms.hand {w : World} (u : Int) : ∀ {rs : List Raw} {zs : List Ent}, Sms w rs zs → ∀ k, Sms w (rs.modify k (fun r => (r.1, u, r.2.2))) (zs.modify k (hnd u))
  | [], [], _, k => by simp [Sms]
  | [], x :: zs, h, _ => h.elim
  | r :: rs, [], h, _ => h.elim
  | r :: rs, x :: zs, h, 0 => ⟨⟨h.1.1, rfl, h.1.2.2.1, h.1.2.2.2.1, h.1.2.2.2.2⟩, h.2⟩
  | r :: rs, x :: zs, h, k + 1 => ⟨h.1, Sms.hand u h.2 k⟩

/-- The slice reads as these entries. -/
structure Ls (w : World) (ao : Option Addr) (n c : Nat) (rl : List Raw) (zs : List Ent) : Prop where
  rs : Rs w ao n c rl
  sm : Sms w rl zs

theorem Ls.len {w : World} {ao : Option Addr} {n c : Nat} {rs : List Raw} {zs : List Ent} (h : Ls w ao n c rs zs) : n = zs.length := h.rs.len.trans h.sm.len
theorem Ls.kept {w w' : World} {ao : Option Addr} {n c : Nat} {rs : List Raw} {zs : List Ent} (h : Ls w ao n c rs zs) (k : Kp [] w w') : Ls w' ao n c rs zs := ⟨h.rs.kept k, h.sm.kept k⟩
theorem Ls.ev {w0 w w' : World} {B : List Nat} {ao : Option Addr} {n c : Nat} {rs : List Raw} {zs : List Ent} (h : Ls w ao n c rs zs) (k : Ev w0 B w w') (hB : Off B ao) : Ls w' ao n c rs zs := ⟨h.rs.ev k hB, h.sm.ev k⟩
theorem Ls.take {w : World} {ao : Option Addr} {n c : Nat} {rs : List Raw} {zs : List Ent} (h : Ls w ao n c rs zs) (k : Nat) (hk : k ≤ n) : Ls w ao k c (rs.take k) (zs.take k) := ⟨h.rs.take k hk, h.sm.take k⟩
theorem Ls.nil (w : World) : Ls w none 0 0 [] [] := ⟨Rs.nil w, trivial⟩

/-- What stands at a place. -/
theorem Ls.get {w : World} {ao : Option Addr} {n c : Nat} {rs : List Raw} {zs : List Ent} (h : Ls w ao n c rs zs) (k : Nat) (hk : k < zs.length) :
    ∃ b off xo xn xc, ao = some ⟨b, off, none⟩ ∧ w.cell? ⟨b, off + k * 4, none⟩ = some (.bool zs[k].1) ∧ w.cell? ⟨b, off + k * 4 + 1, none⟩ = some (.int .i64 zs[k].2.1) ∧ w.cell? ⟨b, off + k * 4 + 2, none⟩ = some (.string zs[k].2.2.1) ∧ w.cell? ⟨b, off + k * 4 + 3, none⟩ = some (.slice xo xn xc) ∧
      Rz w xo xn xc zs[k].2.2.2 ∧ Few zs[k] ∧ Sm w (zs[k].1, zs[k].2.1, zs[k].2.2.1, xo, xn, xc) zs[k] := by
  have hl := h.sm.len
  obtain ⟨b, off, h1, c0, c1, c2, c3⟩ := h.rs.get k (by omega)
  obtain ⟨e1, e2, e3, e4, e5⟩ := h.sm.get k (by omega) hk
  exact ⟨b, off, _, _, _, h1, by rw [← e1]; exact c0, by rw [← e2]; exact c1, by rw [← e3]; exact c2, c3, e4, e5, rfl, rfl, rfl, e4, e5⟩

set_option maxHeartbeats 1000000 in
/-- same, of an entry and itself. -/
theorem same_any (w : World) (r s : Raw) (x : Ent) (h1 : Sm w r x) (h2 : Sm w s x) : Calls Try.prog 21 #[rv r, rv s] w fun e w' => e = .returned (.bool true) ∧ Kp [] w w' := by
  obtain ⟨m, hd, nm, ao, n, c⟩ := r
  obtain ⟨m2, hd2, nm2, bo, p, d⟩ := s
  obtain ⟨a1, a2, a3, a4, a5⟩ := h1
  obtain ⟨b1, b2, b3, b4, b5⟩ := h2
  obtain ⟨xm, xh, xn, xl⟩ := x
  simp only at a1 a2 a3 a4 b1 b2 b3 b4
  subst a1 a2 a3 b1 b2 b3
  have hl := a5.1
  simp only at hl
  have HA : Hid (∀ W, Kp [] w W → Calls Try.prog 48 #[.slice ao n c, .slice bo p d] W fun e w' => e = .returned (.bool true) ∧ Kp [] W w') := fun W k => by
    have H := attrs_any W xl xl ao bo n c p d ((a4.kept k).rp) ((b4.kept k).rp) (by rw [a4.len]; omega) (by rw [b4.len]; omega)
    rw [same_yes rfl] at H
    exact H
  have HK : Hid (Kp [] w w) := Kp.refl _ _
  clear a4 a5 b4 b5
  unfold rv
  go_enter Try.func21, Try.ntmps21
  go_wp2_with (first | (go_at_call 48; refine (HA.out _ (((Kp.refl _ _).alloc _).alloc _)).mono ?_; rintro e w2 ⟨rfl, k2⟩))
  go_ret
  exact ⟨rfl, kt (((Kp.refl _ _).alloc _).alloc _) k2⟩

end Go.Proofs.Ytadcpkdnpfmphaa.Ints
