/-
  What came in: a token by value, a slice of tokens, a slice of bools.
-/
import Derived.Test.YtgeebmlincddkaaGiven
import Derived.Test.YtgeebmlincddkaaToks
import Derived.Deep.Grids
namespace Go.Proofs.Ytgeebmlincddkaa
open Go.ChangeShapes Go.WideShapes Go.RowKit Go.Deep

theorem cells24 : Try.prog.cellsOf 24 = 5 := by kernel_rfl
theorem cells3 : Try.prog.cellsOf 3 = 1 := by kernel_rfl
theorem cells4 : Try.prog.cellsOf 4 = 1 := by kernel_rfl
theorem cells22 : Try.prog.cellsOf 22 = 1 := by kernel_rfl
theorem bytes24 : Try.prog.bytesOf 24 = 72 := by kernel_rfl

/-- Five cells that can be read as a token are one. -/
theorem tok_cells {H : Type} {enc : TypeId × Value → H} {W : World} {fuel : Nat} {v0 v1 v2 v3 v4 : Value} {x : DataW H × List MemPlace} (h : DataW.trod enc Try.prog W 0 (fun _ => true) true fuel 24 [v0, v1, v2, v3, v4] = some x) (hsz : ∀ n, n ∈ x.1.weights Try.prog 24 → n ≤ reachBytes) :
    ∃ p : Q, v0 = .int .i64 p.1.1 ∧ v1 = .string p.1.2.1 ∧ v2 = .slice p.2.1 p.2.2.1 p.2.2.2 ∧ v3 = .bool p.1.2.2.2.1 ∧ v4 = .string p.1.2.2.2.2 ∧ At W p ∧ p.2.2.1 ≤ 140737488355328 := by
  obtain ⟨xs, n, _, rfl, _, hlen, hf⟩ := DataW.trod_struct Try.underlying24 h
  match xs, hlen with
  | [y0, y1, y2, y3, y4], _ =>
    have g0 := hf 0 _ rfl
    have g1 := hf 1 _ rfl
    have g2 := hf 2 _ rfl
    have g3 := hf 3 _ rfl
    have g4 := hf 4 _ rfl
    simp [cells3, cells9, cells22, cells4] at g0 g1 g2 g3 g4
    obtain ⟨k, e0, _⟩ := DataW.trod_int Try.underlying3 g0
    obtain ⟨s, e1, _⟩ := DataW.trod_string Try.underlying9 g1
    obtain ⟨b, e3, _⟩ := DataW.trod_bool Try.underlying4 g3
    obtain ⟨t, e4, _⟩ := DataW.trod_string Try.underlying9 g4
    simp only [List.cons.injEq, and_true] at e0 e1 e3 e4
    have hs2 : ∃ ao n c, v2 = .slice ao n c := by
      rcases open_slice Try.underlying22 g2 with ⟨hc, _⟩ | ⟨a, l, c, _, _, _, _, hc, _⟩
      · simp only [List.cons.injEq, and_true] at hc
        exact ⟨_, _, _, hc⟩
      · simp only [List.cons.injEq, and_true] at hc
        exact ⟨_, _, _, hc⟩
    obtain ⟨ao, m, c, rfl⟩ := hs2
    have ht : DataW.Trod enc Try.prog W 0 (fun _ => true) true 22 (.slice ao m c) y2.1 y2.2 := ⟨n, by simpa [Value.cells] using g2⟩
    obtain ⟨l, hr, hm, _, _⟩ := atts_of ht (fun j hj => hsz j (by simp [DataW.weights, Try.underlying24, DataW.weightsEach, hj]))
    exact ⟨((k, s, l, b, t), ao, m, c), e0, e1, rfl, e3, e4, hr, hm⟩

theorem array5 {cs : Array Value} (h : cs.size = 5) : ∃ v0 v1 v2 v3 v4, cs = #[v0, v1, v2, v3, v4] := by
  obtain ⟨l⟩ := cs
  match l, h with
  | [a, b, c, d, e], _ => exact ⟨a, b, c, d, e, rfl⟩

/-- A token that came in. -/
theorem tok_of {H : Type} {enc : TypeId × Value → H} {W : World} {base : Nat} {v : Value} {d : DataW H} {ps : List MemPlace} (hv : Value.okWide Try.prog W .any base 24 v) (h : DataW.Trod enc Try.prog W 0 (fun _ => true) true 24 v d ps) (hsz : ∀ n, n ∈ d.weights Try.prog 24 → n ≤ reachBytes) :
    ∃ p : Q, v = qv p ∧ At W p ∧ p.2.2.1 ≤ 140737488355328 := by
  obtain ⟨cs, rfl, hcs⟩ := okWide_struct Try.underlying24 hv
  obtain ⟨v0, v1, v2, v3, v4, rfl⟩ := array5 (hcs.trans cells24)
  obtain ⟨fuel, hf⟩ := h
  have hf' : DataW.trod enc Try.prog W 0 (fun _ => true) true fuel 24 [v0, v1, v2, v3, v4] = some (d, ps) := by simpa [Value.cells] using hf
  obtain ⟨p, rfl, rfl, rfl, rfl, rfl, ha, hn⟩ := tok_cells hf' hsz
  exact ⟨p, rfl, ha, hn⟩

theorem addr_plain {W : World} {a : Addr} {v : Value} (h : W.cell? a = some v) : ∃ b off, a = ⟨b, off, none⟩ := by
  obtain ⟨b, off, sp⟩ := a
  cases sp with
  | none => exact ⟨b, off, rfl⟩
  | some q =>
    simp [World.cell?] at h
    split at h <;> simp at h

/-- A slice of tokens that came in. -/
theorem toks_of {H : Type} {enc : TypeId × Value → H} {W : World} {a : Option Addr} {len cap : Nat} {d : DataW H} {ps : List MemPlace} (h : DataW.Trod enc Try.prog W 0 (fun _ => true) true 28 (.slice a len cap) d ps) (hsz : ∀ n, n ∈ d.weights Try.prog 28 → n ≤ reachBytes) :
    ∃ q : List Q, Rq W a len cap q ∧ len ≤ 140737488355328 ∧ cap ≤ 140737488355328 ∧ ∀ p, p ∈ q → At W p ∧ p.2.2.1 ≤ 140737488355328 := by
  have hrb := reachBytes_lt
  obtain ⟨fuel, hf⟩ := h
  rcases open_slice Try.underlying28 hf with ⟨hcs, hx⟩ | ⟨x, l, c, m, n, D, Pl, hcs, _, hl, hm, hmm, hx, hcell⟩
  · simp [Value.cells] at hcs
    obtain ⟨rfl, rfl, rfl⟩ := hcs
    exact ⟨[], ⟨rfl, Nat.le_refl _, fun j hj => by omega⟩, by omega, by omega, fun p hp => by simp at hp⟩
  · simp [Value.cells] at hcs
    obtain ⟨rfl, rfl, rfl⟩ := hcs
    simp only [if_true] at hmm
    subst hmm
    simp only [Prod.mk.injEq] at hx
    obtain ⟨rfl, _⟩ := hx
    have hcap : m ≤ 140737488355328 := by
      have := hsz ((((List.range len).map D).length + ((List.range (m - len)).map fun j => D (len + j)).length) * Try.prog.bytesOf 24) (by simp [DataW.weights, Try.underlying28])
      rw [bytes24] at this
      simp at this
      omega
    have each : ∀ i, i < len → ∃ p : Q, (∀ j, j < 5 → W.cell? (x.add (i * 5 + j)) = (qs [p])[j]?) ∧ At W p ∧ p.2.2.1 ≤ 140737488355328 := fun i hi => by
      obtain ⟨cs', h1, h2⟩ := hcell i (by omega)
      rw [cells24] at h1
      obtain ⟨_, hlen, hc⟩ := World.cells?_some h1
      match cs', hlen with
      | [v0, v1, v2, v3, v4], _ =>
        obtain ⟨p, rfl, rfl, rfl, rfl, rfl, ha, hn⟩ := tok_cells h2 (fun k hk => hsz k (by
          simp only [DataW.weights, Try.underlying28, List.mem_cons, List.mem_append]
          exact Or.inr (Or.inl (mem_weightsAll (List.mem_map.2 ⟨i, List.mem_range.2 hi, rfl⟩) hk))))
        refine ⟨p, fun j hj => ?_, ha, hn⟩
        have := hc j hj
        rw [add_add] at this
        rw [this]
        match j, hj with
        | 0, _ => rfl
        | 1, _ => rfl
        | 2, _ => rfl
        | 3, _ => rfl
        | 4, _ => rfl
    obtain ⟨f, hf⟩ := choose_lt each
    refine ⟨(List.range len).map f, ⟨by simp, hl, fun j hj => ?_⟩, by omega, hcap, fun p hp => ?_⟩
    · have h0 := (hf 0 (by omega)).1 0 (by omega)
      obtain ⟨b, off, e⟩ := addr_plain (a := x.add (0 * 5 + 0)) (h0.trans rfl)
      simp only [Nat.zero_mul, Nat.add_zero] at e
      have e' : x = ⟨b, off, none⟩ := by rw [← e]; simp [Addr.add]
      subst e'
      refine ⟨b, off, rfl, ?_⟩
      have hi : j / 5 < ((List.range len).map f).length := by simp; omega
      have h1 := (hf (j / 5) (by omega)).1 (j % 5) (by omega)
      rw [Addr.add_lit, show j / 5 * 5 + j % 5 = j by omega] at h1
      rw [h1]
      obtain ⟨q0, q1, q2, q3, q4⟩ := qs_at _ (j / 5) hi
      have hj5 : j % 5 = 0 ∨ j % 5 = 1 ∨ j % 5 = 2 ∨ j % 5 = 3 ∨ j % 5 = 4 := by omega
      simp only [List.getElem_map, List.getElem_range] at q0 q1 q2 q3 q4
      rcases hj5 with r | r | r | r | r
      · rw [show j / 5 * 5 = j by omega] at q0
        rw [r, q0]
        rfl
      · rw [show j / 5 * 5 + 1 = j by omega] at q1
        rw [r, q1]
        rfl
      · rw [show j / 5 * 5 + 2 = j by omega] at q2
        rw [r, q2]
        rfl
      · rw [show j / 5 * 5 + 3 = j by omega] at q3
        rw [r, q3]
        rfl
      · rw [show j / 5 * 5 + 4 = j by omega] at q4
        rw [r, q4]
        rfl
    · obtain ⟨i, hi, rfl⟩ := List.mem_map.1 hp
      exact (hf i (List.mem_range.1 hi)).2

/-- A slice of bools that came in. -/
theorem bools_of {H : Type} {enc : TypeId × Value → H} {W : World} {a : Option Addr} {len cap : Nat} {d : DataW H} {ps : List MemPlace} (h : DataW.Trod enc Try.prog W 0 (fun _ => true) true 34 (.slice a len cap) d ps) :
    len ≤ cap ∧ ∃ B : Nat → Bool, ∀ i, i < len → ∃ b off, a = some ⟨b, off, none⟩ ∧ W.cell? ⟨b, off + i, none⟩ = some (.bool (B i)) := by
  obtain ⟨fuel, hf⟩ := h
  rcases open_bools Try.underlying34 Try.underlying4 cells4 hf with ⟨hcs, hx⟩ | ⟨x, l, c, B, hcs, _, hl, hm, hx, hcell⟩
  · simp [Value.cells] at hcs
    obtain ⟨rfl, rfl, rfl⟩ := hcs
    exact ⟨Nat.le_refl _, fun _ => false, fun i hi => by omega⟩
  · simp [Value.cells] at hcs
    obtain ⟨rfl, rfl, rfl⟩ := hcs
    refine ⟨hl, B, fun i hi => ?_⟩
    have h1 := hcell i (by omega)
    have h0 := hcell 0 (by omega)
    obtain ⟨b, off, e⟩ := addr_plain h0
    have e' : x = ⟨b, off, none⟩ := by rw [← e]; simp [Addr.add]
    subst e'
    rw [Addr.add_lit] at h1
    exact ⟨b, off, rfl, h1⟩

end Go.Proofs.Ytgeebmlincddkaa
