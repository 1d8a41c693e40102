/-
  What came in: a context by value, a slice of the laws' elements.
-/
import Derived.Test.YtfobbgmfbpoigaaGiven
import Derived.Test.YtfobbgmfbpoigaaLis
import Derived.ProofKit
import Derived.Deep.Grids
namespace Go.Proofs.Ytfobbgmfbpoigaa
open Go.ChangeShapes Go.WideShapes Go.RowKit Go.Deep Ints
set_option linter.unusedVariables false

theorem cellsCtx : Try.prog.cellsOf 26 = 3 := by kernel_rfl
theorem cellsEl : Try.prog.cellsOf 28 = 2 := by kernel_rfl
theorem cellsInt : Try.prog.cellsOf 3 = 1 := by kernel_rfl
theorem cellsStr : Try.prog.cellsOf 9 = 1 := by kernel_rfl
theorem cellsBool : Try.prog.cellsOf 4 = 1 := by kernel_rfl
theorem cellsAtts : Try.prog.cellsOf 24 = 1 := by kernel_rfl

/-- Three cells that can be read as a context are one. -/
theorem ctx_cells {H : Type} {enc : TypeId × Value → H} {W : World} {fuel : Nat} {v0 v1 v2 : Value} {x : DataW H × List MemPlace} (h : DataW.trod enc Try.prog W 0 (fun _ => true) true fuel 26 [v0, v1, v2] = some x) (hsz : ∀ n, n ∈ x.1.weights Try.prog 26 → n ≤ reachBytes) :
    ∃ (ns : Int) (s : ByteArray) (ao : Option Addr) (n c : Nat) (l : List Att), v0 = .int .i64 ns ∧ v1 = .string s ∧ v2 = .slice ao n c ∧ Rp W ao n c l ∧ n ≤ 140737488355328 := by
  obtain ⟨xs, n, _, rfl, _, hlen, hf⟩ := DataW.trod_struct Try.underlying26 h
  match xs, hlen with
  | [y0, y1, y2], _ =>
    have g0 := hf 0 _ rfl
    have g1 := hf 1 _ rfl
    have g2 := hf 2 _ rfl
    simp [cellsInt, cellsStr, cellsAtts] at g0 g1 g2
    obtain ⟨k, e0, _⟩ := DataW.trod_int Try.underlying3 g0
    obtain ⟨s, e1, _⟩ := DataW.trod_string Try.underlying9 g1
    simp only [List.cons.injEq, and_true] at e0 e1
    have hs2 : ∃ ao n c, v2 = .slice ao n c := by
      rcases open_slice Try.underlying24 g2 with ⟨hc, _⟩ | ⟨a, l, c, _, _, _, _, hc, _⟩
      · simp only [List.cons.injEq, and_true] at hc
        exact ⟨_, _, _, hc⟩
      · simp only [List.cons.injEq, and_true] at hc
        exact ⟨_, _, _, hc⟩
    obtain ⟨ao, m, c, rfl⟩ := hs2
    have ht : DataW.Trod enc Try.prog W 0 (fun _ => true) true 24 (.slice ao m c) y2.1 y2.2 := ⟨n, by simpa [Value.cells] using g2⟩
    obtain ⟨l, hr, hm, _, _⟩ := atts_of ht (fun j hj => hsz j (by simp [DataW.weights, Try.underlying26, DataW.weightsEach, hj]))
    exact ⟨k, s, ao, m, c, l, e0, e1, rfl, hr, hm⟩

theorem array3 {cs : Array Value} (h : cs.size = 3) : ∃ v0 v1 v2, cs = #[v0, v1, v2] := by
  obtain ⟨l⟩ := cs
  match l, h with
  | [a, b, c], _ => exact ⟨a, b, c, rfl⟩

/-- A context that came in. -/
theorem ctx_of {H : Type} {enc : TypeId × Value → H} {W : World} {base : Nat} {v : Value} {d : DataW H} {ps : List MemPlace} (hv : Value.okWide Try.prog W .any base 26 v) (h : DataW.Trod enc Try.prog W 0 (fun _ => true) true 26 v d ps) (hsz : ∀ n, n ∈ d.weights Try.prog 26 → n ≤ reachBytes) :
    ∃ (ns : Int) (s : ByteArray) (ao : Option Addr) (n c : Nat) (l : List Att), v = cv ns s ao n c ∧ Rp W ao n c l ∧ n ≤ 140737488355328 := by
  obtain ⟨cs, rfl, hcs⟩ := okWide_struct Try.underlying26 hv
  obtain ⟨v0, v1, v2, rfl⟩ := array3 (hcs.trans cellsCtx)
  obtain ⟨fuel, hf⟩ := h
  have hf' : DataW.trod enc Try.prog W 0 (fun _ => true) true fuel 26 [v0, v1, v2] = some (d, ps) := by simpa [Value.cells] using hf
  obtain ⟨ns, s, ao, n, c, l, rfl, rfl, rfl, ha, hn⟩ := ctx_cells hf' hsz
  exact ⟨ns, s, ao, n, c, l, rfl, ha, hn⟩

/-- Two cells that can be read as an element are one. -/
theorem el_cells {H : Type} {enc : TypeId × Value → H} {W : World} {fuel : Nat} {v0 v1 : Value} {x : DataW H × List MemPlace} (h : DataW.trod enc Try.prog W 0 (fun _ => true) true fuel 28 [v0, v1] = some x) :
    ∃ (a : Int) (b : Bool), v0 = .int .i64 a ∧ v1 = .bool b := by
  obtain ⟨xs, n, _, rfl, _, hlen, hf⟩ := DataW.trod_struct Try.underlying28 h
  match xs, hlen with
  | [y0, y1], _ =>
    have g0 := hf 0 _ rfl
    have g1 := hf 1 _ rfl
    simp [cellsInt, cellsBool] at g0 g1
    obtain ⟨a, e0, _⟩ := DataW.trod_int Try.underlying3 g0
    obtain ⟨e, e1, _⟩ := DataW.trod_bool Try.underlying4 g1
    simp only [List.cons.injEq, and_true] at e0 e1
    exact ⟨a, e, e0, e1⟩

theorem el_plain {W : World} {a : Addr} {v : Value} (h : W.cell? a = some v) : ∃ b off, a = ⟨b, off, none⟩ := by
  obtain ⟨b, off, sp⟩ := a
  cases sp with
  | none => exact ⟨b, off, rfl⟩
  | some q =>
    simp [World.cell?] at h
    split at h <;> simp at h

/-- A slice of elements that came in. -/
theorem els_of {H : Type} {enc : TypeId × Value → H} {W : World} {a : Option Addr} {len cap : Nat} {d : DataW H} {ps : List MemPlace} (h : DataW.Trod enc Try.prog W 0 (fun _ => true) true 29 (.slice a len cap) d ps) : ∃ F, Es W a len cap F := by
  obtain ⟨fuel, hf⟩ := h
  rcases open_slice Try.underlying29 hf with ⟨hcs, hx⟩ | ⟨x, l, c, m, n, D, Pl, hcs, _, hl, hm, hmm, hx, hcell⟩
  · simp [Value.cells] at hcs
    obtain ⟨rfl, rfl, rfl⟩ := hcs
    exact ⟨fun _ => (0, false), Nat.le_refl _, fun i hi => by omega⟩
  · simp [Value.cells] at hcs
    obtain ⟨rfl, rfl, rfl⟩ := hcs
    simp only [if_true] at hmm
    subst hmm
    have each : ∀ i, i < len → ∃ p : Int × Bool, W.cell? (x.add (i * 2)) = some (.int .i64 p.1) ∧ W.cell? (x.add (i * 2 + 1)) = some (.bool p.2) := fun i hi => by
      obtain ⟨cs', h1, h2⟩ := hcell i (by omega)
      rw [cellsEl] at h1
      obtain ⟨_, hlen, hc⟩ := World.cells?_some h1
      match cs', hlen with
      | [v0, v1], _ =>
        obtain ⟨p0, p1, rfl, rfl⟩ := el_cells h2
        have e0 := hc 0 (by simp)
        have e1 := hc 1 (by simp)
        rw [add_add] at e0 e1
        exact ⟨(p0, p1), e0, e1⟩
    obtain ⟨f, hf⟩ := choose_lt each
    refine ⟨f, hl, fun i hi => ?_⟩
    have h0 := (hf 0 (by omega)).1
    obtain ⟨b, off, e⟩ := el_plain (a := x.add (0 * 2)) h0
    simp only [Nat.zero_mul] at e
    have e' : x = ⟨b, off, none⟩ := by rw [← e]; simp [Addr.add]
    subst e'
    obtain ⟨h1, h2⟩ := hf i hi
    rw [Addr.add_lit] at h1 h2
    exact ⟨b, off, rfl, h1, by rw [Nat.add_assoc]; exact h2⟩

end Go.Proofs.Ytfobbgmfbpoigaa
