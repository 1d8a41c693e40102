/-
  What came in: a slice of attributes that can be read is a list of attributes, none of whose texts is too long; so is an attribute by itself.
-/
import Derived.Test.YtfobbgmfbpoigaaLists
import Derived.Deep.SlicePairs
import Derived.Lib.SmallJoins
import Derived.SizedLaws
namespace Go.Proofs.Ytfobbgmfbpoigaa
open Go.ChangeShapes Go.WideShapes Go.RowKit Go.Deep

/-- The text of a value. -/
def str : Value → ByteArray
  | .string s => s
  | _ => ⟨#[]⟩

theorem mem_weightsAll {H : Type} {P : Program} {e : TypeId} {n : Nat} : ∀ {ds : List (DataW H)} {d : DataW H}, d ∈ ds → n ∈ d.weights P e → n ∈ DataW.weightsAll P e ds
  | d0 :: ds, d, hd, hn => by
    simp only [DataW.weightsAll, List.mem_append]
    rcases List.mem_cons.1 hd with rfl | hd
    · exact Or.inl hn
    · exact Or.inr (mem_weightsAll hd hn)

theorem cells23 : Try.prog.cellsOf 36 = 2 := by kernel_rfl
theorem cells9 : Try.prog.cellsOf 9 = 1 := by kernel_rfl
theorem bytes23 : Try.prog.bytesOf 36 = 32 := by kernel_rfl

/-- A slice of attributes that came in. -/
theorem atts_of {H : Type} {enc : TypeId × Value → H} {W : World} {a : Option Addr} {len cap : Nat} {d : DataW H} {ps : List MemPlace} (h : DataW.Trod enc Try.prog W 0 (fun _ => true) true 24 (.slice a len cap) d ps) (hsz : ∀ n, n ∈ d.weights Try.prog 24 → n ≤ reachBytes) :
    ∃ l, Rp W a len cap l ∧ len ≤ 140737488355328 ∧ cap ≤ 140737488355328 ∧ fits l := by
  have hrb := reachBytes_lt
  obtain ⟨fuel, hf⟩ := h
  rcases open_slice_pairs Try.underlying24 Try.underlying36 cells23 rfl rfl cells9 cells9 hf with ⟨hcs, hx⟩ | ⟨x, l, c, m, n, V0, V1, D0, D1, P0, P1, hcs, _, hl, hm, hmm, hx, hcell⟩
  · simp [Value.cells] at hcs
    obtain ⟨rfl, rfl, rfl⟩ := hcs
    exact ⟨[], ⟨rfl, Nat.le_refl _, fun j hj => by omega⟩, by omega, by omega, fun a ha => by simp at ha⟩
  · simp [Value.cells] at hcs
    obtain ⟨rfl, rfl, rfl⟩ := hcs
    simp only [if_true] at hmm
    subst hmm
    simp only [Prod.mk.injEq] at hx
    obtain ⟨rfl, _⟩ := hx
    have hst : ∀ i, i < m → W.cell? (x.add (i * 2)) = some (.string (str (V0 i))) ∧ W.cell? (x.add (i * 2 + 1)) = some (.string (str (V1 i))) ∧ D0 i = .lit (.string (str (V0 i)).data.toList) ∧ D1 i = .lit (.string (str (V1 i)).data.toList) := by
      intro i hi
      obtain ⟨h0, h1, h2, h3⟩ := hcell i hi
      obtain ⟨s0, e0, e1, _⟩ := DataW.trod_string Try.underlying9 h2
      obtain ⟨s1, f0, f1, _⟩ := DataW.trod_string Try.underlying9 h3
      simp only [List.cons.injEq, and_true] at e0 f0
      simp only [Prod.mk.injEq] at e1 f1
      rw [e0] at h0 ⊢
      rw [f0] at h1 ⊢
      exact ⟨h0, h1, e1.1, f1.1⟩
    have hcap : m ≤ 140737488355328 := by
      have := hsz ((((List.range len).map fun i => DataW.agg [D0 i, D1 i]).length + ((List.range (m - len)).map fun j => DataW.agg [D0 (len + j), D1 (len + j)]).length) * Try.prog.bytesOf 36) (by simp [DataW.weights, Try.underlying24])
      rw [bytes23] at this
      simp at this
      omega
    refine ⟨(List.range len).map fun i => (str (V0 i), str (V1 i)), ⟨by simp, hl, fun j hj => ?_⟩, by omega, hcap, fun y hy => ?_⟩
    · obtain ⟨b, off, sp⟩ := x
      cases sp with
      | some q =>
        have h0 := (hst 0 (by omega)).1
        simp [World.cell?, Addr.add] at h0
        split at h0 <;> simp at h0
      | none =>
        refine ⟨b, off, rfl, ?_⟩
        have hi : j / 2 < ((List.range len).map fun i => (str (V0 i), str (V1 i))).length := by simp; omega
        obtain ⟨h0, h1, _⟩ := hst (j / 2) (by omega)
        rw [Addr.add_lit] at h0 h1
        rcases Nat.mod_two_eq_zero_or_one j with hj2 | hj2
        · have ej : j = j / 2 * 2 := by omega
          have := cs_fst _ (j / 2) hi
          rw [← ej] at this h0
          rw [h0, this]
          simp
        · have ej : j = j / 2 * 2 + 1 := by omega
          have := cs_snd _ (j / 2) hi
          rw [← ej] at this h1
          rw [h1, this]
          simp
    · obtain ⟨i, hi, rfl⟩ := List.mem_map.1 hy
      have hil := List.mem_range.1 hi
      obtain ⟨_, _, h2, h3⟩ := hst i (by omega)
      have hw : ∀ n, n ∈ (DataW.agg [D0 i, D1 i]).weights Try.prog 36 → n ≤ reachBytes := fun n hn => hsz n (by
        simp only [DataW.weights, Try.underlying24, List.mem_cons, List.mem_append]
        exact Or.inr (Or.inl (mem_weightsAll (List.mem_map.2 ⟨i, hi, rfl⟩) hn)))
      rw [h2, h3] at hw
      have w0 := hw (str (V0 i)).data.toList.length (by simp [DataW.weights, Try.underlying36, DataW.weightsEach])
      have w1 := hw (str (V1 i)).data.toList.length (by simp [DataW.weights, Try.underlying36, DataW.weightsEach])
      rw [Array.length_toList] at w0 w1
      exact ⟨by show (str (V0 i)).data.size ≤ _; omega, by show (str (V1 i)).data.size ≤ _; omega⟩

/-- An attribute that came in. -/
theorem att_of {H : Type} {enc : TypeId × Value → H} {W : World} {base : Nat} {v : Value} {d : DataW H} {ps : List MemPlace} (hv : Value.okWide Try.prog W .any base 36 v) (h : DataW.Trod enc Try.prog W 0 (fun _ => true) true 36 v d ps) (hsz : ∀ n, n ∈ d.weights Try.prog 36 → n ≤ reachBytes) :
    ∃ a, v = av a ∧ fits [a] := by
  have hrb := reachBytes_lt
  obtain ⟨c0, c1, y0, y1, m, rfl, rfl, rfl, hy0, hy1⟩ := Joins.open_agg2 Try.underlying36 (by kernel_rfl) cells23 hv h
  obtain ⟨s0, e0, e1, _⟩ := DataW.trod_string Try.underlying9 hy0
  obtain ⟨s1, f0, f1, _⟩ := DataW.trod_string Try.underlying9 hy1
  simp only [List.cons.injEq, and_true] at e0 f0
  subst e0
  subst f0
  subst e1
  subst f1
  have w0 := hsz s0.data.toList.length (by simp [DataW.weights, Try.underlying36, DataW.weightsEach])
  have w1 := hsz s1.data.toList.length (by simp [DataW.weights, Try.underlying36, DataW.weightsEach])
  rw [Array.length_toList] at w0 w1
  refine ⟨(s0, s1), rfl, fun y hy => ?_⟩
  simp only [List.mem_singleton] at hy
  subst hy
  exact ⟨by show s0.data.size ≤ _; omega, by show s1.data.size ≤ _; omega⟩

end Go.Proofs.Ytfobbgmfbpoigaa
