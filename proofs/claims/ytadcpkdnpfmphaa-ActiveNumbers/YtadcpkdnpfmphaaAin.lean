/-
  What came in: a slice of calls that are asked.
-/
import Derived.Test.YtadcpkdnpfmphaaRa
import Derived.Deep.SlicePairs
import Derived.Lib.SmallJoins
import Derived.SizedLaws
import Derived.Deep.Grids
import Derived.ProofKit
namespace Go.Proofs.Ytadcpkdnpfmphaa.Ints
open Go.ChangeShapes Go.WideShapes Go.RowKit Go.Deep
set_option linter.unusedVariables false
set_option linter.unusedSimpArgs false

/-- The text of a value. -/
def str : Value → ByteArray
  | .string s => s
  | _ => ⟨#[]⟩

theorem mem_weightsAll {H : Type} {P : Program} {e : TypeId} {n : Nat} : ∀ {ds : List (DataW H)} {d : DataW H}, d ∈ ds → n ∈ d.weights P e → n ∈ DataW.weightsAll P e ds
  | d0 :: ds, d, hd, hn => by
    simp only [DataW.weightsAll, List.mem_append]
    rcases List.mem_cons.1 hd with rfl | hd
    · exact Or.inl hn
    · exact Or.inr (mem_weightsAll hd hn)

theorem cells23 : Try.prog.cellsOf 31 = 2 := by kernel_rfl
theorem cells9 : Try.prog.cellsOf 9 = 1 := by kernel_rfl
theorem bytes23 : Try.prog.bytesOf 31 = 32 := by kernel_rfl

/-- A slice of attributes that came in. -/
theorem atts_of {H : Type} {enc : TypeId × Value → H} {W : World} {a : Option Addr} {len cap : Nat} {d : DataW H} {ps : List MemPlace} (h : DataW.Trod enc Try.prog W 0 (fun _ => true) true 27 (.slice a len cap) d ps) (hsz : ∀ n, n ∈ d.weights Try.prog 27 → n ≤ reachBytes) :
    ∃ l, Rp W a len cap l ∧ len ≤ 140737488355328 ∧ cap ≤ 140737488355328 ∧ fits l := by
  have hrb := reachBytes_lt
  obtain ⟨fuel, hf⟩ := h
  rcases open_slice_pairs Try.underlying27 Try.underlying31 cells23 rfl rfl cells9 cells9 hf with ⟨hcs, hx⟩ | ⟨x, l, c, m, n, V0, V1, D0, D1, P0, P1, hcs, _, hl, hm, hmm, hx, hcell⟩
  · simp [Value.cells] at hcs
    obtain ⟨rfl, rfl, rfl⟩ := hcs
    exact ⟨[], ⟨rfl, Nat.le_refl _, fun j hj => by omega⟩, by omega, by omega, fun a ha => by simp at ha⟩
  · simp [Value.cells] at hcs
    obtain ⟨rfl, rfl, rfl⟩ := hcs
    simp only [if_true] at hmm
    subst hmm
    simp only [Prod.mk.injEq] at hx
    obtain ⟨rfl, _⟩ := hx
    have hst : ∀ i, i < m → W.cell? (x.add (i * 2)) = some (.string (str (V0 i))) ∧ W.cell? (x.add (i * 2 + 1)) = some (.string (str (V1 i))) ∧ D0 i = .lit (.string (str (V0 i)).data.toList) ∧ D1 i = .lit (.string (str (V1 i)).data.toList) := by
      intro i hi
      obtain ⟨h0, h1, h2, h3⟩ := hcell i hi
      obtain ⟨s0, e0, e1, _⟩ := DataW.trod_string Try.underlying9 h2
      obtain ⟨s1, f0, f1, _⟩ := DataW.trod_string Try.underlying9 h3
      simp only [List.cons.injEq, and_true] at e0 f0
      simp only [Prod.mk.injEq] at e1 f1
      rw [e0] at h0 ⊢
      rw [f0] at h1 ⊢
      exact ⟨h0, h1, e1.1, f1.1⟩
    have hcap : m ≤ 140737488355328 := by
      have := hsz ((((List.range len).map fun i => DataW.agg [D0 i, D1 i]).length + ((List.range (m - len)).map fun j => DataW.agg [D0 (len + j), D1 (len + j)]).length) * Try.prog.bytesOf 31) (by simp [DataW.weights, Try.underlying27])
      rw [bytes23] at this
      simp at this
      omega
    refine ⟨(List.range len).map fun i => (str (V0 i), str (V1 i)), ⟨by simp, hl, fun j hj => ?_⟩, by omega, hcap, fun y hy => ?_⟩
    · obtain ⟨b, off, sp⟩ := x
      cases sp with
      | some q =>
        have h0 := (hst 0 (by omega)).1
        simp [World.cell?, Addr.add] at h0
        split at h0 <;> simp at h0
      | none =>
        refine ⟨b, off, rfl, ?_⟩
        have hi : j / 2 < ((List.range len).map fun i => (str (V0 i), str (V1 i))).length := by simp; omega
        obtain ⟨h0, h1, _⟩ := hst (j / 2) (by omega)
        rw [Addr.add_lit] at h0 h1
        rcases Nat.mod_two_eq_zero_or_one j with hj2 | hj2
        · have ej : j = j / 2 * 2 := by omega
          have := cs_fst _ (j / 2) hi
          rw [← ej] at this h0
          rw [h0, this]
          simp
        · have ej : j = j / 2 * 2 + 1 := by omega
          have := cs_snd _ (j / 2) hi
          rw [← ej] at this h1
          rw [h1, this]
          simp
    · obtain ⟨i, hi, rfl⟩ := List.mem_map.1 hy
      have hil := List.mem_range.1 hi
      obtain ⟨_, _, h2, h3⟩ := hst i (by omega)
      have hw : ∀ n, n ∈ (DataW.agg [D0 i, D1 i]).weights Try.prog 31 → n ≤ reachBytes := fun n hn => hsz n (by
        simp only [DataW.weights, Try.underlying27, List.mem_cons, List.mem_append]
        exact Or.inr (Or.inl (mem_weightsAll (List.mem_map.2 ⟨i, hi, rfl⟩) hn)))
      rw [h2, h3] at hw
      have w0 := hw (str (V0 i)).data.toList.length (by simp [DataW.weights, Try.underlying31, DataW.weightsEach])
      have w1 := hw (str (V1 i)).data.toList.length (by simp [DataW.weights, Try.underlying31, DataW.weightsEach])
      rw [Array.length_toList] at w0 w1
      exact ⟨by show (str (V0 i)).data.size ≤ _; omega, by show (str (V1 i)).data.size ≤ _; omega⟩

/-- A slice's three words. -/
abbrev Sl := Option Addr × Nat × Nat
/-- A call that came in: Kind, H, N, I, and its attributes, with where they lie. -/
abbrev Ask := Int × Int × Int × Int × Sl × List Att
def askv (a : Ask) : Value := .agg #[.int .i64 a.1, .int .i64 a.2.1, .int .i64 a.2.2.1, .int .i64 a.2.2.2.1, .slice a.2.2.2.2.1.1 a.2.2.2.2.1.2.1 a.2.2.2.2.1.2.2]
def askc (a : Ask) : Array Value := #[.int .i64 a.1, .int .i64 a.2.1, .int .i64 a.2.2.1, .int .i64 a.2.2.2.1, .slice a.2.2.2.2.1.1 a.2.2.2.2.1.2.1 a.2.2.2.2.1.2.2]

/-- Its attributes can be read. -/
def Aa (W : World) (a : Ask) : Prop := Rp W a.2.2.2.2.1.1 a.2.2.2.2.1.2.1 a.2.2.2.2.1.2.2 a.2.2.2.2.2 ∧ a.2.2.2.2.1.2.1 ≤ 140737488355328

theorem Aa.kept {W W' : World} {a : Ask} (h : Aa W a) (k : Kp [] W W') : Aa W' a := ⟨h.1.kept k, h.2⟩

/-- The slice of n calls from ao on reads so. -/
def As (w : World) (ao : Option Addr) (n c : Nat) (F : Nat → Ask) : Prop :=
  n ≤ c ∧ ∀ i, i < n → ∃ b off, ao = some ⟨b, off, none⟩ ∧ (∀ j, j < 5 → w.cell? ⟨b, off + i * 5 + j, none⟩ = (askc (F i))[j]?) ∧ Aa w (F i)

theorem As.kept {w w' : World} {ao : Option Addr} {n c : Nat} {F : Nat → Ask} (h : As w ao n c F) (k : Kp [] w w') : As w' ao n c F := by
  refine ⟨h.1, fun i hi => ?_⟩
  obtain ⟨b, off, h1, h2, h3⟩ := h.2 i hi
  have hb : b < w.heap.size := block_lt_of_cell (a := ⟨b, off + i * 5 + 0, none⟩) (h2 0 (by omega))
  exact ⟨b, off, h1, fun j hj => by rw [k.cell hb (by simp)]; exact h2 j hj, h3.kept k⟩

theorem cellsAsk : Try.prog.cellsOf 29 = 5 := by kernel_rfl
theorem cellsInt : Try.prog.cellsOf 3 = 1 := by kernel_rfl
theorem cellsAtts : Try.prog.cellsOf 27 = 1 := by kernel_rfl

/-- Five cells that can be read as a call are one. -/
theorem ask_cells {H : Type} {enc : TypeId × Value → H} {W : World} {fuel : Nat} {v0 v1 v2 v3 v4 : Value} {x : DataW H × List MemPlace} (h : DataW.trod enc Try.prog W 0 (fun _ => true) true fuel 29 [v0, v1, v2, v3, v4] = some x) (hsz : ∀ n, n ∈ x.1.weights Try.prog 29 → n ≤ reachBytes) :
    ∃ a : Ask, [v0, v1, v2, v3, v4] = (askc a).toList ∧ Aa W a := by
  obtain ⟨xs, n, _, rfl, _, hlen, hf⟩ := DataW.trod_struct Try.underlying29 h
  match xs, hlen with
  | [y0, y1, y2, y3, y4], _ =>
    have g0 := hf 0 _ rfl
    have g1 := hf 1 _ rfl
    have g2 := hf 2 _ rfl
    have g3 := hf 3 _ rfl
    have g4 := hf 4 _ rfl
    simp [cellsInt, cellsAtts] at g0 g1 g2 g3 g4
    obtain ⟨a, e0, _⟩ := DataW.trod_int Try.underlying3 g0
    obtain ⟨b, e1, _⟩ := DataW.trod_int Try.underlying3 g1
    obtain ⟨c, e2, _⟩ := DataW.trod_int Try.underlying3 g2
    obtain ⟨d, e3, _⟩ := DataW.trod_int Try.underlying3 g3
    simp only [List.cons.injEq, and_true] at e0 e1 e2 e3
    have hs2 : ∃ ao n c, v4 = .slice ao n c := by
      rcases open_slice Try.underlying27 g4 with ⟨hc, _⟩ | ⟨a, l, c, _, _, _, _, hc, _⟩
      · simp only [List.cons.injEq, and_true] at hc
        exact ⟨_, _, _, hc⟩
      · simp only [List.cons.injEq, and_true] at hc
        exact ⟨_, _, _, hc⟩
    obtain ⟨ao, m, q, rfl⟩ := hs2
    have ht : DataW.Trod enc Try.prog W 0 (fun _ => true) true 27 (.slice ao m q) y4.1 y4.2 := ⟨n, by simpa [Value.cells] using g4⟩
    obtain ⟨l, hr, hm, _, _⟩ := atts_of ht (fun j hj => hsz j (by simp [DataW.weights, Try.underlying29, DataW.weightsEach, hj]))
    exact ⟨(a, b, c, d, (ao, m, q), l), by rw [e0, e1, e2, e3]; rfl, hr, hm⟩

theorem addr_plain {W : World} {a : Addr} {v : Value} (h : W.cell? a = some v) : ∃ b off, a = ⟨b, off, none⟩ := by
  obtain ⟨b, off, sp⟩ := a
  cases sp with
  | none => exact ⟨b, off, rfl⟩
  | some q =>
    simp [World.cell?] at h
    split at h <;> simp at h

/-- A slice of calls that came in. -/
theorem asks_of {H : Type} {enc : TypeId × Value → H} {W : World} {a : Option Addr} {len cap : Nat} {d : DataW H} {ps : List MemPlace} (h : DataW.Trod enc Try.prog W 0 (fun _ => true) true 33 (.slice a len cap) d ps) (hsz : ∀ n, n ∈ d.weights Try.prog 33 → n ≤ reachBytes) :
    ∃ F : Nat → Ask, As W a len cap F := by
  have hrb := reachBytes_lt
  obtain ⟨fuel, hf⟩ := h
  rcases open_slice Try.underlying33 hf with ⟨hcs, hx⟩ | ⟨x, l, c, m, n, D, Pl, hcs, _, hl, hm, hmm, hx, hcell⟩
  · simp [Value.cells] at hcs
    obtain ⟨rfl, rfl, rfl⟩ := hcs
    exact ⟨fun _ => (0, 0, 0, 0, (none, 0, 0), []), Nat.le_refl _, fun i hi => by omega⟩
  · simp [Value.cells] at hcs
    obtain ⟨rfl, rfl, rfl⟩ := hcs
    simp only [if_true] at hmm
    subst hmm
    simp only [Prod.mk.injEq] at hx
    obtain ⟨rfl, _⟩ := hx
    have each : ∀ i, i < len → ∃ y : Ask, (∀ j, j < 5 → W.cell? (x.add (i * 5 + j)) = (askc y)[j]?) ∧ Aa W y := fun i hi => by
      obtain ⟨cs', h1, h2⟩ := hcell i (by omega)
      rw [cellsAsk] at h1
      obtain ⟨_, hlen, hc⟩ := World.cells?_some h1
      match cs', hlen with
      | [v0, v1, v2, v3, v4], _ =>
        obtain ⟨y, e, ha⟩ := ask_cells h2 (fun k hk => hsz k (by
          simp only [DataW.weights, Try.underlying33, List.mem_cons, List.mem_append]
          exact Or.inr (Or.inl (mem_weightsAll (List.mem_map.2 ⟨i, List.mem_range.2 hi, rfl⟩) hk))))
        refine ⟨y, fun j hj => ?_, ha⟩
        have := hc j hj
        rw [add_add] at this
        rw [this, e]
        simp
    have inst : Inhabited Ask := ⟨(0, 0, 0, 0, (none, 0, 0), [])⟩
    obtain ⟨f, hf⟩ := choose_lt each
    refine ⟨f, hl, fun i hi => ?_⟩
    obtain ⟨hc, hr⟩ := hf i hi
    obtain ⟨b, off, e⟩ := addr_plain ((hf 0 (by omega)).1 0 (by omega))
    simp only [Nat.zero_mul, Nat.add_zero] at e
    have e' : x = ⟨b, off, none⟩ := by rw [← e]; simp [Addr.add]
    subst e'
    refine ⟨b, off, rfl, fun j hj => ?_, hr⟩
    have := hc j hj
    rw [Addr.add_lit, ← Nat.add_assoc] at this
    exact this

end Go.Proofs.Ytadcpkdnpfmphaa.Ints
