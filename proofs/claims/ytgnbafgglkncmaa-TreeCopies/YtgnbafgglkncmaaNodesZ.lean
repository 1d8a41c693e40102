/-
  Joined: Given NodesIn.
-/
import Derived.Test.YtgnbafgglkncmaaLists
import Derived.Deep.SlicePairs
import Derived.Lib.SmallJoins
import Derived.SizedLaws
import Derived.Test.YtgnbafgglkncmaaGrow
import Derived.Deep.Grids

/-
  What came in: a slice of attributes that can be read is a list of attributes, none of whose texts is too long; so is an attribute by itself.
-/
namespace Go.Proofs.Ytgnbafgglkncmaa
open Go.ChangeShapes Go.WideShapes Go.RowKit Go.Deep

/-- The text of a value. -/
def str : Value → ByteArray
  | .string s => s
  | _ => ⟨#[]⟩

theorem mem_weightsAll {H : Type} {P : Program} {e : TypeId} {n : Nat} : ∀ {ds : List (DataW H)} {d : DataW H}, d ∈ ds → n ∈ d.weights P e → n ∈ DataW.weightsAll P e ds
  | d0 :: ds, d, hd, hn => by
    simp only [DataW.weightsAll, List.mem_append]
    rcases List.mem_cons.1 hd with rfl | hd
    · exact Or.inl hn
    · exact Or.inr (mem_weightsAll hd hn)

theorem cells23 : Try.prog.cellsOf 27 = 2 := by kernel_rfl
theorem cells9 : Try.prog.cellsOf 9 = 1 := by kernel_rfl
theorem bytes23 : Try.prog.bytesOf 27 = 32 := by kernel_rfl

/-- A slice of attributes that came in. -/
theorem atts_of {H : Type} {enc : TypeId × Value → H} {W : World} {a : Option Addr} {len cap : Nat} {d : DataW H} {ps : List MemPlace} (h : DataW.Trod enc Try.prog W 0 (fun _ => true) true 22 (.slice a len cap) d ps) (hsz : ∀ n, n ∈ d.weights Try.prog 22 → n ≤ reachBytes) :
    ∃ l, Rp W a len cap l ∧ len ≤ 140737488355328 ∧ cap ≤ 140737488355328 ∧ fits l := by
  have hrb := reachBytes_lt
  obtain ⟨fuel, hf⟩ := h
  rcases open_slice_pairs Try.underlying22 Try.underlying27 cells23 rfl rfl cells9 cells9 hf with ⟨hcs, hx⟩ | ⟨x, l, c, m, n, V0, V1, D0, D1, P0, P1, hcs, _, hl, hm, hmm, hx, hcell⟩
  · simp [Value.cells] at hcs
    obtain ⟨rfl, rfl, rfl⟩ := hcs
    exact ⟨[], ⟨rfl, Nat.le_refl _, fun j hj => by omega⟩, by omega, by omega, fun a ha => by simp at ha⟩
  · simp [Value.cells] at hcs
    obtain ⟨rfl, rfl, rfl⟩ := hcs
    simp only [if_true] at hmm
    subst hmm
    simp only [Prod.mk.injEq] at hx
    obtain ⟨rfl, _⟩ := hx
    have hst : ∀ i, i < m → W.cell? (x.add (i * 2)) = some (.string (str (V0 i))) ∧ W.cell? (x.add (i * 2 + 1)) = some (.string (str (V1 i))) ∧ D0 i = .lit (.string (str (V0 i)).data.toList) ∧ D1 i = .lit (.string (str (V1 i)).data.toList) := by
      intro i hi
      obtain ⟨h0, h1, h2, h3⟩ := hcell i hi
      obtain ⟨s0, e0, e1, _⟩ := DataW.trod_string Try.underlying9 h2
      obtain ⟨s1, f0, f1, _⟩ := DataW.trod_string Try.underlying9 h3
      simp only [List.cons.injEq, and_true] at e0 f0
      simp only [Prod.mk.injEq] at e1 f1
      rw [e0] at h0 ⊢
      rw [f0] at h1 ⊢
      exact ⟨h0, h1, e1.1, f1.1⟩
    have hcap : m ≤ 140737488355328 := by
      have := hsz ((((List.range len).map fun i => DataW.agg [D0 i, D1 i]).length + ((List.range (m - len)).map fun j => DataW.agg [D0 (len + j), D1 (len + j)]).length) * Try.prog.bytesOf 27) (by simp [DataW.weights, Try.underlying22])
      rw [bytes23] at this
      simp at this
      omega
    refine ⟨(List.range len).map fun i => (str (V0 i), str (V1 i)), ⟨by simp, hl, fun j hj => ?_⟩, by omega, hcap, fun y hy => ?_⟩
    · obtain ⟨b, off, sp⟩ := x
      cases sp with
      | some q =>
        have h0 := (hst 0 (by omega)).1
        simp [World.cell?, Addr.add] at h0
        split at h0 <;> simp at h0
      | none =>
        refine ⟨b, off, rfl, ?_⟩
        have hi : j / 2 < ((List.range len).map fun i => (str (V0 i), str (V1 i))).length := by simp; omega
        obtain ⟨h0, h1, _⟩ := hst (j / 2) (by omega)
        rw [Addr.add_lit] at h0 h1
        rcases Nat.mod_two_eq_zero_or_one j with hj2 | hj2
        · have ej : j = j / 2 * 2 := by omega
          have := cs_fst _ (j / 2) hi
          rw [← ej] at this h0
          rw [h0, this]
          simp
        · have ej : j = j / 2 * 2 + 1 := by omega
          have := cs_snd _ (j / 2) hi
          rw [← ej] at this h1
          rw [h1, this]
          simp
    · obtain ⟨i, hi, rfl⟩ := List.mem_map.1 hy
      have hil := List.mem_range.1 hi
      obtain ⟨_, _, h2, h3⟩ := hst i (by omega)
      have hw : ∀ n, n ∈ (DataW.agg [D0 i, D1 i]).weights Try.prog 27 → n ≤ reachBytes := fun n hn => hsz n (by
        simp only [DataW.weights, Try.underlying22, List.mem_cons, List.mem_append]
        exact Or.inr (Or.inl (mem_weightsAll (List.mem_map.2 ⟨i, hi, rfl⟩) hn)))
      rw [h2, h3] at hw
      have w0 := hw (str (V0 i)).data.toList.length (by simp [DataW.weights, Try.underlying27, DataW.weightsEach])
      have w1 := hw (str (V1 i)).data.toList.length (by simp [DataW.weights, Try.underlying27, DataW.weightsEach])
      rw [Array.length_toList] at w0 w1
      exact ⟨by show (str (V0 i)).data.size ≤ _; omega, by show (str (V1 i)).data.size ≤ _; omega⟩

end Go.Proofs.Ytgnbafgglkncmaa

/-
  What came in: a slice of nodes that trees are made of.
-/
namespace Go.Proofs.Ytgnbafgglkncmaa
open Go.ChangeShapes Go.WideShapes Go.RowKit Go.Deep

theorem cells42 : Try.prog.cellsOf 42 = 6 := by kernel_rfl
theorem cells3 : Try.prog.cellsOf 3 = 1 := by kernel_rfl
theorem cells22 : Try.prog.cellsOf 22 = 1 := by kernel_rfl
theorem bytes42 : Try.prog.bytesOf 42 = 80 := by kernel_rfl

set_option maxRecDepth 20000 in
/-- Six cells that can be read as a node are one. -/
theorem node_cells {H : Type} {enc : TypeId × Value → H} {W : World} {fuel : Nat} {v0 v1 v2 v3 v4 v5 : Value} {x : DataW H × List MemPlace} (h : DataW.trod enc Try.prog W 0 (fun _ => true) true fuel 42 [v0, v1, v2, v3, v4, v5] = some x) (hsz : ∀ n, n ∈ x.1.weights Try.prog 42 → n ≤ reachBytes) :
    ∃ (n : Nn) (ao : Option Addr) (m c : Nat), v0 = .int .i64 n.kind ∧ v1 = .int .i64 n.ns ∧ v2 = .int .i64 n.up ∧ v3 = .string n.name ∧ v4 = .string n.text ∧ v5 = .slice ao m c ∧ Rp W ao m c n.attrs ∧ m ≤ 140737488355328 := by
  obtain ⟨xs, n, _, rfl, _, hlen, hf⟩ := DataW.trod_struct Try.underlying42 h
  match xs, hlen with
  | [y0, y1, y2, y3, y4, y5], _ =>
    have g0 := hf 0 _ rfl
    have g1 := hf 1 _ rfl
    have g2 := hf 2 _ rfl
    have g3 := hf 3 _ rfl
    have g4 := hf 4 _ rfl
    have g5 := hf 5 _ rfl
    simp [cells3, cells9, cells22] at g0 g1 g2 g3 g4 g5
    obtain ⟨k, e0, _⟩ := DataW.trod_int Try.underlying3 g0
    obtain ⟨s, e1, _⟩ := DataW.trod_int Try.underlying3 g1
    obtain ⟨u, e2, _⟩ := DataW.trod_int Try.underlying3 g2
    obtain ⟨x1, e3, _⟩ := DataW.trod_string Try.underlying9 g3
    obtain ⟨x2, e4, _⟩ := DataW.trod_string Try.underlying9 g4
    simp only [List.cons.injEq, and_true] at e0 e1 e2 e3 e4
    have hs2 : ∃ ao n c, v5 = .slice ao n c := by
      rcases open_slice Try.underlying22 g5 with ⟨hc, _⟩ | ⟨a, l, c, _, _, _, _, hc, _⟩
      · simp only [List.cons.injEq, and_true] at hc
        exact ⟨_, _, _, hc⟩
      · simp only [List.cons.injEq, and_true] at hc
        exact ⟨_, _, _, hc⟩
    obtain ⟨ao, m, c, rfl⟩ := hs2
    have ht : DataW.Trod enc Try.prog W 0 (fun _ => true) true 22 (.slice ao m c) y5.1 y5.2 := ⟨n, by simpa [Value.cells] using g5⟩
    obtain ⟨l, hr, hm, _, _⟩ := atts_of ht (fun j hj => hsz j (by simp [DataW.weights, Try.underlying42, DataW.weightsEach, hj]))
    exact ⟨(k, s, u, x1, x2, l), ao, m, c, e0, e1, e2, e3, e4, rfl, hr, hm⟩

theorem addr_plain {W : World} {a : Addr} {v : Value} (h : W.cell? a = some v) : ∃ b off, a = ⟨b, off, none⟩ := by
  obtain ⟨b, off, sp⟩ := a
  cases sp with
  | none => exact ⟨b, off, rfl⟩
  | some q =>
    simp [World.cell?] at h
    split at h <;> simp at h

/-- A slice of nodes that came in. -/
theorem nodes_of {H : Type} {enc : TypeId × Value → H} {W : World} {a : Option Addr} {len cap : Nat} {d : DataW H} {ps : List MemPlace} (h : DataW.Trod enc Try.prog W 0 (fun _ => true) true 30 (.slice a len cap) d ps) (hsz : ∀ n, n ∈ d.weights Try.prog 30 → n ≤ reachBytes) :
    ∃ L : List Nn, Ns W a len cap L ∧ len ≤ 140737488355328 := by
  have hrb := reachBytes_lt
  obtain ⟨fuel, hf⟩ := h
  rcases open_slice Try.underlying30 hf with ⟨hcs, hx⟩ | ⟨x, l, c, m, n, D, Pl, hcs, _, hl, hm, hmm, hx, hcell⟩
  · simp [Value.cells] at hcs
    obtain ⟨rfl, rfl, rfl⟩ := hcs
    exact ⟨[], ⟨rfl, Nat.le_refl _, fun i hi => by simp at hi⟩, by omega⟩
  · simp [Value.cells] at hcs
    obtain ⟨rfl, rfl, rfl⟩ := hcs
    simp only [if_true] at hmm
    subst hmm
    simp only [Prod.mk.injEq] at hx
    obtain ⟨rfl, _⟩ := hx
    have hcap : m ≤ 140737488355328 := by
      have := hsz ((((List.range len).map D).length + ((List.range (m - len)).map fun j => D (len + j)).length) * Try.prog.bytesOf 42) (by simp [DataW.weights, Try.underlying30])
      rw [bytes42] at this
      simp at this
      omega
    have each : ∀ i, i < len → ∃ y : Nn × Option Addr × Nat × Nat, (W.cell? (x.add (i * 6)) = some (.int .i64 y.1.kind) ∧ W.cell? (x.add (i * 6 + 1)) = some (.int .i64 y.1.ns) ∧ W.cell? (x.add (i * 6 + 2)) = some (.int .i64 y.1.up) ∧ W.cell? (x.add (i * 6 + 3)) = some (.string y.1.name) ∧ W.cell? (x.add (i * 6 + 4)) = some (.string y.1.text) ∧ W.cell? (x.add (i * 6 + 5)) = some (.slice y.2.1 y.2.2.1 y.2.2.2)) ∧ Rp W y.2.1 y.2.2.1 y.2.2.2 y.1.attrs ∧ y.2.2.1 ≤ 140737488355328 := fun i hi => by
      obtain ⟨cs', h1, h2⟩ := hcell i (by omega)
      rw [cells42] at h1
      obtain ⟨_, hlen, hc⟩ := World.cells?_some h1
      match cs', hlen with
      | [v0, v1, v2, v3, v4, v5], _ =>
        obtain ⟨nd, ao, m', c', rfl, rfl, rfl, rfl, rfl, rfl, ha, hn⟩ := node_cells h2 (fun k hk => hsz k (by
          simp only [DataW.weights, Try.underlying30, List.mem_cons, List.mem_append]
          exact Or.inr (Or.inl (mem_weightsAll (List.mem_map.2 ⟨i, List.mem_range.2 hi, rfl⟩) hk))))
        have hc' : ∀ j, j < 6 → W.cell? (x.add (i * 6 + j)) = [Value.int .i64 nd.kind, .int .i64 nd.ns, .int .i64 nd.up, .string nd.name, .string nd.text, .slice ao m' c'][j]? := fun j hj => by
          have := hc j hj
          rw [add_add] at this
          exact this
        exact ⟨(nd, ao, m', c'), ⟨hc' 0 (by omega), hc' 1 (by omega), hc' 2 (by omega), hc' 3 (by omega), hc' 4 (by omega), hc' 5 (by omega)⟩, ha, hn⟩
    obtain ⟨f, hf⟩ := choose_lt each
    refine ⟨(List.range len).map (fun i => (f i).1), ⟨by simp, hl, fun i hi => ?_⟩, by omega⟩
    have hi' : i < len := by simpa using hi
    obtain ⟨⟨c0, c1, c2, c3, c4, c5⟩, hr, hb⟩ := hf i hi'
    obtain ⟨b, off, e⟩ := addr_plain (hf 0 (by omega)).1.1
    simp only [Nat.zero_mul] at e
    have e' : x = ⟨b, off, none⟩ := by rw [← e]; simp [Addr.add]
    subst e'
    simp only [Addr.add_lit] at c0 c1 c2 c3 c4 c5
    have hg : ((List.range len).map (fun i => (f i).1))[i] = (f i).1 := by simp
    rw [hg]
    exact ⟨b, off, (f i).2.1, (f i).2.2.1, (f i).2.2.2, rfl, ⟨c0, by rw [Nat.add_assoc]; exact c1, by rw [Nat.add_assoc]; exact c2, by rw [Nat.add_assoc]; exact c3, by rw [Nat.add_assoc]; exact c4, by rw [Nat.add_assoc]; exact c5⟩, hr, hb⟩

end Go.Proofs.Ytgnbafgglkncmaa
