/-
  What came in: raw operations, one or a slice of them.
-/
import Derived.Test.YtpjkpobdkmcedaaDoorMadW
import Derived.Test.YtpjkpobdkmcedaaDoorLin
import Derived.Deep.SlicePairs
import Derived.Lib.SmallJoins
import Derived.SizedLaws
import Derived.Deep.Grids
import Derived.ProofKit
namespace Go.Proofs.YtpjkpobdkmcedaaDoor
open Go.ChangeShapes Go.WideShapes Go.RowKit Go.Deep
set_option linter.unusedVariables false
set_option linter.unusedSimpArgs false

/-- The text of a value. -/
def str : Value → ByteArray
  | .string s => s
  | _ => ⟨#[]⟩

theorem mem_weightsAll {H : Type} {P : Program} {e : TypeId} {n : Nat} : ∀ {ds : List (DataW H)} {d : DataW H}, d ∈ ds → n ∈ d.weights P e → n ∈ DataW.weightsAll P e ds
  | d0 :: ds, d, hd, hn => by
    simp only [DataW.weightsAll, List.mem_append]
    rcases List.mem_cons.1 hd with rfl | hd
    · exact Or.inl hn
    · exact Or.inr (mem_weightsAll hd hn)

theorem cells23 : Tryd.prog.cellsOf 26 = 2 := by kernel_rfl
theorem cells9 : Tryd.prog.cellsOf 9 = 1 := by kernel_rfl
theorem bytes23 : Tryd.prog.bytesOf 26 = 32 := by kernel_rfl

/-- A slice of attributes that came in. -/
theorem atts_of {H : Type} {enc : TypeId × Value → H} {W : World} {a : Option Addr} {len cap : Nat} {d : DataW H} {ps : List MemPlace} (h : DataW.Trod enc Tryd.prog W 0 (fun _ => true) true 22 (.slice a len cap) d ps) (hsz : ∀ n, n ∈ d.weights Tryd.prog 22 → n ≤ reachBytes) :
    ∃ l, Rp W a len cap l ∧ len ≤ 140737488355328 ∧ cap ≤ 140737488355328 ∧ fits l := by
  have hrb := reachBytes_lt
  obtain ⟨fuel, hf⟩ := h
  rcases open_slice_pairs Tryd.underlying22 Tryd.underlying26 cells23 rfl rfl cells9 cells9 hf with ⟨hcs, hx⟩ | ⟨x, l, c, m, n, V0, V1, D0, D1, P0, P1, hcs, _, hl, hm, hmm, hx, hcell⟩
  · simp [Value.cells] at hcs
    obtain ⟨rfl, rfl, rfl⟩ := hcs
    exact ⟨[], ⟨rfl, Nat.le_refl _, fun j hj => by omega⟩, by omega, by omega, fun a ha => by simp at ha⟩
  · simp [Value.cells] at hcs
    obtain ⟨rfl, rfl, rfl⟩ := hcs
    simp only [if_true] at hmm
    subst hmm
    simp only [Prod.mk.injEq] at hx
    obtain ⟨rfl, _⟩ := hx
    have hst : ∀ i, i < m → W.cell? (x.add (i * 2)) = some (.string (str (V0 i))) ∧ W.cell? (x.add (i * 2 + 1)) = some (.string (str (V1 i))) ∧ D0 i = .lit (.string (str (V0 i)).data.toList) ∧ D1 i = .lit (.string (str (V1 i)).data.toList) := by
      intro i hi
      obtain ⟨h0, h1, h2, h3⟩ := hcell i hi
      obtain ⟨s0, e0, e1, _⟩ := DataW.trod_string Tryd.underlying9 h2
      obtain ⟨s1, f0, f1, _⟩ := DataW.trod_string Tryd.underlying9 h3
      simp only [List.cons.injEq, and_true] at e0 f0
      simp only [Prod.mk.injEq] at e1 f1
      rw [e0] at h0 ⊢
      rw [f0] at h1 ⊢
      exact ⟨h0, h1, e1.1, f1.1⟩
    have hcap : m ≤ 140737488355328 := by
      have := hsz ((((List.range len).map fun i => DataW.agg [D0 i, D1 i]).length + ((List.range (m - len)).map fun j => DataW.agg [D0 (len + j), D1 (len + j)]).length) * Tryd.prog.bytesOf 26) (by simp [DataW.weights, Tryd.underlying22])
      rw [bytes23] at this
      simp at this
      omega
    refine ⟨(List.range len).map fun i => (str (V0 i), str (V1 i)), ⟨by simp, hl, fun j hj => ?_⟩, by omega, hcap, fun y hy => ?_⟩
    · obtain ⟨b, off, sp⟩ := x
      cases sp with
      | some q =>
        have h0 := (hst 0 (by omega)).1
        simp [World.cell?, Addr.add] at h0
        split at h0 <;> simp at h0
      | none =>
        refine ⟨b, off, rfl, ?_⟩
        have hi : j / 2 < ((List.range len).map fun i => (str (V0 i), str (V1 i))).length := by simp; omega
        obtain ⟨h0, h1, _⟩ := hst (j / 2) (by omega)
        rw [Addr.add_lit] at h0 h1
        rcases Nat.mod_two_eq_zero_or_one j with hj2 | hj2
        · have ej : j = j / 2 * 2 := by omega
          have := cs_fst _ (j / 2) hi
          rw [← ej] at this h0
          rw [h0, this]
          simp
        · have ej : j = j / 2 * 2 + 1 := by omega
          have := cs_snd _ (j / 2) hi
          rw [← ej] at this h1
          rw [h1, this]
          simp
    · obtain ⟨i, hi, rfl⟩ := List.mem_map.1 hy
      have hil := List.mem_range.1 hi
      obtain ⟨_, _, h2, h3⟩ := hst i (by omega)
      have hw : ∀ n, n ∈ (DataW.agg [D0 i, D1 i]).weights Tryd.prog 26 → n ≤ reachBytes := fun n hn => hsz n (by
        simp only [DataW.weights, Tryd.underlying22, List.mem_cons, List.mem_append]
        exact Or.inr (Or.inl (mem_weightsAll (List.mem_map.2 ⟨i, hi, rfl⟩) hn)))
      rw [h2, h3] at hw
      have w0 := hw (str (V0 i)).data.toList.length (by simp [DataW.weights, Tryd.underlying26, DataW.weightsEach])
      have w1 := hw (str (V1 i)).data.toList.length (by simp [DataW.weights, Tryd.underlying26, DataW.weightsEach])
      rw [Array.length_toList] at w0 w1
      exact ⟨by show (str (V0 i)).data.size ≤ _; omega, by show (str (V1 i)).data.size ≤ _; omega⟩

/-- A raw operation. -/
structure Rw where
  o : Ot
  t : Bool
  k : Int

theorem cellsOpT : Tryd.prog.cellsOf 24 = 9 := by kernel_rfl
theorem cellsRaw : Tryd.prog.cellsOf 40 = 11 := by kernel_rfl
theorem cellsInt : Tryd.prog.cellsOf 3 = 1 := by kernel_rfl
theorem cellsBool : Tryd.prog.cellsOf 4 = 1 := by kernel_rfl
theorem cellsAtts : Tryd.prog.cellsOf 22 = 1 := by kernel_rfl
theorem bytesRaw : Tryd.prog.bytesOf 40 = 120 := by kernel_rfl

/-- All its numbers are such that an int can hold. -/
def rw64 (r : Rw) : Prop := in64 r.o ∧ i64 r.k

set_option maxRecDepth 20000 in
/-- Nine cells that can be read as an operation are one. -/
theorem op_cells {H : Type} {enc : TypeId × Value → H} {W : World} {fuel : Nat} {v0 v1 v2 v3 v4 v5 v6 v7 v8 : Value} {x : DataW H × List MemPlace} (h : DataW.trod enc Tryd.prog W 0 (fun _ => true) true fuel 24 [v0, v1, v2, v3, v4, v5, v6, v7, v8] = some x) (hsz : ∀ n, n ∈ x.1.weights Tryd.prog 24 → n ≤ reachBytes) :
    ∃ (o : Ot) (p : Sl), [v0, v1, v2, v3, v4, v5, v6, v7, v8] = (oc o p).toList ∧ Rp W p.1 p.2.1 p.2.2 o.al ∧ p.2.1 ≤ 140737488355328 ∧ in64 o := by
  obtain ⟨xs, n, _, rfl, _, hlen, hf⟩ := DataW.trod_struct Tryd.underlying24 h
  match xs, hlen with
  | [y0, y1, y2, y3, y4, y5, y6, y7, y8], _ =>
    have g0 := hf 0 _ rfl
    have g1 := hf 1 _ rfl
    have g2 := hf 2 _ rfl
    have g3 := hf 3 _ rfl
    have g4 := hf 4 _ rfl
    have g5 := hf 5 _ rfl
    have g6 := hf 6 _ rfl
    have g7 := hf 7 _ rfl
    have g8 := hf 8 _ rfl
    simp [cellsInt, cells9, cellsAtts, cellsBool] at g0 g1 g2 g3 g4 g5 g6 g7 g8
    obtain ⟨z0, e0, _, r0⟩ := DataW.trod_int Tryd.underlying3 g0
    obtain ⟨z1, e1, _, r1⟩ := DataW.trod_int Tryd.underlying3 g1
    obtain ⟨z2, e2, _, r2⟩ := DataW.trod_int Tryd.underlying3 g2
    obtain ⟨z3, e3, _, r3⟩ := DataW.trod_int Tryd.underlying3 g3
    obtain ⟨z4, e4, _, r4⟩ := DataW.trod_int Tryd.underlying3 g4
    obtain ⟨z5, e5, _, r5⟩ := DataW.trod_int Tryd.underlying3 g5
    obtain ⟨x6, e6, _⟩ := DataW.trod_string Tryd.underlying9 g6
    obtain ⟨x8, e8, _⟩ := DataW.trod_string Tryd.underlying9 g8
    simp only [List.cons.injEq, and_true] at e0 e1 e2 e3 e4 e5 e6 e8
    have hs2 : ∃ ao n c, v7 = .slice ao n c := by
      rcases open_slice Tryd.underlying22 g7 with ⟨hc, _⟩ | ⟨a, l, c, _, _, _, _, hc, _⟩
      · simp only [List.cons.injEq, and_true] at hc
        exact ⟨_, _, _, hc⟩
      · simp only [List.cons.injEq, and_true] at hc
        exact ⟨_, _, _, hc⟩
    obtain ⟨ao, m, c, rfl⟩ := hs2
    have ht : DataW.Trod enc Tryd.prog W 0 (fun _ => true) true 22 (.slice ao m c) y7.1 y7.2 := ⟨n, by simpa [Value.cells] using g7⟩
    obtain ⟨l, hr, hm, _, _⟩ := atts_of ht (fun j hj => hsz j (by simp [DataW.weights, Tryd.underlying24, DataW.weightsEach, hj]))
    have q0 := bounds_i64 r0
    have q1 := bounds_i64 r1
    have q2 := bounds_i64 r2
    have q3 := bounds_i64 r3
    have q4 := bounds_i64 r4
    have q5 := bounds_i64 r5
    refine ⟨⟨z0, z1, z2, z3, z4, z5, x6, l, x8⟩, (ao, m, c), by rw [e0, e1, e2, e3, e4, e5, e6, e8]; rfl, hr, hm, ?_⟩
    unfold in64 i64
    simp only
    omega

set_option maxRecDepth 20000 in
/-- Eleven cells that can be read as a raw operation are one. -/
theorem raw_cells {H : Type} {enc : TypeId × Value → H} {W : World} {fuel : Nat} {v0 v1 v2 v3 v4 v5 v6 v7 v8 v9 v10 : Value} {x : DataW H × List MemPlace} (h : DataW.trod enc Tryd.prog W 0 (fun _ => true) true fuel 40 [v0, v1, v2, v3, v4, v5, v6, v7, v8, v9, v10] = some x) (hsz : ∀ n, n ∈ x.1.weights Tryd.prog 40 → n ≤ reachBytes) :
    ∃ (r : Rw) (p : Sl), [v0, v1, v2, v3, v4, v5, v6, v7, v8, v9, v10] = (rcs r.o p r.t r.k).toList ∧ Rp W p.1 p.2.1 p.2.2 r.o.al ∧ p.2.1 ≤ 140737488355328 ∧ rw64 r := by
  obtain ⟨xs, n, _, rfl, _, hlen, hf⟩ := DataW.trod_struct Tryd.underlying40 h
  match xs, hlen with
  | [y0, y1, y2], _ =>
    have g0 := hf 0 _ rfl
    have g1 := hf 1 _ rfl
    have g2 := hf 2 _ rfl
    simp [cellsOpT, cellsInt, cellsBool] at g0 g1 g2
    obtain ⟨o, p, e, ha, hp, hi⟩ := op_cells g0 (fun j hj => hsz j (by simp [DataW.weights, Tryd.underlying40, DataW.weightsEach, hj]))
    obtain ⟨b, e1, _⟩ := DataW.trod_bool Tryd.underlying4 g1
    obtain ⟨z, e2, _, r2⟩ := DataW.trod_int Tryd.underlying3 g2
    simp only [List.cons.injEq, and_true] at e1 e2
    have q2 := bounds_i64 r2
    simp only [oc, List.cons.injEq, and_true] at e
    obtain ⟨a0, a1, a2, a3, a4, a5, a6, a7, a8⟩ := e
    exact ⟨⟨o, b, z⟩, p, by rw [a0, a1, a2, a3, a4, a5, a6, a7, a8, e1, e2]; rfl, ha, hp, hi, by unfold i64; omega⟩

theorem array11 {a : Array Value} (h : a.size = 11) : ∃ v0 v1 v2 v3 v4 v5 v6 v7 v8 v9 v10, a = #[v0, v1, v2, v3, v4, v5, v6, v7, v8, v9, v10] := by
  obtain ⟨l⟩ := a
  match l, h with
  | [v0, v1, v2, v3, v4, v5, v6, v7, v8, v9, v10], _ => exact ⟨v0, v1, v2, v3, v4, v5, v6, v7, v8, v9, v10, rfl⟩

/-- A raw operation that came in. -/
theorem raw_of {H : Type} {enc : TypeId × Value → H} {W : World} {base : Nat} {v : Value} {d : DataW H} {ps : List MemPlace} (hv : Value.okWide Tryd.prog W .any base 40 v) (h : DataW.Trod enc Tryd.prog W 0 (fun _ => true) true 40 v d ps) (hsz : ∀ n, n ∈ d.weights Tryd.prog 40 → n ≤ reachBytes) :
    ∃ (r : Rw) (p : Sl), v = rv r.o p r.t r.k ∧ At W (r.o, p) ∧ p.2.1 ≤ 140737488355328 ∧ rw64 r := by
  obtain ⟨cs, rfl, hcs⟩ := okWide_struct Tryd.underlying40 hv
  obtain ⟨v0, v1, v2, v3, v4, v5, v6, v7, v8, v9, v10, rfl⟩ := array11 (hcs.trans cellsRaw)
  obtain ⟨fuel, hf⟩ := h
  have hf' : DataW.trod enc Tryd.prog W 0 (fun _ => true) true fuel 40 [v0, v1, v2, v3, v4, v5, v6, v7, v8, v9, v10] = some (d, ps) := by simpa [Value.cells] using hf
  obtain ⟨r, p, e, ha, hn, hi⟩ := raw_cells hf' hsz
  refine ⟨r, p, ?_, ha, hn, hi⟩
  show Value.agg ([v0, v1, v2, v3, v4, v5, v6, v7, v8, v9, v10].toArray) = _
  rw [e]
  rfl

theorem addr_plain {W : World} {a : Addr} {v : Value} (h : W.cell? a = some v) : ∃ b off, a = ⟨b, off, none⟩ := by
  obtain ⟨b, off, sp⟩ := a
  cases sp with
  | none => exact ⟨b, off, rfl⟩
  | some q =>
    simp [World.cell?] at h
    split at h <;> simp at h

/-- A slice of raw operations, that is read. -/
def Win (W : World) (a : Option Addr) (n c : Nat) (F : Nat → Rw) : Prop := n ≤ c ∧ n ≤ 140737488355328 ∧ ∀ i, i < n → ∃ b off p, a = some ⟨b, off, none⟩ ∧ (∀ j, j < 11 → W.cell? ⟨b, off + i * 11 + j, none⟩ = (rcs (F i).o p (F i).t (F i).k)[j]?) ∧ At W ((F i).o, p) ∧ p.2.1 ≤ 140737488355328 ∧ rw64 (F i)

theorem Win.kept {W W' : World} {a : Option Addr} {n c : Nat} {F : Nat → Rw} (h : Win W a n c F) (k : Kp [] W W') : Win W' a n c F := by
  refine ⟨h.1, h.2.1, fun i hi => ?_⟩
  obtain ⟨b, off, p, e, hc, ha, hp, hr⟩ := h.2.2 i hi
  have hb : b < W.heap.size := block_lt_of_cell (a := ⟨b, off + i * 11 + 0, none⟩) (hc 0 (by omega))
  exact ⟨b, off, p, e, fun j hj => by rw [k.cell hb (by simp)]; exact hc j hj, ha.kept k, hp, hr⟩

/-- A slice of raw operations that came in. -/
theorem raws_of {H : Type} {enc : TypeId × Value → H} {W : World} {a : Option Addr} {len cap : Nat} {d : DataW H} {ps : List MemPlace} (h : DataW.Trod enc Tryd.prog W 0 (fun _ => true) true 37 (.slice a len cap) d ps) (hsz : ∀ n, n ∈ d.weights Tryd.prog 37 → n ≤ reachBytes) :
    ∃ F : Nat → Rw, Win W a len cap F := by
  have hrb := reachBytes_lt
  obtain ⟨fuel, hf⟩ := h
  rcases open_slice Tryd.underlying37 hf with ⟨hcs, hx⟩ | ⟨x, l, c, m, n, D, Pl, hcs, _, hl, hm, hmm, hx, hcell⟩
  · simp [Value.cells] at hcs
    obtain ⟨rfl, rfl, rfl⟩ := hcs
    exact ⟨fun _ => ⟨⟨0, 0, 0, 0, 0, 0, ⟨#[]⟩, [], ⟨#[]⟩⟩, false, 0⟩, Nat.le_refl _, by omega, fun i hi => by omega⟩
  · simp [Value.cells] at hcs
    obtain ⟨rfl, rfl, rfl⟩ := hcs
    simp only [if_true] at hmm
    subst hmm
    simp only [Prod.mk.injEq] at hx
    obtain ⟨rfl, _⟩ := hx
    have hcap : m ≤ 140737488355328 := by
      have := hsz ((((List.range len).map D).length + ((List.range (m - len)).map fun j => D (len + j)).length) * Tryd.prog.bytesOf 40) (by simp [DataW.weights, Tryd.underlying37])
      rw [bytesRaw] at this
      simp at this
      omega
    have each : ∀ i, i < len → ∃ y : Rw × Sl, (∀ j, j < 11 → W.cell? (x.add (i * 11 + j)) = (rcs y.1.o y.2 y.1.t y.1.k)[j]?) ∧ At W (y.1.o, y.2) ∧ y.2.2.1 ≤ 140737488355328 ∧ rw64 y.1 := fun i hi => by
      obtain ⟨cs', h1, h2⟩ := hcell i (by omega)
      rw [cellsRaw] at h1
      obtain ⟨_, hlen, hc⟩ := World.cells?_some h1
      match cs', hlen with
      | [v0, v1, v2, v3, v4, v5, v6, v7, v8, v9, v10], _ =>
        obtain ⟨y, p, e, ha, hn, hi2⟩ := raw_cells h2 (fun k hk => hsz k (by
          simp only [DataW.weights, Tryd.underlying37, List.mem_cons, List.mem_append]
          exact Or.inr (Or.inl (mem_weightsAll (List.mem_map.2 ⟨i, List.mem_range.2 hi, rfl⟩) hk))))
        refine ⟨(y, p), fun j hj => ?_, ha, hn, hi2⟩
        have := hc j hj
        rw [add_add] at this
        rw [this, e]
        simp
    have inst : Inhabited (Rw × Sl) := ⟨⟨⟨⟨0, 0, 0, 0, 0, 0, ⟨#[]⟩, [], ⟨#[]⟩⟩, false, 0⟩, none, 0, 0⟩⟩
    obtain ⟨f, hf⟩ := choose_lt each
    refine ⟨fun i => (f i).1, hl, by omega, fun i hi => ?_⟩
    obtain ⟨hc, hr, hb, h64⟩ := hf i hi
    obtain ⟨b, off, e⟩ := addr_plain ((hf 0 (by omega)).1 0 (by omega))
    simp only [Nat.zero_mul, Nat.add_zero] at e
    have e' : x = ⟨b, off, none⟩ := by rw [← e]; simp [Addr.add]
    subst e'
    refine ⟨b, off, (f i).2, rfl, fun j hj => ?_, hr, hb, h64⟩
    have := hc j hj
    rw [Addr.add_lit, ← Nat.add_assoc] at this
    exact this

end Go.Proofs.YtpjkpobdkmcedaaDoor
