/-
  Joined: Xio Oup.
-/
import Derived.Test.YtpkppobkagdhkaaGreatJ41
import Derived.Deep.SlicePairs
import Derived.Lib.SmallJoins
import Derived.SizedLaws
import Derived.Deep.Grids
import Derived.ProofKit
import Derived.Test.YtpkppobkagdhkaaGreatJ43

/-
  What came in: a slice of raw operations.
-/
namespace Go.Proofs.YtpkppobkagdhkaaGreat
open Go.ChangeShapes Go.WideShapes Go.RowKit Go.Deep

/-- The text of a value. -/
def str : Value → ByteArray
  | .string s => s
  | _ => ⟨#[]⟩

theorem mem_weightsAll {H : Type} {P : Program} {e : TypeId} {n : Nat} : ∀ {ds : List (DataW H)} {d : DataW H}, d ∈ ds → n ∈ d.weights P e → n ∈ DataW.weightsAll P e ds
  | d0 :: ds, d, hd, hn => by
    simp only [DataW.weightsAll, List.mem_append]
    rcases List.mem_cons.1 hd with rfl | hd
    · exact Or.inl hn
    · exact Or.inr (mem_weightsAll hd hn)

theorem cells23 : Tryz.prog.cellsOf 102 = 2 := by kernel_rfl
theorem cells9 : Tryz.prog.cellsOf 9 = 1 := by kernel_rfl
theorem bytes23 : Tryz.prog.bytesOf 102 = 32 := by kernel_rfl

/-- A slice of attributes that came in. -/
theorem atts_of {H : Type} {enc : TypeId × Value → H} {W : World} {a : Option Addr} {len cap : Nat} {d : DataW H} {ps : List MemPlace} (h : DataW.Trod enc Tryz.prog W 0 (fun _ => true) true 22 (.slice a len cap) d ps) (hsz : ∀ n, n ∈ d.weights Tryz.prog 22 → n ≤ reachBytes) :
    ∃ l, Rp W a len cap l ∧ len ≤ 140737488355328 ∧ cap ≤ 140737488355328 ∧ fits l := by
  have hrb := reachBytes_lt
  obtain ⟨fuel, hf⟩ := h
  rcases open_slice_pairs Tryz.underlying22 Tryz.underlying102 cells23 rfl rfl cells9 cells9 hf with ⟨hcs, hx⟩ | ⟨x, l, c, m, n, V0, V1, D0, D1, P0, P1, hcs, _, hl, hm, hmm, hx, hcell⟩
  · simp [Value.cells] at hcs
    obtain ⟨rfl, rfl, rfl⟩ := hcs
    exact ⟨[], ⟨rfl, Nat.le_refl _, fun j hj => by omega⟩, by omega, by omega, fun a ha => by simp at ha⟩
  · simp [Value.cells] at hcs
    obtain ⟨rfl, rfl, rfl⟩ := hcs
    simp only [if_true] at hmm
    subst hmm
    simp only [Prod.mk.injEq] at hx
    obtain ⟨rfl, _⟩ := hx
    have hst : ∀ i, i < m → W.cell? (x.add (i * 2)) = some (.string (str (V0 i))) ∧ W.cell? (x.add (i * 2 + 1)) = some (.string (str (V1 i))) ∧ D0 i = .lit (.string (str (V0 i)).data.toList) ∧ D1 i = .lit (.string (str (V1 i)).data.toList) := by
      intro i hi
      obtain ⟨h0, h1, h2, h3⟩ := hcell i hi
      obtain ⟨s0, e0, e1, _⟩ := DataW.trod_string Tryz.underlying9 h2
      obtain ⟨s1, f0, f1, _⟩ := DataW.trod_string Tryz.underlying9 h3
      simp only [List.cons.injEq, and_true] at e0 f0
      simp only [Prod.mk.injEq] at e1 f1
      rw [e0] at h0 ⊢
      rw [f0] at h1 ⊢
      exact ⟨h0, h1, e1.1, f1.1⟩
    have hcap : m ≤ 140737488355328 := by
      have := hsz ((((List.range len).map fun i => DataW.agg [D0 i, D1 i]).length + ((List.range (m - len)).map fun j => DataW.agg [D0 (len + j), D1 (len + j)]).length) * Tryz.prog.bytesOf 102) (by simp [DataW.weights, Tryz.underlying22])
      rw [bytes23] at this
      simp at this
      omega
    refine ⟨(List.range len).map fun i => (str (V0 i), str (V1 i)), ⟨by simp, hl, fun j hj => ?_⟩, by omega, hcap, fun y hy => ?_⟩
    · obtain ⟨b, off, sp⟩ := x
      cases sp with
      | some q =>
        have h0 := (hst 0 (by omega)).1
        simp [World.cell?, Addr.add] at h0
        split at h0 <;> simp at h0
      | none =>
        refine ⟨b, off, rfl, ?_⟩
        have hi : j / 2 < ((List.range len).map fun i => (str (V0 i), str (V1 i))).length := by simp; omega
        obtain ⟨h0, h1, _⟩ := hst (j / 2) (by omega)
        rw [Addr.add_lit] at h0 h1
        rcases Nat.mod_two_eq_zero_or_one j with hj2 | hj2
        · have ej : j = j / 2 * 2 := by omega
          have := cs_fst _ (j / 2) hi
          rw [← ej] at this h0
          rw [h0, this]
          simp
        · have ej : j = j / 2 * 2 + 1 := by omega
          have := cs_snd _ (j / 2) hi
          rw [← ej] at this h1
          rw [h1, this]
          simp
    · obtain ⟨i, hi, rfl⟩ := List.mem_map.1 hy
      have hil := List.mem_range.1 hi
      obtain ⟨_, _, h2, h3⟩ := hst i (by omega)
      have hw : ∀ n, n ∈ (DataW.agg [D0 i, D1 i]).weights Tryz.prog 102 → n ≤ reachBytes := fun n hn => hsz n (by
        simp only [DataW.weights, Tryz.underlying22, List.mem_cons, List.mem_append]
        exact Or.inr (Or.inl (mem_weightsAll (List.mem_map.2 ⟨i, hi, rfl⟩) hn)))
      rw [h2, h3] at hw
      have w0 := hw (str (V0 i)).data.toList.length (by simp [DataW.weights, Tryz.underlying102, DataW.weightsEach])
      have w1 := hw (str (V1 i)).data.toList.length (by simp [DataW.weights, Tryz.underlying102, DataW.weightsEach])
      rw [Array.length_toList] at w0 w1
      exact ⟨by show (str (V0 i)).data.size ≤ _; omega, by show (str (V1 i)).data.size ≤ _; omega⟩

theorem cellsRaw : Tryz.prog.cellsOf 28 = 9 := by kernel_rfl
theorem cellsInt : Tryz.prog.cellsOf 3 = 1 := by kernel_rfl
theorem cellsAtts : Tryz.prog.cellsOf 22 = 1 := by kernel_rfl
theorem bytesRaw : Tryz.prog.bytesOf 28 = 104 := by kernel_rfl

set_option maxRecDepth 20000 in
/-- Nine cells that can be read as a raw operation are one. -/
theorem raw_cells {H : Type} {enc : TypeId × Value → H} {W : World} {fuel : Nat} {v0 v1 v2 v3 v4 v5 v6 v7 v8 : Value} {x : DataW H × List MemPlace} (h : DataW.trod enc Tryz.prog W 0 (fun _ => true) true fuel 28 [v0, v1, v2, v3, v4, v5, v6, v7, v8] = some x) (hsz : ∀ n, n ∈ x.1.weights Tryz.prog 28 → n ≤ reachBytes) :
    ∃ (y : Rx) (p : Sl), [v0, v1, v2, v3, v4, v5, v6, v7, v8] = (rxc y p).toList ∧ Rp W p.1 p.2.1 p.2.2 y.l ∧ p.2.1 ≤ 140737488355328 := by
  obtain ⟨xs, n, _, rfl, _, hlen, hf⟩ := DataW.trod_struct Tryz.underlying28 h
  match xs, hlen with
  | [y0, y1, y2, y3, y4, y5, y6, y7, y8], _ =>
    have g0 := hf 0 _ rfl
    have g1 := hf 1 _ rfl
    have g2 := hf 2 _ rfl
    have g3 := hf 3 _ rfl
    have g4 := hf 4 _ rfl
    have g5 := hf 5 _ rfl
    have g6 := hf 6 _ rfl
    have g7 := hf 7 _ rfl
    have g8 := hf 8 _ rfl
    simp [cellsInt, cells9, cellsAtts] at g0 g1 g2 g3 g4 g5 g6 g7 g8
    obtain ⟨z0, e0, _⟩ := DataW.trod_int Tryz.underlying3 g0
    obtain ⟨z1, e1, _⟩ := DataW.trod_int Tryz.underlying3 g1
    obtain ⟨z2, e2, _⟩ := DataW.trod_int Tryz.underlying3 g2
    obtain ⟨z3, e3, _⟩ := DataW.trod_int Tryz.underlying3 g3
    obtain ⟨z4, e4, _⟩ := DataW.trod_int Tryz.underlying3 g4
    obtain ⟨z5, e5, _⟩ := DataW.trod_int Tryz.underlying3 g5
    obtain ⟨x6, e6, _⟩ := DataW.trod_string Tryz.underlying9 g6
    obtain ⟨x7, e7, _⟩ := DataW.trod_string Tryz.underlying9 g7
    simp only [List.cons.injEq, and_true] at e0 e1 e2 e3 e4 e5 e6 e7
    have hs2 : ∃ ao n c, v8 = .slice ao n c := by
      rcases open_slice Tryz.underlying22 g8 with ⟨hc, _⟩ | ⟨a, l, c, _, _, _, _, hc, _⟩
      · simp only [List.cons.injEq, and_true] at hc
        exact ⟨_, _, _, hc⟩
      · simp only [List.cons.injEq, and_true] at hc
        exact ⟨_, _, _, hc⟩
    obtain ⟨ao, m, c, rfl⟩ := hs2
    have ht : DataW.Trod enc Tryz.prog W 0 (fun _ => true) true 22 (.slice ao m c) y8.1 y8.2 := ⟨n, by simpa [Value.cells] using g8⟩
    obtain ⟨l, hr, hm, _, _⟩ := atts_of ht (fun j hj => hsz j (by simp [DataW.weights, Tryz.underlying28, DataW.weightsEach, hj]))
    exact ⟨⟨z0, z1, z2, z3, z4, z5, x6, x7, l⟩, (ao, m, c), by rw [e0, e1, e2, e3, e4, e5, e6, e7]; rfl, hr, hm⟩

theorem addr_plain {W : World} {a : Addr} {v : Value} (h : W.cell? a = some v) : ∃ b off, a = ⟨b, off, none⟩ := by
  obtain ⟨b, off, sp⟩ := a
  cases sp with
  | none => exact ⟨b, off, rfl⟩
  | some q =>
    simp [World.cell?] at h
    split at h <;> simp at h

/-- A slice of raw operations that came in. -/
theorem raws_of {H : Type} {enc : TypeId × Value → H} {W : World} {a : Option Addr} {len cap : Nat} {d : DataW H} {ps : List MemPlace} (h : DataW.Trod enc Tryz.prog W 0 (fun _ => true) true 31 (.slice a len cap) d ps) (hsz : ∀ n, n ∈ d.weights Tryz.prog 31 → n ≤ reachBytes) :
    ∃ F : Nat → Rx, Xin W a len cap F := by
  have hrb := reachBytes_lt
  obtain ⟨fuel, hf⟩ := h
  rcases open_slice Tryz.underlying31 hf with ⟨hcs, hx⟩ | ⟨x, l, c, m, n, D, Pl, hcs, _, hl, hm, hmm, hx, hcell⟩
  · simp [Value.cells] at hcs
    obtain ⟨rfl, rfl, rfl⟩ := hcs
    exact ⟨fun _ => ⟨0, 0, 0, 0, 0, 0, ⟨#[]⟩, ⟨#[]⟩, []⟩, Nat.le_refl _, by omega, fun i hi => by omega⟩
  · simp [Value.cells] at hcs
    obtain ⟨rfl, rfl, rfl⟩ := hcs
    simp only [if_true] at hmm
    subst hmm
    simp only [Prod.mk.injEq] at hx
    obtain ⟨rfl, _⟩ := hx
    have hcap : m ≤ 140737488355328 := by
      have := hsz ((((List.range len).map D).length + ((List.range (m - len)).map fun j => D (len + j)).length) * Tryz.prog.bytesOf 28) (by simp [DataW.weights, Tryz.underlying31])
      rw [bytesRaw] at this
      simp at this
      omega
    have each : ∀ i, i < len → ∃ y : Rx × Sl, (∀ j, j < 9 → W.cell? (x.add (i * 9 + j)) = (rxc y.1 y.2)[j]?) ∧ Rp W y.2.1 y.2.2.1 y.2.2.2 y.1.l ∧ y.2.2.1 ≤ 140737488355328 := fun i hi => by
      obtain ⟨cs', h1, h2⟩ := hcell i (by omega)
      rw [cellsRaw] at h1
      obtain ⟨_, hlen, hc⟩ := World.cells?_some h1
      match cs', hlen with
      | [v0, v1, v2, v3, v4, v5, v6, v7, v8], _ =>
        obtain ⟨y, p, e, ha, hn⟩ := raw_cells h2 (fun k hk => hsz k (by
          simp only [DataW.weights, Tryz.underlying31, List.mem_cons, List.mem_append]
          exact Or.inr (Or.inl (mem_weightsAll (List.mem_map.2 ⟨i, List.mem_range.2 hi, rfl⟩) hk))))
        refine ⟨(y, p), fun j hj => ?_, ha, hn⟩
        have := hc j hj
        rw [add_add] at this
        rw [this, e]
        simp
    have inst : Inhabited (Rx × Sl) := ⟨⟨⟨0, 0, 0, 0, 0, 0, ⟨#[]⟩, ⟨#[]⟩, []⟩, none, 0, 0⟩⟩
    obtain ⟨f, hf⟩ := choose_lt each
    refine ⟨fun i => (f i).1, hl, by omega, fun i hi => ?_⟩
    obtain ⟨hc, hr, hb⟩ := hf i hi
    obtain ⟨b, off, e⟩ := addr_plain ((hf 0 (by omega)).1 0 (by omega))
    simp only [Nat.zero_mul, Nat.add_zero] at e
    have e' : x = ⟨b, off, none⟩ := by rw [← e]; simp [Addr.add]
    subst e'
    refine ⟨b, off, (f i).2, rfl, fun j hj => ?_, hr, hb⟩
    have := hc j hj
    rw [Addr.add_lit, ← Nat.add_assoc] at this
    exact this

end Go.Proofs.YtpkppobkagdhkaaGreat

/-
  A list of operations that grows beside the program's player; trees that are kept meanwhile.
-/
namespace Go.Proofs.YtpkppobkagdhkaaGreat
open Go.RowKit Go.Maps Utf
set_option linter.unusedVariables false
set_option linter.unusedSimpArgs false

section
variable {tag tag' : Nat → Nat} {w U U' : World} {b a m d k : Nat} {s : Py} {q : List Oq} {ao : Option Addr} {n c : Nat}

/-- Blocks of mark 0 alone have turned. -/
theorem Pp.sm0 {S : List Nat} (h : Pp tag U b a m s k) (kp : Kp S U U') (hS : ∀ x, x ∈ S → x < U.heap.size → tag x = 0) (hg : ∀ x, x < U.heap.size → tag' x = tag x) : Pp tag' U' b a m s k := by
  refine ⟨h.hd.kept kp (fun hs => by have := hS b hs h.hd.lt; have := h.tb; omega), by rw [hg b h.hd.lt]; exact h.tb, h.ps.sm kp.size kp.os kp.tape kp.output (fun x hx hp => kp.block x hx (fun hs => by have := hS x hs hx; unfold isP at hp; omega)) hg, h.nb.same (kp.block m h.nb.lt (fun hs => by have := hS m hs h.nb.lt; have := h.tm; omega)), by rw [hg m h.nb.lt]; exact h.tm, h.fit⟩

theorem Pv.kps (v : Pv tag U tag' U') : ∃ S, Kp S U U' ∧ ∀ x, x ∈ S → x < U.heap.size → tag x ≠ 0 := by
  classical
  refine ⟨(List.range U.heap.size).filter fun x => decide (tag x ≠ 0), ⟨v.os, v.tape, v.output, v.size, fun x hx hn => ?_⟩, fun x hx _ => ?_⟩
  · simp only [List.mem_filter, List.mem_range, decide_eq_true_eq, not_and, Classical.not_not] at hn
    have := hn hx
    exact v.block x hx (by unfold isP; omega) (by omega)
  · simp only [List.mem_filter, decide_eq_true_eq] at hx
    exact hx.2

theorem Ou.pv (h : Ou tag w U ao n c q) (v : Pv tag U tag' U') : Ou tag' w U' ao n c q := by
  obtain ⟨S, kp, hS⟩ := v.kps
  exact h.sm kp hS v.tg

/-- One more, beside the program's player. -/
theorem Ou.appP (h : Ou tag w U ao n c q) (hP : Pp tag U b a m s k) (p : Oq) (hp : Ao U p) (ht : ∀ x, x ∈ blk (.slice p.2.1 p.2.2.1 p.2.2.2) → tag x = 0) (hlen : n + 1 ≤ 1000000) :
    ∃ ao' n' c' U2 tag2, (∀ ty, (Builtin.append_ #[25, 25] ty #[.slice ao n c, .slice (some ⟨U.heap.size, 0, none⟩) 1 1]).run Tryz.prog (U.alloc (.cells (oc p.1 p.2) 24)) = .ok (.slice ao' n' c') U2) ∧ Ou tag2 w U2 ao' n' c' (q ++ [p]) ∧ Pp tag2 U2 b a m s k := by
  have k1 : Kp [] U (U.alloc (.cells (oc p.1 p.2) 24)) := (Kp.refl _ _).alloc _
  have hg : ∀ x, x < U.heap.size → (fun x => if x < U.heap.size then tag x else 0) x = tag x := fun x hx => if_pos hx
  have h1 := h.re k1 hg
  have P1 := hP.re k1 hg
  have hs := src_op (p := p) (heap_new U _)
  obtain ⟨v', U2, hrun, o2, k2, b2, a2, c2, rfl⟩ := appK Tryz.underlying25 infoOp rfl (by decide) _ _ _ _ h1.own _ 1 (qs [p]) hs (fun _ => by omega) hlen
  have hz : U.heap.size < (U.alloc (.cells (oc p.1 p.2) 24)).heap.size := by simp
  have hSz : ∀ x, x ∈ blk (.slice ao n c) → x < (U.alloc (.cells (oc p.1 p.2) 24)).heap.size → (fun x => if x < U.heap.size then tag x else 0) x = 0 := fun x hx _ => (h1.nw x hx).2
  refine ⟨_, _, _, U2, fun x => if x < U.heap.size then tag x else 0, hrun, ⟨by rw [qs_append]; exact o2, fun x hx => ?_, fun r hr => ?_, h1.kp.trans k2 (fun x hx => Or.inr (h1.nw x hx).1), h1.t0⟩, P1.sm0 k2 hSz (fun _ _ => rfl)⟩
  · rcases b2 x hx with e | e
    · exact h1.nw x e
    · refine ⟨?_, if_neg (by omega)⟩
      have := h1.kp.size
      omega
  · have hx : Ao (U.alloc (.cells (oc p.1 p.2) 24)) r ∧ ∀ x, x ∈ blk (.slice r.2.1 r.2.2.1 r.2.2.2) → (fun x => if x < U.heap.size then tag x else 0) x = 0 := by
      rcases List.mem_append.1 hr with e | e
      · exact h1.ar r e
      · rw [List.mem_singleton.1 e]
        exact ⟨hp.keep k1 (fun _ _ => by simp), fun x hx => by
          show (if x < U.heap.size then tag x else 0) = 0
          rw [if_pos (Ao.lt hp x hx)]
          exact ht x hx⟩
    exact ⟨hx.1.keep k2 (hx.1.apart h1.own), hx.2⟩

/-- Attributes of the base's operations, in a later world. -/
theorem Ou.r0 (h : Ou tag w U ao n c q) {p : Sl} {l : List Att} (r : Rk Any 2 w p.1 p.2.1 p.2.2 (cs l)) : R0 tag U p l := by
  refine ⟨r.len, r.cap, fun hn => ?_⟩
  obtain ⟨b, off, cur, e, _, h1, h2, h3⟩ := r.at' hn
  have hl := lt_of h2
  exact ⟨b, off, cur, e, h.t0 b hl, h1, by rw [h.kp.block b hl (by simp)]; exact h2, h3⟩

/-- .. and that may be appended. -/
theorem Ou.lent (h : Ou tag w U ao n c q) {p : Oq} (r : Ao w p) : Ao U p ∧ ∀ x, x ∈ blk (.slice p.2.1 p.2.2.1 p.2.2.2) → tag x = 0 := ⟨r.kept h.kp, fun x hx => h.t0 x (Ao.lt r x hx)⟩

/-- Such a list may be done. -/
theorem Ou.ry (h : Ou tag w U ao n c q) (ht : ∀ p, p ∈ q → tinyO p.1) : Ry U ao n c q := ⟨h.mq.rq, fun p hp => Rk.of_own (h.ar p hp).1 rfl (fun _ _ => trivial), ht⟩

/-- A tree in blocks of mark 0 is kept. -/
theorem Nd.pv {l : Lb} {f : Fo} {p : Pl} (h : Nd (fun y => tag y = 0) U l f p) (v : Pv tag U tag' U') : Nd Any U' l f p := (h.keep (w' := U') (fun x hx hl => v.block x hl (by rw [hx]; unfold isP; omega) (by rw [hx]; omega))).any

/-- The tree of the Document, in a variable of its own, and all else as it was. -/
theorem Pp.tree (hP : Pp tag U b a m s k) (hO : Ou tag w U ao n c q) :
    Calls Tryz.prog 14 #[.pointer (some ⟨a, 0, none⟩), .int .i64 0] U fun e W => ∃ p : Pl, e = .returned (.tuple #[.agg #[.int .i64 (s.A.lb 0).kind, .int .i64 (s.A.lb 0).ns, .string (s.A.lb 0).name, .slice p.1.1 p.1.2.1 p.1.2.2, .string (s.A.lb 0).text, .slice p.2.1 p.2.2.1 p.2.2.2], .int .i64 0]) ∧
      ∃ tag1, Pp tag1 (W.alloc (.cells #[.int .i64 (s.A.lb 0).kind, .int .i64 (s.A.lb 0).ns, .string (s.A.lb 0).name, .slice p.1.1 p.1.2.1 p.1.2.2, .string (s.A.lb 0).text, .slice p.2.1 p.2.2.1 p.2.2.2] 40)) b a m s k ∧ Ou tag1 w (W.alloc (.cells #[.int .i64 (s.A.lb 0).kind, .int .i64 (s.A.lb 0).ns, .string (s.A.lb 0).name, .slice p.1.1 p.1.2.1 p.1.2.2, .string (s.A.lb 0).text, .slice p.2.1 p.2.2.1 p.2.2.2] 40)) ao n c q ∧ Nd (fun y => tag1 y = 0) (W.alloc (.cells #[.int .i64 (s.A.lb 0).kind, .int .i64 (s.A.lb 0).ns, .string (s.A.lb 0).name, .slice p.1.1 p.1.2.1 p.1.2.2, .string (s.A.lb 0).text, .slice p.2.1 p.2.2.1 p.2.2.2] 40)) (s.A.lb 0) (s.A.below 0) p ∧ tag1 W.heap.size = 0 ∧ Kp [] U W := by
  refine (hP.ps.pure 0 hP.fit.pos).mono ?_
  rintro e W ⟨p, rfl, k1, n1⟩
  have k2 : Kp [] U (W.alloc (.cells #[.int .i64 (s.A.lb 0).kind, .int .i64 (s.A.lb 0).ns, .string (s.A.lb 0).name, .slice p.1.1 p.1.2.1 p.1.2.2, .string (s.A.lb 0).text, .slice p.2.1 p.2.2.1 p.2.2.2] 40)) := k1.alloc _
  have hg : ∀ x, x < U.heap.size → (fun x => if x < U.heap.size then tag x else 0) x = tag x := fun x hx => if_pos hx
  have hs := k1.size
  exact ⟨p, rfl, _, hP.re k2 hg, hO.re k2 hg, (n1.kept ((Kp.refl [] _).alloc _)).mono (fun y _ hy => if_neg (by omega)), if_neg (by omega), k1⟩

end

end Go.Proofs.YtpkppobkagdhkaaGreat
