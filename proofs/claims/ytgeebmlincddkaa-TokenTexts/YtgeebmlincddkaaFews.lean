/-
  Two tokens made few, in place: what both laws begin with.
-/
import Derived.Test.YtgeebmlincddkaaToks
import Derived.Test.YtgeebmlincddkaaJudge
import Derived.Deep.CutRange
import Derived.Deep.RegionWith
namespace Go.Proofs.Ytgeebmlincddkaa
open Go.RowKit

/-- A token's cells, in block g. -/
def Bq (w : World) (g : Nat) (p : Q) : Prop := Box w g p.1.1 p.1.2.1 (.slice p.2.1 p.2.2.1 p.2.2.2) p.1.2.2.2.1 p.1.2.2.2.2

theorem Bq.kept {w w' : World} {g : Nat} {p : Q} (h : Bq w g p) (k : Kp [] w w') : Bq w' g p := Box.kept h k (by simp)

/-- Behind both assignments: tokens that are not too large stand in blocks g and g + 1. -/
def Twos (w wx : World) (t u : Tok) : Prop := ∃ p r : Q, p.1 = few t ∧ r.1 = few u ∧ Bq wx w.heap.size p ∧ Bq wx (w.heap.size + 1) r ∧ Ar wx p ∧ Ar wx r ∧ Kp [] w wx

/-- The two stores. -/
theorem twos {w W v1 v2 Z : World} {t u : Tok} {a1 a2 : Option Addr} {n1 c1 n2 c2 : Nat} (kW : Kp [] w W) (hs : w.heap.size + 1 < W.heap.size) (M1 : Mp W v1 a1 n1 c1 (short t.2.2.1)) (M2 : Mp v1 v2 a2 n2 c2 (short u.2.2.1))
    (hz0 : Z.heap[w.heap.size]? = some (.cells #[.int .i64 t.1, .string (cutB t.2.1 20), .slice a1 n1 c1, .bool t.2.2.2.1, .string (cutB t.2.2.2.2 60)] 24))
    (hz1 : Z.heap[w.heap.size + 1]? = some (.cells #[.int .i64 u.1, .string (cutB u.2.1 20), .slice a2 n2 c2, .bool u.2.2.2.1, .string (cutB u.2.2.2.2 60)] 24))
    (kz : Kp [w.heap.size, w.heap.size + 1] v2 Z) : Twos w Z t u := by
  have s1 := M1.kp.size
  refine ⟨(few t, a1, n1, c1), (few u, a2, n2, c2), rfl, rfl, box_of hz0, box_of hz1, ?_, ?_, ((kW.trans M1.kp (fun x hx => by simp at hx)).trans M2.kp (fun x hx => by simp at hx)).trans kz (fun x hx => by simp at hx; omega)⟩
  · refine OwnK.keep (M1.1.keep M2.kp (fun _ _ => by simp)) kz (fun x hx hm => ?_)
    have := M1.2.2 x hx
    simp at hm
    omega
  · refine OwnK.keep M2.1 kz (fun x hx hm => ?_)
    have := M2.2.2 x hx
    simp at hm
    omega

/-- Both boxes, laid one behind the other, and what was laid behind them. -/
theorem boxes (w : World) (p r : Q) (V : World) (kV : Kp [] ((w.alloc (.cells #[.int .i64 p.1.1, .string p.1.2.1, .slice p.2.1 p.2.2.1 p.2.2.2, .bool p.1.2.2.2.1, .string p.1.2.2.2.2] 24)).alloc (.cells #[.int .i64 r.1.1, .string r.1.2.1, .slice r.2.1 r.2.2.1 r.2.2.2, .bool r.1.2.2.2.1, .string r.1.2.2.2.2] 24)) V) :
    V.heap[w.heap.size]? = some (.cells #[.int .i64 p.1.1, .string p.1.2.1, .slice p.2.1 p.2.2.1 p.2.2.2, .bool p.1.2.2.2.1, .string p.1.2.2.2.2] 24) ∧ V.heap[w.heap.size + 1]? = some (.cells #[.int .i64 r.1.1, .string r.1.2.1, .slice r.2.1 r.2.2.1 r.2.2.2, .bool r.1.2.2.2.1, .string r.1.2.2.2.2] 24) := by
  constructor
  · rw [kV.block _ (by simp; omega) (by simp), Below.heap_alloc _ _ _ (by simp)]
    exact heap_new w _
  · rw [kV.block _ (by simp) (by simp)]
    exact heap_new' _ _ _ (by simp)

theorem put5_other {w : World} {g k : Nat} (h : k ≠ g) (v0 v1 v2 v3 v4 : Value) (hk : k < w.heap.size) : (put5 w g v0 v1 v2 v3 v4).heap[k]? = w.heap[k]? :=
  ((Kp.refl [g] w).put5 (g := g) (Or.inl (by simp)) v0 v1 v2 v3 v4).block k hk (by simp; exact h)

end Go.Proofs.Ytgeebmlincddkaa
