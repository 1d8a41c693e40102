/-
  What came in, where it is of small bulk: no text of a node, and not all of its attributes together, are long.
-/
import Derived.Test.YtgnbafgglkncmaaRows
import Derived.Test.YtgnbafgglkncmaaNodesZ
import Derived.Test.YtgnbafgglkncmaaShowsW
namespace Go.Proofs.Ytgnbafgglkncmaa
open Go.ChangeShapes Go.WideShapes Go.RowKit Go.Deep
set_option linter.unusedVariables false

theorem bulk_part {H : Type} {d : DataW H} {l : List (DataW H)} (h : d ∈ l) : Rows.uptoBulk d ≤ Rows.uptoBulkAll l := by
  induction l with
  | nil => cases h
  | cons x r ih =>
    simp only [Rows.uptoBulkAll]
    cases List.mem_cons.1 h with
    | inl e => subst e; omega
    | inr e => have := ih e; omega

theorem bulk_sum {H : Type} (D : Nat → DataW H) (f : Nat → Att) : ∀ R : List Nat, (∀ i, i ∈ R → (f i).1.size + (f i).2.size + 1 ≤ Rows.uptoBulk (D i)) → asum (R.map f) + R.length ≤ Rows.uptoBulkAll (R.map D)
  | [], _ => by simp [asum, Rows.uptoBulkAll]
  | i :: R, h => by
    have h1 := bulk_sum D f R (fun j hj => h j (by simp [hj]))
    have h2 := h i (by simp)
    simp only [List.map_cons, Rows.uptoBulkAll, List.length_cons]
    have e : asum (f i :: R.map f) = (f i).1.size + (f i).2.size + asum (R.map f) := by simp [asum]
    omega

theorem atts_le {H : Type} {enc : TypeId × Value → H} {W : World} {a : Option Addr} {len cap : Nat} {d : DataW H} {ps : List MemPlace} {l : List Att} (h : DataW.Trod enc Try.prog W 0 (fun _ => true) true 22 (.slice a len cap) d ps) (hr : Rp W a len cap l) : asum l + l.length ≤ Rows.uptoBulk d := by
  obtain ⟨fuel, hf⟩ := h
  have hlen := hr.len
  rcases open_slice_pairs Try.underlying22 Try.underlying27 cells23 rfl rfl cells9 cells9 hf with ⟨hcs, hx⟩ | ⟨x, l', c, m, n, V0, V1, D0, D1, P0, P1, hcs, _, hl, hm, hmm, hx, hcell⟩
  · simp [Value.cells] at hcs
    obtain ⟨rfl, rfl, rfl⟩ := hcs
    have : l = [] := List.eq_nil_of_length_eq_zero hlen.symm
    subst this
    simp [asum]
  · simp [Value.cells] at hcs
    obtain ⟨rfl, rfl, rfl⟩ := hcs
    simp only [if_true] at hmm
    subst hmm
    simp only [Prod.mk.injEq] at hx
    obtain ⟨rfl, _⟩ := hx
    have key : ∀ i, i < len → (l[i]?.getD (⟨#[]⟩, ⟨#[]⟩)).1.size + (l[i]?.getD (⟨#[]⟩, ⟨#[]⟩)).2.size + 1 ≤ Rows.uptoBulk (DataW.agg [D0 i, D1 i]) := fun i hi => by
      have hil : i < l.length := by omega
      obtain ⟨h0, h1, h2, h3⟩ := hcell i (by omega)
      obtain ⟨s0, e0, e1, _⟩ := DataW.trod_string Try.underlying9 h2
      obtain ⟨s1, f0, f1, _⟩ := DataW.trod_string Try.underlying9 h3
      simp only [List.cons.injEq, and_true] at e0 f0
      simp only [Prod.mk.injEq] at e1 f1
      obtain ⟨b, off, ea, g1, g2⟩ := hr.get i hil
      simp only [Option.some.injEq] at ea
      subst ea
      rw [Addr.add_lit] at h0 h1
      rw [← Nat.add_assoc] at h1
      rw [g1] at h0
      rw [g2] at h1
      rw [e0] at h0
      rw [f0] at h1
      simp only [Option.some.injEq, Value.string.injEq] at h0 h1
      rw [List.getElem?_eq_getElem hil, Option.getD_some, h0, h1, e1.1, f1.1]
      have q0 : s0.data.toList.length = s0.size := by rw [Array.length_toList]; rfl
      have q1 : s1.data.toList.length = s1.size := by rw [Array.length_toList]; rfl
      simp only [Rows.uptoBulk, Rows.uptoBulkAll]
      omega
    have hs := bulk_sum (fun i => DataW.agg [D0 i, D1 i]) (fun i => l[i]?.getD (⟨#[]⟩, ⟨#[]⟩)) (List.range len) (fun i hi => key i (List.mem_range.1 hi))
    have el : (List.range len).map (fun i => l[i]?.getD (⟨#[]⟩, ⟨#[]⟩)) = l := by
      apply List.ext_getElem
      · simp; omega
      · intro i h1 h2
        simp [List.getElem?_eq_getElem h2]
    rw [el, List.length_range] at hs
    simp only [Rows.uptoBulk]
    omega

set_option maxRecDepth 20000 in
theorem nodes_few {H : Type} {enc : TypeId × Value → H} {W : World} {a : Option Addr} {len cap : Nat} {d : DataW H} {ps : List MemPlace} {L : List Nn} (h : DataW.Trod enc Try.prog W 0 (fun _ => true) true 30 (.slice a len cap) d ps) (hr : Ns W a len cap L) (hb : Rows.uptoBulk d ≤ 1048576) : few L := by
  obtain ⟨fuel, hf⟩ := h
  have hlen := hr.len
  rcases open_slice Try.underlying30 hf with ⟨hcs, hx⟩ | ⟨x, l, c, m, n, D, Pl, hcs, _, hl, hm, hmm, hx, hcell⟩
  · simp [Value.cells] at hcs
    obtain ⟨rfl, rfl, rfl⟩ := hcs
    intro i hi
    omega
  · simp [Value.cells] at hcs
    obtain ⟨rfl, rfl, rfl⟩ := hcs
    simp only [if_true] at hmm
    subst hmm
    simp only [Prod.mk.injEq] at hx
    obtain ⟨rfl, _⟩ := hx
    intro i hi
    have hi' : i < len := by omega
    have hD : Rows.uptoBulk (D i) ≤ 1048576 := by
      have h1 := bulk_part (d := D i) (l := (List.range len).map D) (List.mem_map.2 ⟨i, List.mem_range.2 hi', rfl⟩)
      simp only [Rows.uptoBulk] at hb
      omega
    obtain ⟨b, off, pa, pn, pc, ea, ⟨c0, c1, c2, c3, c4, c5⟩, hrp, hpn⟩ := hr.at' i hi
    simp only [Option.some.injEq] at ea
    subst ea
    generalize L[i] = nd at c0 c1 c2 c3 c4 c5 hrp
    obtain ⟨cs', h1, h2⟩ := hcell i (by omega)
    rw [cells42] at h1
    obtain ⟨_, hlen', hc⟩ := World.cells?_some h1
    match cs', hlen' with
    | [v0, v1, v2, v3, v4, v5], _ =>
      have w3 := hc 3 (by simp)
      have w4 := hc 4 (by simp)
      have w5 := hc 5 (by simp)
      rw [add_add, Addr.add_lit, ← Nat.add_assoc] at w3 w4 w5
      rw [c3] at w3
      rw [c4] at w4
      rw [c5] at w5
      simp only [List.getElem?_cons_succ, List.getElem?_cons_zero, Option.some.injEq] at w3 w4 w5
      subst w3 w4 w5
      obtain ⟨xs, n', _, hxd, _, hlen2, hff⟩ := DataW.trod_struct Try.underlying42 h2
      match xs, hlen2 with
      | [y0, y1, y2, y3, y4, y5], _ =>
        have g3 := hff 3 _ rfl
        have g4 := hff 4 _ rfl
        have g5 := hff 5 _ rfl
        simp [cells9, cells22] at g3 g4 g5
        obtain ⟨x1, e3, e3', _⟩ := DataW.trod_string Try.underlying9 g3
        obtain ⟨x2, e4, e4', _⟩ := DataW.trod_string Try.underlying9 g4
        simp only [List.cons.injEq, and_true, Value.string.injEq] at e3 e4
        have ht : DataW.Trod enc Try.prog W 0 (fun _ => true) true 22 (.slice pa pn pc) y5.1 y5.2 := ⟨n', by simpa [Value.cells] using g5⟩
        have hat := atts_le ht hrp
        simp only [Prod.mk.injEq] at hxd
        rw [hxd.1] at hD
        have q3 : Rows.uptoBulk y3.1 = nd.name.size + 1 := by
          rw [e3', ← e3]
          have : nd.name.data.toList.length = nd.name.size := by rw [Array.length_toList]; rfl
          simp only [Rows.uptoBulk]; omega
        have q4 : Rows.uptoBulk y4.1 = nd.text.size + 1 := by
          rw [e4', ← e4]
          have : nd.text.data.toList.length = nd.text.size := by rw [Array.length_toList]; rfl
          simp only [Rows.uptoBulk]; omega
        simp only [List.map_cons, List.map_nil, Rows.uptoBulk, Rows.uptoBulkAll] at hD
        refine ⟨by omega, by omega, by omega, by omega⟩

end Go.Proofs.Ytgnbafgglkncmaa
