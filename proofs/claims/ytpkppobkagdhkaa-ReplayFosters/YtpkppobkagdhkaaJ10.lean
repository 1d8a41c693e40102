/-
  Joined: Pile.
-/
import Derived.Test.YtpkppobkagdhkaaJ4
import Derived.Lib.SliceRun

/-
  Piles of things of K cells each, and what push and pop do to their worlds; slices.Delete of the last one.
-/
namespace Go.Proofs.Ytpkppobkagdhkaa
open Go.RowKit

/-- A pile: a struct in block p, whose one field is a slice of n things of K cells each in a block of its own. -/
def Pk (K : Nat) (w : World) (T e : TypeId) (p : Nat) (v : Value) (n : Nat) (xs : List Value) : Prop :=
  w.heap[p]? = some (.cells #[v] T (0, 0)) ∧ OwnK K w e v n xs ∧ p ∉ blk v

/-- The pile in block p, whose slice was v, holds xs' now; nothing else has turned. -/
def Tk (K : Nat) (w w' : World) (T e : TypeId) (p : Nat) (v : Value) (n' : Nat) (xs' : List Value) : Prop :=
  ∃ v', Pk K w' T e p v' n' xs' ∧ Kp (p :: blk v) w w' ∧ ∀ k, k ∈ blk v' → k ∈ blk v ∨ w.heap.size ≤ k

theorem Pk.keep {K : Nat} {w w' : World} {S : List Nat} {T e : TypeId} {p : Nat} {v : Value} {n : Nat} {xs : List Value} (h : Pk K w T e p v n xs) (k : Kp S w w') (hp : p ∉ S) (hv : ∀ x, x ∈ blk v → x ∉ S) : Pk K w' T e p v n xs :=
  ⟨by rw [k.block p (Array.getElem?_eq_some_iff.1 h.1).1 hp]; exact h.1, h.2.1.keep k hv, h.2.2⟩

/-- A store into the pile's struct. -/
theorem Tk.mk {K : Nat} {w w2 : World} {T e : TypeId} {p : Nat} {v v' : Value} {n' : Nat} {xs' : List Value} (hpl : p < w.heap.size) (hp2 : w2.heap[p]? = some (.cells #[v] T (0, 0))) (hpb : p ∉ blk v) (hown : OwnK K w2 e v' n' xs') (hk : Kp (p :: blk v) w w2)
    (hb : ∀ k, k ∈ blk v' → k ∈ blk v ∨ w.heap.size ≤ k) : Tk K w (w2.setCell ⟨p, 0, none⟩ v') T e p v n' xs' := by
  have hpn : p ∉ blk v' := fun hx => by
    rcases hb p hx with h1 | h1
    · exact hpb h1
    · omega
  exact ⟨v', ⟨by rw [setCell_block hp2]; rfl, hown.keep ((Kp.refl [p] w2).setCell (Or.inl (by simp)) v') (fun y hy => by simp; intro e; subst e; exact hpn hy), hpn⟩, hk.setCell (Or.inl (by simp)) v', hb⟩

/-- What the walks want of a pile: its slice written out. -/
theorem Pk.out {K : Nat} {w : World} {T e : TypeId} {p : Nat} {v : Value} {n : Nat} {xs : List Value} (h : Pk K w T e p v n xs) : ∃ ao c, v = .slice ao n c ∧ w.cell? ⟨p, 0, none⟩ = some (.slice ao n c) ∧ w.frozen? ⟨p, 0, none⟩ = false ∧ n ≤ c ∧ p < w.heap.size ∧
    (0 < n → ∃ g o, ao = some ⟨g, o, none⟩ ∧ g ≠ p ∧ ∀ j, j < n * K → w.cell? ⟨g, o + j, none⟩ = xs[j]? ∧ w.frozen? ⟨g, o + j, none⟩ = false) := by
  obtain ⟨hp, hown, hpb⟩ := h
  have hc : w.cell? ⟨p, 0, none⟩ = some v := by rw [cell_of hp]; rfl
  rcases hown.2 with ⟨rfl, h0⟩ | ⟨g, o, cap, cur, rfl, hg, h1, h2, h3, h4⟩
  · subst h0
    exact ⟨none, 0, rfl, hc, frozen_of hp 0, Nat.le_refl _, (Array.getElem?_eq_some_iff.1 hp).1, fun hn => by omega⟩
  · exact ⟨some ⟨g, o, none⟩, cap, rfl, hc, frozen_of hp 0, h1, (Array.getElem?_eq_some_iff.1 hp).1, fun hn => ⟨g, o, rfl, by simp [blk] at hpb; omega, fun j hj => ⟨by rw [cell_of hg, h4 j hj], frozen_of hg _⟩⟩⟩

/-- clear, of the last one. -/
theorem clear_one {P : Program} (w : World) (t e ty : TypeId) (z : Value) (zs : List Value) (ht : P.underlying t = some (.slice e)) (hv : ∀ w, (zeroValue e).run P w = .ok z w) (hz : z.cells = zs.toArray) (h1 : ∀ u, u ∈ zs → u.oneCell' = true) (b o c : Nat)
    (hc : ∀ j, j < zs.length → (w.cell? ⟨b, o + j, none⟩).isSome = true) (hf : ∀ j, j < zs.length → w.frozen? ⟨b, o + j, none⟩ = false) :
    (Builtin.clear_ #[t] ty #[.slice (some ⟨b, o, none⟩) 1 c]).run P w = .ok (.tuple #[]) (w.setCells b o zs) := by
  have hzc : (Builtin.zeroCells z.cells 1).toList = zs := by
    rw [hz]
    simp [Builtin.zeroCells]
    apply List.ext_getElem
    · simp
    · intro i h1 h2
      simp [Nat.mod_eq_of_lt h2, List.getElem?_eq_getElem h2]
  have hst := run_storeCells_cells (P := P) b o zs 0 w (by simpa using hc) (by simpa using hf) (by intro v hv'; exact h1 v hv')
  simp only [Nat.add_zero] at hst
  simp [Builtin.clear_, run_underlying ht, hv, hzc, hst]

/-- All but the last one, the last one's cells turned to zeros. -/
theorem OwnK.pop {K : Nat} {w : World} {e : TypeId} {g o n cap : Nat} {xs ys zs : List Value} (h : OwnK K w e (.slice (some ⟨g, o, none⟩) (n + 1) cap) (n + 1) (xs ++ ys)) (hx : xs.length = n * K) (hz : zs.length = K) :
    OwnK K (w.setCells g (o + n * K) zs) e (.slice (some ⟨g, o, none⟩) n cap) n xs := by
  obtain ⟨h0, h⟩ := h
  rcases h with ⟨h1, _⟩ | ⟨g', o', cap', cur, hv, hg, h1, h2, h3, h4⟩
  · cases h1
  · simp only [Value.slice.injEq, Option.some.injEq, Addr.mk.injEq] at hv
    obtain ⟨⟨rfl, rfl, _⟩, _, rfl⟩ := hv
    obtain ⟨cur', hg', hs'⟩ := setCells_block g e zs (o + n * K) w cur hg
    have hm : (n + 1) * K ≤ cap * K := Nat.mul_le_mul_right K h1
    rw [Nat.add_mul, Nat.one_mul] at hm
    have hget := setCells_get g e zs (o + n * K) w cur cur' hg hg' (by omega)
    refine ⟨hx, Or.inr ⟨g, o, cap, cur', rfl, hg', by omega, h2, by omega, fun j hj => ?_⟩⟩
    rw [hget, if_neg (by omega), h4 j (by rw [Nat.add_mul]; omega), List.getElem?_append_left (by omega)]

/-- append, whose run is known, as one step of a region that draws its order. -/
theorem step_appR {P : Program} {ops : Array Oper} {o : Oper} {a : Act} {w w' : World} {K : Act → World → Prop} {Q : Exit → Act → World → Prop} {E : Prop}
    (hg : o.guard = none) (s x : Operand) (t : TypeId) (hop : o.op = Op.call { callee := Callee.builtin Builtin.append, args := #[s, x], argTypes := #[t, t] })
    (v u : Value) {v' : Value} (hs : a.eval s = v) (hx : a.eval x = u) (hrun : ∀ ty, (Builtin.append_ #[t, t] ty #[v, u]).run P w = .ok v' w') (hK : K (a.put o.dst v') w') :
    if Region.wanted o (yielded ops a.tmps) = true then Oper.wp P o a w K Q else E := by
  have hw : Region.wanted o (yielded ops a.tmps) = true := by simp [Region.wanted, hg]
  rw [if_pos hw]
  have hr := hrun o.type
  unfold Oper.wp
  simp [execOp, hop, resolve, invoke, builtin, hs, hx, hr, Result.andThen]
  exact hK

/-- clear, whose run is known. -/
theorem wpList_clear_run {P : Program} (w : World) {ops : Array Oper} {rest : List Oper} {o : Oper} {a : Act} {Q : Exit → Act → World → Prop} (hg : o.guard = none) (s : Operand) (t : TypeId)
    (hop : o.op = Op.call { callee := Callee.builtin Builtin.clear, args := #[s], argTypes := #[t] }) (v : Value) (hs : a.eval s = v) {w' : World} (hrun : ∀ ty, (Builtin.clear_ #[t] ty #[v]).run P w = .ok (.tuple #[]) w')
    (hK : wpList P ops Q rest (a.put o.dst (.tuple #[])) w') : wpList P ops Q (o :: rest) a w := by
  refine wpList_plain hg fun K' hK' => ?_
  have hr := hrun o.type
  unfold Oper.wp
  simp [execOp, hop, resolve, invoke, builtin, hs, hr, Result.andThen]
  exact hK' _ _ hK

/-- append of nothing. -/
theorem app_none {P : Program} {t e : TypeId} {z : Value} {bytes k : Nat} (ht : P.underlying t = some (.slice e)) (hi : (P.info? e).map (fun i => (i.zero, i.size, i.bytes)) = some (some z, k, bytes)) (w : World) (g o n c : Nat) (x : Addr) (cc : Nat) (hn : n ≤ c) :
    ∀ ty, (Builtin.append_ #[t, t] ty #[.slice (some ⟨g, o, none⟩) n c, .slice (some x) 0 cc]).run P w = .ok (.slice (some ⟨g, o, none⟩) n c) w := fun ty => by
  obtain ⟨i, hi0, hi1, hi2, hi3⟩ := info_parts hi
  have := run_append_room_src (P := P) w t t ty e i ht hi0 g o n c (.slice (some x) 0 cc) 0 [] (Src.ofSlice w ht x 0 cc [] (by simp) (fun j u hj => by simp at hj) (fun u hu => by simp at hu)) (by omega) (fun j hj => by simp at hj) (fun j hj => by simp at hj)
  simpa [World.setCells] using this

/-- The cells of one thing that lie at the head of a block. -/
theorem src_new {P : Program} {t e : TypeId} (ht : P.underlying t = some (.slice e)) {w : World} {q : Nat} {cur : Array Value} {e' : TypeId} (h : w.heap[q]? = some (.cells cur e' (0, 0))) (us : List Value) (hc : cur = us.toArray) (hu : ∀ u, u ∈ us → u.oneCell' = true) : Src P us.length t (.slice (some ⟨q, 0, none⟩) 1 1) 1 us w :=
  Src.ofSlice _ ht ⟨q, 0, none⟩ 1 1 us (by simp) (fun j y hj => by
    rw [Addr.add_lit, cell_of h, hc, Nat.zero_add]
    simpa using hj) hu

end Go.Proofs.Ytpkppobkagdhkaa
