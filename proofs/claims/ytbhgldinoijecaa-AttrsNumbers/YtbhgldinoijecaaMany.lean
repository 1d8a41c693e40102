/-
  Lists of lists of attributes: what one that a call made holds, and append onto it.
-/
import Derived.Test.YtbhgldinoijecaaBoth
namespace Go.Proofs.Ytbhgldinoijecaa
open Go.RowKit

/-- A slice of some attributes, in a block of attributes. -/
def Gd (w : World) (v : Value) : Prop := ∃ n l, OwnK 2 w 23 v n (cs l) ∧ n ≤ 100 ∧ fits l

theorem Gd.keep {w w' : World} {S : List Nat} {v : Value} (h : Gd w v) (k : Kp S w w') (hn : ∀ x, x ∈ blk v → x ∉ S) : Gd w' v := by
  obtain ⟨n, l, h1, r⟩ := h
  exact ⟨n, l, h1.keep k hn, r⟩

theorem Gd.rp {w : World} {v : Value} (h : Gd w v) : ∃ ao n c l, v = .slice ao n c ∧ Rp w ao n c l ∧ n ≤ 100 ∧ fits l := by
  obtain ⟨n, l, h1, h2, h3⟩ := h
  rcases h1.2 with ⟨rfl, rfl⟩ | ⟨g, o, cap, cur, rfl, _⟩
  · exact ⟨none, 0, 0, l, rfl, Rp.of_own h1, h2, h3⟩
  · exact ⟨_, _, _, l, rfl, Rp.of_own h1, h2, h3⟩

theorem Gd.one {w : World} {v : Value} (h : Gd w v) : v.oneCell' = true := by
  obtain ⟨ao, n, c, l, rfl, _⟩ := h.rp
  rfl

/-- No block of lists holds it. -/
theorem Gd.apart {w : World} {v u : Value} {xs : List Value} (h : Gd w v) (ho : Own w 24 u xs) : ∀ x, x ∈ blk v → x ∉ blk u := by
  intro x hx hu
  obtain ⟨n, l, ⟨_, h1⟩, _⟩ := h
  rcases h1 with ⟨rfl, _⟩ | ⟨g, o, cap, cur, rfl, hg, _⟩
  · simp [blk] at hx
  · rcases ho with ⟨rfl, _⟩ | ⟨g', o', cap', cur', rfl, hg', _⟩
    · simp [blk] at hu
    · simp [blk] at hx hu
      subst hx
      subst hu
      rw [hg] at hg'
      simp at hg'

theorem gd_nil (w : World) : Gd w (.slice none 0 0) := ⟨0, [], ⟨rfl, Or.inl ⟨rfl, rfl⟩⟩, by omega, fun a ha => by simp at ha⟩

theorem gd_new (w : World) (cur : Array Value) (l : List Att) (n : Nat) (h : cur = (cs l).toArray) (hn : n = l.length) (hm : n ≤ 100) (hf : fits l) : Gd (w.alloc (.cells cur 23)) (.slice (some ⟨w.heap.size, 0, none⟩) n n) :=
  ⟨n, l, (rp_lit w cur l n h hn (by omega)).1, hm, hf⟩

theorem gd_at (w : World) (q : Nat) (cur : Array Value) (l : List Att) (n : Nat) (hq : w.heap[q]? = some (.cells cur 23)) (h : cur = (cs l).toArray) (hn : n = l.length) (hm : n ≤ 100) (hf : fits l) : Gd w (.slice (some ⟨q, 0, none⟩) n n) := by
  subst h
  exact ⟨n, l, ⟨by rw [cs_len, hn], Or.inr ⟨q, 0, n, _, rfl, hq, Nat.le_refl _, by unfold maxLen; omega, by simp [cs_len, hn], fun j hj => by simp⟩⟩, hm, hf⟩

theorem info24 : (Try.prog.info? 24).map (fun i => (i.zero, i.size, i.bytes)) = some (some (Value.slice none 0 0), 1, 24) := by kernel_rfl

/-- Lists that a call made since w. -/
def Lv (w w' : World) (ao : Option Addr) (n c : Nat) (xs : List Value) : Prop := Made w w' 24 ao n c xs ∧ ∀ x, x ∈ xs → Gd w' x

theorem Lv.nil (w : World) : Lv w w none 0 0 [] := ⟨Made.nil w 24, fun x hx => by simp at hx⟩

theorem Lv.kp {w w' : World} {ao : Option Addr} {n c : Nat} {xs : List Value} (h : Lv w w' ao n c xs) : Kp [] w w' := h.1.2.1

theorem Lv.kept {w w1 w2 : World} {ao : Option Addr} {n c : Nat} {xs : List Value} (h : Lv w w1 ao n c xs) (k : Kp [] w1 w2) : Lv w w2 ao n c xs :=
  ⟨h.1.kept k, fun x hx => (h.2 x hx).keep k (fun _ _ => by simp)⟩

theorem Lv.app {w w1 : World} {ao : Option Addr} {n c : Nat} {xs : List Value} (h : Lv w w1 ao n c xs) {src : Value} {m : Nat} {news : List Value} (hs : Src Try.prog 1 25 src m news w1) (hg : ∀ x, x ∈ news → Gd w1 x) (hm : 0 < m) (hlen : xs.length + m ≤ 1000000) :
    ∃ ao' n' c' w2, (∀ ty, (Builtin.append_ #[25, 25] ty #[.slice ao n c, src]).run Try.prog w1 = .ok (.slice ao' n' c') w2) ∧ Lv w w2 ao' n' c' (xs ++ news) := by
  obtain ⟨⟨h1, h2, h3⟩, h4⟩ := h
  obtain ⟨v', w2, hrun, o2, k2, b2, a2, c2, rfl⟩ := app_any Try.underlying25 info24 rfl (by decide) w1 _ _ h1 src m news hs (fun _ => hm) hlen
  refine ⟨_, _, _, w2, hrun, ⟨o2, h2.trans k2 (fun x hx => Or.inr (h3 x hx)), fun k hk => ?_⟩, fun x hx => ?_⟩
  · rcases b2 k hk with h5 | h5
    · exact h3 k h5
    · have := h2.size
      omega
  · have hx1 : Gd w1 x := by
      rcases List.mem_append.1 hx with hx | hx
      · exact h4 x hx
      · exact hg x hx
    exact hx1.keep k2 (hx1.apart h1)

/-- A literal of lists may be appended. -/
theorem src_lists {w : World} {q n : Nat} {news : List Value} (hq : w.heap[q]? = some (.cells news.toArray 24)) (hn : n = news.length) (hg : ∀ x, x ∈ news → Gd w x) : Src Try.prog 1 25 (.slice (some ⟨q, 0, none⟩) n n) n news w :=
  Src.ofSlice w Try.underlying25 ⟨q, 0, none⟩ n n news (by rw [hn, Nat.mul_one]) (fun j y hj => by
    rw [Addr.add_lit, cell_of hq]
    simpa using hj) (fun y hy => (hg y hy).one)

/-- append, as a step of a region that draws its order. -/
theorem step_lists {ops : Array Oper} {o : Oper} {a : Act} {w w1 : World} {K : Act → World → Prop} {Q : Exit → Act → World → Prop} {E : Prop}
    (hg : o.guard = none) (s x : Operand) (hop : o.op = Op.call { callee := Callee.builtin Builtin.append, args := #[s, x], argTypes := #[25, 25] })
    {ao : Option Addr} {n c q m : Nat} {xs : List Value} (hs : a.eval s = .slice ao n c) (hx : a.eval x = .slice (some ⟨q, 0, none⟩) m m) (hM : Lv w w1 ao n c xs) (news : List Value) (hq : w1.heap[q]? = some (.cells news.toArray 24)) (hn : m = news.length) (hgd : ∀ x, x ∈ news → Gd w1 x) (hm : 0 < m) (hlen : xs.length + m ≤ 1000000)
    (hK : ∀ ao' n' c' w', Lv w w' ao' n' c' (xs ++ news) → K (a.put o.dst (.slice ao' n' c')) w') :
    if Region.wanted o (yielded ops a.tmps) = true then Oper.wp Try.prog o a w1 K Q else E := by
  have hw : Region.wanted o (yielded ops a.tmps) = true := by simp [Region.wanted, hg]
  rw [if_pos hw]
  obtain ⟨a2, n2, c2, w2, hrun, M2⟩ := hM.app (src_lists hq hn hgd) hgd hm hlen
  have hr2 := hrun o.type
  unfold Oper.wp
  simp [execOp, hop, resolve, invoke, builtin, hs, hx, hr2, Result.andThen]
  exact hK a2 n2 c2 w2 M2

/-- What stands at a place. -/
theorem Lv.get {w w' : World} {ao : Option Addr} {n c : Nat} {xs : List Value} (h : Lv w w' ao n c xs) (k : Nat) (hk : k < xs.length) :
    ∃ b off ao' n' c' l, ao = some ⟨b, off, none⟩ ∧ w'.cell? ⟨b, off + k, none⟩ = some (.slice ao' n' c') ∧ Rp w' ao' n' c' l ∧ n' ≤ 100 ∧ fits l := by
  have hr := h.1.rb
  obtain ⟨b, off, h1, h2⟩ := hr.at' k (by have := hr.len; omega)
  rw [List.getElem?_eq_getElem hk] at h2
  obtain ⟨ao', n', c', l, e, r⟩ := (h.2 _ (List.getElem_mem hk)).rp
  rw [e] at h2
  exact ⟨b, off, ao', n', c', l, h1, h2, r⟩

end Go.Proofs.Ytbhgldinoijecaa
