/-
  AttrsMore: More keeps what is there, has each name that either has, and, done again, adds nothing; order does not matter to Alike.
-/
import Derived.Test.YtbhgldinoijecaaAgree
namespace Go.Proofs.Ytbhgldinoijecaa
open Go.RowKit

theorem add_prefix (l : List Att) (a : Att) : ∃ t, add l a = l ++ t := by
  unfold add
  split
  · exact ⟨[], by simp⟩
  · exact ⟨[a], rfl⟩

theorem more_prefix (m : List Att) : ∀ l : List Att, ∃ t, more l m = l ++ t := by
  induction m with
  | nil => exact fun l => ⟨[], by simp [more]⟩
  | cons a m ih =>
    intro l
    obtain ⟨t, ht⟩ := ih (add l a)
    obtain ⟨t', ht'⟩ := add_prefix l a
    exact ⟨t' ++ t, by rw [more_cons, ht, ht', List.append_assoc]⟩

theorem more_ge (l m : List Att) : l.length ≤ (more l m).length := by
  obtain ⟨t, ht⟩ := more_prefix m l
  rw [ht]
  simp

theorem more_take (l m : List Att) : (more l m).take l.length = l := by
  obtain ⟨t, ht⟩ := more_prefix m l
  rw [ht, List.take_append_of_le_length (Nat.le_refl _), List.take_length]

theorem more_has (m : List Att) : ∀ x : List Att, (∀ b, b ∈ m → hasN x b.1 = true) → more x m = x := by
  induction m with
  | nil => exact fun x _ => rfl
  | cons a m ih =>
    intro x h
    have h1 : add x a = x := by unfold add; rw [h a (by simp)]; rfl
    rw [more_cons, h1]
    exact ih x (fun b hb => h b (List.mem_cons_of_mem _ hb))

theorem getF_self {m : List Att} {b : Att} (h : b ∈ m) : ∃ y, getF m b.1 = some y := by
  cases hx : getF m b.1 with
  | some y => exact ⟨y, rfl⟩
  | none => exact absurd rfl (getF_none hx b h)

theorem more_in {l m : List Att} {b : Att} (h : b ∈ m) : ∃ y, getF (more l m) b.1 = some y := by
  obtain ⟨y, hy⟩ := getF_self h
  rw [getF_more, hy]
  cases getF l b.1 with
  | some z => exact ⟨z, rfl⟩
  | none => exact ⟨y, rfl⟩

theorem more_again (l m : List Att) : more (more l m) m = more l m :=
  more_has m _ (fun b hb => by
    obtain ⟨y, hy⟩ := more_in (l := l) hb
    unfold hasN
    rw [hy]
    rfl)

theorem more_old {l m : List Att} {x : ByteArray} {y : Att} (h : getF l x = some y) : getF (more l m) x = some y := by
  rw [getF_more, h]
  rfl

theorem uniq_nil {l : List Att} (h : (uniq l).length = 0) : l = [] := by
  have h0 : uniq l = [] := List.eq_nil_of_length_eq_zero h
  cases l with
  | nil => rfl
  | cons a l =>
    obtain ⟨y, hy⟩ := getF_self (m := a :: l) (b := a) (by simp)
    rw [← getF_uniq, h0] at hy
    cases hy

/-- Turned. -/
def turned (u : List Att) (k : Nat) : List Att := u.drop k ++ u.take k

theorem turned_mem {u : List Att} {k : Nat} {x : Att} : x ∈ turned u k ↔ x ∈ u := by
  unfold turned
  rw [List.mem_append, or_comm, ← List.mem_append, List.take_append_drop]

theorem turned_len (u : List Att) (k : Nat) : (turned u k).length = u.length := by
  unfold turned
  simp
  omega

theorem turned_dist {u : List Att} (h : Dist u) (k : Nat) : Dist (turned u k) := by
  unfold Dist turned at *
  rw [← List.take_append_drop k u, List.pairwise_append] at h
  rw [List.pairwise_append]
  exact ⟨h.2.1, h.1, fun a ha b hb => (h.2.2 b hb a ha).symm⟩

theorem alike_turned {u : List Att} (h : Dist u) (k : Nat) : alike u (turned u k) = true :=
  alike_of (fun x hx => (turned_dist h k).get (turned_mem.2 (getF_mem hx))) (by rw [uniq_dist h, uniq_dist (turned_dist h k), turned_len])

theorem turned_alike (l : List Att) (k : Nat) : alike (turned (uniq l) k) l = true :=
  alike_of (fun x hx => by
    rw [← getF_uniq]
    exact (dist_uniq l).get (turned_mem.1 (getF_mem hx))) (by rw [uniq_dist (turned_dist (dist_uniq l) k), turned_len])

theorem alike_self (l : List Att) : alike l l = true := alike_of (fun _ h => h) rfl

/-- All but the first ones. -/
theorem Rp.drop {w : World} {b off n c : Nat} {l : List Att} (h : Rp w (some ⟨b, off, none⟩) n c l) (k : Nat) (hk : k ≤ n) : Rp w (some ⟨b, off + k * 2, none⟩) (n - k) (c - k) (l.drop k) := by
  have hl := h.len
  refine ⟨by simp; omega, by have := h.cap; omega, fun j hj => ?_⟩
  obtain ⟨b', off', h1, h2⟩ := h.at' (k * 2 + j) (by omega)
  simp only [Option.some.injEq, Addr.mk.injEq, and_true] at h1
  obtain ⟨rfl, rfl⟩ := h1
  refine ⟨b, off + k * 2, rfl, ?_⟩
  rw [Nat.add_assoc, h2]
  have e1 : cs l = cs (l.take k) ++ cs (l.drop k) := by rw [← cs_append, List.take_append_drop]
  have e2 : (cs (l.take k)).length = k * 2 := by rw [cs_len]; simp; omega
  rw [e1, List.getElem?_append_right (by omega), e2]
  congr 1
  omega

/-- append, and where what comes of it lies. -/
theorem Mp.appS {w w1 : World} {ao : Option Addr} {n c : Nat} {l : List Att} (h : Mp w w1 ao n c l) {src : Value} {m : Nat} {q : List Att} (hs : Src Try.prog 2 24 src m (cs q) w1) (hm : ao = none → 0 < m) (hlen : n + m ≤ 1000000) :
    ∃ x c' w2, (∀ ty, (Builtin.append_ #[24, 24] ty #[.slice ao n c, src]).run Try.prog w1 = .ok (.slice (some x) (n + m) c') w2) ∧ Mp w w2 (some x) (n + m) c' (l ++ q) := by
  obtain ⟨h1, h2, h3⟩ := h
  obtain ⟨v', w2, hrun, o2, k2, b2, a2, c2, rfl⟩ := appK Try.underlying24 info23 rfl (by decide) w1 _ _ _ h1 src m (cs q) hs (fun hv => by simp only [Value.slice.injEq] at hv; exact hm hv.1) hlen
  refine ⟨_, _, w2, hrun, by rw [cs_append]; exact o2, h2.trans k2 (fun x hx => Or.inr (h3 x hx)), fun k hk => ?_⟩
  rcases b2 k hk with h4 | h4
  · exact h3 k h4
  · have := h2.size
    omega

/-- append, as a step of a region that draws its order. -/
theorem step_more {ops : Array Oper} {o : Oper} {a : Act} {w w1 : World} {K : Act → World → Prop} {Q : Exit → Act → World → Prop} {E : Prop}
    (hg : o.guard = none) (s x : Operand) (hop : o.op = Op.call { callee := Callee.builtin Builtin.append, args := #[s, x], argTypes := #[24, 24] })
    {ao bo : Option Addr} {n c p d : Nat} {l q : List Att} (hs : a.eval s = .slice ao n c) (hx : a.eval x = .slice bo p d) (hM : Mp w w1 ao n c l) (hr : Rp w1 bo p d q) (hm : ao = none → 0 < p) (hlen : n + p ≤ 1000000)
    (hK : ∀ x' c' w', Mp w w' (some x') (n + p) c' (l ++ q) → K (a.put o.dst (.slice (some x') (n + p) c')) w') :
    if Region.wanted o (yielded ops a.tmps) = true then Oper.wp Try.prog o a w1 K Q else E := by
  have hw : Region.wanted o (yielded ops a.tmps) = true := by simp [Region.wanted, hg]
  rw [if_pos hw]
  obtain ⟨a2, c2, w2, hrun, M2⟩ := hM.appS (hr.src Try.underlying24) hm hlen
  have hr2 := hrun o.type
  unfold Oper.wp
  simp [execOp, hop, resolve, invoke, builtin, hs, hx, hr2, Result.andThen]
  exact hK a2 c2 w2 M2

end Go.Proofs.Ytbhgldinoijecaa
