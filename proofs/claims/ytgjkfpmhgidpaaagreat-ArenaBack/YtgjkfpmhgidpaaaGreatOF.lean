/-
  Joined: OfA OfB OfW.
-/
import Derived.Test.YtgjkfpmhgidpaaaGreatPlan
import Derived.Test.YtgjkfpmhgidpaaaGreatGT
import Derived.Test.YtgjkfpmhgidpaaaGreatOfP
import Derived.Test.YtgjkfpmhgidpaaaGreatWC
import Derived.Test.YtgjkfpmhgidpaaaGreatPL

/-
  Of of the program: plan puts the kids on the pile, the first one last.
-/
namespace Go.Proofs.YtgjkfpmhgidpaaaGreat
open Go.RowKit
set_option linter.unusedVariables false
set_option linter.unusedSimpArgs false

/-- What plan puts on the pile: the first m kids from a place on, the first one last. -/
def planL (q : Int) (kb ko : Nat) : Nat → List Value
  | 0 => []
  | m + 1 => pcp ⟨kb, ko + m * 6, none⟩ q ++ planL q kb ko m

theorem Tk.trans2 {K : Nat} {w w1 w2 : World} {T e : TypeId} {p : Nat} {v v1 : Value} {n2 : Nat} {xs2 : List Value} (k1 : Kp (p :: blk v) w w1) (hb : ∀ k, k ∈ blk v1 → k ∈ blk v ∨ w.heap.size ≤ k) (h2 : Tk K w1 w2 T e p v1 n2 xs2) :
    ∃ v', Pk K w2 T e p v' n2 xs2 ∧ Kp (p :: blk v) w w2 ∧ ∀ k, k ∈ blk v' → k ∈ blk v ∨ w.heap.size ≤ k := by
  obtain ⟨v', h1, h3, h4⟩ := h2
  refine ⟨v', h1, k1.trans h3 (fun x hx => ?_), fun k hk => ?_⟩
  · rcases List.mem_cons.1 hx with rfl | hx
    · exact Or.inl (by simp)
    · rcases hb x hx with h | h
      · exact Or.inl (by simp [h])
      · exact Or.inr h
  · rcases h4 k hk with h | h
    · exact hb k h
    · exact Or.inr (Nat.le_trans k1.size h)

set_option maxHeartbeats 1000000 in
theorem plan_any (w : World) (p : Nat) (v : Value) (n : Nat) (xs : List Value) (q : Nat) (kb ko m d : Nat) (ao : Option Addr) (ha : 0 < m → ao = some ⟨kb, ko, none⟩) (h : Pk 2 w 122 83 p v n xs) (hl : n + m < 100000) :
    Calls Tryz.prog 40 #[.pointer (some ⟨p, 0, none⟩), .int .i64 (q : Int), .slice ao m d] w fun e w' => e = .returned (.tuple #[]) ∧ Tk 2 w w' 122 83 p v (n + m) (xs ++ planL q kb ko m) := by
  have hwm : IntKind.i64.wrap ((m : Int) - 1) = (m : Int) - 1 := by
    simp [IntKind.wrap, IntKind.bits, IntKind.signed]
    omega
  have HP : Hid (Pk 2 w 122 83 p v n xs) := h
  clear h
  go_enter Tryz.func40, Tryz.ntmps40
  go_wp2
  go_loopw [6] (fun x6 wr => ∃ (j : Nat) (v1 : Value) (ys : List Value), x6 = .int .i64 ((j : Int) - 1) ∧ j ≤ m ∧ Pk 2 wr 122 83 p v1 (n + (m - j)) ys ∧ ys ++ planL q kb ko j = xs ++ planL q kb ko m ∧ Kp (p :: blk v) w wr ∧ ∀ k, k ∈ blk v1 → k ∈ blk v ∨ w.heap.size ≤ k) (fun x6 _ => (intOf x6 + 1).toNat)
  case atStart => exact ⟨m, v, xs, rfl, Nat.le_refl _, by rw [Nat.sub_self, Nat.add_zero]; exact HP.out, rfl, Kp.refl _ _, fun k hk => Or.inl hk⟩
  case round =>
    obtain ⟨j, v1, ys, rfl, hj, pk, hy, kp, hb⟩ := hrel
    cases j with
    | zero =>
      rw [Nat.sub_zero] at pk
      have hfin : Hid (Tk 2 w wr 122 83 p v (n + m) (xs ++ planL q kb ko m)) := ⟨v1, by rw [← hy, show planL q kb ko 0 = [] from rfl, List.append_nil]; exact pk, kp, hb⟩
      clear HP hy pk kp hb hwm
      rw [show (((0 : Nat) : Int) - 1) = -1 from rfl]
      go_wp2
      go_end0
      exact ⟨rfl, hfin.out⟩
    | succ j =>
      obtain rfl := ha (by omega)
      have HPush := pp_push wr p v1 (n + (m - (j + 1))) ys ⟨kb, ko + j * 6, none⟩ q pk (by omega)
      have hy2 : Hid ((ys ++ pcp ⟨kb, ko + j * 6, none⟩ q) ++ planL q kb ko j = xs ++ planL q kb ko m) := by
        rw [List.append_assoc]; exact hy
      have HK : Hid (Kp (p :: blk v) w wr ∧ ∀ k, k ∈ blk v1 → k ∈ blk v ∨ w.heap.size ≤ k) := ⟨kp, hb⟩
      have hwj : IntKind.i64.wrap ((j : Int) - 1) = (j : Int) - 1 := by
        simp [IntKind.wrap, IntKind.bits, IntKind.signed]
        omega
      have j0 : (0 : Int) ≤ (j : Int) := by omega
      have j1 : (j : Int) < (m : Int) := by omega
      clear HP hy pk kp hb hwm ha
      unfold pvp at HPush
      rw [show (((j + 1 : Nat) : Int) - 1) = (j : Int) by omega]
      go_wp2_with (go_at_call 80; refine HPush.mono ?_; rintro e w1 ⟨rfl, t1⟩)
      obtain ⟨v2, p2, k2, b2⟩ := Tk.trans2 HK.out.1 HK.out.2 t1
      rw [show n + (m - (j + 1)) + 1 = n + (m - j) by omega] at p2
      go_roundw
      case rel => exact ⟨j, v2, _, rfl, by omega, p2, hy2.out, k2, b2⟩
      case measure => simp [intOf]

end Go.Proofs.YtgjkfpmhgidpaaaGreat

/-
  Of of the program: what lies in memory while a tree is laid.
-/
namespace Go.Proofs.YtgjkfpmhgidpaaaGreat
open Go.RowKit Go.Maps Utf
set_option linter.unusedVariables false
set_option linter.unusedSimpArgs false

theorem planL_snoc (q : Int) (kb : Nat) : ∀ (m ko : Nat), planL q kb ko (m + 1) = planL q kb (ko + 6) m ++ pcp ⟨kb, ko, none⟩ q
  | 0, ko => by simp [planL]
  | m + 1, ko => by
    rw [planL, planL_snoc q kb m ko, planL, List.append_assoc, show ko + 6 + m * 6 = ko + (m + 1) * 6 by omega]

/-- What is still to be laid, from the pile's top on. -/
def Ito (w : World) : List (Nat × Lb × Fo) → List Value → Prop
  | [], xs => xs = []
  | x :: rest, xs => ∃ (ys : List Value) (b off : Nat) (p : Pl), xs = ys ++ pcp ⟨b, off, none⟩ (x.1 : Int) ∧ Cl w b off x.2.1 p ∧ Nd Any w x.2.1 x.2.2 p ∧ Ito w rest ys

theorem ito_items {w : World} {q kb : Nat} {cur : Array Value} {e : TypeId} (hb : w.heap[kb]? = some (.cells cur e (0, 0))) {rest : List (Nat × Lb × Fo)} {ys : List Value} (hr : Ito w rest ys) (k : Fo) :
    ∀ (ko : Nat) (zs : List Value), Lf Any w k zs → (∀ j, j < k.len * 6 → cur[ko + j]? = zs[j]?) → Ito w (Ar.items q k ++ rest) (ys ++ planL q kb ko k.len) := by
  refine Fo.ind (P := fun k => ∀ (ko : Nat) (zs : List Value), Lf Any w k zs → (∀ j, j < k.len * 6 → cur[ko + j]? = zs[j]?) → Ito w (Ar.items q k ++ rest) (ys ++ planL q kb ko k.len)) (fun ko zs _ _ => ?_) (fun l k r _ ih ko zs hz hc => ?_) k
  · rw [Ar.items_nil, List.nil_append, show Fo.nil.len = 0 from rfl, planL, List.append_nil]; exact hr
  · obtain ⟨p, zs', rfl, nd, hz'⟩ := Lf.cons_iff.1 hz
    rw [Ar.items_cons, Fo.len_cons, planL_snoc, ← List.append_assoc]
    rw [Fo.len_cons] at hc
    refine ⟨ys ++ planL q kb (ko + 6) r.len, kb, ko, p, rfl, ⟨cur, e, hb, fun i hi => ?_⟩, nd, ih (ko + 6) zs' hz' (fun j hj => ?_)⟩
    · rw [hc i (by omega), List.getElem?_append_left (by rw [six_len]; exact hi)]
    · have := hc (6 + j) (by omega)
      rw [List.getElem?_append_right (by rw [six_len]; omega), six_len, show 6 + j - 6 = j by omega, ← Nat.add_assoc] at this
      exact this

/-- The kids of a node, on the pile. -/
theorem ito_kids {w : World} {q : Nat} {bo : Option Addr} {m d : Nat} {k : Fo} (h : Rt Any w bo m d k) {rest : List (Nat × Lb × Fo)} {ys : List Value} (hr : Ito w rest ys) :
    m = k.len ∧ ∃ kb ko, (0 < m → bo = some ⟨kb, ko, none⟩) ∧ Ito w (Ar.items q k ++ rest) (ys ++ planL q kb ko m) := by
  obtain ⟨zs, h1, h2⟩ := h
  have hl := h1.len
  have hl2 := h2.len
  have hm : m = k.len := by omega
  refine ⟨hm, ?_⟩
  rcases Nat.eq_zero_or_pos m with h0 | h0
  · have hk : k = .nil := Fo.len_zero.1 (by omega)
    subst hk
    refine ⟨0, 0, fun h => by omega, ?_⟩
    rw [Ar.items_nil, List.nil_append, h0, planL, List.append_nil]; exact hr
  · obtain ⟨b, off, cur, e, _, rfl, hb, hc⟩ := h1.at' h0
    refine ⟨b, off, fun _ => rfl, ?_⟩
    rw [hm]
    exact ito_items hb hr k off zs h2 (fun j hj => hc j (by omega))

theorem Ito.kept {w w' : World} (k : Kp [] w w') : ∀ {its : List (Nat × Lb × Fo)} {xs : List Value}, Ito w its xs → Ito w' its xs
  | [], xs, h => h
  | x :: rest, xs, ⟨ys, b, off, p, h1, h2, h3, h4⟩ => ⟨ys, b, off, p, h1, h2.keep k (by simp), h3.kept k, Ito.kept k h4⟩

theorem OwnK.sameB {K : Nat} {w w' : World} {e : TypeId} {v : Value} {n : Nat} {xs : List Value} (h : OwnK K w e v n xs) (hb : ∀ x, x ∈ blk v → w'.heap[x]? = w.heap[x]?) : OwnK K w' e v n xs := by
  obtain ⟨h0, h1⟩ := h
  refine ⟨h0, ?_⟩
  rcases h1 with h1 | ⟨g, o, cap, cur, rfl, hg, r⟩
  · exact Or.inl h1
  · exact Or.inr ⟨g, o, cap, cur, rfl, by rw [hb g (by simp [blk])]; exact hg, r⟩

/-- A tree is being laid: the arena and the pile. -/
structure L0 (w0 W : World) (tag : Nat → Nat) (b P : Nat) (A : Ar) (v : Value) (np : Nat) (xs : List Value) : Prop where
  pa : Pa tag W b false A.n A.raw
  ok : A.Ok
  kp : Kp [] w0 W
  old : ∀ x, x < w0.heap.size → tag x = 0
  pk : Pk 2 W 122 83 P v np xs
  pn : ∀ k, k = P ∨ k ∈ blk v → w0.heap.size ≤ k ∧ tag k = 0

/-- The variable of the loop. -/
structure Gn (w0 W : World) (tag : Nat → Nat) (gn : Nat) (cur : Array Value) (P : Nat) (v : Value) : Prop where
  gat : At W gn cur 83
  gnew : w0.heap.size ≤ gn
  gtag : tag gn = 0
  gp : gn ≠ P ∧ gn ∉ blk v

/-- Marks of what is there; nothing of what is new. -/
def tgz (tag : Nat → Nat) (w : World) : Nat → Nat := fun x => if x < w.heap.size then tag x else 0

section
variable {w0 W W2 : World} {tag tag2 : Nat → Nat} {b P gn : Nat} {cur : Array Value} {A A2 : Ar} {v : Value} {np np2 : Nat} {xs xs2 : List Value}

theorem tgz_lt {x : Nat} (hx : x < W.heap.size) : tgz tag W x = tag x := if_pos hx
theorem tgz_ge {x : Nat} (hx : W.heap.size ≤ x) : tgz tag W x = 0 := if_neg (by omega)
theorem notP0 : ¬ isP 0 := by unfold isP; omega

theorem L0.lt (h : L0 w0 W tag b P A v np xs) : ∀ k, k = P ∨ k ∈ blk v → k < W.heap.size := fun k hk => by
  rcases hk with rfl | hk
  · exact lt_of h.pk.1
  · exact h.pk.2.1.lt k hk

theorem L0.kpm (h : L0 w0 W tag b P A v np xs) (m : Mv tag W tag2 W2) : Kp [] w0 W2 :=
  ⟨m.os.trans h.kp.os, m.tape.trans h.kp.tape, m.output.trans h.kp.output, Nat.le_trans h.kp.size m.size, fun x hx hn => (m.block x (Nat.lt_of_lt_of_le hx h.kp.size) (by rw [h.old x hx]; exact notP0)).trans (h.kp.block x hx hn)⟩

theorem Mv.zero (m : Mv tag W tag2 W2) {k : Nat} (h1 : k < W.heap.size) (h2 : tag k = 0) : W2.heap[k]? = W.heap[k]? ∧ tag2 k = 0 :=
  ⟨m.block k h1 (by rw [h2]; exact notP0), by rw [m.tg k h1]; exact h2⟩

/-- The arena has turned. -/
theorem L0.arena (h : L0 w0 W tag b P A v np xs) (pa2 : Pa tag2 W2 b false A2.n A2.raw) (ok2 : A2.Ok) (m : Mv tag W tag2 W2) : L0 w0 W2 tag2 b P A2 v np xs := by
  have kS : ∀ k, k = P ∨ k ∈ blk v → W2.heap[k]? = W.heap[k]? ∧ tag2 k = 0 := fun k hk => m.zero (h.lt k hk) (h.pn k hk).2
  exact ⟨pa2, ok2, h.kpm m, fun x hx => (m.zero (Nat.lt_of_lt_of_le hx h.kp.size) (h.old x hx)).2, ⟨by rw [(kS P (.inl rfl)).1]; exact h.pk.1, h.pk.2.1.sameB (fun x hx => (kS x (.inr hx)).1), h.pk.2.2⟩, fun k hk => ⟨(h.pn k hk).1, (kS k hk).2⟩⟩
theorem Gn.arena (g : Gn w0 W tag gn cur P v) (m : Mv tag W tag2 W2) : Gn w0 W2 tag2 gn cur P v := by
  have := m.zero g.gat.lt g.gtag
  exact ⟨by show W2.heap[gn]? = _; rw [this.1]; exact g.gat, g.gnew, this.2, g.gp⟩

theorem L0.kept (h : L0 w0 W tag b P A v np xs) (k : Kp [] W W2) : L0 w0 W2 tag b P A v np xs :=
  h.arena (h.pa.mv k (fun _ _ => rfl)) h.ok (Mv.of_kp k (fun x hx => by simp at hx) (fun _ _ => rfl))
theorem Gn.kept (g : Gn w0 W tag gn cur P v) (k : Kp [] W W2) : Gn w0 W2 tag gn cur P v := g.arena (Mv.of_kp k (fun x hx => by simp at hx) (fun _ _ => rfl))

/-- Blocks of no mark have turned. -/
theorem Pa.turn {n : Nat} {q : Bool} {N : Nat → Pn} {S : List Nat} (h : Pa tag W b q n N) (k : Kp S W W2) (hS : ∀ x, x ∈ S → x < W.heap.size → tag x = 0) (ht : ∀ x, x < W.heap.size → tag2 x = tag x) : Pa tag2 W2 b q n N := by
  obtain ⟨g, o, c, pl, h⟩ := h
  exact ⟨g, o, c, pl, h.keep k (fun x hx hl => by rw [hS x hx hl]; exact notP0) ht⟩

/-- The pile has turned. -/
theorem L0.pile (h : L0 w0 W tag b P A v np xs) (t : Tk 2 W W2 122 83 P v np2 xs2) : ∃ v2, L0 w0 W2 (tgz tag W) b P A v2 np2 xs2 ∧ ∀ gn cur, Gn w0 W tag gn cur P v → Gn w0 W2 (tgz tag W) gn cur P v2 := by
  obtain ⟨v2, pk2, k2, hb⟩ := t
  have hmem : ∀ x, x ∈ P :: blk v → x = P ∨ x ∈ blk v := fun x hx => List.mem_cons.1 hx
  have hs0 := h.kp.size
  refine ⟨v2, ⟨h.pa.turn k2 (fun x hx _ => (h.pn x (hmem x hx)).2) (fun x hx => tgz_lt hx), h.ok, h.kp.trans k2 (fun x hx => .inr (h.pn x (hmem x hx)).1), fun x hx => by rw [tgz_lt (by omega)]; exact h.old x hx, pk2, fun k hk => ?_⟩, fun gn cur g => ⟨g.gat.kept k2 (fun hx => ?_), g.gnew, by rw [tgz_lt g.gat.lt]; exact g.gtag, g.gp.1, fun hx => ?_⟩⟩
  · have hk2 : (k = P ∨ k ∈ blk v) ∨ W.heap.size ≤ k := by
      rcases hk with hk | hk
      · exact .inl (.inl hk)
      · rcases hb k hk with h1 | h1
        · exact .inl (.inr h1)
        · exact .inr h1
    rcases hk2 with hk2 | hk2
    · exact ⟨(h.pn k hk2).1, by rw [tgz_lt (h.lt k hk2)]; exact (h.pn k hk2).2⟩
    · exact ⟨by omega, tgz_ge hk2⟩
  · rcases hmem gn hx with h1 | h1
    · exact g.gp.1 h1
    · exact g.gp.2 h1
  · rcases hb gn hx with h1 | h1
    · exact g.gp.2 h1
    · have := g.gat.lt; omega

/-- The loop's variable is made anew. -/
theorem L0.fresh (h : L0 w0 W tag b P A v np xs) (cur2 : Array Value) : L0 w0 (W.alloc (.cells cur2 83)) (tgz tag W) b P A v np xs ∧ Gn w0 (W.alloc (.cells cur2 83)) (tgz tag W) W.heap.size cur2 P v := by
  have k : Kp [] W (W.alloc (.cells cur2 83)) := (Kp.refl _ _).alloc _
  have hs0 := h.kp.size
  refine ⟨⟨h.pa.mv k (fun x hx => tgz_lt hx), h.ok, h.kp.trans k (fun x hx => .inl hx), fun x hx => by rw [tgz_lt (by omega)]; exact h.old x hx, h.pk.keep k (by simp) (fun _ _ => by simp), fun k hk => ⟨(h.pn k hk).1, by rw [tgz_lt (h.lt k hk)]; exact (h.pn k hk).2⟩⟩, ⟨At.new _ _ _, hs0, tgz_ge (Nat.le_refl _), ?_, ?_⟩⟩
  · have := h.lt P (.inl rfl); omega
  · intro hx; have := h.lt _ (.inr hx); omega

/-- The loop's variable is written. -/
theorem L0.store {u0 u1 : Value} (h : L0 w0 W tag b P A v np xs) (g : Gn w0 W tag gn #[u0, u1] P v) (x0 x1 : Value) : L0 w0 ((W.setCell ⟨gn, 0, none⟩ x0).setCell ⟨gn, 1, none⟩ x1) tag b P A v np xs ∧ Gn w0 ((W.setCell ⟨gn, 0, none⟩ x0).setCell ⟨gn, 1, none⟩ x1) tag gn #[x0, x1] P v := by
  have k : Kp [gn] W ((W.setCell ⟨gn, 0, none⟩ x0).setCell ⟨gn, 1, none⟩ x1) := ((Kp.refl _ _).setCell (Or.inl (by simp)) _).setCell (Or.inl (by simp)) _
  exact ⟨⟨h.pa.turn k (fun x hx _ => by rw [List.mem_singleton.1 hx]; exact g.gtag) (fun _ _ => rfl), h.ok, h.kp.trans k (fun x hx => .inr (by rw [List.mem_singleton.1 hx]; exact g.gnew)), h.old, h.pk.keep k (fun hx => g.gp.1 (List.mem_singleton.1 hx).symm) (fun x hx hs => g.gp.2 (by rw [← List.mem_singleton.1 hs]; exact hx)), h.pn⟩, ⟨(g.gat.set 0 x0).set 1 x1, g.gnew, g.gtag, g.gp⟩⟩

/-- What the pile tells last. -/
def Pops (w0 : World) (its : List (Nat × Lb × Fo)) (q : Int) (ao : Option Addr) (y : Bool) (np : Nat) (xs : List Value) : Prop :=
  (its = [] ∧ y = false ∧ q = 0 ∧ ao = none) ∨ ∃ x rest b1 off p, its = x :: rest ∧ y = true ∧ q = (x.1 : Int) ∧ ao = some ⟨b1, off, none⟩ ∧ Cl w0 b1 off x.2.1 p ∧ Nd Any w0 x.2.1 x.2.2 p ∧ Ito w0 rest xs ∧ np = rest.length

theorem L0.pop {its : List (Nat × Lb × Fo)} (h : L0 w0 W tag b P A v np xs) (hi : Ito w0 its xs) (hn : np = its.length) (hl : np < 100000) :
    Calls Tryz.prog 41 #[.pointer (some ⟨P, 0, none⟩)] W fun e W' => ∃ (q : Int) (ao : Option Addr) (y : Bool) (v2 : Value) (np2 : Nat) (xs2 : List Value) (tag2 : Nat → Nat), e = .returned (.tuple #[.agg #[.int .i64 q, .pointer ao], .bool y]) ∧ Pops w0 its q ao y np2 xs2 ∧ L0 w0 W' tag2 b P A v2 np2 xs2 ∧ ∀ gn cur, Gn w0 W tag gn cur P v → Gn w0 W' tag2 gn cur P v2 := by
  cases its with
  | nil =>
    have hx : xs = [] := hi
    subst hx
    have h0 : np = 0 := hn
    subst h0
    refine (pp_pop_none W P v [] h.pk).mono ?_
    rintro e W' ⟨rfl, k⟩
    exact ⟨0, none, false, v, 0, [], tag, rfl, .inl ⟨rfl, rfl, rfl, rfl⟩, h.kept k, fun gn cur g => g.kept k⟩
  | cons x rest =>
    obtain ⟨ys, b1, off, p, rfl, h2, h3, h4⟩ := hi
    have hn' : np = rest.length + 1 := hn
    subst hn'
    refine (pp_pop W P v rest.length ys _ _ h.pk (by omega)).mono ?_
    rintro e W' ⟨rfl, t⟩
    obtain ⟨v2, l2, g2⟩ := h.pile t
    exact ⟨_, _, true, v2, _, ys, _, rfl, .inr ⟨x, rest, b1, off, p, rfl, rfl, rfl, rfl, h2, h3, h4, rfl⟩, l2, g2⟩

end

end Go.Proofs.YtgjkfpmhgidpaaaGreat

/-
  Of of the program: a right tree is laid in an arena, what is not right is refused.
-/
namespace Go.Proofs.YtgjkfpmhgidpaaaGreat
open Go.RowKit Go.Maps Utf
set_option linter.unusedVariables false
set_option linter.unusedSimpArgs false

/-- A label that may be laid. -/
def okN (l : Lb) : Prop := keptL l = l ∧ l.attrs.length ≤ 8000 ∧ fits l.attrs ∧ l.name.size ≤ 1000000 ∧ l.text.size ≤ 1000000

theorem lots_len : ∀ its : List (Nat × Lb × Fo), its.length ≤ Ar.lots its
  | [] => Nat.le_refl _
  | x :: rest => by have := lots_len rest; simp only [List.length_cons, Ar.lots]; omega

theorem items_len (q : Nat) (k : Fo) : (Ar.items q k).length = k.len := by
  refine Fo.ind (P := fun k => (Ar.items q k).length = k.len) rfl (fun l k r _ hr => ?_) k
  rw [Ar.items_cons, List.length_cons, hr, Fo.len_cons]

theorem items_all (q : Nat) {P : Lb → Prop} (k : Fo) : k.Each P → ∀ x, x ∈ Ar.items q k → x.1 = q ∧ P x.2.1 ∧ x.2.2.Each P := by
  refine Fo.ind (P := fun k => k.Each P → ∀ x, x ∈ Ar.items q k → x.1 = q ∧ P x.2.1 ∧ x.2.2.Each P) (fun _ x hx => by simp [Ar.items_nil] at hx) (fun l k r _ hr he x hx => ?_) k
  rw [Ar.items_cons] at hx
  rcases List.mem_cons.1 hx with rfl | hx
  · exact ⟨rfl, he.1, he.2.1⟩
  · exact hr he.2.2 x hx

/-- The loop of Of. -/
def ROf (w0 : World) (b P N : Nat) (Z : Ar) (a : Value × Value × World) (n : Nat) : Prop :=
  ∃ (tag : Nat → Nat) (A : Ar) (gn : Nat) (v : Value) (np : Nat) (xs : List Value) (its : List (Nat × Lb × Fo)) (q : Int) (ao : Option Addr) (y : Bool),
    a.1 = .pointer (some ⟨gn, 0, none⟩) ∧ a.2.1 = .bool y ∧ L0 w0 a.2.2 tag b P A v np xs ∧ Gn w0 a.2.2 tag gn #[.int .i64 q, .pointer ao] P v ∧ Ar.layAll its A = Z ∧ A.n + Ar.lots its = N ∧ n = Ar.lots its ∧ (∀ x, x ∈ its → x.1 < A.n ∧ okN x.2.1 ∧ x.2.2.Each okN) ∧ Pops w0 its q ao y np xs

theorem Gn.two {w0 W : World} {tag : Nat → Nat} {gn P : Nat} {u0 u1 v : Value} (g : Gn w0 W tag gn #[u0, u1] P v) : W.cell? ⟨gn, 0, none⟩ = some u0 ∧ W.cell? ⟨gn, 1, none⟩ = some u1 ∧ (∀ j, W.frozen? ⟨gn, j, none⟩ = false) ∧ gn < W.heap.size :=
  ⟨g.gat.cell 0, g.gat.cell 1, fun j => g.gat.free j, g.gat.lt⟩

set_option maxRecDepth 100000 in
set_option maxHeartbeats 2000000 in
theorem of_right (w : World) (l : Lb) (k : Fo) (p : Pl) (h : Nd Any w l k p) (ho : okT l k) (hr : rightF l k = true) (he : k.Each okN) (hc : k.cnt ≤ 3000) :
    Calls Tryz.prog 8 #[wv l p] w fun e w' => ∃ b tag, e = .returned (.tuple #[.pointer (some ⟨b, 0, none⟩), .int .i64 0]) ∧ Kp [] w w' ∧ Pa tag w' b false (Ar.lay k 0 Ar.first).n (Ar.lay k 0 Ar.first).raw := by
  obtain ⟨Z, HZ⟩ : ∃ Z, Hid (Ar.lay k 0 Ar.first = Z) := ⟨_, rfl⟩
  rw [HZ.out]
  obtain ⟨W, hW⟩ : ∃ W, W = w.alloc (.cells #[.int .i64 l.kind, .int .i64 l.ns, .string l.name, .slice p.1.1 p.1.2.1 p.1.2.2, .string l.text, .slice p.2.1 p.2.2.1 p.2.2.2] 38) := ⟨_, rfl⟩
  have k1 : Kp [] w W := by rw [hW]; exact (Kp.refl _ _).alloc _
  have A1 : At W w.heap.size #[.int .i64 l.kind, .int .i64 l.ns, .string l.name, .slice p.1.1 p.1.2.1 p.1.2.2, .string l.text, .slice p.2.1 p.2.2.1 p.2.2.2] 38 := by rw [hW]; exact At.new _ _ _
  have HW : Hid (w.alloc (.cells #[.int .i64 l.kind, .int .i64 l.ns, .string l.name, .slice p.1.1 p.1.2.1 p.1.2.2, .string l.text, .slice p.2.1 p.2.2.1 p.2.2.2] 38) = W) := hW.symm
  have nW := h.kept k1
  have HR := right_any W l k p nW ho
  rw [hr] at HR
  unfold wv at HR ⊢
  have H0 : Hid (Kp [] w W ∧ At W w.heap.size #[.int .i64 l.kind, .int .i64 l.ns, .string l.name, .slice p.1.1 p.1.2.1 p.1.2.2, .string l.text, .slice p.2.1 p.2.2.1 p.2.2.2] 38 ∧ Nd Any W l k p ∧ k.Each okN ∧ k.cnt ≤ 3000) := ⟨k1, A1, nW, he, hc⟩
  obtain ⟨x0, x1, x2, x3, x4, x5⟩ := A1.six
  clear hW h ho hr he hc nW k1
  go_enter Tryz.func8, Tryz.ntmps8
  go_upto_region 1 with fail
  rw [HW.out]
  clear HW
  generalize w.heap.size = gb at *
  go_upto_region 3 with (go_at_call 13; refine HR.mono ?_; rintro e w1 ⟨rfl, kR⟩)
  clear HR x0 x1 x2 x3 x4 x5 A1
  go_upto_region 4 with (go_at_call 5; refine (new_any w1 (fun _ => 0)).mono ?_; rintro e w2 ⟨b, tag1, rfl, pa2, kN, hb2, ht2⟩)
  obtain ⟨P, hP⟩ : ∃ P, w2.heap.size = P := ⟨_, rfl⟩
  obtain ⟨W3, hW3⟩ : ∃ W3, w2.alloc (.cells #[.slice none 0 0] 122) = W3 := ⟨_, rfl⟩
  have k3 : Kp [] w2 W3 := by rw [← hW3]; exact (Kp.refl _ _).alloc _
  have PK3 : Pk 2 W3 122 83 P (.slice none 0 0) 0 [] := ⟨by rw [← hW3, ← hP]; exact heap_new w2 _, ⟨rfl, Or.inl ⟨rfl, rfl⟩⟩, by simp [blk]⟩
  have L3 : L0 w1 W3 (tgz tag1 w2) b P Ar.first (.slice none 0 0) 0 [] := by
    have hs := kN.size
    refine ⟨pa2.mv k3 (fun x hx => tgz_lt hx), Ar.first_ok, kN.trans k3 (fun x hx => Or.inl hx), fun x hx => by rw [tgz_lt (by omega)]; exact ht2 x hx, PK3, fun j hj => ?_⟩
    rcases hj with rfl | hj
    · exact ⟨by omega, tgz_ge (by omega)⟩
    · simp [blk] at hj
  have HPN := pp_new w2
  rw [hP, hW3] at HPN
  go_upto_region 5 with (go_at_call 39; refine HPN.mono ?_; rintro e w9 ⟨rfl, hw⟩; have hw2 := hw.symm; clear hw; subst hw2)
  have kW1 : Kp [] W w1 := kR
  obtain ⟨hm, kb, ko, ha, hito⟩ := ito_kids (q := 0) ((H0.out.2.2.1.kept kR).kids) (rest := []) (ys := []) rfl
  rw [List.append_nil, List.nil_append] at hito
  have c5 : W3.cell? ⟨gb, 5, none⟩ = some (.slice p.2.1 p.2.2.1 p.2.2.2) := ((H0.out.2.1.kept kR (by simp)).kept L3.kp (by simp)).cell 5
  have hlen : k.len ≤ 3000 := Nat.le_trans (Fo.len_le_cnt k) H0.out.2.2.2.2
  have HPl := plan_any W3 P (.slice none 0 0) 0 [] 0 kb ko p.2.2.1 p.2.2.2 p.2.1 ha PK3 (by omega)
  rw [Nat.zero_add, List.nil_append] at HPl
  have HL3 : Hid (L0 w1 W3 (tgz tag1 w2) b P Ar.first (.slice none 0 0) 0 []) := L3
  have HI : Hid (Ito w1 (Ar.items 0 k) (planL ((0 : Nat) : Int) kb ko p.2.2.1) ∧ p.2.2.1 = k.len ∧ k.len ≤ 3000) := ⟨hito, hm, hlen⟩
  have HKW : Hid (Kp [] w w1) := H0.out.1.trans kR (fun x hx => Or.inl hx)
  have HEE : Hid (k.Each okN ∧ k.cnt ≤ 3000) := ⟨H0.out.2.2.2.1, H0.out.2.2.2.2⟩
  clear PK3 L3 HPN hP k3 pa2 kN hb2 ht2 hW3 hito hm hlen ha H0 kW1 kR
  rw [show ((0 : Nat) : Int) = 0 from rfl] at HPl HI
  go_upto_region 6 with (go_at_call 40; refine HPl.mono ?_; rintro e w4 ⟨rfl, t4⟩)
  obtain ⟨v4, L4, _⟩ := HL3.out.pile t4
  clear HL3 t4 HPl c5
  have HPop := L4.pop HI.out.1 (by rw [items_len]; exact HI.out.2.1) (by have := HI.out.2; omega)
  clear L4
  go_upto_region 7 with (go_at_call 41; refine HPop.mono ?_; rintro e w5 ⟨q5, ao5, y5, v5, np5, xs5, tag5, rfl, pd5, L5, _⟩)
  have F6 := L5.fresh #[.int .i64 q5, .pointer ao5]
  have HS : Hid (ROf w1 b P (1 + k.cnt) Z (.pointer (some ⟨w5.heap.size, 0, none⟩), .bool y5, w5.alloc (.cells #[.int .i64 q5, .pointer ao5] 83)) k.cnt) := by
    refine ⟨_, Ar.first, _, v5, np5, xs5, Ar.items 0 k, q5, ao5, y5, rfl, rfl, F6.1, F6.2, ?_, ?_, ?_, fun x hx => ?_, pd5⟩
    · have := Ar.lay_items 0 [] k Ar.first
      rw [List.append_nil] at this
      rw [this, ← HZ.out]; rfl
    · rw [Ar.lots_items]; rfl
    · rw [Ar.lots_items]
    · obtain ⟨e1, e2, e3⟩ := items_all 0 k HEE.out.1 x hx
      exact ⟨by rw [e1]; exact Nat.one_pos, e2, e3⟩
  have hN : 1 + k.cnt ≤ 3001 := by have := HEE.out.2; omega
  generalize 1 + k.cnt = N at HS hN
  clear HPop pd5 L5 F6 HEE HI HZ
  obtain ⟨μ, hμ⟩ := least_of (ROf w1 b P N Z)
  go_loopw [6, 7] (fun x6 x7 wr => ∃ n, ROf w1 b P N Z (x6, x7, wr) n) (fun x6 x7 wr => μ (x6, x7, wr))
  case atStart => exact ⟨_, HS.out⟩
  case round =>
    clear HS
    obtain ⟨n0, hrel⟩ := hrel
    obtain ⟨tag, A, gn, v, np, xs, its, q, ao, y, h6, h7, L, G, hZ, hNn, hn, hit, pd⟩ := (hμ _ _ hrel).1
    simp only at h6 h7
    subst h6 h7
    have HM : Hid (∀ a n, ROf w1 b P N Z a n → μ a ≤ n) := fun a n hn => (hμ a n hn).2
    have HX : Hid (μ (.pointer (some ⟨gn, 0, none⟩), .bool y, wr) = Ar.lots its) := hn
    clear hrel hμ hn
    rcases pd with ⟨rfl, rfl, rfl, rfl⟩ | ⟨⟨qi, li, ki⟩, rest, b1, off, pp, rfl, rfl, rfl, rfl, cl, nd, it, rfl⟩
    · have hZ2 : A = Z := hZ
      subst hZ2
      have hfin : Hid (Kp [] w wr ∧ Pa tag wr b false A.n A.raw) := ⟨HKW.out.trans L.kp (fun x hx => Or.inl hx), L.pa⟩
      clear L G hit HM HX hNn HKW
      go_wp2
      go_ret2
      exact ⟨b, tag, rfl, hfin.out.1, hfin.out.2⟩
    · obtain ⟨hq, ⟨hk, ha1, ha2, ha3, ha4⟩, hke⟩ := hit _ (List.mem_cons_self ..)
      simp only at hq hk ha1 ha2 ha3 ha4 hke cl nd
      have hAn : A.n ≤ 3001 := by omega
      have clr := cl.keep L.kp (by simp)
      have ndr := nd.kept L.kp
      have hal := ndr.at'.rp.len
      have HN := nodeof_any wr b1 off li pp clr ndr.at'.rp (by omega) ha2 ha3 ha4
      rw [hk] at HN
      have HA : Hid (∀ w2 np', Fr wr w2 li np' → Calls Tryz.prog 17 #[.pointer (some ⟨b, 0, none⟩), nv li np'] w2 fun e w' => e = .returned (.int .i64 (A.n : Int)) ∧ ∃ tag', Pa tag' w' b false (A.new li).n (A.new li).raw ∧ Mv tag wr tag' w') := fun w2 np' fr => by
        obtain ⟨g0, o0, c0, pl0, r0⟩ := L.pa
        refine (add_any r0 (by omega) _ np' fr).mono ?_
        rintro e w3 ⟨rfl, t3, p3, m3⟩
        exact ⟨rfl, t3, pa_new L.ok p3, m3⟩
      obtain ⟨gc0, gc1, gf, glt⟩ := G.two
      have H1 : Hid (L0 w1 wr tag b P A v rest.length xs ∧ Gn w1 wr tag gn #[.int .i64 (qi : Int), .pointer (some ⟨b1, off, none⟩)] P v ∧ Ar.layAll ((qi, li, ki) :: rest) A = Z ∧ A.n + Ar.lots ((qi, li, ki) :: rest) = N ∧ (∀ x, x ∈ (qi, li, ki) :: rest → x.1 < A.n ∧ okN x.2.1 ∧ x.2.2.Each okN) ∧ Cl w1 b1 off li pp ∧ Nd Any w1 li ki pp ∧ Ito w1 rest xs) := ⟨L, G, hZ, hNn, hit, cl, nd, it⟩
      have HE : Hid (ki.Each okN) := hke
      clear L G hZ hit cl nd it clr ndr hal hk ha1 ha2 ha3 ha4 hke hNn
      go_wp2_with fail
      refine HN.mono ?_
      rintro e w2 ⟨np', rfl, fr⟩
      have HA2 := HA.out _ _ fr
      clear HN HA fr gc0 gc1 gf glt
      generalize nv li np' = V at HA2
      go_wp2_with fail
      refine HA2.mono ?_
      rintro e w3 ⟨rfl, t3, p3, m3⟩
      clear HA2
      have ok3 : (A.new li).Ok := H1.out.1.ok.new li
      have L3 := H1.out.1.arena p3 ok3 m3
      have G3 := H1.out.2.1.arena m3
      obtain ⟨g3, o3, c3, pl3, r3⟩ := p3
      have hu3 : (A.new li).up A.n = none := (H1.out.1.ok.out A.n (Nat.le_refl _)).2
      have HL := rz_link (Rz.mk r3 (Kp.refl [g3] w3)) rfl ok3 (show A.n + 1 < 50000 by omega) (p := qi) (x := A.n) (show qi < A.n + 1 by omega) (show A.n < A.n + 1 by omega) hu3
      obtain ⟨gc0, gc1, gf, glt⟩ := G3.two
      have H3 : Hid (L0 w1 w3 t3 b P (A.new li) v rest.length xs ∧ Gn w1 w3 t3 gn #[.int .i64 (qi : Int), .pointer (some ⟨b1, off, none⟩)] P v) := ⟨L3, G3⟩
      clear ok3 L3 G3 r3 hu3 m3
      go_upto_region 11 with (go_at_call 43; refine HL.mono ?_; rintro e w4 ⟨rfl, z4⟩)
      clear HL gc0 gc1 gf glt
      have ok4 : (A.add1 qi li).Ok := H1.out.1.ok.add1 hq li
      have L4 := H3.out.1.arena (A2 := A.add1 qi li) ⟨g3, o3, c3, pl3, z4.1⟩ ok4 z4.mv
      have G4 := H3.out.2.arena z4.mv
      obtain ⟨hm, kb, ko, ha, hito⟩ := ito_kids (q := A.n) H1.out.2.2.2.2.2.2.1.kids (rest := rest) (ys := xs) H1.out.2.2.2.2.2.2.2
      have hlots : A.n + (1 + ki.cnt + Ar.lots rest) = N := H1.out.2.2.2.1
      have hkl := Fo.len_le_cnt ki
      have hrl := lots_len rest
      have HPl := plan_any w4 P v rest.length xs A.n kb ko pp.2.2.1 pp.2.2.2 pp.2.1 ha L4.pk (by omega)
      obtain ⟨gc0, gc1, gf, glt⟩ := G4.two
      obtain ⟨_, _, _, _, _, cl5⟩ := (H1.out.2.2.2.2.2.1.keep L4.kp (by simp)).cells
      have H4 : Hid (L0 w1 w4 t3 b P (A.add1 qi li) v rest.length xs ∧ Gn w1 w4 t3 gn #[.int .i64 (qi : Int), .pointer (some ⟨b1, off, none⟩)] P v ∧ Ito w1 (Ar.items A.n ki ++ rest) (xs ++ planL (A.n : Int) kb ko pp.2.2.1) ∧ pp.2.2.1 = ki.len ∧ A.n + (1 + ki.cnt + Ar.lots rest) = N ∧ ki.len ≤ ki.cnt ∧ rest.length ≤ Ar.lots rest) := ⟨L4, G4, hito, hm, hlots, hkl, hrl⟩
      clear H3 z4 ok4 L4 G4 hito hm ha hlots hkl hrl
      go_upto_region 12 with (go_at_call 40; refine HPl.mono ?_; rintro e w5 ⟨rfl, t5⟩)
      obtain ⟨v5, L5, GG5⟩ := H4.out.1.pile t5
      have G5 := GG5 _ _ H4.out.2.1
      clear HPl t5 GG5 gc0 gc1 gf glt cl5
      obtain ⟨gc0, gc1, gf, glt⟩ := G5.two
      obtain ⟨F6, F7⟩ := L5.fresh #[.int .i64 (qi : Int), .pointer (some ⟨b1, off, none⟩)]
      have HPop := F6.pop H4.out.2.2.1 (by rw [List.length_append, items_len]; have := H4.out.2.2.2.1; omega) (by have := H4.out.2.2.2; omega)
      have H6 : Hid (Gn w1 (w5.alloc (.cells #[.int .i64 (qi : Int), .pointer (some ⟨b1, off, none⟩)] 83)) (tgz (tgz t3 w4) w5) w5.heap.size #[.int .i64 (qi : Int), .pointer (some ⟨b1, off, none⟩)] P v5) := F7
      clear L5 G5 F6 F7
      go_upto_region 8 with fail
      clear gc0 gc1 gf glt
      go_wp2_with (go_at_call 41; refine HPop.mono ?_; rintro e w6 ⟨q6, ao6, y6, v6, np6, xs6, tag6, rfl, pd6, L6, GG6⟩; have G6 := GG6 _ _ H6.out; obtain ⟨gc0, gc1, gf, glt⟩ := G6.two; have S6 : Hid (_ ∧ _) := L6.store G6 (.int .i64 q6) (.pointer ao6); clear GG6 G6 L6)
      clear HPop H6 gc0 gc1 gf glt
      have RR : ROf w1 b P N Z (.pointer (some ⟨w5.heap.size, 0, none⟩), .bool y6, (w6.setCell ⟨w5.heap.size, 0, none⟩ (.int .i64 q6)).setCell ⟨w5.heap.size, 1, none⟩ (.pointer ao6)) (Ar.lots (Ar.items A.n ki ++ rest)) := by
        refine ⟨tag6, A.add1 qi li, _, v6, np6, xs6, Ar.items A.n ki ++ rest, q6, ao6, y6, rfl, rfl, S6.out.1, S6.out.2, ?_, ?_, rfl, fun x hx => ?_, pd6⟩
        · rw [← Ar.layAll_cons]; exact H1.out.2.2.1
        · rw [Ar.lots_app, Ar.lots_items]
          show A.n + 1 + _ = N
          have := H4.out.2.2.2.2.1
          omega
        · show x.1 < A.n + 1 ∧ _
          rcases List.mem_append.1 hx with hx | hx
          · obtain ⟨e1, e2, e3⟩ := items_all A.n ki HE.out x hx
            exact ⟨by omega, e2, e3⟩
          · obtain ⟨e1, e2⟩ := H1.out.2.2.2.2.1 x (List.mem_cons_of_mem _ hx)
            exact ⟨by omega, e2⟩
      go_roundw
      case rel => exact ⟨_, RR⟩
      case measure =>
        refine Nat.lt_of_le_of_lt (HM.out _ _ RR) ?_
        rw [HX.out, Ar.lots_app, Ar.lots_items]
        show _ < 1 + ki.cnt + Ar.lots rest
        omega

end Go.Proofs.YtgjkfpmhgidpaaaGreat
