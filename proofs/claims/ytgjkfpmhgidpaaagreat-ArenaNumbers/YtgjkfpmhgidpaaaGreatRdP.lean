/-
  The document's arena: Pure.
-/
import Derived.Test.YtgjkfpmhgidpaaaGreatRM
import Derived.Test.YtgjkfpmhgidpaaaGreatPL
namespace Go.Proofs.YtgjkfpmhgidpaaaGreat
open Go.RowKit Go.Maps Utf
set_option linter.unusedVariables false
set_option linter.unusedSimpArgs false

/-- A row of nodes with all below them. -/
def Ar.row (A : Ar) (l : List Nat) : Fo := l.foldr (fun c r => .cons (A.lb c) (A.below c) r) .nil
theorem Ar.row_cat (A : Ar) (l : List Nat) (y : Nat) : A.row (l ++ [y]) = (A.row l).app (.cons (A.lb y) (A.below y) .nil) := by
  induction l with
  | nil => rfl
  | cons x xs ih => exact congrArg (Fo.cons (A.lb x) (A.below x)) ih

/-- Lists that are never written again, and such as have come since. -/
abbrev Qe (tag : Nat → Nat) (m e : Nat) : Nat → Prop := fun z => (z < m ∧ tag z = 5) ∨ m + e ≤ z

/-- The document's Pure under way. -/
structure Gp (tag : Nat → Nat) (w wr : World) (A : Ar) (x : Nat) (P : Dp) (k : Nat) (bo : Option Addr) (d2 : Nat) : Prop where
  kp : Kp [] w wr
  a4 : At wr w.heap.size #[.int .i64 0, .int .i64 0, .string ⟨#[]⟩, .slice none 0 0, .string ⟨#[]⟩, .slice none 0 0] 38
  a5 : At wr (w.heap.size + 1) #[.int .i64 (A.lb x).kind, .int .i64 (A.lb x).ns, .string (A.lb x).name, .string (A.lb x).text, .slice P.1.1 P.1.2.1 P.1.2.2, .slice P.2.1 P.2.2.1 P.2.2.2, .int .i64 (Ar.upI (A.up x))] 59
  a6 : At wr (w.heap.size + 2) #[.int .i64 (A.lb x).kind, .int .i64 (A.lb x).ns, .string (A.lb x).name, .slice P.1.1 P.1.2.1 P.1.2.2, .string (A.lb x).text, .slice bo k d2] 38
  own : ∃ zs, OwnK 6 wr 38 (.slice bo k d2) k zs ∧ Lf (fun z => Qe tag w.heap.size 3 z ∧ z ∉ blk (.slice bo k d2)) wr (A.row ((A.kids x).take k)) zs
  nw : ∀ z, z ∈ blk (.slice bo k d2) → w.heap.size + 3 ≤ z

section
variable {tag : Nat → Nat} {w wr : World} {d g o c : Nat} {q : Bool} {A : Ar} {pl : Nat → Dp}


theorem six_one (l : Lb) (p : Pl) : ∀ v, v ∈ six l p → v.oneCell' = true := fun v hv => by
  simp [six] at hv
  rcases hv with rfl | rfl | rfl | rfl | rfl | rfl <;> rfl

/-- One kid more. -/
theorem Gp.step {x : Nat} {P : Dp} {k : Nat} {bo : Option Addr} {d2 : Nat} (gp : Gp tag w wr A x P k bo d2) {U1 : World} (kU : Kp [] wr U1) {y : Nat} (hk : k < 50000) (hy : (A.kids x)[k]? = some y) {p : Pl} (nd : Nd (fun z => (z < w.heap.size ∧ tag z = 5) ∨ wr.heap.size ≤ z) U1 (A.lb y) (A.below y) p) {U2 : World} {g9 : Nat} (hU2 : U2 = U1.alloc (.cells #[.int .i64 (A.lb y).kind, .int .i64 (A.lb y).ns, .string (A.lb y).name, .slice p.1.1 p.1.2.1 p.1.2.2, .string (A.lb y).text, .slice p.2.1 p.2.2.1 p.2.2.2] 38)) (hg9 : U1.heap.size = g9) :
    ∃ v' U3, (∀ ty, (Builtin.append_ #[36, 36] ty #[.slice bo k d2, .slice (some ⟨g9, 0, none⟩) 1 1]).run Tryz.prog U2 = .ok v' U3) ∧ Kp [] w U3 ∧ (∃ a c', v' = .slice (some a) (k + 1) c' ∧ Gp tag w (U3.setCell ⟨w.heap.size + 2, 5, none⟩ v') A x P (k + 1) (some a) c') ∧
      At U3 (w.heap.size + 2) #[.int .i64 (A.lb x).kind, .int .i64 (A.lb x).ns, .string (A.lb x).name, .slice P.1.1 P.1.2.1 P.1.2.2, .string (A.lb x).text, .slice bo k d2] 38 ∧ At U3 (w.heap.size + 1) #[.int .i64 (A.lb x).kind, .int .i64 (A.lb x).ns, .string (A.lb x).name, .string (A.lb x).text, .slice P.1.1 P.1.2.1 P.1.2.2, .slice P.2.1 P.2.2.1 P.2.2.2, .int .i64 (Ar.upI (A.up x))] 59 := by
  obtain ⟨zs, o1, l1⟩ := gp.own
  have u2 : Kp [] U1 U2 := by rw [hU2]; exact (Kp.refl _ _).alloc _
  have kW : Kp [] wr U2 := kU.trans u2 (fun x hx => Or.inl hx)
  have a9 : At U2 g9 (six (A.lb y) p).toArray 38 := by rw [hU2, ← hg9]; exact At.new _ _ _
  have sz6 := gp.a6.lt
  have nw := gp.nw
  have hkz := gp.kp.size
  obtain ⟨v', U3, hrun, o3, k3, b3, a3, c3, e3⟩ := appK Tryz.underlying36 info42 rfl (by decide) U2 _ k zs (o1.keep kW (fun _ _ => by simp)) _ 1 _ (src_new Tryz.underlying36 a9 (six (A.lb y) p) rfl (six_one _ _)) (fun _ => by omega) (by omega)
  have wk := kW.size
  have hS : ∀ z, z < w.heap.size + 3 → z ∉ blk (.slice bo k d2) := fun z hz hm => by have := nw z hm; omega
  have kw3 : Kp [] w U3 := by
    refine (gp.kp.trans kW (fun x hx => Or.inl hx)).trans k3 (fun z hz => Or.inr ?_)
    have := nw z hz; omega
  have A6 := (gp.a6.kept kW (by simp)).kept k3 (hS _ (by omega))
  have A5 := (gp.a5.kept kW (by simp)).kept k3 (hS _ (by omega))
  have A4 := (gp.a4.kept kW (by simp)).kept k3 (hS _ (by omega))
  have kS : Kp [w.heap.size + 2] U3 (U3.setCell ⟨w.heap.size + 2, 5, none⟩ v') := (Kp.refl _ _).setCell (Or.inl (by simp)) _
  have bn : ∀ z, z ∈ blk v' → w.heap.size + 3 ≤ z := fun z hz => by
    rcases b3 z hz with h1 | h1
    · exact nw z h1
    · omega
  have olt := o1.lt
  refine ⟨v', U3, hrun, kw3, ⟨a3, c3, e3, ?_⟩, A6, A5⟩
  subst e3
  refine ⟨kw3.trans kS (fun z hz => by rw [List.mem_singleton.1 hz]; exact Or.inr (by omega)), A4.kept kS (by simp), A5.kept kS (by simp), ?_, ⟨zs ++ six (A.lb y) p, o3.keep kS (fun z hz hs => by rw [List.mem_singleton.1 hs] at hz; have := bn _ hz; omega), ?_⟩, bn⟩
  · exact A6.set 5 _
  · rw [List.take_add_one, hy]
    show Lf _ _ (A.row ((A.kids x).take k ++ [y])) _
    rw [A.row_cat]
    have k13 := kU.size
    have q1 : Lf (fun z => Qe tag w.heap.size 3 z ∧ z ∉ blk (.slice bo k d2)) U1 ((A.row ((A.kids x).take k)).app (.cons (A.lb y) (A.below y) .nil)) (zs ++ six (A.lb y) p) := by
      have n2 : Nd (fun z => Qe tag w.heap.size 3 z ∧ z ∉ blk (.slice bo k d2)) U1 (A.lb y) (A.below y) p := nd.mono (fun z hz hq => by
        rcases hq with hq | hq
        · exact ⟨.inl hq, fun hm => by have := nw z hm; omega⟩
        · exact ⟨.inr (by omega), fun hm => by have := olt z hm; omega⟩)
      have := Lf.cons n2 (Lf.nil (fun z => Qe tag w.heap.size 3 z ∧ z ∉ blk (.slice bo k d2)) U1)
      rw [List.append_nil] at this
      exact Lf.app this (l1.kept kU)
    have q2 := ((q1.keep (u2.sm _)).keep (k3.sms (fun z hz => hz.2))).keep (kS.sms (fun z hz hs => by
      rw [List.mem_singleton.1 hs] at hz
      rcases hz.1 with h1 | h1 <;> omega))
    -- blocks that the new slice does not lie in
    have q3 : Lf (fun z => Qe tag w.heap.size 3 z ∧ z ∉ blk (.slice bo k d2) ∧ z < U1.heap.size) U1 ((A.row ((A.kids x).take k)).app (.cons (A.lb y) (A.below y) .nil)) (zs ++ six (A.lb y) p) := q1.mono (fun z hz hq => ⟨hq.1, hq.2, hz⟩)
    have q4 := ((q3.keep (u2.sm _)).keep (k3.sms (fun z hz => hz.2.1))).keep (kS.sms (fun z hz hs => by
      rw [List.mem_singleton.1 hs] at hz
      rcases hz.1 with h1 | h1 <;> omega))
    have u2s := u2.size
    exact q4.mono (fun z _ hq => ⟨hq.1, fun hm => by
      rcases b3 z hm with h1 | h1
      · exact hq.2.1 h1
      · have := hq.2.2; omega⟩)

set_option maxRecDepth 100000 in
set_option maxHeartbeats 1000000 in
theorem rpure_step (h : Dd tag w d g o c q A pl) (ok : A.Ok) (hn : A.n < 50000) (x : Nat) (hx : x < A.n)
    (HR : Hid (∀ tag' V y, Dd tag' V d g o c q A pl → y ∈ A.kids x → Calls Tryz.prog 44 #[.pointer (some ⟨d, 0, none⟩), .int .i64 (y : Int)] V fun e w' => ∃ p, e = .returned (wv (A.lb y) p) ∧ Kp [] V w' ∧ Nd (Qe tag' V.heap.size 0) w' (A.lb y) (A.below y) p)) :
    Calls Tryz.prog 44 #[.pointer (some ⟨d, 0, none⟩), .int .i64 (x : Int)] w fun e w' => ∃ p, e = .returned (wv (A.lb x) p) ∧ Kp [] w w' ∧ Nd (Qe tag w.heap.size 0) w' (A.lb x) (A.below x) p := by
  obtain ⟨c0, _⟩ := h.head
  obtain ⟨s0, s1, s2, s3, s4, s5, s6⟩ := h.seven hx
  have j1 : (0 : Int) ≤ (x : Int) := by omega
  have j2 : (x : Int) < (A.n : Int) := by omega
  have hb : (A.kids x).length ≤ A.n := Ar.pig _ _ (ok.one x) (fun y hy => (ok.kid_lt hy).1)
  have kl := h.klen hx
  have ra := h.att x hx
  have HK : Hid (∀ V, Kp [] w V → ∀ i (hi : i < (A.kids x).length), ∃ b7 o7, (pl x).2.1 = some ⟨b7, o7, none⟩ ∧ V.cell? ⟨b7, o7 + i, none⟩ = some (.int .i64 ((A.kids x)[i] : Int))) := fun V kV i hi => ((h.kept kV).kid x hx).iv_at i hi
  -- a kid's tree, in a later world
  have HC : Hid (∀ V y, Kp [] w V → y ∈ A.kids x → Calls Tryz.prog 44 #[.pointer (some ⟨d, 0, none⟩), .int .i64 (y : Int)] V fun e w' => ∃ p, e = .returned (wv (A.lb y) p) ∧ Kp [] V w' ∧ Nd (fun z => (z < w.heap.size ∧ tag z = 5) ∨ V.heap.size ≤ z) w' (A.lb y) (A.below y) p) := fun V y kV hy => by
    have hd := h.sm (tag' := fun z => if z < w.heap.size then tag z else 0) (w' := V) (fun x hx _ => kV.block x hx (by simp)) (fun x hx => if_pos hx)
    refine (HR.out _ V y hd hy).mono ?_
    rintro e w' ⟨p, rfl, k1, n1⟩
    refine ⟨p, rfl, k1, n1.mono (fun z hz hq => ?_)⟩
    rcases hq with ⟨h1, h2⟩ | h1
    · by_cases hz2 : z < w.heap.size
      · simp only [if_pos hz2] at h2
        exact .inl ⟨hz2, h2⟩
      · simp only [if_neg hz2] at h2
        cases h2
    · exact .inr (by omega)
  have hbel : A.below x = A.row (A.kids x) := ok.below_kids x
  obtain ⟨W3, hW3⟩ : ∃ W, W = ((w.alloc (.cells #[.int .i64 0, .int .i64 0, .string ⟨#[]⟩, .slice none 0 0, .string ⟨#[]⟩, .slice none 0 0] 38)).alloc (.cells #[.int .i64 (A.lb x).kind, .int .i64 (A.lb x).ns, .string (A.lb x).name, .string (A.lb x).text, .slice (pl x).1.1 (pl x).1.2.1 (pl x).1.2.2, .slice (pl x).2.1 (pl x).2.2.1 (pl x).2.2.2, .int .i64 (Ar.upI (A.up x))] 59)).alloc (.cells #[.int .i64 (A.lb x).kind, .int .i64 (A.lb x).ns, .string (A.lb x).name, .slice (pl x).1.1 (pl x).1.2.1 (pl x).1.2.2, .string (A.lb x).text, .slice none 0 0] 38) := ⟨_, rfl⟩
  have HW : Hid (((w.alloc (.cells #[.int .i64 0, .int .i64 0, .string ⟨#[]⟩, .slice none 0 0, .string ⟨#[]⟩, .slice none 0 0] 38)).alloc (.cells #[.int .i64 (A.lb x).kind, .int .i64 (A.lb x).ns, .string (A.lb x).name, .string (A.lb x).text, .slice (pl x).1.1 (pl x).1.2.1 (pl x).1.2.2, .slice (pl x).2.1 (pl x).2.2.1 (pl x).2.2.2, .int .i64 (Ar.upI (A.up x))] 59)).alloc (.cells #[.int .i64 (A.lb x).kind, .int .i64 (A.lb x).ns, .string (A.lb x).name, .slice (pl x).1.1 (pl x).1.2.1 (pl x).1.2.2, .string (A.lb x).text, .slice none 0 0] 38) = W3) := hW3.symm
  have G0 : Hid (Gp tag w W3 A x (pl x) 0 none 0) := by
    have b1 : ∀ (W : World) (a : Array Value) e, (W.alloc (.cells a e)).heap.size = W.heap.size + 1 := fun W a e => by simp
    have q1 := At.new w #[.int .i64 0, .int .i64 0, .string ⟨#[]⟩, .slice none 0 0, .string ⟨#[]⟩, .slice none 0 0] 38
    have q2 := At.new (w.alloc (.cells #[.int .i64 0, .int .i64 0, .string ⟨#[]⟩, .slice none 0 0, .string ⟨#[]⟩, .slice none 0 0] 38)) #[.int .i64 (A.lb x).kind, .int .i64 (A.lb x).ns, .string (A.lb x).name, .string (A.lb x).text, .slice (pl x).1.1 (pl x).1.2.1 (pl x).1.2.2, .slice (pl x).2.1 (pl x).2.2.1 (pl x).2.2.2, .int .i64 (Ar.upI (A.up x))] 59
    rw [b1] at q2
    have q3 := At.new ((w.alloc (.cells #[.int .i64 0, .int .i64 0, .string ⟨#[]⟩, .slice none 0 0, .string ⟨#[]⟩, .slice none 0 0] 38)).alloc (.cells #[.int .i64 (A.lb x).kind, .int .i64 (A.lb x).ns, .string (A.lb x).name, .string (A.lb x).text, .slice (pl x).1.1 (pl x).1.2.1 (pl x).1.2.2, .slice (pl x).2.1 (pl x).2.2.1 (pl x).2.2.2, .int .i64 (Ar.upI (A.up x))] 59)) #[.int .i64 (A.lb x).kind, .int .i64 (A.lb x).ns, .string (A.lb x).name, .slice (pl x).1.1 (pl x).1.2.1 (pl x).1.2.2, .string (A.lb x).text, .slice none 0 0] 38
    rw [b1, b1] at q3
    refine ⟨by rw [hW3]; exact (((Kp.refl _ _).alloc _).alloc _).alloc _, ?_, ?_, by rw [hW3]; exact q3, ⟨[], ⟨rfl, Or.inl ⟨rfl, rfl⟩⟩, Lf.nil _ _⟩, fun z hz => by simp [blk] at hz⟩
    · rw [hW3]; exact q1.kept (((Kp.refl [] _).alloc _).alloc _) (by simp)
    · rw [hW3]; exact q2.kept ((Kp.refl [] _).alloc _) (by simp)
  clear hW3
  have hra : Hid (∀ W, Kp [] w W → Rk (Qe tag w.heap.size 0) 2 W (pl x).1.1 (pl x).1.2.1 (pl x).1.2.2 (cs (A.lb x).attrs)) := fun W kW => (ra.mono (fun z hz hq => .inl ⟨hz, hq⟩)).kept kW
  -- the end
  have HE : Hid (∀ W bo d2, Gp tag w W A x (pl x) (A.kids x).length bo d2 → ∃ p, p = ((pl x).1, (bo, (A.kids x).length, d2)) ∧ Kp [] w (putZ W w.heap.size (.int .i64 (A.lb x).kind) (.int .i64 (A.lb x).ns) (.string (A.lb x).name) (.slice (pl x).1.1 (pl x).1.2.1 (pl x).1.2.2) (.string (A.lb x).text) (.slice bo (A.kids x).length d2)) ∧ Nd (Qe tag w.heap.size 0) (putZ W w.heap.size (.int .i64 (A.lb x).kind) (.int .i64 (A.lb x).ns) (.string (A.lb x).name) (.slice (pl x).1.1 (pl x).1.2.1 (pl x).1.2.2) (.string (A.lb x).text) (.slice bo (A.kids x).length d2)) (A.lb x) (A.below x) p) := fun W bo d2 gp => by
    have kz := gp.kp.putZ (g := w.heap.size) (Or.inr (Nat.le_refl _)) (.int .i64 (A.lb x).kind) (.int .i64 (A.lb x).ns) (.string (A.lb x).name) (.slice (pl x).1.1 (pl x).1.2.1 (pl x).1.2.2) (.string (A.lb x).text) (.slice bo (A.kids x).length d2)
    have ky := (Kp.refl [w.heap.size] W).putZ (g := w.heap.size) (Or.inl (by simp)) (.int .i64 (A.lb x).kind) (.int .i64 (A.lb x).ns) (.string (A.lb x).name) (.slice (pl x).1.1 (pl x).1.2.1 (pl x).1.2.2) (.string (A.lb x).text) (.slice bo (A.kids x).length d2)
    obtain ⟨zs, o1, l1⟩ := gp.own
    rw [List.take_length] at l1
    refine ⟨_, rfl, kz, hra.out _ kz, zs, ?_, ?_⟩
    · exact (Rk.of_own (Q := fun z => w.heap.size + 3 ≤ z) o1 rfl gp.nw).keep (ky.sms (fun z hz hs => by rw [List.mem_singleton.1 hs] at hz; omega)) |>.mono (fun z _ hz => .inr (by omega))
    · rw [hbel]
      exact (l1.keep (ky.sms (fun z hz hs => by rw [List.mem_singleton.1 hs] at hz; rcases hz.1 with h1 | h1 <;> omega))).mono (fun z _ hz => by
        rcases hz.1 with h1 | h1
        · exact .inl h1
        · exact .inr (by omega))
  obtain ⟨W1, hW1⟩ : ∃ W, W = w.alloc (.cells #[.int .i64 0, .int .i64 0, .string ⟨#[]⟩, .slice none 0 0, .string ⟨#[]⟩, .slice none 0 0] 38) := ⟨_, rfl⟩
  have HW1 : Hid (w.alloc (.cells #[.int .i64 0, .int .i64 0, .string ⟨#[]⟩, .slice none 0 0, .string ⟨#[]⟩, .slice none 0 0] 38) = W1) := hW1.symm
  have HW2 : Hid (∀ K : World → Prop, K W3 → K ((W1.alloc (.cells #[.int .i64 (A.lb x).kind, .int .i64 (A.lb x).ns, .string (A.lb x).name, .string (A.lb x).text, .slice (pl x).1.1 (pl x).1.2.1 (pl x).1.2.2, .slice (pl x).2.1 (pl x).2.2.1 (pl x).2.2.2, .int .i64 (Ar.upI (A.up x))] 59)).alloc (.cells #[.int .i64 (A.lb x).kind, .int .i64 (A.lb x).ns, .string (A.lb x).name, .slice (pl x).1.1 (pl x).1.2.1 (pl x).1.2.2, .string (A.lb x).text, .slice none 0 0] 38))) := fun K hK => by rw [hW1, HW.out]; exact hK
  have HW3 : Hid ((W1.alloc (.cells #[.int .i64 (A.lb x).kind, .int .i64 (A.lb x).ns, .string (A.lb x).name, .string (A.lb x).text, .slice (pl x).1.1 (pl x).1.2.1 (pl x).1.2.2, .slice (pl x).2.1 (pl x).2.2.1 (pl x).2.2.2, .int .i64 (Ar.upI (A.up x))] 59)).alloc (.cells #[.int .i64 (A.lb x).kind, .int .i64 (A.lb x).ns, .string (A.lb x).name, .slice (pl x).1.1 (pl x).1.2.1 (pl x).1.2.2, .string (A.lb x).text, .slice none 0 0] 38) = W3) := HW2.out (fun V => V = W3) rfl
  have kW1 : Kp [] w W1 := by rw [hW1]; exact (Kp.refl _ _).alloc _
  have hs1 : W1.heap.size = w.heap.size + 1 := by rw [hW1]; simp
  clear c0 s0 s1 s2 s3 s4 s5 s6
  have c0 := (h.kept kW1).head.1
  obtain ⟨s0, s1, s2, s3, s4, s5, s6⟩ := (h.kept kW1).seven hx
  clear h ra hra hbel HR hW1 kW1 HW HW2
  rw [kl] at s5 HW3
  have kl2 : Hid ((pl x).2.2.1 = (A.kids x).length) := kl
  clear kl
  unfold wv
  go_enter Tryz.func44, Tryz.ntmps44
  go_upto_region 1 with fail
  rw [HW1.out]
  clear HW1
  go_wp2_with fail
  rw [HW3.out, show w.heap.size + 1 + 1 = w.heap.size + 2 from rfl]
  clear HW3 c0 s0 s1 s2 s3 s4 s5 s6
  go_loopw [7] (fun i wr => ∃ (k : Nat) (bo : Option Addr) (d2 : Nat), k ≤ (A.kids x).length ∧ i = .int .i64 (k : Int) ∧ Gp tag w wr A x (pl x) k bo d2) (fun i _ => (A.kids x).length - (intOf i).toNat)
  case atStart => exact ⟨0, none, 0, Nat.zero_le _, rfl, G0.out⟩
  case round =>
    obtain ⟨k, bo, d2, hk, rfl, gp⟩ := hrel
    clear G0
    have x5 := gp.a5.cell 5
    simp only [List.getElem?_toArray, List.getElem?_cons_succ, List.getElem?_cons_zero, kl2.out] at x5
    by_cases hlt : k < (A.kids x).length
    · have hk1 : (k : Int) < ((A.kids x).length : Int) := by omega
      have hk0 : (0 : Int) ≤ (k : Int) := by omega
      have hym : (A.kids x)[k] ∈ A.kids x := List.getElem_mem hlt
      have hye : (A.kids x)[k]? = some (A.kids x)[k] := List.getElem?_eq_getElem hlt
      obtain ⟨b7, o7, hko, h7⟩ := HK.out _ gp.kp k hlt
      have HS0 : Hid (∀ V, Kp [] wr V → V.cell? ⟨w.heap.size + 2, 5, none⟩ = some (.slice bo k d2) ∧ V.cell? ⟨w.heap.size + 1, 5, none⟩ = some (.slice (some ⟨b7, o7, none⟩) (A.kids x).length (pl x).2.2.2) ∧ V.cell? ⟨b7, o7 + k, none⟩ = some (.int .i64 ((A.kids x)[k] : Int))) := fun V kV => by
        have e5 := (gp.a5.kept kV (by simp)).cell 5
        simp only [List.getElem?_toArray, List.getElem?_cons_succ, List.getElem?_cons_zero, kl2.out, hko] at e5
        obtain ⟨b8, o8, e8, e9⟩ := HK.out _ (gp.kp.trans kV (fun x hx => Or.inl hx)) k hlt
        rw [hko] at e8
        simp only [Option.some.injEq, Addr.mk.injEq] at e8
        obtain ⟨rfl, rfl, _⟩ := e8
        exact ⟨(gp.a6.kept kV (by simp)).cell 5, e5, e9⟩
      have HC2 : Hid (∀ V, Kp [] wr V → Calls Tryz.prog 44 #[.pointer (some ⟨d, 0, none⟩), .int .i64 ((A.kids x)[k] : Int)] V fun e w' => ∃ p, e = .returned (wv (A.lb (A.kids x)[k]) p) ∧ Kp [] V w' ∧ Nd (fun z => (z < w.heap.size ∧ tag z = 5) ∨ wr.heap.size ≤ z) w' (A.lb (A.kids x)[k]) (A.below (A.kids x)[k]) p) := fun V kV => by
        refine (HC.out V _ (gp.kp.trans kV (fun x hx => Or.inl hx)) hym).mono ?_
        rintro e w' ⟨p, rfl, k1, n1⟩
        exact ⟨p, rfl, k1, n1.mono (fun z hz hq => hq.imp id (fun h1 => by have := kV.size; omega))⟩
      have HT : Hid (∀ U1 p U2 g9, Kp [] wr U1 → Nd (fun z => (z < w.heap.size ∧ tag z = 5) ∨ wr.heap.size ≤ z) U1 (A.lb (A.kids x)[k]) (A.below (A.kids x)[k]) p → U2 = U1.alloc (.cells #[.int .i64 (A.lb (A.kids x)[k]).kind, .int .i64 (A.lb (A.kids x)[k]).ns, .string (A.lb (A.kids x)[k]).name, .slice p.1.1 p.1.2.1 p.1.2.2, .string (A.lb (A.kids x)[k]).text, .slice p.2.1 p.2.2.1 p.2.2.2] 38) → U1.heap.size = g9 →
          ∃ v' U3, (∀ ty, (Builtin.append_ #[36, 36] ty #[.slice bo k d2, .slice (some ⟨g9, 0, none⟩) 1 1]).run Tryz.prog U2 = .ok v' U3) ∧ (∃ a c', v' = .slice (some a) (k + 1) c' ∧ Gp tag w (U3.setCell ⟨w.heap.size + 2, 5, none⟩ v') A x (pl x) (k + 1) (some a) c') ∧
          (U3.cell? ⟨w.heap.size + 2, 5, none⟩ = some (.slice bo k d2) ∧ U3.cell? ⟨w.heap.size + 1, 5, none⟩ = some (.slice (some ⟨b7, o7, none⟩) (A.kids x).length (pl x).2.2.2) ∧ U3.cell? ⟨b7, o7 + k, none⟩ = some (.int .i64 ((A.kids x)[k] : Int))) ∧ U3.frozen? ⟨w.heap.size + 2, 5, none⟩ = false) := fun U1 p U2 g9 kU nd hU2 hg9 => by
        obtain ⟨v', U3, r1, k3, g3, a6, a5⟩ := gp.step kU (by omega) hye nd hU2 hg9
        have e5 := a5.cell 5
        simp only [List.getElem?_toArray, List.getElem?_cons_succ, List.getElem?_cons_zero, kl2.out, hko] at e5
        obtain ⟨b8, o8, e8, e9⟩ := HK.out _ k3 k hlt
        rw [hko] at e8
        simp only [Option.some.injEq, Addr.mk.injEq] at e8
        obtain ⟨rfl, rfl, _⟩ := e8
        exact ⟨v', U3, r1, g3, ⟨a6.cell 5, e5, e9⟩, a6.free 5⟩
      rw [hko] at x5
      clear HK HC HE gp hye hym h7 hko
      generalize (A.kids x)[k] = y at *
      generalize (A.kids x).length = m at *
      generalize (pl x).2.2.2 = kc at *
      go_upto_region 6 with fail
      clear x5
      obtain ⟨U0, hU0⟩ : ∃ V, V = wr.drew := ⟨_, rfl⟩
      have k0 : Kp [] wr U0 := by rw [hU0]; exact (Kp.refl _ _).drew
      refine wp_region_g (S := fun V => V.cell? ⟨w.heap.size + 2, 5, none⟩ = some (.slice bo k d2) ∧ V.cell? ⟨w.heap.size + 1, 5, none⟩ = some (.slice (some ⟨b7, o7, none⟩) m kc) ∧ V.cell? ⟨b7, o7 + k, none⟩ = some (.int .i64 (y : Int))) (T := [12]) (by kernel_rfl) (HS0.out _ (Kp.refl _ _).drew) (fun hHeld => ?_)
      rw [← hU0] at hHeld ⊢
      clear hU0
      refine g_pure 0 (oi := ⟨some 33, .fieldAddr 38 (.tmp 6) 5, 0, "ref.go:229", #[], none⟩) (v := ?_) (Or.inl ⟨by rfl, ?_⟩) ?_
      rotate_left
      · (intro w; go_simp; try with_reducible rfl)
      simp only [Act.put, pu1, pu2, pu3]
      refine g_takeC 1 (oi := ⟨some 34, .load 36 (.tmp 33), 36, "ref.go:229", #[⟨0, .data⟩], none⟩) (v := ?_) (Or.inl ⟨by rfl, ?_⟩) ?_
      rotate_left
      · (intro w hSw; (obtain ⟨q1, q2, q3⟩ := hSw); go_simp; try with_reducible rfl)
      simp only [Act.put, pu1, pu2, pu3]
      refine g_pure 2 (oi := ⟨some 35, .move (.tmp 0), 24, "ref.go:229", #[], none⟩) (v := ?_) (Or.inl ⟨by rfl, ?_⟩) ?_
      rotate_left
      · (intro w; go_simp; try with_reducible rfl)
      simp only [Act.put, pu1, pu2, pu3]
      refine g_pure 3 (oi := ⟨some 36, .fieldAddr 59 (.tmp 5) 5, 0, "ref.go:229", #[], none⟩) (v := ?_) (Or.inl ⟨by rfl, ?_⟩) ?_
      rotate_left
      · (intro w; go_simp; try with_reducible rfl)
      simp only [Act.put, pu1, pu2, pu3]
      refine g_takeC 4 (oi := ⟨some 37, .load 57 (.tmp 36), 57, "ref.go:229", #[⟨3, .data⟩], none⟩) (v := ?_) (Or.inl ⟨by rfl, ?_⟩) ?_
      rotate_left
      · (intro w hSw; (obtain ⟨q1, q2, q3⟩ := hSw); go_simp; try with_reducible rfl)
      simp only [Act.put, pu1, pu2, pu3]
      refine g_pure 5 (oi := ⟨some 38, .move (.tmp 7), 3, "ref.go:229", #[], none⟩) (v := ?_) (Or.inl ⟨by rfl, ?_⟩) ?_
      rotate_left
      · (intro w; go_simp; try with_reducible rfl)
      simp only [Act.put, pu1, pu2, pu3]
      refine g_pure 6 (oi := ⟨some 39, .indexAddr 57 (.tmp 37) (.tmp 38), 0, "ref.go:229", #[⟨4, .data⟩, ⟨5, .data⟩], none⟩) (v := ?_) (Or.inl ⟨by rfl, ?_⟩) ?_
      rotate_left
      · (intro w; go_simp; try with_reducible rfl)
      simp only [Act.put, pu1, pu2, pu3]
      refine g_takeC 7 (oi := ⟨some 40, .load 3 (.tmp 39), 3, "ref.go:229", #[⟨6, .data⟩], none⟩) (v := ?_) (Or.inl ⟨by rfl, ?_⟩) ?_
      rotate_left
      · (intro w hSw; (obtain ⟨q1, q2, q3⟩ := hSw); go_simp; try with_reducible rfl)
      simp only [Act.put, pu1, pu2, pu3]
      refine wpAnyG_ready (rs := [8]) (by kernel_rfl) (by simp) ?_
      refine AllReadyG.cons (o := ⟨some 41, .call { callee := .value (.func 44), args := #[.tmp 35, .tmp 40], argTypes := #[24, 3] }, 38, "ref.go:229", #[⟨2, .data⟩, ⟨7, .data⟩], none⟩) rfl (fun K hK => ?_) AllReadyG.nil
      go_simp
      go_at_call 44
      refine (HC2.out _ k0).mono ?_
      rintro e U1 ⟨p1, rfl, u1, n1⟩
      go_wp2_with fail
      have k1 : Kp [] wr U1 := k0.trans u1 (fun z hz => Or.inl hz)
      refine hK.out _ _ (HS0.out _ k1) (fun hHeld1 => ?_)
      clear hK K hHeld
      try simp only [Act.put, pu1, pu2, pu3]
      refine wpAnyG_ready (rs := [9]) (by kernel_rfl) (by simp) ?_
      refine AllReadyG.cons (o := ⟨some 42, .buildSlice 36 1 #[(0, .tmp 41)], 36, "ref.go:229", #[⟨8, .data⟩], none⟩) rfl (fun K hK => ?_) AllReadyG.nil
      unfold wv
      go_simp
      obtain ⟨U2, hU⟩ : ∃ V, V = World.alloc U1 (.cells #[.int .i64 (A.lb y).kind, .int .i64 (A.lb y).ns, .string (A.lb y).name, .slice p1.1.1 p1.1.2.1 p1.1.2.2, .string (A.lb y).text, .slice p1.2.1 p1.2.2.1 p1.2.2.2] 38) := ⟨_, rfl⟩
      rw [← hU]
      obtain ⟨g9, hg9⟩ : ∃ g, U1.heap.size = g := ⟨_, rfl⟩
      rw [hg9]
      obtain ⟨v7, U3, run7, ⟨a7, c7, e7, gp7⟩, s7, f7⟩ := HT.out U1 p1 U2 g9 k1 n1 hU hg9
      have k2 : Kp [] wr U2 := by rw [hU]; exact k1.alloc _
      clear hU hg9
      subst e7
      refine hK.out _ _ (HS0.out _ k2) (fun hHeld2 => ?_)
      clear hK K hHeld1
      try simp only [Act.put, pu1, pu2, pu3]
      refine wpAnyG_ready (rs := [10]) (by kernel_rfl) (by simp) ?_
      refine AllReadyG.cons (o := ⟨some 43, .call { callee := .builtin .append, args := #[.tmp 34, .tmp 42], argTypes := #[36, 36] }, 36, "ref.go:229", #[⟨1, .data⟩, ⟨9, .data⟩, ⟨8, .chain⟩], none⟩) rfl (fun K hK => ?_) AllReadyG.nil
      refine step_app2 (by rfl) _ _ 36 36 (by rfl) _ _ (by rfl) (by rfl) run7 ?_
      have G7 : Hid _ := gp7
      refine hK.out _ _ s7 (fun hHeld3 => ?_)
      clear hK K hHeld2
      try simp only [Act.put, pu1, pu2, pu3]
      refine g_pure 11 (oi := ⟨some 44, .fieldAddr 38 (.tmp 6) 5, 0, "ref.go:229", #[⟨0, .phase⟩, ⟨1, .phase⟩, ⟨2, .phase⟩, ⟨3, .phase⟩, ⟨4, .phase⟩, ⟨5, .phase⟩, ⟨6, .phase⟩, ⟨7, .phase⟩, ⟨8, .phase⟩, ⟨9, .phase⟩, ⟨10, .phase⟩], none⟩) (v := ?_) (Or.inl ⟨by rfl, ?_⟩) ?_
      rotate_left
      · (intro w; go_simp; try with_reducible rfl)
      simp only [Act.put, pu1, pu2, pu3]
      refine wpAnyG_free (by kernel_rfl) ?_
      refine wpAny_ready (rs := [12]) (by kernel_rfl) (by simp) ?_
      refine AllReady.cons (o := ⟨none, .store 36 (.tmp 44) (.tmp 43), 0, "ref.go:229", #[⟨11, .data⟩, ⟨10, .data⟩, ⟨10, .chain⟩, ⟨0, .phase⟩, ⟨1, .phase⟩, ⟨2, .phase⟩, ⟨3, .phase⟩, ⟨4, .phase⟩, ⟨5, .phase⟩, ⟨6, .phase⟩, ⟨7, .phase⟩, ⟨8, .phase⟩, ⟨9, .phase⟩, ⟨10, .phase⟩], none⟩) rfl (fun K hK => ?_) AllReady.nil
      have s8 := s7.1
      go_simp
      refine hK _ _ ?_
      clear hK K
      try simp only [Act.put, pu1, pu2, pu3]
      refine wpAny_done (by kernel_rfl) ?_ _
      clear gp7 s7 f7 s8 run7 HT HC2 HS0
      go_wp2
      go_roundw
      case rel => exact ⟨k + 1, _, _, by omega, by go_num, G7.out⟩
      case measure => simp [intOf]; omega
    · obtain rfl : k = (A.kids x).length := by omega
      obtain ⟨p, hp, kz, nz⟩ := HE.out _ _ _ gp
      have N9 : Hid _ := And.intro kz nz
      clear kz nz
      obtain ⟨e0, e1, e2, e3, e4, e5⟩ := gp.a6.six
      obtain ⟨f0, f1, f2, f3, f4, f5⟩ := gp.a4.six
      have fr := fun j => gp.a4.free j
      have X9 : Hid _ := (gp.a4.putZ (.int .i64 (A.lb x).kind) (.int .i64 (A.lb x).ns) (.string (A.lb x).name) (.slice (pl x).1.1 (pl x).1.2.1 (pl x).1.2.2) (.string (A.lb x).text) (.slice bo (A.kids x).length d2)).six
      clear gp HE HK HC hlt hk
      unfold putZ at X9 N9
      generalize (A.kids x).length = m at *
      go_wp2
      obtain ⟨x0, x1, x2, x3, x4, x6⟩ := X9.out
      (try simp only [Exit.inBlock, Exit.then])
      refine bodyPost_ret (v := .agg #[.int .i64 (A.lb x).kind, .int .i64 (A.lb x).ns, .string (A.lb x).name, .slice (pl x).1.1 (pl x).1.2.1 (pl x).1.2.2, .string (A.lb x).text, .slice bo m d2]) (by simp [results, go_sem, x0, x1, x2, x3, x4, x6]) rfl ?_
      refine ⟨p, ?_, N9.out⟩
      rw [hp]

theorem rpure_ind (ok : A.Ok) (hn : A.n < 50000) : ∀ (f : Nat) (tag : Nat → Nat) (w : World) (h : Dd tag w d g o c q A pl) (k x y : Nat), x < A.n → A.anc k x = some y → A.n ≤ f + k →
    Calls Tryz.prog 44 #[.pointer (some ⟨d, 0, none⟩), .int .i64 (x : Int)] w fun e w' => ∃ p, e = .returned (wv (A.lb x) p) ∧ Kp [] w w' ∧ Nd (Qe tag w.heap.size 0) w' (A.lb x) (A.below x) p
  | 0, tag, w, h, k, x, y, hx, e, hf => absurd (ok.anc_lt hx e) (by omega)
  | f + 1, tag, w, h, k, x, y, hx, e, hf => rpure_step h ok hn x hx (fun tag' V z hV hz => by
      have hu := (ok.link x z).1 hz
      exact rpure_ind ok hn f tag' V hV (k + 1) z y (ok.lt hu).1 (by simp only [Ar.anc, hu, Option.bind_some, e]) (by omega))

theorem rpure_any (h : Dd tag w d g o c q A pl) (ok : A.Ok) (hn : A.n < 50000) (x : Nat) (hx : x < A.n) :
    Calls Tryz.prog 44 #[.pointer (some ⟨d, 0, none⟩), .int .i64 (x : Int)] w fun e w' => ∃ p, e = .returned (wv (A.lb x) p) ∧ Kp [] w w' ∧ Nd (Qe tag w.heap.size 0) w' (A.lb x) (A.below x) p :=
  rpure_ind ok hn A.n tag w h 0 x x hx rfl (by omega)

end
end Go.Proofs.YtgjkfpmhgidpaaaGreat
