/-
  Texts written piece by piece. No program.
-/
import Derived.Test.YtngbpbgohpblmaaKn
namespace Go.Proofs.Ytngbpbgohpblmaa
open Go.RowKit Go.Maps Utf
set_option linter.unusedVariables false
set_option linter.unusedSimpArgs false

theorem ba_nil {s : ByteArray} (h : s.size = 0) : s = ⟨#[]⟩ := by
  obtain ⟨d⟩ := s
  have : d = #[] := Array.eq_empty_of_size_eq_zero h
  rw [this]

namespace Ar
def tL (s : ByteArray) : Lb := (4, 0, ⟨#[]⟩, [], s)
def cL : Lb := (5, 0, ⟨#[]⟩, [], ⟨#[99]⟩)
def tO (s : ByteArray) : List Lb := if s.size = 0 then [] else [tL s]
/-- What is wanted of the kids. -/
def wantT (f : ByteArray) (c : Bool) (l : ByteArray) : List Lb := tO f ++ (if c then [cL] else []) ++ tO l

/-- A node p with the texts so far, and a comment that is placed (c) or not yet. -/
structure Tx (a : Ar) (c : Bool) (f l : ByteArray) : Prop where
  ful : a.Ful
  n3 : 3 ≤ a.n
  l1 : a.lb 1 = (3, 1, ⟨#[112]⟩, [], ⟨#[]⟩)
  k0 : a.kids 0 = [1]
  l2 : a.lb 2 = cL
  u2 : c = false → a.up 2 = none
  cl : c = false → l.size = 0
  km : (a.kids 1).map a.lb = wantT f c l
  kk : ∀ x, 2 ≤ x → a.kids x = []

section
variable {a : Ar} {c : Bool} {f l : ByteArray}

theorem Tx.doc (h : Tx a c f l) : (a.lb 0).kind = 1 := (h.ful.doc 0 (by have := h.n3; omega)).2 rfl
theorem Tx.up1 (h : Tx a c f l) : a.up 1 = some 0 := (h.ful.link 0 1).1 (by rw [h.k0]; simp)
theorem Tx.kid (h : Tx a c f l) {z : Nat} (hz : z ∈ a.kids 1) : 2 ≤ z ∧ z < a.n := by
  have hu := (h.ful.link 1 z).1 hz
  have hlt := (h.ful.toOk.kid_lt hz).1
  refine ⟨?_, hlt⟩
  have h0 : z ≠ 0 := fun e => by rw [e, h.ful.top] at hu; cases hu
  have h1 : z ≠ 1 := fun e => by rw [e, h.up1] at hu; cases hu
  omega

/-- Under the Document nothing is written. -/
theorem Tx.wr0 (h : Tx a c f l) (s : ByteArray) : a.wrF 0 s = (a, 0) := by
  have hd := h.doc
  have hn := h.n3
  unfold wrF
  rw [if_neg (by simp [there]; omega), if_neg (by simp [hld, hd])]
  show (a.txt 0 _ s, 0) = (a, 0)
  unfold txt
  rw [if_pos (.inr hd)]

theorem Tx.grow (h : Tx a c f l) {s : ByteArray} (hk : (a.kids 1).map a.lb ++ [tL s] = wantT (if c then f else f ++ s) c (if c then l ++ s else l)) (hF : ((a.new (tL s)).put 1 (a.kids 1).length a.n).Ful) : Tx ((a.new (tL s)).put 1 (a.kids 1).length a.n) c (if c then f else f ++ s) (if c then l ++ s else l) := by
  have hn := h.n3
  refine ⟨hF, by show 3 ≤ a.n + 1; omega, ?_, ?_, ?_, fun hc => ?_, fun hc => ?_, ?_, fun x hx => ?_⟩
  · show (if 1 = a.n then _ else _) = _
    rw [if_neg (by omega)]; exact h.l1
  · simp [Ar.put, Ar.new, h.k0]
  · show (if 2 = a.n then _ else _) = _
    rw [if_neg (by omega)]; exact h.l2
  · show (if 2 = a.n then _ else _) = _
    rw [if_neg (by omega)]; exact h.u2 hc
  · rw [hc]; exact h.cl hc
  · rw [← hk]
    show ((if 1 = 1 then (a.kids 1).take (a.kids 1).length ++ a.n :: (a.kids 1).drop (a.kids 1).length else a.kids 1) : List Nat).map (fun y => if y = a.n then tL s else a.lb y) = _
    rw [if_pos rfl]
    rw [List.take_length, List.drop_length, List.map_append]
    congr 1
    · exact List.map_congr_left (fun z hz => if_neg (by have := (h.kid hz).2; omega))
    · simp
  · show (if x = 1 then _ else a.kids x) = _
    rw [if_neg (by omega)]; exact h.kk x hx

theorem tO_app {f s : ByteArray} (h : s.size ≠ 0) : tO (f ++ s) = [tL (f ++ s)] := by unfold tO; rw [if_neg (by rw [size_cat]; omega)]

theorem Tx.write (h : Tx a c f l) (s : ByteArray) : (a.wrF 1 s).2 = 0 ∧ Tx (a.wrF 1 s).1 c (if c then f else f ++ s) (if c then l ++ s else l) := by
  have hn := h.n3
  have hF := h.ful.wrF 1 s
  have e : a.wrF 1 s = (a.txt 1 (a.kids 1).length s, 0) := by
    unfold wrF
    rw [if_neg (by simp [there]; omega), if_neg (by simp [hld, h.l1, Lb.kind])]
    rfl
  rw [e] at hF ⊢
  refine ⟨rfl, ?_⟩
  by_cases hs : s.size = 0
  · have : a.txt 1 (a.kids 1).length s = a := by unfold txt; rw [if_pos (.inl hs)]
    rw [this]
    have hs0 := ba_nil hs
    subst hs0
    rw [Fo.cat_none, Fo.cat_none]
    simpa using h
  · have et : a.txt 1 (a.kids 1).length s = match (if (a.kids 1).length = 0 then none else (a.kids 1)[(a.kids 1).length - 1]?) with
      | some k => if (a.lb k).kind = 4 then a.tell k (4, (a.lb k).ns, (a.lb k).name, (a.lb k).attrs, (a.lb k).text ++ s) else (a.new (4, 0, ⟨#[]⟩, [], s)).put 1 (a.kids 1).length a.n
      | none => (a.new (4, 0, ⟨#[]⟩, [], s)).put 1 (a.kids 1).length a.n := by
      unfold txt
      rw [if_neg (by rw [h.l1]; simp [Lb.kind, hs])]
      rfl
    have hkm := h.km
    rcases List.eq_nil_or_concat (a.kids 1) with hk | ⟨r, y, hk⟩
    · have e2 : a.txt 1 (a.kids 1).length s = (a.new (tL s)).put 1 (a.kids 1).length a.n := by rw [et, hk]; rfl
      rw [e2] at hF ⊢
      refine h.grow ?_ hF
      rw [hk] at hkm ⊢
      simp only [List.map_nil, wantT] at hkm
      have h3 := List.append_eq_nil_iff.1 hkm.symm
      have h4 := List.append_eq_nil_iff.1 h3.1
      have hc : c = false := by cases c with | false => rfl | true => simp at h4
      subst hc
      have hf0 : f.size = 0 := by
        have := h4.1
        unfold tO at this
        by_cases e0 : f.size = 0
        · exact e0
        · rw [if_neg e0] at this; cases this
      have hl0 := h.cl rfl
      have hf1 := ba_nil hf0
      subst hf1
      simp only [List.map_nil, List.nil_append, wantT, Bool.false_eq_true, if_false, Fo.none_cat]
      unfold tO
      rw [if_neg hs, if_pos hl0]
      rfl
    · rw [List.concat_eq_append] at hk
      have hlast : (if (a.kids 1).length = 0 then none else (a.kids 1)[(a.kids 1).length - 1]?) = some y := by
        rw [hk]; simp
      rw [hlast] at et
      have hnd := h.ful.one 1
      rw [hk, List.nodup_append] at hnd
      have hyr : ∀ z, z ∈ r → z ≠ y := fun z hz => hnd.2.2 z hz y (by simp)
      rw [hk, List.map_append] at hkm
      by_cases h4 : (a.lb y).kind = 4
      · have e2 : a.txt 1 (a.kids 1).length s = a.tell y (4, (a.lb y).ns, (a.lb y).name, (a.lb y).attrs, (a.lb y).text ++ s) := by rw [et]; exact if_pos h4
        rw [e2] at hF ⊢
        have hy1 : y ≠ 1 := fun e => by rw [e, h.l1] at h4; simp [Lb.kind] at h4
        have hy2 : y ≠ 2 := fun e => by rw [e, h.l2] at h4; simp [Lb.kind, cL] at h4
        have hy0 : y ≠ 0 := fun e => by rw [e, h.doc] at h4; cases h4
        refine ⟨hF, hn, ?_, h.k0, ?_, h.u2, fun hc => by rw [hc]; exact h.cl hc, ?_, h.kk⟩
        · show (if 1 = y then _ else _) = _
          rw [if_neg (Ne.symm hy1)]; exact h.l1
        · show (if 2 = y then _ else _) = _
          rw [if_neg (Ne.symm hy2)]; exact h.l2
        · show (a.kids 1).map (fun z => if z = y then _ else a.lb z) = _
          rw [hk, List.map_append]
          have e3 : r.map (fun z => if z = y then (4, (a.lb y).ns, (a.lb y).name, (a.lb y).attrs, (a.lb y).text ++ s) else a.lb z) = r.map a.lb := List.map_congr_left (fun z hz => if_neg (hyr z hz))
          rw [e3]
          simp only [List.map_cons, List.map_nil, if_true]
          by_cases hl : l.size = 0
          · -- the last one is the first text
            have hc : c = false := by
              cases c with
              | false => rfl
              | true =>
                exfalso
                unfold wantT at hkm
                rw [show tO l = [] by unfold tO; rw [if_pos hl], List.append_nil] at hkm
                have := (List.append_inj' hkm rfl).2
                simp only [List.map_cons, List.map_nil, if_true, List.cons.injEq, and_true] at this
                rw [this] at h4
                simp [cL, Lb.kind] at h4
            subst hc
            unfold wantT at hkm
            simp only [Bool.false_eq_true, if_false, List.append_nil] at hkm ⊢
            rw [show tO l = [] by unfold tO; rw [if_pos hl], List.append_nil] at hkm
            by_cases hf : f.size = 0
            · rw [show tO f = [] by unfold tO; rw [if_pos hf]] at hkm
              have := congrArg List.length hkm
              simp at this
            · rw [show tO f = [tL f] by unfold tO; rw [if_neg hf]] at hkm
              have hr0 : r = [] := by
                have := congrArg List.length hkm
                simp at this
                exact this
              subst hr0
              simp only [List.map_nil, List.nil_append, List.map_cons, List.cons.injEq, and_true] at hkm
              unfold wantT
              rw [tO_app hs, show tO l = [] by unfold tO; rw [if_pos hl]]
              simp [hkm, tL, Lb.ns, Lb.name, Lb.attrs, Lb.text]
          · have hc : c = true := by
              cases c with
              | true => rfl
              | false => exact absurd (h.cl rfl) hl
            subst hc
            unfold wantT at hkm ⊢
            rw [show tO l = [tL l] by unfold tO; rw [if_neg hl]] at hkm
            obtain ⟨g1, g2⟩ := List.append_inj' hkm rfl
            simp only [List.map_cons, List.map_nil, List.cons.injEq, and_true] at g2
            simp only [if_true] at g1 ⊢
            rw [tO_app hs, g1, g2]
            rfl
      · have e2 : a.txt 1 (a.kids 1).length s = (a.new (tL s)).put 1 (a.kids 1).length a.n := by rw [et]; exact if_neg h4
        rw [e2] at hF ⊢
        refine h.grow ?_ hF
        rw [h.km]
        rw [List.map_cons, List.map_nil] at hkm
        have hl : l.size = 0 := by
          by_cases hl : l.size = 0
          · exact hl
          · exfalso
            unfold wantT at hkm
            rw [show tO l = [tL l] by unfold tO; rw [if_neg hl]] at hkm
            have := (List.append_inj' hkm rfl).2
            simp only [List.cons.injEq, and_true] at this
            rw [this] at h4
            exact h4 rfl
        have hc : c = true := by
          cases c with
          | true => rfl
          | false =>
            exfalso
            unfold wantT at hkm
            rw [show tO l = [] by unfold tO; rw [if_pos hl]] at hkm
            simp only [Bool.false_eq_true, if_false, List.append_nil] at hkm
            by_cases hf : f.size = 0
            · rw [show tO f = [] by unfold tO; rw [if_pos hf]] at hkm
              have := congrArg List.length hkm
              simp at this
            · rw [show tO f = [] ++ [tL f] by unfold tO; rw [if_neg hf]; rfl] at hkm
              have := (List.append_inj' hkm rfl).2
              simp only [List.cons.injEq, and_true] at this
              rw [this] at h4
              exact h4 rfl
        subst hc
        have hl0 := ba_nil hl
        subst hl0
        simp only [if_true, wantT, Fo.none_cat]
        rw [show tO ⟨#[]⟩ = [] from rfl, List.append_nil]
        unfold tO
        rw [if_neg hs]

/-- The comment is placed. -/
theorem Tx.place (h : Tx a false f l) : (a.appF 1 2).2 = 0 ∧ Tx (a.appF 1 2).1 true f l := by
  have hn := h.n3
  have hF := h.ful.appF 1 2
  have hw : a.wn 1 2 = false := wn_eq h.ful.toOk (by omega) false (by
    rw [Wn.some h.up1, Wn.none h.ful.top]
    simp)
  have e : a.appF 1 2 = (a.put 1 (a.kids 1).length 2, 0) := by
    unfold appF
    rw [if_neg (by simp [there]; omega), if_neg (by simp [hld, fix, h.l1, h.l2, Lb.kind, cL]), if_neg (by simp [h.u2 rfl]), if_neg (by simp [hw])]
    rfl
  rw [e] at hF ⊢
  refine ⟨rfl, hF, hn, h.l1, ?_, h.l2, (fun hc => by cases hc), (fun hc => by cases hc), ?_, fun x hx => ?_⟩
  · simp [Ar.put, h.k0]
  · show ((if 1 = 1 then (a.kids 1).take (a.kids 1).length ++ 2 :: (a.kids 1).drop (a.kids 1).length else a.kids 1) : List Nat).map a.lb = _
    rw [if_pos rfl]
    rw [List.take_length, List.drop_length, List.map_append, h.km]
    unfold wantT
    rw [show tO l = [] by unfold tO; rw [if_pos (h.cl rfl)]]
    simp [h.l2]
  · show (if x = 1 then _ else a.kids x) = _
    rw [if_neg (by omega)]; exact h.kk x hx

/-- A row of nodes without kids. -/
def flat (M : List Lb) : Fo := M.foldr (fun l r => .cons l .nil r) .nil

theorem flat_len (M : List Lb) : (flat M).len = M.length := by
  induction M with
  | nil => rfl
  | cons x r ih => show (Fo.cons x .nil (flat r)).len = _; rw [Fo.len_cons, ih]; rfl

theorem flat_at (M : List Lb) : ∀ {i : Nat} (hi : i < M.length), ∃ r, (flat M).drop i = .cons M[i] .nil r := by
  induction M with
  | nil => intro i hi; cases hi
  | cons x r ih =>
    intro i hi
    cases i with
    | zero => exact ⟨flat r, Fo.drop_zero _⟩
    | succ i =>
      obtain ⟨q, hq⟩ := ih (i := i) (by simpa using hi)
      exact ⟨q, hq⟩

theorem Tx.below (h : Tx a c f l) : a.below 0 = .cons (a.lb 1) (flat (wantT f c l)) .nil := by
  have hb : ∀ z, 2 ≤ z → a.below z = .nil := fun z hz => by rw [h.ful.toOk.below_kids, h.kk z hz]; rfl
  rw [h.ful.toOk.below_kids, h.k0]
  show Fo.cons (a.lb 1) (a.below 1) .nil = _
  congr 1
  rw [h.ful.toOk.below_kids, ← h.km]
  have : ∀ ks : List Nat, (∀ z, z ∈ ks → 2 ≤ z) → ks.foldr (fun c r => Fo.cons (a.lb c) (a.below c) r) .nil = flat (ks.map a.lb) := fun ks => by
    induction ks with
    | nil => intro _; rfl
    | cons z r ih =>
      intro hz
      show Fo.cons (a.lb z) (a.below z) (r.foldr _ _) = Fo.cons (a.lb z) .nil (flat (r.map a.lb))
      rw [ih (fun y hy => hz y (List.mem_cons_of_mem _ hy)), hb z (hz z (by simp))]
  exact this _ (fun z hz => (h.kid hz).1)

/-- The beginning. -/
def X2 : Ar := (K1.mkF 5 0 ⟨#[]⟩ (_root_.Go.Proofs.Ytngbpbgohpblmaa.uniq []) ⟨#[99]⟩).1
def X3 : Ar := (X2.appF 0 1).1
theorem x2a : (K1.mkF 5 0 ⟨#[]⟩ (_root_.Go.Proofs.Ytngbpbgohpblmaa.uniq []) ⟨#[99]⟩).2 = (2, 0) := by kernel_rfl
theorem x3a : (X2.appF 0 1).2 = 0 := by kernel_rfl
theorem x3n : X3.n = 3 := by kernel_rfl
theorem X3_tx : Tx X3 false ⟨#[]⟩ ⟨#[]⟩ := by
  have hF : X3.Ful := ((first_ful.mkF 3 1 ⟨#[112]⟩ _ ⟨#[]⟩).mkF 5 0 ⟨#[]⟩ _ ⟨#[99]⟩).appF 0 1
  refine ⟨hF, by rw [x3n]; omega, by kernel_rfl, by kernel_rfl, by kernel_rfl, fun _ => by kernel_rfl, fun _ => rfl, by kernel_rfl, fun x hx => ?_⟩
  by_cases h3 : 3 ≤ x
  · exact (hF.out x (by rw [x3n]; exact h3)).1
  · obtain rfl : x = 2 := by omega
    kernel_rfl
end
end Ar

end Go.Proofs.Ytngbpbgohpblmaa
