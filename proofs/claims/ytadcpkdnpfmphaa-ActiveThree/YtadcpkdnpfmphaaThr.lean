/-
  No more than three of one name and alike attributes stand behind a marker, as long as all come by Push: no program.
-/
import Derived.Test.YtadcpkdnpfmphaaAlk
namespace Go.Proofs.Ytadcpkdnpfmphaa
set_option linter.unusedVariables false

/-- How many there are, from the last one down to a marker. -/
def cntR (p : Ent → Bool) : List Ent → Nat
  | [] => 0
  | x :: r => if x.1 then 0 else (if p x then 1 else 0) + cntR p r

theorem scn_cnt (p : Ent → Bool) : ∀ (r : List Ent) (f : Int) (n : Nat), (scn p r f n).2 = n + cntR p r
  | [], f, n => rfl
  | x :: r, f, n => by
    unfold scn cntR
    cases x.1
    · cases p x
      · simp only [Bool.false_eq_true, if_false, Nat.zero_add]
        exact scn_cnt p r f n
      · simp only [Bool.false_eq_true, if_false, if_true]
        rw [scn_cnt p r r.length (n + 1)]
        omega
    · simp

/-- All of this and of what stands ahead of it. -/
def OkR : List Ent → Prop
  | [] => True
  | x :: r => (∀ nm a, cntR (alk nm a) (x :: r) ≤ 3) ∧ OkR r

theorem OkR.le : ∀ {r : List Ent}, OkR r → ∀ nm a, cntR (alk nm a) r ≤ 3
  | [], _, _, _ => Nat.zero_le _
  | x :: r, h, nm, a => h.1 nm a

theorem OkR.tail {s : List Ent} : ∀ {r : List Ent}, OkR (r ++ s) → OkR s
  | [], h => h
  | x :: r, h => OkR.tail (r := r) h.2

/-- One is left out. -/
theorem cnt_out (p : Ent → Bool) (x : Ent) (s : List Ent) (hx : x.1 = false) : ∀ r : List Ent, cntR p (r ++ s) ≤ cntR p (r ++ x :: s)
  | [] => by
    simp only [List.nil_append]
    conv => rhs; unfold cntR
    rw [hx]
    simp
  | y :: r => by
    have := cnt_out p x s hx r
    simp only [List.cons_append]
    unfold cntR
    split
    · exact Nat.le_refl _
    · omega

theorem OkR.out {x : Ent} {s : List Ent} (hx : x.1 = false) : ∀ {r : List Ent}, OkR (r ++ x :: s) → OkR (r ++ s)
  | [], h => h.2
  | y :: r, h => ⟨fun nm a => Nat.le_trans (cnt_out _ x s hx (y :: r)) (h.1 nm a), OkR.out (r := r) hx h.2⟩

/-- The first one of those that there are. -/
theorem scn_first (p : Ent → Bool) : ∀ (r : List Ent) (f : Int) (n : Nat), n < (scn p r f n).2 → ∃ r1 x r2, r = r1 ++ x :: r2 ∧ (∀ y, y ∈ r1 → y.1 = false) ∧ x.1 = false ∧ p x = true ∧ (scn p r f n).1 = r2.length
  | [], f, n, h => by simp [scn] at h
  | y :: r, f, n, h => by
    unfold scn at h ⊢
    cases hy : y.1
    · rw [hy] at h
      simp only [Bool.false_eq_true, if_false] at h ⊢
      cases hp : p y
      · rw [hp] at h
        simp only [Bool.false_eq_true, if_false] at h ⊢
        obtain ⟨r1, x, r2, e, h1, h2, h3, h4⟩ := scn_first p r f n h
        exact ⟨y :: r1, x, r2, by rw [e]; rfl, fun z hz => (List.mem_cons.1 hz).elim (fun e => by rw [e]; exact hy) (fun hz => h1 z hz), h2, h3, h4⟩
      · simp only [if_true]
        by_cases he : n + 1 < (scn p r r.length (n + 1)).2
        · obtain ⟨r1, x, r2, e, h1, h2, h3, h4⟩ := scn_first p r r.length (n + 1) he
          exact ⟨y :: r1, x, r2, by rw [e]; rfl, fun z hz => (List.mem_cons.1 hz).elim (fun e => by rw [e]; exact hy) (fun hz => h1 z hz), h2, h3, h4⟩
        · have hr := scn_range p r r.length (n + 1)
          exact ⟨[], y, r, rfl, fun z hz => by simp at hz, hy, hp, hr.2.2.1 (by omega)⟩
    · rw [hy] at h
      simp at h

theorem cnt_in (p : Ent → Bool) (x : Ent) (s : List Ent) (hx : x.1 = false) (hp : p x = true) : ∀ r : List Ent, (∀ y, y ∈ r → y.1 = false) → cntR p (r ++ x :: s) = cntR p (r ++ s) + 1
  | [], _ => by
    simp only [List.nil_append]
    conv => lhs; unfold cntR
    rw [hx, hp]
    simp
    omega
  | y :: r, h => by
    have := cnt_in p x s hx hp r (fun z hz => h z (List.mem_cons_of_mem _ hz))
    simp only [List.cons_append]
    unfold cntR
    rw [h y (List.mem_cons_self ..)]
    simp only [Bool.false_eq_true, if_false]
    omega

theorem cnt_same (p q : Ent → Bool) (h : ∀ x, p x = q x) : ∀ r : List Ent, cntR p r = cntR q r
  | [] => rfl
  | x :: r => by
    unfold cntR
    rw [h x, cnt_same p q h r]

/-- Those of the class of x are the same, told by x or by what it is alike to. -/
theorem alk_class {nm : ByteArray} {a : List Att} {m : Bool} {h : Int} {s : ByteArray} {b : List Att} (hx : alk nm a (m, h, s, b) = true) (y : Ent) : alk nm a y = alk s b y := by
  unfold alk at hx ⊢
  rw [Bool.and_eq_true] at hx
  simp only at hx
  have e1 := eqs_iff.1 hx.1
  subst e1
  congr 1
  rw [Bool.eq_iff_iff]
  exact ⟨fun h => alike_trans h (alike_symm hx.2), fun h => alike_trans h hx.2⟩

def Ok3 (zs : List Ent) : Prop := OkR zs.reverse

theorem Ok3.mark {zs : List Ent} (h : Ok3 zs) : Ok3 (zs ++ [emk]) := by
  unfold Ok3
  rw [List.reverse_append]
  exact ⟨fun nm a => by simp [cntR, emk], h⟩

theorem OkR.clr : ∀ {r : List Ent}, OkR r → OkR (clrR r)
  | [], _ => trivial
  | x :: r, h => by
    unfold clrR
    split
    · exact h.2
    · exact OkR.clr h.2

theorem Ok3.clr {zs : List Ent} (h : Ok3 zs) : Ok3 (clr zs) := by
  unfold Ok3 Go.Proofs.Ytadcpkdnpfmphaa.clr
  rw [List.reverse_reverse]
  exact OkR.clr h

theorem Ok3.push {zs : List Ent} (h : Ok3 zs) (hd : Int) (s : ByteArray) (b : List Att) : Ok3 (psh zs hd s b) := by
  have hc := scn_cnt (alk s b) zs.reverse 0 0
  have top : ∀ r : List Ent, OkR r → cntR (alk s b) r ≤ 2 → OkR ((false, hd, s, b) :: r) := fun r hr h2 => by
    refine ⟨fun nm a => ?_, hr⟩
    unfold cntR
    simp only [Bool.false_eq_true, if_false]
    cases hx : alk nm a (false, hd, s, b)
    · simp only [Bool.false_eq_true, if_false]
      have := hr.le nm a
      omega
    · simp only [if_true]
      rw [cnt_same _ _ (alk_class hx) r]
      omega
  unfold Ok3 psh
  rw [List.reverse_append, List.reverse_singleton, List.singleton_append]
  by_cases h3 : 3 ≤ (scn (alk s b) zs.reverse 0 0).2
  · rw [if_pos h3]
    obtain ⟨r1, x, r2, e, h1, h2, h4, h5⟩ := scn_first (alk s b) zs.reverse 0 0 (by omega)
    have e2 : rmv zs (scn (alk s b) zs.reverse 0 0).1 = (r1 ++ r2).reverse := by
      have ez : zs = r2.reverse ++ [x] ++ r1.reverse := by
        rw [← List.reverse_reverse zs, e]
        simp
      unfold rmv
      rw [h5, if_pos (by omega), show ((r2.length : Int)).toNat = r2.length by omega]
      have hl : r2.reverse.length = r2.length := by simp
      have hl2 : (r2.reverse ++ [x]).length = r2.length + 1 := by simp
      conv => lhs; rw [ez]
      rw [List.drop_left' hl2, List.append_assoc, List.take_left' hl]
      simp
    rw [e2, List.reverse_reverse]
    unfold Ok3 at h
    rw [e] at h
    refine top _ (OkR.out h2 h) ?_
    have h6 := cnt_in (alk s b) x r2 h2 h4 r1 h1
    have h7 := h.le s b
    omega
  · rw [if_neg h3]
    exact top _ h (by omega)

/-- The last one, and how many are as it is. -/
theorem Ok3.last {ys : List Ent} {x : Ent} (h : Ok3 (ys ++ [x])) : cntR (alk x.2.2.1 x.2.2.2) (ys ++ [x]).reverse ≤ 3 := h.le _ _

end Go.Proofs.Ytadcpkdnpfmphaa
