/-
  What Push, Clear, Find and From do with a marker: no program.
-/
import Derived.Test.YtadcpkdnpfmphaaEnt
namespace Go.Proofs.Ytadcpkdnpfmphaa
set_option linter.unusedVariables false

/-- No marker among them. -/
def Unm (l : List Ent) : Prop := ∀ x, x ∈ l → x.1 = false

theorem unm_nil : Unm [] := fun x hx => by simp at hx

theorem Unm.app {l m : List Ent} (h : Unm l) (k : Unm m) : Unm (l ++ m) := fun x hx => (List.mem_append.1 hx).elim (h x) (k x)
theorem Unm.take {l : List Ent} (h : Unm l) (k : Nat) : Unm (l.take k) := fun x hx => h x (List.mem_of_mem_take hx)
theorem Unm.drop {l : List Ent} (h : Unm l) (k : Nat) : Unm (l.drop k) := fun x hx => h x (List.mem_of_mem_drop hx)
theorem Unm.rev {l : List Ent} (h : Unm l) : Unm l.reverse := fun x hx => h x (List.mem_reverse.1 hx)
theorem unm_one (h : Int) (s : ByteArray) (a : List Att) : Unm [(false, h, s, a)] := fun x hx => by
  simp only [List.mem_singleton] at hx
  rw [hx]

theorem Unm.rmv {l : List Ent} (h : Unm l) (k : Int) : Unm (rmv l k) := by
  unfold Go.Proofs.Ytadcpkdnpfmphaa.rmv
  split
  · exact (h.take _).app (h.drop _)
  · exact h

theorem Unm.psh {l : List Ent} (h : Unm l) (hd : Int) (s : ByteArray) (a : List Att) : Unm (psh l hd s a) := by
  unfold Go.Proofs.Ytadcpkdnpfmphaa.psh
  split
  · exact (h.rmv _).app (unm_one _ _ _)
  · exact h.app (unm_one _ _ _)

theorem scn_low (q : Ent → Bool) (s : List Ent) : ∀ (t : List Ent) (f : Int) (n : Nat), n < (scn q (t ++ emk :: s) f n).2 → (s.length : Int) + 1 ≤ (scn q (t ++ emk :: s) f n).1
  | [], f, n, h => by simp [scn, emk] at h
  | y :: t, f, n, h => by
    simp only [List.cons_append] at h ⊢
    unfold scn at h ⊢
    cases hy : y.1
    · rw [hy] at h
      simp only [Bool.false_eq_true, if_false] at h ⊢
      cases hq : q y
      · rw [hq] at h
        simp only [Bool.false_eq_true, if_false] at h ⊢
        exact scn_low q s t f n h
      · simp only [if_true]
        by_cases he : n + 1 < (scn q (t ++ emk :: s) (t ++ emk :: s).length (n + 1)).2
        · exact scn_low q s t _ (n + 1) he
        · have hr := scn_range q (t ++ emk :: s) (t ++ emk :: s).length (n + 1)
          rw [hr.2.2.1 (by omega)]
          simp
          omega
    · rw [hy] at h
      simp at h

/-- Push behind a marker. -/
theorem psh_behind (p ts : List Ent) (hu : Unm ts) (h : Int) (s : ByteArray) (a : List Att) : ∃ ts', psh (p ++ [emk] ++ ts) h s a = p ++ [emk] ++ ts' ∧ Unm ts' ∧ ts'.length ≤ ts.length + 1 := by
  unfold psh
  have e1 : (p ++ [emk] ++ ts).reverse = ts.reverse ++ emk :: p.reverse := by simp
  by_cases h3 : 3 ≤ (scn (alk s a) (p ++ [emk] ++ ts).reverse 0 0).2
  · rw [if_pos h3]
    have hl : ((p.reverse).length : Int) + 1 ≤ (scn (alk s a) (p ++ [emk] ++ ts).reverse 0 0).1 := by
      rw [e1] at h3 ⊢
      exact scn_low _ _ _ 0 0 (by omega)
    have hu2 := (scn_range (alk s a) (p ++ [emk] ++ ts).reverse 0 0).2.2.2 (by omega)
    generalize (scn (alk s a) (p ++ [emk] ++ ts).reverse 0 0).1 = f at hl hu2
    obtain ⟨k, rfl⟩ : ∃ k : Nat, f = (k : Int) := ⟨f.toNat, by omega⟩
    simp only [List.length_reverse] at hl hu2
    have hP : (p ++ [emk]).length = p.length + 1 := by simp
    refine ⟨ts.take (k - (p.length + 1)) ++ ts.drop (k + 1 - (p.length + 1)) ++ [(false, h, s, a)], ?_, ((hu.take _).app (hu.drop _)).app (unm_one _ _ _), ?_⟩
    · unfold rmv
      rw [if_pos (by omega), show ((k : Int)).toNat = k by omega, List.take_append, List.drop_append, hP, List.take_of_length_le (show (p ++ [emk]).length ≤ k by omega), List.drop_eq_nil_of_le (show (p ++ [emk]).length ≤ k + 1 by omega)]
      simp
    · have : k < (p ++ [emk] ++ ts).length := by
        have := hu2.2
        simp at this ⊢
        omega
      simp at this ⊢
      omega
  · rw [if_neg h3]
    exact ⟨ts ++ [(false, h, s, a)], by simp, hu.app (unm_one _ _ _), by simp⟩

theorem clrR_unm (s : List Ent) : ∀ t : List Ent, Unm t → clrR (t ++ emk :: s) = s
  | [], _ => rfl
  | y :: t, h => by
    simp only [List.cons_append]
    unfold clrR
    rw [h y (List.mem_cons_self ..)]
    simp only [Bool.false_eq_true, if_false]
    exact clrR_unm s t (fun x hx => h x (List.mem_cons_of_mem _ hx))

theorem clr_behind (p ts : List Ent) (hu : Unm ts) : clr (p ++ [emk] ++ ts) = p := by
  unfold clr
  rw [show (p ++ [emk] ++ ts).reverse = ts.reverse ++ emk :: p.reverse by simp, clrR_unm _ _ hu.rev, List.reverse_reverse]

theorem frm_mark (f : Int → Bool) (p : List Ent) : frm f (p ++ [emk]) = p.length + 1 := by
  unfold frm
  rw [List.reverse_append, List.reverse_singleton, List.singleton_append]
  simp [frmR, emk]

theorem frm_true (p : List Ent) : frm (fun _ => true) p = p.length := by
  rcases snoc_or p with rfl | ⟨r, x, rfl⟩
  · rfl
  · unfold frm
    rw [List.reverse_append, List.reverse_singleton, List.singleton_append]
    simp [frmR]

theorem frmR_false : ∀ t : List Ent, Unm t → frmR (fun _ => false) t = 0
  | [], _ => rfl
  | y :: t, h => by
    unfold frmR
    rw [h y (List.mem_cons_self ..)]
    simp only [Bool.or_self, Bool.false_eq_true, if_false]
    exact frmR_false t (fun x hx => h x (List.mem_cons_of_mem _ hx))

theorem frm_false (p : List Ent) (h : Unm p) : frm (fun _ => false) p = 0 := frmR_false _ h.rev

theorem fnm_mark (s : ByteArray) (p : List Ent) : fnm s (p ++ [emk]) = -1 := by
  unfold fnm
  rw [List.reverse_append, List.reverse_singleton, List.singleton_append]
  simp [fndR, emk]

end Go.Proofs.Ytadcpkdnpfmphaa
