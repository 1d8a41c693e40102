/-
  Attributes that are alike have the same first ones of each name: so being alike is an equivalence. No program.
-/
import Derived.Test.YtadcpkdnpfmphaaEnt
namespace Go.Proofs.Ytadcpkdnpfmphaa

theorem sub_len {α β : Type} [DecidableEq α] (f : α → β) : ∀ (a b : List α), List.Pairwise (fun x y => f x ≠ f y) a → (∀ x, x ∈ a → x ∈ b) → a.length ≤ b.length
  | [], b, _, _ => Nat.zero_le _
  | x :: a, b, hd, hs => by
    rw [List.pairwise_cons] at hd
    have hx : x ∈ b := hs x (List.mem_cons_self ..)
    have h := sub_len f a (b.erase x) hd.2 (fun y hy => by
      have hne : y ≠ x := fun e => by subst e; exact hd.1 y hy rfl
      exact (List.mem_erase_of_ne hne).2 (hs y (List.mem_cons_of_mem _ hy)))
    rw [List.length_erase_of_mem hx] at h
    have := List.length_pos_of_mem hx
    simp only [List.length_cons]
    omega

theorem sub_back {α β : Type} [DecidableEq α] (f : α → β) (a b : List α) (hd : List.Pairwise (fun x y => f x ≠ f y) a) (hs : ∀ x, x ∈ a → x ∈ b) (hl : a.length = b.length) (y : α) (hy : y ∈ b) : y ∈ a := by
  apply Classical.byContradiction
  intro hn
  have h := sub_len f a (b.erase y) hd (fun x hx => by
    have hne : x ≠ y := fun e => by subst e; exact hn hx
    exact (List.mem_erase_of_ne hne).2 (hs x hx))
  rw [List.length_erase_of_mem hy] at h
  have := List.length_pos_of_mem hy
  omega

theorem alike_iff (a b : List Att) : alike a b = true ↔ ∀ x, getF a x = getF b x := by
  constructor
  · intro h
    unfold alike at h
    rw [Bool.and_eq_true, List.all_eq_true] at h
    obtain ⟨h1, h2⟩ := h
    have hsub : ∀ x, x ∈ uniq a → x ∈ uniq b := fun x hx => by
      have hk := h1 x hx
      unfold okIn at hk
      rw [mem_uniq]
      cases hg : getF b x.1 with
      | none => rw [hg] at hk; simp at hk
      | some y =>
        rw [hg] at hk
        simp only [Option.any_some] at hk
        have e1 := getF_name hg
        have e2 := eqs_iff.1 hk
        rw [Prod.ext e1 e2]
    have hback := sub_back (fun x : Att => x.1) (uniq a) (uniq b) (dist_uniq a) hsub (by simpa using h2)
    intro x
    cases hg : getF a x with
    | some y =>
      have e1 := getF_name hg
      have h3 := hsub y (mem_uniq.2 (by rw [e1]; exact hg))
      rw [mem_uniq, e1] at h3
      exact h3.symm
    | none =>
      cases hb : getF b x with
      | none => rfl
      | some y =>
        have e1 := getF_name hb
        have h3 := hback y (mem_uniq.2 (by rw [e1]; exact hb))
        rw [mem_uniq, e1, hg] at h3
        cases h3
  · intro h
    unfold alike
    rw [Bool.and_eq_true, List.all_eq_true]
    have h12 : ∀ x, x ∈ uniq a → x ∈ uniq b := fun x hx => by rw [mem_uniq] at hx ⊢; rw [← h]; exact hx
    have h21 : ∀ x, x ∈ uniq b → x ∈ uniq a := fun x hx => by rw [mem_uniq] at hx ⊢; rw [h]; exact hx
    refine ⟨fun x hx => ?_, ?_⟩
    · unfold okIn
      rw [mem_uniq.1 (h12 x hx)]
      exact eqs_refl _
    · have := sub_len (fun x : Att => x.1) _ _ (dist_uniq a) h12
      have := sub_len (fun x : Att => x.1) _ _ (dist_uniq b) h21
      simp
      omega

theorem alike_symm {a b : List Att} (h : alike a b = true) : alike b a = true := (alike_iff _ _).2 (fun x => ((alike_iff _ _).1 h x).symm)
theorem alike_trans {a b c : List Att} (h : alike a b = true) (k : alike b c = true) : alike a c = true := (alike_iff _ _).2 (fun x => ((alike_iff _ _).1 h x).trans ((alike_iff _ _).1 k x))
theorem alike_refl (a : List Att) : alike a a = true := (alike_iff _ _).2 (fun _ => rfl)

/-- Has the list what x is, as its first of that name? -/
def hfR (x : Att) : List Att → Bool
  | [] => false
  | y :: r => if eqs y.1 x.1 then eqs y.2 x.2 else hfR x r

def hfst (l : List Att) : List Att → Bool
  | [] => l.isEmpty
  | x :: _ => hfR x l

theorem hfR_get (x : Att) : ∀ l : List Att, hfR x l = (getF l x.1).any fun y => eqs y.2 x.2
  | [] => rfl
  | y :: r => by
    unfold hfR getF
    rw [List.find?_cons]
    cases hq : eqs y.1 x.1
    · simp only [Bool.false_eq_true, if_false]
      exact hfR_get x r
    · simp

/-- All have it that are alike. -/
theorem hfst_alike {l a : List Att} (h : alike l a = true) : hfst l a = true := by
  have h1 := (alike_iff _ _).1 h
  cases a with
  | nil =>
    cases l with
    | nil => rfl
    | cons y l =>
      have := h1 y.1
      unfold getF at this
      rw [List.find?_cons, eqs_refl] at this
      simp at this
  | cons x a =>
    show hfR x l = true
    rw [hfR_get, h1 x.1]
    unfold getF
    rw [List.find?_cons, eqs_refl]
    simp [eqs_refl]

theorem hfst_not {l a : List Att} (h : hfst l a = false) : alike l a = false := by
  cases hq : alike l a
  · rfl
  · rw [hfst_alike hq] at h; cases h

end Go.Proofs.Ytadcpkdnpfmphaa
