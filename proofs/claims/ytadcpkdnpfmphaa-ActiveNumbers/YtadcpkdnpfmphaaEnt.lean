/-
  Entries of a list of active formatting, and what the document asks of such lists: no program. All that goes from the last one down is said of the list turned round.
-/
import Derived.Test.YtadcpkdnpfmphaaAlike
namespace Go.Proofs.Ytadcpkdnpfmphaa

/-- An entry: is it a marker, its handle, its name, its attributes. -/
abbrev Ent := Bool × Int × ByteArray × List Att

/-- An entry that is none. -/
def e0 : Ent := (false, 0, ⟨#[]⟩, [])
/-- A marker. -/
def emk : Ent := (true, 0, ⟨#[]⟩, [])

/-- Its attributes are few and fit. -/
def Few (x : Ent) : Prop := x.2.2.2.length ≤ 6 ∧ fits x.2.2.2

/-- Is it of that name, with such attributes? -/
def alk (nm : ByteArray) (a : List Att) (x : Ent) : Bool := eqs x.2.2.1 nm && alike x.2.2.2 a

/-- From the last one down to a marker: the first place where p holds, and how many there are. -/
def scn (p : Ent → Bool) : List Ent → Int → Nat → Int × Nat
  | [], f, n => (f, n)
  | x :: r, f, n => if x.1 then (f, n) else if p x then scn p r r.length (n + 1) else scn p r f n

/-- The place behind the last marker. -/
def behR : List Ent → Nat
  | [] => 0
  | x :: r => if x.1 then r.length + 1 else behR r
def beh (zs : List Ent) : Nat := behR zs.reverse

/-- What is left when the last ones are popped, a marker too, then no more. -/
def clrR : List Ent → List Ent
  | [] => []
  | x :: r => if x.1 then r else clrR r
def clr (zs : List Ent) : List Ent := (clrR zs.reverse).reverse

/-- The place of the last one of that name behind the last marker. -/
def fndR (nm : ByteArray) : List Ent → Int
  | [] => -1
  | x :: r => if x.1 then -1 else if eqs x.2.2.1 nm then (r.length : Int) else fndR nm r
def fnm (nm : ByteArray) (zs : List Ent) : Int := fndR nm zs.reverse

/-- The place of the last one that has h. -/
def plcR (h : Int) : List Ent → Int
  | [] => -1
  | x :: r => if !x.1 && decide (x.2.1 = h) then (r.length : Int) else plcR h r
def plc2 (h : Int) (zs : List Ent) : Int := plcR h zs.reverse

/-- Where reconstruction begins. -/
def frmR (p : Int → Bool) : List Ent → Nat
  | [] => 0
  | x :: r => if x.1 || p x.2.1 then r.length + 1 else frmR p r
def frm (p : Int → Bool) (zs : List Ent) : Nat := frmR p zs.reverse

/-- What is left when the one at place k is gone. -/
def rmv (zs : List Ent) (k : Int) : List Ent := if 0 ≤ k then zs.take k.toNat ++ zs.drop (k.toNat + 1) else zs
/-- The one at k has the handle h now. -/
def hnd (h : Int) (x : Ent) : Ent := (x.1, h, x.2.2)
def rpl (zs : List Ent) (k : Int) (h : Int) : List Ent := if 0 ≤ k then zs.modify k.toNat (hnd h) else zs
/-- x at place i, or the nearest one. -/
def clp (n : Nat) (i : Int) : Nat := (min (max i 0) (n : Int)).toNat
def ins (zs : List Ent) (i : Int) (x : Ent) : List Ent := zs.take (clp zs.length i) ++ x :: zs.drop (clp zs.length i)

/-- Push. -/
def psh (zs : List Ent) (h : Int) (nm : ByteArray) (a : List Att) : List Ent :=
  (if 3 ≤ (scn (alk nm a) zs.reverse 0 0).2 then rmv zs (scn (alk nm a) zs.reverse 0 0).1 else zs) ++ [(false, h, nm, a)]

theorem rev_take {γ : Type} (l : List γ) (k : Nat) (h : k < l.length) : (l.take (k + 1)).reverse = l[k] :: (l.take k).reverse := by
  rw [List.take_succ_eq_append_getElem h]
  simp

theorem rev_all {γ : Type} (l : List γ) : (l.take l.length).reverse = l.reverse := by rw [List.take_of_length_le (Nat.le_refl _)]

theorem snoc_or {γ : Type} (l : List γ) : l = [] ∨ ∃ r x, l = r ++ [x] := by
  rcases Nat.eq_zero_or_pos l.length with h | h
  · exact Or.inl (List.eq_nil_of_length_eq_zero h)
  · exact Or.inr ⟨l.dropLast, l.getLast (List.length_pos_iff.1 h), (List.dropLast_concat_getLast _).symm⟩

theorem scn_range (p : Ent → Bool) : ∀ (r : List Ent) (f : Int) (n : Nat), (scn p r f n).2 ≤ n + r.length ∧ n ≤ (scn p r f n).2 ∧ ((scn p r f n).2 = n → (scn p r f n).1 = f) ∧ (n < (scn p r f n).2 → 0 ≤ (scn p r f n).1 ∧ (scn p r f n).1 < r.length)
  | [], f, n => by simp [scn]
  | x :: r, f, n => by
    unfold scn
    split
    · simp
    · split
      · obtain ⟨h1, h2, h3, h4⟩ := scn_range p r r.length (n + 1)
        refine ⟨by simp; omega, by omega, fun h => by omega, fun h => ?_⟩
        by_cases he : (scn p r r.length (n + 1)).2 = n + 1
        · rw [h3 he]; simp only [List.length_cons]; omega
        · have := h4 (by omega); simp; omega
      · obtain ⟨h1, h2, h3, h4⟩ := scn_range p r f n
        exact ⟨by simp; omega, h2, h3, fun h => by have := h4 h; simp; omega⟩

/-- From where one begins does not matter, if there are some. -/
theorem scn_from (p : Ent → Bool) : ∀ (r : List Ent) (f g : Int) (n : Nat), (scn p r f n).2 = (scn p r g n).2 ∧ (n < (scn p r f n).2 → (scn p r f n).1 = (scn p r g n).1)
  | [], f, g, n => by simp [scn]
  | x :: r, f, g, n => by
    unfold scn
    split
    · simp
    · split
      · exact ⟨rfl, fun _ => rfl⟩
      · exact scn_from p r f g n

theorem behR_le : ∀ r : List Ent, behR r ≤ r.length
  | [] => Nat.le_refl _
  | x :: r => by
    have := behR_le r
    unfold behR
    split <;> simp <;> omega

theorem beh_le (zs : List Ent) : beh zs ≤ zs.length := by have := behR_le zs.reverse; simpa [beh] using this

/-- Behind the place behind the last marker stands none; at its foot stands one. -/
theorem beh_take (zs : List Ent) : ∀ k, k ≤ zs.length → beh zs ≤ k → beh (zs.take k) = beh zs := by
  intro k hk
  induction h : zs.length - k generalizing k with
  | zero =>
    intro _
    rw [List.take_of_length_le (by omega)]
  | succ m ih =>
    intro hb
    have h1 := ih (k + 1) (by omega) (by omega) (by omega)
    rw [← h1]
    unfold beh
    rw [rev_take zs k (by omega), behR]
    split
    · rename_i hx
      exfalso
      unfold beh at h1 hb
      rw [rev_take zs k (by omega), behR, if_pos hx] at h1
      simp at h1
      omega
    · rfl

theorem beh_none (zs : List Ent) (k : Nat) (hk : k < zs.length) (hb : beh zs ≤ k) : zs[k].1 = false := by
  have h1 := beh_take zs (k + 1) (by omega) (by omega)
  unfold beh at h1 hb
  rw [rev_take zs k hk, behR] at h1
  cases hx : zs[k].1
  · rfl
  · rw [hx, if_pos rfl] at h1
    simp at h1
    omega

theorem scn_stop (p : Ent → Bool) (zs : List Ent) (f : Int) (n : Nat) : scn p (zs.take (beh zs)).reverse f n = (f, n) := by
  have h1 := beh_take zs (beh zs) (beh_le zs) (Nat.le_refl _)
  rcases snoc_or (zs.take (beh zs)) with h | ⟨r, x, h⟩
  · rw [h]; rfl
  · have hl : (zs.take (beh zs)).length = beh zs := by rw [List.length_take]; exact Nat.min_eq_left (beh_le zs)
    rw [h] at h1 hl ⊢
    rw [List.reverse_append, List.reverse_singleton, List.singleton_append]
    unfold scn
    unfold beh at h1
    rw [List.reverse_append, List.reverse_singleton, List.singleton_append, behR] at h1
    cases hx : x.1
    · rw [hx] at h1
      have := behR_le r.reverse
      have hbe : beh zs = behR zs.reverse := rfl
      simp at h1 hl this
      omega
    · rfl

theorem fnd_stop (nm : ByteArray) (zs : List Ent) : fndR nm (zs.take (beh zs)).reverse = -1 := by
  have h1 := beh_take zs (beh zs) (beh_le zs) (Nat.le_refl _)
  rcases snoc_or (zs.take (beh zs)) with h | ⟨r, x, h⟩
  · rw [h]; rfl
  · have hl : (zs.take (beh zs)).length = beh zs := by rw [List.length_take]; exact Nat.min_eq_left (beh_le zs)
    rw [h] at h1 hl ⊢
    rw [List.reverse_append, List.reverse_singleton, List.singleton_append]
    unfold fndR
    unfold beh at h1
    rw [List.reverse_append, List.reverse_singleton, List.singleton_append, behR] at h1
    cases hx : x.1
    · rw [hx] at h1
      have := behR_le r.reverse
      have hbe : beh zs = behR zs.reverse := rfl
      simp at h1 hl this
      omega
    · rfl

theorem fndR_range (nm : ByteArray) : ∀ r : List Ent, -1 ≤ fndR nm r ∧ fndR nm r < r.length
  | [] => by simp [fndR]
  | x :: r => by
    have := fndR_range nm r
    unfold fndR
    split
    · simp; omega
    · split <;> simp <;> omega

theorem fnm_range (nm : ByteArray) (zs : List Ent) : -1 ≤ fnm nm zs ∧ fnm nm zs < zs.length := by have := fndR_range nm zs.reverse; simpa [fnm] using this

/-- The one at place k; none, if there is no such place. -/
def gtk (zs : List Ent) (k : Int) : Ent := if 0 ≤ k then (zs[k.toNat]?).getD e0 else e0

theorem gtk_at (zs : List Ent) (j : Nat) (h : j < zs.length) : gtk zs (j : Int) = zs[j] := by
  unfold gtk
  rw [if_pos (by omega), show ((j : Int)).toNat = j by omega, List.getElem?_eq_getElem h]
  rfl

theorem gtk_no (zs : List Ent) (k : Int) (h : ¬ 0 ≤ k) : gtk zs k = e0 := by unfold gtk; rw [if_neg h]

theorem plcR_range (h : Int) : ∀ r : List Ent, -1 ≤ plcR h r ∧ plcR h r < r.length
  | [] => by simp [plcR]
  | x :: r => by
    have := plcR_range h r
    unfold plcR
    split <;> simp <;> omega

theorem plc2_range (h : Int) (zs : List Ent) : -1 ≤ plc2 h zs ∧ plc2 h zs < zs.length := by have := plcR_range h zs.reverse; simpa [plc2] using this

theorem frmR_le (p : Int → Bool) : ∀ r : List Ent, frmR p r ≤ r.length
  | [] => Nat.le_refl _
  | x :: r => by
    have := frmR_le p r
    unfold frmR
    split <;> simp <;> omega

theorem frm_le (p : Int → Bool) (zs : List Ent) : frm p zs ≤ zs.length := by have := frmR_le p zs.reverse; simpa [frm] using this

theorem clr_nil : clr [] = [] := rfl

theorem clr_snoc (ys : List Ent) (x : Ent) : clr (ys ++ [x]) = if x.1 then ys else clr ys := by
  unfold clr
  rw [List.reverse_append, List.reverse_singleton, List.singleton_append, clrR]
  split
  · simp
  · rfl

theorem clp_le (n : Nat) (i : Int) : clp n i ≤ n := by unfold clp; omega

theorem rmv_len (zs : List Ent) (k : Int) (h : k < zs.length) : (rmv zs k).length ≤ zs.length := by
  unfold rmv
  split
  · simp; omega
  · exact Nat.le_refl _

theorem rpl_len (zs : List Ent) (k h : Int) : (rpl zs k h).length = zs.length := by
  unfold rpl
  split <;> simp

theorem ins_len (zs : List Ent) (i : Int) (x : Ent) : (ins zs i x).length = zs.length + 1 := by
  have := clp_le zs.length i
  unfold ins
  simp
  omega

theorem clr_len (zs : List Ent) : (clr zs).length ≤ zs.length := by
  have h : ∀ r : List Ent, (clrR r).length ≤ r.length := by
    intro r
    induction r with
    | nil => exact Nat.le_refl _
    | cons x r ih =>
      unfold clrR
      split <;> simp <;> omega
  have := h zs.reverse
  simpa [clr] using this

theorem psh_len (zs : List Ent) (h : Int) (nm : ByteArray) (a : List Att) : (psh zs h nm a).length ≤ zs.length + 1 := by
  unfold psh
  rw [List.length_append]
  split
  · have h1 := scn_range (alk nm a) zs.reverse 0 0
    have := rmv_len zs (scn (alk nm a) zs.reverse 0 0).1 (by have := h1.2.2.2 (by omega); simp at this; omega)
    simp
    omega
  · simp

end Go.Proofs.Ytadcpkdnpfmphaa
