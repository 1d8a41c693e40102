/-
  Joined: LotsB.
-/
import Derived.Test.YtpkppobkagdhkaaJ9
import Derived.Test.YtpkppobkagdhkaaJ12

/-
  Arenas by themselves: Contents, and the calls: no program.
-/
namespace Go.Proofs.Ytpkppobkagdhkaa
set_option linter.unusedVariables false
set_option linter.unusedSimpArgs false

namespace Ar

/-- May have kids. -/
def hld (l : Lb) : Bool := decide (l.kind = 1) || decide (l.kind = 3) || decide (l.kind = 6)
/-- Stays where it is. -/
def fix (l : Lb) : Bool := decide (l.kind = 1) || decide (l.kind = 6)

/-- The Document alone is one; Contents are the first kids of templates, of each; none but some may have kids. -/
structure Ful (a : Ar) : Prop extends Ok a where
  doc : ∀ x, x < a.n → ((a.lb x).kind = 1 ↔ x = 0)
  con : ∀ x, x < a.n → (a.lb x).kind = 6 → ∃ p, (a.kids p).head? = some x ∧ tmplF (a.lb p) = true
  has : ∀ p, p < a.n → tmplF (a.lb p) = true → ∃ c, (a.kids p).head? = some c ∧ (a.lb c).kind = 6
  may : ∀ p, a.kids p ≠ [] → hld (a.lb p) = true

theorem fix_doc {l : Lb} (h : fix l = false) : l.kind ≠ 1 ∧ l.kind ≠ 6 := by simpa [fix] using h

theorem head_put {k : List Nat} {i x c : Nat} (h : k.head? = some c) (hi : i ≠ 0) : (k.take i ++ x :: k.drop i).head? = some c := by
  cases k with
  | nil => cases h
  | cons y ys =>
    cases i with
    | zero => exact absurd rfl hi
    | succ i => simpa using h

theorem head_cut {k : List Nat} {x c : Nat} (h : k.head? = some c) (hx : c ≠ x) : (k.erase x).head? = some c := by
  cases k with
  | nil => cases h
  | cons y ys =>
    obtain rfl : y = c := by simpa using h
    rw [List.erase_cons_tail (by simpa using hx)]
    rfl

theorem Ful.put {a : Ar} (h : a.Ful) {p i x : Nat} (hp : p < a.n) (hx : x < a.n) (hh : hld (a.lb p) = true) (hf : fix (a.lb x) = false) (hu : a.up x = none) (hw : ¬ a.Wn p x) (hi : tmplF (a.lb p) = true → i ≠ 0) : (a.put p i x).Ful := by
  have hd := fix_doc hf
  refine ⟨h.toOk.put hp hx (fun e => hd.1 ((h.doc x hx).2 e)) hu hw, h.doc, fun y hy hk => ?_, fun q hq ht => ?_, fun q hq => ?_⟩
  · obtain ⟨q, h1, h2⟩ := h.con y hy hk
    refine ⟨q, ?_, h2⟩
    show (if q = p then _ else _ : List Nat).head? = _
    by_cases e : q = p
    · subst e
      rw [if_pos rfl]; exact head_put h1 (hi h2)
    · rw [if_neg e]; exact h1
  · obtain ⟨c, h1, h2⟩ := h.has q hq ht
    refine ⟨c, ?_, h2⟩
    show (if q = p then _ else _ : List Nat).head? = _
    by_cases e : q = p
    · subst e
      rw [if_pos rfl]; exact head_put h1 (hi ht)
    · rw [if_neg e]; exact h1
  · by_cases e : q = p
    · rw [e]; exact hh
    · have hq' : (if q = p then _ else _ : List Nat) ≠ [] := hq
      rw [if_neg e] at hq'
      exact h.may q hq'

theorem Ful.cut {a : Ar} (h : a.Ful) {x : Nat} (hf : fix (a.lb x) = false) : (a.cut x).Ful := by
  have hd := fix_doc hf
  refine ⟨h.toOk.cut x, h.doc, fun y hy hk => ?_, fun q hq ht => ?_, fun q hq => ?_⟩
  · obtain ⟨q, h1, h2⟩ := h.con y hy hk
    refine ⟨q, ?_, h2⟩
    show (if a.up x = some q then _ else _ : List Nat).head? = _
    split
    · exact head_cut h1 (fun e => hd.2 (e ▸ hk))
    · exact h1
  · obtain ⟨c, h1, h2⟩ := h.has q hq ht
    refine ⟨c, ?_, h2⟩
    show (if a.up x = some q then _ else _ : List Nat).head? = _
    split
    · exact head_cut h1 (fun e => hd.2 (e ▸ h2))
    · exact h1
  · refine h.may q (fun e => hq ?_)
    show (if a.up x = some q then _ else _ : List Nat) = []
    rw [e]; split <;> rfl

theorem Ful.new {a : Ar} (h : a.Ful) {l : Lb} (hf : fix l = false) (ht : tmplF l = false) : (a.new l).Ful := by
  have hd := fix_doc hf
  have hn : ∀ y, y < a.n + 1 → y ≠ a.n → y < a.n := fun y h1 h2 => by omega
  have h0 := h.pos
  refine ⟨h.toOk.new l, fun y hy => ?_, fun y hy hk => ?_, fun q hq hq2 => ?_, fun q hq => ?_⟩
  · show ((if y = a.n then l else a.lb y) : Lb).kind = 1 ↔ y = 0
    by_cases e : y = a.n
    · rw [if_pos e]; exact ⟨fun e2 => absurd e2 hd.1, fun e2 => by omega⟩
    · rw [if_neg e]; exact h.doc y (hn y hy e)
  · replace hk : ((if y = a.n then l else a.lb y) : Lb).kind = 6 := hk
    by_cases e : y = a.n
    · rw [if_pos e] at hk; exact absurd hk hd.2
    · rw [if_neg e] at hk
      obtain ⟨q, h1, h2⟩ := h.con y (hn y hy e) hk
      refine ⟨q, h1, ?_⟩
      show tmplF (if q = a.n then l else a.lb q) = true
      rw [if_neg (fun e => by rw [e, (h.out a.n (Nat.le_refl _)).1] at h1; cases h1)]
      exact h2
  · replace hq2 : tmplF (if q = a.n then l else a.lb q) = true := hq2
    by_cases e : q = a.n
    · rw [if_pos e, ht] at hq2; cases hq2
    · rw [if_neg e] at hq2
      obtain ⟨c, h1, h2⟩ := h.has q (hn q hq e) hq2
      refine ⟨c, h1, ?_⟩
      show ((if c = a.n then l else a.lb c) : Lb).kind = 6
      have hc : c < a.n := (h.kid_lt (List.mem_of_mem_head? h1)).1
      rw [if_neg (by omega)]; exact h2
  · show hld (if q = a.n then l else a.lb q) = true
    rw [if_neg (fun e => hq (by rw [e]; exact (h.out a.n (Nat.le_refl _)).1))]
    exact h.may q hq

/-- A template, with its Content. -/
def newT (a : Ar) (l : Lb) : Ar := ((a.new l).new (6, 0, ⟨#[]⟩, [], ⟨#[]⟩)).put a.n 0 (a.n + 1)

theorem newT_lb (a : Ar) (l : Lb) (y : Nat) : (a.newT l).lb y = if y = a.n + 1 then (6, 0, ⟨#[]⟩, [], ⟨#[]⟩) else if y = a.n then l else a.lb y := rfl
theorem newT_kids {a : Ar} (h : a.Ok) (l : Lb) (y : Nat) : (a.newT l).kids y = if y = a.n then [a.n + 1] else a.kids y := by
  show (if y = a.n then (a.kids a.n).take 0 ++ (a.n + 1) :: (a.kids a.n).drop 0 else a.kids y) = _
  rw [(h.out a.n (Nat.le_refl _)).1]; rfl

theorem Ful.newT {a : Ar} (h : a.Ful) {l : Lb} (ht : tmplF l = true) : (a.newT l).Ful := by
  have hk : l.kind = 3 := by simp [tmplF] at ht; exact ht.1
  have h0 := h.pos
  have hu : ∀ x, a.n ≤ x → a.up x = none := fun x hx => (h.out x hx).2
  have hO : (a.newT l).Ok := by
    refine ((h.toOk.new l).new _).put (show a.n < a.n + 1 + 1 by omega) (show a.n + 1 < a.n + 1 + 1 by omega) (by omega) (hu _ (by omega)) (fun hw => ?_)
    have := (Wn.none (a := (a.new l).new (6, 0, ⟨#[]⟩, [], ⟨#[]⟩)) (x := a.n) (t := a.n + 1) (hu _ (Nat.le_refl _))).1 hw
    omega
  have hN : (a.newT l).n = a.n + 2 := rfl
  refine ⟨hO, fun y hy => ?_, fun y hy hk2 => ?_, fun q hq hq2 => ?_, fun q hq => ?_⟩
  · rw [newT_lb]
    split
    · rename_i e; exact ⟨fun e2 => by simp [Lb.kind] at e2, fun e2 => by omega⟩
    · split
      · rename_i e; exact ⟨fun e2 => (by rw [hk] at e2; exact absurd e2 (by decide)), fun e2 => by omega⟩
      · exact h.doc y (by omega)
  · rw [newT_lb] at hk2
    by_cases e : y = a.n + 1
    · exact ⟨a.n, by rw [newT_kids h.toOk, if_pos rfl, e]; rfl, by rw [newT_lb, if_neg (by omega), if_pos rfl]; exact ht⟩
    · rw [if_neg e] at hk2
      by_cases e2 : y = a.n
      · rw [if_pos e2, hk] at hk2; cases hk2
      · rw [if_neg e2] at hk2
        obtain ⟨q, h1, h2⟩ := h.con y (by omega) hk2
        have hq : q < a.n := (h.kid_lt (List.mem_of_mem_head? h1)).2
        exact ⟨q, by rw [newT_kids h.toOk, if_neg (by omega)]; exact h1, by rw [newT_lb, if_neg (by omega), if_neg (by omega)]; exact h2⟩
  · rw [newT_lb] at hq2
    by_cases e : q = a.n + 1
    · rw [if_pos e] at hq2; simp [tmplF, Lb.kind] at hq2
    · rw [if_neg e] at hq2
      by_cases e2 : q = a.n
      · exact ⟨a.n + 1, by rw [newT_kids h.toOk, if_pos e2]; rfl, by rw [newT_lb, if_pos rfl]⟩
      · rw [if_neg e2] at hq2
        obtain ⟨c, h1, h2⟩ := h.has q (by omega) hq2
        have hc : c < a.n := (h.kid_lt (List.mem_of_mem_head? h1)).1
        exact ⟨c, by rw [newT_kids h.toOk, if_neg e2]; exact h1, by rw [newT_lb, if_neg (by omega), if_neg (by omega)]; exact h2⟩
  · rw [newT_kids h.toOk] at hq
    by_cases e2 : q = a.n
    · rw [newT_lb, if_neg (by omega), if_pos e2]; simp [hld, hk]
    · rw [if_neg e2] at hq
      have hq3 : q < a.n := Nat.lt_of_not_le fun hle => hq (h.out q hle).1
      rw [newT_lb, if_neg (by omega), if_neg e2]
      exact h.may q hq

/-- Told anew, with the same Kind and of one sort. -/
theorem Ful.tell {a : Ar} (h : a.Ful) {x : Nat} {l : Lb} (hk : l.kind = (a.lb x).kind) (ht : tmplF l = tmplF (a.lb x)) : (a.tell x l).Ful := by
  have e1 : ∀ y, ((a.tell x l).lb y).kind = (a.lb y).kind := fun y => by
    show ((if y = x then l else a.lb y) : Lb).kind = _
    split
    · rename_i e; rw [e]; exact hk
    · rfl
  have e2 : ∀ y, tmplF ((a.tell x l).lb y) = tmplF (a.lb y) := fun y => by
    show tmplF (if y = x then l else a.lb y) = _
    split
    · rename_i e; rw [e]; exact ht
    · rfl
  refine ⟨h.toOk.tell x l, fun y hy => by rw [e1]; exact h.doc y hy, fun y hy hk => ?_, fun q hq hq2 => ?_, fun q hq => ?_⟩
  · rw [e1] at hk
    obtain ⟨q, h1, h2⟩ := h.con y hy hk
    exact ⟨q, h1, by rw [e2]; exact h2⟩
  · rw [e2] at hq2
    obtain ⟨c, h1, h2⟩ := h.has q hq hq2
    exact ⟨c, h1, by rw [e1]; exact h2⟩
  · have := h.may q hq
    unfold hld at this ⊢
    rw [e1]; exact this

theorem first_ful : first.Ful := ⟨first_ok, fun x hx => ⟨fun _ => by have : x < 1 := hx; omega, fun _ => rfl⟩, fun x _ hk => by simp [first, Lb.kind] at hk, fun p _ ht => by simp [first, tmplF, Lb.kind] at ht, fun p hp => absurd rfl hp⟩

end Ar
end Go.Proofs.Ytpkppobkagdhkaa
