/-
  Tokens by themselves: what Right, Text, Same and Join are. No program.
-/
import Derived.Test.YthdlmglnieomeaaSame
import Derived.Test.YthdlmglnieomeaaStand
import Derived.Test.YthdlmglnieomeaaCat
import Derived.Test.YthdlmglnieomeaaLow
import Derived.Test.YthdlmglnieomeaaIter
namespace Go.Proofs.Ythdlmglnieomeaa
open Go.RowKit Utf

/-- A token: its Kind, Name, Attrs, Self and Text. -/
abbrev Tok := Int × ByteArray × List Att × Bool × ByteArray

/-- Nothing that would end a name. -/
def okB (c : Int) : Bool := !(isSp c) && !(c == 47) && !(c == 62)

theorem okB_high {x : Int} (h : 128 ≤ x) : okB x = true := by
  unfold okB
  rw [isSp_high h]
  simp
  omega

theorem isLet_high {x : Int} (h : 128 ≤ x) : isLet x = false := by
  simp [isLet]
  omega

/-- What a range tells of a rune is what its bytes are. -/
theorem decode_ok (s : ByteArray) (i : Nat) (h : i < s.size) :
    1 ≤ (Utf8.decode s i).2 ∧ i + (Utf8.decode s i).2 ≤ s.size ∧ isLet (bt s i) = isLet ((Utf8.decode s i).1 : Int) ∧ ∀ j, i ≤ j → j < i + (Utf8.decode s i).2 → okB (bt s j) = okB ((Utf8.decode s i).1 : Int) := by
  rcases decode_parts s i h with ⟨h1, h2⟩ | ⟨h1, h2, h3, h4, h5⟩
  · rw [h2]
    refine ⟨Nat.le_refl _, h, by rw [bt_at s i h], fun j a b => ?_⟩
    obtain rfl : j = i := by simp only [] at b; omega
    rw [bt_at s j h]
  · refine ⟨h3, h4, ?_, fun j a b => ?_⟩
    · rw [bt_at s i h, isLet_high (by omega), isLet_high (by omega)]
    · rw [bt_at s j (by omega), okB_high (by have := h5 j (by omega) a b; omega), okB_high (by omega)]

/-- May a tag have that name? -/
def tagName (x : ByteArray) : Bool := isLet (bt x 0) && (bytesOf x).all okB && decide (lower x = x)

theorem all_ok (x : ByteArray) : (bytesOf x).all okB = true ↔ ∀ j, j < x.size → okB (bt x j) = true := by
  rw [List.all_eq_true]
  constructor
  · intro h j hj
    rw [bt_at x j hj]
    exact h _ (by rw [← bytes_at x j hj (by rw [bytes_len]; exact hj)]; exact List.getElem_mem _)
  · intro h c hc
    obtain ⟨j, hj, rfl⟩ := List.getElem_of_mem hc
    rw [bytes_len] at hj
    rw [bytes_at x j hj, ← bt_at x j hj]
    exact h j hj

theorem tagName_not {x : ByteArray} {j : Nat} (hj : j < x.size) (h : okB (bt x j) = false) : tagName x = false := by
  unfold tagName
  cases ha : (bytesOf x).all okB with
  | false => simp
  | true =>
    rw [(all_ok x).1 ha j hj] at h
    cases h

theorem tagName_let {x : ByteArray} (h : isLet (bt x 0) = false) : tagName x = false := by
  unfold tagName
  rw [h]
  simp

theorem tagName_nil : tagName ⟨#[]⟩ = false := by decide

theorem tagName_low {x : ByteArray} (h0 : isLet (bt x 0) = true) (h : ∀ j, j < x.size → okB (bt x j) = true) : tagName x = decide (lower x = x) := by
  unfold tagName
  rw [h0, (all_ok x).2 h]
  simp

/-- All of them have names, no two of them one. -/
def areRight (l : List Att) : Bool := !(hasN l ⟨#[]⟩) && decide ((uniq l).length = l.length)

theorem uniq_len (l : List Att) : (uniq l).length ≤ l.length := by
  have := more_len l []
  unfold uniq
  simpa using this

theorem dist_of_len : ∀ (n : Nat) (l : List Att), l.length = n → (uniq l).length = l.length → Dist l
  | 0, l, h, _ => by
    obtain rfl := List.eq_nil_of_length_eq_zero h
    exact List.Pairwise.nil
  | n + 1, l, h, hu => by
    have hne : l ≠ [] := fun e => by rw [e] at h; simp at h
    obtain ⟨m, a, rfl⟩ : ∃ m a, l = m ++ [a] := ⟨l.dropLast, l.getLast hne, (List.dropLast_concat_getLast hne).symm⟩
    have hm : m.length = n := by simpa using h
    have e1 : uniq (m ++ [a]) = add (uniq m) a := more_snoc [] m a
    rw [e1] at hu
    have hum := uniq_len m
    have hal := add_len (uniq m) a
    rw [List.length_append, List.length_singleton] at hu
    have hd := dist_of_len n m hm (by omega)
    have hmu := uniq_dist hd
    rw [hmu] at hu
    have hn : hasN m a.1 = false := by
      cases hx : hasN m a.1 with
      | false => rfl
      | true =>
        exfalso
        unfold add at hu
        rw [hx] at hu
        simp at hu
    have := dist_add hd a
    unfold add at this
    rw [hn] at this
    exact this

/-- Each stands at the first place of its name. -/
theorem idx_dist {l : List Att} (h : Dist l) (k : Nat) (hk : k < l.length) : idx l l[k].1 = some k := by
  refine idx_drop hk (fun j hj => ?_) (eqs_refl _)
  unfold Dist at h
  rw [List.pairwise_iff_getElem] at h
  have := h j k (by omega) hk hj
  cases hx : eqs l[j].1 l[k].1 with
  | false => rfl
  | true => exact absurd (eqs_iff.1 hx) this

theorem dist_of_idx {l : List Att} (h : ∀ k (hk : k < l.length), idx l l[k].1 = some k) : Dist l := by
  unfold Dist
  rw [List.pairwise_iff_getElem]
  intro i j hi hj hij he
  have h1 := h i hi
  have h2 := h j hj
  rw [he, h2] at h1
  have := Option.some.inj h1
  omega

theorem areRight_all {l : List Att} (h1 : ∀ k (hk : k < l.length), eqs l[k].1 ⟨#[]⟩ = false) (h2 : ∀ k (hk : k < l.length), idx l l[k].1 = some k) : areRight l = true := by
  unfold areRight
  have hg : hasN l ⟨#[]⟩ = false := by
    rw [← idx_some, idx_end h1]
    rfl
  rw [hg, uniq_dist (dist_of_idx h2)]
  simp

theorem areRight_name {l : List Att} {k : Nat} (hk : k < l.length) (h : eqs l[k].1 ⟨#[]⟩ = true) : areRight l = false := by
  unfold areRight
  have hg : hasN l ⟨#[]⟩ = true := by
    unfold hasN
    cases hx : getF l ⟨#[]⟩ with
    | some y => rfl
    | none => exact absurd (eqs_iff.1 h) (getF_none hx l[k] (List.getElem_mem hk))
  rw [hg]
  rfl

theorem areRight_twice {l : List Att} {k : Nat} (hk : k < l.length) (h : idx l l[k].1 ≠ some k) : areRight l = false := by
  unfold areRight
  have hn : ¬ (uniq l).length = l.length := fun e => h (idx_dist (dist_of_len _ l rfl e) k hk)
  rw [decide_eq_false hn]
  simp

/-- Is it right? -/
def right (t : Tok) : Bool :=
  if t.1 = 1 then decide (lower t.2.1 = t.2.1) && decide (t = (1, t.2.1, [], false, ⟨#[]⟩))
  else if t.1 = 2 then tagName t.2.1 && areRight t.2.2.1 && eqs t.2.2.2.2 ⟨#[]⟩
  else if t.1 = 3 then tagName t.2.1 && decide (t = (3, t.2.1, [], false, ⟨#[]⟩))
  else if t.1 = 4 then !(eqs t.2.2.2.2 ⟨#[]⟩) && decide (t = (4, ⟨#[]⟩, [], false, t.2.2.2.2))
  else if t.1 = 5 then decide (t = (5, ⟨#[]⟩, [], false, t.2.2.2.2))
  else if t.1 = 6 then decide (t = (6, ⟨#[]⟩, [], false, ⟨#[]⟩))
  else false

/-- A start, with one attribute more. -/
def grow (s : ByteArray) (a : Att) : ByteArray := s ++ (((⟨#[32]⟩ ++ a.1) ++ ⟨#[61]⟩) ++ a.2)

/-- A start as text. -/
def startT (x : ByteArray) (l : List Att) (b : Bool) : ByteArray :=
  if b then l.foldl grow (⟨#[60]⟩ ++ x) ++ ⟨#[47]⟩ else l.foldl grow (⟨#[60]⟩ ++ x)

/-- As text. -/
def told (t : Tok) : ByteArray :=
  if t.1 = 1 then ⟨#[33]⟩ ++ t.2.1
  else if t.1 = 2 then startT t.2.1 t.2.2.1 t.2.2.2.1
  else if t.1 = 3 then ⟨#[47]⟩ ++ t.2.1
  else if t.1 = 4 then ⟨#[34]⟩ ++ t.2.2.2.2
  else if t.1 = 5 then ⟨#[45]⟩ ++ t.2.2.2.2
  else if t.1 = 6 then ⟨#[46]⟩
  else ⟨#[63]⟩

theorem grow_ref (s : ByteArray) (a : Att) : (((s ++ ⟨#[32]⟩) ++ a.1) ++ ⟨#[61]⟩) ++ a.2 = grow s a := by
  unfold grow
  simp only [cat_assoc]

/-- Texts of attributes that are not long. -/
def brief (l : List Att) : Prop := l.length ≤ 100 ∧ ∀ a, a ∈ l → a.1.size ≤ 1000 ∧ a.2.size ≤ 1000

theorem grow_size {s : ByteArray} {a : Att} (h : a.1.size ≤ 1000 ∧ a.2.size ≤ 1000) : (grow s a).size ≤ s.size + 2002 := by
  unfold grow
  simp only [cat_size]
  have e1 : (⟨#[32]⟩ : ByteArray).size = 1 := rfl
  have e2 : (⟨#[61]⟩ : ByteArray).size = 1 := rfl
  omega

theorem foldl_size (s : ByteArray) : ∀ (k : Nat) (l : List Att), k ≤ l.length → (∀ a, a ∈ l → a.1.size ≤ 1000 ∧ a.2.size ≤ 1000) → ((l.take k).foldl grow s).size ≤ s.size + k * 2002
  | 0, l, _, _ => by simp
  | k + 1, l, hk, h => by
    rw [take_snoc (by omega), List.foldl_append]
    have h1 := foldl_size s k l (by omega) h
    have h2 := grow_size (s := (l.take k).foldl grow s) (h l[k] (List.getElem_mem (by omega)))
    simp only [List.foldl_cons, List.foldl_nil]
    omega

theorem brief_fits {l : List Att} (h : brief l) : fits l := fun a ha => by
  have := h.2 a ha
  exact ⟨by omega, by omega⟩

end Go.Proofs.Ythdlmglnieomeaa
