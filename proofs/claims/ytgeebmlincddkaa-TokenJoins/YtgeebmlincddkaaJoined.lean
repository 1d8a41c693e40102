/-
  Join by itself: each run of Texts as one. No program.
-/
import Derived.Test.YtgeebmlincddkaaTok
namespace Go.Proofs.Ytgeebmlincddkaa

/-- The Text of a token. -/
def tt (t : Tok) : ByteArray := t.2.2.2.2

/-- The token with another Text. -/
def setText (t : Tok) (y : ByteArray) : Tok := (t.1, t.2.1, t.2.2.1, t.2.2.2.1, y)

theorem setText_tt (t : Tok) : setText t (tt t) = t := rfl

/-- One more behind those that were joined. -/
def jstep (out : List Tok) (t : Tok) : List Tok :=
  match out.getLast? with
  | some u => if t.1 = 4 ∧ u.1 = 4 then out.dropLast ++ [setText u (tt u ++ tt t)] else out ++ [t]
  | none => out ++ [t]

def join (l : List Tok) : List Tok := l.foldl jstep []

theorem tak {l : List Tok} {k : Nat} (h : k < l.length) : l.take (k + 1) = l.take k ++ [l[k]] := by simp

theorem join_snoc {l : List Tok} {k : Nat} (h : k < l.length) : join (l.take (k + 1)) = jstep (join (l.take k)) l[k] := by
  unfold join
  rw [tak h, List.foldl_append]
  rfl

theorem jstep_new {out : List Tok} {t : Tok} (h : t.1 = 4 → ∀ u, out.getLast? = some u → ¬ u.1 = 4) : jstep out t = out ++ [t] := by
  unfold jstep
  cases hg : out.getLast? with
  | none => rfl
  | some u =>
    show (if t.1 = 4 ∧ u.1 = 4 then _ else _) = _
    rw [if_neg (fun e => h e.1 u hg e.2)]

theorem jstep_more (out : List Tok) (u t : Tok) (h1 : t.1 = 4) (h2 : u.1 = 4) : jstep (out ++ [u]) t = out ++ [setText u (tt u ++ tt t)] := by
  unfold jstep
  rw [List.getLast?_concat]
  show (if t.1 = 4 ∧ u.1 = 4 then _ else _) = _
  rw [if_pos ⟨h1, h2⟩, List.dropLast_concat]

/-- All texts of some tokens. -/
def cat (s : ByteArray) (l : List Tok) : ByteArray := l.foldl (fun s t => s ++ tt t) s

/-- A run as one. -/
def one (l : List Tok) : Tok :=
  match l with
  | [] => (0, ⟨#[]⟩, [], false, ⟨#[]⟩)
  | t :: r => setText t (cat ⟨#[]⟩ (t :: r))

theorem fold_run : ∀ (r : List Tok) (t : Tok) (s : ByteArray) (out : List Tok), (∀ u, u ∈ r → u.1 = 4) → (r ≠ [] → t.1 = 4) → r.foldl jstep (out ++ [setText t s]) = out ++ [setText t (cat s r)]
  | [], t, s, out, _, _ => rfl
  | u :: r, t, s, out, h1, h2 => by
    have ht := h2 (by simp)
    rw [List.foldl_cons, jstep_more out (setText t s) u (h1 u (by simp)) ht]
    exact fold_run r t (s ++ tt u) out (fun v hv => h1 v (List.mem_cons_of_mem _ hv)) (fun _ => ht)

theorem nil_cat (s : ByteArray) : (⟨#[]⟩ : ByteArray) ++ s = s := by
  apply ByteArray.ext
  simp

/-- At a place: the one there is not joined to what stands ahead of it. -/
def Bnd (l : List Tok) (k : Nat) : Prop := ∀ h : k < l.length, l[k].1 = 4 → ∀ u, (join (l.take k)).getLast? = some u → ¬ u.1 = 4

/-- Where the run that begins at k ends. -/
structure RunTo (l : List Tok) (k e : Nat) : Prop where
  lt : k < e
  le : e ≤ l.length
  other : ∀ h : k < l.length, ¬ l[k].1 = 4 → e = k + 1
  texts : ∀ h : k < l.length, l[k].1 = 4 → ∀ j (hj : j < l.length), k ≤ j → j < e → l[j].1 = 4
  ends : ∀ h : k < l.length, l[k].1 = 4 → ∀ he : e < l.length, ¬ l[e].1 = 4

theorem run_split {l : List Tok} {k e : Nat} (hk : k ≤ e) : l.take e = l.take k ++ (l.drop k).take (e - k) := by
  rw [show e = k + (e - k) by omega, List.take_add]
  simp

theorem join_run {l : List Tok} {k e : Nat} (hb : Bnd l k) (hr : RunTo l k e) : join (l.take e) = join (l.take k) ++ [one ((l.drop k).take (e - k))] ∧ Bnd l e := by
  have hlt : k < l.length := Nat.lt_of_lt_of_le hr.lt hr.le
  have h1 : join (l.take e) = join (l.take k) ++ [one ((l.drop k).take (e - k))] := by
    have hd : (l.drop k).take (e - k) = l[k] :: (l.drop (k + 1)).take (e - k - 1) := by
      rw [List.drop_eq_getElem_cons hlt, show e - k = (e - k - 1) + 1 by have := hr.lt; omega, List.take_succ_cons]
      rfl
    have hs : join (l.take k ++ (l[k] :: (l.drop (k + 1)).take (e - k - 1))) = ((l.drop (k + 1)).take (e - k - 1)).foldl jstep (jstep (join (l.take k)) l[k]) := by
      unfold join
      rw [List.foldl_append, List.foldl_cons]
    rw [run_split (Nat.le_of_lt hr.lt), hd, hs, jstep_new (hb hlt), ← setText_tt l[k], fold_run _ _ _ _ ?_ ?_]
    · show _ ++ [setText l[k] (cat (tt l[k]) _)] = _ ++ [setText (setText l[k] (tt l[k])) (cat ((⟨#[]⟩ : ByteArray) ++ tt (setText l[k] (tt l[k]))) _)]
      rw [nil_cat]
      rfl
    · intro u hu
      obtain ⟨j, hj, rfl⟩ := List.getElem_of_mem hu
      simp only [List.length_take, List.length_drop] at hj
      simp only [List.getElem_take, List.getElem_drop]
      by_cases h4 : l[k].1 = 4
      · exact hr.texts hlt h4 _ (by omega) (by omega) (by omega)
      · have := hr.other hlt h4
        omega
    · intro hne
      by_cases h4 : l[k].1 = 4
      · exact h4
      · exfalso
        have := hr.other hlt h4
        apply hne
        rw [this, show k + 1 - k - 1 = 0 by omega, List.take_zero]
  refine ⟨h1, fun he h4 u hu => ?_⟩
  rw [h1, List.getLast?_concat] at hu
  have hu' := Option.some.inj hu
  have hk1 : u.1 = l[k].1 := by
    rw [← hu', List.drop_eq_getElem_cons hlt, show e - k = (e - k - 1) + 1 by have := hr.lt; omega, List.take_succ_cons]
    rfl
  rw [hk1]
  intro h5
  exact hr.ends hlt h5 he h4

theorem bnd_zero (l : List Tok) : Bnd l 0 := fun h _ u hu => by
  rw [List.take_zero] at hu
  cases hu

/-- No two Texts side by side. -/
def Alone (l : List Tok) : Prop := ∀ i (_ : 0 < i) (hi : i < l.length), l[i].1 = 4 → ¬ (l[i - 1]'(by omega)).1 = 4

theorem last_at {l : List Tok} {u : Tok} (h : l.getLast? = some u) : ∃ hl : l.length - 1 < l.length, l[l.length - 1] = u := by
  rw [List.getLast?_eq_getElem?] at h
  obtain ⟨hl, e⟩ := List.getElem?_eq_some_iff.1 h
  exact ⟨hl, e⟩

theorem alone_snoc {l : List Tok} {t : Tok} (h : Alone l) (ht : t.1 = 4 → ∀ u, l.getLast? = some u → ¬ u.1 = 4) : Alone (l ++ [t]) := by
  intro i h0 hi h4
  rw [List.length_append, List.length_singleton] at hi
  by_cases e : i < l.length
  · rw [List.getElem_append_left e] at h4
    rw [List.getElem_append_left (by omega)]
    exact h i h0 e h4
  · obtain rfl : i = l.length := by omega
    rw [List.getElem_append_right (Nat.le_refl _)] at h4
    simp only [Nat.sub_self, List.getElem_singleton] at h4
    rw [List.getElem_append_left (by omega)]
    exact ht h4 _ (by rw [List.getLast?_eq_getElem?, List.getElem?_eq_getElem (by omega)])

theorem alone_set {l : List Tok} {u : Tok} (y : ByteArray) (h : Alone (l ++ [u])) : Alone (l ++ [setText u y]) := by
  intro i h0 hi h4
  rw [List.length_append, List.length_singleton] at hi
  have := h i h0 (by simpa using hi)
  by_cases e : i < l.length
  · rw [List.getElem_append_left e] at h4
    rw [List.getElem_append_left (by omega)]
    simp only [List.getElem_append_left e, List.getElem_append_left (show i - 1 < l.length by omega)] at this
    exact this h4
  · obtain rfl : i = l.length := by omega
    rw [List.getElem_append_right (Nat.le_refl _)] at h4
    rw [List.getElem_append_left (by omega)]
    simp only [List.getElem_append_right (Nat.le_refl l.length), List.getElem_append_left (show l.length - 1 < l.length by omega), Nat.sub_self, List.getElem_singleton] at this h4
    exact this h4

theorem join_alone_to (l : List Tok) : ∀ k, k ≤ l.length → Alone (join (l.take k))
  | 0, _ => fun i _ hi => by simp [join] at hi
  | k + 1, hk => by
    have ih := join_alone_to l k (by omega)
    rw [join_snoc (by omega)]
    unfold jstep
    cases hg : (join (l.take k)).getLast? with
    | none => exact alone_snoc ih (fun _ u hu => by rw [hg] at hu; cases hu)
    | some u =>
      show Alone (if l[k].1 = 4 ∧ u.1 = 4 then _ else _)
      by_cases h : l[k].1 = 4 ∧ u.1 = 4
      · rw [if_pos h]
        have hne : join (l.take k) ≠ [] := fun e => by rw [e] at hg; cases hg
        have hl : join (l.take k) = (join (l.take k)).dropLast ++ [u] := by
          have h1 := List.dropLast_concat_getLast hne
          rw [List.getLast?_eq_some_getLast hne] at hg
          rw [← Option.some.inj hg]
          exact h1.symm
        exact alone_set _ (hl ▸ ih)
      · rw [if_neg h]
        exact alone_snoc ih (fun h4 v hv => by
          rw [hg] at hv
          rw [← Option.some.inj hv]
          exact fun e => h ⟨h4, e⟩)

theorem join_alone (l : List Tok) : Alone (join l) := by
  have := join_alone_to l l.length (Nat.le_refl _)
  rwa [List.take_length] at this

theorem join_same_to {l : List Tok} (h : Alone l) : ∀ k, k ≤ l.length → join (l.take k) = l.take k
  | 0, _ => rfl
  | k + 1, hk => by
    rw [join_snoc (by omega), join_same_to h k (by omega), tak (by omega)]
    refine jstep_new (fun h4 u hu => ?_)
    obtain ⟨hl, e⟩ := last_at hu
    rw [List.length_take, Nat.min_eq_left (by omega)] at hl
    have hlen : (l.take k).length = k := by simp; omega
    simp only [List.getElem_take, hlen] at e
    rw [← e]
    exact h k (by omega) (by omega) h4

theorem join_same {l : List Tok} (h : Alone l) : join l = l := by
  have := join_same_to h l.length (Nat.le_refl _)
  rwa [List.take_length] at this

theorem join_join (l : List Tok) : join (join l) = join l := join_same (join_alone l)

/-- The text of all Texts. -/
def all4 (s : ByteArray) (l : List Tok) : ByteArray := l.foldl (fun s t => if t.1 = 4 then s ++ tt t else s) s

theorem all4_snoc (s : ByteArray) (l : List Tok) (t : Tok) : all4 s (l ++ [t]) = if t.1 = 4 then all4 s l ++ tt t else all4 s l := by
  unfold all4
  rw [List.foldl_append]
  rfl

theorem all4_step (s : ByteArray) (out : List Tok) (t : Tok) : all4 s (jstep out t) = all4 s (out ++ [t]) := by
  unfold jstep
  cases hg : out.getLast? with
  | none => rfl
  | some u =>
    show all4 s (if t.1 = 4 ∧ u.1 = 4 then _ else _) = _
    by_cases h : t.1 = 4 ∧ u.1 = 4
    · rw [if_pos h]
      have hne : out ≠ [] := fun e => by rw [e] at hg; cases hg
      have hl : out = out.dropLast ++ [u] := by
        have h1 := List.dropLast_concat_getLast hne
        rw [List.getLast?_eq_some_getLast hne] at hg
        rw [← Option.some.inj hg]
        exact h1.symm
      rw [all4_snoc, all4_snoc]
      conv => rhs; rw [hl, all4_snoc]
      rw [if_pos h.1, if_pos h.2, if_pos (show (setText u (tt u ++ tt t)).1 = 4 from h.2), cat_assoc]
      rfl
    · rw [if_neg h]

theorem all4_join_to (l : List Tok) : ∀ k, k ≤ l.length → all4 ⟨#[]⟩ (join (l.take k)) = all4 ⟨#[]⟩ (l.take k)
  | 0, _ => rfl
  | k + 1, hk => by rw [join_snoc (by omega), all4_step, all4_snoc, all4_join_to l k (by omega), tak (by omega), all4_snoc]

theorem all4_join (l : List Tok) : all4 ⟨#[]⟩ (join l) = all4 ⟨#[]⟩ l := by
  have := all4_join_to l l.length (Nat.le_refl _)
  rwa [List.take_length] at this

theorem jstep_len (out : List Tok) (t : Tok) : (jstep out t).length ≤ out.length + 1 := by
  unfold jstep
  cases hg : out.getLast? with
  | none => simp
  | some u =>
    show (if t.1 = 4 ∧ u.1 = 4 then out.dropLast ++ [setText u (tt u ++ tt t)] else out ++ [t]).length ≤ _
    split
    · simp
    · simp

theorem join_len_to (l : List Tok) : ∀ k, k ≤ l.length → (join (l.take k)).length ≤ k
  | 0, _ => by simp [join]
  | k + 1, hk => by
    rw [join_snoc (by omega)]
    have h1 := jstep_len (join (l.take k)) l[k]
    have h2 := join_len_to l k (by omega)
    omega

theorem join_len (l : List Tok) : (join l).length ≤ l.length := by
  have := join_len_to l l.length (Nat.le_refl _)
  rwa [List.take_length] at this

/-- How long all Texts are together. -/
def wt (l : List Tok) : Nat := (l.map fun t => (tt t).size).sum

theorem wt_append (l m : List Tok) : wt (l ++ m) = wt l + wt m := by
  unfold wt
  rw [List.map_append, List.sum_append]

theorem wt_cons (t : Tok) (l : List Tok) : wt (t :: l) = (tt t).size + wt l := by
  unfold wt
  rw [List.map_cons, List.sum_cons]

theorem wt_take (l : List Tok) (k : Nat) : wt (l.take k) ≤ wt l := by
  conv => rhs; rw [← List.take_append_drop k l, wt_append]
  omega

theorem wt_drop (l : List Tok) (k : Nat) : wt (l.drop k) ≤ wt l := by
  conv => rhs; rw [← List.take_append_drop k l, wt_append]
  omega

theorem wt_at {l : List Tok} {t : Tok} (h : t ∈ l) : (tt t).size ≤ wt l := by
  obtain ⟨a, b, rfl⟩ := List.append_of_mem h
  rw [wt_append, wt_cons]
  omega

theorem cat_wt : ∀ (l : List Tok) (s : ByteArray), (cat s l).size = s.size + wt l
  | [], s => rfl
  | t :: l, s => by
    show (cat (s ++ tt t) l).size = _
    rw [cat_wt l, wt_cons, cat_size]
    omega

theorem cat_snoc {l : List Tok} {k : Nat} (h : k < l.length) (s : ByteArray) : cat s (l.take (k + 1)) = cat s (l.take k) ++ tt l[k] := by
  unfold cat
  rw [tak h, List.foldl_append]
  rfl

theorem wt_step (out : List Tok) (t : Tok) : wt (jstep out t) = wt (out ++ [t]) := by
  unfold jstep
  cases hg : out.getLast? with
  | none => rfl
  | some u =>
    show wt (if t.1 = 4 ∧ u.1 = 4 then _ else _) = _
    by_cases h : t.1 = 4 ∧ u.1 = 4
    · rw [if_pos h]
      have hne : out ≠ [] := fun e => by rw [e] at hg; cases hg
      have hl : out = out.dropLast ++ [u] := by
        have h1 := List.dropLast_concat_getLast hne
        rw [List.getLast?_eq_some_getLast hne] at hg
        rw [← Option.some.inj hg]
        exact h1.symm
      conv => rhs; rw [hl]
      simp only [wt_append]
      show _ + (((tt u ++ tt t).size) + 0) = _ + ((tt u).size + 0) + ((tt t).size + 0)
      rw [cat_size]
      omega
    · rw [if_neg h]

theorem wt_join_to (l : List Tok) : ∀ k, k ≤ l.length → wt (join (l.take k)) = wt (l.take k)
  | 0, _ => rfl
  | k + 1, hk => by rw [join_snoc (by omega), wt_step, wt_append, wt_join_to l k (by omega), tak (by omega), wt_append]

theorem wt_join (l : List Tok) : wt (join l) = wt l := by
  have := wt_join_to l l.length (Nat.le_refl _)
  rwa [List.take_length] at this

/-- Names and attributes that are not too long. -/
def tame (t : Tok) : Prop := t.2.1.size ≤ 1000 ∧ brief t.2.2.1

theorem tame_step {out : List Tok} {t : Tok} (h1 : ∀ u, u ∈ out → tame u) (h2 : tame t) : ∀ u, u ∈ jstep out t → tame u := by
  unfold jstep
  cases hg : out.getLast? with
  | none =>
    intro u hu
    rcases List.mem_append.1 hu with hu | hu
    · exact h1 u hu
    · rw [List.mem_singleton.1 hu]
      exact h2
  | some v =>
    intro u hu
    have hu' : u ∈ (if t.1 = 4 ∧ v.1 = 4 then out.dropLast ++ [setText v (tt v ++ tt t)] else out ++ [t]) := hu
    by_cases h : t.1 = 4 ∧ v.1 = 4
    · rw [if_pos h] at hu'
      rcases List.mem_append.1 hu' with hu' | hu'
      · exact h1 u ((List.dropLast_sublist out).subset hu')
      · rw [List.mem_singleton.1 hu']
        exact h1 v (List.mem_of_getLast? hg)
    · rw [if_neg h] at hu'
      rcases List.mem_append.1 hu' with hu' | hu'
      · exact h1 u hu'
      · rw [List.mem_singleton.1 hu']
        exact h2

theorem tame_join_to {l : List Tok} (h : ∀ u, u ∈ l → tame u) : ∀ k, k ≤ l.length → ∀ u, u ∈ join (l.take k) → tame u
  | 0, _ => fun u hu => by simp [join] at hu
  | k + 1, hk => by
    rw [join_snoc (by omega)]
    exact tame_step (tame_join_to h k (by omega)) (h _ (List.getElem_mem _))

theorem tame_join {l : List Tok} (h : ∀ u, u ∈ l → tame u) : ∀ u, u ∈ join l → tame u := by
  have := tame_join_to h l.length (Nat.le_refl _)
  rwa [List.take_length] at this

end Go.Proofs.Ytgeebmlincddkaa
