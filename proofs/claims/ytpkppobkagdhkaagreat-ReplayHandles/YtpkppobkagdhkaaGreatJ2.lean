/-
  Joined: Lists Find Copy.
-/
import Derived.Test.YtpkppobkagdhkaaGreatJ1
import Derived.Laws.StructEq
import Derived.Deep.RegionHeld3
import Derived.Laws.MakeOwn

/-
  Lists of attributes by themselves: what Get, Add, More, Unique, Alike are. No program.
-/
namespace Go.Proofs.YtpkppobkagdhkaaGreat

/-- Are two texts the same? -/
def eqs (x y : ByteArray) : Bool := x.toList == y.toList

theorem eqs_iff {x y : ByteArray} : eqs x y = true ↔ x = y := by
  unfold eqs
  rw [beq_iff_eq, ByteArray.toList_eq, ByteArray.toList_eq]
  exact ⟨fun h => ByteArray.ext (Array.ext' h), fun h => by rw [h]⟩

theorem eqs_refl (x : ByteArray) : eqs x x = true := eqs_iff.2 rfl

/-- The first one of that name. -/
def getF (l : List Att) (x : ByteArray) : Option Att := l.find? fun a => eqs a.1 x

/-- Where it stands. -/
def idx (l : List Att) (x : ByteArray) : Option Nat := l.findIdx? fun a => eqs a.1 x

def hasN (l : List Att) (x : ByteArray) : Bool := (getF l x).isSome

def add (l : List Att) (a : Att) : List Att := if hasN l a.1 then l else l ++ [a]

def more (l m : List Att) : List Att := m.foldl add l

def uniq (l : List Att) : List Att := more [] l

theorem getF_append (l m : List Att) (x : ByteArray) : getF (l ++ m) x = (getF l x).or (getF m x) := by
  unfold getF
  rw [List.find?_append]

theorem getF_none {l : List Att} {x : ByteArray} (h : getF l x = none) : ∀ a, a ∈ l → a.1 ≠ x := by
  intro a ha e
  have := List.find?_eq_none.1 h a ha
  exact this (eqs_iff.2 e)

theorem getF_one (a : Att) (x : ByteArray) : getF [a] x = if eqs a.1 x then some a else none := by
  unfold getF
  rw [List.find?_cons]
  cases eqs a.1 x <;> simp

theorem getF_add (l : List Att) (a : Att) (x : ByteArray) : getF (add l a) x = (getF l x).or (getF [a] x) := by
  unfold add
  by_cases h : hasN l a.1 = true
  · rw [if_pos h]
    rw [getF_one]
    cases hx : eqs a.1 x
    · simp
    · obtain rfl := eqs_iff.1 hx
      unfold hasN at h
      cases hg : getF l a.1 with
      | none => rw [hg] at h; cases h
      | some y => rfl
  · rw [if_neg h, getF_append]

theorem more_cons (l m : List Att) (a : Att) : more l (a :: m) = more (add l a) m := rfl

theorem more_snoc (l m : List Att) (a : Att) : more l (m ++ [a]) = add (more l m) a := by
  unfold more
  rw [List.foldl_append]
  rfl

theorem getF_more (m : List Att) : ∀ (l : List Att) (x : ByteArray), getF (more l m) x = (getF l x).or (getF m x) := by
  induction m with
  | nil =>
    intro l x
    show getF l x = (getF l x).or none
    rw [Option.or_none]
  | cons a m ih =>
    intro l x
    rw [more_cons, ih, getF_add, Option.or_assoc, ← getF_append]
    rfl

theorem getF_uniq (l : List Att) (x : ByteArray) : getF (uniq l) x = getF l x := by
  unfold uniq
  rw [getF_more]
  rfl

/-- No two of one name. -/
def Dist (l : List Att) : Prop := List.Pairwise (fun a b : Att => a.1 ≠ b.1) l

theorem dist_add {l : List Att} (h : Dist l) (a : Att) : Dist (add l a) := by
  unfold add
  by_cases hh : hasN l a.1 = true
  · rw [if_pos hh]; exact h
  · rw [if_neg hh]
    have hg : getF l a.1 = none := by
      unfold hasN at hh
      cases hx : getF l a.1 with
      | none => rfl
      | some y => rw [hx] at hh; exact absurd rfl hh
    unfold Dist
    rw [List.pairwise_append]
    refine ⟨h, by simp, fun x hx y hy => ?_⟩
    simp only [List.mem_singleton] at hy
    subst hy
    exact getF_none hg x hx

theorem dist_more (m : List Att) : ∀ {l : List Att}, Dist l → Dist (more l m) := by
  induction m with
  | nil => exact fun h => h
  | cons a m ih => exact fun h => ih (dist_add h a)

theorem Dist.get {l : List Att} (h : Dist l) {a : Att} (ha : a ∈ l) : getF l a.1 = some a := by
  induction l with
  | nil => simp at ha
  | cons b l ih =>
    unfold Dist at h
    rw [List.pairwise_cons] at h
    rcases List.mem_cons.1 ha with rfl | ha
    · unfold getF
      rw [List.find?_cons, eqs_refl]
    · have hne := h.1 a ha
      have : eqs b.1 a.1 = false := by
        cases hx : eqs b.1 a.1
        · rfl
        · exact absurd (eqs_iff.1 hx) hne
      show getF (b :: l) a.1 = _
      unfold getF
      rw [List.find?_cons, this]
      exact ih h.2 ha

/-- The first place, and what stands there. -/
theorem idx_get {l : List Att} {x : ByteArray} {i : Nat} (h : idx l x = some i) : ∃ hi : i < l.length, getF l x = some l[i] := by
  unfold idx at h
  rw [List.findIdx?_eq_some_iff_getElem] at h
  obtain ⟨hi, h2, h3⟩ := h
  refine ⟨hi, ?_⟩
  unfold getF
  rw [List.find?_eq_some_iff_getElem]
  exact ⟨h2, i, hi, rfl, fun j hj => by simpa using h3 j hj⟩

theorem idx_none {l : List Att} {x : ByteArray} : idx l x = none ↔ getF l x = none := by
  unfold idx getF
  rw [List.findIdx?_eq_none_iff, List.find?_eq_none]
  simp

theorem idx_some {l : List Att} {x : ByteArray} : (idx l x).isSome = hasN l x := by
  unfold hasN
  cases h : idx l x with
  | none => rw [idx_none.1 h]; rfl
  | some i =>
    obtain ⟨hi, h2⟩ := idx_get h
    rw [h2]
    rfl

theorem idx_snoc (l : List Att) (a : Att) (x : ByteArray) : idx (l ++ [a]) x = (idx l x).or (if eqs a.1 x then some l.length else none) := by
  unfold idx
  rw [List.findIdx?_append]
  congr 1
  rw [List.findIdx?_cons]
  cases eqs a.1 x <;> simp

/-- From a place on. -/
theorem idx_drop {l : List Att} {x : ByteArray} {k : Nat} (hk : k < l.length) (h : ∀ j (hj : j < k), eqs (l[j]'(by omega)).1 x = false) (hx : eqs l[k].1 x = true) : idx l x = some k := by
  unfold idx
  rw [List.findIdx?_eq_some_iff_getElem]
  exact ⟨hk, hx, fun j hj => by simpa using h j hj⟩

theorem idx_end {l : List Att} {x : ByteArray} (h : ∀ j (hj : j < l.length), eqs l[j].1 x = false) : idx l x = none := by
  unfold idx
  rw [List.findIdx?_eq_none_iff]
  intro a ha
  obtain ⟨j, hj, rfl⟩ := List.getElem_of_mem ha
  exact h j hj

/-- Of texts that are not too long. -/
def fits (l : List Att) : Prop := ∀ a, a ∈ l → a.1.size ≤ 140737488355328 ∧ a.2.size ≤ 140737488355328

theorem fits_append {l m : List Att} (h1 : fits l) (h2 : fits m) : fits (l ++ m) := fun a ha => (List.mem_append.1 ha).elim (h1 a) (h2 a)

theorem fits_add {l : List Att} {a : Att} (h1 : fits l) (h2 : fits [a]) : fits (add l a) := by
  unfold add
  split
  · exact h1
  · exact fits_append h1 h2

theorem fits_more (m : List Att) : ∀ {l : List Att}, fits l → fits m → fits (more l m) := by
  induction m with
  | nil => exact fun h _ => h
  | cons a m ih => exact fun h1 h2 => ih (fits_add h1 (fun x hx => h2 x (by simp at hx; simp [hx]))) (fun x hx => h2 x (List.mem_cons_of_mem _ hx))

theorem add_len (l : List Att) (a : Att) : (add l a).length ≤ l.length + 1 := by
  unfold add
  split <;> simp

theorem more_len (m : List Att) : ∀ l : List Att, (more l m).length ≤ l.length + m.length := by
  induction m with
  | nil => intro l; exact Nat.le_refl _
  | cons a m ih =>
    intro l
    have := ih (add l a)
    have := add_len l a
    rw [more_cons, List.length_cons]
    omega

end Go.Proofs.YtpkppobkagdhkaaGreat

/-
  Where the first one of a name stands: the document's Has, the program's find and Get.
-/
namespace Go.Proofs.YtpkppobkagdhkaaGreat
open Go.RowKit

/-- A place, or -1. -/
def plc : Option Nat → Int
  | some i => i
  | none => -1

set_option maxHeartbeats 1000000 in
theorem ref_has_any (w : World) (x : ByteArray) (l : List Att) (ao : Option Addr) (n c : Nat) (hr : Rp w ao n c l) (hl : n ≤ 100000) :
    Calls Tryz.prog 132 #[.slice ao n c, .string x] w fun e w' => e = .returned (.int .i64 (plc (idx l x))) ∧ Kp [] w w' := by
  obtain rfl := hr.len
  obtain ⟨A, hA⟩ : ∃ A, plc (idx l x) = A := ⟨_, rfl⟩
  rw [hA]
  go_enter Tryz.func132, Tryz.ntmps132
  go_wp2
  go_loopw [5] (fun i wr => ∃ k q : Nat, k ≤ l.length ∧ i = .int .i64 k ∧ wr = w.drewN q ∧ (∀ j (hj : j < k) (hl : j < l.length), eqs l[j].1 x = false)) (fun i _ => l.length - (intOf i).toNat)
  case atStart => exact ⟨0, 0, Nat.zero_le _, rfl, rfl, fun j hj => by omega⟩
  case round =>
    obtain ⟨k, q, hk, rfl, rfl, hp⟩ := hrel
    by_cases hlt : k < l.length
    · obtain ⟨b1, o1, rfl, h1, h2⟩ := hr.get k hlt
      have hh : ∀ b, eqs l[k].1 x = b → (l[k].1.toList == x.toList) = b := fun b h => h
      clear hr
      cases hx : eqs l[k].1 x
      · have hx' := hh _ hx
        go_wp2
        go_roundw
        case rel => exact ⟨k + 1, _, by omega, by go_num, rfl, fun j hj hl => by
          by_cases e : j < k
          · exact hp j e hl
          · obtain rfl : j = k := by omega
            exact hx⟩
        case measure => simp [intOf]; omega
      · have hx' := hh _ hx
        rw [idx_drop hlt (fun j hj => hp j hj (by omega)) hx] at hA
        subst hA
        go_wp2
        go_ret
        exact ⟨rfl, (Kp.refl _ _).drewN q⟩
    · rw [idx_end (fun j hj => hp j (by omega) hj)] at hA
      subst hA
      go_wp2
      go_ret
      exact ⟨rfl, (Kp.refl _ _).drewN q⟩

set_option maxHeartbeats 1000000 in
set_option maxRecDepth 100000 in
theorem own_any (w : World) (a : Att) (hf : fits [a]) : Calls Tryz.prog 137 #[av a] w fun e w' => e = .returned (av a) ∧ Kp [] w w' := by
  have h1 := (hf a (by simp)).1
  have h2 := (hf a (by simp)).2
  obtain ⟨x, y⟩ := a
  simp only at h1 h2
  have HX := fun w => clone_any w x (by omega)
  have HY := fun w => clone_any w y (by omega)
  clear h1 h2 hf
  unfold av
  go_enter Tryz.func137, Tryz.ntmps137
  go_wp2_with fail
  have K0 : Kp [] w ((w.alloc (Obj.cells #[Value.string x, Value.string y] 102)).alloc (Obj.cells #[Value.string { data := #[] }, Value.string { data := #[] }] 102)) := ((Kp.refl _ _).alloc _).alloc _
  have C0 : ∀ v, Kp [w.heap.size + 1] ((w.alloc (Obj.cells #[Value.string x, Value.string y] 102)).alloc (Obj.cells #[Value.string { data := #[] }, Value.string { data := #[] }] 102)) v → v.heap[w.heap.size]? = some (.cells #[Value.string x, Value.string y] 102) := by
    intro v kv
    rw [kv.block _ (by simp; omega) (by simp), Below.heap_alloc _ _ _ (by simp)]
    exact heap_new w _
  have D0 : ∀ v, Kp [] ((w.alloc (Obj.cells #[Value.string x, Value.string y] 102)).alloc (Obj.cells #[Value.string { data := #[] }, Value.string { data := #[] }] 102)) v → v.heap[w.heap.size + 1]? = some (.cells #[Value.string { data := #[] }, Value.string { data := #[] }] 102) := by
    intro v kv
    rw [kv.block _ (by simp) (by simp)]
    exact heap_new' _ _ _ (by simp)
  generalize (w.alloc (Obj.cells #[Value.string x, Value.string y] 102)).alloc (Obj.cells #[Value.string { data := #[] }, Value.string { data := #[] }] 102) = W at K0 C0 D0
  have C1 : Hid (∀ v, Kp [w.heap.size + 1] W v → v.cell? ⟨w.heap.size, 0, none⟩ = some (.string x) ∧ v.cell? ⟨w.heap.size, 1, none⟩ = some (.string y)) := fun v kv => ⟨by rw [cell_of (C0 v kv)]; rfl, by rw [cell_of (C0 v kv)]; rfl⟩
  have C2 : Hid (∀ v, Kp [] W v → v.cell? ⟨w.heap.size + 1, 0, none⟩ = some (.string ⟨#[]⟩) ∧ v.cell? ⟨w.heap.size + 1, 1, none⟩ = some (.string ⟨#[]⟩) ∧ v.frozen? ⟨w.heap.size + 1, 0, none⟩ = false ∧ v.frozen? ⟨w.heap.size + 1, 1, none⟩ = false) := fun v kv => ⟨by rw [cell_of (D0 v kv)]; rfl, by rw [cell_of (D0 v kv)]; rfl, frozen_of (D0 v kv) _, frozen_of (D0 v kv) _⟩
  clear C0 D0
  have U : Hid (∀ v, Kp [] W v → Kp [w.heap.size + 1] W v) := fun v kv => kv.mono (fun x hx => by simp at hx)
  have V : Hid (∀ v p q, Kp [] W v → Kp [w.heap.size + 1] W ((v.setCell ⟨w.heap.size + 1, 0, none⟩ p).setCell ⟨w.heap.size + 1, 1, none⟩ q)) := fun v p q kv => ((U.out v kv).setCell (Or.inl (by simp)) _).setCell (Or.inl (by simp)) _
  obtain ⟨e0, e1⟩ := C1.out W (Kp.refl _ _)
  go_region_held3 (fun w' => Kp [w.heap.size + 1] W w' ∧ w'.cell? ⟨w.heap.size, 0, none⟩ = some (.string x) ∧ w'.cell? ⟨w.heap.size, 1, none⟩ = some (.string y))
    (first
      | exact ⟨V.out _ _ _ S2.out, C1.out _ (V.out _ _ _ S2.out)⟩
      | exact ⟨U.out _ S2.out, C1.out _ (U.out _ S2.out)⟩
      | exact ⟨U.out _ S1.out, C1.out _ (U.out _ S1.out)⟩
      | exact ⟨(Kp.refl _ W).drew, C1.out _ (Kp.refl _ W).drew⟩)
    (first
      | (go_at_call 61; refine (HY _).mono ?_; rintro e v2 ⟨rfl, kk⟩; have S2 : Hid (Kp [] W v2) := S1.out.trans kk (fun x hx => by simp at hx); clear kk; obtain ⟨g0, g1, g2, g3⟩ := C2.out _ S2.out)
      | (go_at_call 61; refine (HX _).mono ?_; rintro e v1 ⟨rfl, kk⟩; have S1 : Hid (Kp [] W v1) := (Kp.refl [] W).drew.trans kk (fun x hx => by simp at hx); clear kk))
  have KZ : Kp [] w ((v2.setCell ⟨w.heap.size + 1, 0, none⟩ (.string x)).setCell ⟨w.heap.size + 1, 1, none⟩ (.string y)) := K0.trans (V.out _ _ _ S2.out) (fun z hz => by simp at hz; omega)
  have Z0 : ((v2.setCell ⟨w.heap.size + 1, 0, none⟩ (.string x)).setCell ⟨w.heap.size + 1, 1, none⟩ (.string y)).cell? ⟨w.heap.size + 1, 0, none⟩ = some (.string x) := by
    rw [World.cell?_setCell_other _ _ _ _ (fun e => by simp at e), World.cell?_setCell_same _ _ _ (by rw [g0])]
  have Z1 : ((v2.setCell ⟨w.heap.size + 1, 0, none⟩ (.string x)).setCell ⟨w.heap.size + 1, 1, none⟩ (.string y)).cell? ⟨w.heap.size + 1, 1, none⟩ = some (.string y) := by
    rw [World.cell?_setCell_same _ _ _ (by rw [World.cell?_setCell_other _ _ _ _ (fun e => by simp at e), g1])]
  generalize (v2.setCell ⟨w.heap.size + 1, 0, none⟩ (.string x)).setCell ⟨w.heap.size + 1, 1, none⟩ (.string y) = Z at KZ Z0 Z1
  clear C1 C2 U V e0 e1 S1 S2 g0 g1 g2 g3 HX HY
  go_wp2
  refine bodyPost_ret (v := .agg #[.string x, .string y]) (by simp [results, go_sem, Z0, Z1]) rfl ⟨rfl, KZ⟩

end Go.Proofs.YtpkppobkagdhkaaGreat

/-
  The program's copyOf, Add; the document's Add, More, Unique.
-/
namespace Go.Proofs.YtpkppobkagdhkaaGreat
open Go.RowKit

theorem take_snoc {l : List Att} {k : Nat} (h : k < l.length) : l.take (k + 1) = l.take k ++ [l[k]] := by
  rw [List.take_succ_eq_append_getElem h]

theorem fits_one {l : List Att} (h : fits l) {k : Nat} (hk : k < l.length) : fits [l[k]] := fun a ha => by
  simp only [List.mem_singleton] at ha
  rw [ha]
  exact h _ (List.getElem_mem hk)

/-- make, of none, with room. -/
theorem make_room (w : World) (n m : Nat) (h1 : n ≤ 100000) (h2 : m ≤ 100000) :
    ∃ w1, (Instr.makeSlice 22 (.int .i64 0) (.int .i64 ((n : Int) + (m : Int)))).run Tryz.prog w = .ok (.slice (some ⟨w.heap.size, 0, none⟩) 0 (n + m)) w1 ∧ Mp w w1 (some ⟨w.heap.size, 0, none⟩) 0 (n + m) [] := by
  obtain ⟨i, hi0, hi1, hi2, hi3⟩ := info_parts info23
  have hr := run_make (P := Tryz.prog) w 22 102 i _ Tryz.underlying22 hi0 hi1 .i64 .i64 0 ((n : Int) + (m : Int)) (Int.le_refl _) (by omega) (by rw [hi3]; omega) (by omega)
  rw [show ((n : Int) + (m : Int)).toNat = n + m by omega] at hr
  refine ⟨_, hr, ownK_new 2 w 102 _ [] 0 (n + m) rfl (by omega) (by unfold maxLen; omega) (by rw [size_madeCells, hi2]; exact Nat.le_refl _) (fun j hj => by omega), (Kp.refl _ _).alloc _, fun k hk => by simp [blk] at hk; omega⟩

set_option maxHeartbeats 1000000 in
theorem copy_any (w : World) (l : List Att) (ao : Option Addr) (n c m : Nat) (hr : Rp w ao n c l) (hl : n ≤ 100000) (hm : m ≤ 100000) (hf : fits l) :
    Calls Tryz.prog 136 #[.slice ao n c, .int .i64 (m : Int)] w fun e w' => ∃ ao' n' c', e = .returned (.slice ao' n' c') ∧ Mp w w' ao' n' c' l := by
  obtain rfl := hr.len
  obtain ⟨w1, hmk, M1⟩ := make_room w l.length m hl hm
  go_enter Tryz.func136, Tryz.ntmps136
  go_wp2
  clear hmk
  generalize some (⟨w.heap.size, 0, none⟩ : Addr) = ao0 at M1
  generalize l.length + m = c0 at M1
  go_loopw [5, 15] (fun v i wr => ∃ (k : Nat) (ao' : Option Addr) (n' c' : Nat), k ≤ l.length ∧ i = .int .i64 k ∧ v = .slice ao' n' c' ∧ Mp w wr ao' n' c' (l.take k)) (fun _ i _ => l.length - (intOf i).toNat)
  case atStart => exact ⟨0, _, _, _, Nat.zero_le _, rfl, rfl, M1⟩
  case round =>
    obtain ⟨k, ao', n', c', hk, rfl, rfl, M⟩ := hrel
    clear M1
    by_cases hlt : k < l.length
    · obtain ⟨b1, o1, rfl, h1, h2⟩ := (hr.kept M.kp).get k hlt
      have hs := take_snoc hlt
      have hf1 := fits_one hf hlt
      have hn : n' ≤ 100000 := by have := M.len; simp at this; omega
      generalize l[k] = a at h1 h2 hs hf1
      clear hr hf
      have HO := own_any (wr.alloc (.cells #[.string a.1, .string a.2] 102)) a hf1
      clear hf1
      unfold av at HO
      go_wp2_with fail
      refine HO.mono ?_
      rintro e w3 ⟨rfl, k3⟩
      clear HO
      have M3 := (M.kept ((Kp.refl _ _).alloc (.cells #[.string a.1, .string a.2] 102))).kept k3
      obtain ⟨a4, n4, c4, w4, hrun, M4⟩ := M3.one a (by omega)
      rw [← hs] at M4
      clear M M3 k3 hs h1 h2
      go_wp2_with (at_builtin; refine Lib.wpList_append_run _ rfl _ _ _ _ rfl _ _ rfl rfl _ _ (hrun _) ?_)
      go_roundw
      case rel => exact ⟨k + 1, _, _, _, by omega, by go_num, rfl, M4⟩
      case measure => simp [intOf]; omega
    · obtain rfl : k = l.length := by omega
      rw [List.take_length] at M
      go_wp2
      go_ret
      exact ⟨_, _, _, rfl, M⟩

/-- A literal of none. -/
theorem mp_none (w : World) : Mp w (w.alloc (.cells #[] 102)) (some ⟨w.heap.size, 0, none⟩) 0 0 [] := rp_lit w #[] [] 0 rfl rfl (by omega)

theorem has_idx (l : List Att) (x : ByteArray) : (∃ i, idx l x = some i ∧ hasN l x = true) ∨ (idx l x = none ∧ hasN l x = false) := by
  have := idx_some (l := l) (x := x)
  cases h : idx l x with
  | none => exact Or.inr ⟨rfl, by rw [h] at this; exact this.symm⟩
  | some i => exact Or.inl ⟨i, rfl, by rw [h] at this; exact this.symm⟩


set_option maxHeartbeats 1000000 in
theorem ref_add_any (w : World) (l : List Att) (a : Att) (ao : Option Addr) (n c : Nat) (hr : Rp w ao n c l) (hl : n ≤ 30000) :
    Calls Tryz.prog 120 #[.slice ao n c, av a] w fun e w' => ∃ ao' n' c', e = .returned (.slice ao' n' c') ∧ Mp w w' ao' n' c' (add l a) := by
  have kb : Kp [] w (w.alloc (.cells #[.string a.1, .string a.2] 102)) := (Kp.refl _ _).alloc _
  have cb : (w.alloc (.cells #[.string a.1, .string a.2] 102)).heap[w.heap.size]? = some (.cells #[.string a.1, .string a.2] 102) := heap_new _ _
  have lb : w.heap.size < (w.alloc (.cells #[.string a.1, .string a.2] 102)).heap.size := by simp
  have e0 : (w.alloc (.cells #[.string a.1, .string a.2] 102)).heap.size = w.heap.size + 1 := by simp
  have M1 := mp_none (w.alloc (.cells #[.string a.1, .string a.2] 102))
  have hr1 := (hr.kept kb).kept M1.kp
  obtain ⟨a2, n2, c2, w2, hrun, M2⟩ := M1.app (hr1.src Tryz.underlying22) (fun h => by cases h) (by omega)
  rw [e0] at hrun
  have hr2 := (hr.kept kb).kept M2.kp
  have M2b := M2.back kb
  have cb2 : w2.heap[w.heap.size]? = some (.cells #[.string a.1, .string a.2] 102) := by rw [M2.kp.block _ lb (by simp)]; exact cb
  have g1 : w2.cell? ⟨w.heap.size, 0, none⟩ = some (.string a.1) := by rw [cell_of cb2]; rfl
  rw [List.nil_append] at M2b
  have HH := ref_has_any w2 a.1 l ao n c hr2 (by omega)
  have hn : n2 ≤ 100000 := by have := M2b.len; have := hr.len; omega
  clear M1 hr1 M2 kb cb lb e0 hr2
  unfold av
  go_enter Tryz.func120, Tryz.ntmps120
  go_wp2_with (first
    | (at_builtin; refine Lib.wpList_append_run _ rfl _ _ _ _ rfl _ _ rfl rfl _ _ (hrun _) ?_)
    | (go_at_call 132; refine Hid.out ?_))
  unfold Hid
  refine HH.mono ?_
  rintro e w3 ⟨rfl, k3⟩
  clear HH hrun
  have M3 := M2b.kept k3
  have cb3 : w3.heap[w.heap.size]? = some (.cells #[.string a.1, .string a.2] 102) := by rw [k3.block _ (lt_of cb2) (by simp)]; exact cb2
  have g2 : w3.cell? ⟨w.heap.size, 0, none⟩ = some (.string a.1) := by rw [cell_of cb3]; rfl
  have g3 : w3.cell? ⟨w.heap.size, 1, none⟩ = some (.string a.2) := by rw [cell_of cb3]; rfl
  clear g1 cb2 M2b k3 cb3
  rcases has_idx l a.1 with ⟨i, hi, hh⟩ | ⟨hi, hh⟩
  · rw [hi]
    have e1 : add l a = l := by unfold add; rw [hh]; rfl
    simp only [plc]
    go_wp2
    go_ret
    exact ⟨_, _, _, rfl, by rw [e1]; exact M3⟩
  · rw [hi]
    have e1 : add l a = l ++ [a] := by unfold add; rw [hh]; rfl
    simp only [plc]
    obtain ⟨a5, n5, c5, w5, hrun, M5⟩ := M3.one a (by omega)
    go_wp2_with (at_builtin; refine Lib.wpList_append_run _ rfl _ _ _ _ rfl _ _ rfl rfl _ _ (hrun _) ?_)
    go_ret
    exact ⟨_, _, _, rfl, by rw [e1]; exact M5⟩

end Go.Proofs.YtpkppobkagdhkaaGreat
