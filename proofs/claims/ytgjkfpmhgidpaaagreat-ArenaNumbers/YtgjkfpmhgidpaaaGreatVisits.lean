/-
  The nodes of a tree in the order in which a walk comes to them: no program.
-/
import Derived.Test.YtgjkfpmhgidpaaaGreatGT
namespace Go.Proofs.YtgjkfpmhgidpaaaGreat
set_option linter.unusedVariables false

/-- A node that a walk comes to: how many steps down, its label, its kids. -/
abbrev Vt := Nat × Lb × Fo

/-- All nodes of a row, d steps down, in order. -/
def Fo.vis : Fo → Nat → List Vt
  | ⟨false, _, _, _⟩, _ => []
  | ⟨true, l, k, r⟩, d => (d, l rfl, k rfl) :: ((k rfl).vis (d + 1) ++ (r rfl).vis d)
theorem vis_nil (d : Nat) : Fo.nil.vis d = [] := rfl
theorem vis_cons (l : Lb) (k r : Fo) (d : Nat) : (Fo.cons l k r).vis d = (d, l, k) :: (k.vis (d + 1) ++ r.vis d) := rfl

theorem vis_len (f : Fo) : ∀ d, (f.vis d).length = f.cnt := by
  refine Fo.ind (P := fun f => ∀ d, (f.vis d).length = f.cnt) (fun d => rfl) (fun l k r hk hr d => ?_) f
  rw [vis_cons, List.length_cons, List.length_append, hk, hr, Fo.cnt_cons]; omega

/-- The deepest of the nodes. -/
def deepV (m : Nat) (S : List Vt) : Nat := S.foldl (fun m v => max m (v.1 + 1)) m

theorem deep_vis (f : Fo) : ∀ d m, deepV m (f.vis d) = if f.len = 0 then m else max m (d + f.dep) := by
  refine Fo.ind (P := fun f => ∀ d m, deepV m (f.vis d) = if f.len = 0 then m else max m (d + f.dep)) (fun d m => rfl) (fun l k r hk hr d m => ?_) f
  rw [vis_cons]
  unfold deepV at *
  rw [List.foldl_cons, List.foldl_append, hk, hr, if_neg (show ¬ (Fo.cons l k r).len = 0 by rw [Fo.len_cons]; omega), Fo.dep_cons]
  simp only
  have h1 : k.len = 0 → k.dep = 0 := fun h => by rw [Fo.len_zero.1 h]; rfl
  have h2 : r.len = 0 → r.dep = 0 := fun h => by rw [Fo.len_zero.1 h]; rfl
  split <;> split <;> omega

/-- The texts of the nodes, behind s. -/
def foldV (g : Lb → ByteArray) (s : ByteArray) (S : List Vt) : ByteArray := S.foldl (fun s v => s ++ g v.2.1) s

theorem fold_vis (g : Lb → ByteArray) (f : Fo) : ∀ d s, foldV g s (f.vis d) = s ++ f.fold g := by
  refine Fo.ind (P := fun f => ∀ d s, foldV g s (f.vis d) = s ++ f.fold g) (fun d s => (Fo.cat_none s).symm) (fun l k r hk hr d s => ?_) f
  rw [vis_cons]
  unfold foldV at *
  rw [List.foldl_cons, List.foldl_append, hk, hr, Fo.fold_cons]
  simp only [ByteArray.append_assoc]

/-- So many blanks. -/
def blk2 (n : Nat) : ByteArray := ⟨(List.replicate (2 * n) 32).toArray⟩

theorem blk2_succ (n : Nat) : blk2 (n + 1) = blk2 n ++ ⟨#[32, 32]⟩ := by
  unfold blk2
  apply ByteArray.ext
  rw [ByteArray.data_append]
  rw [show 2 * (n + 1) = 2 * n + 2 by omega, ← List.replicate_append_replicate]
  simp [List.replicate]

/-- The lines of the nodes, behind s; none of the top one. -/
def showV (g : Lb → ByteArray) (s : ByteArray) (S : List Vt) : ByteArray := S.foldl (fun s v => if v.1 = 0 then s else s ++ blk2 (v.1 - 1) ++ g v.2.1 ++ ⟨#[10]⟩) s

theorem show_vis (g : Lb → ByteArray) (f : Fo) : ∀ d s, showV g s (f.vis (d + 1)) = s ++ f.show_ g (blk2 d) := by
  refine Fo.ind (P := fun f => ∀ d s, showV g s (f.vis (d + 1)) = s ++ f.show_ g (blk2 d)) (fun d s => (Fo.cat_none s).symm) (fun l k r hk hr d s => ?_) f
  rw [vis_cons]
  unfold showV at *
  rw [List.foldl_cons, List.foldl_append, hk, hr, Fo.show_cons, blk2_succ, if_neg (by simp), Nat.add_sub_cancel]
  simp only [ByteArray.append_assoc]

/-- How many blanks ahead of all lines. -/
def padV (n : Nat) (S : List Vt) : Nat := S.foldl (fun n v => n + 2 * (v.1 - 1)) n

theorem pad_le (S : List Vt) (D : Nat) (h : ∀ v, v ∈ S → v.1 ≤ D) : ∀ n, padV n S ≤ n + S.length * (2 * D) := by
  induction S with
  | nil => exact fun n => by simp [padV]
  | cons v S ih =>
    intro n
    have h1 := ih (fun u hu => h u (by simp [hu])) (n + 2 * (v.1 - 1))
    have h2 := h v (by simp)
    show padV (n + 2 * (v.1 - 1)) S ≤ _
    rw [List.length_cons, Nat.add_mul, Nat.one_mul]
    omega

theorem vis_deep (f : Fo) : ∀ d v, v ∈ f.vis d → v.1 + 1 ≤ d + f.dep := by
  refine Fo.ind (P := fun f => ∀ d v, v ∈ f.vis d → v.1 + 1 ≤ d + f.dep) (fun d v h => by simp [vis_nil] at h) (fun l k r hk hr d v h => ?_) f
  rw [vis_cons, List.mem_cons, List.mem_append] at h
  rw [Fo.dep_cons]
  rcases h with rfl | h | h
  · simp only; omega
  · have := hk _ _ h; omega
  · have := hr _ _ h; omega

/-- Two rows of nodes, held against each other by labels and by how many kids each has. -/
def sameV (q : Lb → Lb → Bool) : List Vt → List Vt → Bool
  | [], [] => true
  | v :: S, u :: T => q v.2.1 u.2.1 && decide (v.2.2.len = u.2.2.len) && sameV q S T
  | _, _ => false

theorem same_vis {q : Lb → Lb → Bool} (hq : ∀ a b, q a b = true ↔ a = b) (f : Fo) : ∀ g d e X Y, f.len = g.len → sameV q (f.vis d ++ X) (g.vis e ++ Y) = (f.same q g && sameV q X Y) := by
  refine Fo.ind (P := fun f => ∀ g d e X Y, f.len = g.len → sameV q (f.vis d ++ X) (g.vis e ++ Y) = (f.same q g && sameV q X Y)) (fun g d e X Y h => ?_) (fun l k r hk hr g d e X Y h => ?_) f
  · rw [Fo.len_zero.1 h.symm]
    simp [vis_nil]
  · revert h
    refine Fo.cases (P := fun g => (Fo.cons l k r).len = g.len → sameV q ((Fo.cons l k r).vis d ++ X) (g.vis e ++ Y) = ((Fo.cons l k r).same q g && sameV q X Y)) g (fun h => by simp at h) (fun l' k' r' h => ?_)
    rw [vis_cons, vis_cons, List.cons_append, List.cons_append, sameV, Fo.same_cons]
    by_cases hl : k.len = k'.len
    · rw [List.append_assoc, List.append_assoc, hk k' _ _ _ _ hl, hr r' _ _ _ _ (by simpa using h)]
      simp [hl, Bool.and_assoc]
    · have : k.same q k' = false := by
        rw [Bool.eq_false_iff]
        intro h1
        exact hl (congrArg Fo.len ((Fo.same_eq hq k').1 h1))
      simp [hl, this]

/-- May all stand here, those below aside. -/
def standF : Fo → Lb → Bool → Bool → Bool
  | ⟨false, _, _, _⟩, _, _, _ => true
  | ⟨true, l, k, r⟩, p, first, text => hereF p first text (l rfl) && standF (r rfl) p false (decide ((l rfl).kind = 4))
theorem stand_nil (p : Lb) (first text : Bool) : standF .nil p first text = true := rfl
theorem stand_cons (p l : Lb) (k r : Fo) (first text : Bool) : standF (.cons l k r) p first text = (hereF p first text l && standF r p false (decide (l.kind = 4))) := rfl

/-- Is a node right by itself, with its kids' labels? -/
def nodeF (l : Lb) (k : Fo) : Bool := selfF l k.len && standF k l true false

def okV (S : List Vt) : Bool := S.all (fun v => nodeF v.2.1 v.2.2)

theorem kids_vis (f : Fo) : ∀ p first text d, kidsF f p first text = (standF f p first text && okV (f.vis d)) := by
  refine Fo.ind (P := fun f => ∀ p first text d, kidsF f p first text = (standF f p first text && okV (f.vis d))) (fun p a b d => rfl) (fun l k r hk hr p a b d => ?_) f
  rw [kids_cons, stand_cons, vis_cons, hk l true false (d + 1), hr p false _ d]
  unfold okV nodeF
  rw [List.all_cons, List.all_append]
  simp only
  cases hereF p a b l <;> cases selfF l k.len <;> cases standF k l true false <;> cases standF r p false (decide (l.kind = 4)) <;> simp

theorem right_vis (l : Lb) (k : Fo) : rightF l k = (decide (l.kind = 1) && okV ((Fo.cons l k .nil).vis 0)) := by
  unfold rightF belowF
  rw [kids_vis k l true false 1, vis_cons, vis_nil, List.append_nil]
  unfold okV nodeF
  rw [List.all_cons]
  simp only
  cases selfF l k.len <;> cases standF k l true false <;> simp

end Go.Proofs.YtgjkfpmhgidpaaaGreat
