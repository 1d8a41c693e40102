/-
 Lists Find Copy More.
-/
import Derived.Test.YtpkppobkagdhkaaGreatB1
import Derived.Laws.StructEq
import Derived.Deep.RegionHeld3
import Derived.Laws.MakeOwn
import Derived.Maps.OwnSet
import Derived.Maps.OwnOps
set_option linter.unusedVariables false
set_option linter.unusedSimpArgs false
set_option maxRecDepth 100000
set_option maxHeartbeats 1000000
namespace Go.Proofs.YtpkppobkagdhkaaGreat
def eqs (x y : ByteArray) : Bool := x.toList == y.toList
theorem eqs_iff {x y : ByteArray} : eqs x y = true ↔ x = y := by
 unfold eqs
 rw [beq_iff_eq,ByteArray.toList_eq,ByteArray.toList_eq]
 exact ⟨fun h => ByteArray.ext (Array.ext' h),fun h => by rw [h]⟩
theorem eqs_refl (x : ByteArray) : eqs x x = true := eqs_iff.2 rfl
def getF (l : List Att) (x : ByteArray) : Option Att := l.find? fun a => eqs a.1 x
def idx (l : List Att) (x : ByteArray) : Option Nat := l.findIdx? fun a => eqs a.1 x
def hasN (l : List Att) (x : ByteArray) : Bool := (getF l x).isSome
def add (l : List Att) (a : Att) : List Att := if hasN l a.1 then l else l ++ [a]
def more (l m : List Att) : List Att := m.foldl add l
def uniq (l : List Att) : List Att := more [] l
theorem getF_append (l m : List Att) (x : ByteArray) : getF (l ++ m) x = (getF l x).or (getF m x) := by
 unfold getF
 rw [List.find?_append]
theorem getF_none {l : List Att} {x : ByteArray} (h : getF l x = none) : ∀ a,a ∈ l → a.1 ≠ x := by
 intro a ha e
 have := List.find?_eq_none.1 h a ha
 exact this (eqs_iff.2 e)
theorem getF_one (a : Att) (x : ByteArray) : getF [a] x = if eqs a.1 x then some a else none := by
 unfold getF
 rw [List.find?_cons]
 cases eqs a.1 x <;> simp
theorem getF_add (l : List Att) (a : Att) (x : ByteArray) : getF (add l a) x = (getF l x).or (getF [a] x) := by
 unfold add
 by_cases h : hasN l a.1 = true
 ·rw [if_pos h]
  rw [getF_one]
  cases hx : eqs a.1 x
  ·simp
  ·obtain rfl := eqs_iff.1 hx
   unfold hasN at h
   cases hg : getF l a.1 with
   | none => rw [hg] at h; cases h
   | some y => rfl
 ·rw [if_neg h,getF_append]
theorem more_cons (l m : List Att) (a : Att) : more l (a :: m) = more (add l a) m := rfl
theorem more_snoc (l m : List Att) (a : Att) : more l (m ++ [a]) = add (more l m) a := by
 unfold more
 rw [List.foldl_append]
 rfl
theorem getF_more (m : List Att) : ∀ (l : List Att) (x : ByteArray),getF (more l m) x = (getF l x).or (getF m x) := by
 induction m with
 | nil =>
   intro l x
   show getF l x = (getF l x).or none
   rw [Option.or_none]
 | cons a m ih =>
   intro l x
   rw [more_cons,ih,getF_add,Option.or_assoc,← getF_append]
   rfl
theorem getF_uniq (l : List Att) (x : ByteArray) : getF (uniq l) x = getF l x := by
 unfold uniq
 rw [getF_more]
 rfl
def Dist (l : List Att) : Prop := List.Pairwise (fun a b : Att => a.1 ≠ b.1) l
theorem dist_add {l : List Att} (h : Dist l) (a : Att) : Dist (add l a) := by
 unfold add
 by_cases hh : hasN l a.1 = true
 ·rw [if_pos hh]; exact h
 ·rw [if_neg hh]
  have hg : getF l a.1 = none := by
   unfold hasN at hh
   cases hx : getF l a.1 with
   | none => rfl
   | some y => rw [hx] at hh; exact absurd rfl hh
  unfold Dist
  rw [List.pairwise_append]
  refine ⟨h,by simp,fun x hx y hy => ?_⟩
  simp only [List.mem_singleton] at hy
  subst hy
  exact getF_none hg x hx
theorem dist_more (m : List Att) : ∀ {l : List Att},Dist l → Dist (more l m) := by
 induction m with
 | nil => exact fun h => h
 | cons a m ih => exact fun h => ih (dist_add h a)
theorem idx_get {l : List Att} {x : ByteArray} {i : Nat} (h : idx l x = some i) : ∃ hi : i < l.length,getF l x = some l[i] := by
 unfold idx at h
 rw [List.findIdx?_eq_some_iff_getElem] at h
 obtain ⟨hi,h2,h3⟩ := h
 refine ⟨hi,?_⟩
 unfold getF
 rw [List.find?_eq_some_iff_getElem]
 exact ⟨h2,i,hi,rfl,fun j hj => by simpa using h3 j hj⟩
theorem idx_none {l : List Att} {x : ByteArray} : idx l x = none ↔ getF l x = none := by
 unfold idx getF
 rw [List.findIdx?_eq_none_iff,List.find?_eq_none]
 simp
theorem idx_some {l : List Att} {x : ByteArray} : (idx l x).isSome = hasN l x := by
 unfold hasN
 cases h : idx l x with
 | none => rw [idx_none.1 h]; rfl
 | some i =>
   obtain ⟨hi,h2⟩ := idx_get h
   rw [h2]
   rfl
theorem idx_snoc (l : List Att) (a : Att) (x : ByteArray) : idx (l ++ [a]) x = (idx l x).or (if eqs a.1 x then some l.length else none) := by
 unfold idx
 rw [List.findIdx?_append]
 congr 1
 rw [List.findIdx?_cons]
 cases eqs a.1 x <;> simp
theorem idx_drop {l : List Att} {x : ByteArray} {k : Nat} (hk : k < l.length) (h : ∀ j (hj : j < k),eqs (l[j]'(by omega)).1 x = false) (hx : eqs l[k].1 x = true) : idx l x = some k := by
 unfold idx
 rw [List.findIdx?_eq_some_iff_getElem]
 exact ⟨hk,hx,fun j hj => by simpa using h j hj⟩
theorem idx_end {l : List Att} {x : ByteArray} (h : ∀ j (hj : j < l.length),eqs l[j].1 x = false) : idx l x = none := by
 unfold idx
 rw [List.findIdx?_eq_none_iff]
 intro a ha
 obtain ⟨j,hj,rfl⟩ := List.getElem_of_mem ha
 exact h j hj
def fits (l : List Att) : Prop := ∀ a,a ∈ l → a.1.size ≤ 140737488355328 ∧ a.2.size ≤ 140737488355328
theorem fits_append {l m : List Att} (h1 : fits l) (h2 : fits m) : fits (l ++ m) := fun a ha => (List.mem_append.1 ha).elim (h1 a) (h2 a)
theorem fits_add {l : List Att} {a : Att} (h1 : fits l) (h2 : fits [a]) : fits (add l a) := by
 unfold add
 split
 ·exact h1
 ·exact fits_append h1 h2
theorem fits_more (m : List Att) : ∀ {l : List Att},fits l → fits m → fits (more l m) := by
 induction m with
 | nil => exact fun h _ => h
 | cons a m ih => exact fun h1 h2 => ih (fits_add h1 (fun x hx => h2 x (by simp at hx; simp [hx]))) (fun x hx => h2 x (List.mem_cons_of_mem _ hx))
theorem add_len (l : List Att) (a : Att) : (add l a).length ≤ l.length + 1 := by
 unfold add
 split <;> simp
theorem more_len (m : List Att) : ∀ l : List Att,(more l m).length ≤ l.length + m.length := by
 induction m with
 | nil => intro l; exact Nat.le_refl _
 | cons a m ih =>
   intro l
   have := ih (add l a)
   have := add_len l a
   rw [more_cons,List.length_cons]
   omega
end Go.Proofs.YtpkppobkagdhkaaGreat
namespace Go.Proofs.YtpkppobkagdhkaaGreat
open Go.RowKit
def plc : Option Nat → Int
 | some i => i
 | none => -1
theorem ref_has_any (w : World) (x : ByteArray) (l : List Att) (ao : Option Addr) (n c : Nat) (hr : Rp w ao n c l) (hl : n ≤ 100000) :
  Calls Tryz.prog 132 #[.slice ao n c,.string x] w fun e w' => e = .returned (.int .i64 (plc (idx l x))) ∧ Kp [] w w' := by
 obtain rfl := hr.len
 obtain ⟨A,hA⟩ : ∃ A,plc (idx l x) = A := ⟨_,rfl⟩
 rw [hA]
 go_enter Tryz.func132,Tryz.ntmps132
 go_wp2
 go_loopw [5] (fun i wr => ∃ k q : Nat,k ≤ l.length ∧ i = .int .i64 k ∧ wr = w.drewN q ∧ (∀ j (hj : j < k) (hl : j < l.length),eqs l[j].1 x = false)) (fun i _ => l.length - (intOf i).toNat)
 case atStart => exact ⟨0,0,Nat.zero_le _,rfl,rfl,fun j hj => by omega⟩
 case round =>
  obtain ⟨k,q,hk,rfl,rfl,hp⟩ := hrel
  by_cases hlt : k < l.length
  ·obtain ⟨b1,o1,rfl,h1,h2⟩ := hr.get k hlt
   have hh : ∀ b,eqs l[k].1 x = b → (l[k].1.toList == x.toList) = b := fun b h => h
   clear hr
   cases hx : eqs l[k].1 x
   ·have hx' := hh _ hx
    go_wp2
    go_roundw
    case rel => exact ⟨k + 1,_,by omega,by go_num,rfl,fun j hj hl => by
     by_cases e : j < k
     ·exact hp j e hl
     ·obtain rfl : j = k := by omega
      exact hx⟩
    case measure => simp [intOf]; omega
   ·have hx' := hh _ hx
    rw [idx_drop hlt (fun j hj => hp j hj (by omega)) hx] at hA
    subst hA
    go_wp2
    go_ret
    exact ⟨rfl,(Kp.refl _ _).drewN q⟩
  ·rw [idx_end (fun j hj => hp j (by omega) hj)] at hA
   subst hA
   go_wp2
   go_ret
   exact ⟨rfl,(Kp.refl _ _).drewN q⟩
theorem own_any (w : World) (a : Att) (hf : fits [a]) : Calls Tryz.prog 137 #[av a] w fun e w' => e = .returned (av a) ∧ Kp [] w w' := by
 have h1 := (hf a (by simp)).1
 have h2 := (hf a (by simp)).2
 obtain ⟨x,y⟩ := a
 simp only at h1 h2
 have HX := fun w => clone_any w x (by omega)
 have HY := fun w => clone_any w y (by omega)
 clear h1 h2 hf
 unfold av
 go_enter Tryz.func137,Tryz.ntmps137
 go_wp2_with fail
 have K0 : Kp [] w ((w.alloc (Obj.cells #[Value.string x,Value.string y] 102)).alloc (Obj.cells #[Value.string { data := #[] },Value.string { data := #[] }] 102)) := ((Kp.refl _ _).alloc _).alloc _
 have C0 : ∀ v,Kp [w.heap.size + 1] ((w.alloc (Obj.cells #[Value.string x,Value.string y] 102)).alloc (Obj.cells #[Value.string { data := #[] },Value.string { data := #[] }] 102)) v → v.heap[w.heap.size]? = some (.cells #[Value.string x,Value.string y] 102) := by
  intro v kv
  rw [kv.block _ (by simp; omega) (by simp),Below.heap_alloc _ _ _ (by simp)]
  exact heap_new w _
 have D0 : ∀ v,Kp [] ((w.alloc (Obj.cells #[Value.string x,Value.string y] 102)).alloc (Obj.cells #[Value.string { data := #[] },Value.string { data := #[] }] 102)) v → v.heap[w.heap.size + 1]? = some (.cells #[Value.string { data := #[] },Value.string { data := #[] }] 102) := by
  intro v kv
  rw [kv.block _ (by simp) (by simp)]
  exact heap_new' _ _ _ (by simp)
 generalize (w.alloc (Obj.cells #[Value.string x,Value.string y] 102)).alloc (Obj.cells #[Value.string { data := #[] },Value.string { data := #[] }] 102) = W at K0 C0 D0
 have C1 : Hid (∀ v,Kp [w.heap.size + 1] W v → v.cell? ⟨w.heap.size,0,none⟩ = some (.string x) ∧ v.cell? ⟨w.heap.size,1,none⟩ = some (.string y)) := fun v kv => ⟨by rw [cell_of (C0 v kv)]; rfl,by rw [cell_of (C0 v kv)]; rfl⟩
 have C2 : Hid (∀ v,Kp [] W v → v.cell? ⟨w.heap.size + 1,0,none⟩ = some (.string ⟨#[]⟩) ∧ v.cell? ⟨w.heap.size + 1,1,none⟩ = some (.string ⟨#[]⟩) ∧ v.frozen? ⟨w.heap.size + 1,0,none⟩ = false ∧ v.frozen? ⟨w.heap.size + 1,1,none⟩ = false) := fun v kv => ⟨by rw [cell_of (D0 v kv)]; rfl,by rw [cell_of (D0 v kv)]; rfl,frozen_of (D0 v kv) _,frozen_of (D0 v kv) _⟩
 clear C0 D0
 have U : Hid (∀ v,Kp [] W v → Kp [w.heap.size + 1] W v) := fun v kv => kv.mono (fun x hx => by simp at hx)
 have V : Hid (∀ v p q,Kp [] W v → Kp [w.heap.size + 1] W ((v.setCell ⟨w.heap.size + 1,0,none⟩ p).setCell ⟨w.heap.size + 1,1,none⟩ q)) := fun v p q kv => ((U.out v kv).setCell (Or.inl (by simp)) _).setCell (Or.inl (by simp)) _
 obtain ⟨e0,e1⟩ := C1.out W (Kp.refl _ _)
 go_region_held3 (fun w' => Kp [w.heap.size + 1] W w' ∧ w'.cell? ⟨w.heap.size,0,none⟩ = some (.string x) ∧ w'.cell? ⟨w.heap.size,1,none⟩ = some (.string y))
  (first
   | exact ⟨V.out _ _ _ S2.out,C1.out _ (V.out _ _ _ S2.out)⟩
   | exact ⟨U.out _ S2.out,C1.out _ (U.out _ S2.out)⟩
   | exact ⟨U.out _ S1.out,C1.out _ (U.out _ S1.out)⟩
   | exact ⟨(Kp.refl _ W).drew,C1.out _ (Kp.refl _ W).drew⟩)
  (first
   | (go_at_call 61; refine (HY _).mono ?_; rintro e v2 ⟨rfl,kk⟩; have S2 : Hid (Kp [] W v2) := S1.out.trans kk (fun x hx => by simp at hx); clear kk; obtain ⟨g0,g1,g2,g3⟩ := C2.out _ S2.out)
   | (go_at_call 61; refine (HX _).mono ?_; rintro e v1 ⟨rfl,kk⟩; have S1 : Hid (Kp [] W v1) := (Kp.refl [] W).drew.trans kk (fun x hx => by simp at hx); clear kk))
 have KZ : Kp [] w ((v2.setCell ⟨w.heap.size + 1,0,none⟩ (.string x)).setCell ⟨w.heap.size + 1,1,none⟩ (.string y)) := K0.trans (V.out _ _ _ S2.out) (fun z hz => by simp at hz; omega)
 have Z0 : ((v2.setCell ⟨w.heap.size + 1,0,none⟩ (.string x)).setCell ⟨w.heap.size + 1,1,none⟩ (.string y)).cell? ⟨w.heap.size + 1,0,none⟩ = some (.string x) := by
  rw [World.cell?_setCell_other _ _ _ _ (fun e => by simp at e),World.cell?_setCell_same _ _ _ (by rw [g0])]
 have Z1 : ((v2.setCell ⟨w.heap.size + 1,0,none⟩ (.string x)).setCell ⟨w.heap.size + 1,1,none⟩ (.string y)).cell? ⟨w.heap.size + 1,1,none⟩ = some (.string y) := by
  rw [World.cell?_setCell_same _ _ _ (by rw [World.cell?_setCell_other _ _ _ _ (fun e => by simp at e),g1])]
 generalize (v2.setCell ⟨w.heap.size + 1,0,none⟩ (.string x)).setCell ⟨w.heap.size + 1,1,none⟩ (.string y) = Z at KZ Z0 Z1
 clear C1 C2 U V e0 e1 S1 S2 g0 g1 g2 g3 HX HY
 go_wp2
 refine bodyPost_ret (v := .agg #[.string x,.string y]) (by simp [results,go_sem,Z0,Z1]) rfl ⟨rfl,KZ⟩
theorem take_snoc {l : List Att} {k : Nat} (h : k < l.length) : l.take (k + 1) = l.take k ++ [l[k]] := by
 rw [List.take_succ_eq_append_getElem h]
theorem fits_one {l : List Att} (h : fits l) {k : Nat} (hk : k < l.length) : fits [l[k]] := fun a ha => by
 simp only [List.mem_singleton] at ha
 rw [ha]
 exact h _ (List.getElem_mem hk)
theorem make_room (w : World) (n m : Nat) (h1 : n ≤ 100000) (h2 : m ≤ 100000) :
  ∃ w1,(Instr.makeSlice 22 (.int .i64 0) (.int .i64 ((n : Int) + (m : Int)))).run Tryz.prog w = .ok (.slice (some ⟨w.heap.size,0,none⟩) 0 (n + m)) w1 ∧ Mp w w1 (some ⟨w.heap.size,0,none⟩) 0 (n + m) [] := by
 obtain ⟨i,hi0,hi1,hi2,hi3⟩ := info_parts info23
 have hr := run_make (P := Tryz.prog) w 22 102 i _ Tryz.underlying22 hi0 hi1 .i64 .i64 0 ((n : Int) + (m : Int)) (Int.le_refl _) (by omega) (by rw [hi3]; omega) (by omega)
 rw [show ((n : Int) + (m : Int)).toNat = n + m by omega] at hr
 refine ⟨_,hr,ownK_new 2 w 102 _ [] 0 (n + m) rfl (by omega) (by unfold maxLen; omega) (by rw [size_madeCells,hi2]; exact Nat.le_refl _) (fun j hj => by omega),(Kp.refl _ _).alloc _,fun k hk => by simp [blk] at hk; omega⟩
theorem copy_any (w : World) (l : List Att) (ao : Option Addr) (n c m : Nat) (hr : Rp w ao n c l) (hl : n ≤ 100000) (hm : m ≤ 100000) (hf : fits l) :
  Calls Tryz.prog 136 #[.slice ao n c,.int .i64 (m : Int)] w fun e w' => ∃ ao' n' c',e = .returned (.slice ao' n' c') ∧ Mp w w' ao' n' c' l := by
 obtain rfl := hr.len
 obtain ⟨w1,hmk,M1⟩ := make_room w l.length m hl hm
 go_enter Tryz.func136,Tryz.ntmps136
 go_wp2
 clear hmk
 generalize some (⟨w.heap.size,0,none⟩ : Addr) = ao0 at M1
 generalize l.length + m = c0 at M1
 go_loopw [5,15] (fun v i wr => ∃ (k : Nat) (ao' : Option Addr) (n' c' : Nat),k ≤ l.length ∧ i = .int .i64 k ∧ v = .slice ao' n' c' ∧ Mp w wr ao' n' c' (l.take k)) (fun _ i _ => l.length - (intOf i).toNat)
 case atStart => exact ⟨0,_,_,_,Nat.zero_le _,rfl,rfl,M1⟩
 case round =>
  obtain ⟨k,ao',n',c',hk,rfl,rfl,M⟩ := hrel
  clear M1
  by_cases hlt : k < l.length
  ·obtain ⟨b1,o1,rfl,h1,h2⟩ := (hr.kept M.kp).get k hlt
   have hs := take_snoc hlt
   have hf1 := fits_one hf hlt
   have hn : n' ≤ 100000 := by have := M.len; simp at this; omega
   generalize l[k] = a at h1 h2 hs hf1
   clear hr hf
   have HO := own_any (wr.alloc (.cells #[.string a.1,.string a.2] 102)) a hf1
   clear hf1
   unfold av at HO
   go_wp2_with fail
   refine HO.mono ?_
   rintro e w3 ⟨rfl,k3⟩
   clear HO
   have M3 := (M.kept ((Kp.refl _ _).alloc (.cells #[.string a.1,.string a.2] 102))).kept k3
   obtain ⟨a4,n4,c4,w4,hrun,M4⟩ := M3.one a (by omega)
   rw [← hs] at M4
   clear M M3 k3 hs h1 h2
   go_wp2_with (at_builtin; refine Lib.wpList_append_run _ rfl _ _ _ _ rfl _ _ rfl rfl _ _ (hrun _) ?_)
   go_roundw
   case rel => exact ⟨k + 1,_,_,_,by omega,by go_num,rfl,M4⟩
   case measure => simp [intOf]; omega
  ·obtain rfl : k = l.length := by omega
   rw [List.take_length] at M
   go_wp2
   go_ret
   exact ⟨_,_,_,rfl,M⟩
theorem mp_none (w : World) : Mp w (w.alloc (.cells #[] 102)) (some ⟨w.heap.size,0,none⟩) 0 0 [] := rp_lit w #[] [] 0 rfl rfl (by omega)
theorem has_idx (l : List Att) (x : ByteArray) : (∃ i,idx l x = some i ∧ hasN l x = true) ∨ (idx l x = none ∧ hasN l x = false) := by
 have := idx_some (l := l) (x := x)
 cases h : idx l x with
 | none => exact Or.inr ⟨rfl,by rw [h] at this; exact this.symm⟩
 | some i => exact Or.inl ⟨i,rfl,by rw [h] at this; exact this.symm⟩
theorem ref_add_any (w : World) (l : List Att) (a : Att) (ao : Option Addr) (n c : Nat) (hr : Rp w ao n c l) (hl : n ≤ 30000) :
  Calls Tryz.prog 120 #[.slice ao n c,av a] w fun e w' => ∃ ao' n' c',e = .returned (.slice ao' n' c') ∧ Mp w w' ao' n' c' (add l a) := by
 have kb : Kp [] w (w.alloc (.cells #[.string a.1,.string a.2] 102)) := (Kp.refl _ _).alloc _
 have cb : (w.alloc (.cells #[.string a.1,.string a.2] 102)).heap[w.heap.size]? = some (.cells #[.string a.1,.string a.2] 102) := heap_new _ _
 have lb : w.heap.size < (w.alloc (.cells #[.string a.1,.string a.2] 102)).heap.size := by simp
 have e0 : (w.alloc (.cells #[.string a.1,.string a.2] 102)).heap.size = w.heap.size + 1 := by simp
 have M1 := mp_none (w.alloc (.cells #[.string a.1,.string a.2] 102))
 have hr1 := (hr.kept kb).kept M1.kp
 obtain ⟨a2,n2,c2,w2,hrun,M2⟩ := M1.app (hr1.src Tryz.underlying22) (fun h => by cases h) (by omega)
 rw [e0] at hrun
 have hr2 := (hr.kept kb).kept M2.kp
 have M2b := M2.back kb
 have cb2 : w2.heap[w.heap.size]? = some (.cells #[.string a.1,.string a.2] 102) := by rw [M2.kp.block _ lb (by simp)]; exact cb
 have g1 : w2.cell? ⟨w.heap.size,0,none⟩ = some (.string a.1) := by rw [cell_of cb2]; rfl
 rw [List.nil_append] at M2b
 have HH := ref_has_any w2 a.1 l ao n c hr2 (by omega)
 have hn : n2 ≤ 100000 := by have := M2b.len; have := hr.len; omega
 clear M1 hr1 M2 kb cb lb e0 hr2
 unfold av
 go_enter Tryz.func120,Tryz.ntmps120
 go_wp2_with (first
  | (at_builtin; refine Lib.wpList_append_run _ rfl _ _ _ _ rfl _ _ rfl rfl _ _ (hrun _) ?_)
  | (go_at_call 132; refine Hid.out ?_))
 unfold Hid
 refine HH.mono ?_
 rintro e w3 ⟨rfl,k3⟩
 clear HH hrun
 have M3 := M2b.kept k3
 have cb3 : w3.heap[w.heap.size]? = some (.cells #[.string a.1,.string a.2] 102) := by rw [k3.block _ (lt_of cb2) (by simp)]; exact cb2
 have g2 : w3.cell? ⟨w.heap.size,0,none⟩ = some (.string a.1) := by rw [cell_of cb3]; rfl
 have g3 : w3.cell? ⟨w.heap.size,1,none⟩ = some (.string a.2) := by rw [cell_of cb3]; rfl
 clear g1 cb2 M2b k3 cb3
 rcases has_idx l a.1 with ⟨i,hi,hh⟩ | ⟨hi,hh⟩
 ·rw [hi]
  have e1 : add l a = l := by unfold add; rw [hh]; rfl
  simp only [plc]
  go_wp2
  go_ret
  exact ⟨_,_,_,rfl,by rw [e1]; exact M3⟩
 ·rw [hi]
  have e1 : add l a = l ++ [a] := by unfold add; rw [hh]; rfl
  simp only [plc]
  obtain ⟨a5,n5,c5,w5,hrun,M5⟩ := M3.one a (by omega)
  go_wp2_with (at_builtin; refine Lib.wpList_append_run _ rfl _ _ _ _ rfl _ _ rfl rfl _ _ (hrun _) ?_)
  go_ret
  exact ⟨_,_,_,rfl,by rw [e1]; exact M5⟩
end Go.Proofs.YtpkppobkagdhkaaGreat
namespace Go.Proofs.YtpkppobkagdhkaaGreat
open Go.RowKit Go.Maps
theorem rp_nil (w : World) : Rp w none 0 0 [] := ⟨rfl,Nat.le_refl _,fun j hj => by omega⟩
def kl (x : ByteArray) : Lit := .string x.data.toList
theorem law9 : Keyed Tryz.prog 9 := string_keyed Tryz.underlying9
theorem zero3 (w : World) : (zeroValue 3).run Tryz.prog w = .ok (.int .i64 0) w := by kernel_rfl
def Tab (w : World) (b : Nat) (l : List Att) (k : Nat) : Prop :=
 ∃ D : DataW Unit,w.ownsMap Tryz.prog 9 (plainElem Tryz.prog 3) b k D ∧ Maps.size D = (uniq l).length ∧
   ∀ x,Maps.has D (kl x) = (idx l x).isSome ∧ ∀ i,idx l x = some i → D.atKey (kl x) (.lit (.int .i64 0)) = .lit (.int .i64 i)
theorem kp_grown {w w' : World} {b : Nat} (h : w.grownBy w' (some b)) : Kp [b] w w' :=
 ⟨h.os,h.tape,h.output,h.size,fun k hk hn => h.block k hk (fun e => by simp at e; exact hn (by simp [e]))⟩
theorem key_of {x : ByteArray} (h : x.size ≤ 140737488355328) : keyOf Tryz.prog 9 (.string x) = some (kl x) := WideMaps.keyOf_string_mk Tryz.underlying9 (by unfold maxLen; omega)
theorem kl_key (x : ByteArray) : WideAt.IsKeyLit (kl x) := trivial
theorem kl_inj {x y : ByteArray} (h : kl x = kl y) : x = y := by
 unfold kl at h
 simp only [Lit.string.injEq] at h
 exact ByteArray.ext (Array.ext' h)
theorem Tab.lt {w : World} {b : Nat} {l : List Att} {k : Nat} (h : Tab w b l k) : b < w.heap.size := by
 obtain ⟨D,h,_⟩ := h
 exact h.lt
theorem Tab.keep {w w' : World} {S : List Nat} {b : Nat} {l : List Att} {k : Nat} (h : Tab w b l k) (hk : Kp S w w') (hn : b ∉ S) : Tab w' b l k := by
 have hl := h.lt
 obtain ⟨D,⟨es,clock,hb,r⟩,r2⟩ := h
 exact ⟨D,⟨es,clock,by rw [hk.block b hl hn]; exact hb,r⟩,r2⟩
theorem Tab.same {w w' : World} {b : Nat} {l : List Att} {k : Nat} (h : Tab w b l k) (hb : w'.heap[b]? = w.heap[b]?) : Tab w' b l k := by
 obtain ⟨D,⟨es,clock,h1,r⟩,r2⟩ := h
 exact ⟨D,⟨es,clock,by rw [hb]; exact h1,r⟩,r2⟩
theorem Tab.mono {w : World} {b : Nat} {l : List Att} {k k' : Nat} (h : Tab w b l k) (hk : k ≤ k') : Tab w b l k' := by
 obtain ⟨D,h1,r⟩ := h
 exact ⟨D,h1.mono hk,r⟩
theorem tab_new (w : World) : Tab (w.alloc (.map #[] 0)) w.heap.size [] 0 :=
 ⟨.map [],World.ownsMap_made w Tryz.prog 9 _,rfl,fun x => ⟨rfl,fun i h => by cases h⟩⟩
theorem hasN_uniq (l : List Att) (x : ByteArray) : hasN (uniq l) x = hasN l x := by unfold hasN; rw [getF_uniq]
theorem uniq_snoc (l : List Att) (a : Att) : uniq (l ++ [a]) = add (uniq l) a := more_snoc [] l a
theorem Tab.old {w : World} {b : Nat} {l : List Att} {k : Nat} (h : Tab w b l k) (a : Att) (hi : (idx l a.1).isSome = true) : Tab w b (l ++ [a]) (k + 1) := by
 obtain ⟨D,h1,h2,h3⟩ := h
 refine ⟨D,h1.mono (by omega),?_,fun x => ?_⟩
 ·rw [uniq_snoc]
  unfold add
  rw [hasN_uniq,← idx_some,hi,if_pos rfl]
  exact h2
 ·have : idx (l ++ [a]) x = idx l x := by
   rw [idx_snoc]
   cases hx : idx l x with
   | some i => rfl
   | none =>
     have : eqs a.1 x = false := by
      cases he : eqs a.1 x
      ·rfl
      ·rw [eqs_iff.1 he,hx] at hi; cases hi
     rw [this]
     rfl
  rw [this]
  exact h3 x
theorem tab_put {w w' : World} {b : Nat} {l : List Att} {k : Nat} {D : DataW Unit} (h2 : Maps.size D = (uniq l).length) (h3 : ∀ x,Maps.has D (kl x) = (idx l x).isSome ∧ ∀ i,idx l x = some i → D.atKey (kl x) (.lit (.int .i64 0)) = .lit (.int .i64 i)) (h0 : w.ownsMap Tryz.prog 9 (plainElem Tryz.prog 3) b k D)
  (a : Att) (hi : idx l a.1 = none) (h1 : w'.ownsMap Tryz.prog 9 (plainElem Tryz.prog 3) b (k + 1) (D.put (kl a.1) (.lit (.int .i64 (l.length : Int))))) : Tab w' b (l ++ [a]) (k + 1) := by
 have hh : Maps.has D (kl a.1) = false := by rw [(h3 a.1).1,hi]; rfl
 have htd := h0.tidy law9
 refine ⟨_,h1,?_,fun x => ?_⟩
 ·rw [Maps.size_put htd,hh,uniq_snoc]
  unfold add
  rw [hasN_uniq,← idx_some,hi]
  simp [h2]
 ·rw [idx_snoc]
  cases he : eqs a.1 x
  ·have hne : kl x ≠ kl a.1 := fun e => by rw [kl_inj e,eqs_refl] at he; cases he
   rw [Maps.has_put_other hne]
   have : (idx l x).or (if false = true then some l.length else none) = idx l x := by simp
   rw [this]
   exact ⟨(h3 x).1,fun i hx => by rw [Maps.atKey_put_other hne]; exact (h3 x).2 i hx⟩
  ·obtain rfl := eqs_iff.1 he
   rw [hi]
   exact ⟨by rw [Maps.has_put_same htd.isMap (kl_key a.1)]; rfl,fun i hx => by
    simp at hx
    subst hx
    rw [Maps.atKey_put_same htd.isMap (kl_key a.1)]⟩
theorem make_map (w : World) (n : Nat) : (Instr.makeMap 181 (some (.int .i64 (n : Int)))).run Tryz.prog w = .ok (.map (some w.heap.size)) (w.alloc (.map #[] 0)) := by
 simp [Instr.makeMap,run_underlying Tryz.underlying181,asInt,asIntOf,newObj]
 rfl
theorem firsts_any (w : World) (l : List Att) (ao : Option Addr) (n c : Nat) (hr : Rp w ao n c l) (hl : n ≤ 100000) (hf : fits l) :
  Calls Tryz.prog 135 #[.slice ao n c] w fun e w' => e = .returned (.map (some w.heap.size)) ∧ Kp [] w w' ∧ Tab w' w.heap.size l l.length := by
 obtain rfl := hr.len
 have hmk := make_map w l.length
 have k0 : Kp [] w (w.alloc (.map #[] 0)) := (Kp.refl _ _).alloc _
 have T0 := tab_new w
 go_enter Tryz.func135,Tryz.ntmps135
 go_wp2
 clear hmk
 go_loopw [13] (fun i wr => ∃ k : Nat,k ≤ l.length ∧ i = .int .i64 k ∧ Kp [] w wr ∧ Tab wr w.heap.size (l.take k) k) (fun i _ => l.length - (intOf i).toNat)
 case atStart => exact ⟨0,Nat.zero_le _,rfl,k0,T0⟩
 case round =>
  obtain ⟨k,hk,rfl,hkp,T⟩ := hrel
  clear T0 k0
  by_cases hlt : k < l.length
  ·obtain ⟨b1,o1,rfl,h1,h2⟩ := (hr.kept hkp).get k hlt
   have hts := take_snoc hlt
   have hfa := (hf l[k] (List.getElem_mem hlt)).1
   generalize l[k] = a at h1 h2 hts hfa
   have hkey := key_of hfa
   clear hr hf hfa
   have T' := T
   obtain ⟨D,hown,hsz,hx⟩ := T
   have hh := (hx a.1).1
   have hsize := hown.lt
   rcases has_idx (l.take k) a.1 with ⟨i,hi,_⟩ | ⟨hi,_⟩
   ·have T2 := (T'.keep ((Kp.refl [] wr).alloc (.cells #[.string a.1,.string a.2] 102)) (by simp)).old a (by rw [hi]; rfl)
    rw [← hts] at T2
    rw [hi] at hh
    simp only [Option.isSome_some] at hh
    clear T' hi hx hsz hts
    go_wp2_with (at_lookup; refine wpList_lookup_own_ok_int _ rfl _ _ 181 rfl 9 3 .i64 law9 Tryz.underlying181 Tryz.underlying3 (zero3 _) w.heap.size k D rfl (hown.alloc _) _ _ rfl hkey ?_; intro c1 hat hwc)
    go_roundw
    case rel => exact ⟨k + 1,by omega,by go_num,hkp.alloc _,T2⟩
    case measure => simp [intOf]; omega
   ·have hP := fun w' h1 => tab_put (w' := w') hsz hx hown a hi h1
    rw [List.length_take,Nat.min_eq_left hk,← hts] at hP
    rw [hi] at hh
    simp only [Option.isSome_none] at hh
    clear T' hi hx hsz hts
    go_wp2_with (first
     | (at_lookup; refine wpList_lookup_own_ok_int _ rfl _ _ 181 rfl 9 3 .i64 law9 Tryz.underlying181 Tryz.underlying3 (zero3 _) w.heap.size k D rfl (hown.alloc _) _ _ rfl hkey ?_; intro c1 hat hwc)
     | (at_mapUpdate; refine wpList_mapUpdate_own _ rfl _ _ _ 181 rfl 9 3 law9 Tryz.underlying181 _ w.heap.size k D rfl (hown.alloc _) (by unfold maxLen; omega) _ _ _ rfl rfl hkey _ [] (plainElem_int Tryz.underlying3 (WalkArith.wf_i64 (by omega))) ?_; intro w1 hown1 hgrow1))
    go_roundw
    case rel => exact ⟨k + 1,by omega,by go_num,(hkp.alloc _).trans (kp_grown hgrow1) (fun z hz => by simp at hz; omega),hP _ hown1⟩
    case measure => simp [intOf]; omega
  ·obtain rfl : k = l.length := by omega
   rw [List.take_length] at T
   go_wp2
   go_ret
   exact ⟨rfl,hkp,T⟩
def Ms (S : List Nat) (w w' : World) (ao : Option Addr) (n c : Nat) (l : List Att) : Prop := OwnK 2 w' 102 (.slice ao n c) n (cs l) ∧ Kp S w w' ∧ ∀ k,k ∈ blk (.slice ao n c) → w.heap.size ≤ k
theorem Ms.len {S : List Nat} {w w' : World} {ao : Option Addr} {n c : Nat} {l : List Att} (h : Ms S w w' ao n c l) : n = l.length := by
 have := h.1.1
 rw [cs_len] at this
 omega
theorem Ms.kept {S : List Nat} {w w1 w2 : World} {ao : Option Addr} {n c : Nat} {l : List Att} (h : Ms S w w1 ao n c l) (k : Kp S w1 w2) (hS : ∀ x,x ∈ S → x < w.heap.size) : Ms S w w2 ao n c l :=
 ⟨h.1.keep k (fun x hx hs => by have := h.2.2 x hx; have := hS x hs; omega),h.2.1.trans k (fun x hx => Or.inl hx),h.2.2⟩
theorem Ms.one {S : List Nat} {w w1 : World} {ao : Option Addr} {n c : Nat} {l : List Att} (h : Ms S w w1 ao n c l) (a : Att) (hlen : n + 1 ≤ 1000000) (hS : ∀ x,x ∈ S → x < w.heap.size) :
  ∃ ao' n' c' w2,(∀ ty,(Builtin.append_ #[22,22] ty #[.slice ao n c,.slice (some ⟨w1.heap.size,0,none⟩) 1 1]).run Tryz.prog (w1.alloc (.cells #[.string a.1,.string a.2] 102)) = .ok (.slice ao' n' c') w2) ∧ Ms S w w2 ao' n' c' (l ++ [a]) ∧ ∀ b,b < w.heap.size → b ∈ S → w2.heap[b]? = w1.heap[b]? := by
 have k1 : Kp S w1 (w1.alloc (.cells #[.string a.1,.string a.2] 102)) := (Kp.refl _ _).alloc _
 have hr := (rp_lit w1 #[.string a.1,.string a.2] [a] 1 rfl rfl (by omega)).rp
 obtain ⟨h1,h2,h3⟩ := h.kept k1 hS
 obtain ⟨v',w2,hrun,o2,k2,b2,a2,c2,rfl⟩ := appK Tryz.underlying22 info23 rfl (by decide) _ _ _ _ h1 _ 1 (cs [a]) (hr.src Tryz.underlying22) (fun _ => by omega) hlen
 refine ⟨_,_,_,w2,hrun,⟨by rw [cs_append]; exact o2,h2.trans k2 (fun x hx => Or.inr (h3 x hx)),fun k hk => ?_⟩,fun b hb _ => ?_⟩
 ·rcases b2 k hk with h4 | h4
  ·exact h3 k h4
  ·have := h2.size
   omega
 ·rw [k2.block b (Nat.lt_of_lt_of_le hb h2.size) (fun hx => by have := h3 b hx; omega),Below.heap_alloc _ _ _ (Nat.lt_of_lt_of_le hb h.2.1.size)]
theorem more_any (w : World) (l m : List Att) (ao bo : Option Addr) (n c p d : Nat) (hr : Rp w ao n c l) (hs : Rp w bo p d m) (hl : n ≤ 10000) (hm : p ≤ 10000) (hfl : fits l) (hfm : fits m) :
  Calls Tryz.prog 129 #[.slice ao n c,.slice bo p d] w fun e w' => ∃ ao' n' c',e = .returned (.slice ao' n' c') ∧ Mp w w' ao' n' c' (more l m) := by
 have hln : l.length ≤ 10000 := by have := hr.len; omega
 have HF := firsts_any w l ao n c hr (by omega) hfl
 obtain rfl := hs.len
 go_enter Tryz.func129,Tryz.ntmps129
 go_wp2_with fail
 refine HF.mono ?_
 rintro e w1 ⟨rfl,k1,T1⟩
 clear HF
 have HC := copy_any w1 l ao n c m.length (hr.kept k1) (by omega) (by omega) hfl
 clear hr hfl
 go_wp2_with fail
 refine HC.mono ?_
 rintro e w2 ⟨a2,n2,c2,rfl,M2⟩
 clear HC
 have T2 := T1.keep M2.kp (by simp)
 have hb1 := T1.lt
 have S2 : Ms [w.heap.size] w1 w2 a2 n2 c2 l := ⟨M2.1,M2.2.1.mono (fun x hx => by simp at hx),M2.2.2⟩
 clear T1 M2
 go_wp2
 go_loopw [6,19] (fun v i wr => ∃ (k : Nat) (ao' : Option Addr) (n' c' : Nat),k ≤ m.length ∧ i = .int .i64 k ∧ v = .slice ao' n' c' ∧ Ms [w.heap.size] w1 wr ao' n' c' (more l (m.take k)) ∧ Tab wr w.heap.size (more l (m.take k)) (l.length + k)) (fun _ i _ => m.length - (intOf i).toNat)
 case atStart => exact ⟨0,_,_,_,Nat.zero_le _,rfl,rfl,S2,T2⟩
 case round =>
  obtain ⟨k,ao',n',c',hk,rfl,rfl,M,T⟩ := hrel
  clear S2 T2
  have kw : Kp [] w wr := k1.trans M.2.1 (fun x hx => by simp at hx; omega)
  by_cases hlt : k < m.length
  ·obtain ⟨b1,o1,rfl,h1,h2⟩ := (hs.kept kw).get k hlt
   have hts := take_snoc hlt
   have hfa := fits_one hfm hlt
   have hn : n' ≤ 30000 := by
    have e1 := M.len
    have e2 := more_len (m.take k) l
    simp at e2
    omega
   have hml := M.len
   generalize m[k] = a at h1 h2 hts hfa
   have hkey := key_of (hfa a (by simp)).1
   have hmore : more l (m.take (k + 1)) = add (more l (m.take k)) a := by rw [hts,more_snoc]
   clear hs hfm hts
   have T' := T
   obtain ⟨D,hown,hsz,hx⟩ := T
   have hh := (hx a.1).1
   have hsize := hown.lt
   rcases has_idx (more l (m.take k)) a.1 with ⟨i,hi,hN⟩ | ⟨hi,hN⟩
   ·have hmore2 : Hid (more l (m.take (k + 1)) = more l (m.take k)) := by rw [hmore]; unfold add; rw [hN]; rfl
    have ka : Kp [w.heap.size] wr (wr.alloc (.cells #[.string a.1,.string a.2] 102)) := (Kp.refl _ _).alloc _
    have M3 := M.kept ka (fun x hx => by simp at hx; omega)
    have T3 : Tab (wr.alloc (.cells #[.string a.1,.string a.2] 102)) w.heap.size (more l (m.take k)) (l.length + (k + 1)) := (T'.keep ((Kp.refl [] wr).alloc _) (by simp)).mono (by omega)
    rw [hi] at hh
    simp only [Option.isSome_some] at hh
    clear T' hi hx hsz hmore hN M ka hml
    go_wp2_with (at_lookup; refine wpList_lookup_own_ok_int _ rfl _ _ 181 rfl 9 3 .i64 law9 Tryz.underlying181 Tryz.underlying3 (zero3 _) w.heap.size (l.length + k) D rfl (hown.alloc _) _ _ rfl hkey ?_; intro c1 hat hwc)
    go_roundw
    case rel => exact ⟨k + 1,_,_,_,by omega,by go_num,rfl,by rw [hmore2.out]; exact M3,by rw [hmore2.out]; exact T3⟩
    case measure => simp [intOf]; omega
   ·have hmore2 : Hid (more l (m.take (k + 1)) = more l (m.take k) ++ [a]) := by rw [hmore]; unfold add; rw [hN]; rfl
    have hP : Hid (∀ w',w'.ownsMap Tryz.prog 9 (plainElem Tryz.prog 3) w.heap.size (l.length + k + 1) (D.put (kl a.1) (.lit (.int .i64 (n' : Int)))) → Tab w' w.heap.size (more l (m.take k) ++ [a]) (l.length + k + 1)) := by
     intro w' h1
     rw [hml] at h1
     exact tab_put hsz hx hown a hi h1
    rw [hi] at hh
    simp only [Option.isSome_none] at hh
    have ka : Kp [w.heap.size] wr (wr.alloc (.cells #[.string a.1,.string a.2] 102)) := (Kp.refl _ _).alloc _
    have hb3 : (wr.alloc (.cells #[.string a.1,.string a.2] 102)).heap[wr.heap.size]? = some (.cells #[.string a.1,.string a.2] 102) := heap_new _ _
    clear T' hi hx hsz hmore hN hml
    go_wp2_with (first
     | (at_lookup; refine wpList_lookup_own_ok_int _ rfl _ _ 181 rfl 9 3 .i64 law9 Tryz.underlying181 Tryz.underlying3 (zero3 _) w.heap.size (l.length + k) D rfl (hown.alloc _) _ _ rfl hkey ?_; intro c1 hat hwc)
     | (at_mapUpdate; refine wpList_mapUpdate_own _ rfl _ _ _ 181 rfl 9 3 law9 Tryz.underlying181 _ w.heap.size (l.length + k) D rfl (hown.alloc _) (by unfold maxLen; omega) _ _ _ rfl rfl hkey _ [] (plainElem_int Tryz.underlying3 (WalkArith.wf_i64 (by omega))) ?_; intro w3 hown3 hgrow3; refine Hid.out ?_))
    unfold Hid
    have k3 := kp_grown hgrow3
    have hb4 : w3.heap[wr.heap.size]? = some (.cells #[.string a.1,.string a.2] 102) := by rw [k3.block _ (by simp) (by simp; omega)]; exact hb3
    have g0 : w3.cell? ⟨wr.heap.size,0,none⟩ = some (.string a.1) := by rw [cell_of hb4]; rfl
    have g1 : w3.cell? ⟨wr.heap.size,1,none⟩ = some (.string a.2) := by rw [cell_of hb4]; rfl
    have M3 := (M.kept ka (fun x hx => by simp at hx; omega)).kept k3 (fun x hx => by simp at hx; omega)
    have T3 := hP.out _ hown3
    have HO := own_any w3 a hfa
    unfold av at HO
    clear hP hown3 hown hgrow3 hb3 hb4 ka k3 hat hwc hkey M hh hfa
    go_wp2_with fail
    refine HO.mono ?_
    rintro e w4 ⟨rfl,k4⟩
    clear HO
    have M4 := M3.kept (k4.mono (fun x hx => by simp at hx)) (fun x hx => by simp at hx; omega)
    have T4 := T3.keep k4 (by simp)
    obtain ⟨a5,n5,c5,w5,hrun,M5,hb5⟩ := M4.one a (by omega) (fun x hx => by simp at hx; omega)
    have T5 := T4.same (hb5 _ hb1 (by simp))
    clear M3 T3 M4 T4 k4 hb5 g0 g1
    go_wp2_with (at_builtin; refine Lib.wpList_append_run _ rfl _ _ _ _ rfl _ _ rfl rfl _ _ (hrun _) ?_)
    go_roundw
    case rel => exact ⟨k + 1,_,_,_,by omega,by go_num,rfl,by rw [hmore2.out]; exact M5,by rw [hmore2.out]; exact T5⟩
    case measure => simp [intOf]; omega
  ·obtain rfl : k = m.length := by omega
   rw [List.take_length] at M
   go_wp2
   go_ret
   exact ⟨_,_,_,rfl,M.1,kw,fun x hx => Nat.le_trans k1.size (M.2.2 x hx)⟩
theorem uniq_any (w : World) (m : List Att) (bo : Option Addr) (p d : Nat) (hs : Rp w bo p d m) (hm : p ≤ 10000) (hf : fits m) :
  Calls Tryz.prog 116 #[.slice bo p d] w fun e w' => ∃ ao' n' c',e = .returned (.slice ao' n' c') ∧ Mp w w' ao' n' c' (uniq m) := by
 have H := more_any w [] m none bo 0 0 p d (rp_nil w) hs (by omega) hm (fun a ha => by simp at ha) hf
 go_enter Tryz.func116,Tryz.ntmps116
 go_wp2_with fail
 refine H.mono ?_
 rintro e w3 ⟨a3,n3,c3,rfl,M3⟩
 clear H
 go_wp2
 go_ret
 exact ⟨_,_,_,rfl,M3⟩
end Go.Proofs.YtpkppobkagdhkaaGreat
