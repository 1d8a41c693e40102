/-
 Same Trees.
-/
import Derived.Test.YtpkppobkagdhkaaGreatB2
import Derived.Test.YtpkppobkagdhkaaGreatB3
set_option linter.unusedVariables false
set_option linter.unusedSimpArgs false
set_option maxRecDepth 100000
set_option maxHeartbeats 1000000
namespace Go.Proofs.YtpkppobkagdhkaaGreat
open Go.RowKit
theorem parted (x y : Att) : (x = y ∧ x.1.toList = y.1.toList ∧ x.2.toList = y.2.toList) ∨ (x ≠ y ∧ ¬ x.1.toList = y.1.toList) ∨ (x ≠ y ∧ x.1.toList = y.1.toList ∧ ¬ x.2.toList = y.2.toList) := by
 by_cases h1 : x.1 = y.1
 ·by_cases h2 : x.2 = y.2
  ·exact Or.inl ⟨Prod.ext h1 h2,by rw [h1],by rw [h2]⟩
  ·refine Or.inr (Or.inr ⟨fun h => h2 (by rw [h]),by rw [h1],fun h => h2 (eqs_iff.1 ?_)⟩)
   unfold eqs
   rw [h]
   simp
 ·refine Or.inr (Or.inl ⟨fun h => h1 (by rw [h]),fun h => h1 (eqs_iff.1 ?_)⟩)
  unfold eqs
  rw [h]
  simp
def same (l m : List Att) : Bool := decide (l = m)
theorem same_not {l m : List Att} (h : l ≠ m) : same l m = false := decide_eq_false h
theorem same_yes {l m : List Att} (h : l = m) : same l m = true := decide_eq_true h
theorem take_eq {l m : List Att} {k : Nat} (h1 : k < l.length) (h2 : k < m.length) (h : l.take k = m.take k) (e : l[k] = m[k]) : l.take (k + 1) = m.take (k + 1) := by
 rw [take_snoc h1,take_snoc h2,h,e]
theorem ref_same_any (w : World) (l m : List Att) (ao bo : Option Addr) (n c p d : Nat) (hr : Rp w ao n c l) (hs : Rp w bo p d m) (hl : n ≤ 100000) (hm : p ≤ 100000) :
  Calls Tryz.prog 117 #[.slice ao n c,.slice bo p d] w fun e w' => e = .returned (.bool (same l m)) ∧ Kp [] w w' := by
 obtain rfl := hr.len
 obtain rfl := hs.len
 by_cases hlen : l.length = m.length
 ·have hne : ((l.length : Int) != (m.length : Int)) = false := by rw [hlen]; simp
  obtain ⟨A,hA⟩ : ∃ A,same l m = A := ⟨_,rfl⟩
  rw [hA]
  have hkm : ∀ k,k < l.length → k < m.length := fun k hk => by omega
  have hend : Hid (l.take l.length = m.take l.length → l = m) := fun h => by rw [List.take_length,hlen,List.take_length] at h; exact h
  clear hlen
  go_enter Tryz.func117,Tryz.ntmps117
  go_wp2
  go_loopw [5] (fun i wr => ∃ k q : Nat,k ≤ l.length ∧ i = .int .i64 k ∧ wr = w.drewN q ∧ l.take k = m.take k) (fun i _ => l.length - (intOf i).toNat)
  case atStart => exact ⟨0,0,Nat.zero_le _,rfl,rfl,rfl⟩
  case round =>
   obtain ⟨k,q,hk,rfl,rfl,hp⟩ := hrel
   by_cases hlt : k < l.length
   ·have hlt2 := hkm k hlt
    obtain ⟨b1,o1,rfl,h1,h2⟩ := hr.get k hlt
    obtain ⟨b2,o2,rfl,h3,h4⟩ := hs.get k hlt2
    have htk : Hid (l[k] = m[k] → l.take (k + 1) = m.take (k + 1)) := take_eq hlt hlt2 hp
    have hnt : Hid (l[k] ≠ m[k] → same l m = false) := fun h => same_not (fun e => h (by simp only [e]))
    clear hr hs hp hkm hend
    generalize l[k] = x at h1 h2 htk hnt
    generalize m[k] = y at h3 h4 htk hnt
    rcases parted x y with ⟨e0,e1,e2⟩ | ⟨e0,e1⟩ | ⟨e0,e1,e2⟩
    ·subst e0
     have hp := htk.out rfl
     clear htk hnt
     go_wp2_with fail
     go_region
     go_wp2
     go_roundw
     case rel => exact ⟨k + 1,_,by omega,by go_num,rfl,hp⟩
     case measure => simp [intOf]; omega
    all_goals
     have hp := hnt.out e0
     rw [hA] at hp
     subst hp
     clear htk hnt e0 hA
     go_wp2_with fail
     go_region
     go_wp2
     go_ret
     exact ⟨rfl,(Kp.refl _ _).drewN _⟩
   ·obtain rfl : k = l.length := by omega
    rw [same_yes (hend.out hp)] at hA
    subst hA
    go_wp2
    go_ret
    exact ⟨rfl,(Kp.refl _ _).drewN _⟩
 ·have hne : ((l.length : Int) != (m.length : Int)) = true := by simp; omega
  rw [same_not (fun e => hlen (by rw [e]))]
  clear hlen
  go_enter Tryz.func117,Tryz.ntmps117
  go_wp2
  go_ret
  exact ⟨rfl,Kp.refl _ _⟩
theorem same_any (w : World) (l m : List Att) (ao bo : Option Addr) (n c p d : Nat) (hr : Rp w ao n c l) (hs : Rp w bo p d m) (hl : n ≤ 100000) (hm : p ≤ 100000) :
  Calls Tryz.prog 89 #[.slice ao n c,.slice bo p d] w fun e w' => e = .returned (.bool (same l m)) ∧ Kp [] w w' := by
 obtain rfl := hr.len
 obtain rfl := hs.len
 by_cases hlen : l.length = m.length
 ·have hne : ((l.length : Int) != (m.length : Int)) = false := by rw [hlen]; simp
  obtain ⟨A,hA⟩ : ∃ A,same l m = A := ⟨_,rfl⟩
  rw [hA]
  have hkm : ∀ k,k < l.length → k < m.length := fun k hk => by omega
  have hend : Hid (l.take l.length = m.take l.length → l = m) := fun h => by rw [List.take_length,hlen,List.take_length] at h; exact h
  clear hlen
  go_enter Tryz.func89,Tryz.ntmps89
  go_wp2
  go_loopw [14] (fun i wr => ∃ k : Nat,k ≤ l.length ∧ i = .int .i64 k ∧ Kp [] w wr ∧ l.take k = m.take k) (fun i _ => l.length - (intOf i).toNat)
  case atStart => exact ⟨0,Nat.zero_le _,rfl,Kp.refl _ _,rfl⟩
  case round =>
   obtain ⟨k,hk,rfl,kw,hp⟩ := hrel
   by_cases hlt : k < l.length
   ·have hlt2 := hkm k hlt
    obtain ⟨b1,o1,rfl,h1,h2⟩ := (hr.kept kw).get k hlt
    obtain ⟨b2,o2,rfl,h3,h4⟩ := (hs.kept kw).get k hlt2
    have htk : Hid (l[k] = m[k] → l.take (k + 1) = m.take (k + 1)) := take_eq hlt hlt2 hp
    have hnt : Hid (l[k] ≠ m[k] → same l m = false) := fun h => same_not (fun e => h (by simp only [e]))
    clear hr hs hp hkm hend
    generalize l[k] = x at h1 h2 htk hnt
    generalize m[k] = y at h3 h4 htk hnt
    have ka : Kp [] wr (wr.alloc (.cells #[.string x.1,.string x.2] 102)) := (Kp.refl _ _).alloc _
    have h5 : (wr.alloc (.cells #[.string x.1,.string x.2] 102)).cell? ⟨b2,o2 + k * 2,none⟩ = some (.string y.1) := by rw [ka.cell (block_lt_of_cell h3) (by simp)]; exact h3
    have h6 : (wr.alloc (.cells #[.string x.1,.string x.2] 102)).cell? ⟨b2,o2 + k * 2 + 1,none⟩ = some (.string y.2) := by rw [ka.cell (block_lt_of_cell h4) (by simp)]; exact h4
    have h7 : (wr.alloc (.cells #[.string x.1,.string x.2] 102)).cell? ⟨wr.heap.size,0,none⟩ = some (.string x.1) := by rw [cell_of (heap_new _ _)]; rfl
    have h8 : (wr.alloc (.cells #[.string x.1,.string x.2] 102)).cell? ⟨wr.heap.size,1,none⟩ = some (.string x.2) := by rw [cell_of (heap_new _ _)]; rfl
    rcases parted x y with ⟨e0,e1,e2⟩ | ⟨e0,e1⟩ | ⟨e0,e1,e2⟩
    ·subst e0
     have hp := htk.out rfl
     clear htk hnt
     go_wp2_with fail
     have kz := kw.trans ka (fun z hz => by simp at hz)
     generalize wr.alloc (.cells #[.string _,.string _] 102) = W at ka h5 h6 h7 h8 kz ⊢
     go_region
     go_wp2
     go_roundw
     case rel => exact ⟨k + 1,by omega,by go_num,kz.drewN _,hp⟩
     case measure => simp [intOf]; omega
    all_goals
     have hp := hnt.out e0
     rw [hA] at hp
     subst hp
     clear htk hnt e0 hA
     go_wp2_with fail
     have kz := kw.trans ka (fun z hz => by simp at hz)
     generalize wr.alloc (.cells #[.string _,.string _] 102) = W at ka h5 h6 h7 h8 kz ⊢
     go_region
     go_wp2
     go_ret
     exact ⟨rfl,kz.drewN _⟩
   ·obtain rfl : k = l.length := by omega
    rw [same_yes (hend.out hp)] at hA
    subst hA
    go_wp2
    go_ret
    exact ⟨rfl,kw⟩
 ·have hne : ((l.length : Int) != (m.length : Int)) = true := by simp; omega
  rw [same_not (fun e => hlen (by rw [e]))]
  clear hlen
  go_enter Tryz.func89,Tryz.ntmps89
  go_wp2
  go_ret
  exact ⟨rfl,Kp.refl _ _⟩
end Go.Proofs.YtpkppobkagdhkaaGreat
namespace Go.Proofs.YtpkppobkagdhkaaGreat
abbrev Lb := Int × Int × ByteArray × List Att × ByteArray
abbrev Lb.kind (l : Lb) : Int := l.1
abbrev Lb.ns (l : Lb) : Int := l.2.1
abbrev Lb.name (l : Lb) : ByteArray := l.2.2.1
abbrev Lb.attrs (l : Lb) : List Att := l.2.2.2.1
abbrev Lb.text (l : Lb) : ByteArray := l.2.2.2.2
structure Fo where
 yes : Bool
 lb : yes = true → Lb
 kids : yes = true → Fo
 rest : yes = true → Fo
namespace Fo
def nil : Fo := ⟨false,fun h => absurd h Bool.false_ne_true,fun h => absurd h Bool.false_ne_true,fun h => absurd h Bool.false_ne_true⟩
def cons (l : Lb) (k r : Fo) : Fo := ⟨true,fun _ => l,fun _ => k,fun _ => r⟩
theorem ind {P : Fo → Prop} (h0 : P nil) (h1 : ∀ l k r,P k → P r → P (cons l k r)) : ∀ f,P f
 | ⟨false,l,k,r⟩ => by
   have e : (⟨false,l,k,r⟩ : Fo) = nil := by
    unfold nil
    congr 1 <;> funext h <;> exact absurd h Bool.false_ne_true
   rw [e]; exact h0
 | ⟨true,l,k,r⟩ => h1 (l rfl) (k rfl) (r rfl) (ind h0 h1 (k rfl)) (ind h0 h1 (r rfl))
theorem cases {P : Fo → Prop} (f : Fo) (h0 : P nil) (h1 : ∀ l k r,P (cons l k r)) : P f := ind h0 (fun l k r _ _ => h1 l k r) f
def len : Fo → Nat
 | ⟨false,_,_,_⟩ => 0
 | ⟨true,_,_,r⟩ => (r rfl).len + 1
theorem len_nil : nil.len = 0 := rfl
theorem len_cons (l : Lb) (k r : Fo) : (cons l k r).len = r.len + 1 := rfl
attribute [simp] len_nil len_cons
def cnt : Fo → Nat
 | ⟨false,_,_,_⟩ => 0
 | ⟨true,_,k,r⟩ => 1 + (k rfl).cnt + (r rfl).cnt
theorem cnt_nil : nil.cnt = 0 := rfl
theorem cnt_cons (l : Lb) (k r : Fo) : (cons l k r).cnt = 1 + k.cnt + r.cnt := rfl
attribute [simp] cnt_nil cnt_cons
def dep : Fo → Nat
 | ⟨false,_,_,_⟩ => 0
 | ⟨true,_,k,r⟩ => max ((k rfl).dep + 1) (r rfl).dep
theorem dep_nil : nil.dep = 0 := rfl
theorem dep_cons (l : Lb) (k r : Fo) : (cons l k r).dep = max (k.dep + 1) r.dep := rfl
attribute [simp] dep_nil dep_cons
def app : Fo → Fo → Fo
 | ⟨false,_,_,_⟩,g => g
 | ⟨true,l,k,r⟩,g => cons (l rfl) (k rfl) ((r rfl).app g)
theorem app_nil (g : Fo) : nil.app g = g := rfl
theorem app_cons (l : Lb) (k r g : Fo) : (cons l k r).app g = cons l k (r.app g) := rfl
attribute [simp] app_nil app_cons
theorem cnt_app (f g : Fo) : (f.app g).cnt = f.cnt + g.cnt := by
 refine ind (P := fun f => (f.app g).cnt = f.cnt + g.cnt) (by simp) (fun l k r _ hr => ?_) f
 simp only [app_cons,cnt_cons,hr]; omega
theorem len_le_cnt (f : Fo) : f.len ≤ f.cnt := by
 refine ind (P := fun f => f.len ≤ f.cnt) (Nat.le_refl _) (fun l k r _ hr => ?_) f
 simp only [len_cons,cnt_cons]; omega
theorem len_zero {f : Fo} : f.len = 0 ↔ f = nil := by
 refine cases (P := fun f => f.len = 0 ↔ f = nil) f ⟨fun _ => rfl,fun _ => rfl⟩ (fun l k r => ⟨fun h => ?_,fun h => ?_⟩)
 ·simp at h
 ·have := congrArg len h; simp at this
def drop : Nat → Fo → Fo
 | 0,f => f
 | _ + 1,⟨false,_,_,_⟩ => nil
 | n + 1,⟨true,_,_,r⟩ => (r rfl).drop n
theorem drop_zero (f : Fo) : f.drop 0 = f := by unfold drop; rfl
theorem drop_nil (n : Nat) : nil.drop n = nil := by cases n <;> rfl
theorem drop_cons (n : Nat) (l : Lb) (k r : Fo) : (cons l k r).drop (n + 1) = r.drop n := rfl
attribute [simp] drop_zero drop_nil drop_cons
def take : Nat → Fo → Fo
 | 0,_ => nil
 | _ + 1,⟨false,_,_,_⟩ => nil
 | n + 1,⟨true,l,k,r⟩ => cons (l rfl) (k rfl) ((r rfl).take n)
theorem take_zero (f : Fo) : f.take 0 = nil := by unfold take; rfl
theorem take_nil (n : Nat) : nil.take n = nil := by cases n <;> rfl
theorem take_cons (n : Nat) (l : Lb) (k r : Fo) : (cons l k r).take (n + 1) = cons l k (r.take n) := rfl
attribute [simp] take_zero take_nil take_cons
theorem take_drop (n : Nat) (f : Fo) : (f.take n).app (f.drop n) = f := by
 induction n generalizing f with
 | zero => simp
 | succ n ih => exact cases (P := fun f => (f.take (n + 1)).app (f.drop (n + 1)) = f) f rfl (fun l k r => by simp only [take_cons,drop_cons,app_cons,ih])
theorem len_drop (n : Nat) (f : Fo) : (f.drop n).len = f.len - n := by
 induction n generalizing f with
 | zero => simp
 | succ n ih => exact cases (P := fun f => (f.drop (n + 1)).len = f.len - (n + 1)) f (by simp) (fun l k r => by simp only [drop_cons,len_cons,ih]; omega)
theorem at_lt {n : Nat} {f : Fo} (h : n < f.len) : ∃ l k,f.drop n = cons l k (f.drop (n + 1)) := by
 induction n generalizing f with
 | zero =>
   revert h
   exact cases (P := fun f => 0 < f.len → ∃ l k,f.drop 0 = cons l k (f.drop (0 + 1))) f (fun h => absurd h (by simp)) (fun l k r _ => ⟨l,k,by simp⟩)
 | succ n ih =>
   revert h
   exact cases (P := fun f => n + 1 < f.len → ∃ l k,f.drop (n + 1) = cons l k (f.drop (n + 1 + 1))) f (fun h => absurd h (by simp)) (fun l k r h => by
    obtain ⟨l',k',e⟩ := ih (f := r) (by simpa using h)
    exact ⟨l',k',by rw [drop_cons,drop_cons]; exact e⟩)
def All (C : Lb → Fo → Prop) : Fo → Prop
 | ⟨false,_,_,_⟩ => True
 | ⟨true,l,k,r⟩ => C (l rfl) (k rfl) ∧ (r rfl).All C
theorem all_nil (C : Lb → Fo → Prop) : nil.All C := trivial
theorem all_cons (C : Lb → Fo → Prop) (l : Lb) (k r : Fo) : (cons l k r).All C ↔ C l k ∧ r.All C := Iff.rfl
attribute [simp] all_cons
theorem all_up {C : Lb → Fo → Prop} (h : ∀ l k,k.All C → C l k) (f : Fo) : f.All C :=
 ind (P := fun f => f.All C) (all_nil C) (fun l k r hk hr => (all_cons ..).2 ⟨h l k hk,hr⟩) f
theorem up {C : Lb → Fo → Prop} (h : ∀ l k,k.All C → C l k) (l : Lb) (k : Fo) : C l k := h l k (all_up h k)
def fold (g : Lb → ByteArray) : Fo → ByteArray
 | ⟨false,_,_,_⟩ => ⟨#[]⟩
 | ⟨true,l,k,r⟩ => g (l rfl) ++ (k rfl).fold g ++ (r rfl).fold g
theorem fold_nil (g : Lb → ByteArray) : nil.fold g = ⟨#[]⟩ := rfl
theorem fold_cons (g : Lb → ByteArray) (l : Lb) (k r : Fo) : (cons l k r).fold g = g l ++ k.fold g ++ r.fold g := rfl
attribute [simp] fold_nil fold_cons
def show_ (g : Lb → ByteArray) : Fo → ByteArray → ByteArray
 | ⟨false,_,_,_⟩,_ => ⟨#[]⟩
 | ⟨true,l,k,r⟩,a => a ++ g (l rfl) ++ ⟨#[10]⟩ ++ (k rfl).show_ g (a ++ ⟨#[32,32]⟩) ++ (r rfl).show_ g a
theorem show_nil (g : Lb → ByteArray) (a : ByteArray) : nil.show_ g a = ⟨#[]⟩ := rfl
theorem show_cons (g : Lb → ByteArray) (a : ByteArray) (l : Lb) (k r : Fo) : (cons l k r).show_ g a = a ++ g l ++ ⟨#[10]⟩ ++ k.show_ g (a ++ ⟨#[32,32]⟩) ++ r.show_ g a := rfl
attribute [simp] show_nil show_cons
def same (q : Lb → Lb → Bool) : Fo → Fo → Bool
 | ⟨false,_,_,_⟩,⟨false,_,_,_⟩ => true
 | ⟨true,l,k,r⟩,⟨true,l',k',r'⟩ => q (l rfl) (l' rfl) && (k rfl).same q (k' rfl) && (r rfl).same q (r' rfl)
 | _,_ => false
theorem same_nil (q : Lb → Lb → Bool) : nil.same q nil = true := rfl
theorem same_cons (q : Lb → Lb → Bool) (l l' : Lb) (k k' r r' : Fo) : (cons l k r).same q (cons l' k' r') = (q l l' && k.same q k' && r.same q r') := rfl
theorem same_nc (q : Lb → Lb → Bool) (l : Lb) (k r : Fo) : nil.same q (cons l k r) = false := rfl
theorem same_cn (q : Lb → Lb → Bool) (l : Lb) (k r : Fo) : (cons l k r).same q nil = false := rfl
attribute [simp] same_nil same_cons same_nc same_cn
theorem same_eq {q : Lb → Lb → Bool} (hq : ∀ a b,q a b = true ↔ a = b) {f : Fo} : ∀ g,f.same q g = true ↔ f = g := by
 refine ind (P := fun f => ∀ g,f.same q g = true ↔ f = g) (fun g => ?_) (fun l k r hk hr g => ?_) f
 ·exact cases (P := fun g => nil.same q g = true ↔ nil = g) g (by simp) (fun l k r => ⟨fun h => by simp at h,fun h => by have := congrArg len h; simp at this⟩)
 ·refine cases (P := fun g => (cons l k r).same q g = true ↔ cons l k r = g) g ⟨fun h => by simp at h,fun h => by have := congrArg len h; simp at this⟩ (fun l' k' r' => ?_)
  simp only [same_cons,Bool.and_eq_true,hq,hk,hr]
  constructor
  ·rintro ⟨⟨rfl,rfl⟩,rfl⟩; rfl
  ·intro h
   unfold cons at h
   simp only [mk.injEq,heq_eq_eq,true_and] at h
   exact ⟨⟨congrFun h.1 rfl,congrFun h.2.1 rfl⟩,congrFun h.2.2 rfl⟩
def turn (g : Fo → Fo) : Nat → Fo → Fo
 | _,⟨false,_,_,_⟩ => nil
 | 0,⟨true,l,k,r⟩ => cons (l rfl) (g (k rfl)) (r rfl)
 | n + 1,⟨true,l,k,r⟩ => cons (l rfl) (k rfl) ((r rfl).turn g n)
theorem turn_zero (g : Fo → Fo) (l : Lb) (k r : Fo) : (cons l k r).turn g 0 = cons l (g k) r := rfl
theorem turn_succ (g : Fo → Fo) (n : Nat) (l : Lb) (k r : Fo) : (cons l k r).turn g (n + 1) = cons l k (r.turn g n) := rfl
attribute [simp] turn_zero turn_succ
def Each (P : Lb → Prop) : Fo → Prop
 | ⟨false,_,_,_⟩ => True
 | ⟨true,l,k,r⟩ => P (l rfl) ∧ (k rfl).Each P ∧ (r rfl).Each P
theorem each_nil (P : Lb → Prop) : nil.Each P := trivial
theorem each_cons (P : Lb → Prop) (l : Lb) (k r : Fo) : (cons l k r).Each P ↔ P l ∧ k.Each P ∧ r.Each P := Iff.rfl
theorem none_cat (s : ByteArray) : (⟨#[]⟩ : ByteArray) ++ s = s := ByteArray.empty_append
end Fo
end Go.Proofs.YtpkppobkagdhkaaGreat
