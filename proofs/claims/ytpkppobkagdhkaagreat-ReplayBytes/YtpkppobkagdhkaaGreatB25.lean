/-
 Cl Ply.
-/
import Derived.Test.YtpkppobkagdhkaaGreatB24
set_option linter.unusedVariables false
set_option linter.unusedSimpArgs false
set_option maxRecDepth 100000
set_option maxHeartbeats 1000000
namespace Go.Proofs.YtpkppobkagdhkaaGreat
open Go.RowKit Go.Maps Utf
namespace Ar
theorem appF_n (a : Ar) (p x : Int) : (a.appF p x).1.n = a.n := by
 unfold appF
 repeat' split
 all_goals rfl
theorem befF_n (a : Ar) (p x : Int) : (a.befF p x).1.n = a.n := by
 unfold befF
 repeat' split
 all_goals rfl
theorem detF_n (a : Ar) (x : Int) : (a.detF x).1.n = a.n := by
 unfold detF
 repeat' split
 all_goals rfl
theorem movs_n (t : Nat) : ∀ (xs : List Nat) (a : Ar),(a.movs t xs).n = a.n
 | [],a => rfl
 | x :: xs,a => by
   unfold movs
   split
   ·exact movs_n t xs a
   ·exact (movs_n t xs _).trans rfl
theorem movF_n (a : Ar) (f t : Int) : (a.movF f t).1.n = a.n := by
 unfold movF
 repeat' split
 all_goals first | rfl | exact movs_n _ _ _
end Ar
structure Ps (tag : Nat → Nat) (w : World) (b : Nat) (q : Bool) (A : Ar) (k : Nat) : Prop where
 pa : Pa tag w b q A.n A.raw
 ful : A.Ful
 sz : A.Sz k
 hk : k ≤ 3000
section
variable {tag : Nat → Nat} {w : World} {b k : Nat} {q : Bool} {A : Ar}
theorem Ps.n_lt (h : Ps tag w b q A k) : A.n < 40000 := by have := h.sz.n; have := h.hk; omega
theorem Ps.txt (h : Ps tag w b q A k) (x : Nat) : (A.lb x).text.size ≤ 900000 := by have := (h.sz.lbs x).2.1; have := h.hk; omega
theorem Ps.att (h : Ps tag w b q A k) (x : Nat) : (A.lb x).attrs.length ≤ 20000 ∧ fits (A.lb x).attrs := by
 obtain ⟨_,_,t⟩ := h.sz.lbs x
 exact ⟨by have := t.len; have := h.hk; omega,t.fits⟩
theorem Ps.nm (h : Ps tag w b q A k) (x : Nat) : (A.lb x).name.size ≤ 1000000 := by have := (h.sz.lbs x).1; omega
theorem Ps.kept {w' : World} (h : Ps tag w b q A k) (kp : Kp [] w w') : Ps tag w' b q A k := ⟨h.pa.mv kp (fun _ _ => rfl),h.ful,h.sz,h.hk⟩
theorem Ps.new (w : World) (tag : Nat → Nat) : Calls Tryz.prog 32 #[] w fun e w' => ∃ b tag',e = .returned (.pointer (some ⟨b,0,none⟩)) ∧ Ps tag' w' b false Ar.first 0 ∧ Mv tag w tag' w' ∧ w.heap.size ≤ b := by
 refine (new_any w tag).mono ?_
 rintro e w' ⟨b,tag',rfl,pa,kp,hb,ht⟩
 exact ⟨b,tag',rfl,⟨pa,Ar.first_ful,Ar.Sz.first,by omega⟩,Mv.of_kp kp (fun x hx => by simp at hx) ht,hb⟩
theorem Ps.mk' (h : Ps tag w b q A k) (hk : k < 3000) (kind ns : Int) (name text : ByteArray) (l : List Att) (ao : Option Addr) (n' c' : Nat) (hr : Rp w ao n' c' l) (hl : l.length ≤ 6) (hs : ∀ a,a ∈ l → a.1.size ≤ 20 ∧ a.2.size ≤ 30) (h1 : name.size ≤ 10) (h2 : text.size ≤ 10) :
  Calls Tryz.prog 104 #[.pointer (some ⟨b,0,none⟩),.int .i64 kind,.int .i64 ns,.string name,.slice ao n' c',.string text] w fun e w' => e = .returned (.tuple #[.int .i64 (A.mkF kind ns name (uniq l) text).2.1,.int .i64 (A.mkF kind ns name (uniq l) text).2.2]) ∧ ∃ tag',Ps tag' w' b q (A.mkF kind ns name (uniq l) text).1 (k + 1) ∧ Mv tag w tag' w' := by
 obtain ⟨g,o,c,pl,r⟩ := h.pa
 have hl' := hr.len
 refine (mk_arena r h.ful.toOk h.n_lt kind ns name text l ao n' c' hr (by omega) (fun a ha => by have := hs a ha; omega) (by omega) (by omega)).mono ?_
 rintro e w' ⟨rfl,tag',pa,mv⟩
 exact ⟨rfl,tag',⟨pa,h.ful.mkF _ _ _ _ _,h.sz.mkF _ _ h1 h2 (Ar.Tiny.uniq hl hs),hk⟩,mv⟩
theorem Ps.app (h : Ps tag w b q A k) (p x : Int) :
  Calls Tryz.prog 68 #[.pointer (some ⟨b,0,none⟩),.int .i64 p,.int .i64 x] w fun e w' => e = .returned (.int .i64 (A.appF p x).2) ∧ Ps tag w' b q (A.appF p x).1 k ∧ Mv tag w tag w' := by
 obtain ⟨g,o,c,pl,r⟩ := h.pa
 refine (app_arena r h.ful (by have := h.n_lt; omega) p x).mono ?_
 rintro e w' ⟨rfl,rz⟩
 exact ⟨rfl,⟨⟨g,o,c,pl,by rw [Ar.appF_n]; exact rz.1⟩,h.ful.appF _ _,h.sz.appF _ _,h.hk⟩,rz.mv⟩
theorem Ps.bef (h : Ps tag w b q A k) (p x : Int) :
  Calls Tryz.prog 69 #[.pointer (some ⟨b,0,none⟩),.int .i64 p,.int .i64 x] w fun e w' => e = .returned (.int .i64 (A.befF p x).2) ∧ Ps tag w' b q (A.befF p x).1 k ∧ Mv tag w tag w' := by
 obtain ⟨g,o,c,pl,r⟩ := h.pa
 refine (bef_arena r h.ful (by have := h.n_lt; omega) p x).mono ?_
 rintro e w' ⟨rfl,rz⟩
 exact ⟨rfl,⟨⟨g,o,c,pl,by rw [Ar.befF_n]; exact rz.1⟩,h.ful.befF _ _,h.sz.befF _ _,h.hk⟩,rz.mv⟩
theorem Ps.det (h : Ps tag w b q A k) (x : Int) :
  Calls Tryz.prog 73 #[.pointer (some ⟨b,0,none⟩),.int .i64 x] w fun e w' => e = .returned (.int .i64 (A.detF x).2) ∧ Ps tag w' b q (A.detF x).1 k ∧ Mv tag w tag w' := by
 obtain ⟨g,o,c,pl,r⟩ := h.pa
 refine (det_arena r h.ful (by have := h.n_lt; omega) x).mono ?_
 rintro e w' ⟨rfl,rz⟩
 exact ⟨rfl,⟨⟨g,o,c,pl,by rw [Ar.detF_n]; exact rz.1⟩,h.ful.detF _,h.sz.detF _,h.hk⟩,rz.mv⟩
theorem Ps.mov (h : Ps tag w b q A k) (f t : Int) :
  Calls Tryz.prog 74 #[.pointer (some ⟨b,0,none⟩),.int .i64 f,.int .i64 t] w fun e w' => e = .returned (.int .i64 (A.movF f t).2) ∧ Ps tag w' b q (A.movF f t).1 k ∧ Mv tag w tag w' := by
 obtain ⟨g,o,c,pl,r⟩ := h.pa
 refine (mov_arena r h.ful (by have := h.n_lt; omega) f t).mono ?_
 rintro e w' ⟨rfl,rz⟩
 exact ⟨rfl,⟨⟨g,o,c,pl,by rw [Ar.movF_n]; exact rz.1⟩,h.ful.movF _ _,h.sz.movF h.ful _ _,h.hk⟩,rz.mv⟩
theorem Ps.wr (h : Ps tag w b q A k) (hk : k < 3000) (z : Int) (s : ByteArray) (hs : s.size ≤ 10) :
  Calls Tryz.prog 71 #[.pointer (some ⟨b,0,none⟩),.int .i64 z,.string s] w fun e w' => e = .returned (.int .i64 (A.wrF z s).2) ∧ ∃ tag',Ps tag' w' b q (A.wrF z s).1 (k + 1) ∧ Mv tag w tag' w' := by
 obtain ⟨g,o,c,pl,r⟩ := h.pa
 refine (wr_arena r h.ful.toOk h.n_lt z s (by omega) h.txt).mono ?_
 rintro e w' ⟨rfl,tag',pa,mv⟩
 exact ⟨rfl,tag',⟨pa,h.ful.wrF _ _,h.sz.wrF _ hs,hk⟩,mv⟩
theorem Ps.wb (h : Ps tag w b q A k) (hk : k < 3000) (z : Int) (s : ByteArray) (hs : s.size ≤ 10) :
  Calls Tryz.prog 112 #[.pointer (some ⟨b,0,none⟩),.int .i64 z,.string s] w fun e w' => e = .returned (.int .i64 (A.wbF z s).2) ∧ ∃ tag',Ps tag' w' b q (A.wbF z s).1 (k + 1) ∧ Mv tag w tag' w' := by
 obtain ⟨g,o,c,pl,r⟩ := h.pa
 refine (wb_arena r h.ful.toOk h.n_lt z s (by omega) h.txt).mono ?_
 rintro e w' ⟨rfl,tag',pa,mv⟩
 exact ⟨rfl,tag',⟨pa,h.ful.wbF _ _,h.sz.wbF _ hs,hk⟩,mv⟩
theorem Ps.mor (h : Ps tag w b q A k) (hk : k < 3000) (z : Int) (l : List Att) (ao : Option Addr) (n' c' : Nat) (hr : Rk (Qp tag) 2 w ao n' c' (cs l)) (hl : l.length ≤ 6) (hs : ∀ a,a ∈ l → a.1.size ≤ 20 ∧ a.2.size ≤ 30) :
  Calls Tryz.prog 76 #[.pointer (some ⟨b,0,none⟩),.int .i64 z,.slice ao n' c'] w fun e w' => e = .returned (.int .i64 (A.morF z (fun x => more x l)).2) ∧ ∃ tag',Ps tag' w' b q (A.morF z (fun x => more x l)).1 (k + 1) ∧ Mv tag w tag' w' := by
 obtain ⟨g,o,c,pl,r⟩ := h.pa
 have hl' := hr.len
 rw [cs_len] at hl'
 refine (mor_arena r h.n_lt z l ao n' c' hr (by omega) (fun a ha => by have := hs a ha; omega) h.att).mono ?_
 rintro e w' ⟨rfl,tag',pa,mv⟩
 exact ⟨rfl,tag',⟨pa,h.ful.morF _ _,h.sz.morF _ hl hs,hk⟩,mv⟩
theorem Ps.quirks (h : Ps tag w b q A k) (q' : Bool) :
  Calls Tryz.prog 77 #[.pointer (some ⟨b,0,none⟩),.bool q'] w fun e w' => e = .returned (.tuple #[]) ∧ Ps tag w' b q' A k ∧ Mv tag w tag w' := by
 obtain ⟨g,o,c,pl,r⟩ := h.pa
 refine (quirks_any r q').mono ?_
 rintro e w' ⟨rfl,r2,kp⟩
 exact ⟨rfl,⟨⟨g,o,c,pl,r2⟩,h.ful,h.sz,h.hk⟩,Mv.of_kp kp (fun x hx _ => by rw [List.mem_singleton.1 hx]; exact .inl r.tb) (fun _ _ => rfl)⟩
theorem Ps.par (h : Ps tag w b q A k) (z : Int) :
  Calls Tryz.prog 110 #[.pointer (some ⟨b,0,none⟩),.int .i64 z] w fun e w' => e = .returned (.tuple #[.int .i64 (A.parF z).1,.bool (A.parF z).2]) ∧ w' = w := by
 obtain ⟨g,o,c,pl,r⟩ := h.pa
 exact par_any r (by have := h.n_lt; omega) z
theorem Ps.con (h : Ps tag w b q A k) (z : Int) :
  Calls Tryz.prog 114 #[.pointer (some ⟨b,0,none⟩),.int .i64 z] w fun e w' => e = .returned (.tuple #[.int .i64 (A.conF z).1,.bool (A.conF z).2]) ∧ w' = w := by
 obtain ⟨g,o,c,pl,r⟩ := h.pa
 exact con_any r (by have := h.n_lt; omega) z
theorem Ps.kids (h : Ps tag w b q A k) (z : Int) :
  Calls Tryz.prog 29 #[.pointer (some ⟨b,0,none⟩),.int .i64 z] w fun e w' => ∃ ao n' c',e = .returned (.slice ao n' c') ∧ Made w w' 3 ao n' c' (iv (A.kidF z)) := by
 obtain ⟨g,o,c,pl,r⟩ := h.pa
 exact kids_any r h.ful.toOk (by have := h.n_lt; omega) z
theorem Ps.pure (h : Ps tag w b q A k) (x : Nat) (hx : x < A.n) :
  Calls Tryz.prog 14 #[.pointer (some ⟨b,0,none⟩),.int .i64 (x : Int)] w fun e w' => ∃ p,e = .returned (.tuple #[wv (A.lb x) p,.int .i64 0]) ∧ Kp [] w w' ∧ Nd (fun y => w.heap.size ≤ y) w' (A.lb x) (A.below x) p := by
 obtain ⟨g,o,c,pl,r⟩ := h.pa
 exact pure_any r h.ful.toOk h.n_lt x hx (fun y => ⟨(h.att y).1,(h.att y).2,h.nm y⟩)
end
end Go.Proofs.YtpkppobkagdhkaaGreat
namespace Go.Proofs.YtpkppobkagdhkaaGreat
open Utf
def num : List (Int × Nat) → Int → Option Nat
 | [],_ => none
 | p :: l,h => if p.1 = h then some p.2 else num l h
theorem num_snoc (x : Int) (n : Nat) (h : Int) : ∀ l : List (Int × Nat),num (l ++ [(x,n)]) h = (match num l h with | some y => some y | none => if x = h then some n else none)
 | [] => rfl
 | p :: l => by
   simp only [List.cons_append,num]
   split
   ·rfl
   ·exact num_snoc x n h l
theorem num_new {l : List (Int × Nat)} {x : Int} {n : Nat} {h : Int} {y : Nat} (hn : num (l ++ [(x,n)]) h = some y) : num l h = some y ∨ (x = h ∧ n = y) := by
 rw [num_snoc] at hn
 cases e : num l h with
 | some z => rw [e] at hn; exact .inl hn
 | none =>
   rw [e] at hn
   simp only at hn
   split at hn
   ·rename_i hx
    exact .inr ⟨hx,Option.some.inj hn⟩
   ·cases hn
namespace Ar
theorem txt_n (a : Ar) (p i : Nat) (s : ByteArray) : a.n ≤ (a.txt p i s).n := by
 unfold txt
 split
 ·exact Nat.le_refl _
 split
 ·split
  ·exact Nat.le_refl _
  ·exact Nat.le_succ _
 ·exact Nat.le_succ _
theorem wrF_n (a : Ar) (p : Int) (s : ByteArray) : a.n ≤ (a.wrF p s).1.n := by
 unfold wrF
 repeat' split
 all_goals first | exact Nat.le_refl _ | exact txt_n _ _ _ _
theorem wbF_n (a : Ar) (p : Int) (s : ByteArray) : a.n ≤ (a.wbF p s).1.n := by
 unfold wbF
 repeat' split
 all_goals first | exact Nat.le_refl _ | exact txt_n _ _ _ _
theorem morF_n (a : Ar) (x : Int) (g : List Att → List Att) : (a.morF x g).1.n = a.n := by
 unfold morF
 repeat' split
 all_goals rfl
theorem mkF_n (a : Ar) (kind ns : Int) (name : ByteArray) (u : List Att) (text : ByteArray) : a.n ≤ (a.mkF kind ns name u text).1.n ∧ ((a.mkF kind ns name u text).2.2 = 0 → (a.mkF kind ns name u text).2.1 = a.n ∧ a.n < (a.mkF kind ns name u text).1.n) := by
 unfold mkF
 repeat' split
 ·exact ⟨Nat.le_refl _,fun h => by cases h⟩
 ·exact ⟨Nat.le_refl _,fun h => by cases h⟩
 ·exact ⟨by show a.n ≤ a.n + 1 + 1; omega,fun _ => ⟨rfl,by show a.n < a.n + 1 + 1; omega⟩⟩
 all_goals exact ⟨Nat.le_succ _,fun _ => ⟨rfl,Nat.lt_succ_self _⟩⟩
theorem conF_lt {a : Ar} (h : a.Ful) {z : Int} (ht : (a.conF z).2 = true) : ∃ c : Nat,(a.conF z).1 = (c : Int) ∧ c < a.n := by
 unfold conF at ht ⊢
 by_cases hz : a.there z = true ∧ tmplF (a.lb z.toNat) = true
 ·rw [if_pos hz]
  obtain ⟨c,h1,h2⟩ := h.has z.toNat (there_lt hz.1).1 hz.2
  cases hk : a.kids z.toNat with
  | nil => rw [hk] at h1; cases h1
  | cons x xs => exact ⟨x,rfl,(h.toOk.kid_lt (p := z.toNat) (x := x) (by rw [hk]; exact List.mem_cons_self ..)).1⟩
 ·rw [if_neg hz] at ht
  cases ht
theorem appF_no {a : Ar} {p x : Int} (h : (a.appF p x).2 ≠ 0) : (a.appF p x).1 = a := by
 revert h
 unfold appF
 repeat' split
 all_goals first | exact fun _ => rfl | exact fun h => absurd rfl h
theorem befF_no {a : Ar} {p x : Int} (h : (a.befF p x).2 ≠ 0) : (a.befF p x).1 = a := by
 revert h
 unfold befF
 repeat' split
 all_goals first | exact fun _ => rfl | exact fun h => absurd rfl h
theorem detF_no {a : Ar} {x : Int} (h : (a.detF x).2 ≠ 0) : (a.detF x).1 = a := by
 revert h
 unfold detF
 repeat' split
 all_goals first | exact fun _ => rfl | exact fun h => absurd rfl h
theorem movF_no {a : Ar} {p x : Int} (h : (a.movF p x).2 ≠ 0) : (a.movF p x).1 = a := by
 revert h
 unfold movF
 repeat' split
 all_goals first | exact fun _ => rfl | exact fun h => absurd rfl h
theorem wrF_no {a : Ar} {p : Int} {s : ByteArray} (h : (a.wrF p s).2 ≠ 0) : (a.wrF p s).1 = a := by
 revert h
 unfold wrF
 repeat' split
 all_goals first | exact fun _ => rfl | exact fun h => absurd rfl h
theorem wbF_no {a : Ar} {p : Int} {s : ByteArray} (h : (a.wbF p s).2 ≠ 0) : (a.wbF p s).1 = a := by
 revert h
 unfold wbF
 repeat' split
 all_goals first | exact fun _ => rfl | exact fun h => absurd rfl h
theorem morF_no {a : Ar} {x : Int} {g : List Att → List Att} (h : (a.morF x g).2 ≠ 0) : (a.morF x g).1 = a := by
 revert h
 unfold morF
 repeat' split
 all_goals first | exact fun _ => rfl | exact fun h => absurd rfl h
end Ar
structure Py where
 A : Ar
 q : Bool
 M : List (Int × Nat)
namespace Py
def first : Py := ⟨Ar.first,false,[(0,0)]⟩
def nz (s : Py) (h : Int) : Nat := (num s.M h).getD 0
def kn (s : Py) (h : Int) : Bool := (num s.M h).isSome
def upd (s : Py) (x : Ar × Int) : Py × Int := (⟨x.1,s.q,s.M⟩,x.2)
def bldF (s : Py) (o : Ot) : Py × Int :=
 if (s.A.mkF o.ty o.ns o.nm (uniq o.al) o.tt).2.2 = 0 then (⟨(s.A.mkF o.ty o.ns o.nm (uniq o.al) o.tt).1,s.q,s.M ++ [(o.nd,(s.A.mkF o.ty o.ns o.nm (uniq o.al) o.tt).2.1.toNat)]⟩,0)
 else (s,(s.A.mkF o.ty o.ns o.nm (uniq o.al) o.tt).2.2)
def entF (s : Py) (h : Int) (r : Nat) : Py × Int :=
 if (s.A.conF r).2 = true then (⟨s.A,s.q,s.M ++ [(h,(s.A.conF r).1.toNat)]⟩,0) else (s,23)
def fosF (s : Py) (r p n : Nat) : Py × Int := s.upd (if (s.A.up r).isSome = true then s.A.befF r n else s.A.appF p n)
def pouF (s : Py) (r p : Nat) (t : ByteArray) : Py × Int := s.upd (if (s.A.up r).isSome = true then s.A.wbF r t else s.A.wrF p t)
def perF (s : Py) (o : Ot) (n p r : Nat) : Py × Int :=
 if o.kd = 1 then s.bldF o
 else if o.kd = 2 then s.upd (s.A.appF p n)
 else if o.kd = 3 then s.upd (s.A.befF r n)
 else if o.kd = 4 then s.fosF r p n
 else if o.kd = 5 then s.upd (s.A.wrF p o.tt)
 else if o.kd = 6 then s.pouF r p o.tt
 else if o.kd = 7 then s.upd (s.A.detF n)
 else if o.kd = 8 then s.upd (s.A.movF r p)
 else if o.kd = 9 then s.entF o.nd r
 else if o.kd = 10 then s.upd (s.A.morF n (fun x => more x o.al))
 else if o.kd = 11 then (⟨s.A,true,s.M⟩,0)
 else (s,0)
def isN (k : Int) : Bool := k == 1 || k == 9
def doF (s : Py) (o : Ot) : Py × Int :=
 if rightO o = false then (s,12)
 else if (isN o.kd && s.kn o.nd) = true then (s,24)
 else if (((!isN o.kd && !s.kn o.nd) || !s.kn o.pa) || !s.kn o.rf) = true then (s,22)
 else s.perF o (s.nz o.nd) (s.nz o.pa) (s.nz o.rf)
theorem upd_no {s : Py} {x : Ar × Int} (h : x.2 ≠ 0 → x.1 = s.A) (e : (s.upd x).2 ≠ 0) : (s.upd x).1 = s := by
 obtain ⟨A,q,M⟩ := s
 show Py.mk x.1 q M = _
 rw [h e]
theorem perF_no {s : Py} {o : Ot} {n p r : Nat} (h : (s.perF o n p r).2 ≠ 0) : (s.perF o n p r).1 = s := by
 revert h
 unfold perF
 repeat' split
 ·unfold bldF; split
  ·exact fun h => absurd rfl h
  ·exact fun _ => rfl
 ·exact upd_no Ar.appF_no
 ·exact upd_no Ar.befF_no
 ·unfold fosF; split
  ·exact upd_no Ar.befF_no
  ·exact upd_no Ar.appF_no
 ·exact upd_no Ar.wrF_no
 ·unfold pouF; split
  ·exact upd_no Ar.wbF_no
  ·exact upd_no Ar.wrF_no
 ·exact upd_no Ar.detF_no
 ·exact upd_no Ar.movF_no
 ·unfold entF; split
  ·exact fun h => absurd rfl h
  ·exact fun _ => rfl
 ·exact upd_no Ar.morF_no
 ·exact fun h => absurd rfl h
 ·exact fun _ => rfl
theorem doF_no {s : Py} {o : Ot} (h : (s.doF o).2 ≠ 0) : (s.doF o).1 = s := by
 revert h
 unfold doF
 repeat' split
 all_goals first | exact fun _ => rfl | exact perF_no
end Py
structure tinyO (o : Ot) : Prop where
 nm : o.nm.size ≤ 10
 tt : o.tt.size ≤ 10
 al : o.al.length ≤ 6
 each : ∀ a,a ∈ o.al → a.1.size ≤ 20 ∧ a.2.size ≤ 30
namespace Py
structure Fit (s : Py) (k : Nat) : Prop where
 ful : s.A.Ful
 sz : s.A.Sz k
 hk : k ≤ 1300
 z0 : num s.M 0 = some 0
 lt : ∀ h n,num s.M h = some n → n < s.A.n
 len : s.M.length ≤ k + 1
theorem first_fit : first.Fit 0 := by
 refine ⟨Ar.first_ful,Ar.Sz.first,by omega,rfl,fun h n e => ?_,Nat.le_refl _⟩
 simp only [first,num] at e
 split at e
 ·have := Option.some.inj e
  subst this
  exact Nat.one_pos
 ·cases e
theorem Fit.pos {s : Py} {k : Nat} (h : s.Fit k) : 0 < s.A.n := h.ful.toOk.pos
theorem Fit.nz_lt {s : Py} {k : Nat} (h : s.Fit k) (x : Int) : s.nz x < s.A.n := by
 unfold nz
 cases e : num s.M x with
 | none => exact h.pos
 | some n => exact h.lt x n e
theorem Fit.succ {s : Py} {k : Nat} (h : s.Fit k) (hk : k < 1300) : s.Fit (k + 1) := ⟨h.ful,h.sz.succ (Nat.le_succ _),hk,h.z0,h.lt,by have := h.len; omega⟩
theorem Fit.upd {s : Py} {k : Nat} (h : s.Fit k) (hk : k < 1300) {x : Ar × Int} (h1 : x.1.Ful) (h2 : x.1.Sz (k + 1)) (h3 : s.A.n ≤ x.1.n) : (s.upd x).1.Fit (k + 1) :=
 ⟨h1,h2,hk,h.z0,fun y n e => Nat.lt_of_lt_of_le (h.lt y n e) h3,by have := h.len; show s.M.length ≤ _; omega⟩
theorem Fit.snoc {s : Py} {k : Nat} (h : s.Fit k) (hk : k < 1300) {B : Ar} (q : Bool) (h1 : B.Ful) (h2 : B.Sz (k + 1)) (h3 : s.A.n ≤ B.n) (x : Int) (n : Nat) (hn : n < B.n) : (Py.mk B q (s.M ++ [(x,n)])).Fit (k + 1) :=
 ⟨h1,h2,hk,by show num (s.M ++ [(x,n)]) 0 = _; rw [num_snoc,h.z0],fun y m e => by
  rcases num_new e with e | ⟨_,rfl⟩
  ·exact Nat.lt_of_lt_of_le (h.lt y m e) h3
  ·exact hn,by have := h.len; show (s.M ++ [(x,n)]).length ≤ _; simp; omega⟩
theorem Fit.perF {s : Py} {k : Nat} (h : s.Fit k) (hk : k < 1300) {o : Ot} (ho : tinyO o) (n p r : Nat) : (s.perF o n p r).1.Fit (k + 1) := by
 have S1 : ∀ {a : Ar},a.Sz k → a.Sz (k + 1) := fun h => h.succ (Nat.le_succ _)
 have hb : (s.upd (s.A.befF r n)).1.Fit (k + 1) := h.upd hk (h.ful.befF _ _) (S1 (h.sz.befF _ _)) (by rw [Ar.befF_n]; exact Nat.le_refl _)
 have ha : (s.upd (s.A.appF p n)).1.Fit (k + 1) := h.upd hk (h.ful.appF _ _) (S1 (h.sz.appF _ _)) (by rw [Ar.appF_n]; exact Nat.le_refl _)
 have hw : (s.upd (s.A.wrF p o.tt)).1.Fit (k + 1) := h.upd hk (h.ful.wrF _ _) (h.sz.wrF _ ho.tt) (Ar.wrF_n _ _ _)
 unfold Py.perF
 repeat' split
 ·unfold bldF; split
  ·rename_i _ h0
   obtain ⟨m1,m2⟩ := Ar.mkF_n s.A o.ty o.ns o.nm (uniq o.al) o.tt
   obtain ⟨m2,m3⟩ := m2 h0
   exact h.snoc hk s.q (h.ful.mkF _ _ _ _ _) (h.sz.mkF _ _ ho.nm ho.tt (Ar.Tiny.uniq ho.al ho.each)) m1 _ _ (by rw [m2,Int.toNat_natCast]; exact m3)
  ·exact h.succ hk
 ·exact ha
 ·exact hb
 ·unfold fosF; split
  ·exact hb
  ·exact ha
 ·exact hw
 ·unfold pouF; split
  ·exact h.upd hk (h.ful.wbF _ _) (h.sz.wbF _ ho.tt) (Ar.wbF_n _ _ _)
  ·exact hw
 ·exact h.upd hk (h.ful.detF _) (S1 (h.sz.detF _)) (by rw [Ar.detF_n]; exact Nat.le_refl _)
 ·exact h.upd hk (h.ful.movF _ _) (S1 (h.sz.movF h.ful _ _)) (by rw [Ar.movF_n]; exact Nat.le_refl _)
 ·unfold entF; split
  ·rename_i h0
   obtain ⟨c,e1,e2⟩ := Ar.conF_lt h.ful h0
   exact h.snoc hk s.q h.ful (S1 h.sz) (Nat.le_refl _) _ _ (by rw [e1,Int.toNat_natCast]; exact e2)
  ·exact h.succ hk
 ·exact h.upd hk (h.ful.morF _ _) (h.sz.morF _ ho.al ho.each) (by rw [Ar.morF_n]; exact Nat.le_refl _)
 ·exact ⟨h.ful,S1 h.sz,hk,h.z0,h.lt,(h.succ hk).len⟩
 ·exact h.succ hk
def aft : Py → List Ot → Py
 | s,[] => s
 | s,o :: l => aft (s.doF o).1 l
def playF : Py → List Ot → Py × Nat × Int
 | s,[] => (s,0,0)
 | s,o :: l => if (s.doF o).2 = 0 then ((playF (s.doF o).1 l).1,(playF (s.doF o).1 l).2.1 + 1,(playF (s.doF o).1 l).2.2) else (s,0,(s.doF o).2)
def fil : Py → List Ot → List Ot
 | s,[] => []
 | s,o :: l => if (s.doF o).2 = 0 then o :: fil (s.doF o).1 l else fil s l
theorem play_fil : ∀ (l : List Ot) (s : Py),playF s (fil s l) = (aft s l,(fil s l).length,0)
 | [],s => rfl
 | o :: l,s => by
   unfold fil aft
   by_cases h : (s.doF o).2 = 0
   ·rw [if_pos h]
    unfold playF
    rw [if_pos h,play_fil l]
    rfl
   ·rw [if_neg h,doF_no h]
    exact play_fil l s
def Done (s : Py) (l : List Ot) : Prop := (playF s l).2.2 = 0
theorem done_cons {s : Py} {o : Ot} {l : List Ot} : Done s (o :: l) ↔ (s.doF o).2 = 0 ∧ Done (s.doF o).1 l := by
 unfold Done
 rw [playF]
 by_cases h : (s.doF o).2 = 0
 ·rw [if_pos h]
  exact ⟨fun g => ⟨h,g⟩,fun g => g.2⟩
 ·rw [if_neg h]
  exact ⟨fun g => absurd g h,fun g => absurd g.1 h⟩
theorem Done.play : ∀ {l : List Ot} {s : Py},Done s l → playF s l = (aft s l,l.length,0)
 | [],s,_ => rfl
 | o :: l,s,h => by
   obtain ⟨h1,h2⟩ := done_cons.1 h
   rw [playF,if_pos h1,h2.play]
   rfl
theorem done_fil (l : List Ot) (s : Py) : Done s (fil s l) := by unfold Done; rw [play_fil]
theorem Done.take : ∀ {l : List Ot} {s : Py} (k : Nat),Done s l → Done s (l.take k)
 | l,s,0,_ => rfl
 | [],s,k + 1,h => h
 | o :: l,s,k + 1,h => by
   obtain ⟨h1,h2⟩ := done_cons.1 h
   exact done_cons.2 ⟨h1,h2.take k⟩
theorem aft_snoc : ∀ (l : List Ot) (s : Py) (o : Ot),aft s (l ++ [o]) = ((aft s l).doF o).1
 | [],s,o => rfl
 | x :: l,s,o => aft_snoc l _ o
theorem fil_snoc : ∀ (l : List Ot) (s : Py) (o : Ot),fil s (l ++ [o]) = if ((aft s l).doF o).2 = 0 then fil s l ++ [o] else fil s l
 | [],s,o => by
   show fil s [o] = _
   unfold fil aft
   split <;> rfl
 | x :: l,s,o => by
   show fil s (x :: (l ++ [o])) = _
   unfold fil aft
   by_cases h : (s.doF x).2 = 0
   ·rw [if_pos h,if_pos h,fil_snoc l]
    split <;> rfl
   ·rw [if_neg h,if_neg h,doF_no h]
    exact fil_snoc l s o
theorem fil_mem : ∀ (l : List Ot) (s : Py) (o : Ot),o ∈ fil s l → o ∈ l ∧ rightO o = true
 | [],s,o,h => by cases h
 | x :: l,s,o,h => by
   unfold fil at h
   by_cases hx : (s.doF x).2 = 0
   ·rw [if_pos hx] at h
    rcases List.mem_cons.1 h with rfl | h
    ·refine ⟨List.mem_cons_self ..,?_⟩
     cases hr : rightO o with
     | true => rfl
     | false => unfold doF at hx; rw [if_pos hr] at hx; cases hx
    ·have := fil_mem l _ o h
     exact ⟨List.mem_cons_of_mem _ this.1,this.2⟩
   ·rw [if_neg hx] at h
    have := fil_mem l s o h
    exact ⟨List.mem_cons_of_mem _ this.1,this.2⟩
theorem fil_len : ∀ (l : List Ot) (s : Py),(fil s l).length ≤ l.length
 | [],s => Nat.le_refl _
 | x :: l,s => by
   unfold fil
   split
   ·have := fil_len l (s.doF x).1
    simp only [List.length_cons]
    omega
   ·have := fil_len l s
    simp only [List.length_cons]
    omega
theorem play_step {s : Py} {l : List Ot} {i : Nat} {r : Py × Nat × Int} (hi : i < l.length) (h : playF s (l.drop i) = r) : playF s (l.drop i) = (if (s.doF l[i]).2 = 0 then ((playF (s.doF l[i]).1 (l.drop (i + 1))).1,(playF (s.doF l[i]).1 (l.drop (i + 1))).2.1 + 1,(playF (s.doF l[i]).1 (l.drop (i + 1))).2.2) else (s,0,(s.doF l[i]).2)) := by
 rw [List.drop_eq_getElem_cons hi,playF]
end Py
end Go.Proofs.YtpkppobkagdhkaaGreat
