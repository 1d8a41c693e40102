/-
 Grown Ops Enc Visits.
-/
import Derived.Test.YtpkppobkagdhkaaGreatB4
import Derived.Test.YtpkppobkagdhkaaGreatB6
set_option linter.unusedVariables false
set_option linter.unusedSimpArgs false
set_option maxRecDepth 100000
set_option maxHeartbeats 1000000
namespace Go.Proofs.YtpkppobkagdhkaaGreat
def TMPL : ByteArray := ⟨#[116,101,109,112,108,97,116,101]⟩
def tmplF (l : Lb) : Bool := decide (l.kind = 3 ∧ l.ns = 1 ∧ l.name = TMPL)
def sameL (a b : Lb) : Bool := decide (a = b)
def sameT (a : Lb) (f : Fo) (b : Lb) (g : Fo) : Bool := sameL a b && f.same sameL g
theorem sameT_iff (a : Lb) (f : Fo) (b : Lb) (g : Fo) : sameT a f b g = true ↔ a = b ∧ f = g := by
 unfold sameT
 rw [Bool.and_eq_true,Fo.same_eq (fun a b => by simp [sameL]) g]
 simp [sameL]
end Go.Proofs.YtpkppobkagdhkaaGreat
namespace Go.Proofs.YtpkppobkagdhkaaGreat
open Go.RowKit Utf
structure Ot where
 kd : Int
 nd : Int
 pa : Int
 rf : Int
 ty : Int
 ns : Int
 nm : ByteArray
 al : List Att
 tt : ByteArray
abbrev Sl := Option Addr × Nat × Nat
def oc (o : Ot) (p : Sl) : Array Value := #[.int .i64 o.kd,.int .i64 o.nd,.int .i64 o.pa,.int .i64 o.rf,.int .i64 o.ty,.int .i64 o.ns,.string o.nm,.slice p.1 p.2.1 p.2.2,.string o.tt]
def ov (o : Ot) (p : Sl) : Value := .agg #[.int .i64 o.kd,.int .i64 o.nd,.int .i64 o.pa,.int .i64 o.rf,.int .i64 o.ty,.int .i64 o.ns,.string o.nm,.slice p.1 p.2.1 p.2.2,.string o.tt]
def e0 : ByteArray := ⟨#[]⟩
def sameO (a b : Ot) : Bool := (a.kd == b.kd) && ((a.nd == b.nd) && ((a.pa == b.pa) && ((a.rf == b.rf) && ((a.ty == b.ty) && ((a.ns == b.ns) && (eqs a.nm b.nm && (eqs a.tt b.tt && same a.al b.al)))))))
theorem sameO_iff {a b : Ot} : sameO a b = true ↔ a = b := by
 obtain ⟨a1,a2,a3,a4,a5,a6,a7,a8,a9⟩ := a
 obtain ⟨b1,b2,b3,b4,b5,b6,b7,b8,b9⟩ := b
 simp only [sameO,Bool.and_eq_true,beq_iff_eq,eqs_iff,same,decide_eq_true_eq,Ot.mk.injEq]
 constructor
 ·rintro ⟨h1,h2,h3,h4,h5,h6,h7,h8,h9⟩
  exact ⟨h1,h2,h3,h4,h5,h6,h7,h9,h8⟩
 ·rintro ⟨h1,h2,h3,h4,h5,h6,h7,h8,h9⟩
  exact ⟨h1,h2,h3,h4,h5,h6,h7,h9,h8⟩
def inR (n : Int) : Bool := decide (0 ≤ n) && decide (n ≤ 2147483647)
def zr (l : List Int) (x y : ByteArray) (q : List Att) : Bool := l.all (fun n => n == 0) && (eqs x e0 && (eqs y e0 && q.isEmpty))
def mk3 (t : Int) : Bool := t == 2 || t == 3 || t == 5
def rightK (o : Ot) : Bool :=
 if o.kd = 1 then mk3 o.ty && ((o.pa == 0) && (o.rf == 0))
 else if o.kd = 2 then zr [o.rf,o.ty,o.ns] o.nm o.tt o.al
 else if o.kd = 3 ∨ o.kd = 9 then zr [o.pa,o.ty,o.ns] o.nm o.tt o.al
 else if o.kd = 4 then zr [o.ty,o.ns] o.nm o.tt o.al
 else if o.kd = 5 then zr [o.nd,o.rf,o.ty,o.ns] o.nm e0 o.al
 else if o.kd = 6 then zr [o.nd,o.ty,o.ns] o.nm e0 o.al
 else if o.kd = 7 then zr [o.pa,o.rf,o.ty,o.ns] o.nm o.tt o.al
 else if o.kd = 8 then zr [o.nd,o.ty,o.ns] o.nm o.tt o.al
 else if o.kd = 10 then zr [o.pa,o.rf,o.ty,o.ns] o.nm o.tt []
 else if o.kd = 11 then zr [o.nd,o.pa,o.rf,o.ty,o.ns] o.nm o.tt o.al
 else false
def rightO (o : Ot) : Bool := (inR o.nd && (inR o.pa && inR o.rf)) && ((decide (0 ≤ o.ns) && decide (o.ns ≤ 2)) && rightK o)
def kk (k : Int) : Bool := decide (1 ≤ k) && decide (k ≤ 11)
def onlyO (o : Ot) : Ot :=
 if o.kd = 1 then ⟨o.kd,o.nd,0,0,o.ty,o.ns,o.nm,o.al,o.tt⟩
 else if o.kd = 2 then ⟨o.kd,o.nd,o.pa,0,0,0,e0,[],e0⟩
 else if o.kd = 3 ∨ o.kd = 9 then ⟨o.kd,o.nd,0,o.rf,0,0,e0,[],e0⟩
 else if o.kd = 4 then ⟨o.kd,o.nd,o.pa,o.rf,0,0,e0,[],e0⟩
 else if o.kd = 5 then ⟨o.kd,0,o.pa,0,0,0,e0,[],o.tt⟩
 else if o.kd = 6 then ⟨o.kd,0,o.pa,o.rf,0,0,e0,[],o.tt⟩
 else if o.kd = 7 then ⟨o.kd,o.nd,0,0,0,0,e0,[],e0⟩
 else if o.kd = 8 then ⟨o.kd,0,o.pa,o.rf,0,0,e0,[],e0⟩
 else if o.kd = 10 then ⟨o.kd,o.nd,0,0,0,0,e0,o.al,e0⟩
 else if o.kd = 11 then ⟨o.kd,0,0,0,0,0,e0,[],e0⟩
 else ⟨0,0,0,0,0,0,e0,[],e0⟩
theorem isE {l : List Att} : same l [] = l.isEmpty := by
 unfold same
 cases l <;> simp
theorem prog_right (o : Ot) : (kk o.kd && (sameO o (onlyO o) && (inR o.nd && (inR o.pa && (inR o.rf && (decide (0 ≤ o.ns) && (decide (o.ns ≤ 2) && (o.kd != 1 || mk3 o.ty)))))))) = rightO o := by
 obtain ⟨k,a2,a3,a4,a5,a6,a7,a8,a9⟩ := o
 have z0 : inR 0 = true := by decide
 have z1 : ∀ x,eqs x x = true := eqs_refl
 have z2 : ∀ l : List Att,same l l = true := fun l => same_yes rfl
 by_cases hk : 1 ≤ k ∧ k ≤ 11
 ·obtain rfl | rfl | rfl | rfl | rfl | rfl | rfl | rfl | rfl | rfl | rfl : k = 1 ∨ k = 2 ∨ k = 3 ∨ k = 4 ∨ k = 5 ∨ k = 6 ∨ k = 7 ∨ k = 8 ∨ k = 9 ∨ k = 10 ∨ k = 11 := by omega
  all_goals
   simp only [kk,onlyO,sameO,rightO,rightK,zr,isE,z1,z2,List.all_cons,List.all_nil]
   simp [isE]
   try (rw [Bool.eq_iff_iff]; simp only [Bool.and_eq_true,Bool.or_eq_true,beq_iff_eq,decide_eq_true_eq]; constructor <;> intro h <;> simp_all)
 ·have h1 : kk k = false := by
   unfold kk
   simp [isE]
   omega
  have h2 : rightK ⟨k,a2,a3,a4,a5,a6,a7,a8,a9⟩ = false := by
   unfold rightK
   simp only
   repeat rw [if_neg (by omega)]
  simp only [rightO,h1,h2]
  simp
def nb (n : Int) : Nat → List Int
 | 0 => []
 | k + 1 => n / 256 ^ k % 256 :: nb n k
def tb (s : ByteArray) : List Int := nb s.size 3 ++ bytesOf s
def ab : List Att → List Int
 | [] => []
 | a :: l => tb a.1 ++ (tb a.2 ++ ab l)
def ob (o : Ot) : List Int := nb o.kd 1 ++ (nb o.nd 4 ++ (nb o.pa 4 ++ (nb o.rf 4 ++ (nb o.ty 1 ++ (nb o.ns 1 ++ (tb o.nm ++ (nb o.al.length 2 ++ (ab o.al ++ tb o.tt))))))))
def obs : List Ot → List Int
 | [] => []
 | o :: l => ob o ++ obs l
theorem ab_append : ∀ l m,ab (l ++ m) = ab l ++ ab m
 | [],m => rfl
 | a :: l,m => by simp only [List.cons_append,ab,ab_append l m,List.append_assoc]
theorem obs_append : ∀ l m,obs (l ++ m) = obs l ++ obs m
 | [],m => rfl
 | a :: l,m => by simp only [List.cons_append,obs,obs_append l m,List.append_assoc]
theorem nb_len (n : Int) : ∀ k,(nb n k).length = k
 | 0 => rfl
 | k + 1 => by simp [nb,nb_len n k]
theorem nb_byt (n : Int) : ∀ k,byt (nb n k)
 | 0 => fun x hx => by simp [nb] at hx
 | k + 1 => fun x hx => by
   simp only [nb,List.mem_cons] at hx
   rcases hx with rfl | hx
   ·omega
   ·exact nb_byt n k x hx
theorem byt_append {l m : List Int} (h1 : byt l) (h2 : byt m) : byt (l ++ m) := fun x hx => (List.mem_append.1 hx).elim (h1 x) (h2 x)
theorem tb_byt (s : ByteArray) : byt (tb s) := byt_append (nb_byt _ _) (bytes_byt s)
theorem ab_byt : ∀ l,byt (ab l)
 | [] => fun x hx => by simp [ab] at hx
 | a :: l => byt_append (tb_byt _) (byt_append (tb_byt _) (ab_byt l))
theorem ob_byt (o : Ot) : byt (ob o) := byt_append (nb_byt _ _) (byt_append (nb_byt _ _) (byt_append (nb_byt _ _) (byt_append (nb_byt _ _) (byt_append (nb_byt _ _) (byt_append (nb_byt _ _) (byt_append (tb_byt _) (byt_append (nb_byt _ _) (byt_append (ab_byt _) (tb_byt _)))))))))
theorem obs_byt : ∀ l,byt (obs l)
 | [] => fun x hx => by simp [obs] at hx
 | o :: l => byt_append (ob_byt o) (obs_byt l)
theorem tb_len (s : ByteArray) : (tb s).length = s.size + 3 := by
 unfold tb
 rw [List.length_append,nb_len,bytes_len]
 omega
def fitA (l : List Att) : Prop := ∀ a,a ∈ l → a.1.size ≤ 16777215 ∧ a.2.size ≤ 16777215
def fitO (o : Ot) : Prop := o.nm.size ≤ 16777215 ∧ o.tt.size ≤ 16777215 ∧ o.al.length ≤ 65535 ∧ fitA o.al
theorem ob_len (o : Ot) : (ob o).length = 23 + o.nm.size + o.tt.size + (ab o.al).length := by
 unfold ob
 simp only [List.length_append,nb_len,tb_len]
 omega
end Go.Proofs.YtpkppobkagdhkaaGreat
namespace Go.Proofs.YtpkppobkagdhkaaGreat
abbrev Vt := Nat × Lb × Fo
def Fo.vis : Fo → Nat → List Vt
 | ⟨false,_,_,_⟩,_ => []
 | ⟨true,l,k,r⟩,d => (d,l rfl,k rfl) :: ((k rfl).vis (d + 1) ++ (r rfl).vis d)
theorem vis_nil (d : Nat) : Fo.nil.vis d = [] := rfl
theorem vis_cons (l : Lb) (k r : Fo) (d : Nat) : (Fo.cons l k r).vis d = (d,l,k) :: (k.vis (d + 1) ++ r.vis d) := rfl
def sameV (q : Lb → Lb → Bool) : List Vt → List Vt → Bool
 | [],[] => true
 | v :: S,u :: T => q v.2.1 u.2.1 && decide (v.2.2.len = u.2.2.len) && sameV q S T
 | _,_ => false
theorem same_vis {q : Lb → Lb → Bool} (hq : ∀ a b,q a b = true ↔ a = b) (f : Fo) : ∀ g d e X Y,f.len = g.len → sameV q (f.vis d ++ X) (g.vis e ++ Y) = (f.same q g && sameV q X Y) := by
 refine Fo.ind (P := fun f => ∀ g d e X Y,f.len = g.len → sameV q (f.vis d ++ X) (g.vis e ++ Y) = (f.same q g && sameV q X Y)) (fun g d e X Y h => ?_) (fun l k r hk hr g d e X Y h => ?_) f
 ·rw [Fo.len_zero.1 h.symm]
  simp [vis_nil]
 ·revert h
  refine Fo.cases (P := fun g => (Fo.cons l k r).len = g.len → sameV q ((Fo.cons l k r).vis d ++ X) (g.vis e ++ Y) = ((Fo.cons l k r).same q g && sameV q X Y)) g (fun h => by simp at h) (fun l' k' r' h => ?_)
  rw [vis_cons,vis_cons,List.cons_append,List.cons_append,sameV,Fo.same_cons]
  by_cases hl : k.len = k'.len
  ·rw [List.append_assoc,List.append_assoc,hk k' _ _ _ _ hl,hr r' _ _ _ _ (by simpa using h)]
   simp [hl,Bool.and_assoc]
  ·have : k.same q k' = false := by
    rw [Bool.eq_false_iff]
    intro h1
    exact hl (congrArg Fo.len ((Fo.same_eq hq k').1 h1))
   simp [hl,this]
end Go.Proofs.YtpkppobkagdhkaaGreat
