/-
 Woods Places.
-/
import Derived.Test.YtpkppobkagdhkaaGreatB4
import Derived.Test.YtpkppobkagdhkaaGreatRows
import Derived.WalkLawsBesides
import Derived.Deep.RegionHeld3
set_option linter.unusedVariables false
set_option linter.unusedSimpArgs false
set_option maxRecDepth 100000
set_option maxHeartbeats 1000000
namespace Go.Proofs.YtpkppobkagdhkaaGreat
open Go.RowKit
abbrev Any : Nat → Prop := fun _ => True
structure Rk (Q : Nat → Prop) (K : Nat) (w : World) (ao : Option Addr) (n c : Nat) (xs : List Value) : Prop where
 len : xs.length = n * K
 cap : n ≤ c
 at' : 0 < n → ∃ b off cur e,Q b ∧ ao = some ⟨b,off,none⟩ ∧ w.heap[b]? = some (.cells cur e (0,0)) ∧ ∀ j,j < n * K → cur[off + j]? = xs[j]?
def Sm (Q : Nat → Prop) (w w' : World) : Prop := ∀ x,Q x → x < w.heap.size → w'.heap[x]? = w.heap[x]?
theorem Kp.sm {w w' : World} (k : Kp [] w w') (Q : Nat → Prop) : Sm Q w w' := fun x _ hx => k.block x hx (by simp)
theorem Kp.sms {S : List Nat} {w w' : World} (k : Kp S w w') {Q : Nat → Prop} (h : ∀ x,Q x → x ∉ S) : Sm Q w w' := fun x hq hx => k.block x hx (h x hq)
theorem Rk.keep {Q : Nat → Prop} {K : Nat} {w w' : World} {ao : Option Addr} {n c : Nat} {xs : List Value} (h : Rk Q K w ao n c xs) (hs : Sm Q w w') : Rk Q K w' ao n c xs := by
 refine ⟨h.len,h.cap,fun hn => ?_⟩
 obtain ⟨b,off,cur,e,hq,h1,h2,h3⟩ := h.at' hn
 exact ⟨b,off,cur,e,hq,h1,by rw [hs b hq (Array.getElem?_eq_some_iff.1 h2).1]; exact h2,h3⟩
theorem Rk.kept {Q : Nat → Prop} {K : Nat} {w w' : World} {ao : Option Addr} {n c : Nat} {xs : List Value} (h : Rk Q K w ao n c xs) (k : Kp [] w w') : Rk Q K w' ao n c xs := h.keep (k.sm Q)
theorem Rk.mono {Q R : Nat → Prop} {K : Nat} {w : World} {ao : Option Addr} {n c : Nat} {xs : List Value} (h : Rk Q K w ao n c xs) (hr : ∀ x,x < w.heap.size → Q x → R x) : Rk R K w ao n c xs := by
 refine ⟨h.len,h.cap,fun hn => ?_⟩
 obtain ⟨b,off,cur,e,hq,h1,h2,h3⟩ := h.at' hn
 exact ⟨b,off,cur,e,hr b (Array.getElem?_eq_some_iff.1 h2).1 hq,h1,h2,h3⟩
theorem Rk.of_own {K : Nat} {w : World} {e : TypeId} {ao : Option Addr} {n m c : Nat} {xs : List Value} {Q : Nat → Prop} (h : OwnK K w e (.slice ao n c) m xs) (hm : m = n) (hq : ∀ x,x ∈ blk (.slice ao n c) → Q x) : Rk Q K w ao n c xs := by
 subst hm
 obtain ⟨h0,h⟩ := h
 rcases h with ⟨h1,h2⟩ | ⟨g,o,cap,cur,hv,hg,h1,h2,h3,h4⟩
 ·simp only [Value.slice.injEq] at h1
  obtain ⟨rfl,_,rfl⟩ := h1
  subst h2
  exact ⟨h0,Nat.le_refl _,fun hn => by omega⟩
 ·simp only [Value.slice.injEq] at hv
  obtain ⟨rfl,_,rfl⟩ := hv
  exact ⟨h0,h1,fun hn => ⟨g,o,cur,e,hq g (by simp [blk]),rfl,hg,h4⟩⟩
theorem Rk.nil (Q : Nat → Prop) (K : Nat) (w : World) (ao : Option Addr) (c : Nat) : Rk Q K w ao 0 c [] := ⟨by simp,Nat.zero_le _,fun hn => by omega⟩
theorem Rk.det {Q R : Nat → Prop} {K : Nat} {w : World} {ao : Option Addr} {n c : Nat} {xs ys : List Value} (h : Rk Q K w ao n c xs) (k : Rk R K w ao n c ys) : xs = ys := by
 have h1 := h.len
 have h2 := k.len
 apply List.ext_getElem?
 intro j
 by_cases hj : j < n * K
 ·have hn : 0 < n := Nat.pos_of_ne_zero (fun e => by subst e; simp at hj)
  obtain ⟨b,off,cur,e,_,e1,e2,e3⟩ := h.at' hn
  obtain ⟨b',off',cur',e',_,f1,f2,f3⟩ := k.at' hn
  rw [e1] at f1
  simp only [Option.some.injEq,Addr.mk.injEq] at f1
  obtain ⟨rfl,rfl,_⟩ := f1
  rw [e2] at f2
  simp only [Option.some.injEq,Obj.cells.injEq] at f2
  obtain ⟨rfl,_⟩ := f2
  rw [← e3 j hj,← f3 j hj]
 ·rw [List.getElem?_eq_none (by omega),List.getElem?_eq_none (by omega)]
theorem Rk.take {Q : Nat → Prop} {K : Nat} {w : World} {ao : Option Addr} {n c : Nat} {xs : List Value} (h : Rk Q K w ao n c xs) (k : Nat) (hk : k ≤ n) : Rk Q K w ao k c (xs.take (k * K)) := by
 have hl := h.len
 have hm := Nat.mul_le_mul_right K hk
 refine ⟨by rw [List.length_take]; omega,by have := h.cap; omega,fun hn => ?_⟩
 obtain ⟨b,off,cur,e,hq,h1,h2,h3⟩ := h.at' (by omega)
 exact ⟨b,off,cur,e,hq,h1,h2,fun j hj => by rw [h3 j (by omega),List.getElem?_take_of_lt hj]⟩
theorem Rk.src {P : Program} {t e : TypeId} {K : Nat} {Q : Nat → Prop} (ht : P.underlying t = some (.slice e)) {w : World} {ao : Option Addr} {n c : Nat} {xs : List Value} (h : Rk Q K w ao n c xs) (h1 : ∀ u,u ∈ xs → u.oneCell' = true) : Src P K t (.slice ao n c) n xs w := by
 have hl := h.len
 rcases Nat.eq_zero_or_pos n with h0 | h0
 ·subst h0
  have : xs = [] := List.eq_nil_of_length_eq_zero (by simpa using hl)
  subst this
  cases ao with
  | none => exact Src.ofNil w ht c
  | some a => exact Src.ofSlice w ht a 0 c [] (by simp) (fun j u hj => by simp at hj) (fun u hu => by simp at hu)
 ·obtain ⟨b,off,cur,e',hq,rfl,h2,h3⟩ := h.at' h0
  refine Src.ofSlice w ht ⟨b,off,none⟩ n c xs hl (fun j u hj => ?_) h1
  have hjl := (List.getElem?_eq_some_iff.1 hj).1
  rw [Addr.add_lit,cell_of h2,h3 j (by omega)]
  exact hj
theorem Rk.rp {Q : Nat → Prop} {w : World} {ao : Option Addr} {n c : Nat} {l : List Att} (h : Rk Q 2 w ao n c (cs l)) : Rp w ao n c l := by
 have h0 := h.len
 rw [cs_len] at h0
 refine ⟨by omega,h.cap,fun j hj => ?_⟩
 obtain ⟨b,off,cur,e,hq,h1,h2,h3⟩ := h.at' (by omega)
 exact ⟨b,off,h1,by rw [cell_of h2,h3 j hj]⟩
theorem Mp.rk {w w' : World} {ao : Option Addr} {n c : Nat} {l : List Att} (h : Mp w w' ao n c l) {Q : Nat → Prop} (hq : ∀ x,w.heap.size ≤ x → Q x) : Rk Q 2 w' ao n c (cs l) :=
 Rk.of_own h.1 rfl (fun x hx => hq x (h.2.2 x hx))
abbrev Pl := (Option Addr × Nat × Nat) × (Option Addr × Nat × Nat)
def six (l : Lb) (p : Pl) : List Value := [.int .i64 l.kind,.int .i64 l.ns,.string l.name,.slice p.1.1 p.1.2.1 p.1.2.2,.string l.text,.slice p.2.1 p.2.2.1 p.2.2.2]
def wv (l : Lb) (p : Pl) : Value := .agg #[.int .i64 l.kind,.int .i64 l.ns,.string l.name,.slice p.1.1 p.1.2.1 p.1.2.2,.string l.text,.slice p.2.1 p.2.2.1 p.2.2.2]
theorem six_len (l : Lb) (p : Pl) : (six l p).length = 6 := rfl
def Lf (Q : Nat → Prop) (w : World) : Fo → List Value → Prop
 | ⟨false,_,_,_⟩,xs => xs = []
 | ⟨true,l,k,r⟩,xs => ∃ (p : Pl) (zs ys : List Value),xs = six (l rfl) p ++ ys ∧ Rk Q 2 w p.1.1 p.1.2.1 p.1.2.2 (cs (l rfl).attrs) ∧ Rk Q 6 w p.2.1 p.2.2.1 p.2.2.2 zs ∧ Lf Q w (k rfl) zs ∧ Lf Q w (r rfl) ys
def Rt (Q : Nat → Prop) (w : World) (bo : Option Addr) (m d : Nat) (f : Fo) : Prop := ∃ zs,Rk Q 6 w bo m d zs ∧ Lf Q w f zs
structure Nd (Q : Nat → Prop) (w : World) (l : Lb) (k : Fo) (p : Pl) : Prop where
 at' : Rk Q 2 w p.1.1 p.1.2.1 p.1.2.2 (cs l.attrs)
 kids : Rt Q w p.2.1 p.2.2.1 p.2.2.2 k
theorem Lf.nil (Q : Nat → Prop) (w : World) : Lf Q w .nil [] := rfl
theorem Lf.nil_iff {Q : Nat → Prop} {w : World} {xs : List Value} : Lf Q w .nil xs ↔ xs = [] := Iff.rfl
theorem Lf.cons_iff {Q : Nat → Prop} {w : World} {l : Lb} {k r : Fo} {xs : List Value} : Lf Q w (.cons l k r) xs ↔ ∃ (p : Pl) (ys : List Value),xs = six l p ++ ys ∧ Nd Q w l k p ∧ Lf Q w r ys := by
 constructor
 ·rintro ⟨p,zs,ys,h1,h2,h3,h6,h7⟩
  exact ⟨p,ys,h1,⟨h2,⟨zs,h3,h6⟩⟩,h7⟩
 ·rintro ⟨p,ys,h1,⟨h2,⟨zs,h3,h6⟩⟩,h7⟩
  exact ⟨p,zs,ys,h1,h2,h3,h6,h7⟩
theorem Lf.cons {Q : Nat → Prop} {w : World} {l : Lb} {k r : Fo} {p : Pl} {ys : List Value} (h : Nd Q w l k p) (hr : Lf Q w r ys) : Lf Q w (.cons l k r) (six l p ++ ys) := Lf.cons_iff.2 ⟨p,ys,rfl,h,hr⟩
theorem Lf.len {Q : Nat → Prop} {w : World} {f : Fo} : ∀ {xs},Lf Q w f xs → xs.length = f.len * 6 := by
 refine Fo.ind (P := fun f => ∀ {xs},Lf Q w f xs → xs.length = f.len * 6) (fun {xs} h => ?_) (fun l k r _ hr {xs} h => ?_) f
 ·rw [Lf.nil_iff.1 h]; rfl
 ·obtain ⟨p,ys,rfl,_,h2⟩ := Lf.cons_iff.1 h
  rw [List.length_append,six_len,hr h2,Fo.len_cons]; omega
theorem Lf.keep {Q : Nat → Prop} {w w' : World} (hs : Sm Q w w') {f : Fo} : ∀ {xs},Lf Q w f xs → Lf Q w' f xs := by
 refine Fo.ind (P := fun f => ∀ {xs},Lf Q w f xs → Lf Q w' f xs) (fun {xs} h => h) (fun l k r hk hr {xs} h => ?_) f
 obtain ⟨p,ys,rfl,⟨h1,⟨zs,h2,h3⟩⟩,h6⟩ := Lf.cons_iff.1 h
 exact Lf.cons ⟨h1.keep hs,⟨zs,h2.keep hs,hk h3⟩⟩ (hr h6)
theorem Rt.keep {Q : Nat → Prop} {w w' : World} {bo : Option Addr} {m d : Nat} {f : Fo} (h : Rt Q w bo m d f) (hs : Sm Q w w') : Rt Q w' bo m d f := by
 obtain ⟨zs,h1,h2⟩ := h
 exact ⟨zs,h1.keep hs,h2.keep hs⟩
theorem Nd.keep {Q : Nat → Prop} {w w' : World} {l : Lb} {f : Fo} {p : Pl} (h : Nd Q w l f p) (hs : Sm Q w w') : Nd Q w' l f p := ⟨h.at'.keep hs,h.kids.keep hs⟩
theorem Rt.kept {Q : Nat → Prop} {w w' : World} {bo : Option Addr} {m d : Nat} {f : Fo} (h : Rt Q w bo m d f) (k : Kp [] w w') : Rt Q w' bo m d f := h.keep (k.sm Q)
theorem Nd.kept {Q : Nat → Prop} {w w' : World} {l : Lb} {f : Fo} {p : Pl} (h : Nd Q w l f p) (k : Kp [] w w') : Nd Q w' l f p := h.keep (k.sm Q)
theorem Lf.mono {Q R : Nat → Prop} {w : World} (hr : ∀ x,x < w.heap.size → Q x → R x) {f : Fo} : ∀ {xs},Lf Q w f xs → Lf R w f xs := by
 refine Fo.ind (P := fun f => ∀ {xs},Lf Q w f xs → Lf R w f xs) (fun {xs} h => h) (fun l k r hk hr' {xs} h => ?_) f
 obtain ⟨p,ys,rfl,⟨h1,⟨zs,h2,h3⟩⟩,h6⟩ := Lf.cons_iff.1 h
 exact Lf.cons ⟨h1.mono hr,⟨zs,h2.mono hr,hk h3⟩⟩ (hr' h6)
theorem Rt.mono {Q R : Nat → Prop} {w : World} {bo : Option Addr} {m d : Nat} {f : Fo} (h : Rt Q w bo m d f) (hr : ∀ x,x < w.heap.size → Q x → R x) : Rt R w bo m d f := by
 obtain ⟨zs,h1,h2⟩ := h
 exact ⟨zs,h1.mono hr,h2.mono hr⟩
theorem Nd.mono {Q R : Nat → Prop} {w : World} {l : Lb} {f : Fo} {p : Pl} (h : Nd Q w l f p) (hr : ∀ x,x < w.heap.size → Q x → R x) : Nd R w l f p := ⟨h.at'.mono hr,h.kids.mono hr⟩
theorem Nd.any {Q : Nat → Prop} {w : World} {l : Lb} {f : Fo} {p : Pl} (h : Nd Q w l f p) : Nd Any w l f p := h.mono (fun _ _ _ => trivial)
theorem six_inj {l m : Lb} {p q : Pl} {ys zs : List Value} (h : six l p ++ ys = six m q ++ zs) : l.kind = m.kind ∧ l.ns = m.ns ∧ l.name = m.name ∧ l.text = m.text ∧ p = q ∧ ys = zs := by
 simp only [six,List.cons_append,List.nil_append,List.cons.injEq,Value.int.injEq,Value.string.injEq,Value.slice.injEq,true_and] at h
 obtain ⟨h1,h2,h3,⟨h4,h5,h6⟩,h7,⟨h8,h9,h10⟩,h11⟩ := h
 exact ⟨h1,h2,h3,h7,by
  obtain ⟨⟨a,b,c⟩,d,e,f⟩ := p
  obtain ⟨⟨a',b',c'⟩,d',e',f'⟩ := q
  simp only at h4 h5 h6 h8 h9 h10
  subst h4 h5 h6 h8 h9 h10
  rfl,h11⟩
theorem Lf.det {Q R : Nat → Prop} {w : World} {f : Fo} : ∀ {g xs},Lf Q w f xs → Lf R w g xs → f = g := by
 refine Fo.ind (P := fun f => ∀ {g xs},Lf Q w f xs → Lf R w g xs → f = g) (fun {g xs} h h' => ?_) (fun l k r hk hr {g xs} h h' => ?_) f
 ·rw [Lf.nil_iff.1 h] at h'
  have := h'.len
  exact (Fo.len_zero.1 (by simp at this; omega)).symm
 ·revert h'
  refine Fo.cases (P := fun g => Lf R w g xs → Fo.cons l k r = g) g (fun h' => ?_) (fun l' k' r' h' => ?_)
  ·rw [Lf.nil_iff.1 h'] at h
   have := h.len
   simp at this
  ·obtain ⟨p,ys,rfl,⟨h1,⟨zs,h2,h3⟩⟩,h6⟩ := Lf.cons_iff.1 h
   obtain ⟨p',ys',e,⟨h1',⟨zs',h2',h3'⟩⟩,h6'⟩ := Lf.cons_iff.1 h'
   obtain ⟨e1,e2,e3,e4,rfl,rfl⟩ := six_inj e
   have ea : l.attrs = l'.attrs := cs_inj _ _ (h1.det h1')
   obtain rfl := h2.det h2'
   obtain rfl := hk h3 h3'
   obtain rfl := hr h6 h6'
   have : l = l' := by
    obtain ⟨a,b,c,d,e⟩ := l
    obtain ⟨a',b',c',d',e'⟩ := l'
    simp only [Lb.kind,Lb.ns,Lb.name,Lb.text,Lb.attrs] at e1 e2 e3 e4 ea
    subst e1 e2 e3 e4 ea
    rfl
   rw [this]
theorem Rt.det {Q R : Nat → Prop} {w : World} {bo : Option Addr} {m d : Nat} {f g : Fo} (h : Rt Q w bo m d f) (k : Rt R w bo m d g) : f = g := by
 obtain ⟨zs,h1,h2⟩ := h
 obtain ⟨zs',k1,k2⟩ := k
 obtain rfl := h1.det k1
 exact h2.det k2
theorem Rt.nil (Q : Nat → Prop) (w : World) (bo : Option Addr) (d : Nat) : Rt Q w bo 0 d .nil := ⟨[],Rk.nil Q 6 w bo d,rfl⟩
theorem Rt.len {Q : Nat → Prop} {w : World} {bo : Option Addr} {m d : Nat} {f : Fo} (h : Rt Q w bo m d f) : m = f.len := by
 obtain ⟨zs,h1,h2⟩ := h
 have := h1.len
 have := h2.len
 omega
theorem Nd.klen {Q : Nat → Prop} {w : World} {l : Lb} {k : Fo} {p : Pl} (h : Nd Q w l k p) : p.2.2.1 = k.len := h.kids.len
theorem Nd.alen {Q : Nat → Prop} {w : World} {l : Lb} {k : Fo} {p : Pl} (h : Nd Q w l k p) : p.1.2.1 = l.attrs.length := h.at'.rp.len
theorem Lf.drop {Q : Nat → Prop} {w : World} (n : Nat) {f : Fo} {xs : List Value} (h : Lf Q w f xs) : Lf Q w (f.drop n) (xs.drop (n * 6)) := by
 induction n generalizing f xs with
 | zero => simpa using h
 | succ n ih =>
   revert h
   refine Fo.cases (P := fun f => Lf Q w f xs → Lf Q w (f.drop (n + 1)) (xs.drop ((n + 1) * 6))) f (fun h => ?_) (fun l k r h => ?_)
   ·rw [Lf.nil_iff.1 h]; simp [Lf.nil]
   ·obtain ⟨p,ys,rfl,h1,h2⟩ := Lf.cons_iff.1 h
    rw [show (n + 1) * 6 = 6 + n * 6 by omega,← List.drop_drop,List.drop_left' (six_len l p),Fo.drop_cons]
    exact ih h2
theorem Lf.at {Q : Nat → Prop} {w : World} {f : Fo} {xs : List Value} (h : Lf Q w f xs) {n : Nat} {l : Lb} {k r : Fo} (e : f.drop n = .cons l k r) : ∃ p,Nd Q w l k p ∧ ∀ i,i < 6 → xs[n * 6 + i]? = (six l p)[i]? := by
 have h1 := h.drop n
 rw [e] at h1
 obtain ⟨p,ys,h2,h3,_⟩ := Lf.cons_iff.1 h1
 refine ⟨p,h3,fun i hi => ?_⟩
 rw [← List.getElem?_drop,h2,List.getElem?_append_left (by rw [six_len]; exact hi)]
def Cl (w : World) (b off : Nat) (l : Lb) (p : Pl) : Prop := ∃ cur e,w.heap[b]? = some (.cells cur e (0,0)) ∧ ∀ i,i < 6 → cur[off + i]? = (six l p)[i]?
theorem Cl.cells {w : World} {b off : Nat} {l : Lb} {p : Pl} (h : Cl w b off l p) : w.cell? ⟨b,off,none⟩ = some (.int .i64 l.kind) ∧ w.cell? ⟨b,off + 1,none⟩ = some (.int .i64 l.ns) ∧ w.cell? ⟨b,off + 2,none⟩ = some (.string l.name) ∧ w.cell? ⟨b,off + 3,none⟩ = some (.slice p.1.1 p.1.2.1 p.1.2.2) ∧ w.cell? ⟨b,off + 4,none⟩ = some (.string l.text) ∧ w.cell? ⟨b,off + 5,none⟩ = some (.slice p.2.1 p.2.2.1 p.2.2.2) := by
 obtain ⟨cur,e,h1,h2⟩ := h
 exact ⟨(cell_of h1 _).trans (h2 0 (by omega)),(cell_of h1 _).trans (h2 1 (by omega)),(cell_of h1 _).trans (h2 2 (by omega)),(cell_of h1 _).trans (h2 3 (by omega)),(cell_of h1 _).trans (h2 4 (by omega)),(cell_of h1 _).trans (h2 5 (by omega))⟩
theorem Cl.lt {w : World} {b off : Nat} {l : Lb} {p : Pl} (h : Cl w b off l p) : b < w.heap.size := by
 obtain ⟨cur,e,h1,h2⟩ := h
 exact (Array.getElem?_eq_some_iff.1 h1).1
theorem Cl.keep {S : List Nat} {w w' : World} {b off : Nat} {l : Lb} {p : Pl} (h : Cl w b off l p) (k : Kp S w w') (hn : b ∉ S) : Cl w' b off l p := by
 have hl := h.lt
 obtain ⟨cur,e,h1,h2⟩ := h
 exact ⟨cur,e,by rw [k.block b hl hn]; exact h1,h2⟩
theorem Rt.at {Q : Nat → Prop} {w : World} {bo : Option Addr} {m d : Nat} {f : Fo} (h : Rt Q w bo m d f) {n : Nat} {l : Lb} {k r : Fo} (e : f.drop n = .cons l k r) :
  ∃ p b off,Q b ∧ bo = some ⟨b,off,none⟩ ∧ Nd Q w l k p ∧ Cl w b (off + n * 6) l p := by
 have hm := h.len
 have hn : n < f.len := by
  have h1 := congrArg Fo.len e
  rw [Fo.len_drop,Fo.len_cons] at h1
  omega
 obtain ⟨zs,h1,h2⟩ := h
 obtain ⟨p,h3,h4⟩ := h2.at e
 obtain ⟨b,off,cur,e',hq,h5,h6,h7⟩ := h1.at' (by omega)
 exact ⟨p,b,off,hq,h5,h3,cur,e',h6,fun i hi => by rw [Nat.add_assoc,h7 _ (by omega),h4 i hi]⟩
def zp : Value := .agg #[.pointer none,.int .i64 0]
theorem info88 : (Tryz.prog.info? 143).map (fun i => (i.zero,i.size,i.bytes)) = some (some zp,2,16) := by kernel_rfl
def pv (a : Addr) (i : Int) : Value := .agg #[.pointer (some a),.int .i64 i]
def pc (a : Addr) (i : Int) : List Value := [.pointer (some a),.int .i64 i]
theorem pl_new (w : World) : Calls Tryz.prog 84 #[] w fun e w' => e = .returned (.pointer (some ⟨w.heap.size,0,none⟩)) ∧ w' = w.alloc (.cells #[.slice none 0 0] 168) := by
 go_enter Tryz.func84,Tryz.ntmps84
 go_wp2
 go_ret
 exact ⟨rfl,rfl⟩
theorem pl_len (w : World) (p : Nat) (v : Value) (n : Nat) (xs : List Value) (h : Pk 2 w 168 143 p v n xs) :
  Calls Tryz.prog 87 #[.pointer (some ⟨p,0,none⟩)] w fun e w' => e = .returned (.int .i64 n) ∧ w' = w := by
 obtain ⟨ao,c,rfl,hc,hf,_⟩ := h.out
 clear h
 go_enter Tryz.func87,Tryz.ntmps87
 go_wp2
 go_ret
 exact ⟨rfl,rfl⟩
theorem pc_one (a : Addr) (i : Int) : ∀ u,u ∈ pc a i → u.oneCell' = true := fun u hu => by
 simp [pc] at hu
 rcases hu with rfl | rfl <;> rfl
theorem pl_push (w : World) (p : Nat) (v : Value) (n : Nat) (xs : List Value) (a : Addr) (i : Int) (h : Pk 2 w 168 143 p v n xs) (hl : n < 100000) :
  Calls Tryz.prog 88 #[.pointer (some ⟨p,0,none⟩),pv a i] w fun e w' => e = .returned (.tuple #[]) ∧ Tk 2 w w' 168 143 p v (n + 1) (xs ++ pc a i) := by
 obtain ⟨ao,c,rfl,hc,hf,hnc,hpl,_⟩ := h.out
 obtain ⟨hp,hown,hpb⟩ := h
 obtain ⟨w1,hw1⟩ : ∃ w1,w1 = ((w.alloc (.cells #[.pointer (some a),.int .i64 i] 143)).alloc (.cells #[.pointer (some a),.int .i64 i] 143)).drew := ⟨_,rfl⟩
 have hk1 : Kp [] w w1 := by rw [hw1]; exact (((Kp.refl _ _).alloc _).alloc _).drew
 have hown1 : OwnK 2 w1 143 (.slice ao n c) n xs := hown.keep hk1 (fun _ _ => by simp)
 have hq : w1.heap[w.heap.size + 1]? = some (.cells #[.pointer (some a),.int .i64 i] 143 (0,0)) := by rw [hw1]; exact heap_new' _ _ _ (by simp)
 obtain ⟨v',w2,hrun,hown2,hk2,hb2,a2,c2,hv2⟩ := appK Tryz.underlying166 info88 rfl (by decide) w1 _ n xs hown1 _ 1 _ (src_new Tryz.underlying166 hq (pc a i) rfl (pc_one a i)) (fun _ => by omega) (by omega)
 have hsz : w1.heap.size = w.heap.size + 2 := by rw [hw1]; simp
 have hp2 : w2.heap[p]? = some (.cells #[.slice ao n c] 168 (0,0)) := by
  rw [hk2.block p (by omega) hpb,hk1.block p hpl (by simp)]; exact hp
 have hc2 : w2.cell? ⟨p,0,none⟩ = some (.slice ao n c) := by rw [cell_of hp2]; rfl
 have hf2 : w2.frozen? ⟨p,0,none⟩ = false := frozen_of hp2 0
 have hfin : Hid (Tk 2 w (w2.setCell ⟨p,0,none⟩ v') 168 143 p (.slice ao n c) (n + 1) (xs ++ pc a i)) := by
  refine Tk.mk hpl hp2 hpb hown2 ((hk1.mono (T := p :: blk _) (fun y hy => by simp at hy)).trans hk2 (fun y hy => Or.inl (by simp [hy]))) (fun k hk => ?_)
  rcases hb2 k hk with h1 | h1
  ·exact Or.inl h1
  ·right; omega
 rw [hw1] at hrun
 subst hv2
 clear hk1 hown1 hown2 hk2 hb2 hp2 hown hq hsz hw1 hp hpb
 unfold pv
 go_enter Tryz.func88,Tryz.ntmps88
 go_wp2_with fail
 refine wp_region_any (by kernel_rfl) ?_
 change wpAny _ _ _ _ _ _ _ (World.drew _)
 refine wpAny_take (i := 0) (v := ?_) rfl (by kernel_rfl) (by kernel_rfl) (by kernel_rfl) (fun _ _ _ h => h) (Or.inl ⟨by rfl,?_⟩) ?_
 rotate_left
 ·intro w; go_simp <;> with_reducible rfl
 refine wpAny_take (i := 1) (v := ?_) rfl (by kernel_rfl) (by kernel_rfl) (by kernel_rfl) (fun _ _ _ h => h) (Or.inl ⟨by rfl,?_⟩) ?_
 rotate_left
 ·intro w; go_simp <;> with_reducible rfl
 refine wpAny_take (i := 2) (v := ?_) rfl (by kernel_rfl) (by kernel_rfl) (by kernel_rfl) (fun _ _ _ h => h) (Or.inl ⟨by rfl,?_⟩) ?_
 rotate_left
 ·intro w; go_simp <;> with_reducible rfl
 refine wpAny_take (i := 3) (v := ?_) rfl (by kernel_rfl) (by kernel_rfl) (by kernel_rfl) (fun _ _ _ h => h) (Or.inl ⟨by rfl,?_⟩) ?_
 rotate_left
 ·intro w; go_simp <;> with_reducible rfl
 refine wpAny_ready (rs := [4,5]) (by kernel_rfl) (by simp) (AllReady.cons rfl (fun K hK => ?_) (AllReady.cons rfl (fun K hK => ?_) AllReady.nil))
 ·go_simp; refine hK _ _ ?_; clear hK K
  refine wpAny_ready (rs := [5]) (by kernel_rfl) (by simp) (AllReady.cons rfl (fun K hK => ?_) AllReady.nil)
  go_simp; refine hK _ _ ?_; clear hK K
  refine wpAny_ready (rs := [6]) (by kernel_rfl) (by simp) (AllReady.cons rfl (fun K hK => ?_) AllReady.nil)
  go_simp; refine hK _ _ ?_; clear hK K
  refine wpAny_ready (rs := [7]) (by kernel_rfl) (by simp) (AllReady.cons rfl (fun K hK => ?_) AllReady.nil)
  refine step_appR (by rfl) _ _ 166 (by rfl) _ _ (by rfl) (by rfl) hrun ?_; refine hK _ _ ?_; clear hK K
  refine wpAny_take (i := 8) (v := ?_) rfl (by kernel_rfl) (by kernel_rfl) (by kernel_rfl) (fun _ _ _ h => h) (Or.inl ⟨by rfl,?_⟩) ?_
  rotate_left
  ·intro w; go_simp <;> with_reducible rfl
  refine wpAny_take (i := 9) (v := ?_) rfl (by kernel_rfl) (by kernel_rfl) (by kernel_rfl) (fun _ _ _ h => h) (Or.inl ⟨by rfl,?_⟩) ?_
  rotate_left
  ·intro w; go_simp <;> with_reducible rfl
  refine wpAny_ready (rs := [10]) (by kernel_rfl) (by simp) (AllReady.cons rfl (fun K hK => ?_) AllReady.nil)
  go_simp; refine hK _ _ ?_; clear hK K
  refine wpAny_done (by kernel_rfl) ?_ _
  go_end0
  exact ⟨rfl,hfin.out⟩
 ·go_simp; refine hK _ _ ?_; clear hK K
  refine wpAny_ready (rs := [4,6]) (by kernel_rfl) (by simp) (AllReady.cons rfl (fun K hK => ?_) (AllReady.cons rfl (fun K hK => ?_) AllReady.nil))
  ·go_simp; refine hK _ _ ?_; clear hK K
   refine wpAny_ready (rs := [6]) (by kernel_rfl) (by simp) (AllReady.cons rfl (fun K hK => ?_) AllReady.nil)
   go_simp; refine hK _ _ ?_; clear hK K
   refine wpAny_ready (rs := [7]) (by kernel_rfl) (by simp) (AllReady.cons rfl (fun K hK => ?_) AllReady.nil)
   refine step_appR (by rfl) _ _ 166 (by rfl) _ _ (by rfl) (by rfl) hrun ?_; refine hK _ _ ?_; clear hK K
   refine wpAny_take (i := 8) (v := ?_) rfl (by kernel_rfl) (by kernel_rfl) (by kernel_rfl) (fun _ _ _ h => h) (Or.inl ⟨by rfl,?_⟩) ?_
   rotate_left
   ·intro w; go_simp <;> with_reducible rfl
   refine wpAny_take (i := 9) (v := ?_) rfl (by kernel_rfl) (by kernel_rfl) (by kernel_rfl) (fun _ _ _ h => h) (Or.inl ⟨by rfl,?_⟩) ?_
   rotate_left
   ·intro w; go_simp <;> with_reducible rfl
   refine wpAny_ready (rs := [10]) (by kernel_rfl) (by simp) (AllReady.cons rfl (fun K hK => ?_) AllReady.nil)
   go_simp; refine hK _ _ ?_; clear hK K
   refine wpAny_done (by kernel_rfl) ?_ _
   go_end0
   exact ⟨rfl,hfin.out⟩
  ·go_simp; refine hK _ _ ?_; clear hK K
   refine wpAny_ready (rs := [4]) (by kernel_rfl) (by simp) (AllReady.cons rfl (fun K hK => ?_) AllReady.nil)
   go_simp; refine hK _ _ ?_; clear hK K
   refine wpAny_ready (rs := [7]) (by kernel_rfl) (by simp) (AllReady.cons rfl (fun K hK => ?_) AllReady.nil)
   refine step_appR (by rfl) _ _ 166 (by rfl) _ _ (by rfl) (by rfl) hrun ?_; refine hK _ _ ?_; clear hK K
   refine wpAny_take (i := 8) (v := ?_) rfl (by kernel_rfl) (by kernel_rfl) (by kernel_rfl) (fun _ _ _ h => h) (Or.inl ⟨by rfl,?_⟩) ?_
   rotate_left
   ·intro w; go_simp <;> with_reducible rfl
   refine wpAny_take (i := 9) (v := ?_) rfl (by kernel_rfl) (by kernel_rfl) (by kernel_rfl) (fun _ _ _ h => h) (Or.inl ⟨by rfl,?_⟩) ?_
   rotate_left
   ·intro w; go_simp <;> with_reducible rfl
   refine wpAny_ready (rs := [10]) (by kernel_rfl) (by simp) (AllReady.cons rfl (fun K hK => ?_) AllReady.nil)
   go_simp; refine hK _ _ ?_; clear hK K
   refine wpAny_done (by kernel_rfl) ?_ _
   go_end0
   exact ⟨rfl,hfin.out⟩
theorem pl_holds_in (w : World) (p : Nat) (v : Value) (n : Nat) (xs : List Value) (i : Nat) (h : Pk 2 w 168 143 p v n xs) (h1 : i < n) :
  Calls Tryz.prog 138 #[.pointer (some ⟨p,0,none⟩),.int .i64 i] w fun e w' => e = .returned (.bool true) ∧ w' = w := by
 obtain ⟨ao,c,rfl,hc,hf,_⟩ := h.out
 clear h
 have h2 : (0 : Int) ≤ (i : Int) := by omega
 have h3 : (i : Int) < (n : Int) := by omega
 go_enter Tryz.func138,Tryz.ntmps138
 go_wp2
 go_ret
 exact ⟨rfl,rfl⟩
theorem pl_holds_none (w : World) (p : Nat) (v : Value) (xs : List Value) (h : Pk 2 w 168 143 p v 0 xs) :
  Calls Tryz.prog 138 #[.pointer (some ⟨p,0,none⟩),.int .i64 (-1)] w fun e w' => e = .returned (.bool false) ∧ w' = w := by
 obtain ⟨ao,c,rfl,hc,hf,_⟩ := h.out
 clear h
 go_enter Tryz.func138,Tryz.ntmps138
 go_wp2
 go_ret
 exact ⟨rfl,rfl⟩
theorem pl_at_in (w : World) (p : Nat) (v : Value) (n : Nat) (xs : List Value) (i : Nat) (a : Addr) (k : Int) (h : Pk 2 w 168 143 p v n xs) (h1 : i < n) (e0 : xs[i * 2]? = some (.pointer (some a))) (e1 : xs[i * 2 + 1]? = some (.int .i64 k)) (hn : n < 1000000) :
  Calls Tryz.prog 130 #[.pointer (some ⟨p,0,none⟩),.int .i64 i] w fun e w' => e = .returned (.tuple #[pv a k,.bool true]) ∧ Kp [] w w' := by
 obtain ⟨ao,c,hv,hc,hf,hnc,hpl,hcs⟩ := h.out
 obtain ⟨g,o,rfl,hgp,hcs⟩ := hcs (by omega)
 have c0 := (hcs (i * 2) (by omega)).1
 have c1 := (hcs (i * 2 + 1) (by omega)).1
 rw [e0] at c0
 rw [e1,← Nat.add_assoc] at c1
 have hgl : g < w.heap.size := block_lt_of_cell c0
 obtain ⟨w1,hw1⟩ : ∃ w1,w1 = w.alloc (.cells #[.pointer none,.int .i64 0] 143) := ⟨_,rfl⟩
 have hk : Kp [] w w1 := by rw [hw1]; exact (Kp.refl _ _).alloc _
 have hh := pl_holds_in w1 p v n xs i (h.keep hk (by simp) (fun _ _ => by simp)) h1
 rw [hw1] at hh
 have h2 : (0 : Int) ≤ (i : Int) := by omega
 have h3 : (i : Int) < (n : Int) := by omega
 clear h hcs hv e0 e1 hk hw1 w1
 go_enter Tryz.func130,Tryz.ntmps130
 go_wp2_with (go_at_call 138; refine hh.mono ?_; rintro e w' ⟨rfl,rfl⟩)
 refine bodyPost_ret (v := .tuple #[pv a k,.bool true]) (by simp [results,go_sem,pv]) rfl ⟨rfl,(Kp.refl _ _).alloc _⟩
theorem pl_at_none (w : World) (p : Nat) (v : Value) (xs : List Value) (h : Pk 2 w 168 143 p v 0 xs) :
  Calls Tryz.prog 130 #[.pointer (some ⟨p,0,none⟩),.int .i64 (-1)] w fun e w' => e = .returned (.tuple #[zp,.bool false]) ∧ Kp [] w w' := by
 have hh := fun w1 (hk : Kp [] w w1) => pl_holds_none w1 p v xs (h.keep hk (by simp) (fun _ _ => by simp))
 have H1 := hh _ ((Kp.refl [] w).alloc (.cells #[.pointer none,.int .i64 0] 143))
 clear hh h
 go_enter Tryz.func130,Tryz.ntmps130
 go_wp2_with (go_at_call 138; refine H1.mono ?_; rintro e w' ⟨rfl,rfl⟩)
 refine bodyPost_ret (v := .tuple #[zp,.bool false]) (by simp [results,go_sem,zp]) rfl ⟨rfl,?_⟩
 exact ((Kp.refl _ _).alloc _).alloc _
theorem zv88 (w : World) : (zeroValue 143).run Tryz.prog w = .ok zp w := by kernel_rfl
theorem pl_delete (w : World) (g o n c : Nat) (xs ys : List Value) (hown : OwnK 2 w 143 (.slice (some ⟨g,o,none⟩) (n + 1) c) (n + 1) (xs ++ ys)) (hx : xs.length = n * 2) (hl : n < 100000) :
  Calls Tryz.prog 131 #[.slice (some ⟨g,o,none⟩) (n + 1) c,.int .i64 (n : Int),.int .i64 ((n : Int) + 1)] w fun e w' => e = .returned (.slice (some ⟨g,o,none⟩) n c) ∧ OwnK 2 w' 143 (.slice (some ⟨g,o,none⟩) n c) n xs ∧ Kp [g] w w' := by
 have HF : Hid (OwnK 2 (w.drew.setCells g (o + n * 2) [.pointer none,.int .i64 0]) 143 (.slice (some ⟨g,o,none⟩) n c) n xs ∧ Kp [g] w (w.drew.setCells g (o + n * 2) [.pointer none,.int .i64 0])) :=
  ⟨(hown.keep (Kp.refl [] w).drew (fun _ _ => by simp)).pop hx rfl,Kp.setCells g (Or.inl (by simp)) _ _ _ (Kp.refl _ _).drew⟩
 have hnc : n + 1 ≤ c := by
  rcases hown.2 with ⟨h1,_⟩ | ⟨g',o',cap',cur,hv,hg,h1,h2,h3,h4⟩
  ·cases h1
  ·simp only [Value.slice.injEq] at hv
   omega
 have HC : ∀ ty,(Builtin.clear_ #[166] ty #[.slice (some ⟨g,o + n * 2,none⟩) 1 (c - n)]).run Tryz.prog w.drew = .ok (.tuple #[]) (w.drew.setCells g (o + n * 2) [.pointer none,.int .i64 0]) := fun ty => by
  rcases hown.2 with ⟨h1,_⟩ | ⟨g',o',cap',cur,hv,hg,h1,h2,h3,h4⟩
  ·cases h1
  ·simp only [Value.slice.injEq,Option.some.injEq,Addr.mk.injEq] at hv
   obtain ⟨⟨rfl,rfl,_⟩,_,rfl⟩ := hv
   exact clear_one w.drew 166 143 ty zp _ Tryz.underlying166 zv88 rfl (fun u hu => by simp at hu; rcases hu with rfl | rfl <;> rfl) g (o + n * 2) (c - n)
    (fun j hj => by
     show (w.cell? _).isSome = true
     simp at hj
     rw [cell_of hg,Array.getElem?_eq_getElem (by omega)]; rfl) (fun j hj => frozen_of (w := w) hg _)
 have HA : ∀ W : World,(storeCells ⟨g,o + n * 2,none⟩ []).run Tryz.prog W = .ok () W := fun W => rfl
 clear hown hx
 have i1 : (0 : Int) ≤ (n : Int) := by omega
 have i4 : (0 : Int) ≤ (n : Int) + 1 := by omega
 have i5 : (n : Int) ≤ (n : Int) + 1 := by omega
 by_cases hlt : n + 1 < c
 ·have i2 : (n : Int) ≤ (c : Int) := by omega
  have i3 : (n : Int) + 1 ≤ (c : Int) := by omega
  have i6 : ¬ c = n + 1 := by omega
  have HB := app_none (P := Tryz.prog) Tryz.underlying166 info88 w.drew g o n c ⟨g,o + (n + 1) * 2,none⟩ (c - (n + 1)) (by omega)
  clear HA
  go_enter Tryz.func131,Tryz.ntmps131
  go_wp2_with fail
  go_region_held3 (fun _ => True) (trivial)
   (first | refine step_appR (by rfl) _ _ 166 (by rfl) _ _ (by rfl) (by rfl) HB ?_)
  go_wp2_with (at_builtin; refine wpList_clear_run _ rfl _ _ rfl _ rfl HC ?_)
  go_ret
  exact ⟨rfl,HF.out⟩
 ·obtain rfl : c = n + 1 := by omega
  rw [show n + 1 - n = 1 by omega] at HC
  go_enter Tryz.func131,Tryz.ntmps131
  go_wp2_with fail
  go_region_held3 (fun _ => True) (trivial)
   (fail)
  go_wp2_with (at_builtin; refine wpList_clear_run _ rfl _ _ rfl _ rfl HC ?_)
  go_ret
  exact ⟨rfl,HF.out⟩
end Go.Proofs.YtpkppobkagdhkaaGreat
