/-
 LotsD Mem.
-/
import Derived.Test.YtpkppobkagdhkaaGreatB8
import Derived.Test.YtpkppobkagdhkaaGreatB11
import Derived.Lib.ConvBytes
set_option linter.unusedVariables false
set_option linter.unusedSimpArgs false
set_option maxRecDepth 100000
set_option maxHeartbeats 1000000
namespace Go.Proofs.YtpkppobkagdhkaaGreat
theorem pig_sub : ∀ (l m : List Nat),l.Nodup → (∀ x ∈ l,x ∈ m) → l.length ≤ m.length
 | [],_,_,_ => Nat.zero_le _
 | x :: l,m,hn,h => by
   have hn' := List.nodup_cons.1 hn
   have h1 := pig_sub l (m.erase x) hn'.2 (fun y hy => by
    have hyx : y ≠ x := fun e => hn'.1 (e ▸ hy)
    exact (List.mem_erase_of_ne hyx).2 (h y (List.mem_cons_of_mem _ hy)))
   have hx := h x (List.mem_cons_self ..)
   rw [List.length_erase_of_mem hx] at h1
   have := List.length_pos_of_mem hx
   simp only [List.length_cons]
   omega
def opt (z : Int) : List Nat := if z = -1 then [] else [z.toNat]
theorem opt_hd {k : List Nat} {s : Nat} {r : List Nat} (e : k = s :: r) : opt (hdI k) = [s] := by
 subst e
 unfold opt
 rw [if_neg (fun e => by have := hdI_neg.1 e; cases this)]
 rfl
theorem opt_len (z : Int) : (opt z).length ≤ 1 := by unfold opt; split <;> simp
namespace Ar
theorem Ok.chain {a : Ar} (h : a.Ok) {p : Nat} {k1 k2 : List Nat} {y : Nat} (e : a.kids p = k1 ++ y :: k2) : (a.raw y).be = hdI k2 ∧ (a.raw y).ah = laI k1 := by
 have hu : a.up y = some p := (h.link p y).1 (by rw [e]; simp)
 have hn := h.one p
 rw [e,List.nodup_append] at hn
 have h1 : y ∉ k1 := fun hm => hn.2.2 y hm y (by simp) rfl
 exact ⟨by rw [raw_be hu,e,aft_at h1],by rw [raw_ah hu,e,bef_at h1]⟩
def Cov (a : Ar) (s y : Nat) : Prop := ∃ p k1 k2,a.kids p = k1 ++ s :: k2 ∧ ∃ c,c ∈ s :: k2 ∧ a.Wn y c
theorem Wn.kid {a : Ar} (h : a.Ok) {y t : Nat} (w : a.Wn y t) (hne : y ≠ t) : ∃ c,c ∈ a.kids t ∧ a.Wn y c := by
 obtain ⟨k,e⟩ := w
 induction k generalizing y with
 | zero => exact absurd (by simpa [anc] using e) hne
 | succ k ih =>
   cases hu : a.up y with
   | none => simp [anc,hu] at e
   | some q =>
     have e2 : a.anc k q = Option.some t := by simpa [anc,hu] using e
     by_cases hq : q = t
     ·subst hq; exact ⟨y,(h.link q y).2 hu,Wn.refl a y⟩
     ·obtain ⟨c,h1,h2⟩ := ih hq e2
      exact ⟨c,h1,Wn.step hu h2⟩
theorem Ok.cov_first {a : Ar} (h : a.Ok) {y t : Nat} (w : a.Wn y t) (hne : y ≠ t) : ∃ s,s ∈ opt (a.raw t).fi ∧ a.Cov s y := by
 obtain ⟨c,h1,h2⟩ := Wn.kid h w hne
 cases hk : a.kids t with
 | nil => rw [hk] at h1; cases h1
 | cons s r =>
   refine ⟨s,by show s ∈ opt (hdI (a.kids t)); rw [opt_hd hk]; simp,t,[],r,by rw [hk]; rfl,c,by rw [← hk]; exact h1,h2⟩
theorem Ok.cov_step {a : Ar} (h : a.Ok) {s y : Nat} (c : a.Cov s y) : y = s ∨ ∃ x,(x ∈ opt (a.raw s).be ∨ x ∈ opt (a.raw s).fi) ∧ a.Cov x y := by
 obtain ⟨p,k1,k2,e,c,hc,hw⟩ := c
 rcases List.mem_cons.1 hc with rfl | hc
 ·by_cases hy : y = c
  ·exact .inl hy
  ·obtain ⟨x,h1,h2⟩ := h.cov_first hw hy
   exact .inr ⟨x,.inr h1,h2⟩
 ·cases hk : k2 with
  | nil => rw [hk] at hc; cases hc
  | cons x r =>
    refine .inr ⟨x,.inl ?_,p,k1 ++ [s],r,by rw [e,hk]; simp,c,by rw [← hk]; exact hc,hw⟩
    rw [(h.chain e).1,opt_hd hk]; simp
structure Wi (a : Ar) (n0 top cur : Nat) (L P S : List Nat) : Prop where
 nod : L.Nodup
 len : P.length = L.length
 anc' : a.anc L.length n0 = some cur
 eqv : a.Wn n0 top ↔ a.Wn cur top
 lft : ∀ z,z ∈ L → z ≠ top ∧ (a.Wn n0 top → a.Wn z top) ∧ ¬ a.Wn cur z
 cov : ∀ y,a.Wn y top → y ≠ top → y ∈ P ∨ ∃ s,s ∈ S ∧ a.Cov s y
 lt : cur < a.n
 all : ∀ s,s ∈ S → s < a.n ∧ ∃ p,a.up s = some p
theorem anc_succ (a : Ar) : ∀ (k : Nat) {x y z : Nat},a.anc k x = some y → a.up y = some z → a.anc (k + 1) x = some z
 | 0,x,y,z,h,hz => by
   obtain rfl : x = y := by simpa [anc] using h
   simp [anc,hz]
 | k + 1,x,y,z,h,hz => by
   cases hu : a.up x with
   | none => simp [anc,hu] at h
   | some q =>
     have h2 : a.anc k q = some y := by simpa [anc,hu] using h
     have := anc_succ a k h2 hz
     show (a.up x).bind (a.anc (k + 1)) = some z
     rw [hu]; exact this
theorem Ok.opt_fi {a : Ar} (h : a.Ok) (t : Nat) : ∀ s,s ∈ opt (a.raw t).fi → s < a.n ∧ ∃ p,a.up s = some p := by
 intro s hs
 cases hk : a.kids t with
 | nil => replace hs : s ∈ opt (hdI (a.kids t)) := hs
          rw [hk] at hs; simp [opt,hdI] at hs
 | cons x r =>
   replace hs : s ∈ opt (hdI (a.kids t)) := hs
   rw [opt_hd hk,List.mem_singleton] at hs
   have : a.up s = some t := (h.link t s).1 (by rw [hk,hs]; simp)
   exact ⟨(h.lt this).1,t,this⟩
theorem Ok.opt_be {a : Ar} (h : a.Ok) {t p : Nat} (hu : a.up t = some p) : ∀ s,s ∈ opt (a.raw t).be → s < a.n ∧ ∃ p,a.up s = some p := by
 intro s hs
 obtain ⟨k1,k2,e,_⟩ := h.split hu
 rw [(h.chain e).1] at hs
 cases hk : k2 with
 | nil => rw [hk] at hs; simp [opt,hdI] at hs
 | cons x r =>
   rw [opt_hd hk,List.mem_singleton] at hs
   have : a.up s = some p := (h.link p s).1 (by rw [e,hk,hs]; simp)
   exact ⟨(h.lt this).1,p,this⟩
theorem Ok.wi_start {a : Ar} (h : a.Ok) {n0 top : Nat} (hn : n0 < a.n) : a.Wi n0 top n0 [] [] (opt (a.raw top).fi) :=
 ⟨List.nodup_nil,rfl,rfl,Iff.rfl,fun z hz => (by cases hz),fun y hw hy => .inr (h.cov_first hw hy),hn,h.opt_fi top⟩
theorem Wi.step {a : Ar} (h : a.Ok) {n0 top cur q c : Nat} {L P S : List Nat} (i : a.Wi n0 top cur L P (S ++ [c])) (hne : cur ≠ top) (hu : a.up cur = some q) :
  a.Wi n0 top q (cur :: L) (c :: P) (S ++ opt (a.raw c).be ++ opt (a.raw c).fi) := by
 have hc := i.all c (by simp)
 obtain ⟨pc,hpc⟩ := hc.2
 refine ⟨List.nodup_cons.2 ⟨fun hm => (i.lft cur hm).2.2 (Wn.refl a cur),i.nod⟩,by simp [i.len],anc_succ a _ i.anc' hu,i.eqv.trans ((Wn.some hu).trans ⟨fun h => h.resolve_left hne,.inr⟩),fun z hz => ?_,fun y hw hy => ?_,(h.lt hu).2,fun s hs => ?_⟩
 ·rcases List.mem_cons.1 hz with rfl | hz
  ·exact ⟨hne,i.eqv.1,h.not_up hu⟩
  ·obtain ⟨h1,h2,h3⟩ := i.lft z hz
   exact ⟨h1,h2,fun hw => h3 (Wn.step hu hw)⟩
 ·rcases i.cov y hw hy with h1 | ⟨s,h1,h2⟩
  ·exact .inl (List.mem_cons_of_mem _ h1)
  ·rcases List.mem_append.1 h1 with h1 | h1
   ·exact .inr ⟨s,by simp [h1],h2⟩
   ·obtain rfl := List.mem_singleton.1 h1
    rcases h.cov_step h2 with rfl | ⟨x,hx,h3⟩
    ·exact .inl (by simp)
    ·exact .inr ⟨x,by rcases hx with hx | hx <;> simp [hx],h3⟩
 ·rw [List.mem_append,List.mem_append] at hs
  rcases hs with (hs | hs) | hs
  ·exact i.all s (by simp [hs])
  ·exact h.opt_be hpc s hs
  ·exact h.opt_fi c s hs
theorem Wi.top_yes {a : Ar} {n0 top : Nat} {L P S : List Nat} (i : a.Wi n0 top top L P S) : a.Wn n0 top := i.eqv.2 (Wn.refl a top)
theorem Wi.none_no {a : Ar} {n0 top cur : Nat} {L P S : List Nat} (i : a.Wi n0 top cur L P S) (hne : cur ≠ top) (hu : a.up cur = Option.none) : ¬ a.Wn n0 top :=
 fun hw => hne ((Wn.none hu).1 (i.eqv.1 hw))
theorem Wi.empty_no {a : Ar} {n0 top cur : Nat} {L P : List Nat} (i : a.Wi n0 top cur L P []) (hne : cur ≠ top) : ¬ a.Wn n0 top := fun hw => by
 have hin : ∀ y,a.Wn y top → y ≠ top → y ∈ P := fun y h1 h2 => by
  rcases i.cov y h1 h2 with h | ⟨s,h,_⟩
  ·exact h
  ·cases h
 have := pig_sub (cur :: L) P (List.nodup_cons.2 ⟨fun hm => (i.lft cur hm).2.2 (Wn.refl a cur),i.nod⟩) (fun y hy => by
  rcases List.mem_cons.1 hy with rfl | hy
  ·exact hin y (i.eqv.1 hw) hne
  ·obtain ⟨h1,h2,_⟩ := i.lft y hy
   exact hin y (h2 hw) h1)
 have h2 := i.len
 simp only [List.length_cons] at this
 omega
theorem Ok.raw_new {a : Ar} (h : a.Ok) (l : Lb) : (a.new l).raw = fun y => if y = a.n then ⟨l,-1,-1,-1,-1,-1⟩ else a.raw y := by
 funext y
 by_cases hy : y = a.n
 ·have h1 := h.out a.n (Nat.le_refl _)
  have h2 : (a.new l).kids y = [] := by rw [hy]; exact h1.1
  have h3 : (a.new l).up y = none := by rw [hy]; exact h1.2
  rw [if_pos hy]
  refine Pn.eq ?_ ?_ ?_ ?_ ?_ ?_
  ·show (if y = a.n then l else a.lb y) = l; rw [if_pos hy]
  ·show upI ((a.new l).up y) = -1; rw [h3]; rfl
  ·show hdI ((a.new l).kids y) = -1; rw [h2]; rfl
  ·show laI ((a.new l).kids y) = -1; rw [h2]; rfl
  ·exact raw_ah_none h3
  ·exact raw_be_none h3
 ·rw [if_neg hy]
  refine Pn.eq ?_ rfl rfl rfl rfl rfl
  show (if y = a.n then l else a.lb y) = a.lb y; rw [if_neg hy]
theorem raw_tell (a : Ar) (x : Nat) (l : Lb) : (a.tell x l).raw = sLb a.raw x l := by
 funext y
 unfold sLb
 by_cases hy : y = x
 ·subst hy
  rw [if_pos rfl]
  refine Pn.eq ?_ rfl rfl rfl rfl rfl
  show (if y = y then l else a.lb y) = l; rw [if_pos rfl]
 ·rw [if_neg hy]
  refine Pn.eq ?_ rfl rfl rfl rfl rfl
  show (if y = x then l else a.lb y) = a.lb y; rw [if_neg hy]
theorem cut_none {a : Ar} {x : Nat} (hu : a.up x = none) : a.cut x = a := by
 cases a with
 | mk n lb kids up =>
   simp only [cut,Ar.mk.injEq,true_and]
   have hu' : up x = none := hu
   refine ⟨funext fun y => ?_,funext fun y => ?_⟩
   ·rw [hu',if_neg (fun e => by cases e)]
   ·by_cases hy : y = x
    ·rw [if_pos hy,hy]; exact hu'.symm
    ·rw [if_neg hy]
structure Tiny (m : Nat) (l : List Att) : Prop where
 len : l.length ≤ m
 each : ∀ a,a ∈ l → a.1.size ≤ 20 ∧ a.2.size ≤ 30
 dist : Dist l
theorem Tiny.nil (m : Nat) : Tiny m [] := ⟨Nat.zero_le _,fun _ h => (by cases h),List.Pairwise.nil⟩
theorem Tiny.mono {m n : Nat} {l : List Att} (h : Tiny m l) (hn : m ≤ n) : Tiny n l := ⟨by have := h.len; omega,h.each,h.dist⟩
theorem Tiny.fits {m : Nat} {l : List Att} (h : Tiny m l) : fits l := fun a ha => by have := h.each a ha; omega
theorem each_more {P : Att → Prop} (m : List Att) : ∀ {l : List Att},(∀ a,a ∈ l → P a) → (∀ a,a ∈ m → P a) → ∀ a,a ∈ more l m → P a := by
 induction m with
 | nil => exact fun h _ => h
 | cons b m ih =>
   intro l h1 h2
   refine ih (l := add l b) (fun a ha => ?_) (fun a ha => h2 a (List.mem_cons_of_mem _ ha))
   unfold add at ha
   split at ha
   ·exact h1 a ha
   ·rcases List.mem_append.1 ha with ha | ha
    ·exact h1 a ha
    ·exact h2 a (by rw [List.mem_singleton.1 ha]; simp)
theorem Tiny.more {m : Nat} {l q : List Att} (h : Tiny m l) (hq : q.length ≤ 6) (hs : ∀ a,a ∈ q → a.1.size ≤ 20 ∧ a.2.size ≤ 30) : Tiny (m + 6) (more l q) :=
 ⟨by have := h.len; have := more_len q l; omega,each_more q h.each hs,dist_more q h.dist⟩
theorem Tiny.uniq {q : List Att} (hq : q.length ≤ 6) (hs : ∀ a,a ∈ q → a.1.size ≤ 20 ∧ a.2.size ≤ 30) : Tiny 6 (uniq q) := by
 have := (Tiny.nil 0).more hq hs
 exact this
theorem more_uniq (l m : List Att) : _root_.Go.Proofs.YtpkppobkagdhkaaGreat.more l (_root_.Go.Proofs.YtpkppobkagdhkaaGreat.uniq m) = _root_.Go.Proofs.YtpkppobkagdhkaaGreat.more l m := by
 suffices h : ∀ n,∀ m : List Att,m.length = n → _root_.Go.Proofs.YtpkppobkagdhkaaGreat.more l (_root_.Go.Proofs.YtpkppobkagdhkaaGreat.uniq m) = _root_.Go.Proofs.YtpkppobkagdhkaaGreat.more l m from h _ m rfl
 intro n
 induction n with
 | zero => intro m hm; rw [List.eq_nil_of_length_eq_zero hm]; rfl
 | succ n ih =>
   intro m hm
   rcases List.eq_nil_or_concat m with rfl | ⟨q,a,rfl⟩
   ·rfl
   ·rw [List.concat_eq_append] at hm ⊢
    have hq : q.length = n := by simpa using hm
    have e1 : _root_.Go.Proofs.YtpkppobkagdhkaaGreat.uniq (q ++ [a]) = add (_root_.Go.Proofs.YtpkppobkagdhkaaGreat.uniq q) a := more_snoc [] q a
    have hh : hasN (_root_.Go.Proofs.YtpkppobkagdhkaaGreat.uniq q) a.1 = hasN q a.1 := by unfold hasN; rw [getF_uniq]
    rw [e1,more_snoc]
    unfold add
    rw [hh]
    by_cases hN : hasN q a.1 = true
    ·rw [if_pos hN,ih q hq]
     have : hasN (_root_.Go.Proofs.YtpkppobkagdhkaaGreat.more l q) a.1 = true := by
      unfold hasN at hN ⊢
      rw [getF_more]
      cases getF l a.1 with
      | none => exact hN
      | some y => rfl
     rw [if_pos this]
    ·rw [if_neg hN,more_snoc,ih q hq]; rfl
structure Sz (k : Nat) (a : Ar) : Prop where
 n : a.n ≤ 1 + 2 * k
 lbs : ∀ x,(a.lb x).name.size ≤ 10 ∧ (a.lb x).text.size ≤ 10 * k ∧ Tiny (6 * k) (a.lb x).attrs
theorem Sz.succ {k m : Nat} {a : Ar} (h : a.Sz k) (hm : k ≤ m) : a.Sz m :=
 ⟨by have := h.n; omega,fun x => ⟨(h.lbs x).1,by have := (h.lbs x).2.1; omega,(h.lbs x).2.2.mono (by omega)⟩⟩
theorem Sz.same {k : Nat} {a b : Ar} (h : a.Sz k) (h1 : b.n = a.n) (h2 : b.lb = a.lb) : b.Sz k := ⟨by rw [h1]; exact h.n,by rw [h2]; exact h.lbs⟩
theorem Sz.new {k : Nat} {a : Ar} (h : a.Sz k) {l : Lb} (h1 : l.name.size ≤ 10) (h2 : l.text.size ≤ 10) (h3 : Tiny 6 l.attrs) : (a.new l).Sz (k + 1) := by
 refine ⟨by have := h.n; show a.n + 1 ≤ _; omega,fun x => ?_⟩
 show ((if x = a.n then l else a.lb x) : Lb).name.size ≤ 10 ∧ _ ∧ Tiny _ ((if x = a.n then l else a.lb x) : Lb).attrs
 by_cases hx : x = a.n
 ·rw [if_pos hx]; exact ⟨h1,by show ((if x = a.n then l else a.lb x) : Lb).text.size ≤ _; rw [if_pos hx]; omega,h3.mono (by omega)⟩
 ·rw [if_neg hx]; exact ⟨(h.lbs x).1,by show ((if x = a.n then l else a.lb x) : Lb).text.size ≤ _; rw [if_neg hx]; have := (h.lbs x).2.1; omega,(h.lbs x).2.2.mono (by omega)⟩
theorem Sz.newT {k : Nat} {a : Ar} (h : a.Sz k) {l : Lb} (h1 : l.name.size ≤ 10) (h2 : l.text.size ≤ 10) (h3 : Tiny 6 l.attrs) : (a.newT l).Sz (k + 1) := by
 have g := h.new h1 h2 h3
 refine ⟨by have := h.n; show a.n + 1 + 1 ≤ _; omega,fun x => ?_⟩
 have e : (a.newT l).lb x = if x = a.n + 1 then (6,0,⟨#[]⟩,[],⟨#[]⟩) else (a.new l).lb x := rfl
 by_cases hx : x = a.n + 1
 ·rw [e,if_pos hx]; exact ⟨Nat.zero_le _,Nat.zero_le _,Tiny.nil _⟩
 ·rw [e,if_neg hx]; exact g.lbs x
theorem Sz.tell {k m : Nat} {a : Ar} (h : a.Sz k) (hm : k ≤ m) (x : Nat) {l : Lb} (h1 : l.name.size ≤ 10) (h2 : l.text.size ≤ 10 * m) (h3 : Tiny (6 * m) l.attrs) : (a.tell x l).Sz m := by
 refine ⟨by have := h.n; show a.n ≤ _; omega,fun y => ?_⟩
 have e : (a.tell x l).lb y = if y = x then l else a.lb y := rfl
 by_cases hy : y = x
 ·rw [e,if_pos hy]; exact ⟨h1,h2,h3⟩
 ·rw [e,if_neg hy]; exact (h.succ hm).lbs y
theorem Sz.first : first.Sz 0 := ⟨Nat.le_refl _,fun _ => ⟨Nat.zero_le _,Nat.zero_le _,Tiny.nil _⟩⟩
theorem Sz.mkF {k : Nat} {a : Ar} (h : a.Sz k) (kind ns : Int) {name : ByteArray} {u : List Att} {text : ByteArray} (h1 : name.size ≤ 10) (h2 : text.size ≤ 10) (h3 : Tiny 6 u) : (a.mkF kind ns name u text).1.Sz (k + 1) := by
 unfold Ar.mkF
 have g := h.succ (Nat.le_succ k)
 (repeat' split)
 ·exact g
 ·exact g
 ·exact h.newT h1 (Nat.zero_le _) h3
 ·exact h.new h1 (Nat.zero_le _) h3
 ·exact h.new h1 (Nat.zero_le _) (Tiny.nil _)
 ·exact h.new (Nat.zero_le _) h2 (Tiny.nil _)
theorem Sz.appF {k : Nat} {a : Ar} (h : a.Sz k) (p x : Int) : (a.appF p x).1.Sz k := by
 unfold Ar.appF
 (repeat' split) <;> first | exact h | exact h.same rfl rfl
theorem Sz.befF {k : Nat} {a : Ar} (h : a.Sz k) (p x : Int) : (a.befF p x).1.Sz k := by
 unfold Ar.befF
 (repeat' split) <;> first | exact h | exact h.same rfl rfl
theorem Sz.detF {k : Nat} {a : Ar} (h : a.Sz k) (x : Int) : (a.detF x).1.Sz k := by
 unfold Ar.detF
 (repeat' split) <;> first | exact h | exact h.same rfl rfl
theorem Sz.movF {k : Nat} {a : Ar} (h : a.Sz k) (hf : a.Ful) (f t : Int) : (a.movF f t).1.Sz k := by
 unfold Ar.movF
 split
 ·exact h
 rename_i h1
 split
 ·exact h
 rename_i h2
 split
 ·exact h
 rename_i h4
 simp only [not_or,Bool.not_eq_false,Bool.not_eq_true] at h1 h2 h4
 have ht := (there_lt h1.2).1
 obtain ⟨_,e1,e2⟩ := Ful.movs (f := f.toNat) _ a hf (hf.one _) (fun x hx => (hf.link _ x).1 hx) ht h2.2 (wn_false hf.toOk ht h4)
 exact h.same e1 e2
theorem size_cat (s t : ByteArray) : (s ++ t).size = s.size + t.size := ByteArray.size_append
theorem Sz.txt {k : Nat} {a : Ar} (h : a.Sz k) (p i : Nat) {s : ByteArray} (hs : s.size ≤ 10) : (a.txt p i s).Sz (k + 1) := by
 unfold Ar.txt
 have g := h.succ (Nat.le_succ k)
 have hn : ((a.new (4,0,⟨#[]⟩,[],s)).put p i a.n).Sz (k + 1) := (h.new (l := (4,0,⟨#[]⟩,[],s)) (Nat.zero_le _) hs (Tiny.nil _)).same rfl rfl
 split
 ·exact g
 split
 ·split
  ·rename_i z _ _
   have gl := h.lbs z
   refine h.tell (Nat.le_succ k) z gl.1 ?_ (gl.2.2.mono (by omega))
   show ((a.lb z).text ++ s).size ≤ _
   rw [size_cat]
   have := gl.2.1
   omega
  ·exact hn
 ·exact hn
theorem Sz.wrF {k : Nat} {a : Ar} (h : a.Sz k) (p : Int) {s : ByteArray} (hs : s.size ≤ 10) : (a.wrF p s).1.Sz (k + 1) := by
 unfold Ar.wrF
 (repeat' split) <;> first | exact h.succ (Nat.le_succ k) | exact h.txt _ _ hs
theorem Sz.wbF {k : Nat} {a : Ar} (h : a.Sz k) (p : Int) {s : ByteArray} (hs : s.size ≤ 10) : (a.wbF p s).1.Sz (k + 1) := by
 unfold Ar.wbF
 (repeat' split) <;> first | exact h.succ (Nat.le_succ k) | exact h.txt _ _ hs
theorem Sz.morF {k : Nat} {a : Ar} (h : a.Sz k) (x : Int) {q : List Att} (hq : q.length ≤ 6) (hs : ∀ a,a ∈ q → a.1.size ≤ 20 ∧ a.2.size ≤ 30) : (a.morF x (fun l => _root_.Go.Proofs.YtpkppobkagdhkaaGreat.more l q)).1.Sz (k + 1) := by
 unfold Ar.morF
 split
 ·exact h.succ (Nat.le_succ k)
 split
 ·exact h.succ (Nat.le_succ k)
 ·have gl := h.lbs x.toNat
  exact h.tell (Nat.le_succ k) _ gl.1 (by show (a.lb x.toNat).text.size ≤ _; have := gl.2.1; omega) ((gl.2.2.more hq hs).mono (by omega))
end Ar
end Go.Proofs.YtpkppobkagdhkaaGreat
namespace Go.Proofs.YtpkppobkagdhkaaGreat
open Go.RowKit Go.Maps Utf
structure Np where
 ao : Option Addr
 an : Nat
 ac : Nat
 nm : Option Nat
 to : Option Addr
 tn : Nat
 tc : Nat
def el (x : Pn) (p : Np) : List Value := [.int .i64 x.lb.kind,.int .i64 x.lb.ns,.string x.lb.name,.slice p.ao p.an p.ac,.map p.nm,.slice p.to p.tn p.tc,.int .i64 x.up,.int .i64 x.fi,.int .i64 x.la,.int .i64 x.ah,.int .i64 x.be]
theorem el_len (x : Pn) (p : Np) : (el x p).length = 11 := rfl
def Nt (w : World) (b : Nat) (l : List Att) : Prop := ∃ (D : DataW Unit) (k : Nat),w.ownsMap Tryz.prog 9 unitElem b k D ∧ k ≤ l.length ∧ ∀ x,Maps.has D (kl x) = hasN l x
theorem Nt.lt {w : World} {b : Nat} {l : List Att} (h : Nt w b l) : b < w.heap.size := by
 obtain ⟨D,k,h,_⟩ := h
 exact h.lt
theorem Nt.same {w w' : World} {b : Nat} {l : List Att} (h : Nt w b l) (hb : w'.heap[b]? = w.heap[b]?) : Nt w' b l := by
 obtain ⟨D,k,⟨es,clock,h1,r⟩,r2⟩ := h
 exact ⟨D,k,⟨es,clock,by rw [hb]; exact h1,r⟩,r2⟩
theorem cell_ofF {w : World} {g : Nat} {cur : Array Value} {e : TypeId} {fz : Nat × Nat} (h : w.heap[g]? = some (.cells cur e fz)) (j : Nat) : w.cell? ⟨g,j,none⟩ = cur[j]? := by
 simp [World.cell?,h]
theorem setCell_blockF {w : World} {g : Nat} {cur : Array Value} {e : TypeId} {fz : Nat × Nat} (h : w.heap[g]? = some (.cells cur e fz)) (o : Nat) (u : Value) : (w.setCell ⟨g,o,none⟩ u).heap[g]? = some (.cells (cur.setIfInBounds o u) e fz) := by
 simp only [World.setCell,Array.getElem?_modify,h]
 simp
theorem setCells_blockF (g : Nat) (e : TypeId) (fz : Nat × Nat) : ∀ (vs : List Value) (o : Nat) (w : World) (cur : Array Value),w.heap[g]? = some (.cells cur e fz) → ∃ cur',(w.setCells g o vs).heap[g]? = some (.cells cur' e fz) ∧ cur'.size = cur.size
 | [],_,_,cur,h => ⟨cur,h,rfl⟩
 | v :: r,o,w,cur,h => by
   obtain ⟨c,h1,h2⟩ := setCells_blockF g e fz r (o + 1) _ _ (setCell_blockF h o v)
   exact ⟨c,h1,by rw [h2]; simp⟩
theorem setCells_getF (g : Nat) (e : TypeId) (fz : Nat × Nat) (vs : List Value) (o : Nat) (w : World) (cur cur' : Array Value) (h : w.heap[g]? = some (.cells cur e fz)) (h' : (w.setCells g o vs).heap[g]? = some (.cells cur' e fz)) (hfit : o + vs.length ≤ cur.size) (k : Nat) :
  cur'[k]? = if o ≤ k ∧ k < o + vs.length then vs[k - o]? else cur[k]? := by
 rw [← cell_ofF h' k,← cell_ofF h k]
 by_cases hk : o ≤ k ∧ k < o + vs.length
 ·rw [if_pos hk]
  have := World.cell?_setCells_in g vs o w (fun j hj => by rw [cell_ofF h,Array.getElem?_eq_getElem (by omega)]; rfl) (k - o) (by omega)
  rw [show o + (k - o) = k by omega] at this
  rw [this,List.getElem?_eq_getElem]
 ·rw [if_neg hk]
  exact World.cell?_setCells_out g vs o w ⟨g,k,none⟩ (fun _ _ => by show k < o ∨ o + vs.length ≤ k; omega)
def OwT (w : World) (v : Value) (s : ByteArray) : Prop :=
 (v = .slice none 0 0 ∧ s.size = 0) ∨
 ∃ g c cur lo hi,v = .slice (some ⟨g,0,none⟩) s.size c ∧ w.heap[g]? = some (.cells cur 5 (lo,hi)) ∧ s.size ≤ c ∧ c ≤ maxLen ∧ c ≤ cur.size ∧ ((lo = 0 ∧ hi = 0) ∨ c ≤ lo) ∧ ∀ j,j < s.size → cur[j]? = (byteCells s)[j]?
theorem OwT.lt {w : World} {v : Value} {s : ByteArray} (h : OwT w v s) : ∀ x,x ∈ blk v → x < w.heap.size := by
 intro x hx
 rcases h with ⟨rfl,_⟩ | ⟨g,c,cur,lo,hi,rfl,hg,_⟩
 ·simp [blk] at hx
 ·simp [blk] at hx
  subst hx
  exact lt_of hg
theorem OwT.keep {S : List Nat} {w w' : World} {v : Value} {s : ByteArray} (h : OwT w v s) (k : Kp S w w') (hn : ∀ x,x ∈ blk v → x ∉ S) : OwT w' v s := by
 have hl := h.lt
 rcases h with h | ⟨g,c,cur,lo,hi,rfl,hg,r⟩
 ·exact Or.inl h
 ·have hm : g ∈ blk (Value.slice (some ⟨g,0,none⟩) s.size c) := by simp [blk]
  exact Or.inr ⟨g,c,cur,lo,hi,rfl,by rw [k.block g (hl g hm) (hn g hm)]; exact hg,r⟩
theorem OwT.nil (w : World) : OwT w (.slice none 0 0) ⟨#[]⟩ := Or.inl ⟨rfl,rfl⟩
theorem byteCells_b8 (s : ByteArray) : byteCells s = b8 (bytesOf s) := by simp [byteCells,b8,bytesOf,Function.comp_def]
theorem OwT.rb {w : World} {ao : Option Addr} {n c : Nat} {s : ByteArray} (h : OwT w (.slice ao n c) s) : Rb w ao n c (b8 (bytesOf s)) := by
 rw [← byteCells_b8]
 rcases h with ⟨h1,h2⟩ | ⟨g,c',cur,lo,hi,hv,hg,h1,h2,h3,h4,h5⟩
 ·simp only [Value.slice.injEq] at h1
  obtain ⟨rfl,rfl,rfl⟩ := h1
  exact ⟨by rw [byteCells_length,h2],Nat.le_refl _,fun j hj => by omega⟩
 ·simp only [Value.slice.injEq] at hv
  obtain ⟨rfl,rfl,rfl⟩ := hv
  exact ⟨(byteCells_length s).symm,h1,fun j hj => ⟨g,0,rfl,by rw [Nat.zero_add,cell_ofF hg,h5 j hj]⟩⟩
theorem byteCells_app (s t : ByteArray) : byteCells (s ++ t) = byteCells s ++ byteCells t := by simp [byteCells,ByteArray.data_append]
theorem to_text (w : World) (s : ByteArray) (hs : s.size ≤ 1000000) : ∃ W c,(convert 9 49 (.string s)).run Tryz.prog w = .ok (.slice (some ⟨w.heap.size,0,none⟩) s.size c) W ∧ OwT W (.slice (some ⟨w.heap.size,0,none⟩) s.size c) s ∧ Kp [] w W := by
 refine ⟨_,_,Lib.run_convert_string_bytes (P := Tryz.prog) w 9 49 5 s Tryz.underlying9 Tryz.underlying49 Tryz.underlying5,Or.inr ⟨w.heap.size,_,_,_,_,rfl,Lib.bytesWorld_at_new w 5 s,grownCap_ge w s.size 0 5,grownCap_le_maxLen w _ _ _ (by unfold maxLen; omega),?_,Or.inr ?_,fun j hj => ?_⟩,⟨rfl,rfl,rfl,by rw [Lib.bytesWorld_size]; omega,fun k hk _ => Lib.bytesWorld_at_old w 5 s k hk⟩⟩
 ·have := grownCap_ge w s.size 0 5
  simp [Lib.bytesCells]
  omega
 ·have := grownCap_ge w s.size 0 5
  simp [Lib.bytesCells]
  omega
 ·have := Lib.bytesWorld_cell w 5 s j hj
  rw [cell_ofF (Lib.bytesWorld_at_new w 5 s)] at this
  rw [this]
  simp [byteCells,List.getD,hj]
theorem infoB : (Tryz.prog.info? 5).map (fun i => (i.zero,i.size,i.bytes)) = some (some (.int .u8 0),1,1) := by kernel_rfl
theorem OwT.app {w : World} {v : Value} {s : ByteArray} (h : OwT w v s) (t : ByteArray) (ht0 : 0 < t.size) (hlen : s.size + t.size ≤ 1000000) :
  ∃ v' w',(∀ ty,(Builtin.append_ #[49,9] ty #[v,.string t]).run Tryz.prog w = .ok v' w') ∧ OwT w' v' (s ++ t) ∧ Kp (blk v) w w' ∧ (∀ k,k ∈ blk v' → k ∈ blk v ∨ k = w.heap.size) ∧ ∃ ao c,v' = .slice ao (s.size + t.size) c := by
 obtain ⟨i,hi0,hi1,hi2,hi3⟩ := info_parts infoB
 have ht := Tryz.underlying49
 have hs : Src Tryz.prog 1 9 (.string t) t.size (byteCells t) w := Src.ofString w Tryz.underlying9 t
 have hs' : Src Tryz.prog i.size 9 (.string t) t.size (byteCells t) w := by rw [hi2]; exact hs
 have hsz : (s ++ t).size = s.size + t.size := ByteArray.size_append
 have hbl := byteCells_length t
 have hbs := byteCells_length s
 have new : ∀ (z : Nat) (olds : List Value),olds = byteCells s → OwT (w.drew.alloc (.cells ((olds ++ byteCells t).toArray ++ Builtin.zeroCells (Value.int .u8 0).cells (grownCap w (s.size + t.size) z 5 - (s.size + t.size))) 5)) (.slice (some ⟨w.drew.heap.size,0,none⟩) (s.size + t.size) (grownCap w (s.size + t.size) z 5)) (s ++ t) := fun z olds ho => by
  have hge := grownCap_ge w (s.size + t.size) z 5
  refine Or.inr ⟨w.drew.heap.size,_,_,0,0,by rw [hsz],heap_new w.drew _,by rw [hsz]; exact hge,grownCap_le_maxLen w _ _ _ (by unfold maxLen; omega),?_,Or.inl ⟨rfl,rfl⟩,fun j hj => ?_⟩
  ·rw [Array.size_append,zeroCells_size _ rfl,ho]
   simp [hbl,hbs]
   omega
  ·rw [hsz] at hj
   rw [Array.getElem?_append_left (by rw [ho]; simp [hbl,hbs]; omega),byteCells_app,ho]
   simp
 rcases h with ⟨rfl,h0⟩ | ⟨g,cap,cur,lo,hi,rfl,hg,hc1,hc2,hc3,hc4,hc5⟩
 ·have hr := fun ty => run_append_grow_src (P := Tryz.prog) w 49 9 ty 5 i (.int .u8 0) ht hi0 hi1 none 0 0 [] (run_firstCells_none w.drew i.size 0 0 0) (.string t) t.size (byteCells t) hs' (by omega) (by omega) (by rw [hi3]; exact growslice_fits (by omega) (by omega))
  have hn := new 0 [] (List.eq_nil_of_length_eq_zero (by omega)).symm
  rw [h0] at hn
  refine ⟨_,_,hr,hn,(Kp.refl _ _).drew.alloc _,fun k hk => ?_,⟨_,_,by rw [h0]⟩⟩
  simp [blk] at hk
  exact Or.inr hk
 ·by_cases hroom : s.size + t.size ≤ cap
  ·have hr := fun ty => run_append_room_src (P := Tryz.prog) w 49 9 ty 5 i ht hi0 g 0 s.size cap (.string t) t.size (byteCells t) hs' hroom
    (fun j hj => by rw [hi2,cell_ofF hg,Array.getElem?_eq_getElem (by omega)]; rfl) (fun j hj => by
     simp only [World.frozen?,hg]
     rw [hi2]
     simp
     omega)
   obtain ⟨cur',hg',hsz'⟩ := setCells_blockF g 5 (lo,hi) (byteCells t) (0 + s.size * i.size) w cur hg
   have hget := setCells_getF g 5 (lo,hi) (byteCells t) (0 + s.size * i.size) w cur cur' hg hg' (by rw [hi2]; omega)
   refine ⟨_,_,hr,Or.inr ⟨g,cap,cur',lo,hi,by rw [hsz],hg',by rw [hsz]; exact hroom,hc2,by omega,hc4,fun j hj => ?_⟩,Kp.setCells g (Or.inl (by simp [blk])) _ _ _ (Kp.refl _ _),fun k hk => Or.inl (by simpa [blk] using hk),⟨_,_,rfl⟩⟩
   rw [hget j,hi2,byteCells_app]
   simp only [Nat.mul_one,Nat.zero_add]
   rw [hsz] at hj
   by_cases hjx : j < s.size
   ·rw [if_neg (by omega),List.getElem?_append_left (by omega),hc5 j hjx]
   ·rw [if_pos (by omega),List.getElem?_append_right (by omega),hbs]
  ·have hold : (Builtin.firstCells i.size s.size (.slice (some ⟨g,0,none⟩) s.size cap)).run Tryz.prog w.drew = .ok (byteCells s).toArray w.drew :=
    run_firstCells_some w.drew i.size s.size ⟨g,0,none⟩ s.size cap (byteCells s) (by rw [hi2,Nat.mul_one,hbs]) (fun j u hj => by
     rw [Addr.add_lit]
     show w.cell? _ = _
     have hjl := (List.getElem?_eq_some_iff.1 hj).1
     rw [Nat.zero_add,cell_ofF hg,hc5 j (by omega)]
     exact hj)
   have hr := fun ty => run_append_grow_src (P := Tryz.prog) w 49 9 ty 5 i (.int .u8 0) ht hi0 hi1 (some ⟨g,0,none⟩) s.size cap (byteCells s) hold (.string t) t.size (byteCells t) hs' (by omega) (by omega) (by rw [hi3]; exact growslice_fits (by omega) (by omega))
   refine ⟨_,_,hr,new cap _ rfl,(Kp.refl _ _).drew.alloc _,fun k hk => ?_,⟨_,_,rfl⟩⟩
   simp [blk] at hk
   exact Or.inr hk
structure Sd (tag : Nat → Nat) (w : World) (i : Nat) (l : Lb) (p : Np) : Prop where
 at' : OwnK 2 w 102 (.slice p.ao p.an p.ac) p.an (cs l.attrs)
 atT : ∀ x,x ∈ blk (.slice p.ao p.an p.ac) → tag x = 8 + 3 * i
 tx : OwT w (.slice p.to p.tn p.tc) l.text
 txT : ∀ x,x ∈ blk (.slice p.to p.tn p.tc) → tag x = 10 + 3 * i
 nm : ∀ b,p.nm = some b → Nt w b l.attrs ∧ tag b = 9 + 3 * i
theorem Sd.keep {tag tag' : Nat → Nat} {S : List Nat} {w w' : World} {i : Nat} {l : Lb} {p : Np} (h : Sd tag w i l p) (k : Kp S w w') (hS : ∀ x,x ∈ S → x < w.heap.size → tag x ≠ 8 + 3 * i ∧ tag x ≠ 9 + 3 * i ∧ tag x ≠ 10 + 3 * i) (ht : ∀ x,x < w.heap.size → tag' x = tag x) : Sd tag' w' i l p := by
 refine ⟨h.at'.keep k (fun x hx hs => ?_),fun x hx => ?_,h.tx.keep k (fun x hx hs => ?_),fun x hx => ?_,fun b hb => ?_⟩
 ·exact (hS x hs (h.at'.lt x hx)).1 (h.atT x hx)
 ·rw [ht x (h.at'.lt x hx)]; exact h.atT x hx
 ·exact (hS x hs (h.tx.lt x hx)).2.2 (h.txT x hx)
 ·rw [ht x (h.tx.lt x hx)]; exact h.txT x hx
 ·obtain ⟨h1,h2⟩ := h.nm b hb
  exact ⟨h1.same (k.block b h1.lt (fun hs => (hS b hs h1.lt).2.1 h2)),by rw [ht b h1.lt]; exact h2⟩
structure Rw (tag : Nat → Nat) (w : World) (b g o c : Nat) (q : Bool) (n : Nat) (N : Nat → Pn) (pl : Nat → Np) : Prop where
 hd : At w b #[.slice (some ⟨g,o,none⟩) n c,.bool q] 88
 tb : tag b = 1
 cap : n ≤ c
 max : c ≤ maxLen
 body : ∃ cur,At w g cur 109 ∧ o + c * 11 ≤ cur.size ∧ ∀ i,i < n → ∀ k,k < 11 → cur[o + i * 11 + k]? = (el (N i) (pl i))[k]?
 tg : tag g = 2
 side : ∀ i,i < n → Sd tag w i (N i).lb (pl i)
def isP (t : Nat) : Prop := t = 1 ∨ t = 2 ∨ 8 ≤ t
theorem Rw.ne {tag : Nat → Nat} {w : World} {b g o c : Nat} {q : Bool} {n : Nat} {N : Nat → Pn} {pl : Nat → Np} (h : Rw tag w b g o c q n N pl) : b ≠ g := fun e => by
 have h1 := h.tb
 rw [e,h.tg] at h1
 cases h1
theorem Rw.lt {tag : Nat → Nat} {w : World} {b g o c : Nat} {q : Bool} {n : Nat} {N : Nat → Pn} {pl : Nat → Np} (h : Rw tag w b g o c q n N pl) : b < w.heap.size ∧ g < w.heap.size := by
 obtain ⟨cur,h1,_⟩ := h.body
 exact ⟨h.hd.lt,h1.lt⟩
theorem Rw.keep {tag tag' : Nat → Nat} {S : List Nat} {w w' : World} {b g o c : Nat} {q : Bool} {n : Nat} {N : Nat → Pn} {pl : Nat → Np} (h : Rw tag w b g o c q n N pl) (k : Kp S w w') (hS : ∀ x,x ∈ S → x < w.heap.size → ¬ isP (tag x)) (ht : ∀ x,x < w.heap.size → tag' x = tag x) : Rw tag' w' b g o c q n N pl := by
 obtain ⟨lb,lg⟩ := h.lt
 obtain ⟨cur,h1,h2,h3⟩ := h.body
 refine ⟨h.hd.kept k (fun hs => hS b hs lb (.inl h.tb)),by rw [ht b lb]; exact h.tb,h.cap,h.max,⟨cur,h1.kept k (fun hs => hS g hs lg (.inr (.inl h.tg))),h2,h3⟩,by rw [ht g lg]; exact h.tg,fun i hi => (h.side i hi).keep k (fun x hs hx => ?_) ht⟩
 have := hS x hs hx
 unfold isP at this
 omega
theorem Rw.kept {tag : Nat → Nat} {w w' : World} {b g o c : Nat} {q : Bool} {n : Nat} {N : Nat → Pn} {pl : Nat → Np} (h : Rw tag w b g o c q n N pl) (k : Kp [] w w') : Rw tag w' b g o c q n N pl :=
 h.keep k (fun x hx => absurd hx (by simp)) (fun _ _ => rfl)
theorem Rw.head {tag : Nat → Nat} {w : World} {b g o c : Nat} {q : Bool} {n : Nat} {N : Nat → Pn} {pl : Nat → Np} (h : Rw tag w b g o c q n N pl) :
  w.cell? ⟨b,0,none⟩ = some (.slice (some ⟨g,o,none⟩) n c) ∧ w.cell? ⟨b,1,none⟩ = some (.bool q) := ⟨h.hd.cell 0,h.hd.cell 1⟩
theorem Rw.at {tag : Nat → Nat} {w : World} {b g o c : Nat} {q : Bool} {n : Nat} {N : Nat → Pn} {pl : Nat → Np} (h : Rw tag w b g o c q n N pl) {i : Nat} (hi : i < n) {k : Nat} (hk : k < 11) : w.cell? ⟨g,o + i * 11 + k,none⟩ = (el (N i) (pl i))[k]? := by
 obtain ⟨cur,h1,h2,h3⟩ := h.body
 rw [h1.cell,h3 i hi k hk]
theorem Rw.free {tag : Nat → Nat} {w : World} {b g o c : Nat} {q : Bool} {n : Nat} {N : Nat → Pn} {pl : Nat → Np} (h : Rw tag w b g o c q n N pl) (j : Nat) : w.frozen? ⟨g,j,none⟩ = false := by
 obtain ⟨cur,h1,h2,h3⟩ := h.body
 exact h1.free j
theorem Rw.freeb {tag : Nat → Nat} {w : World} {b g o c : Nat} {q : Bool} {n : Nat} {N : Nat → Pn} {pl : Nat → Np} (h : Rw tag w b g o c q n N pl) (j : Nat) : w.frozen? ⟨b,j,none⟩ = false := h.hd.free j
theorem idx11 {i j k l : Nat} (hk : k < 11) (hl : l < 11) : i * 11 + k = j * 11 + l ↔ i = j ∧ k = l := by omega
theorem Rw.set {tag : Nat → Nat} {w : World} {b g o c : Nat} {q : Bool} {n : Nat} {N N' : Nat → Pn} {pl pl' : Nat → Np} (h : Rw tag w b g o c q n N pl) {i k : Nat} (hi : i < n) (hk : k < 11) (u : Value) (he : el (N' i) (pl' i) = (el (N i) (pl i)).set k u) (hN : ∀ j,j < n → j ≠ i → N' j = N j ∧ pl' j = pl j) (hs : Sd tag w i (N' i).lb (pl' i)) :
  Rw tag (w.setCell ⟨g,o + i * 11 + k,none⟩ u) b g o c q n N' pl' := by
 have hne := h.ne
 obtain ⟨cur,h1,h2,h3⟩ := h.body
 have k1 : Kp [g] w (w.setCell ⟨g,o + i * 11 + k,none⟩ u) := (Kp.refl _ _).setCell (Or.inl (by simp)) _
 refine ⟨h.hd.kept k1 (by simpa using hne),h.tb,h.cap,h.max,⟨_,h1.set _ u,by simpa using h2,fun j hj l hl => ?_⟩,h.tg,fun j hj => ?_⟩
 ·rw [Array.getElem?_setIfInBounds]
  have hcap := h.cap
  have hm : i * 11 + 11 ≤ c * 11 := by omega
  by_cases hjl : o + i * 11 + k = o + j * 11 + l
  ·obtain ⟨rfl,rfl⟩ := (idx11 (i := i) (j := j) hk hl).1 (by omega)
   rw [if_pos rfl,if_pos (by omega),he,List.getElem?_set_self (by rw [el_len]; exact hk)]
  ·rw [if_neg hjl]
   by_cases hji : j = i
   ·subst hji
    rw [he,List.getElem?_set_ne (fun e => hjl (by rw [e])),h3 j hj l hl]
   ·rw [(hN j hj hji).1,(hN j hj hji).2,h3 j hj l hl]
 ·have hT : ∀ x,x ∈ [g] → x < w.heap.size → tag x ≠ 8 + 3 * j ∧ tag x ≠ 9 + 3 * j ∧ tag x ≠ 10 + 3 * j := fun x hx _ => by
   rw [List.mem_singleton.1 hx,h.tg]; omega
  by_cases hji : j = i
  ·subst hji; exact hs.keep k1 hT (fun _ _ => rfl)
  ·rw [(hN j hj hji).1,(hN j hj hji).2]; exact (h.side j hj).keep k1 hT (fun _ _ => rfl)
section
variable {tag : Nat → Nat} {w : World} {b g o c : Nat} {q : Bool} {n : Nat} {N : Nat → Pn} {pl : Nat → Np}
theorem Rw.sUp (h : Rw tag w b g o c q n N pl) {i : Nat} (hi : i < n) (v : Int) : Rw tag (w.setCell ⟨g,o + i * 11 + 6,none⟩ (.int .i64 v)) b g o c q n (sUp N i v) pl :=
 h.set hi (by omega) _ (by simp [Go.Proofs.YtpkppobkagdhkaaGreat.sUp,el]) (fun j _ hj => ⟨by simp [Go.Proofs.YtpkppobkagdhkaaGreat.sUp,hj],rfl⟩) (by simp only [Go.Proofs.YtpkppobkagdhkaaGreat.sUp,if_pos]; exact h.side i hi)
theorem Rw.sFi (h : Rw tag w b g o c q n N pl) {i : Nat} (hi : i < n) (v : Int) : Rw tag (w.setCell ⟨g,o + i * 11 + 7,none⟩ (.int .i64 v)) b g o c q n (sFi N i v) pl :=
 h.set hi (by omega) _ (by simp [Go.Proofs.YtpkppobkagdhkaaGreat.sFi,el]) (fun j _ hj => ⟨by simp [Go.Proofs.YtpkppobkagdhkaaGreat.sFi,hj],rfl⟩) (by simp only [Go.Proofs.YtpkppobkagdhkaaGreat.sFi,if_pos]; exact h.side i hi)
theorem Rw.sLa (h : Rw tag w b g o c q n N pl) {i : Nat} (hi : i < n) (v : Int) : Rw tag (w.setCell ⟨g,o + i * 11 + 8,none⟩ (.int .i64 v)) b g o c q n (sLa N i v) pl :=
 h.set hi (by omega) _ (by simp [Go.Proofs.YtpkppobkagdhkaaGreat.sLa,el]) (fun j _ hj => ⟨by simp [Go.Proofs.YtpkppobkagdhkaaGreat.sLa,hj],rfl⟩) (by simp only [Go.Proofs.YtpkppobkagdhkaaGreat.sLa,if_pos]; exact h.side i hi)
theorem Rw.sAh (h : Rw tag w b g o c q n N pl) {i : Nat} (hi : i < n) (v : Int) : Rw tag (w.setCell ⟨g,o + i * 11 + 9,none⟩ (.int .i64 v)) b g o c q n (sAh N i v) pl :=
 h.set hi (by omega) _ (by simp [Go.Proofs.YtpkppobkagdhkaaGreat.sAh,el]) (fun j _ hj => ⟨by simp [Go.Proofs.YtpkppobkagdhkaaGreat.sAh,hj],rfl⟩) (by simp only [Go.Proofs.YtpkppobkagdhkaaGreat.sAh,if_pos]; exact h.side i hi)
theorem Rw.sBe (h : Rw tag w b g o c q n N pl) {i : Nat} (hi : i < n) (v : Int) : Rw tag (w.setCell ⟨g,o + i * 11 + 10,none⟩ (.int .i64 v)) b g o c q n (sBe N i v) pl :=
 h.set hi (by omega) _ (by simp [Go.Proofs.YtpkppobkagdhkaaGreat.sBe,el]) (fun j _ hj => ⟨by simp [Go.Proofs.YtpkppobkagdhkaaGreat.sBe,hj],rfl⟩) (by simp only [Go.Proofs.YtpkppobkagdhkaaGreat.sBe,if_pos]; exact h.side i hi)
theorem Rw.links (h : Rw tag w b g o c q n N pl) {i : Nat} (hi : i < n) : w.cell? ⟨g,o + i * 11 + 6,none⟩ = some (.int .i64 (N i).up) ∧ w.cell? ⟨g,o + i * 11 + 7,none⟩ = some (.int .i64 (N i).fi) ∧ w.cell? ⟨g,o + i * 11 + 8,none⟩ = some (.int .i64 (N i).la) ∧ w.cell? ⟨g,o + i * 11 + 9,none⟩ = some (.int .i64 (N i).ah) ∧ w.cell? ⟨g,o + i * 11 + 10,none⟩ = some (.int .i64 (N i).be) :=
 ⟨h.at hi (by omega),h.at hi (by omega),h.at hi (by omega),h.at hi (by omega),h.at hi (by omega)⟩
theorem Rw.fields (h : Rw tag w b g o c q n N pl) {i : Nat} (hi : i < n) : w.cell? ⟨g,o + i * 11,none⟩ = some (.int .i64 (N i).lb.kind) ∧ w.cell? ⟨g,o + i * 11 + 1,none⟩ = some (.int .i64 (N i).lb.ns) ∧ w.cell? ⟨g,o + i * 11 + 2,none⟩ = some (.string (N i).lb.name) ∧ w.cell? ⟨g,o + i * 11 + 3,none⟩ = some (.slice (pl i).ao (pl i).an (pl i).ac) ∧ w.cell? ⟨g,o + i * 11 + 4,none⟩ = some (.map (pl i).nm) ∧ w.cell? ⟨g,o + i * 11 + 5,none⟩ = some (.slice (pl i).to (pl i).tn (pl i).tc) :=
 ⟨h.at (k := 0) hi (by omega),h.at hi (by omega),h.at hi (by omega),h.at hi (by omega),h.at hi (by omega),h.at hi (by omega)⟩
end
end Go.Proofs.YtpkppobkagdhkaaGreat
