/-
 LotsB LotsC Chain.
-/
import Derived.Test.YtpkppobkagdhkaaGreatB5
import Derived.Test.YtpkppobkagdhkaaGreatB7
set_option linter.unusedVariables false
set_option linter.unusedSimpArgs false
set_option maxRecDepth 100000
set_option maxHeartbeats 1000000
namespace Go.Proofs.YtpkppobkagdhkaaGreat
namespace Ar
def hld (l : Lb) : Bool := decide (l.kind = 1) || decide (l.kind = 3) || decide (l.kind = 6)
def fix (l : Lb) : Bool := decide (l.kind = 1) || decide (l.kind = 6)
structure Ful (a : Ar) : Prop extends Ok a where
 doc : ∀ x,x < a.n → ((a.lb x).kind = 1 ↔ x = 0)
 con : ∀ x,x < a.n → (a.lb x).kind = 6 → ∃ p,(a.kids p).head? = some x ∧ tmplF (a.lb p) = true
 has : ∀ p,p < a.n → tmplF (a.lb p) = true → ∃ c,(a.kids p).head? = some c ∧ (a.lb c).kind = 6
 may : ∀ p,a.kids p ≠ [] → hld (a.lb p) = true
theorem fix_doc {l : Lb} (h : fix l = false) : l.kind ≠ 1 ∧ l.kind ≠ 6 := by simpa [fix] using h
theorem head_put {k : List Nat} {i x c : Nat} (h : k.head? = some c) (hi : i ≠ 0) : (k.take i ++ x :: k.drop i).head? = some c := by
 cases k with
 | nil => cases h
 | cons y ys =>
   cases i with
   | zero => exact absurd rfl hi
   | succ i => simpa using h
theorem head_cut {k : List Nat} {x c : Nat} (h : k.head? = some c) (hx : c ≠ x) : (k.erase x).head? = some c := by
 cases k with
 | nil => cases h
 | cons y ys =>
   obtain rfl : y = c := by simpa using h
   rw [List.erase_cons_tail (by simpa using hx)]
   rfl
theorem Ful.put {a : Ar} (h : a.Ful) {p i x : Nat} (hp : p < a.n) (hx : x < a.n) (hh : hld (a.lb p) = true) (hf : fix (a.lb x) = false) (hu : a.up x = none) (hw : ¬ a.Wn p x) (hi : tmplF (a.lb p) = true → i ≠ 0) : (a.put p i x).Ful := by
 have hd := fix_doc hf
 refine ⟨h.toOk.put hp hx (fun e => hd.1 ((h.doc x hx).2 e)) hu hw,h.doc,fun y hy hk => ?_,fun q hq ht => ?_,fun q hq => ?_⟩
 ·obtain ⟨q,h1,h2⟩ := h.con y hy hk
  refine ⟨q,?_,h2⟩
  show (if q = p then _ else _ : List Nat).head? = _
  by_cases e : q = p
  ·subst e
   rw [if_pos rfl]; exact head_put h1 (hi h2)
  ·rw [if_neg e]; exact h1
 ·obtain ⟨c,h1,h2⟩ := h.has q hq ht
  refine ⟨c,?_,h2⟩
  show (if q = p then _ else _ : List Nat).head? = _
  by_cases e : q = p
  ·subst e
   rw [if_pos rfl]; exact head_put h1 (hi ht)
  ·rw [if_neg e]; exact h1
 ·by_cases e : q = p
  ·rw [e]; exact hh
  ·have hq' : (if q = p then _ else _ : List Nat) ≠ [] := hq
   rw [if_neg e] at hq'
   exact h.may q hq'
theorem Ful.cut {a : Ar} (h : a.Ful) {x : Nat} (hf : fix (a.lb x) = false) : (a.cut x).Ful := by
 have hd := fix_doc hf
 refine ⟨h.toOk.cut x,h.doc,fun y hy hk => ?_,fun q hq ht => ?_,fun q hq => ?_⟩
 ·obtain ⟨q,h1,h2⟩ := h.con y hy hk
  refine ⟨q,?_,h2⟩
  show (if a.up x = some q then _ else _ : List Nat).head? = _
  split
  ·exact head_cut h1 (fun e => hd.2 (e ▸ hk))
  ·exact h1
 ·obtain ⟨c,h1,h2⟩ := h.has q hq ht
  refine ⟨c,?_,h2⟩
  show (if a.up x = some q then _ else _ : List Nat).head? = _
  split
  ·exact head_cut h1 (fun e => hd.2 (e ▸ h2))
  ·exact h1
 ·refine h.may q (fun e => hq ?_)
  show (if a.up x = some q then _ else _ : List Nat) = []
  rw [e]; split <;> rfl
theorem Ful.new {a : Ar} (h : a.Ful) {l : Lb} (hf : fix l = false) (ht : tmplF l = false) : (a.new l).Ful := by
 have hd := fix_doc hf
 have hn : ∀ y,y < a.n + 1 → y ≠ a.n → y < a.n := fun y h1 h2 => by omega
 have h0 := h.pos
 refine ⟨h.toOk.new l,fun y hy => ?_,fun y hy hk => ?_,fun q hq hq2 => ?_,fun q hq => ?_⟩
 ·show ((if y = a.n then l else a.lb y) : Lb).kind = 1 ↔ y = 0
  by_cases e : y = a.n
  ·rw [if_pos e]; exact ⟨fun e2 => absurd e2 hd.1,fun e2 => by omega⟩
  ·rw [if_neg e]; exact h.doc y (hn y hy e)
 ·replace hk : ((if y = a.n then l else a.lb y) : Lb).kind = 6 := hk
  by_cases e : y = a.n
  ·rw [if_pos e] at hk; exact absurd hk hd.2
  ·rw [if_neg e] at hk
   obtain ⟨q,h1,h2⟩ := h.con y (hn y hy e) hk
   refine ⟨q,h1,?_⟩
   show tmplF (if q = a.n then l else a.lb q) = true
   rw [if_neg (fun e => by rw [e,(h.out a.n (Nat.le_refl _)).1] at h1; cases h1)]
   exact h2
 ·replace hq2 : tmplF (if q = a.n then l else a.lb q) = true := hq2
  by_cases e : q = a.n
  ·rw [if_pos e,ht] at hq2; cases hq2
  ·rw [if_neg e] at hq2
   obtain ⟨c,h1,h2⟩ := h.has q (hn q hq e) hq2
   refine ⟨c,h1,?_⟩
   show ((if c = a.n then l else a.lb c) : Lb).kind = 6
   have hc : c < a.n := (h.kid_lt (List.mem_of_mem_head? h1)).1
   rw [if_neg (by omega)]; exact h2
 ·show hld (if q = a.n then l else a.lb q) = true
  rw [if_neg (fun e => hq (by rw [e]; exact (h.out a.n (Nat.le_refl _)).1))]
  exact h.may q hq
def newT (a : Ar) (l : Lb) : Ar := ((a.new l).new (6,0,⟨#[]⟩,[],⟨#[]⟩)).put a.n 0 (a.n + 1)
theorem newT_lb (a : Ar) (l : Lb) (y : Nat) : (a.newT l).lb y = if y = a.n + 1 then (6,0,⟨#[]⟩,[],⟨#[]⟩) else if y = a.n then l else a.lb y := rfl
theorem newT_kids {a : Ar} (h : a.Ok) (l : Lb) (y : Nat) : (a.newT l).kids y = if y = a.n then [a.n + 1] else a.kids y := by
 show (if y = a.n then (a.kids a.n).take 0 ++ (a.n + 1) :: (a.kids a.n).drop 0 else a.kids y) = _
 rw [(h.out a.n (Nat.le_refl _)).1]; rfl
theorem Ful.newT {a : Ar} (h : a.Ful) {l : Lb} (ht : tmplF l = true) : (a.newT l).Ful := by
 have hk : l.kind = 3 := by simp [tmplF] at ht; exact ht.1
 have h0 := h.pos
 have hu : ∀ x,a.n ≤ x → a.up x = none := fun x hx => (h.out x hx).2
 have hO : (a.newT l).Ok := by
  refine ((h.toOk.new l).new _).put (show a.n < a.n + 1 + 1 by omega) (show a.n + 1 < a.n + 1 + 1 by omega) (by omega) (hu _ (by omega)) (fun hw => ?_)
  have := (Wn.none (a := (a.new l).new (6,0,⟨#[]⟩,[],⟨#[]⟩)) (x := a.n) (t := a.n + 1) (hu _ (Nat.le_refl _))).1 hw
  omega
 have hN : (a.newT l).n = a.n + 2 := rfl
 refine ⟨hO,fun y hy => ?_,fun y hy hk2 => ?_,fun q hq hq2 => ?_,fun q hq => ?_⟩
 ·rw [newT_lb]
  split
  ·rename_i e; exact ⟨fun e2 => by simp [Lb.kind] at e2,fun e2 => by omega⟩
  ·split
   ·rename_i e; exact ⟨fun e2 => (by rw [hk] at e2; exact absurd e2 (by decide)),fun e2 => by omega⟩
   ·exact h.doc y (by omega)
 ·rw [newT_lb] at hk2
  by_cases e : y = a.n + 1
  ·exact ⟨a.n,by rw [newT_kids h.toOk,if_pos rfl,e]; rfl,by rw [newT_lb,if_neg (by omega),if_pos rfl]; exact ht⟩
  ·rw [if_neg e] at hk2
   by_cases e2 : y = a.n
   ·rw [if_pos e2,hk] at hk2; cases hk2
   ·rw [if_neg e2] at hk2
    obtain ⟨q,h1,h2⟩ := h.con y (by omega) hk2
    have hq : q < a.n := (h.kid_lt (List.mem_of_mem_head? h1)).2
    exact ⟨q,by rw [newT_kids h.toOk,if_neg (by omega)]; exact h1,by rw [newT_lb,if_neg (by omega),if_neg (by omega)]; exact h2⟩
 ·rw [newT_lb] at hq2
  by_cases e : q = a.n + 1
  ·rw [if_pos e] at hq2; simp [tmplF,Lb.kind] at hq2
  ·rw [if_neg e] at hq2
   by_cases e2 : q = a.n
   ·exact ⟨a.n + 1,by rw [newT_kids h.toOk,if_pos e2]; rfl,by rw [newT_lb,if_pos rfl]⟩
   ·rw [if_neg e2] at hq2
    obtain ⟨c,h1,h2⟩ := h.has q (by omega) hq2
    have hc : c < a.n := (h.kid_lt (List.mem_of_mem_head? h1)).1
    exact ⟨c,by rw [newT_kids h.toOk,if_neg e2]; exact h1,by rw [newT_lb,if_neg (by omega),if_neg (by omega)]; exact h2⟩
 ·rw [newT_kids h.toOk] at hq
  by_cases e2 : q = a.n
  ·rw [newT_lb,if_neg (by omega),if_pos e2]; simp [hld,hk]
  ·rw [if_neg e2] at hq
   have hq3 : q < a.n := Nat.lt_of_not_le fun hle => hq (h.out q hle).1
   rw [newT_lb,if_neg (by omega),if_neg e2]
   exact h.may q hq
theorem Ful.tell {a : Ar} (h : a.Ful) {x : Nat} {l : Lb} (hk : l.kind = (a.lb x).kind) (ht : tmplF l = tmplF (a.lb x)) : (a.tell x l).Ful := by
 have e1 : ∀ y,((a.tell x l).lb y).kind = (a.lb y).kind := fun y => by
  show ((if y = x then l else a.lb y) : Lb).kind = _
  split
  ·rename_i e; rw [e]; exact hk
  ·rfl
 have e2 : ∀ y,tmplF ((a.tell x l).lb y) = tmplF (a.lb y) := fun y => by
  show tmplF (if y = x then l else a.lb y) = _
  split
  ·rename_i e; rw [e]; exact ht
  ·rfl
 refine ⟨h.toOk.tell x l,fun y hy => by rw [e1]; exact h.doc y hy,fun y hy hk => ?_,fun q hq hq2 => ?_,fun q hq => ?_⟩
 ·rw [e1] at hk
  obtain ⟨q,h1,h2⟩ := h.con y hy hk
  exact ⟨q,h1,by rw [e2]; exact h2⟩
 ·rw [e2] at hq2
  obtain ⟨c,h1,h2⟩ := h.has q hq hq2
  exact ⟨c,h1,by rw [e1]; exact h2⟩
 ·have := h.may q hq
  unfold hld at this ⊢
  rw [e1]; exact this
theorem first_ful : first.Ful := ⟨first_ok,fun x hx => ⟨fun _ => by have : x < 1 := hx; omega,fun _ => rfl⟩,fun x _ hk => by simp [first,Lb.kind] at hk,fun p _ ht => by simp [first,tmplF,Lb.kind] at ht,fun p hp => absurd rfl hp⟩
end Ar
namespace Ar
def wn (a : Ar) (x t : Nat) : Bool := (List.range a.n).any fun k => a.anc k x == some t
theorem wn_iff {a : Ar} (h : a.Ok) {x t : Nat} (hx : x < a.n) : a.wn x t = true ↔ a.Wn x t := by
 unfold wn
 rw [List.any_eq_true]
 constructor
 ·rintro ⟨k,_,e⟩
  exact ⟨k,by simpa using e⟩
 ·rintro ⟨k,e⟩
  exact ⟨k,List.mem_range.2 (h.anc_lt hx e),by simpa using e⟩
theorem wn_false {a : Ar} (h : a.Ok) {x t : Nat} (hx : x < a.n) (e : a.wn x t = false) : ¬ a.Wn x t := fun hw => by
 rw [(wn_iff h hx).2 hw] at e; cases e
def there (a : Ar) (z : Int) : Bool := decide (0 ≤ z ∧ z < a.n)
theorem there_lt {a : Ar} {z : Int} (h : a.there z = true) : z.toNat < a.n ∧ (z.toNat : Int) = z := by
 simp only [there,decide_eq_true_eq] at h; omega
def mkF (a : Ar) (kind ns : Int) (name : ByteArray) (u : List Att) (text : ByteArray) : Ar × Int × Int :=
 if kind < 2 ∨ 5 < kind then (a,0,23)
 else if kind = 3 then
  if (ns ≠ 1 ∧ ns ≠ 2) ∨ name.size = 0 then (a,0,12)
  else if tmplF (3,ns,name,u,⟨#[]⟩) then (a.newT (3,ns,name,u,⟨#[]⟩),a.n,0)
  else (a.new (3,ns,name,u,⟨#[]⟩),a.n,0)
 else if kind = 2 then (a.new (2,0,name,[],⟨#[]⟩),a.n,0)
 else (a.new (kind,0,⟨#[]⟩,[],text),a.n,0)
theorem Ful.mkF {a : Ar} (h : a.Ful) (kind ns : Int) (name : ByteArray) (u : List Att) (text : ByteArray) : (a.mkF kind ns name u text).1.Ful := by
 unfold Ar.mkF
 split
 ·exact h
 rename_i h1
 split
 ·split
  ·exact h
  split
  ·rename_i ht; exact h.newT ht
  ·rename_i ht; exact h.new (by simp [fix,Lb.kind]) (by simpa using ht)
 rename_i h3
 split
 ·exact h.new (by simp [fix,Lb.kind]) (by simp [tmplF,Lb.kind])
 ·exact h.new (by simp [fix,Lb.kind]; omega) (by simp [tmplF,Lb.kind]; omega)
def appF (a : Ar) (p x : Int) : Ar × Int :=
 if a.there p = false ∨ a.there x = false then (a,22)
 else if hld (a.lb p.toNat) = false ∨ fix (a.lb x.toNat) = true then (a,23)
 else if a.up x.toNat ≠ none then (a,24)
 else if a.wn p.toNat x.toNat = true then (a,26)
 else (a.put p.toNat (a.kids p.toNat).length x.toNat,0)
theorem Ful.tmpl_pos {a : Ar} (h : a.Ful) {p : Nat} (hp : p < a.n) (ht : tmplF (a.lb p) = true) : (a.kids p).length ≠ 0 := fun e => by
 obtain ⟨c,h1,_⟩ := h.has p hp ht
 rw [List.length_eq_zero_iff.1 e] at h1; cases h1
theorem Ful.appF {a : Ar} (h : a.Ful) (p x : Int) : (a.appF p x).1.Ful := by
 unfold Ar.appF
 split
 ·exact h
 rename_i h1
 split
 ·exact h
 rename_i h2
 split
 ·exact h
 rename_i h3
 split
 ·exact h
 rename_i h4
 simp only [not_or,Bool.not_eq_false,Bool.not_eq_true] at h1 h2 h4
 have hp := (there_lt h1.1).1
 exact h.put hp (there_lt h1.2).1 h2.1 h2.2 (by simpa using h3) (wn_false h.toOk hp h4) (fun ht => h.tmpl_pos hp ht)
def place (a : Ar) (p x : Nat) : Nat := (a.kids p).idxOf x
theorem Ful.place_pos {a : Ar} (h : a.Ful) {p x : Nat} (hu : a.up x = some p) (hf : fix (a.lb x) = false) (ht : tmplF (a.lb p) = true) : a.place p x ≠ 0 := fun e => by
 obtain ⟨c,h1,h2⟩ := h.has p (h.lt hu).2 ht
 have hm := (h.link p x).2 hu
 have hd := fix_doc hf
 unfold place at e
 cases hk : a.kids p with
 | nil => rw [hk] at hm; cases hm
 | cons y ys =>
   rw [hk] at h1 e
   obtain rfl : y = c := by simpa using h1
   rw [List.idxOf_cons] at e
   by_cases hy : y = x
   ·rw [hy] at h2; exact hd.2 h2
   ·have hb : (y == x) = false := by simpa using hy
    rw [hb] at e
    exact absurd e (by simp)
def befF (a : Ar) (r x : Int) : Ar × Int :=
 if a.there r = false ∨ a.there x = false then (a,22)
 else match a.up r.toNat with
 | none => (a,23)
 | some p =>
   if fix (a.lb r.toNat) = true ∨ fix (a.lb x.toNat) = true then (a,23)
   else if a.up x.toNat ≠ none then (a,24)
   else if a.wn r.toNat x.toNat = true then (a,26)
   else (a.put p (a.place p r.toNat) x.toNat,0)
theorem Ful.up_hld {a : Ar} (h : a.Ful) {p x : Nat} (hu : a.up x = some p) : hld (a.lb p) = true :=
 h.may p (List.ne_nil_of_mem ((h.link p x).2 hu))
theorem Ful.befF {a : Ar} (h : a.Ful) (r x : Int) : (a.befF r x).1.Ful := by
 unfold Ar.befF
 split
 ·exact h
 rename_i h1
 split
 ·exact h
 rename_i p hu
 split
 ·exact h
 rename_i h2
 split
 ·exact h
 rename_i h3
 split
 ·exact h
 rename_i h4
 simp only [not_or,Bool.not_eq_false,Bool.not_eq_true] at h1 h2 h4
 have hr := (there_lt h1.1).1
 have hw := wn_false h.toOk hr h4
 exact h.put (h.lt hu).2 (there_lt h1.2).1 (h.up_hld hu) h2.2 (by simpa using h3) (fun hp => hw (Wn.step hu hp)) (fun ht => h.place_pos hu h2.1 ht)
def detF (a : Ar) (x : Int) : Ar × Int :=
 if a.there x = false then (a,22) else if fix (a.lb x.toNat) = true then (a,23) else (a.cut x.toNat,0)
theorem Ful.detF {a : Ar} (h : a.Ful) (x : Int) : (a.detF x).1.Ful := by
 unfold Ar.detF
 split
 ·exact h
 split
 ·exact h
 ·rename_i h2; exact h.cut (by simpa using h2)
def shift (a : Ar) (t x : Nat) : Ar := (a.cut x).put t ((a.cut x).kids t).length x
theorem shift_up {a : Ar} {t x y : Nat} (hy : y ≠ x) : (a.shift t x).up y = a.up y := by
 show (if y = x then _ else if y = x then _ else _) = _
 rw [if_neg hy,if_neg hy]
theorem shift_wn {a : Ar} {f t x y : Nat} (hu : a.up x = some f) (hw : ¬ a.Wn t f) (hy : a.Wn t y) (h : (a.shift t x).Wn y f) : a.Wn y f := by
 obtain ⟨k,e⟩ := h
 induction k generalizing y with
 | zero => exact ⟨0,e⟩
 | succ k ih =>
   have hyx : y ≠ x := fun e => hw ((e ▸ hy).trans (Wn.step hu (Wn.refl a f)))
   cases hq : a.up y with
   | none => simp [anc,shift_up hyx,hq] at e
   | some q => exact Wn.step hq (ih (hy.trans (Wn.step hq (Wn.refl a q))) (by simpa [anc,shift_up hyx,hq] using e))
theorem Ful.shift {a : Ar} (h : a.Ful) {f t x : Nat} (hu : a.up x = some f) (hf : fix (a.lb x) = false) (ht : t < a.n) (hh : hld (a.lb t) = true) (hw : ¬ a.Wn t f) : (a.shift t x).Ful :=
 (h.cut hf).put ht (h.lt hu).1 hh hf (by show (if x = x then _ else _) = none; rw [if_pos rfl]) (fun hw2 => hw ((cut_wn hw2).trans (Wn.step hu (Wn.refl a f)))) (fun htm => (h.cut hf).tmpl_pos ht htm)
def movs (a : Ar) (t : Nat) : List Nat → Ar
 | [] => a
 | x :: xs => if (a.lb x).kind = 6 then a.movs t xs else (a.shift t x).movs t xs
theorem Ful.movs {f t : Nat} : ∀ (xs : List Nat) (a : Ar),a.Ful → xs.Nodup → (∀ x ∈ xs,a.up x = some f) → t < a.n → hld (a.lb t) = true → ¬ a.Wn t f → (a.movs t xs).Ful ∧ (a.movs t xs).n = a.n ∧ (a.movs t xs).lb = a.lb
 | [],a,h,_,_,_,_,_ => ⟨h,rfl,rfl⟩
 | x :: xs,a,h,hn,hx,ht,hh,hw => by
   have hn' := List.nodup_cons.1 hn
   have hu := hx x (List.mem_cons_self ..)
   unfold Ar.movs
   split
   ·exact Ful.movs xs a h hn'.2 (fun y hy => hx y (List.mem_cons_of_mem _ hy)) ht hh hw
   ·rename_i h6
    have h1 : (a.lb x).kind ≠ 1 := fun e => by
     have := (h.doc x (h.lt hu).1).1 e
     rw [this,h.top] at hu; cases hu
    have hf : fix (a.lb x) = false := by simp [fix,h1,h6]
    exact Ful.movs xs (a.shift t x) (h.shift hu hf ht hh hw) hn'.2 (fun y hy => by
     have hyx : y ≠ x := fun e => hn'.1 (e ▸ hy)
     rw [shift_up hyx]; exact hx y (List.mem_cons_of_mem _ hy)) ht hh (fun hw2 => hw (shift_wn hu hw (Wn.refl a t) hw2))
def movF (a : Ar) (f t : Int) : Ar × Int :=
 if a.there f = false ∨ a.there t = false then (a,22)
 else if hld (a.lb f.toNat) = false ∨ hld (a.lb t.toNat) = false then (a,23)
 else if a.wn t.toNat f.toNat = true then (a,26)
 else (a.movs t.toNat (a.kids f.toNat),0)
theorem Ful.movF {a : Ar} (h : a.Ful) (f t : Int) : (a.movF f t).1.Ful := by
 unfold Ar.movF
 split
 ·exact h
 rename_i h1
 split
 ·exact h
 rename_i h2
 split
 ·exact h
 rename_i h4
 simp only [not_or,Bool.not_eq_false,Bool.not_eq_true] at h1 h2 h4
 have ht := (there_lt h1.2).1
 exact (Ful.movs (f := f.toNat) _ a h (h.one _) (fun x hx => (h.link _ x).1 hx) ht h2.2 (wn_false h.toOk ht h4)).1
def txt (a : Ar) (p i : Nat) (s : ByteArray) : Ar :=
 if s.size = 0 ∨ (a.lb p).kind = 1 then a
 else match (if i = 0 then none else (a.kids p)[i - 1]?) with
 | some k => if (a.lb k).kind = 4 then a.tell k (4,(a.lb k).ns,(a.lb k).name,(a.lb k).attrs,(a.lb k).text ++ s) else (a.new (4,0,⟨#[]⟩,[],s)).put p i a.n
 | none => (a.new (4,0,⟨#[]⟩,[],s)).put p i a.n
theorem Ful.txt_new {a : Ar} (h : a.Ful) {p i : Nat} (s : ByteArray) (hp : p < a.n) (hh : hld (a.lb p) = true) (hi : tmplF (a.lb p) = true → i ≠ 0) : ((a.new (4,0,⟨#[]⟩,[],s)).put p i a.n).Ful := by
 have hl : (a.new (4,0,⟨#[]⟩,[],s)).lb p = a.lb p := by show (if p = a.n then _ else _) = _; rw [if_neg (by omega)]
 have hl2 : (a.new (4,0,⟨#[]⟩,[],s)).lb a.n = (4,0,⟨#[]⟩,[],s) := by show (if a.n = a.n then _ else _) = _; rw [if_pos rfl]
 have hw : ∀ k y,a.anc k y = (a.new (4,0,⟨#[]⟩,[],s)).anc k y := fun k => by
  induction k with
  | zero => exact fun _ => rfl
  | succ k ih =>
    intro y
    show (a.up y).bind (a.anc k) = (a.up y).bind ((a.new (4,0,⟨#[]⟩,[],s)).anc k)
    cases a.up y with
    | none => rfl
    | some q => exact ih q
 refine (h.new (l := (4,0,⟨#[]⟩,[],s)) (by simp [fix,Lb.kind]) (by simp [tmplF,Lb.kind])).put (show p < a.n + 1 by omega) (show a.n < a.n + 1 by omega) (by rw [hl]; exact hh) (by rw [hl2]; simp [fix,Lb.kind]) (h.out a.n (Nat.le_refl _)).2 ?_ (by rw [hl]; exact hi)
 rintro ⟨k,e⟩
 rw [← hw] at e
 have : ∀ k y z,y < a.n → a.anc k y = some z → z < a.n := fun k => by
  induction k with
  | zero => intro y z hy e; obtain rfl : y = z := by simpa [anc] using e
            exact hy
  | succ k ih =>
    intro y z hy e
    cases hu : a.up y with
    | none => simp [anc,hu] at e
    | some q => exact ih q z (h.lt hu).2 (by simpa [anc,hu] using e)
 exact absurd (this k p a.n hp e) (Nat.lt_irrefl _)
theorem Ful.txt {a : Ar} (h : a.Ful) {p i : Nat} (s : ByteArray) (hp : p < a.n) (hh : hld (a.lb p) = true) (hi : tmplF (a.lb p) = true → i ≠ 0) : (a.txt p i s).Ful := by
 unfold Ar.txt
 split
 ·exact h
 split
 ·split
  ·rename_i k _ hk
   exact h.tell (by simp [Lb.kind,hk]) (by simp [tmplF,Lb.kind,hk])
  ·exact h.txt_new s hp hh hi
 ·exact h.txt_new s hp hh hi
def wrF (a : Ar) (p : Int) (s : ByteArray) : Ar × Int :=
 if a.there p = false then (a,22) else if hld (a.lb p.toNat) = false then (a,23) else (a.txt p.toNat (a.kids p.toNat).length s,0)
theorem Ful.wrF {a : Ar} (h : a.Ful) (p : Int) (s : ByteArray) : (a.wrF p s).1.Ful := by
 unfold Ar.wrF
 split
 ·exact h
 split
 ·exact h
 rename_i h1 h2
 have hp := (there_lt (by simpa using h1)).1
 exact h.txt s hp (by simpa using h2) (fun ht => h.tmpl_pos hp ht)
def wbF (a : Ar) (r : Int) (s : ByteArray) : Ar × Int :=
 if a.there r = false then (a,22)
 else match a.up r.toNat with
 | none => (a,23)
 | some p => if fix (a.lb r.toNat) = true then (a,23) else (a.txt p (a.place p r.toNat) s,0)
theorem Ful.wbF {a : Ar} (h : a.Ful) (r : Int) (s : ByteArray) : (a.wbF r s).1.Ful := by
 unfold Ar.wbF
 split
 ·exact h
 split
 ·exact h
 rename_i p hu
 split
 ·exact h
 rename_i h2
 exact h.txt s (h.lt hu).2 (h.up_hld hu) (fun ht => h.place_pos hu (by simpa using h2) ht)
def morF (a : Ar) (x : Int) (g : List Att → List Att) : Ar × Int :=
 if a.there x = false then (a,22)
 else if (a.lb x.toNat).kind ≠ 3 then (a,23)
 else (a.tell x.toNat (3,(a.lb x.toNat).ns,(a.lb x.toNat).name,g (a.lb x.toNat).attrs,(a.lb x.toNat).text),0)
theorem Ful.morF {a : Ar} (h : a.Ful) (x : Int) (g : List Att → List Att) : (a.morF x g).1.Ful := by
 unfold Ar.morF
 split
 ·exact h
 split
 ·exact h
 rename_i h2
 have h3 : (a.lb x.toNat).kind = 3 := by simpa using h2
 exact h.tell (by simp [Lb.kind] at h3 ⊢; exact h3.symm) (by simp [tmplF,Lb.kind,Lb.ns,Lb.name] at h3 ⊢; simp [h3])
end Ar
def hdI : List Nat → Int
 | [] => -1
 | x :: _ => x
def laG (p : Int) : List Nat → Int
 | [] => p
 | y :: r => laG y r
def laI (k : List Nat) : Int := laG (-1) k
def befG (p : Int) : List Nat → Nat → Int
 | [],_ => -1
 | y :: r,x => if y = x then p else befG y r x
def bef (k : List Nat) (x : Nat) : Int := befG (-1) k x
def aft : List Nat → Nat → Int
 | [],_ => -1
 | y :: r,x => if y = x then hdI r else aft r x
theorem hdI_neg {k : List Nat} : hdI k = -1 ↔ k = [] := by
 cases k with
 | nil => exact ⟨fun _ => rfl,fun _ => rfl⟩
 | cons x r => exact ⟨fun h => by have : (x : Int) = -1 := h; omega,fun h => by cases h⟩
theorem laG_nat (p : Nat) : ∀ k : List Nat,∃ z : Nat,laG p k = z ∧ z ∈ p :: k
 | [] => ⟨p,rfl,by simp⟩
 | y :: r => by
   obtain ⟨z,h1,h2⟩ := laG_nat y r
   exact ⟨z,h1,List.mem_cons_of_mem _ h2⟩
theorem laI_cons (y : Nat) (r : List Nat) : ∃ z : Nat,laI (y :: r) = z ∧ z ∈ y :: r := laG_nat y r
theorem laI_neg {k : List Nat} : laI k = -1 ↔ k = [] := by
 cases k with
 | nil => exact ⟨fun _ => rfl,fun _ => rfl⟩
 | cons x r =>
   obtain ⟨z,h1,_⟩ := laI_cons x r
   exact ⟨fun h => by omega,fun h => by cases h⟩
theorem laG_app (p : Int) : ∀ (k : List Nat) (x : Nat) (r : List Nat),laG p (k ++ x :: r) = laG x r
 | [],_,_ => rfl
 | y :: k,x,r => laG_app y k x r
theorem laI_app (k : List Nat) (x : Nat) (r : List Nat) : laI (k ++ x :: r) = laI (x :: r) := laG_app _ k x r
theorem laI_mem {k : List Nat} {y : Nat} (h : laI k = y) : y ∈ k := by
 cases k with
 | nil => have : (-1 : Int) = y := h; omega
 | cons x r =>
   obtain ⟨z,h1,h2⟩ := laI_cons x r
   have : z = y := by omega
   exact this ▸ h2
theorem hdI_mem {k : List Nat} {y : Nat} (h : hdI k = y) : y ∈ k := by
 cases k with
 | nil => have : (-1 : Int) = y := h; omega
 | cons x r => have : (x : Int) = y := h; have : x = y := by omega
               simp [this]
theorem befG_at (p : Int) : ∀ (k1 : List Nat) (x : Nat) (k2 : List Nat),x ∉ k1 → befG p (k1 ++ x :: k2) x = laG p k1
 | [],x,k2,_ => by simp [befG,laG]
 | y :: r,x,k2,h => by
   have h1 : y ≠ x := fun e => h (by simp [e])
   simp only [List.cons_append,befG,if_neg h1,laG]
   exact befG_at y r x k2 (fun hm => h (List.mem_cons_of_mem _ hm))
theorem bef_at {k1 : List Nat} {x : Nat} {k2 : List Nat} (h : x ∉ k1) : bef (k1 ++ x :: k2) x = laI k1 := befG_at _ k1 x k2 h
theorem befG_put (p : Int) : ∀ (k1 k2 : List Nat) (x y : Nat),y ≠ x → (k1 ++ k2).Nodup → befG p (k1 ++ x :: k2) y = if hdI k2 = (y : Int) then (x : Int) else befG p (k1 ++ k2) y
 | [],k2,x,y,h,hn => by
   simp only [List.nil_append,befG,if_neg (Ne.symm h)]
   cases k2 with
   | nil => rw [if_neg (show ¬ hdI [] = (y : Int) by show ¬ (-1 : Int) = y; omega)]; rfl
   | cons z r =>
     show (if z = y then (x : Int) else befG z r y) = if (z : Int) = y then (x : Int) else (if z = y then p else befG z r y)
     by_cases e : z = y
     ·rw [if_pos e,if_pos (by omega)]
     ·rw [if_neg e,if_neg (by omega),if_neg e]
 | z :: r,k2,x,y,h,hn => by
   simp only [List.cons_append,befG]
   have hn' := List.nodup_cons.1 hn
   by_cases e : z = y
   ·rw [if_pos e,if_pos e,if_neg (fun e2 => hn'.1 (by rw [e]; exact List.mem_append_right _ (hdI_mem e2)))]
   ·rw [if_neg e,if_neg e]
    exact befG_put z r k2 x y h hn'.2
theorem bef_put {k1 k2 : List Nat} {x y : Nat} (h : y ≠ x) (hn : (k1 ++ k2).Nodup) : bef (k1 ++ x :: k2) y = if hdI k2 = (y : Int) then (x : Int) else bef (k1 ++ k2) y := befG_put _ k1 k2 x y h hn
theorem aft_at : ∀ {k1 : List Nat} {x : Nat} {k2 : List Nat},x ∉ k1 → aft (k1 ++ x :: k2) x = hdI k2
 | [],x,k2,_ => by simp [aft]
 | y :: r,x,k2,h => by
   have h1 : y ≠ x := fun e => h (by simp [e])
   simp only [List.cons_append,aft,if_neg h1]
   exact aft_at (fun hm => h (List.mem_cons_of_mem _ hm))
theorem aft_put : ∀ {k1 k2 : List Nat} {x y : Nat},y ≠ x → (k1 ++ k2).Nodup → aft (k1 ++ x :: k2) y = if laI k1 = (y : Int) then (x : Int) else aft (k1 ++ k2) y
 | [],k2,x,y,h,hn => by
   rw [if_neg (show ¬ laI [] = (y : Int) by show ¬ (-1 : Int) = y; omega)]
   simp only [List.nil_append,aft,if_neg (Ne.symm h)]
 | [z],k2,x,y,h,hn => by
   simp only [List.cons_append,List.nil_append,aft,if_neg (Ne.symm h),hdI]
   have e0 : laI [z] = (z : Int) := rfl
   rw [e0]
   by_cases e : z = y
   ·rw [if_pos e,if_pos (by omega)]
   ·rw [if_neg e,if_neg (by omega),if_neg e]
 | z :: z2 :: r,k2,x,y,h,hn => by
   have hn' := List.nodup_cons.1 hn
   have e0 : laI (z :: z2 :: r) = laI (z2 :: r) := rfl
   have ih := aft_put (k1 := z2 :: r) (k2 := k2) h hn'.2
   rw [e0]
   show (if z = y then hdI (z2 :: r ++ x :: k2) else aft (z2 :: r ++ x :: k2) y) = if _ then _ else (if z = y then hdI (z2 :: r ++ k2) else aft (z2 :: r ++ k2) y)
   by_cases e : z = y
   ·rw [if_pos e,if_pos e,if_neg (fun e2 => hn'.1 (by rw [e]; exact List.mem_append_left _ (laI_mem e2)))]
    rfl
   ·rw [if_neg e,if_neg e]; exact ih
theorem hdI_put (k1 k2 : List Nat) (x : Nat) : hdI (k1 ++ x :: k2) = if laI k1 = -1 then (x : Int) else hdI (k1 ++ k2) := by
 cases k1 with
 | nil => rfl
 | cons y r => rw [if_neg (fun e => by have := laI_neg.1 e; cases this)]; rfl
theorem laI_put (k1 k2 : List Nat) (x : Nat) : laI (k1 ++ x :: k2) = if hdI k2 = -1 then (x : Int) else laI (k1 ++ k2) := by
 cases k2 with
 | nil => rw [laI_app]; rfl
 | cons y r =>
   rw [if_neg (fun e => by have := hdI_neg.1 e; cases this),laI_app,laI_app]; rfl
theorem hdI_nil : hdI [] = -1 := rfl
theorem laI_nil : laI [] = -1 := rfl
theorem laI_split {k : List Nat} {z : Nat} (h : laI k = (z : Int)) : ∃ k3,k = k3 ++ [z] := by
 rcases List.eq_nil_or_concat k with rfl | ⟨L,b,rfl⟩
 ·rw [laI_nil] at h; omega
 ·rw [List.concat_eq_append,laI_app] at h
  have : (b : Int) = z := h
  obtain rfl : b = z := by omega
  exact ⟨L,by simp⟩
theorem aft_last {k1 k2 : List Nat} {z : Nat} (h : laI k1 = (z : Int)) (hn : (k1 ++ k2).Nodup) : aft (k1 ++ k2) z = hdI k2 := by
 obtain ⟨k3,rfl⟩ := laI_split h
 rw [List.append_assoc,List.singleton_append]
 refine aft_at (fun hm => ?_)
 rw [List.append_assoc,List.nodup_append] at hn
 exact hn.2.2 z hm z (by simp) rfl
structure Pn where
 lb : Lb
 up : Int
 fi : Int
 la : Int
 ah : Int
 be : Int
theorem Pn.eq {x y : Pn} (h1 : x.lb = y.lb) (h2 : x.up = y.up) (h3 : x.fi = y.fi) (h4 : x.la = y.la) (h5 : x.ah = y.ah) (h6 : x.be = y.be) : x = y := by
 cases x; cases y; simp only at h1 h2 h3 h4 h5 h6; subst h1 h2 h3 h4 h5 h6; rfl
def sUp (N : Nat → Pn) (x : Nat) (v : Int) : Nat → Pn := fun i => if i = x then ⟨(N x).lb,v,(N x).fi,(N x).la,(N x).ah,(N x).be⟩ else N i
def sFi (N : Nat → Pn) (x : Nat) (v : Int) : Nat → Pn := fun i => if i = x then ⟨(N x).lb,(N x).up,v,(N x).la,(N x).ah,(N x).be⟩ else N i
def sLa (N : Nat → Pn) (x : Nat) (v : Int) : Nat → Pn := fun i => if i = x then ⟨(N x).lb,(N x).up,(N x).fi,v,(N x).ah,(N x).be⟩ else N i
def sAh (N : Nat → Pn) (x : Nat) (v : Int) : Nat → Pn := fun i => if i = x then ⟨(N x).lb,(N x).up,(N x).fi,(N x).la,v,(N x).be⟩ else N i
def sBe (N : Nat → Pn) (x : Nat) (v : Int) : Nat → Pn := fun i => if i = x then ⟨(N x).lb,(N x).up,(N x).fi,(N x).la,(N x).ah,v⟩ else N i
def sLb (N : Nat → Pn) (x : Nat) (v : Lb) : Nat → Pn := fun i => if i = x then ⟨v,(N x).up,(N x).fi,(N x).la,(N x).ah,(N x).be⟩ else N i
def joinA (N : Nat → Pn) (p : Nat) (a b : Int) : Nat → Pn := if a = -1 then sFi N p b else sBe N a.toNat b
def joinB (N : Nat → Pn) (p : Nat) (a b : Int) : Nat → Pn := if b = -1 then sLa N p a else sAh N b.toNat a
def joinF (N : Nat → Pn) (p : Nat) (a b : Int) : Nat → Pn := joinB (joinA N p a b) p a b
def aheadF (N : Nat → Pn) (p : Nat) (r : Int) : Int := if r = -1 then (N p).la else (N r.toNat).ah
def linkF (N : Nat → Pn) (p : Nat) (r : Int) (x : Nat) : Nat → Pn := joinF (joinF (sUp N x p) p (aheadF N p r) x) p x r
def unlinkF (N : Nat → Pn) (p x : Nat) : Nat → Pn := sBe (sAh (sUp (joinF N p (N x).ah (N x).be) x (-1)) x (-1)) x (-1)
theorem joinF_lb (N : Nat → Pn) (p : Nat) (a b : Int) (y : Nat) : (joinF N p a b y).lb = (N y).lb := by
 unfold joinF joinB joinA sFi sBe sLa sAh
 by_cases h1 : a = -1 <;> by_cases h2 : b = -1 <;> simp only [h1,h2,if_true,if_false] <;> (repeat' split) <;> simp_all
theorem joinF_up (N : Nat → Pn) (p : Nat) (a b : Int) (y : Nat) : (joinF N p a b y).up = (N y).up := by
 unfold joinF joinB joinA sFi sBe sLa sAh
 by_cases h1 : a = -1 <;> by_cases h2 : b = -1 <;> simp only [h1,h2,if_true,if_false] <;> (repeat' split) <;> simp_all
theorem joinF_fi (N : Nat → Pn) (p : Nat) (a b : Int) (y : Nat) : (joinF N p a b y).fi = if a = -1 ∧ y = p then b else (N y).fi := by
 unfold joinF joinB joinA sFi sBe sLa sAh
 by_cases h1 : a = -1 <;> by_cases h2 : b = -1 <;> simp only [h1,h2,if_true,if_false,true_and,false_and] <;> (repeat' split) <;> simp_all
theorem joinF_la (N : Nat → Pn) (p : Nat) (a b : Int) (y : Nat) : (joinF N p a b y).la = if b = -1 ∧ y = p then a else (N y).la := by
 unfold joinF joinB joinA sFi sBe sLa sAh
 by_cases h1 : a = -1 <;> by_cases h2 : b = -1 <;> simp only [h1,h2,if_true,if_false,true_and,false_and] <;> (repeat' split) <;> simp_all
theorem joinF_be (N : Nat → Pn) (p : Nat) (a b : Int) (y : Nat) : (joinF N p a b y).be = if a ≠ -1 ∧ y = a.toNat then b else (N y).be := by
 unfold joinF joinB joinA sFi sBe sLa sAh
 by_cases h1 : a = -1 <;> by_cases h2 : b = -1 <;> simp only [h1,h2,if_true,if_false,true_and,false_and,ne_eq,not_true,not_false_iff] <;> (repeat' split) <;> simp_all
theorem joinF_ah (N : Nat → Pn) (p : Nat) (a b : Int) (y : Nat) : (joinF N p a b y).ah = if b ≠ -1 ∧ y = b.toNat then a else (N y).ah := by
 unfold joinF joinB joinA sFi sBe sLa sAh
 by_cases h1 : a = -1 <;> by_cases h2 : b = -1 <;> simp only [h1,h2,if_true,if_false,true_and,false_and,ne_eq,not_true,not_false_iff] <;> (repeat' split) <;> simp_all
namespace Ar
def upI : Option Nat → Int
 | none => -1
 | some p => p
def raw (a : Ar) (y : Nat) : Pn :=
 ⟨a.lb y,upI (a.up y),hdI (a.kids y),laI (a.kids y),(match a.up y with | none => -1 | some p => bef (a.kids p) y),(match a.up y with | none => -1 | some p => aft (a.kids p) y)⟩
theorem raw_ah {a : Ar} {y p : Nat} (h : a.up y = some p) : (a.raw y).ah = bef (a.kids p) y := by simp only [raw,h]
theorem raw_be {a : Ar} {y p : Nat} (h : a.up y = some p) : (a.raw y).be = aft (a.kids p) y := by simp only [raw,h]
theorem raw_ah_none {a : Ar} {y : Nat} (h : a.up y = none) : (a.raw y).ah = -1 := by simp only [raw,h]
theorem raw_be_none {a : Ar} {y : Nat} (h : a.up y = none) : (a.raw y).be = -1 := by simp only [raw,h]
theorem Ok.split {a : Ar} (h : a.Ok) {p y : Nat} (hu : a.up y = some p) : ∃ k1 k2,a.kids p = k1 ++ y :: k2 ∧ y ∉ k1 ∧ y ∉ k2 ∧ (k1 ++ k2).Nodup := by
 obtain ⟨k1,k2,e⟩ := List.append_of_mem ((h.link p y).2 hu)
 have hn := h.one p
 rw [e,List.nodup_append,List.nodup_cons] at hn
 exact ⟨k1,k2,e,fun hm => hn.2.2 y hm y (by simp) rfl,hn.2.1.1,List.nodup_append.2 ⟨hn.1,hn.2.1.2,fun x hx z hz => hn.2.2 x hx z (List.mem_cons_of_mem _ hz)⟩⟩
theorem Ok.link_raw {a : Ar} (h : a.Ok) {p x : Nat} {k1 k2 : List Nat} (e : a.kids p = k1 ++ k2) (hu : a.up x = none) : linkF a.raw p (hdI k2) x = (a.put p k1.length x).raw := by
 have hn := h.one p
 rw [e] at hn
 have hx : ∀ q,x ∉ a.kids q := fun q hq => by rw [(h.link q x).1 hq] at hu; cases hu
 have hxk := hx p
 rw [e,List.mem_append] at hxk
 have hka : ∀ y,y ∈ k1 ∨ y ∈ k2 → a.up y = some p := fun y hy => (h.link p y).1 (by rw [e]; exact List.mem_append.2 hy)
 have hah : aheadF a.raw p (hdI k2) = laI k1 := by
  unfold aheadF
  cases k2 with
  | nil => rw [hdI_nil,if_pos rfl]; show laI (a.kids p) = _; rw [e,List.append_nil]
  | cons r k2 =>
    rw [if_neg (fun e => by have := hdI_neg.1 e; cases this)]
    show (a.raw ((r : Int).toNat)).ah = _
    rw [Int.toNat_natCast,raw_ah (hka r (.inr (by simp))),e]
    exact bef_at (fun hm => by rw [List.nodup_append] at hn; exact hn.2.2 r hm r (by simp) rfl)
 have hkp : ∀ y,(a.put p k1.length x).kids y = if y = p then k1 ++ x :: k2 else a.kids y := fun y => by
  show (if y = p then (a.kids p).take k1.length ++ x :: (a.kids p).drop k1.length else a.kids y) = _
  rw [e,List.take_left,List.drop_left]
 have hup : ∀ y,(a.put p k1.length x).up y = if y = x then some p else a.up y := fun y => rfl
 have hx1 : ¬ ((x : Int) = -1) := by omega
 funext y
 unfold linkF
 rw [hah]
 refine Pn.eq ?_ ?_ ?_ ?_ ?_ ?_
 ·rw [joinF_lb,joinF_lb]; unfold sUp
  show ((if y = x then _ else _ : Pn)).lb = a.lb y
  split
  ·rename_i e; rw [e]; rfl
  ·rfl
 ·rw [joinF_up,joinF_up]
  show ((if y = x then _ else _ : Pn)).up = upI ((a.put p k1.length x).up y)
  rw [hup]
  split <;> rfl
 ·rw [joinF_fi,joinF_fi,if_neg (fun hh => hx1 hh.1)]
  show _ = hdI ((a.put p k1.length x).kids y)
  rw [hkp]
  have e0 : (sUp a.raw x p y).fi = hdI (a.kids y) := by unfold sUp; split <;> rename_i e <;> simp only [raw,e]
  rw [e0]
  by_cases hy : y = p
  ·simp only [hy,and_true,if_pos]
   rw [hdI_put,e]
  ·rw [if_neg (fun hh => hy hh.2),if_neg hy]
 ·rw [joinF_la,joinF_la,if_neg (c := (x : Int) = -1 ∧ y = p) (fun hh => hx1 hh.1)]
  show _ = laI ((a.put p k1.length x).kids y)
  rw [hkp]
  have e0 : (sUp a.raw x p y).la = laI (a.kids y) := by unfold sUp; split <;> rename_i e <;> simp only [raw,e]
  rw [e0]
  by_cases hy : y = p
  ·simp only [hy,and_true,if_pos]
   rw [laI_put,e]
  ·rw [if_neg (fun hh => hy hh.2),if_neg hy]
 ·rw [joinF_ah,joinF_ah]
  have e0 : (sUp a.raw x p y).ah = (a.raw y).ah := by unfold sUp; split <;> rename_i e <;> simp only [e]
  rw [e0]
  by_cases hy : y = x
  ·have h2 : ¬ (hdI k2 ≠ -1 ∧ y = (hdI k2).toNat) := fun hh => by
    cases k2 with
    | nil => exact hh.1 rfl
    | cons r k2 => exact hxk (.inr (by have := hh.2; rw [show hdI (r :: k2) = (r : Int) from rfl,Int.toNat_natCast,hy] at this; simp [this]))
   rw [if_neg h2,if_pos ⟨hx1,by rw [Int.toNat_natCast]; exact hy⟩]
   rw [raw_ah (p := p) (by rw [hup,if_pos hy]),hkp,if_pos rfl,hy,bef_at (fun hm => hxk (.inl hm))]
  ·rw [if_neg (c := (x : Int) ≠ -1 ∧ y = (x : Int).toNat) (fun hh => hy (by have := hh.2; rwa [Int.toNat_natCast] at this))]
   cases hq : a.up y with
   | none =>
     rw [raw_ah_none hq,raw_ah_none (by rw [hup,if_neg hy]; exact hq),if_neg]
     rintro ⟨h1,h2⟩
     cases k2 with
     | nil => exact h1 rfl
     | cons r k2 =>
       rw [show hdI (r :: k2) = (r : Int) from rfl,Int.toNat_natCast] at h2
       have := hka r (.inr (by simp))
       rw [← h2,hq] at this; cases this
   | some q =>
     rw [raw_ah hq,raw_ah (p := q) (by rw [hup,if_neg hy]; exact hq),hkp]
     by_cases hqp : q = p
     ·subst hqp
      rw [if_pos rfl,bef_put hy hn,e]
      cases k2 with
      | nil => rw [if_neg (fun hh => hh.1 rfl),hdI_nil,if_neg (show ¬ (-1 : Int) = y by omega)]
      | cons r k2 =>
        rw [show hdI (r :: k2) = (r : Int) from rfl,Int.toNat_natCast]
        by_cases hr : y = r
        ·rw [if_pos ⟨by omega,hr⟩,if_pos (by omega)]
        ·rw [if_neg (fun hh => hr hh.2),if_neg (by omega)]
     ·rw [if_neg hqp,if_neg]
      rintro ⟨h1,h2⟩
      cases k2 with
      | nil => exact h1 rfl
      | cons r k2 =>
        rw [show hdI (r :: k2) = (r : Int) from rfl,Int.toNat_natCast] at h2
        have := hka r (.inr (by simp))
        rw [← h2,hq] at this; exact hqp (Option.some.inj this)
 ·rw [joinF_be,joinF_be]
  have e0 : (sUp a.raw x p y).be = (a.raw y).be := by unfold sUp; split <;> rename_i e <;> simp only [e]
  rw [e0]
  by_cases hy : y = x
  ·rw [if_pos ⟨hx1,by rw [Int.toNat_natCast]; exact hy⟩]
   rw [raw_be (p := p) (by rw [hup,if_pos hy]),hkp,if_pos rfl,hy,aft_at (fun hm => hxk (.inl hm))]
  ·rw [if_neg (c := (x : Int) ≠ -1 ∧ y = (x : Int).toNat) (fun hh => hy (by have := hh.2; rwa [Int.toNat_natCast] at this))]
   cases hq : a.up y with
   | none =>
     rw [raw_be_none hq,raw_be_none (by rw [hup,if_neg hy]; exact hq),if_neg]
     rintro ⟨h1,h2⟩
     cases k1 with
     | nil => exact h1 rfl
     | cons r k1 =>
       obtain ⟨z,e1,e2⟩ := laI_cons r k1
       rw [e1,Int.toNat_natCast] at h2
       have := hka z (.inl e2)
       rw [← h2,hq] at this; cases this
   | some q =>
     rw [raw_be hq,raw_be (p := q) (by rw [hup,if_neg hy]; exact hq),hkp]
     by_cases hqp : q = p
     ·subst hqp
      rw [if_pos rfl,aft_put hy hn,e]
      cases k1 with
      | nil => rw [if_neg (fun hh => hh.1 rfl),laI_nil,if_neg (show ¬ (-1 : Int) = y by omega)]
      | cons r k1 =>
        obtain ⟨z,e1,e2⟩ := laI_cons r k1
        rw [e1,Int.toNat_natCast]
        by_cases hr : y = z
        ·rw [if_pos ⟨by omega,hr⟩,if_pos (by omega)]
        ·rw [if_neg (fun hh => hr hh.2),if_neg (by omega)]
     ·rw [if_neg hqp,if_neg]
      rintro ⟨h1,h2⟩
      cases k1 with
      | nil => exact h1 rfl
      | cons r k1 =>
        obtain ⟨z,e1,e2⟩ := laI_cons r k1
        rw [e1,Int.toNat_natCast] at h2
        have := hka z (.inl e2)
        rw [← h2,hq] at this; exact hqp (Option.some.inj this)
theorem Ok.unlink_raw {a : Ar} (h : a.Ok) {p x : Nat} (hu : a.up x = some p) : unlinkF a.raw p x = (a.cut x).raw := by
 obtain ⟨k1,k2,e,h1,h2,hn⟩ := h.split hu
 have hka : ∀ y,y ∈ k1 ∨ y ∈ k2 → a.up y = some p := fun y hy => (h.link p y).1 (by rw [e]; rcases hy with hy | hy <;> simp [hy])
 have hah : (a.raw x).ah = laI k1 := by rw [raw_ah hu,e,bef_at h1]
 have hbe : (a.raw x).be = hdI k2 := by rw [raw_be hu,e,aft_at h1]
 have hkp : ∀ y,(a.cut x).kids y = if y = p then k1 ++ k2 else a.kids y := fun y => by
  show (if a.up x = some y then (a.kids y).erase x else a.kids y) = _
  rw [hu]
  by_cases hy : y = p
  ·subst hy
   rw [if_pos rfl,if_pos rfl,e,List.erase_append_right _ h1,List.erase_cons_head]
  ·rw [if_neg (fun hh => hy (Option.some.inj hh).symm),if_neg hy]
 have hup : ∀ y,(a.cut x).up y = if y = x then none else a.up y := fun y => rfl
 have hxx : (a.cut x).up x = none := by rw [hup,if_pos rfl]
 funext y
 have hU : ∀ (M : Nat → Pn),sBe (sAh (sUp M x (-1)) x (-1)) x (-1) y = if y = x then ⟨(M x).lb,-1,(M x).fi,(M x).la,-1,-1⟩ else M y := fun M => by
  unfold sBe sAh sUp
  by_cases hy : y = x
  ·simp only [hy,if_pos]
  ·simp only [if_neg hy]
 unfold unlinkF
 rw [hah,hbe,hU]
 refine Pn.eq ?_ ?_ ?_ ?_ ?_ ?_
 ·show _ = a.lb y
  split
  ·rename_i hy; rw [hy]; exact joinF_lb ..
  ·exact joinF_lb ..
 ·show _ = upI ((a.cut x).up y)
  rw [hup]
  split
  ·rfl
  ·exact joinF_up ..
 ·show _ = hdI ((a.cut x).kids y)
  have e1 : (if y = x then (⟨(joinF a.raw p (laI k1) (hdI k2) x).lb,-1,(joinF a.raw p (laI k1) (hdI k2) x).fi,(joinF a.raw p (laI k1) (hdI k2) x).la,-1,-1⟩ : Pn) else joinF a.raw p (laI k1) (hdI k2) y).fi = (joinF a.raw p (laI k1) (hdI k2) y).fi := by
   split
   ·rename_i hy; rw [hy]
   ·rfl
  rw [e1,joinF_fi,hkp]
  by_cases hy : y = p
  ·simp only [hy,and_true,if_pos]
   show _ = _
   have : (a.raw p).fi = hdI (k1 ++ x :: k2) := by show hdI (a.kids p) = _; rw [e]
   rw [this,hdI_put]
   cases k1 with
   | nil => rfl
   | cons z k1 =>
     have hz : ¬ laI (z :: k1) = -1 := fun e => by have := laI_neg.1 e; cases this
     rw [if_neg hz,if_neg hz]
  ·rw [if_neg (fun hh => hy hh.2),if_neg hy]; rfl
 ·show _ = laI ((a.cut x).kids y)
  have e1 : (if y = x then (⟨(joinF a.raw p (laI k1) (hdI k2) x).lb,-1,(joinF a.raw p (laI k1) (hdI k2) x).fi,(joinF a.raw p (laI k1) (hdI k2) x).la,-1,-1⟩ : Pn) else joinF a.raw p (laI k1) (hdI k2) y).la = (joinF a.raw p (laI k1) (hdI k2) y).la := by
   split
   ·rename_i hy; rw [hy]
   ·rfl
  rw [e1,joinF_la,hkp]
  by_cases hy : y = p
  ·simp only [hy,and_true,if_pos]
   have : (a.raw p).la = laI (k1 ++ x :: k2) := by show laI (a.kids p) = _; rw [e]
   rw [this,laI_put]
   cases k2 with
   | nil => rw [hdI_nil,if_pos rfl,List.append_nil]
   | cons z k2 =>
     have hz : ¬ hdI (z :: k2) = -1 := fun e => by have := hdI_neg.1 e; cases this
     rw [if_neg hz,if_neg hz]
  ·rw [if_neg (fun hh => hy hh.2),if_neg hy]; rfl
 ·by_cases hy : y = x
  ·rw [if_pos hy,hy,raw_ah_none hxx]
  ·rw [if_neg hy,joinF_ah]
   cases hq : a.up y with
   | none =>
     rw [raw_ah_none hq,raw_ah_none (by rw [hup,if_neg hy]; exact hq),if_neg]
     rintro ⟨h1,h2⟩
     cases k2 with
     | nil => exact h1 rfl
     | cons r k2 =>
       rw [show hdI (r :: k2) = (r : Int) from rfl,Int.toNat_natCast] at h2
       have := hka r (.inr (by simp))
       rw [← h2,hq] at this; cases this
   | some q =>
     rw [raw_ah hq,raw_ah (p := q) (by rw [hup,if_neg hy]; exact hq),hkp]
     by_cases hqp : q = p
     ·subst hqp
      rw [if_pos rfl,e,bef_put hy hn]
      cases k2 with
      | nil => rw [if_neg (fun hh => hh.1 rfl),hdI_nil,if_neg (show ¬ (-1 : Int) = y by omega)]
      | cons r k2 =>
        rw [show hdI (r :: k2) = (r : Int) from rfl,Int.toNat_natCast]
        by_cases hr : y = r
        ·have hr1 : r ∉ k1 := fun hm => (List.nodup_append.1 hn).2.2 r hm r (by simp) rfl
         rw [if_pos ⟨by omega,hr⟩,hr,bef_at hr1]
        ·rw [if_neg (fun hh => hr hh.2),if_neg (by omega)]
     ·rw [if_neg hqp,if_neg]
      rintro ⟨h1,h2⟩
      cases k2 with
      | nil => exact h1 rfl
      | cons r k2 =>
        rw [show hdI (r :: k2) = (r : Int) from rfl,Int.toNat_natCast] at h2
        have := hka r (.inr (by simp))
        rw [← h2,hq] at this; exact hqp (Option.some.inj this)
 ·by_cases hy : y = x
  ·rw [if_pos hy,hy,raw_be_none hxx]
  ·rw [if_neg hy,joinF_be]
   cases hq : a.up y with
   | none =>
     rw [raw_be_none hq,raw_be_none (by rw [hup,if_neg hy]; exact hq),if_neg]
     rintro ⟨h1,h2⟩
     cases k1 with
     | nil => exact h1 rfl
     | cons r k1 =>
       obtain ⟨z,e1,e2⟩ := laI_cons r k1
       rw [e1,Int.toNat_natCast] at h2
       have := hka z (.inl e2)
       rw [← h2,hq] at this; cases this
   | some q =>
     rw [raw_be hq,raw_be (p := q) (by rw [hup,if_neg hy]; exact hq),hkp]
     by_cases hqp : q = p
     ·subst hqp
      rw [if_pos rfl,e,aft_put hy hn]
      cases k1 with
      | nil => rw [if_neg (fun hh => hh.1 rfl),laI_nil,if_neg (show ¬ (-1 : Int) = y by omega)]
      | cons r k1 =>
        obtain ⟨z,e1,e2⟩ := laI_cons r k1
        rw [e1,Int.toNat_natCast]
        by_cases hr : y = z
        ·rw [if_pos ⟨by omega,hr⟩,hr]
         exact (aft_last e1 hn).symm
        ·rw [if_neg (fun hh => hr hh.2),if_neg (by omega)]
     ·rw [if_neg hqp,if_neg]
      rintro ⟨h1,h2⟩
      cases k1 with
      | nil => exact h1 rfl
      | cons r k1 =>
        obtain ⟨z,e1,e2⟩ := laI_cons r k1
        rw [e1,Int.toNat_natCast] at h2
        have := hka z (.inl e2)
        rw [← h2,hq] at this; exact hqp (Option.some.inj this)
end Ar
end Go.Proofs.YtpkppobkagdhkaaGreat
