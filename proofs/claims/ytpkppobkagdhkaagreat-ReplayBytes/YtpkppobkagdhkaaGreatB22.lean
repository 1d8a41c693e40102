/-
 Puz Cop.
-/
import Derived.Test.YtpkppobkagdhkaaGreatB12
import Derived.Test.YtpkppobkagdhkaaGreatRows
import Derived.WalkLawsBesides
import Derived.Deep.RegionHeld3
set_option linter.unusedVariables false
set_option linter.unusedSimpArgs false
set_option maxRecDepth 100000
set_option maxHeartbeats 1000000
namespace Go.Proofs.YtpkppobkagdhkaaGreat
open Go.RowKit Go.Maps Utf
namespace Ar
def par (A : Ar) (x : Nat) : Nat := (A.up x).getD 0
theorem par_eq {A : Ar} {x p : Nat} (h : A.up x = some p) : A.par x = p := by unfold par; rw [h]; rfl
def abk (A : Ar) (x0 gT : Nat) (B : Nat → Nat) (x : Nat) : Nat := if x = x0 then gT else B (A.par x)
def aof (A : Ar) (x0 x : Nat) : Nat := if x = x0 then 0 else A.place (A.par x) x * 6
def kdV (A : Ar) (B : Nat → Nat) (K : Nat → Bool) (x : Nat) : Option Addr × Nat × Nat := if K x = true then (some ⟨B x,0,none⟩,(A.kids x).length,(A.kids x).length) else (none,0,0)
theorem place_at {A : Ar} (ok : A.Ok) {p j : Nat} (hj : j < (A.kids p).length) : A.place p (A.kids p)[j] = j := by
 unfold place
 exact (ok.one p).idxOf_getElem j hj
theorem place_lt {A : Ar} (ok : A.Ok) {p x : Nat} (hu : A.up x = some p) : A.place p x < (A.kids p).length ∧ (A.kids p)[A.place p x]? = some x := by
 have hm := (ok.link p x).2 hu
 have hl : A.place p x < (A.kids p).length := List.idxOf_lt_length_of_mem hm
 refine ⟨hl,?_⟩
 rw [List.getElem?_eq_getElem hl]
 congr 1
 exact List.getElem_idxOf hl
end Ar
structure Cs (A : Ar) (w wr : World) (x0 gT : Nat) (τ : Nat → Nat) (B : Nat → Nat) (M : Nat → Prop) (K : Nat → Bool) : Prop where
 kp : Kp [] w wr
 top : ∃ cur,At wr gT cur 40 ∧ 6 ≤ cur.size
 topN : w.heap.size ≤ gT ∧ τ gT = 2
 bks : ∀ p,K p = true → (∃ cur,At wr (B p) cur 40 ∧ (A.kids p).length * 6 = cur.size) ∧ w.heap.size ≤ B p ∧ τ (B p) = 2 ∧ B p ≠ gT
 inj : ∀ p p',K p = true → K p' = true → B p = B p' → p = p'
 mkd : ∀ x,M x → x ≠ x0 → ∃ p,A.up x = some p ∧ K p = true
 mx : M x0
 cl : ∀ x,M x → ∃ pa : Option Addr × Nat × Nat,Cl wr (A.abk x0 gT B x) (A.aof x0 x) (A.lb x) (pa,A.kdV B K x) ∧ Rk (fun b => w.heap.size ≤ b ∧ τ b = 1) 2 wr pa.1 pa.2.1 pa.2.2 (cs (A.lb x).attrs)
section
variable {A : Ar} {w wr : World} {x0 gT : Nat} {τ : Nat → Nat} {B : Nat → Nat} {M : Nat → Prop} {K : Nat → Bool}
theorem Cs.blk2 (h : Cs A w wr x0 gT τ B M K) {x : Nat} (hx : M x) : τ (A.abk x0 gT B x) = 2 ∧ w.heap.size ≤ A.abk x0 gT B x ∧ A.abk x0 gT B x < wr.heap.size := by
 obtain ⟨cur,h1,_⟩ := h.top
 unfold Ar.abk
 by_cases e : x = x0
 ·rw [if_pos e]; exact ⟨h.topN.2,h.topN.1,h1.lt⟩
 ·rw [if_neg e]
  obtain ⟨p,hu,hk⟩ := h.mkd x hx e
  rw [Ar.par_eq hu]
  obtain ⟨⟨cur,h2,_⟩,h3,h4,_⟩ := h.bks p hk
  exact ⟨h4,h3,h2.lt⟩
theorem Cs.sep (h : Cs A w wr x0 gT τ B M K) (ok : A.Ok) {x y : Nat} (hx : M x) (hy : M y) (hne : x ≠ y) : A.abk x0 gT B x ≠ A.abk x0 gT B y ∨ A.aof x0 x + 6 ≤ A.aof x0 y ∨ A.aof x0 y + 6 ≤ A.aof x0 x := by
 unfold Ar.abk Ar.aof
 by_cases e : x = x0
 ·have e2 : y ≠ x0 := fun e3 => hne (e.trans e3.symm)
  obtain ⟨p,hu,hk⟩ := h.mkd y hy e2
  rw [if_pos e,if_neg e2,Ar.par_eq hu]
  exact .inl (Ne.symm (h.bks p hk).2.2.2)
 ·obtain ⟨p,hu,hk⟩ := h.mkd x hx e
  rw [if_neg e,Ar.par_eq hu]
  by_cases e2 : y = x0
  ·rw [if_pos e2]
   exact .inl (h.bks p hk).2.2.2
  ·obtain ⟨p',hu',hk'⟩ := h.mkd y hy e2
   rw [if_neg e2,Ar.par_eq hu',if_neg e,if_neg e2]
   by_cases e3 : B p = B p'
   ·obtain rfl := h.inj p p' hk hk' e3
    refine .inr ?_
    obtain ⟨_,h1⟩ := Ar.place_lt ok hu
    obtain ⟨_,h2⟩ := Ar.place_lt ok hu'
    have : A.place p x ≠ A.place p y := fun e4 => by
     rw [e4,h2] at h1
     exact hne (Option.some.inj h1).symm
    omega
   ·exact .inl e3
theorem Cl.of_block {w w' : World} {b off : Nat} {l : Lb} {p : Pl} (h : Cl w b off l p) (e : w'.heap[b]? = w.heap[b]?) : Cl w' b off l p := by
 obtain ⟨cur,t,h1,h2⟩ := h
 exact ⟨cur,t,by rw [e]; exact h1,h2⟩
theorem Cl.other {w : World} {b off b2 j : Nat} {l : Lb} {p : Pl} (h : Cl w b off l p) (u : Value) (hd : b ≠ b2 ∨ j < off ∨ off + 6 ≤ j) : Cl (w.setCell ⟨b2,j,none⟩ u) b off l p := by
 obtain ⟨cur,t,h1,h2⟩ := h
 by_cases e : b = b2
 ·subst e
  refine ⟨_,t,setCell_block h1 j u,fun i hi => ?_⟩
  rw [Array.getElem?_setIfInBounds,if_neg (by omega)]
  exact h2 i hi
 ·exact ⟨cur,t,by rw [Below.heap_setCell _ _ _ _ (fun e2 => e (by simpa using e2))]; exact h1,h2⟩
theorem Cs.keep {S : List Nat} {w2 : World} {τ' : Nat → Nat} (h : Cs A w wr x0 gT τ B M K) (k : Kp S wr w2) (hS : ∀ x,x ∈ S → w.heap.size ≤ x ∧ (x < wr.heap.size → τ x ≠ 1 ∧ τ x ≠ 2)) (ht : ∀ x,x < wr.heap.size → τ' x = τ x) : Cs A w w2 x0 gT τ' B M K := by
 obtain ⟨cur0,t0,t1⟩ := h.top
 have hT := t0.lt
 have no2 : ∀ x,x < wr.heap.size → τ x = 2 → x ∉ S := fun x h1 h2 hs => ((hS x hs).2 h1).2 h2
 refine ⟨h.kp.trans k (fun x hx => Or.inr (hS x hx).1),⟨cur0,t0.kept k (no2 gT hT h.topN.2),t1⟩,⟨h.topN.1,by rw [ht gT hT]; exact h.topN.2⟩,fun p hp => ?_,h.inj,h.mkd,h.mx,fun x hx => ?_⟩
 ·obtain ⟨⟨cur,h1,h2⟩,h3,h4,h5⟩ := h.bks p hp
  exact ⟨⟨cur,h1.kept k (no2 _ h1.lt h4),h2⟩,h3,by rw [ht _ h1.lt]; exact h4,h5⟩
 ·obtain ⟨pa,h1,h2⟩ := h.cl x hx
  obtain ⟨b1,b2,b3⟩ := h.blk2 hx
  refine ⟨pa,h1.of_block (k.block _ b3 (no2 _ b3 b1)),?_⟩
  refine ⟨h2.len,h2.cap,fun hn => ?_⟩
  obtain ⟨b,off,cur,e,hq,e1,e2,e3⟩ := h2.at' hn
  have hl := lt_of e2
  exact ⟨b,off,cur,e,⟨hq.1,by rw [ht b hl]; exact hq.2⟩,e1,by rw [k.block b hl (fun hs => ((hS b hs).2 hl).1 hq.2)]; exact e2,e3⟩
theorem Cs.congr {M' : Nat → Prop} {K' : Nat → Bool} (h : Cs A w wr x0 gT τ B M K) (hM : ∀ x,M' x ↔ M x) (hK : ∀ x,K' x = K x) : Cs A w wr x0 gT τ B M' K' := by
 obtain rfl : M' = M := funext fun x => propext (hM x)
 obtain rfl : K' = K := funext hK
 exact h
theorem Cs.kidCell (h : Cs A w wr x0 gT τ B M K) {y : Nat} (hy : M y) : wr.cell? ⟨A.abk x0 gT B y,A.aof x0 y + 5,none⟩ = some (.slice (A.kdV B K y).1 (A.kdV B K y).2.1 (A.kdV B K y).2.2) ∧ wr.frozen? ⟨A.abk x0 gT B y,A.aof x0 y + 5,none⟩ = false := by
 obtain ⟨pa,h1,_⟩ := h.cl y hy
 refine ⟨h1.cells.2.2.2.2.2,?_⟩
 obtain ⟨cur,t,h2,_⟩ := h1
 exact frozen_of h2 _
theorem Cs.kids {w1 : World} {cur : Array Value} (h : Cs A w wr x0 gT τ B M K) (ok : A.Ok) {y gK : Nat} (hy : M y) (hk : K y = false) (hg : wr.heap.size ≤ gK) (k : Kp [] wr w1) (hc : At w1 gK cur 40) (hsz : (A.kids y).length * 6 = cur.size) :
  Cs A w (w1.setCell ⟨A.abk x0 gT B y,A.aof x0 y + 5,none⟩ (.slice (some ⟨gK,0,none⟩) (A.kids y).length (A.kids y).length)) x0 gT (fun b => if b < wr.heap.size then τ b else if b = gK then 2 else 0) (fun p => if p = y then gK else B p) M (fun p => if p = y then true else K p) := by
 obtain ⟨T,hT⟩ : ∃ T : Nat → Nat,T = fun b => if b < wr.heap.size then τ b else if b = gK then 2 else 0 := ⟨_,rfl⟩
 have T0 : ∀ x,x < wr.heap.size → T x = τ x := fun x hx => by rw [hT]; simp only [if_pos hx]
 have hw1 : Cs A w w1 x0 gT T B M K := h.keep k (fun x hx => by simp at hx) T0
 rw [← hT]
 obtain ⟨y1,y2,y3⟩ := h.blk2 hy
 have hyg : A.abk x0 gT B y ≠ gK := by omega
 have k5 : Kp [A.abk x0 gT B y] w1 (w1.setCell ⟨A.abk x0 gT B y,A.aof x0 y + 5,none⟩ (.slice (some ⟨gK,0,none⟩) (A.kids y).length (A.kids y).length)) := (Kp.refl _ _).setCell (Or.inl (by simp)) _
 have hab : ∀ x,M x → A.abk x0 gT (fun p => if p = y then gK else B p) x = A.abk x0 gT B x := fun x hx => by
  unfold Ar.abk
  by_cases e : x = x0
  ·rw [if_pos e,if_pos e]
  ·obtain ⟨p,hu,hkp⟩ := h.mkd x hx e
   rw [if_neg e,if_neg e,Ar.par_eq hu]
   exact if_neg (fun e2 => by rw [e2,hk] at hkp; cases hkp)
 have hbl : ∀ (g : Nat) (cu : Array Value),At w1 g cu 40 → ∃ cu',At (w1.setCell ⟨A.abk x0 gT B y,A.aof x0 y + 5,none⟩ (.slice (some ⟨gK,0,none⟩) (A.kids y).length (A.kids y).length)) g cu' 40 ∧ cu'.size = cu.size := fun g cu hg => by
  by_cases e : g = A.abk x0 gT B y
  ·subst e; exact ⟨_,hg.set _ _,by simp⟩
  ·exact ⟨cu,hg.kept k5 (by simpa using e),rfl⟩
 refine ⟨hw1.kp.trans k5 (fun x hx => Or.inr (by rw [List.mem_singleton.1 hx]; exact y2)),?_,hw1.topN,fun p hp => ?_,fun p p' hp hp' e => ?_,fun x hx e => ?_,h.mx,fun x hx => ?_⟩
 ·obtain ⟨cu,t1,t2⟩ := hw1.top
  obtain ⟨cu',u1,u2⟩ := hbl gT cu t1
  exact ⟨cu',u1,by omega⟩
 ·by_cases e : p = y
  ·subst e
   simp only [if_pos]
   obtain ⟨cu',u1,u2⟩ := hbl gK cur hc
   have hgt := (h.top.choose_spec.1).lt
   exact ⟨⟨cu',u1,by omega⟩,by have := h.kp.size; omega,by rw [hT]; simp only [if_neg (show ¬ gK < wr.heap.size by omega),if_pos],by omega⟩
  ·simp only [if_neg e] at hp ⊢
   obtain ⟨⟨cu,t1,t2⟩,t3,t4,t5⟩ := hw1.bks p hp
   obtain ⟨cu',u1,u2⟩ := hbl (B p) cu t1
   exact ⟨⟨cu',u1,by omega⟩,t3,t4,t5⟩
 ·by_cases e1 : p = y
  ·by_cases e2 : p' = y
   ·rw [e1,e2]
   ·simp only [if_pos e1,if_neg e2] at e hp'
    have := (h.bks p' hp').1.choose_spec.1.lt
    omega
  ·by_cases e2 : p' = y
   ·simp only [if_neg e1,if_pos e2] at e hp
    have := (h.bks p hp).1.choose_spec.1.lt
    omega
   ·simp only [if_neg e1,if_neg e2] at e hp hp'
    exact h.inj p p' hp hp' e
 ·obtain ⟨p,hu,hkp⟩ := h.mkd x hx e
  exact ⟨p,hu,by by_cases e1 : p = y <;> simp [e1]; exact hkp⟩
 ·obtain ⟨pa,c1,c2⟩ := hw1.cl x hx
  refine ⟨pa,?_,c2.keep (fun z hz hzl => k5.block z hzl (fun hs => by
   rw [List.mem_singleton.1 hs] at hz
   have := hz.2
   rw [T0 _ y3,y1] at this
   cases this))⟩
  rw [hab x hx]
  by_cases e : x = y
  ·subst e
   obtain ⟨cu,t,t1,t2⟩ := c1
   refine ⟨_,t,setCell_block t1 _ _,fun i hi => ?_⟩
   rw [Array.getElem?_setIfInBounds]
   have e5 : A.kdV (fun p => if p = x then gK else B p) (fun p => if p = x then true else K p) x = (some ⟨gK,0,none⟩,(A.kids x).length,(A.kids x).length) := by unfold Ar.kdV; simp
   rw [e5]
   by_cases hi5 : i = 5
   ·subst hi5
    have h5 := t2 5 (by omega)
    have hlt : A.aof x0 x + 5 < cu.size := by
     have : (cu[A.aof x0 x + 5]?).isSome = true := by rw [h5]; rfl
     simpa using this
    rw [if_pos rfl,if_pos hlt]
    rfl
   ·rw [if_neg (by omega),t2 i hi]
    unfold six
    obtain rfl | rfl | rfl | rfl | rfl : i = 0 ∨ i = 1 ∨ i = 2 ∨ i = 3 ∨ i = 4 := by omega
    all_goals rfl
  ·have e5 : A.kdV (fun p => if p = y then gK else B p) (fun p => if p = y then true else K p) x = A.kdV B K x := by unfold Ar.kdV; simp [e]
   rw [e5]
   refine c1.other _ ?_
   rcases h.sep ok hx hy e with s1 | s1 | s1
   ·exact .inl s1
   ·exact .inr (.inr (by omega))
   ·exact .inr (.inl (by omega))
theorem kp_put6 {g : Nat} {a w : World} (h : Kp [g] a w) (o : Nat) (v0 v1 v2 v3 v4 v5 : Value) : Kp [g] a (put6 w g o v0 v1 v2 v3 v4 v5) := h.put6 (Or.inl (by simp)) _ _ _ _ _ _ _
theorem Cs.kid {V : World} {pa : Option Addr × Nat × Nat} (h : Cs A w wr x0 gT τ B M K) (ok : A.Ok) {y j c : Nat} (hk : K y = true) (hj : j < (A.kids y).length) (hc : (A.kids y)[j] = c) (hcM : ¬ M c) (hcK : K c = false) (hc0 : c ≠ x0) (k : Kp [] wr V) (hat : Rk (fun b => wr.heap.size ≤ b) 2 V pa.1 pa.2.1 pa.2.2 (cs (A.lb c).attrs)) :
  Cs A w (put6 V (B y) (j * 6) (.int .i64 (A.lb c).kind) (.int .i64 (A.lb c).ns) (.string (A.lb c).name) (.slice pa.1 pa.2.1 pa.2.2) (.string (A.lb c).text) (.slice none 0 0)) x0 gT (fun b => if b < wr.heap.size then τ b else 1) B (fun x => M x ∨ x = c) K := by
 obtain ⟨T,hT⟩ : ∃ T : Nat → Nat,T = fun b => if b < wr.heap.size then τ b else 1 := ⟨_,rfl⟩
 have T0 : ∀ x,x < wr.heap.size → T x = τ x := fun x hx => by rw [hT]; simp only [if_pos hx]
 have hw1 : Cs A w V x0 gT T B M K := h.keep k (fun x hx => by simp at hx) T0
 rw [← hT]
 have huc : A.up c = some y := (ok.link y c).1 (by rw [← hc]; exact List.getElem_mem hj)
 have hplace : A.place y c = j := by rw [← hc]; exact Ar.place_at ok hj
 have habc : A.abk x0 gT B c = B y := by unfold Ar.abk; rw [if_neg hc0,Ar.par_eq huc]
 have haoc : A.aof x0 c = j * 6 := by unfold Ar.aof; rw [if_neg hc0,Ar.par_eq huc,hplace]
 obtain ⟨⟨cuy,y1,y2⟩,y3,y4,y5⟩ := hw1.bks y hk
 have hby : B y < wr.heap.size := (h.bks y hk).1.choose_spec.1.lt
 have k6 : Kp [B y] V (put6 V (B y) (j * 6) (.int .i64 (A.lb c).kind) (.int .i64 (A.lb c).ns) (.string (A.lb c).name) (.slice pa.1 pa.2.1 pa.2.2) (.string (A.lb c).text) (.slice none 0 0)) := kp_put6 (Kp.refl [B y] V) _ _ _ _ _ _ _
 have e6 := put6_eq V (B y) (j * 6) (.int .i64 (A.lb c).kind) (.int .i64 (A.lb c).ns) (.string (A.lb c).name) (.slice pa.1 pa.2.1 pa.2.2) (.string (A.lb c).text) (.slice none 0 0)
 obtain ⟨cur',g1,g2⟩ := setCells_block (B y) 40 [.int .i64 (A.lb c).kind,.int .i64 (A.lb c).ns,.string (A.lb c).name,.slice pa.1 pa.2.1 pa.2.2,.string (A.lb c).text,.slice none 0 0] (j * 6) V cuy y1
 have hget := setCells_get (B y) 40 [.int .i64 (A.lb c).kind,.int .i64 (A.lb c).ns,.string (A.lb c).name,.slice pa.1 pa.2.1 pa.2.2,.string (A.lb c).text,.slice none 0 0] (j * 6) V cuy cur' y1 g1 (by simp; omega)
 rw [← e6] at g1
 generalize put6 V (B y) (j * 6) (.int .i64 (A.lb c).kind) (.int .i64 (A.lb c).ns) (.string (A.lb c).name) (.slice pa.1 pa.2.1 pa.2.2) (.string (A.lb c).text) (.slice none 0 0) = W at g1 k6 ⊢
 have hbl : ∀ (g : Nat) (cu : Array Value),At V g cu 40 → ∃ cu',At W g cu' 40 ∧ cu'.size = cu.size := fun g cu hg => by
  by_cases e : g = B y
  ·subst e
   have : cu = cuy := by
    unfold At at hg y1
    rw [y1] at hg
    simp only [Option.some.injEq,Obj.cells.injEq,and_true] at hg
    exact hg.symm
   exact ⟨cur',g1,by rw [this]; exact g2⟩
  ·exact ⟨cu,hg.kept k6 (by simpa using e),rfl⟩
 refine ⟨hw1.kp.trans k6 (fun x hx => Or.inr (by rw [List.mem_singleton.1 hx]; exact y3)),?_,hw1.topN,fun p hp => ?_,h.inj,fun x hx e => ?_,.inl h.mx,fun x hx => ?_⟩
 ·obtain ⟨cu,t1,t2⟩ := hw1.top
  obtain ⟨cu',u1,u2⟩ := hbl gT cu t1
  exact ⟨cu',u1,by omega⟩
 ·obtain ⟨⟨cu,t1,t2⟩,t3,t4,t5⟩ := hw1.bks p hp
  obtain ⟨cu',u1,u2⟩ := hbl (B p) cu t1
  exact ⟨⟨cu',u1,by omega⟩,t3,t4,t5⟩
 ·rcases hx with hx | rfl
  ·exact h.mkd x hx e
  ·exact ⟨y,huc,hk⟩
 ·by_cases e : x = c
  ·subst e
   refine ⟨pa,?_,?_⟩
   ·rw [habc,haoc]
    refine ⟨cur',_,g1,fun i hi => ?_⟩
    rw [hget,if_pos (by simp; omega),show j * 6 + i - j * 6 = i by omega]
    have e5 : A.kdV B K x = (none,0,0) := by unfold Ar.kdV; rw [if_neg (by rw [hcK]; simp)]
    rw [e5]
    rfl
   ·refine ⟨hat.len,hat.cap,fun hn => ?_⟩
    obtain ⟨b,off,cu,t,hq,q1,q2,q3⟩ := hat.at' hn
    have hl := lt_of q2
    exact ⟨b,off,cu,t,⟨by have := h.kp.size; omega,by rw [hT]; simp only [if_neg (show ¬ b < wr.heap.size by omega)]⟩,q1,by rw [k6.block b hl (by simp; omega)]; exact q2,q3⟩
  ·have hx' : M x := hx.resolve_right e
   obtain ⟨pb,c1,c2⟩ := hw1.cl x hx'
   refine ⟨pb,?_,c2.keep (fun z hz hzl => k6.block z hzl (fun hs => by
    rw [List.mem_singleton.1 hs] at hz
    have := hz.2
    rw [y4] at this
    cases this))⟩
   by_cases eb : A.abk x0 gT B x = B y
   ·rw [eb] at c1 ⊢
    obtain ⟨cu,t,t1,t2⟩ := c1
    have hcu : cu = cuy ∧ t = 40 := by
     unfold At at y1
     rw [y1] at t1
     simp only [Option.some.injEq,Obj.cells.injEq,and_true] at t1
     exact ⟨t1.1.symm,t1.2.symm⟩
    obtain ⟨rfl,rfl⟩ := hcu
    refine ⟨cur',_,g1,fun i hi => ?_⟩
    have hap : A.aof x0 x + 6 ≤ j * 6 ∨ j * 6 + 6 ≤ A.aof x0 x := by
     have e0 : x ≠ x0 := fun e0 => by
      unfold Ar.abk at eb
      rw [if_pos e0] at eb
      exact y5 eb.symm
     obtain ⟨p,hu,hkp⟩ := h.mkd x hx' e0
     unfold Ar.abk at eb
     rw [if_neg e0,Ar.par_eq hu] at eb
     obtain rfl := h.inj p y hkp hk eb
     obtain ⟨_,h1⟩ := Ar.place_lt ok hu
     have : A.place p x ≠ j := fun e4 => by
      rw [e4,List.getElem?_eq_getElem hj,hc] at h1
      exact e (Option.some.inj h1).symm
     unfold Ar.aof
     rw [if_neg e0,Ar.par_eq hu]
     omega
    rw [hget,if_neg (by simp; omega)]
    exact t2 i hi
   ·exact c1.of_block (k6.block _ (Nat.lt_of_lt_of_le (h.blk2 hx').2.2 k.size) (by simpa using eb))
theorem Cs.nd (h : Cs A w wr x0 gT τ B M K) (ok : A.Ok) (hM : ∀ x,A.Wn x x0 → M x) (hK : ∀ x,A.Wn x x0 → A.kids x ≠ [] → K x = true) (hK2 : ∀ x,A.kids x = [] → K x = false) (hx0 : x0 < A.n) :
  ∃ p,Cl wr gT 0 (A.lb x0) p ∧ Nd (fun b => w.heap.size ≤ b ∧ τ b ≠ 0) wr (A.lb x0) (A.below x0) p := by
 have key : ∀ m k x,x < A.n → A.anc k x = some x0 → A.n ≤ m + k → ∃ p,Cl wr (A.abk x0 gT B x) (A.aof x0 x) (A.lb x) p ∧ Nd (fun b => w.heap.size ≤ b ∧ τ b ≠ 0) wr (A.lb x) (A.below x) p := by
  intro m
  induction m with
  | zero => intro k x hx e hm; exact absurd (ok.anc_lt hx e) (by omega)
  | succ m ih =>
    intro k x hx e hm
    have hwn : A.Wn x x0 := ⟨k,e⟩
    obtain ⟨pa,c1,c2⟩ := h.cl x (hM x hwn)
    refine ⟨(pa,A.kdV B K x),c1,c2.mono (fun z _ hz => ⟨hz.1,by rw [hz.2]; omega⟩),?_⟩
    rw [ok.below_kids]
    by_cases hks : A.kids x = []
    ·have e5 : A.kdV B K x = (none,0,0) := by unfold Ar.kdV; rw [if_neg (by rw [hK2 x hks]; simp)]
     rw [e5,hks]
     exact Rt.nil _ _ _ _
    ·have hkx := hK x hwn hks
     have e5 : A.kdV B K x = (some ⟨B x,0,none⟩,(A.kids x).length,(A.kids x).length) := by unfold Ar.kdV; rw [if_pos hkx]
     rw [e5]
     obtain ⟨⟨cur,g1,g2⟩,g3,g4,_⟩ := h.bks x hkx
     refine ⟨cur.toList,⟨by simp; omega,Nat.le_refl _,fun _ => ⟨B x,0,cur,_,⟨g3,by rw [g4]; omega⟩,rfl,g1,fun j hj => by simp⟩⟩,?_⟩
     have row : ∀ (r : List Nat) (i : Nat),(A.kids x).drop i = r → Lf (fun b => w.heap.size ≤ b ∧ τ b ≠ 0) wr (r.foldr (fun c r => Fo.cons (A.lb c) (A.below c) r) .nil) (cur.toList.drop (i * 6)) := by
      intro r
      induction r with
      | nil =>
        intro i hi
        have hil : (A.kids x).length ≤ i := by
         have := congrArg List.length hi
         simp at this
         omega
        rw [List.foldr_nil]
        exact List.drop_eq_nil_of_le (by simp; omega)
      | cons c r ihr =>
        intro i hi
        have hil : i < (A.kids x).length := by
         have := congrArg List.length hi
         simp at this
         omega
        have hc : (A.kids x)[i] = c ∧ (A.kids x).drop (i + 1) = r := by
         rw [List.drop_eq_getElem_cons hil] at hi
         exact List.cons.inj hi
        have huc : A.up c = some x := (ok.link x c).1 (by rw [← hc.1]; exact List.getElem_mem hil)
        have hc0 : c ≠ x0 := fun e0 => by
         have := ok.not_up huc
         rw [e0] at this
         exact this hwn
        obtain ⟨p,d1,d2⟩ := ih (k + 1) c (ok.lt huc).1 (by simp only [Ar.anc,huc,Option.bind_some,e]) (by omega)
        have hab : A.abk x0 gT B c = B x := by unfold Ar.abk; rw [if_neg hc0,Ar.par_eq huc]
        have hao : A.aof x0 c = i * 6 := by unfold Ar.aof; rw [if_neg hc0,Ar.par_eq huc,← hc.1,Ar.place_at ok hil]
        rw [hab,hao] at d1
        rw [List.foldr_cons]
        refine Lf.cons_iff.2 ⟨p,cur.toList.drop ((i + 1) * 6),?_,d2,ihr (i + 1) hc.2⟩
        obtain ⟨cu,t,t1,t2⟩ := d1
        have hcu : cu = cur := by
         unfold At at g1
         rw [g1] at t1
         simp only [Option.some.injEq,Obj.cells.injEq,and_true] at t1
         exact t1.1.symm
        subst hcu
        apply List.ext_getElem?
        intro z
        rw [List.getElem?_drop]
        by_cases hz : z < 6
        ·rw [List.getElem?_append_left (by rw [six_len]; exact hz),← t2 z hz]; simp
        ·rw [List.getElem?_append_right (by rw [six_len]; omega),six_len,List.getElem?_drop]
         congr 1
         omega
     have := row (A.kids x) 0 (List.drop_zero)
     rw [Nat.zero_mul,List.drop_zero] at this
     exact this
 obtain ⟨p,h1,h2⟩ := key A.n 0 x0 hx0 rfl (by omega)
 unfold Ar.abk Ar.aof at h1
 rw [if_pos rfl,if_pos rfl] at h1
 exact ⟨p,h1,h2⟩
end
end Go.Proofs.YtpkppobkagdhkaaGreat
namespace Go.Proofs.YtpkppobkagdhkaaGreat
open Go.RowKit
def zpc : Value := .agg #[.int .i64 0,.pointer none]
theorem infoCc : (Tryz.prog.info? 82).map (fun i => (i.zero,i.size,i.bytes)) = some (some zpc,2,16) := by kernel_rfl
def pvc (a : Addr) (i : Int) : Value := .agg #[.int .i64 i,.pointer (some a)]
def pcc (a : Addr) (i : Int) : List Value := [.int .i64 i,.pointer (some a)]
theorem cp_new (w : World) : Calls Tryz.prog 35 #[] w fun e w' => e = .returned (.pointer (some ⟨w.heap.size,0,none⟩)) ∧ w' = w.alloc (.cells #[.slice none 0 0] 123) := by
 go_enter Tryz.func35,Tryz.ntmps35
 go_wp2
 go_ret
 exact ⟨rfl,rfl⟩
theorem pcc_one (a : Addr) (i : Int) : ∀ u,u ∈ pcc a i → u.oneCell' = true := fun u hu => by
 simp [pcc] at hu
 rcases hu with rfl | rfl <;> rfl
theorem cp_push (w : World) (p : Nat) (v : Value) (n : Nat) (xs : List Value) (a : Addr) (i : Int) (h : Pk 2 w 123 82 p v n xs) (hl : n < 100000) :
  Calls Tryz.prog 36 #[.pointer (some ⟨p,0,none⟩),pvc a i] w fun e w' => e = .returned (.tuple #[]) ∧ Tk 2 w w' 123 82 p v (n + 1) (xs ++ pcc a i) := by
 obtain ⟨ao,c,rfl,hc,hf,hnc,hpl,_⟩ := h.out
 obtain ⟨hp,hown,hpb⟩ := h
 obtain ⟨w1,hw1⟩ : ∃ w1,w1 = ((w.alloc (.cells #[.int .i64 i,.pointer (some a)] 82)).alloc (.cells #[.int .i64 i,.pointer (some a)] 82)).drew := ⟨_,rfl⟩
 have hk1 : Kp [] w w1 := by rw [hw1]; exact (((Kp.refl _ _).alloc _).alloc _).drew
 have hown1 : OwnK 2 w1 82 (.slice ao n c) n xs := hown.keep hk1 (fun _ _ => by simp)
 have hq : w1.heap[w.heap.size + 1]? = some (.cells #[.int .i64 i,.pointer (some a)] 82 (0,0)) := by rw [hw1]; exact heap_new' _ _ _ (by simp)
 obtain ⟨v',w2,hrun,hown2,hk2,hb2,a2,c2,hv2⟩ := appK Tryz.underlying121 infoCc rfl (by decide) w1 _ n xs hown1 _ 1 _ (src_new Tryz.underlying121 hq (pcc a i) rfl (pcc_one a i)) (fun _ => by omega) (by omega)
 have hsz : w1.heap.size = w.heap.size + 2 := by rw [hw1]; simp
 have hp2 : w2.heap[p]? = some (.cells #[.slice ao n c] 123 (0,0)) := by
  rw [hk2.block p (by omega) hpb,hk1.block p hpl (by simp)]; exact hp
 have hc2 : w2.cell? ⟨p,0,none⟩ = some (.slice ao n c) := by rw [cell_of hp2]; rfl
 have hf2 : w2.frozen? ⟨p,0,none⟩ = false := frozen_of hp2 0
 have hfin : Hid (Tk 2 w (w2.setCell ⟨p,0,none⟩ v') 123 82 p (.slice ao n c) (n + 1) (xs ++ pcc a i)) := by
  refine Tk.mk hpl hp2 hpb hown2 ((hk1.mono (T := p :: blk _) (fun y hy => by simp at hy)).trans hk2 (fun y hy => Or.inl (by simp [hy]))) (fun k hk => ?_)
  rcases hb2 k hk with h1 | h1
  ·exact Or.inl h1
  ·right; omega
 rw [hw1] at hrun
 subst hv2
 clear hk1 hown1 hown2 hk2 hb2 hp2 hown hq hsz hw1 hp hpb
 unfold pvc
 go_enter Tryz.func36,Tryz.ntmps36
 go_wp2_with fail
 refine wp_region_any (by kernel_rfl) ?_
 change wpAny _ _ _ _ _ _ _ (World.drew _)
 refine wpAny_take (i := 0) (v := ?_) rfl (by kernel_rfl) (by kernel_rfl) (by kernel_rfl) (fun _ _ _ h => h) (Or.inl ⟨by rfl,?_⟩) ?_
 rotate_left
 ·intro w; go_simp <;> with_reducible rfl
 refine wpAny_take (i := 1) (v := ?_) rfl (by kernel_rfl) (by kernel_rfl) (by kernel_rfl) (fun _ _ _ h => h) (Or.inl ⟨by rfl,?_⟩) ?_
 rotate_left
 ·intro w; go_simp <;> with_reducible rfl
 refine wpAny_take (i := 2) (v := ?_) rfl (by kernel_rfl) (by kernel_rfl) (by kernel_rfl) (fun _ _ _ h => h) (Or.inl ⟨by rfl,?_⟩) ?_
 rotate_left
 ·intro w; go_simp <;> with_reducible rfl
 refine wpAny_take (i := 3) (v := ?_) rfl (by kernel_rfl) (by kernel_rfl) (by kernel_rfl) (fun _ _ _ h => h) (Or.inl ⟨by rfl,?_⟩) ?_
 rotate_left
 ·intro w; go_simp <;> with_reducible rfl
 refine wpAny_ready (rs := [4,5]) (by kernel_rfl) (by simp) (AllReady.cons rfl (fun K hK => ?_) (AllReady.cons rfl (fun K hK => ?_) AllReady.nil))
 ·go_simp; refine hK _ _ ?_; clear hK K
  refine wpAny_ready (rs := [5]) (by kernel_rfl) (by simp) (AllReady.cons rfl (fun K hK => ?_) AllReady.nil)
  go_simp; refine hK _ _ ?_; clear hK K
  refine wpAny_ready (rs := [6]) (by kernel_rfl) (by simp) (AllReady.cons rfl (fun K hK => ?_) AllReady.nil)
  go_simp; refine hK _ _ ?_; clear hK K
  refine wpAny_ready (rs := [7]) (by kernel_rfl) (by simp) (AllReady.cons rfl (fun K hK => ?_) AllReady.nil)
  refine step_appR (by rfl) _ _ 121 (by rfl) _ _ (by rfl) (by rfl) hrun ?_; refine hK _ _ ?_; clear hK K
  refine wpAny_take (i := 8) (v := ?_) rfl (by kernel_rfl) (by kernel_rfl) (by kernel_rfl) (fun _ _ _ h => h) (Or.inl ⟨by rfl,?_⟩) ?_
  rotate_left
  ·intro w; go_simp <;> with_reducible rfl
  refine wpAny_take (i := 9) (v := ?_) rfl (by kernel_rfl) (by kernel_rfl) (by kernel_rfl) (fun _ _ _ h => h) (Or.inl ⟨by rfl,?_⟩) ?_
  rotate_left
  ·intro w; go_simp <;> with_reducible rfl
  refine wpAny_ready (rs := [10]) (by kernel_rfl) (by simp) (AllReady.cons rfl (fun K hK => ?_) AllReady.nil)
  go_simp; refine hK _ _ ?_; clear hK K
  refine wpAny_done (by kernel_rfl) ?_ _
  go_end0
  exact ⟨rfl,hfin.out⟩
 ·go_simp; refine hK _ _ ?_; clear hK K
  refine wpAny_ready (rs := [4,6]) (by kernel_rfl) (by simp) (AllReady.cons rfl (fun K hK => ?_) (AllReady.cons rfl (fun K hK => ?_) AllReady.nil))
  ·go_simp; refine hK _ _ ?_; clear hK K
   refine wpAny_ready (rs := [6]) (by kernel_rfl) (by simp) (AllReady.cons rfl (fun K hK => ?_) AllReady.nil)
   go_simp; refine hK _ _ ?_; clear hK K
   refine wpAny_ready (rs := [7]) (by kernel_rfl) (by simp) (AllReady.cons rfl (fun K hK => ?_) AllReady.nil)
   refine step_appR (by rfl) _ _ 121 (by rfl) _ _ (by rfl) (by rfl) hrun ?_; refine hK _ _ ?_; clear hK K
   refine wpAny_take (i := 8) (v := ?_) rfl (by kernel_rfl) (by kernel_rfl) (by kernel_rfl) (fun _ _ _ h => h) (Or.inl ⟨by rfl,?_⟩) ?_
   rotate_left
   ·intro w; go_simp <;> with_reducible rfl
   refine wpAny_take (i := 9) (v := ?_) rfl (by kernel_rfl) (by kernel_rfl) (by kernel_rfl) (fun _ _ _ h => h) (Or.inl ⟨by rfl,?_⟩) ?_
   rotate_left
   ·intro w; go_simp <;> with_reducible rfl
   refine wpAny_ready (rs := [10]) (by kernel_rfl) (by simp) (AllReady.cons rfl (fun K hK => ?_) AllReady.nil)
   go_simp; refine hK _ _ ?_; clear hK K
   refine wpAny_done (by kernel_rfl) ?_ _
   go_end0
   exact ⟨rfl,hfin.out⟩
  ·go_simp; refine hK _ _ ?_; clear hK K
   refine wpAny_ready (rs := [4]) (by kernel_rfl) (by simp) (AllReady.cons rfl (fun K hK => ?_) AllReady.nil)
   go_simp; refine hK _ _ ?_; clear hK K
   refine wpAny_ready (rs := [7]) (by kernel_rfl) (by simp) (AllReady.cons rfl (fun K hK => ?_) AllReady.nil)
   refine step_appR (by rfl) _ _ 121 (by rfl) _ _ (by rfl) (by rfl) hrun ?_; refine hK _ _ ?_; clear hK K
   refine wpAny_take (i := 8) (v := ?_) rfl (by kernel_rfl) (by kernel_rfl) (by kernel_rfl) (fun _ _ _ h => h) (Or.inl ⟨by rfl,?_⟩) ?_
   rotate_left
   ·intro w; go_simp <;> with_reducible rfl
   refine wpAny_take (i := 9) (v := ?_) rfl (by kernel_rfl) (by kernel_rfl) (by kernel_rfl) (fun _ _ _ h => h) (Or.inl ⟨by rfl,?_⟩) ?_
   rotate_left
   ·intro w; go_simp <;> with_reducible rfl
   refine wpAny_ready (rs := [10]) (by kernel_rfl) (by simp) (AllReady.cons rfl (fun K hK => ?_) AllReady.nil)
   go_simp; refine hK _ _ ?_; clear hK K
   refine wpAny_done (by kernel_rfl) ?_ _
   go_end0
   exact ⟨rfl,hfin.out⟩
theorem cp_holds_in (w : World) (p : Nat) (v : Value) (n : Nat) (xs : List Value) (i : Nat) (h : Pk 2 w 123 82 p v n xs) (h1 : i < n) :
  Calls Tryz.prog 121 #[.pointer (some ⟨p,0,none⟩),.int .i64 i] w fun e w' => e = .returned (.bool true) ∧ w' = w := by
 obtain ⟨ao,c,rfl,hc,hf,_⟩ := h.out
 clear h
 have h2 : (0 : Int) ≤ (i : Int) := by omega
 have h3 : (i : Int) < (n : Int) := by omega
 go_enter Tryz.func121,Tryz.ntmps121
 go_wp2
 go_ret
 exact ⟨rfl,rfl⟩
theorem cp_holds_none (w : World) (p : Nat) (v : Value) (xs : List Value) (h : Pk 2 w 123 82 p v 0 xs) :
  Calls Tryz.prog 121 #[.pointer (some ⟨p,0,none⟩),.int .i64 (-1)] w fun e w' => e = .returned (.bool false) ∧ w' = w := by
 obtain ⟨ao,c,rfl,hc,hf,_⟩ := h.out
 clear h
 go_enter Tryz.func121,Tryz.ntmps121
 go_wp2
 go_ret
 exact ⟨rfl,rfl⟩
theorem cp_at_in (w : World) (p : Nat) (v : Value) (n : Nat) (xs : List Value) (i : Nat) (a : Addr) (k : Int) (h : Pk 2 w 123 82 p v n xs) (h1 : i < n) (e0 : xs[i * 2]? = some (.int .i64 k)) (e1 : xs[i * 2 + 1]? = some (.pointer (some a))) (hn : n < 1000000) :
  Calls Tryz.prog 101 #[.pointer (some ⟨p,0,none⟩),.int .i64 i] w fun e w' => e = .returned (.tuple #[pvc a k,.bool true]) ∧ Kp [] w w' := by
 obtain ⟨ao,c,hv,hc,hf,hnc,hpl,hcs⟩ := h.out
 obtain ⟨g,o,rfl,hgp,hcs⟩ := hcs (by omega)
 have c0 := (hcs (i * 2) (by omega)).1
 have c1 := (hcs (i * 2 + 1) (by omega)).1
 rw [e0] at c0
 rw [e1,← Nat.add_assoc] at c1
 have hgl : g < w.heap.size := block_lt_of_cell c0
 obtain ⟨w1,hw1⟩ : ∃ w1,w1 = w.alloc (.cells #[.int .i64 0,.pointer none] 82) := ⟨_,rfl⟩
 have hk : Kp [] w w1 := by rw [hw1]; exact (Kp.refl _ _).alloc _
 have hh := cp_holds_in w1 p v n xs i (h.keep hk (by simp) (fun _ _ => by simp)) h1
 rw [hw1] at hh
 have h2 : (0 : Int) ≤ (i : Int) := by omega
 have h3 : (i : Int) < (n : Int) := by omega
 clear h hcs hv e0 e1 hk hw1 w1
 go_enter Tryz.func101,Tryz.ntmps101
 go_wp2_with (go_at_call 121; refine hh.mono ?_; rintro e w' ⟨rfl,rfl⟩)
 refine bodyPost_ret (v := .tuple #[pvc a k,.bool true]) (by simp [results,go_sem,pvc]) rfl ⟨rfl,(Kp.refl _ _).alloc _⟩
theorem cp_at_none (w : World) (p : Nat) (v : Value) (xs : List Value) (h : Pk 2 w 123 82 p v 0 xs) :
  Calls Tryz.prog 101 #[.pointer (some ⟨p,0,none⟩),.int .i64 (-1)] w fun e w' => e = .returned (.tuple #[zpc,.bool false]) ∧ Kp [] w w' := by
 have hh := fun w1 (hk : Kp [] w w1) => cp_holds_none w1 p v xs (h.keep hk (by simp) (fun _ _ => by simp))
 have H1 := hh _ ((Kp.refl [] w).alloc (.cells #[.int .i64 0,.pointer none] 82))
 clear hh h
 go_enter Tryz.func101,Tryz.ntmps101
 go_wp2_with (go_at_call 121; refine H1.mono ?_; rintro e w' ⟨rfl,rfl⟩)
 refine bodyPost_ret (v := .tuple #[zpc,.bool false]) (by simp [results,go_sem,zpc]) rfl ⟨rfl,?_⟩
 exact ((Kp.refl _ _).alloc _).alloc _
theorem zvCc (w : World) : (zeroValue 82).run Tryz.prog w = .ok zpc w := by kernel_rfl
theorem cp_delete (w : World) (g o n c : Nat) (xs ys : List Value) (hown : OwnK 2 w 82 (.slice (some ⟨g,o,none⟩) (n + 1) c) (n + 1) (xs ++ ys)) (hx : xs.length = n * 2) (hl : n < 100000) :
  Calls Tryz.prog 102 #[.slice (some ⟨g,o,none⟩) (n + 1) c,.int .i64 (n : Int),.int .i64 ((n : Int) + 1)] w fun e w' => e = .returned (.slice (some ⟨g,o,none⟩) n c) ∧ OwnK 2 w' 82 (.slice (some ⟨g,o,none⟩) n c) n xs ∧ Kp [g] w w' := by
 have HF : Hid (OwnK 2 (w.drew.setCells g (o + n * 2) [.int .i64 0,.pointer none]) 82 (.slice (some ⟨g,o,none⟩) n c) n xs ∧ Kp [g] w (w.drew.setCells g (o + n * 2) [.int .i64 0,.pointer none])) :=
  ⟨(hown.keep (Kp.refl [] w).drew (fun _ _ => by simp)).pop hx rfl,Kp.setCells g (Or.inl (by simp)) _ _ _ (Kp.refl _ _).drew⟩
 have hnc : n + 1 ≤ c := by
  rcases hown.2 with ⟨h1,_⟩ | ⟨g',o',cap',cur,hv,hg,h1,h2,h3,h4⟩
  ·cases h1
  ·simp only [Value.slice.injEq] at hv
   omega
 have HC : ∀ ty,(Builtin.clear_ #[121] ty #[.slice (some ⟨g,o + n * 2,none⟩) 1 (c - n)]).run Tryz.prog w.drew = .ok (.tuple #[]) (w.drew.setCells g (o + n * 2) [.int .i64 0,.pointer none]) := fun ty => by
  rcases hown.2 with ⟨h1,_⟩ | ⟨g',o',cap',cur,hv,hg,h1,h2,h3,h4⟩
  ·cases h1
  ·simp only [Value.slice.injEq,Option.some.injEq,Addr.mk.injEq] at hv
   obtain ⟨⟨rfl,rfl,_⟩,_,rfl⟩ := hv
   exact clear_one w.drew 121 82 ty zpc _ Tryz.underlying121 zvCc rfl (fun u hu => by simp at hu; rcases hu with rfl | rfl <;> rfl) g (o + n * 2) (c - n)
    (fun j hj => by
     show (w.cell? _).isSome = true
     simp at hj
     rw [cell_of hg,Array.getElem?_eq_getElem (by omega)]; rfl) (fun j hj => frozen_of (w := w) hg _)
 have HA : ∀ W : World,(storeCells ⟨g,o + n * 2,none⟩ []).run Tryz.prog W = .ok () W := fun W => rfl
 clear hown hx
 have i1 : (0 : Int) ≤ (n : Int) := by omega
 have i4 : (0 : Int) ≤ (n : Int) + 1 := by omega
 have i5 : (n : Int) ≤ (n : Int) + 1 := by omega
 by_cases hlt : n + 1 < c
 ·have i2 : (n : Int) ≤ (c : Int) := by omega
  have i3 : (n : Int) + 1 ≤ (c : Int) := by omega
  have i6 : ¬ c = n + 1 := by omega
  have HB := app_none (P := Tryz.prog) Tryz.underlying121 infoCc w.drew g o n c ⟨g,o + (n + 1) * 2,none⟩ (c - (n + 1)) (by omega)
  clear HA
  go_enter Tryz.func102,Tryz.ntmps102
  go_wp2_with fail
  go_region_held3 (fun _ => True) (trivial)
   (first | refine step_appR (by rfl) _ _ 121 (by rfl) _ _ (by rfl) (by rfl) HB ?_)
  go_wp2_with (at_builtin; refine wpList_clear_run _ rfl _ _ rfl _ rfl HC ?_)
  go_ret
  exact ⟨rfl,HF.out⟩
 ·obtain rfl : c = n + 1 := by omega
  rw [show n + 1 - n = 1 by omega] at HC
  go_enter Tryz.func102,Tryz.ntmps102
  go_wp2_with fail
  go_region_held3 (fun _ => True) (trivial)
   (fail)
  go_wp2_with (at_builtin; refine wpList_clear_run _ rfl _ _ rfl _ rfl HC ?_)
  go_ret
  exact ⟨rfl,HF.out⟩
theorem cp_cut (w : World) (p : Nat) (v : Value) (n : Nat) (xs : List Value) (a : Addr) (k : Int) (h : Pk 2 w 123 82 p v (n + 1) (xs ++ pcc a k)) (hl : n < 100000) :
  Calls Tryz.prog 62 #[.pointer (some ⟨p,0,none⟩),.int .i64 n] w fun e w' => e = .returned (.tuple #[pvc a k,.bool true]) ∧ Tk 2 w w' 123 82 p v n xs := by
 have hx : xs.length = n * 2 := by have := h.2.1.1; rw [List.length_append] at this; simp [pcc] at this; omega
 have H1 := fun W (kw : Kp [] w W) => cp_at_in W p v (n + 1) _ n a k (h.keep kw (by simp) (fun _ _ => by simp)) (by omega) (by rw [← hx,List.getElem?_append_right (by omega)]; simp [pcc]) (by rw [← hx,List.getElem?_append_right (by omega)]; simp [pcc]) (by omega)
 obtain ⟨ao,c,rfl,hc,hf,hnc,hpl,hcs⟩ := h.out
 obtain ⟨g,o,rfl,hgp,_⟩ := hcs (by omega)
 obtain ⟨hp,hown,hpb⟩ := h
 have hgl : g < w.heap.size := hown.lt g (by simp [blk])
 have H1' := H1 _ ((Kp.refl [] w).alloc (.cells #[.int .i64 0,.pointer none] 82))
 have HD : Hid (∀ W,Kp [] w W → Calls Tryz.prog 102 #[.slice (some ⟨g,o,none⟩) (n + 1) c,.int .i64 (n : Int),.int .i64 ((n : Int) + 1)] W fun e w' => e = .returned (.slice (some ⟨g,o,none⟩) n c) ∧ OwnK 2 w' 82 (.slice (some ⟨g,o,none⟩) n c) n xs ∧ Kp [g] W w') := fun W kw => cp_delete W g o n c xs _ (hown.keep kw (fun _ _ => by simp)) hx hl
 have HP : Hid (w.heap[p]? = some (.cells #[.slice (some ⟨g,o,none⟩) (n + 1) c] 123 (0,0))) := hp
 clear H1 hcs hp hown hpb hx
 have i1 : (n : Int) < 100000 := by omega
 unfold pvc at H1' ⊢
 go_enter Tryz.func62,Tryz.ntmps62
 go_wp2_with fail
 refine H1'.mono ?_
 rintro e w2 ⟨rfl,K2⟩
 have K0 : Hid (Kp [] w w2) := ((Kp.refl [] w).alloc _).trans K2 (fun x hx => Or.inl hx)
 have R2 : Hid (w2.heap[w.heap.size]? = some (.cells #[.int .i64 0,.pointer none] 82 (0,0))) := (K2.block _ (by simp) (by simp)).trans (heap_new w _)
 have hs2 : w.heap.size < w2.heap.size := (Array.getElem?_eq_some_iff.1 R2.out).1
 have c2 : w2.cell? ⟨p,0,none⟩ = some (.slice (some ⟨g,o,none⟩) (n + 1) c) := (cell_of ((K0.out.block p hpl (by simp)).trans HP.out) 0)
 have hpl2 : p < w2.heap.size := by omega
 clear K2 H1'
 go_wp2_with fail
 refine (HD.out _ (K0.out.alloc _)).mono ?_
 rintro e w3 ⟨rfl,O3,K3⟩
 have P3 : w3.heap[p]? = some (.cells #[.slice (some ⟨g,o,none⟩) (n + 1) c] 123 (0,0)) := (K3.block p (by simp; omega) (by simp; omega)).trans ((((K0.out.alloc _).block p hpl (by simp))).trans HP.out)
 have R3 : w3.heap[w.heap.size]? = some (.cells #[.int .i64 0,.pointer none] 82 (0,0)) := (K3.block _ (by simp; omega) (by simp; omega)).trans ((((Kp.refl [] w2).alloc _).block _ hs2 (by simp)).trans R2.out)
 have X3 : w3.heap[w2.heap.size]? = some (.cells #[.int .i64 k,.pointer (some a)] 82 (0,0)) := (K3.block _ (by simp) (by simp; omega)).trans (heap_new w2 _)
 have cp3 : w3.cell? ⟨p,0,none⟩ = some (.slice (some ⟨g,o,none⟩) (n + 1) c) := cell_of P3 0
 have fp3 := frozen_of P3 0
 have cr0 : w3.cell? ⟨w.heap.size,0,none⟩ = some (.int .i64 0) := cell_of R3 0
 have cr1 : w3.cell? ⟨w.heap.size,1,none⟩ = some (.pointer none) := cell_of R3 1
 have fr0 := frozen_of R3 0
 have fr1 := frozen_of R3 1
 have cx0 : w3.cell? ⟨w2.heap.size,0,none⟩ = some (.int .i64 k) := cell_of X3 0
 have cx1 : w3.cell? ⟨w2.heap.size,1,none⟩ = some (.pointer (some a)) := cell_of X3 1
 have n1 : ¬ p = w.heap.size := by omega
 have n2 : ¬ p = w2.heap.size := by omega
 have n5 : ¬ w.heap.size = p := by omega
 have n6 : ¬ w2.heap.size = p := by omega
 have HF : Hid (Tk 2 w (((w3.setCell ⟨p,0,none⟩ (.slice (some ⟨g,o,none⟩) n c)).setCell ⟨w.heap.size,0,none⟩ (.int .i64 k)).setCell ⟨w.heap.size,1,none⟩ (.pointer (some a))) 123 82 p (.slice (some ⟨g,o,none⟩) (n + 1) c) n xs) := by
  obtain ⟨v',h1,h2,h3⟩ := Tk.mk (K := 2) (w := w) hpl P3 (by simp [blk]; omega) O3 ((K0.out.alloc _).mono (T := p :: blk (.slice (some ⟨g,o,none⟩) (n + 1) c)) (fun x hx => by simp at hx) |>.trans K3 (fun x hx => by simp at hx; subst hx; exact Or.inl (by simp [blk]))) (fun x hx => Or.inl (by simpa [blk] using hx))
  have hv : ∀ x,x ∈ blk v' → x < w.heap.size := fun x hx => by
   rcases h3 x hx with h4 | h4
   ·simp [blk] at h4; omega
   ·have := h1.2.1.lt x hx
    rcases Nat.lt_or_ge x w.heap.size with h5 | h5
    ·exact h5
    ·exact absurd hx (by
      have e : v' = .slice (some ⟨g,o,none⟩) n c := by
       have := h1.1
       rw [setCell_block P3] at this
       simp at this
       exact this.symm
      rw [e]; simp [blk]; omega)
  refine ⟨v',(h1.keep (((Kp.refl [w.heap.size] _).setCell (Or.inl (by simp)) _).setCell (Or.inl (by simp)) _) (by simp; omega) (fun x hx => by have := hv x hx; simp; omega)),(h2.setCell (Or.inr (Nat.le_refl _)) _).setCell (Or.inr (Nat.le_refl _)) _,h3⟩
 clear O3 K3 P3 R3 X3 HD HP
 go_wp2
 refine bodyPost_ret (v := .tuple #[.agg #[.int .i64 k,.pointer (some a)],.bool true]) (by simp [results,go_sem,cr0,cr1]) rfl ⟨rfl,HF.out⟩
theorem cp_pop (w : World) (p : Nat) (v : Value) (n : Nat) (xs : List Value) (a : Addr) (k : Int) (h : Pk 2 w 123 82 p v (n + 1) (xs ++ pcc a k)) (hl : n < 100000) :
  Calls Tryz.prog 37 #[.pointer (some ⟨p,0,none⟩)] w fun e w' => e = .returned (.tuple #[pvc a k,.bool true]) ∧ Tk 2 w w' 123 82 p v n xs := by
 have H1 := cp_cut _ p v n xs a k (h.keep ((Kp.refl [] w).alloc (.cells #[.int .i64 0,.pointer none] 82)) (by simp) (fun _ _ => by simp)) hl
 have hlt := h.2.1.lt
 obtain ⟨ao,c,rfl,hc,hf,hnc,hpl,hcs⟩ := h.out
 have HL : Hid (∀ x,x ∈ blk (.slice ao (n + 1) c) → x < w.heap.size) := hlt
 clear hcs h hlt
 have i1 : (n : Int) < 100000 := by omega
 unfold pvc at H1 ⊢
 go_enter Tryz.func37,Tryz.ntmps37
 go_wp2_with fail
 refine H1.mono ?_
 rintro e w2 ⟨rfl,v',T1,T2,T3⟩
 have hn : w.heap.size ∉ p :: blk (.slice ao (n + 1) c) := fun hx => by
  rcases List.mem_cons.1 hx with h1 | h1
  ·omega
  ·have := HL.out _ h1; omega
 have R2 : w2.heap[w.heap.size]? = some (.cells #[.int .i64 0,.pointer none] 82 (0,0)) := (T2.block _ (by simp) hn).trans (heap_new w _)
 have cr0 : w2.cell? ⟨w.heap.size,0,none⟩ = some (.int .i64 0) := cell_of R2 0
 have cr1 : w2.cell? ⟨w.heap.size,1,none⟩ = some (.pointer none) := cell_of R2 1
 have fr0 := frozen_of R2 0
 have fr1 := frozen_of R2 1
 have HF : Hid (Tk 2 w ((w2.setCell ⟨w.heap.size,0,none⟩ (.int .i64 k)).setCell ⟨w.heap.size,1,none⟩ (.pointer (some a))) 123 82 p (.slice ao (n + 1) c) n xs) := by
  have hb : ∀ x,x ∈ blk v' → x ∈ blk (.slice ao (n + 1) c) ∨ w.heap.size + 1 ≤ x := fun x hx => by have := T3 x hx; simpa using this
  refine ⟨v',T1.keep (((Kp.refl [w.heap.size] _).setCell (Or.inl (by simp)) _).setCell (Or.inl (by simp)) _) (by simp; omega) (fun x hx => ?_),((((Kp.refl _ w).alloc _).trans T2 (fun x hx => Or.inl hx)).setCell (Or.inr (Nat.le_refl _)) _).setCell (Or.inr (Nat.le_refl _)) _,fun x hx => ?_⟩
  ·rcases hb x hx with h1 | h1
   ·have := HL.out x h1; simp; omega
   ·simp; omega
  ·rcases hb x hx with h1 | h1
   ·exact Or.inl h1
   ·right; omega
 clear T1 T2 T3 R2 H1 hn
 go_wp2
 refine bodyPost_ret (v := .tuple #[.agg #[.int .i64 k,.pointer (some a)],.bool true]) (by simp [results,go_sem,cr0,cr1]) rfl ⟨rfl,HF.out⟩
theorem cp_cut_none (w : World) (p : Nat) (v : Value) (xs : List Value) (h : Pk 2 w 123 82 p v 0 xs) :
  Calls Tryz.prog 62 #[.pointer (some ⟨p,0,none⟩),.int .i64 (-1)] w fun e w' => e = .returned (.tuple #[zpc,.bool false]) ∧ Kp [] w w' := by
 have H1 := cp_at_none _ p v xs (h.keep ((Kp.refl [] w).alloc (.cells #[.int .i64 0,.pointer none] 82)) (by simp) (fun _ _ => by simp))
 clear h
 unfold zpc at H1 ⊢
 go_enter Tryz.func62,Tryz.ntmps62
 go_wp2_with fail
 refine H1.mono ?_
 rintro e w2 ⟨rfl,K2⟩
 have R2 : w2.heap[w.heap.size]? = some (.cells #[.int .i64 0,.pointer none] 82 (0,0)) := (K2.block _ (by simp) (by simp)).trans (heap_new w _)
 have hs2 : w.heap.size < w2.heap.size := (Array.getElem?_eq_some_iff.1 R2).1
 have cr0 : w2.cell? ⟨w.heap.size,0,none⟩ = some (.int .i64 0) := cell_of R2 0
 have cr1 : w2.cell? ⟨w.heap.size,1,none⟩ = some (.pointer none) := cell_of R2 1
 have fr0 := frozen_of R2 0
 have fr1 := frozen_of R2 1
 have K0 : Hid (Kp [] w w2) := ((Kp.refl [] w).alloc _).trans K2 (fun x hx => Or.inl hx)
 have R3 : (((w2.setCell ⟨w.heap.size,0,none⟩ (.int .i64 0)).setCell ⟨w.heap.size,1,none⟩ (.pointer none)).alloc (.cells #[.int .i64 0,.pointer none] 82)).heap[w.heap.size]? = some (.cells #[.int .i64 0,.pointer none] 82 (0,0)) := by
  rw [Below.heap_alloc _ _ _ (by simp [World.setCell]; omega),setCell_block (setCell_block R2 _ _)]; rfl
 have D : Hid (_ ∧ _) := ⟨cell_of R3 0,cell_of R3 1⟩
 clear K2 R2 H1 R3
 go_wp2
 obtain ⟨d0,d1⟩ := D.out
 refine bodyPost_ret (v := .tuple #[.agg #[.int .i64 0,.pointer none],.bool false]) (by simp [results,go_sem,d0,d1]) rfl ⟨rfl,?_⟩
 exact ((K0.out.setCell (Or.inr (Nat.le_refl _)) _).setCell (Or.inr (Nat.le_refl _)) _).alloc _
theorem cp_pop_none (w : World) (p : Nat) (v : Value) (xs : List Value) (h : Pk 2 w 123 82 p v 0 xs) :
  Calls Tryz.prog 37 #[.pointer (some ⟨p,0,none⟩)] w fun e w' => e = .returned (.tuple #[zpc,.bool false]) ∧ Kp [] w w' := by
 have H1 := cp_cut_none _ p v xs (h.keep ((Kp.refl [] w).alloc (.cells #[.int .i64 0,.pointer none] 82)) (by simp) (fun _ _ => by simp))
 obtain ⟨ao,c,rfl,hc,hf,hnc,hpl,hcs⟩ := h.out
 clear h hcs
 unfold zpc at H1 ⊢
 go_enter Tryz.func37,Tryz.ntmps37
 go_wp2_with fail
 refine H1.mono ?_
 rintro e w2 ⟨rfl,K2⟩
 have R2 : w2.heap[w.heap.size]? = some (.cells #[.int .i64 0,.pointer none] 82 (0,0)) := (K2.block _ (by simp) (by simp)).trans (heap_new w _)
 have cr0 : w2.cell? ⟨w.heap.size,0,none⟩ = some (.int .i64 0) := cell_of R2 0
 have cr1 : w2.cell? ⟨w.heap.size,1,none⟩ = some (.pointer none) := cell_of R2 1
 have fr0 := frozen_of R2 0
 have fr1 := frozen_of R2 1
 have K0 : Hid (Kp [] w w2) := ((Kp.refl [] w).alloc _).trans K2 (fun x hx => Or.inl hx)
 clear K2 R2 H1
 go_wp2
 refine bodyPost_ret (v := .tuple #[.agg #[.int .i64 0,.pointer none],.bool false]) (by simp [results,go_sem,cr0,cr1]) rfl ⟨rfl,?_⟩
 exact (K0.out.setCell (Or.inr (Nat.le_refl _)) _).setCell (Or.inr (Nat.le_refl _)) _
end Go.Proofs.YtpkppobkagdhkaaGreat
