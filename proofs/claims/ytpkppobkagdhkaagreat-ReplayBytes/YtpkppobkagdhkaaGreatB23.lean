/-
 PrM PrMb.
-/
import Derived.Test.YtpkppobkagdhkaaGreatB21
import Derived.Test.YtpkppobkagdhkaaGreatB22
set_option linter.unusedVariables false
set_option linter.unusedSimpArgs false
set_option maxRecDepth 100000
set_option maxHeartbeats 1000000
namespace Go.Proofs.YtpkppobkagdhkaaGreat
open Go.RowKit Go.Maps Utf
namespace Ar
def Mof (A : Ar) (x0 : Nat) (D : List Nat) (x : Nat) : Prop := x = x0 ∨ ∃ p,p ∈ D ∧ A.up x = some p
def Kof (A : Ar) (D : List Nat) (x : Nat) : Bool := decide (x ∈ D ∧ A.kids x ≠ [])
structure Pw (A : Ar) (x0 : Nat) (D L : List Nat) : Prop where
 dn : D.Nodup
 dw : ∀ x,x ∈ D → A.Mof x0 D x ∧ A.Wn x x0 ∧ x < A.n
 ln : L.Nodup
 lw : ∀ x,x ∈ L → A.Mof x0 D x ∧ x ∉ D ∧ A.Wn x x0 ∧ x < A.n
 al : ∀ x,A.Mof x0 D x → x ∈ D ∨ x ∈ L
theorem Pw.start {A : Ar} {x0 : Nat} (h : x0 < A.n) : A.Pw x0 [] [x0] :=
 ⟨List.nodup_nil,fun x hx => (by cases hx),by simp,fun x hx => by rw [List.mem_singleton.1 hx]; exact ⟨.inl rfl,(fun h => by cases h),Wn.refl A x0,h⟩,fun x hx => by
  rcases hx with rfl | ⟨p,hp,_⟩
  ·exact .inr (by simp)
  ·cases hp⟩
theorem Mof_cons (A : Ar) (ok : A.Ok) (x0 y : Nat) (D : List Nat) (x : Nat) : A.Mof x0 (y :: D) x ↔ A.Mof x0 D x ∨ x ∈ A.kids y := by
 unfold Mof
 constructor
 ·rintro (h | ⟨p,hp,hu⟩)
  ·exact .inl (.inl h)
  ·rcases List.mem_cons.1 hp with rfl | hp
   ·exact .inr ((ok.link p x).2 hu)
   ·exact .inl (.inr ⟨p,hp,hu⟩)
 ·rintro ((h | ⟨p,hp,hu⟩) | h)
  ·exact .inl h
  ·exact .inr ⟨p,List.mem_cons_of_mem _ hp,hu⟩
  ·exact .inr ⟨y,by simp,(ok.link y x).1 h⟩
theorem Pw.kid_no {A : Ar} {x0 : Nat} {D L : List Nat} (h : A.Pw x0 D L) (ok : A.Ok) {y c : Nat} (hy : y ∈ L) (hc : c ∈ A.kids y) : ¬ A.Mof x0 D c ∧ c ≠ x0 ∧ c ∉ D := by
 have hu := (ok.link y c).1 hc
 obtain ⟨_,h2,h3,_⟩ := h.lw y hy
 have hc0 : c ≠ x0 := fun e => ok.not_up hu (e ▸ h3)
 have hM : ¬ A.Mof x0 D c := fun hm => by
  rcases hm with e | ⟨p,hp,hup⟩
  ·exact hc0 e
  ·rw [hu] at hup
   exact h2 ((Option.some.inj hup) ▸ hp)
 exact ⟨hM,hc0,fun hd => hM (h.dw c hd).1⟩
theorem Pw.step {A : Ar} {x0 : Nat} {D S : List Nat} {y : Nat} (h : A.Pw x0 D (S ++ [y])) (ok : A.Ok) : A.Pw x0 (y :: D) (S ++ A.kids y) := by
 have hyL : y ∈ S ++ [y] := by simp
 obtain ⟨y1,y2,y3,y4⟩ := h.lw y hyL
 have hS : ∀ x,x ∈ S → x ≠ y := fun x hx e => by
  have := h.ln
  rw [List.nodup_append] at this
  exact this.2.2 x hx y (by simp) e
 refine ⟨List.nodup_cons.2 ⟨y2,h.dn⟩,fun x hx => ?_,?_,fun x hx => ?_,fun x hx => ?_⟩
 ·rcases List.mem_cons.1 hx with rfl | hx
  ·exact ⟨(Mof_cons A ok x0 _ D _).2 (.inl y1),y3,y4⟩
  ·obtain ⟨a,b⟩ := h.dw x hx
   exact ⟨(Mof_cons A ok x0 _ D _).2 (.inl a),b⟩
 ·have := h.ln
  rw [List.nodup_append] at this ⊢
  refine ⟨this.1,ok.one y,fun a ha c hc e => ?_⟩
  subst e
  exact (h.kid_no ok hyL hc).1 (h.lw a (by simp [ha])).1
 ·rcases List.mem_append.1 hx with hx | hx
  ·obtain ⟨a,b,c,d⟩ := h.lw x (by simp [hx])
   exact ⟨(Mof_cons A ok x0 _ D _).2 (.inl a),fun hm => by
    rcases List.mem_cons.1 hm with e | hm
    ·exact hS x hx e
    ·exact b hm,c,d⟩
  ·obtain ⟨a,b,c⟩ := h.kid_no ok hyL hx
   have hu := (ok.link y x).1 hx
   refine ⟨(Mof_cons A ok x0 _ D _).2 (.inr hx),fun hm => ?_,Wn.step hu y3,(ok.lt hu).1⟩
   rcases List.mem_cons.1 hm with e | hm
   ·subst e; exact ok.not_up hu (Wn.refl A x)
   ·exact c hm
 ·rcases (Mof_cons A ok x0 _ D _).1 hx with hx | hx
  ·rcases h.al x hx with h1 | h1
   ·exact .inl (List.mem_cons_of_mem _ h1)
   ·rcases List.mem_append.1 h1 with h1 | h1
    ·exact .inr (by simp [h1])
    ·exact .inl (by simp [List.mem_singleton.1 h1])
  ·exact .inr (by simp [hx])
theorem Pw.lenL {A : Ar} {x0 : Nat} {D L : List Nat} (h : A.Pw x0 D L) : L.length ≤ A.n := pig _ _ h.ln (fun x hx => (h.lw x hx).2.2.2)
theorem Pw.lenDy {A : Ar} {x0 : Nat} {D L : List Nat} {y : Nat} (h : A.Pw x0 D L) (hy : y ∈ L) : D.length < A.n := by
 have := pig A.n (y :: D) (List.nodup_cons.2 ⟨(h.lw y hy).2.1,h.dn⟩) (fun x hx => by
  rcases List.mem_cons.1 hx with rfl | hx
  ·exact (h.lw x hy).2.2.2
  ·exact (h.dw x hx).2.2)
 simp only [List.length_cons] at this
 omega
theorem Pw.all {A : Ar} {x0 : Nat} {D : List Nat} (h : A.Pw x0 D []) {x : Nat} (hx : A.Wn x x0) : x ∈ D := by
 obtain ⟨k,e⟩ := hx
 induction k generalizing x with
 | zero =>
   obtain rfl : x = x0 := by simpa [anc] using e
   rcases h.al x (.inl rfl) with h1 | h1
   ·exact h1
   ·cases h1
 | succ k ih =>
   cases hu : A.up x with
   | none => simp [anc,hu] at e
   | some p =>
     have hp := ih (x := p) (by simpa [anc,hu] using e)
     rcases h.al x (.inr ⟨p,hp,hu⟩) with h1 | h1
     ·exact h1
     ·cases h1
end Ar
def px (A : Ar) (x0 gT : Nat) (B : Nat → Nat) (S : List Nat) : List Value := S.flatMap (fun x => pcc ⟨A.abk x0 gT B x,A.aof x0 x,none⟩ (x : Int))
theorem px_app (A : Ar) (x0 gT : Nat) (B : Nat → Nat) (S T : List Nat) : px A x0 gT B (S ++ T) = px A x0 gT B S ++ px A x0 gT B T := by unfold px; rw [List.flatMap_append]
theorem px_congr {A : Ar} {x0 gT : Nat} {B B' : Nat → Nat} {S : List Nat} (h : ∀ x,x ∈ S → A.abk x0 gT B' x = A.abk x0 gT B x) : px A x0 gT B' S = px A x0 gT B S := by
 induction S with
 | nil => rfl
 | cons x r ih =>
   unfold px at ih ⊢
   rw [List.flatMap_cons,List.flatMap_cons,ih (fun y hy => h y (List.mem_cons_of_mem _ hy)),h x (by simp)]
structure Pm (A : Ar) (w wr : World) (x0 gT s P : Nat) (τ : Nat → Nat) (B : Nat → Nat) (M : Nat → Prop) (K : Nat → Bool) (v : Value) (S : List Nat) : Prop where
 cs : Cs A w wr x0 gT τ B M K
 pk : Pk 2 wr 123 82 P v S.length (px A x0 gT B S)
 pn : ∀ k,k = P ∨ k ∈ blk v → w.heap.size ≤ k ∧ τ k = 0 ∧ k ≠ s
 rs : At wr s #[.int .i64 0,.int .i64 0,.string ⟨#[]⟩,.slice none 0 0,.string ⟨#[]⟩,.slice none 0 0] 40
 rn : w.heap.size ≤ s ∧ τ s = 0
theorem Pk.lt {K : Nat} {w : World} {T e : TypeId} {p : Nat} {v : Value} {n : Nat} {xs : List Value} (h : Pk K w T e p v n xs) : ∀ k,k = p ∨ k ∈ blk v → k < w.heap.size := fun k hk => by
 rcases hk with rfl | hk
 ·exact lt_of h.1
 ·exact h.2.1.lt k hk
section
variable {A : Ar} {w wr : World} {x0 gT s P : Nat} {τ : Nat → Nat} {B : Nat → Nat} {M : Nat → Prop} {K : Nat → Bool} {v : Value} {S : List Nat}
theorem Pm.keep {D : List Nat} {w2 : World} {τ' : Nat → Nat} (h : Pm A w wr x0 gT s P τ B M K v S) (k : Kp D wr w2) (hD : ∀ x,x ∈ D → w.heap.size ≤ x ∧ (x < wr.heap.size → τ x ≠ 1 ∧ τ x ≠ 2 ∧ x ≠ P ∧ x ∉ blk v ∧ x ≠ s)) (ht : ∀ x,x < wr.heap.size → τ' x = τ x) : Pm A w w2 x0 gT s P τ' B M K v S := by
 have hp := h.pk.lt
 refine ⟨h.cs.keep k (fun x hx => ⟨(hD x hx).1,fun hl => ⟨((hD x hx).2 hl).1,((hD x hx).2 hl).2.1⟩⟩) ht,h.pk.keep k (fun hx => ((hD P hx).2 (hp P (.inl rfl))).2.2.1 rfl) (fun x hx hs => ((hD x hs).2 (hp x (.inr hx))).2.2.2.1 hx),fun x hx => ?_,h.rs.kept k (fun hx => ((hD s hx).2 h.rs.lt).2.2.2.2 rfl),h.rn.1,by rw [ht s h.rs.lt]; exact h.rn.2⟩
 obtain ⟨a,b,c⟩ := h.pn x hx
 exact ⟨a,by rw [ht x (hp x hx)]; exact b,c⟩
theorem Pm.kept {w2 : World} (h : Pm A w wr x0 gT s P τ B M K v S) (k : Kp [] wr w2) : Pm A w w2 x0 gT s P τ B M K v S := h.keep k (fun x hx => by simp at hx) (fun _ _ => rfl)
theorem Pm.pile {w2 : World} {S' : List Nat} {n' : Nat} (h : Pm A w wr x0 gT s P τ B M K v S) (t : Tk 2 wr w2 123 82 P v n' (px A x0 gT B S')) (hn : n' = S'.length) : ∃ v' τ',Pm A w w2 x0 gT s P τ' B M K v' S' ∧ (∀ x,x < wr.heap.size → τ' x = τ x) ∧ Kp (P :: blk v) wr w2 ∧ ∀ k,k ∈ blk v' → k ∈ blk v ∨ wr.heap.size ≤ k := by
 subst hn
 obtain ⟨v',t1,t2,t3⟩ := t
 obtain ⟨T,hT⟩ : ∃ T : Nat → Nat,T = fun b => if b < wr.heap.size then τ b else 0 := ⟨_,rfl⟩
 have T0 : ∀ x,x < wr.heap.size → T x = τ x := fun x hx => by rw [hT]; simp only [if_pos hx]
 have hin : ∀ x,x ∈ P :: blk v → x = P ∨ x ∈ blk v := fun x hx => List.mem_cons.1 hx
 have hkw := h.cs.kp.size
 refine ⟨v',T,⟨h.cs.keep t2 (fun x hx => ⟨(h.pn x (hin x hx)).1,fun _ => by have := (h.pn x (hin x hx)).2.1; omega⟩) T0,t1,fun x hx => ?_,h.rs.kept t2 (fun hx => (h.pn s (hin s hx)).2.2 rfl),h.rn.1,by rw [T0 s h.rs.lt]; exact h.rn.2⟩,T0,t2,t3⟩
 have hs := h.rs.lt
 rcases hx with rfl | hx
 ·obtain ⟨a,b,c⟩ := h.pn x (.inl rfl)
  exact ⟨a,by rw [T0 x (h.pk.lt x (.inl rfl))]; exact b,c⟩
 ·rcases t3 x hx with h1 | h1
  ·obtain ⟨a,b,c⟩ := h.pn x (.inr h1)
   exact ⟨a,by rw [T0 x (h.pk.lt x (.inr h1))]; exact b,c⟩
  ·exact ⟨by omega,by rw [hT]; simp only [if_neg (show ¬ x < wr.heap.size by omega)],by omega⟩
def Ex (w wr : World) (s P : Nat) (τ : Nat → Nat) (v : Value) (b : Nat) : Prop := w.heap.size ≤ b ∧ b < wr.heap.size ∧ τ b = 0 ∧ b ≠ P ∧ b ∉ blk v ∧ b ≠ s
theorem Ex.step {w wr w2 : World} {s P : Nat} {τ τ' : Nat → Nat} {v v' : Value} {b : Nat} (h : Ex w wr s P τ v b) (hs : wr.heap.size ≤ w2.heap.size) (ht : ∀ x,x < wr.heap.size → τ' x = τ x) (hv : ∀ k,k ∈ blk v' → k ∈ blk v ∨ wr.heap.size ≤ k) : Ex w w2 s P τ' v' b := by
 obtain ⟨h1,h2,h3,h4,h5,h6⟩ := h
 refine ⟨h1,Nat.lt_of_lt_of_le h2 hs,by rw [ht b h2]; exact h3,h4,fun hx => ?_,h6⟩
 rcases hv b hx with h7 | h7
 ·exact h5 h7
 ·omega
def RPure (A : Ar) (w : World) (x0 gT s P : Nat) (a : Value × Value × World) (n : Nat) : Prop :=
 ∃ (gA : Nat) (D S cu : List Nat) (τ B : Nat → Nat) (v c0 c1 : Value),a.1 = .pointer (some ⟨gA,0,none⟩) ∧ a.2.1 = .bool (decide (cu ≠ [])) ∧ A.n - D.length = n ∧ Pm A w a.2.2 x0 gT s P τ B (A.Mof x0 D) (A.Kof D) v S ∧ A.Pw x0 D (S ++ cu) ∧ cu.length ≤ 1 ∧ Ex w a.2.2 s P τ v gA ∧ At a.2.2 gA #[c0,c1] 82 ∧ (∀ y,y ∈ cu → c0 = .int .i64 (y : Int) ∧ c1 = .pointer (some ⟨A.abk x0 gT B y,A.aof x0 y,none⟩)) ∧ (cu = [] → S = [])
theorem tail_none {D : List Nat} (pm : Pm A w wr x0 gT s P τ B (A.Mof x0 D) (A.Kof D) v []) (pw : A.Pw x0 D []) (c0 c1 : Value) {w2 : World} (k : Kp [] (wr.alloc (.cells #[c0,c1] 82)) w2) :
  RPure A w x0 gT s P (.pointer (some ⟨wr.heap.size,0,none⟩),.bool false,(w2.setCell ⟨wr.heap.size,0,none⟩ (.int .i64 0)).setCell ⟨wr.heap.size,1,none⟩ (.pointer none)) (A.n - D.length) := by
 have ka : Kp [] wr (wr.alloc (.cells #[c0,c1] 82)) := (Kp.refl _ _).alloc _
 have A2 : At w2 wr.heap.size #[c0,c1] 82 := (At.new wr _ _).kept k (by simp)
 have k3 : Kp [wr.heap.size] w2 ((w2.setCell ⟨wr.heap.size,0,none⟩ (.int .i64 0)).setCell ⟨wr.heap.size,1,none⟩ (.pointer none)) := ((Kp.refl _ _).setCell (Or.inl (by simp)) _).setCell (Or.inl (by simp)) _
 have kk : Kp [wr.heap.size] wr _ := ((ka.trans k (fun x hx => Or.inl hx)).mono (T := [wr.heap.size]) (fun x hx => by simp at hx)).trans k3 (fun x hx => Or.inl hx)
 have hkw := pm.cs.kp.size
 obtain ⟨T,hT⟩ : ∃ T : Nat → Nat,T = fun b => if b < wr.heap.size then τ b else 0 := ⟨_,rfl⟩
 have T0 : ∀ x,x < wr.heap.size → T x = τ x := fun x hx => by rw [hT]; simp only [if_pos hx]
 have hpl := pm.pk.lt
 have hsl := pm.rs.lt
 refine ⟨wr.heap.size,D,[],[],T,B,v,_,_,rfl,rfl,rfl,pm.keep kk (fun x hx => by rw [List.mem_singleton.1 hx]; exact ⟨hkw,fun hl => absurd hl (Nat.lt_irrefl _)⟩) T0,pw,Nat.zero_le _,⟨hkw,((A2.set 0 _).set 1 _).lt,by rw [hT]; simp only [if_neg (Nat.lt_irrefl _)],fun e => by have := hpl P (.inl rfl); omega,fun hx => by have := hpl _ (.inr hx); omega,fun e => by omega⟩,(A2.set 0 _).set 1 _,fun y hy => (by cases hy),fun _ => rfl⟩
theorem tail_some {D S2 : List Nat} {y : Nat} (pm : Pm A w wr x0 gT s P τ B (A.Mof x0 D) (A.Kof D) v (S2 ++ [y])) (pw : A.Pw x0 D (S2 ++ [y])) (c0 c1 : Value) {w2 : World} (t : Tk 2 (wr.alloc (.cells #[c0,c1] 82)) w2 123 82 P v S2.length (px A x0 gT B S2)) :
  RPure A w x0 gT s P (.pointer (some ⟨wr.heap.size,0,none⟩),.bool true,(w2.setCell ⟨wr.heap.size,0,none⟩ (.int .i64 (y : Int))).setCell ⟨wr.heap.size,1,none⟩ (.pointer (some ⟨A.abk x0 gT B y,A.aof x0 y,none⟩))) (A.n - D.length) := by
 have ka : Kp [] wr (wr.alloc (.cells #[c0,c1] 82)) := (Kp.refl _ _).alloc _
 have hpl := pm.pk.lt
 have hsl := pm.rs.lt
 have hkw := pm.cs.kp.size
 obtain ⟨T1,hT1⟩ : ∃ T : Nat → Nat,T = fun b => if b < wr.heap.size then τ b else 0 := ⟨_,rfl⟩
 have T01 : ∀ x,x < wr.heap.size → T1 x = τ x := fun x hx => by rw [hT1]; simp only [if_pos hx]
 have pm1 : Pm A w (wr.alloc (.cells #[c0,c1] 82)) x0 gT s P T1 B (A.Mof x0 D) (A.Kof D) v (S2 ++ [y]) := pm.keep ka (fun x hx => by simp at hx) T01
 obtain ⟨v',τ',pm2,T2,k2,b2⟩ := pm1.pile t rfl
 have hnP : wr.heap.size ∉ P :: blk v := fun hx => by
  have := hpl _ (List.mem_cons.1 hx)
  omega
 have A2 : At w2 wr.heap.size #[c0,c1] 82 := (At.new wr _ _).kept k2 hnP
 have hex : Ex w (wr.alloc (.cells #[c0,c1] 82)) s P T1 v wr.heap.size := ⟨hkw,by simp,by rw [hT1]; simp only [if_neg (Nat.lt_irrefl _)],fun e => by have := hpl P (.inl rfl); omega,fun hx => by have := hpl _ (.inr hx); omega,fun e => by omega⟩
 have hex2 := hex.step (w2 := w2) (τ' := τ') (v' := v') k2.size T2 b2
 have k3 : Kp [wr.heap.size] w2 ((w2.setCell ⟨wr.heap.size,0,none⟩ (.int .i64 (y : Int))).setCell ⟨wr.heap.size,1,none⟩ (.pointer (some ⟨A.abk x0 gT B y,A.aof x0 y,none⟩))) := ((Kp.refl _ _).setCell (Or.inl (by simp)) _).setCell (Or.inl (by simp)) _
 have pm3 := pm2.keep (τ' := τ') k3 (fun x hx => by rw [List.mem_singleton.1 hx]; exact ⟨hkw,fun _ => ⟨by rw [hex2.2.2.1]; omega,by rw [hex2.2.2.1]; omega,hex2.2.2.2.1,hex2.2.2.2.2.1,hex2.2.2.2.2.2⟩⟩) (fun _ _ => rfl)
 refine ⟨wr.heap.size,D,S2,[y],τ',B,v',_,_,rfl,rfl,rfl,pm3,pw,by simp,hex2.step k3.size (fun _ _ => rfl) (fun k hk => .inl hk),(A2.set 0 _).set 1 _,fun z hz => by rw [List.mem_singleton.1 hz]; exact ⟨rfl,rfl⟩,fun e => by cases e⟩
end
def Kin (A : Ar) (D : List Nat) (y : Nat) (x : Nat) : Bool := if x = y then true else A.Kof D x
section
variable {A : Ar} {w wr : World} {x0 gT s P : Nat} {τ : Nat → Nat} {B : Nat → Nat} {v : Value} {D S : List Nat} {y : Nat}
theorem kof_y (pw : A.Pw x0 D (S ++ [y])) : A.Kof D y = false := by
 unfold Ar.Kof
 exact decide_eq_false (fun hh => (pw.lw y (by simp)).2.1 hh.1)
theorem kdv_y (pw : A.Pw x0 D (S ++ [y])) : A.kdV B (A.Kof D) y = (none,0,0) := by unfold Ar.kdV; rw [if_neg (by rw [kof_y pw]; simp)]
theorem Pm.leaf (pm : Pm A w wr x0 gT s P τ B (A.Mof x0 D) (A.Kof D) v S) (ok : A.Ok) (pw : A.Pw x0 D (S ++ [y])) (hk : A.kids y = []) : Pm A w wr x0 gT s P τ B (A.Mof x0 (y :: D)) (A.Kof (y :: D)) v S ∧ A.Pw x0 (y :: D) S := by
 have h2 := pw.step ok
 rw [hk,List.append_nil] at h2
 refine ⟨⟨pm.cs.congr (fun x => ?_) (fun x => ?_),pm.pk,pm.pn,pm.rs,pm.rn⟩,h2⟩
 ·rw [Ar.Mof_cons A ok,hk]; simp
 ·unfold Ar.Kof
  by_cases e : x = y
  ·subst e; rw [decide_eq_false (fun hh => hh.2 hk),decide_eq_false (fun hh => hh.2 hk)]
  ·refine decide_eq_decide.2 ⟨fun hh => ⟨?_,hh.2⟩,fun hh => ⟨List.mem_cons_of_mem _ hh.1,hh.2⟩⟩
   rcases List.mem_cons.1 hh.1 with h1 | h1
   ·exact absurd h1 e
   ·exact h1
theorem Pm.room {w1 : World} {cur : Array Value} (pm : Pm A w wr x0 gT s P τ B (A.Mof x0 D) (A.Kof D) v S) (ok : A.Ok) (pw : A.Pw x0 D (S ++ [y])) (gK : Nat) (hg : wr.heap.size ≤ gK) (k : Kp [] wr w1) (hc : At w1 gK cur 40) (hsz : (A.kids y).length * 6 = cur.size) :
  ∃ τ',Pm A w (w1.setCell ⟨A.abk x0 gT B y,A.aof x0 y + 5,none⟩ (.slice (some ⟨gK,0,none⟩) (A.kids y).length (A.kids y).length)) x0 gT s P τ' (fun p => if p = y then gK else B p) (fun x => A.Mof x0 D x ∨ x ∈ (A.kids y).take 0) (Kin A D y) v S ∧ (∀ x,x < wr.heap.size → τ' x = τ x) ∧ Kp [A.abk x0 gT B y] w1 (w1.setCell ⟨A.abk x0 gT B y,A.aof x0 y + 5,none⟩ (.slice (some ⟨gK,0,none⟩) (A.kids y).length (A.kids y).length)) ∧ τ (A.abk x0 gT B y) = 2 ∧ A.abk x0 gT (fun p => if p = y then gK else B p) y = A.abk x0 gT B y := by
 have hyM := (pw.lw y (by simp)).1
 obtain ⟨y1,y2,y3⟩ := pm.cs.blk2 hyM
 have c2 := pm.cs.kids ok hyM (kof_y pw) hg k hc hsz
 obtain ⟨T,hT⟩ : ∃ T : Nat → Nat,T = fun b => if b < wr.heap.size then τ b else if b = gK then 2 else 0 := ⟨_,rfl⟩
 have T0 : ∀ x,x < wr.heap.size → T x = τ x := fun x hx => by rw [hT]; simp only [if_pos hx]
 rw [← hT] at c2
 have k5 : Kp [A.abk x0 gT B y] w1 (w1.setCell ⟨A.abk x0 gT B y,A.aof x0 y + 5,none⟩ (.slice (some ⟨gK,0,none⟩) (A.kids y).length (A.kids y).length)) := (Kp.refl _ _).setCell (Or.inl (by simp)) _
 have hpl := pm.pk.lt
 have hne : ∀ z,τ z = 0 → z ≠ A.abk x0 gT B y := fun z hz e => by rw [e,y1] at hz; cases hz
 have epx : px A x0 gT (fun p => if p = y then gK else B p) S = px A x0 gT B S := px_congr (fun x hx => by
  unfold Ar.abk
  by_cases e : x = x0
  ·rw [if_pos e,if_pos e]
  ·obtain ⟨p,hu,hkp⟩ := pm.cs.mkd x (pw.lw x (by simp [hx])).1 e
   rw [if_neg e,if_neg e,Ar.par_eq hu]
   exact if_neg (fun e2 => by rw [e2,kof_y pw] at hkp; cases hkp))
 refine ⟨T,⟨c2.congr (fun x => by simp) (fun x => rfl),?_,fun z hz => ?_,?_,pm.rn.1,by rw [T0 s pm.rs.lt]; exact pm.rn.2⟩,T0,k5,y1,?_⟩
 rotate_right
 ·unfold Ar.abk
  by_cases e : y = x0
  ·rw [if_pos e,if_pos e]
  ·obtain ⟨p,hu,hkp⟩ := pm.cs.mkd y hyM e
   rw [if_neg e,if_neg e,Ar.par_eq hu]
   exact if_neg (fun e2 => by rw [e2,kof_y pw] at hkp; cases hkp)
 ·rw [epx]
  refine (pm.pk.keep k (by simp) (fun _ _ => by simp)).keep k5 ?_ (fun x hx => ?_)
  ·simpa using hne P (pm.pn P (.inl rfl)).2.1
  ·simpa using hne x (pm.pn x (.inr hx)).2.1
 ·obtain ⟨a1,a2,a3⟩ := pm.pn z hz
  exact ⟨a1,by rw [T0 z (hpl z hz)]; exact a2,a3⟩
 ·exact (pm.rs.kept k (by simp)).kept k5 (by simpa using hne s pm.rn.2)
theorem pm_kid {V : World} {pa : Option Addr × Nat × Nat} {j c : Nat} (pm : Pm A w wr x0 gT s P τ B (fun x => A.Mof x0 D x ∨ x ∈ (A.kids y).take j) (Kin A D y) v (S ++ (A.kids y).take j)) (ok : A.Ok) (pw : A.Pw x0 D (S ++ [y])) (hj : j < (A.kids y).length) (hc : (A.kids y)[j] = c) (k : Kp [] wr V) (hat : Rk (fun b => wr.heap.size ≤ b) 2 V pa.1 pa.2.1 pa.2.2 (cs (A.lb c).attrs)) :
  ∃ τ',Pm A w (put6 V (B y) (j * 6) (.int .i64 (A.lb c).kind) (.int .i64 (A.lb c).ns) (.string (A.lb c).name) (.slice pa.1 pa.2.1 pa.2.2) (.string (A.lb c).text) (.slice none 0 0)) x0 gT s P τ' B (fun x => A.Mof x0 D x ∨ x ∈ (A.kids y).take (j + 1)) (Kin A D y) v (S ++ (A.kids y).take j) ∧ (∀ x,x < wr.heap.size → τ' x = τ x) ∧ Kp [B y] V (put6 V (B y) (j * 6) (.int .i64 (A.lb c).kind) (.int .i64 (A.lb c).ns) (.string (A.lb c).name) (.slice pa.1 pa.2.1 pa.2.2) (.string (A.lb c).text) (.slice none 0 0)) ∧ τ (B y) = 2 := by
 have hyL : y ∈ S ++ [y] := by simp
 have hcm : c ∈ A.kids y := by rw [← hc]; exact List.getElem_mem hj
 obtain ⟨m1,m2,m3⟩ := pw.kid_no ok hyL hcm
 have hcy : c ≠ y := fun e => ok.not_up ((ok.link y c).1 hcm) (e ▸ Ar.Wn.refl A c)
 have hky : Kin A D y y = true := by unfold Kin; rw [if_pos rfl]
 have hts : (A.kids y).take (j + 1) = (A.kids y).take j ++ [c] := by rw [List.take_succ_eq_append_getElem hj,hc]
 have hnt : c ∉ (A.kids y).take j := fun hm => by
  have hnd := ok.one y
  rw [← List.take_append_drop (j + 1) (A.kids y),hts,List.append_assoc,List.nodup_append] at hnd
  exact hnd.2.2 c hm c (by simp) rfl
 have c2 := pm.cs.kid ok hky hj hc (fun hm => hm.elim m1 hnt) (by unfold Kin; rw [if_neg hcy]; unfold Ar.Kof; exact decide_eq_false (fun hh => m3 hh.1)) m2 k hat
 obtain ⟨_,b3,b4,_⟩ := pm.cs.bks y hky
 obtain ⟨T,hT⟩ : ∃ T : Nat → Nat,T = fun b => if b < wr.heap.size then τ b else 1 := ⟨_,rfl⟩
 have T0 : ∀ x,x < wr.heap.size → T x = τ x := fun x hx => by rw [hT]; simp only [if_pos hx]
 rw [← hT] at c2
 have k6 : Kp [B y] V (put6 V (B y) (j * 6) (.int .i64 (A.lb c).kind) (.int .i64 (A.lb c).ns) (.string (A.lb c).name) (.slice pa.1 pa.2.1 pa.2.2) (.string (A.lb c).text) (.slice none 0 0)) := kp_put6 (Kp.refl [B y] V) _ _ _ _ _ _ _
 have hpl := pm.pk.lt
 have hne : ∀ z,τ z = 0 → z ≠ B y := fun z hz e => by rw [e,b4] at hz; cases hz
 refine ⟨T,⟨c2.congr (fun x => ?_) (fun x => rfl),(pm.pk.keep k (by simp) (fun _ _ => by simp)).keep k6 (by simpa using hne P (pm.pn P (.inl rfl)).2.1) (fun x hx => by simpa using hne x (pm.pn x (.inr hx)).2.1),fun z hz => ?_,(pm.rs.kept k (by simp)).kept k6 (by simpa using hne s pm.rn.2),pm.rn.1,by rw [T0 s pm.rs.lt]; exact pm.rn.2⟩,T0,k6,b4⟩
 ·rw [hts,List.mem_append,List.mem_singleton,or_assoc]
 ·obtain ⟨a1,a2,a3⟩ := pm.pn z hz
  exact ⟨a1,by rw [T0 z (hpl z hz)]; exact a2,a3⟩
theorem Pm.done (pm : Pm A w wr x0 gT s P τ B (fun x => A.Mof x0 D x ∨ x ∈ A.kids y) (Kin A D y) v (S ++ A.kids y)) (ok : A.Ok) (pw : A.Pw x0 D (S ++ [y])) (hk : A.kids y ≠ []) : Pm A w wr x0 gT s P τ B (A.Mof x0 (y :: D)) (A.Kof (y :: D)) v (S ++ A.kids y) ∧ A.Pw x0 (y :: D) (S ++ A.kids y) := by
 refine ⟨⟨pm.cs.congr (fun x => Ar.Mof_cons A ok x0 y D x) (fun x => ?_),pm.pk,pm.pn,pm.rs,pm.rn⟩,pw.step ok⟩
 unfold Kin Ar.Kof
 by_cases e : x = y
 ·subst e; rw [if_pos rfl]; exact decide_eq_true ⟨by simp,hk⟩
 ·rw [if_neg e]
  refine decide_eq_decide.2 ⟨fun hh => ⟨?_,hh.2⟩,fun hh => ⟨List.mem_cons_of_mem _ hh.1,hh.2⟩⟩
  rcases List.mem_cons.1 hh.1 with h1 | h1
  ·exact absurd h1 e
  ·exact h1
theorem pm_start {W1 W2 : World} {pa : Option Addr × Nat × Nat} (hx0 : x0 < A.n) (k1 : Kp [] w W1) (A1 : At W1 w.heap.size #[.int .i64 0,.int .i64 0,.string ⟨#[]⟩,.slice none 0 0,.string ⟨#[]⟩,.slice none 0 0] 40) (k2 : Kp [] W1 W2) (r2 : Rk (fun z => W1.heap.size ≤ z) 2 W2 pa.1 pa.2.1 pa.2.2 (cs (A.lb x0).attrs)) :
  ∃ τ,Pm A w ((W2.alloc (.cells #[.int .i64 (A.lb x0).kind,.int .i64 (A.lb x0).ns,.string (A.lb x0).name,.slice pa.1 pa.2.1 pa.2.2,.string (A.lb x0).text,.slice none 0 0] 40)).alloc (.cells #[.slice none 0 0] 123)) x0 W2.heap.size w.heap.size (W2.heap.size + 1) τ (fun _ => 0) (A.Mof x0 []) (A.Kof []) (.slice none 0 0) [] := by
 obtain ⟨X,hX⟩ : ∃ X,X = W2.alloc (.cells #[.int .i64 (A.lb x0).kind,.int .i64 (A.lb x0).ns,.string (A.lb x0).name,.slice pa.1 pa.2.1 pa.2.2,.string (A.lb x0).text,.slice none 0 0] 40) := ⟨_,rfl⟩
 rw [← hX]
 have kX : Kp [] W2 X := by rw [hX]; exact (Kp.refl _ _).alloc _
 have kP : Kp [] X (X.alloc (.cells #[.slice none 0 0] 123)) := (Kp.refl _ _).alloc _
 have AT : At X W2.heap.size #[.int .i64 (A.lb x0).kind,.int .i64 (A.lb x0).ns,.string (A.lb x0).name,.slice pa.1 pa.2.1 pa.2.2,.string (A.lb x0).text,.slice none 0 0] 40 := by rw [hX]; exact At.new _ _ _
 have sX : X.heap.size = W2.heap.size + 1 := by rw [hX]; simp
 have hw1 : w.heap.size < W1.heap.size := A1.lt
 have hw2 := k2.size
 obtain ⟨T,hT⟩ : ∃ T : Nat → Nat,T = fun b => if b = W2.heap.size then 2 else if W1.heap.size ≤ b ∧ b < W2.heap.size then 1 else 0 := ⟨_,rfl⟩
 have hK : ∀ p,A.Kof [] p = false := fun p => by unfold Ar.Kof; exact decide_eq_false (fun hh => by cases hh.1)
 have ATP := AT.kept kP (by simp)
 refine ⟨T,⟨(k1.trans k2 (fun x hx => Or.inl hx)).trans (kX.trans kP (fun x hx => Or.inl hx)) (fun x hx => Or.inl hx),⟨_,ATP,by simp⟩,⟨by omega,by rw [hT]; simp⟩,fun p hp => ?_,fun p p' hp => ?_,fun x hx e => ?_,.inl rfl,fun x hx => ?_⟩,⟨?_,⟨rfl,Or.inl ⟨rfl,rfl⟩⟩,by simp [blk]⟩,fun z hz => ?_,((A1.kept k2 (by simp)).kept kX (by simp)).kept kP (by simp),Nat.le_refl _,?_⟩
 ·rw [hK p] at hp; cases hp
 ·rw [hK p] at hp; cases hp
 ·rcases hx with e2 | ⟨p,hp,_⟩
  ·exact absurd e2 e
  ·cases hp
 ·have e : x = x0 := by
   rcases hx with e2 | ⟨p,hp,_⟩
   ·exact e2
   ·cases hp
  subst e
  refine ⟨pa,?_,?_⟩
  ·unfold Ar.abk Ar.aof Ar.kdV
   rw [if_pos rfl,if_pos rfl,if_neg (by rw [hK]; simp)]
   exact ⟨_,_,ATP,fun i hi => by rw [Nat.zero_add]; simp [six]⟩
  ·refine ⟨r2.len,r2.cap,fun hn => ?_⟩
   obtain ⟨b,off,cur,t,hq,e1,e2,e3⟩ := r2.at' hn
   have hl := lt_of e2
   exact ⟨b,off,cur,t,⟨by omega,by rw [hT]; simp only [if_neg (show ¬ b = W2.heap.size by omega),if_pos (show W1.heap.size ≤ b ∧ b < W2.heap.size from ⟨hq,hl⟩)]⟩,e1,by rw [kP.block b (by omega) (by simp),kX.block b hl (by simp)]; exact e2,e3⟩
 ·rw [← sX]; exact heap_new X _
 ·rcases hz with rfl | hz
  ·exact ⟨by omega,by rw [hT]; simp only [if_neg (show ¬ W2.heap.size + 1 = W2.heap.size by omega),if_neg (show ¬ (W1.heap.size ≤ W2.heap.size + 1 ∧ W2.heap.size + 1 < W2.heap.size) by omega)],by omega⟩
  ·simp [blk] at hz
 ·rw [hT]; simp only [if_neg (show ¬ w.heap.size = W2.heap.size by omega),if_neg (show ¬ (W1.heap.size ≤ w.heap.size ∧ w.heap.size < W2.heap.size) by omega)]
theorem head_some {w2 : World} {n' : Nat} (pm : Pm A w wr x0 gT s P τ B (A.Mof x0 []) (A.Kof []) v [x0]) (hx0 : x0 < A.n) (t : Tk 2 wr w2 123 82 P v n' (px A x0 gT B [])) (hn : n' = 0) :
  RPure A w x0 gT s P (.pointer (some ⟨w2.heap.size,0,none⟩),.bool true,w2.alloc (.cells #[.int .i64 (x0 : Int),.pointer (some ⟨gT,0,none⟩)] 82)) A.n := by
 obtain ⟨v',τ',pm2,T2,k2,b2⟩ := pm.pile (S' := []) t hn
 have ka : Kp [] w2 (w2.alloc (.cells #[.int .i64 (x0 : Int),.pointer (some ⟨gT,0,none⟩)] 82)) := (Kp.refl _ _).alloc _
 obtain ⟨T,hT⟩ : ∃ T : Nat → Nat,T = fun b => if b < w2.heap.size then τ' b else 0 := ⟨_,rfl⟩
 have T0 : ∀ x,x < w2.heap.size → T x = τ' x := fun x hx => by rw [hT]; simp only [if_pos hx]
 have hpl := pm2.pk.lt
 have hsl := pm2.rs.lt
 have hkw := pm2.cs.kp.size
 exact ⟨w2.heap.size,[],[],[x0],T,B,v',_,_,rfl,rfl,rfl,pm2.keep ka (fun x hx => by simp at hx) T0,Ar.Pw.start hx0,by simp,⟨hkw,by simp,by rw [hT]; simp only [if_neg (Nat.lt_irrefl _)],fun e => by have := hpl P (.inl rfl); omega,fun hx => by have := hpl _ (.inr hx); omega,fun e => by omega⟩,At.new _ _ _,fun z hz => by rw [List.mem_singleton.1 hz]; unfold Ar.abk Ar.aof; rw [if_pos rfl,if_pos rfl]; exact ⟨rfl,rfl⟩,fun e => by cases e⟩
def Inn (A : Ar) (w wr : World) (x0 gT s P : Nat) (B : Nat → Nat) (D S : List Nat) (y jm jp gA ay oy : Nat) (kl : Value) : Prop :=
 ∃ (τ : Nat → Nat) (v : Value),Pm A w wr x0 gT s P τ B (fun x => A.Mof x0 D x ∨ x ∈ (A.kids y).take jm) (Kin A D y) v (S ++ (A.kids y).take jp) ∧ Ex w wr s P τ v gA ∧ At wr gA #[.int .i64 (y : Int),.pointer (some ⟨ay,oy,none⟩)] 82 ∧ (∀ kb,kb ∈ blk kl → Ex w wr s P τ v kb) ∧ Own wr 3 kl (iv (A.kids y)) ∧ A.abk x0 gT B y = ay ∧ A.aof x0 y = oy
theorem Ex.no2 {τ : Nat → Nat} {b z : Nat} (h : Ex w wr s P τ v b) (hz : τ z = 2) : b ≠ z := fun e => by
 have := h.2.2.1
 rw [e,hz] at this
 cases this
theorem Inn.kid {V : World} {pa : Option Addr × Nat × Nat} {j c gA ay oy : Nat} {kl : Value} (h : Inn A w wr x0 gT s P B D S y j j gA ay oy kl) (ok : A.Ok) (pw : A.Pw x0 D (S ++ [y])) (hj : j < (A.kids y).length) (hc : (A.kids y)[j] = c) (k : Kp [] wr V) (hat : Rk (fun b => wr.heap.size ≤ b) 2 V pa.1 pa.2.1 pa.2.2 (cs (A.lb c).attrs)) :
  Inn A w (put6 V (B y) (j * 6) (.int .i64 (A.lb c).kind) (.int .i64 (A.lb c).ns) (.string (A.lb c).name) (.slice pa.1 pa.2.1 pa.2.2) (.string (A.lb c).text) (.slice none 0 0)) x0 gT s P B D S y (j + 1) j gA ay oy kl := by
 obtain ⟨τ,v,pm,ex,ha,he,ho,e1,e2⟩ := h
 obtain ⟨τ',pm2,T0,k6,h2⟩ := pm_kid pm ok pw hj hc k hat
 have hs := Nat.le_trans k.size k6.size
 refine ⟨τ',v,pm2,ex.step hs T0 (fun k hk => .inl hk),(ha.kept k (by simp)).kept k6 (by simpa using ex.no2 h2),fun kb hk => (he kb hk).step hs T0 (fun k hk => .inl hk),(ho.keep k (fun _ _ => by simp)).keep k6 (fun x hx => by simpa using (he x hx).no2 h2),e1,e2⟩
theorem Inn.push {w2 : World} {j c gA ay oy : Nat} {kl : Value} (h : Inn A w wr x0 gT s P B D S y (j + 1) j gA ay oy kl) (ok : A.Ok) (pw : A.Pw x0 D (S ++ [y])) (hj : j < (A.kids y).length) (hc : (A.kids y)[j] = c) (hn : A.n < 40000) :
  Calls Tryz.prog 36 #[.pointer (some ⟨P,0,none⟩),.agg #[.int .i64 (c : Int),.pointer (some ⟨B y,j * 6,none⟩)]] wr fun e w' => e = .returned (.tuple #[]) ∧ Inn A w w' x0 gT s P B D S y (j + 1) (j + 1) gA ay oy kl := by
 obtain ⟨τ,v,pm,ex,ha,he,ho,e1,e2⟩ := h
 have hyL : y ∈ S ++ [y] := by simp
 have hcm : c ∈ A.kids y := by rw [← hc]; exact List.getElem_mem hj
 obtain ⟨m1,m2,m3⟩ := pw.kid_no ok hyL hcm
 have huc := (ok.link y c).1 hcm
 have eab : A.abk x0 gT B c = B y := by unfold Ar.abk; rw [if_neg m2,Ar.par_eq huc]
 have eof : A.aof x0 c = j * 6 := by unfold Ar.aof; rw [if_neg m2,Ar.par_eq huc,← hc,Ar.place_at ok hj]
 have hts : (A.kids y).take (j + 1) = (A.kids y).take j ++ [c] := by rw [List.take_succ_eq_append_getElem hj,hc]
 have hl1 := pw.lenL
 have hl2 : (A.kids y).length ≤ A.n := Ar.pig _ _ (ok.one y) (fun z hz => (ok.kid_lt hz).1)
 refine (cp_push wr P v _ _ ⟨B y,j * 6,none⟩ (c : Int) pm.pk (by simp at hl1 ⊢; omega)).mono ?_
 rintro e w3 ⟨rfl,t⟩
 have ep : px A x0 gT B (S ++ (A.kids y).take j) ++ pcc ⟨B y,j * 6,none⟩ (c : Int) = px A x0 gT B (S ++ (A.kids y).take (j + 1)) := by
  rw [hts,← List.append_assoc,px_app A x0 gT B (S ++ (A.kids y).take j) [c]]
  congr 1
  unfold px
  rw [List.flatMap_cons,List.flatMap_nil,eab,eof,List.append_nil]
 rw [ep] at t
 obtain ⟨v',τ',pm2,T0,k2,b2⟩ := pm.pile (S' := S ++ (A.kids y).take (j + 1)) t (by rw [hts]; simp; omega)
 have exn : ∀ z,Ex w wr s P τ v z → z ∉ P :: blk v := fun z hz hm => by
  rcases List.mem_cons.1 hm with e | hm
  ·exact hz.2.2.2.1 e
  ·exact hz.2.2.2.2.1 hm
 exact ⟨rfl,τ',v',pm2,ex.step k2.size T0 b2,ha.kept k2 (exn _ ex),fun kb hk => (he kb hk).step k2.size T0 b2,ho.keep k2 (fun x hx => exn x (he x hx)),e1,e2⟩
theorem Inn.cells {jm jp gA ay oy : Nat} {kl : Value} (h : Inn A w wr x0 gT s P B D S y jm jp gA ay oy kl) (ok : A.Ok) (pw : A.Pw x0 D (S ++ [y])) : wr.cell? ⟨gA,1,none⟩ = some (.pointer (some ⟨ay,oy,none⟩)) ∧ wr.cell? ⟨ay,oy + 5,none⟩ = some (.slice (some ⟨B y,0,none⟩) (A.kids y).length (A.kids y).length) ∧ Kp [] w wr ∧ ∃ cur,At wr (B y) cur 40 ∧ (A.kids y).length * 6 = cur.size := by
 obtain ⟨τ,v,pm,ex,ha,he,ho,rfl,rfl⟩ := h
 have hky : Kin A D y y = true := by unfold Kin; rw [if_pos rfl]
 have h1 := (pm.cs.kidCell (y := y) (.inl (pw.lw y (by simp)).1)).1
 rw [show A.kdV B (Kin A D y) y = (some ⟨B y,0,none⟩,(A.kids y).length,(A.kids y).length) by unfold Ar.kdV; rw [if_pos hky]] at h1
 exact ⟨ha.cell 1,h1,pm.cs.kp,(pm.cs.bks y hky).1⟩
end
end Go.Proofs.YtpkppobkagdhkaaGreat
