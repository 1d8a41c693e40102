/-
 PrF PrG.
-/
import Derived.Test.YtpkppobkagdhkaaGreatB16
set_option linter.unusedVariables false
set_option linter.unusedSimpArgs false
set_option maxRecDepth 100000
set_option maxHeartbeats 1000000
namespace Go.Proofs.YtpkppobkagdhkaaGreat
open Go.RowKit Go.Maps Utf
structure Mv (tag : Nat → Nat) (w : World) (tag' : Nat → Nat) (w' : World) : Prop where
 os : w'.os = w.os
 tape : w'.tape = w.tape
 output : w'.output = w.output
 size : w.heap.size ≤ w'.heap.size
 block : ∀ k,k < w.heap.size → ¬ isP (tag k) → w'.heap[k]? = w.heap[k]?
 tg : ∀ k,k < w.heap.size → tag' k = tag k
theorem Mv.of_kp {S : List Nat} {w w' : World} {tag tag' : Nat → Nat} (k : Kp S w w') (hS : ∀ x,x ∈ S → x < w.heap.size → isP (tag x)) (ht : ∀ x,x < w.heap.size → tag' x = tag x) : Mv tag w tag' w' :=
 ⟨k.os,k.tape,k.output,k.size,fun x hx hn => k.block x hx (fun hs => hn (hS x hs hx)),ht⟩
theorem Mv.refl (tag : Nat → Nat) (w : World) : Mv tag w tag w := Mv.of_kp (Kp.refl [] w) (fun x hx => by simp at hx) (fun _ _ => rfl)
theorem Mv.trans {w w1 w2 : World} {tag tag1 tag2 : Nat → Nat} (h : Mv tag w tag1 w1) (k : Mv tag1 w1 tag2 w2) : Mv tag w tag2 w2 :=
 ⟨k.os.trans h.os,k.tape.trans h.tape,k.output.trans h.output,Nat.le_trans h.size k.size,fun x hx hn => (k.block x (Nat.lt_of_lt_of_le hx h.size) (by rw [h.tg x hx]; exact hn)).trans (h.block x hx hn),fun x hx => (k.tg x (Nat.lt_of_lt_of_le hx h.size)).trans (h.tg x hx)⟩
theorem Rz.mv {w0 w : World} {tag : Nat → Nat} {b g o c : Nat} {q : Bool} {n : Nat} {N : Nat → Pn} {pl : Nat → Np} (h : Rz w0 tag w b g o c q n N pl) : Mv tag w0 tag w :=
 Mv.of_kp h.2 (fun x hx _ => by rw [List.mem_singleton.1 hx]; exact .inr (.inl h.1.tg)) (fun _ _ => rfl)
def Pa (tag : Nat → Nat) (w : World) (b : Nat) (q : Bool) (n : Nat) (N : Nat → Pn) : Prop := ∃ g o c pl,Rw tag w b g o c q n N pl
theorem Pa.mv {tag tag' : Nat → Nat} {w w' : World} {b : Nat} {q : Bool} {n : Nat} {N : Nat → Pn} (h : Pa tag w b q n N) (k : Kp [] w w') (ht : ∀ x,x < w.heap.size → tag' x = tag x) : Pa tag' w' b q n N := by
 obtain ⟨g,o,c,pl,h⟩ := h
 exact ⟨g,o,c,pl,h.keep k (fun x hx => by simp at hx) ht⟩
theorem infoN : (Tryz.prog.info? 109).map (fun i => (i.zero,i.size,i.bytes)) = some (some (.agg Z11),11,128) := by kernel_rfl
def addN (N : Nat → Pn) (n : Nat) (l : Lb) : Nat → Pn := fun i => if i = n then ⟨l,-1,-1,-1,-1,-1⟩ else N i
def addP (pl : Nat → Np) (n : Nat) (p : Np) : Nat → Np := fun i => if i = n then p else pl i
def ten (l : Lb) (p : Np) : Array Value := #[.int .i64 l.kind,.int .i64 l.ns,.string l.name,.slice p.ao p.an p.ac,.map p.nm,.slice p.to p.tn p.tc,.int .i64 (-1),.int .i64 (-1),.int .i64 (-1),.int .i64 (-1),.int .i64 (-1)]
theorem el_one (x : Pn) (p : Np) : ∀ u,u ∈ el x p → u.oneCell' = true := fun u hu => by
 simp [el] at hu
 rcases hu with rfl | rfl | rfl | rfl | rfl | rfl | rfl | rfl | rfl | rfl | rfl <;> rfl
section
variable {tag : Nat → Nat} {w w0 : World} {b g o c : Nat} {q : Bool} {n : Nat} {N : Nat → Pn} {pl : Nat → Np}
theorem Rw.own (h : Rw tag w b g o c q n N pl) : ∃ xs,OwnK 11 w 109 (.slice (some ⟨g,o,none⟩) n c) n xs ∧ ∀ i,i < n → ∀ k,k < 11 → xs[i * 11 + k]? = (el (N i) (pl i))[k]? := by
 obtain ⟨cur,h1,h2,h3⟩ := h.body
 have hcap := h.cap
 refine ⟨(cur.toList.drop o).take (n * 11),⟨by rw [List.length_take,List.length_drop]; simp; omega,Or.inr ⟨g,o,c,cur,rfl,h1,h.cap,h.max,h2,fun j hj => ?_⟩⟩,fun i hi k hk => ?_⟩
 ·rw [List.getElem?_take_of_lt hj,List.getElem?_drop]; simp
 ·rw [List.getElem?_take_of_lt (by omega),List.getElem?_drop,← h3 i hi k hk]
  simp [Nat.add_assoc]
theorem Rw.grown {tag' : Nat → Nat} {w2 : World} {xs : List Value} {l : Lb} {p : Np} {v' : Value} (h : Rw tag w0 b g o c q n N pl) (hx : xs.length = n * 11) (hxs : ∀ i,i < n → ∀ k,k < 11 → xs[i * 11 + k]? = (el (N i) (pl i))[k]?) (fr : Fr w0 w l p)
  (k : Kp [b,g] w0 w2) (kw : ∀ x,x < w.heap.size → x ≠ b → x ≠ g → w2.heap[x]? = w.heap[x]?) (hb : At w2 b #[v',.bool q] 88) (ho : OwnK 11 w2 109 v' (n + 1) (xs ++ el ⟨l,-1,-1,-1,-1,-1⟩ p)) (hv : ∀ x,x ∈ blk v' → x = g ∨ w.heap.size ≤ x) :
  ∃ tag' g' o' c',Rw tag' w2 b g' o' c' q (n + 1) (addN N n l) (addP pl n p) ∧ Mv tag w0 tag' w2 ∧ ∃ a c,v' = .slice (some a) (n + 1) c := by
 obtain ⟨hol,ho⟩ := ho
 rcases ho with ⟨_,h0⟩ | ⟨g2,o2,c2,cur2,hv2,hg2,hc1,hc2,hc3,hc4⟩
 ·omega
 have hgm : g2 = g ∨ w.heap.size ≤ g2 := hv g2 (by rw [hv2]; simp [blk])
 have hlt := h.lt
 have hk0 := fr.kp.size
 have hne := h.ne
 have atlt := fr.at'.lt
 have txlt := fr.tx.lt
 obtain ⟨T,hT⟩ : ∃ T : Nat → Nat,T = fun x => if x < w0.heap.size then tag x else if x ∈ blk (.slice p.ao p.an p.ac) then 8 + 3 * n else if x ∈ blk (.slice p.to p.tn p.tc) then 10 + 3 * n else 2 := ⟨_,rfl⟩
 have T0 : ∀ x,x < w0.heap.size → T x = tag x := fun x hx => by rw [hT]; simp only [if_pos hx]
 have keepw : ∀ x,x < w.heap.size → w0.heap.size ≤ x → w2.heap[x]? = w.heap[x]? := fun x h1 h2 => kw x h1 (by omega) (by omega)
 refine ⟨T,g2,o2,c2,⟨by rw [← hv2]; exact hb,by rw [T0 b hlt.1]; exact h.tb,hc1,hc2,⟨cur2,hg2,hc3,fun i hi k hk => ?_⟩,?_,fun i hi => ?_⟩,?_,⟨_,_,hv2⟩⟩
 ·rw [Nat.add_assoc,hc4 _ (by omega)]
  unfold addN addP
  by_cases hin : i = n
  ·subst hin
   rw [if_pos rfl,if_pos rfl,List.getElem?_append_right (by omega),hx,show i * 11 + k - i * 11 = k by omega]
  ·rw [if_neg hin,if_neg hin,List.getElem?_append_left (by omega),hxs i (by omega) k hk]
 ·rcases hgm with e | e
  ·rw [e,T0 g hlt.2]; exact h.tg
  ·have n1 : g2 ∉ blk (.slice p.ao p.an p.ac) := fun hm => by have := atlt _ hm; omega
   have n2 : g2 ∉ blk (.slice p.to p.tn p.tc) := fun hm => by have := txlt _ hm; omega
   rw [hT]
   simp only [if_neg (show ¬ g2 < w0.heap.size by omega),if_neg n1,if_neg n2]
 ·unfold addN addP
  by_cases hin : i = n
  ·subst hin
   rw [if_pos rfl,if_pos rfl]
   have kk : ∀ x,x ∈ blk (.slice p.ao p.an p.ac) ∨ x ∈ blk (.slice p.to p.tn p.tc) → w2.heap[x]? = w.heap[x]? := fun x hx => by
    rcases hx with hx | hx
    ·exact keepw x (atlt x hx) (fr.atN x hx)
    ·exact keepw x (txlt x hx) (fr.txN x hx)
   refine ⟨?_,fun x hx => ?_,?_,fun x hx => ?_,fun y hy => ?_⟩
   ·obtain ⟨a1,a2⟩ := fr.at'
    refine ⟨a1,?_⟩
    rcases a2 with a2 | ⟨g3,o3,c3,cur3,e3,hg3,r3⟩
    ·exact Or.inl a2
    ·exact Or.inr ⟨g3,o3,c3,cur3,e3,by rw [kk g3 (.inl (by rw [e3]; simp [blk]))]; exact hg3,r3⟩
   ·rw [hT]
    simp only [if_neg (show ¬ x < w0.heap.size by have := fr.atN x hx; omega),if_pos hx]
   ·rcases fr.tx with a2 | ⟨g3,c3,cur3,lo,hi,e3,hg3,r3⟩
    ·exact Or.inl a2
    ·exact Or.inr ⟨g3,c3,cur3,lo,hi,e3,by rw [kk g3 (.inr (by rw [e3]; simp [blk]))]; exact hg3,r3⟩
   ·rw [hT]
    simp only [if_neg (show ¬ x < w0.heap.size by have := fr.txN x hx; omega),if_neg (fun hm => fr.ap x hm hx),if_pos hx]
   ·rw [fr.nm] at hy; cases hy
  ·rw [if_neg hin,if_neg hin]
   refine (h.side i (by omega)).keep k (fun x hx _ => ?_) T0
   rcases List.mem_cons.1 hx with rfl | hx
   ·rw [h.tb]; omega
   ·rw [List.mem_singleton.1 hx,h.tg]; omega
 ·refine Mv.of_kp k (fun x hx _ => ?_) T0
  rcases List.mem_cons.1 hx with rfl | hx
  ·exact .inl h.tb
  ·rw [List.mem_singleton.1 hx]; exact .inr (.inl h.tg)
theorem add_any (h : Rw tag w0 b g o c q n N pl) (hn : n < 50000) (l : Lb) (p : Np) (fr : Fr w0 w l p) :
  Calls Tryz.prog 60 #[.pointer (some ⟨b,0,none⟩),nv l p] w fun e w' => e = .returned (.int .i64 (n : Int)) ∧ ∃ tag',Pa tag' w' b q (n + 1) (addN N n l) ∧ Mv tag w0 tag' w' := by
 have hw := h.kept fr.kp
 obtain ⟨xs,ox,hxs⟩ := hw.own
 obtain ⟨hb0,hb1⟩ := hw.head
 have hlt := hw.lt
 have hne := h.ne
 obtain ⟨w1,hw1⟩ : ∃ w1,w1 = ((w.alloc (.cells (ten l p) 109)).alloc (.cells (ten l p) 109)).drew := ⟨_,rfl⟩
 have hk1 : Kp [] w w1 := by rw [hw1]; exact (((Kp.refl _ _).alloc _).alloc _).drew
 have hown1 : OwnK 11 w1 109 (.slice (some ⟨g,o,none⟩) n c) n xs := ox.keep hk1 (fun _ _ => by simp)
 have hq : w1.heap[w.heap.size + 1]? = some (.cells (ten l p) 109 (0,0)) := by rw [hw1]; exact heap_new' _ _ _ (by simp)
 obtain ⟨v',w2,hrun,hown2,hk2,hb2,a2,c2,hv2⟩ := appK Tryz.underlying86 infoN rfl (by decide) w1 _ n xs hown1 _ 1 _ (src_new Tryz.underlying86 hq (el ⟨l,-1,-1,-1,-1,-1⟩ p) rfl (el_one _ _)) (fun _ => by omega) (by omega)
 have hsz : w1.heap.size = w.heap.size + 2 := by rw [hw1]; simp
 have hk2' : Kp [g] w1 w2 := hk2
 have hp1 : At w1 b #[.slice (some ⟨g,o,none⟩) n c,.bool q] 88 := hw.hd.kept hk1 (by simp)
 have hp2 : At w2 b #[.slice (some ⟨g,o,none⟩) n c,.bool q] 88 := hp1.kept hk2' (by simpa using hne)
 have hc2 : w2.cell? ⟨b,0,none⟩ = some (.slice (some ⟨g,o,none⟩) n c) := hp2.cell 0
 have hf2 : w2.frozen? ⟨b,0,none⟩ = false := hp2.free 0
 have k3 : Kp [b] w2 (w2.setCell ⟨b,0,none⟩ v') := (Kp.refl _ _).setCell (Or.inl (by simp)) _
 have hbl : ∀ x,x ∈ blk v' → x = g ∨ w.heap.size ≤ x := fun x hx => by
  rcases hb2 x hx with h1 | h1
  ·exact .inl (by simpa [blk] using h1)
  ·exact .inr (by omega)
 have hfin : Hid (∃ tag' g' o' c',Rw tag' (w2.setCell ⟨b,0,none⟩ v') b g' o' c' q (n + 1) (addN N n l) (addP pl n p) ∧ Mv tag w0 tag' (w2.setCell ⟨b,0,none⟩ v') ∧ ∃ a c,v' = .slice (some a) (n + 1) c) := by
  refine h.grown (w := w) (tag' := tag) ox.1 hxs fr ?_ (fun x hx h1 h2 => ?_) (hp2.set 0 v') ?_ hbl
  ·exact ((fr.kp.mono (T := [b,g]) (fun x hx => by simp at hx)).trans (hk1.trans (S := []) (T := []) (Kp.refl [] w1) (fun x hx => Or.inl hx)) (fun x hx => by simp at hx)).trans ((hk2'.mono (T := [b,g]) (fun x hx => Or.inl (by simp at hx; simp [hx]))).trans k3 (fun x hx => Or.inl (by simp at hx; simp [hx]))) (fun x hx => Or.inl hx)
  ·rw [k3.block x (by have := hk2.size; omega) (by simpa using h1),hk2'.block x (by omega) (by simpa using h2),hk1.block x hx (by simp)]
  ·exact hown2.keep k3 (fun x hx hs => by
    rw [List.mem_singleton.1 hs] at hx
    rcases hbl b hx with h1 | h1
    ·exact hne h1
    ·omega)
 have hn2 : Hid (∃ ao c,v' = .slice ao (n + 1) c) := by
  obtain ⟨_,_,_,_,_,_,a,c,e⟩ := hfin
  exact ⟨some a,c,e⟩
 have c3 : Hid ((w2.setCell ⟨b,0,none⟩ v').cell? ⟨b,0,none⟩ = some v') := (hp2.set 0 v').cell 0
 rw [hw1] at hrun
 subst hv2
 have hbs := hlt.1
 unfold ten at hrun
 unfold nv
 have c3' := c3.out
 clear hk1 hown1 hown2 hk2 hb2 hp2 hq hsz hw1 hp1 h hw ox hxs hbl k3 hk2' hn2 c3
 go_enter Tryz.func60,Tryz.ntmps60
 go_wp2_with fail
 refine wp_region_any (by kernel_rfl) ?_
 change wpAny _ _ _ _ _ _ _ (World.drew _)
 refine wpAny_take (i := 0) (v := ?_) rfl (by kernel_rfl) (by kernel_rfl) (by kernel_rfl) (fun _ _ _ h => h) (Or.inl ⟨by rfl,?_⟩) ?_
 rotate_left
 ·intro w; go_simp <;> with_reducible rfl
 refine wpAny_take (i := 1) (v := ?_) rfl (by kernel_rfl) (by kernel_rfl) (by kernel_rfl) (fun _ _ _ h => h) (Or.inl ⟨by rfl,?_⟩) ?_
 rotate_left
 ·intro w; go_simp <;> with_reducible rfl
 refine wpAny_take (i := 2) (v := ?_) rfl (by kernel_rfl) (by kernel_rfl) (by kernel_rfl) (fun _ _ _ h => h) (Or.inl ⟨by rfl,?_⟩) ?_
 rotate_left
 ·intro w; go_simp <;> with_reducible rfl
 refine wpAny_take (i := 3) (v := ?_) rfl (by kernel_rfl) (by kernel_rfl) (by kernel_rfl) (fun _ _ _ h => h) (Or.inl ⟨by rfl,?_⟩) ?_
 rotate_left
 ·intro w; go_simp <;> with_reducible rfl
 refine wpAny_ready (rs := [4,5]) (by kernel_rfl) (by simp) (AllReady.cons rfl (fun K hK => ?_) (AllReady.cons rfl (fun K hK => ?_) AllReady.nil))
 ·go_simp; refine hK _ _ ?_; clear hK K
  refine wpAny_ready (rs := [5]) (by kernel_rfl) (by simp) (AllReady.cons rfl (fun K hK => ?_) AllReady.nil)
  go_simp; refine hK _ _ ?_; clear hK K
  refine wpAny_ready (rs := [6]) (by kernel_rfl) (by simp) (AllReady.cons rfl (fun K hK => ?_) AllReady.nil)
  go_simp; refine hK _ _ ?_; clear hK K
  refine wpAny_ready (rs := [7]) (by kernel_rfl) (by simp) (AllReady.cons rfl (fun K hK => ?_) AllReady.nil)
  refine step_appR (by rfl) _ _ 86 (by rfl) _ _ (by rfl) (by rfl) hrun ?_; refine hK _ _ ?_; clear hK K
  refine wpAny_take (i := 8) (v := ?_) rfl (by kernel_rfl) (by kernel_rfl) (by kernel_rfl) (fun _ _ _ h => h) (Or.inl ⟨by rfl,?_⟩) ?_
  rotate_left
  ·intro w; go_simp <;> with_reducible rfl
  refine wpAny_take (i := 9) (v := ?_) rfl (by kernel_rfl) (by kernel_rfl) (by kernel_rfl) (fun _ _ _ h => h) (Or.inl ⟨by rfl,?_⟩) ?_
  rotate_left
  ·intro w; go_simp <;> with_reducible rfl
  refine wpAny_ready (rs := [10]) (by kernel_rfl) (by simp) (AllReady.cons rfl (fun K hK => ?_) AllReady.nil)
  go_simp; refine hK _ _ ?_; clear hK K
  refine wpAny_done (by kernel_rfl) ?_ _
  go_wp2
  go_ret
  obtain ⟨t1,g1,o1,d1,r1,m1,_⟩ := hfin.out
  exact ⟨rfl,t1,⟨_,_,_,_,r1⟩,m1⟩
 ·go_simp; refine hK _ _ ?_; clear hK K
  refine wpAny_ready (rs := [4,6]) (by kernel_rfl) (by simp) (AllReady.cons rfl (fun K hK => ?_) (AllReady.cons rfl (fun K hK => ?_) AllReady.nil))
  ·go_simp; refine hK _ _ ?_; clear hK K
   refine wpAny_ready (rs := [6]) (by kernel_rfl) (by simp) (AllReady.cons rfl (fun K hK => ?_) AllReady.nil)
   go_simp; refine hK _ _ ?_; clear hK K
   refine wpAny_ready (rs := [7]) (by kernel_rfl) (by simp) (AllReady.cons rfl (fun K hK => ?_) AllReady.nil)
   refine step_appR (by rfl) _ _ 86 (by rfl) _ _ (by rfl) (by rfl) hrun ?_; refine hK _ _ ?_; clear hK K
   refine wpAny_take (i := 8) (v := ?_) rfl (by kernel_rfl) (by kernel_rfl) (by kernel_rfl) (fun _ _ _ h => h) (Or.inl ⟨by rfl,?_⟩) ?_
   rotate_left
   ·intro w; go_simp <;> with_reducible rfl
   refine wpAny_take (i := 9) (v := ?_) rfl (by kernel_rfl) (by kernel_rfl) (by kernel_rfl) (fun _ _ _ h => h) (Or.inl ⟨by rfl,?_⟩) ?_
   rotate_left
   ·intro w; go_simp <;> with_reducible rfl
   refine wpAny_ready (rs := [10]) (by kernel_rfl) (by simp) (AllReady.cons rfl (fun K hK => ?_) AllReady.nil)
   go_simp; refine hK _ _ ?_; clear hK K
   refine wpAny_done (by kernel_rfl) ?_ _
   go_wp2
   go_ret
   obtain ⟨t1,g1,o1,d1,r1,m1,_⟩ := hfin.out
   exact ⟨rfl,t1,⟨_,_,_,_,r1⟩,m1⟩
  ·go_simp; refine hK _ _ ?_; clear hK K
   refine wpAny_ready (rs := [4]) (by kernel_rfl) (by simp) (AllReady.cons rfl (fun K hK => ?_) AllReady.nil)
   go_simp; refine hK _ _ ?_; clear hK K
   refine wpAny_ready (rs := [7]) (by kernel_rfl) (by simp) (AllReady.cons rfl (fun K hK => ?_) AllReady.nil)
   refine step_appR (by rfl) _ _ 86 (by rfl) _ _ (by rfl) (by rfl) hrun ?_; refine hK _ _ ?_; clear hK K
   refine wpAny_take (i := 8) (v := ?_) rfl (by kernel_rfl) (by kernel_rfl) (by kernel_rfl) (fun _ _ _ h => h) (Or.inl ⟨by rfl,?_⟩) ?_
   rotate_left
   ·intro w; go_simp <;> with_reducible rfl
   refine wpAny_take (i := 9) (v := ?_) rfl (by kernel_rfl) (by kernel_rfl) (by kernel_rfl) (fun _ _ _ h => h) (Or.inl ⟨by rfl,?_⟩) ?_
   rotate_left
   ·intro w; go_simp <;> with_reducible rfl
   refine wpAny_ready (rs := [10]) (by kernel_rfl) (by simp) (AllReady.cons rfl (fun K hK => ?_) AllReady.nil)
   go_simp; refine hK _ _ ?_; clear hK K
   refine wpAny_done (by kernel_rfl) ?_ _
   go_wp2
   go_ret
   obtain ⟨t1,g1,o1,d1,r1,m1,_⟩ := hfin.out
   exact ⟨rfl,t1,⟨_,_,_,_,r1⟩,m1⟩
end
theorem add_first (w : World) (b : Nat) (hb : At w b #[.slice none 0 0,.bool false] 88) (l : Lb) :
  Calls Tryz.prog 60 #[.pointer (some ⟨b,0,none⟩),nv l np0] w fun e w' => e = .returned (.int .i64 0) ∧ Kp [b] w w' ∧ ∃ g o c,At w' b #[.slice (some ⟨g,o,none⟩) 1 c,.bool false] 88 ∧ w.heap.size ≤ g ∧ 1 ≤ c ∧ c ≤ maxLen ∧ ∃ cur,At w' g cur 109 ∧ o + c * 11 ≤ cur.size ∧ ∀ k,k < 11 → cur[o + k]? = (el ⟨l,-1,-1,-1,-1,-1⟩ np0)[k]? := by
 have hb0 : w.cell? ⟨b,0,none⟩ = some (.slice none 0 0) := hb.cell 0
 have hlt := hb.lt
 obtain ⟨w1,hw1⟩ : ∃ w1,w1 = ((w.alloc (.cells (ten l np0) 109)).alloc (.cells (ten l np0) 109)).drew := ⟨_,rfl⟩
 have hk1 : Kp [] w w1 := by rw [hw1]; exact (((Kp.refl _ _).alloc _).alloc _).drew
 have hown1 : OwnK 11 w1 109 (.slice none 0 0) 0 [] := ⟨rfl,Or.inl ⟨rfl,rfl⟩⟩
 have hq : w1.heap[w.heap.size + 1]? = some (.cells (ten l np0) 109 (0,0)) := by rw [hw1]; exact heap_new' _ _ _ (by simp)
 obtain ⟨v',w2,hrun,hown2,hk2,hb2,a2,c2,hv2⟩ := appK Tryz.underlying86 infoN rfl (by decide) w1 _ 0 [] hown1 _ 1 _ (src_new Tryz.underlying86 hq (el ⟨l,-1,-1,-1,-1,-1⟩ np0) rfl (el_one _ _)) (fun _ => by omega) (by omega)
 have hsz : w1.heap.size = w.heap.size + 2 := by rw [hw1]; simp
 have hk2' : Kp [] w1 w2 := hk2
 have hp2 : At w2 b #[.slice none 0 0,.bool false] 88 := (hb.kept hk1 (by simp)).kept hk2' (by simp)
 have hc2 : w2.cell? ⟨b,0,none⟩ = some (.slice none 0 0) := hp2.cell 0
 have hf2 : w2.frozen? ⟨b,0,none⟩ = false := hp2.free 0
 have k3 : Kp [b] w2 (w2.setCell ⟨b,0,none⟩ v') := (Kp.refl _ _).setCell (Or.inl (by simp)) _
 have hbl : ∀ x,x ∈ blk v' → w.heap.size ≤ x := fun x hx => by
  rcases hb2 x hx with h1 | h1
  ·simp [blk] at h1
  ·omega
 have hfin : Hid (Kp [b] w (w2.setCell ⟨b,0,none⟩ v') ∧ ∃ g o c,At (w2.setCell ⟨b,0,none⟩ v') b #[.slice (some ⟨g,o,none⟩) 1 c,.bool false] 88 ∧ w.heap.size ≤ g ∧ 1 ≤ c ∧ c ≤ maxLen ∧ ∃ cur,At (w2.setCell ⟨b,0,none⟩ v') g cur 109 ∧ o + c * 11 ≤ cur.size ∧ ∀ k,k < 11 → cur[o + k]? = (el ⟨l,-1,-1,-1,-1,-1⟩ np0)[k]?) := by
  refine ⟨((hk1.trans hk2' (fun x hx => Or.inl hx)).mono (T := [b]) (fun x hx => by simp at hx)).trans k3 (fun x hx => Or.inl hx),?_⟩
  obtain ⟨hol,ho⟩ := hown2
  rcases ho with ⟨_,h0⟩ | ⟨g2,o2,c3,cur2,e2,hg2,hc1,hc2,hc3,hc4⟩
  ·omega
  have hg : w.heap.size ≤ g2 := hbl g2 (by rw [e2]; simp [blk])
  refine ⟨g2,o2,c3,?_,hg,hc1,hc2,cur2,?_,hc3,fun k hk => ?_⟩
  ·have := hp2.set 0 v'
   rw [e2] at this ⊢
   exact this
  ·exact At.kept (w := w2) hg2 k3 (by simp; omega)
  ·exact hc4 k (by omega)
 have c3' : (w2.setCell ⟨b,0,none⟩ v').cell? ⟨b,0,none⟩ = some v' := (hp2.set 0 v').cell 0
 rw [hw1] at hrun
 subst hv2
 unfold ten np0 at hrun
 unfold nv np0
 unfold np0 at hfin
 clear hk1 hown1 hown2 hk2 hb2 hp2 hq hsz hw1 hbl k3 hk2' hb
 simp only at hrun hfin ⊢
 go_enter Tryz.func60,Tryz.ntmps60
 go_wp2_with fail
 refine wp_region_any (by kernel_rfl) ?_
 change wpAny _ _ _ _ _ _ _ (World.drew _)
 refine wpAny_take (i := 0) (v := ?_) rfl (by kernel_rfl) (by kernel_rfl) (by kernel_rfl) (fun _ _ _ h => h) (Or.inl ⟨by rfl,?_⟩) ?_
 rotate_left
 ·intro w; go_simp <;> with_reducible rfl
 refine wpAny_take (i := 1) (v := ?_) rfl (by kernel_rfl) (by kernel_rfl) (by kernel_rfl) (fun _ _ _ h => h) (Or.inl ⟨by rfl,?_⟩) ?_
 rotate_left
 ·intro w; go_simp <;> with_reducible rfl
 refine wpAny_take (i := 2) (v := ?_) rfl (by kernel_rfl) (by kernel_rfl) (by kernel_rfl) (fun _ _ _ h => h) (Or.inl ⟨by rfl,?_⟩) ?_
 rotate_left
 ·intro w; go_simp <;> with_reducible rfl
 refine wpAny_take (i := 3) (v := ?_) rfl (by kernel_rfl) (by kernel_rfl) (by kernel_rfl) (fun _ _ _ h => h) (Or.inl ⟨by rfl,?_⟩) ?_
 rotate_left
 ·intro w; go_simp <;> with_reducible rfl
 refine wpAny_ready (rs := [4,5]) (by kernel_rfl) (by simp) (AllReady.cons rfl (fun K hK => ?_) (AllReady.cons rfl (fun K hK => ?_) AllReady.nil))
 ·go_simp; refine hK _ _ ?_; clear hK K
  refine wpAny_ready (rs := [5]) (by kernel_rfl) (by simp) (AllReady.cons rfl (fun K hK => ?_) AllReady.nil)
  go_simp; refine hK _ _ ?_; clear hK K
  refine wpAny_ready (rs := [6]) (by kernel_rfl) (by simp) (AllReady.cons rfl (fun K hK => ?_) AllReady.nil)
  go_simp; refine hK _ _ ?_; clear hK K
  refine wpAny_ready (rs := [7]) (by kernel_rfl) (by simp) (AllReady.cons rfl (fun K hK => ?_) AllReady.nil)
  refine step_appR (by rfl) _ _ 86 (by rfl) _ _ (by rfl) (by rfl) hrun ?_; refine hK _ _ ?_; clear hK K
  refine wpAny_take (i := 8) (v := ?_) rfl (by kernel_rfl) (by kernel_rfl) (by kernel_rfl) (fun _ _ _ h => h) (Or.inl ⟨by rfl,?_⟩) ?_
  rotate_left
  ·intro w; go_simp <;> with_reducible rfl
  refine wpAny_take (i := 9) (v := ?_) rfl (by kernel_rfl) (by kernel_rfl) (by kernel_rfl) (fun _ _ _ h => h) (Or.inl ⟨by rfl,?_⟩) ?_
  rotate_left
  ·intro w; go_simp <;> with_reducible rfl
  refine wpAny_ready (rs := [10]) (by kernel_rfl) (by simp) (AllReady.cons rfl (fun K hK => ?_) AllReady.nil)
  go_simp; refine hK _ _ ?_; clear hK K
  refine wpAny_done (by kernel_rfl) ?_ _
  go_wp2
  go_ret
  exact ⟨rfl,hfin.out⟩
 ·go_simp; refine hK _ _ ?_; clear hK K
  refine wpAny_ready (rs := [4,6]) (by kernel_rfl) (by simp) (AllReady.cons rfl (fun K hK => ?_) (AllReady.cons rfl (fun K hK => ?_) AllReady.nil))
  ·go_simp; refine hK _ _ ?_; clear hK K
   refine wpAny_ready (rs := [6]) (by kernel_rfl) (by simp) (AllReady.cons rfl (fun K hK => ?_) AllReady.nil)
   go_simp; refine hK _ _ ?_; clear hK K
   refine wpAny_ready (rs := [7]) (by kernel_rfl) (by simp) (AllReady.cons rfl (fun K hK => ?_) AllReady.nil)
   refine step_appR (by rfl) _ _ 86 (by rfl) _ _ (by rfl) (by rfl) hrun ?_; refine hK _ _ ?_; clear hK K
   refine wpAny_take (i := 8) (v := ?_) rfl (by kernel_rfl) (by kernel_rfl) (by kernel_rfl) (fun _ _ _ h => h) (Or.inl ⟨by rfl,?_⟩) ?_
   rotate_left
   ·intro w; go_simp <;> with_reducible rfl
   refine wpAny_take (i := 9) (v := ?_) rfl (by kernel_rfl) (by kernel_rfl) (by kernel_rfl) (fun _ _ _ h => h) (Or.inl ⟨by rfl,?_⟩) ?_
   rotate_left
   ·intro w; go_simp <;> with_reducible rfl
   refine wpAny_ready (rs := [10]) (by kernel_rfl) (by simp) (AllReady.cons rfl (fun K hK => ?_) AllReady.nil)
   go_simp; refine hK _ _ ?_; clear hK K
   refine wpAny_done (by kernel_rfl) ?_ _
   go_wp2
   go_ret
   exact ⟨rfl,hfin.out⟩
  ·go_simp; refine hK _ _ ?_; clear hK K
   refine wpAny_ready (rs := [4]) (by kernel_rfl) (by simp) (AllReady.cons rfl (fun K hK => ?_) AllReady.nil)
   go_simp; refine hK _ _ ?_; clear hK K
   refine wpAny_ready (rs := [7]) (by kernel_rfl) (by simp) (AllReady.cons rfl (fun K hK => ?_) AllReady.nil)
   refine step_appR (by rfl) _ _ 86 (by rfl) _ _ (by rfl) (by rfl) hrun ?_; refine hK _ _ ?_; clear hK K
   refine wpAny_take (i := 8) (v := ?_) rfl (by kernel_rfl) (by kernel_rfl) (by kernel_rfl) (fun _ _ _ h => h) (Or.inl ⟨by rfl,?_⟩) ?_
   rotate_left
   ·intro w; go_simp <;> with_reducible rfl
   refine wpAny_take (i := 9) (v := ?_) rfl (by kernel_rfl) (by kernel_rfl) (by kernel_rfl) (fun _ _ _ h => h) (Or.inl ⟨by rfl,?_⟩) ?_
   rotate_left
   ·intro w; go_simp <;> with_reducible rfl
   refine wpAny_ready (rs := [10]) (by kernel_rfl) (by simp) (AllReady.cons rfl (fun K hK => ?_) AllReady.nil)
   go_simp; refine hK _ _ ?_; clear hK K
   refine wpAny_done (by kernel_rfl) ?_ _
   go_wp2
   go_ret
   exact ⟨rfl,hfin.out⟩
theorem new_any (w : World) (tag : Nat → Nat) :
  Calls Tryz.prog 32 #[] w fun e w' => ∃ b tag',e = .returned (.pointer (some ⟨b,0,none⟩)) ∧ Pa tag' w' b false 1 Ar.first.raw ∧ Kp [] w w' ∧ w.heap.size ≤ b ∧ ∀ x,x < w.heap.size → tag' x = tag x := by
 have HA := add_first (w.alloc (.cells #[.slice none 0 0,.bool false] 88)) w.heap.size (At.new w _ _) (1,0,⟨#[]⟩,[],⟨#[]⟩)
 unfold nv np0 at HA
 simp only at HA
 go_enter Tryz.func32,Tryz.ntmps32
 go_wp2_with fail
 refine HA.mono ?_
 rintro e w2 ⟨rfl,k2,g,o,c,hb,hg,hc,hm,cur,hcur,hsz,hcs⟩
 clear HA
 have hfin : Hid (∃ b tag',Value.pointer (some ⟨w.heap.size,0,none⟩) = Value.pointer (some ⟨b,0,none⟩) ∧ Pa tag' w2 b false 1 Ar.first.raw ∧ Kp [] w w2 ∧ w.heap.size ≤ b ∧ ∀ x,x < w.heap.size → tag' x = tag x) := by
  have hg' : w.heap.size + 1 ≤ g := by simpa using hg
  refine ⟨w.heap.size,fun x => if x < w.heap.size then tag x else if x = w.heap.size then 1 else 2,rfl,⟨g,o,c,fun _ => np0,⟨hb,by simp,hc,hm,⟨cur,hcur,hsz,fun i hi k hk => ?_⟩,?_,fun i hi => ?_⟩⟩,((Kp.refl [] w).alloc _).trans k2 (fun x hx => Or.inr (by simp at hx; omega)),Nat.le_refl _,fun x hx => by simp [hx]⟩
  ·obtain rfl : i = 0 := by omega
   rw [show o + 0 * 11 + k = o + k by omega,hcs k hk]
   rfl
  ·simp only [if_neg (show ¬ g < w.heap.size by omega),if_neg (show ¬ g = w.heap.size by omega)]
  ·have : Fr w2 w2 (1,0,⟨#[]⟩,[],⟨#[]⟩) np0 := Fr.none (Kp.refl _ _) rfl rfl
   exact ⟨this.at',fun x hx => by simp [np0,blk] at hx,this.tx,fun x hx => by simp [np0,blk] at hx,fun b hb => by cases hb⟩
 clear k2 hb hg hc hm hcur hsz hcs
 go_wp2
 go_ret
 obtain ⟨b,tag',e,r⟩ := hfin.out
 obtain rfl : w.heap.size = b := by simpa using e
 exact ⟨_,tag',rfl,r⟩
theorem Fr.back {w0 w w' : World} {l : Lb} {p : Np} (k : Kp [] w0 w) (h : Fr w w' l p) : Fr w0 w' l p :=
 ⟨k.trans h.kp (fun x hx => Or.inl hx),h.at',fun x hx => Nat.le_trans k.size (h.atN x hx),h.tx,fun x hx => Nat.le_trans k.size (h.txN x hx),h.ap,h.nm⟩
theorem ne_empty {s : ByteArray} (h : s.size ≠ 0) : s.toList.isEmpty = false := by
 rw [ByteArray.toList_eq]
 cases e : s.data.toList with
 | nil => exact absurd (by rw [← ByteArray.size_data,← Array.length_toList,e]; rfl) h
 | cons x r => rfl
section
variable {tag : Nat → Nat} {w : World} {b g o c : Nat} {q : Bool} {A : Ar} {pl : Nat → Np}
theorem pa_new {tag' : Nat → Nat} {w' : World} (ok : A.Ok) {l : Lb} (h : Pa tag' w' b q (A.n + 1) (addN A.raw A.n l)) : Pa tag' w' b q (A.new l).n (A.new l).raw := by
 rw [ok.raw_new l]; exact h
theorem mk_good (h : Rw tag w b g o c q A.n A.raw pl) (ok : A.Ok) (hn : A.n < 40000) (kind ns : Int) (name text : ByteArray) (l : List Att) (ao : Option Addr) (n' c' : Nat) (hr : Rp w ao n' c' l) (ha : n' ≤ 10000) (hf : fits l) (h1 : name.size ≤ 1000000) (h2 : text.size ≤ 1000000)
  (hk : kind = 2 ∨ kind = 4 ∨ kind = 5 ∨ (kind = 3 ∧ ns = 1 ∧ name.size ≠ 0) ∨ (kind = 3 ∧ ns = 2 ∧ name.size ≠ 0)) (ht : tmplF (keptL (kind,ns,name,l,text)) = false) :
  Calls Tryz.prog 104 #[.pointer (some ⟨b,0,none⟩),.int .i64 kind,.int .i64 ns,.string name,.slice ao n' c',.string text] w fun e w' => e = .returned (.tuple #[.int .i64 (A.n : Int),.int .i64 0]) ∧ ∃ tag',Pa tag' w' b q (A.new (keptL (kind,ns,name,l,text))).n (A.new (keptL (kind,ns,name,l,text))).raw ∧ Mv tag w tag' w' := by
 rcases hk with rfl | rfl | rfl | ⟨rfl,rfl,h0⟩ | ⟨rfl,rfl,h0⟩
 ·have k1 : Kp [] w (w.alloc (.cells #[.int .i64 2,.int .i64 ns,.string name,.slice ao n' c',.string text,.slice none 0 0] 40)) := (Kp.refl _ _).alloc _
  have CL : Cl (w.alloc (.cells #[.int .i64 2,.int .i64 ns,.string name,.slice ao n' c',.string text,.slice none 0 0] 40)) w.heap.size 0 (2,ns,name,l,text) ((ao,n',c'),(none,0,0)) := ⟨_,_,heap_new w _,fun i hi => by rw [Nat.zero_add]; simp [six]⟩
  have HN := nodeof_any _ _ _ (2,ns,name,l,text) ((ao,n',c'),(none,0,0)) CL (hr.kept k1) ha hf h1 h2
  have HA : Hid (∀ w2 np,Fr w w2 (keptL (2,ns,name,l,text)) np → Calls Tryz.prog 60 #[.pointer (some ⟨b,0,none⟩),nv (keptL (2,ns,name,l,text)) np] w2 fun e w' => e = .returned (.int .i64 (A.n : Int)) ∧ ∃ tag',Pa tag' w' b q (A.new (keptL (2,ns,name,l,text))).n (A.new (keptL (2,ns,name,l,text))).raw ∧ Mv tag w tag' w') := fun w2 np fr => by
   refine (add_any h (by omega) _ np fr).mono ?_
   rintro e w3 ⟨rfl,t3,p3,m3⟩
   exact ⟨rfl,t3,pa_new ok p3,m3⟩
  generalize keptL (2,ns,name,l,text) = K at HN HA ht ⊢
  clear CL h hr
  go_enter Tryz.func104,Tryz.ntmps104
  go_wp2_with fail
  refine HN.mono ?_
  rintro e w2 ⟨np,rfl,fr⟩
  have HA2 := HA.out _ _ (Fr.back k1 fr)
  clear HN HA k1 fr
  generalize nv K np = V at HA2
  go_wp2_with fail
  refine HA2.mono ?_
  rintro e w3 ⟨rfl,t3,⟨g3,o3,c3,pl3,h3⟩,m3⟩
  have HT := tmpl_any h3 (show A.n + 1 < 100000 by omega) A.n (Nat.lt_succ_self _)
  rw [show ((A.new K).raw A.n).lb = K by show (if A.n = A.n then K else A.lb A.n) = K; rw [if_pos rfl],ht] at HT
  clear HA2
  have hfin : Hid (∃ tag',Pa tag' w3 b q (A.new K).n (A.new K).raw ∧ Mv tag w tag' w3) := ⟨t3,⟨g3,o3,c3,pl3,h3⟩,m3⟩
  clear h3 m3
  go_wp2_with (go_at_call 123; refine same_of (HT) ?_)
  go_ret2
  exact ⟨rfl,hfin.out⟩
 ·have k1 : Kp [] w (w.alloc (.cells #[.int .i64 4,.int .i64 ns,.string name,.slice ao n' c',.string text,.slice none 0 0] 40)) := (Kp.refl _ _).alloc _
  have CL : Cl (w.alloc (.cells #[.int .i64 4,.int .i64 ns,.string name,.slice ao n' c',.string text,.slice none 0 0] 40)) w.heap.size 0 (4,ns,name,l,text) ((ao,n',c'),(none,0,0)) := ⟨_,_,heap_new w _,fun i hi => by rw [Nat.zero_add]; simp [six]⟩
  have HN := nodeof_any _ _ _ (4,ns,name,l,text) ((ao,n',c'),(none,0,0)) CL (hr.kept k1) ha hf h1 h2
  have HA : Hid (∀ w2 np,Fr w w2 (keptL (4,ns,name,l,text)) np → Calls Tryz.prog 60 #[.pointer (some ⟨b,0,none⟩),nv (keptL (4,ns,name,l,text)) np] w2 fun e w' => e = .returned (.int .i64 (A.n : Int)) ∧ ∃ tag',Pa tag' w' b q (A.new (keptL (4,ns,name,l,text))).n (A.new (keptL (4,ns,name,l,text))).raw ∧ Mv tag w tag' w') := fun w2 np fr => by
   refine (add_any h (by omega) _ np fr).mono ?_
   rintro e w3 ⟨rfl,t3,p3,m3⟩
   exact ⟨rfl,t3,pa_new ok p3,m3⟩
  generalize keptL (4,ns,name,l,text) = K at HN HA ht ⊢
  clear CL h hr
  go_enter Tryz.func104,Tryz.ntmps104
  go_wp2_with fail
  refine HN.mono ?_
  rintro e w2 ⟨np,rfl,fr⟩
  have HA2 := HA.out _ _ (Fr.back k1 fr)
  clear HN HA k1 fr
  generalize nv K np = V at HA2
  go_wp2_with fail
  refine HA2.mono ?_
  rintro e w3 ⟨rfl,t3,⟨g3,o3,c3,pl3,h3⟩,m3⟩
  have HT := tmpl_any h3 (show A.n + 1 < 100000 by omega) A.n (Nat.lt_succ_self _)
  rw [show ((A.new K).raw A.n).lb = K by show (if A.n = A.n then K else A.lb A.n) = K; rw [if_pos rfl],ht] at HT
  clear HA2
  have hfin : Hid (∃ tag',Pa tag' w3 b q (A.new K).n (A.new K).raw ∧ Mv tag w tag' w3) := ⟨t3,⟨g3,o3,c3,pl3,h3⟩,m3⟩
  clear h3 m3
  go_wp2_with (go_at_call 123; refine same_of (HT) ?_)
  go_ret2
  exact ⟨rfl,hfin.out⟩
 ·have k1 : Kp [] w (w.alloc (.cells #[.int .i64 5,.int .i64 ns,.string name,.slice ao n' c',.string text,.slice none 0 0] 40)) := (Kp.refl _ _).alloc _
  have CL : Cl (w.alloc (.cells #[.int .i64 5,.int .i64 ns,.string name,.slice ao n' c',.string text,.slice none 0 0] 40)) w.heap.size 0 (5,ns,name,l,text) ((ao,n',c'),(none,0,0)) := ⟨_,_,heap_new w _,fun i hi => by rw [Nat.zero_add]; simp [six]⟩
  have HN := nodeof_any _ _ _ (5,ns,name,l,text) ((ao,n',c'),(none,0,0)) CL (hr.kept k1) ha hf h1 h2
  have HA : Hid (∀ w2 np,Fr w w2 (keptL (5,ns,name,l,text)) np → Calls Tryz.prog 60 #[.pointer (some ⟨b,0,none⟩),nv (keptL (5,ns,name,l,text)) np] w2 fun e w' => e = .returned (.int .i64 (A.n : Int)) ∧ ∃ tag',Pa tag' w' b q (A.new (keptL (5,ns,name,l,text))).n (A.new (keptL (5,ns,name,l,text))).raw ∧ Mv tag w tag' w') := fun w2 np fr => by
   refine (add_any h (by omega) _ np fr).mono ?_
   rintro e w3 ⟨rfl,t3,p3,m3⟩
   exact ⟨rfl,t3,pa_new ok p3,m3⟩
  generalize keptL (5,ns,name,l,text) = K at HN HA ht ⊢
  clear CL h hr
  go_enter Tryz.func104,Tryz.ntmps104
  go_wp2_with fail
  refine HN.mono ?_
  rintro e w2 ⟨np,rfl,fr⟩
  have HA2 := HA.out _ _ (Fr.back k1 fr)
  clear HN HA k1 fr
  generalize nv K np = V at HA2
  go_wp2_with fail
  refine HA2.mono ?_
  rintro e w3 ⟨rfl,t3,⟨g3,o3,c3,pl3,h3⟩,m3⟩
  have HT := tmpl_any h3 (show A.n + 1 < 100000 by omega) A.n (Nat.lt_succ_self _)
  rw [show ((A.new K).raw A.n).lb = K by show (if A.n = A.n then K else A.lb A.n) = K; rw [if_pos rfl],ht] at HT
  clear HA2
  have hfin : Hid (∃ tag',Pa tag' w3 b q (A.new K).n (A.new K).raw ∧ Mv tag w tag' w3) := ⟨t3,⟨g3,o3,c3,pl3,h3⟩,m3⟩
  clear h3 m3
  go_wp2_with (go_at_call 123; refine same_of (HT) ?_)
  go_ret2
  exact ⟨rfl,hfin.out⟩
 ·have t9 : name.toList.isEmpty = false := ne_empty h0
  have k1 : Kp [] w (w.alloc (.cells #[.int .i64 3,.int .i64 1,.string name,.slice ao n' c',.string text,.slice none 0 0] 40)) := (Kp.refl _ _).alloc _
  have CL : Cl (w.alloc (.cells #[.int .i64 3,.int .i64 1,.string name,.slice ao n' c',.string text,.slice none 0 0] 40)) w.heap.size 0 (3,1,name,l,text) ((ao,n',c'),(none,0,0)) := ⟨_,_,heap_new w _,fun i hi => by rw [Nat.zero_add]; simp [six]⟩
  have HN := nodeof_any _ _ _ (3,1,name,l,text) ((ao,n',c'),(none,0,0)) CL (hr.kept k1) ha hf h1 h2
  have HA : Hid (∀ w2 np,Fr w w2 (keptL (3,1,name,l,text)) np → Calls Tryz.prog 60 #[.pointer (some ⟨b,0,none⟩),nv (keptL (3,1,name,l,text)) np] w2 fun e w' => e = .returned (.int .i64 (A.n : Int)) ∧ ∃ tag',Pa tag' w' b q (A.new (keptL (3,1,name,l,text))).n (A.new (keptL (3,1,name,l,text))).raw ∧ Mv tag w tag' w') := fun w2 np fr => by
   refine (add_any h (by omega) _ np fr).mono ?_
   rintro e w3 ⟨rfl,t3,p3,m3⟩
   exact ⟨rfl,t3,pa_new ok p3,m3⟩
  generalize keptL (3,1,name,l,text) = K at HN HA ht ⊢
  clear CL h hr
  go_enter Tryz.func104,Tryz.ntmps104
  go_wp2_with fail
  refine HN.mono ?_
  rintro e w2 ⟨np,rfl,fr⟩
  have HA2 := HA.out _ _ (Fr.back k1 fr)
  clear HN HA k1 fr
  generalize nv K np = V at HA2
  go_wp2_with fail
  refine HA2.mono ?_
  rintro e w3 ⟨rfl,t3,⟨g3,o3,c3,pl3,h3⟩,m3⟩
  have HT := tmpl_any h3 (show A.n + 1 < 100000 by omega) A.n (Nat.lt_succ_self _)
  rw [show ((A.new K).raw A.n).lb = K by show (if A.n = A.n then K else A.lb A.n) = K; rw [if_pos rfl],ht] at HT
  clear HA2
  have hfin : Hid (∃ tag',Pa tag' w3 b q (A.new K).n (A.new K).raw ∧ Mv tag w tag' w3) := ⟨t3,⟨g3,o3,c3,pl3,h3⟩,m3⟩
  clear h3 m3
  go_wp2_with (go_at_call 123; refine same_of (HT) ?_)
  go_ret2
  exact ⟨rfl,hfin.out⟩
 ·have t9 : name.toList.isEmpty = false := ne_empty h0
  have k1 : Kp [] w (w.alloc (.cells #[.int .i64 3,.int .i64 2,.string name,.slice ao n' c',.string text,.slice none 0 0] 40)) := (Kp.refl _ _).alloc _
  have CL : Cl (w.alloc (.cells #[.int .i64 3,.int .i64 2,.string name,.slice ao n' c',.string text,.slice none 0 0] 40)) w.heap.size 0 (3,2,name,l,text) ((ao,n',c'),(none,0,0)) := ⟨_,_,heap_new w _,fun i hi => by rw [Nat.zero_add]; simp [six]⟩
  have HN := nodeof_any _ _ _ (3,2,name,l,text) ((ao,n',c'),(none,0,0)) CL (hr.kept k1) ha hf h1 h2
  have HA : Hid (∀ w2 np,Fr w w2 (keptL (3,2,name,l,text)) np → Calls Tryz.prog 60 #[.pointer (some ⟨b,0,none⟩),nv (keptL (3,2,name,l,text)) np] w2 fun e w' => e = .returned (.int .i64 (A.n : Int)) ∧ ∃ tag',Pa tag' w' b q (A.new (keptL (3,2,name,l,text))).n (A.new (keptL (3,2,name,l,text))).raw ∧ Mv tag w tag' w') := fun w2 np fr => by
   refine (add_any h (by omega) _ np fr).mono ?_
   rintro e w3 ⟨rfl,t3,p3,m3⟩
   exact ⟨rfl,t3,pa_new ok p3,m3⟩
  generalize keptL (3,2,name,l,text) = K at HN HA ht ⊢
  clear CL h hr
  go_enter Tryz.func104,Tryz.ntmps104
  go_wp2_with fail
  refine HN.mono ?_
  rintro e w2 ⟨np,rfl,fr⟩
  have HA2 := HA.out _ _ (Fr.back k1 fr)
  clear HN HA k1 fr
  generalize nv K np = V at HA2
  go_wp2_with fail
  refine HA2.mono ?_
  rintro e w3 ⟨rfl,t3,⟨g3,o3,c3,pl3,h3⟩,m3⟩
  have HT := tmpl_any h3 (show A.n + 1 < 100000 by omega) A.n (Nat.lt_succ_self _)
  rw [show ((A.new K).raw A.n).lb = K by show (if A.n = A.n then K else A.lb A.n) = K; rw [if_pos rfl],ht] at HT
  clear HA2
  have hfin : Hid (∃ tag',Pa tag' w3 b q (A.new K).n (A.new K).raw ∧ Mv tag w tag' w3) := ⟨t3,⟨g3,o3,c3,pl3,h3⟩,m3⟩
  clear h3 m3
  go_wp2_with (go_at_call 123; refine same_of (HT) ?_)
  go_ret2
  exact ⟨rfl,hfin.out⟩
theorem mk_tmpl (h : Rw tag w b g o c q A.n A.raw pl) (ok : A.Ok) (hn : A.n < 40000) (name text : ByteArray) (l : List Att) (ao : Option Addr) (n' c' : Nat) (hr : Rp w ao n' c' l) (ha : n' ≤ 10000) (hf : fits l) (h1 : name.size ≤ 1000000) (h2 : text.size ≤ 1000000) (h0 : name.size ≠ 0)
  (ht : tmplF (keptL (3,1,name,l,text)) = true) :
  Calls Tryz.prog 104 #[.pointer (some ⟨b,0,none⟩),.int .i64 3,.int .i64 1,.string name,.slice ao n' c',.string text] w fun e w' => e = .returned (.tuple #[.int .i64 (A.n : Int),.int .i64 0]) ∧ ∃ tag',Pa tag' w' b q (A.newT (keptL (3,1,name,l,text))).n (A.newT (keptL (3,1,name,l,text))).raw ∧ Mv tag w tag' w' := by
 have t9 : name.toList.isEmpty = false := ne_empty h0
 have k1 : Kp [] w (w.alloc (.cells #[.int .i64 3,.int .i64 1,.string name,.slice ao n' c',.string text,.slice none 0 0] 40)) := (Kp.refl _ _).alloc _
 have CL : Cl (w.alloc (.cells #[.int .i64 3,.int .i64 1,.string name,.slice ao n' c',.string text,.slice none 0 0] 40)) w.heap.size 0 (3,1,name,l,text) ((ao,n',c'),(none,0,0)) := ⟨_,_,heap_new w _,fun i hi => by rw [Nat.zero_add]; simp [six]⟩
 have HN := nodeof_any _ _ _ (3,1,name,l,text) ((ao,n',c'),(none,0,0)) CL (hr.kept k1) ha hf h1 h2
 have HA : Hid (∀ w2 np,Fr w w2 (keptL (3,1,name,l,text)) np → Calls Tryz.prog 60 #[.pointer (some ⟨b,0,none⟩),nv (keptL (3,1,name,l,text)) np] w2 fun e w' => e = .returned (.int .i64 (A.n : Int)) ∧ ∃ tag',Pa tag' w' b q (A.new (keptL (3,1,name,l,text))).n (A.new (keptL (3,1,name,l,text))).raw ∧ Mv tag w tag' w') := fun w2 np fr => by
  refine (add_any h (by omega) _ np fr).mono ?_
  rintro e w3 ⟨rfl,t3,p3,m3⟩
  exact ⟨rfl,t3,pa_new ok p3,m3⟩
 generalize keptL (3,1,name,l,text) = K at HN HA ht ⊢
 clear CL h hr
 go_enter Tryz.func104,Tryz.ntmps104
 go_wp2_with fail
 refine HN.mono ?_
 rintro e w2 ⟨np,rfl,fr⟩
 have HA2 := HA.out _ _ (Fr.back k1 fr)
 clear HN HA k1 fr
 generalize nv K np = V at HA2
 go_wp2_with fail
 refine HA2.mono ?_
 rintro e w3 ⟨rfl,t3,⟨g3,o3,c3,pl3,h3⟩,m3⟩
 have HT := tmpl_any h3 (show A.n + 1 < 100000 by omega) A.n (Nat.lt_succ_self _)
 rw [show ((A.new K).raw A.n).lb = K by show (if A.n = A.n then K else A.lb A.n) = K; rw [if_pos rfl],ht] at HT
 clear HA2
 have oN : (A.new K).Ok := ok.new K
 have HC := add_any h3 (show A.n + 1 < 50000 by omega) (6,0,⟨#[]⟩,[],⟨#[]⟩) np0 (Fr.none (Kp.refl [] w3) rfl rfl)
 rw [show (A.new K).n = A.n + 1 from rfl] at HC
 unfold nv np0 at HC
 simp only at HC
 clear h3
 have cst : ((A.n + 1 : Nat) : Int) = (A.n : Int) + 1 := by omega
 rw [cst] at HC
 go_wp2_with (first | (go_at_call 123; refine same_of (HT) ?_) | (go_at_call 60; refine HC.mono ?_; rintro e w4 ⟨rfl,t4,p4,m4⟩; refine Hid.out ?_))
 unfold Hid
 obtain ⟨g4,o4,c4,pl4,h4⟩ := pa_new (A := A.new K) oN p4
 have HL := rz_link (Rz.mk h4 (Kp.refl [g4] w4)) rfl (oN.new _) (show A.n + 1 + 1 < 50000 by omega) (p := A.n) (x := A.n + 1) (show A.n < A.n + 1 + 1 by omega) (show A.n + 1 < A.n + 1 + 1 by omega) (ok.out (A.n + 1) (by omega)).2
 rw [show (((A.new K).new (6,0,⟨#[]⟩,[],⟨#[]⟩)).kids A.n) = [] from (ok.out A.n (Nat.le_refl _)).1,cst] at HL
 have mm : Hid (Mv tag w t4 w4) := m3.trans m4
 clear HC HT p4 m4 h4 m3
 go_wp2_with (go_at_call 108; refine HL.mono ?_; rintro e w5 ⟨rfl,z5⟩)
 go_ret2
 exact ⟨rfl,t4,⟨g4,o4,c4,pl4,z5.1⟩,mm.out.trans z5.mv⟩
end
end Go.Proofs.YtpkppobkagdhkaaGreat
