/-
 RdL.
-/
import Derived.Test.YtpkppobkagdhkaaGreatB34
set_option linter.unusedVariables false
set_option linter.unusedSimpArgs false
set_option maxRecDepth 100000
set_option maxHeartbeats 1000000
namespace Go.Proofs.YtpkppobkagdhkaaGreat
open Go.RowKit Go.Maps Utf
section
variable {tag : Nat → Nat} {w w0 : World} {d g o c : Nat} {q : Bool} {A : Ar} {pl : Nat → Dp}
theorem rapp_run {A' : Ar} {L : Lb} {u : Int} {pa : Option Addr × Nat × Nat} {gb : Nat} (h : Dd tag w0 d g o c q A pl) (k0 : Kp [] w0 w) (hn : A.n < 50000) (ha : At w gb (dl L u (pa,(none,0,0))).toArray 106)
  (ra : Rk (fun x => w0.heap.size ≤ x) 2 w pa.1 pa.2.1 pa.2.2 (cs L.attrs)) (on : Oner A A' L u) :
  ∃ v' w2,(∀ ty,(Builtin.append_ #[67,67] ty #[.slice (some ⟨g,o,none⟩) A.n c,.slice (some ⟨gb,0,none⟩) 1 1]).run Tryz.prog w = .ok v' w2) ∧ Kp [g] w w2 ∧ w2.cell? ⟨d,0,none⟩ = some (.slice (some ⟨g,o,none⟩) A.n c) ∧ w2.frozen? ⟨d,0,none⟩ = false ∧ (∃ a c',v' = .slice (some a) (A.n + 1) c') ∧ ∃ tag',Dn tag' (w2.setCell ⟨d,0,none⟩ v') d q A' ∧ Dv tag w0 tag' (w2.setCell ⟨d,0,none⟩ v') := by
 have hw := h.kept k0
 obtain ⟨xs,ox,hxs⟩ := hw.own
 have hlt := hw.lt
 have hlt0 := h.lt
 have hne := h.ne
 obtain ⟨v',w2,hrun,hown2,hk2,hb2,a2,c2,hv2⟩ := appK Tryz.underlying67 infoR rfl (by decide) w _ A.n xs ox _ 1 _ (src_new Tryz.underlying67 ha (dl L u (pa,(none,0,0))) rfl (dl_one _ _ _)) (fun _ => by omega) (by omega)
 have hk2' : Kp [g] w w2 := hk2
 have hp2 : At w2 d #[.slice (some ⟨g,o,none⟩) A.n c,.bool q] 69 := hw.hd.kept hk2' (by simpa using hne)
 have k3 : Kp [d] w2 (w2.setCell ⟨d,0,none⟩ v') := (Kp.refl _ _).setCell (Or.inl (by simp)) _
 have hbl : ∀ x,x ∈ blk v' → x = g ∨ w.heap.size ≤ x := fun x hx => by
  rcases hb2 x hx with h1 | h1
  ·exact .inl (by simpa [blk] using h1)
  ·exact .inr (by omega)
 refine ⟨v',w2,hrun,hk2',hp2.cell 0,hp2.free 0,⟨a2,c2,hv2⟩,h.grown k0 ox.1 hxs ra on ?_ (fun x hx h1 h2 => ?_) (hp2.set 0 v') ?_ hbl⟩
 ·exact (k0.mono (T := [d,g]) (fun x hx => by simp at hx)).trans ((hk2'.mono (T := [d,g]) (fun x hx => Or.inl (by simp at hx; simp [hx]))).trans k3 (fun x hx => Or.inl (by simp at hx; simp [hx]))) (fun x hx => Or.inl hx)
 ·rw [k3.block x (by have := hk2.size; omega) (by simpa using h1),hk2'.block x hx (by simpa using h2)]
 ·exact hown2.keep k3 (fun x hx hs => by
   rw [List.mem_singleton.1 hs] at hx
   rcases hbl d hx with h1 | h1
   ·exact hne h1
   ·omega)
theorem Mp.rk0 {w1 w2 : World} {ao : Option Addr} {n c : Nat} {l : List Att} (h : Mp w1 w2 ao n c l) (k : Kp [] w w1) : Rk (fun x => w.heap.size ≤ x) 2 w2 ao n c (cs l) := by
 have hl := h.len
 obtain ⟨h1,h2,h3⟩ := h
 have hc : n ≤ c := (Rp.of_own h1).cap
 have ks := k.size
 refine ⟨by rw [cs_len]; omega,hc,fun hn => ?_⟩
 obtain ⟨_,h1⟩ := h1
 rcases h1 with ⟨e1,_⟩ | ⟨g',o',cap,cur,e1,e2,e3,e4,e5,e6⟩
 ·cases e1; omega
 ·cases e1
  exact ⟨g',o',cur,_,(by have := h3 g' (by simp [blk]); omega),rfl,e2,fun j hj => e6 j hj⟩
def A2 (A : Ar) (L : Lb) : Ar := { (A.new L).new (6,0,⟨#[]⟩,[],⟨#[]⟩) with up := fun y => if y = A.n + 1 then some A.n else A.up y }
theorem a2_oner (ok : A.Ok) (L : Lb) : Oner (A.new L) (A2 A L) (6,0,⟨#[]⟩,[],⟨#[]⟩) (A.n : Int) := by
 refine ⟨rfl,fun i hi => ?_,fun _ _ => rfl,fun i hi => ?_,?_,(ok.out (A.n + 1) (by omega)).1,?_⟩
 ·have : i < A.n + 1 := hi
  show (if i = A.n + 1 then _ else _) = _; rw [if_neg (by omega)]
 ·have : i < A.n + 1 := hi
  show (if i = A.n + 1 then _ else _) = _; rw [if_neg (by omega)]; rfl
 ·show (if A.n + 1 = A.n + 1 then _ else _) = _; rw [if_pos rfl]
 ·show Ar.upI (if A.n + 1 = A.n + 1 then _ else _) = _; rw [if_pos rfl]; rfl
theorem a2_newT (ok : A.Ok) {L : Lb} : ({ A2 A L with kids := fun y => if y = A.n then [A.n + 1] else (A2 A L).kids y } : Ar) = A.newT L := by
 unfold Ar.newT Ar.put A2
 simp only [Ar.mk.injEq,true_and,and_true]
 refine ⟨funext fun y => ?_,rfl⟩
 show (if y = A.n then [A.n + 1] else A.kids y) = (if y = A.n then (A.kids A.n).take 0 ++ (A.n + 1) :: (A.kids A.n).drop 0 else A.kids y)
 rw [(ok.out A.n (Nat.le_refl _)).1]; rfl
theorem made_one {W6 W7 : World} {n : Nat} (h : W7 = W6.alloc (.cells #[.int .i64 ((n : Int) + 1)] 3)) : Made W6 W7 3 (some ⟨W6.heap.size,0,none⟩) 1 1 (iv [n + 1]) := by
 refine ⟨Or.inr ⟨_,0,1,_,rfl,by rw [h]; exact heap_new _ _,Nat.le_refl _,by decide,by simp,fun j hj => ?_⟩,by rw [h]; exact (Kp.refl _ _).alloc _,fun z hz => by simp [blk] at hz; omega⟩
 have hj : j < 1 := hj
 obtain rfl : j = 0 := by omega
 simp [iv]
theorem rmk_two (h : Dd tag w d g o c q A pl) (ful : A.Ful) (hn : A.n < 40000) (ns : Int) (name text : ByteArray) (l : List Att) (ao : Option Addr) (n' c' : Nat) (hr : Rp w ao n' c' l) (ha : n' ≤ 10000) :
  Calls Tryz.prog 51 #[.pointer (some ⟨d,0,none⟩),.int .i64 2,.int .i64 ns,.string name,.slice ao n' c',.string text] w fun e w' => e = .returned (.tuple #[.int .i64 (A.n : Int),.int .i64 0]) ∧ ∃ tag',Dn tag' w' d q (A.new (2,0,name,[],⟨#[]⟩)) ∧ Dv tag w tag' w' := by
 have ok := ful.toOk
 have hlt := h.lt
 have hdg := h.ne
 obtain ⟨W,hW⟩ : ∃ W,W = w.alloc (.cells #[.int .i64 2,.int .i64 0,.string name,.string ⟨#[]⟩,.slice none 0 0,.slice none 0 0,.int .i64 (-1)] 106) := ⟨_,rfl⟩
 have kW : Kp [] w W := by rw [hW]; exact (Kp.refl _ _).alloc _
 have aX : At W w.heap.size #[.int .i64 2,.int .i64 0,.string name,.string ⟨#[]⟩,.slice none 0 0,.slice none 0 0,.int .i64 (-1)] 106 := by rw [hW]; exact At.new _ _ _
 have HW : Hid (w.alloc (.cells #[.int .i64 2,.int .i64 0,.string name,.string ⟨#[]⟩,.slice none 0 0,.slice none 0 0,.int .i64 (-1)] 106) = W) := hW.symm
 clear hW
 have rA : Hid (Rk (fun x => w.heap.size ≤ x) 2 W none 0 0 (cs (Lb.attrs (2,0,name,[],⟨#[]⟩)))) := Rk.nil _ _ _ _ _
 clear hr
 have hgx : g ≠ w.heap.size := by omega
 have HS : Hid (∀ V,Kp [g] W V → V.cell? ⟨d,0,none⟩ = some (.slice (some ⟨g,o,none⟩) A.n c) ∧ V.cell? ⟨w.heap.size,0,none⟩ = some (.int .i64 2) ∧ V.cell? ⟨w.heap.size,1,none⟩ = some (.int .i64 0) ∧ V.cell? ⟨w.heap.size,2,none⟩ = some (.string name) ∧ V.cell? ⟨w.heap.size,3,none⟩ = some (.string ⟨#[]⟩) ∧ V.cell? ⟨w.heap.size,4,none⟩ = some (.slice none 0 0) ∧ V.cell? ⟨w.heap.size,5,none⟩ = some (.slice none 0 0) ∧ V.cell? ⟨w.heap.size,6,none⟩ = some (.int .i64 (-1))) := fun V kV => by
  have a7 := aX.kept kV (by simpa using Ne.symm hgx)
  exact ⟨((h.kept kW).hd.kept kV (by simpa using hdg)).cell 0,a7.cell 0,a7.cell 1,a7.cell 2,a7.cell 3,a7.cell 4,a7.cell 5,a7.cell 6⟩
 have HG : Hid (∀ V gb,Kp [] W V → At V gb #[.int .i64 2,.int .i64 0,.string name,.string ⟨#[]⟩,.slice none 0 0,.slice none 0 0,.int .i64 (-1)] 106 → ∃ v' w2,(∀ ty,(Builtin.append_ #[67,67] ty #[.slice (some ⟨g,o,none⟩) A.n c,.slice (some ⟨gb,0,none⟩) 1 1]).run Tryz.prog V = .ok v' w2) ∧ Kp [g] V w2 ∧ w2.cell? ⟨d,0,none⟩ = some (.slice (some ⟨g,o,none⟩) A.n c) ∧ w2.frozen? ⟨d,0,none⟩ = false ∧ (∃ a c',v' = .slice (some a) (A.n + 1) c') ∧ ∃ tag',Dn tag' (w2.setCell ⟨d,0,none⟩ v') d q (A.new (2,0,name,[],⟨#[]⟩)) ∧ Dv tag w tag' (w2.setCell ⟨d,0,none⟩ v')) := fun V gb kV aV =>
  rapp_run (pa := (none,0,0)) (L := (2,0,name,[],⟨#[]⟩)) (u := -1) h (kW.trans kV (fun x hx => Or.inl hx)) (by omega) aV (rA.out.keep (kV.sms (fun x _ hx => by simp at hx))) (Ar.oner_new ok _)
 clear h
 go_enter Tryz.func51,Tryz.ntmps51
 have c0 := (HS.out _ (Kp.refl _ _)).1
 go_upto_region 12 with fail
 rw [HW.out]
 clear HW
 go_upto_region 13 with fail
 clear c0
 obtain ⟨U0,hU0⟩ : ∃ V,V = W.drew := ⟨_,rfl⟩
 have k0 : Kp [] W U0 := by rw [hU0]; exact (Kp.refl _ _).drew
 refine wp_region_g (S := fun V => V.cell? ⟨d,0,none⟩ = some (.slice (some ⟨g,o,none⟩) A.n c) ∧ V.cell? ⟨w.heap.size,0,none⟩ = some (.int .i64 2) ∧ V.cell? ⟨w.heap.size,1,none⟩ = some (.int .i64 0) ∧ V.cell? ⟨w.heap.size,2,none⟩ = some (.string name) ∧ V.cell? ⟨w.heap.size,3,none⟩ = some (.string ⟨#[]⟩) ∧ V.cell? ⟨w.heap.size,4,none⟩ = some (.slice none 0 0) ∧ V.cell? ⟨w.heap.size,5,none⟩ = some (.slice none 0 0) ∧ V.cell? ⟨w.heap.size,6,none⟩ = some (.int .i64 (-1))) (T := [10]) (by kernel_rfl) (HS.out _ ((Kp.refl _ _).drew)) (fun hHeld => ?_)
 rw [← hU0] at hHeld ⊢
 clear hU0
 refine g_pure 0 (some 55) (.move (.tmp 0)) ?_
 refine g_pure 1 (some 56) (.move (.tmp 0)) ?_
 refine g_pure 2 (some 57) (.nilCheck (.tmp 56)) ?_
 refine g_pure 3 (some 58) (.fieldAddr 69 (.tmp 57) 0) ?_
 refine g_takeC 4 (some 59) (.load 67 (.tmp 58)) (by intro w hSw; (obtain ⟨q,q0,q1,q2,q3,q4,q5,q6⟩ := hSw); go_simp; try with_reducible rfl) ?_
 refine g_takeC 5 (some 60) (.load 106 (.tmp 14)) (by intro w hSw; (obtain ⟨q,q0,q1,q2,q3,q4,q5,q6⟩ := hSw); go_simp; try with_reducible rfl) ?_
 refine wpAnyG_ready (rs := [6]) (by kernel_rfl) (by simp) ?_
 refine AllReadyG.cons (o := ⟨some 61,.buildSlice 67 1 #[(0,.tmp 60)],67,_,_,none⟩) rfl (fun K hK => ?_) AllReadyG.nil
 go_simp
 obtain ⟨U1,hU⟩ : ∃ V,V = World.alloc U0 (.cells #[.int .i64 2,.int .i64 0,.string name,.string ⟨#[]⟩,.slice none 0 0,.slice none 0 0,.int .i64 (-1)] 106) := ⟨_,rfl⟩
 rw [← hU]
 have u1 : Kp [] U0 U1 := by rw [hU]; exact (Kp.refl _ _).alloc _
 have k1 : Kp [] W U1 := k0.trans u1 (fun z hz => Or.inl hz)
 have A11 : At U1 U0.heap.size #[.int .i64 2,.int .i64 0,.string name,.string ⟨#[]⟩,.slice none 0 0,.slice none 0 0,.int .i64 (-1)] 106 := by rw [hU]; exact At.new _ _ _
 obtain ⟨g11,hg11⟩ : ∃ g,U0.heap.size = g := ⟨_,rfl⟩
 rw [hg11] at A11 ⊢
 clear hU
 refine hK.out _ _ (HS.out _ (k1.mono (fun z hz => by simp at hz))) (fun hHeld1 => ?_)
 clear hK K hHeld
 try simp only [Act.put,pu1,pu2,pu3]
 refine wpAnyG_ready (rs := [7]) (by kernel_rfl) (by simp) ?_
 refine AllReadyG.cons (o := ⟨some 62,.call { callee := .builtin .append,args := #[.tmp 59,.tmp 61],argTypes := #[67,67] },67,_,_,none⟩) rfl (fun K hK => ?_) AllReadyG.nil
 obtain ⟨v7,U2,run7,kk7,d7,f7,⟨a7,c7,e7⟩,F7⟩ := HG.out U1 g11 k1 A11
 subst e7
 refine step_app2 (by rfl) _ _ 67 67 (by rfl) _ _ (by rfl) (by rfl) run7 ?_
 refine hK.out _ _ (HS.out _ ((k1.mono (T := [g]) (fun z hz => by simp at hz)).trans kk7 (fun z hz => Or.inl hz))) (fun hHeld2 => ?_)
 clear hK K hHeld1
 try simp only [Act.put,pu1,pu2,pu3]
 refine g_pure 8 (some 63) (.nilCheck (.tmp 55)) ?_
 refine g_pure 9 (some 64) (.fieldAddr 69 (.tmp 63) 0) ?_
 refine wpAnyG_free (by kernel_rfl) ?_
 refine wpAny_ready (rs := [10]) (by kernel_rfl) (by simp) ?_
 refine AllReady.cons (o := ⟨none,.store 67 (.tmp 64) (.tmp 62),0,_,_,none⟩) rfl (fun K hK => ?_) AllReady.nil
 go_simp
 refine hK _ _ ?_
 clear hK K
 try simp only [Act.put,pu1,pu2,pu3]
 refine wpAny_done (by kernel_rfl) ?_ _
 have ZZ : Hid _ := F7
 clear F7 HS HG
 go_wp2
 go_ret2
 exact ⟨rfl,ZZ.out⟩
theorem rmk_four (h : Dd tag w d g o c q A pl) (ful : A.Ful) (hn : A.n < 40000) (ns : Int) (name text : ByteArray) (l : List Att) (ao : Option Addr) (n' c' : Nat) (hr : Rp w ao n' c' l) (ha : n' ≤ 10000) :
  Calls Tryz.prog 51 #[.pointer (some ⟨d,0,none⟩),.int .i64 4,.int .i64 ns,.string name,.slice ao n' c',.string text] w fun e w' => e = .returned (.tuple #[.int .i64 (A.n : Int),.int .i64 0]) ∧ ∃ tag',Dn tag' w' d q (A.new (4,0,⟨#[]⟩,[],text)) ∧ Dv tag w tag' w' := by
 have ok := ful.toOk
 have hlt := h.lt
 have hdg := h.ne
 obtain ⟨W,hW⟩ : ∃ W,W = w.alloc (.cells #[.int .i64 4,.int .i64 0,.string ⟨#[]⟩,.string text,.slice none 0 0,.slice none 0 0,.int .i64 (-1)] 106) := ⟨_,rfl⟩
 have kW : Kp [] w W := by rw [hW]; exact (Kp.refl _ _).alloc _
 have aX : At W w.heap.size #[.int .i64 4,.int .i64 0,.string ⟨#[]⟩,.string text,.slice none 0 0,.slice none 0 0,.int .i64 (-1)] 106 := by rw [hW]; exact At.new _ _ _
 have HW : Hid (w.alloc (.cells #[.int .i64 4,.int .i64 0,.string ⟨#[]⟩,.string text,.slice none 0 0,.slice none 0 0,.int .i64 (-1)] 106) = W) := hW.symm
 clear hW
 have rA : Hid (Rk (fun x => w.heap.size ≤ x) 2 W none 0 0 (cs (Lb.attrs (4,0,⟨#[]⟩,[],text)))) := Rk.nil _ _ _ _ _
 clear hr
 have hgx : g ≠ w.heap.size := by omega
 have HS : Hid (∀ V,Kp [g] W V → V.cell? ⟨d,0,none⟩ = some (.slice (some ⟨g,o,none⟩) A.n c) ∧ V.cell? ⟨w.heap.size,0,none⟩ = some (.int .i64 4) ∧ V.cell? ⟨w.heap.size,1,none⟩ = some (.int .i64 0) ∧ V.cell? ⟨w.heap.size,2,none⟩ = some (.string ⟨#[]⟩) ∧ V.cell? ⟨w.heap.size,3,none⟩ = some (.string text) ∧ V.cell? ⟨w.heap.size,4,none⟩ = some (.slice none 0 0) ∧ V.cell? ⟨w.heap.size,5,none⟩ = some (.slice none 0 0) ∧ V.cell? ⟨w.heap.size,6,none⟩ = some (.int .i64 (-1))) := fun V kV => by
  have a7 := aX.kept kV (by simpa using Ne.symm hgx)
  exact ⟨((h.kept kW).hd.kept kV (by simpa using hdg)).cell 0,a7.cell 0,a7.cell 1,a7.cell 2,a7.cell 3,a7.cell 4,a7.cell 5,a7.cell 6⟩
 have HG : Hid (∀ V gb,Kp [] W V → At V gb #[.int .i64 4,.int .i64 0,.string ⟨#[]⟩,.string text,.slice none 0 0,.slice none 0 0,.int .i64 (-1)] 106 → ∃ v' w2,(∀ ty,(Builtin.append_ #[67,67] ty #[.slice (some ⟨g,o,none⟩) A.n c,.slice (some ⟨gb,0,none⟩) 1 1]).run Tryz.prog V = .ok v' w2) ∧ Kp [g] V w2 ∧ w2.cell? ⟨d,0,none⟩ = some (.slice (some ⟨g,o,none⟩) A.n c) ∧ w2.frozen? ⟨d,0,none⟩ = false ∧ (∃ a c',v' = .slice (some a) (A.n + 1) c') ∧ ∃ tag',Dn tag' (w2.setCell ⟨d,0,none⟩ v') d q (A.new (4,0,⟨#[]⟩,[],text)) ∧ Dv tag w tag' (w2.setCell ⟨d,0,none⟩ v')) := fun V gb kV aV =>
  rapp_run (pa := (none,0,0)) (L := (4,0,⟨#[]⟩,[],text)) (u := -1) h (kW.trans kV (fun x hx => Or.inl hx)) (by omega) aV (rA.out.keep (kV.sms (fun x _ hx => by simp at hx))) (Ar.oner_new ok _)
 clear h
 go_enter Tryz.func51,Tryz.ntmps51
 have c0 := (HS.out _ (Kp.refl _ _)).1
 go_upto_region 12 with fail
 rw [HW.out]
 clear HW
 go_upto_region 13 with fail
 clear c0
 obtain ⟨U0,hU0⟩ : ∃ V,V = W.drew := ⟨_,rfl⟩
 have k0 : Kp [] W U0 := by rw [hU0]; exact (Kp.refl _ _).drew
 refine wp_region_g (S := fun V => V.cell? ⟨d,0,none⟩ = some (.slice (some ⟨g,o,none⟩) A.n c) ∧ V.cell? ⟨w.heap.size,0,none⟩ = some (.int .i64 4) ∧ V.cell? ⟨w.heap.size,1,none⟩ = some (.int .i64 0) ∧ V.cell? ⟨w.heap.size,2,none⟩ = some (.string ⟨#[]⟩) ∧ V.cell? ⟨w.heap.size,3,none⟩ = some (.string text) ∧ V.cell? ⟨w.heap.size,4,none⟩ = some (.slice none 0 0) ∧ V.cell? ⟨w.heap.size,5,none⟩ = some (.slice none 0 0) ∧ V.cell? ⟨w.heap.size,6,none⟩ = some (.int .i64 (-1))) (T := [10]) (by kernel_rfl) (HS.out _ ((Kp.refl _ _).drew)) (fun hHeld => ?_)
 rw [← hU0] at hHeld ⊢
 clear hU0
 refine g_pure 0 (some 55) (.move (.tmp 0)) ?_
 refine g_pure 1 (some 56) (.move (.tmp 0)) ?_
 refine g_pure 2 (some 57) (.nilCheck (.tmp 56)) ?_
 refine g_pure 3 (some 58) (.fieldAddr 69 (.tmp 57) 0) ?_
 refine g_takeC 4 (some 59) (.load 67 (.tmp 58)) (by intro w hSw; (obtain ⟨q,q0,q1,q2,q3,q4,q5,q6⟩ := hSw); go_simp; try with_reducible rfl) ?_
 refine g_takeC 5 (some 60) (.load 106 (.tmp 14)) (by intro w hSw; (obtain ⟨q,q0,q1,q2,q3,q4,q5,q6⟩ := hSw); go_simp; try with_reducible rfl) ?_
 refine wpAnyG_ready (rs := [6]) (by kernel_rfl) (by simp) ?_
 refine AllReadyG.cons (o := ⟨some 61,.buildSlice 67 1 #[(0,.tmp 60)],67,_,_,none⟩) rfl (fun K hK => ?_) AllReadyG.nil
 go_simp
 obtain ⟨U1,hU⟩ : ∃ V,V = World.alloc U0 (.cells #[.int .i64 4,.int .i64 0,.string ⟨#[]⟩,.string text,.slice none 0 0,.slice none 0 0,.int .i64 (-1)] 106) := ⟨_,rfl⟩
 rw [← hU]
 have u1 : Kp [] U0 U1 := by rw [hU]; exact (Kp.refl _ _).alloc _
 have k1 : Kp [] W U1 := k0.trans u1 (fun z hz => Or.inl hz)
 have A11 : At U1 U0.heap.size #[.int .i64 4,.int .i64 0,.string ⟨#[]⟩,.string text,.slice none 0 0,.slice none 0 0,.int .i64 (-1)] 106 := by rw [hU]; exact At.new _ _ _
 obtain ⟨g11,hg11⟩ : ∃ g,U0.heap.size = g := ⟨_,rfl⟩
 rw [hg11] at A11 ⊢
 clear hU
 refine hK.out _ _ (HS.out _ (k1.mono (fun z hz => by simp at hz))) (fun hHeld1 => ?_)
 clear hK K hHeld
 try simp only [Act.put,pu1,pu2,pu3]
 refine wpAnyG_ready (rs := [7]) (by kernel_rfl) (by simp) ?_
 refine AllReadyG.cons (o := ⟨some 62,.call { callee := .builtin .append,args := #[.tmp 59,.tmp 61],argTypes := #[67,67] },67,_,_,none⟩) rfl (fun K hK => ?_) AllReadyG.nil
 obtain ⟨v7,U2,run7,kk7,d7,f7,⟨a7,c7,e7⟩,F7⟩ := HG.out U1 g11 k1 A11
 subst e7
 refine step_app2 (by rfl) _ _ 67 67 (by rfl) _ _ (by rfl) (by rfl) run7 ?_
 refine hK.out _ _ (HS.out _ ((k1.mono (T := [g]) (fun z hz => by simp at hz)).trans kk7 (fun z hz => Or.inl hz))) (fun hHeld2 => ?_)
 clear hK K hHeld1
 try simp only [Act.put,pu1,pu2,pu3]
 refine g_pure 8 (some 63) (.nilCheck (.tmp 55)) ?_
 refine g_pure 9 (some 64) (.fieldAddr 69 (.tmp 63) 0) ?_
 refine wpAnyG_free (by kernel_rfl) ?_
 refine wpAny_ready (rs := [10]) (by kernel_rfl) (by simp) ?_
 refine AllReady.cons (o := ⟨none,.store 67 (.tmp 64) (.tmp 62),0,_,_,none⟩) rfl (fun K hK => ?_) AllReady.nil
 go_simp
 refine hK _ _ ?_
 clear hK K
 try simp only [Act.put,pu1,pu2,pu3]
 refine wpAny_done (by kernel_rfl) ?_ _
 have ZZ : Hid _ := F7
 clear F7 HS HG
 go_wp2
 go_ret2
 exact ⟨rfl,ZZ.out⟩
theorem rmk_five (h : Dd tag w d g o c q A pl) (ful : A.Ful) (hn : A.n < 40000) (ns : Int) (name text : ByteArray) (l : List Att) (ao : Option Addr) (n' c' : Nat) (hr : Rp w ao n' c' l) (ha : n' ≤ 10000) :
  Calls Tryz.prog 51 #[.pointer (some ⟨d,0,none⟩),.int .i64 5,.int .i64 ns,.string name,.slice ao n' c',.string text] w fun e w' => e = .returned (.tuple #[.int .i64 (A.n : Int),.int .i64 0]) ∧ ∃ tag',Dn tag' w' d q (A.new (5,0,⟨#[]⟩,[],text)) ∧ Dv tag w tag' w' := by
 have ok := ful.toOk
 have hlt := h.lt
 have hdg := h.ne
 obtain ⟨W,hW⟩ : ∃ W,W = w.alloc (.cells #[.int .i64 5,.int .i64 0,.string ⟨#[]⟩,.string text,.slice none 0 0,.slice none 0 0,.int .i64 (-1)] 106) := ⟨_,rfl⟩
 have kW : Kp [] w W := by rw [hW]; exact (Kp.refl _ _).alloc _
 have aX : At W w.heap.size #[.int .i64 5,.int .i64 0,.string ⟨#[]⟩,.string text,.slice none 0 0,.slice none 0 0,.int .i64 (-1)] 106 := by rw [hW]; exact At.new _ _ _
 have HW : Hid (w.alloc (.cells #[.int .i64 5,.int .i64 0,.string ⟨#[]⟩,.string text,.slice none 0 0,.slice none 0 0,.int .i64 (-1)] 106) = W) := hW.symm
 clear hW
 have rA : Hid (Rk (fun x => w.heap.size ≤ x) 2 W none 0 0 (cs (Lb.attrs (5,0,⟨#[]⟩,[],text)))) := Rk.nil _ _ _ _ _
 clear hr
 have hgx : g ≠ w.heap.size := by omega
 have HS : Hid (∀ V,Kp [g] W V → V.cell? ⟨d,0,none⟩ = some (.slice (some ⟨g,o,none⟩) A.n c) ∧ V.cell? ⟨w.heap.size,0,none⟩ = some (.int .i64 5) ∧ V.cell? ⟨w.heap.size,1,none⟩ = some (.int .i64 0) ∧ V.cell? ⟨w.heap.size,2,none⟩ = some (.string ⟨#[]⟩) ∧ V.cell? ⟨w.heap.size,3,none⟩ = some (.string text) ∧ V.cell? ⟨w.heap.size,4,none⟩ = some (.slice none 0 0) ∧ V.cell? ⟨w.heap.size,5,none⟩ = some (.slice none 0 0) ∧ V.cell? ⟨w.heap.size,6,none⟩ = some (.int .i64 (-1))) := fun V kV => by
  have a7 := aX.kept kV (by simpa using Ne.symm hgx)
  exact ⟨((h.kept kW).hd.kept kV (by simpa using hdg)).cell 0,a7.cell 0,a7.cell 1,a7.cell 2,a7.cell 3,a7.cell 4,a7.cell 5,a7.cell 6⟩
 have HG : Hid (∀ V gb,Kp [] W V → At V gb #[.int .i64 5,.int .i64 0,.string ⟨#[]⟩,.string text,.slice none 0 0,.slice none 0 0,.int .i64 (-1)] 106 → ∃ v' w2,(∀ ty,(Builtin.append_ #[67,67] ty #[.slice (some ⟨g,o,none⟩) A.n c,.slice (some ⟨gb,0,none⟩) 1 1]).run Tryz.prog V = .ok v' w2) ∧ Kp [g] V w2 ∧ w2.cell? ⟨d,0,none⟩ = some (.slice (some ⟨g,o,none⟩) A.n c) ∧ w2.frozen? ⟨d,0,none⟩ = false ∧ (∃ a c',v' = .slice (some a) (A.n + 1) c') ∧ ∃ tag',Dn tag' (w2.setCell ⟨d,0,none⟩ v') d q (A.new (5,0,⟨#[]⟩,[],text)) ∧ Dv tag w tag' (w2.setCell ⟨d,0,none⟩ v')) := fun V gb kV aV =>
  rapp_run (pa := (none,0,0)) (L := (5,0,⟨#[]⟩,[],text)) (u := -1) h (kW.trans kV (fun x hx => Or.inl hx)) (by omega) aV (rA.out.keep (kV.sms (fun x _ hx => by simp at hx))) (Ar.oner_new ok _)
 clear h
 go_enter Tryz.func51,Tryz.ntmps51
 have c0 := (HS.out _ (Kp.refl _ _)).1
 go_upto_region 12 with fail
 rw [HW.out]
 clear HW
 go_upto_region 13 with fail
 clear c0
 obtain ⟨U0,hU0⟩ : ∃ V,V = W.drew := ⟨_,rfl⟩
 have k0 : Kp [] W U0 := by rw [hU0]; exact (Kp.refl _ _).drew
 refine wp_region_g (S := fun V => V.cell? ⟨d,0,none⟩ = some (.slice (some ⟨g,o,none⟩) A.n c) ∧ V.cell? ⟨w.heap.size,0,none⟩ = some (.int .i64 5) ∧ V.cell? ⟨w.heap.size,1,none⟩ = some (.int .i64 0) ∧ V.cell? ⟨w.heap.size,2,none⟩ = some (.string ⟨#[]⟩) ∧ V.cell? ⟨w.heap.size,3,none⟩ = some (.string text) ∧ V.cell? ⟨w.heap.size,4,none⟩ = some (.slice none 0 0) ∧ V.cell? ⟨w.heap.size,5,none⟩ = some (.slice none 0 0) ∧ V.cell? ⟨w.heap.size,6,none⟩ = some (.int .i64 (-1))) (T := [10]) (by kernel_rfl) (HS.out _ ((Kp.refl _ _).drew)) (fun hHeld => ?_)
 rw [← hU0] at hHeld ⊢
 clear hU0
 refine g_pure 0 (some 55) (.move (.tmp 0)) ?_
 refine g_pure 1 (some 56) (.move (.tmp 0)) ?_
 refine g_pure 2 (some 57) (.nilCheck (.tmp 56)) ?_
 refine g_pure 3 (some 58) (.fieldAddr 69 (.tmp 57) 0) ?_
 refine g_takeC 4 (some 59) (.load 67 (.tmp 58)) (by intro w hSw; (obtain ⟨q,q0,q1,q2,q3,q4,q5,q6⟩ := hSw); go_simp; try with_reducible rfl) ?_
 refine g_takeC 5 (some 60) (.load 106 (.tmp 14)) (by intro w hSw; (obtain ⟨q,q0,q1,q2,q3,q4,q5,q6⟩ := hSw); go_simp; try with_reducible rfl) ?_
 refine wpAnyG_ready (rs := [6]) (by kernel_rfl) (by simp) ?_
 refine AllReadyG.cons (o := ⟨some 61,.buildSlice 67 1 #[(0,.tmp 60)],67,_,_,none⟩) rfl (fun K hK => ?_) AllReadyG.nil
 go_simp
 obtain ⟨U1,hU⟩ : ∃ V,V = World.alloc U0 (.cells #[.int .i64 5,.int .i64 0,.string ⟨#[]⟩,.string text,.slice none 0 0,.slice none 0 0,.int .i64 (-1)] 106) := ⟨_,rfl⟩
 rw [← hU]
 have u1 : Kp [] U0 U1 := by rw [hU]; exact (Kp.refl _ _).alloc _
 have k1 : Kp [] W U1 := k0.trans u1 (fun z hz => Or.inl hz)
 have A11 : At U1 U0.heap.size #[.int .i64 5,.int .i64 0,.string ⟨#[]⟩,.string text,.slice none 0 0,.slice none 0 0,.int .i64 (-1)] 106 := by rw [hU]; exact At.new _ _ _
 obtain ⟨g11,hg11⟩ : ∃ g,U0.heap.size = g := ⟨_,rfl⟩
 rw [hg11] at A11 ⊢
 clear hU
 refine hK.out _ _ (HS.out _ (k1.mono (fun z hz => by simp at hz))) (fun hHeld1 => ?_)
 clear hK K hHeld
 try simp only [Act.put,pu1,pu2,pu3]
 refine wpAnyG_ready (rs := [7]) (by kernel_rfl) (by simp) ?_
 refine AllReadyG.cons (o := ⟨some 62,.call { callee := .builtin .append,args := #[.tmp 59,.tmp 61],argTypes := #[67,67] },67,_,_,none⟩) rfl (fun K hK => ?_) AllReadyG.nil
 obtain ⟨v7,U2,run7,kk7,d7,f7,⟨a7,c7,e7⟩,F7⟩ := HG.out U1 g11 k1 A11
 subst e7
 refine step_app2 (by rfl) _ _ 67 67 (by rfl) _ _ (by rfl) (by rfl) run7 ?_
 refine hK.out _ _ (HS.out _ ((k1.mono (T := [g]) (fun z hz => by simp at hz)).trans kk7 (fun z hz => Or.inl hz))) (fun hHeld2 => ?_)
 clear hK K hHeld1
 try simp only [Act.put,pu1,pu2,pu3]
 refine g_pure 8 (some 63) (.nilCheck (.tmp 55)) ?_
 refine g_pure 9 (some 64) (.fieldAddr 69 (.tmp 63) 0) ?_
 refine wpAnyG_free (by kernel_rfl) ?_
 refine wpAny_ready (rs := [10]) (by kernel_rfl) (by simp) ?_
 refine AllReady.cons (o := ⟨none,.store 67 (.tmp 64) (.tmp 62),0,_,_,none⟩) rfl (fun K hK => ?_) AllReady.nil
 go_simp
 refine hK _ _ ?_
 clear hK K
 try simp only [Act.put,pu1,pu2,pu3]
 refine wpAny_done (by kernel_rfl) ?_ _
 have ZZ : Hid _ := F7
 clear F7 HS HG
 go_wp2
 go_ret2
 exact ⟨rfl,ZZ.out⟩
theorem rmk_html (h : Dd tag w d g o c q A pl) (ful : A.Ful) (hn : A.n < 40000) (ns : Int) (name text : ByteArray) (l : List Att) (ao : Option Addr) (n' c' : Nat) (hr : Rp w ao n' c' l) (ha : n' ≤ 10000) (hns : ns = 1) (h0 : name.size ≠ 0) (ht : name ≠ TMPL) :
  Calls Tryz.prog 51 #[.pointer (some ⟨d,0,none⟩),.int .i64 3,.int .i64 ns,.string name,.slice ao n' c',.string text] w fun e w' => e = .returned (.tuple #[.int .i64 (A.n : Int),.int .i64 0]) ∧ ∃ tag',Dn tag' w' d q (A.new (3,1,name,uniq l,⟨#[]⟩)) ∧ Dv tag w tag' w' := by
 have ok := ful.toOk
 subst hns
 have t9 : name.toList.isEmpty = false := ne_empty h0
 have t3 : (name.toList == [116,101,109,112,108,97,116,101]) = false := beq_false_of_ne (fun hh => ht (eqs_iff.1 (by unfold eqs; rw [hh,tmpl_list]; rfl)))
 clear ht
 clear h0
 have hlt := h.lt
 have hdg := h.ne
 obtain ⟨W1,hW1⟩ : ∃ W,W = w.alloc (.cells #[.int .i64 3,.int .i64 0,.string ⟨#[]⟩,.string ⟨#[]⟩,.slice none 0 0,.slice none 0 0,.int .i64 (-1)] 106) := ⟨_,rfl⟩
 have kW1 : Kp [] w W1 := by rw [hW1]; exact (Kp.refl _ _).alloc _
 have aX1 : At W1 w.heap.size #[.int .i64 3,.int .i64 0,.string ⟨#[]⟩,.string ⟨#[]⟩,.slice none 0 0,.slice none 0 0,.int .i64 (-1)] 106 := by rw [hW1]; exact At.new _ _ _
 have HW1 : Hid (w.alloc (.cells #[.int .i64 3,.int .i64 0,.string ⟨#[]⟩,.string ⟨#[]⟩,.slice none 0 0,.slice none 0 0,.int .i64 (-1)] 106) = W1) := hW1.symm
 clear hW1
 have HU := ref_uniq_any W1 l ao n' c' (hr.kept kW1) ha
 clear hr
 have hgx : g ≠ w.heap.size := by omega
 go_enter Tryz.func51,Tryz.ntmps51
 go_upto_region 7 with fail
 rw [HW1.out]
 clear HW1
 go_upto_region 9 with fail
 go_wp2_with (go_at_call 91; refine HU.mono ?_; rintro e W2 ⟨a2,n2,c2,rfl,M2⟩; refine Hid.out ?_)
 unfold Hid
 have aX2 := aX1.kept M2.kp (by simp)
 obtain ⟨x0,x1,x2,x3,x4,x5,x6⟩ : W2.cell? ⟨w.heap.size,0,none⟩ = some (.int .i64 3) ∧ W2.cell? ⟨w.heap.size,1,none⟩ = some (.int .i64 0) ∧ W2.cell? ⟨w.heap.size,2,none⟩ = some (.string ⟨#[]⟩) ∧ W2.cell? ⟨w.heap.size,3,none⟩ = some (.string ⟨#[]⟩) ∧ W2.cell? ⟨w.heap.size,4,none⟩ = some (.slice none 0 0) ∧ W2.cell? ⟨w.heap.size,5,none⟩ = some (.slice none 0 0) ∧ W2.cell? ⟨w.heap.size,6,none⟩ = some (.int .i64 (-1)) := ⟨aX2.cell 0,aX2.cell 1,aX2.cell 2,aX2.cell 3,aX2.cell 4,aX2.cell 5,aX2.cell 6⟩
 have fr := fun j => aX2.free j
 go_upto_region 12 with fail
 obtain ⟨W,hW⟩ : ∃ W,W = ((W2.setCell ⟨w.heap.size,1,none⟩ (.int .i64 1)).setCell ⟨w.heap.size,2,none⟩ (.string name)).setCell ⟨w.heap.size,4,none⟩ (.slice a2 n2 c2) := ⟨_,rfl⟩
 rw [← hW]
 have kx : Kp [w.heap.size] W2 W := by rw [hW]; exact (((Kp.refl [w.heap.size] W2).setCell (Or.inl (by simp)) _).setCell (Or.inl (by simp)) _).setCell (Or.inl (by simp)) _
 have kW : Kp [] w W := (kW1.trans M2.kp (fun x hx => Or.inl hx)).trans kx (fun x hx => by rw [List.mem_singleton.1 hx]; exact Or.inr (Nat.le_refl _))
 have aX : At W w.heap.size #[.int .i64 3,.int .i64 1,.string name,.string ⟨#[]⟩,.slice a2 n2 c2,.slice none 0 0,.int .i64 (-1)] 106 := by rw [hW]; exact ((aX2.set 1 _).set 2 _).set 4 _
 have rA : Hid (Rk (fun x => w.heap.size ≤ x) 2 W a2 n2 c2 (cs (Lb.attrs (3,1,name,uniq l,⟨#[]⟩)))) := (M2.rk0 (Kp.refl [] W1)).keep (kx.sms (fun x hx hs => by rw [List.mem_singleton.1 hs] at hx; have := aX1.lt; omega)) |>.mono (fun x _ hx => by have := kW1.size; omega)
 clear hW kx x0 x1 x2 x3 x4 x5 x6 fr aX2 M2 HU aX1
 have HS : Hid (∀ V,Kp [g] W V → V.cell? ⟨d,0,none⟩ = some (.slice (some ⟨g,o,none⟩) A.n c) ∧ V.cell? ⟨w.heap.size,0,none⟩ = some (.int .i64 3) ∧ V.cell? ⟨w.heap.size,1,none⟩ = some (.int .i64 1) ∧ V.cell? ⟨w.heap.size,2,none⟩ = some (.string name) ∧ V.cell? ⟨w.heap.size,3,none⟩ = some (.string ⟨#[]⟩) ∧ V.cell? ⟨w.heap.size,4,none⟩ = some (.slice a2 n2 c2) ∧ V.cell? ⟨w.heap.size,5,none⟩ = some (.slice none 0 0) ∧ V.cell? ⟨w.heap.size,6,none⟩ = some (.int .i64 (-1))) := fun V kV => by
  have a7 := aX.kept kV (by simpa using Ne.symm hgx)
  exact ⟨((h.kept kW).hd.kept kV (by simpa using hdg)).cell 0,a7.cell 0,a7.cell 1,a7.cell 2,a7.cell 3,a7.cell 4,a7.cell 5,a7.cell 6⟩
 have HG : Hid (∀ V gb,Kp [] W V → At V gb #[.int .i64 3,.int .i64 1,.string name,.string ⟨#[]⟩,.slice a2 n2 c2,.slice none 0 0,.int .i64 (-1)] 106 → ∃ v' w2,(∀ ty,(Builtin.append_ #[67,67] ty #[.slice (some ⟨g,o,none⟩) A.n c,.slice (some ⟨gb,0,none⟩) 1 1]).run Tryz.prog V = .ok v' w2) ∧ Kp [g] V w2 ∧ w2.cell? ⟨d,0,none⟩ = some (.slice (some ⟨g,o,none⟩) A.n c) ∧ w2.frozen? ⟨d,0,none⟩ = false ∧ (∃ a c',v' = .slice (some a) (A.n + 1) c') ∧ ∃ tag',Dn tag' (w2.setCell ⟨d,0,none⟩ v') d q (A.new (3,1,name,uniq l,⟨#[]⟩)) ∧ Dv tag w tag' (w2.setCell ⟨d,0,none⟩ v')) := fun V gb kV aV =>
  rapp_run (pa := (a2,n2,c2)) (L := (3,1,name,uniq l,⟨#[]⟩)) (u := -1) h (kW.trans kV (fun x hx => Or.inl hx)) (by omega) aV (rA.out.keep (kV.sms (fun x _ hx => by simp at hx))) (Ar.oner_new ok _)
 clear h
 have c0 := (HS.out _ (Kp.refl _ _)).1
 go_upto_region 13 with fail
 clear c0
 obtain ⟨U0,hU0⟩ : ∃ V,V = W.drew := ⟨_,rfl⟩
 have k0 : Kp [] W U0 := by rw [hU0]; exact (Kp.refl _ _).drew
 refine wp_region_g (S := fun V => V.cell? ⟨d,0,none⟩ = some (.slice (some ⟨g,o,none⟩) A.n c) ∧ V.cell? ⟨w.heap.size,0,none⟩ = some (.int .i64 3) ∧ V.cell? ⟨w.heap.size,1,none⟩ = some (.int .i64 1) ∧ V.cell? ⟨w.heap.size,2,none⟩ = some (.string name) ∧ V.cell? ⟨w.heap.size,3,none⟩ = some (.string ⟨#[]⟩) ∧ V.cell? ⟨w.heap.size,4,none⟩ = some (.slice a2 n2 c2) ∧ V.cell? ⟨w.heap.size,5,none⟩ = some (.slice none 0 0) ∧ V.cell? ⟨w.heap.size,6,none⟩ = some (.int .i64 (-1))) (T := [10]) (by kernel_rfl) (HS.out _ ((Kp.refl _ _).drew)) (fun hHeld => ?_)
 rw [← hU0] at hHeld ⊢
 clear hU0
 refine g_pure 0 (some 55) (.move (.tmp 0)) ?_
 refine g_pure 1 (some 56) (.move (.tmp 0)) ?_
 refine g_pure 2 (some 57) (.nilCheck (.tmp 56)) ?_
 refine g_pure 3 (some 58) (.fieldAddr 69 (.tmp 57) 0) ?_
 refine g_takeC 4 (some 59) (.load 67 (.tmp 58)) (by intro w hSw; (obtain ⟨q,q0,q1,q2,q3,q4,q5,q6⟩ := hSw); go_simp; try with_reducible rfl) ?_
 refine g_takeC 5 (some 60) (.load 106 (.tmp 14)) (by intro w hSw; (obtain ⟨q,q0,q1,q2,q3,q4,q5,q6⟩ := hSw); go_simp; try with_reducible rfl) ?_
 refine wpAnyG_ready (rs := [6]) (by kernel_rfl) (by simp) ?_
 refine AllReadyG.cons (o := ⟨some 61,.buildSlice 67 1 #[(0,.tmp 60)],67,_,_,none⟩) rfl (fun K hK => ?_) AllReadyG.nil
 go_simp
 obtain ⟨U1,hU⟩ : ∃ V,V = World.alloc U0 (.cells #[.int .i64 3,.int .i64 1,.string name,.string ⟨#[]⟩,.slice a2 n2 c2,.slice none 0 0,.int .i64 (-1)] 106) := ⟨_,rfl⟩
 rw [← hU]
 have u1 : Kp [] U0 U1 := by rw [hU]; exact (Kp.refl _ _).alloc _
 have k1 : Kp [] W U1 := k0.trans u1 (fun z hz => Or.inl hz)
 have A11 : At U1 U0.heap.size #[.int .i64 3,.int .i64 1,.string name,.string ⟨#[]⟩,.slice a2 n2 c2,.slice none 0 0,.int .i64 (-1)] 106 := by rw [hU]; exact At.new _ _ _
 obtain ⟨g11,hg11⟩ : ∃ g,U0.heap.size = g := ⟨_,rfl⟩
 rw [hg11] at A11 ⊢
 clear hU
 refine hK.out _ _ (HS.out _ (k1.mono (fun z hz => by simp at hz))) (fun hHeld1 => ?_)
 clear hK K hHeld
 try simp only [Act.put,pu1,pu2,pu3]
 refine wpAnyG_ready (rs := [7]) (by kernel_rfl) (by simp) ?_
 refine AllReadyG.cons (o := ⟨some 62,.call { callee := .builtin .append,args := #[.tmp 59,.tmp 61],argTypes := #[67,67] },67,_,_,none⟩) rfl (fun K hK => ?_) AllReadyG.nil
 obtain ⟨v7,U2,run7,kk7,d7,f7,⟨a7,c7,e7⟩,F7⟩ := HG.out U1 g11 k1 A11
 subst e7
 refine step_app2 (by rfl) _ _ 67 67 (by rfl) _ _ (by rfl) (by rfl) run7 ?_
 refine hK.out _ _ (HS.out _ ((k1.mono (T := [g]) (fun z hz => by simp at hz)).trans kk7 (fun z hz => Or.inl hz))) (fun hHeld2 => ?_)
 clear hK K hHeld1
 try simp only [Act.put,pu1,pu2,pu3]
 refine g_pure 8 (some 63) (.nilCheck (.tmp 55)) ?_
 refine g_pure 9 (some 64) (.fieldAddr 69 (.tmp 63) 0) ?_
 refine wpAnyG_free (by kernel_rfl) ?_
 refine wpAny_ready (rs := [10]) (by kernel_rfl) (by simp) ?_
 refine AllReady.cons (o := ⟨none,.store 67 (.tmp 64) (.tmp 62),0,_,_,none⟩) rfl (fun K hK => ?_) AllReady.nil
 go_simp
 refine hK _ _ ?_
 clear hK K
 try simp only [Act.put,pu1,pu2,pu3]
 refine wpAny_done (by kernel_rfl) ?_ _
 have ZZ : Hid _ := F7
 clear F7 HS HG
 go_wp2
 go_ret2
 exact ⟨rfl,ZZ.out⟩
theorem rmk_svg (h : Dd tag w d g o c q A pl) (ful : A.Ful) (hn : A.n < 40000) (ns : Int) (name text : ByteArray) (l : List Att) (ao : Option Addr) (n' c' : Nat) (hr : Rp w ao n' c' l) (ha : n' ≤ 10000) (hns : ns = 2) (h0 : name.size ≠ 0) :
  Calls Tryz.prog 51 #[.pointer (some ⟨d,0,none⟩),.int .i64 3,.int .i64 ns,.string name,.slice ao n' c',.string text] w fun e w' => e = .returned (.tuple #[.int .i64 (A.n : Int),.int .i64 0]) ∧ ∃ tag',Dn tag' w' d q (A.new (3,2,name,uniq l,⟨#[]⟩)) ∧ Dv tag w tag' w' := by
 have ok := ful.toOk
 subst hns
 have t9 : name.toList.isEmpty = false := ne_empty h0
 clear h0
 have hlt := h.lt
 have hdg := h.ne
 obtain ⟨W1,hW1⟩ : ∃ W,W = w.alloc (.cells #[.int .i64 3,.int .i64 0,.string ⟨#[]⟩,.string ⟨#[]⟩,.slice none 0 0,.slice none 0 0,.int .i64 (-1)] 106) := ⟨_,rfl⟩
 have kW1 : Kp [] w W1 := by rw [hW1]; exact (Kp.refl _ _).alloc _
 have aX1 : At W1 w.heap.size #[.int .i64 3,.int .i64 0,.string ⟨#[]⟩,.string ⟨#[]⟩,.slice none 0 0,.slice none 0 0,.int .i64 (-1)] 106 := by rw [hW1]; exact At.new _ _ _
 have HW1 : Hid (w.alloc (.cells #[.int .i64 3,.int .i64 0,.string ⟨#[]⟩,.string ⟨#[]⟩,.slice none 0 0,.slice none 0 0,.int .i64 (-1)] 106) = W1) := hW1.symm
 clear hW1
 have HU := ref_uniq_any W1 l ao n' c' (hr.kept kW1) ha
 clear hr
 have hgx : g ≠ w.heap.size := by omega
 go_enter Tryz.func51,Tryz.ntmps51
 go_upto_region 7 with fail
 rw [HW1.out]
 clear HW1
 go_upto_region 9 with fail
 go_wp2_with (go_at_call 91; refine HU.mono ?_; rintro e W2 ⟨a2,n2,c2,rfl,M2⟩; refine Hid.out ?_)
 unfold Hid
 have aX2 := aX1.kept M2.kp (by simp)
 obtain ⟨x0,x1,x2,x3,x4,x5,x6⟩ : W2.cell? ⟨w.heap.size,0,none⟩ = some (.int .i64 3) ∧ W2.cell? ⟨w.heap.size,1,none⟩ = some (.int .i64 0) ∧ W2.cell? ⟨w.heap.size,2,none⟩ = some (.string ⟨#[]⟩) ∧ W2.cell? ⟨w.heap.size,3,none⟩ = some (.string ⟨#[]⟩) ∧ W2.cell? ⟨w.heap.size,4,none⟩ = some (.slice none 0 0) ∧ W2.cell? ⟨w.heap.size,5,none⟩ = some (.slice none 0 0) ∧ W2.cell? ⟨w.heap.size,6,none⟩ = some (.int .i64 (-1)) := ⟨aX2.cell 0,aX2.cell 1,aX2.cell 2,aX2.cell 3,aX2.cell 4,aX2.cell 5,aX2.cell 6⟩
 have fr := fun j => aX2.free j
 go_upto_region 12 with fail
 obtain ⟨W,hW⟩ : ∃ W,W = ((W2.setCell ⟨w.heap.size,1,none⟩ (.int .i64 2)).setCell ⟨w.heap.size,2,none⟩ (.string name)).setCell ⟨w.heap.size,4,none⟩ (.slice a2 n2 c2) := ⟨_,rfl⟩
 rw [← hW]
 have kx : Kp [w.heap.size] W2 W := by rw [hW]; exact (((Kp.refl [w.heap.size] W2).setCell (Or.inl (by simp)) _).setCell (Or.inl (by simp)) _).setCell (Or.inl (by simp)) _
 have kW : Kp [] w W := (kW1.trans M2.kp (fun x hx => Or.inl hx)).trans kx (fun x hx => by rw [List.mem_singleton.1 hx]; exact Or.inr (Nat.le_refl _))
 have aX : At W w.heap.size #[.int .i64 3,.int .i64 2,.string name,.string ⟨#[]⟩,.slice a2 n2 c2,.slice none 0 0,.int .i64 (-1)] 106 := by rw [hW]; exact ((aX2.set 1 _).set 2 _).set 4 _
 have rA : Hid (Rk (fun x => w.heap.size ≤ x) 2 W a2 n2 c2 (cs (Lb.attrs (3,2,name,uniq l,⟨#[]⟩)))) := (M2.rk0 (Kp.refl [] W1)).keep (kx.sms (fun x hx hs => by rw [List.mem_singleton.1 hs] at hx; have := aX1.lt; omega)) |>.mono (fun x _ hx => by have := kW1.size; omega)
 clear hW kx x0 x1 x2 x3 x4 x5 x6 fr aX2 M2 HU aX1
 have HS : Hid (∀ V,Kp [g] W V → V.cell? ⟨d,0,none⟩ = some (.slice (some ⟨g,o,none⟩) A.n c) ∧ V.cell? ⟨w.heap.size,0,none⟩ = some (.int .i64 3) ∧ V.cell? ⟨w.heap.size,1,none⟩ = some (.int .i64 2) ∧ V.cell? ⟨w.heap.size,2,none⟩ = some (.string name) ∧ V.cell? ⟨w.heap.size,3,none⟩ = some (.string ⟨#[]⟩) ∧ V.cell? ⟨w.heap.size,4,none⟩ = some (.slice a2 n2 c2) ∧ V.cell? ⟨w.heap.size,5,none⟩ = some (.slice none 0 0) ∧ V.cell? ⟨w.heap.size,6,none⟩ = some (.int .i64 (-1))) := fun V kV => by
  have a7 := aX.kept kV (by simpa using Ne.symm hgx)
  exact ⟨((h.kept kW).hd.kept kV (by simpa using hdg)).cell 0,a7.cell 0,a7.cell 1,a7.cell 2,a7.cell 3,a7.cell 4,a7.cell 5,a7.cell 6⟩
 have HG : Hid (∀ V gb,Kp [] W V → At V gb #[.int .i64 3,.int .i64 2,.string name,.string ⟨#[]⟩,.slice a2 n2 c2,.slice none 0 0,.int .i64 (-1)] 106 → ∃ v' w2,(∀ ty,(Builtin.append_ #[67,67] ty #[.slice (some ⟨g,o,none⟩) A.n c,.slice (some ⟨gb,0,none⟩) 1 1]).run Tryz.prog V = .ok v' w2) ∧ Kp [g] V w2 ∧ w2.cell? ⟨d,0,none⟩ = some (.slice (some ⟨g,o,none⟩) A.n c) ∧ w2.frozen? ⟨d,0,none⟩ = false ∧ (∃ a c',v' = .slice (some a) (A.n + 1) c') ∧ ∃ tag',Dn tag' (w2.setCell ⟨d,0,none⟩ v') d q (A.new (3,2,name,uniq l,⟨#[]⟩)) ∧ Dv tag w tag' (w2.setCell ⟨d,0,none⟩ v')) := fun V gb kV aV =>
  rapp_run (pa := (a2,n2,c2)) (L := (3,2,name,uniq l,⟨#[]⟩)) (u := -1) h (kW.trans kV (fun x hx => Or.inl hx)) (by omega) aV (rA.out.keep (kV.sms (fun x _ hx => by simp at hx))) (Ar.oner_new ok _)
 clear h
 have c0 := (HS.out _ (Kp.refl _ _)).1
 go_upto_region 13 with fail
 clear c0
 obtain ⟨U0,hU0⟩ : ∃ V,V = W.drew := ⟨_,rfl⟩
 have k0 : Kp [] W U0 := by rw [hU0]; exact (Kp.refl _ _).drew
 refine wp_region_g (S := fun V => V.cell? ⟨d,0,none⟩ = some (.slice (some ⟨g,o,none⟩) A.n c) ∧ V.cell? ⟨w.heap.size,0,none⟩ = some (.int .i64 3) ∧ V.cell? ⟨w.heap.size,1,none⟩ = some (.int .i64 2) ∧ V.cell? ⟨w.heap.size,2,none⟩ = some (.string name) ∧ V.cell? ⟨w.heap.size,3,none⟩ = some (.string ⟨#[]⟩) ∧ V.cell? ⟨w.heap.size,4,none⟩ = some (.slice a2 n2 c2) ∧ V.cell? ⟨w.heap.size,5,none⟩ = some (.slice none 0 0) ∧ V.cell? ⟨w.heap.size,6,none⟩ = some (.int .i64 (-1))) (T := [10]) (by kernel_rfl) (HS.out _ ((Kp.refl _ _).drew)) (fun hHeld => ?_)
 rw [← hU0] at hHeld ⊢
 clear hU0
 refine g_pure 0 (some 55) (.move (.tmp 0)) ?_
 refine g_pure 1 (some 56) (.move (.tmp 0)) ?_
 refine g_pure 2 (some 57) (.nilCheck (.tmp 56)) ?_
 refine g_pure 3 (some 58) (.fieldAddr 69 (.tmp 57) 0) ?_
 refine g_takeC 4 (some 59) (.load 67 (.tmp 58)) (by intro w hSw; (obtain ⟨q,q0,q1,q2,q3,q4,q5,q6⟩ := hSw); go_simp; try with_reducible rfl) ?_
 refine g_takeC 5 (some 60) (.load 106 (.tmp 14)) (by intro w hSw; (obtain ⟨q,q0,q1,q2,q3,q4,q5,q6⟩ := hSw); go_simp; try with_reducible rfl) ?_
 refine wpAnyG_ready (rs := [6]) (by kernel_rfl) (by simp) ?_
 refine AllReadyG.cons (o := ⟨some 61,.buildSlice 67 1 #[(0,.tmp 60)],67,_,_,none⟩) rfl (fun K hK => ?_) AllReadyG.nil
 go_simp
 obtain ⟨U1,hU⟩ : ∃ V,V = World.alloc U0 (.cells #[.int .i64 3,.int .i64 2,.string name,.string ⟨#[]⟩,.slice a2 n2 c2,.slice none 0 0,.int .i64 (-1)] 106) := ⟨_,rfl⟩
 rw [← hU]
 have u1 : Kp [] U0 U1 := by rw [hU]; exact (Kp.refl _ _).alloc _
 have k1 : Kp [] W U1 := k0.trans u1 (fun z hz => Or.inl hz)
 have A11 : At U1 U0.heap.size #[.int .i64 3,.int .i64 2,.string name,.string ⟨#[]⟩,.slice a2 n2 c2,.slice none 0 0,.int .i64 (-1)] 106 := by rw [hU]; exact At.new _ _ _
 obtain ⟨g11,hg11⟩ : ∃ g,U0.heap.size = g := ⟨_,rfl⟩
 rw [hg11] at A11 ⊢
 clear hU
 refine hK.out _ _ (HS.out _ (k1.mono (fun z hz => by simp at hz))) (fun hHeld1 => ?_)
 clear hK K hHeld
 try simp only [Act.put,pu1,pu2,pu3]
 refine wpAnyG_ready (rs := [7]) (by kernel_rfl) (by simp) ?_
 refine AllReadyG.cons (o := ⟨some 62,.call { callee := .builtin .append,args := #[.tmp 59,.tmp 61],argTypes := #[67,67] },67,_,_,none⟩) rfl (fun K hK => ?_) AllReadyG.nil
 obtain ⟨v7,U2,run7,kk7,d7,f7,⟨a7,c7,e7⟩,F7⟩ := HG.out U1 g11 k1 A11
 subst e7
 refine step_app2 (by rfl) _ _ 67 67 (by rfl) _ _ (by rfl) (by rfl) run7 ?_
 refine hK.out _ _ (HS.out _ ((k1.mono (T := [g]) (fun z hz => by simp at hz)).trans kk7 (fun z hz => Or.inl hz))) (fun hHeld2 => ?_)
 clear hK K hHeld1
 try simp only [Act.put,pu1,pu2,pu3]
 refine g_pure 8 (some 63) (.nilCheck (.tmp 55)) ?_
 refine g_pure 9 (some 64) (.fieldAddr 69 (.tmp 63) 0) ?_
 refine wpAnyG_free (by kernel_rfl) ?_
 refine wpAny_ready (rs := [10]) (by kernel_rfl) (by simp) ?_
 refine AllReady.cons (o := ⟨none,.store 67 (.tmp 64) (.tmp 62),0,_,_,none⟩) rfl (fun K hK => ?_) AllReady.nil
 go_simp
 refine hK _ _ ?_
 clear hK K
 try simp only [Act.put,pu1,pu2,pu3]
 refine wpAny_done (by kernel_rfl) ?_ _
 have ZZ : Hid _ := F7
 clear F7 HS HG
 go_wp2
 go_ret2
 exact ⟨rfl,ZZ.out⟩
theorem rmk_tmpl (h : Dd tag w d g o c q A pl) (ful : A.Ful) (hn : A.n < 40000) (ns : Int) (name text : ByteArray) (l : List Att) (ao : Option Addr) (n' c' : Nat) (hr : Rp w ao n' c' l) (ha : n' ≤ 10000) (hns : ns = 1) (h0 : name.size ≠ 0) (ht : name = TMPL) :
  Calls Tryz.prog 51 #[.pointer (some ⟨d,0,none⟩),.int .i64 3,.int .i64 ns,.string name,.slice ao n' c',.string text] w fun e w' => e = .returned (.tuple #[.int .i64 (A.n : Int),.int .i64 0]) ∧ ∃ tag',Dn tag' w' d q (A.newT (3,1,name,uniq l,⟨#[]⟩)) ∧ Dv tag w tag' w' := by
 have ok := ful.toOk
 subst hns
 have t9 : name.toList.isEmpty = false := ne_empty h0
 have t3 : (name.toList == [116,101,109,112,108,97,116,101]) = true := by rw [ht,tmpl_list]; rfl
 clear ht
 clear h0
 have hlt := h.lt
 have hdg := h.ne
 obtain ⟨W1,hW1⟩ : ∃ W,W = w.alloc (.cells #[.int .i64 3,.int .i64 0,.string ⟨#[]⟩,.string ⟨#[]⟩,.slice none 0 0,.slice none 0 0,.int .i64 (-1)] 106) := ⟨_,rfl⟩
 have kW1 : Kp [] w W1 := by rw [hW1]; exact (Kp.refl _ _).alloc _
 have aX1 : At W1 w.heap.size #[.int .i64 3,.int .i64 0,.string ⟨#[]⟩,.string ⟨#[]⟩,.slice none 0 0,.slice none 0 0,.int .i64 (-1)] 106 := by rw [hW1]; exact At.new _ _ _
 have HW1 : Hid (w.alloc (.cells #[.int .i64 3,.int .i64 0,.string ⟨#[]⟩,.string ⟨#[]⟩,.slice none 0 0,.slice none 0 0,.int .i64 (-1)] 106) = W1) := hW1.symm
 clear hW1
 have HU := ref_uniq_any W1 l ao n' c' (hr.kept kW1) ha
 clear hr
 have hgx : g ≠ w.heap.size := by omega
 go_enter Tryz.func51,Tryz.ntmps51
 go_upto_region 7 with fail
 rw [HW1.out]
 clear HW1
 go_upto_region 9 with fail
 go_wp2_with (go_at_call 91; refine HU.mono ?_; rintro e W2 ⟨a2,n2,c2,rfl,M2⟩; refine Hid.out ?_)
 unfold Hid
 have aX2 := aX1.kept M2.kp (by simp)
 obtain ⟨x0,x1,x2,x3,x4,x5,x6⟩ : W2.cell? ⟨w.heap.size,0,none⟩ = some (.int .i64 3) ∧ W2.cell? ⟨w.heap.size,1,none⟩ = some (.int .i64 0) ∧ W2.cell? ⟨w.heap.size,2,none⟩ = some (.string ⟨#[]⟩) ∧ W2.cell? ⟨w.heap.size,3,none⟩ = some (.string ⟨#[]⟩) ∧ W2.cell? ⟨w.heap.size,4,none⟩ = some (.slice none 0 0) ∧ W2.cell? ⟨w.heap.size,5,none⟩ = some (.slice none 0 0) ∧ W2.cell? ⟨w.heap.size,6,none⟩ = some (.int .i64 (-1)) := ⟨aX2.cell 0,aX2.cell 1,aX2.cell 2,aX2.cell 3,aX2.cell 4,aX2.cell 5,aX2.cell 6⟩
 have fr := fun j => aX2.free j
 go_upto_region 12 with fail
 obtain ⟨W,hW⟩ : ∃ W,W = ((W2.setCell ⟨w.heap.size,1,none⟩ (.int .i64 1)).setCell ⟨w.heap.size,2,none⟩ (.string name)).setCell ⟨w.heap.size,4,none⟩ (.slice a2 n2 c2) := ⟨_,rfl⟩
 rw [← hW]
 have kx : Kp [w.heap.size] W2 W := by rw [hW]; exact (((Kp.refl [w.heap.size] W2).setCell (Or.inl (by simp)) _).setCell (Or.inl (by simp)) _).setCell (Or.inl (by simp)) _
 have kW : Kp [] w W := (kW1.trans M2.kp (fun x hx => Or.inl hx)).trans kx (fun x hx => by rw [List.mem_singleton.1 hx]; exact Or.inr (Nat.le_refl _))
 have aX : At W w.heap.size #[.int .i64 3,.int .i64 1,.string name,.string ⟨#[]⟩,.slice a2 n2 c2,.slice none 0 0,.int .i64 (-1)] 106 := by rw [hW]; exact ((aX2.set 1 _).set 2 _).set 4 _
 have rA : Hid (Rk (fun x => w.heap.size ≤ x) 2 W a2 n2 c2 (cs (Lb.attrs (3,1,name,uniq l,⟨#[]⟩)))) := (M2.rk0 (Kp.refl [] W1)).keep (kx.sms (fun x hx hs => by rw [List.mem_singleton.1 hs] at hx; have := aX1.lt; omega)) |>.mono (fun x _ hx => by have := kW1.size; omega)
 clear hW kx x0 x1 x2 x3 x4 x5 x6 fr aX2 M2 HU aX1
 have HS : Hid (∀ V,Kp [g] W V → V.cell? ⟨d,0,none⟩ = some (.slice (some ⟨g,o,none⟩) A.n c) ∧ V.cell? ⟨w.heap.size,0,none⟩ = some (.int .i64 3) ∧ V.cell? ⟨w.heap.size,1,none⟩ = some (.int .i64 1) ∧ V.cell? ⟨w.heap.size,2,none⟩ = some (.string name) ∧ V.cell? ⟨w.heap.size,3,none⟩ = some (.string ⟨#[]⟩) ∧ V.cell? ⟨w.heap.size,4,none⟩ = some (.slice a2 n2 c2) ∧ V.cell? ⟨w.heap.size,5,none⟩ = some (.slice none 0 0) ∧ V.cell? ⟨w.heap.size,6,none⟩ = some (.int .i64 (-1))) := fun V kV => by
  have a7 := aX.kept kV (by simpa using Ne.symm hgx)
  exact ⟨((h.kept kW).hd.kept kV (by simpa using hdg)).cell 0,a7.cell 0,a7.cell 1,a7.cell 2,a7.cell 3,a7.cell 4,a7.cell 5,a7.cell 6⟩
 have HG : Hid (∀ V gb,Kp [] W V → At V gb #[.int .i64 3,.int .i64 1,.string name,.string ⟨#[]⟩,.slice a2 n2 c2,.slice none 0 0,.int .i64 (-1)] 106 → ∃ v' w2,(∀ ty,(Builtin.append_ #[67,67] ty #[.slice (some ⟨g,o,none⟩) A.n c,.slice (some ⟨gb,0,none⟩) 1 1]).run Tryz.prog V = .ok v' w2) ∧ Kp [g] V w2 ∧ w2.cell? ⟨d,0,none⟩ = some (.slice (some ⟨g,o,none⟩) A.n c) ∧ w2.frozen? ⟨d,0,none⟩ = false ∧ (∃ a c',v' = .slice (some a) (A.n + 1) c') ∧ ∃ tag',Dn tag' (w2.setCell ⟨d,0,none⟩ v') d q (A.new (3,1,name,uniq l,⟨#[]⟩)) ∧ Dv tag w tag' (w2.setCell ⟨d,0,none⟩ v')) := fun V gb kV aV =>
  rapp_run (pa := (a2,n2,c2)) (L := (3,1,name,uniq l,⟨#[]⟩)) (u := -1) h (kW.trans kV (fun x hx => Or.inl hx)) (by omega) aV (rA.out.keep (kV.sms (fun x _ hx => by simp at hx))) (Ar.oner_new ok _)
 clear h
 have c0 := (HS.out _ (Kp.refl _ _)).1
 go_upto_region 13 with fail
 clear c0
 obtain ⟨U0,hU0⟩ : ∃ V,V = W.drew := ⟨_,rfl⟩
 have k0 : Kp [] W U0 := by rw [hU0]; exact (Kp.refl _ _).drew
 refine wp_region_g (S := fun V => V.cell? ⟨d,0,none⟩ = some (.slice (some ⟨g,o,none⟩) A.n c) ∧ V.cell? ⟨w.heap.size,0,none⟩ = some (.int .i64 3) ∧ V.cell? ⟨w.heap.size,1,none⟩ = some (.int .i64 1) ∧ V.cell? ⟨w.heap.size,2,none⟩ = some (.string name) ∧ V.cell? ⟨w.heap.size,3,none⟩ = some (.string ⟨#[]⟩) ∧ V.cell? ⟨w.heap.size,4,none⟩ = some (.slice a2 n2 c2) ∧ V.cell? ⟨w.heap.size,5,none⟩ = some (.slice none 0 0) ∧ V.cell? ⟨w.heap.size,6,none⟩ = some (.int .i64 (-1))) (T := [10]) (by kernel_rfl) (HS.out _ ((Kp.refl _ _).drew)) (fun hHeld => ?_)
 rw [← hU0] at hHeld ⊢
 clear hU0
 refine g_pure 0 (some 55) (.move (.tmp 0)) ?_
 refine g_pure 1 (some 56) (.move (.tmp 0)) ?_
 refine g_pure 2 (some 57) (.nilCheck (.tmp 56)) ?_
 refine g_pure 3 (some 58) (.fieldAddr 69 (.tmp 57) 0) ?_
 refine g_takeC 4 (some 59) (.load 67 (.tmp 58)) (by intro w hSw; (obtain ⟨q,q0,q1,q2,q3,q4,q5,q6⟩ := hSw); go_simp; try with_reducible rfl) ?_
 refine g_takeC 5 (some 60) (.load 106 (.tmp 14)) (by intro w hSw; (obtain ⟨q,q0,q1,q2,q3,q4,q5,q6⟩ := hSw); go_simp; try with_reducible rfl) ?_
 refine wpAnyG_ready (rs := [6]) (by kernel_rfl) (by simp) ?_
 refine AllReadyG.cons (o := ⟨some 61,.buildSlice 67 1 #[(0,.tmp 60)],67,_,_,none⟩) rfl (fun K hK => ?_) AllReadyG.nil
 go_simp
 obtain ⟨U1,hU⟩ : ∃ V,V = World.alloc U0 (.cells #[.int .i64 3,.int .i64 1,.string name,.string ⟨#[]⟩,.slice a2 n2 c2,.slice none 0 0,.int .i64 (-1)] 106) := ⟨_,rfl⟩
 rw [← hU]
 have u1 : Kp [] U0 U1 := by rw [hU]; exact (Kp.refl _ _).alloc _
 have k1 : Kp [] W U1 := k0.trans u1 (fun z hz => Or.inl hz)
 have A11 : At U1 U0.heap.size #[.int .i64 3,.int .i64 1,.string name,.string ⟨#[]⟩,.slice a2 n2 c2,.slice none 0 0,.int .i64 (-1)] 106 := by rw [hU]; exact At.new _ _ _
 obtain ⟨g11,hg11⟩ : ∃ g,U0.heap.size = g := ⟨_,rfl⟩
 rw [hg11] at A11 ⊢
 clear hU
 refine hK.out _ _ (HS.out _ (k1.mono (fun z hz => by simp at hz))) (fun hHeld1 => ?_)
 clear hK K hHeld
 try simp only [Act.put,pu1,pu2,pu3]
 refine wpAnyG_ready (rs := [7]) (by kernel_rfl) (by simp) ?_
 refine AllReadyG.cons (o := ⟨some 62,.call { callee := .builtin .append,args := #[.tmp 59,.tmp 61],argTypes := #[67,67] },67,_,_,none⟩) rfl (fun K hK => ?_) AllReadyG.nil
 obtain ⟨v7,U2,run7,kk7,d7,f7,⟨a7,c7,e7⟩,F7⟩ := HG.out U1 g11 k1 A11
 subst e7
 refine step_app2 (by rfl) _ _ 67 67 (by rfl) _ _ (by rfl) (by rfl) run7 ?_
 refine hK.out _ _ (HS.out _ ((k1.mono (T := [g]) (fun z hz => by simp at hz)).trans kk7 (fun z hz => Or.inl hz))) (fun hHeld2 => ?_)
 clear hK K hHeld1
 try simp only [Act.put,pu1,pu2,pu3]
 refine g_pure 8 (some 63) (.nilCheck (.tmp 55)) ?_
 refine g_pure 9 (some 64) (.fieldAddr 69 (.tmp 63) 0) ?_
 refine wpAnyG_free (by kernel_rfl) ?_
 refine wpAny_ready (rs := [10]) (by kernel_rfl) (by simp) ?_
 refine AllReady.cons (o := ⟨none,.store 67 (.tmp 64) (.tmp 62),0,_,_,none⟩) rfl (fun K hK => ?_) AllReady.nil
 go_simp
 refine hK _ _ ?_
 clear hK K
 try simp only [Act.put,pu1,pu2,pu3]
 refine wpAny_done (by kernel_rfl) ?_ _
 obtain ⟨tag3,D3,V3⟩ := F7
 obtain ⟨W3,hW3⟩ : ∃ V,V = U2.setCell ⟨d,0,none⟩ (.slice (some a7) (A.n + 1) c7) := ⟨_,rfl⟩
 rw [← hW3] at D3 V3 ⊢
 clear hW3 d7 f7 kk7 run7 A11 k1 u1 HS HG
 obtain ⟨g3,o3,c3,pl3,h3⟩ := D3
 obtain ⟨W4,hW4⟩ : ∃ V,V = W3.alloc (.cells #[.int .i64 6,.int .i64 0,.string ⟨#[]⟩,.string ⟨#[]⟩,.slice none 0 0,.slice none 0 0,.int .i64 (A.n : Int)] 106) := ⟨_,rfl⟩
 have k4 : Kp [] W3 W4 := by rw [hW4]; exact (Kp.refl _ _).alloc _
 have a4 : At W4 W3.heap.size #[.int .i64 6,.int .i64 0,.string ⟨#[]⟩,.string ⟨#[]⟩,.slice none 0 0,.slice none 0 0,.int .i64 (A.n : Int)] 106 := by rw [hW4]; exact At.new _ _ _
 obtain ⟨v5,W5,run5,kk5,d5,f5,⟨a5,c5,e5⟩,tag6,D6,V6⟩ := rapp_run (A' := A2 A (3,1,name,uniq l,⟨#[]⟩)) (pa := (none,0,0)) (L := (6,0,⟨#[]⟩,[],⟨#[]⟩)) (u := (A.n : Int)) h3 k4 (show A.n + 1 < 50000 by omega) a4 (Rk.nil _ _ _ _ _) (a2_oner ok _)
 subst e5
 have c0 := h3.head.1
 rw [show (A.new (3,1,name,uniq l,⟨#[]⟩)).n = A.n + 1 from rfl] at run5 d5 c0 D6 V6
 rw [hW4] at run5
 clear hW4 a4
 obtain ⟨m,hm⟩ : ∃ m,A.n + 1 + 1 = m := ⟨_,rfl⟩
 rw [hm] at run5 D6 V6
 obtain ⟨W6,hW6⟩ : ∃ V,V = W5.setCell ⟨d,0,none⟩ (.slice (some a5) m c5) := ⟨_,rfl⟩
 rw [← hW6] at D6 V6
 have HW6 : Hid (W5.setCell ⟨d,0,none⟩ (.slice (some a5) m c5) = W6) := hW6.symm
 clear hW6
 have hD6 : Hid _ := D6
 have hV6 : Hid (Dv tag w tag6 W6) := V3.trans V6
 clear D6 V6 V3 h3 k4 kk5
 go_upto_region 16 with (at_builtin; refine Lib.wpList_append_run _ rfl _ _ _ _ rfl _ _ rfl rfl _ _ (run5 _) ?_)
 rw [HW6.out]
 clear HW6 run5 d5 f5 c0
 obtain ⟨g6,o6,c6,pl6,h6⟩ := hD6.out
 obtain ⟨W7,hW7⟩ : ∃ V,V = W6.alloc (.cells #[.int .i64 ((A.n : Int) + 1)] 3) := ⟨_,rfl⟩
 have k7 : Kp [] W6 W7 := by rw [hW7]; exact (Kp.refl _ _).alloc _
 have M7 : Made W6 W7 3 (some ⟨W6.heap.size,0,none⟩) 1 1 (iv [A.n + 1]) := made_one hW7
 obtain ⟨P8,e8,_⟩ := h6.kids M7 (p := A.n) (x := A.n) (show A.n < A.n + 2 by omega) (show A.n < A.n + 2 by omega) none
 have HF : Hid (∃ tag',Dn tag' (W7.setCell ⟨g6,o6 + A.n * 7 + 5,none⟩ (.slice (some ⟨W6.heap.size,0,none⟩) 1 1)) d q (A.newT (3,1,name,uniq l,⟨#[]⟩)) ∧ Dv tag w tag' (W7.setCell ⟨g6,o6 + A.n * 7 + 5,none⟩ (.slice (some ⟨W6.heap.size,0,none⟩) 1 1))) := by
  obtain ⟨tag9,D9,V9⟩ := dn_turn h6 (kpg (k7.mono (T := [g6]) (fun x hx => by simp at hx)) _ _) ⟨P8,e8⟩
  refine ⟨tag9,?_,hV6.out.trans V9⟩
  rw [a2_newT ok] at D9
  exact D9
 have c0 := h6.head.1
 have c5 := ((h6.kept k7).seven (i := A.n) (show A.n < A.n + 2 by omega)).2.2.2.2.2.1
 have fr := (h6.kept k7).free
 rw [show (A2 A (3,1,name,uniq l,⟨#[]⟩)).n = m from hm] at c0
 have c1 := (h6.kept k7).head.1
 rw [show (A2 A (3,1,name,uniq l,⟨#[]⟩)).n = m from hm] at c1
 rw [hW7] at HF c1 c5 fr
 clear hW7 k7 M7 e8 h6 hD6 hV6
 have j1 : (0 : Int) ≤ (A.n : Int) := by omega
 have j2 : (A.n : Int) < (m : Int) := by omega
 clear hm
 go_wp2
 go_ret2
 exact ⟨rfl,HF.out⟩
end
end Go.Proofs.YtpkppobkagdhkaaGreat
