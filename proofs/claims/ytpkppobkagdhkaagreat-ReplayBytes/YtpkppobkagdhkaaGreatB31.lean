/-
 RdD RdE RdF RrefA.
-/
import Derived.Test.YtpkppobkagdhkaaGreatB28
import Derived.Test.YtpkppobkagdhkaaGreatB18
set_option linter.unusedVariables false
set_option linter.unusedSimpArgs false
set_option maxRecDepth 100000
set_option maxHeartbeats 1000000
namespace Go.Proofs.YtpkppobkagdhkaaGreat
open Go.RowKit Go.Maps Utf
section
variable {tag : Nat → Nat} {w : World} {d g o c : Nat} {q : Bool} {A : Ar} {pl : Nat → Dp}
theorem rput_some (h : Dd tag w d g o c q A pl) (ok : A.Ok) (hn : A.n < 50000) (p x i : Nat) (hp : p < A.n) (hx : x < A.n) (hi : i ≤ (A.kids p).length) (b7 o7 : Nat) (hk : (pl p).2.1 = some ⟨b7,o7,none⟩) :
  Calls Tryz.prog 96 #[.pointer (some ⟨d,0,none⟩),.int .i64 (p : Int),.int .i64 (i : Int),.int .i64 (x : Int)] w fun e w' => e = .returned (.tuple #[]) ∧ Kp [g] w w' ∧ ∃ pl',Dd (tg5 tag w) w' d g o c q (A.put p i x) pl' := by
 have kl := h.klen hp
 have hb : (A.kids p).length ≤ A.n := Ar.pig _ _ (ok.one p) (fun y hy => (ok.kid_lt hy).1)
 have j3 : (0 : Int) ≤ (p : Int) := by omega
 have j4 : (p : Int) < (A.n : Int) := by omega
 have j1 : (0 : Int) ≤ (x : Int) := by omega
 have j2 : (x : Int) < (A.n : Int) := by omega
 have i1 : (0 : Int) ≤ (i : Int) := by omega
 have i2 : (i : Int) ≤ ((A.kids p).length : Int) := by omega
 have kcp := (h.kid p hp).cap
 have c0 := h.head.1
 have c5 := (h.seven hp).2.2.2.2.2.1
 rw [hk,kl] at c5
 rw [kl] at kcp
 have i3 : (i : Int) ≤ ((pl p).2.2.2 : Int) := by omega
 have i4 : ((A.kids p).length : Int) ≤ ((pl p).2.2.2 : Int) := by omega
 obtain ⟨ko2,hko⟩ : ∃ a,(if (pl p).2.2.2 = i then (some ⟨b7,o7,none⟩ : Option Addr) else some ⟨b7,o7 + i,none⟩) = a := ⟨_,rfl⟩
 have HC : Hid (∀ V,Kp [] w V → V.cell? ⟨d,0,none⟩ = some (.slice (some ⟨g,o,none⟩) A.n c)) := fun V k => (h.kept k).head.1
 have HF : Hid (∀ V,Kp [] w V → V.cell? ⟨g,o + p * 7 + 5,none⟩ = some (.slice (some ⟨b7,o7,none⟩) (A.kids p).length (pl p).2.2.2) ∧ ∀ j,V.frozen? ⟨g,j,none⟩ = false) := fun V k => by
  have := ((h.kept k).seven hp).2.2.2.2.2.1
  rw [hk,kl] at this
  exact ⟨this,(h.kept k).free⟩
 have HT : Hid (∀ V,Kp [] w V → Src Tryz.prog 1 61 (.slice (some ⟨b7,o7,none⟩) i (pl p).2.2.2) i (iv ((A.kids p).take i)) V) := fun V k => by
  have := ((h.kept k).kid p hp).take i (by omega)
  rw [hk,Nat.mul_one,show (iv (A.kids p)).take i = iv ((A.kids p).take i) by simp [iv]] at this
  exact this.src Tryz.underlying61 (iv_one _)
 have HD : Hid (∀ V,Kp [] w V → Src Tryz.prog 1 61 (.slice ko2 ((A.kids p).length - i) ((pl p).2.2.2 - i)) ((A.kids p).length - i) (iv ((A.kids p).drop i)) V) := fun V k => by
  have := (h.kept k).kid p hp
  rw [hk,kl] at this
  have := this.drop2 i hi
  rw [hko,show (iv (A.kids p)).drop i = iv ((A.kids p).drop i) by simp [iv]] at this
  exact this.src Tryz.underlying61 (iv_one _)
 have hdg := h.ne
 have hS1 : (World.drew w).cell? ⟨d,0,none⟩ = some (.slice (some ⟨g,o,none⟩) A.n c) := c0
 have HZ : Hid (∀ U a n' c',Made w U 3 (some a) n' c' (iv [] ++ iv ((A.kids p).take i) ++ [.int .i64 (x : Int)] ++ iv ((A.kids p).drop i)) → ((U.setCell ⟨g,o + p * 7 + 5,none⟩ (.slice (some a) n' c')).cell? ⟨d,0,none⟩ = some (.slice (some ⟨g,o,none⟩) A.n c) ∧ (U.setCell ⟨g,o + p * 7 + 5,none⟩ (.slice (some a) n' c')).cell? ⟨g,o + x * 7 + 6,none⟩ = some (.int .i64 (Ar.upI (A.up x))) ∧ ∀ j,(U.setCell ⟨g,o + p * 7 + 5,none⟩ (.slice (some a) n' c')).frozen? ⟨g,j,none⟩ = false) ∧ Kp [g] w ((U.setCell ⟨g,o + p * 7 + 5,none⟩ (.slice (some a) n' c')).setCell ⟨g,o + x * 7 + 6,none⟩ (.int .i64 (p : Int))) ∧ ∃ pl',Dd (tg5 tag w) ((U.setCell ⟨g,o + p * 7 + 5,none⟩ (.slice (some a) n' c')).setCell ⟨g,o + x * 7 + 6,none⟩ (.int .i64 (p : Int))) d g o c q (A.put p i x) pl') := fun U a n' c' M => by
  have M' : Made w U 3 (some a) n' c' (iv ((A.kids p).take i ++ x :: (A.kids p).drop i)) := by
   rw [show iv ((A.kids p).take i ++ x :: (A.kids p).drop i) = iv [] ++ iv ((A.kids p).take i) ++ [.int .i64 (x : Int)] ++ iv ((A.kids p).drop i) by simp [iv]]
   exact M
  obtain ⟨P,e1,e2⟩ := h.kids M' hp hx (some p)
  exact ⟨⟨e1.head.1,(e1.seven hx).2.2.2.2.2.2,e1.free⟩,kpg (kpg (M.2.1.mono (T := [g]) (fun x hx => by simp at hx)) _ _) _ _,P,e2⟩
 generalize (pl p).2.2.2 = kc at *
 clear h kl hk ok
 generalize A.kids p = ks at *
 generalize Ar.upI (A.up x) = ux at HZ
 go_enter Tryz.func96,Tryz.ntmps96
 go_wp2_with fail
 clear c5
 obtain ⟨U0,hU0⟩ : ∃ V,V = w.drew := ⟨_,rfl⟩
 have k0 : Kp [] w U0 := by rw [hU0]; exact (Kp.refl _ _).drew
 refine wp_region_g (S := fun V => V.cell? ⟨d,0,none⟩ = some (.slice (some ⟨g,o,none⟩) A.n c)) (T := [19]) (by kernel_rfl) hS1 (fun hHeld => ?_)
 rw [← hU0] at hHeld ⊢
 clear hU0
 refine g_pure 0 (some 17) (.move (.tmp 0)) ?_
 refine g_pure 1 (some 18) (.nilCheck (.tmp 17)) ?_
 refine g_pure 2 (some 19) (.fieldAddr 69 (.tmp 18) 0) ?_
 refine g_take 3 (some 20) (.load 67 (.tmp 19)) (by intro w hSw; (have q1 := hSw); go_simp; try with_reducible rfl) ?_
 refine g_pure 4 (some 21) (.move (.tmp 1)) ?_
 refine g_pure 6 (some 23) (.move (.tmp 8)) ?_
 refine g_pure 7 (some 24) (.move (.tmp 2)) ?_
 refine g_pure 8 (some 25) (.slice 61 (.tmp 23) none (some (.tmp 24)) none) ?_
 refine g_pure 10 (some 27) (.move (.tmp 3)) ?_
 refine g_pure 13 (some 30) (.move (.tmp 8)) ?_
 refine g_pure 14 (some 31) (.move (.tmp 2)) ?_
 refine g_pure 15 (some 32) (.slice 61 (.tmp 30) (some (.tmp 31)) none none) ?_
 refine wpAnyG_ready (rs := [5,11]) (by kernel_rfl) (by simp) ?_
 refine AllReadyG.cons (o := ⟨some 22,.buildSlice 61 0 #[],61,_,_,none⟩) rfl (fun K hK => ?_) ?_
 ·go_simp
  obtain ⟨U1,hU⟩ : ∃ V,V = World.alloc U0 (.cells #[] 3) := ⟨_,rfl⟩
  rw [← hU]
  have u1 : Kp [] U0 U1 := by rw [hU]; exact (Kp.refl _ _).alloc _
  have k1 : Kp [] w U1 := k0.trans u1 (fun z hz => by simp at hz)
  have M5 : Made w U1 3 (some ⟨U0.heap.size,0,none⟩) 0 0 (iv []) := ⟨Or.inr ⟨_,0,0,#[],rfl,by rw [hU]; exact heap_new _ _,Nat.le_refl _,Nat.zero_le _,by simp,fun j hj => by cases hj⟩,k1,fun z hz => by simp [blk] at hz; have := k0.size; omega⟩
  obtain ⟨g5,hg5⟩ : ∃ g,U0.heap.size = g := ⟨_,rfl⟩
  rw [hg5] at M5 ⊢
  clear hU
  refine hK.out _ _ (HC.out _ k1) (fun hHeld1 => ?_)
  clear hK K hHeld
  try simp only [Act.put,pu1,pu2,pu3]
  refine wpAnyG_ready (rs := [9,11]) (by kernel_rfl) (by simp) ?_
  refine AllReadyG.cons (o := ⟨some 26,.call { callee := .builtin .append,args := #[.tmp 22,.tmp 25],argTypes := #[61,61] },61,_,_,none⟩) rfl (fun K hK => ?_) ?_
  ·obtain ⟨a9,n9,c9,U2,run9,M9,kk9,_⟩ := M5.join (by simp) _ _ _ (HT.out _ k1) (by simp [iv]; omega)
   refine step_app2 (by rfl) _ _ 61 61 (by rfl) _ _ (by rfl) (by rfl) run9 ?_
   have k2 := M9.2.1
   refine hK.out _ _ (HC.out _ k2) (fun hHeld2 => ?_)
   clear hK K hHeld1
   try simp only [Act.put,pu1,pu2,pu3]
   refine wpAnyG_ready (rs := [11]) (by kernel_rfl) (by simp) ?_
   refine AllReadyG.cons (o := ⟨some 28,.buildSlice 61 1 #[(0,.tmp 27)],61,_,_,none⟩) rfl (fun K hK => ?_) AllReadyG.nil
   go_simp
   obtain ⟨U3,hU⟩ : ∃ V,V = World.alloc U2 (.cells #[.int .i64 (x : Int)] 3) := ⟨_,rfl⟩
   rw [← hU]
   have u3 : Kp [] U2 U3 := by rw [hU]; exact (Kp.refl _ _).alloc _
   have k3 : Kp [] w U3 := k2.trans u3 (fun z hz => by simp at hz)
   have A11 : At U3 U2.heap.size #[.int .i64 (x : Int)] 3 := by rw [hU]; exact At.new _ _ _
   have M9 := M9.kept u3
   obtain ⟨g11,hg11⟩ : ∃ g,U2.heap.size = g := ⟨_,rfl⟩
   rw [hg11] at A11 ⊢
   clear hU
   refine hK.out _ _ (HC.out _ k3) (fun hHeld3 => ?_)
   clear hK K hHeld2
   try simp only [Act.put,pu1,pu2,pu3]
   refine wpAnyG_ready (rs := [12]) (by kernel_rfl) (by simp) ?_
   refine AllReadyG.cons (o := ⟨some 29,.call { callee := .builtin .append,args := #[.tmp 26,.tmp 28],argTypes := #[61,61] },61,_,_,none⟩) rfl (fun K hK => ?_) AllReadyG.nil
   obtain ⟨a12,n12,c12,U4,run12,M12,kk12,_⟩ := M9.join (by simp) _ _ _ ((rk_lit A11).src Tryz.underlying61 (fun u hu => by rw [List.mem_singleton.1 hu]; rfl)) (by simp [iv]; omega)
   refine step_app2 (by rfl) _ _ 61 61 (by rfl) _ _ (by rfl) (by rfl) run12 ?_
   have k4 := M12.2.1
   refine hK.out _ _ (HC.out _ k4) (fun hHeld4 => ?_)
   clear hK K hHeld3
   try simp only [Act.put,pu1,pu2,pu3]
   refine wpAnyG_ready (rs := [16]) (by kernel_rfl) (by simp) ?_
   refine AllReadyG.cons (o := ⟨some 33,.call { callee := .builtin .append,args := #[.tmp 29,.tmp 32],argTypes := #[61,61] },61,_,_,none⟩) rfl (fun K hK => ?_) AllReadyG.nil
   obtain ⟨a16,n16,c16,U5,run16,M16,kk16,_⟩ := M12.join (by simp) _ _ _ (HD.out _ k4) (by simp [iv]; omega)
   refine step_app2 (by rfl) _ _ 61 61 (by rfl) _ _ (by rfl) (by rfl) run16 ?_
   have k5 := M16.2.1
   refine hK.out _ _ (HC.out _ k5) (fun hHeld5 => ?_)
   clear hK K hHeld4
   try simp only [Act.put,pu1,pu2,pu3]
   refine g_pure 17 (some 34) (.indexAddr 67 (.tmp 20) (.tmp 21)) ?_
   refine g_pure 18 (some 35) (.fieldAddr 106 (.tmp 34) 5) ?_
   refine wpAnyG_free (by kernel_rfl) ?_
   refine wpAny_ready (rs := [19]) (by kernel_rfl) (by simp) ?_
   refine AllReady.cons (o := ⟨none,.store 61 (.tmp 35) (.tmp 33),0,_,_,none⟩) rfl (fun K hK => ?_) AllReady.nil
   obtain ⟨f5,fr⟩ := HF.out _ k5
   go_simp
   refine hK _ _ ?_
   clear hK K
   try simp only [Act.put,pu1,pu2,pu3]
   refine wpAny_done (by kernel_rfl) ?_ _
   obtain ⟨⟨z1,z2,z3⟩,z4,P,z5⟩ := HZ.out _ _ _ _ M16
   have ZZ : Hid _ := And.intro z4 (Exists.intro P z5)
   clear z4 z5
   go_wp2
   go_end0
   exact ⟨rfl,ZZ.out⟩
  refine AllReadyG.cons (o := ⟨some 28,.buildSlice 61 1 #[(0,.tmp 27)],61,_,_,none⟩) rfl (fun K hK => ?_) AllReadyG.nil
  go_simp
  obtain ⟨U2,hU⟩ : ∃ V,V = World.alloc U1 (.cells #[.int .i64 (x : Int)] 3) := ⟨_,rfl⟩
  rw [← hU]
  have u2 : Kp [] U1 U2 := by rw [hU]; exact (Kp.refl _ _).alloc _
  have k2 : Kp [] w U2 := k1.trans u2 (fun z hz => by simp at hz)
  have A11 : At U2 U1.heap.size #[.int .i64 (x : Int)] 3 := by rw [hU]; exact At.new _ _ _
  have hgl := M5.1.lt g5 (by simp [blk])
  have M5 := M5.kept u2
  obtain ⟨g11,hg11⟩ : ∃ g,U1.heap.size = g := ⟨_,rfl⟩
  rw [hg11] at A11 ⊢
  clear hU
  have hne : g11 ≠ g5 := by omega
  refine hK.out _ _ (HC.out _ k2) (fun hHeld2 => ?_)
  clear hK K hHeld1
  try simp only [Act.put,pu1,pu2,pu3]
  refine wpAnyG_ready (rs := [9]) (by kernel_rfl) (by simp) ?_
  refine AllReadyG.cons (o := ⟨some 26,.call { callee := .builtin .append,args := #[.tmp 22,.tmp 25],argTypes := #[61,61] },61,_,_,none⟩) rfl (fun K hK => ?_) AllReadyG.nil
  obtain ⟨a9,n9,c9,U3,run9,M9,kk9,_⟩ := M5.join (by simp) _ _ _ (HT.out _ k2) (by simp [iv]; omega)
  refine step_app2 (by rfl) _ _ 61 61 (by rfl) _ _ (by rfl) (by rfl) run9 ?_
  have k3 := M9.2.1
  have A11 := A11.kept kk9 (by simp [blk]; exact hne)
  refine hK.out _ _ (HC.out _ k3) (fun hHeld3 => ?_)
  clear hK K hHeld2
  try simp only [Act.put,pu1,pu2,pu3]
  refine wpAnyG_ready (rs := [12]) (by kernel_rfl) (by simp) ?_
  refine AllReadyG.cons (o := ⟨some 29,.call { callee := .builtin .append,args := #[.tmp 26,.tmp 28],argTypes := #[61,61] },61,_,_,none⟩) rfl (fun K hK => ?_) AllReadyG.nil
  obtain ⟨a12,n12,c12,U4,run12,M12,kk12,_⟩ := M9.join (by simp) _ _ _ ((rk_lit A11).src Tryz.underlying61 (fun u hu => by rw [List.mem_singleton.1 hu]; rfl)) (by simp [iv]; omega)
  refine step_app2 (by rfl) _ _ 61 61 (by rfl) _ _ (by rfl) (by rfl) run12 ?_
  have k4 := M12.2.1
  refine hK.out _ _ (HC.out _ k4) (fun hHeld4 => ?_)
  clear hK K hHeld3
  try simp only [Act.put,pu1,pu2,pu3]
  refine wpAnyG_ready (rs := [16]) (by kernel_rfl) (by simp) ?_
  refine AllReadyG.cons (o := ⟨some 33,.call { callee := .builtin .append,args := #[.tmp 29,.tmp 32],argTypes := #[61,61] },61,_,_,none⟩) rfl (fun K hK => ?_) AllReadyG.nil
  obtain ⟨a16,n16,c16,U5,run16,M16,kk16,_⟩ := M12.join (by simp) _ _ _ (HD.out _ k4) (by simp [iv]; omega)
  refine step_app2 (by rfl) _ _ 61 61 (by rfl) _ _ (by rfl) (by rfl) run16 ?_
  have k5 := M16.2.1
  refine hK.out _ _ (HC.out _ k5) (fun hHeld5 => ?_)
  clear hK K hHeld4
  try simp only [Act.put,pu1,pu2,pu3]
  refine g_pure 17 (some 34) (.indexAddr 67 (.tmp 20) (.tmp 21)) ?_
  refine g_pure 18 (some 35) (.fieldAddr 106 (.tmp 34) 5) ?_
  refine wpAnyG_free (by kernel_rfl) ?_
  refine wpAny_ready (rs := [19]) (by kernel_rfl) (by simp) ?_
  refine AllReady.cons (o := ⟨none,.store 61 (.tmp 35) (.tmp 33),0,_,_,none⟩) rfl (fun K hK => ?_) AllReady.nil
  obtain ⟨f5,fr⟩ := HF.out _ k5
  go_simp
  refine hK _ _ ?_
  clear hK K
  try simp only [Act.put,pu1,pu2,pu3]
  refine wpAny_done (by kernel_rfl) ?_ _
  obtain ⟨⟨z1,z2,z3⟩,z4,P,z5⟩ := HZ.out _ _ _ _ M16
  have ZZ : Hid _ := And.intro z4 (Exists.intro P z5)
  clear z4 z5
  go_wp2
  go_end0
  exact ⟨rfl,ZZ.out⟩
 refine AllReadyG.cons (o := ⟨some 28,.buildSlice 61 1 #[(0,.tmp 27)],61,_,_,none⟩) rfl (fun K hK => ?_) AllReadyG.nil
 go_simp
 obtain ⟨U1,hU⟩ : ∃ V,V = World.alloc U0 (.cells #[.int .i64 (x : Int)] 3) := ⟨_,rfl⟩
 rw [← hU]
 have u1 : Kp [] U0 U1 := by rw [hU]; exact (Kp.refl _ _).alloc _
 have k1 : Kp [] w U1 := k0.trans u1 (fun z hz => by simp at hz)
 have A11 : At U1 U0.heap.size #[.int .i64 (x : Int)] 3 := by rw [hU]; exact At.new _ _ _
 obtain ⟨g11,hg11⟩ : ∃ g,U0.heap.size = g := ⟨_,rfl⟩
 rw [hg11] at A11 ⊢
 clear hU
 refine hK.out _ _ (HC.out _ k1) (fun hHeld1 => ?_)
 clear hK K hHeld
 try simp only [Act.put,pu1,pu2,pu3]
 refine wpAnyG_ready (rs := [5]) (by kernel_rfl) (by simp) ?_
 refine AllReadyG.cons (o := ⟨some 22,.buildSlice 61 0 #[],61,_,_,none⟩) rfl (fun K hK => ?_) AllReadyG.nil
 go_simp
 obtain ⟨U2,hU⟩ : ∃ V,V = World.alloc U1 (.cells #[] 3) := ⟨_,rfl⟩
 rw [← hU]
 have u2 : Kp [] U1 U2 := by rw [hU]; exact (Kp.refl _ _).alloc _
 have k2 : Kp [] w U2 := k1.trans u2 (fun z hz => by simp at hz)
 have M5 : Made w U2 3 (some ⟨U1.heap.size,0,none⟩) 0 0 (iv []) := ⟨Or.inr ⟨_,0,0,#[],rfl,by rw [hU]; exact heap_new _ _,Nat.le_refl _,Nat.zero_le _,by simp,fun j hj => by cases hj⟩,k2,fun z hz => by simp [blk] at hz; have := k1.size; omega⟩
 have hgl := A11.lt
 have A11 := A11.kept u2 (by simp)
 obtain ⟨g5,hg5⟩ : ∃ g,U1.heap.size = g := ⟨_,rfl⟩
 rw [hg5] at M5 ⊢
 clear hU
 have hne : g11 ≠ g5 := by omega
 refine hK.out _ _ (HC.out _ k2) (fun hHeld2 => ?_)
 clear hK K hHeld1
 try simp only [Act.put,pu1,pu2,pu3]
 refine wpAnyG_ready (rs := [9]) (by kernel_rfl) (by simp) ?_
 refine AllReadyG.cons (o := ⟨some 26,.call { callee := .builtin .append,args := #[.tmp 22,.tmp 25],argTypes := #[61,61] },61,_,_,none⟩) rfl (fun K hK => ?_) AllReadyG.nil
 obtain ⟨a9,n9,c9,U3,run9,M9,kk9,_⟩ := M5.join (by simp) _ _ _ (HT.out _ k2) (by simp [iv]; omega)
 refine step_app2 (by rfl) _ _ 61 61 (by rfl) _ _ (by rfl) (by rfl) run9 ?_
 have k3 := M9.2.1
 have A11 := A11.kept kk9 (by simp [blk]; exact hne)
 refine hK.out _ _ (HC.out _ k3) (fun hHeld3 => ?_)
 clear hK K hHeld2
 try simp only [Act.put,pu1,pu2,pu3]
 refine wpAnyG_ready (rs := [12]) (by kernel_rfl) (by simp) ?_
 refine AllReadyG.cons (o := ⟨some 29,.call { callee := .builtin .append,args := #[.tmp 26,.tmp 28],argTypes := #[61,61] },61,_,_,none⟩) rfl (fun K hK => ?_) AllReadyG.nil
 obtain ⟨a12,n12,c12,U4,run12,M12,kk12,_⟩ := M9.join (by simp) _ _ _ ((rk_lit A11).src Tryz.underlying61 (fun u hu => by rw [List.mem_singleton.1 hu]; rfl)) (by simp [iv]; omega)
 refine step_app2 (by rfl) _ _ 61 61 (by rfl) _ _ (by rfl) (by rfl) run12 ?_
 have k4 := M12.2.1
 refine hK.out _ _ (HC.out _ k4) (fun hHeld4 => ?_)
 clear hK K hHeld3
 try simp only [Act.put,pu1,pu2,pu3]
 refine wpAnyG_ready (rs := [16]) (by kernel_rfl) (by simp) ?_
 refine AllReadyG.cons (o := ⟨some 33,.call { callee := .builtin .append,args := #[.tmp 29,.tmp 32],argTypes := #[61,61] },61,_,_,none⟩) rfl (fun K hK => ?_) AllReadyG.nil
 obtain ⟨a16,n16,c16,U5,run16,M16,kk16,_⟩ := M12.join (by simp) _ _ _ (HD.out _ k4) (by simp [iv]; omega)
 refine step_app2 (by rfl) _ _ 61 61 (by rfl) _ _ (by rfl) (by rfl) run16 ?_
 have k5 := M16.2.1
 refine hK.out _ _ (HC.out _ k5) (fun hHeld5 => ?_)
 clear hK K hHeld4
 try simp only [Act.put,pu1,pu2,pu3]
 refine g_pure 17 (some 34) (.indexAddr 67 (.tmp 20) (.tmp 21)) ?_
 refine g_pure 18 (some 35) (.fieldAddr 106 (.tmp 34) 5) ?_
 refine wpAnyG_free (by kernel_rfl) ?_
 refine wpAny_ready (rs := [19]) (by kernel_rfl) (by simp) ?_
 refine AllReady.cons (o := ⟨none,.store 61 (.tmp 35) (.tmp 33),0,_,_,none⟩) rfl (fun K hK => ?_) AllReady.nil
 obtain ⟨f5,fr⟩ := HF.out _ k5
 go_simp
 refine hK _ _ ?_
 clear hK K
 try simp only [Act.put,pu1,pu2,pu3]
 refine wpAny_done (by kernel_rfl) ?_ _
 obtain ⟨⟨z1,z2,z3⟩,z4,P,z5⟩ := HZ.out _ _ _ _ M16
 have ZZ : Hid _ := And.intro z4 (Exists.intro P z5)
 clear z4 z5
 go_wp2
 go_end0
 exact ⟨rfl,ZZ.out⟩
end
section
variable {tag : Nat → Nat} {w : World} {d g o c : Nat} {q : Bool} {A : Ar} {pl : Nat → Dp}
theorem rput_none (h : Dd tag w d g o c q A pl) (ok : A.Ok) (hn : A.n < 50000) (p x i : Nat) (hp : p < A.n) (hx : x < A.n) (hi : i ≤ (A.kids p).length) (hk : (pl p).2 = (none,0,0)) :
  Calls Tryz.prog 96 #[.pointer (some ⟨d,0,none⟩),.int .i64 (p : Int),.int .i64 (i : Int),.int .i64 (x : Int)] w fun e w' => e = .returned (.tuple #[]) ∧ Kp [g] w w' ∧ ∃ pl',Dd (tg5 tag w) w' d g o c q (A.put p i x) pl' := by
 have kl := h.klen hp
 rw [hk] at kl
 obtain rfl : i = 0 := by simp only at kl; omega
 have kn : A.kids p = [] := List.eq_nil_of_length_eq_zero kl.symm
 clear kl
 have hb : (A.kids p).length ≤ A.n := Ar.pig _ _ (ok.one p) (fun y hy => (ok.kid_lt hy).1)
 have j3 : (0 : Int) ≤ (p : Int) := by omega
 have j4 : (p : Int) < (A.n : Int) := by omega
 have j1 : (0 : Int) ≤ (x : Int) := by omega
 have j2 : (x : Int) < (A.n : Int) := by omega
 have c0 := h.head.1
 have c5 := (h.seven hp).2.2.2.2.2.1
 rw [hk] at c5
 have HC : Hid (∀ V,Kp [] w V → V.cell? ⟨d,0,none⟩ = some (.slice (some ⟨g,o,none⟩) A.n c)) := fun V k => (h.kept k).head.1
 have HF : Hid (∀ V,Kp [] w V → V.cell? ⟨g,o + p * 7 + 5,none⟩ = some (.slice none 0 0) ∧ ∀ j,V.frozen? ⟨g,j,none⟩ = false) := fun V k => by
  have := ((h.kept k).seven hp).2.2.2.2.2.1
  rw [hk] at this
  exact ⟨this,(h.kept k).free⟩
 have HT : Hid (∀ V,Kp [] w V → Src Tryz.prog 1 61 (.slice none 0 0) 0 (iv []) V) := fun V k => (Rk.nil Any 1 V none 0).src Tryz.underlying61 (iv_one [])
 have hdg := h.ne
 have hS1 : (World.drew w).cell? ⟨d,0,none⟩ = some (.slice (some ⟨g,o,none⟩) A.n c) := c0
 have HZ : Hid (∀ U a n' c',Made w U 3 (some a) n' c' (iv [] ++ iv (([] : List Nat)) ++ [.int .i64 (x : Int)] ++ iv (([] : List Nat))) → ((U.setCell ⟨g,o + p * 7 + 5,none⟩ (.slice (some a) n' c')).cell? ⟨d,0,none⟩ = some (.slice (some ⟨g,o,none⟩) A.n c) ∧ (U.setCell ⟨g,o + p * 7 + 5,none⟩ (.slice (some a) n' c')).cell? ⟨g,o + x * 7 + 6,none⟩ = some (.int .i64 (Ar.upI (A.up x))) ∧ ∀ j,(U.setCell ⟨g,o + p * 7 + 5,none⟩ (.slice (some a) n' c')).frozen? ⟨g,j,none⟩ = false) ∧ Kp [g] w ((U.setCell ⟨g,o + p * 7 + 5,none⟩ (.slice (some a) n' c')).setCell ⟨g,o + x * 7 + 6,none⟩ (.int .i64 (p : Int))) ∧ ∃ pl',Dd (tg5 tag w) ((U.setCell ⟨g,o + p * 7 + 5,none⟩ (.slice (some a) n' c')).setCell ⟨g,o + x * 7 + 6,none⟩ (.int .i64 (p : Int))) d g o c q (A.put p 0 x) pl') := fun U a n' c' M => by
  have M' : Made w U 3 (some a) n' c' (iv ((A.kids p).take 0 ++ x :: (A.kids p).drop 0)) := by
   rw [kn]
   exact M
  obtain ⟨P,e1,e2⟩ := h.kids M' hp hx (some p)
  exact ⟨⟨e1.head.1,(e1.seven hx).2.2.2.2.2.2,e1.free⟩,kpg (kpg (M.2.1.mono (T := [g]) (fun x hx => by simp at hx)) _ _) _ _,P,e2⟩
 clear h hk ok kn
 generalize Ar.upI (A.up x) = ux at HZ
 go_enter Tryz.func96,Tryz.ntmps96
 go_wp2_with fail
 clear c5
 obtain ⟨U0,hU0⟩ : ∃ V,V = w.drew := ⟨_,rfl⟩
 have k0 : Kp [] w U0 := by rw [hU0]; exact (Kp.refl _ _).drew
 refine wp_region_g (S := fun V => V.cell? ⟨d,0,none⟩ = some (.slice (some ⟨g,o,none⟩) A.n c)) (T := [19]) (by kernel_rfl) hS1 (fun hHeld => ?_)
 rw [← hU0] at hHeld ⊢
 clear hU0
 refine g_pure 0 (some 17) (.move (.tmp 0)) ?_
 refine g_pure 1 (some 18) (.nilCheck (.tmp 17)) ?_
 refine g_pure 2 (some 19) (.fieldAddr 69 (.tmp 18) 0) ?_
 refine g_take 3 (some 20) (.load 67 (.tmp 19)) (by intro w hSw; (have q1 := hSw); go_simp; try with_reducible rfl) ?_
 refine g_pure 4 (some 21) (.move (.tmp 1)) ?_
 refine g_pure 6 (some 23) (.move (.tmp 8)) ?_
 refine g_pure 7 (some 24) (.move (.tmp 2)) ?_
 refine g_pure 8 (some 25) (.slice 61 (.tmp 23) none (some (.tmp 24)) none) ?_
 refine g_pure 10 (some 27) (.move (.tmp 3)) ?_
 refine g_pure 13 (some 30) (.move (.tmp 8)) ?_
 refine g_pure 14 (some 31) (.move (.tmp 2)) ?_
 refine g_pure 15 (some 32) (.slice 61 (.tmp 30) (some (.tmp 31)) none none) ?_
 refine wpAnyG_ready (rs := [5,11]) (by kernel_rfl) (by simp) ?_
 refine AllReadyG.cons (o := ⟨some 22,.buildSlice 61 0 #[],61,_,_,none⟩) rfl (fun K hK => ?_) ?_
 ·go_simp
  obtain ⟨U1,hU⟩ : ∃ V,V = World.alloc U0 (.cells #[] 3) := ⟨_,rfl⟩
  rw [← hU]
  have u1 : Kp [] U0 U1 := by rw [hU]; exact (Kp.refl _ _).alloc _
  have k1 : Kp [] w U1 := k0.trans u1 (fun z hz => by simp at hz)
  have M5 : Made w U1 3 (some ⟨U0.heap.size,0,none⟩) 0 0 (iv []) := ⟨Or.inr ⟨_,0,0,#[],rfl,by rw [hU]; exact heap_new _ _,Nat.le_refl _,Nat.zero_le _,by simp,fun j hj => by cases hj⟩,k1,fun z hz => by simp [blk] at hz; have := k0.size; omega⟩
  obtain ⟨g5,hg5⟩ : ∃ g,U0.heap.size = g := ⟨_,rfl⟩
  rw [hg5] at M5 ⊢
  clear hU
  refine hK.out _ _ (HC.out _ k1) (fun hHeld1 => ?_)
  clear hK K hHeld
  try simp only [Act.put,pu1,pu2,pu3]
  refine wpAnyG_ready (rs := [9,11]) (by kernel_rfl) (by simp) ?_
  refine AllReadyG.cons (o := ⟨some 26,.call { callee := .builtin .append,args := #[.tmp 22,.tmp 25],argTypes := #[61,61] },61,_,_,none⟩) rfl (fun K hK => ?_) ?_
  ·obtain ⟨a9,n9,c9,U2,run9,M9,kk9,_⟩ := M5.join (by simp) _ _ _ (HT.out _ k1) (by simp [iv])
   refine step_app2 (by rfl) _ _ 61 61 (by rfl) _ _ (by rfl) (by rfl) run9 ?_
   have k2 := M9.2.1
   refine hK.out _ _ (HC.out _ k2) (fun hHeld2 => ?_)
   clear hK K hHeld1
   try simp only [Act.put,pu1,pu2,pu3]
   refine wpAnyG_ready (rs := [11]) (by kernel_rfl) (by simp) ?_
   refine AllReadyG.cons (o := ⟨some 28,.buildSlice 61 1 #[(0,.tmp 27)],61,_,_,none⟩) rfl (fun K hK => ?_) AllReadyG.nil
   go_simp
   obtain ⟨U3,hU⟩ : ∃ V,V = World.alloc U2 (.cells #[.int .i64 (x : Int)] 3) := ⟨_,rfl⟩
   rw [← hU]
   have u3 : Kp [] U2 U3 := by rw [hU]; exact (Kp.refl _ _).alloc _
   have k3 : Kp [] w U3 := k2.trans u3 (fun z hz => by simp at hz)
   have A11 : At U3 U2.heap.size #[.int .i64 (x : Int)] 3 := by rw [hU]; exact At.new _ _ _
   have M9 := M9.kept u3
   obtain ⟨g11,hg11⟩ : ∃ g,U2.heap.size = g := ⟨_,rfl⟩
   rw [hg11] at A11 ⊢
   clear hU
   refine hK.out _ _ (HC.out _ k3) (fun hHeld3 => ?_)
   clear hK K hHeld2
   try simp only [Act.put,pu1,pu2,pu3]
   refine wpAnyG_ready (rs := [12]) (by kernel_rfl) (by simp) ?_
   refine AllReadyG.cons (o := ⟨some 29,.call { callee := .builtin .append,args := #[.tmp 26,.tmp 28],argTypes := #[61,61] },61,_,_,none⟩) rfl (fun K hK => ?_) AllReadyG.nil
   obtain ⟨a12,n12,c12,U4,run12,M12,kk12,_⟩ := M9.join (by simp) _ _ _ ((rk_lit A11).src Tryz.underlying61 (fun u hu => by rw [List.mem_singleton.1 hu]; rfl)) (by simp [iv])
   refine step_app2 (by rfl) _ _ 61 61 (by rfl) _ _ (by rfl) (by rfl) run12 ?_
   have k4 := M12.2.1
   refine hK.out _ _ (HC.out _ k4) (fun hHeld4 => ?_)
   clear hK K hHeld3
   try simp only [Act.put,pu1,pu2,pu3]
   refine wpAnyG_ready (rs := [16]) (by kernel_rfl) (by simp) ?_
   refine AllReadyG.cons (o := ⟨some 33,.call { callee := .builtin .append,args := #[.tmp 29,.tmp 32],argTypes := #[61,61] },61,_,_,none⟩) rfl (fun K hK => ?_) AllReadyG.nil
   obtain ⟨a16,n16,c16,U5,run16,M16,kk16,_⟩ := M12.join (by simp) _ _ _ (HT.out _ k4) (by simp [iv])
   refine step_app2 (by rfl) _ _ 61 61 (by rfl) _ _ (by rfl) (by rfl) run16 ?_
   have k5 := M16.2.1
   refine hK.out _ _ (HC.out _ k5) (fun hHeld5 => ?_)
   clear hK K hHeld4
   try simp only [Act.put,pu1,pu2,pu3]
   refine g_pure 17 (some 34) (.indexAddr 67 (.tmp 20) (.tmp 21)) ?_
   refine g_pure 18 (some 35) (.fieldAddr 106 (.tmp 34) 5) ?_
   refine wpAnyG_free (by kernel_rfl) ?_
   refine wpAny_ready (rs := [19]) (by kernel_rfl) (by simp) ?_
   refine AllReady.cons (o := ⟨none,.store 61 (.tmp 35) (.tmp 33),0,_,_,none⟩) rfl (fun K hK => ?_) AllReady.nil
   obtain ⟨f5,fr⟩ := HF.out _ k5
   go_simp
   refine hK _ _ ?_
   clear hK K
   try simp only [Act.put,pu1,pu2,pu3]
   refine wpAny_done (by kernel_rfl) ?_ _
   obtain ⟨⟨z1,z2,z3⟩,z4,P,z5⟩ := HZ.out _ _ _ _ M16
   have ZZ : Hid _ := And.intro z4 (Exists.intro P z5)
   clear z4 z5
   go_wp2
   go_end0
   exact ⟨rfl,ZZ.out⟩
  refine AllReadyG.cons (o := ⟨some 28,.buildSlice 61 1 #[(0,.tmp 27)],61,_,_,none⟩) rfl (fun K hK => ?_) AllReadyG.nil
  go_simp
  obtain ⟨U2,hU⟩ : ∃ V,V = World.alloc U1 (.cells #[.int .i64 (x : Int)] 3) := ⟨_,rfl⟩
  rw [← hU]
  have u2 : Kp [] U1 U2 := by rw [hU]; exact (Kp.refl _ _).alloc _
  have k2 : Kp [] w U2 := k1.trans u2 (fun z hz => by simp at hz)
  have A11 : At U2 U1.heap.size #[.int .i64 (x : Int)] 3 := by rw [hU]; exact At.new _ _ _
  have hgl := M5.1.lt g5 (by simp [blk])
  have M5 := M5.kept u2
  obtain ⟨g11,hg11⟩ : ∃ g,U1.heap.size = g := ⟨_,rfl⟩
  rw [hg11] at A11 ⊢
  clear hU
  have hne : g11 ≠ g5 := by omega
  refine hK.out _ _ (HC.out _ k2) (fun hHeld2 => ?_)
  clear hK K hHeld1
  try simp only [Act.put,pu1,pu2,pu3]
  refine wpAnyG_ready (rs := [9]) (by kernel_rfl) (by simp) ?_
  refine AllReadyG.cons (o := ⟨some 26,.call { callee := .builtin .append,args := #[.tmp 22,.tmp 25],argTypes := #[61,61] },61,_,_,none⟩) rfl (fun K hK => ?_) AllReadyG.nil
  obtain ⟨a9,n9,c9,U3,run9,M9,kk9,_⟩ := M5.join (by simp) _ _ _ (HT.out _ k2) (by simp [iv])
  refine step_app2 (by rfl) _ _ 61 61 (by rfl) _ _ (by rfl) (by rfl) run9 ?_
  have k3 := M9.2.1
  have A11 := A11.kept kk9 (by simp [blk]; exact hne)
  refine hK.out _ _ (HC.out _ k3) (fun hHeld3 => ?_)
  clear hK K hHeld2
  try simp only [Act.put,pu1,pu2,pu3]
  refine wpAnyG_ready (rs := [12]) (by kernel_rfl) (by simp) ?_
  refine AllReadyG.cons (o := ⟨some 29,.call { callee := .builtin .append,args := #[.tmp 26,.tmp 28],argTypes := #[61,61] },61,_,_,none⟩) rfl (fun K hK => ?_) AllReadyG.nil
  obtain ⟨a12,n12,c12,U4,run12,M12,kk12,_⟩ := M9.join (by simp) _ _ _ ((rk_lit A11).src Tryz.underlying61 (fun u hu => by rw [List.mem_singleton.1 hu]; rfl)) (by simp [iv])
  refine step_app2 (by rfl) _ _ 61 61 (by rfl) _ _ (by rfl) (by rfl) run12 ?_
  have k4 := M12.2.1
  refine hK.out _ _ (HC.out _ k4) (fun hHeld4 => ?_)
  clear hK K hHeld3
  try simp only [Act.put,pu1,pu2,pu3]
  refine wpAnyG_ready (rs := [16]) (by kernel_rfl) (by simp) ?_
  refine AllReadyG.cons (o := ⟨some 33,.call { callee := .builtin .append,args := #[.tmp 29,.tmp 32],argTypes := #[61,61] },61,_,_,none⟩) rfl (fun K hK => ?_) AllReadyG.nil
  obtain ⟨a16,n16,c16,U5,run16,M16,kk16,_⟩ := M12.join (by simp) _ _ _ (HT.out _ k4) (by simp [iv])
  refine step_app2 (by rfl) _ _ 61 61 (by rfl) _ _ (by rfl) (by rfl) run16 ?_
  have k5 := M16.2.1
  refine hK.out _ _ (HC.out _ k5) (fun hHeld5 => ?_)
  clear hK K hHeld4
  try simp only [Act.put,pu1,pu2,pu3]
  refine g_pure 17 (some 34) (.indexAddr 67 (.tmp 20) (.tmp 21)) ?_
  refine g_pure 18 (some 35) (.fieldAddr 106 (.tmp 34) 5) ?_
  refine wpAnyG_free (by kernel_rfl) ?_
  refine wpAny_ready (rs := [19]) (by kernel_rfl) (by simp) ?_
  refine AllReady.cons (o := ⟨none,.store 61 (.tmp 35) (.tmp 33),0,_,_,none⟩) rfl (fun K hK => ?_) AllReady.nil
  obtain ⟨f5,fr⟩ := HF.out _ k5
  go_simp
  refine hK _ _ ?_
  clear hK K
  try simp only [Act.put,pu1,pu2,pu3]
  refine wpAny_done (by kernel_rfl) ?_ _
  obtain ⟨⟨z1,z2,z3⟩,z4,P,z5⟩ := HZ.out _ _ _ _ M16
  have ZZ : Hid _ := And.intro z4 (Exists.intro P z5)
  clear z4 z5
  go_wp2
  go_end0
  exact ⟨rfl,ZZ.out⟩
 refine AllReadyG.cons (o := ⟨some 28,.buildSlice 61 1 #[(0,.tmp 27)],61,_,_,none⟩) rfl (fun K hK => ?_) AllReadyG.nil
 go_simp
 obtain ⟨U1,hU⟩ : ∃ V,V = World.alloc U0 (.cells #[.int .i64 (x : Int)] 3) := ⟨_,rfl⟩
 rw [← hU]
 have u1 : Kp [] U0 U1 := by rw [hU]; exact (Kp.refl _ _).alloc _
 have k1 : Kp [] w U1 := k0.trans u1 (fun z hz => by simp at hz)
 have A11 : At U1 U0.heap.size #[.int .i64 (x : Int)] 3 := by rw [hU]; exact At.new _ _ _
 obtain ⟨g11,hg11⟩ : ∃ g,U0.heap.size = g := ⟨_,rfl⟩
 rw [hg11] at A11 ⊢
 clear hU
 refine hK.out _ _ (HC.out _ k1) (fun hHeld1 => ?_)
 clear hK K hHeld
 try simp only [Act.put,pu1,pu2,pu3]
 refine wpAnyG_ready (rs := [5]) (by kernel_rfl) (by simp) ?_
 refine AllReadyG.cons (o := ⟨some 22,.buildSlice 61 0 #[],61,_,_,none⟩) rfl (fun K hK => ?_) AllReadyG.nil
 go_simp
 obtain ⟨U2,hU⟩ : ∃ V,V = World.alloc U1 (.cells #[] 3) := ⟨_,rfl⟩
 rw [← hU]
 have u2 : Kp [] U1 U2 := by rw [hU]; exact (Kp.refl _ _).alloc _
 have k2 : Kp [] w U2 := k1.trans u2 (fun z hz => by simp at hz)
 have M5 : Made w U2 3 (some ⟨U1.heap.size,0,none⟩) 0 0 (iv []) := ⟨Or.inr ⟨_,0,0,#[],rfl,by rw [hU]; exact heap_new _ _,Nat.le_refl _,Nat.zero_le _,by simp,fun j hj => by cases hj⟩,k2,fun z hz => by simp [blk] at hz; have := k1.size; omega⟩
 have hgl := A11.lt
 have A11 := A11.kept u2 (by simp)
 obtain ⟨g5,hg5⟩ : ∃ g,U1.heap.size = g := ⟨_,rfl⟩
 rw [hg5] at M5 ⊢
 clear hU
 have hne : g11 ≠ g5 := by omega
 refine hK.out _ _ (HC.out _ k2) (fun hHeld2 => ?_)
 clear hK K hHeld1
 try simp only [Act.put,pu1,pu2,pu3]
 refine wpAnyG_ready (rs := [9]) (by kernel_rfl) (by simp) ?_
 refine AllReadyG.cons (o := ⟨some 26,.call { callee := .builtin .append,args := #[.tmp 22,.tmp 25],argTypes := #[61,61] },61,_,_,none⟩) rfl (fun K hK => ?_) AllReadyG.nil
 obtain ⟨a9,n9,c9,U3,run9,M9,kk9,_⟩ := M5.join (by simp) _ _ _ (HT.out _ k2) (by simp [iv])
 refine step_app2 (by rfl) _ _ 61 61 (by rfl) _ _ (by rfl) (by rfl) run9 ?_
 have k3 := M9.2.1
 have A11 := A11.kept kk9 (by simp [blk]; exact hne)
 refine hK.out _ _ (HC.out _ k3) (fun hHeld3 => ?_)
 clear hK K hHeld2
 try simp only [Act.put,pu1,pu2,pu3]
 refine wpAnyG_ready (rs := [12]) (by kernel_rfl) (by simp) ?_
 refine AllReadyG.cons (o := ⟨some 29,.call { callee := .builtin .append,args := #[.tmp 26,.tmp 28],argTypes := #[61,61] },61,_,_,none⟩) rfl (fun K hK => ?_) AllReadyG.nil
 obtain ⟨a12,n12,c12,U4,run12,M12,kk12,_⟩ := M9.join (by simp) _ _ _ ((rk_lit A11).src Tryz.underlying61 (fun u hu => by rw [List.mem_singleton.1 hu]; rfl)) (by simp [iv])
 refine step_app2 (by rfl) _ _ 61 61 (by rfl) _ _ (by rfl) (by rfl) run12 ?_
 have k4 := M12.2.1
 refine hK.out _ _ (HC.out _ k4) (fun hHeld4 => ?_)
 clear hK K hHeld3
 try simp only [Act.put,pu1,pu2,pu3]
 refine wpAnyG_ready (rs := [16]) (by kernel_rfl) (by simp) ?_
 refine AllReadyG.cons (o := ⟨some 33,.call { callee := .builtin .append,args := #[.tmp 29,.tmp 32],argTypes := #[61,61] },61,_,_,none⟩) rfl (fun K hK => ?_) AllReadyG.nil
 obtain ⟨a16,n16,c16,U5,run16,M16,kk16,_⟩ := M12.join (by simp) _ _ _ (HT.out _ k4) (by simp [iv])
 refine step_app2 (by rfl) _ _ 61 61 (by rfl) _ _ (by rfl) (by rfl) run16 ?_
 have k5 := M16.2.1
 refine hK.out _ _ (HC.out _ k5) (fun hHeld5 => ?_)
 clear hK K hHeld4
 try simp only [Act.put,pu1,pu2,pu3]
 refine g_pure 17 (some 34) (.indexAddr 67 (.tmp 20) (.tmp 21)) ?_
 refine g_pure 18 (some 35) (.fieldAddr 106 (.tmp 34) 5) ?_
 refine wpAnyG_free (by kernel_rfl) ?_
 refine wpAny_ready (rs := [19]) (by kernel_rfl) (by simp) ?_
 refine AllReady.cons (o := ⟨none,.store 61 (.tmp 35) (.tmp 33),0,_,_,none⟩) rfl (fun K hK => ?_) AllReady.nil
 obtain ⟨f5,fr⟩ := HF.out _ k5
 go_simp
 refine hK _ _ ?_
 clear hK K
 try simp only [Act.put,pu1,pu2,pu3]
 refine wpAny_done (by kernel_rfl) ?_ _
 obtain ⟨⟨z1,z2,z3⟩,z4,P,z5⟩ := HZ.out _ _ _ _ M16
 have ZZ : Hid _ := And.intro z4 (Exists.intro P z5)
 clear z4 z5
 go_wp2
 go_end0
 exact ⟨rfl,ZZ.out⟩
theorem rput_any (h : Dd tag w d g o c q A pl) (ok : A.Ok) (hn : A.n < 50000) (p x i : Nat) (hp : p < A.n) (hx : x < A.n) (hi : i ≤ (A.kids p).length) :
  Calls Tryz.prog 96 #[.pointer (some ⟨d,0,none⟩),.int .i64 (p : Int),.int .i64 (i : Int),.int .i64 (x : Int)] w fun e w' => e = .returned (.tuple #[]) ∧ Kp [g] w w' ∧ ∃ pl',Dd (tg5 tag w) w' d g o c q (A.put p i x) pl' := by
 rcases h.kf p hp with hk | ⟨b7,o7,hk⟩
 ·exact rput_none h ok hn p x i hp hx hi hk
 ·exact rput_some h ok hn p x i hp hx hi b7 o7 hk
end
def Dn (tag : Nat → Nat) (w : World) (d : Nat) (q : Bool) (A : Ar) : Prop := ∃ g o c pl,Dd tag w d g o c q A pl
structure Dv (tag : Nat → Nat) (w : World) (tag' : Nat → Nat) (w' : World) : Prop where
 os : w'.os = w.os
 tape : w'.tape = w.tape
 output : w'.output = w.output
 size : w.heap.size ≤ w'.heap.size
 block : ∀ k,k < w.heap.size → tag k ≠ 3 → tag k ≠ 4 → w'.heap[k]? = w.heap[k]?
 tg : ∀ k,k < w.heap.size → tag' k = tag k
theorem Dv.of_kp {S : List Nat} {w w' : World} {tag tag' : Nat → Nat} (k : Kp S w w') (hS : ∀ x,x ∈ S → x < w.heap.size → tag x = 3 ∨ tag x = 4) (ht : ∀ x,x < w.heap.size → tag' x = tag x) : Dv tag w tag' w' :=
 ⟨k.os,k.tape,k.output,k.size,fun x hx h3 h4 => k.block x hx (fun hs => by rcases hS x hs hx with e | e <;> omega),ht⟩
theorem Dv.refl (tag : Nat → Nat) (w : World) : Dv tag w tag w := Dv.of_kp (Kp.refl [] w) (fun x hx => by simp at hx) (fun _ _ => rfl)
theorem Dv.trans {w w1 w2 : World} {tag tag1 tag2 : Nat → Nat} (h : Dv tag w tag1 w1) (k : Dv tag1 w1 tag2 w2) : Dv tag w tag2 w2 :=
 ⟨k.os.trans h.os,k.tape.trans h.tape,k.output.trans h.output,Nat.le_trans h.size k.size,fun x hx h3 h4 => (k.block x (Nat.lt_of_lt_of_le hx h.size) (by rw [h.tg x hx]; exact h3) (by rw [h.tg x hx]; exact h4)).trans (h.block x hx h3 h4),fun x hx => (k.tg x (Nat.lt_of_lt_of_le hx h.size)).trans (h.tg x hx)⟩
section
variable {tag : Nat → Nat} {w : World} {d : Nat} {q : Bool} {A : Ar}
theorem dn_turn {g o c : Nat} {pl : Nat → Dp} {w' : World} {A' : Ar} (h : Dd tag w d g o c q A pl) (k : Kp [g] w w') (h' : ∃ pl',Dd (tg5 tag w) w' d g o c q A' pl') : ∃ tag',Dn tag' w' d q A' ∧ Dv tag w tag' w' := by
 obtain ⟨pl',h'⟩ := h'
 exact ⟨_,⟨g,o,c,pl',h'⟩,Dv.of_kp k (fun x hx _ => by rw [List.mem_singleton.1 hx]; exact .inr h.tg) (fun x hx => tg5_lt hx)⟩
theorem rapp_any (hD : Dn tag w d q A) (ful : A.Ful) (hn : A.n < 50000) (p x : Int) :
  Calls Tryz.prog 53 #[.pointer (some ⟨d,0,none⟩),.int .i64 p,.int .i64 x] w fun e w' => e = .returned (.int .i64 (A.appF p x).2) ∧ ∃ tag',Dn tag' w' d q (A.appF p x).1 ∧ Dv tag w tag' w' := by
 have hD0 : Hid (∃ tag',Dn tag' w d q A ∧ Dv tag w tag' w) := ⟨tag,hD,Dv.refl tag w⟩
 obtain ⟨g,o,c,pl,h⟩ := hD
 have HT : Hid (∀ z,Calls Tryz.prog 92 #[.pointer (some ⟨d,0,none⟩),.int .i64 z] w fun e w' => e = .returned (.bool (A.there z)) ∧ w' = w) := fun z => rthere_any h z
 by_cases h1 : A.there p = false ∨ A.there x = false
 ·have eF : A.appF p x = (A,22) := by unfold Ar.appF; rw [if_pos h1]
  rw [eF]
  clear eF h ful
  cases hp : A.there p with
  | false =>
    clear h1
    go_enter Tryz.func53,Tryz.ntmps53
    go_wp2_with (go_at_call 92; refine same_of (HT.out _) ?_)
    go_ret
    exact ⟨rfl,hD0.out⟩
  | true =>
    have hx : A.there x = false := h1.resolve_left (by rw [hp]; simp)
    clear h1
    go_enter Tryz.func53,Tryz.ntmps53
    go_wp2_with (go_at_call 92; refine same_of (HT.out _) ?_)
    go_ret
    exact ⟨rfl,hD0.out⟩
 ·have hp : A.there p = true := by cases e : A.there p with | true => rfl | false => exact absurd (.inl e) h1
  have hx : A.there x = true := by cases e : A.there x with | true => rfl | false => exact absurd (.inr e) h1
  obtain ⟨p,rfl,hp'⟩ := there_nat hp
  obtain ⟨x,rfl,hx'⟩ := there_nat hx
  have HH := rholds_any h p hp'
  have HF := rfixed_any h x hx'
  have HW := rwithin_any h ful.toOk p x hp'
  have c0 := h.head.1
  have c6 := (h.seven hx').2.2.2.2.2.2
  have j1 : (0 : Int) ≤ (x : Int) := by omega
  have j2 : (x : Int) < (A.n : Int) := by omega
  by_cases h2 : Ar.hld (A.lb p) = false ∨ Ar.fix (A.lb x) = true
  ·have eF : A.appF (p : Int) (x : Int) = (A,23) := by unfold Ar.appF; rw [if_neg h1,Int.toNat_natCast,Int.toNat_natCast,if_pos h2]
   rw [eF]
   clear eF h ful HW c0 c6 h1
   cases e2 : Ar.hld (A.lb p) with
   | false =>
     rw [e2] at HH
     clear h2
     go_enter Tryz.func53,Tryz.ntmps53
     go_wp2_with (first | (go_at_call 92; refine same_of (HT.out _) ?_) | (go_at_call 93; refine same_of (HH) ?_))
     go_ret
     exact ⟨rfl,hD0.out⟩
   | true =>
     have e3 : Ar.fix (A.lb x) = true := h2.resolve_left (by rw [e2]; simp)
     rw [e2] at HH
     rw [e3] at HF
     clear h2
     go_enter Tryz.func53,Tryz.ntmps53
     go_wp2_with (first | (go_at_call 92; refine same_of (HT.out _) ?_) | (go_at_call 93; refine same_of (HH) ?_) | (go_at_call 94; refine same_of (HF) ?_))
     go_ret
     exact ⟨rfl,hD0.out⟩
  ·have e2 : Ar.hld (A.lb p) = true := by cases e : Ar.hld (A.lb p) with | true => rfl | false => exact absurd (.inl e) h2
   have e3 : Ar.fix (A.lb x) = false := by cases e : Ar.fix (A.lb x) with | false => rfl | true => exact absurd (.inr e) h2
   rw [e2] at HH
   rw [e3] at HF
   cases hu : A.up x with
   | some u =>
     have eF : A.appF (p : Int) (x : Int) = (A,24) := by unfold Ar.appF; rw [if_neg h1,Int.toNat_natCast,Int.toNat_natCast,if_neg h2,if_pos (by rw [hu]; simp)]
     rw [eF]
     rw [hu,show Ar.upI (some u) = (u : Int) from rfl] at c6
     have ju : (0 : Int) ≤ (u : Int) := by omega
     clear eF h ful HW h1 h2
     go_enter Tryz.func53,Tryz.ntmps53
     go_wp2_with (first | (go_at_call 92; refine same_of (HT.out _) ?_) | (go_at_call 93; refine same_of (HH) ?_) | (go_at_call 94; refine same_of (HF) ?_))
     go_ret
     exact ⟨rfl,hD0.out⟩
   | none =>
     rw [hu,show Ar.upI none = -1 from rfl] at c6
     cases hw : A.wn p x with
     | true =>
       have eF : A.appF (p : Int) (x : Int) = (A,26) := by unfold Ar.appF; rw [if_neg h1,Int.toNat_natCast,Int.toNat_natCast,if_neg h2,if_neg (by rw [hu]; simp),if_pos hw]
       rw [eF]
       rw [hw] at HW
       clear eF h ful h1 h2
       go_enter Tryz.func53,Tryz.ntmps53
       go_wp2_with (first | (go_at_call 92; refine same_of (HT.out _) ?_) | (go_at_call 93; refine same_of (HH) ?_) | (go_at_call 94; refine same_of (HF) ?_) | (go_at_call 95; refine same_of (HW) ?_))
       go_ret
       exact ⟨rfl,hD0.out⟩
     | false =>
       have eF : A.appF (p : Int) (x : Int) = (A.put p (A.kids p).length x,0) := by unfold Ar.appF; rw [if_neg h1,Int.toNat_natCast,Int.toNat_natCast,if_neg h2,if_neg (by rw [hu]; simp),if_neg (by rw [hw]; simp)]
       rw [eF]
       rw [hw] at HW
       have HP := rput_any h ful.toOk hn p x (A.kids p).length hp' hx' (Nat.le_refl _)
       have c5 := (h.seven hp').2.2.2.2.2.1
       rw [h.klen hp'] at c5
       have j3 : (0 : Int) ≤ (p : Int) := by omega
       have j4 : (p : Int) < (A.n : Int) := by omega
       have HE : Hid (∀ w',Kp [g] w w' → (∃ pl',Dd (tg5 tag w) w' d g o c q (A.put p (A.kids p).length x) pl') → ∃ tag',Dn tag' w' d q (A.put p (A.kids p).length x) ∧ Dv tag w tag' w') := fun w' k h' => dn_turn h k h'
       clear eF h ful h1 h2 hD0
       go_enter Tryz.func53,Tryz.ntmps53
       go_wp2_with (first | (go_at_call 92; refine same_of (HT.out _) ?_) | (go_at_call 93; refine same_of (HH) ?_) | (go_at_call 94; refine same_of (HF) ?_) | (go_at_call 95; refine same_of (HW) ?_) | (go_at_call 96; refine HP.mono ?_; rintro e w1 ⟨rfl,k1,h1⟩))
       go_ret
       exact ⟨rfl,HE.out _ k1 h1⟩
end
end Go.Proofs.YtpkppobkagdhkaaGreat
namespace Go.Proofs.YtpkppobkagdhkaaGreat
open Go.RowKit
def inK (a b c : Int) (k : Nat) : Prop := (0 < k → inR a = true) ∧ (1 < k → inR b = true) ∧ (2 < k → inR c = true)
theorem inR_no {n : Int} (h : inR n = false) : n < 0 ∨ (0 ≤ n ∧ 2147483647 < n) := by
 unfold inR at h
 simp at h
 omega
theorem inR_yes {n : Int} (h : inR n = true) : 0 ≤ n ∧ n ≤ 2147483647 := by
 unfold inR at h
 simpa using h
set_option maxHeartbeats 2000000 in
theorem rref_1 (w : World) (a2 a3 a4 a5 a6 : Int) (a7 : ByteArray) (a8 : List Att) (a9 : ByteArray) (p1 : Option Addr) (p2 p3 : Nat) (hq : p2 = a8.length) (hb : p2 ≤ 100000) :
  Calls Tryz.prog 48 #[ov ⟨1,a2,a3,a4,a5,a6,a7,a8,a9⟩ (p1,p2,p3)] w fun e w' => e = .returned (.bool (rightO ⟨1,a2,a3,a4,a5,a6,a7,a8,a9⟩)) ∧ Kp [] w w' := by
 obtain ⟨A,hA0⟩ : ∃ A,rightO ⟨1,a2,a3,a4,a5,a6,a7,a8,a9⟩ = A := ⟨_,rfl⟩
 rw [hA0]
 have hA : Hid (rightO ⟨1,a2,a3,a4,a5,a6,a7,a8,a9⟩ = A) := hA0
 clear hA0
 have hk : Kp [] w ((w.alloc (.cells #[.int .i64 1,.int .i64 a2,.int .i64 a3,.int .i64 a4,.int .i64 a5,.int .i64 a6,.string a7,.slice p1 p2 p3,.string a9] 24)).alloc (.cells #[.int .i64 a2,.int .i64 a3,.int .i64 a4] 3)) := ((Kp.refl _ _).alloc _).alloc _
 clear hq hb
 simp only [ov]
 go_enter Tryz.func48,Tryz.ntmps48
 go_wp2
 go_loopw [13] (fun i wr => ∃ k : Nat,k ≤ 3 ∧ i = .int .i64 k ∧ wr = ((w.alloc (.cells #[.int .i64 1,.int .i64 a2,.int .i64 a3,.int .i64 a4,.int .i64 a5,.int .i64 a6,.string a7,.slice p1 p2 p3,.string a9] 24)).alloc (.cells #[.int .i64 a2,.int .i64 a3,.int .i64 a4] 3)) ∧ inK a2 a3 a4 k) (fun i _ => 3 - (intOf i).toNat)
 case atStart => exact ⟨0,by omega,rfl,rfl,fun h => by omega,fun h => by omega,fun h => by omega⟩
 case round =>
  obtain ⟨k,hk3,rfl,rfl,i1,i2,i3⟩ := hrel
  obtain rfl | rfl | rfl | rfl : k = 0 ∨ k = 1 ∨ k = 2 ∨ k = 3 := by omega
  ·cases c : inR a2
   ·have hA2 := hA.out
    rw [show rightO ⟨1,a2,a3,a4,a5,a6,a7,a8,a9⟩ = false by simp [rightO,c]] at hA2
    subst hA2
    clear hA i1 i2 i3
    rcases inR_no c with c1 | ⟨c1,c2⟩
    ·clear c
     go_wp2
     go_ret
     exact ⟨rfl,hk⟩
    ·clear c
     go_wp2
     go_ret
     exact ⟨rfl,hk⟩
   ·have II : Hid (inK a2 a3 a4 1) := ⟨fun _ => c,fun _ => absurd ‹_› (by omega),fun _ => absurd ‹_› (by omega)⟩
    obtain ⟨c1,c2⟩ := inR_yes c
    clear c i1 i2 i3 hA hk
    go_wp2
    go_roundw
    case rel => exact ⟨1,by omega,by first | rfl | go_num,by trivial,II.out⟩
    case measure => simp [intOf]
  ·cases c : inR a3
   ·have hA2 := hA.out
    rw [show rightO ⟨1,a2,a3,a4,a5,a6,a7,a8,a9⟩ = false by simp [rightO,c]] at hA2
    subst hA2
    clear hA i1 i2 i3
    rcases inR_no c with c1 | ⟨c1,c2⟩
    ·clear c
     go_wp2
     go_ret
     exact ⟨rfl,hk⟩
    ·clear c
     go_wp2
     go_ret
     exact ⟨rfl,hk⟩
   ·have II : Hid (inK a2 a3 a4 2) := ⟨fun _ => i1 (by omega),fun _ => c,fun _ => absurd ‹_› (by omega)⟩
    obtain ⟨c1,c2⟩ := inR_yes c
    clear c i1 i2 i3 hA hk
    go_wp2
    go_roundw
    case rel => exact ⟨2,by omega,by first | rfl | go_num,by trivial,II.out⟩
    case measure => simp [intOf]
  ·cases c : inR a4
   ·have hA2 := hA.out
    rw [show rightO ⟨1,a2,a3,a4,a5,a6,a7,a8,a9⟩ = false by simp [rightO,c]] at hA2
    subst hA2
    clear hA i1 i2 i3
    rcases inR_no c with c1 | ⟨c1,c2⟩
    ·clear c
     go_wp2
     go_ret
     exact ⟨rfl,hk⟩
    ·clear c
     go_wp2
     go_ret
     exact ⟨rfl,hk⟩
   ·have II : Hid (inK a2 a3 a4 3) := ⟨fun _ => i1 (by omega),fun _ => i2 (by omega),fun _ => c⟩
    obtain ⟨c1,c2⟩ := inR_yes c
    clear c i1 i2 i3 hA hk
    go_wp2
    go_roundw
    case rel => exact ⟨3,by omega,by first | rfl | go_num,by trivial,II.out⟩
    case measure => simp [intOf]
  ·have q1 := i1 (by omega)
   have q2 := i2 (by omega)
   have q3 := i3 (by omega)
   clear i1 i2 i3
   by_cases s1 : 0 ≤ a6
   ·by_cases s2 : a6 ≤ 2
    ·have hA2 := hA.out
     rw [show rightO ⟨1,a2,a3,a4,a5,a6,a7,a8,a9⟩ = (mk3 a5 && ((a3 == 0) && (a4 == 0))) by simp [rightO,rightK,q1,q2,q3,s1,s2]] at hA2
     clear hA q1 q2 q3
     simp only [mk3] at hA2
     cases t1 : (a5 == 2)
     ·cases t2 : (a5 == 3)
      ·cases t3 : (a5 == 5)
       ·skip
        simp only [t1,t2,t3,Bool.true_or,Bool.false_or,Bool.or_true,Bool.or_false,Bool.true_and,Bool.false_and,Bool.and_true,Bool.and_false] at hA2
        subst hA2
        go_wp2
        go_ret
        exact ⟨rfl,hk⟩
       ·skip
        cases t4 : (a3 == 0)
        ·skip
         simp only [t1,t2,t3,t4,Bool.true_or,Bool.false_or,Bool.or_true,Bool.or_false,Bool.true_and,Bool.false_and,Bool.and_true,Bool.and_false] at hA2
         subst hA2
         go_wp2
         go_ret
         exact ⟨rfl,hk⟩
        ·cases t5 : (a4 == 0)
         ·skip
          simp only [t1,t2,t3,t4,t5,Bool.true_or,Bool.false_or,Bool.or_true,Bool.or_false,Bool.true_and,Bool.false_and,Bool.and_true,Bool.and_false] at hA2
          subst hA2
          go_wp2
          go_ret
          exact ⟨rfl,hk⟩
         ·skip
          simp only [t1,t2,t3,t4,t5,Bool.true_or,Bool.false_or,Bool.or_true,Bool.or_false,Bool.true_and,Bool.false_and,Bool.and_true,Bool.and_false] at hA2
          subst hA2
          go_wp2
          go_ret
          exact ⟨rfl,hk⟩
      ·skip
       cases t4 : (a3 == 0)
       ·skip
        simp only [t1,t2,t4,Bool.true_or,Bool.false_or,Bool.or_true,Bool.or_false,Bool.true_and,Bool.false_and,Bool.and_true,Bool.and_false] at hA2
        subst hA2
        go_wp2
        go_ret
        exact ⟨rfl,hk⟩
       ·cases t5 : (a4 == 0)
        ·skip
         simp only [t1,t2,t4,t5,Bool.true_or,Bool.false_or,Bool.or_true,Bool.or_false,Bool.true_and,Bool.false_and,Bool.and_true,Bool.and_false] at hA2
         subst hA2
         go_wp2
         go_ret
         exact ⟨rfl,hk⟩
        ·skip
         simp only [t1,t2,t4,t5,Bool.true_or,Bool.false_or,Bool.or_true,Bool.or_false,Bool.true_and,Bool.false_and,Bool.and_true,Bool.and_false] at hA2
         subst hA2
         go_wp2
         go_ret
         exact ⟨rfl,hk⟩
     ·skip
      cases t4 : (a3 == 0)
      ·skip
       simp only [t1,t4,Bool.true_or,Bool.false_or,Bool.or_true,Bool.or_false,Bool.true_and,Bool.false_and,Bool.and_true,Bool.and_false] at hA2
       subst hA2
       go_wp2
       go_ret
       exact ⟨rfl,hk⟩
      ·cases t5 : (a4 == 0)
       ·skip
        simp only [t1,t4,t5,Bool.true_or,Bool.false_or,Bool.or_true,Bool.or_false,Bool.true_and,Bool.false_and,Bool.and_true,Bool.and_false] at hA2
        subst hA2
        go_wp2
        go_ret
        exact ⟨rfl,hk⟩
       ·skip
        simp only [t1,t4,t5,Bool.true_or,Bool.false_or,Bool.or_true,Bool.or_false,Bool.true_and,Bool.false_and,Bool.and_true,Bool.and_false] at hA2
        subst hA2
        go_wp2
        go_ret
        exact ⟨rfl,hk⟩
    ·have hA2 := hA.out
     rw [show rightO ⟨1,a2,a3,a4,a5,a6,a7,a8,a9⟩ = false by simp [rightO,s2]] at hA2
     subst hA2
     clear hA q1 q2 q3
     go_wp2
     go_ret
     exact ⟨rfl,hk⟩
   ·have hA2 := hA.out
    rw [show rightO ⟨1,a2,a3,a4,a5,a6,a7,a8,a9⟩ = false by simp [rightO,s1]] at hA2
    subst hA2
    clear hA q1 q2 q3
    go_wp2
    go_ret
    exact ⟨rfl,hk⟩
end Go.Proofs.YtpkppobkagdhkaaGreat
