/-
  Joined: RdD RdE RdF RdG RdH RdI.
-/
import Derived.Test.YtgjkfpmhgidpaaaGreatRA
import Derived.Test.YtgjkfpmhgidpaaaGreatPH

/-
  The document's arena: put.
-/
namespace Go.Proofs.YtgjkfpmhgidpaaaGreat
open Go.RowKit Go.Maps Utf
set_option linter.unusedVariables false
set_option linter.unusedSimpArgs false

section
variable {tag : Nat → Nat} {w : World} {d g o c : Nat} {q : Bool} {A : Ar} {pl : Nat → Dp}

set_option maxRecDepth 100000 in
set_option maxHeartbeats 1000000 in
theorem rput_some (h : Dd tag w d g o c q A pl) (ok : A.Ok) (hn : A.n < 50000) (p x i : Nat) (hp : p < A.n) (hx : x < A.n) (hi : i ≤ (A.kids p).length) (b7 o7 : Nat) (hk : (pl p).2.1 = some ⟨b7, o7, none⟩) :
    Calls Tryz.prog 65 #[.pointer (some ⟨d, 0, none⟩), .int .i64 (p : Int), .int .i64 (i : Int), .int .i64 (x : Int)] w fun e w' => e = .returned (.tuple #[]) ∧ Kp [g] w w' ∧ ∃ pl', Dd (tg5 tag w) w' d g o c q (A.put p i x) pl' := by
  have kl := h.klen hp
  have hb : (A.kids p).length ≤ A.n := Ar.pig _ _ (ok.one p) (fun y hy => (ok.kid_lt hy).1)
  have j3 : (0 : Int) ≤ (p : Int) := by omega
  have j4 : (p : Int) < (A.n : Int) := by omega
  have j1 : (0 : Int) ≤ (x : Int) := by omega
  have j2 : (x : Int) < (A.n : Int) := by omega
  have i1 : (0 : Int) ≤ (i : Int) := by omega
  have i2 : (i : Int) ≤ ((A.kids p).length : Int) := by omega
  have kcp := (h.kid p hp).cap
  have c0 := h.head.1
  have c5 := (h.seven hp).2.2.2.2.2.1
  rw [hk, kl] at c5
  rw [kl] at kcp
  have i3 : (i : Int) ≤ ((pl p).2.2.2 : Int) := by omega
  have i4 : ((A.kids p).length : Int) ≤ ((pl p).2.2.2 : Int) := by omega
  obtain ⟨ko2, hko⟩ : ∃ a, (if (pl p).2.2.2 = i then (some ⟨b7, o7, none⟩ : Option Addr) else some ⟨b7, o7 + i, none⟩) = a := ⟨_, rfl⟩
  have HC : Hid (∀ V, Kp [] w V → V.cell? ⟨d, 0, none⟩ = some (.slice (some ⟨g, o, none⟩) A.n c)) := fun V k => (h.kept k).head.1
  have HF : Hid (∀ V, Kp [] w V → V.cell? ⟨g, o + p * 7 + 5, none⟩ = some (.slice (some ⟨b7, o7, none⟩) (A.kids p).length (pl p).2.2.2) ∧ ∀ j, V.frozen? ⟨g, j, none⟩ = false) := fun V k => by
    have := ((h.kept k).seven hp).2.2.2.2.2.1
    rw [hk, kl] at this
    exact ⟨this, (h.kept k).free⟩
  have HT : Hid (∀ V, Kp [] w V → Src Tryz.prog 1 57 (.slice (some ⟨b7, o7, none⟩) i (pl p).2.2.2) i (iv ((A.kids p).take i)) V) := fun V k => by
    have := ((h.kept k).kid p hp).take i (by omega)
    rw [hk, Nat.mul_one, show (iv (A.kids p)).take i = iv ((A.kids p).take i) by simp [iv]] at this
    exact this.src Tryz.underlying57 (iv_one _)
  have HD : Hid (∀ V, Kp [] w V → Src Tryz.prog 1 57 (.slice ko2 ((A.kids p).length - i) ((pl p).2.2.2 - i)) ((A.kids p).length - i) (iv ((A.kids p).drop i)) V) := fun V k => by
    have := (h.kept k).kid p hp
    rw [hk, kl] at this
    have := this.drop2 i hi
    rw [hko, show (iv (A.kids p)).drop i = iv ((A.kids p).drop i) by simp [iv]] at this
    exact this.src Tryz.underlying57 (iv_one _)
  have hdg := h.ne
  have hS1 : (World.drew w).cell? ⟨d, 0, none⟩ = some (.slice (some ⟨g, o, none⟩) A.n c) := c0
  have HZ : Hid (∀ U a n' c', Made w U 3 (some a) n' c' (iv [] ++ iv ((A.kids p).take i) ++ [.int .i64 (x : Int)] ++ iv ((A.kids p).drop i)) → ((U.setCell ⟨g, o + p * 7 + 5, none⟩ (.slice (some a) n' c')).cell? ⟨d, 0, none⟩ = some (.slice (some ⟨g, o, none⟩) A.n c) ∧ (U.setCell ⟨g, o + p * 7 + 5, none⟩ (.slice (some a) n' c')).cell? ⟨g, o + x * 7 + 6, none⟩ = some (.int .i64 (Ar.upI (A.up x))) ∧ ∀ j, (U.setCell ⟨g, o + p * 7 + 5, none⟩ (.slice (some a) n' c')).frozen? ⟨g, j, none⟩ = false) ∧ Kp [g] w ((U.setCell ⟨g, o + p * 7 + 5, none⟩ (.slice (some a) n' c')).setCell ⟨g, o + x * 7 + 6, none⟩ (.int .i64 (p : Int))) ∧ ∃ pl', Dd (tg5 tag w) ((U.setCell ⟨g, o + p * 7 + 5, none⟩ (.slice (some a) n' c')).setCell ⟨g, o + x * 7 + 6, none⟩ (.int .i64 (p : Int))) d g o c q (A.put p i x) pl') := fun U a n' c' M => by
    have M' : Made w U 3 (some a) n' c' (iv ((A.kids p).take i ++ x :: (A.kids p).drop i)) := by
      rw [show iv ((A.kids p).take i ++ x :: (A.kids p).drop i) = iv [] ++ iv ((A.kids p).take i) ++ [.int .i64 (x : Int)] ++ iv ((A.kids p).drop i) by simp [iv]]
      exact M
    obtain ⟨P, e1, e2⟩ := h.kids M' hp hx (some p)
    exact ⟨⟨e1.head.1, (e1.seven hx).2.2.2.2.2.2, e1.free⟩, kpg (kpg (M.2.1.mono (T := [g]) (fun x hx => by simp at hx)) _ _) _ _, P, e2⟩
  generalize (pl p).2.2.2 = kc at *
  clear h kl hk ok
  generalize A.kids p = ks at *
  generalize Ar.upI (A.up x) = ux at HZ
  go_enter Tryz.func65, Tryz.ntmps65
  go_wp2_with fail
  clear c5
  obtain ⟨U0, hU0⟩ : ∃ V, V = w.drew := ⟨_, rfl⟩
  have k0 : Kp [] w U0 := by rw [hU0]; exact (Kp.refl _ _).drew
  refine wp_region_g (S := fun V => V.cell? ⟨d, 0, none⟩ = some (.slice (some ⟨g, o, none⟩) A.n c)) (T := [19]) (by kernel_rfl) hS1 (fun hHeld => ?_)
  rw [← hU0] at hHeld ⊢
  clear hU0
  refine g_pure 0 (oi := ⟨some 17, .move (.tmp 0), 24, "ref.go:86", #[], none⟩) (v := ?_) (Or.inl ⟨by rfl, ?_⟩) ?_
  rotate_left
  · (intro w; go_simp; try with_reducible rfl)
  simp only [Act.put, pu1, pu2, pu3]
  refine g_pure 1 (oi := ⟨some 18, .nilCheck (.tmp 17), 0, "ref.go:86", #[⟨0, .data⟩], none⟩) (v := ?_) (Or.inl ⟨by rfl, ?_⟩) ?_
  rotate_left
  · (intro w; go_simp; try with_reducible rfl)
  simp only [Act.put, pu1, pu2, pu3]
  refine g_pure 2 (oi := ⟨some 19, .fieldAddr 62 (.tmp 18) 0, 0, "ref.go:86", #[⟨1, .data⟩], none⟩) (v := ?_) (Or.inl ⟨by rfl, ?_⟩) ?_
  rotate_left
  · (intro w; go_simp; try with_reducible rfl)
  simp only [Act.put, pu1, pu2, pu3]
  refine g_take 3 (oi := ⟨some 20, .load 60 (.tmp 19), 60, "ref.go:86", #[⟨2, .data⟩], none⟩) (v := ?_) (Or.inl ⟨by rfl, ?_⟩) ?_
  rotate_left
  · (intro w hSw; (have q1 := hSw); go_simp; try with_reducible rfl)
  simp only [Act.put, pu1, pu2, pu3]
  refine g_pure 4 (oi := ⟨some 21, .move (.tmp 1), 3, "ref.go:86", #[], none⟩) (v := ?_) (Or.inl ⟨by rfl, ?_⟩) ?_
  rotate_left
  · (intro w; go_simp; try with_reducible rfl)
  simp only [Act.put, pu1, pu2, pu3]
  refine g_pure 6 (oi := ⟨some 23, .move (.tmp 8), 57, "ref.go:86", #[], none⟩) (v := ?_) (Or.inl ⟨by rfl, ?_⟩) ?_
  rotate_left
  · (intro w; go_simp; try with_reducible rfl)
  simp only [Act.put, pu1, pu2, pu3]
  refine g_pure 7 (oi := ⟨some 24, .move (.tmp 2), 3, "ref.go:86", #[], none⟩) (v := ?_) (Or.inl ⟨by rfl, ?_⟩) ?_
  rotate_left
  · (intro w; go_simp; try with_reducible rfl)
  simp only [Act.put, pu1, pu2, pu3]
  refine g_pure 8 (oi := ⟨some 25, .slice 57 (.tmp 23) none (some (.tmp 24)) none, 57, "ref.go:86", #[⟨6, .data⟩, ⟨7, .data⟩], none⟩) (v := ?_) (Or.inl ⟨by rfl, ?_⟩) ?_
  rotate_left
  · (intro w; go_simp; try with_reducible rfl)
  simp only [Act.put, pu1, pu2, pu3]
  refine g_pure 10 (oi := ⟨some 27, .move (.tmp 3), 3, "ref.go:86", #[], none⟩) (v := ?_) (Or.inl ⟨by rfl, ?_⟩) ?_
  rotate_left
  · (intro w; go_simp; try with_reducible rfl)
  simp only [Act.put, pu1, pu2, pu3]
  refine g_pure 13 (oi := ⟨some 30, .move (.tmp 8), 57, "ref.go:86", #[], none⟩) (v := ?_) (Or.inl ⟨by rfl, ?_⟩) ?_
  rotate_left
  · (intro w; go_simp; try with_reducible rfl)
  simp only [Act.put, pu1, pu2, pu3]
  refine g_pure 14 (oi := ⟨some 31, .move (.tmp 2), 3, "ref.go:86", #[], none⟩) (v := ?_) (Or.inl ⟨by rfl, ?_⟩) ?_
  rotate_left
  · (intro w; go_simp; try with_reducible rfl)
  simp only [Act.put, pu1, pu2, pu3]
  refine g_pure 15 (oi := ⟨some 32, .slice 57 (.tmp 30) (some (.tmp 31)) none none, 57, "ref.go:86", #[⟨13, .data⟩, ⟨14, .data⟩], none⟩) (v := ?_) (Or.inl ⟨by rfl, ?_⟩) ?_
  rotate_left
  · (intro w; go_simp; try with_reducible rfl)
  simp only [Act.put, pu1, pu2, pu3]
  refine wpAnyG_ready (rs := [5, 11]) (by kernel_rfl) (by simp) ?_
  refine AllReadyG.cons (o := ⟨some 22, .buildSlice 57 0 #[], 57, "ref.go:86", #[], none⟩) rfl (fun K hK => ?_) ?_
  · go_simp
    obtain ⟨U1, hU⟩ : ∃ V, V = World.alloc U0 (.cells #[] 3) := ⟨_, rfl⟩
    rw [← hU]
    have u1 : Kp [] U0 U1 := by rw [hU]; exact (Kp.refl _ _).alloc _
    have k1 : Kp [] w U1 := k0.trans u1 (fun z hz => by simp at hz)
    have M5 : Made w U1 3 (some ⟨U0.heap.size, 0, none⟩) 0 0 (iv []) := ⟨Or.inr ⟨_, 0, 0, #[], rfl, by rw [hU]; exact heap_new _ _, Nat.le_refl _, Nat.zero_le _, by simp, fun j hj => by cases hj⟩, k1, fun z hz => by simp [blk] at hz; have := k0.size; omega⟩
    obtain ⟨g5, hg5⟩ : ∃ g, U0.heap.size = g := ⟨_, rfl⟩
    rw [hg5] at M5 ⊢
    clear hU
    refine hK.out _ _ (HC.out _ k1) (fun hHeld1 => ?_)
    clear hK K hHeld
    try simp only [Act.put, pu1, pu2, pu3]
    refine wpAnyG_ready (rs := [9, 11]) (by kernel_rfl) (by simp) ?_
    refine AllReadyG.cons (o := ⟨some 26, .call { callee := .builtin .append, args := #[.tmp 22, .tmp 25], argTypes := #[57, 57] }, 57, "ref.go:86", #[⟨5, .data⟩, ⟨8, .data⟩], none⟩) rfl (fun K hK => ?_) ?_
    · obtain ⟨a9, n9, c9, U2, run9, M9, kk9, _⟩ := M5.join (by simp) _ _ _ (HT.out _ k1) (by simp [iv]; omega)
      refine step_app2 (by rfl) _ _ 57 57 (by rfl) _ _ (by rfl) (by rfl) run9 ?_
      have k2 := M9.2.1
      refine hK.out _ _ (HC.out _ k2) (fun hHeld2 => ?_)
      clear hK K hHeld1
      try simp only [Act.put, pu1, pu2, pu3]
      refine wpAnyG_ready (rs := [11]) (by kernel_rfl) (by simp) ?_
      refine AllReadyG.cons (o := ⟨some 28, .buildSlice 57 1 #[(0, .tmp 27)], 57, "ref.go:86", #[⟨10, .data⟩], none⟩) rfl (fun K hK => ?_) AllReadyG.nil
      go_simp
      obtain ⟨U3, hU⟩ : ∃ V, V = World.alloc U2 (.cells #[.int .i64 (x : Int)] 3) := ⟨_, rfl⟩
      rw [← hU]
      have u3 : Kp [] U2 U3 := by rw [hU]; exact (Kp.refl _ _).alloc _
      have k3 : Kp [] w U3 := k2.trans u3 (fun z hz => by simp at hz)
      have A11 : At U3 U2.heap.size #[.int .i64 (x : Int)] 3 := by rw [hU]; exact At.new _ _ _
      have M9 := M9.kept u3
      obtain ⟨g11, hg11⟩ : ∃ g, U2.heap.size = g := ⟨_, rfl⟩
      rw [hg11] at A11 ⊢
      clear hU
      refine hK.out _ _ (HC.out _ k3) (fun hHeld3 => ?_)
      clear hK K hHeld2
      try simp only [Act.put, pu1, pu2, pu3]
      refine wpAnyG_ready (rs := [12]) (by kernel_rfl) (by simp) ?_
      refine AllReadyG.cons (o := ⟨some 29, .call { callee := .builtin .append, args := #[.tmp 26, .tmp 28], argTypes := #[57, 57] }, 57, "ref.go:86", #[⟨9, .data⟩, ⟨11, .data⟩, ⟨9, .chain⟩], none⟩) rfl (fun K hK => ?_) AllReadyG.nil
      obtain ⟨a12, n12, c12, U4, run12, M12, kk12, _⟩ := M9.join (by simp) _ _ _ ((rk_lit A11).src Tryz.underlying57 (fun u hu => by rw [List.mem_singleton.1 hu]; rfl)) (by simp [iv]; omega)
      refine step_app2 (by rfl) _ _ 57 57 (by rfl) _ _ (by rfl) (by rfl) run12 ?_
      have k4 := M12.2.1
      refine hK.out _ _ (HC.out _ k4) (fun hHeld4 => ?_)
      clear hK K hHeld3
      try simp only [Act.put, pu1, pu2, pu3]
      refine wpAnyG_ready (rs := [16]) (by kernel_rfl) (by simp) ?_
      refine AllReadyG.cons (o := ⟨some 33, .call { callee := .builtin .append, args := #[.tmp 29, .tmp 32], argTypes := #[57, 57] }, 57, "ref.go:86", #[⟨12, .data⟩, ⟨15, .data⟩, ⟨12, .chain⟩], none⟩) rfl (fun K hK => ?_) AllReadyG.nil
      obtain ⟨a16, n16, c16, U5, run16, M16, kk16, _⟩ := M12.join (by simp) _ _ _ (HD.out _ k4) (by simp [iv]; omega)
      refine step_app2 (by rfl) _ _ 57 57 (by rfl) _ _ (by rfl) (by rfl) run16 ?_
      have k5 := M16.2.1
      refine hK.out _ _ (HC.out _ k5) (fun hHeld5 => ?_)
      clear hK K hHeld4
      try simp only [Act.put, pu1, pu2, pu3]
      refine g_pure 17 (oi := ⟨some 34, .indexAddr 60 (.tmp 20) (.tmp 21), 0, "ref.go:86", #[⟨3, .data⟩, ⟨4, .data⟩, ⟨0, .phase⟩, ⟨1, .phase⟩, ⟨2, .phase⟩, ⟨3, .phase⟩, ⟨4, .phase⟩, ⟨5, .phase⟩, ⟨6, .phase⟩, ⟨7, .phase⟩, ⟨8, .phase⟩, ⟨9, .phase⟩, ⟨10, .phase⟩, ⟨11, .phase⟩, ⟨12, .phase⟩, ⟨13, .phase⟩, ⟨14, .phase⟩, ⟨15, .phase⟩, ⟨16, .phase⟩], none⟩) (v := ?_) (Or.inl ⟨by rfl, ?_⟩) ?_
      rotate_left
      · (intro w; go_simp; try with_reducible rfl)
      simp only [Act.put, pu1, pu2, pu3]
      refine g_pure 18 (oi := ⟨some 35, .fieldAddr 59 (.tmp 34) 5, 0, "ref.go:86", #[⟨17, .data⟩, ⟨0, .phase⟩, ⟨1, .phase⟩, ⟨2, .phase⟩, ⟨3, .phase⟩, ⟨4, .phase⟩, ⟨5, .phase⟩, ⟨6, .phase⟩, ⟨7, .phase⟩, ⟨8, .phase⟩, ⟨9, .phase⟩, ⟨10, .phase⟩, ⟨11, .phase⟩, ⟨12, .phase⟩, ⟨13, .phase⟩, ⟨14, .phase⟩, ⟨15, .phase⟩, ⟨16, .phase⟩], none⟩) (v := ?_) (Or.inl ⟨by rfl, ?_⟩) ?_
      rotate_left
      · (intro w; go_simp; try with_reducible rfl)
      simp only [Act.put, pu1, pu2, pu3]
      refine wpAnyG_free (by kernel_rfl) ?_
      refine wpAny_ready (rs := [19]) (by kernel_rfl) (by simp) ?_
      refine AllReady.cons (o := ⟨none, .store 57 (.tmp 35) (.tmp 33), 0, "ref.go:86", #[⟨18, .data⟩, ⟨16, .data⟩, ⟨16, .chain⟩, ⟨0, .phase⟩, ⟨1, .phase⟩, ⟨2, .phase⟩, ⟨3, .phase⟩, ⟨4, .phase⟩, ⟨5, .phase⟩, ⟨6, .phase⟩, ⟨7, .phase⟩, ⟨8, .phase⟩, ⟨9, .phase⟩, ⟨10, .phase⟩, ⟨11, .phase⟩, ⟨12, .phase⟩, ⟨13, .phase⟩, ⟨14, .phase⟩, ⟨15, .phase⟩, ⟨16, .phase⟩], none⟩) rfl (fun K hK => ?_) AllReady.nil
      obtain ⟨f5, fr⟩ := HF.out _ k5
      go_simp
      refine hK _ _ ?_
      clear hK K
      try simp only [Act.put, pu1, pu2, pu3]
      refine wpAny_done (by kernel_rfl) ?_ _
      obtain ⟨⟨z1, z2, z3⟩, z4, P, z5⟩ := HZ.out _ _ _ _ M16
      have ZZ : Hid _ := And.intro z4 (Exists.intro P z5)
      clear z4 z5
      go_wp2
      go_end0
      exact ⟨rfl, ZZ.out⟩
    refine AllReadyG.cons (o := ⟨some 28, .buildSlice 57 1 #[(0, .tmp 27)], 57, "ref.go:86", #[⟨10, .data⟩], none⟩) rfl (fun K hK => ?_) AllReadyG.nil
    go_simp
    obtain ⟨U2, hU⟩ : ∃ V, V = World.alloc U1 (.cells #[.int .i64 (x : Int)] 3) := ⟨_, rfl⟩
    rw [← hU]
    have u2 : Kp [] U1 U2 := by rw [hU]; exact (Kp.refl _ _).alloc _
    have k2 : Kp [] w U2 := k1.trans u2 (fun z hz => by simp at hz)
    have A11 : At U2 U1.heap.size #[.int .i64 (x : Int)] 3 := by rw [hU]; exact At.new _ _ _
    have hgl := M5.1.lt g5 (by simp [blk])
    have M5 := M5.kept u2
    obtain ⟨g11, hg11⟩ : ∃ g, U1.heap.size = g := ⟨_, rfl⟩
    rw [hg11] at A11 ⊢
    clear hU
    have hne : g11 ≠ g5 := by omega
    refine hK.out _ _ (HC.out _ k2) (fun hHeld2 => ?_)
    clear hK K hHeld1
    try simp only [Act.put, pu1, pu2, pu3]
    refine wpAnyG_ready (rs := [9]) (by kernel_rfl) (by simp) ?_
    refine AllReadyG.cons (o := ⟨some 26, .call { callee := .builtin .append, args := #[.tmp 22, .tmp 25], argTypes := #[57, 57] }, 57, "ref.go:86", #[⟨5, .data⟩, ⟨8, .data⟩], none⟩) rfl (fun K hK => ?_) AllReadyG.nil
    obtain ⟨a9, n9, c9, U3, run9, M9, kk9, _⟩ := M5.join (by simp) _ _ _ (HT.out _ k2) (by simp [iv]; omega)
    refine step_app2 (by rfl) _ _ 57 57 (by rfl) _ _ (by rfl) (by rfl) run9 ?_
    have k3 := M9.2.1
    have A11 := A11.kept kk9 (by simp [blk]; exact hne)
    refine hK.out _ _ (HC.out _ k3) (fun hHeld3 => ?_)
    clear hK K hHeld2
    try simp only [Act.put, pu1, pu2, pu3]
    refine wpAnyG_ready (rs := [12]) (by kernel_rfl) (by simp) ?_
    refine AllReadyG.cons (o := ⟨some 29, .call { callee := .builtin .append, args := #[.tmp 26, .tmp 28], argTypes := #[57, 57] }, 57, "ref.go:86", #[⟨9, .data⟩, ⟨11, .data⟩, ⟨9, .chain⟩], none⟩) rfl (fun K hK => ?_) AllReadyG.nil
    obtain ⟨a12, n12, c12, U4, run12, M12, kk12, _⟩ := M9.join (by simp) _ _ _ ((rk_lit A11).src Tryz.underlying57 (fun u hu => by rw [List.mem_singleton.1 hu]; rfl)) (by simp [iv]; omega)
    refine step_app2 (by rfl) _ _ 57 57 (by rfl) _ _ (by rfl) (by rfl) run12 ?_
    have k4 := M12.2.1
    refine hK.out _ _ (HC.out _ k4) (fun hHeld4 => ?_)
    clear hK K hHeld3
    try simp only [Act.put, pu1, pu2, pu3]
    refine wpAnyG_ready (rs := [16]) (by kernel_rfl) (by simp) ?_
    refine AllReadyG.cons (o := ⟨some 33, .call { callee := .builtin .append, args := #[.tmp 29, .tmp 32], argTypes := #[57, 57] }, 57, "ref.go:86", #[⟨12, .data⟩, ⟨15, .data⟩, ⟨12, .chain⟩], none⟩) rfl (fun K hK => ?_) AllReadyG.nil
    obtain ⟨a16, n16, c16, U5, run16, M16, kk16, _⟩ := M12.join (by simp) _ _ _ (HD.out _ k4) (by simp [iv]; omega)
    refine step_app2 (by rfl) _ _ 57 57 (by rfl) _ _ (by rfl) (by rfl) run16 ?_
    have k5 := M16.2.1
    refine hK.out _ _ (HC.out _ k5) (fun hHeld5 => ?_)
    clear hK K hHeld4
    try simp only [Act.put, pu1, pu2, pu3]
    refine g_pure 17 (oi := ⟨some 34, .indexAddr 60 (.tmp 20) (.tmp 21), 0, "ref.go:86", #[⟨3, .data⟩, ⟨4, .data⟩, ⟨0, .phase⟩, ⟨1, .phase⟩, ⟨2, .phase⟩, ⟨3, .phase⟩, ⟨4, .phase⟩, ⟨5, .phase⟩, ⟨6, .phase⟩, ⟨7, .phase⟩, ⟨8, .phase⟩, ⟨9, .phase⟩, ⟨10, .phase⟩, ⟨11, .phase⟩, ⟨12, .phase⟩, ⟨13, .phase⟩, ⟨14, .phase⟩, ⟨15, .phase⟩, ⟨16, .phase⟩], none⟩) (v := ?_) (Or.inl ⟨by rfl, ?_⟩) ?_
    rotate_left
    · (intro w; go_simp; try with_reducible rfl)
    simp only [Act.put, pu1, pu2, pu3]
    refine g_pure 18 (oi := ⟨some 35, .fieldAddr 59 (.tmp 34) 5, 0, "ref.go:86", #[⟨17, .data⟩, ⟨0, .phase⟩, ⟨1, .phase⟩, ⟨2, .phase⟩, ⟨3, .phase⟩, ⟨4, .phase⟩, ⟨5, .phase⟩, ⟨6, .phase⟩, ⟨7, .phase⟩, ⟨8, .phase⟩, ⟨9, .phase⟩, ⟨10, .phase⟩, ⟨11, .phase⟩, ⟨12, .phase⟩, ⟨13, .phase⟩, ⟨14, .phase⟩, ⟨15, .phase⟩, ⟨16, .phase⟩], none⟩) (v := ?_) (Or.inl ⟨by rfl, ?_⟩) ?_
    rotate_left
    · (intro w; go_simp; try with_reducible rfl)
    simp only [Act.put, pu1, pu2, pu3]
    refine wpAnyG_free (by kernel_rfl) ?_
    refine wpAny_ready (rs := [19]) (by kernel_rfl) (by simp) ?_
    refine AllReady.cons (o := ⟨none, .store 57 (.tmp 35) (.tmp 33), 0, "ref.go:86", #[⟨18, .data⟩, ⟨16, .data⟩, ⟨16, .chain⟩, ⟨0, .phase⟩, ⟨1, .phase⟩, ⟨2, .phase⟩, ⟨3, .phase⟩, ⟨4, .phase⟩, ⟨5, .phase⟩, ⟨6, .phase⟩, ⟨7, .phase⟩, ⟨8, .phase⟩, ⟨9, .phase⟩, ⟨10, .phase⟩, ⟨11, .phase⟩, ⟨12, .phase⟩, ⟨13, .phase⟩, ⟨14, .phase⟩, ⟨15, .phase⟩, ⟨16, .phase⟩], none⟩) rfl (fun K hK => ?_) AllReady.nil
    obtain ⟨f5, fr⟩ := HF.out _ k5
    go_simp
    refine hK _ _ ?_
    clear hK K
    try simp only [Act.put, pu1, pu2, pu3]
    refine wpAny_done (by kernel_rfl) ?_ _
    obtain ⟨⟨z1, z2, z3⟩, z4, P, z5⟩ := HZ.out _ _ _ _ M16
    have ZZ : Hid _ := And.intro z4 (Exists.intro P z5)
    clear z4 z5
    go_wp2
    go_end0
    exact ⟨rfl, ZZ.out⟩
  refine AllReadyG.cons (o := ⟨some 28, .buildSlice 57 1 #[(0, .tmp 27)], 57, "ref.go:86", #[⟨10, .data⟩], none⟩) rfl (fun K hK => ?_) AllReadyG.nil
  go_simp
  obtain ⟨U1, hU⟩ : ∃ V, V = World.alloc U0 (.cells #[.int .i64 (x : Int)] 3) := ⟨_, rfl⟩
  rw [← hU]
  have u1 : Kp [] U0 U1 := by rw [hU]; exact (Kp.refl _ _).alloc _
  have k1 : Kp [] w U1 := k0.trans u1 (fun z hz => by simp at hz)
  have A11 : At U1 U0.heap.size #[.int .i64 (x : Int)] 3 := by rw [hU]; exact At.new _ _ _
  obtain ⟨g11, hg11⟩ : ∃ g, U0.heap.size = g := ⟨_, rfl⟩
  rw [hg11] at A11 ⊢
  clear hU
  refine hK.out _ _ (HC.out _ k1) (fun hHeld1 => ?_)
  clear hK K hHeld
  try simp only [Act.put, pu1, pu2, pu3]
  refine wpAnyG_ready (rs := [5]) (by kernel_rfl) (by simp) ?_
  refine AllReadyG.cons (o := ⟨some 22, .buildSlice 57 0 #[], 57, "ref.go:86", #[], none⟩) rfl (fun K hK => ?_) AllReadyG.nil
  go_simp
  obtain ⟨U2, hU⟩ : ∃ V, V = World.alloc U1 (.cells #[] 3) := ⟨_, rfl⟩
  rw [← hU]
  have u2 : Kp [] U1 U2 := by rw [hU]; exact (Kp.refl _ _).alloc _
  have k2 : Kp [] w U2 := k1.trans u2 (fun z hz => by simp at hz)
  have M5 : Made w U2 3 (some ⟨U1.heap.size, 0, none⟩) 0 0 (iv []) := ⟨Or.inr ⟨_, 0, 0, #[], rfl, by rw [hU]; exact heap_new _ _, Nat.le_refl _, Nat.zero_le _, by simp, fun j hj => by cases hj⟩, k2, fun z hz => by simp [blk] at hz; have := k1.size; omega⟩
  have hgl := A11.lt
  have A11 := A11.kept u2 (by simp)
  obtain ⟨g5, hg5⟩ : ∃ g, U1.heap.size = g := ⟨_, rfl⟩
  rw [hg5] at M5 ⊢
  clear hU
  have hne : g11 ≠ g5 := by omega
  refine hK.out _ _ (HC.out _ k2) (fun hHeld2 => ?_)
  clear hK K hHeld1
  try simp only [Act.put, pu1, pu2, pu3]
  refine wpAnyG_ready (rs := [9]) (by kernel_rfl) (by simp) ?_
  refine AllReadyG.cons (o := ⟨some 26, .call { callee := .builtin .append, args := #[.tmp 22, .tmp 25], argTypes := #[57, 57] }, 57, "ref.go:86", #[⟨5, .data⟩, ⟨8, .data⟩], none⟩) rfl (fun K hK => ?_) AllReadyG.nil
  obtain ⟨a9, n9, c9, U3, run9, M9, kk9, _⟩ := M5.join (by simp) _ _ _ (HT.out _ k2) (by simp [iv]; omega)
  refine step_app2 (by rfl) _ _ 57 57 (by rfl) _ _ (by rfl) (by rfl) run9 ?_
  have k3 := M9.2.1
  have A11 := A11.kept kk9 (by simp [blk]; exact hne)
  refine hK.out _ _ (HC.out _ k3) (fun hHeld3 => ?_)
  clear hK K hHeld2
  try simp only [Act.put, pu1, pu2, pu3]
  refine wpAnyG_ready (rs := [12]) (by kernel_rfl) (by simp) ?_
  refine AllReadyG.cons (o := ⟨some 29, .call { callee := .builtin .append, args := #[.tmp 26, .tmp 28], argTypes := #[57, 57] }, 57, "ref.go:86", #[⟨9, .data⟩, ⟨11, .data⟩, ⟨9, .chain⟩], none⟩) rfl (fun K hK => ?_) AllReadyG.nil
  obtain ⟨a12, n12, c12, U4, run12, M12, kk12, _⟩ := M9.join (by simp) _ _ _ ((rk_lit A11).src Tryz.underlying57 (fun u hu => by rw [List.mem_singleton.1 hu]; rfl)) (by simp [iv]; omega)
  refine step_app2 (by rfl) _ _ 57 57 (by rfl) _ _ (by rfl) (by rfl) run12 ?_
  have k4 := M12.2.1
  refine hK.out _ _ (HC.out _ k4) (fun hHeld4 => ?_)
  clear hK K hHeld3
  try simp only [Act.put, pu1, pu2, pu3]
  refine wpAnyG_ready (rs := [16]) (by kernel_rfl) (by simp) ?_
  refine AllReadyG.cons (o := ⟨some 33, .call { callee := .builtin .append, args := #[.tmp 29, .tmp 32], argTypes := #[57, 57] }, 57, "ref.go:86", #[⟨12, .data⟩, ⟨15, .data⟩, ⟨12, .chain⟩], none⟩) rfl (fun K hK => ?_) AllReadyG.nil
  obtain ⟨a16, n16, c16, U5, run16, M16, kk16, _⟩ := M12.join (by simp) _ _ _ (HD.out _ k4) (by simp [iv]; omega)
  refine step_app2 (by rfl) _ _ 57 57 (by rfl) _ _ (by rfl) (by rfl) run16 ?_
  have k5 := M16.2.1
  refine hK.out _ _ (HC.out _ k5) (fun hHeld5 => ?_)
  clear hK K hHeld4
  try simp only [Act.put, pu1, pu2, pu3]
  refine g_pure 17 (oi := ⟨some 34, .indexAddr 60 (.tmp 20) (.tmp 21), 0, "ref.go:86", #[⟨3, .data⟩, ⟨4, .data⟩, ⟨0, .phase⟩, ⟨1, .phase⟩, ⟨2, .phase⟩, ⟨3, .phase⟩, ⟨4, .phase⟩, ⟨5, .phase⟩, ⟨6, .phase⟩, ⟨7, .phase⟩, ⟨8, .phase⟩, ⟨9, .phase⟩, ⟨10, .phase⟩, ⟨11, .phase⟩, ⟨12, .phase⟩, ⟨13, .phase⟩, ⟨14, .phase⟩, ⟨15, .phase⟩, ⟨16, .phase⟩], none⟩) (v := ?_) (Or.inl ⟨by rfl, ?_⟩) ?_
  rotate_left
  · (intro w; go_simp; try with_reducible rfl)
  simp only [Act.put, pu1, pu2, pu3]
  refine g_pure 18 (oi := ⟨some 35, .fieldAddr 59 (.tmp 34) 5, 0, "ref.go:86", #[⟨17, .data⟩, ⟨0, .phase⟩, ⟨1, .phase⟩, ⟨2, .phase⟩, ⟨3, .phase⟩, ⟨4, .phase⟩, ⟨5, .phase⟩, ⟨6, .phase⟩, ⟨7, .phase⟩, ⟨8, .phase⟩, ⟨9, .phase⟩, ⟨10, .phase⟩, ⟨11, .phase⟩, ⟨12, .phase⟩, ⟨13, .phase⟩, ⟨14, .phase⟩, ⟨15, .phase⟩, ⟨16, .phase⟩], none⟩) (v := ?_) (Or.inl ⟨by rfl, ?_⟩) ?_
  rotate_left
  · (intro w; go_simp; try with_reducible rfl)
  simp only [Act.put, pu1, pu2, pu3]
  refine wpAnyG_free (by kernel_rfl) ?_
  refine wpAny_ready (rs := [19]) (by kernel_rfl) (by simp) ?_
  refine AllReady.cons (o := ⟨none, .store 57 (.tmp 35) (.tmp 33), 0, "ref.go:86", #[⟨18, .data⟩, ⟨16, .data⟩, ⟨16, .chain⟩, ⟨0, .phase⟩, ⟨1, .phase⟩, ⟨2, .phase⟩, ⟨3, .phase⟩, ⟨4, .phase⟩, ⟨5, .phase⟩, ⟨6, .phase⟩, ⟨7, .phase⟩, ⟨8, .phase⟩, ⟨9, .phase⟩, ⟨10, .phase⟩, ⟨11, .phase⟩, ⟨12, .phase⟩, ⟨13, .phase⟩, ⟨14, .phase⟩, ⟨15, .phase⟩, ⟨16, .phase⟩], none⟩) rfl (fun K hK => ?_) AllReady.nil
  obtain ⟨f5, fr⟩ := HF.out _ k5
  go_simp
  refine hK _ _ ?_
  clear hK K
  try simp only [Act.put, pu1, pu2, pu3]
  refine wpAny_done (by kernel_rfl) ?_ _
  obtain ⟨⟨z1, z2, z3⟩, z4, P, z5⟩ := HZ.out _ _ _ _ M16
  have ZZ : Hid _ := And.intro z4 (Exists.intro P z5)
  clear z4 z5
  go_wp2
  go_end0
  exact ⟨rfl, ZZ.out⟩

end

end Go.Proofs.YtgjkfpmhgidpaaaGreat

/-
  The document's arena: put.
-/
namespace Go.Proofs.YtgjkfpmhgidpaaaGreat
open Go.RowKit Go.Maps Utf
set_option linter.unusedVariables false
set_option linter.unusedSimpArgs false

section
variable {tag : Nat → Nat} {w : World} {d g o c : Nat} {q : Bool} {A : Ar} {pl : Nat → Dp}

set_option maxRecDepth 100000 in
set_option maxHeartbeats 1000000 in
theorem rput_none (h : Dd tag w d g o c q A pl) (ok : A.Ok) (hn : A.n < 50000) (p x i : Nat) (hp : p < A.n) (hx : x < A.n) (hi : i ≤ (A.kids p).length) (hk : (pl p).2 = (none, 0, 0)) :
    Calls Tryz.prog 65 #[.pointer (some ⟨d, 0, none⟩), .int .i64 (p : Int), .int .i64 (i : Int), .int .i64 (x : Int)] w fun e w' => e = .returned (.tuple #[]) ∧ Kp [g] w w' ∧ ∃ pl', Dd (tg5 tag w) w' d g o c q (A.put p i x) pl' := by
  have kl := h.klen hp
  rw [hk] at kl
  obtain rfl : i = 0 := by simp only at kl; omega
  have kn : A.kids p = [] := List.eq_nil_of_length_eq_zero kl.symm
  clear kl
  have hb : (A.kids p).length ≤ A.n := Ar.pig _ _ (ok.one p) (fun y hy => (ok.kid_lt hy).1)
  have j3 : (0 : Int) ≤ (p : Int) := by omega
  have j4 : (p : Int) < (A.n : Int) := by omega
  have j1 : (0 : Int) ≤ (x : Int) := by omega
  have j2 : (x : Int) < (A.n : Int) := by omega
  have c0 := h.head.1
  have c5 := (h.seven hp).2.2.2.2.2.1
  rw [hk] at c5
  have HC : Hid (∀ V, Kp [] w V → V.cell? ⟨d, 0, none⟩ = some (.slice (some ⟨g, o, none⟩) A.n c)) := fun V k => (h.kept k).head.1
  have HF : Hid (∀ V, Kp [] w V → V.cell? ⟨g, o + p * 7 + 5, none⟩ = some (.slice none 0 0) ∧ ∀ j, V.frozen? ⟨g, j, none⟩ = false) := fun V k => by
    have := ((h.kept k).seven hp).2.2.2.2.2.1
    rw [hk] at this
    exact ⟨this, (h.kept k).free⟩
  have HT : Hid (∀ V, Kp [] w V → Src Tryz.prog 1 57 (.slice none 0 0) 0 (iv []) V) := fun V k => (Rk.nil Any 1 V none 0).src Tryz.underlying57 (iv_one [])
  have hdg := h.ne
  have hS1 : (World.drew w).cell? ⟨d, 0, none⟩ = some (.slice (some ⟨g, o, none⟩) A.n c) := c0
  have HZ : Hid (∀ U a n' c', Made w U 3 (some a) n' c' (iv [] ++ iv (([] : List Nat)) ++ [.int .i64 (x : Int)] ++ iv (([] : List Nat))) → ((U.setCell ⟨g, o + p * 7 + 5, none⟩ (.slice (some a) n' c')).cell? ⟨d, 0, none⟩ = some (.slice (some ⟨g, o, none⟩) A.n c) ∧ (U.setCell ⟨g, o + p * 7 + 5, none⟩ (.slice (some a) n' c')).cell? ⟨g, o + x * 7 + 6, none⟩ = some (.int .i64 (Ar.upI (A.up x))) ∧ ∀ j, (U.setCell ⟨g, o + p * 7 + 5, none⟩ (.slice (some a) n' c')).frozen? ⟨g, j, none⟩ = false) ∧ Kp [g] w ((U.setCell ⟨g, o + p * 7 + 5, none⟩ (.slice (some a) n' c')).setCell ⟨g, o + x * 7 + 6, none⟩ (.int .i64 (p : Int))) ∧ ∃ pl', Dd (tg5 tag w) ((U.setCell ⟨g, o + p * 7 + 5, none⟩ (.slice (some a) n' c')).setCell ⟨g, o + x * 7 + 6, none⟩ (.int .i64 (p : Int))) d g o c q (A.put p 0 x) pl') := fun U a n' c' M => by
    have M' : Made w U 3 (some a) n' c' (iv ((A.kids p).take 0 ++ x :: (A.kids p).drop 0)) := by
      rw [kn]
      exact M
    obtain ⟨P, e1, e2⟩ := h.kids M' hp hx (some p)
    exact ⟨⟨e1.head.1, (e1.seven hx).2.2.2.2.2.2, e1.free⟩, kpg (kpg (M.2.1.mono (T := [g]) (fun x hx => by simp at hx)) _ _) _ _, P, e2⟩
  clear h hk ok kn
  generalize Ar.upI (A.up x) = ux at HZ
  go_enter Tryz.func65, Tryz.ntmps65
  go_wp2_with fail
  clear c5
  obtain ⟨U0, hU0⟩ : ∃ V, V = w.drew := ⟨_, rfl⟩
  have k0 : Kp [] w U0 := by rw [hU0]; exact (Kp.refl _ _).drew
  refine wp_region_g (S := fun V => V.cell? ⟨d, 0, none⟩ = some (.slice (some ⟨g, o, none⟩) A.n c)) (T := [19]) (by kernel_rfl) hS1 (fun hHeld => ?_)
  rw [← hU0] at hHeld ⊢
  clear hU0
  refine g_pure 0 (oi := ⟨some 17, .move (.tmp 0), 24, "ref.go:86", #[], none⟩) (v := ?_) (Or.inl ⟨by rfl, ?_⟩) ?_
  rotate_left
  · (intro w; go_simp; try with_reducible rfl)
  simp only [Act.put, pu1, pu2, pu3]
  refine g_pure 1 (oi := ⟨some 18, .nilCheck (.tmp 17), 0, "ref.go:86", #[⟨0, .data⟩], none⟩) (v := ?_) (Or.inl ⟨by rfl, ?_⟩) ?_
  rotate_left
  · (intro w; go_simp; try with_reducible rfl)
  simp only [Act.put, pu1, pu2, pu3]
  refine g_pure 2 (oi := ⟨some 19, .fieldAddr 62 (.tmp 18) 0, 0, "ref.go:86", #[⟨1, .data⟩], none⟩) (v := ?_) (Or.inl ⟨by rfl, ?_⟩) ?_
  rotate_left
  · (intro w; go_simp; try with_reducible rfl)
  simp only [Act.put, pu1, pu2, pu3]
  refine g_take 3 (oi := ⟨some 20, .load 60 (.tmp 19), 60, "ref.go:86", #[⟨2, .data⟩], none⟩) (v := ?_) (Or.inl ⟨by rfl, ?_⟩) ?_
  rotate_left
  · (intro w hSw; (have q1 := hSw); go_simp; try with_reducible rfl)
  simp only [Act.put, pu1, pu2, pu3]
  refine g_pure 4 (oi := ⟨some 21, .move (.tmp 1), 3, "ref.go:86", #[], none⟩) (v := ?_) (Or.inl ⟨by rfl, ?_⟩) ?_
  rotate_left
  · (intro w; go_simp; try with_reducible rfl)
  simp only [Act.put, pu1, pu2, pu3]
  refine g_pure 6 (oi := ⟨some 23, .move (.tmp 8), 57, "ref.go:86", #[], none⟩) (v := ?_) (Or.inl ⟨by rfl, ?_⟩) ?_
  rotate_left
  · (intro w; go_simp; try with_reducible rfl)
  simp only [Act.put, pu1, pu2, pu3]
  refine g_pure 7 (oi := ⟨some 24, .move (.tmp 2), 3, "ref.go:86", #[], none⟩) (v := ?_) (Or.inl ⟨by rfl, ?_⟩) ?_
  rotate_left
  · (intro w; go_simp; try with_reducible rfl)
  simp only [Act.put, pu1, pu2, pu3]
  refine g_pure 8 (oi := ⟨some 25, .slice 57 (.tmp 23) none (some (.tmp 24)) none, 57, "ref.go:86", #[⟨6, .data⟩, ⟨7, .data⟩], none⟩) (v := ?_) (Or.inl ⟨by rfl, ?_⟩) ?_
  rotate_left
  · (intro w; go_simp; try with_reducible rfl)
  simp only [Act.put, pu1, pu2, pu3]
  refine g_pure 10 (oi := ⟨some 27, .move (.tmp 3), 3, "ref.go:86", #[], none⟩) (v := ?_) (Or.inl ⟨by rfl, ?_⟩) ?_
  rotate_left
  · (intro w; go_simp; try with_reducible rfl)
  simp only [Act.put, pu1, pu2, pu3]
  refine g_pure 13 (oi := ⟨some 30, .move (.tmp 8), 57, "ref.go:86", #[], none⟩) (v := ?_) (Or.inl ⟨by rfl, ?_⟩) ?_
  rotate_left
  · (intro w; go_simp; try with_reducible rfl)
  simp only [Act.put, pu1, pu2, pu3]
  refine g_pure 14 (oi := ⟨some 31, .move (.tmp 2), 3, "ref.go:86", #[], none⟩) (v := ?_) (Or.inl ⟨by rfl, ?_⟩) ?_
  rotate_left
  · (intro w; go_simp; try with_reducible rfl)
  simp only [Act.put, pu1, pu2, pu3]
  refine g_pure 15 (oi := ⟨some 32, .slice 57 (.tmp 30) (some (.tmp 31)) none none, 57, "ref.go:86", #[⟨13, .data⟩, ⟨14, .data⟩], none⟩) (v := ?_) (Or.inl ⟨by rfl, ?_⟩) ?_
  rotate_left
  · (intro w; go_simp; try with_reducible rfl)
  simp only [Act.put, pu1, pu2, pu3]
  refine wpAnyG_ready (rs := [5, 11]) (by kernel_rfl) (by simp) ?_
  refine AllReadyG.cons (o := ⟨some 22, .buildSlice 57 0 #[], 57, "ref.go:86", #[], none⟩) rfl (fun K hK => ?_) ?_
  · go_simp
    obtain ⟨U1, hU⟩ : ∃ V, V = World.alloc U0 (.cells #[] 3) := ⟨_, rfl⟩
    rw [← hU]
    have u1 : Kp [] U0 U1 := by rw [hU]; exact (Kp.refl _ _).alloc _
    have k1 : Kp [] w U1 := k0.trans u1 (fun z hz => by simp at hz)
    have M5 : Made w U1 3 (some ⟨U0.heap.size, 0, none⟩) 0 0 (iv []) := ⟨Or.inr ⟨_, 0, 0, #[], rfl, by rw [hU]; exact heap_new _ _, Nat.le_refl _, Nat.zero_le _, by simp, fun j hj => by cases hj⟩, k1, fun z hz => by simp [blk] at hz; have := k0.size; omega⟩
    obtain ⟨g5, hg5⟩ : ∃ g, U0.heap.size = g := ⟨_, rfl⟩
    rw [hg5] at M5 ⊢
    clear hU
    refine hK.out _ _ (HC.out _ k1) (fun hHeld1 => ?_)
    clear hK K hHeld
    try simp only [Act.put, pu1, pu2, pu3]
    refine wpAnyG_ready (rs := [9, 11]) (by kernel_rfl) (by simp) ?_
    refine AllReadyG.cons (o := ⟨some 26, .call { callee := .builtin .append, args := #[.tmp 22, .tmp 25], argTypes := #[57, 57] }, 57, "ref.go:86", #[⟨5, .data⟩, ⟨8, .data⟩], none⟩) rfl (fun K hK => ?_) ?_
    · obtain ⟨a9, n9, c9, U2, run9, M9, kk9, _⟩ := M5.join (by simp) _ _ _ (HT.out _ k1) (by simp [iv])
      refine step_app2 (by rfl) _ _ 57 57 (by rfl) _ _ (by rfl) (by rfl) run9 ?_
      have k2 := M9.2.1
      refine hK.out _ _ (HC.out _ k2) (fun hHeld2 => ?_)
      clear hK K hHeld1
      try simp only [Act.put, pu1, pu2, pu3]
      refine wpAnyG_ready (rs := [11]) (by kernel_rfl) (by simp) ?_
      refine AllReadyG.cons (o := ⟨some 28, .buildSlice 57 1 #[(0, .tmp 27)], 57, "ref.go:86", #[⟨10, .data⟩], none⟩) rfl (fun K hK => ?_) AllReadyG.nil
      go_simp
      obtain ⟨U3, hU⟩ : ∃ V, V = World.alloc U2 (.cells #[.int .i64 (x : Int)] 3) := ⟨_, rfl⟩
      rw [← hU]
      have u3 : Kp [] U2 U3 := by rw [hU]; exact (Kp.refl _ _).alloc _
      have k3 : Kp [] w U3 := k2.trans u3 (fun z hz => by simp at hz)
      have A11 : At U3 U2.heap.size #[.int .i64 (x : Int)] 3 := by rw [hU]; exact At.new _ _ _
      have M9 := M9.kept u3
      obtain ⟨g11, hg11⟩ : ∃ g, U2.heap.size = g := ⟨_, rfl⟩
      rw [hg11] at A11 ⊢
      clear hU
      refine hK.out _ _ (HC.out _ k3) (fun hHeld3 => ?_)
      clear hK K hHeld2
      try simp only [Act.put, pu1, pu2, pu3]
      refine wpAnyG_ready (rs := [12]) (by kernel_rfl) (by simp) ?_
      refine AllReadyG.cons (o := ⟨some 29, .call { callee := .builtin .append, args := #[.tmp 26, .tmp 28], argTypes := #[57, 57] }, 57, "ref.go:86", #[⟨9, .data⟩, ⟨11, .data⟩, ⟨9, .chain⟩], none⟩) rfl (fun K hK => ?_) AllReadyG.nil
      obtain ⟨a12, n12, c12, U4, run12, M12, kk12, _⟩ := M9.join (by simp) _ _ _ ((rk_lit A11).src Tryz.underlying57 (fun u hu => by rw [List.mem_singleton.1 hu]; rfl)) (by simp [iv])
      refine step_app2 (by rfl) _ _ 57 57 (by rfl) _ _ (by rfl) (by rfl) run12 ?_
      have k4 := M12.2.1
      refine hK.out _ _ (HC.out _ k4) (fun hHeld4 => ?_)
      clear hK K hHeld3
      try simp only [Act.put, pu1, pu2, pu3]
      refine wpAnyG_ready (rs := [16]) (by kernel_rfl) (by simp) ?_
      refine AllReadyG.cons (o := ⟨some 33, .call { callee := .builtin .append, args := #[.tmp 29, .tmp 32], argTypes := #[57, 57] }, 57, "ref.go:86", #[⟨12, .data⟩, ⟨15, .data⟩, ⟨12, .chain⟩], none⟩) rfl (fun K hK => ?_) AllReadyG.nil
      obtain ⟨a16, n16, c16, U5, run16, M16, kk16, _⟩ := M12.join (by simp) _ _ _ (HT.out _ k4) (by simp [iv])
      refine step_app2 (by rfl) _ _ 57 57 (by rfl) _ _ (by rfl) (by rfl) run16 ?_
      have k5 := M16.2.1
      refine hK.out _ _ (HC.out _ k5) (fun hHeld5 => ?_)
      clear hK K hHeld4
      try simp only [Act.put, pu1, pu2, pu3]
      refine g_pure 17 (oi := ⟨some 34, .indexAddr 60 (.tmp 20) (.tmp 21), 0, "ref.go:86", #[⟨3, .data⟩, ⟨4, .data⟩, ⟨0, .phase⟩, ⟨1, .phase⟩, ⟨2, .phase⟩, ⟨3, .phase⟩, ⟨4, .phase⟩, ⟨5, .phase⟩, ⟨6, .phase⟩, ⟨7, .phase⟩, ⟨8, .phase⟩, ⟨9, .phase⟩, ⟨10, .phase⟩, ⟨11, .phase⟩, ⟨12, .phase⟩, ⟨13, .phase⟩, ⟨14, .phase⟩, ⟨15, .phase⟩, ⟨16, .phase⟩], none⟩) (v := ?_) (Or.inl ⟨by rfl, ?_⟩) ?_
      rotate_left
      · (intro w; go_simp; try with_reducible rfl)
      simp only [Act.put, pu1, pu2, pu3]
      refine g_pure 18 (oi := ⟨some 35, .fieldAddr 59 (.tmp 34) 5, 0, "ref.go:86", #[⟨17, .data⟩, ⟨0, .phase⟩, ⟨1, .phase⟩, ⟨2, .phase⟩, ⟨3, .phase⟩, ⟨4, .phase⟩, ⟨5, .phase⟩, ⟨6, .phase⟩, ⟨7, .phase⟩, ⟨8, .phase⟩, ⟨9, .phase⟩, ⟨10, .phase⟩, ⟨11, .phase⟩, ⟨12, .phase⟩, ⟨13, .phase⟩, ⟨14, .phase⟩, ⟨15, .phase⟩, ⟨16, .phase⟩], none⟩) (v := ?_) (Or.inl ⟨by rfl, ?_⟩) ?_
      rotate_left
      · (intro w; go_simp; try with_reducible rfl)
      simp only [Act.put, pu1, pu2, pu3]
      refine wpAnyG_free (by kernel_rfl) ?_
      refine wpAny_ready (rs := [19]) (by kernel_rfl) (by simp) ?_
      refine AllReady.cons (o := ⟨none, .store 57 (.tmp 35) (.tmp 33), 0, "ref.go:86", #[⟨18, .data⟩, ⟨16, .data⟩, ⟨16, .chain⟩, ⟨0, .phase⟩, ⟨1, .phase⟩, ⟨2, .phase⟩, ⟨3, .phase⟩, ⟨4, .phase⟩, ⟨5, .phase⟩, ⟨6, .phase⟩, ⟨7, .phase⟩, ⟨8, .phase⟩, ⟨9, .phase⟩, ⟨10, .phase⟩, ⟨11, .phase⟩, ⟨12, .phase⟩, ⟨13, .phase⟩, ⟨14, .phase⟩, ⟨15, .phase⟩, ⟨16, .phase⟩], none⟩) rfl (fun K hK => ?_) AllReady.nil
      obtain ⟨f5, fr⟩ := HF.out _ k5
      go_simp
      refine hK _ _ ?_
      clear hK K
      try simp only [Act.put, pu1, pu2, pu3]
      refine wpAny_done (by kernel_rfl) ?_ _
      obtain ⟨⟨z1, z2, z3⟩, z4, P, z5⟩ := HZ.out _ _ _ _ M16
      have ZZ : Hid _ := And.intro z4 (Exists.intro P z5)
      clear z4 z5
      go_wp2
      go_end0
      exact ⟨rfl, ZZ.out⟩
    refine AllReadyG.cons (o := ⟨some 28, .buildSlice 57 1 #[(0, .tmp 27)], 57, "ref.go:86", #[⟨10, .data⟩], none⟩) rfl (fun K hK => ?_) AllReadyG.nil
    go_simp
    obtain ⟨U2, hU⟩ : ∃ V, V = World.alloc U1 (.cells #[.int .i64 (x : Int)] 3) := ⟨_, rfl⟩
    rw [← hU]
    have u2 : Kp [] U1 U2 := by rw [hU]; exact (Kp.refl _ _).alloc _
    have k2 : Kp [] w U2 := k1.trans u2 (fun z hz => by simp at hz)
    have A11 : At U2 U1.heap.size #[.int .i64 (x : Int)] 3 := by rw [hU]; exact At.new _ _ _
    have hgl := M5.1.lt g5 (by simp [blk])
    have M5 := M5.kept u2
    obtain ⟨g11, hg11⟩ : ∃ g, U1.heap.size = g := ⟨_, rfl⟩
    rw [hg11] at A11 ⊢
    clear hU
    have hne : g11 ≠ g5 := by omega
    refine hK.out _ _ (HC.out _ k2) (fun hHeld2 => ?_)
    clear hK K hHeld1
    try simp only [Act.put, pu1, pu2, pu3]
    refine wpAnyG_ready (rs := [9]) (by kernel_rfl) (by simp) ?_
    refine AllReadyG.cons (o := ⟨some 26, .call { callee := .builtin .append, args := #[.tmp 22, .tmp 25], argTypes := #[57, 57] }, 57, "ref.go:86", #[⟨5, .data⟩, ⟨8, .data⟩], none⟩) rfl (fun K hK => ?_) AllReadyG.nil
    obtain ⟨a9, n9, c9, U3, run9, M9, kk9, _⟩ := M5.join (by simp) _ _ _ (HT.out _ k2) (by simp [iv])
    refine step_app2 (by rfl) _ _ 57 57 (by rfl) _ _ (by rfl) (by rfl) run9 ?_
    have k3 := M9.2.1
    have A11 := A11.kept kk9 (by simp [blk]; exact hne)
    refine hK.out _ _ (HC.out _ k3) (fun hHeld3 => ?_)
    clear hK K hHeld2
    try simp only [Act.put, pu1, pu2, pu3]
    refine wpAnyG_ready (rs := [12]) (by kernel_rfl) (by simp) ?_
    refine AllReadyG.cons (o := ⟨some 29, .call { callee := .builtin .append, args := #[.tmp 26, .tmp 28], argTypes := #[57, 57] }, 57, "ref.go:86", #[⟨9, .data⟩, ⟨11, .data⟩, ⟨9, .chain⟩], none⟩) rfl (fun K hK => ?_) AllReadyG.nil
    obtain ⟨a12, n12, c12, U4, run12, M12, kk12, _⟩ := M9.join (by simp) _ _ _ ((rk_lit A11).src Tryz.underlying57 (fun u hu => by rw [List.mem_singleton.1 hu]; rfl)) (by simp [iv])
    refine step_app2 (by rfl) _ _ 57 57 (by rfl) _ _ (by rfl) (by rfl) run12 ?_
    have k4 := M12.2.1
    refine hK.out _ _ (HC.out _ k4) (fun hHeld4 => ?_)
    clear hK K hHeld3
    try simp only [Act.put, pu1, pu2, pu3]
    refine wpAnyG_ready (rs := [16]) (by kernel_rfl) (by simp) ?_
    refine AllReadyG.cons (o := ⟨some 33, .call { callee := .builtin .append, args := #[.tmp 29, .tmp 32], argTypes := #[57, 57] }, 57, "ref.go:86", #[⟨12, .data⟩, ⟨15, .data⟩, ⟨12, .chain⟩], none⟩) rfl (fun K hK => ?_) AllReadyG.nil
    obtain ⟨a16, n16, c16, U5, run16, M16, kk16, _⟩ := M12.join (by simp) _ _ _ (HT.out _ k4) (by simp [iv])
    refine step_app2 (by rfl) _ _ 57 57 (by rfl) _ _ (by rfl) (by rfl) run16 ?_
    have k5 := M16.2.1
    refine hK.out _ _ (HC.out _ k5) (fun hHeld5 => ?_)
    clear hK K hHeld4
    try simp only [Act.put, pu1, pu2, pu3]
    refine g_pure 17 (oi := ⟨some 34, .indexAddr 60 (.tmp 20) (.tmp 21), 0, "ref.go:86", #[⟨3, .data⟩, ⟨4, .data⟩, ⟨0, .phase⟩, ⟨1, .phase⟩, ⟨2, .phase⟩, ⟨3, .phase⟩, ⟨4, .phase⟩, ⟨5, .phase⟩, ⟨6, .phase⟩, ⟨7, .phase⟩, ⟨8, .phase⟩, ⟨9, .phase⟩, ⟨10, .phase⟩, ⟨11, .phase⟩, ⟨12, .phase⟩, ⟨13, .phase⟩, ⟨14, .phase⟩, ⟨15, .phase⟩, ⟨16, .phase⟩], none⟩) (v := ?_) (Or.inl ⟨by rfl, ?_⟩) ?_
    rotate_left
    · (intro w; go_simp; try with_reducible rfl)
    simp only [Act.put, pu1, pu2, pu3]
    refine g_pure 18 (oi := ⟨some 35, .fieldAddr 59 (.tmp 34) 5, 0, "ref.go:86", #[⟨17, .data⟩, ⟨0, .phase⟩, ⟨1, .phase⟩, ⟨2, .phase⟩, ⟨3, .phase⟩, ⟨4, .phase⟩, ⟨5, .phase⟩, ⟨6, .phase⟩, ⟨7, .phase⟩, ⟨8, .phase⟩, ⟨9, .phase⟩, ⟨10, .phase⟩, ⟨11, .phase⟩, ⟨12, .phase⟩, ⟨13, .phase⟩, ⟨14, .phase⟩, ⟨15, .phase⟩, ⟨16, .phase⟩], none⟩) (v := ?_) (Or.inl ⟨by rfl, ?_⟩) ?_
    rotate_left
    · (intro w; go_simp; try with_reducible rfl)
    simp only [Act.put, pu1, pu2, pu3]
    refine wpAnyG_free (by kernel_rfl) ?_
    refine wpAny_ready (rs := [19]) (by kernel_rfl) (by simp) ?_
    refine AllReady.cons (o := ⟨none, .store 57 (.tmp 35) (.tmp 33), 0, "ref.go:86", #[⟨18, .data⟩, ⟨16, .data⟩, ⟨16, .chain⟩, ⟨0, .phase⟩, ⟨1, .phase⟩, ⟨2, .phase⟩, ⟨3, .phase⟩, ⟨4, .phase⟩, ⟨5, .phase⟩, ⟨6, .phase⟩, ⟨7, .phase⟩, ⟨8, .phase⟩, ⟨9, .phase⟩, ⟨10, .phase⟩, ⟨11, .phase⟩, ⟨12, .phase⟩, ⟨13, .phase⟩, ⟨14, .phase⟩, ⟨15, .phase⟩, ⟨16, .phase⟩], none⟩) rfl (fun K hK => ?_) AllReady.nil
    obtain ⟨f5, fr⟩ := HF.out _ k5
    go_simp
    refine hK _ _ ?_
    clear hK K
    try simp only [Act.put, pu1, pu2, pu3]
    refine wpAny_done (by kernel_rfl) ?_ _
    obtain ⟨⟨z1, z2, z3⟩, z4, P, z5⟩ := HZ.out _ _ _ _ M16
    have ZZ : Hid _ := And.intro z4 (Exists.intro P z5)
    clear z4 z5
    go_wp2
    go_end0
    exact ⟨rfl, ZZ.out⟩
  refine AllReadyG.cons (o := ⟨some 28, .buildSlice 57 1 #[(0, .tmp 27)], 57, "ref.go:86", #[⟨10, .data⟩], none⟩) rfl (fun K hK => ?_) AllReadyG.nil
  go_simp
  obtain ⟨U1, hU⟩ : ∃ V, V = World.alloc U0 (.cells #[.int .i64 (x : Int)] 3) := ⟨_, rfl⟩
  rw [← hU]
  have u1 : Kp [] U0 U1 := by rw [hU]; exact (Kp.refl _ _).alloc _
  have k1 : Kp [] w U1 := k0.trans u1 (fun z hz => by simp at hz)
  have A11 : At U1 U0.heap.size #[.int .i64 (x : Int)] 3 := by rw [hU]; exact At.new _ _ _
  obtain ⟨g11, hg11⟩ : ∃ g, U0.heap.size = g := ⟨_, rfl⟩
  rw [hg11] at A11 ⊢
  clear hU
  refine hK.out _ _ (HC.out _ k1) (fun hHeld1 => ?_)
  clear hK K hHeld
  try simp only [Act.put, pu1, pu2, pu3]
  refine wpAnyG_ready (rs := [5]) (by kernel_rfl) (by simp) ?_
  refine AllReadyG.cons (o := ⟨some 22, .buildSlice 57 0 #[], 57, "ref.go:86", #[], none⟩) rfl (fun K hK => ?_) AllReadyG.nil
  go_simp
  obtain ⟨U2, hU⟩ : ∃ V, V = World.alloc U1 (.cells #[] 3) := ⟨_, rfl⟩
  rw [← hU]
  have u2 : Kp [] U1 U2 := by rw [hU]; exact (Kp.refl _ _).alloc _
  have k2 : Kp [] w U2 := k1.trans u2 (fun z hz => by simp at hz)
  have M5 : Made w U2 3 (some ⟨U1.heap.size, 0, none⟩) 0 0 (iv []) := ⟨Or.inr ⟨_, 0, 0, #[], rfl, by rw [hU]; exact heap_new _ _, Nat.le_refl _, Nat.zero_le _, by simp, fun j hj => by cases hj⟩, k2, fun z hz => by simp [blk] at hz; have := k1.size; omega⟩
  have hgl := A11.lt
  have A11 := A11.kept u2 (by simp)
  obtain ⟨g5, hg5⟩ : ∃ g, U1.heap.size = g := ⟨_, rfl⟩
  rw [hg5] at M5 ⊢
  clear hU
  have hne : g11 ≠ g5 := by omega
  refine hK.out _ _ (HC.out _ k2) (fun hHeld2 => ?_)
  clear hK K hHeld1
  try simp only [Act.put, pu1, pu2, pu3]
  refine wpAnyG_ready (rs := [9]) (by kernel_rfl) (by simp) ?_
  refine AllReadyG.cons (o := ⟨some 26, .call { callee := .builtin .append, args := #[.tmp 22, .tmp 25], argTypes := #[57, 57] }, 57, "ref.go:86", #[⟨5, .data⟩, ⟨8, .data⟩], none⟩) rfl (fun K hK => ?_) AllReadyG.nil
  obtain ⟨a9, n9, c9, U3, run9, M9, kk9, _⟩ := M5.join (by simp) _ _ _ (HT.out _ k2) (by simp [iv])
  refine step_app2 (by rfl) _ _ 57 57 (by rfl) _ _ (by rfl) (by rfl) run9 ?_
  have k3 := M9.2.1
  have A11 := A11.kept kk9 (by simp [blk]; exact hne)
  refine hK.out _ _ (HC.out _ k3) (fun hHeld3 => ?_)
  clear hK K hHeld2
  try simp only [Act.put, pu1, pu2, pu3]
  refine wpAnyG_ready (rs := [12]) (by kernel_rfl) (by simp) ?_
  refine AllReadyG.cons (o := ⟨some 29, .call { callee := .builtin .append, args := #[.tmp 26, .tmp 28], argTypes := #[57, 57] }, 57, "ref.go:86", #[⟨9, .data⟩, ⟨11, .data⟩, ⟨9, .chain⟩], none⟩) rfl (fun K hK => ?_) AllReadyG.nil
  obtain ⟨a12, n12, c12, U4, run12, M12, kk12, _⟩ := M9.join (by simp) _ _ _ ((rk_lit A11).src Tryz.underlying57 (fun u hu => by rw [List.mem_singleton.1 hu]; rfl)) (by simp [iv])
  refine step_app2 (by rfl) _ _ 57 57 (by rfl) _ _ (by rfl) (by rfl) run12 ?_
  have k4 := M12.2.1
  refine hK.out _ _ (HC.out _ k4) (fun hHeld4 => ?_)
  clear hK K hHeld3
  try simp only [Act.put, pu1, pu2, pu3]
  refine wpAnyG_ready (rs := [16]) (by kernel_rfl) (by simp) ?_
  refine AllReadyG.cons (o := ⟨some 33, .call { callee := .builtin .append, args := #[.tmp 29, .tmp 32], argTypes := #[57, 57] }, 57, "ref.go:86", #[⟨12, .data⟩, ⟨15, .data⟩, ⟨12, .chain⟩], none⟩) rfl (fun K hK => ?_) AllReadyG.nil
  obtain ⟨a16, n16, c16, U5, run16, M16, kk16, _⟩ := M12.join (by simp) _ _ _ (HT.out _ k4) (by simp [iv])
  refine step_app2 (by rfl) _ _ 57 57 (by rfl) _ _ (by rfl) (by rfl) run16 ?_
  have k5 := M16.2.1
  refine hK.out _ _ (HC.out _ k5) (fun hHeld5 => ?_)
  clear hK K hHeld4
  try simp only [Act.put, pu1, pu2, pu3]
  refine g_pure 17 (oi := ⟨some 34, .indexAddr 60 (.tmp 20) (.tmp 21), 0, "ref.go:86", #[⟨3, .data⟩, ⟨4, .data⟩, ⟨0, .phase⟩, ⟨1, .phase⟩, ⟨2, .phase⟩, ⟨3, .phase⟩, ⟨4, .phase⟩, ⟨5, .phase⟩, ⟨6, .phase⟩, ⟨7, .phase⟩, ⟨8, .phase⟩, ⟨9, .phase⟩, ⟨10, .phase⟩, ⟨11, .phase⟩, ⟨12, .phase⟩, ⟨13, .phase⟩, ⟨14, .phase⟩, ⟨15, .phase⟩, ⟨16, .phase⟩], none⟩) (v := ?_) (Or.inl ⟨by rfl, ?_⟩) ?_
  rotate_left
  · (intro w; go_simp; try with_reducible rfl)
  simp only [Act.put, pu1, pu2, pu3]
  refine g_pure 18 (oi := ⟨some 35, .fieldAddr 59 (.tmp 34) 5, 0, "ref.go:86", #[⟨17, .data⟩, ⟨0, .phase⟩, ⟨1, .phase⟩, ⟨2, .phase⟩, ⟨3, .phase⟩, ⟨4, .phase⟩, ⟨5, .phase⟩, ⟨6, .phase⟩, ⟨7, .phase⟩, ⟨8, .phase⟩, ⟨9, .phase⟩, ⟨10, .phase⟩, ⟨11, .phase⟩, ⟨12, .phase⟩, ⟨13, .phase⟩, ⟨14, .phase⟩, ⟨15, .phase⟩, ⟨16, .phase⟩], none⟩) (v := ?_) (Or.inl ⟨by rfl, ?_⟩) ?_
  rotate_left
  · (intro w; go_simp; try with_reducible rfl)
  simp only [Act.put, pu1, pu2, pu3]
  refine wpAnyG_free (by kernel_rfl) ?_
  refine wpAny_ready (rs := [19]) (by kernel_rfl) (by simp) ?_
  refine AllReady.cons (o := ⟨none, .store 57 (.tmp 35) (.tmp 33), 0, "ref.go:86", #[⟨18, .data⟩, ⟨16, .data⟩, ⟨16, .chain⟩, ⟨0, .phase⟩, ⟨1, .phase⟩, ⟨2, .phase⟩, ⟨3, .phase⟩, ⟨4, .phase⟩, ⟨5, .phase⟩, ⟨6, .phase⟩, ⟨7, .phase⟩, ⟨8, .phase⟩, ⟨9, .phase⟩, ⟨10, .phase⟩, ⟨11, .phase⟩, ⟨12, .phase⟩, ⟨13, .phase⟩, ⟨14, .phase⟩, ⟨15, .phase⟩, ⟨16, .phase⟩], none⟩) rfl (fun K hK => ?_) AllReady.nil
  obtain ⟨f5, fr⟩ := HF.out _ k5
  go_simp
  refine hK _ _ ?_
  clear hK K
  try simp only [Act.put, pu1, pu2, pu3]
  refine wpAny_done (by kernel_rfl) ?_ _
  obtain ⟨⟨z1, z2, z3⟩, z4, P, z5⟩ := HZ.out _ _ _ _ M16
  have ZZ : Hid _ := And.intro z4 (Exists.intro P z5)
  clear z4 z5
  go_wp2
  go_end0
  exact ⟨rfl, ZZ.out⟩

theorem rput_any (h : Dd tag w d g o c q A pl) (ok : A.Ok) (hn : A.n < 50000) (p x i : Nat) (hp : p < A.n) (hx : x < A.n) (hi : i ≤ (A.kids p).length) :
    Calls Tryz.prog 65 #[.pointer (some ⟨d, 0, none⟩), .int .i64 (p : Int), .int .i64 (i : Int), .int .i64 (x : Int)] w fun e w' => e = .returned (.tuple #[]) ∧ Kp [g] w w' ∧ ∃ pl', Dd (tg5 tag w) w' d g o c q (A.put p i x) pl' := by
  rcases h.kf p hp with hk | ⟨b7, o7, hk⟩
  · exact rput_none h ok hn p x i hp hx hi hk
  · exact rput_some h ok hn p x i hp hx hi b7 o7 hk

end

end Go.Proofs.YtgjkfpmhgidpaaaGreat

/-
  The document's arena: Append.
-/
namespace Go.Proofs.YtgjkfpmhgidpaaaGreat
open Go.RowKit Go.Maps Utf
set_option linter.unusedVariables false
set_option linter.unusedSimpArgs false

/-- The document's arena is there, somewhere. -/
def Dn (tag : Nat → Nat) (w : World) (d : Nat) (q : Bool) (A : Ar) : Prop := ∃ g o c pl, Dd tag w d g o c q A pl

/-- Blocks of the marks 3 and 4 alone have turned; new ones have come. -/
structure Dv (tag : Nat → Nat) (w : World) (tag' : Nat → Nat) (w' : World) : Prop where
  os : w'.os = w.os
  tape : w'.tape = w.tape
  output : w'.output = w.output
  size : w.heap.size ≤ w'.heap.size
  block : ∀ k, k < w.heap.size → tag k ≠ 3 → tag k ≠ 4 → w'.heap[k]? = w.heap[k]?
  tg : ∀ k, k < w.heap.size → tag' k = tag k

theorem Dv.of_kp {S : List Nat} {w w' : World} {tag tag' : Nat → Nat} (k : Kp S w w') (hS : ∀ x, x ∈ S → x < w.heap.size → tag x = 3 ∨ tag x = 4) (ht : ∀ x, x < w.heap.size → tag' x = tag x) : Dv tag w tag' w' :=
  ⟨k.os, k.tape, k.output, k.size, fun x hx h3 h4 => k.block x hx (fun hs => by rcases hS x hs hx with e | e <;> omega), ht⟩
theorem Dv.refl (tag : Nat → Nat) (w : World) : Dv tag w tag w := Dv.of_kp (Kp.refl [] w) (fun x hx => by simp at hx) (fun _ _ => rfl)
theorem Dv.trans {w w1 w2 : World} {tag tag1 tag2 : Nat → Nat} (h : Dv tag w tag1 w1) (k : Dv tag1 w1 tag2 w2) : Dv tag w tag2 w2 :=
  ⟨k.os.trans h.os, k.tape.trans h.tape, k.output.trans h.output, Nat.le_trans h.size k.size, fun x hx h3 h4 => (k.block x (Nat.lt_of_lt_of_le hx h.size) (by rw [h.tg x hx]; exact h3) (by rw [h.tg x hx]; exact h4)).trans (h.block x hx h3 h4), fun x hx => (k.tg x (Nat.lt_of_lt_of_le hx h.size)).trans (h.tg x hx)⟩

section
variable {tag : Nat → Nat} {w : World} {d : Nat} {q : Bool} {A : Ar}

theorem dn_turn {g o c : Nat} {pl : Nat → Dp} {w' : World} {A' : Ar} (h : Dd tag w d g o c q A pl) (k : Kp [g] w w') (h' : ∃ pl', Dd (tg5 tag w) w' d g o c q A' pl') : ∃ tag', Dn tag' w' d q A' ∧ Dv tag w tag' w' := by
  obtain ⟨pl', h'⟩ := h'
  exact ⟨_, ⟨g, o, c, pl', h'⟩, Dv.of_kp k (fun x hx _ => by rw [List.mem_singleton.1 hx]; exact .inr h.tg) (fun x hx => tg5_lt hx)⟩

set_option maxRecDepth 100000 in
set_option maxHeartbeats 1000000 in
theorem rapp_any (hD : Dn tag w d q A) (ful : A.Ful) (hn : A.n < 50000) (p x : Int) :
    Calls Tryz.prog 23 #[.pointer (some ⟨d, 0, none⟩), .int .i64 p, .int .i64 x] w fun e w' => e = .returned (.int .i64 (A.appF p x).2) ∧ ∃ tag', Dn tag' w' d q (A.appF p x).1 ∧ Dv tag w tag' w' := by
  have hD0 : Hid (∃ tag', Dn tag' w d q A ∧ Dv tag w tag' w) := ⟨tag, hD, Dv.refl tag w⟩
  obtain ⟨g, o, c, pl, h⟩ := hD
  have HT : Hid (∀ z, Calls Tryz.prog 61 #[.pointer (some ⟨d, 0, none⟩), .int .i64 z] w fun e w' => e = .returned (.bool (A.there z)) ∧ w' = w) := fun z => rthere_any h z
  by_cases h1 : A.there p = false ∨ A.there x = false
  · have eF : A.appF p x = (A, 22) := by unfold Ar.appF; rw [if_pos h1]
    rw [eF]
    clear eF h ful
    cases hp : A.there p with
    | false =>
      clear h1
      go_enter Tryz.func23, Tryz.ntmps23
      go_wp2_with (go_at_call 61; refine (HT.out _).mono ?_; rintro e w9 ⟨rfl, hw⟩; have hw2 := hw.symm; clear hw; subst hw2)
      go_ret
      exact ⟨rfl, hD0.out⟩
    | true =>
      have hx : A.there x = false := h1.resolve_left (by rw [hp]; simp)
      clear h1
      go_enter Tryz.func23, Tryz.ntmps23
      go_wp2_with (go_at_call 61; refine (HT.out _).mono ?_; rintro e w9 ⟨rfl, hw⟩; have hw2 := hw.symm; clear hw; subst hw2)
      go_ret
      exact ⟨rfl, hD0.out⟩
  · have hp : A.there p = true := by cases e : A.there p with | true => rfl | false => exact absurd (.inl e) h1
    have hx : A.there x = true := by cases e : A.there x with | true => rfl | false => exact absurd (.inr e) h1
    obtain ⟨p, rfl, hp'⟩ := there_nat hp
    obtain ⟨x, rfl, hx'⟩ := there_nat hx
    have HH := rholds_any h p hp'
    have HF := rfixed_any h x hx'
    have HW := rwithin_any h ful.toOk p x hp'
    have c0 := h.head.1
    have c6 := (h.seven hx').2.2.2.2.2.2
    have j1 : (0 : Int) ≤ (x : Int) := by omega
    have j2 : (x : Int) < (A.n : Int) := by omega
    by_cases h2 : Ar.hld (A.lb p) = false ∨ Ar.fix (A.lb x) = true
    · have eF : A.appF (p : Int) (x : Int) = (A, 23) := by unfold Ar.appF; rw [if_neg h1, Int.toNat_natCast, Int.toNat_natCast, if_pos h2]
      rw [eF]
      clear eF h ful HW c0 c6 h1
      cases e2 : Ar.hld (A.lb p) with
      | false =>
        rw [e2] at HH
        clear h2
        go_enter Tryz.func23, Tryz.ntmps23
        go_wp2_with (first | (go_at_call 61; refine (HT.out _).mono ?_; rintro e w9 ⟨rfl, hw⟩; have hw2 := hw.symm; clear hw; subst hw2) | (go_at_call 62; refine (HH).mono ?_; rintro e w9 ⟨rfl, hw⟩; have hw2 := hw.symm; clear hw; subst hw2))
        go_ret
        exact ⟨rfl, hD0.out⟩
      | true =>
        have e3 : Ar.fix (A.lb x) = true := h2.resolve_left (by rw [e2]; simp)
        rw [e2] at HH
        rw [e3] at HF
        clear h2
        go_enter Tryz.func23, Tryz.ntmps23
        go_wp2_with (first | (go_at_call 61; refine (HT.out _).mono ?_; rintro e w9 ⟨rfl, hw⟩; have hw2 := hw.symm; clear hw; subst hw2) | (go_at_call 62; refine (HH).mono ?_; rintro e w9 ⟨rfl, hw⟩; have hw2 := hw.symm; clear hw; subst hw2) | (go_at_call 63; refine (HF).mono ?_; rintro e w9 ⟨rfl, hw⟩; have hw2 := hw.symm; clear hw; subst hw2))
        go_ret
        exact ⟨rfl, hD0.out⟩
    · have e2 : Ar.hld (A.lb p) = true := by cases e : Ar.hld (A.lb p) with | true => rfl | false => exact absurd (.inl e) h2
      have e3 : Ar.fix (A.lb x) = false := by cases e : Ar.fix (A.lb x) with | false => rfl | true => exact absurd (.inr e) h2
      rw [e2] at HH
      rw [e3] at HF
      cases hu : A.up x with
      | some u =>
        have eF : A.appF (p : Int) (x : Int) = (A, 24) := by unfold Ar.appF; rw [if_neg h1, Int.toNat_natCast, Int.toNat_natCast, if_neg h2, if_pos (by rw [hu]; simp)]
        rw [eF]
        rw [hu, show Ar.upI (some u) = (u : Int) from rfl] at c6
        have ju : (0 : Int) ≤ (u : Int) := by omega
        clear eF h ful HW h1 h2
        go_enter Tryz.func23, Tryz.ntmps23
        go_wp2_with (first | (go_at_call 61; refine (HT.out _).mono ?_; rintro e w9 ⟨rfl, hw⟩; have hw2 := hw.symm; clear hw; subst hw2) | (go_at_call 62; refine (HH).mono ?_; rintro e w9 ⟨rfl, hw⟩; have hw2 := hw.symm; clear hw; subst hw2) | (go_at_call 63; refine (HF).mono ?_; rintro e w9 ⟨rfl, hw⟩; have hw2 := hw.symm; clear hw; subst hw2))
        go_ret
        exact ⟨rfl, hD0.out⟩
      | none =>
        rw [hu, show Ar.upI none = -1 from rfl] at c6
        cases hw : A.wn p x with
        | true =>
          have eF : A.appF (p : Int) (x : Int) = (A, 26) := by unfold Ar.appF; rw [if_neg h1, Int.toNat_natCast, Int.toNat_natCast, if_neg h2, if_neg (by rw [hu]; simp), if_pos hw]
          rw [eF]
          rw [hw] at HW
          clear eF h ful h1 h2
          go_enter Tryz.func23, Tryz.ntmps23
          go_wp2_with (first | (go_at_call 61; refine (HT.out _).mono ?_; rintro e w9 ⟨rfl, hw⟩; have hw2 := hw.symm; clear hw; subst hw2) | (go_at_call 62; refine (HH).mono ?_; rintro e w9 ⟨rfl, hw⟩; have hw2 := hw.symm; clear hw; subst hw2) | (go_at_call 63; refine (HF).mono ?_; rintro e w9 ⟨rfl, hw⟩; have hw2 := hw.symm; clear hw; subst hw2) | (go_at_call 64; refine (HW).mono ?_; rintro e w9 ⟨rfl, hw⟩; have hw2 := hw.symm; clear hw; subst hw2))
          go_ret
          exact ⟨rfl, hD0.out⟩
        | false =>
          have eF : A.appF (p : Int) (x : Int) = (A.put p (A.kids p).length x, 0) := by unfold Ar.appF; rw [if_neg h1, Int.toNat_natCast, Int.toNat_natCast, if_neg h2, if_neg (by rw [hu]; simp), if_neg (by rw [hw]; simp)]
          rw [eF]
          rw [hw] at HW
          have HP := rput_any h ful.toOk hn p x (A.kids p).length hp' hx' (Nat.le_refl _)
          have c5 := (h.seven hp').2.2.2.2.2.1
          rw [h.klen hp'] at c5
          have j3 : (0 : Int) ≤ (p : Int) := by omega
          have j4 : (p : Int) < (A.n : Int) := by omega
          have HE : Hid (∀ w', Kp [g] w w' → (∃ pl', Dd (tg5 tag w) w' d g o c q (A.put p (A.kids p).length x) pl') → ∃ tag', Dn tag' w' d q (A.put p (A.kids p).length x) ∧ Dv tag w tag' w') := fun w' k h' => dn_turn h k h'
          clear eF h ful h1 h2 hD0
          go_enter Tryz.func23, Tryz.ntmps23
          go_wp2_with (first | (go_at_call 61; refine (HT.out _).mono ?_; rintro e w9 ⟨rfl, hw⟩; have hw2 := hw.symm; clear hw; subst hw2) | (go_at_call 62; refine (HH).mono ?_; rintro e w9 ⟨rfl, hw⟩; have hw2 := hw.symm; clear hw; subst hw2) | (go_at_call 63; refine (HF).mono ?_; rintro e w9 ⟨rfl, hw⟩; have hw2 := hw.symm; clear hw; subst hw2) | (go_at_call 64; refine (HW).mono ?_; rintro e w9 ⟨rfl, hw⟩; have hw2 := hw.symm; clear hw; subst hw2) | (go_at_call 65; refine HP.mono ?_; rintro e w1 ⟨rfl, k1, h1⟩))
          go_ret
          exact ⟨rfl, HE.out _ k1 h1⟩

end

end Go.Proofs.YtgjkfpmhgidpaaaGreat

/-
  The document's arena: Detach.
-/
namespace Go.Proofs.YtgjkfpmhgidpaaaGreat
open Go.RowKit Go.Maps Utf
set_option linter.unusedVariables false
set_option linter.unusedSimpArgs false

theorem Ar.cut_eq {A : Ar} (ok : A.Ok) {x p : Nat} (hu : A.up x = some p) : A.cut x = { A with kids := fun y => if y = p then (A.kids p).take (A.place p x) ++ (A.kids p).drop (A.place p x + 1) else A.kids y, up := fun y => if y = x then none else A.up y } := by
  have hk : ∀ y, (if A.up x = some y then (A.kids y).erase x else A.kids y) = if y = p then (A.kids p).take (A.place p x) ++ (A.kids p).drop (A.place p x + 1) else A.kids y := fun y => by
    by_cases e : y = p
    · subst e
      rw [if_pos hu, if_pos rfl, List.erase_eq_eraseIdx_of_idxOf (i := A.place y x) rfl, List.eraseIdx_eq_take_drop_succ]
    · rw [if_neg (by rw [hu]; intro h; exact e (Option.some.inj h).symm), if_neg e]
  unfold Ar.cut
  simp only [hk]

section
variable {tag : Nat → Nat} {w : World} {d : Nat} {q : Bool} {A : Ar}

set_option maxRecDepth 100000 in
set_option maxHeartbeats 1000000 in
theorem rdet_cut {g o c : Nat} {pl : Nat → Dp} (h : Dd tag w d g o c q A pl) (ful : A.Ful) (hn : A.n < 50000) (p x : Nat) (hx : x < A.n) (hf : Ar.fix (A.lb x) = false) (hu : A.up x = some p) :
    Calls Tryz.prog 27 #[.pointer (some ⟨d, 0, none⟩), .int .i64 (x : Int)] w fun e w' => e = .returned (.int .i64 0) ∧ ∃ tag', Dn tag' w' d q (A.cut x) ∧ Dv tag w tag' w' := by
  have ok := ful.toOk
  have hp : p < A.n := (ok.lt hu).2
  obtain ⟨m1, m2⟩ := Ar.place_lt ok hu
  have kl := h.klen hp
  have hb : (A.kids p).length ≤ A.n := Ar.pig _ _ (ok.one p) (fun y hy => (ok.kid_lt hy).1)
  obtain ⟨b7, o7, hk⟩ : ∃ b7 o7, (pl p).2.1 = some ⟨b7, o7, none⟩ := by
    rcases h.kf p hp with e | e
    · rw [e] at kl; simp only at kl; omega
    · exact e
  have hth : A.there (x : Int) = true := by unfold Ar.there; exact decide_eq_true (by omega)
  have HT := rthere_any h (x : Int)
  rw [hth] at HT
  have HF := rfixed_any h x hx
  rw [hf] at HF
  have HPl := rplace_any h ok hn x p hu
  have hcut := Ar.cut_eq ok hu
  obtain ⟨i, hi⟩ : ∃ i, A.place p x = i := ⟨_, rfl⟩
  rw [hi] at HPl m1 hcut
  have j3 : (0 : Int) ≤ (p : Int) := by omega
  have j4 : (p : Int) < (A.n : Int) := by omega
  have j1 : (0 : Int) ≤ (x : Int) := by omega
  have j2 : (x : Int) < (A.n : Int) := by omega
  have i1 : (0 : Int) ≤ (i : Int) := by omega
  have i2 : (i : Int) + 1 ≤ ((A.kids p).length : Int) := by omega
  have kcp := (h.kid p hp).cap
  rw [kl] at kcp
  have i3 : (i : Int) ≤ ((pl p).2.2.2 : Int) := by omega
  have i4 : ((A.kids p).length : Int) ≤ ((pl p).2.2.2 : Int) := by omega
  obtain ⟨i5, hi5⟩ : ∃ z, i + 1 = z := ⟨_, rfl⟩
  have hwr : IntKind.i64.wrap ((i : Int) + 1) = (i5 : Int) := by
    rw [← hi5]
    simp [IntKind.wrap, IntKind.bits, IntKind.signed]
    omega
  have i6 : (0 : Int) ≤ (i5 : Int) := by omega
  have i7 : (i5 : Int) ≤ ((A.kids p).length : Int) := by omega
  rw [hi5] at hcut
  obtain ⟨ko2, hko⟩ : ∃ a, (if (pl p).2.2.2 = i5 then (some ⟨b7, o7, none⟩ : Option Addr) else some ⟨b7, o7 + i5, none⟩) = a := ⟨_, rfl⟩
  have c0 := h.head.1
  have c6 := (h.seven hx).2.2.2.2.2.2
  rw [hu, show Ar.upI (some p) = (p : Int) from rfl] at c6
  have HC : Hid (∀ V, Kp [] w V → V.cell? ⟨d, 0, none⟩ = some (.slice (some ⟨g, o, none⟩) A.n c)) := fun V k => (h.kept k).head.1
  have HF5 : Hid (∀ V, Kp [] w V → V.cell? ⟨g, o + p * 7 + 5, none⟩ = some (.slice (some ⟨b7, o7, none⟩) (A.kids p).length (pl p).2.2.2) ∧ ∀ j, V.frozen? ⟨g, j, none⟩ = false) := fun V k => by
    have := ((h.kept k).seven hp).2.2.2.2.2.1
    rw [hk, kl] at this
    exact ⟨this, (h.kept k).free⟩
  have HTk : Hid (∀ V, Kp [] w V → Src Tryz.prog 1 57 (.slice (some ⟨b7, o7, none⟩) i (pl p).2.2.2) i (iv ((A.kids p).take i)) V) := fun V k => by
    have := ((h.kept k).kid p hp).take i (by omega)
    rw [hk, Nat.mul_one, show (iv (A.kids p)).take i = iv ((A.kids p).take i) by simp [iv]] at this
    exact this.src Tryz.underlying57 (iv_one _)
  have HD : Hid (∀ V, Kp [] w V → Src Tryz.prog 1 57 (.slice ko2 ((A.kids p).length - i5) ((pl p).2.2.2 - i5)) ((A.kids p).length - i5) (iv ((A.kids p).drop i5)) V) := fun V k => by
    have := (h.kept k).kid p hp
    rw [hk, kl] at this
    have := this.drop2 i5 (by omega)
    rw [hko, show (iv (A.kids p)).drop i5 = iv ((A.kids p).drop i5) by simp [iv]] at this
    exact this.src Tryz.underlying57 (iv_one _)
  have hdg := h.ne
  have HZ : Hid (∀ U a n' c', Made w U 3 (some a) n' c' (iv [] ++ iv ((A.kids p).take i) ++ iv ((A.kids p).drop i5)) → ((U.setCell ⟨g, o + p * 7 + 5, none⟩ (.slice (some a) n' c')).cell? ⟨d, 0, none⟩ = some (.slice (some ⟨g, o, none⟩) A.n c) ∧ (U.setCell ⟨g, o + p * 7 + 5, none⟩ (.slice (some a) n' c')).cell? ⟨g, o + x * 7 + 6, none⟩ = some (.int .i64 (p : Int)) ∧ ∀ j, (U.setCell ⟨g, o + p * 7 + 5, none⟩ (.slice (some a) n' c')).frozen? ⟨g, j, none⟩ = false) ∧ ∃ tag', Dn tag' ((U.setCell ⟨g, o + p * 7 + 5, none⟩ (.slice (some a) n' c')).setCell ⟨g, o + x * 7 + 6, none⟩ (.int .i64 (-1))) d q (A.cut x) ∧ Dv tag w tag' ((U.setCell ⟨g, o + p * 7 + 5, none⟩ (.slice (some a) n' c')).setCell ⟨g, o + x * 7 + 6, none⟩ (.int .i64 (-1)))) := fun U a n' c' M => by
    have M' : Made w U 3 (some a) n' c' (iv ((A.kids p).take i ++ (A.kids p).drop i5)) := by
      rw [show iv ((A.kids p).take i ++ (A.kids p).drop i5) = iv [] ++ iv ((A.kids p).take i) ++ iv ((A.kids p).drop i5) by simp [iv]]
      exact M
    obtain ⟨P, e1, e2⟩ := h.kids M' hp hx none
    have e6 := (e1.seven hx).2.2.2.2.2.2
    rw [show ({ A with kids := fun y => if y = p then (A.kids p).take i ++ (A.kids p).drop i5 else A.kids y } : Ar).up x = A.up x from rfl, hu] at e6
    exact ⟨⟨e1.head.1, e6, e1.free⟩, dn_turn h (kpg (kpg (M.2.1.mono (T := [g]) (fun x hx => by simp at hx)) _ _) _ _) ⟨P, by rw [hcut]; exact e2⟩⟩
  generalize (pl p).2.2.2 = kc at *
  clear h kl hk ok ful hcut m2 hi hu hf hth hi5
  generalize A.kids p = ks at *
  generalize A.cut x = AC at *
  go_enter Tryz.func27, Tryz.ntmps27
  go_upto_region 9 with (first | (go_at_call 61; refine (HT).mono ?_; rintro e w9 ⟨rfl, hw⟩; have hw2 := hw.symm; clear hw; subst hw2) | (go_at_call 63; refine (HF).mono ?_; rintro e w9 ⟨rfl, hw⟩; have hw2 := hw.symm; clear hw; subst hw2) | (go_at_call 67; refine HPl.mono ?_; rintro e w1 ⟨rfl, kp1⟩; have d1 := HC.out _ kp1; have d5 := (HF5.out _ kp1).1))
  have hS1 : (World.drew w1).cell? ⟨d, 0, none⟩ = some (.slice (some ⟨g, o, none⟩) A.n c) := d1
  clear d1 d5 HT HF HPl c0 c6
  obtain ⟨U0, hU0⟩ : ∃ V, V = w1.drew := ⟨_, rfl⟩
  have k0 : Kp [] w U0 := by rw [hU0]; exact kp1.drew
  refine wp_region_g (S := fun V => V.cell? ⟨d, 0, none⟩ = some (.slice (some ⟨g, o, none⟩) A.n c)) (T := [17]) (by kernel_rfl) hS1 (fun hHeld => ?_)
  rw [← hU0] at hHeld ⊢
  clear hU0
  refine g_pure 0 (oi := ⟨some 36, .move (.tmp 0), 24, "ref.go:141", #[], none⟩) (v := ?_) (Or.inl ⟨by rfl, ?_⟩) ?_
  rotate_left
  · (intro w; go_simp; try with_reducible rfl)
  simp only [Act.put, pu1, pu2, pu3]
  refine g_pure 1 (oi := ⟨some 37, .nilCheck (.tmp 36), 0, "ref.go:141", #[⟨0, .data⟩], none⟩) (v := ?_) (Or.inl ⟨by rfl, ?_⟩) ?_
  rotate_left
  · (intro w; go_simp; try with_reducible rfl)
  simp only [Act.put, pu1, pu2, pu3]
  refine g_pure 2 (oi := ⟨some 38, .fieldAddr 62 (.tmp 37) 0, 0, "ref.go:141", #[⟨1, .data⟩], none⟩) (v := ?_) (Or.inl ⟨by rfl, ?_⟩) ?_
  rotate_left
  · (intro w; go_simp; try with_reducible rfl)
  simp only [Act.put, pu1, pu2, pu3]
  refine g_take 3 (oi := ⟨some 39, .load 60 (.tmp 38), 60, "ref.go:141", #[⟨2, .data⟩], none⟩) (v := ?_) (Or.inl ⟨by rfl, ?_⟩) ?_
  rotate_left
  · (intro w hSw; (have q1 := hSw); go_simp; try with_reducible rfl)
  simp only [Act.put, pu1, pu2, pu3]
  refine g_pure 4 (oi := ⟨some 40, .move (.tmp 5), 3, "ref.go:141", #[], none⟩) (v := ?_) (Or.inl ⟨by rfl, ?_⟩) ?_
  rotate_left
  · (intro w; go_simp; try with_reducible rfl)
  simp only [Act.put, pu1, pu2, pu3]
  refine g_pure 6 (oi := ⟨some 42, .move (.tmp 7), 57, "ref.go:141", #[], none⟩) (v := ?_) (Or.inl ⟨by rfl, ?_⟩) ?_
  rotate_left
  · (intro w; go_simp; try with_reducible rfl)
  simp only [Act.put, pu1, pu2, pu3]
  refine g_pure 7 (oi := ⟨some 43, .move (.tmp 6), 3, "ref.go:141", #[], none⟩) (v := ?_) (Or.inl ⟨by rfl, ?_⟩) ?_
  rotate_left
  · (intro w; go_simp; try with_reducible rfl)
  simp only [Act.put, pu1, pu2, pu3]
  refine g_pure 8 (oi := ⟨some 44, .slice 57 (.tmp 42) none (some (.tmp 43)) none, 57, "ref.go:141", #[⟨6, .data⟩, ⟨7, .data⟩], none⟩) (v := ?_) (Or.inl ⟨by rfl, ?_⟩) ?_
  rotate_left
  · (intro w; go_simp; try with_reducible rfl)
  simp only [Act.put, pu1, pu2, pu3]
  refine g_pure 10 (oi := ⟨some 46, .move (.tmp 7), 57, "ref.go:141", #[], none⟩) (v := ?_) (Or.inl ⟨by rfl, ?_⟩) ?_
  rotate_left
  · (intro w; go_simp; try with_reducible rfl)
  simp only [Act.put, pu1, pu2, pu3]
  refine g_pure 11 (oi := ⟨some 47, .move (.tmp 6), 3, "ref.go:141", #[], none⟩) (v := ?_) (Or.inl ⟨by rfl, ?_⟩) ?_
  rotate_left
  · (intro w; go_simp; try with_reducible rfl)
  simp only [Act.put, pu1, pu2, pu3]
  refine g_pure 12 (oi := ⟨some 48, .binOp .add 3 (.tmp 47) (.const (.int .i64 1)) 3, 3, "ref.go:141", #[⟨11, .data⟩], none⟩) (v := ?_) (Or.inl ⟨by rfl, ?_⟩) ?_
  rotate_left
  · (intro w; go_simp; try with_reducible rfl)
  simp only [Act.put, pu1, pu2, pu3]
  refine g_pure 13 (oi := ⟨some 49, .slice 57 (.tmp 46) (some (.tmp 48)) none none, 57, "ref.go:141", #[⟨10, .data⟩, ⟨12, .data⟩], none⟩) (v := ?_) (Or.inl ⟨by rfl, ?_⟩) ?_
  rotate_left
  · (intro w; go_simp; try with_reducible rfl)
  simp only [Act.put, pu1, pu2, pu3]
  refine wpAnyG_ready (rs := [5]) (by kernel_rfl) (by simp) ?_
  refine AllReadyG.cons (o := ⟨some 41, .buildSlice 57 0 #[], 57, "ref.go:141", #[], none⟩) rfl (fun K hK => ?_) AllReadyG.nil
  go_simp
  obtain ⟨U1, hU⟩ : ∃ V, V = World.alloc U0 (.cells #[] 3) := ⟨_, rfl⟩
  rw [← hU]
  have u1 : Kp [] U0 U1 := by rw [hU]; exact (Kp.refl _ _).alloc _
  have k1 : Kp [] w U1 := k0.trans u1 (fun z hz => by simp at hz)
  have M5 : Made w U1 3 (some ⟨U0.heap.size, 0, none⟩) 0 0 (iv []) := ⟨Or.inr ⟨_, 0, 0, #[], rfl, by rw [hU]; exact heap_new _ _, Nat.le_refl _, Nat.zero_le _, by simp, fun j hj => by cases hj⟩, k1, fun z hz => by simp [blk] at hz; have := k0.size; omega⟩
  obtain ⟨g5, hg5⟩ : ∃ g, U0.heap.size = g := ⟨_, rfl⟩
  rw [hg5] at M5 ⊢
  clear hU
  refine hK.out _ _ (HC.out _ k1) (fun hHeld1 => ?_)
  clear hK K hHeld
  try simp only [Act.put, pu1, pu2, pu3]
  refine wpAnyG_ready (rs := [9]) (by kernel_rfl) (by simp) ?_
  refine AllReadyG.cons (o := ⟨some 45, .call { callee := .builtin .append, args := #[.tmp 41, .tmp 44], argTypes := #[57, 57] }, 57, "ref.go:141", #[⟨5, .data⟩, ⟨8, .data⟩], none⟩) rfl (fun K hK => ?_) AllReadyG.nil
  obtain ⟨a9, n9, c9, U2, run9, M9, kk9, _⟩ := M5.join (by simp) _ _ _ (HTk.out _ k1) (by simp [iv]; omega)
  refine step_app2 (by rfl) _ _ 57 57 (by rfl) _ _ (by rfl) (by rfl) run9 ?_
  have k2 := M9.2.1
  refine hK.out _ _ (HC.out _ k2) (fun hHeld2 => ?_)
  clear hK K hHeld1
  try simp only [Act.put, pu1, pu2, pu3]
  refine wpAnyG_ready (rs := [14]) (by kernel_rfl) (by simp) ?_
  refine AllReadyG.cons (o := ⟨some 50, .call { callee := .builtin .append, args := #[.tmp 45, .tmp 49], argTypes := #[57, 57] }, 57, "ref.go:141", #[⟨9, .data⟩, ⟨13, .data⟩, ⟨9, .chain⟩], none⟩) rfl (fun K hK => ?_) AllReadyG.nil
  obtain ⟨a14, n14, c14, U3, run14, M14, kk14, _⟩ := M9.join (by simp) _ _ _ (HD.out _ k2) (by simp [iv]; omega)
  refine step_app2 (by rfl) _ _ 57 57 (by rfl) _ _ (by rfl) (by rfl) run14 ?_
  have k3 := M14.2.1
  refine hK.out _ _ (HC.out _ k3) (fun hHeld3 => ?_)
  clear hK K hHeld2
  try simp only [Act.put, pu1, pu2, pu3]
  refine g_pure 15 (oi := ⟨some 51, .indexAddr 60 (.tmp 39) (.tmp 40), 0, "ref.go:141", #[⟨3, .data⟩, ⟨4, .data⟩, ⟨0, .phase⟩, ⟨1, .phase⟩, ⟨2, .phase⟩, ⟨3, .phase⟩, ⟨4, .phase⟩, ⟨5, .phase⟩, ⟨6, .phase⟩, ⟨7, .phase⟩, ⟨8, .phase⟩, ⟨9, .phase⟩, ⟨10, .phase⟩, ⟨11, .phase⟩, ⟨12, .phase⟩, ⟨13, .phase⟩, ⟨14, .phase⟩], none⟩) (v := ?_) (Or.inl ⟨by rfl, ?_⟩) ?_
  rotate_left
  · (intro w; go_simp; try with_reducible rfl)
  simp only [Act.put, pu1, pu2, pu3]
  refine g_pure 16 (oi := ⟨some 52, .fieldAddr 59 (.tmp 51) 5, 0, "ref.go:141", #[⟨15, .data⟩, ⟨0, .phase⟩, ⟨1, .phase⟩, ⟨2, .phase⟩, ⟨3, .phase⟩, ⟨4, .phase⟩, ⟨5, .phase⟩, ⟨6, .phase⟩, ⟨7, .phase⟩, ⟨8, .phase⟩, ⟨9, .phase⟩, ⟨10, .phase⟩, ⟨11, .phase⟩, ⟨12, .phase⟩, ⟨13, .phase⟩, ⟨14, .phase⟩], none⟩) (v := ?_) (Or.inl ⟨by rfl, ?_⟩) ?_
  rotate_left
  · (intro w; go_simp; try with_reducible rfl)
  simp only [Act.put, pu1, pu2, pu3]
  refine wpAnyG_free (by kernel_rfl) ?_
  refine wpAny_ready (rs := [17]) (by kernel_rfl) (by simp) ?_
  refine AllReady.cons (o := ⟨none, .store 57 (.tmp 52) (.tmp 50), 0, "ref.go:141", #[⟨16, .data⟩, ⟨14, .data⟩, ⟨14, .chain⟩, ⟨0, .phase⟩, ⟨1, .phase⟩, ⟨2, .phase⟩, ⟨3, .phase⟩, ⟨4, .phase⟩, ⟨5, .phase⟩, ⟨6, .phase⟩, ⟨7, .phase⟩, ⟨8, .phase⟩, ⟨9, .phase⟩, ⟨10, .phase⟩, ⟨11, .phase⟩, ⟨12, .phase⟩, ⟨13, .phase⟩, ⟨14, .phase⟩], none⟩) rfl (fun K hK => ?_) AllReady.nil
  obtain ⟨f5, fr⟩ := HF5.out _ k3
  go_simp
  refine hK _ _ ?_
  clear hK K
  try simp only [Act.put, pu1, pu2, pu3]
  refine wpAny_done (by kernel_rfl) ?_ _
  obtain ⟨⟨z1, z2, z3⟩, z4⟩ := HZ.out _ _ _ _ M14
  have ZZ : Hid (∃ tag', Dn tag' _ d q AC ∧ Dv tag w tag' _) := z4
  clear z4
  go_wp2
  go_ret
  exact ⟨rfl, ZZ.out⟩

end

end Go.Proofs.YtgjkfpmhgidpaaaGreat

/-
  The document's arena: Detach, each way.
-/
namespace Go.Proofs.YtgjkfpmhgidpaaaGreat
open Go.RowKit Go.Maps Utf
set_option linter.unusedVariables false
set_option linter.unusedSimpArgs false

section
variable {tag : Nat → Nat} {w : World} {d : Nat} {q : Bool} {A : Ar}

set_option maxRecDepth 100000 in
set_option maxHeartbeats 1000000 in
theorem rdet_any (hD : Dn tag w d q A) (ful : A.Ful) (hn : A.n < 50000) (x : Int) :
    Calls Tryz.prog 27 #[.pointer (some ⟨d, 0, none⟩), .int .i64 x] w fun e w' => e = .returned (.int .i64 (A.detF x).2) ∧ ∃ tag', Dn tag' w' d q (A.detF x).1 ∧ Dv tag w tag' w' := by
  have hD0 : Hid (∃ tag', Dn tag' w d q A ∧ Dv tag w tag' w) := ⟨tag, hD, Dv.refl tag w⟩
  obtain ⟨g, o, c, pl, h⟩ := hD
  have HT := rthere_any h x
  cases hx : A.there x with
  | false =>
    have eF : A.detF x = (A, 22) := by unfold Ar.detF; rw [if_pos hx]
    rw [eF]
    rw [hx] at HT
    clear eF h ful
    go_enter Tryz.func27, Tryz.ntmps27
    go_wp2_with (go_at_call 61; refine (HT).mono ?_; rintro e w9 ⟨rfl, hw⟩; have hw2 := hw.symm; clear hw; subst hw2)
    go_ret
    exact ⟨rfl, hD0.out⟩
  | true =>
    rw [hx] at HT
    obtain ⟨x, rfl, hx'⟩ := there_nat hx
    have HF := rfixed_any h x hx'
    have j1 : (0 : Int) ≤ (x : Int) := by omega
    have j2 : (x : Int) < (A.n : Int) := by omega
    cases hf : Ar.fix (A.lb x) with
    | true =>
      have eF : A.detF (x : Int) = (A, 23) := by unfold Ar.detF; rw [if_neg (by rw [hx]; simp), Int.toNat_natCast, if_pos hf]
      rw [eF]
      rw [hf] at HF
      clear eF h ful
      go_enter Tryz.func27, Tryz.ntmps27
      go_wp2_with (first | (go_at_call 61; refine (HT).mono ?_; rintro e w9 ⟨rfl, hw⟩; have hw2 := hw.symm; clear hw; subst hw2) | (go_at_call 63; refine (HF).mono ?_; rintro e w9 ⟨rfl, hw⟩; have hw2 := hw.symm; clear hw; subst hw2))
      go_ret
      exact ⟨rfl, hD0.out⟩
    | false =>
      have eF : A.detF (x : Int) = (A.cut x, 0) := by unfold Ar.detF; rw [if_neg (by rw [hx]; simp), Int.toNat_natCast, if_neg (by rw [hf]; simp)]
      rw [eF]
      cases hu : A.up x with
      | some p => exact rdet_cut h ful hn p x hx' hf hu
      | none =>
        rw [Ar.cut_none hu]
        rw [hf] at HF
        have c0 := h.head.1
        have c6 := (h.seven hx').2.2.2.2.2.2
        rw [hu, show Ar.upI none = -1 from rfl] at c6
        clear eF h ful
        go_enter Tryz.func27, Tryz.ntmps27
        go_wp2_with (first | (go_at_call 61; refine (HT).mono ?_; rintro e w9 ⟨rfl, hw⟩; have hw2 := hw.symm; clear hw; subst hw2) | (go_at_call 63; refine (HF).mono ?_; rintro e w9 ⟨rfl, hw⟩; have hw2 := hw.symm; clear hw; subst hw2))
        go_ret
        exact ⟨rfl, hD0.out⟩

end

end Go.Proofs.YtgjkfpmhgidpaaaGreat

/-
  The document's arena: Before.
-/
namespace Go.Proofs.YtgjkfpmhgidpaaaGreat
open Go.RowKit Go.Maps Utf
set_option linter.unusedVariables false
set_option linter.unusedSimpArgs false

section
variable {tag : Nat → Nat} {w : World} {d : Nat} {q : Bool} {A : Ar}

set_option maxRecDepth 100000 in
set_option maxHeartbeats 1000000 in
theorem rbef_any (hD : Dn tag w d q A) (ful : A.Ful) (hn : A.n < 50000) (r x : Int) :
    Calls Tryz.prog 25 #[.pointer (some ⟨d, 0, none⟩), .int .i64 r, .int .i64 x] w fun e w' => e = .returned (.int .i64 (A.befF r x).2) ∧ ∃ tag', Dn tag' w' d q (A.befF r x).1 ∧ Dv tag w tag' w' := by
  have hD0 : Hid (∃ tag', Dn tag' w d q A ∧ Dv tag w tag' w) := ⟨tag, hD, Dv.refl tag w⟩
  obtain ⟨g, o, c, pl, h⟩ := hD
  have HT : Hid (∀ z, Calls Tryz.prog 61 #[.pointer (some ⟨d, 0, none⟩), .int .i64 z] w fun e w' => e = .returned (.bool (A.there z)) ∧ w' = w) := fun z => rthere_any h z
  by_cases h1 : A.there r = false ∨ A.there x = false
  · have eF : A.befF r x = (A, 22) := by unfold Ar.befF; rw [if_pos h1]
    rw [eF]
    clear eF h ful
    cases hr : A.there r with
    | false =>
      clear h1
      go_enter Tryz.func25, Tryz.ntmps25
      go_wp2_with (go_at_call 61; refine (HT.out _).mono ?_; rintro e w9 ⟨rfl, hw⟩; have hw2 := hw.symm; clear hw; subst hw2)
      go_ret
      exact ⟨rfl, hD0.out⟩
    | true =>
      have hx : A.there x = false := h1.resolve_left (by rw [hr]; simp)
      clear h1
      go_enter Tryz.func25, Tryz.ntmps25
      go_wp2_with (go_at_call 61; refine (HT.out _).mono ?_; rintro e w9 ⟨rfl, hw⟩; have hw2 := hw.symm; clear hw; subst hw2)
      go_ret
      exact ⟨rfl, hD0.out⟩
  · have hr : A.there r = true := by cases e : A.there r with | true => rfl | false => exact absurd (.inl e) h1
    have hx : A.there x = true := by cases e : A.there x with | true => rfl | false => exact absurd (.inr e) h1
    obtain ⟨r, rfl, hr'⟩ := there_nat hr
    obtain ⟨x, rfl, hx'⟩ := there_nat hx
    have HFr : Hid (Calls Tryz.prog 63 #[.pointer (some ⟨d, 0, none⟩), .int .i64 (r : Int)] w fun e w' => e = .returned (.bool (Ar.fix (A.lb r))) ∧ w' = w) := rfixed_any h r hr'
    have HF : Hid (∀ z : Nat, z < A.n → Calls Tryz.prog 63 #[.pointer (some ⟨d, 0, none⟩), .int .i64 (z : Int)] w fun e w' => e = .returned (.bool (Ar.fix (A.lb z))) ∧ w' = w) := fun z hz => rfixed_any h z hz
    have HW := rwithin_any h ful.toOk r x hr'
    have c0 := h.head.1
    have c6 := (h.seven hx').2.2.2.2.2.2
    have c6r := (h.seven hr').2.2.2.2.2.2
    have j1 : (0 : Int) ≤ (x : Int) := by omega
    have j2 : (x : Int) < (A.n : Int) := by omega
    have j3 : (0 : Int) ≤ (r : Int) := by omega
    have j4 : (r : Int) < (A.n : Int) := by omega
    have eB : A.befF (r : Int) (x : Int) = (match A.up r with | none => (A, 23) | some p => if Ar.fix (A.lb r) = true ∨ Ar.fix (A.lb x) = true then (A, 23) else if A.up x ≠ none then (A, 24) else if A.wn r x = true then (A, 26) else (A.put p (A.place p r) x, 0)) := by unfold Ar.befF; rw [if_neg h1]; simp only [Int.toNat_natCast]; rfl
    rw [eB]
    clear eB h1
    cases hfr : Ar.fix (A.lb r) with
    | true =>
      have eF : (match A.up r with | none => (A, (23 : Int)) | some p => if true = true ∨ Ar.fix (A.lb x) = true then (A, 23) else if A.up x ≠ none then (A, 24) else if A.wn r x = true then (A, 26) else (A.put p (A.place p r) x, 0)) = (A, 23) := by
        cases A.up r with
        | none => rfl
        | some p => exact if_pos (.inl rfl)
      rw [eF]
      clear eF h ful HW c0 c6 c6r
      go_enter Tryz.func25, Tryz.ntmps25
      go_wp2_with (first | (go_at_call 61; refine (HT.out _).mono ?_; rintro e w9 ⟨rfl, hw⟩; have hw2 := hw.symm; clear hw; subst hw2) | (go_at_call 63; refine (HF.out _ (by assumption)).mono ?_; rintro e w9 ⟨rfl, hw⟩; have hw2 := hw.symm; clear hw; subst hw2))
      go_ret
      exact ⟨rfl, hD0.out⟩
    | false =>
      cases hur : A.up r with
      | none =>
        rw [hur, show Ar.upI none = -1 from rfl] at c6r
        clear h ful HW c6
        go_enter Tryz.func25, Tryz.ntmps25
        go_wp2_with (first | (go_at_call 61; refine (HT.out _).mono ?_; rintro e w9 ⟨rfl, hw⟩; have hw2 := hw.symm; clear hw; subst hw2) | (go_at_call 63; refine (HF.out _ (by assumption)).mono ?_; rintro e w9 ⟨rfl, hw⟩; have hw2 := hw.symm; clear hw; subst hw2))
        go_ret
        exact ⟨rfl, hD0.out⟩
      | some p =>
        rw [hur, show Ar.upI (some p) = (p : Int) from rfl] at c6r
        have jp : ¬ (p : Int) < 0 := by omega
        have hp := (ful.toOk.lt hur).2
        cases hfx : Ar.fix (A.lb x) with
        | true =>
          clear h ful HW c6
          go_enter Tryz.func25, Tryz.ntmps25
          go_wp2_with (first | (go_at_call 61; refine (HT.out _).mono ?_; rintro e w9 ⟨rfl, hw⟩; have hw2 := hw.symm; clear hw; subst hw2) | (go_at_call 63; refine (HF.out _ (by assumption)).mono ?_; rintro e w9 ⟨rfl, hw⟩; have hw2 := hw.symm; clear hw; subst hw2))
          go_ret
          exact ⟨by simp, by simpa using hD0.out⟩
        | false =>
          cases hu : A.up x with
          | some u =>
            rw [hu, show Ar.upI (some u) = (u : Int) from rfl] at c6
            have ju : (0 : Int) ≤ (u : Int) := by omega
            clear h ful HW
            go_enter Tryz.func25, Tryz.ntmps25
            go_wp2_with (first | (go_at_call 61; refine (HT.out _).mono ?_; rintro e w9 ⟨rfl, hw⟩; have hw2 := hw.symm; clear hw; subst hw2) | (go_at_call 63; refine (HF.out _ (by assumption)).mono ?_; rintro e w9 ⟨rfl, hw⟩; have hw2 := hw.symm; clear hw; subst hw2))
            go_ret
            exact ⟨by simp, by simpa using hD0.out⟩
          | none =>
            rw [hu, show Ar.upI none = -1 from rfl] at c6
            cases hw : A.wn r x with
            | true =>
              rw [hw] at HW
              clear h ful
              go_enter Tryz.func25, Tryz.ntmps25
              go_wp2_with (first | (go_at_call 61; refine (HT.out _).mono ?_; rintro e w9 ⟨rfl, hw⟩; have hw2 := hw.symm; clear hw; subst hw2) | (go_at_call 63; refine (HF.out _ (by assumption)).mono ?_; rintro e w9 ⟨rfl, hw⟩; have hw2 := hw.symm; clear hw; subst hw2) | (go_at_call 64; refine (HW).mono ?_; rintro e w9 ⟨rfl, hw⟩; have hw2 := hw.symm; clear hw; subst hw2))
              go_ret
              exact ⟨by simp, by simpa using hD0.out⟩
            | false =>
              rw [hw] at HW
              simp only [Bool.false_eq_true, or_self, if_false, ne_eq, not_true_eq_false]
              have hpl := (Ar.place_lt ful.toOk hur).1
              have HPl : Hid (∀ V, Kp [] w V → Calls Tryz.prog 67 #[.pointer (some ⟨d, 0, none⟩), .int .i64 (r : Int)] V fun e w' => e = .returned (.int .i64 (A.place p r : Int)) ∧ Kp [] V w') := fun V k => rplace_any (h.kept k) ful.toOk hn r p hur
              have HPu : Hid (∀ V, Kp [] w V → Calls Tryz.prog 65 #[.pointer (some ⟨d, 0, none⟩), .int .i64 (p : Int), .int .i64 (A.place p r : Int), .int .i64 (x : Int)] V fun e w' => e = .returned (.tuple #[]) ∧ (w'.cell? ⟨d, 0, none⟩ = some (.slice (some ⟨g, o, none⟩) A.n c) ∧ w'.cell? ⟨g, o + r * 7 + 6, none⟩ = some (.int .i64 (p : Int))) ∧ ∃ tag', Dn tag' w' d q (A.put p (A.place p r) x) ∧ Dv tag w tag' w') := fun V k => by
                refine (rput_any (h.kept k) ful.toOk hn p x _ hp hx' (Nat.le_of_lt hpl)).mono ?_
                rintro e w' ⟨rfl, k1, h1⟩
                have hrx : r ≠ x := fun e => by rw [e, hu] at hur; cases hur
                have hS8 : (w'.cell? ⟨d, 0, none⟩ = some (.slice (some ⟨g, o, none⟩) A.n c) ∧ w'.cell? ⟨g, o + r * 7 + 6, none⟩ = some (.int .i64 (p : Int))) := by
                  obtain ⟨pl', h2⟩ := h1
                  have e6 := (h2.seven (i := r) hr').2.2.2.2.2.2
                  rw [show (A.put p (A.place p r) x).up r = some p from (if_neg hrx).trans hur] at e6
                  exact ⟨h2.head.1, e6⟩
                obtain ⟨tag', a, b⟩ := dn_turn (h.kept k) k1 h1
                exact ⟨rfl, hS8, tag', a, (Dv.of_kp k (fun x hx => by simp at hx) (fun _ _ => rfl)).trans b⟩
              have HC : Hid (∀ V, Kp [] w V → V.cell? ⟨d, 0, none⟩ = some (.slice (some ⟨g, o, none⟩) A.n c) ∧ V.cell? ⟨g, o + r * 7 + 6, none⟩ = some (.int .i64 (p : Int))) := fun V k => by
                have e6 := ((h.kept k).seven hr').2.2.2.2.2.2
                rw [hur] at e6
                exact ⟨(h.kept k).head.1, e6⟩
              have hS9 : (World.drew w).cell? ⟨d, 0, none⟩ = some (.slice (some ⟨g, o, none⟩) A.n c) ∧ (World.drew w).cell? ⟨g, o + r * 7 + 6, none⟩ = some (.int .i64 (p : Int)) := ⟨c0, c6r⟩
              clear h ful hD0 hpl
              generalize A.place p r = m at *
              generalize A.put p m x = AP at *
              go_enter Tryz.func25, Tryz.ntmps25
              go_upto_region 9 with (first | (go_at_call 61; refine (HT.out _).mono ?_; rintro e w9 ⟨rfl, hw⟩; have hw2 := hw.symm; clear hw; subst hw2) | (go_at_call 63; refine (HF.out _ (by assumption)).mono ?_; rintro e w9 ⟨rfl, hw⟩; have hw2 := hw.symm; clear hw; subst hw2) | (go_at_call 64; refine (HW).mono ?_; rintro e w9 ⟨rfl, hw⟩; have hw2 := hw.symm; clear hw; subst hw2))
              obtain ⟨U0, hU0⟩ : ∃ V, V = w.drew := ⟨_, rfl⟩
              have k0 : Kp [] w U0 := by rw [hU0]; exact (Kp.refl _ _).drew
              refine wp_region_g (S := fun V => V.cell? ⟨d, 0, none⟩ = some (.slice (some ⟨g, o, none⟩) A.n c) ∧ V.cell? ⟨g, o + r * 7 + 6, none⟩ = some (.int .i64 (p : Int))) (T := []) (by kernel_rfl) hS9 (fun hHeld => ?_)
              rw [← hU0] at hHeld ⊢
              clear hU0
              refine g_pure 0 (oi := ⟨some 53, .move (.tmp 0), 24, "ref.go:127", #[], none⟩) (v := ?_) (Or.inl ⟨by rfl, ?_⟩) ?_
              rotate_left
              · (intro w; go_simp; try with_reducible rfl)
              simp only [Act.put, pu1, pu2, pu3]
              refine g_pure 1 (oi := ⟨some 54, .move (.tmp 0), 24, "ref.go:127", #[], none⟩) (v := ?_) (Or.inl ⟨by rfl, ?_⟩) ?_
              rotate_left
              · (intro w; go_simp; try with_reducible rfl)
              simp only [Act.put, pu1, pu2, pu3]
              refine g_pure 2 (oi := ⟨some 55, .nilCheck (.tmp 54), 0, "ref.go:127", #[⟨1, .data⟩], none⟩) (v := ?_) (Or.inl ⟨by rfl, ?_⟩) ?_
              rotate_left
              · (intro w; go_simp; try with_reducible rfl)
              simp only [Act.put, pu1, pu2, pu3]
              refine g_pure 3 (oi := ⟨some 56, .fieldAddr 62 (.tmp 55) 0, 0, "ref.go:127", #[⟨2, .data⟩], none⟩) (v := ?_) (Or.inl ⟨by rfl, ?_⟩) ?_
              rotate_left
              · (intro w; go_simp; try with_reducible rfl)
              simp only [Act.put, pu1, pu2, pu3]
              refine g_take 4 (oi := ⟨some 57, .load 60 (.tmp 56), 60, "ref.go:127", #[⟨3, .data⟩], none⟩) (v := ?_) (Or.inl ⟨by rfl, ?_⟩) ?_
              rotate_left
              · (intro w hSw; (obtain ⟨q1, q2⟩ := hSw); go_simp; try with_reducible rfl)
              simp only [Act.put, pu1, pu2, pu3]
              refine g_pure 5 (oi := ⟨some 58, .move (.tmp 1), 3, "ref.go:127", #[], none⟩) (v := ?_) (Or.inl ⟨by rfl, ?_⟩) ?_
              rotate_left
              · (intro w; go_simp; try with_reducible rfl)
              simp only [Act.put, pu1, pu2, pu3]
              refine g_pure 6 (oi := ⟨some 59, .indexAddr 60 (.tmp 57) (.tmp 58), 0, "ref.go:127", #[⟨4, .data⟩, ⟨5, .data⟩], none⟩) (v := ?_) (Or.inl ⟨by rfl, ?_⟩) ?_
              rotate_left
              · (intro w; go_simp; try with_reducible rfl)
              simp only [Act.put, pu1, pu2, pu3]
              refine g_pure 7 (oi := ⟨some 60, .fieldAddr 59 (.tmp 59) 6, 0, "ref.go:127", #[⟨6, .data⟩], none⟩) (v := ?_) (Or.inl ⟨by rfl, ?_⟩) ?_
              rotate_left
              · (intro w; go_simp; try with_reducible rfl)
              simp only [Act.put, pu1, pu2, pu3]
              refine g_take 8 (oi := ⟨some 61, .load 3 (.tmp 60), 3, "ref.go:127", #[⟨7, .data⟩], none⟩) (v := ?_) (Or.inl ⟨by rfl, ?_⟩) ?_
              rotate_left
              · (intro w hSw; (obtain ⟨q1, q2⟩ := hSw); go_simp; try with_reducible rfl)
              simp only [Act.put, pu1, pu2, pu3]
              refine g_pure 9 (oi := ⟨some 62, .move (.tmp 0), 24, "ref.go:127", #[], none⟩) (v := ?_) (Or.inl ⟨by rfl, ?_⟩) ?_
              rotate_left
              · (intro w; go_simp; try with_reducible rfl)
              simp only [Act.put, pu1, pu2, pu3]
              refine g_pure 10 (oi := ⟨some 63, .move (.tmp 1), 3, "ref.go:127", #[], none⟩) (v := ?_) (Or.inl ⟨by rfl, ?_⟩) ?_
              rotate_left
              · (intro w; go_simp; try with_reducible rfl)
              simp only [Act.put, pu1, pu2, pu3]
              refine g_pure 12 (oi := ⟨some 65, .move (.tmp 2), 3, "ref.go:127", #[], none⟩) (v := ?_) (Or.inl ⟨by rfl, ?_⟩) ?_
              rotate_left
              · (intro w; go_simp; try with_reducible rfl)
              simp only [Act.put, pu1, pu2, pu3]
              refine wpAnyG_ready (rs := [11]) (by kernel_rfl) (by simp) ?_
              refine AllReadyG.cons (o := ⟨some 64, .call { callee := .value (.func 67), args := #[.tmp 62, .tmp 63], argTypes := #[24, 3] }, 3, "ref.go:127", #[⟨9, .data⟩, ⟨10, .data⟩], none⟩) rfl (fun K hK => ?_) AllReadyG.nil
              go_simp
              go_at_call 67
              refine (HPl.out _ k0).mono ?_
              rintro e U1 ⟨rfl, u1⟩
              go_wp2_with fail
              have k1 : Kp [] w U1 := k0.trans u1 (fun z hz => Or.inl hz)
              refine hK.out _ _ (HC.out _ k1) (fun hHeld1 => ?_)
              clear hK K hHeld
              try simp only [Act.put, pu1, pu2, pu3]
              refine wpAnyG_ready (rs := [13]) (by kernel_rfl) (by simp) ?_
              refine AllReadyG.cons (o := ⟨some 66, .call { callee := .value (.func 65), args := #[.tmp 53, .tmp 61, .tmp 64, .tmp 65], argTypes := #[24, 3, 3, 3] }, 0, "ref.go:127", #[⟨0, .data⟩, ⟨8, .data⟩, ⟨11, .data⟩, ⟨12, .data⟩, ⟨11, .chain⟩], none⟩) rfl (fun K hK => ?_) AllReadyG.nil
              go_simp
              go_at_call 65
              refine (HPu.out _ k1).mono ?_
              rintro e U2 ⟨rfl, z8, z9⟩
              go_wp2_with fail
              refine hK.out _ _ z8 (fun hHeld2 => ?_)
              clear hK K hHeld1
              try simp only [Act.put, pu1, pu2, pu3]
              refine wpAnyG_free (by kernel_rfl) ?_
              refine wpAny_done (by kernel_rfl) ?_ _
              have ZZ : Hid (∃ tag', Dn tag' _ d q AP ∧ Dv tag w tag' _) := z9
              clear z9
              go_wp2
              go_ret
              exact ⟨rfl, ZZ.out⟩

end

end Go.Proofs.YtgjkfpmhgidpaaaGreat
