/-
  Joined: Under UnderB UnderC.
-/
import Derived.Test.YtgnbafgglkncmaaSix
import Derived.Test.YtgnbafgglkncmaaMade
import Derived.Deep.RegionWith
import Derived.Deep.Cut
import Derived.Test.YtgnbafgglkncmaaRefA

/-
  under of the law: a node put at the end of the one that a way leads to.
-/
namespace Go.Proofs.Ytgnbafgglkncmaa
open Go.RowKit
set_option linter.unusedVariables false

theorem info25t : (Try.prog.info? 25).map (fun i => (i.zero, i.size, i.bytes)) = some (some (.agg #[.int .i64 0, .int .i64 0, .string ⟨#[]⟩, .slice none 0 0, .string ⟨#[]⟩, .slice none 0 0]), 6, 96) := by kernel_rfl
theorem info3t : (Try.prog.info? 3).map (fun i => (i.zero, i.size, i.bytes)) = some (some (.int .i64 0), 1, 8) := by kernel_rfl

theorem six_one (l : Lb) (p : Pl) : ∀ u, u ∈ six l p → u.oneCell' = true := fun u hu => by
  simp only [six, List.mem_cons, List.not_mem_nil, or_false] at hu
  rcases hu with rfl | rfl | rfl | rfl | rfl | rfl <;> rfl

/-- A row of cells that a slice in a block of its own holds, behind another one. -/
theorem Rt.of_own {Q : Nat → Prop} {w : World} {e : TypeId} {ao : Option Addr} {n m c : Nat} {xs : List Value} {f : Fo} (h : OwnK 6 w e (.slice ao n c) m xs) (hm : m = n) (hq : ∀ x, x ∈ blk (.slice ao n c) → Q x) (hf : Lf Q w f xs) : Rt Q w ao n c f := ⟨xs, Rk.of_own h hm hq, hf⟩

set_option maxRecDepth 100000 in
set_option maxHeartbeats 2000000 in
theorem under_nil (Q : Nat → Prop) (w : World) (x l : Lb) (y k : Fo) (p q : Pl) (wo : Option Addr) (c : Nat) (h : Nd Q w l k p) (hx : Nd Q w x y q) (hn : k.cnt ≤ 1000) (R : List Nat) (hR : Hid (R = if leafF x then [] else [k.len])) :
    Calls Try.prog 29 #[wv l p, .slice wo 0 c, wv x q] w fun e w' => ∃ p' ao m d, e = .returned (.tuple #[wv l p', .slice ao m d]) ∧ Nd (fun z => Q z ∨ w.heap.size ≤ z) w' l (k.app (.cons x y .nil)) p' ∧ Rk (fun z => w.heap.size ≤ z) 1 w' ao m d (iv R) ∧ Kp [] w w' := by
  obtain ⟨s, hs⟩ : ∃ s, w.heap.size = s := ⟨_, rfl⟩
  obtain ⟨B, hB⟩ : ∃ B, B = ((w.alloc (.cells (six l p).toArray 25)).alloc (.cells (six x q).toArray 25)).alloc (.cells #[.int .i64 0, .int .i64 0, .string ⟨#[]⟩, .slice none 0 0, .string ⟨#[]⟩, .slice none 0 0] 25) := ⟨_, rfl⟩
  have kB : Kp [] w B := by rw [hB]; exact (((Kp.refl _ _).alloc _).alloc _).alloc _
  have A0 : At B s (six l p).toArray 25 := by
    rw [hB, ← hs]; exact ((At.new _ _ _).kept ((Kp.refl [] _).alloc _) (by simp)).kept ((Kp.refl [] _).alloc _) (by simp)
  have A1 : At B (s + 1) (six x q).toArray 25 := by
    rw [hB, ← hs]; exact (At.new' _ _ _ _ (by simp)).kept ((Kp.refl [] _).alloc _) (by simp)
  have A2 : At B (s + 1 + 1) #[.int .i64 0, .int .i64 0, .string ⟨#[]⟩, .slice none 0 0, .string ⟨#[]⟩, .slice none 0 0] 25 := by
    rw [hB, ← hs]; exact At.new' _ _ _ _ (by simp)
  have hkl := h.klen
  have hkc := Fo.len_le_cnt k
  have hatt := h.at'
  obtain ⟨zs, hz1, hz2⟩ := h.kids
  have ho := hz2.one
  have sB : B.heap.size = s + 3 := by rw [hB, ← hs]; simp
  have SB : Hid (B.heap.size = s + 3) := sB
  have HW : Hid (((w.alloc (.cells #[.int .i64 l.kind, .int .i64 l.ns, .string l.name, .slice p.1.1 p.1.2.1 p.1.2.2, .string l.text, .slice p.2.1 p.2.2.1 p.2.2.2] 25)).alloc (.cells #[.int .i64 x.kind, .int .i64 x.ns, .string x.name, .slice q.1.1 q.1.2.1 q.1.2.2, .string x.text, .slice q.2.1 q.2.2.1 q.2.2.2] 25)).alloc (.cells #[.int .i64 0, .int .i64 0, .string ⟨#[]⟩, .slice none 0 0, .string ⟨#[]⟩, .slice none 0 0] 25) = B) := hB.symm
  -- what the end must show
  have FIN : Hid (∀ (V F W : World) (a6 : Addr) (c6 : Nat), OwnK 6 V 25 (.slice (some a6) (p.2.2.1 + 1) c6) (p.2.2.1 + 1) (zs ++ six x q) → Kp [] B V → F = V.setCell ⟨s, 5, none⟩ (.slice (some a6) (p.2.2.1 + 1) c6) → (∀ z, z ∈ blk (.slice (some a6) (p.2.2.1 + 1) c6) → s + 3 ≤ z) → Kp [s + 1 + 1] F W → Nd (fun z => Q z ∨ w.heap.size ≤ z) W l (k.app (.cons x y .nil)) (p.1, (some a6, p.2.2.1 + 1, c6)) ∧ Kp [] w W) := by
    intro V F W a6 c6 h1 h2 h3 h4 h5
    have kV : Kp [] w V := kB.trans h2 (fun z hz => by simp at hz)
    have kF : Kp [s] V F := by rw [h3]; exact (Kp.refl _ _).setCell (Or.inl (by simp)) _
    have hsz := h2.size
    have kW : Kp [s, s + 1 + 1] V W := (kF.mono (T := [s, s + 1 + 1]) (fun z hz => Or.inl (by simp at hz; simp [hz]))).trans h5 (fun z hz => Or.inl (by simp at hz; simp [hz]))
    have kwW : Kp [] w W := kV.trans kW (fun z hz => Or.inr (by simp at hz; omega))
    refine ⟨⟨(hatt.kept kwW).mono (fun _ _ h => Or.inl h), Rt.of_own (h1.keep kW (fun z hz => by have := h4 z hz; simp; omega)) rfl (fun z hz => Or.inr (by have := h4 z hz; omega)) ?_⟩, kwW⟩
    refine Lf.app ?_ ((hz2.kept kwW).mono (fun _ _ h => Or.inl h))
    have := Lf.cons ((hx.kept kwW).mono (R := fun z => Q z ∨ w.heap.size ≤ z) (fun _ _ h => Or.inl h)) (Lf.nil _ W)
    rwa [List.append_nil] at this
  have hm : p.2.2.1 ≤ 1000 := by omega
  have SR : Hid (∀ V, Kp [] B V → Src Try.prog 6 23 (.slice p.2.1 p.2.2.1 p.2.2.2) p.2.2.1 zs V) := fun V kV => (hz1.kept (kB.trans kV (fun z hz => by simp at hz))).src Try.underlying23 ho
  have KL : Hid (k.len = p.2.2.1) := hkl.symm
  simp only [six] at A0 A1
  clear h hx hB sB hz1 hz2 ho hatt hkc hkl hn
  obtain ⟨⟨pa, pn, pcap⟩, bo, m, d⟩ := p
  simp only [wv] at HW FIN SR KL hm A0 ⊢
  go_enter Try.func29, Try.ntmps29
  go_wp2_with fail
  rw [HW.out]

  obtain ⟨V0, hV0⟩ : ∃ V, V = B.drew := ⟨_, rfl⟩
  have k0 : Kp [] B V0 := by rw [hV0]; exact (Kp.refl _ _).drew
  refine wp_region_g (S := fun V => At V s #[.int .i64 l.kind, .int .i64 l.ns, .string l.name, .slice pa pn pcap, .string l.text, .slice bo m d] 25 ∧ At V (s + 1) #[.int .i64 x.kind, .int .i64 x.ns, .string x.name, .slice q.1.1 q.1.2.1 q.1.2.2, .string x.text, .slice q.2.1 q.2.2.1 q.2.2.2] 25) (T := [7, 8]) (by kernel_rfl) ⟨A0.kept (Kp.refl [] B).drew (by simp), A1.kept (Kp.refl [] B).drew (by simp)⟩ (fun hHeld => ?_)
  rw [← hV0] at hHeld ⊢
  clear hV0
  refine wpAnyG_pure (i := 1) (oi := { dst := some 16, op := Go.Op.fieldAddr 25 (Go.Operand.tmp 3) 5, type := 0, pos := "law.go:55", after := #[], guard := none }) (v := ?_) rfl (by kernel_rfl) (by kernel_rfl) (by kernel_rfl) (by kernel_rfl) (fun _ _ _ h => h) (Or.inl ⟨by rfl, ?_⟩) (by assumption) ?_
  rotate_left
  · (intro w; go_simp; try with_reducible rfl)
  simp only [Act.put, List.setIfInBounds_toArray, List.set_cons_zero, List.set_cons_succ]
  refine wpAnyG_take (i := 2) (oi := { dst := some 17, op := Go.Op.load 23 (Go.Operand.tmp 16), type := 23, pos := "law.go:55", after := #[{ on := 1, ground := Go.Ground.data }], guard := none }) (v := ?_) rfl (by kernel_rfl) (by kernel_rfl) (by kernel_rfl) (by kernel_rfl) (fun _ _ _ h => h) (Or.inl ⟨by rfl, ?_⟩) (by assumption) ?_
  rotate_left
  · (intro w hSw; (obtain ⟨⟨c0, c1, c2, c3, c4, c5⟩, e0, e1, e2, e3, e4, e5⟩ := And.intro hSw.1.six hSw.2.six); go_simp; try with_reducible rfl)
  simp only [Act.put, List.setIfInBounds_toArray, List.set_cons_zero, List.set_cons_succ]
  refine wpAnyG_take (i := 4) (oi := { dst := some 19, op := Go.Op.load 25 (Go.Operand.tmp 5), type := 25, pos := "law.go:55", after := #[], guard := none }) (v := ?_) rfl (by kernel_rfl) (by kernel_rfl) (by kernel_rfl) (by kernel_rfl) (fun _ _ _ h => h) (Or.inl ⟨by rfl, ?_⟩) (by assumption) ?_
  rotate_left
  · (intro w hSw; (obtain ⟨⟨c0, c1, c2, c3, c4, c5⟩, e0, e1, e2, e3, e4, e5⟩ := And.intro hSw.1.six hSw.2.six); go_simp; try with_reducible rfl)
  simp only [Act.put, List.setIfInBounds_toArray, List.set_cons_zero, List.set_cons_succ]
  refine wpAnyG_ready (rs := [0, 5]) (by kernel_rfl) (by simp) ?_
  refine AllReadyG.cons (o := { dst := some 15, op := Go.Op.buildSlice 23 0 #[], type := 23, pos := "law.go:55", after := #[], guard := none }) rfl (fun K hK => ?_) ?_
  · go_simp
    obtain ⟨V1, hV1⟩ : ∃ V, V = World.alloc V0 (.cells #[] 25) := ⟨_, rfl⟩
    rw [← hV1]
    have q1 : Kp [] V0 V1 := by rw [hV1]; exact (Kp.refl _ _).alloc _
    have z1 : V0.heap.size + 1 ≤ V1.heap.size := by rw [hV1]; simp
    have k1 : Kp [] B V1 := k0.trans q1 (fun z hz => by simp at hz)
    have o0_1 : OwnK 6 V1 25 (.slice (some ⟨V0.heap.size, 0, none⟩) 0 0) 0 [] := by rw [hV1]; exact ownK_new 6 _ 25 #[] [] 0 0 rfl (Nat.le_refl _) (Nat.zero_le _) (Nat.le_refl _) (fun j hj => by omega)
    have n0 := k0.size
    obtain ⟨g0, hg0⟩ : ∃ g0, V0.heap.size = g0 := ⟨_, rfl⟩
    rw [hg0] at o0_1 ⊢
    clear hV1
    refine hK.out _ _ ⟨hHeld.1.kept q1 (by simp), hHeld.2.kept q1 (by simp)⟩ (fun hHeld1 => ?_)
    clear hK K hHeld
    try simp only [Act.put, List.setIfInBounds_toArray, List.set_cons_zero, List.set_cons_succ]
    refine wpAnyG_ready (rs := [3, 5]) (by kernel_rfl) (by simp) ?_
    refine AllReadyG.cons (o := { dst := some 18, op := Go.Op.call { callee := Go.Callee.builtin Go.Builtin.append, args := #[Go.Operand.tmp 15, Go.Operand.tmp 17], argTypes := #[23, 23] }, type := 23, pos := "law.go:55", after := #[{ on := 0, ground := Go.Ground.data }, { on := 2, ground := Go.Ground.data }], guard := none }) rfl (fun K hK => ?_) ?_
    · refine step_appK (by rfl) _ _ 23 (by rfl) Try.underlying23 info25t rfl (by decide) _ _ (by rfl) (by rfl) 0 [] o0_1 m zs (SR.out _ k1) (fun h => by cases h) (by omega) (fun v3 V2 o3_2 q2 b3 hv3 => ?_)
      have z2 := q2.size
      have k2 : Kp [] B V2 := k1.trans q2 (fun z hz => Or.inr (by simp [blk] at hz; omega))
      have b3 : ∀ z, z ∈ blk v3 → B.heap.size ≤ z ∧ (z = g0 ∨ z = V1.heap.size) := fun z hz => by
        have := k1.size
        rcases b3 z hz with h1 | h1
        · simp [blk] at h1; omega
        · omega
      rw [Nat.zero_add, List.nil_append] at o3_2
      clear hv3
      refine hK.out _ _ ⟨hHeld1.1.kept q2 (by have := SB.out; simp [blk]; omega), hHeld1.2.kept q2 (by have := SB.out; simp [blk]; omega)⟩ (fun hHeld2 => ?_)
      clear hK K hHeld1
      try simp only [Act.put, List.setIfInBounds_toArray, List.set_cons_zero, List.set_cons_succ]
      refine wpAnyG_ready (rs := [5]) (by kernel_rfl) (by simp) ?_
      refine AllReadyG.cons (o := { dst := some 20, op := Go.Op.buildSlice 23 1 #[(0, Go.Operand.tmp 19)], type := 23, pos := "law.go:55", after := #[{ on := 4, ground := Go.Ground.data }], guard := none }) rfl (fun K hK => ?_) AllReadyG.nil
      go_simp
      obtain ⟨V3, hV3⟩ : ∃ V, V = World.alloc V2 (.cells #[.int .i64 x.kind, .int .i64 x.ns, .string x.name, .slice q.1.1 q.1.2.1 q.1.2.2, .string x.text, .slice q.2.1 q.2.2.1 q.2.2.2] 25) := ⟨_, rfl⟩
      rw [← hV3]
      have q3 : Kp [] V2 V3 := by rw [hV3]; exact (Kp.refl _ _).alloc _
      have z3 : V2.heap.size + 1 ≤ V3.heap.size := by rw [hV3]; simp
      have k3 : Kp [] B V3 := k2.trans q3 (fun z hz => by simp at hz)
      have o3_3 := o3_2.keep q3 (fun z hz => by simp)
      have e5_3 : At V3 V2.heap.size #[.int .i64 x.kind, .int .i64 x.ns, .string x.name, .slice q.1.1 q.1.2.1 q.1.2.2, .string x.text, .slice q.2.1 q.2.2.1 q.2.2.2] 25 := by rw [hV3]; exact At.new _ _ _
      have n5 := k2.size
      obtain ⟨g5, hg5⟩ : ∃ g5, V2.heap.size = g5 := ⟨_, rfl⟩
      rw [hg5] at e5_3 ⊢
      clear hV3
      refine hK.out _ _ ⟨hHeld2.1.kept q3 (by simp), hHeld2.2.kept q3 (by simp)⟩ (fun hHeld3 => ?_)
      clear hK K hHeld2
      try simp only [Act.put, List.setIfInBounds_toArray, List.set_cons_zero, List.set_cons_succ]
      refine wpAnyG_ready (rs := [6]) (by kernel_rfl) (by simp) ?_
      refine AllReadyG.cons (o := { dst := some 21, op := Go.Op.call { callee := Go.Callee.builtin Go.Builtin.append, args := #[Go.Operand.tmp 18, Go.Operand.tmp 20], argTypes := #[23, 23] }, type := 23, pos := "law.go:55", after := #[{ on := 3, ground := Go.Ground.data }, { on := 5, ground := Go.Ground.data }, { on := 3, ground := Go.Ground.chain }], guard := none }) rfl (fun K hK => ?_) AllReadyG.nil
      refine step_appK (by rfl) _ _ 23 (by rfl) Try.underlying23 info25t rfl (by decide) _ _ (by rfl) (by rfl) m zs o3_3 1 _ (src_new Try.underlying23 e5_3 (six x q) rfl (six_one x q)) (fun h => by omega) (by omega) (fun v6 V4 o6 q4 b6 hv6 => ?_)
      have z4 := q4.size
      have k4 : Kp [] B V4 := k3.trans q4 (fun z hz => Or.inr (b3 z hz).1)
      have b6 : ∀ z, z ∈ blk v6 → s + 3 ≤ z := fun z hz => by
        have := SB.out
        have := k3.size
        rcases b6 z hz with h1 | h1
        · have := (b3 z h1).1; omega
        · omega
      obtain ⟨a6, c6, rfl⟩ := hv6
      refine hK.out _ _ ⟨hHeld3.1.kept q4 (fun hz => by have := (b3 _ hz).1; have := SB.out; omega), hHeld3.2.kept q4 (fun hz => by have := (b3 _ hz).1; have := SB.out; omega)⟩ (fun hHeld4 => ?_)
      clear hK K hHeld3
      try simp only [Act.put, List.setIfInBounds_toArray, List.set_cons_zero, List.set_cons_succ]
      refine wpAnyG_free (by kernel_rfl) ?_
      refine wpAny_take (i := 7) (oi := { dst := some 22, op := Go.Op.fieldAddr 25 (Go.Operand.tmp 3) 5, type := 0, pos := "law.go:55", after := #[{ on := 0, ground := Go.Ground.phase }, { on := 1, ground := Go.Ground.phase }, { on := 2, ground := Go.Ground.phase }, { on := 3, ground := Go.Ground.phase }, { on := 4, ground := Go.Ground.phase }, { on := 5, ground := Go.Ground.phase }, { on := 6, ground := Go.Ground.phase }], guard := none }) (v := ?_) rfl (by kernel_rfl) (by kernel_rfl) (by kernel_rfl) (fun _ _ _ h => h) (Or.inl ⟨by rfl, ?_⟩) ?_
      rotate_left
      · (intro w; go_simp; try with_reducible rfl)
      simp only [Act.put, List.setIfInBounds_toArray, List.set_cons_zero, List.set_cons_succ]
      refine wpAny_ready (rs := [8]) (by kernel_rfl) (by simp) ?_
      refine AllReady.cons (o := { dst := none, op := Go.Op.store 23 (Go.Operand.tmp 22) (Go.Operand.tmp 21), type := 0, pos := "law.go:55", after := #[{ on := 7, ground := Go.Ground.data }, { on := 6, ground := Go.Ground.data }, { on := 6, ground := Go.Ground.chain }, { on := 0, ground := Go.Ground.phase }, { on := 1, ground := Go.Ground.phase }, { on := 2, ground := Go.Ground.phase }, { on := 3, ground := Go.Ground.phase }, { on := 4, ground := Go.Ground.phase }, { on := 5, ground := Go.Ground.phase }, { on := 6, ground := Go.Ground.phase }], guard := none }) rfl (fun K hK => ?_) AllReady.nil
      have A0v := A0.kept k4 (by simp)
      have A1v := A1.kept k4 (by simp)
      have A2v := A2.kept k4 (by simp)
      have s5 := A0v.cell 5
      have f5 := A0v.free 5
      simp only [List.getElem?_toArray, List.getElem?_cons_succ, List.getElem?_cons_zero] at s5
      go_simp
      refine hK _ _ ?_
      clear hK K
      try simp only [Act.put, List.setIfInBounds_toArray, List.set_cons_zero, List.set_cons_succ]
      refine wpAny_done (by kernel_rfl) ?_ _
      obtain ⟨F, hF⟩ : ∃ F, F = World.setCell V4 ⟨s, 5, none⟩ (.slice (some a6) (m + 1) c6) := ⟨_, rfl⟩
      rw [← hF]
      have B0 : At F s #[.int .i64 l.kind, .int .i64 l.ns, .string l.name, .slice pa pn pcap, .string l.text, .slice (some a6) (m + 1) c6] 25 := by rw [hF]; exact A0v.set 5 _
      have kF : Kp [s] V4 F := by rw [hF]; exact (Kp.refl _ _).setCell (Or.inl (by simp)) _
      have B1 := A1v.kept kF (by simp <;> omega)
      have B2 := A2v.kept kF (by simp <;> omega)
      have END : Hid (∀ W, Kp [s + 1 + 1] F W → Nd (fun z => Q z ∨ w.heap.size ≤ z) W l (k.app (.cons x y .nil)) ((pa, pn, pcap), (some a6, m + 1, c6)) ∧ Kp [] w W) := fun W kW => FIN.out V4 F W a6 c6 o6 k4 hF b6 kW
      clear hF FIN SR o6 b6 A0 A1 A2 A0v A1v A2v HW kF SB b3 s5 f5 kB k0 k1 k2 k3 k4 q1 z1 q2 z2 q3 z3 q4 z4 hg0 hg5 n0 n5 o0_1 e5_3 o3_2 o3_3
      obtain ⟨b00, b01, b02, b03, b04, b05⟩ := B0.six
      obtain ⟨b10, b11, b12, b13, b14, b15⟩ := B1.six
      obtain ⟨b20, b21, b22, b23, b24, b25⟩ := B2.six
      have fr := fun j => B2.free j
      by_cases h4 : x.kind = 4
      · have r4 : ((x.kind : Int) == 4) = true := int_eq_yes h4
        have hl : Hid (iv R = []) := by show iv R = []; rw [hR.out, if_pos (by simp [leafF, h4])]; rfl
        have D : Hid _ := (B2.putZ (.int .i64 l.kind) (.int .i64 l.ns) (.string l.name) (.slice pa pn pcap) (.string l.text) (.slice (some a6) (m + 1) c6)).six
        have E : Hid _ := END.out _ ((Kp.refl [s + 1 + 1] F).putZ (g := s + 1 + 1) (Or.inl (by simp)) (.int .i64 l.kind) (.int .i64 l.ns) (.string l.name) (.slice pa pn pcap) (.string l.text) (.slice (some a6) (m + 1) c6))
        unfold putZ at D E
        clear END h4
        go_wp2
        obtain ⟨d0, d1, d2, d3, d4, d5⟩ := D.out
        obtain ⟨E1, E2⟩ := E.out
        refine bodyPost_ret (v := .tuple #[.agg #[.int .i64 l.kind, .int .i64 l.ns, .string l.name, .slice pa pn pcap, .string l.text, .slice (some a6) (m + 1) c6], .slice none 0 0]) (by simp [results, go_sem, d0, d1, d2, d3, d4, d5]) rfl ⟨((pa, pn, pcap), (some a6, m + 1, c6)), none, 0, 0, rfl, E1, ?_, E2⟩
        rw [hl.out]
        exact Rk.nil _ 1 _ none 0
      · have r4 : ((x.kind : Int) == 4) = false := int_eq_no h4
        by_cases h5 : x.kind = 5
        · have r5 : ((x.kind : Int) == 5) = true := int_eq_yes h5
          have hl : Hid (iv R = []) := by show iv R = []; rw [hR.out, if_pos (by simp [leafF, h5])]; rfl
          have D : Hid _ := (B2.putZ (.int .i64 l.kind) (.int .i64 l.ns) (.string l.name) (.slice pa pn pcap) (.string l.text) (.slice (some a6) (m + 1) c6)).six
          have E : Hid _ := END.out _ ((Kp.refl [s + 1 + 1] F).putZ (g := s + 1 + 1) (Or.inl (by simp)) (.int .i64 l.kind) (.int .i64 l.ns) (.string l.name) (.slice pa pn pcap) (.string l.text) (.slice (some a6) (m + 1) c6))
          unfold putZ at D E
          clear END h5
          go_wp2
          obtain ⟨d0, d1, d2, d3, d4, d5⟩ := D.out
          obtain ⟨E1, E2⟩ := E.out
          refine bodyPost_ret (v := .tuple #[.agg #[.int .i64 l.kind, .int .i64 l.ns, .string l.name, .slice pa pn pcap, .string l.text, .slice (some a6) (m + 1) c6], .slice none 0 0]) (by simp [results, go_sem, d0, d1, d2, d3, d4, d5]) rfl ⟨((pa, pn, pcap), (some a6, m + 1, c6)), none, 0, 0, rfl, E1, ?_, E2⟩
          rw [hl.out]
          exact Rk.nil _ 1 _ none 0
        · have r5 : ((x.kind : Int) == 5) = false := int_eq_no h5
          by_cases h2 : x.kind = 2
          · have r2 : ((x.kind : Int) == 2) = true := int_eq_yes h2
            have hl : Hid (iv R = []) := by show iv R = []; rw [hR.out, if_pos (by simp [leafF, h2])]; rfl
            have D : Hid _ := (B2.putZ (.int .i64 l.kind) (.int .i64 l.ns) (.string l.name) (.slice pa pn pcap) (.string l.text) (.slice (some a6) (m + 1) c6)).six
            have E : Hid _ := END.out _ ((Kp.refl [s + 1 + 1] F).putZ (g := s + 1 + 1) (Or.inl (by simp)) (.int .i64 l.kind) (.int .i64 l.ns) (.string l.name) (.slice pa pn pcap) (.string l.text) (.slice (some a6) (m + 1) c6))
            unfold putZ at D E
            clear END h2
            go_wp2
            obtain ⟨d0, d1, d2, d3, d4, d5⟩ := D.out
            obtain ⟨E1, E2⟩ := E.out
            refine bodyPost_ret (v := .tuple #[.agg #[.int .i64 l.kind, .int .i64 l.ns, .string l.name, .slice pa pn pcap, .string l.text, .slice (some a6) (m + 1) c6], .slice none 0 0]) (by simp [results, go_sem, d0, d1, d2, d3, d4, d5]) rfl ⟨((pa, pn, pcap), (some a6, m + 1, c6)), none, 0, 0, rfl, E1, ?_, E2⟩
            rw [hl.out]
            exact Rk.nil _ 1 _ none 0
          · have r2 : ((x.kind : Int) == 2) = false := int_eq_no h2
            have hl : Hid (iv R = iv [m]) := by show iv R = iv [m]; rw [hR.out, if_neg (by simp [leafF, h4, h5, h2]), KL.out]
            clear h4 h5 h2 KL
            have j1 : IntKind.i64.wrap (m : Int) = m := by rw [IntKind.wrap_i64]; omega
            go_wp2_with fail
            obtain ⟨U0, hU0⟩ : ∃ V, V = F.drew := ⟨_, rfl⟩
            have y0 : Kp [s + 1 + 1] F U0 := by rw [hU0]; exact (Kp.refl _ _).drew
            have R2 : At U0 (s + 1 + 1) _ 25 := B2.kept (show Kp [] F U0 by rw [hU0]; exact (Kp.refl _ _).drew) (by simp)
            refine wp_region_g (S := fun V => At V s #[.int .i64 l.kind, .int .i64 l.ns, .string l.name, .slice pa pn pcap, .string l.text, .slice (some a6) (m + 1) c6] 25) (T := []) (by kernel_rfl) (B0.kept (Kp.refl [] F).drew (by simp)) (fun hHeld => ?_)
            rw [← hU0] at hHeld ⊢
            clear hU0
            refine wpAnyG_take (i := 0) (oi := { dst := some 37, op := Go.Op.load 25 (Go.Operand.tmp 3), type := 25, pos := "law.go:59", after := #[], guard := none }) (v := ?_) rfl (by kernel_rfl) (by kernel_rfl) (by kernel_rfl) (by kernel_rfl) (fun _ _ _ h => h) (Or.inl ⟨by rfl, ?_⟩) (by assumption) ?_
            rotate_left
            · (intro w hSw; (obtain ⟨c0, c1, c2, c3, c4, c5⟩ := At.six hSw); go_simp; try with_reducible rfl)
            simp only [Act.put, List.setIfInBounds_toArray, List.set_cons_zero, List.set_cons_succ]
            refine wpAnyG_pure (i := 1) (oi := { dst := some 38, op := Go.Op.fieldAddr 25 (Go.Operand.tmp 3) 5, type := 0, pos := "law.go:59", after := #[], guard := none }) (v := ?_) rfl (by kernel_rfl) (by kernel_rfl) (by kernel_rfl) (by kernel_rfl) (fun _ _ _ h => h) (Or.inl ⟨by rfl, ?_⟩) (by assumption) ?_
            rotate_left
            · (intro w; go_simp; try with_reducible rfl)
            simp only [Act.put, List.setIfInBounds_toArray, List.set_cons_zero, List.set_cons_succ]
            refine wpAnyG_take (i := 2) (oi := { dst := some 39, op := Go.Op.load 23 (Go.Operand.tmp 38), type := 23, pos := "law.go:59", after := #[{ on := 1, ground := Go.Ground.data }], guard := none }) (v := ?_) rfl (by kernel_rfl) (by kernel_rfl) (by kernel_rfl) (by kernel_rfl) (fun _ _ _ h => h) (Or.inl ⟨by rfl, ?_⟩) (by assumption) ?_
            rotate_left
            · (intro w hSw; (obtain ⟨c0, c1, c2, c3, c4, c5⟩ := At.six hSw); go_simp; try with_reducible rfl)
            simp only [Act.put, List.setIfInBounds_toArray, List.set_cons_zero, List.set_cons_succ]
            refine wpAnyG_pure (i := 3) (oi := { dst := some 40, op := Go.Op.call { callee := Go.Callee.builtin Go.Builtin.len, args := #[Go.Operand.tmp 39], argTypes := #[23] }, type := 3, pos := "law.go:59", after := #[{ on := 2, ground := Go.Ground.data }], guard := none }) (v := ?_) rfl (by kernel_rfl) (by kernel_rfl) (by kernel_rfl) (by kernel_rfl) (fun _ _ _ h => h) (Or.inl ⟨by rfl, ?_⟩) (by assumption) ?_
            rotate_left
            · (intro w; go_simp; try with_reducible rfl)
            simp only [Act.put, List.setIfInBounds_toArray, List.set_cons_zero, List.set_cons_succ]
            refine wpAnyG_pure (i := 4) (oi := { dst := some 41, op := Go.Op.binOp Go.BinOp.sub 3 (Go.Operand.tmp 40) (Go.Operand.const (Go.Value.int Go.IntKind.i64 1)) 3, type := 3, pos := "law.go:59", after := #[{ on := 3, ground := Go.Ground.data }, { on := 6, ground := Go.Ground.gcOnly Go.Departure.lateStores }], guard := none }) (v := ?_) rfl (by kernel_rfl) (by kernel_rfl) (by kernel_rfl) (by kernel_rfl) (fun _ _ _ h => h) (Or.inl ⟨by rfl, ?_⟩) (by assumption) ?_
            rotate_left
            · (intro w; go_simp; try with_reducible rfl)
            simp only [Act.put, List.setIfInBounds_toArray, List.set_cons_zero, List.set_cons_succ]
            refine wpAnyG_ready (rs := [5, 6]) (by kernel_rfl) (by simp) ?_
            refine AllReadyG.cons (o := { dst := some 42, op := Go.Op.buildSlice 45 1 #[(0, Go.Operand.tmp 41)], type := 45, pos := "law.go:59", after := #[{ on := 4, ground := Go.Ground.data }, { on := 6, ground := Go.Ground.gcOnly Go.Departure.lateStores }], guard := none }) rfl (fun K hK => ?_) ?_
            · go_simp
              obtain ⟨U1, hU⟩ : ∃ V, V = World.alloc U0 (.cells #[.int .i64 (m : Int)] 3) := ⟨_, rfl⟩
              rw [← hU]
              have x1 : Kp [] U0 U1 := by rw [hU]; exact (Kp.refl _ _).alloc _
              have y1 : Kp [s + 1 + 1] F U1 := y0.trans x1 (fun z hz => by simp at hz)
              have e7 : At U1 U0.heap.size #[.int .i64 (m : Int)] 3 := by rw [hU]; exact At.new _ _ _
              have n7 := y0.size
              have n8 := B2.lt
              obtain ⟨g7, hg7⟩ : ∃ g7, U0.heap.size = g7 := ⟨_, rfl⟩
              rw [hg7] at e7 ⊢
              clear hU
              refine hK.out _ _ (hHeld.kept x1 (by simp)) (fun hHeld1 => ?_)
              clear hK K hHeld
              try simp only [Act.put, List.setIfInBounds_toArray, List.set_cons_zero, List.set_cons_succ]
              refine wpAnyG_ready (rs := [6]) (by kernel_rfl) (by simp) ?_
              refine AllReadyG.cons (o := { dst := none, op := Go.Op.store 25 (Go.Operand.tmp 6) (Go.Operand.tmp 37), type := 0, pos := "law.go:59", after := #[{ on := 0, ground := Go.Ground.data }, { on := 0, ground := Go.Ground.phase }, { on := 1, ground := Go.Ground.textOnly Go.Departure.lateStores }, { on := 2, ground := Go.Ground.textOnly Go.Departure.lateStores }, { on := 3, ground := Go.Ground.textOnly Go.Departure.lateStoresUnsure }, { on := 4, ground := Go.Ground.textOnly Go.Departure.lateStores }, { on := 5, ground := Go.Ground.textOnly Go.Departure.lateStores }], guard := none }) rfl (fun K hK => ?_) AllReadyG.nil
              have D2 := R2.kept x1 (by simp)
              obtain ⟨d20, d21, d22, d23, d24, d25⟩ := D2.six
              have fr2 := fun j => D2.free j
              go_simp
              obtain ⟨U2, hU⟩ : ∃ V, V = putZ U1 (s + 1 + 1) (.int .i64 l.kind) (.int .i64 l.ns) (.string l.name) (.slice pa pn pcap) (.string l.text) (.slice (some a6) (m + 1) c6) := ⟨_, rfl⟩
              unfold putZ at hU
              rw [← hU]
              have x2 : Kp [s + 1 + 1] U1 U2 := by rw [hU]; exact (Kp.refl _ _).putZ (g := s + 1 + 1) (Or.inl (by simp)) (.int .i64 l.kind) (.int .i64 l.ns) (.string l.name) (.slice pa pn pcap) (.string l.text) (.slice (some a6) (m + 1) c6)
              have y2 : Kp [s + 1 + 1] F U2 := y1.trans x2 (fun z hz => Or.inl hz)
              have C2 : At U2 (s + 1 + 1) #[.int .i64 l.kind, .int .i64 l.ns, .string l.name, .slice pa pn pcap, .string l.text, .slice (some a6) (m + 1) c6] 25 := by rw [hU]; exact D2.putZ (.int .i64 l.kind) (.int .i64 l.ns) (.string l.name) (.slice pa pn pcap) (.string l.text) (.slice (some a6) (m + 1) c6)
              clear hU d20 d21 d22 d23 d24 d25 fr2
              have e7 := e7.kept x2 (by simp; omega)
              refine hK.out _ _ (At.kept hHeld1 x2 (by simp <;> omega)) (fun hHeld2 => ?_)
              clear hK K hHeld1
              try simp only [Act.put, List.setIfInBounds_toArray, List.set_cons_zero, List.set_cons_succ]
              refine wpAnyG_pure (i := 7) (oi := { dst := some 7, op := Go.Op.assign (Go.Operand.tmp 42), type := 45, pos := "law.go:59", after := #[{ on := 5, ground := Go.Ground.data }, { on := 6, ground := Go.Ground.chain }, { on := 0, ground := Go.Ground.phase }, { on := 1, ground := Go.Ground.phase }, { on := 2, ground := Go.Ground.phase }, { on := 3, ground := Go.Ground.phase }, { on := 4, ground := Go.Ground.phase }, { on := 5, ground := Go.Ground.phase }, { on := 6, ground := Go.Ground.phase }], guard := none }) (v := ?_) rfl (by kernel_rfl) (by kernel_rfl) (by kernel_rfl) (by kernel_rfl) (fun _ _ _ h => h) (Or.inl ⟨by rfl, ?_⟩) (by assumption) ?_
              rotate_left
              · (intro w; go_simp; try with_reducible rfl)
              simp only [Act.put, List.setIfInBounds_toArray, List.set_cons_zero, List.set_cons_succ]
              refine wpAnyG_free (by kernel_rfl) ?_
              refine wpAny_done (by kernel_rfl) ?_ _
              obtain ⟨d0, d1, d2, d3, d4, d5⟩ := C2.six
              have e70 := e7.cell 0
              obtain ⟨E1, E2⟩ := END.out _ y2
              clear END
              go_wp2
              refine bodyPost_ret (v := .tuple #[.agg #[.int .i64 l.kind, .int .i64 l.ns, .string l.name, .slice pa pn pcap, .string l.text, .slice (some a6) (m + 1) c6], .slice (some ⟨g7, 0, none⟩) 1 1]) (by simp [results, go_sem, d0, d1, d2, d3, d4, d5]) rfl ⟨((pa, pn, pcap), (some a6, m + 1, c6)), _, _, _, rfl, E1, ?_, E2⟩
              rw [hl.out]
              refine ⟨rfl, Nat.le_refl _, fun _ => ⟨g7, 0, _, _, (by omega), rfl, e7, fun j hj => ?_⟩⟩
              obtain rfl : j = 0 := by omega
              rfl
            refine AllReadyG.cons (o := { dst := none, op := Go.Op.store 25 (Go.Operand.tmp 6) (Go.Operand.tmp 37), type := 0, pos := "law.go:59", after := #[{ on := 0, ground := Go.Ground.data }, { on := 0, ground := Go.Ground.phase }, { on := 1, ground := Go.Ground.textOnly Go.Departure.lateStores }, { on := 2, ground := Go.Ground.textOnly Go.Departure.lateStores }, { on := 3, ground := Go.Ground.textOnly Go.Departure.lateStoresUnsure }, { on := 4, ground := Go.Ground.textOnly Go.Departure.lateStores }, { on := 5, ground := Go.Ground.textOnly Go.Departure.lateStores }], guard := none }) rfl (fun K hK => ?_) AllReadyG.nil
            have D2 := R2
            obtain ⟨d20, d21, d22, d23, d24, d25⟩ := D2.six
            have fr2 := fun j => D2.free j
            go_simp
            obtain ⟨U1, hU⟩ : ∃ V, V = putZ U0 (s + 1 + 1) (.int .i64 l.kind) (.int .i64 l.ns) (.string l.name) (.slice pa pn pcap) (.string l.text) (.slice (some a6) (m + 1) c6) := ⟨_, rfl⟩
            unfold putZ at hU
            rw [← hU]
            have x1 : Kp [s + 1 + 1] U0 U1 := by rw [hU]; exact (Kp.refl _ _).putZ (g := s + 1 + 1) (Or.inl (by simp)) (.int .i64 l.kind) (.int .i64 l.ns) (.string l.name) (.slice pa pn pcap) (.string l.text) (.slice (some a6) (m + 1) c6)
            have y1 : Kp [s + 1 + 1] F U1 := y0.trans x1 (fun z hz => Or.inl hz)
            have C2 : At U1 (s + 1 + 1) #[.int .i64 l.kind, .int .i64 l.ns, .string l.name, .slice pa pn pcap, .string l.text, .slice (some a6) (m + 1) c6] 25 := by rw [hU]; exact D2.putZ (.int .i64 l.kind) (.int .i64 l.ns) (.string l.name) (.slice pa pn pcap) (.string l.text) (.slice (some a6) (m + 1) c6)
            clear hU d20 d21 d22 d23 d24 d25 fr2
            refine hK.out _ _ (At.kept hHeld x1 (by simp <;> omega)) (fun hHeld1 => ?_)
            clear hK K hHeld
            try simp only [Act.put, List.setIfInBounds_toArray, List.set_cons_zero, List.set_cons_succ]
            refine wpAnyG_ready (rs := [5]) (by kernel_rfl) (by simp) ?_
            refine AllReadyG.cons (o := { dst := some 42, op := Go.Op.buildSlice 45 1 #[(0, Go.Operand.tmp 41)], type := 45, pos := "law.go:59", after := #[{ on := 4, ground := Go.Ground.data }, { on := 6, ground := Go.Ground.gcOnly Go.Departure.lateStores }], guard := none }) rfl (fun K hK => ?_) AllReadyG.nil
            go_simp
            obtain ⟨U2, hU⟩ : ∃ V, V = World.alloc U1 (.cells #[.int .i64 (m : Int)] 3) := ⟨_, rfl⟩
            rw [← hU]
            have x2 : Kp [] U1 U2 := by rw [hU]; exact (Kp.refl _ _).alloc _
            have y2 : Kp [s + 1 + 1] F U2 := y1.trans x2 (fun z hz => by simp at hz)
            have e7 : At U2 U1.heap.size #[.int .i64 (m : Int)] 3 := by rw [hU]; exact At.new _ _ _
            have n7 := y1.size
            have n8 := B2.lt
            obtain ⟨g7, hg7⟩ : ∃ g7, U1.heap.size = g7 := ⟨_, rfl⟩
            rw [hg7] at e7 ⊢
            clear hU
            have C2 := C2.kept x2 (by simp)
            refine hK.out _ _ (hHeld1.kept x2 (by simp)) (fun hHeld2 => ?_)
            clear hK K hHeld1
            try simp only [Act.put, List.setIfInBounds_toArray, List.set_cons_zero, List.set_cons_succ]
            refine wpAnyG_pure (i := 7) (oi := { dst := some 7, op := Go.Op.assign (Go.Operand.tmp 42), type := 45, pos := "law.go:59", after := #[{ on := 5, ground := Go.Ground.data }, { on := 6, ground := Go.Ground.chain }, { on := 0, ground := Go.Ground.phase }, { on := 1, ground := Go.Ground.phase }, { on := 2, ground := Go.Ground.phase }, { on := 3, ground := Go.Ground.phase }, { on := 4, ground := Go.Ground.phase }, { on := 5, ground := Go.Ground.phase }, { on := 6, ground := Go.Ground.phase }], guard := none }) (v := ?_) rfl (by kernel_rfl) (by kernel_rfl) (by kernel_rfl) (by kernel_rfl) (fun _ _ _ h => h) (Or.inl ⟨by rfl, ?_⟩) (by assumption) ?_
            rotate_left
            · (intro w; go_simp; try with_reducible rfl)
            simp only [Act.put, List.setIfInBounds_toArray, List.set_cons_zero, List.set_cons_succ]
            refine wpAnyG_free (by kernel_rfl) ?_
            refine wpAny_done (by kernel_rfl) ?_ _
            obtain ⟨d0, d1, d2, d3, d4, d5⟩ := C2.six
            have e70 := e7.cell 0
            obtain ⟨E1, E2⟩ := END.out _ y2
            clear END
            go_wp2
            refine bodyPost_ret (v := .tuple #[.agg #[.int .i64 l.kind, .int .i64 l.ns, .string l.name, .slice pa pn pcap, .string l.text, .slice (some a6) (m + 1) c6], .slice (some ⟨g7, 0, none⟩) 1 1]) (by simp [results, go_sem, d0, d1, d2, d3, d4, d5]) rfl ⟨((pa, pn, pcap), (some a6, m + 1, c6)), _, _, _, rfl, E1, ?_, E2⟩
            rw [hl.out]
            refine ⟨rfl, Nat.le_refl _, fun _ => ⟨g7, 0, _, _, (by omega), rfl, e7, fun j hj => ?_⟩⟩
            obtain rfl : j = 0 := by omega
            rfl
    refine AllReadyG.cons (o := { dst := some 20, op := Go.Op.buildSlice 23 1 #[(0, Go.Operand.tmp 19)], type := 23, pos := "law.go:55", after := #[{ on := 4, ground := Go.Ground.data }], guard := none }) rfl (fun K hK => ?_) AllReadyG.nil
    go_simp
    obtain ⟨V2, hV2⟩ : ∃ V, V = World.alloc V1 (.cells #[.int .i64 x.kind, .int .i64 x.ns, .string x.name, .slice q.1.1 q.1.2.1 q.1.2.2, .string x.text, .slice q.2.1 q.2.2.1 q.2.2.2] 25) := ⟨_, rfl⟩
    rw [← hV2]
    have q2 : Kp [] V1 V2 := by rw [hV2]; exact (Kp.refl _ _).alloc _
    have z2 : V1.heap.size + 1 ≤ V2.heap.size := by rw [hV2]; simp
    have k2 : Kp [] B V2 := k1.trans q2 (fun z hz => by simp at hz)
    have o0_2 := o0_1.keep q2 (fun z hz => by simp)
    have e5_2 : At V2 V1.heap.size #[.int .i64 x.kind, .int .i64 x.ns, .string x.name, .slice q.1.1 q.1.2.1 q.1.2.2, .string x.text, .slice q.2.1 q.2.2.1 q.2.2.2] 25 := by rw [hV2]; exact At.new _ _ _
    have n5 := k1.size
    obtain ⟨g5, hg5⟩ : ∃ g5, V1.heap.size = g5 := ⟨_, rfl⟩
    rw [hg5] at e5_2 ⊢
    clear hV2
    refine hK.out _ _ ⟨hHeld1.1.kept q2 (by simp), hHeld1.2.kept q2 (by simp)⟩ (fun hHeld2 => ?_)
    clear hK K hHeld1
    try simp only [Act.put, List.setIfInBounds_toArray, List.set_cons_zero, List.set_cons_succ]
    refine wpAnyG_ready (rs := [3]) (by kernel_rfl) (by simp) ?_
    refine AllReadyG.cons (o := { dst := some 18, op := Go.Op.call { callee := Go.Callee.builtin Go.Builtin.append, args := #[Go.Operand.tmp 15, Go.Operand.tmp 17], argTypes := #[23, 23] }, type := 23, pos := "law.go:55", after := #[{ on := 0, ground := Go.Ground.data }, { on := 2, ground := Go.Ground.data }], guard := none }) rfl (fun K hK => ?_) AllReadyG.nil
    refine step_appK (by rfl) _ _ 23 (by rfl) Try.underlying23 info25t rfl (by decide) _ _ (by rfl) (by rfl) 0 [] o0_2 m zs (SR.out _ k2) (fun h => by cases h) (by omega) (fun v3 V3 o3_3 q3 b3 hv3 => ?_)
    have z3 := q3.size
    have k3 : Kp [] B V3 := k2.trans q3 (fun z hz => Or.inr (by simp [blk] at hz; omega))
    have e5_3 := e5_2.kept q3 (by simp [blk]; omega)
    have b3 : ∀ z, z ∈ blk v3 → B.heap.size ≤ z ∧ (z = g0 ∨ z = V2.heap.size) := fun z hz => by
      have := k2.size
      rcases b3 z hz with h1 | h1
      · simp [blk] at h1; omega
      · omega
    rw [Nat.zero_add, List.nil_append] at o3_3
    clear hv3
    refine hK.out _ _ ⟨hHeld2.1.kept q3 (by have := SB.out; simp [blk]; omega), hHeld2.2.kept q3 (by have := SB.out; simp [blk]; omega)⟩ (fun hHeld3 => ?_)
    clear hK K hHeld2
    try simp only [Act.put, List.setIfInBounds_toArray, List.set_cons_zero, List.set_cons_succ]
    refine wpAnyG_ready (rs := [6]) (by kernel_rfl) (by simp) ?_
    refine AllReadyG.cons (o := { dst := some 21, op := Go.Op.call { callee := Go.Callee.builtin Go.Builtin.append, args := #[Go.Operand.tmp 18, Go.Operand.tmp 20], argTypes := #[23, 23] }, type := 23, pos := "law.go:55", after := #[{ on := 3, ground := Go.Ground.data }, { on := 5, ground := Go.Ground.data }, { on := 3, ground := Go.Ground.chain }], guard := none }) rfl (fun K hK => ?_) AllReadyG.nil
    refine step_appK (by rfl) _ _ 23 (by rfl) Try.underlying23 info25t rfl (by decide) _ _ (by rfl) (by rfl) m zs o3_3 1 _ (src_new Try.underlying23 e5_3 (six x q) rfl (six_one x q)) (fun h => by omega) (by omega) (fun v6 V4 o6 q4 b6 hv6 => ?_)
    have z4 := q4.size
    have k4 : Kp [] B V4 := k3.trans q4 (fun z hz => Or.inr (b3 z hz).1)
    have b6 : ∀ z, z ∈ blk v6 → s + 3 ≤ z := fun z hz => by
      have := SB.out
      have := k3.size
      rcases b6 z hz with h1 | h1
      · have := (b3 z h1).1; omega
      · omega
    obtain ⟨a6, c6, rfl⟩ := hv6
    refine hK.out _ _ ⟨hHeld3.1.kept q4 (fun hz => by have := (b3 _ hz).1; have := SB.out; omega), hHeld3.2.kept q4 (fun hz => by have := (b3 _ hz).1; have := SB.out; omega)⟩ (fun hHeld4 => ?_)
    clear hK K hHeld3
    try simp only [Act.put, List.setIfInBounds_toArray, List.set_cons_zero, List.set_cons_succ]
    refine wpAnyG_free (by kernel_rfl) ?_
    refine wpAny_take (i := 7) (oi := { dst := some 22, op := Go.Op.fieldAddr 25 (Go.Operand.tmp 3) 5, type := 0, pos := "law.go:55", after := #[{ on := 0, ground := Go.Ground.phase }, { on := 1, ground := Go.Ground.phase }, { on := 2, ground := Go.Ground.phase }, { on := 3, ground := Go.Ground.phase }, { on := 4, ground := Go.Ground.phase }, { on := 5, ground := Go.Ground.phase }, { on := 6, ground := Go.Ground.phase }], guard := none }) (v := ?_) rfl (by kernel_rfl) (by kernel_rfl) (by kernel_rfl) (fun _ _ _ h => h) (Or.inl ⟨by rfl, ?_⟩) ?_
    rotate_left
    · (intro w; go_simp; try with_reducible rfl)
    simp only [Act.put, List.setIfInBounds_toArray, List.set_cons_zero, List.set_cons_succ]
    refine wpAny_ready (rs := [8]) (by kernel_rfl) (by simp) ?_
    refine AllReady.cons (o := { dst := none, op := Go.Op.store 23 (Go.Operand.tmp 22) (Go.Operand.tmp 21), type := 0, pos := "law.go:55", after := #[{ on := 7, ground := Go.Ground.data }, { on := 6, ground := Go.Ground.data }, { on := 6, ground := Go.Ground.chain }, { on := 0, ground := Go.Ground.phase }, { on := 1, ground := Go.Ground.phase }, { on := 2, ground := Go.Ground.phase }, { on := 3, ground := Go.Ground.phase }, { on := 4, ground := Go.Ground.phase }, { on := 5, ground := Go.Ground.phase }, { on := 6, ground := Go.Ground.phase }], guard := none }) rfl (fun K hK => ?_) AllReady.nil
    have A0v := A0.kept k4 (by simp)
    have A1v := A1.kept k4 (by simp)
    have A2v := A2.kept k4 (by simp)
    have s5 := A0v.cell 5
    have f5 := A0v.free 5
    simp only [List.getElem?_toArray, List.getElem?_cons_succ, List.getElem?_cons_zero] at s5
    go_simp
    refine hK _ _ ?_
    clear hK K
    try simp only [Act.put, List.setIfInBounds_toArray, List.set_cons_zero, List.set_cons_succ]
    refine wpAny_done (by kernel_rfl) ?_ _
    obtain ⟨F, hF⟩ : ∃ F, F = World.setCell V4 ⟨s, 5, none⟩ (.slice (some a6) (m + 1) c6) := ⟨_, rfl⟩
    rw [← hF]
    have B0 : At F s #[.int .i64 l.kind, .int .i64 l.ns, .string l.name, .slice pa pn pcap, .string l.text, .slice (some a6) (m + 1) c6] 25 := by rw [hF]; exact A0v.set 5 _
    have kF : Kp [s] V4 F := by rw [hF]; exact (Kp.refl _ _).setCell (Or.inl (by simp)) _
    have B1 := A1v.kept kF (by simp <;> omega)
    have B2 := A2v.kept kF (by simp <;> omega)
    have END : Hid (∀ W, Kp [s + 1 + 1] F W → Nd (fun z => Q z ∨ w.heap.size ≤ z) W l (k.app (.cons x y .nil)) ((pa, pn, pcap), (some a6, m + 1, c6)) ∧ Kp [] w W) := fun W kW => FIN.out V4 F W a6 c6 o6 k4 hF b6 kW
    clear hF FIN SR o6 b6 A0 A1 A2 A0v A1v A2v HW kF SB b3 s5 f5 kB k0 k1 k2 k3 k4 q1 z1 q2 z2 q3 z3 q4 z4 hg0 hg5 n0 n5 o0_1 o0_2 e5_2 e5_3 o3_3
    obtain ⟨b00, b01, b02, b03, b04, b05⟩ := B0.six
    obtain ⟨b10, b11, b12, b13, b14, b15⟩ := B1.six
    obtain ⟨b20, b21, b22, b23, b24, b25⟩ := B2.six
    have fr := fun j => B2.free j
    by_cases h4 : x.kind = 4
    · have r4 : ((x.kind : Int) == 4) = true := int_eq_yes h4
      have hl : Hid (iv R = []) := by show iv R = []; rw [hR.out, if_pos (by simp [leafF, h4])]; rfl
      have D : Hid _ := (B2.putZ (.int .i64 l.kind) (.int .i64 l.ns) (.string l.name) (.slice pa pn pcap) (.string l.text) (.slice (some a6) (m + 1) c6)).six
      have E : Hid _ := END.out _ ((Kp.refl [s + 1 + 1] F).putZ (g := s + 1 + 1) (Or.inl (by simp)) (.int .i64 l.kind) (.int .i64 l.ns) (.string l.name) (.slice pa pn pcap) (.string l.text) (.slice (some a6) (m + 1) c6))
      unfold putZ at D E
      clear END h4
      go_wp2
      obtain ⟨d0, d1, d2, d3, d4, d5⟩ := D.out
      obtain ⟨E1, E2⟩ := E.out
      refine bodyPost_ret (v := .tuple #[.agg #[.int .i64 l.kind, .int .i64 l.ns, .string l.name, .slice pa pn pcap, .string l.text, .slice (some a6) (m + 1) c6], .slice none 0 0]) (by simp [results, go_sem, d0, d1, d2, d3, d4, d5]) rfl ⟨((pa, pn, pcap), (some a6, m + 1, c6)), none, 0, 0, rfl, E1, ?_, E2⟩
      rw [hl.out]
      exact Rk.nil _ 1 _ none 0
    · have r4 : ((x.kind : Int) == 4) = false := int_eq_no h4
      by_cases h5 : x.kind = 5
      · have r5 : ((x.kind : Int) == 5) = true := int_eq_yes h5
        have hl : Hid (iv R = []) := by show iv R = []; rw [hR.out, if_pos (by simp [leafF, h5])]; rfl
        have D : Hid _ := (B2.putZ (.int .i64 l.kind) (.int .i64 l.ns) (.string l.name) (.slice pa pn pcap) (.string l.text) (.slice (some a6) (m + 1) c6)).six
        have E : Hid _ := END.out _ ((Kp.refl [s + 1 + 1] F).putZ (g := s + 1 + 1) (Or.inl (by simp)) (.int .i64 l.kind) (.int .i64 l.ns) (.string l.name) (.slice pa pn pcap) (.string l.text) (.slice (some a6) (m + 1) c6))
        unfold putZ at D E
        clear END h5
        go_wp2
        obtain ⟨d0, d1, d2, d3, d4, d5⟩ := D.out
        obtain ⟨E1, E2⟩ := E.out
        refine bodyPost_ret (v := .tuple #[.agg #[.int .i64 l.kind, .int .i64 l.ns, .string l.name, .slice pa pn pcap, .string l.text, .slice (some a6) (m + 1) c6], .slice none 0 0]) (by simp [results, go_sem, d0, d1, d2, d3, d4, d5]) rfl ⟨((pa, pn, pcap), (some a6, m + 1, c6)), none, 0, 0, rfl, E1, ?_, E2⟩
        rw [hl.out]
        exact Rk.nil _ 1 _ none 0
      · have r5 : ((x.kind : Int) == 5) = false := int_eq_no h5
        by_cases h2 : x.kind = 2
        · have r2 : ((x.kind : Int) == 2) = true := int_eq_yes h2
          have hl : Hid (iv R = []) := by show iv R = []; rw [hR.out, if_pos (by simp [leafF, h2])]; rfl
          have D : Hid _ := (B2.putZ (.int .i64 l.kind) (.int .i64 l.ns) (.string l.name) (.slice pa pn pcap) (.string l.text) (.slice (some a6) (m + 1) c6)).six
          have E : Hid _ := END.out _ ((Kp.refl [s + 1 + 1] F).putZ (g := s + 1 + 1) (Or.inl (by simp)) (.int .i64 l.kind) (.int .i64 l.ns) (.string l.name) (.slice pa pn pcap) (.string l.text) (.slice (some a6) (m + 1) c6))
          unfold putZ at D E
          clear END h2
          go_wp2
          obtain ⟨d0, d1, d2, d3, d4, d5⟩ := D.out
          obtain ⟨E1, E2⟩ := E.out
          refine bodyPost_ret (v := .tuple #[.agg #[.int .i64 l.kind, .int .i64 l.ns, .string l.name, .slice pa pn pcap, .string l.text, .slice (some a6) (m + 1) c6], .slice none 0 0]) (by simp [results, go_sem, d0, d1, d2, d3, d4, d5]) rfl ⟨((pa, pn, pcap), (some a6, m + 1, c6)), none, 0, 0, rfl, E1, ?_, E2⟩
          rw [hl.out]
          exact Rk.nil _ 1 _ none 0
        · have r2 : ((x.kind : Int) == 2) = false := int_eq_no h2
          have hl : Hid (iv R = iv [m]) := by show iv R = iv [m]; rw [hR.out, if_neg (by simp [leafF, h4, h5, h2]), KL.out]
          clear h4 h5 h2 KL
          have j1 : IntKind.i64.wrap (m : Int) = m := by rw [IntKind.wrap_i64]; omega
          go_wp2_with fail
          obtain ⟨U0, hU0⟩ : ∃ V, V = F.drew := ⟨_, rfl⟩
          have y0 : Kp [s + 1 + 1] F U0 := by rw [hU0]; exact (Kp.refl _ _).drew
          have R2 : At U0 (s + 1 + 1) _ 25 := B2.kept (show Kp [] F U0 by rw [hU0]; exact (Kp.refl _ _).drew) (by simp)
          refine wp_region_g (S := fun V => At V s #[.int .i64 l.kind, .int .i64 l.ns, .string l.name, .slice pa pn pcap, .string l.text, .slice (some a6) (m + 1) c6] 25) (T := []) (by kernel_rfl) (B0.kept (Kp.refl [] F).drew (by simp)) (fun hHeld => ?_)
          rw [← hU0] at hHeld ⊢
          clear hU0
          refine wpAnyG_take (i := 0) (oi := { dst := some 37, op := Go.Op.load 25 (Go.Operand.tmp 3), type := 25, pos := "law.go:59", after := #[], guard := none }) (v := ?_) rfl (by kernel_rfl) (by kernel_rfl) (by kernel_rfl) (by kernel_rfl) (fun _ _ _ h => h) (Or.inl ⟨by rfl, ?_⟩) (by assumption) ?_
          rotate_left
          · (intro w hSw; (obtain ⟨c0, c1, c2, c3, c4, c5⟩ := At.six hSw); go_simp; try with_reducible rfl)
          simp only [Act.put, List.setIfInBounds_toArray, List.set_cons_zero, List.set_cons_succ]
          refine wpAnyG_pure (i := 1) (oi := { dst := some 38, op := Go.Op.fieldAddr 25 (Go.Operand.tmp 3) 5, type := 0, pos := "law.go:59", after := #[], guard := none }) (v := ?_) rfl (by kernel_rfl) (by kernel_rfl) (by kernel_rfl) (by kernel_rfl) (fun _ _ _ h => h) (Or.inl ⟨by rfl, ?_⟩) (by assumption) ?_
          rotate_left
          · (intro w; go_simp; try with_reducible rfl)
          simp only [Act.put, List.setIfInBounds_toArray, List.set_cons_zero, List.set_cons_succ]
          refine wpAnyG_take (i := 2) (oi := { dst := some 39, op := Go.Op.load 23 (Go.Operand.tmp 38), type := 23, pos := "law.go:59", after := #[{ on := 1, ground := Go.Ground.data }], guard := none }) (v := ?_) rfl (by kernel_rfl) (by kernel_rfl) (by kernel_rfl) (by kernel_rfl) (fun _ _ _ h => h) (Or.inl ⟨by rfl, ?_⟩) (by assumption) ?_
          rotate_left
          · (intro w hSw; (obtain ⟨c0, c1, c2, c3, c4, c5⟩ := At.six hSw); go_simp; try with_reducible rfl)
          simp only [Act.put, List.setIfInBounds_toArray, List.set_cons_zero, List.set_cons_succ]
          refine wpAnyG_pure (i := 3) (oi := { dst := some 40, op := Go.Op.call { callee := Go.Callee.builtin Go.Builtin.len, args := #[Go.Operand.tmp 39], argTypes := #[23] }, type := 3, pos := "law.go:59", after := #[{ on := 2, ground := Go.Ground.data }], guard := none }) (v := ?_) rfl (by kernel_rfl) (by kernel_rfl) (by kernel_rfl) (by kernel_rfl) (fun _ _ _ h => h) (Or.inl ⟨by rfl, ?_⟩) (by assumption) ?_
          rotate_left
          · (intro w; go_simp; try with_reducible rfl)
          simp only [Act.put, List.setIfInBounds_toArray, List.set_cons_zero, List.set_cons_succ]
          refine wpAnyG_pure (i := 4) (oi := { dst := some 41, op := Go.Op.binOp Go.BinOp.sub 3 (Go.Operand.tmp 40) (Go.Operand.const (Go.Value.int Go.IntKind.i64 1)) 3, type := 3, pos := "law.go:59", after := #[{ on := 3, ground := Go.Ground.data }, { on := 6, ground := Go.Ground.gcOnly Go.Departure.lateStores }], guard := none }) (v := ?_) rfl (by kernel_rfl) (by kernel_rfl) (by kernel_rfl) (by kernel_rfl) (fun _ _ _ h => h) (Or.inl ⟨by rfl, ?_⟩) (by assumption) ?_
          rotate_left
          · (intro w; go_simp; try with_reducible rfl)
          simp only [Act.put, List.setIfInBounds_toArray, List.set_cons_zero, List.set_cons_succ]
          refine wpAnyG_ready (rs := [5, 6]) (by kernel_rfl) (by simp) ?_
          refine AllReadyG.cons (o := { dst := some 42, op := Go.Op.buildSlice 45 1 #[(0, Go.Operand.tmp 41)], type := 45, pos := "law.go:59", after := #[{ on := 4, ground := Go.Ground.data }, { on := 6, ground := Go.Ground.gcOnly Go.Departure.lateStores }], guard := none }) rfl (fun K hK => ?_) ?_
          · go_simp
            obtain ⟨U1, hU⟩ : ∃ V, V = World.alloc U0 (.cells #[.int .i64 (m : Int)] 3) := ⟨_, rfl⟩
            rw [← hU]
            have x1 : Kp [] U0 U1 := by rw [hU]; exact (Kp.refl _ _).alloc _
            have y1 : Kp [s + 1 + 1] F U1 := y0.trans x1 (fun z hz => by simp at hz)
            have e7 : At U1 U0.heap.size #[.int .i64 (m : Int)] 3 := by rw [hU]; exact At.new _ _ _
            have n7 := y0.size
            have n8 := B2.lt
            obtain ⟨g7, hg7⟩ : ∃ g7, U0.heap.size = g7 := ⟨_, rfl⟩
            rw [hg7] at e7 ⊢
            clear hU
            refine hK.out _ _ (hHeld.kept x1 (by simp)) (fun hHeld1 => ?_)
            clear hK K hHeld
            try simp only [Act.put, List.setIfInBounds_toArray, List.set_cons_zero, List.set_cons_succ]
            refine wpAnyG_ready (rs := [6]) (by kernel_rfl) (by simp) ?_
            refine AllReadyG.cons (o := { dst := none, op := Go.Op.store 25 (Go.Operand.tmp 6) (Go.Operand.tmp 37), type := 0, pos := "law.go:59", after := #[{ on := 0, ground := Go.Ground.data }, { on := 0, ground := Go.Ground.phase }, { on := 1, ground := Go.Ground.textOnly Go.Departure.lateStores }, { on := 2, ground := Go.Ground.textOnly Go.Departure.lateStores }, { on := 3, ground := Go.Ground.textOnly Go.Departure.lateStoresUnsure }, { on := 4, ground := Go.Ground.textOnly Go.Departure.lateStores }, { on := 5, ground := Go.Ground.textOnly Go.Departure.lateStores }], guard := none }) rfl (fun K hK => ?_) AllReadyG.nil
            have D2 := R2.kept x1 (by simp)
            obtain ⟨d20, d21, d22, d23, d24, d25⟩ := D2.six
            have fr2 := fun j => D2.free j
            go_simp
            obtain ⟨U2, hU⟩ : ∃ V, V = putZ U1 (s + 1 + 1) (.int .i64 l.kind) (.int .i64 l.ns) (.string l.name) (.slice pa pn pcap) (.string l.text) (.slice (some a6) (m + 1) c6) := ⟨_, rfl⟩
            unfold putZ at hU
            rw [← hU]
            have x2 : Kp [s + 1 + 1] U1 U2 := by rw [hU]; exact (Kp.refl _ _).putZ (g := s + 1 + 1) (Or.inl (by simp)) (.int .i64 l.kind) (.int .i64 l.ns) (.string l.name) (.slice pa pn pcap) (.string l.text) (.slice (some a6) (m + 1) c6)
            have y2 : Kp [s + 1 + 1] F U2 := y1.trans x2 (fun z hz => Or.inl hz)
            have C2 : At U2 (s + 1 + 1) #[.int .i64 l.kind, .int .i64 l.ns, .string l.name, .slice pa pn pcap, .string l.text, .slice (some a6) (m + 1) c6] 25 := by rw [hU]; exact D2.putZ (.int .i64 l.kind) (.int .i64 l.ns) (.string l.name) (.slice pa pn pcap) (.string l.text) (.slice (some a6) (m + 1) c6)
            clear hU d20 d21 d22 d23 d24 d25 fr2
            have e7 := e7.kept x2 (by simp; omega)
            refine hK.out _ _ (At.kept hHeld1 x2 (by simp <;> omega)) (fun hHeld2 => ?_)
            clear hK K hHeld1
            try simp only [Act.put, List.setIfInBounds_toArray, List.set_cons_zero, List.set_cons_succ]
            refine wpAnyG_pure (i := 7) (oi := { dst := some 7, op := Go.Op.assign (Go.Operand.tmp 42), type := 45, pos := "law.go:59", after := #[{ on := 5, ground := Go.Ground.data }, { on := 6, ground := Go.Ground.chain }, { on := 0, ground := Go.Ground.phase }, { on := 1, ground := Go.Ground.phase }, { on := 2, ground := Go.Ground.phase }, { on := 3, ground := Go.Ground.phase }, { on := 4, ground := Go.Ground.phase }, { on := 5, ground := Go.Ground.phase }, { on := 6, ground := Go.Ground.phase }], guard := none }) (v := ?_) rfl (by kernel_rfl) (by kernel_rfl) (by kernel_rfl) (by kernel_rfl) (fun _ _ _ h => h) (Or.inl ⟨by rfl, ?_⟩) (by assumption) ?_
            rotate_left
            · (intro w; go_simp; try with_reducible rfl)
            simp only [Act.put, List.setIfInBounds_toArray, List.set_cons_zero, List.set_cons_succ]
            refine wpAnyG_free (by kernel_rfl) ?_
            refine wpAny_done (by kernel_rfl) ?_ _
            obtain ⟨d0, d1, d2, d3, d4, d5⟩ := C2.six
            have e70 := e7.cell 0
            obtain ⟨E1, E2⟩ := END.out _ y2
            clear END
            go_wp2
            refine bodyPost_ret (v := .tuple #[.agg #[.int .i64 l.kind, .int .i64 l.ns, .string l.name, .slice pa pn pcap, .string l.text, .slice (some a6) (m + 1) c6], .slice (some ⟨g7, 0, none⟩) 1 1]) (by simp [results, go_sem, d0, d1, d2, d3, d4, d5]) rfl ⟨((pa, pn, pcap), (some a6, m + 1, c6)), _, _, _, rfl, E1, ?_, E2⟩
            rw [hl.out]
            refine ⟨rfl, Nat.le_refl _, fun _ => ⟨g7, 0, _, _, (by omega), rfl, e7, fun j hj => ?_⟩⟩
            obtain rfl : j = 0 := by omega
            rfl
          refine AllReadyG.cons (o := { dst := none, op := Go.Op.store 25 (Go.Operand.tmp 6) (Go.Operand.tmp 37), type := 0, pos := "law.go:59", after := #[{ on := 0, ground := Go.Ground.data }, { on := 0, ground := Go.Ground.phase }, { on := 1, ground := Go.Ground.textOnly Go.Departure.lateStores }, { on := 2, ground := Go.Ground.textOnly Go.Departure.lateStores }, { on := 3, ground := Go.Ground.textOnly Go.Departure.lateStoresUnsure }, { on := 4, ground := Go.Ground.textOnly Go.Departure.lateStores }, { on := 5, ground := Go.Ground.textOnly Go.Departure.lateStores }], guard := none }) rfl (fun K hK => ?_) AllReadyG.nil
          have D2 := R2
          obtain ⟨d20, d21, d22, d23, d24, d25⟩ := D2.six
          have fr2 := fun j => D2.free j
          go_simp
          obtain ⟨U1, hU⟩ : ∃ V, V = putZ U0 (s + 1 + 1) (.int .i64 l.kind) (.int .i64 l.ns) (.string l.name) (.slice pa pn pcap) (.string l.text) (.slice (some a6) (m + 1) c6) := ⟨_, rfl⟩
          unfold putZ at hU
          rw [← hU]
          have x1 : Kp [s + 1 + 1] U0 U1 := by rw [hU]; exact (Kp.refl _ _).putZ (g := s + 1 + 1) (Or.inl (by simp)) (.int .i64 l.kind) (.int .i64 l.ns) (.string l.name) (.slice pa pn pcap) (.string l.text) (.slice (some a6) (m + 1) c6)
          have y1 : Kp [s + 1 + 1] F U1 := y0.trans x1 (fun z hz => Or.inl hz)
          have C2 : At U1 (s + 1 + 1) #[.int .i64 l.kind, .int .i64 l.ns, .string l.name, .slice pa pn pcap, .string l.text, .slice (some a6) (m + 1) c6] 25 := by rw [hU]; exact D2.putZ (.int .i64 l.kind) (.int .i64 l.ns) (.string l.name) (.slice pa pn pcap) (.string l.text) (.slice (some a6) (m + 1) c6)
          clear hU d20 d21 d22 d23 d24 d25 fr2
          refine hK.out _ _ (At.kept hHeld x1 (by simp <;> omega)) (fun hHeld1 => ?_)
          clear hK K hHeld
          try simp only [Act.put, List.setIfInBounds_toArray, List.set_cons_zero, List.set_cons_succ]
          refine wpAnyG_ready (rs := [5]) (by kernel_rfl) (by simp) ?_
          refine AllReadyG.cons (o := { dst := some 42, op := Go.Op.buildSlice 45 1 #[(0, Go.Operand.tmp 41)], type := 45, pos := "law.go:59", after := #[{ on := 4, ground := Go.Ground.data }, { on := 6, ground := Go.Ground.gcOnly Go.Departure.lateStores }], guard := none }) rfl (fun K hK => ?_) AllReadyG.nil
          go_simp
          obtain ⟨U2, hU⟩ : ∃ V, V = World.alloc U1 (.cells #[.int .i64 (m : Int)] 3) := ⟨_, rfl⟩
          rw [← hU]
          have x2 : Kp [] U1 U2 := by rw [hU]; exact (Kp.refl _ _).alloc _
          have y2 : Kp [s + 1 + 1] F U2 := y1.trans x2 (fun z hz => by simp at hz)
          have e7 : At U2 U1.heap.size #[.int .i64 (m : Int)] 3 := by rw [hU]; exact At.new _ _ _
          have n7 := y1.size
          have n8 := B2.lt
          obtain ⟨g7, hg7⟩ : ∃ g7, U1.heap.size = g7 := ⟨_, rfl⟩
          rw [hg7] at e7 ⊢
          clear hU
          have C2 := C2.kept x2 (by simp)
          refine hK.out _ _ (hHeld1.kept x2 (by simp)) (fun hHeld2 => ?_)
          clear hK K hHeld1
          try simp only [Act.put, List.setIfInBounds_toArray, List.set_cons_zero, List.set_cons_succ]
          refine wpAnyG_pure (i := 7) (oi := { dst := some 7, op := Go.Op.assign (Go.Operand.tmp 42), type := 45, pos := "law.go:59", after := #[{ on := 5, ground := Go.Ground.data }, { on := 6, ground := Go.Ground.chain }, { on := 0, ground := Go.Ground.phase }, { on := 1, ground := Go.Ground.phase }, { on := 2, ground := Go.Ground.phase }, { on := 3, ground := Go.Ground.phase }, { on := 4, ground := Go.Ground.phase }, { on := 5, ground := Go.Ground.phase }, { on := 6, ground := Go.Ground.phase }], guard := none }) (v := ?_) rfl (by kernel_rfl) (by kernel_rfl) (by kernel_rfl) (by kernel_rfl) (fun _ _ _ h => h) (Or.inl ⟨by rfl, ?_⟩) (by assumption) ?_
          rotate_left
          · (intro w; go_simp; try with_reducible rfl)
          simp only [Act.put, List.setIfInBounds_toArray, List.set_cons_zero, List.set_cons_succ]
          refine wpAnyG_free (by kernel_rfl) ?_
          refine wpAny_done (by kernel_rfl) ?_ _
          obtain ⟨d0, d1, d2, d3, d4, d5⟩ := C2.six
          have e70 := e7.cell 0
          obtain ⟨E1, E2⟩ := END.out _ y2
          clear END
          go_wp2
          refine bodyPost_ret (v := .tuple #[.agg #[.int .i64 l.kind, .int .i64 l.ns, .string l.name, .slice pa pn pcap, .string l.text, .slice (some a6) (m + 1) c6], .slice (some ⟨g7, 0, none⟩) 1 1]) (by simp [results, go_sem, d0, d1, d2, d3, d4, d5]) rfl ⟨((pa, pn, pcap), (some a6, m + 1, c6)), _, _, _, rfl, E1, ?_, E2⟩
          rw [hl.out]
          refine ⟨rfl, Nat.le_refl _, fun _ => ⟨g7, 0, _, _, (by omega), rfl, e7, fun j hj => ?_⟩⟩
          obtain rfl : j = 0 := by omega
          rfl
  refine AllReadyG.cons (o := { dst := some 20, op := Go.Op.buildSlice 23 1 #[(0, Go.Operand.tmp 19)], type := 23, pos := "law.go:55", after := #[{ on := 4, ground := Go.Ground.data }], guard := none }) rfl (fun K hK => ?_) AllReadyG.nil
  go_simp
  obtain ⟨V1, hV1⟩ : ∃ V, V = World.alloc V0 (.cells #[.int .i64 x.kind, .int .i64 x.ns, .string x.name, .slice q.1.1 q.1.2.1 q.1.2.2, .string x.text, .slice q.2.1 q.2.2.1 q.2.2.2] 25) := ⟨_, rfl⟩
  rw [← hV1]
  have q1 : Kp [] V0 V1 := by rw [hV1]; exact (Kp.refl _ _).alloc _
  have z1 : V0.heap.size + 1 ≤ V1.heap.size := by rw [hV1]; simp
  have k1 : Kp [] B V1 := k0.trans q1 (fun z hz => by simp at hz)
  have e5_1 : At V1 V0.heap.size #[.int .i64 x.kind, .int .i64 x.ns, .string x.name, .slice q.1.1 q.1.2.1 q.1.2.2, .string x.text, .slice q.2.1 q.2.2.1 q.2.2.2] 25 := by rw [hV1]; exact At.new _ _ _
  have n5 := k0.size
  obtain ⟨g5, hg5⟩ : ∃ g5, V0.heap.size = g5 := ⟨_, rfl⟩
  rw [hg5] at e5_1 ⊢
  clear hV1
  refine hK.out _ _ ⟨hHeld.1.kept q1 (by simp), hHeld.2.kept q1 (by simp)⟩ (fun hHeld1 => ?_)
  clear hK K hHeld
  try simp only [Act.put, List.setIfInBounds_toArray, List.set_cons_zero, List.set_cons_succ]
  refine wpAnyG_ready (rs := [0]) (by kernel_rfl) (by simp) ?_
  refine AllReadyG.cons (o := { dst := some 15, op := Go.Op.buildSlice 23 0 #[], type := 23, pos := "law.go:55", after := #[], guard := none }) rfl (fun K hK => ?_) AllReadyG.nil
  go_simp
  obtain ⟨V2, hV2⟩ : ∃ V, V = World.alloc V1 (.cells #[] 25) := ⟨_, rfl⟩
  rw [← hV2]
  have q2 : Kp [] V1 V2 := by rw [hV2]; exact (Kp.refl _ _).alloc _
  have z2 : V1.heap.size + 1 ≤ V2.heap.size := by rw [hV2]; simp
  have k2 : Kp [] B V2 := k1.trans q2 (fun z hz => by simp at hz)
  have e5_2 := e5_1.kept q2 (by simp)
  have o0_2 : OwnK 6 V2 25 (.slice (some ⟨V1.heap.size, 0, none⟩) 0 0) 0 [] := by rw [hV2]; exact ownK_new 6 _ 25 #[] [] 0 0 rfl (Nat.le_refl _) (Nat.zero_le _) (Nat.le_refl _) (fun j hj => by omega)
  have n0 := k1.size
  obtain ⟨g0, hg0⟩ : ∃ g0, V1.heap.size = g0 := ⟨_, rfl⟩
  rw [hg0] at o0_2 ⊢
  clear hV2
  refine hK.out _ _ ⟨hHeld1.1.kept q2 (by simp), hHeld1.2.kept q2 (by simp)⟩ (fun hHeld2 => ?_)
  clear hK K hHeld1
  try simp only [Act.put, List.setIfInBounds_toArray, List.set_cons_zero, List.set_cons_succ]
  refine wpAnyG_ready (rs := [3]) (by kernel_rfl) (by simp) ?_
  refine AllReadyG.cons (o := { dst := some 18, op := Go.Op.call { callee := Go.Callee.builtin Go.Builtin.append, args := #[Go.Operand.tmp 15, Go.Operand.tmp 17], argTypes := #[23, 23] }, type := 23, pos := "law.go:55", after := #[{ on := 0, ground := Go.Ground.data }, { on := 2, ground := Go.Ground.data }], guard := none }) rfl (fun K hK => ?_) AllReadyG.nil
  refine step_appK (by rfl) _ _ 23 (by rfl) Try.underlying23 info25t rfl (by decide) _ _ (by rfl) (by rfl) 0 [] o0_2 m zs (SR.out _ k2) (fun h => by cases h) (by omega) (fun v3 V3 o3_3 q3 b3 hv3 => ?_)
  have z3 := q3.size
  have k3 : Kp [] B V3 := k2.trans q3 (fun z hz => Or.inr (by simp [blk] at hz; omega))
  have e5_3 := e5_2.kept q3 (by simp [blk]; omega)
  have b3 : ∀ z, z ∈ blk v3 → B.heap.size ≤ z ∧ (z = g0 ∨ z = V2.heap.size) := fun z hz => by
    have := k2.size
    rcases b3 z hz with h1 | h1
    · simp [blk] at h1; omega
    · omega
  rw [Nat.zero_add, List.nil_append] at o3_3
  clear hv3
  refine hK.out _ _ ⟨hHeld2.1.kept q3 (by have := SB.out; simp [blk]; omega), hHeld2.2.kept q3 (by have := SB.out; simp [blk]; omega)⟩ (fun hHeld3 => ?_)
  clear hK K hHeld2
  try simp only [Act.put, List.setIfInBounds_toArray, List.set_cons_zero, List.set_cons_succ]
  refine wpAnyG_ready (rs := [6]) (by kernel_rfl) (by simp) ?_
  refine AllReadyG.cons (o := { dst := some 21, op := Go.Op.call { callee := Go.Callee.builtin Go.Builtin.append, args := #[Go.Operand.tmp 18, Go.Operand.tmp 20], argTypes := #[23, 23] }, type := 23, pos := "law.go:55", after := #[{ on := 3, ground := Go.Ground.data }, { on := 5, ground := Go.Ground.data }, { on := 3, ground := Go.Ground.chain }], guard := none }) rfl (fun K hK => ?_) AllReadyG.nil
  refine step_appK (by rfl) _ _ 23 (by rfl) Try.underlying23 info25t rfl (by decide) _ _ (by rfl) (by rfl) m zs o3_3 1 _ (src_new Try.underlying23 e5_3 (six x q) rfl (six_one x q)) (fun h => by omega) (by omega) (fun v6 V4 o6 q4 b6 hv6 => ?_)
  have z4 := q4.size
  have k4 : Kp [] B V4 := k3.trans q4 (fun z hz => Or.inr (b3 z hz).1)
  have b6 : ∀ z, z ∈ blk v6 → s + 3 ≤ z := fun z hz => by
    have := SB.out
    have := k3.size
    rcases b6 z hz with h1 | h1
    · have := (b3 z h1).1; omega
    · omega
  obtain ⟨a6, c6, rfl⟩ := hv6
  refine hK.out _ _ ⟨hHeld3.1.kept q4 (fun hz => by have := (b3 _ hz).1; have := SB.out; omega), hHeld3.2.kept q4 (fun hz => by have := (b3 _ hz).1; have := SB.out; omega)⟩ (fun hHeld4 => ?_)
  clear hK K hHeld3
  try simp only [Act.put, List.setIfInBounds_toArray, List.set_cons_zero, List.set_cons_succ]
  refine wpAnyG_free (by kernel_rfl) ?_
  refine wpAny_take (i := 7) (oi := { dst := some 22, op := Go.Op.fieldAddr 25 (Go.Operand.tmp 3) 5, type := 0, pos := "law.go:55", after := #[{ on := 0, ground := Go.Ground.phase }, { on := 1, ground := Go.Ground.phase }, { on := 2, ground := Go.Ground.phase }, { on := 3, ground := Go.Ground.phase }, { on := 4, ground := Go.Ground.phase }, { on := 5, ground := Go.Ground.phase }, { on := 6, ground := Go.Ground.phase }], guard := none }) (v := ?_) rfl (by kernel_rfl) (by kernel_rfl) (by kernel_rfl) (fun _ _ _ h => h) (Or.inl ⟨by rfl, ?_⟩) ?_
  rotate_left
  · (intro w; go_simp; try with_reducible rfl)
  simp only [Act.put, List.setIfInBounds_toArray, List.set_cons_zero, List.set_cons_succ]
  refine wpAny_ready (rs := [8]) (by kernel_rfl) (by simp) ?_
  refine AllReady.cons (o := { dst := none, op := Go.Op.store 23 (Go.Operand.tmp 22) (Go.Operand.tmp 21), type := 0, pos := "law.go:55", after := #[{ on := 7, ground := Go.Ground.data }, { on := 6, ground := Go.Ground.data }, { on := 6, ground := Go.Ground.chain }, { on := 0, ground := Go.Ground.phase }, { on := 1, ground := Go.Ground.phase }, { on := 2, ground := Go.Ground.phase }, { on := 3, ground := Go.Ground.phase }, { on := 4, ground := Go.Ground.phase }, { on := 5, ground := Go.Ground.phase }, { on := 6, ground := Go.Ground.phase }], guard := none }) rfl (fun K hK => ?_) AllReady.nil
  have A0v := A0.kept k4 (by simp)
  have A1v := A1.kept k4 (by simp)
  have A2v := A2.kept k4 (by simp)
  have s5 := A0v.cell 5
  have f5 := A0v.free 5
  simp only [List.getElem?_toArray, List.getElem?_cons_succ, List.getElem?_cons_zero] at s5
  go_simp
  refine hK _ _ ?_
  clear hK K
  try simp only [Act.put, List.setIfInBounds_toArray, List.set_cons_zero, List.set_cons_succ]
  refine wpAny_done (by kernel_rfl) ?_ _
  obtain ⟨F, hF⟩ : ∃ F, F = World.setCell V4 ⟨s, 5, none⟩ (.slice (some a6) (m + 1) c6) := ⟨_, rfl⟩
  rw [← hF]
  have B0 : At F s #[.int .i64 l.kind, .int .i64 l.ns, .string l.name, .slice pa pn pcap, .string l.text, .slice (some a6) (m + 1) c6] 25 := by rw [hF]; exact A0v.set 5 _
  have kF : Kp [s] V4 F := by rw [hF]; exact (Kp.refl _ _).setCell (Or.inl (by simp)) _
  have B1 := A1v.kept kF (by simp <;> omega)
  have B2 := A2v.kept kF (by simp <;> omega)
  have END : Hid (∀ W, Kp [s + 1 + 1] F W → Nd (fun z => Q z ∨ w.heap.size ≤ z) W l (k.app (.cons x y .nil)) ((pa, pn, pcap), (some a6, m + 1, c6)) ∧ Kp [] w W) := fun W kW => FIN.out V4 F W a6 c6 o6 k4 hF b6 kW
  clear hF FIN SR o6 b6 A0 A1 A2 A0v A1v A2v HW kF SB b3 s5 f5 kB k0 k1 k2 k3 k4 q1 z1 q2 z2 q3 z3 q4 z4 hg0 hg5 n0 n5 o0_2 e5_1 e5_2 e5_3 o3_3
  obtain ⟨b00, b01, b02, b03, b04, b05⟩ := B0.six
  obtain ⟨b10, b11, b12, b13, b14, b15⟩ := B1.six
  obtain ⟨b20, b21, b22, b23, b24, b25⟩ := B2.six
  have fr := fun j => B2.free j
  by_cases h4 : x.kind = 4
  · have r4 : ((x.kind : Int) == 4) = true := int_eq_yes h4
    have hl : Hid (iv R = []) := by show iv R = []; rw [hR.out, if_pos (by simp [leafF, h4])]; rfl
    have D : Hid _ := (B2.putZ (.int .i64 l.kind) (.int .i64 l.ns) (.string l.name) (.slice pa pn pcap) (.string l.text) (.slice (some a6) (m + 1) c6)).six
    have E : Hid _ := END.out _ ((Kp.refl [s + 1 + 1] F).putZ (g := s + 1 + 1) (Or.inl (by simp)) (.int .i64 l.kind) (.int .i64 l.ns) (.string l.name) (.slice pa pn pcap) (.string l.text) (.slice (some a6) (m + 1) c6))
    unfold putZ at D E
    clear END h4
    go_wp2
    obtain ⟨d0, d1, d2, d3, d4, d5⟩ := D.out
    obtain ⟨E1, E2⟩ := E.out
    refine bodyPost_ret (v := .tuple #[.agg #[.int .i64 l.kind, .int .i64 l.ns, .string l.name, .slice pa pn pcap, .string l.text, .slice (some a6) (m + 1) c6], .slice none 0 0]) (by simp [results, go_sem, d0, d1, d2, d3, d4, d5]) rfl ⟨((pa, pn, pcap), (some a6, m + 1, c6)), none, 0, 0, rfl, E1, ?_, E2⟩
    rw [hl.out]
    exact Rk.nil _ 1 _ none 0
  · have r4 : ((x.kind : Int) == 4) = false := int_eq_no h4
    by_cases h5 : x.kind = 5
    · have r5 : ((x.kind : Int) == 5) = true := int_eq_yes h5
      have hl : Hid (iv R = []) := by show iv R = []; rw [hR.out, if_pos (by simp [leafF, h5])]; rfl
      have D : Hid _ := (B2.putZ (.int .i64 l.kind) (.int .i64 l.ns) (.string l.name) (.slice pa pn pcap) (.string l.text) (.slice (some a6) (m + 1) c6)).six
      have E : Hid _ := END.out _ ((Kp.refl [s + 1 + 1] F).putZ (g := s + 1 + 1) (Or.inl (by simp)) (.int .i64 l.kind) (.int .i64 l.ns) (.string l.name) (.slice pa pn pcap) (.string l.text) (.slice (some a6) (m + 1) c6))
      unfold putZ at D E
      clear END h5
      go_wp2
      obtain ⟨d0, d1, d2, d3, d4, d5⟩ := D.out
      obtain ⟨E1, E2⟩ := E.out
      refine bodyPost_ret (v := .tuple #[.agg #[.int .i64 l.kind, .int .i64 l.ns, .string l.name, .slice pa pn pcap, .string l.text, .slice (some a6) (m + 1) c6], .slice none 0 0]) (by simp [results, go_sem, d0, d1, d2, d3, d4, d5]) rfl ⟨((pa, pn, pcap), (some a6, m + 1, c6)), none, 0, 0, rfl, E1, ?_, E2⟩
      rw [hl.out]
      exact Rk.nil _ 1 _ none 0
    · have r5 : ((x.kind : Int) == 5) = false := int_eq_no h5
      by_cases h2 : x.kind = 2
      · have r2 : ((x.kind : Int) == 2) = true := int_eq_yes h2
        have hl : Hid (iv R = []) := by show iv R = []; rw [hR.out, if_pos (by simp [leafF, h2])]; rfl
        have D : Hid _ := (B2.putZ (.int .i64 l.kind) (.int .i64 l.ns) (.string l.name) (.slice pa pn pcap) (.string l.text) (.slice (some a6) (m + 1) c6)).six
        have E : Hid _ := END.out _ ((Kp.refl [s + 1 + 1] F).putZ (g := s + 1 + 1) (Or.inl (by simp)) (.int .i64 l.kind) (.int .i64 l.ns) (.string l.name) (.slice pa pn pcap) (.string l.text) (.slice (some a6) (m + 1) c6))
        unfold putZ at D E
        clear END h2
        go_wp2
        obtain ⟨d0, d1, d2, d3, d4, d5⟩ := D.out
        obtain ⟨E1, E2⟩ := E.out
        refine bodyPost_ret (v := .tuple #[.agg #[.int .i64 l.kind, .int .i64 l.ns, .string l.name, .slice pa pn pcap, .string l.text, .slice (some a6) (m + 1) c6], .slice none 0 0]) (by simp [results, go_sem, d0, d1, d2, d3, d4, d5]) rfl ⟨((pa, pn, pcap), (some a6, m + 1, c6)), none, 0, 0, rfl, E1, ?_, E2⟩
        rw [hl.out]
        exact Rk.nil _ 1 _ none 0
      · have r2 : ((x.kind : Int) == 2) = false := int_eq_no h2
        have hl : Hid (iv R = iv [m]) := by show iv R = iv [m]; rw [hR.out, if_neg (by simp [leafF, h4, h5, h2]), KL.out]
        clear h4 h5 h2 KL
        have j1 : IntKind.i64.wrap (m : Int) = m := by rw [IntKind.wrap_i64]; omega
        go_wp2_with fail
        obtain ⟨U0, hU0⟩ : ∃ V, V = F.drew := ⟨_, rfl⟩
        have y0 : Kp [s + 1 + 1] F U0 := by rw [hU0]; exact (Kp.refl _ _).drew
        have R2 : At U0 (s + 1 + 1) _ 25 := B2.kept (show Kp [] F U0 by rw [hU0]; exact (Kp.refl _ _).drew) (by simp)
        refine wp_region_g (S := fun V => At V s #[.int .i64 l.kind, .int .i64 l.ns, .string l.name, .slice pa pn pcap, .string l.text, .slice (some a6) (m + 1) c6] 25) (T := []) (by kernel_rfl) (B0.kept (Kp.refl [] F).drew (by simp)) (fun hHeld => ?_)
        rw [← hU0] at hHeld ⊢
        clear hU0
        refine wpAnyG_take (i := 0) (oi := { dst := some 37, op := Go.Op.load 25 (Go.Operand.tmp 3), type := 25, pos := "law.go:59", after := #[], guard := none }) (v := ?_) rfl (by kernel_rfl) (by kernel_rfl) (by kernel_rfl) (by kernel_rfl) (fun _ _ _ h => h) (Or.inl ⟨by rfl, ?_⟩) (by assumption) ?_
        rotate_left
        · (intro w hSw; (obtain ⟨c0, c1, c2, c3, c4, c5⟩ := At.six hSw); go_simp; try with_reducible rfl)
        simp only [Act.put, List.setIfInBounds_toArray, List.set_cons_zero, List.set_cons_succ]
        refine wpAnyG_pure (i := 1) (oi := { dst := some 38, op := Go.Op.fieldAddr 25 (Go.Operand.tmp 3) 5, type := 0, pos := "law.go:59", after := #[], guard := none }) (v := ?_) rfl (by kernel_rfl) (by kernel_rfl) (by kernel_rfl) (by kernel_rfl) (fun _ _ _ h => h) (Or.inl ⟨by rfl, ?_⟩) (by assumption) ?_
        rotate_left
        · (intro w; go_simp; try with_reducible rfl)
        simp only [Act.put, List.setIfInBounds_toArray, List.set_cons_zero, List.set_cons_succ]
        refine wpAnyG_take (i := 2) (oi := { dst := some 39, op := Go.Op.load 23 (Go.Operand.tmp 38), type := 23, pos := "law.go:59", after := #[{ on := 1, ground := Go.Ground.data }], guard := none }) (v := ?_) rfl (by kernel_rfl) (by kernel_rfl) (by kernel_rfl) (by kernel_rfl) (fun _ _ _ h => h) (Or.inl ⟨by rfl, ?_⟩) (by assumption) ?_
        rotate_left
        · (intro w hSw; (obtain ⟨c0, c1, c2, c3, c4, c5⟩ := At.six hSw); go_simp; try with_reducible rfl)
        simp only [Act.put, List.setIfInBounds_toArray, List.set_cons_zero, List.set_cons_succ]
        refine wpAnyG_pure (i := 3) (oi := { dst := some 40, op := Go.Op.call { callee := Go.Callee.builtin Go.Builtin.len, args := #[Go.Operand.tmp 39], argTypes := #[23] }, type := 3, pos := "law.go:59", after := #[{ on := 2, ground := Go.Ground.data }], guard := none }) (v := ?_) rfl (by kernel_rfl) (by kernel_rfl) (by kernel_rfl) (by kernel_rfl) (fun _ _ _ h => h) (Or.inl ⟨by rfl, ?_⟩) (by assumption) ?_
        rotate_left
        · (intro w; go_simp; try with_reducible rfl)
        simp only [Act.put, List.setIfInBounds_toArray, List.set_cons_zero, List.set_cons_succ]
        refine wpAnyG_pure (i := 4) (oi := { dst := some 41, op := Go.Op.binOp Go.BinOp.sub 3 (Go.Operand.tmp 40) (Go.Operand.const (Go.Value.int Go.IntKind.i64 1)) 3, type := 3, pos := "law.go:59", after := #[{ on := 3, ground := Go.Ground.data }, { on := 6, ground := Go.Ground.gcOnly Go.Departure.lateStores }], guard := none }) (v := ?_) rfl (by kernel_rfl) (by kernel_rfl) (by kernel_rfl) (by kernel_rfl) (fun _ _ _ h => h) (Or.inl ⟨by rfl, ?_⟩) (by assumption) ?_
        rotate_left
        · (intro w; go_simp; try with_reducible rfl)
        simp only [Act.put, List.setIfInBounds_toArray, List.set_cons_zero, List.set_cons_succ]
        refine wpAnyG_ready (rs := [5, 6]) (by kernel_rfl) (by simp) ?_
        refine AllReadyG.cons (o := { dst := some 42, op := Go.Op.buildSlice 45 1 #[(0, Go.Operand.tmp 41)], type := 45, pos := "law.go:59", after := #[{ on := 4, ground := Go.Ground.data }, { on := 6, ground := Go.Ground.gcOnly Go.Departure.lateStores }], guard := none }) rfl (fun K hK => ?_) ?_
        · go_simp
          obtain ⟨U1, hU⟩ : ∃ V, V = World.alloc U0 (.cells #[.int .i64 (m : Int)] 3) := ⟨_, rfl⟩
          rw [← hU]
          have x1 : Kp [] U0 U1 := by rw [hU]; exact (Kp.refl _ _).alloc _
          have y1 : Kp [s + 1 + 1] F U1 := y0.trans x1 (fun z hz => by simp at hz)
          have e7 : At U1 U0.heap.size #[.int .i64 (m : Int)] 3 := by rw [hU]; exact At.new _ _ _
          have n7 := y0.size
          have n8 := B2.lt
          obtain ⟨g7, hg7⟩ : ∃ g7, U0.heap.size = g7 := ⟨_, rfl⟩
          rw [hg7] at e7 ⊢
          clear hU
          refine hK.out _ _ (hHeld.kept x1 (by simp)) (fun hHeld1 => ?_)
          clear hK K hHeld
          try simp only [Act.put, List.setIfInBounds_toArray, List.set_cons_zero, List.set_cons_succ]
          refine wpAnyG_ready (rs := [6]) (by kernel_rfl) (by simp) ?_
          refine AllReadyG.cons (o := { dst := none, op := Go.Op.store 25 (Go.Operand.tmp 6) (Go.Operand.tmp 37), type := 0, pos := "law.go:59", after := #[{ on := 0, ground := Go.Ground.data }, { on := 0, ground := Go.Ground.phase }, { on := 1, ground := Go.Ground.textOnly Go.Departure.lateStores }, { on := 2, ground := Go.Ground.textOnly Go.Departure.lateStores }, { on := 3, ground := Go.Ground.textOnly Go.Departure.lateStoresUnsure }, { on := 4, ground := Go.Ground.textOnly Go.Departure.lateStores }, { on := 5, ground := Go.Ground.textOnly Go.Departure.lateStores }], guard := none }) rfl (fun K hK => ?_) AllReadyG.nil
          have D2 := R2.kept x1 (by simp)
          obtain ⟨d20, d21, d22, d23, d24, d25⟩ := D2.six
          have fr2 := fun j => D2.free j
          go_simp
          obtain ⟨U2, hU⟩ : ∃ V, V = putZ U1 (s + 1 + 1) (.int .i64 l.kind) (.int .i64 l.ns) (.string l.name) (.slice pa pn pcap) (.string l.text) (.slice (some a6) (m + 1) c6) := ⟨_, rfl⟩
          unfold putZ at hU
          rw [← hU]
          have x2 : Kp [s + 1 + 1] U1 U2 := by rw [hU]; exact (Kp.refl _ _).putZ (g := s + 1 + 1) (Or.inl (by simp)) (.int .i64 l.kind) (.int .i64 l.ns) (.string l.name) (.slice pa pn pcap) (.string l.text) (.slice (some a6) (m + 1) c6)
          have y2 : Kp [s + 1 + 1] F U2 := y1.trans x2 (fun z hz => Or.inl hz)
          have C2 : At U2 (s + 1 + 1) #[.int .i64 l.kind, .int .i64 l.ns, .string l.name, .slice pa pn pcap, .string l.text, .slice (some a6) (m + 1) c6] 25 := by rw [hU]; exact D2.putZ (.int .i64 l.kind) (.int .i64 l.ns) (.string l.name) (.slice pa pn pcap) (.string l.text) (.slice (some a6) (m + 1) c6)
          clear hU d20 d21 d22 d23 d24 d25 fr2
          have e7 := e7.kept x2 (by simp; omega)
          refine hK.out _ _ (At.kept hHeld1 x2 (by simp <;> omega)) (fun hHeld2 => ?_)
          clear hK K hHeld1
          try simp only [Act.put, List.setIfInBounds_toArray, List.set_cons_zero, List.set_cons_succ]
          refine wpAnyG_pure (i := 7) (oi := { dst := some 7, op := Go.Op.assign (Go.Operand.tmp 42), type := 45, pos := "law.go:59", after := #[{ on := 5, ground := Go.Ground.data }, { on := 6, ground := Go.Ground.chain }, { on := 0, ground := Go.Ground.phase }, { on := 1, ground := Go.Ground.phase }, { on := 2, ground := Go.Ground.phase }, { on := 3, ground := Go.Ground.phase }, { on := 4, ground := Go.Ground.phase }, { on := 5, ground := Go.Ground.phase }, { on := 6, ground := Go.Ground.phase }], guard := none }) (v := ?_) rfl (by kernel_rfl) (by kernel_rfl) (by kernel_rfl) (by kernel_rfl) (fun _ _ _ h => h) (Or.inl ⟨by rfl, ?_⟩) (by assumption) ?_
          rotate_left
          · (intro w; go_simp; try with_reducible rfl)
          simp only [Act.put, List.setIfInBounds_toArray, List.set_cons_zero, List.set_cons_succ]
          refine wpAnyG_free (by kernel_rfl) ?_
          refine wpAny_done (by kernel_rfl) ?_ _
          obtain ⟨d0, d1, d2, d3, d4, d5⟩ := C2.six
          have e70 := e7.cell 0
          obtain ⟨E1, E2⟩ := END.out _ y2
          clear END
          go_wp2
          refine bodyPost_ret (v := .tuple #[.agg #[.int .i64 l.kind, .int .i64 l.ns, .string l.name, .slice pa pn pcap, .string l.text, .slice (some a6) (m + 1) c6], .slice (some ⟨g7, 0, none⟩) 1 1]) (by simp [results, go_sem, d0, d1, d2, d3, d4, d5]) rfl ⟨((pa, pn, pcap), (some a6, m + 1, c6)), _, _, _, rfl, E1, ?_, E2⟩
          rw [hl.out]
          refine ⟨rfl, Nat.le_refl _, fun _ => ⟨g7, 0, _, _, (by omega), rfl, e7, fun j hj => ?_⟩⟩
          obtain rfl : j = 0 := by omega
          rfl
        refine AllReadyG.cons (o := { dst := none, op := Go.Op.store 25 (Go.Operand.tmp 6) (Go.Operand.tmp 37), type := 0, pos := "law.go:59", after := #[{ on := 0, ground := Go.Ground.data }, { on := 0, ground := Go.Ground.phase }, { on := 1, ground := Go.Ground.textOnly Go.Departure.lateStores }, { on := 2, ground := Go.Ground.textOnly Go.Departure.lateStores }, { on := 3, ground := Go.Ground.textOnly Go.Departure.lateStoresUnsure }, { on := 4, ground := Go.Ground.textOnly Go.Departure.lateStores }, { on := 5, ground := Go.Ground.textOnly Go.Departure.lateStores }], guard := none }) rfl (fun K hK => ?_) AllReadyG.nil
        have D2 := R2
        obtain ⟨d20, d21, d22, d23, d24, d25⟩ := D2.six
        have fr2 := fun j => D2.free j
        go_simp
        obtain ⟨U1, hU⟩ : ∃ V, V = putZ U0 (s + 1 + 1) (.int .i64 l.kind) (.int .i64 l.ns) (.string l.name) (.slice pa pn pcap) (.string l.text) (.slice (some a6) (m + 1) c6) := ⟨_, rfl⟩
        unfold putZ at hU
        rw [← hU]
        have x1 : Kp [s + 1 + 1] U0 U1 := by rw [hU]; exact (Kp.refl _ _).putZ (g := s + 1 + 1) (Or.inl (by simp)) (.int .i64 l.kind) (.int .i64 l.ns) (.string l.name) (.slice pa pn pcap) (.string l.text) (.slice (some a6) (m + 1) c6)
        have y1 : Kp [s + 1 + 1] F U1 := y0.trans x1 (fun z hz => Or.inl hz)
        have C2 : At U1 (s + 1 + 1) #[.int .i64 l.kind, .int .i64 l.ns, .string l.name, .slice pa pn pcap, .string l.text, .slice (some a6) (m + 1) c6] 25 := by rw [hU]; exact D2.putZ (.int .i64 l.kind) (.int .i64 l.ns) (.string l.name) (.slice pa pn pcap) (.string l.text) (.slice (some a6) (m + 1) c6)
        clear hU d20 d21 d22 d23 d24 d25 fr2
        refine hK.out _ _ (At.kept hHeld x1 (by simp <;> omega)) (fun hHeld1 => ?_)
        clear hK K hHeld
        try simp only [Act.put, List.setIfInBounds_toArray, List.set_cons_zero, List.set_cons_succ]
        refine wpAnyG_ready (rs := [5]) (by kernel_rfl) (by simp) ?_
        refine AllReadyG.cons (o := { dst := some 42, op := Go.Op.buildSlice 45 1 #[(0, Go.Operand.tmp 41)], type := 45, pos := "law.go:59", after := #[{ on := 4, ground := Go.Ground.data }, { on := 6, ground := Go.Ground.gcOnly Go.Departure.lateStores }], guard := none }) rfl (fun K hK => ?_) AllReadyG.nil
        go_simp
        obtain ⟨U2, hU⟩ : ∃ V, V = World.alloc U1 (.cells #[.int .i64 (m : Int)] 3) := ⟨_, rfl⟩
        rw [← hU]
        have x2 : Kp [] U1 U2 := by rw [hU]; exact (Kp.refl _ _).alloc _
        have y2 : Kp [s + 1 + 1] F U2 := y1.trans x2 (fun z hz => by simp at hz)
        have e7 : At U2 U1.heap.size #[.int .i64 (m : Int)] 3 := by rw [hU]; exact At.new _ _ _
        have n7 := y1.size
        have n8 := B2.lt
        obtain ⟨g7, hg7⟩ : ∃ g7, U1.heap.size = g7 := ⟨_, rfl⟩
        rw [hg7] at e7 ⊢
        clear hU
        have C2 := C2.kept x2 (by simp)
        refine hK.out _ _ (hHeld1.kept x2 (by simp)) (fun hHeld2 => ?_)
        clear hK K hHeld1
        try simp only [Act.put, List.setIfInBounds_toArray, List.set_cons_zero, List.set_cons_succ]
        refine wpAnyG_pure (i := 7) (oi := { dst := some 7, op := Go.Op.assign (Go.Operand.tmp 42), type := 45, pos := "law.go:59", after := #[{ on := 5, ground := Go.Ground.data }, { on := 6, ground := Go.Ground.chain }, { on := 0, ground := Go.Ground.phase }, { on := 1, ground := Go.Ground.phase }, { on := 2, ground := Go.Ground.phase }, { on := 3, ground := Go.Ground.phase }, { on := 4, ground := Go.Ground.phase }, { on := 5, ground := Go.Ground.phase }, { on := 6, ground := Go.Ground.phase }], guard := none }) (v := ?_) rfl (by kernel_rfl) (by kernel_rfl) (by kernel_rfl) (by kernel_rfl) (fun _ _ _ h => h) (Or.inl ⟨by rfl, ?_⟩) (by assumption) ?_
        rotate_left
        · (intro w; go_simp; try with_reducible rfl)
        simp only [Act.put, List.setIfInBounds_toArray, List.set_cons_zero, List.set_cons_succ]
        refine wpAnyG_free (by kernel_rfl) ?_
        refine wpAny_done (by kernel_rfl) ?_ _
        obtain ⟨d0, d1, d2, d3, d4, d5⟩ := C2.six
        have e70 := e7.cell 0
        obtain ⟨E1, E2⟩ := END.out _ y2
        clear END
        go_wp2
        refine bodyPost_ret (v := .tuple #[.agg #[.int .i64 l.kind, .int .i64 l.ns, .string l.name, .slice pa pn pcap, .string l.text, .slice (some a6) (m + 1) c6], .slice (some ⟨g7, 0, none⟩) 1 1]) (by simp [results, go_sem, d0, d1, d2, d3, d4, d5]) rfl ⟨((pa, pn, pcap), (some a6, m + 1, c6)), _, _, _, rfl, E1, ?_, E2⟩
        rw [hl.out]
        refine ⟨rfl, Nat.le_refl _, fun _ => ⟨g7, 0, _, _, (by omega), rfl, e7, fun j hj => ?_⟩⟩
        obtain rfl : j = 0 := by omega
        rfl

end Go.Proofs.Ytgnbafgglkncmaa

/-
  under of the law: a way of one step and more.
-/
namespace Go.Proofs.Ytgnbafgglkncmaa
open Go.RowKit
set_option linter.unusedVariables false

theorem iv_one (l : List Nat) : ∀ u, u ∈ iv l → u.oneCell' = true := fun u hu => by
  simp only [iv, List.mem_map] at hu
  obtain ⟨n, _, rfl⟩ := hu
  rfl

/-- All but the first: there is room for more than one. -/
theorem Rk.tail {Q : Nat → Prop} {w : World} {b o n c : Nat} {v : Value} {xs : List Value} (h : Rk Q 1 w (some ⟨b, o, none⟩) (n + 1) c (v :: xs)) : Rk Q 1 w (some ⟨b, o + 1, none⟩) n (c - 1) xs := by
  have h1 := h.len
  have h2 := h.cap
  refine ⟨by simp at h1; omega, by omega, fun hn => ?_⟩
  obtain ⟨b', off, cur, e, hq, e1, e2, e3⟩ := h.at' (by omega)
  simp only [Option.some.injEq, Addr.mk.injEq] at e1
  obtain ⟨rfl, rfl, _⟩ := e1
  refine ⟨b, o + 1, cur, e, hq, rfl, e2, fun j hj => ?_⟩
  have := e3 (j + 1) (by omega)
  rw [show o + 1 + j = o + (j + 1) by omega, this]
  simp

/-- The first one's cell. -/
theorem Rk.head {Q : Nat → Prop} {w : World} {ao : Option Addr} {n c : Nat} {v : Value} {xs : List Value} (h : Rk Q 1 w ao (n + 1) c (v :: xs)) : ∃ b o, ao = some ⟨b, o, none⟩ ∧ ∀ W, Kp [] w W → W.cell? ⟨b, o, none⟩ = some v := by
  obtain ⟨b, off, cur, e, hq, e1, e2, e3⟩ := h.at' (by omega)
  refine ⟨b, off, e1, fun W kW => ?_⟩
  have e4 := (kW.block b (Array.getElem?_eq_some_iff.1 e2).1 (by simp)).trans e2
  have := e3 0 (by omega)
  rw [cell_of e4]
  simpa using this

/-- Another node in the place of one of a row. -/
theorem Rk.put6 {w : World} {g o m c i : Nat} {e : TypeId} {zs : List Value} {cur : Array Value} (hg : At w g cur e) (hcur : ∀ j, j < m * 6 → cur[o + j]? = zs[j]?) (hlen : zs.length = m * 6) (hc : m ≤ c) (hi : i < m) (hfit : o + m * 6 ≤ cur.size) (l : Lb) (p : Pl) :
    Rk Any 6 (put6 w g (o + i * 6) (.int .i64 l.kind) (.int .i64 l.ns) (.string l.name) (.slice p.1.1 p.1.2.1 p.1.2.2) (.string l.text) (.slice p.2.1 p.2.2.1 p.2.2.2)) (some ⟨g, o, none⟩) m c (zs.take (i * 6) ++ (six l p ++ zs.drop ((i + 1) * 6))) := by
  have hm : (i + 1) * 6 ≤ m * 6 := Nat.mul_le_mul_right 6 hi
  rw [put6_eq]
  have h6 : [Value.int .i64 l.kind, .int .i64 l.ns, .string l.name, .slice p.1.1 p.1.2.1 p.1.2.2, .string l.text, .slice p.2.1 p.2.2.1 p.2.2.2] = six l p := rfl
  rw [h6]
  have h7 := six_len l p
  clear h6
  generalize six l p = ys at h7
  refine ⟨by simp [h7, hlen]; omega, hc, fun hn => ?_⟩
  obtain ⟨cur', hg', hs'⟩ := setCells_block g e ys (o + i * 6) w cur hg
  have hget := setCells_get g e ys (o + i * 6) w cur cur' hg hg' (by rw [h7]; omega)
  refine ⟨g, o, cur', e, trivial, rfl, hg', fun j hj => ?_⟩
  rw [hget, h7]
  by_cases h1 : j < i * 6
  · rw [if_neg (by omega), hcur j hj, List.getElem?_append_left (by rw [List.length_take]; omega), List.getElem?_take_of_lt h1]
  · by_cases h2 : j < (i + 1) * 6
    · rw [if_pos (by omega), List.getElem?_append_right (by rw [List.length_take]; omega), List.length_take, Nat.min_eq_left (by omega), List.getElem?_append_left (by rw [h7]; omega)]
      congr 1; omega
    · rw [if_neg (by omega), hcur j hj, List.getElem?_append_right (by rw [List.length_take]; omega), List.length_take, Nat.min_eq_left (by omega), List.getElem?_append_right (by rw [h7]; omega), h7, List.getElem?_drop]
      congr 1; omega

/-- Where the block is known, what lets it is. -/
theorem Rk.at_known {Q R : Nat → Prop} {K : Nat} {w : World} {g o n c : Nat} {xs : List Value} (h : Rk Q K w (some ⟨g, o, none⟩) n c xs) (hr : R g) : Rk R K w (some ⟨g, o, none⟩) n c xs := by
  refine ⟨h.len, h.cap, fun hn => ?_⟩
  obtain ⟨b, off, cur, e, hq, f1, f2, f3⟩ := h.at' hn
  simp only [Option.some.injEq, Addr.mk.injEq] at f1
  obtain ⟨rfl, rfl, _⟩ := f1
  exact ⟨g, o, cur, e, hr, rfl, f2, f3⟩

set_option maxRecDepth 100000 in
set_option maxHeartbeats 4000000 in
theorem under_cons (Q : Nat → Prop) (w : World) (x l : Lb) (k : Fo) (p q : Pl) (wo : Option Addr) (n c i : Nat) (ws rs : List Nat) (G : Fo → Fo) (l1 : Lb) (k1 r1 : Fo) (h : Nd Q w l k p) (hr : Rk Any 1 w wo (n + 1) c (iv (i :: ws))) (hi : i < k.len) (e1 : k.drop i = .cons l1 k1 r1) (hn : k.cnt ≤ 1000) (hrl : rs.length ≤ 1000)
    (HU : ∀ (W : World) (p1 : Pl) (wo1 : Option Addr) (c1 : Nat), Kp [] w W → Nd (fun z => Q z ∧ z < w.heap.size) W l1 k1 p1 → Rk Any 1 W wo1 n c1 (iv ws) → Calls Try.prog 29 #[wv l1 p1, .slice wo1 n c1, wv x q] W fun e w' => ∃ p' ao m d, e = .returned (.tuple #[wv l1 p', .slice ao m d]) ∧ Nd (fun z => (Q z ∧ z < w.heap.size) ∨ W.heap.size ≤ z) w' l1 (G k1) p' ∧ Rk (fun z => W.heap.size ≤ z) 1 w' ao m d (iv rs) ∧ Kp [] W w') :
    Calls Try.prog 29 #[wv l p, .slice wo (n + 1) c, wv x q] w fun e w' => ∃ p' ao m d, e = .returned (.tuple #[wv l p', .slice ao m d]) ∧ Nd (fun z => Q z ∨ w.heap.size ≤ z) w' l (k.turn G i) p' ∧ Rk (fun z => w.heap.size ≤ z) 1 w' ao m d (iv (i :: rs)) ∧ Kp [] w w' := by
  obtain ⟨s, hs⟩ : ∃ s, w.heap.size = s := ⟨_, rfl⟩
  obtain ⟨B, hB⟩ : ∃ B, B = ((w.alloc (.cells (six l p).toArray 25)).alloc (.cells (six x q).toArray 25)).alloc (.cells #[.int .i64 0, .int .i64 0, .string ⟨#[]⟩, .slice none 0 0, .string ⟨#[]⟩, .slice none 0 0] 25) := ⟨_, rfl⟩
  have kB : Kp [] w B := by rw [hB]; exact (((Kp.refl _ _).alloc _).alloc _).alloc _
  have A0 : At B s (six l p).toArray 25 := by
    rw [hB, ← hs]; exact ((At.new _ _ _).kept ((Kp.refl [] _).alloc _) (by simp)).kept ((Kp.refl [] _).alloc _) (by simp)
  have A1 : At B (s + 1) (six x q).toArray 25 := by
    rw [hB, ← hs]; exact (At.new' _ _ _ _ (by simp)).kept ((Kp.refl [] _).alloc _) (by simp)
  have A2 : At B (s + 1 + 1) #[.int .i64 0, .int .i64 0, .string ⟨#[]⟩, .slice none 0 0, .string ⟨#[]⟩, .slice none 0 0] 25 := by
    rw [hB, ← hs]; exact At.new' _ _ _ _ (by simp)
  have hkl := h.klen
  have hkc := Fo.len_le_cnt k
  have hatt := h.at'
  obtain ⟨zs, hz1, hz2⟩ := h.kids
  have ho := hz2.one
  have hzl := hz1.len
  obtain ⟨p1, hp1, hp2⟩ := hz2.at e1
  have sB : B.heap.size = s + 3 := by rw [hB, ← hs]; simp
  have SB : Hid (B.heap.size = s + 3) := sB
  have HW : Hid (((w.alloc (.cells #[.int .i64 l.kind, .int .i64 l.ns, .string l.name, .slice p.1.1 p.1.2.1 p.1.2.2, .string l.text, .slice p.2.1 p.2.2.1 p.2.2.2] 25)).alloc (.cells #[.int .i64 x.kind, .int .i64 x.ns, .string x.name, .slice q.1.1 q.1.2.1 q.1.2.2, .string x.text, .slice q.2.1 q.2.2.1 q.2.2.2] 25)).alloc (.cells #[.int .i64 0, .int .i64 0, .string ⟨#[]⟩, .slice none 0 0, .string ⟨#[]⟩, .slice none 0 0] 25) = B) := hB.symm
  -- the copy of the kids
  obtain ⟨C, hC⟩ : ∃ C, C = B.alloc (.cells #[] 25) := ⟨_, rfl⟩
  have kC : Kp [] B C := by rw [hC]; exact (Kp.refl _ _).alloc _
  have oC : OwnK 6 C 25 (.slice (some ⟨B.heap.size, 0, none⟩) 0 0) 0 [] := by rw [hC]; exact ownK_new 6 _ 25 #[] [] 0 0 rfl (Nat.le_refl _) (Nat.zero_le _) (Nat.le_refl _) (fun j hj => by omega)
  obtain ⟨v9, V7, hrun, o9, q9, b9, a9, c9, hv9⟩ := appK Try.underlying23 info25t rfl (by decide) C _ 0 [] oC (.slice p.2.1 p.2.2.1 p.2.2.2) p.2.2.1 zs ((hz1.kept (kB.trans kC (fun z hz => by simp at hz))).src Try.underlying23 ho) (fun h => by cases h) (by omega)
  have szC : C.heap.size = s + 4 := by rw [hC]; simp [sB]
  have k7 : Kp [] B V7 := kC.trans q9 (fun z hz => Or.inr (by simp [blk] at hz; omega))
  rw [Nat.zero_add] at o9 hv9
  rw [List.nil_append] at o9
  subst hv9
  obtain ⟨_, hh⟩ := o9
  rcases hh with ⟨hh, _⟩ | ⟨g9, o9, cap9, cur9, hv, hg9, hc1, hc2, hc3, hc4⟩
  · cases hh
  simp only [Value.slice.injEq, Option.some.injEq, true_and] at hv
  obtain ⟨rfl, rfl⟩ := hv
  have hg9n : s + 3 ≤ g9 := by
    rcases b9 g9 (by simp [blk]) with h1 | h1
    · simp [blk] at h1; omega
    · omega
  have A9 : At V7 g9 cur9 25 := hg9
  have hmm : p.2.2.1 * 6 ≤ c9 * 6 := Nat.mul_le_mul_right 6 hc1
  have him : (i + 1) * 6 ≤ p.2.2.1 * 6 := Nat.mul_le_mul_right 6 (by omega)
  have CL9 : Cl V7 g9 (o9 + i * 6) l1 p1 := ⟨cur9, 25, hg9, fun j hj => by rw [Nat.add_assoc, hc4 _ (by omega), hp2 j hj]⟩
  rw [hC] at hrun
  -- what the end must show
  have FIN : Hid (∀ (F8 F9 F W : World) (p1' : Pl) (g10 : Nat), Kp [] V7 F8 → F9 = put6 F8 g9 (o9 + i * 6) (.int .i64 l1.kind) (.int .i64 l1.ns) (.string l1.name) (.slice p1'.1.1 p1'.1.2.1 p1'.1.2.2) (.string l1.text) (.slice p1'.2.1 p1'.2.2.1 p1'.2.2.2) → F = F9.setCell ⟨s, 5, none⟩ (.slice (some ⟨g9, o9, none⟩) p.2.2.1 c9) → Nd (fun z => ((Q z ∧ z < s) ∨ V7.heap.size ≤ z) ∧ z ≠ g10) F8 l1 (G k1) p1' → Kp [s + 1 + 1] F W → Nd (fun z => Q z ∨ w.heap.size ≤ z) W l (k.turn G i) (p.1, (some ⟨g9, o9, none⟩, p.2.2.1, c9)) ∧ Kp [] w W) := by
    intro F8 F9 F W p1' g10 h1 h2 h3 h4 h5
    have hk9 : Kp [g9] F8 F9 := by rw [h2]; exact (Kp.refl _ _).put6 (Or.inl (by simp)) _ _ _ _ _ _ _
    have hkF : Kp [s] F9 F := by rw [h3]; exact (Kp.refl _ _).setCell (Or.inl (by simp)) _
    have kB8 : Kp [] B F8 := k7.trans h1 (fun z hz => by simp at hz)
    have kw8 : Kp [] w F8 := kB.trans kB8 (fun z hz => by simp at hz)
    have z1 := kB8.size
    have z2 := h1.size
    have kwW : Kp [] w W := ((kw8.trans hk9 (fun z hz => Or.inr (by simp at hz; omega))).trans hkF (fun z hz => Or.inr (by simp at hz; omega))).trans h5 (fun z hz => Or.inr (by simp at hz; omega))
    have kW9 : Kp [s, s + 1 + 1] F9 W := (hkF.mono (T := [s, s + 1 + 1]) (fun z hz => Or.inl (by simp at hz; simp [hz]))).trans h5 (fun z hz => Or.inl (by simp at hz; simp [hz]))
    have k8W : Kp [g9, s, s + 1 + 1] F8 W := (hk9.mono (T := [g9, s, s + 1 + 1]) (fun z hz => Or.inl (by simp at hz; simp [hz]))).trans kW9 (fun z hz => Or.inl (by simp at hz; simp; omega))
    -- the new node lies apart from what is written
    have z3 := A9.lt
    have z4 := k7.size
    have hndW : Nd (fun z => Q z ∨ w.heap.size ≤ z) W l1 (G k1) p1' := (h4.keep (k8W.sms (fun z hz => by simp; omega))).mono (fun z _ hz => by
      rcases hz.1 with h6 | h6
      · exact Or.inl h6.1
      · exact Or.inr (by omega))
    refine ⟨⟨(hatt.kept kwW).mono (fun _ _ h => Or.inl h), ⟨_, ?_, ((hz2.kept kwW).mono (fun _ _ h => Or.inl h)).put e1 G hndW⟩⟩, kwW⟩
    have h7 := Rk.put6 (c := c9) (A9.kept h1 (by simp)) hc4 hzl hc1 (show i < p.2.2.1 by omega) (by omega) l1 p1'
    rw [← h2] at h7
    have h8 := h7.at_known (R := fun z => s + 3 ≤ z) hg9n
    exact (h8.keep (kW9.sms (fun z hz => by simp; omega))).mono (fun _ _ h => Or.inr (by omega))
  have hm : p.2.2.1 ≤ 1000 := by omega
  have him' : i < p.2.2.1 := by omega
  have hp1' : Nd (fun z => Q z ∧ z < w.heap.size) w l1 k1 p1 := hp1.mono (fun z hz h => ⟨h, hz⟩)
  obtain ⟨bw, ow, rfl, hcw⟩ := hr.head
  have cwB := hcw B kB
  have hcap := hr.cap
  have htl := hr.tail
  have kw7 : Kp [] w V7 := kB.trans k7 (fun z hz => by simp at hz)
  rw [hs] at HU hp1'
  have z9 := A9.lt
  have KN : Hid (s + 3 ≤ g9 ∧ g9 < V7.heap.size ∧ s + 3 ≤ V7.heap.size) := ⟨hg9n, z9, by have := k7.size; omega⟩
  have KB7 : Hid (Kp [] B V7) := k7
  have j1 : (0 : Int) ≤ (i : Int) := by omega
  have j2 : (i : Int) < (p.2.2.1 : Int) := by omega
  have j3 : (1 : Int) ≤ (n : Int) + 1 := by omega
  have j4 : (n : Int) + 1 ≤ (c : Int) := by omega
  have tn : (((n + 1 : Nat) : Int) == 0) = false := int_eq_no (by omega)
  simp only [six] at A0 A1
  have TL : Hid (∀ W, Kp [] V7 W → Rk Any 1 W (some ⟨bw, ow + 1, none⟩) n (c - 1) (iv ws)) := fun W kW => (htl.kept kw7).kept kW
  have TL0 : Hid (c = 1 → ∀ W, Kp [] V7 W → Rk Any 1 W (some ⟨bw, ow, none⟩) 0 0 (iv ws) ∧ n = 0) := fun hc W kW => by
    have h0 : n = 0 := by omega
    have h1 := htl.len
    subst h0
    have h2 : iv ws = [] := List.eq_nil_of_length_eq_zero (by show (List.map _ ws).length = 0; rw [h1])
    rw [h2]
    exact ⟨Rk.nil _ 1 _ _ 0, rfl⟩
  have HC : Hid (∀ (W : World) (wo1 : Option Addr) (c1 : Nat), Kp [] V7 W → Rk Any 1 W wo1 n c1 (iv ws) → Calls Try.prog 29 #[wv l1 p1, .slice wo1 n c1, wv x q] W fun e w' => ∃ p' ao m d, e = .returned (.tuple #[wv l1 p', .slice ao m d]) ∧ Nd (fun z => (Q z ∧ z < s) ∨ W.heap.size ≤ z) w' l1 (G k1) p' ∧ Rk (fun z => W.heap.size ≤ z) 1 w' ao m d (iv rs) ∧ Kp [] W w') := fun W wo1 c1 kW hW => HU W p1 wo1 c1 (kw7.trans kW (fun z hz => by simp at hz)) ((hp1'.kept kw7).kept kW) hW
  clear h hB hC sB szC hz1 hz2 ho hatt hkc hkl hn HU hp1 hp1' hp2 hr hcw htl hc4 hc3 hc2 hc1 hmm him b9 q9 oC kC e1 hi hzl hg9 him'
  clear k7 kw7 kB hg9n z9
  obtain ⟨⟨pa, pn, pcap⟩, bo, m, d⟩ := p
  simp only [wv] at HW FIN HC hm j2 A0 hrun ⊢
  by_cases hc : c = 1
  · have hn0 := (TL0.out hc _ (Kp.refl _ _)).2
    have TL1 : Hid (∀ W, Kp [] V7 W → Rk Any 1 W (some ⟨bw, ow, none⟩) 0 0 (iv ws)) := fun W kW => (TL0.out hc W kW).1
    clear TL0 TL
    subst hn0
    subst hc
    go_enter Try.func29, Try.ntmps29
    go_upto_region 1 with fail
    rw [HW.out]
    obtain ⟨s5, s5b⟩ := And.intro ((A0.kept ((Kp.refl [] B).alloc (.cells #[] 25)) (by simp)).cell 5) (A0.free 5)
    simp only [List.getElem?_toArray, List.getElem?_cons_succ, List.getElem?_cons_zero] at s5
    go_wp2_with (at_builtin; refine Lib.wpList_append_run _ rfl _ _ _ _ rfl _ _ rfl rfl _ _ (hrun _) ?_)
    clear hrun s5 s5b cwB HW
    have A1v := A1.kept KB7.out (by simp)
    obtain ⟨U0, hU0⟩ : ∃ V, V = V7.drew := ⟨_, rfl⟩
    have k0 : Kp [] V7 U0 := by rw [hU0]; exact (Kp.refl _ _).drew
    refine wp_region_g (S := fun V => At V (s + 1) #[.int .i64 x.kind, .int .i64 x.ns, .string x.name, .slice q.1.1 q.1.2.1 q.1.2.2, .string x.text, .slice q.2.1 q.2.2.1 q.2.2.2] 25 ∧ Cl V g9 (o9 + i * 6) l1 p1) (T := [12, 13]) (by kernel_rfl) ⟨A1v.kept (Kp.refl [] V7).drew (by simp), CL9.keep (Kp.refl [] V7).drew (by simp)⟩ (fun hHeld => ?_)
    rw [← hU0] at hHeld ⊢
    clear hU0 A1v
    refine wpAnyG_pure (i := 0) (oi := { dst := some 51, op := Go.Op.move (Go.Operand.tmp 9), type := 23, pos := "law.go:63", after := #[], guard := none }) (v := ?_) rfl (by kernel_rfl) (by kernel_rfl) (by kernel_rfl) (by kernel_rfl) (fun _ _ _ h => h) (Or.inl ⟨by rfl, ?_⟩) (by assumption) ?_
    rotate_left
    · (intro w; go_simp; try with_reducible rfl)
    simp only [Act.put, List.setIfInBounds_toArray, List.set_cons_zero, List.set_cons_succ]
    refine wpAnyG_pure (i := 1) (oi := { dst := some 52, op := Go.Op.move (Go.Operand.tmp 8), type := 3, pos := "law.go:63", after := #[], guard := none }) (v := ?_) rfl (by kernel_rfl) (by kernel_rfl) (by kernel_rfl) (by kernel_rfl) (fun _ _ _ h => h) (Or.inl ⟨by rfl, ?_⟩) (by assumption) ?_
    rotate_left
    · (intro w; go_simp; try with_reducible rfl)
    simp only [Act.put, List.setIfInBounds_toArray, List.set_cons_zero, List.set_cons_succ]
    refine wpAnyG_pure (i := 2) (oi := { dst := some 53, op := Go.Op.indexAddr 23 (Go.Operand.tmp 51) (Go.Operand.tmp 52), type := 0, pos := "law.go:63", after := #[{ on := 0, ground := Go.Ground.data }, { on := 1, ground := Go.Ground.data }], guard := none }) (v := ?_) rfl (by kernel_rfl) (by kernel_rfl) (by kernel_rfl) (by kernel_rfl) (fun _ _ _ h => h) (Or.inl ⟨by rfl, ?_⟩) (by assumption) ?_
    rotate_left
    · (intro w; go_simp; try with_reducible rfl)
    simp only [Act.put, List.setIfInBounds_toArray, List.set_cons_zero, List.set_cons_succ]
    refine wpAnyG_take (i := 3) (oi := { dst := some 54, op := Go.Op.load 25 (Go.Operand.tmp 53), type := 25, pos := "law.go:63", after := #[{ on := 2, ground := Go.Ground.data }], guard := none }) (v := ?_) rfl (by kernel_rfl) (by kernel_rfl) (by kernel_rfl) (by kernel_rfl) (fun _ _ _ h => h) (Or.inl ⟨by rfl, ?_⟩) (by assumption) ?_
    rotate_left
    · (intro w hSw; (obtain ⟨⟨c0, c1, c2, c3, c4, c5⟩, e0, e1, e2, e3, e4, e5⟩ := And.intro hSw.1.six hSw.2.cells); go_simp; try with_reducible rfl)
    simp only [Act.put, List.setIfInBounds_toArray, List.set_cons_zero, List.set_cons_succ]
    refine wpAnyG_pure (i := 4) (oi := { dst := some 55, op := Go.Op.move (Go.Operand.tmp 1), type := 45, pos := "law.go:63", after := #[], guard := none }) (v := ?_) rfl (by kernel_rfl) (by kernel_rfl) (by kernel_rfl) (by kernel_rfl) (fun _ _ _ h => h) (Or.inl ⟨by rfl, ?_⟩) (by assumption) ?_
    rotate_left
    · (intro w; go_simp; try with_reducible rfl)
    simp only [Act.put, List.setIfInBounds_toArray, List.set_cons_zero, List.set_cons_succ]
    refine wpAnyG_pure (i := 5) (oi := { dst := some 56, op := Go.Op.slice 45 (Go.Operand.tmp 55) (some (Go.Operand.const (Go.Value.int Go.IntKind.i64 1))) none none, type := 45, pos := "law.go:63", after := #[{ on := 4, ground := Go.Ground.data }], guard := none }) (v := ?_) rfl (by kernel_rfl) (by kernel_rfl) (by kernel_rfl) (by kernel_rfl) (fun _ _ _ h => h) (Or.inl ⟨by rfl, ?_⟩) (by assumption) ?_
    rotate_left
    · (intro w; go_simp; try with_reducible rfl)
    simp only [Act.put, List.setIfInBounds_toArray, List.set_cons_zero, List.set_cons_succ]
    refine wpAnyG_take (i := 6) (oi := { dst := some 57, op := Go.Op.load 25 (Go.Operand.tmp 5), type := 25, pos := "law.go:63", after := #[], guard := none }) (v := ?_) rfl (by kernel_rfl) (by kernel_rfl) (by kernel_rfl) (by kernel_rfl) (fun _ _ _ h => h) (Or.inl ⟨by rfl, ?_⟩) (by assumption) ?_
    rotate_left
    · (intro w hSw; (obtain ⟨⟨c0, c1, c2, c3, c4, c5⟩, e0, e1, e2, e3, e4, e5⟩ := And.intro hSw.1.six hSw.2.cells); go_simp; try with_reducible rfl)
    simp only [Act.put, List.setIfInBounds_toArray, List.set_cons_zero, List.set_cons_succ]
    refine wpAnyG_ready (rs := [7, 11]) (by kernel_rfl) (by simp) ?_
    refine AllReadyG.cons (o := { dst := some 58, op := Go.Op.call { callee := Go.Callee.value (Go.Operand.func 29), args := #[Go.Operand.tmp 54, Go.Operand.tmp 56, Go.Operand.tmp 57], argTypes := #[25, 45, 25] }, type := 48, pos := "law.go:63", after := #[{ on := 3, ground := Go.Ground.data }, { on := 5, ground := Go.Ground.data }, { on := 6, ground := Go.Ground.data }], guard := none }) rfl (fun K hK => ?_) ?_
    · go_simp
      go_at_call 29
      refine (HC.out U0 _ _ k0 (TL1.out _ k0)).mono ?_
      rintro e U1 ⟨p2, ao2, n2, d2, rfl, ND, RB, u1⟩
      go_wp2_with fail
      have k1 : Kp [] V7 U1 := k0.trans u1 (fun z hz => by simp at hz)
      have s0 := k0.size
      have ND := ND.mono (R := fun z => ((Q z ∧ z < s) ∨ V7.heap.size ≤ z) ∧ z < U1.heap.size) (fun z hl hz => ⟨by rcases hz with h1 | h1; exact Or.inl h1; exact Or.inr (by omega), hl⟩)
      have RB := RB.mono (R := fun z => V7.heap.size ≤ z ∧ z < U1.heap.size) (fun z hl hz => ⟨by omega, hl⟩)
      refine hK.out _ _ ⟨At.kept hHeld.1 u1 (by simp), Cl.keep hHeld.2 u1 (by simp)⟩ (fun hHeld1 => ?_)
      clear hK K hHeld
      try simp only [Act.put, List.setIfInBounds_toArray, List.set_cons_zero, List.set_cons_succ]
      refine wpAnyG_pure (i := 8) (oi := { dst := some 50, op := Go.Op.move (Go.Operand.tmp 58), type := 48, pos := "law.go:63", after := #[{ on := 7, ground := Go.Ground.data }], guard := none }) (v := ?_) rfl (by kernel_rfl) (by kernel_rfl) (by kernel_rfl) (by kernel_rfl) (fun _ _ _ h => h) (Or.inl ⟨by rfl, ?_⟩) (by assumption) ?_
      rotate_left
      · (intro w; go_simp; try with_reducible rfl)
      simp only [Act.put, List.setIfInBounds_toArray, List.set_cons_zero, List.set_cons_succ]
      refine wpAnyG_pure (i := 9) (oi := { dst := some 59, op := Go.Op.extract (Go.Operand.tmp 50) 0, type := 25, pos := "law.go:63", after := #[{ on := 8, ground := Go.Ground.data }], guard := none }) (v := ?_) rfl (by kernel_rfl) (by kernel_rfl) (by kernel_rfl) (by kernel_rfl) (fun _ _ _ h => h) (Or.inl ⟨by rfl, ?_⟩) (by assumption) ?_
      rotate_left
      · (intro w; go_simp; try with_reducible rfl)
      simp only [Act.put, List.setIfInBounds_toArray, List.set_cons_zero, List.set_cons_succ]
      refine wpAnyG_pure (i := 10) (oi := { dst := some 60, op := Go.Op.extract (Go.Operand.tmp 50) 1, type := 45, pos := "law.go:63", after := #[{ on := 8, ground := Go.Ground.data }, { on := 12, ground := Go.Ground.gcOnly Go.Departure.lateStores }], guard := none }) (v := ?_) rfl (by kernel_rfl) (by kernel_rfl) (by kernel_rfl) (by kernel_rfl) (fun _ _ _ h => h) (Or.inl ⟨by rfl, ?_⟩) (by assumption) ?_
      rotate_left
      · (intro w; go_simp; try with_reducible rfl)
      simp only [Act.put, List.setIfInBounds_toArray, List.set_cons_zero, List.set_cons_succ]
      refine wpAnyG_ready (rs := [11]) (by kernel_rfl) (by simp) ?_
      refine AllReadyG.cons (o := { dst := some 10, op := Go.Op.alloc 25, type := 0, pos := "law.go:63", after := #[], guard := none }) rfl (fun K hK => ?_) AllReadyG.nil
      go_simp
      obtain ⟨U2, hU⟩ : ∃ V, V = World.alloc U1 (.cells #[.int .i64 0, .int .i64 0, .string ⟨#[]⟩, .slice none 0 0, .string ⟨#[]⟩, .slice none 0 0] 25) := ⟨_, rfl⟩
      rw [← hU]
      have u2 : Kp [] U1 U2 := by rw [hU]; exact (Kp.refl _ _).alloc _
      have k2 : Kp [] V7 U2 := k1.trans u2 (fun z hz => by simp at hz)
      have T10 : At U2 U1.heap.size #[.int .i64 0, .int .i64 0, .string ⟨#[]⟩, .slice none 0 0, .string ⟨#[]⟩, .slice none 0 0] 25 := by rw [hU]; exact At.new _ _ _
      have zz : U1.heap.size < U2.heap.size := by rw [hU]; simp
      have n10 := k1.size
      obtain ⟨g10, hg10⟩ : ∃ g, U1.heap.size = g := ⟨_, rfl⟩
      rw [hg10] at T10 ⊢
      clear hU
      have ND := (ND.kept u2).mono (R := (fun z => ((Q z ∧ z < s) ∨ V7.heap.size ≤ z) ∧ z ≠ g10)) (fun z _ hz => ⟨hz.1, by have := hz.2; omega⟩)
      have RB := (RB.kept u2).mono (R := (fun z => V7.heap.size ≤ z ∧ z ≠ g10)) (fun z _ hz => ⟨hz.1, by have := hz.2; omega⟩)
      refine hK.out _ _ ⟨At.kept hHeld1.1 u2 (by simp), Cl.keep hHeld1.2 u2 (by simp)⟩ (fun hHeld2 => ?_)
      clear hK K hHeld1
      try simp only [Act.put, List.setIfInBounds_toArray, List.set_cons_zero, List.set_cons_succ]
      refine wpAnyG_free (by kernel_rfl) ?_
      refine wpAny_ready (rs := [12]) (by kernel_rfl) (by simp) ?_
      refine AllReady.cons (o := { dst := none, op := Go.Op.store 25 (Go.Operand.tmp 10) (Go.Operand.tmp 59), type := 0, pos := "law.go:63", after := #[{ on := 11, ground := Go.Ground.data }, { on := 9, ground := Go.Ground.data }, { on := 7, ground := Go.Ground.chain }, { on := 0, ground := Go.Ground.phase }, { on := 1, ground := Go.Ground.phase }, { on := 2, ground := Go.Ground.phase }, { on := 3, ground := Go.Ground.phase }, { on := 4, ground := Go.Ground.phase }, { on := 5, ground := Go.Ground.phase }, { on := 6, ground := Go.Ground.phase }, { on := 7, ground := Go.Ground.phase }, { on := 8, ground := Go.Ground.phase }, { on := 9, ground := Go.Ground.phase }, { on := 10, ground := Go.Ground.textOnly Go.Departure.lateStores }, { on := 11, ground := Go.Ground.phase }], guard := none }) rfl (fun K hK => ?_) AllReady.nil
      obtain ⟨d20, d21, d22, d23, d24, d25⟩ := T10.six
      have fr2 := fun j => T10.free j
      go_simp
      refine hK _ _ ?_
      clear hK K
      try simp only [Act.put, List.setIfInBounds_toArray, List.set_cons_zero, List.set_cons_succ]
      refine wpAny_take (i := 13) (oi := { dst := some 11, op := Go.Op.assign (Go.Operand.tmp 60), type := 45, pos := "law.go:63", after := #[{ on := 10, ground := Go.Ground.data }, { on := 12, ground := Go.Ground.chain }, { on := 0, ground := Go.Ground.phase }, { on := 1, ground := Go.Ground.phase }, { on := 2, ground := Go.Ground.phase }, { on := 3, ground := Go.Ground.phase }, { on := 4, ground := Go.Ground.phase }, { on := 5, ground := Go.Ground.phase }, { on := 6, ground := Go.Ground.phase }, { on := 7, ground := Go.Ground.phase }, { on := 8, ground := Go.Ground.phase }, { on := 9, ground := Go.Ground.phase }, { on := 10, ground := Go.Ground.phase }, { on := 11, ground := Go.Ground.phase }, { on := 12, ground := Go.Ground.phase }], guard := none }) (v := ?_) rfl (by kernel_rfl) (by kernel_rfl) (by kernel_rfl) (fun _ _ _ h => h) (Or.inl ⟨by rfl, ?_⟩) ?_
      rotate_left
      · (intro w; go_simp; try with_reducible rfl)
      simp only [Act.put, List.setIfInBounds_toArray, List.set_cons_zero, List.set_cons_succ]
      refine wpAny_done (by kernel_rfl) ?_ _
      clear d20 d21 d22 d23 d24 d25 fr2
      obtain ⟨F8, hF8⟩ : ∃ F, F = putZ U2 g10 (.int .i64 l1.kind) (.int .i64 l1.ns) (.string l1.name) (.slice p2.1.1 p2.1.2.1 p2.1.2.2) (.string l1.text) (.slice p2.2.1 p2.2.2.1 p2.2.2.2) := ⟨_, rfl⟩
      have hF8u := hF8
      unfold putZ at hF8u
      rw [← hF8u]
      clear hF8u
      have v8 : Kp [g10] U2 F8 := by rw [hF8]; exact (Kp.refl _ _).putZ (g := g10) (Or.inl (by simp)) (.int .i64 l1.kind) (.int .i64 l1.ns) (.string l1.name) (.slice p2.1.1 p2.1.2.1 p2.1.2.2) (.string l1.text) (.slice p2.2.1 p2.2.2.1 p2.2.2.2)
      have T10 : At F8 g10 #[.int .i64 l1.kind, .int .i64 l1.ns, .string l1.name, .slice p2.1.1 p2.1.2.1 p2.1.2.2, .string l1.text, .slice p2.2.1 p2.2.2.1 p2.2.2.2] 25 := by rw [hF8]; exact T10.putZ (.int .i64 l1.kind) (.int .i64 l1.ns) (.string l1.name) (.slice p2.1.1 p2.1.2.1 p2.1.2.2) (.string l1.text) (.slice p2.2.1 p2.2.2.1 p2.2.2.2)
      have ng : V7.heap.size ≤ g10 := by omega
      have k8 : Kp [] V7 F8 := k2.trans v8 (fun z hz => Or.inr (by simp at hz; omega))
      have ND := ND.keep (v8.sms (fun z hz => by simp; exact hz.2))
      have RB := RB.keep (v8.sms (fun z hz => by simp; exact hz.2))
      have kB8 : Kp [] B F8 := KB7.out.trans k8 (fun z hz => by simp at hz)
      have A0 := A0.kept kB8 (by simp)
      have A2 := A2.kept kB8 (by simp)
      have A9 := A9.kept k8 (by simp)
      have CL9 := CL9.keep k8 (by simp)
      clear hF8 v8 k1 u1 k2 u2 k0 zz n10 hg10 s0 HC TL1 hHeld2 A1 kB8
      obtain ⟨t0, t1, t2, t3, t4, t5⟩ := T10.six
      obtain ⟨f0, f1, f2, f3, f4, f5⟩ := CL9.cells
      have fr9 := fun j => A9.free j
      go_upto_region 10 with fail
      clear t0 t1 t2 t3 t4 t5 f0 f1 f2 f3 f4 f5 fr9 CL9 T10
      obtain ⟨F9, hF9⟩ : ∃ F, F = put6 F8 g9 (o9 + i * 6) (.int .i64 l1.kind) (.int .i64 l1.ns) (.string l1.name) (.slice p2.1.1 p2.1.2.1 p2.1.2.2) (.string l1.text) (.slice p2.2.1 p2.2.2.1 p2.2.2.2) := ⟨_, rfl⟩
      have hF9u := hF9
      unfold put6 at hF9u
      rw [← hF9u]
      clear hF9u
      have v9 : Kp [g9] F8 F9 := by rw [hF9]; exact (Kp.refl _ _).put6 (g := g9) (Or.inl (by simp)) _ _ _ _ _ _ _
      have KNo := KN.out
      have A0 := A0.kept v9 (by simp; omega)
      have A2 := A2.kept v9 (by simp; omega)
      have RB := RB.keep (v9.sms (fun z hz => by simp; omega))
      have s5 := A0.cell 5
      have f5 := A0.free 5
      simp only [List.getElem?_toArray, List.getElem?_cons_succ, List.getElem?_cons_zero] at s5
      have HF9 : Hid (F9 = put6 F8 g9 (o9 + i * 6) (.int .i64 l1.kind) (.int .i64 l1.ns) (.string l1.name) (.slice p2.1.1 p2.1.2.1 p2.1.2.2) (.string l1.text) (.slice p2.2.1 p2.2.2.1 p2.2.2.2)) := hF9
      clear hF9
      go_upto_region 11 with fail
      clear s5 f5
      obtain ⟨F, hF⟩ : ∃ F, F = World.setCell F9 ⟨s, 5, none⟩ (.slice (some ⟨g9, o9, none⟩) m c9) := ⟨_, rfl⟩
      rw [← hF]
      have v10 : Kp [s] F9 F := by rw [hF]; exact (Kp.refl _ _).setCell (Or.inl (by simp)) _
      have A0 : At F s #[.int .i64 l.kind, .int .i64 l.ns, .string l.name, .slice pa pn pcap, .string l.text, .slice (some ⟨g9, o9, none⟩) m c9] 25 := by rw [hF]; exact A0.set 5 _
      have A2 := A2.kept v10 (by simp; omega)
      have RB := RB.keep (v10.sms (fun z hz => by simp; omega))
      have END : Hid (∀ W, Kp [s + 1 + 1] F W → Nd (fun z => Q z ∨ w.heap.size ≤ z) W l (k.turn G i) ((pa, pn, pcap), (some ⟨g9, o9, none⟩, m, c9)) ∧ Kp [] w W) := fun W kW => FIN.out F8 F9 F W p2 g10 k8 HF9.out hF ND kW
      have zF : s + 3 ≤ F.heap.size := by have := v10.size; have := v9.size; have := k8.size; omega
      clear hF HF9 FIN v9 v10 k8 ND A9 KB7
      obtain ⟨Y0, hY0⟩ : ∃ V, V = F.drew := ⟨_, rfl⟩
      have y0 : Kp [s + 1 + 1] F Y0 := by rw [hY0]; exact (Kp.refl _ _).drew
      have A2 : At Y0 (s + 1 + 1) _ 25 := A2.kept (show Kp [] F Y0 by rw [hY0]; exact (Kp.refl _ _).drew) (by simp)
      have RB := RB.kept (show Kp [] F Y0 by rw [hY0]; exact (Kp.refl _ _).drew)
      refine wp_region_g (S := fun V => At V s #[.int .i64 l.kind, .int .i64 l.ns, .string l.name, .slice pa pn pcap, .string l.text, .slice (some ⟨g9, o9, none⟩) m c9] 25) (T := [5, 6]) (by kernel_rfl) (A0.kept (Kp.refl [] F).drew (by simp)) (fun hHeld => ?_)
      rw [← hY0] at hHeld ⊢
      clear hY0
      refine wpAnyG_take (i := 0) (oi := { dst := some 67, op := Go.Op.load 25 (Go.Operand.tmp 3), type := 25, pos := "law.go:66", after := #[], guard := none }) (v := ?_) rfl (by kernel_rfl) (by kernel_rfl) (by kernel_rfl) (by kernel_rfl) (fun _ _ _ h => h) (Or.inl ⟨by rfl, ?_⟩) (by assumption) ?_
      rotate_left
      · (intro w hSw; (obtain ⟨c0, c1, c2, c3, c4, c5⟩ := At.six hSw); go_simp; try with_reducible rfl)
      simp only [Act.put, List.setIfInBounds_toArray, List.set_cons_zero, List.set_cons_succ]
      refine wpAnyG_pure (i := 1) (oi := { dst := some 68, op := Go.Op.move (Go.Operand.tmp 8), type := 3, pos := "law.go:66", after := #[], guard := none }) (v := ?_) rfl (by kernel_rfl) (by kernel_rfl) (by kernel_rfl) (by kernel_rfl) (fun _ _ _ h => h) (Or.inl ⟨by rfl, ?_⟩) (by assumption) ?_
      rotate_left
      · (intro w; go_simp; try with_reducible rfl)
      simp only [Act.put, List.setIfInBounds_toArray, List.set_cons_zero, List.set_cons_succ]
      refine wpAnyG_pure (i := 3) (oi := { dst := some 70, op := Go.Op.move (Go.Operand.tmp 11), type := 45, pos := "law.go:66", after := #[], guard := none }) (v := ?_) rfl (by kernel_rfl) (by kernel_rfl) (by kernel_rfl) (by kernel_rfl) (fun _ _ _ h => h) (Or.inl ⟨by rfl, ?_⟩) (by assumption) ?_
      rotate_left
      · (intro w; go_simp; try with_reducible rfl)
      simp only [Act.put, List.setIfInBounds_toArray, List.set_cons_zero, List.set_cons_succ]
      refine wpAnyG_ready (rs := [2]) (by kernel_rfl) (by simp) ?_
      refine AllReadyG.cons (o := { dst := some 69, op := Go.Op.buildSlice 45 1 #[(0, Go.Operand.tmp 68)], type := 45, pos := "law.go:66", after := #[{ on := 1, ground := Go.Ground.data }], guard := none }) rfl (fun K hK => ?_) AllReadyG.nil
      go_simp
      obtain ⟨Y1, hY⟩ : ∃ V, V = World.alloc Y0 (.cells #[.int .i64 (i : Int)] 3) := ⟨_, rfl⟩
      rw [← hY]
      have x1 : Kp [] Y0 Y1 := by rw [hY]; exact (Kp.refl _ _).alloc _
      have o11 : OwnK 1 Y1 3 (.slice (some ⟨Y0.heap.size, 0, none⟩) 1 1) 1 [.int .i64 (i : Int)] := by rw [hY]; exact ownK_new 1 _ 3 #[.int .i64 (i : Int)] [.int .i64 (i : Int)] 1 1 rfl (Nat.le_refl _) (by decide) (by simp) (fun j hj => by simp)
      have n11 := y0.size
      obtain ⟨g11, hg11⟩ : ∃ g, Y0.heap.size = g := ⟨_, rfl⟩
      rw [hg11] at o11 ⊢
      have RB := RB.kept x1
      have A2 := A2.kept x1 (by simp)
      have y1 : Kp [s + 1 + 1] F Y1 := y0.trans x1 (fun z hz => by simp at hz)
      clear hY
      refine hK.out _ _ (At.kept hHeld x1 (by simp)) (fun hHeld1 => ?_)
      clear hK K hHeld
      try simp only [Act.put, List.setIfInBounds_toArray, List.set_cons_zero, List.set_cons_succ]
      refine wpAnyG_ready (rs := [4]) (by kernel_rfl) (by simp) ?_
      refine AllReadyG.cons (o := { dst := some 71, op := Go.Op.call { callee := Go.Callee.builtin Go.Builtin.append, args := #[Go.Operand.tmp 69, Go.Operand.tmp 70], argTypes := #[45, 45] }, type := 45, pos := "law.go:66", after := #[{ on := 2, ground := Go.Ground.data }, { on := 3, ground := Go.Ground.data }], guard := none }) rfl (fun K hK => ?_) AllReadyG.nil
      have hn2 := RB.len
      rw [iv_len] at hn2
      refine step_appK (by rfl) _ _ 45 (by rfl) Try.underlying45 info3t rfl (by decide) _ _ (by rfl) (by rfl) 1 _ o11 n2 (iv rs) (RB.src Try.underlying45 (iv_one rs)) (fun h => by cases h) (by omega) (fun v11 Y2 o12 x2 b11 hv11 => ?_)
      obtain ⟨a11, c11, rfl⟩ := hv11
      have y2 : Kp [s + 1 + 1] F Y2 := y1.trans x2 (fun z hz => Or.inr (by simp [blk] at hz; omega))
      have A2 := A2.kept x2 (by simp [blk]; omega)
      have b11 : ∀ z, z ∈ blk (.slice (some a11) (1 + n2) c11) → s + 3 ≤ z := fun z hz => by
        have := y1.size
        rcases b11 z hz with h1 | h1
        · simp [blk] at h1; omega
        · omega
      refine hK.out _ _ (At.kept hHeld1 x2 (by simp [blk]; omega)) (fun hHeld2 => ?_)
      clear hK K hHeld1
      try simp only [Act.put, List.setIfInBounds_toArray, List.set_cons_zero, List.set_cons_succ]
      refine wpAnyG_free (by kernel_rfl) ?_
      refine wpAny_ready (rs := [5]) (by kernel_rfl) (by simp) ?_
      refine AllReady.cons (o := { dst := none, op := Go.Op.store 25 (Go.Operand.tmp 6) (Go.Operand.tmp 67), type := 0, pos := "law.go:66", after := #[{ on := 0, ground := Go.Ground.data }, { on := 4, ground := Go.Ground.chain }, { on := 0, ground := Go.Ground.phase }, { on := 1, ground := Go.Ground.textOnly Go.Departure.lateStores }, { on := 2, ground := Go.Ground.textOnly Go.Departure.lateStores }, { on := 3, ground := Go.Ground.textOnly Go.Departure.lateStores }, { on := 4, ground := Go.Ground.textOnly Go.Departure.lateStoresUnsure }], guard := none }) rfl (fun K hK => ?_) AllReady.nil
      obtain ⟨d20, d21, d22, d23, d24, d25⟩ := A2.six
      have fr2 := fun j => A2.free j
      go_simp
      refine hK _ _ ?_
      clear hK K
      try simp only [Act.put, List.setIfInBounds_toArray, List.set_cons_zero, List.set_cons_succ]
      refine wpAny_take (i := 6) (oi := { dst := some 7, op := Go.Op.assign (Go.Operand.tmp 71), type := 45, pos := "law.go:66", after := #[{ on := 4, ground := Go.Ground.data }, { on := 5, ground := Go.Ground.chain }, { on := 0, ground := Go.Ground.phase }, { on := 1, ground := Go.Ground.phase }, { on := 2, ground := Go.Ground.phase }, { on := 3, ground := Go.Ground.phase }, { on := 4, ground := Go.Ground.phase }, { on := 5, ground := Go.Ground.phase }], guard := none }) (v := ?_) rfl (by kernel_rfl) (by kernel_rfl) (by kernel_rfl) (fun _ _ _ h => h) (Or.inl ⟨by rfl, ?_⟩) ?_
      rotate_left
      · (intro w; go_simp; try with_reducible rfl)
      simp only [Act.put, List.setIfInBounds_toArray, List.set_cons_zero, List.set_cons_succ]
      refine wpAny_done (by kernel_rfl) ?_ _
      clear d20 d21 d22 d23 d24 d25 fr2
      obtain ⟨W, hW⟩ : ∃ V, V = putZ Y2 (s + 1 + 1) (.int .i64 l.kind) (.int .i64 l.ns) (.string l.name) (.slice pa pn pcap) (.string l.text) (.slice (some ⟨g9, o9, none⟩) m c9) := ⟨_, rfl⟩
      have hWu := hW
      unfold putZ at hWu
      rw [← hWu]
      clear hWu
      have x3 : Kp [s + 1 + 1] Y2 W := by rw [hW]; exact (Kp.refl _ _).putZ (g := s + 1 + 1) (Or.inl (by simp)) (.int .i64 l.kind) (.int .i64 l.ns) (.string l.name) (.slice pa pn pcap) (.string l.text) (.slice (some ⟨g9, o9, none⟩) m c9)
      have y3 : Kp [s + 1 + 1] F W := y2.trans x3 (fun z hz => Or.inl hz)
      have C2 : At W (s + 1 + 1) #[.int .i64 l.kind, .int .i64 l.ns, .string l.name, .slice pa pn pcap, .string l.text, .slice (some ⟨g9, o9, none⟩) m c9] 25 := by rw [hW]; exact A2.putZ (.int .i64 l.kind) (.int .i64 l.ns) (.string l.name) (.slice pa pn pcap) (.string l.text) (.slice (some ⟨g9, o9, none⟩) m c9)
      have o13 := o12.keep x3 (fun z hz => by have := b11 z hz; simp; omega)
      clear hW
      obtain ⟨d0, d1, d2, d3, d4, d5⟩ := C2.six
      obtain ⟨E1, E2⟩ := END.out _ y3
      clear END
      go_wp2
      refine bodyPost_ret (v := .tuple #[.agg #[.int .i64 l.kind, .int .i64 l.ns, .string l.name, .slice pa pn pcap, .string l.text, .slice (some ⟨g9, o9, none⟩) m c9], .slice (some a11) (1 + n2) c11]) (by simp [results, go_sem, d0, d1, d2, d3, d4, d5]) rfl ⟨((pa, pn, pcap), (some ⟨g9, o9, none⟩, m, c9)), _, _, _, rfl, E1, ?_, E2⟩
      exact Rk.of_own o13 rfl (fun z hz => by have := b11 z hz; omega)
    refine AllReadyG.cons (o := { dst := some 10, op := Go.Op.alloc 25, type := 0, pos := "law.go:63", after := #[], guard := none }) rfl (fun K hK => ?_) AllReadyG.nil
    go_simp
    obtain ⟨U1, hU⟩ : ∃ V, V = World.alloc U0 (.cells #[.int .i64 0, .int .i64 0, .string ⟨#[]⟩, .slice none 0 0, .string ⟨#[]⟩, .slice none 0 0] 25) := ⟨_, rfl⟩
    rw [← hU]
    have u1 : Kp [] U0 U1 := by rw [hU]; exact (Kp.refl _ _).alloc _
    have k1 : Kp [] V7 U1 := k0.trans u1 (fun z hz => by simp at hz)
    have T10 : At U1 U0.heap.size #[.int .i64 0, .int .i64 0, .string ⟨#[]⟩, .slice none 0 0, .string ⟨#[]⟩, .slice none 0 0] 25 := by rw [hU]; exact At.new _ _ _
    have zz : U0.heap.size < U1.heap.size := by rw [hU]; simp
    have n10 := k0.size
    obtain ⟨g10, hg10⟩ : ∃ g, U0.heap.size = g := ⟨_, rfl⟩
    rw [hg10] at T10 ⊢
    clear hU
    refine hK.out _ _ ⟨At.kept hHeld.1 u1 (by simp), Cl.keep hHeld.2 u1 (by simp)⟩ (fun hHeld1 => ?_)
    clear hK K hHeld
    try simp only [Act.put, List.setIfInBounds_toArray, List.set_cons_zero, List.set_cons_succ]
    refine wpAnyG_ready (rs := [7]) (by kernel_rfl) (by simp) ?_
    refine AllReadyG.cons (o := { dst := some 58, op := Go.Op.call { callee := Go.Callee.value (Go.Operand.func 29), args := #[Go.Operand.tmp 54, Go.Operand.tmp 56, Go.Operand.tmp 57], argTypes := #[25, 45, 25] }, type := 48, pos := "law.go:63", after := #[{ on := 3, ground := Go.Ground.data }, { on := 5, ground := Go.Ground.data }, { on := 6, ground := Go.Ground.data }], guard := none }) rfl (fun K hK => ?_) AllReadyG.nil
    go_simp
    go_at_call 29
    refine (HC.out U1 _ _ k1 (TL1.out _ k1)).mono ?_
    rintro e U2 ⟨p2, ao2, n2, d2, rfl, ND, RB, u2⟩
    go_wp2_with fail
    have k2 : Kp [] V7 U2 := k1.trans u2 (fun z hz => by simp at hz)
    have s1 := k1.size
    have T10 := T10.kept u2 (by simp)
    have ND := ND.mono (R := (fun z => ((Q z ∧ z < s) ∨ V7.heap.size ≤ z) ∧ z ≠ g10)) (fun z _ hz => ⟨by rcases hz with h1 | h1; exact Or.inl h1; exact Or.inr (by omega), by rcases hz with h1 | h1 <;> have := KN.out <;> omega⟩)
    have RB := RB.mono (R := (fun z => V7.heap.size ≤ z ∧ z ≠ g10)) (fun z _ hz => ⟨by omega, by omega⟩)
    refine hK.out _ _ ⟨At.kept hHeld1.1 u2 (by simp), Cl.keep hHeld1.2 u2 (by simp)⟩ (fun hHeld2 => ?_)
    clear hK K hHeld1
    try simp only [Act.put, List.setIfInBounds_toArray, List.set_cons_zero, List.set_cons_succ]
    refine wpAnyG_pure (i := 8) (oi := { dst := some 50, op := Go.Op.move (Go.Operand.tmp 58), type := 48, pos := "law.go:63", after := #[{ on := 7, ground := Go.Ground.data }], guard := none }) (v := ?_) rfl (by kernel_rfl) (by kernel_rfl) (by kernel_rfl) (by kernel_rfl) (fun _ _ _ h => h) (Or.inl ⟨by rfl, ?_⟩) (by assumption) ?_
    rotate_left
    · (intro w; go_simp; try with_reducible rfl)
    simp only [Act.put, List.setIfInBounds_toArray, List.set_cons_zero, List.set_cons_succ]
    refine wpAnyG_pure (i := 9) (oi := { dst := some 59, op := Go.Op.extract (Go.Operand.tmp 50) 0, type := 25, pos := "law.go:63", after := #[{ on := 8, ground := Go.Ground.data }], guard := none }) (v := ?_) rfl (by kernel_rfl) (by kernel_rfl) (by kernel_rfl) (by kernel_rfl) (fun _ _ _ h => h) (Or.inl ⟨by rfl, ?_⟩) (by assumption) ?_
    rotate_left
    · (intro w; go_simp; try with_reducible rfl)
    simp only [Act.put, List.setIfInBounds_toArray, List.set_cons_zero, List.set_cons_succ]
    refine wpAnyG_pure (i := 10) (oi := { dst := some 60, op := Go.Op.extract (Go.Operand.tmp 50) 1, type := 45, pos := "law.go:63", after := #[{ on := 8, ground := Go.Ground.data }, { on := 12, ground := Go.Ground.gcOnly Go.Departure.lateStores }], guard := none }) (v := ?_) rfl (by kernel_rfl) (by kernel_rfl) (by kernel_rfl) (by kernel_rfl) (fun _ _ _ h => h) (Or.inl ⟨by rfl, ?_⟩) (by assumption) ?_
    rotate_left
    · (intro w; go_simp; try with_reducible rfl)
    simp only [Act.put, List.setIfInBounds_toArray, List.set_cons_zero, List.set_cons_succ]
    refine wpAnyG_free (by kernel_rfl) ?_
    refine wpAny_ready (rs := [12]) (by kernel_rfl) (by simp) ?_
    refine AllReady.cons (o := { dst := none, op := Go.Op.store 25 (Go.Operand.tmp 10) (Go.Operand.tmp 59), type := 0, pos := "law.go:63", after := #[{ on := 11, ground := Go.Ground.data }, { on := 9, ground := Go.Ground.data }, { on := 7, ground := Go.Ground.chain }, { on := 0, ground := Go.Ground.phase }, { on := 1, ground := Go.Ground.phase }, { on := 2, ground := Go.Ground.phase }, { on := 3, ground := Go.Ground.phase }, { on := 4, ground := Go.Ground.phase }, { on := 5, ground := Go.Ground.phase }, { on := 6, ground := Go.Ground.phase }, { on := 7, ground := Go.Ground.phase }, { on := 8, ground := Go.Ground.phase }, { on := 9, ground := Go.Ground.phase }, { on := 10, ground := Go.Ground.textOnly Go.Departure.lateStores }, { on := 11, ground := Go.Ground.phase }], guard := none }) rfl (fun K hK => ?_) AllReady.nil
    obtain ⟨d20, d21, d22, d23, d24, d25⟩ := T10.six
    have fr2 := fun j => T10.free j
    go_simp
    refine hK _ _ ?_
    clear hK K
    try simp only [Act.put, List.setIfInBounds_toArray, List.set_cons_zero, List.set_cons_succ]
    refine wpAny_take (i := 13) (oi := { dst := some 11, op := Go.Op.assign (Go.Operand.tmp 60), type := 45, pos := "law.go:63", after := #[{ on := 10, ground := Go.Ground.data }, { on := 12, ground := Go.Ground.chain }, { on := 0, ground := Go.Ground.phase }, { on := 1, ground := Go.Ground.phase }, { on := 2, ground := Go.Ground.phase }, { on := 3, ground := Go.Ground.phase }, { on := 4, ground := Go.Ground.phase }, { on := 5, ground := Go.Ground.phase }, { on := 6, ground := Go.Ground.phase }, { on := 7, ground := Go.Ground.phase }, { on := 8, ground := Go.Ground.phase }, { on := 9, ground := Go.Ground.phase }, { on := 10, ground := Go.Ground.phase }, { on := 11, ground := Go.Ground.phase }, { on := 12, ground := Go.Ground.phase }], guard := none }) (v := ?_) rfl (by kernel_rfl) (by kernel_rfl) (by kernel_rfl) (fun _ _ _ h => h) (Or.inl ⟨by rfl, ?_⟩) ?_
    rotate_left
    · (intro w; go_simp; try with_reducible rfl)
    simp only [Act.put, List.setIfInBounds_toArray, List.set_cons_zero, List.set_cons_succ]
    refine wpAny_done (by kernel_rfl) ?_ _
    clear d20 d21 d22 d23 d24 d25 fr2
    obtain ⟨F8, hF8⟩ : ∃ F, F = putZ U2 g10 (.int .i64 l1.kind) (.int .i64 l1.ns) (.string l1.name) (.slice p2.1.1 p2.1.2.1 p2.1.2.2) (.string l1.text) (.slice p2.2.1 p2.2.2.1 p2.2.2.2) := ⟨_, rfl⟩
    have hF8u := hF8
    unfold putZ at hF8u
    rw [← hF8u]
    clear hF8u
    have v8 : Kp [g10] U2 F8 := by rw [hF8]; exact (Kp.refl _ _).putZ (g := g10) (Or.inl (by simp)) (.int .i64 l1.kind) (.int .i64 l1.ns) (.string l1.name) (.slice p2.1.1 p2.1.2.1 p2.1.2.2) (.string l1.text) (.slice p2.2.1 p2.2.2.1 p2.2.2.2)
    have T10 : At F8 g10 #[.int .i64 l1.kind, .int .i64 l1.ns, .string l1.name, .slice p2.1.1 p2.1.2.1 p2.1.2.2, .string l1.text, .slice p2.2.1 p2.2.2.1 p2.2.2.2] 25 := by rw [hF8]; exact T10.putZ (.int .i64 l1.kind) (.int .i64 l1.ns) (.string l1.name) (.slice p2.1.1 p2.1.2.1 p2.1.2.2) (.string l1.text) (.slice p2.2.1 p2.2.2.1 p2.2.2.2)
    have ng : V7.heap.size ≤ g10 := by omega
    have k8 : Kp [] V7 F8 := k2.trans v8 (fun z hz => Or.inr (by simp at hz; omega))
    have ND := ND.keep (v8.sms (fun z hz => by simp; exact hz.2))
    have RB := RB.keep (v8.sms (fun z hz => by simp; exact hz.2))
    have kB8 : Kp [] B F8 := KB7.out.trans k8 (fun z hz => by simp at hz)
    have A0 := A0.kept kB8 (by simp)
    have A2 := A2.kept kB8 (by simp)
    have A9 := A9.kept k8 (by simp)
    have CL9 := CL9.keep k8 (by simp)
    clear hF8 v8 k1 u1 k2 u2 k0 zz n10 hg10 s1 HC TL1 hHeld2 A1 kB8
    obtain ⟨t0, t1, t2, t3, t4, t5⟩ := T10.six
    obtain ⟨f0, f1, f2, f3, f4, f5⟩ := CL9.cells
    have fr9 := fun j => A9.free j
    go_upto_region 10 with fail
    clear t0 t1 t2 t3 t4 t5 f0 f1 f2 f3 f4 f5 fr9 CL9 T10
    obtain ⟨F9, hF9⟩ : ∃ F, F = put6 F8 g9 (o9 + i * 6) (.int .i64 l1.kind) (.int .i64 l1.ns) (.string l1.name) (.slice p2.1.1 p2.1.2.1 p2.1.2.2) (.string l1.text) (.slice p2.2.1 p2.2.2.1 p2.2.2.2) := ⟨_, rfl⟩
    have hF9u := hF9
    unfold put6 at hF9u
    rw [← hF9u]
    clear hF9u
    have v9 : Kp [g9] F8 F9 := by rw [hF9]; exact (Kp.refl _ _).put6 (g := g9) (Or.inl (by simp)) _ _ _ _ _ _ _
    have KNo := KN.out
    have A0 := A0.kept v9 (by simp; omega)
    have A2 := A2.kept v9 (by simp; omega)
    have RB := RB.keep (v9.sms (fun z hz => by simp; omega))
    have s5 := A0.cell 5
    have f5 := A0.free 5
    simp only [List.getElem?_toArray, List.getElem?_cons_succ, List.getElem?_cons_zero] at s5
    have HF9 : Hid (F9 = put6 F8 g9 (o9 + i * 6) (.int .i64 l1.kind) (.int .i64 l1.ns) (.string l1.name) (.slice p2.1.1 p2.1.2.1 p2.1.2.2) (.string l1.text) (.slice p2.2.1 p2.2.2.1 p2.2.2.2)) := hF9
    clear hF9
    go_upto_region 11 with fail
    clear s5 f5
    obtain ⟨F, hF⟩ : ∃ F, F = World.setCell F9 ⟨s, 5, none⟩ (.slice (some ⟨g9, o9, none⟩) m c9) := ⟨_, rfl⟩
    rw [← hF]
    have v10 : Kp [s] F9 F := by rw [hF]; exact (Kp.refl _ _).setCell (Or.inl (by simp)) _
    have A0 : At F s #[.int .i64 l.kind, .int .i64 l.ns, .string l.name, .slice pa pn pcap, .string l.text, .slice (some ⟨g9, o9, none⟩) m c9] 25 := by rw [hF]; exact A0.set 5 _
    have A2 := A2.kept v10 (by simp; omega)
    have RB := RB.keep (v10.sms (fun z hz => by simp; omega))
    have END : Hid (∀ W, Kp [s + 1 + 1] F W → Nd (fun z => Q z ∨ w.heap.size ≤ z) W l (k.turn G i) ((pa, pn, pcap), (some ⟨g9, o9, none⟩, m, c9)) ∧ Kp [] w W) := fun W kW => FIN.out F8 F9 F W p2 g10 k8 HF9.out hF ND kW
    have zF : s + 3 ≤ F.heap.size := by have := v10.size; have := v9.size; have := k8.size; omega
    clear hF HF9 FIN v9 v10 k8 ND A9 KB7
    obtain ⟨Y0, hY0⟩ : ∃ V, V = F.drew := ⟨_, rfl⟩
    have y0 : Kp [s + 1 + 1] F Y0 := by rw [hY0]; exact (Kp.refl _ _).drew
    have A2 : At Y0 (s + 1 + 1) _ 25 := A2.kept (show Kp [] F Y0 by rw [hY0]; exact (Kp.refl _ _).drew) (by simp)
    have RB := RB.kept (show Kp [] F Y0 by rw [hY0]; exact (Kp.refl _ _).drew)
    refine wp_region_g (S := fun V => At V s #[.int .i64 l.kind, .int .i64 l.ns, .string l.name, .slice pa pn pcap, .string l.text, .slice (some ⟨g9, o9, none⟩) m c9] 25) (T := [5, 6]) (by kernel_rfl) (A0.kept (Kp.refl [] F).drew (by simp)) (fun hHeld => ?_)
    rw [← hY0] at hHeld ⊢
    clear hY0
    refine wpAnyG_take (i := 0) (oi := { dst := some 67, op := Go.Op.load 25 (Go.Operand.tmp 3), type := 25, pos := "law.go:66", after := #[], guard := none }) (v := ?_) rfl (by kernel_rfl) (by kernel_rfl) (by kernel_rfl) (by kernel_rfl) (fun _ _ _ h => h) (Or.inl ⟨by rfl, ?_⟩) (by assumption) ?_
    rotate_left
    · (intro w hSw; (obtain ⟨c0, c1, c2, c3, c4, c5⟩ := At.six hSw); go_simp; try with_reducible rfl)
    simp only [Act.put, List.setIfInBounds_toArray, List.set_cons_zero, List.set_cons_succ]
    refine wpAnyG_pure (i := 1) (oi := { dst := some 68, op := Go.Op.move (Go.Operand.tmp 8), type := 3, pos := "law.go:66", after := #[], guard := none }) (v := ?_) rfl (by kernel_rfl) (by kernel_rfl) (by kernel_rfl) (by kernel_rfl) (fun _ _ _ h => h) (Or.inl ⟨by rfl, ?_⟩) (by assumption) ?_
    rotate_left
    · (intro w; go_simp; try with_reducible rfl)
    simp only [Act.put, List.setIfInBounds_toArray, List.set_cons_zero, List.set_cons_succ]
    refine wpAnyG_pure (i := 3) (oi := { dst := some 70, op := Go.Op.move (Go.Operand.tmp 11), type := 45, pos := "law.go:66", after := #[], guard := none }) (v := ?_) rfl (by kernel_rfl) (by kernel_rfl) (by kernel_rfl) (by kernel_rfl) (fun _ _ _ h => h) (Or.inl ⟨by rfl, ?_⟩) (by assumption) ?_
    rotate_left
    · (intro w; go_simp; try with_reducible rfl)
    simp only [Act.put, List.setIfInBounds_toArray, List.set_cons_zero, List.set_cons_succ]
    refine wpAnyG_ready (rs := [2]) (by kernel_rfl) (by simp) ?_
    refine AllReadyG.cons (o := { dst := some 69, op := Go.Op.buildSlice 45 1 #[(0, Go.Operand.tmp 68)], type := 45, pos := "law.go:66", after := #[{ on := 1, ground := Go.Ground.data }], guard := none }) rfl (fun K hK => ?_) AllReadyG.nil
    go_simp
    obtain ⟨Y1, hY⟩ : ∃ V, V = World.alloc Y0 (.cells #[.int .i64 (i : Int)] 3) := ⟨_, rfl⟩
    rw [← hY]
    have x1 : Kp [] Y0 Y1 := by rw [hY]; exact (Kp.refl _ _).alloc _
    have o11 : OwnK 1 Y1 3 (.slice (some ⟨Y0.heap.size, 0, none⟩) 1 1) 1 [.int .i64 (i : Int)] := by rw [hY]; exact ownK_new 1 _ 3 #[.int .i64 (i : Int)] [.int .i64 (i : Int)] 1 1 rfl (Nat.le_refl _) (by decide) (by simp) (fun j hj => by simp)
    have n11 := y0.size
    obtain ⟨g11, hg11⟩ : ∃ g, Y0.heap.size = g := ⟨_, rfl⟩
    rw [hg11] at o11 ⊢
    have RB := RB.kept x1
    have A2 := A2.kept x1 (by simp)
    have y1 : Kp [s + 1 + 1] F Y1 := y0.trans x1 (fun z hz => by simp at hz)
    clear hY
    refine hK.out _ _ (At.kept hHeld x1 (by simp)) (fun hHeld1 => ?_)
    clear hK K hHeld
    try simp only [Act.put, List.setIfInBounds_toArray, List.set_cons_zero, List.set_cons_succ]
    refine wpAnyG_ready (rs := [4]) (by kernel_rfl) (by simp) ?_
    refine AllReadyG.cons (o := { dst := some 71, op := Go.Op.call { callee := Go.Callee.builtin Go.Builtin.append, args := #[Go.Operand.tmp 69, Go.Operand.tmp 70], argTypes := #[45, 45] }, type := 45, pos := "law.go:66", after := #[{ on := 2, ground := Go.Ground.data }, { on := 3, ground := Go.Ground.data }], guard := none }) rfl (fun K hK => ?_) AllReadyG.nil
    have hn2 := RB.len
    rw [iv_len] at hn2
    refine step_appK (by rfl) _ _ 45 (by rfl) Try.underlying45 info3t rfl (by decide) _ _ (by rfl) (by rfl) 1 _ o11 n2 (iv rs) (RB.src Try.underlying45 (iv_one rs)) (fun h => by cases h) (by omega) (fun v11 Y2 o12 x2 b11 hv11 => ?_)
    obtain ⟨a11, c11, rfl⟩ := hv11
    have y2 : Kp [s + 1 + 1] F Y2 := y1.trans x2 (fun z hz => Or.inr (by simp [blk] at hz; omega))
    have A2 := A2.kept x2 (by simp [blk]; omega)
    have b11 : ∀ z, z ∈ blk (.slice (some a11) (1 + n2) c11) → s + 3 ≤ z := fun z hz => by
      have := y1.size
      rcases b11 z hz with h1 | h1
      · simp [blk] at h1; omega
      · omega
    refine hK.out _ _ (At.kept hHeld1 x2 (by simp [blk]; omega)) (fun hHeld2 => ?_)
    clear hK K hHeld1
    try simp only [Act.put, List.setIfInBounds_toArray, List.set_cons_zero, List.set_cons_succ]
    refine wpAnyG_free (by kernel_rfl) ?_
    refine wpAny_ready (rs := [5]) (by kernel_rfl) (by simp) ?_
    refine AllReady.cons (o := { dst := none, op := Go.Op.store 25 (Go.Operand.tmp 6) (Go.Operand.tmp 67), type := 0, pos := "law.go:66", after := #[{ on := 0, ground := Go.Ground.data }, { on := 4, ground := Go.Ground.chain }, { on := 0, ground := Go.Ground.phase }, { on := 1, ground := Go.Ground.textOnly Go.Departure.lateStores }, { on := 2, ground := Go.Ground.textOnly Go.Departure.lateStores }, { on := 3, ground := Go.Ground.textOnly Go.Departure.lateStores }, { on := 4, ground := Go.Ground.textOnly Go.Departure.lateStoresUnsure }], guard := none }) rfl (fun K hK => ?_) AllReady.nil
    obtain ⟨d20, d21, d22, d23, d24, d25⟩ := A2.six
    have fr2 := fun j => A2.free j
    go_simp
    refine hK _ _ ?_
    clear hK K
    try simp only [Act.put, List.setIfInBounds_toArray, List.set_cons_zero, List.set_cons_succ]
    refine wpAny_take (i := 6) (oi := { dst := some 7, op := Go.Op.assign (Go.Operand.tmp 71), type := 45, pos := "law.go:66", after := #[{ on := 4, ground := Go.Ground.data }, { on := 5, ground := Go.Ground.chain }, { on := 0, ground := Go.Ground.phase }, { on := 1, ground := Go.Ground.phase }, { on := 2, ground := Go.Ground.phase }, { on := 3, ground := Go.Ground.phase }, { on := 4, ground := Go.Ground.phase }, { on := 5, ground := Go.Ground.phase }], guard := none }) (v := ?_) rfl (by kernel_rfl) (by kernel_rfl) (by kernel_rfl) (fun _ _ _ h => h) (Or.inl ⟨by rfl, ?_⟩) ?_
    rotate_left
    · (intro w; go_simp; try with_reducible rfl)
    simp only [Act.put, List.setIfInBounds_toArray, List.set_cons_zero, List.set_cons_succ]
    refine wpAny_done (by kernel_rfl) ?_ _
    clear d20 d21 d22 d23 d24 d25 fr2
    obtain ⟨W, hW⟩ : ∃ V, V = putZ Y2 (s + 1 + 1) (.int .i64 l.kind) (.int .i64 l.ns) (.string l.name) (.slice pa pn pcap) (.string l.text) (.slice (some ⟨g9, o9, none⟩) m c9) := ⟨_, rfl⟩
    have hWu := hW
    unfold putZ at hWu
    rw [← hWu]
    clear hWu
    have x3 : Kp [s + 1 + 1] Y2 W := by rw [hW]; exact (Kp.refl _ _).putZ (g := s + 1 + 1) (Or.inl (by simp)) (.int .i64 l.kind) (.int .i64 l.ns) (.string l.name) (.slice pa pn pcap) (.string l.text) (.slice (some ⟨g9, o9, none⟩) m c9)
    have y3 : Kp [s + 1 + 1] F W := y2.trans x3 (fun z hz => Or.inl hz)
    have C2 : At W (s + 1 + 1) #[.int .i64 l.kind, .int .i64 l.ns, .string l.name, .slice pa pn pcap, .string l.text, .slice (some ⟨g9, o9, none⟩) m c9] 25 := by rw [hW]; exact A2.putZ (.int .i64 l.kind) (.int .i64 l.ns) (.string l.name) (.slice pa pn pcap) (.string l.text) (.slice (some ⟨g9, o9, none⟩) m c9)
    have o13 := o12.keep x3 (fun z hz => by have := b11 z hz; simp; omega)
    clear hW
    obtain ⟨d0, d1, d2, d3, d4, d5⟩ := C2.six
    obtain ⟨E1, E2⟩ := END.out _ y3
    clear END
    go_wp2
    refine bodyPost_ret (v := .tuple #[.agg #[.int .i64 l.kind, .int .i64 l.ns, .string l.name, .slice pa pn pcap, .string l.text, .slice (some ⟨g9, o9, none⟩) m c9], .slice (some a11) (1 + n2) c11]) (by simp [results, go_sem, d0, d1, d2, d3, d4, d5]) rfl ⟨((pa, pn, pcap), (some ⟨g9, o9, none⟩, m, c9)), _, _, _, rfl, E1, ?_, E2⟩
    exact Rk.of_own o13 rfl (fun z hz => by have := b11 z hz; omega)
  · have hc1 : 1 < c := by have := j4; omega
    have hc2 : ((1 : Nat) : Int) < (c : Int) := by omega
    go_enter Try.func29, Try.ntmps29
    go_upto_region 1 with fail
    rw [HW.out]
    obtain ⟨s5, s5b⟩ := And.intro ((A0.kept ((Kp.refl [] B).alloc (.cells #[] 25)) (by simp)).cell 5) (A0.free 5)
    simp only [List.getElem?_toArray, List.getElem?_cons_succ, List.getElem?_cons_zero] at s5
    go_wp2_with (at_builtin; refine Lib.wpList_append_run _ rfl _ _ _ _ rfl _ _ rfl rfl _ _ (hrun _) ?_)
    clear hrun s5 s5b cwB HW
    have A1v := A1.kept KB7.out (by simp)
    obtain ⟨U0, hU0⟩ : ∃ V, V = V7.drew := ⟨_, rfl⟩
    have k0 : Kp [] V7 U0 := by rw [hU0]; exact (Kp.refl _ _).drew
    refine wp_region_g (S := fun V => At V (s + 1) #[.int .i64 x.kind, .int .i64 x.ns, .string x.name, .slice q.1.1 q.1.2.1 q.1.2.2, .string x.text, .slice q.2.1 q.2.2.1 q.2.2.2] 25 ∧ Cl V g9 (o9 + i * 6) l1 p1) (T := [12, 13]) (by kernel_rfl) ⟨A1v.kept (Kp.refl [] V7).drew (by simp), CL9.keep (Kp.refl [] V7).drew (by simp)⟩ (fun hHeld => ?_)
    rw [← hU0] at hHeld ⊢
    clear hU0 A1v
    refine wpAnyG_pure (i := 0) (oi := { dst := some 51, op := Go.Op.move (Go.Operand.tmp 9), type := 23, pos := "law.go:63", after := #[], guard := none }) (v := ?_) rfl (by kernel_rfl) (by kernel_rfl) (by kernel_rfl) (by kernel_rfl) (fun _ _ _ h => h) (Or.inl ⟨by rfl, ?_⟩) (by assumption) ?_
    rotate_left
    · (intro w; go_simp; try with_reducible rfl)
    simp only [Act.put, List.setIfInBounds_toArray, List.set_cons_zero, List.set_cons_succ]
    refine wpAnyG_pure (i := 1) (oi := { dst := some 52, op := Go.Op.move (Go.Operand.tmp 8), type := 3, pos := "law.go:63", after := #[], guard := none }) (v := ?_) rfl (by kernel_rfl) (by kernel_rfl) (by kernel_rfl) (by kernel_rfl) (fun _ _ _ h => h) (Or.inl ⟨by rfl, ?_⟩) (by assumption) ?_
    rotate_left
    · (intro w; go_simp; try with_reducible rfl)
    simp only [Act.put, List.setIfInBounds_toArray, List.set_cons_zero, List.set_cons_succ]
    refine wpAnyG_pure (i := 2) (oi := { dst := some 53, op := Go.Op.indexAddr 23 (Go.Operand.tmp 51) (Go.Operand.tmp 52), type := 0, pos := "law.go:63", after := #[{ on := 0, ground := Go.Ground.data }, { on := 1, ground := Go.Ground.data }], guard := none }) (v := ?_) rfl (by kernel_rfl) (by kernel_rfl) (by kernel_rfl) (by kernel_rfl) (fun _ _ _ h => h) (Or.inl ⟨by rfl, ?_⟩) (by assumption) ?_
    rotate_left
    · (intro w; go_simp; try with_reducible rfl)
    simp only [Act.put, List.setIfInBounds_toArray, List.set_cons_zero, List.set_cons_succ]
    refine wpAnyG_take (i := 3) (oi := { dst := some 54, op := Go.Op.load 25 (Go.Operand.tmp 53), type := 25, pos := "law.go:63", after := #[{ on := 2, ground := Go.Ground.data }], guard := none }) (v := ?_) rfl (by kernel_rfl) (by kernel_rfl) (by kernel_rfl) (by kernel_rfl) (fun _ _ _ h => h) (Or.inl ⟨by rfl, ?_⟩) (by assumption) ?_
    rotate_left
    · (intro w hSw; (obtain ⟨⟨c0, c1, c2, c3, c4, c5⟩, e0, e1, e2, e3, e4, e5⟩ := And.intro hSw.1.six hSw.2.cells); go_simp; try with_reducible rfl)
    simp only [Act.put, List.setIfInBounds_toArray, List.set_cons_zero, List.set_cons_succ]
    refine wpAnyG_pure (i := 4) (oi := { dst := some 55, op := Go.Op.move (Go.Operand.tmp 1), type := 45, pos := "law.go:63", after := #[], guard := none }) (v := ?_) rfl (by kernel_rfl) (by kernel_rfl) (by kernel_rfl) (by kernel_rfl) (fun _ _ _ h => h) (Or.inl ⟨by rfl, ?_⟩) (by assumption) ?_
    rotate_left
    · (intro w; go_simp; try with_reducible rfl)
    simp only [Act.put, List.setIfInBounds_toArray, List.set_cons_zero, List.set_cons_succ]
    refine wpAnyG_pure (i := 5) (oi := { dst := some 56, op := Go.Op.slice 45 (Go.Operand.tmp 55) (some (Go.Operand.const (Go.Value.int Go.IntKind.i64 1))) none none, type := 45, pos := "law.go:63", after := #[{ on := 4, ground := Go.Ground.data }], guard := none }) (v := ?_) rfl (by kernel_rfl) (by kernel_rfl) (by kernel_rfl) (by kernel_rfl) (fun _ _ _ h => h) (Or.inl ⟨by rfl, ?_⟩) (by assumption) ?_
    rotate_left
    · (intro w; go_simp; try with_reducible rfl)
    simp only [Act.put, List.setIfInBounds_toArray, List.set_cons_zero, List.set_cons_succ]
    refine wpAnyG_take (i := 6) (oi := { dst := some 57, op := Go.Op.load 25 (Go.Operand.tmp 5), type := 25, pos := "law.go:63", after := #[], guard := none }) (v := ?_) rfl (by kernel_rfl) (by kernel_rfl) (by kernel_rfl) (by kernel_rfl) (fun _ _ _ h => h) (Or.inl ⟨by rfl, ?_⟩) (by assumption) ?_
    rotate_left
    · (intro w hSw; (obtain ⟨⟨c0, c1, c2, c3, c4, c5⟩, e0, e1, e2, e3, e4, e5⟩ := And.intro hSw.1.six hSw.2.cells); go_simp; try with_reducible rfl)
    simp only [Act.put, List.setIfInBounds_toArray, List.set_cons_zero, List.set_cons_succ]
    refine wpAnyG_ready (rs := [7, 11]) (by kernel_rfl) (by simp) ?_
    refine AllReadyG.cons (o := { dst := some 58, op := Go.Op.call { callee := Go.Callee.value (Go.Operand.func 29), args := #[Go.Operand.tmp 54, Go.Operand.tmp 56, Go.Operand.tmp 57], argTypes := #[25, 45, 25] }, type := 48, pos := "law.go:63", after := #[{ on := 3, ground := Go.Ground.data }, { on := 5, ground := Go.Ground.data }, { on := 6, ground := Go.Ground.data }], guard := none }) rfl (fun K hK => ?_) ?_
    · go_simp
      go_at_call 29
      refine (HC.out U0 _ _ k0 (TL.out _ k0)).mono ?_
      rintro e U1 ⟨p2, ao2, n2, d2, rfl, ND, RB, u1⟩
      go_wp2_with fail
      have k1 : Kp [] V7 U1 := k0.trans u1 (fun z hz => by simp at hz)
      have s0 := k0.size
      have ND := ND.mono (R := fun z => ((Q z ∧ z < s) ∨ V7.heap.size ≤ z) ∧ z < U1.heap.size) (fun z hl hz => ⟨by rcases hz with h1 | h1; exact Or.inl h1; exact Or.inr (by omega), hl⟩)
      have RB := RB.mono (R := fun z => V7.heap.size ≤ z ∧ z < U1.heap.size) (fun z hl hz => ⟨by omega, hl⟩)
      refine hK.out _ _ ⟨At.kept hHeld.1 u1 (by simp), Cl.keep hHeld.2 u1 (by simp)⟩ (fun hHeld1 => ?_)
      clear hK K hHeld
      try simp only [Act.put, List.setIfInBounds_toArray, List.set_cons_zero, List.set_cons_succ]
      refine wpAnyG_pure (i := 8) (oi := { dst := some 50, op := Go.Op.move (Go.Operand.tmp 58), type := 48, pos := "law.go:63", after := #[{ on := 7, ground := Go.Ground.data }], guard := none }) (v := ?_) rfl (by kernel_rfl) (by kernel_rfl) (by kernel_rfl) (by kernel_rfl) (fun _ _ _ h => h) (Or.inl ⟨by rfl, ?_⟩) (by assumption) ?_
      rotate_left
      · (intro w; go_simp; try with_reducible rfl)
      simp only [Act.put, List.setIfInBounds_toArray, List.set_cons_zero, List.set_cons_succ]
      refine wpAnyG_pure (i := 9) (oi := { dst := some 59, op := Go.Op.extract (Go.Operand.tmp 50) 0, type := 25, pos := "law.go:63", after := #[{ on := 8, ground := Go.Ground.data }], guard := none }) (v := ?_) rfl (by kernel_rfl) (by kernel_rfl) (by kernel_rfl) (by kernel_rfl) (fun _ _ _ h => h) (Or.inl ⟨by rfl, ?_⟩) (by assumption) ?_
      rotate_left
      · (intro w; go_simp; try with_reducible rfl)
      simp only [Act.put, List.setIfInBounds_toArray, List.set_cons_zero, List.set_cons_succ]
      refine wpAnyG_pure (i := 10) (oi := { dst := some 60, op := Go.Op.extract (Go.Operand.tmp 50) 1, type := 45, pos := "law.go:63", after := #[{ on := 8, ground := Go.Ground.data }, { on := 12, ground := Go.Ground.gcOnly Go.Departure.lateStores }], guard := none }) (v := ?_) rfl (by kernel_rfl) (by kernel_rfl) (by kernel_rfl) (by kernel_rfl) (fun _ _ _ h => h) (Or.inl ⟨by rfl, ?_⟩) (by assumption) ?_
      rotate_left
      · (intro w; go_simp; try with_reducible rfl)
      simp only [Act.put, List.setIfInBounds_toArray, List.set_cons_zero, List.set_cons_succ]
      refine wpAnyG_ready (rs := [11]) (by kernel_rfl) (by simp) ?_
      refine AllReadyG.cons (o := { dst := some 10, op := Go.Op.alloc 25, type := 0, pos := "law.go:63", after := #[], guard := none }) rfl (fun K hK => ?_) AllReadyG.nil
      go_simp
      obtain ⟨U2, hU⟩ : ∃ V, V = World.alloc U1 (.cells #[.int .i64 0, .int .i64 0, .string ⟨#[]⟩, .slice none 0 0, .string ⟨#[]⟩, .slice none 0 0] 25) := ⟨_, rfl⟩
      rw [← hU]
      have u2 : Kp [] U1 U2 := by rw [hU]; exact (Kp.refl _ _).alloc _
      have k2 : Kp [] V7 U2 := k1.trans u2 (fun z hz => by simp at hz)
      have T10 : At U2 U1.heap.size #[.int .i64 0, .int .i64 0, .string ⟨#[]⟩, .slice none 0 0, .string ⟨#[]⟩, .slice none 0 0] 25 := by rw [hU]; exact At.new _ _ _
      have zz : U1.heap.size < U2.heap.size := by rw [hU]; simp
      have n10 := k1.size
      obtain ⟨g10, hg10⟩ : ∃ g, U1.heap.size = g := ⟨_, rfl⟩
      rw [hg10] at T10 ⊢
      clear hU
      have ND := (ND.kept u2).mono (R := (fun z => ((Q z ∧ z < s) ∨ V7.heap.size ≤ z) ∧ z ≠ g10)) (fun z _ hz => ⟨hz.1, by have := hz.2; omega⟩)
      have RB := (RB.kept u2).mono (R := (fun z => V7.heap.size ≤ z ∧ z ≠ g10)) (fun z _ hz => ⟨hz.1, by have := hz.2; omega⟩)
      refine hK.out _ _ ⟨At.kept hHeld1.1 u2 (by simp), Cl.keep hHeld1.2 u2 (by simp)⟩ (fun hHeld2 => ?_)
      clear hK K hHeld1
      try simp only [Act.put, List.setIfInBounds_toArray, List.set_cons_zero, List.set_cons_succ]
      refine wpAnyG_free (by kernel_rfl) ?_
      refine wpAny_ready (rs := [12]) (by kernel_rfl) (by simp) ?_
      refine AllReady.cons (o := { dst := none, op := Go.Op.store 25 (Go.Operand.tmp 10) (Go.Operand.tmp 59), type := 0, pos := "law.go:63", after := #[{ on := 11, ground := Go.Ground.data }, { on := 9, ground := Go.Ground.data }, { on := 7, ground := Go.Ground.chain }, { on := 0, ground := Go.Ground.phase }, { on := 1, ground := Go.Ground.phase }, { on := 2, ground := Go.Ground.phase }, { on := 3, ground := Go.Ground.phase }, { on := 4, ground := Go.Ground.phase }, { on := 5, ground := Go.Ground.phase }, { on := 6, ground := Go.Ground.phase }, { on := 7, ground := Go.Ground.phase }, { on := 8, ground := Go.Ground.phase }, { on := 9, ground := Go.Ground.phase }, { on := 10, ground := Go.Ground.textOnly Go.Departure.lateStores }, { on := 11, ground := Go.Ground.phase }], guard := none }) rfl (fun K hK => ?_) AllReady.nil
      obtain ⟨d20, d21, d22, d23, d24, d25⟩ := T10.six
      have fr2 := fun j => T10.free j
      go_simp
      refine hK _ _ ?_
      clear hK K
      try simp only [Act.put, List.setIfInBounds_toArray, List.set_cons_zero, List.set_cons_succ]
      refine wpAny_take (i := 13) (oi := { dst := some 11, op := Go.Op.assign (Go.Operand.tmp 60), type := 45, pos := "law.go:63", after := #[{ on := 10, ground := Go.Ground.data }, { on := 12, ground := Go.Ground.chain }, { on := 0, ground := Go.Ground.phase }, { on := 1, ground := Go.Ground.phase }, { on := 2, ground := Go.Ground.phase }, { on := 3, ground := Go.Ground.phase }, { on := 4, ground := Go.Ground.phase }, { on := 5, ground := Go.Ground.phase }, { on := 6, ground := Go.Ground.phase }, { on := 7, ground := Go.Ground.phase }, { on := 8, ground := Go.Ground.phase }, { on := 9, ground := Go.Ground.phase }, { on := 10, ground := Go.Ground.phase }, { on := 11, ground := Go.Ground.phase }, { on := 12, ground := Go.Ground.phase }], guard := none }) (v := ?_) rfl (by kernel_rfl) (by kernel_rfl) (by kernel_rfl) (fun _ _ _ h => h) (Or.inl ⟨by rfl, ?_⟩) ?_
      rotate_left
      · (intro w; go_simp; try with_reducible rfl)
      simp only [Act.put, List.setIfInBounds_toArray, List.set_cons_zero, List.set_cons_succ]
      refine wpAny_done (by kernel_rfl) ?_ _
      clear d20 d21 d22 d23 d24 d25 fr2
      obtain ⟨F8, hF8⟩ : ∃ F, F = putZ U2 g10 (.int .i64 l1.kind) (.int .i64 l1.ns) (.string l1.name) (.slice p2.1.1 p2.1.2.1 p2.1.2.2) (.string l1.text) (.slice p2.2.1 p2.2.2.1 p2.2.2.2) := ⟨_, rfl⟩
      have hF8u := hF8
      unfold putZ at hF8u
      rw [← hF8u]
      clear hF8u
      have v8 : Kp [g10] U2 F8 := by rw [hF8]; exact (Kp.refl _ _).putZ (g := g10) (Or.inl (by simp)) (.int .i64 l1.kind) (.int .i64 l1.ns) (.string l1.name) (.slice p2.1.1 p2.1.2.1 p2.1.2.2) (.string l1.text) (.slice p2.2.1 p2.2.2.1 p2.2.2.2)
      have T10 : At F8 g10 #[.int .i64 l1.kind, .int .i64 l1.ns, .string l1.name, .slice p2.1.1 p2.1.2.1 p2.1.2.2, .string l1.text, .slice p2.2.1 p2.2.2.1 p2.2.2.2] 25 := by rw [hF8]; exact T10.putZ (.int .i64 l1.kind) (.int .i64 l1.ns) (.string l1.name) (.slice p2.1.1 p2.1.2.1 p2.1.2.2) (.string l1.text) (.slice p2.2.1 p2.2.2.1 p2.2.2.2)
      have ng : V7.heap.size ≤ g10 := by omega
      have k8 : Kp [] V7 F8 := k2.trans v8 (fun z hz => Or.inr (by simp at hz; omega))
      have ND := ND.keep (v8.sms (fun z hz => by simp; exact hz.2))
      have RB := RB.keep (v8.sms (fun z hz => by simp; exact hz.2))
      have kB8 : Kp [] B F8 := KB7.out.trans k8 (fun z hz => by simp at hz)
      have A0 := A0.kept kB8 (by simp)
      have A2 := A2.kept kB8 (by simp)
      have A9 := A9.kept k8 (by simp)
      have CL9 := CL9.keep k8 (by simp)
      clear hF8 v8 k1 u1 k2 u2 k0 zz n10 hg10 s0 HC TL TL0 hHeld2 A1 kB8
      obtain ⟨t0, t1, t2, t3, t4, t5⟩ := T10.six
      obtain ⟨f0, f1, f2, f3, f4, f5⟩ := CL9.cells
      have fr9 := fun j => A9.free j
      go_upto_region 10 with fail
      clear t0 t1 t2 t3 t4 t5 f0 f1 f2 f3 f4 f5 fr9 CL9 T10
      obtain ⟨F9, hF9⟩ : ∃ F, F = put6 F8 g9 (o9 + i * 6) (.int .i64 l1.kind) (.int .i64 l1.ns) (.string l1.name) (.slice p2.1.1 p2.1.2.1 p2.1.2.2) (.string l1.text) (.slice p2.2.1 p2.2.2.1 p2.2.2.2) := ⟨_, rfl⟩
      have hF9u := hF9
      unfold put6 at hF9u
      rw [← hF9u]
      clear hF9u
      have v9 : Kp [g9] F8 F9 := by rw [hF9]; exact (Kp.refl _ _).put6 (g := g9) (Or.inl (by simp)) _ _ _ _ _ _ _
      have KNo := KN.out
      have A0 := A0.kept v9 (by simp; omega)
      have A2 := A2.kept v9 (by simp; omega)
      have RB := RB.keep (v9.sms (fun z hz => by simp; omega))
      have s5 := A0.cell 5
      have f5 := A0.free 5
      simp only [List.getElem?_toArray, List.getElem?_cons_succ, List.getElem?_cons_zero] at s5
      have HF9 : Hid (F9 = put6 F8 g9 (o9 + i * 6) (.int .i64 l1.kind) (.int .i64 l1.ns) (.string l1.name) (.slice p2.1.1 p2.1.2.1 p2.1.2.2) (.string l1.text) (.slice p2.2.1 p2.2.2.1 p2.2.2.2)) := hF9
      clear hF9
      go_upto_region 11 with fail
      clear s5 f5
      obtain ⟨F, hF⟩ : ∃ F, F = World.setCell F9 ⟨s, 5, none⟩ (.slice (some ⟨g9, o9, none⟩) m c9) := ⟨_, rfl⟩
      rw [← hF]
      have v10 : Kp [s] F9 F := by rw [hF]; exact (Kp.refl _ _).setCell (Or.inl (by simp)) _
      have A0 : At F s #[.int .i64 l.kind, .int .i64 l.ns, .string l.name, .slice pa pn pcap, .string l.text, .slice (some ⟨g9, o9, none⟩) m c9] 25 := by rw [hF]; exact A0.set 5 _
      have A2 := A2.kept v10 (by simp; omega)
      have RB := RB.keep (v10.sms (fun z hz => by simp; omega))
      have END : Hid (∀ W, Kp [s + 1 + 1] F W → Nd (fun z => Q z ∨ w.heap.size ≤ z) W l (k.turn G i) ((pa, pn, pcap), (some ⟨g9, o9, none⟩, m, c9)) ∧ Kp [] w W) := fun W kW => FIN.out F8 F9 F W p2 g10 k8 HF9.out hF ND kW
      have zF : s + 3 ≤ F.heap.size := by have := v10.size; have := v9.size; have := k8.size; omega
      clear hF HF9 FIN v9 v10 k8 ND A9 KB7
      obtain ⟨Y0, hY0⟩ : ∃ V, V = F.drew := ⟨_, rfl⟩
      have y0 : Kp [s + 1 + 1] F Y0 := by rw [hY0]; exact (Kp.refl _ _).drew
      have A2 : At Y0 (s + 1 + 1) _ 25 := A2.kept (show Kp [] F Y0 by rw [hY0]; exact (Kp.refl _ _).drew) (by simp)
      have RB := RB.kept (show Kp [] F Y0 by rw [hY0]; exact (Kp.refl _ _).drew)
      refine wp_region_g (S := fun V => At V s #[.int .i64 l.kind, .int .i64 l.ns, .string l.name, .slice pa pn pcap, .string l.text, .slice (some ⟨g9, o9, none⟩) m c9] 25) (T := [5, 6]) (by kernel_rfl) (A0.kept (Kp.refl [] F).drew (by simp)) (fun hHeld => ?_)
      rw [← hY0] at hHeld ⊢
      clear hY0
      refine wpAnyG_take (i := 0) (oi := { dst := some 67, op := Go.Op.load 25 (Go.Operand.tmp 3), type := 25, pos := "law.go:66", after := #[], guard := none }) (v := ?_) rfl (by kernel_rfl) (by kernel_rfl) (by kernel_rfl) (by kernel_rfl) (fun _ _ _ h => h) (Or.inl ⟨by rfl, ?_⟩) (by assumption) ?_
      rotate_left
      · (intro w hSw; (obtain ⟨c0, c1, c2, c3, c4, c5⟩ := At.six hSw); go_simp; try with_reducible rfl)
      simp only [Act.put, List.setIfInBounds_toArray, List.set_cons_zero, List.set_cons_succ]
      refine wpAnyG_pure (i := 1) (oi := { dst := some 68, op := Go.Op.move (Go.Operand.tmp 8), type := 3, pos := "law.go:66", after := #[], guard := none }) (v := ?_) rfl (by kernel_rfl) (by kernel_rfl) (by kernel_rfl) (by kernel_rfl) (fun _ _ _ h => h) (Or.inl ⟨by rfl, ?_⟩) (by assumption) ?_
      rotate_left
      · (intro w; go_simp; try with_reducible rfl)
      simp only [Act.put, List.setIfInBounds_toArray, List.set_cons_zero, List.set_cons_succ]
      refine wpAnyG_pure (i := 3) (oi := { dst := some 70, op := Go.Op.move (Go.Operand.tmp 11), type := 45, pos := "law.go:66", after := #[], guard := none }) (v := ?_) rfl (by kernel_rfl) (by kernel_rfl) (by kernel_rfl) (by kernel_rfl) (fun _ _ _ h => h) (Or.inl ⟨by rfl, ?_⟩) (by assumption) ?_
      rotate_left
      · (intro w; go_simp; try with_reducible rfl)
      simp only [Act.put, List.setIfInBounds_toArray, List.set_cons_zero, List.set_cons_succ]
      refine wpAnyG_ready (rs := [2]) (by kernel_rfl) (by simp) ?_
      refine AllReadyG.cons (o := { dst := some 69, op := Go.Op.buildSlice 45 1 #[(0, Go.Operand.tmp 68)], type := 45, pos := "law.go:66", after := #[{ on := 1, ground := Go.Ground.data }], guard := none }) rfl (fun K hK => ?_) AllReadyG.nil
      go_simp
      obtain ⟨Y1, hY⟩ : ∃ V, V = World.alloc Y0 (.cells #[.int .i64 (i : Int)] 3) := ⟨_, rfl⟩
      rw [← hY]
      have x1 : Kp [] Y0 Y1 := by rw [hY]; exact (Kp.refl _ _).alloc _
      have o11 : OwnK 1 Y1 3 (.slice (some ⟨Y0.heap.size, 0, none⟩) 1 1) 1 [.int .i64 (i : Int)] := by rw [hY]; exact ownK_new 1 _ 3 #[.int .i64 (i : Int)] [.int .i64 (i : Int)] 1 1 rfl (Nat.le_refl _) (by decide) (by simp) (fun j hj => by simp)
      have n11 := y0.size
      obtain ⟨g11, hg11⟩ : ∃ g, Y0.heap.size = g := ⟨_, rfl⟩
      rw [hg11] at o11 ⊢
      have RB := RB.kept x1
      have A2 := A2.kept x1 (by simp)
      have y1 : Kp [s + 1 + 1] F Y1 := y0.trans x1 (fun z hz => by simp at hz)
      clear hY
      refine hK.out _ _ (At.kept hHeld x1 (by simp)) (fun hHeld1 => ?_)
      clear hK K hHeld
      try simp only [Act.put, List.setIfInBounds_toArray, List.set_cons_zero, List.set_cons_succ]
      refine wpAnyG_ready (rs := [4]) (by kernel_rfl) (by simp) ?_
      refine AllReadyG.cons (o := { dst := some 71, op := Go.Op.call { callee := Go.Callee.builtin Go.Builtin.append, args := #[Go.Operand.tmp 69, Go.Operand.tmp 70], argTypes := #[45, 45] }, type := 45, pos := "law.go:66", after := #[{ on := 2, ground := Go.Ground.data }, { on := 3, ground := Go.Ground.data }], guard := none }) rfl (fun K hK => ?_) AllReadyG.nil
      have hn2 := RB.len
      rw [iv_len] at hn2
      refine step_appK (by rfl) _ _ 45 (by rfl) Try.underlying45 info3t rfl (by decide) _ _ (by rfl) (by rfl) 1 _ o11 n2 (iv rs) (RB.src Try.underlying45 (iv_one rs)) (fun h => by cases h) (by omega) (fun v11 Y2 o12 x2 b11 hv11 => ?_)
      obtain ⟨a11, c11, rfl⟩ := hv11
      have y2 : Kp [s + 1 + 1] F Y2 := y1.trans x2 (fun z hz => Or.inr (by simp [blk] at hz; omega))
      have A2 := A2.kept x2 (by simp [blk]; omega)
      have b11 : ∀ z, z ∈ blk (.slice (some a11) (1 + n2) c11) → s + 3 ≤ z := fun z hz => by
        have := y1.size
        rcases b11 z hz with h1 | h1
        · simp [blk] at h1; omega
        · omega
      refine hK.out _ _ (At.kept hHeld1 x2 (by simp [blk]; omega)) (fun hHeld2 => ?_)
      clear hK K hHeld1
      try simp only [Act.put, List.setIfInBounds_toArray, List.set_cons_zero, List.set_cons_succ]
      refine wpAnyG_free (by kernel_rfl) ?_
      refine wpAny_ready (rs := [5]) (by kernel_rfl) (by simp) ?_
      refine AllReady.cons (o := { dst := none, op := Go.Op.store 25 (Go.Operand.tmp 6) (Go.Operand.tmp 67), type := 0, pos := "law.go:66", after := #[{ on := 0, ground := Go.Ground.data }, { on := 4, ground := Go.Ground.chain }, { on := 0, ground := Go.Ground.phase }, { on := 1, ground := Go.Ground.textOnly Go.Departure.lateStores }, { on := 2, ground := Go.Ground.textOnly Go.Departure.lateStores }, { on := 3, ground := Go.Ground.textOnly Go.Departure.lateStores }, { on := 4, ground := Go.Ground.textOnly Go.Departure.lateStoresUnsure }], guard := none }) rfl (fun K hK => ?_) AllReady.nil
      obtain ⟨d20, d21, d22, d23, d24, d25⟩ := A2.six
      have fr2 := fun j => A2.free j
      go_simp
      refine hK _ _ ?_
      clear hK K
      try simp only [Act.put, List.setIfInBounds_toArray, List.set_cons_zero, List.set_cons_succ]
      refine wpAny_take (i := 6) (oi := { dst := some 7, op := Go.Op.assign (Go.Operand.tmp 71), type := 45, pos := "law.go:66", after := #[{ on := 4, ground := Go.Ground.data }, { on := 5, ground := Go.Ground.chain }, { on := 0, ground := Go.Ground.phase }, { on := 1, ground := Go.Ground.phase }, { on := 2, ground := Go.Ground.phase }, { on := 3, ground := Go.Ground.phase }, { on := 4, ground := Go.Ground.phase }, { on := 5, ground := Go.Ground.phase }], guard := none }) (v := ?_) rfl (by kernel_rfl) (by kernel_rfl) (by kernel_rfl) (fun _ _ _ h => h) (Or.inl ⟨by rfl, ?_⟩) ?_
      rotate_left
      · (intro w; go_simp; try with_reducible rfl)
      simp only [Act.put, List.setIfInBounds_toArray, List.set_cons_zero, List.set_cons_succ]
      refine wpAny_done (by kernel_rfl) ?_ _
      clear d20 d21 d22 d23 d24 d25 fr2
      obtain ⟨W, hW⟩ : ∃ V, V = putZ Y2 (s + 1 + 1) (.int .i64 l.kind) (.int .i64 l.ns) (.string l.name) (.slice pa pn pcap) (.string l.text) (.slice (some ⟨g9, o9, none⟩) m c9) := ⟨_, rfl⟩
      have hWu := hW
      unfold putZ at hWu
      rw [← hWu]
      clear hWu
      have x3 : Kp [s + 1 + 1] Y2 W := by rw [hW]; exact (Kp.refl _ _).putZ (g := s + 1 + 1) (Or.inl (by simp)) (.int .i64 l.kind) (.int .i64 l.ns) (.string l.name) (.slice pa pn pcap) (.string l.text) (.slice (some ⟨g9, o9, none⟩) m c9)
      have y3 : Kp [s + 1 + 1] F W := y2.trans x3 (fun z hz => Or.inl hz)
      have C2 : At W (s + 1 + 1) #[.int .i64 l.kind, .int .i64 l.ns, .string l.name, .slice pa pn pcap, .string l.text, .slice (some ⟨g9, o9, none⟩) m c9] 25 := by rw [hW]; exact A2.putZ (.int .i64 l.kind) (.int .i64 l.ns) (.string l.name) (.slice pa pn pcap) (.string l.text) (.slice (some ⟨g9, o9, none⟩) m c9)
      have o13 := o12.keep x3 (fun z hz => by have := b11 z hz; simp; omega)
      clear hW
      obtain ⟨d0, d1, d2, d3, d4, d5⟩ := C2.six
      obtain ⟨E1, E2⟩ := END.out _ y3
      clear END
      go_wp2
      refine bodyPost_ret (v := .tuple #[.agg #[.int .i64 l.kind, .int .i64 l.ns, .string l.name, .slice pa pn pcap, .string l.text, .slice (some ⟨g9, o9, none⟩) m c9], .slice (some a11) (1 + n2) c11]) (by simp [results, go_sem, d0, d1, d2, d3, d4, d5]) rfl ⟨((pa, pn, pcap), (some ⟨g9, o9, none⟩, m, c9)), _, _, _, rfl, E1, ?_, E2⟩
      exact Rk.of_own o13 rfl (fun z hz => by have := b11 z hz; omega)
    refine AllReadyG.cons (o := { dst := some 10, op := Go.Op.alloc 25, type := 0, pos := "law.go:63", after := #[], guard := none }) rfl (fun K hK => ?_) AllReadyG.nil
    go_simp
    obtain ⟨U1, hU⟩ : ∃ V, V = World.alloc U0 (.cells #[.int .i64 0, .int .i64 0, .string ⟨#[]⟩, .slice none 0 0, .string ⟨#[]⟩, .slice none 0 0] 25) := ⟨_, rfl⟩
    rw [← hU]
    have u1 : Kp [] U0 U1 := by rw [hU]; exact (Kp.refl _ _).alloc _
    have k1 : Kp [] V7 U1 := k0.trans u1 (fun z hz => by simp at hz)
    have T10 : At U1 U0.heap.size #[.int .i64 0, .int .i64 0, .string ⟨#[]⟩, .slice none 0 0, .string ⟨#[]⟩, .slice none 0 0] 25 := by rw [hU]; exact At.new _ _ _
    have zz : U0.heap.size < U1.heap.size := by rw [hU]; simp
    have n10 := k0.size
    obtain ⟨g10, hg10⟩ : ∃ g, U0.heap.size = g := ⟨_, rfl⟩
    rw [hg10] at T10 ⊢
    clear hU
    refine hK.out _ _ ⟨At.kept hHeld.1 u1 (by simp), Cl.keep hHeld.2 u1 (by simp)⟩ (fun hHeld1 => ?_)
    clear hK K hHeld
    try simp only [Act.put, List.setIfInBounds_toArray, List.set_cons_zero, List.set_cons_succ]
    refine wpAnyG_ready (rs := [7]) (by kernel_rfl) (by simp) ?_
    refine AllReadyG.cons (o := { dst := some 58, op := Go.Op.call { callee := Go.Callee.value (Go.Operand.func 29), args := #[Go.Operand.tmp 54, Go.Operand.tmp 56, Go.Operand.tmp 57], argTypes := #[25, 45, 25] }, type := 48, pos := "law.go:63", after := #[{ on := 3, ground := Go.Ground.data }, { on := 5, ground := Go.Ground.data }, { on := 6, ground := Go.Ground.data }], guard := none }) rfl (fun K hK => ?_) AllReadyG.nil
    go_simp
    go_at_call 29
    refine (HC.out U1 _ _ k1 (TL.out _ k1)).mono ?_
    rintro e U2 ⟨p2, ao2, n2, d2, rfl, ND, RB, u2⟩
    go_wp2_with fail
    have k2 : Kp [] V7 U2 := k1.trans u2 (fun z hz => by simp at hz)
    have s1 := k1.size
    have T10 := T10.kept u2 (by simp)
    have ND := ND.mono (R := (fun z => ((Q z ∧ z < s) ∨ V7.heap.size ≤ z) ∧ z ≠ g10)) (fun z _ hz => ⟨by rcases hz with h1 | h1; exact Or.inl h1; exact Or.inr (by omega), by rcases hz with h1 | h1 <;> have := KN.out <;> omega⟩)
    have RB := RB.mono (R := (fun z => V7.heap.size ≤ z ∧ z ≠ g10)) (fun z _ hz => ⟨by omega, by omega⟩)
    refine hK.out _ _ ⟨At.kept hHeld1.1 u2 (by simp), Cl.keep hHeld1.2 u2 (by simp)⟩ (fun hHeld2 => ?_)
    clear hK K hHeld1
    try simp only [Act.put, List.setIfInBounds_toArray, List.set_cons_zero, List.set_cons_succ]
    refine wpAnyG_pure (i := 8) (oi := { dst := some 50, op := Go.Op.move (Go.Operand.tmp 58), type := 48, pos := "law.go:63", after := #[{ on := 7, ground := Go.Ground.data }], guard := none }) (v := ?_) rfl (by kernel_rfl) (by kernel_rfl) (by kernel_rfl) (by kernel_rfl) (fun _ _ _ h => h) (Or.inl ⟨by rfl, ?_⟩) (by assumption) ?_
    rotate_left
    · (intro w; go_simp; try with_reducible rfl)
    simp only [Act.put, List.setIfInBounds_toArray, List.set_cons_zero, List.set_cons_succ]
    refine wpAnyG_pure (i := 9) (oi := { dst := some 59, op := Go.Op.extract (Go.Operand.tmp 50) 0, type := 25, pos := "law.go:63", after := #[{ on := 8, ground := Go.Ground.data }], guard := none }) (v := ?_) rfl (by kernel_rfl) (by kernel_rfl) (by kernel_rfl) (by kernel_rfl) (fun _ _ _ h => h) (Or.inl ⟨by rfl, ?_⟩) (by assumption) ?_
    rotate_left
    · (intro w; go_simp; try with_reducible rfl)
    simp only [Act.put, List.setIfInBounds_toArray, List.set_cons_zero, List.set_cons_succ]
    refine wpAnyG_pure (i := 10) (oi := { dst := some 60, op := Go.Op.extract (Go.Operand.tmp 50) 1, type := 45, pos := "law.go:63", after := #[{ on := 8, ground := Go.Ground.data }, { on := 12, ground := Go.Ground.gcOnly Go.Departure.lateStores }], guard := none }) (v := ?_) rfl (by kernel_rfl) (by kernel_rfl) (by kernel_rfl) (by kernel_rfl) (fun _ _ _ h => h) (Or.inl ⟨by rfl, ?_⟩) (by assumption) ?_
    rotate_left
    · (intro w; go_simp; try with_reducible rfl)
    simp only [Act.put, List.setIfInBounds_toArray, List.set_cons_zero, List.set_cons_succ]
    refine wpAnyG_free (by kernel_rfl) ?_
    refine wpAny_ready (rs := [12]) (by kernel_rfl) (by simp) ?_
    refine AllReady.cons (o := { dst := none, op := Go.Op.store 25 (Go.Operand.tmp 10) (Go.Operand.tmp 59), type := 0, pos := "law.go:63", after := #[{ on := 11, ground := Go.Ground.data }, { on := 9, ground := Go.Ground.data }, { on := 7, ground := Go.Ground.chain }, { on := 0, ground := Go.Ground.phase }, { on := 1, ground := Go.Ground.phase }, { on := 2, ground := Go.Ground.phase }, { on := 3, ground := Go.Ground.phase }, { on := 4, ground := Go.Ground.phase }, { on := 5, ground := Go.Ground.phase }, { on := 6, ground := Go.Ground.phase }, { on := 7, ground := Go.Ground.phase }, { on := 8, ground := Go.Ground.phase }, { on := 9, ground := Go.Ground.phase }, { on := 10, ground := Go.Ground.textOnly Go.Departure.lateStores }, { on := 11, ground := Go.Ground.phase }], guard := none }) rfl (fun K hK => ?_) AllReady.nil
    obtain ⟨d20, d21, d22, d23, d24, d25⟩ := T10.six
    have fr2 := fun j => T10.free j
    go_simp
    refine hK _ _ ?_
    clear hK K
    try simp only [Act.put, List.setIfInBounds_toArray, List.set_cons_zero, List.set_cons_succ]
    refine wpAny_take (i := 13) (oi := { dst := some 11, op := Go.Op.assign (Go.Operand.tmp 60), type := 45, pos := "law.go:63", after := #[{ on := 10, ground := Go.Ground.data }, { on := 12, ground := Go.Ground.chain }, { on := 0, ground := Go.Ground.phase }, { on := 1, ground := Go.Ground.phase }, { on := 2, ground := Go.Ground.phase }, { on := 3, ground := Go.Ground.phase }, { on := 4, ground := Go.Ground.phase }, { on := 5, ground := Go.Ground.phase }, { on := 6, ground := Go.Ground.phase }, { on := 7, ground := Go.Ground.phase }, { on := 8, ground := Go.Ground.phase }, { on := 9, ground := Go.Ground.phase }, { on := 10, ground := Go.Ground.phase }, { on := 11, ground := Go.Ground.phase }, { on := 12, ground := Go.Ground.phase }], guard := none }) (v := ?_) rfl (by kernel_rfl) (by kernel_rfl) (by kernel_rfl) (fun _ _ _ h => h) (Or.inl ⟨by rfl, ?_⟩) ?_
    rotate_left
    · (intro w; go_simp; try with_reducible rfl)
    simp only [Act.put, List.setIfInBounds_toArray, List.set_cons_zero, List.set_cons_succ]
    refine wpAny_done (by kernel_rfl) ?_ _
    clear d20 d21 d22 d23 d24 d25 fr2
    obtain ⟨F8, hF8⟩ : ∃ F, F = putZ U2 g10 (.int .i64 l1.kind) (.int .i64 l1.ns) (.string l1.name) (.slice p2.1.1 p2.1.2.1 p2.1.2.2) (.string l1.text) (.slice p2.2.1 p2.2.2.1 p2.2.2.2) := ⟨_, rfl⟩
    have hF8u := hF8
    unfold putZ at hF8u
    rw [← hF8u]
    clear hF8u
    have v8 : Kp [g10] U2 F8 := by rw [hF8]; exact (Kp.refl _ _).putZ (g := g10) (Or.inl (by simp)) (.int .i64 l1.kind) (.int .i64 l1.ns) (.string l1.name) (.slice p2.1.1 p2.1.2.1 p2.1.2.2) (.string l1.text) (.slice p2.2.1 p2.2.2.1 p2.2.2.2)
    have T10 : At F8 g10 #[.int .i64 l1.kind, .int .i64 l1.ns, .string l1.name, .slice p2.1.1 p2.1.2.1 p2.1.2.2, .string l1.text, .slice p2.2.1 p2.2.2.1 p2.2.2.2] 25 := by rw [hF8]; exact T10.putZ (.int .i64 l1.kind) (.int .i64 l1.ns) (.string l1.name) (.slice p2.1.1 p2.1.2.1 p2.1.2.2) (.string l1.text) (.slice p2.2.1 p2.2.2.1 p2.2.2.2)
    have ng : V7.heap.size ≤ g10 := by omega
    have k8 : Kp [] V7 F8 := k2.trans v8 (fun z hz => Or.inr (by simp at hz; omega))
    have ND := ND.keep (v8.sms (fun z hz => by simp; exact hz.2))
    have RB := RB.keep (v8.sms (fun z hz => by simp; exact hz.2))
    have kB8 : Kp [] B F8 := KB7.out.trans k8 (fun z hz => by simp at hz)
    have A0 := A0.kept kB8 (by simp)
    have A2 := A2.kept kB8 (by simp)
    have A9 := A9.kept k8 (by simp)
    have CL9 := CL9.keep k8 (by simp)
    clear hF8 v8 k1 u1 k2 u2 k0 zz n10 hg10 s1 HC TL TL0 hHeld2 A1 kB8
    obtain ⟨t0, t1, t2, t3, t4, t5⟩ := T10.six
    obtain ⟨f0, f1, f2, f3, f4, f5⟩ := CL9.cells
    have fr9 := fun j => A9.free j
    go_upto_region 10 with fail
    clear t0 t1 t2 t3 t4 t5 f0 f1 f2 f3 f4 f5 fr9 CL9 T10
    obtain ⟨F9, hF9⟩ : ∃ F, F = put6 F8 g9 (o9 + i * 6) (.int .i64 l1.kind) (.int .i64 l1.ns) (.string l1.name) (.slice p2.1.1 p2.1.2.1 p2.1.2.2) (.string l1.text) (.slice p2.2.1 p2.2.2.1 p2.2.2.2) := ⟨_, rfl⟩
    have hF9u := hF9
    unfold put6 at hF9u
    rw [← hF9u]
    clear hF9u
    have v9 : Kp [g9] F8 F9 := by rw [hF9]; exact (Kp.refl _ _).put6 (g := g9) (Or.inl (by simp)) _ _ _ _ _ _ _
    have KNo := KN.out
    have A0 := A0.kept v9 (by simp; omega)
    have A2 := A2.kept v9 (by simp; omega)
    have RB := RB.keep (v9.sms (fun z hz => by simp; omega))
    have s5 := A0.cell 5
    have f5 := A0.free 5
    simp only [List.getElem?_toArray, List.getElem?_cons_succ, List.getElem?_cons_zero] at s5
    have HF9 : Hid (F9 = put6 F8 g9 (o9 + i * 6) (.int .i64 l1.kind) (.int .i64 l1.ns) (.string l1.name) (.slice p2.1.1 p2.1.2.1 p2.1.2.2) (.string l1.text) (.slice p2.2.1 p2.2.2.1 p2.2.2.2)) := hF9
    clear hF9
    go_upto_region 11 with fail
    clear s5 f5
    obtain ⟨F, hF⟩ : ∃ F, F = World.setCell F9 ⟨s, 5, none⟩ (.slice (some ⟨g9, o9, none⟩) m c9) := ⟨_, rfl⟩
    rw [← hF]
    have v10 : Kp [s] F9 F := by rw [hF]; exact (Kp.refl _ _).setCell (Or.inl (by simp)) _
    have A0 : At F s #[.int .i64 l.kind, .int .i64 l.ns, .string l.name, .slice pa pn pcap, .string l.text, .slice (some ⟨g9, o9, none⟩) m c9] 25 := by rw [hF]; exact A0.set 5 _
    have A2 := A2.kept v10 (by simp; omega)
    have RB := RB.keep (v10.sms (fun z hz => by simp; omega))
    have END : Hid (∀ W, Kp [s + 1 + 1] F W → Nd (fun z => Q z ∨ w.heap.size ≤ z) W l (k.turn G i) ((pa, pn, pcap), (some ⟨g9, o9, none⟩, m, c9)) ∧ Kp [] w W) := fun W kW => FIN.out F8 F9 F W p2 g10 k8 HF9.out hF ND kW
    have zF : s + 3 ≤ F.heap.size := by have := v10.size; have := v9.size; have := k8.size; omega
    clear hF HF9 FIN v9 v10 k8 ND A9 KB7
    obtain ⟨Y0, hY0⟩ : ∃ V, V = F.drew := ⟨_, rfl⟩
    have y0 : Kp [s + 1 + 1] F Y0 := by rw [hY0]; exact (Kp.refl _ _).drew
    have A2 : At Y0 (s + 1 + 1) _ 25 := A2.kept (show Kp [] F Y0 by rw [hY0]; exact (Kp.refl _ _).drew) (by simp)
    have RB := RB.kept (show Kp [] F Y0 by rw [hY0]; exact (Kp.refl _ _).drew)
    refine wp_region_g (S := fun V => At V s #[.int .i64 l.kind, .int .i64 l.ns, .string l.name, .slice pa pn pcap, .string l.text, .slice (some ⟨g9, o9, none⟩) m c9] 25) (T := [5, 6]) (by kernel_rfl) (A0.kept (Kp.refl [] F).drew (by simp)) (fun hHeld => ?_)
    rw [← hY0] at hHeld ⊢
    clear hY0
    refine wpAnyG_take (i := 0) (oi := { dst := some 67, op := Go.Op.load 25 (Go.Operand.tmp 3), type := 25, pos := "law.go:66", after := #[], guard := none }) (v := ?_) rfl (by kernel_rfl) (by kernel_rfl) (by kernel_rfl) (by kernel_rfl) (fun _ _ _ h => h) (Or.inl ⟨by rfl, ?_⟩) (by assumption) ?_
    rotate_left
    · (intro w hSw; (obtain ⟨c0, c1, c2, c3, c4, c5⟩ := At.six hSw); go_simp; try with_reducible rfl)
    simp only [Act.put, List.setIfInBounds_toArray, List.set_cons_zero, List.set_cons_succ]
    refine wpAnyG_pure (i := 1) (oi := { dst := some 68, op := Go.Op.move (Go.Operand.tmp 8), type := 3, pos := "law.go:66", after := #[], guard := none }) (v := ?_) rfl (by kernel_rfl) (by kernel_rfl) (by kernel_rfl) (by kernel_rfl) (fun _ _ _ h => h) (Or.inl ⟨by rfl, ?_⟩) (by assumption) ?_
    rotate_left
    · (intro w; go_simp; try with_reducible rfl)
    simp only [Act.put, List.setIfInBounds_toArray, List.set_cons_zero, List.set_cons_succ]
    refine wpAnyG_pure (i := 3) (oi := { dst := some 70, op := Go.Op.move (Go.Operand.tmp 11), type := 45, pos := "law.go:66", after := #[], guard := none }) (v := ?_) rfl (by kernel_rfl) (by kernel_rfl) (by kernel_rfl) (by kernel_rfl) (fun _ _ _ h => h) (Or.inl ⟨by rfl, ?_⟩) (by assumption) ?_
    rotate_left
    · (intro w; go_simp; try with_reducible rfl)
    simp only [Act.put, List.setIfInBounds_toArray, List.set_cons_zero, List.set_cons_succ]
    refine wpAnyG_ready (rs := [2]) (by kernel_rfl) (by simp) ?_
    refine AllReadyG.cons (o := { dst := some 69, op := Go.Op.buildSlice 45 1 #[(0, Go.Operand.tmp 68)], type := 45, pos := "law.go:66", after := #[{ on := 1, ground := Go.Ground.data }], guard := none }) rfl (fun K hK => ?_) AllReadyG.nil
    go_simp
    obtain ⟨Y1, hY⟩ : ∃ V, V = World.alloc Y0 (.cells #[.int .i64 (i : Int)] 3) := ⟨_, rfl⟩
    rw [← hY]
    have x1 : Kp [] Y0 Y1 := by rw [hY]; exact (Kp.refl _ _).alloc _
    have o11 : OwnK 1 Y1 3 (.slice (some ⟨Y0.heap.size, 0, none⟩) 1 1) 1 [.int .i64 (i : Int)] := by rw [hY]; exact ownK_new 1 _ 3 #[.int .i64 (i : Int)] [.int .i64 (i : Int)] 1 1 rfl (Nat.le_refl _) (by decide) (by simp) (fun j hj => by simp)
    have n11 := y0.size
    obtain ⟨g11, hg11⟩ : ∃ g, Y0.heap.size = g := ⟨_, rfl⟩
    rw [hg11] at o11 ⊢
    have RB := RB.kept x1
    have A2 := A2.kept x1 (by simp)
    have y1 : Kp [s + 1 + 1] F Y1 := y0.trans x1 (fun z hz => by simp at hz)
    clear hY
    refine hK.out _ _ (At.kept hHeld x1 (by simp)) (fun hHeld1 => ?_)
    clear hK K hHeld
    try simp only [Act.put, List.setIfInBounds_toArray, List.set_cons_zero, List.set_cons_succ]
    refine wpAnyG_ready (rs := [4]) (by kernel_rfl) (by simp) ?_
    refine AllReadyG.cons (o := { dst := some 71, op := Go.Op.call { callee := Go.Callee.builtin Go.Builtin.append, args := #[Go.Operand.tmp 69, Go.Operand.tmp 70], argTypes := #[45, 45] }, type := 45, pos := "law.go:66", after := #[{ on := 2, ground := Go.Ground.data }, { on := 3, ground := Go.Ground.data }], guard := none }) rfl (fun K hK => ?_) AllReadyG.nil
    have hn2 := RB.len
    rw [iv_len] at hn2
    refine step_appK (by rfl) _ _ 45 (by rfl) Try.underlying45 info3t rfl (by decide) _ _ (by rfl) (by rfl) 1 _ o11 n2 (iv rs) (RB.src Try.underlying45 (iv_one rs)) (fun h => by cases h) (by omega) (fun v11 Y2 o12 x2 b11 hv11 => ?_)
    obtain ⟨a11, c11, rfl⟩ := hv11
    have y2 : Kp [s + 1 + 1] F Y2 := y1.trans x2 (fun z hz => Or.inr (by simp [blk] at hz; omega))
    have A2 := A2.kept x2 (by simp [blk]; omega)
    have b11 : ∀ z, z ∈ blk (.slice (some a11) (1 + n2) c11) → s + 3 ≤ z := fun z hz => by
      have := y1.size
      rcases b11 z hz with h1 | h1
      · simp [blk] at h1; omega
      · omega
    refine hK.out _ _ (At.kept hHeld1 x2 (by simp [blk]; omega)) (fun hHeld2 => ?_)
    clear hK K hHeld1
    try simp only [Act.put, List.setIfInBounds_toArray, List.set_cons_zero, List.set_cons_succ]
    refine wpAnyG_free (by kernel_rfl) ?_
    refine wpAny_ready (rs := [5]) (by kernel_rfl) (by simp) ?_
    refine AllReady.cons (o := { dst := none, op := Go.Op.store 25 (Go.Operand.tmp 6) (Go.Operand.tmp 67), type := 0, pos := "law.go:66", after := #[{ on := 0, ground := Go.Ground.data }, { on := 4, ground := Go.Ground.chain }, { on := 0, ground := Go.Ground.phase }, { on := 1, ground := Go.Ground.textOnly Go.Departure.lateStores }, { on := 2, ground := Go.Ground.textOnly Go.Departure.lateStores }, { on := 3, ground := Go.Ground.textOnly Go.Departure.lateStores }, { on := 4, ground := Go.Ground.textOnly Go.Departure.lateStoresUnsure }], guard := none }) rfl (fun K hK => ?_) AllReady.nil
    obtain ⟨d20, d21, d22, d23, d24, d25⟩ := A2.six
    have fr2 := fun j => A2.free j
    go_simp
    refine hK _ _ ?_
    clear hK K
    try simp only [Act.put, List.setIfInBounds_toArray, List.set_cons_zero, List.set_cons_succ]
    refine wpAny_take (i := 6) (oi := { dst := some 7, op := Go.Op.assign (Go.Operand.tmp 71), type := 45, pos := "law.go:66", after := #[{ on := 4, ground := Go.Ground.data }, { on := 5, ground := Go.Ground.chain }, { on := 0, ground := Go.Ground.phase }, { on := 1, ground := Go.Ground.phase }, { on := 2, ground := Go.Ground.phase }, { on := 3, ground := Go.Ground.phase }, { on := 4, ground := Go.Ground.phase }, { on := 5, ground := Go.Ground.phase }], guard := none }) (v := ?_) rfl (by kernel_rfl) (by kernel_rfl) (by kernel_rfl) (fun _ _ _ h => h) (Or.inl ⟨by rfl, ?_⟩) ?_
    rotate_left
    · (intro w; go_simp; try with_reducible rfl)
    simp only [Act.put, List.setIfInBounds_toArray, List.set_cons_zero, List.set_cons_succ]
    refine wpAny_done (by kernel_rfl) ?_ _
    clear d20 d21 d22 d23 d24 d25 fr2
    obtain ⟨W, hW⟩ : ∃ V, V = putZ Y2 (s + 1 + 1) (.int .i64 l.kind) (.int .i64 l.ns) (.string l.name) (.slice pa pn pcap) (.string l.text) (.slice (some ⟨g9, o9, none⟩) m c9) := ⟨_, rfl⟩
    have hWu := hW
    unfold putZ at hWu
    rw [← hWu]
    clear hWu
    have x3 : Kp [s + 1 + 1] Y2 W := by rw [hW]; exact (Kp.refl _ _).putZ (g := s + 1 + 1) (Or.inl (by simp)) (.int .i64 l.kind) (.int .i64 l.ns) (.string l.name) (.slice pa pn pcap) (.string l.text) (.slice (some ⟨g9, o9, none⟩) m c9)
    have y3 : Kp [s + 1 + 1] F W := y2.trans x3 (fun z hz => Or.inl hz)
    have C2 : At W (s + 1 + 1) #[.int .i64 l.kind, .int .i64 l.ns, .string l.name, .slice pa pn pcap, .string l.text, .slice (some ⟨g9, o9, none⟩) m c9] 25 := by rw [hW]; exact A2.putZ (.int .i64 l.kind) (.int .i64 l.ns) (.string l.name) (.slice pa pn pcap) (.string l.text) (.slice (some ⟨g9, o9, none⟩) m c9)
    have o13 := o12.keep x3 (fun z hz => by have := b11 z hz; simp; omega)
    clear hW
    obtain ⟨d0, d1, d2, d3, d4, d5⟩ := C2.six
    obtain ⟨E1, E2⟩ := END.out _ y3
    clear END
    go_wp2
    refine bodyPost_ret (v := .tuple #[.agg #[.int .i64 l.kind, .int .i64 l.ns, .string l.name, .slice pa pn pcap, .string l.text, .slice (some ⟨g9, o9, none⟩) m c9], .slice (some a11) (1 + n2) c11]) (by simp [results, go_sem, d0, d1, d2, d3, d4, d5]) rfl ⟨((pa, pn, pcap), (some ⟨g9, o9, none⟩, m, c9)), _, _, _, rfl, E1, ?_, E2⟩
    exact Rk.of_own o13 rfl (fun z hz => by have := b11 z hz; omega)

end Go.Proofs.Ytgnbafgglkncmaa

/-
  under of the law, any way.
-/
namespace Go.Proofs.Ytgnbafgglkncmaa
open Go.RowKit
set_option linter.unusedVariables false

theorem under_any (x : Lb) (y : Fo) (q : Pl) (ws : List Nat) : ∀ (Q : Nat → Prop) (w : World) (l : Lb) (k : Fo) (p : Pl) (wo : Option Addr) (n c : Nat), Nd Q w l k p → Nd Q w x y q → Rk Any 1 w wo n c (iv ws) → Way ws k → k.cnt ≤ 1000 → ws.length ≤ 900 →
    Calls Try.prog 29 #[wv l p, .slice wo n c, wv x q] w fun e w' => ∃ p' ao m d, e = .returned (.tuple #[wv l p', .slice ao m d]) ∧ Nd (fun z => Q z ∨ w.heap.size ≤ z) w' l (underF x y ws k).1 p' ∧ Rk (fun z => w.heap.size ≤ z) 1 w' ao m d (iv (underF x y ws k).2) ∧ Kp [] w w' := by
  induction ws with
  | nil =>
    intro Q w l k p wo n c h hx hr hw hn hl
    have h0 : n = 0 := by have := hr.len; simp [iv] at this; omega
    subst h0
    exact under_nil Q w x l y k p q wo c h hx hn _ rfl
  | cons i ws ih =>
    intro Q w l k p wo n c h hx hr hw hn hl
    obtain ⟨n', rfl⟩ : ∃ n', n = n' + 1 := ⟨ws.length, by have := hr.len; simp [iv] at this; omega⟩
    obtain ⟨h1, h2⟩ := hw
    obtain ⟨l1, k1, e1⟩ := Fo.at_lt h1
    have hk1 := kid_cnt e1
    have hu := Fo.under_of e1
    rw [hu] at h2
    have hlen : (underF x y ws k1).2.length ≤ ws.length + 1 := under_len
    have hl' : ws.length + 1 ≤ 900 := by simpa using hl
    have := under_cons Q w x l k p q wo n' c i ws (underF x y ws k1).2 (fun k => (underF x y ws k).1) l1 k1 _ h hr h1 e1 hn (by omega) (fun W p1 wo1 c1 kW hW hR => ih (fun z => Q z ∧ z < w.heap.size) W l1 k1 p1 wo1 n' c1 hW ((hx.mono (fun z hz h => ⟨h, hz⟩)).kept kW) hR h2 (by omega) (by omega))
    rw [show (underF x y (i :: ws) k).2 = i :: (underF x y ws (k.under i)).2 from rfl, hu]
    exact this

end Go.Proofs.Ytgnbafgglkncmaa
