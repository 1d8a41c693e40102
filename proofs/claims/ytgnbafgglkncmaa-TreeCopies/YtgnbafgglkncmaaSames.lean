/-
  Same of the program.
-/
import Derived.Test.YtgnbafgglkncmaaTellB
import Derived.Test.YtgnbafgglkncmaaLabel
import Derived.Deep.RegionWith
namespace Go.Proofs.Ytgnbafgglkncmaa
open Go.RowKit
set_option linter.unusedVariables false

/-- A label that is not too great. -/
def okL (l : Lb) : Prop := l.attrs.length ≤ 300 ∧ fits l.attrs

theorem vis_each {P : Lb → Prop} (f : Fo) : ∀ d, f.Each P → ∀ v, v ∈ f.vis d → P v.2.1 := by
  refine Fo.ind (P := fun f => ∀ d, f.Each P → ∀ v, v ∈ f.vis d → P v.2.1) (fun d _ v h => by simp [vis_nil] at h) (fun l k r hk hr d he v h => ?_) f
  rw [vis_cons, List.mem_cons, List.mem_append] at h
  rcases h with rfl | h | h
  · exact he.1
  · exact hk _ he.2.1 v h
  · exact hr _ he.2.2 v h

/-- A tree that is not too great. -/
def okT (l : Lb) (k : Fo) : Prop := (Fo.cons l k .nil).Each okL ∧ k.cnt ≤ 20000

/-- The loop of Same. -/
def RSame (B : World) (s1 s2 : Ws) (l : Lb) (k : Fo) (p : Pl) (l' : Lb) (k' : Fo) (p' : Pl) (A : Bool) (wr : World) (n : Nat) : Prop :=
  ∃ (S T : List Vt) (v1 v2 : Value), Wl B wr (s1.at v1) S l k p ∧ Wl B wr (s2.at v2) T l' k' p' ∧ (∀ x, x ∈ (s1.at v1).own → x ∉ (s2.at v2).own) ∧ sameV sameL S T = A ∧ S.length = n ∧ (∀ v, v ∈ S → okL v.2.1) ∧ (∀ v, v ∈ T → okL v.2.1)

theorem Told6.keep {w0 w w' : World} {s : Ws} {b off : Nat} {l : Lb} {k : Fo} (h : Told6 w0 w s b off l k) {D : List Nat} (hk : Kp D w w') (h1 : ∀ x, x ∈ D → w0.heap.size ≤ x) (h2 : ∀ x, x ∈ s.own → x ∉ D) : Told6 w0 w' s b off l k := by
  obtain ⟨p, h3, h4, h5⟩ := h
  refine ⟨p, h3.keep hk (fun hx => ?_), h4, h5⟩
  rcases h5 with h5 | h5
  · have := h1 b hx; omega
  · exact h2 b (by rw [h5]; simp [Ws.own]) hx

/-- One walk steps; the other one stays. -/
theorem Wl.beside {B w w' : World} {s1 s2 : Ws} {T : List Vt} {l' : Lb} {k' : Fo} {p' : Pl} {v' : Value} (h1 : ∀ x, x ∈ s1.own → B.heap.size ≤ x) (h2 : Wl B w s2 T l' k' p') (n : Nx w w' s1 v') (hd : ∀ x, x ∈ s1.own → x ∉ s2.own) : Wl B w' s2 T l' k' p' ∧ ∀ x, x ∈ (s1.at v').own → x ∉ s2.own := by
  refine ⟨h2.other n.kp h1 (fun x hx h => hd x h hx), fun x hx h => ?_⟩
  rcases n.own x hx with h3 | h3
  · exact hd x h3 h
  · have := h2.lt x h; omega

theorem at_at (s : Ws) (v v' : Value) : (s.at v).at v' = s.at v' := rfl

theorem same_nc' (q : Lb → Lb → Bool) (u : Vt) (T : List Vt) : sameV q [] (u :: T) = false := rfl
theorem same_cn' (q : Lb → Lb → Bool) (u : Vt) (S : List Vt) : sameV q (u :: S) [] = false := rfl

set_option maxRecDepth 100000 in
set_option maxHeartbeats 1500000 in
theorem tsame_any (w : World) (l : Lb) (k : Fo) (p : Pl) (l' : Lb) (k' : Fo) (p' : Pl) (h : Nd Any w l k p) (h' : Nd Any w l' k' p') (ho : okT l k) (ho' : okT l' k') :
    Calls Try.prog 14 #[wv l p, wv l' p'] w fun e w' => e = .returned (.bool (sameT l k l' k')) ∧ Kp [] w w' := by
  obtain ⟨B, hB⟩ : ∃ B, B = (w.alloc (.cells (six l p).toArray 25)).alloc (.cells (six l' p').toArray 25) := ⟨_, rfl⟩
  have k1 : Kp [] w B := by rw [hB]; exact ((Kp.refl _ _).alloc _).alloc _
  have HB1 : Hid (∀ V, Kp [] B V → Calls Try.prog 32 #[wv l p] V fun e w' => ∃ s, e = .returned (.pointer (some ⟨s.P, 0, none⟩)) ∧ Wl B w' s ((Fo.cons l k .nil).vis 0) l k p ∧ Kp [] V w' ∧ ∀ x, x ∈ s.own → V.heap.size ≤ x) := fun V kV => begin_c B V l k p kV (h.kept k1) ho.2
  have HB2 : Hid (∀ V, Kp [] B V → Calls Try.prog 32 #[wv l' p'] V fun e w' => ∃ s, e = .returned (.pointer (some ⟨s.P, 0, none⟩)) ∧ Wl B w' s ((Fo.cons l' k' .nil).vis 0) l' k' p' ∧ Kp [] V w' ∧ ∀ x, x ∈ s.own → V.heap.size ≤ x) := fun V kV => begin_c B V l' k' p' kV (h'.kept k1) ho'.2
  have hsame : Hid (sameV sameL ((Fo.cons l k .nil).vis 0) ((Fo.cons l' k' .nil).vis 0) = sameT l k l' k') := by
    have := same_vis (q := sameL) (fun a b => by simp [sameL]) (Fo.cons l k .nil) (Fo.cons l' k' .nil) 0 0 [] [] rfl
    simp only [List.append_nil] at this
    show sameV sameL _ _ = _
    rw [this, Fo.same_cons]
    simp [sameT, sameV]
  have HO : Hid ((∀ v, v ∈ (Fo.cons l k .nil).vis 0 → okL v.2.1) ∧ (∀ v, v ∈ (Fo.cons l' k' .nil).vis 0 → okL v.2.1)) := ⟨vis_each _ 0 ho.1, vis_each _ 0 ho'.1⟩
  have g1 : B.heap[w.heap.size]? = some (.cells (six l p).toArray 25 (0, 0)) := by rw [hB, Below.heap_alloc _ _ _ (by simp)]; exact heap_new _ _
  have g2 : B.heap[w.heap.size + 1]? = some (.cells (six l' p').toArray 25 (0, 0)) := by rw [hB]; exact heap_new' _ _ _ (by simp)
  have HS : Hid (∀ V, Kp [] B V → Cl V w.heap.size 0 l p ∧ Cl V (w.heap.size + 1) 0 l' p') := fun V kV =>
    ⟨Cl.keep ⟨_, _, g1, fun i hi => by simp⟩ kV (by simp), Cl.keep ⟨_, _, g2, fun i hi => by simp⟩ kV (by simp)⟩
  have HW : Hid ((w.alloc (.cells #[.int .i64 l.kind, .int .i64 l.ns, .string l.name, .slice p.1.1 p.1.2.1 p.1.2.2, .string l.text, .slice p.2.1 p.2.2.1 p.2.2.2] 25)).alloc (.cells #[.int .i64 l'.kind, .int .i64 l'.ns, .string l'.name, .slice p'.1.1 p'.1.2.1 p'.1.2.2, .string l'.text, .slice p'.2.1 p'.2.2.1 p'.2.2.2] 25) = B) := hB.symm
  have KB : Hid (Kp [] w B) := k1
  generalize sameT l k l' k' = A at hsame ⊢
  clear h h' ho ho' g1 g2 k1 hB
  simp only [wv] at HB1 HB2 ⊢
  go_enter Try.func14, Try.ntmps14
  go_wp2_with fail
  rw [HW.out]
  go_region_held3 (fun V => (V.cell? ⟨w.heap.size, 0, none⟩ = some (.int .i64 l.kind) ∧ V.cell? ⟨w.heap.size, 1, none⟩ = some (.int .i64 l.ns) ∧ V.cell? ⟨w.heap.size, 2, none⟩ = some (.string l.name) ∧ V.cell? ⟨w.heap.size, 3, none⟩ = some (.slice p.1.1 p.1.2.1 p.1.2.2) ∧ V.cell? ⟨w.heap.size, 4, none⟩ = some (.string l.text) ∧ V.cell? ⟨w.heap.size, 5, none⟩ = some (.slice p.2.1 p.2.2.1 p.2.2.2)) ∧ (V.cell? ⟨w.heap.size + 1, 0, none⟩ = some (.int .i64 l'.kind) ∧ V.cell? ⟨w.heap.size + 1, 1, none⟩ = some (.int .i64 l'.ns) ∧ V.cell? ⟨w.heap.size + 1, 2, none⟩ = some (.string l'.name) ∧ V.cell? ⟨w.heap.size + 1, 3, none⟩ = some (.slice p'.1.1 p'.1.2.1 p'.1.2.2) ∧ V.cell? ⟨w.heap.size + 1, 4, none⟩ = some (.string l'.text) ∧ V.cell? ⟨w.heap.size + 1, 5, none⟩ = some (.slice p'.2.1 p'.2.2.1 p'.2.2.2)))
    (first
      | exact ⟨(HS.out _ (Q1.out.trans Q2.out (fun x hx => Or.inl hx))).1.cells, (HS.out _ (Q1.out.trans Q2.out (fun x hx => Or.inl hx))).2.cells⟩
      | exact ⟨(HS.out _ Q1.out).1.cells, (HS.out _ Q1.out).2.cells⟩
      | exact ⟨(HS.out _ (Kp.refl _ _).drew).1.cells, (HS.out _ (Kp.refl _ _).drew).2.cells⟩)
    (first
      | (go_at_call 32; have D2 := Q1.out; refine (HB2.out _ D2).mono ?_; rintro e w2 ⟨s2, rfl, L2, K2, O2⟩; have Q2 : Hid (Kp [] w1 w2) := K2)
      | (go_at_call 32; refine (HB1.out _ (Kp.refl _ _).drew).mono ?_; rintro e w1 ⟨s1, rfl, L1, K1, O1⟩; have Q1 : Hid (Kp [] B w1) := (Kp.refl _ _).drew.trans K1 (fun x hx => Or.inl hx)))
  have hd12 : ∀ x, x ∈ s1.own → x ∉ s2.own := fun x h1 h2 => by
    have a1 := L1.lt x h1
    have a2 := O2 x h2
    omega
  have L1' : Wl B w2 s1 ((Fo.cons l k .nil).vis 0) l k p := L1.kept K2
  obtain ⟨μ, hμ⟩ := least_of (RSame B s1 s2 l k p l' k' p' A)
  go_wp2_with fail
  go_loopw [7] (fun x7 wr => ∃ n, RSame B s1 s2 l k p l' k' p' A wr n) (fun x7 wr => μ wr)
  case atStart => exact ⟨_, _, _, s1.v, s2.v, L1', L2, hd12, hsame.out, rfl, HO.out.1, HO.out.2⟩
  case round =>
    clear L1' L1 L2 hd12 hsame HO HB1 HB2 HS HW Q1 Q2 K1 K2 O1 O2
    obtain ⟨n0, hrel⟩ := hrel
    obtain ⟨S, T, v1, v2, L1, L2, hd, hA, hS, hO1, hO2⟩ := (hμ _ _ hrel).1
    have KF : Hid (Kp [] w wr) := KB.out.trans L1.kp (fun x hx => Or.inl hx)
    have HM : Hid (∀ a n, RSame B s1 s2 l k p l' k' p' A a n → μ a ≤ n) := fun a n hn => (hμ a n hn).2
    have HS : Hid (S.length = μ wr) := hS
    have HD : Hid (∀ x, x ∈ (s1.at v1).own → x ∉ (s2.at v2).own) := hd
    have HL2 : Hid (Wl B wr (s2.at v2) T l' k' p') := L2
    have HN1 : Hid (∀ x, x ∈ (s1.at v1).own → B.heap.size ≤ x) := L1.new
    have HN := next_c _ _ _ _ _ _ _ L1
    clear hrel hμ hS L1 L2 hd
    rcases S with _ | ⟨a, S⟩ <;> rcases T with _ | ⟨b, T⟩
    · obtain rfl : true = A := hA
      go_wp2_with (first
        | (go_at_call 33; have D1 := M1.out; refine (next_c _ _ _ _ _ _ _ D1).mono ?_; rintro e w2 ⟨ao2, d2, y2, u2, rfl, R2, N2, rfl, rfl, rfl⟩)
        | (go_at_call 33; refine HN.mono ?_; rintro e w1 ⟨ao1, d1, y1, u1, rfl, R1, N1, rfl, rfl, rfl⟩; have M1 : Hid (Wl B w1 (s2.at v2) _ l' k' p') := (Wl.beside HN1.out HL2.out N1 HD.out).1))
      go_ret
      exact ⟨rfl, KB.out.trans R2.kp (fun x hx => Or.inl hx)⟩
    · obtain rfl : false = A := hA
      go_wp2_with (first
        | (go_at_call 33; have D1 := M1.out; refine (next_c _ _ _ _ _ _ _ D1).mono ?_; rintro e w2 ⟨ao2, d2, y2, u2, rfl, R2, N2, b2, off2, rfl, rfl, rfl, t2⟩)
        | (go_at_call 33; refine HN.mono ?_; rintro e w1 ⟨ao1, d1, y1, u1, rfl, R1, N1, rfl, rfl, rfl⟩; have M1 : Hid (Wl B w1 (s2.at v2) _ l' k' p') := (Wl.beside HN1.out HL2.out N1 HD.out).1))
      go_ret
      exact ⟨rfl, KB.out.trans R2.kp (fun x hx => Or.inl hx)⟩
    · obtain rfl : false = A := hA
      go_wp2_with (first
        | (go_at_call 33; have D1 := M1.out; refine (next_c _ _ _ _ _ _ _ D1).mono ?_; rintro e w2 ⟨ao2, d2, y2, u2, rfl, R2, N2, rfl, rfl, rfl⟩)
        | (go_at_call 33; refine HN.mono ?_; rintro e w1 ⟨ao1, d1, y1, u1, rfl, R1, N1, b1, off1, rfl, rfl, rfl, t1⟩; have M1 : Hid (Wl B w1 (s2.at v2) _ l' k' p') := (Wl.beside HN1.out HL2.out N1 HD.out).1))
      go_ret
      exact ⟨rfl, KB.out.trans R2.kp (fun x hx => Or.inl hx)⟩
    · have hA2 : (sameL a.2.1 b.2.1 && decide (a.2.2.len = b.2.2.len) && sameV sameL S T) = A := hA
      clear hA
      go_wp2_with (first
        | (go_at_call 33; have D1 := M1.out; refine (next_c _ _ _ _ _ _ _ D1).mono ?_; rintro e w2 ⟨ao2, d2, y2, u2, rfl, R2, N2, b2, off2, rfl, rfl, rfl, t2⟩)
        | (go_at_call 33; refine HN.mono ?_; rintro e w1 ⟨ao1, d1, y1, u1, rfl, R1, N1, b1, off1, rfl, rfl, rfl, t1⟩; have M1 : Hid (Wl B w1 (s2.at v2) _ l' k' p') := (Wl.beside HN1.out HL2.out N1 HD.out).1))
      have X1 := Wl.beside HN1.out HL2.out N1 HD.out
      have X2 := Wl.beside D1.new R1 N2 (fun x h1 h2 => X1.2 x h2 h1)
      have t1' := t1.keep N2.kp D1.new (fun x hx h => X1.2 x hx h)
      obtain ⟨p1, cl1, nd1, _⟩ := t1'
      obtain ⟨p2, cl2, nd2, _⟩ := t2
      have kB := R2.kp
      have HLB : Hid (∀ V, Kp [] w2 V → Calls Try.prog 39 #[.pointer (some ⟨b1, off1, none⟩), wv b.2.1 p2] V fun e w' => e = .returned (.bool (sameL a.2.1 b.2.1)) ∧ Kp [] V w') := fun V kV => label_any V b1 off1 a.2.1 b.2.1 p1 p2 (cl1.keep kV (by simp)) ((nd1.kept kB).kept kV).at'.rp ((nd2.kept kB).kept kV).at'.rp (by have := (hO1 a (by simp)).1; have := nd1.alen; omega) (by have := (hO2 b (by simp)).1; have := nd2.alen; omega)
      have e1 : p1.2.2.1 = a.2.2.len := nd1.klen
      have e2 : p2.2.2.1 = b.2.2.len := nd2.klen
      have HZ : Hid (Wl B w2 (s1.at u1) S l k p ∧ Wl B w2 (s2.at u2) T l' k' p' ∧ (∀ x, x ∈ (s1.at u1).own → x ∉ (s2.at u2).own) ∧ (∀ v, v ∈ S → okL v.2.1) ∧ (∀ v, v ∈ T → okL v.2.1)) := ⟨X2.1, R2, fun x h1 h2 => X2.2 x h2 h1, fun v hv => hO1 v (by simp [hv]), fun v hv => hO2 v (by simp [hv])⟩
      have KC : Hid (∀ V, Kp [] w2 V → Cl V b1 off1 a.2.1 p1 ∧ Cl V b2 off2 b.2.1 p2) := fun V kV => ⟨cl1.keep kV (by simp), cl2.keep kV (by simp)⟩
      clear X1 X2 t1 nd1 nd2 R1 R2 N1 N2 M1 D1 HD HL2 HN1 HN hO1 hO2
      obtain ⟨x0, x1, x2, x3, x4, x5⟩ := cl1.cells
      obtain ⟨y0, y1, y2, y3, y4, y5⟩ := cl2.cells
      clear cl1 cl2
      rw [← e1, ← e2] at hA2
      clear e1 e2
      generalize hLb : sameL a.2.1 b.2.1 = LL at hA2 HLB
      simp only [wv] at HLB
      cases LL with
      | false =>
        obtain rfl : false = A := by rw [← hA2]; simp
        clear hA2 hLb
        refine wp_region_any (by kernel_rfl) ?_
        change wpAny _ _ _ _ _ _ _ (World.drew _)
        refine wpAny_take (i := 0) (oi := { dst := some 38, op := Go.Op.move (Go.Operand.tmp 7), type := 52, pos := "tree.go:22", after := #[], guard := none }) (v := ?_) rfl (by kernel_rfl) (by kernel_rfl) (by kernel_rfl) (fun _ _ _ h => h) (Or.inl ⟨by rfl, ?_⟩) ?_
        rotate_left
        · intro w; go_simp <;> with_reducible rfl
        try simp only [Act.put, List.setIfInBounds_toArray, List.set_cons_zero, List.set_cons_succ]
        refine wpAny_take (i := 1) (oi := { dst := some 39, op := Go.Op.move (Go.Operand.tmp 10), type := 52, pos := "tree.go:22", after := #[], guard := none }) (v := ?_) rfl (by kernel_rfl) (by kernel_rfl) (by kernel_rfl) (fun _ _ _ h => h) (Or.inl ⟨by rfl, ?_⟩) ?_
        rotate_left
        · intro w; go_simp <;> with_reducible rfl
        try simp only [Act.put, List.setIfInBounds_toArray, List.set_cons_zero, List.set_cons_succ]
        refine wpAny_take (i := 2) (oi := { dst := some 40, op := Go.Op.nilCheck (Go.Operand.tmp 39), type := 0, pos := "tree.go:22", after := #[{ on := 1, ground := Go.Ground.data }], guard := none }) (v := ?_) rfl (by kernel_rfl) (by kernel_rfl) (by kernel_rfl) (fun _ _ _ h => h) (Or.inl ⟨by rfl, ?_⟩) ?_
        rotate_left
        · intro w; go_simp <;> with_reducible rfl
        try simp only [Act.put, List.setIfInBounds_toArray, List.set_cons_zero, List.set_cons_succ]
        refine wpAny_ready (rs := [3]) (by kernel_rfl) (by simp) (AllReady.cons rfl (fun K hK => ?_) AllReady.nil)
        go_simp; refine hK _ _ ?_; clear hK K
        refine wpAny_ready (rs := [4]) (by kernel_rfl) (by simp) (AllReady.cons rfl (fun K hK => ?_) AllReady.nil)
        go_simp
        refine (HLB.out _ (Kp.refl _ _).drew).mono ?_
        rintro e w3 ⟨rfl, k3⟩
        have K3 : Hid (Kp [] w2 w3) := (Kp.refl _ _).drew.trans k3 (fun x hx => Or.inl hx)
        go_simp
        refine hK _ _ ?_; clear hK K
        try simp only [Act.put, List.setIfInBounds_toArray, List.set_cons_zero, List.set_cons_succ]
        refine wpAny_take (i := 5) (oi := { dst := some 43, op := Go.Op.unOp Go.UnOp.not 4 (Go.Operand.tmp 42), type := 4, pos := "tree.go:22", after := #[{ on := 4, ground := Go.Ground.data }], guard := none }) (v := ?_) rfl (by kernel_rfl) (by kernel_rfl) (by kernel_rfl) (fun _ _ _ h => h) (Or.inl ⟨by rfl, ?_⟩) ?_
        rotate_left
        · intro w; go_simp <;> with_reducible rfl
        try simp only [Act.put, List.setIfInBounds_toArray, List.set_cons_zero, List.set_cons_succ]
        refine wpAny_take (i := 6) (oi := { dst := some 44, op := Go.Op.move (Go.Operand.tmp 43), type := 4, pos := "tree.go:22", after := #[{ on := 5, ground := Go.Ground.data }, { on := 4, ground := Go.Ground.chain }], guard := none }) (v := ?_) rfl (by kernel_rfl) (by kernel_rfl) (by kernel_rfl) (fun _ _ _ h => h) (Or.inl ⟨by rfl, ?_⟩) ?_
        rotate_left
        · intro w; go_simp <;> with_reducible rfl
        try simp only [Act.put, List.setIfInBounds_toArray, List.set_cons_zero, List.set_cons_succ]
        refine wpAny_take (i := 7) (oi := { dst := some 45, op := Go.Op.move (Go.Operand.tmp 7), type := 52, pos := "tree.go:22", after := #[{ on := 6, ground := Go.Ground.guard }], guard := some (6, false) }) (v := undef) rfl (by kernel_rfl) (by kernel_rfl) (by kernel_rfl) (fun _ _ _ h => h) (Or.inr ⟨by kernel_rfl, rfl⟩) ?_
        try simp only [Act.put, List.setIfInBounds_toArray, List.set_cons_zero, List.set_cons_succ]
        refine wpAny_take (i := 8) (oi := { dst := some 46, op := Go.Op.nilCheck (Go.Operand.tmp 45), type := 0, pos := "tree.go:22", after := #[{ on := 7, ground := Go.Ground.data }, { on := 6, ground := Go.Ground.guard }], guard := some (6, false) }) (v := undef) rfl (by kernel_rfl) (by kernel_rfl) (by kernel_rfl) (fun _ _ _ h => h) (Or.inr ⟨by kernel_rfl, rfl⟩) ?_
        try simp only [Act.put, List.setIfInBounds_toArray, List.set_cons_zero, List.set_cons_succ]
        refine wpAny_take (i := 9) (oi := { dst := some 47, op := Go.Op.fieldAddr 25 (Go.Operand.tmp 46) 5, type := 0, pos := "tree.go:22", after := #[{ on := 8, ground := Go.Ground.data }, { on := 6, ground := Go.Ground.guard }], guard := some (6, false) }) (v := undef) rfl (by kernel_rfl) (by kernel_rfl) (by kernel_rfl) (fun _ _ _ h => h) (Or.inr ⟨by kernel_rfl, rfl⟩) ?_
        try simp only [Act.put, List.setIfInBounds_toArray, List.set_cons_zero, List.set_cons_succ]
        refine wpAny_take (i := 10) (oi := { dst := some 48, op := Go.Op.load 23 (Go.Operand.tmp 47), type := 23, pos := "tree.go:22", after := #[{ on := 9, ground := Go.Ground.data }, { on := 6, ground := Go.Ground.guard }], guard := some (6, false) }) (v := undef) rfl (by kernel_rfl) (by kernel_rfl) (by kernel_rfl) (fun _ _ _ h => h) (Or.inr ⟨by kernel_rfl, rfl⟩) ?_
        try simp only [Act.put, List.setIfInBounds_toArray, List.set_cons_zero, List.set_cons_succ]
        refine wpAny_take (i := 11) (oi := { dst := some 49, op := Go.Op.call { callee := Go.Callee.builtin Go.Builtin.len, args := #[Go.Operand.tmp 48], argTypes := #[23] }, type := 3, pos := "tree.go:22", after := #[{ on := 10, ground := Go.Ground.data }, { on := 6, ground := Go.Ground.guard }], guard := some (6, false) }) (v := undef) rfl (by kernel_rfl) (by kernel_rfl) (by kernel_rfl) (fun _ _ _ h => h) (Or.inr ⟨by kernel_rfl, rfl⟩) ?_
        try simp only [Act.put, List.setIfInBounds_toArray, List.set_cons_zero, List.set_cons_succ]
        refine wpAny_take (i := 12) (oi := { dst := some 50, op := Go.Op.move (Go.Operand.tmp 10), type := 52, pos := "tree.go:22", after := #[{ on := 6, ground := Go.Ground.guard }], guard := some (6, false) }) (v := undef) rfl (by kernel_rfl) (by kernel_rfl) (by kernel_rfl) (fun _ _ _ h => h) (Or.inr ⟨by kernel_rfl, rfl⟩) ?_
        try simp only [Act.put, List.setIfInBounds_toArray, List.set_cons_zero, List.set_cons_succ]
        refine wpAny_take (i := 13) (oi := { dst := some 51, op := Go.Op.nilCheck (Go.Operand.tmp 50), type := 0, pos := "tree.go:22", after := #[{ on := 12, ground := Go.Ground.data }, { on := 6, ground := Go.Ground.guard }], guard := some (6, false) }) (v := undef) rfl (by kernel_rfl) (by kernel_rfl) (by kernel_rfl) (fun _ _ _ h => h) (Or.inr ⟨by kernel_rfl, rfl⟩) ?_
        try simp only [Act.put, List.setIfInBounds_toArray, List.set_cons_zero, List.set_cons_succ]
        refine wpAny_take (i := 14) (oi := { dst := some 52, op := Go.Op.fieldAddr 25 (Go.Operand.tmp 51) 5, type := 0, pos := "tree.go:22", after := #[{ on := 13, ground := Go.Ground.data }, { on := 6, ground := Go.Ground.guard }], guard := some (6, false) }) (v := undef) rfl (by kernel_rfl) (by kernel_rfl) (by kernel_rfl) (fun _ _ _ h => h) (Or.inr ⟨by kernel_rfl, rfl⟩) ?_
        try simp only [Act.put, List.setIfInBounds_toArray, List.set_cons_zero, List.set_cons_succ]
        refine wpAny_take (i := 15) (oi := { dst := some 53, op := Go.Op.load 23 (Go.Operand.tmp 52), type := 23, pos := "tree.go:22", after := #[{ on := 14, ground := Go.Ground.data }, { on := 6, ground := Go.Ground.guard }], guard := some (6, false) }) (v := undef) rfl (by kernel_rfl) (by kernel_rfl) (by kernel_rfl) (fun _ _ _ h => h) (Or.inr ⟨by kernel_rfl, rfl⟩) ?_
        try simp only [Act.put, List.setIfInBounds_toArray, List.set_cons_zero, List.set_cons_succ]
        refine wpAny_take (i := 16) (oi := { dst := some 54, op := Go.Op.call { callee := Go.Callee.builtin Go.Builtin.len, args := #[Go.Operand.tmp 53], argTypes := #[23] }, type := 3, pos := "tree.go:22", after := #[{ on := 15, ground := Go.Ground.data }, { on := 6, ground := Go.Ground.guard }], guard := some (6, false) }) (v := undef) rfl (by kernel_rfl) (by kernel_rfl) (by kernel_rfl) (fun _ _ _ h => h) (Or.inr ⟨by kernel_rfl, rfl⟩) ?_
        try simp only [Act.put, List.setIfInBounds_toArray, List.set_cons_zero, List.set_cons_succ]
        refine wpAny_take (i := 17) (oi := { dst := some 55, op := Go.Op.binOp Go.BinOp.neq 3 (Go.Operand.tmp 49) (Go.Operand.tmp 54) 3, type := 4, pos := "tree.go:22", after := #[{ on := 11, ground := Go.Ground.data }, { on := 16, ground := Go.Ground.data }, { on := 6, ground := Go.Ground.guard }], guard := some (6, false) }) (v := undef) rfl (by kernel_rfl) (by kernel_rfl) (by kernel_rfl) (fun _ _ _ h => h) (Or.inr ⟨by kernel_rfl, rfl⟩) ?_
        try simp only [Act.put, List.setIfInBounds_toArray, List.set_cons_zero, List.set_cons_succ]
        refine wpAny_take (i := 18) (oi := { dst := some 56, op := Go.Op.pick (Go.Operand.tmp 44) (Go.Operand.const (Go.Value.bool true)) (Go.Operand.tmp 55), type := 4, pos := "tree.go:22", after := #[{ on := 6, ground := Go.Ground.data }, { on := 17, ground := Go.Ground.data }], guard := none }) (v := ?_) rfl (by kernel_rfl) (by kernel_rfl) (by kernel_rfl) (fun _ _ _ h => h) (Or.inl ⟨by rfl, ?_⟩) ?_
        rotate_left
        · intro w; go_simp <;> with_reducible rfl
        try simp only [Act.put, List.setIfInBounds_toArray, List.set_cons_zero, List.set_cons_succ]
        refine wpAny_done (by kernel_rfl) ?_ _
        go_wp2
        go_ret
        exact ⟨rfl, KB.out.trans (kB.trans K3.out (fun x hx => Or.inl hx)) (fun x hx => Or.inl hx)⟩
      | true =>
        clear hLb
        by_cases hnn : p1.2.2.1 = p2.2.2.1
        · have hA3 : Hid (sameV sameL S T = A) := by
            show sameV sameL S T = A
            rw [← hA2, decide_eq_true hnn]; simp
          have q1 : ((p1.2.2.1 : Int) == (p2.2.2.1 : Int)) = true := by rw [hnn]; simp
          have q2 : ((p1.2.2.1 : Int) != (p2.2.2.1 : Int)) = false := by simp only [bne, q1]; rfl
          clear hA2 hnn
          go_region_held3 (fun V => V.cell? ⟨b1, off1 + 5, none⟩ = some (.slice p1.2.1 p1.2.2.1 p1.2.2.2) ∧ V.cell? ⟨b2, off2, none⟩ = some (.int .i64 b.2.1.kind) ∧ V.cell? ⟨b2, off2 + 1, none⟩ = some (.int .i64 b.2.1.ns) ∧ V.cell? ⟨b2, off2 + 2, none⟩ = some (.string b.2.1.name) ∧ V.cell? ⟨b2, off2 + 3, none⟩ = some (.slice p2.1.1 p2.1.2.1 p2.1.2.2) ∧ V.cell? ⟨b2, off2 + 4, none⟩ = some (.string b.2.1.text) ∧ V.cell? ⟨b2, off2 + 5, none⟩ = some (.slice p2.2.1 p2.2.2.1 p2.2.2.2))
            (first
              | exact ⟨(KC.out _ K3.out).1.cells.2.2.2.2.2, (KC.out _ K3.out).2.cells⟩
              | exact ⟨(KC.out _ (Kp.refl _ _).drew).1.cells.2.2.2.2.2, (KC.out _ (Kp.refl _ _).drew).2.cells⟩)
            (first | (go_at_call 39; refine (HLB.out _ (Kp.refl _ _).drew).mono ?_; rintro e w3 ⟨rfl, k3⟩; have K3 : Hid (Kp [] w2 w3) := (Kp.refl _ _).drew.trans k3 (fun x hx => Or.inl hx)))
          go_wp2
          have ZK := HZ.out
          have RR : RSame B s1 s2 l k p l' k' p' A w3 S.length := ⟨S, T, u1, u2, ZK.1.kept K3.out, ZK.2.1.kept K3.out, ZK.2.2.1, hA3.out, rfl, ZK.2.2.2.1, ZK.2.2.2.2⟩
          go_roundw
          case rel => exact ⟨_, RR⟩
          case measure =>
            refine Nat.lt_of_le_of_lt (HM.out _ _ RR) ?_
            rw [← HS.out]; simp
        · obtain rfl : false = A := by rw [← hA2, decide_eq_false hnn]; simp
          have q1 : ((p1.2.2.1 : Int) == (p2.2.2.1 : Int)) = false := by simp; omega
          have q2 : ((p1.2.2.1 : Int) != (p2.2.2.1 : Int)) = true := by simp only [bne, q1]; rfl
          clear hA2
          go_region_held3 (fun V => V.cell? ⟨b1, off1 + 5, none⟩ = some (.slice p1.2.1 p1.2.2.1 p1.2.2.2) ∧ V.cell? ⟨b2, off2, none⟩ = some (.int .i64 b.2.1.kind) ∧ V.cell? ⟨b2, off2 + 1, none⟩ = some (.int .i64 b.2.1.ns) ∧ V.cell? ⟨b2, off2 + 2, none⟩ = some (.string b.2.1.name) ∧ V.cell? ⟨b2, off2 + 3, none⟩ = some (.slice p2.1.1 p2.1.2.1 p2.1.2.2) ∧ V.cell? ⟨b2, off2 + 4, none⟩ = some (.string b.2.1.text) ∧ V.cell? ⟨b2, off2 + 5, none⟩ = some (.slice p2.2.1 p2.2.2.1 p2.2.2.2))
            (first
              | exact ⟨(KC.out _ K3.out).1.cells.2.2.2.2.2, (KC.out _ K3.out).2.cells⟩
              | exact ⟨(KC.out _ (Kp.refl _ _).drew).1.cells.2.2.2.2.2, (KC.out _ (Kp.refl _ _).drew).2.cells⟩)
            (first | (go_at_call 39; refine (HLB.out _ (Kp.refl _ _).drew).mono ?_; rintro e w3 ⟨rfl, k3⟩; have K3 : Hid (Kp [] w2 w3) := (Kp.refl _ _).drew.trans k3 (fun x hx => Or.inl hx)))
          go_wp2
          go_ret
          exact ⟨rfl, KB.out.trans (kB.trans K3.out (fun x hx => Or.inl hx)) (fun x hx => Or.inl hx)⟩

end Go.Proofs.Ytgnbafgglkncmaa
