/-
  Joined: Sizes SameW.
-/
import Derived.Test.YtgnbafgglkncmaaShows
import Derived.Test.YtgnbafgglkncmaaSames
import Derived.Test.YtgnbafgglkncmaaRefGH
import Derived.Test.YtgnbafgglkncmaaRefEF
import Derived.Test.YtgnbafgglkncmaaRefB
import Derived.Test.YtgnbafgglkncmaaRights
import Derived.Test.YtgnbafgglkncmaaSix

/-
  How great what is told of a small tree is. No program.
-/
namespace Go.Proofs.Ytgnbafgglkncmaa
open Go.RowKit
set_option linter.unusedVariables false

theorem show_size (g : Lb → ByteArray) (M : Nat) (f : Fo) : ∀ a : ByteArray, f.Each (fun l => (g l).size ≤ M) → (f.show_ g a).size ≤ f.cnt * (a.size + 2 * f.dep + M + 1) := by
  refine Fo.ind (P := fun f => ∀ a : ByteArray, f.Each (fun l => (g l).size ≤ M) → (f.show_ g a).size ≤ f.cnt * (a.size + 2 * f.dep + M + 1)) (fun a _ => Nat.zero_le _) (fun l k r hk hr a h => ?_) f
  obtain ⟨h1, h2, h3⟩ := (Fo.each_cons ..).1 h
  have e1 := hk (a ++ ⟨#[32, 32]⟩) h2
  have e2 := hr a h3
  rw [Fo.show_cons, Fo.cnt_cons, Fo.dep_cons]
  simp only [ByteArray.size_append] at e1 ⊢
  have c1 : (⟨#[32, 32]⟩ : ByteArray).size = 2 := rfl
  have c2 : (⟨#[10]⟩ : ByteArray).size = 1 := rfl
  rw [c1] at e1
  rw [c2]
  have m1 : k.cnt * (a.size + 2 + 2 * k.dep + M + 1) ≤ k.cnt * (a.size + 2 * max (k.dep + 1) r.dep + M + 1) := Nat.mul_le_mul_left _ (by omega)
  have m2 : r.cnt * (a.size + 2 * r.dep + M + 1) ≤ r.cnt * (a.size + 2 * max (k.dep + 1) r.dep + M + 1) := Nat.mul_le_mul_left _ (by omega)
  have m3 : (1 + k.cnt + r.cnt) * (a.size + 2 * max (k.dep + 1) r.dep + M + 1) = (a.size + 2 * max (k.dep + 1) r.dep + M + 1) + k.cnt * (a.size + 2 * max (k.dep + 1) r.dep + M + 1) + r.cnt * (a.size + 2 * max (k.dep + 1) r.dep + M + 1) := by rw [Nat.add_mul, Nat.add_mul, Nat.one_mul]
  rw [m3]
  have h1' : (g l).size ≤ M := h1
  omega

theorem fold_size (g : Lb → ByteArray) (M : Nat) (f : Fo) : f.Each (fun l => (g l).size ≤ M) → (f.fold g).size ≤ f.cnt * M := by
  refine Fo.ind (P := fun f => f.Each (fun l => (g l).size ≤ M) → (f.fold g).size ≤ f.cnt * M) (fun _ => Nat.zero_le _) (fun l k r hk hr h => ?_) f
  obtain ⟨h1, h2, h3⟩ := (Fo.each_cons ..).1 h
  have e1 := hk h2
  have e2 := hr h3
  rw [Fo.fold_cons, Fo.cnt_cons]
  simp only [ByteArray.size_append]
  rw [Nat.add_mul, Nat.add_mul, Nat.one_mul]
  have h1' : (g l).size ≤ M := h1
  omega

/-- A small label. -/
def small (l : Lb) : Prop := l.name.size ≤ 100 ∧ l.text.size ≤ 100 ∧ l.attrs.length ≤ 6 ∧ ∀ a, a ∈ l.attrs → a.1.size ≤ 100 ∧ a.2.size ≤ 100

theorem lineA_size (l : List Att) : ∀ s : ByteArray, (∀ a, a ∈ l → a.1.size ≤ 100 ∧ a.2.size ≤ 100) → (lineA l s).size ≤ s.size + l.length * 210 := by
  induction l with
  | nil => intro s _; simp [lineA]
  | cons b l ih =>
    intro s h
    have h1 := h b (by simp)
    have h2 := ih (s ++ ⟨#[32]⟩ ++ b.1 ++ ⟨#[61, 34]⟩ ++ b.2 ++ ⟨#[34]⟩) (fun a ha => h a (by simp [ha]))
    simp only [ByteArray.size_append] at h2
    have c1 : (⟨#[32]⟩ : ByteArray).size = 1 := rfl
    have c2 : (⟨#[61, 34]⟩ : ByteArray).size = 2 := rfl
    have c3 : (⟨#[34]⟩ : ByteArray).size = 1 := rfl
    rw [c1, c2, c3] at h2
    simp only [lineA, List.length_cons]
    omega

theorem line_size {l : Lb} (h : small l) : (lineF l).size ≤ 2000 := by
  obtain ⟨h1, h2, h3, h4⟩ := h
  have h5 := fun s => lineA_size l.attrs s h4
  have e1 : (⟨#[60, 33]⟩ : ByteArray).size = 2 := rfl
  have e2 : (⟨#[62]⟩ : ByteArray).size = 1 := rfl
  have e3 : (⟨#[34]⟩ : ByteArray).size = 1 := rfl
  have e4 : (⟨#[60, 33, 45, 45, 32]⟩ : ByteArray).size = 5 := rfl
  have e5 : (⟨#[32, 45, 45, 62]⟩ : ByteArray).size = 4 := rfl
  have e6 : (⟨#[99, 111, 110, 116, 101, 110, 116]⟩ : ByteArray).size = 7 := rfl
  have e7 : (⟨#[63]⟩ : ByteArray).size = 1 := rfl
  unfold lineF
  split
  · simp only [ByteArray.size_append, e1, e2]; omega
  split
  · simp only [ByteArray.size_append, e3]; omega
  split
  · simp only [ByteArray.size_append, e4, e5]; omega
  split
  · rw [e6]; omega
  split
  · have := h5 ((if l.ns = 2 then ⟨#[60, 115, 118, 103, 58]⟩ else ⟨#[60]⟩) ++ l.name)
    have e8 : (if l.ns = 2 then (⟨#[60, 115, 118, 103, 58]⟩ : ByteArray) else ⟨#[60]⟩).size ≤ 5 := by
      split
      · exact Nat.le_refl _
      · show 1 ≤ 5; omega
    rw [ByteArray.size_append, e2]
    rw [ByteArray.size_append] at this
    omega
  · rw [e7]; omega

/-- A small tree. -/
def Tiny (l : Lb) (k : Fo) : Prop := small l ∧ k.Each small ∧ k.cnt ≤ 100

theorem small.okL {l : Lb} (h : small l) : okL l := ⟨by have := h.2.2.1; omega, fun a ha => by
  have := h.2.2.2 a ha
  exact ⟨by omega, by omega⟩⟩

theorem Tiny.ok {l : Lb} {k : Fo} (h : Tiny l k) : okT l k := ⟨(Fo.each_cons ..).2 ⟨h.1.okL, Fo.each_mono (fun _ h => h.okL) h.2.1, Fo.each_nil _⟩, by have := h.2.2; omega⟩

theorem Tiny.cnt {l : Lb} {k : Fo} (h : Tiny l k) : k.cnt ≤ 20000 := by have := h.2.2; omega

theorem Tiny.show {l : Lb} {k : Fo} (h : Tiny l k) : (showT l k).size ≤ 1000000 := by
  have h1 := show_size lineF 2000 k NON (Fo.each_mono (fun _ h => line_size h) h.2.1)
  have h2 := Fo.dep_le_cnt k
  have h3 := h.2.2
  have h4 : NON.size = 0 := rfl
  unfold showT
  rw [h4] at h1
  have h5 : k.cnt * (0 + 2 * k.dep + 2000 + 1) ≤ 100 * (0 + 2 * 100 + 2000 + 1) := Nat.mul_le_mul h3 (by omega)
  omega

theorem Tiny.text {l : Lb} {k : Fo} (h : Tiny l k) : (textT l k).size ≤ 1000000 := by
  have ht : ∀ l : Lb, small l → (textF l).size ≤ 100 := fun l h => by
    unfold textF
    split
    · exact h.2.1
    · exact Nat.zero_le _
  have h1 := fold_size textF 100 k (Fo.each_mono (fun l h => ht l h) h.2.1)
  have h2 := ht l h.1
  have h3 := h.2.2
  unfold textT
  rw [ByteArray.size_append]
  have h5 : k.cnt * 100 ≤ 100 * 100 := Nat.mul_le_mul_right _ h3
  omega

theorem Tiny.pad {l : Lb} {k : Fo} (h : Tiny l k) : padT l k ≤ 1000000 := by
  have h3 := h.2.2
  have h2 := Fo.dep_le_cnt (.cons l k .nil)
  rw [Fo.cnt_cons, Fo.cnt_nil] at h2
  have h1 := pad_le ((Fo.cons l k .nil).vis 0) 101 (fun v hv => by have := vis_deep (.cons l k .nil) 0 v hv; omega) 0
  rw [vis_len, Fo.cnt_cons, Fo.cnt_nil] at h1
  unfold padT
  have h5 : (1 + k.cnt + 0) * (2 * 101) ≤ 101 * (2 * 101) := Nat.mul_le_mul_right _ (by omega)
  omega

end Go.Proofs.Ytgnbafgglkncmaa

/-
  same of the law: all calls of both sides, of two small trees.
-/
namespace Go.Proofs.Ytgnbafgglkncmaa
open Go.RowKit
set_option linter.unusedVariables false
set_option linter.unusedSimpArgs false

set_option maxRecDepth 100000 in
set_option maxHeartbeats 4000000 in
theorem both_any (w : World) (l : Lb) (k : Fo) (p : Pl) (m : Lb) (g : Fo) (q : Pl) (h : Nd Any w l k p) (h' : Nd Any w m g q) (t : Tiny l k) (t' : Tiny m g) :
    Calls Try.prog 9 #[wv l p, wv m q] w fun e w' => e = .returned (.bool true) ∧ Kp [] w w' := by
  obtain ⟨s, hs⟩ : ∃ s, w.heap.size = s := ⟨_, rfl⟩
  obtain ⟨B, hB⟩ : ∃ B, B = (w.alloc (.cells (six l p).toArray 25)).alloc (.cells (six m q).toArray 25) := ⟨_, rfl⟩
  have kB : Kp [] w B := by rw [hB]; exact ((Kp.refl _ _).alloc _).alloc _
  have A0 : At B s (six l p).toArray 25 := by
    rw [hB, ← hs]; exact (At.new _ _ _).kept ((Kp.refl [] _).alloc _) (by simp)
  have A1 : At B (s + 1) (six m q).toArray 25 := by
    rw [hB, ← hs]; exact At.new' _ _ _ _ (by simp)
  have HW : Hid ((w.alloc (.cells #[.int .i64 l.kind, .int .i64 l.ns, .string l.name, .slice p.1.1 p.1.2.1 p.1.2.2, .string l.text, .slice p.2.1 p.2.2.1 p.2.2.2] 25)).alloc (.cells #[.int .i64 m.kind, .int .i64 m.ns, .string m.name, .slice q.1.1 q.1.2.1 q.1.2.2, .string m.text, .slice q.2.1 q.2.2.1 q.2.2.2] 25) = B) := hB.symm
  have KB : Hid (Kp [] w B) := kB
  have kk : ∀ V, Kp [] B V → Nd Any V l k p ∧ Nd Any V m g q := fun V kV => ⟨(h.kept kB).kept kV, (h'.kept kB).kept kV⟩
  have H21 : Hid (∀ V, Kp [] B V → Calls Try.prog 21 #[wv l p] V fun e w' => e = .returned (.bool (rightF l k)) ∧ Kp [] V w') := fun V kV => by
    obtain ⟨hV, hV2⟩ := kk V kV
    exact right_any V l k p hV t.ok
  have H22 : Hid (∀ V, Kp [] B V → Calls Try.prog 22 #[wv l p] V fun e w' => e = .returned (.bool (rightF l k)) ∧ Kp [] V w') := fun V kV => by
    obtain ⟨hV, hV2⟩ := kk V kV
    exact ref_right_any V l k p hV t.ok
  have H15 : Hid (∀ V, Kp [] B V → Calls Try.prog 15 #[wv l p] V fun e w' => e = .returned (.int .i64 (countT l k : Nat)) ∧ Kp [] V w') := fun V kV => by
    obtain ⟨hV, hV2⟩ := kk V kV
    exact count_any V l k p hV t.cnt
  have H24 : Hid (∀ V, Kp [] B V → Calls Try.prog 24 #[wv l p] V fun e w' => e = .returned (.int .i64 (countT l k : Nat)) ∧ Kp [] V w') := fun V kV => by
    obtain ⟨hV, hV2⟩ := kk V kV
    exact ref_count_any l k V p hV t.cnt
  have H19 : Hid (∀ V, Kp [] B V → Calls Try.prog 19 #[wv l p] V fun e w' => e = .returned (.int .i64 (depthT l k : Nat)) ∧ Kp [] V w') := fun V kV => by
    obtain ⟨hV, hV2⟩ := kk V kV
    exact depth_any V l k p hV t.cnt
  have H25 : Hid (∀ V, Kp [] B V → Calls Try.prog 25 #[wv l p] V fun e w' => e = .returned (.int .i64 (depthT l k : Nat)) ∧ Kp [] V w') := fun V kV => by
    obtain ⟨hV, hV2⟩ := kk V kV
    exact ref_depth_any l k V p hV t.cnt
  have H20 : Hid (∀ V, Kp [] B V → Calls Try.prog 20 #[wv l p] V fun e w' => e = .returned (.string (textT l k)) ∧ Kp [] V w') := fun V kV => by
    obtain ⟨hV, hV2⟩ := kk V kV
    exact text_any V l k p hV t.cnt t.text
  have H26 : Hid (∀ V, Kp [] B V → Calls Try.prog 26 #[wv l p] V fun e w' => e = .returned (.string (textT l k)) ∧ Kp [] V w') := fun V kV => by
    obtain ⟨hV, hV2⟩ := kk V kV
    exact ref_text_any l k V p hV t.cnt t.text
  have H16 : Hid (∀ V, Kp [] B V → Calls Try.prog 16 #[wv l p] V fun e w' => e = .returned (.string (showT l k)) ∧ Kp [] V w') := fun V kV => by
    obtain ⟨hV, hV2⟩ := kk V kV
    exact show_any V l k p hV t.ok t.pad t.show
  have H13 : Hid (∀ V, Kp [] B V → Calls Try.prog 13 #[wv l p] V fun e w' => e = .returned (.string (showT l k)) ∧ Kp [] V w') := fun V kV => by
    obtain ⟨hV, hV2⟩ := kk V kV
    exact ref_show_any V l k p hV t.ok t.show
  have H23 : Hid (∀ V, Kp [] B V → Calls Try.prog 23 #[wv l p, wv m q] V fun e w' => e = .returned (.bool (sameT l k m g)) ∧ Kp [] V w') := fun V kV => by
    obtain ⟨hV, hV2⟩ := kk V kV
    exact ref_tsame_any l k V p m g q hV hV2 t.ok t'.ok
  have H14 : Hid (∀ V, Kp [] B V → Calls Try.prog 14 #[wv l p, wv m q] V fun e w' => e = .returned (.bool (sameT l k m g)) ∧ Kp [] V w') := fun V kV => by
    obtain ⟨hV, hV2⟩ := kk V kV
    exact tsame_any V l k p m g q hV hV2 t.ok t'.ok
  have HX : Hid (∀ V, Kp [] B V → Calls Try.prog 14 #[wv l p, wv l p] V fun e w' => e = .returned (.bool true) ∧ Kp [] V w') := fun V kV => by
    obtain ⟨hV, hV2⟩ := kk V kV
    have := tsame_any V l k p l k p hV hV t.ok t.ok
    rwa [(sameT_iff l k l k).2 ⟨rfl, rfl⟩] at this
  generalize rightF l k = R at H21 H22
  generalize countT l k = C at H15 H24
  generalize depthT l k = D at H19 H25
  generalize textT l k = T at H20 H26
  generalize showT l k = S at H16 H13
  generalize sameT l k m g = E at H14 H23
  clear h h' t t' kk hB kB
  simp only [six] at A0 A1
  simp only [wv] at H21 H22 H15 H24 H19 H25 H20 H26 H16 H13 H14 H23 HX ⊢
  go_enter Try.func9, Try.ntmps9
  go_wp2_with fail
  rw [HW.out]
  clear HW
  obtain ⟨U0, hU0⟩ : ∃ V, V = B.drew := ⟨_, rfl⟩
  have k0 : Kp [] B U0 := by rw [hU0]; exact (Kp.refl _ _).drew
  refine wp_region_g (S := fun V => At V s #[.int .i64 l.kind, .int .i64 l.ns, .string l.name, .slice p.1.1 p.1.2.1 p.1.2.2, .string l.text, .slice p.2.1 p.2.2.1 p.2.2.2] 25 ∧ At V (s + 1) #[.int .i64 m.kind, .int .i64 m.ns, .string m.name, .slice q.1.1 q.1.2.1 q.1.2.2, .string m.text, .slice q.2.1 q.2.2.1 q.2.2.2] 25) (T := []) (by kernel_rfl) ⟨A0.kept (Kp.refl [] B).drew (by simp), A1.kept (Kp.refl [] B).drew (by simp)⟩ (fun hHeld => ?_)
  rw [← hU0] at hHeld ⊢
  clear hU0
  refine wpAnyG_take (i := 0) (oi := { dst := some 5, op := Go.Op.load 25 (Go.Operand.tmp 2), type := 25, pos := "law.go:76", after := #[], guard := none }) (v := ?_) rfl (by kernel_rfl) (by kernel_rfl) (by kernel_rfl) (by kernel_rfl) (fun _ _ _ h => h) (Or.inl ⟨by rfl, ?_⟩) (by assumption) ?_
  rotate_left
  · (intro w hSw; (obtain ⟨⟨c0, c1, c2, c3, c4, c5⟩, e0, e1, e2, e3, e4, e5⟩ := And.intro hSw.1.six hSw.2.six); go_simp; try with_reducible rfl)
  simp only [Act.put, List.setIfInBounds_toArray, List.set_cons_zero, List.set_cons_succ]
  refine wpAnyG_take (i := 2) (oi := { dst := some 7, op := Go.Op.load 25 (Go.Operand.tmp 2), type := 25, pos := "law.go:76", after := #[], guard := none }) (v := ?_) rfl (by kernel_rfl) (by kernel_rfl) (by kernel_rfl) (by kernel_rfl) (fun _ _ _ h => h) (Or.inl ⟨by rfl, ?_⟩) (by assumption) ?_
  rotate_left
  · (intro w hSw; (obtain ⟨⟨c0, c1, c2, c3, c4, c5⟩, e0, e1, e2, e3, e4, e5⟩ := And.intro hSw.1.six hSw.2.six); go_simp; try with_reducible rfl)
  simp only [Act.put, List.setIfInBounds_toArray, List.set_cons_zero, List.set_cons_succ]
  refine wpAnyG_ready (rs := [1]) (by kernel_rfl) (by simp) ?_
  refine AllReadyG.cons (o := { dst := some 6, op := Go.Op.call { callee := Go.Callee.value (Go.Operand.func 21), args := #[Go.Operand.tmp 5], argTypes := #[25] }, type := 4, pos := "law.go:76", after := #[{ on := 0, ground := Go.Ground.data }], guard := none }) rfl (fun K hK => ?_) AllReadyG.nil
  go_simp
  go_at_call 21
  refine (H21.out _ k0).mono ?_
  rintro e U1 ⟨rfl, u1⟩
  go_wp2_with fail
  have k1 : Kp [] B U1 := k0.trans u1 (fun z hz => by simp at hz)
  refine hK.out _ _ ⟨At.kept hHeld.1 u1 (by simp), At.kept hHeld.2 u1 (by simp)⟩ (fun hHeld1 => ?_)
  clear hK K hHeld
  try simp only [Act.put, List.setIfInBounds_toArray, List.set_cons_zero, List.set_cons_succ]
  refine wpAnyG_ready (rs := [3]) (by kernel_rfl) (by simp) ?_
  refine AllReadyG.cons (o := { dst := some 8, op := Go.Op.call { callee := Go.Callee.value (Go.Operand.func 22), args := #[Go.Operand.tmp 7], argTypes := #[25] }, type := 4, pos := "law.go:76", after := #[{ on := 2, ground := Go.Ground.data }, { on := 1, ground := Go.Ground.chain }], guard := none }) rfl (fun K hK => ?_) AllReadyG.nil
  go_simp
  go_at_call 22
  refine (H22.out _ k1).mono ?_
  rintro e U2 ⟨rfl, u2⟩
  go_wp2_with fail
  have k2 : Kp [] B U2 := k1.trans u2 (fun z hz => by simp at hz)
  refine hK.out _ _ ⟨At.kept hHeld1.1 u2 (by simp), At.kept hHeld1.2 u2 (by simp)⟩ (fun hHeld2 => ?_)
  clear hK K hHeld1
  try simp only [Act.put, List.setIfInBounds_toArray, List.set_cons_zero, List.set_cons_succ]
  refine wpAnyG_pure (i := 4) (oi := { dst := some 9, op := Go.Op.binOp Go.BinOp.eql 4 (Go.Operand.tmp 6) (Go.Operand.tmp 8) 4, type := 4, pos := "law.go:76", after := #[{ on := 1, ground := Go.Ground.data }, { on := 3, ground := Go.Ground.data }], guard := none }) (v := ?_) rfl (by kernel_rfl) (by kernel_rfl) (by kernel_rfl) (by kernel_rfl) (fun _ _ _ h => h) (Or.inl ⟨by rfl, ?_⟩) (by assumption) ?_
  rotate_left
  · (intro w; go_simp; try with_reducible rfl)
  simp only [Act.put, List.setIfInBounds_toArray, List.set_cons_zero, List.set_cons_succ]
  refine wpAnyG_pure (i := 5) (oi := { dst := some 10, op := Go.Op.move (Go.Operand.tmp 9), type := 4, pos := "law.go:76", after := #[{ on := 4, ground := Go.Ground.data }, { on := 3, ground := Go.Ground.chain }], guard := none }) (v := ?_) rfl (by kernel_rfl) (by kernel_rfl) (by kernel_rfl) (by kernel_rfl) (fun _ _ _ h => h) (Or.inl ⟨by rfl, ?_⟩) (by assumption) ?_
  rotate_left
  · (intro w; go_simp; try with_reducible rfl)
  simp only [Act.put, List.setIfInBounds_toArray, List.set_cons_zero, List.set_cons_succ]
  refine wpAnyG_take (i := 6) (oi := { dst := some 11, op := Go.Op.load 25 (Go.Operand.tmp 2), type := 25, pos := "law.go:76", after := #[{ on := 5, ground := Go.Ground.guard }], guard := some (5, true) }) (v := ?_) rfl (by kernel_rfl) (by kernel_rfl) (by kernel_rfl) (by kernel_rfl) (fun _ _ _ h => h) (Or.inl ⟨by rfl, ?_⟩) (by assumption) ?_
  rotate_left
  · (intro w hSw; (obtain ⟨⟨c0, c1, c2, c3, c4, c5⟩, e0, e1, e2, e3, e4, e5⟩ := And.intro hSw.1.six hSw.2.six); go_simp; try with_reducible rfl)
  simp only [Act.put, List.setIfInBounds_toArray, List.set_cons_zero, List.set_cons_succ]
  refine wpAnyG_take (i := 7) (oi := { dst := some 12, op := Go.Op.load 25 (Go.Operand.tmp 3), type := 25, pos := "law.go:76", after := #[{ on := 5, ground := Go.Ground.guard }], guard := some (5, true) }) (v := ?_) rfl (by kernel_rfl) (by kernel_rfl) (by kernel_rfl) (by kernel_rfl) (fun _ _ _ h => h) (Or.inl ⟨by rfl, ?_⟩) (by assumption) ?_
  rotate_left
  · (intro w hSw; (obtain ⟨⟨c0, c1, c2, c3, c4, c5⟩, e0, e1, e2, e3, e4, e5⟩ := And.intro hSw.1.six hSw.2.six); go_simp; try with_reducible rfl)
  simp only [Act.put, List.setIfInBounds_toArray, List.set_cons_zero, List.set_cons_succ]
  refine wpAnyG_take (i := 9) (oi := { dst := some 14, op := Go.Op.load 25 (Go.Operand.tmp 2), type := 25, pos := "law.go:76", after := #[{ on := 5, ground := Go.Ground.guard }], guard := some (5, true) }) (v := ?_) rfl (by kernel_rfl) (by kernel_rfl) (by kernel_rfl) (by kernel_rfl) (fun _ _ _ h => h) (Or.inl ⟨by rfl, ?_⟩) (by assumption) ?_
  rotate_left
  · (intro w hSw; (obtain ⟨⟨c0, c1, c2, c3, c4, c5⟩, e0, e1, e2, e3, e4, e5⟩ := And.intro hSw.1.six hSw.2.six); go_simp; try with_reducible rfl)
  simp only [Act.put, List.setIfInBounds_toArray, List.set_cons_zero, List.set_cons_succ]
  refine wpAnyG_take (i := 10) (oi := { dst := some 15, op := Go.Op.load 25 (Go.Operand.tmp 3), type := 25, pos := "law.go:76", after := #[{ on := 5, ground := Go.Ground.guard }], guard := some (5, true) }) (v := ?_) rfl (by kernel_rfl) (by kernel_rfl) (by kernel_rfl) (by kernel_rfl) (fun _ _ _ h => h) (Or.inl ⟨by rfl, ?_⟩) (by assumption) ?_
  rotate_left
  · (intro w hSw; (obtain ⟨⟨c0, c1, c2, c3, c4, c5⟩, e0, e1, e2, e3, e4, e5⟩ := And.intro hSw.1.six hSw.2.six); go_simp; try with_reducible rfl)
  simp only [Act.put, List.setIfInBounds_toArray, List.set_cons_zero, List.set_cons_succ]
  refine wpAnyG_ready (rs := [8]) (by kernel_rfl) (by simp) ?_
  refine AllReadyG.cons (o := { dst := some 13, op := Go.Op.call { callee := Go.Callee.value (Go.Operand.func 14), args := #[Go.Operand.tmp 11, Go.Operand.tmp 12], argTypes := #[25, 25] }, type := 4, pos := "law.go:76", after := #[{ on := 6, ground := Go.Ground.data }, { on := 7, ground := Go.Ground.data }, { on := 5, ground := Go.Ground.chain }, { on := 5, ground := Go.Ground.guard }], guard := some (5, true) }) rfl (fun K hK => ?_) AllReadyG.nil
  go_simp
  go_at_call 14
  refine (H14.out _ k2).mono ?_
  rintro e U3 ⟨rfl, u3⟩
  go_wp2_with fail
  have k3 : Kp [] B U3 := k2.trans u3 (fun z hz => by simp at hz)
  refine hK.out _ _ ⟨At.kept hHeld2.1 u3 (by simp), At.kept hHeld2.2 u3 (by simp)⟩ (fun hHeld3 => ?_)
  clear hK K hHeld2
  try simp only [Act.put, List.setIfInBounds_toArray, List.set_cons_zero, List.set_cons_succ]
  refine wpAnyG_ready (rs := [11]) (by kernel_rfl) (by simp) ?_
  refine AllReadyG.cons (o := { dst := some 16, op := Go.Op.call { callee := Go.Callee.value (Go.Operand.func 23), args := #[Go.Operand.tmp 14, Go.Operand.tmp 15], argTypes := #[25, 25] }, type := 4, pos := "law.go:76", after := #[{ on := 9, ground := Go.Ground.data }, { on := 10, ground := Go.Ground.data }, { on := 8, ground := Go.Ground.chain }, { on := 5, ground := Go.Ground.guard }], guard := some (5, true) }) rfl (fun K hK => ?_) AllReadyG.nil
  go_simp
  go_at_call 23
  refine (H23.out _ k3).mono ?_
  rintro e U4 ⟨rfl, u4⟩
  go_wp2_with fail
  have k4 : Kp [] B U4 := k3.trans u4 (fun z hz => by simp at hz)
  refine hK.out _ _ ⟨At.kept hHeld3.1 u4 (by simp), At.kept hHeld3.2 u4 (by simp)⟩ (fun hHeld4 => ?_)
  clear hK K hHeld3
  try simp only [Act.put, List.setIfInBounds_toArray, List.set_cons_zero, List.set_cons_succ]
  refine wpAnyG_pure (i := 12) (oi := { dst := some 17, op := Go.Op.binOp Go.BinOp.eql 4 (Go.Operand.tmp 13) (Go.Operand.tmp 16) 4, type := 4, pos := "law.go:76", after := #[{ on := 8, ground := Go.Ground.data }, { on := 11, ground := Go.Ground.data }, { on := 5, ground := Go.Ground.guard }], guard := some (5, true) }) (v := ?_) rfl (by kernel_rfl) (by kernel_rfl) (by kernel_rfl) (by kernel_rfl) (fun _ _ _ h => h) (Or.inl ⟨by rfl, ?_⟩) (by assumption) ?_
  rotate_left
  · (intro w; go_simp; try with_reducible rfl)
  simp only [Act.put, List.setIfInBounds_toArray, List.set_cons_zero, List.set_cons_succ]
  refine wpAnyG_pure (i := 13) (oi := { dst := some 18, op := Go.Op.pick (Go.Operand.tmp 10) (Go.Operand.tmp 17) (Go.Operand.const (Go.Value.bool false)), type := 4, pos := "law.go:76", after := #[{ on := 5, ground := Go.Ground.data }, { on := 12, ground := Go.Ground.data }], guard := none }) (v := ?_) rfl (by kernel_rfl) (by kernel_rfl) (by kernel_rfl) (by kernel_rfl) (fun _ _ _ h => h) (Or.inl ⟨by rfl, ?_⟩) (by assumption) ?_
  rotate_left
  · (intro w; go_simp; try with_reducible rfl)
  simp only [Act.put, List.setIfInBounds_toArray, List.set_cons_zero, List.set_cons_succ]
  refine wpAnyG_pure (i := 14) (oi := { dst := some 19, op := Go.Op.move (Go.Operand.tmp 18), type := 4, pos := "law.go:76", after := #[{ on := 13, ground := Go.Ground.data }, { on := 11, ground := Go.Ground.chain }], guard := none }) (v := ?_) rfl (by kernel_rfl) (by kernel_rfl) (by kernel_rfl) (by kernel_rfl) (fun _ _ _ h => h) (Or.inl ⟨by rfl, ?_⟩) (by assumption) ?_
  rotate_left
  · (intro w; go_simp; try with_reducible rfl)
  simp only [Act.put, List.setIfInBounds_toArray, List.set_cons_zero, List.set_cons_succ]
  refine wpAnyG_take (i := 15) (oi := { dst := some 20, op := Go.Op.load 25 (Go.Operand.tmp 2), type := 25, pos := "law.go:76", after := #[{ on := 14, ground := Go.Ground.guard }], guard := some (14, true) }) (v := ?_) rfl (by kernel_rfl) (by kernel_rfl) (by kernel_rfl) (by kernel_rfl) (fun _ _ _ h => h) (Or.inl ⟨by rfl, ?_⟩) (by assumption) ?_
  rotate_left
  · (intro w hSw; (obtain ⟨⟨c0, c1, c2, c3, c4, c5⟩, e0, e1, e2, e3, e4, e5⟩ := And.intro hSw.1.six hSw.2.six); go_simp; try with_reducible rfl)
  simp only [Act.put, List.setIfInBounds_toArray, List.set_cons_zero, List.set_cons_succ]
  refine wpAnyG_take (i := 17) (oi := { dst := some 22, op := Go.Op.load 25 (Go.Operand.tmp 2), type := 25, pos := "law.go:76", after := #[{ on := 14, ground := Go.Ground.guard }], guard := some (14, true) }) (v := ?_) rfl (by kernel_rfl) (by kernel_rfl) (by kernel_rfl) (by kernel_rfl) (fun _ _ _ h => h) (Or.inl ⟨by rfl, ?_⟩) (by assumption) ?_
  rotate_left
  · (intro w hSw; (obtain ⟨⟨c0, c1, c2, c3, c4, c5⟩, e0, e1, e2, e3, e4, e5⟩ := And.intro hSw.1.six hSw.2.six); go_simp; try with_reducible rfl)
  simp only [Act.put, List.setIfInBounds_toArray, List.set_cons_zero, List.set_cons_succ]
  refine wpAnyG_ready (rs := [16]) (by kernel_rfl) (by simp) ?_
  refine AllReadyG.cons (o := { dst := some 21, op := Go.Op.call { callee := Go.Callee.value (Go.Operand.func 15), args := #[Go.Operand.tmp 20], argTypes := #[25] }, type := 3, pos := "law.go:76", after := #[{ on := 15, ground := Go.Ground.data }, { on := 14, ground := Go.Ground.chain }, { on := 14, ground := Go.Ground.guard }], guard := some (14, true) }) rfl (fun K hK => ?_) AllReadyG.nil
  go_simp
  go_at_call 15
  refine (H15.out _ k4).mono ?_
  rintro e U5 ⟨rfl, u5⟩
  go_wp2_with fail
  have k5 : Kp [] B U5 := k4.trans u5 (fun z hz => by simp at hz)
  refine hK.out _ _ ⟨At.kept hHeld4.1 u5 (by simp), At.kept hHeld4.2 u5 (by simp)⟩ (fun hHeld5 => ?_)
  clear hK K hHeld4
  try simp only [Act.put, List.setIfInBounds_toArray, List.set_cons_zero, List.set_cons_succ]
  refine wpAnyG_ready (rs := [18]) (by kernel_rfl) (by simp) ?_
  refine AllReadyG.cons (o := { dst := some 23, op := Go.Op.call { callee := Go.Callee.value (Go.Operand.func 24), args := #[Go.Operand.tmp 22], argTypes := #[25] }, type := 3, pos := "law.go:76", after := #[{ on := 17, ground := Go.Ground.data }, { on := 16, ground := Go.Ground.chain }, { on := 14, ground := Go.Ground.guard }], guard := some (14, true) }) rfl (fun K hK => ?_) AllReadyG.nil
  go_simp
  go_at_call 24
  refine (H24.out _ k5).mono ?_
  rintro e U6 ⟨rfl, u6⟩
  go_wp2_with fail
  have k6 : Kp [] B U6 := k5.trans u6 (fun z hz => by simp at hz)
  refine hK.out _ _ ⟨At.kept hHeld5.1 u6 (by simp), At.kept hHeld5.2 u6 (by simp)⟩ (fun hHeld6 => ?_)
  clear hK K hHeld5
  try simp only [Act.put, List.setIfInBounds_toArray, List.set_cons_zero, List.set_cons_succ]
  refine wpAnyG_pure (i := 19) (oi := { dst := some 24, op := Go.Op.binOp Go.BinOp.eql 3 (Go.Operand.tmp 21) (Go.Operand.tmp 23) 3, type := 4, pos := "law.go:76", after := #[{ on := 16, ground := Go.Ground.data }, { on := 18, ground := Go.Ground.data }, { on := 14, ground := Go.Ground.guard }], guard := some (14, true) }) (v := ?_) rfl (by kernel_rfl) (by kernel_rfl) (by kernel_rfl) (by kernel_rfl) (fun _ _ _ h => h) (Or.inl ⟨by rfl, ?_⟩) (by assumption) ?_
  rotate_left
  · (intro w; go_simp; try with_reducible rfl)
  simp only [Act.put, List.setIfInBounds_toArray, List.set_cons_zero, List.set_cons_succ]
  refine wpAnyG_pure (i := 20) (oi := { dst := some 25, op := Go.Op.pick (Go.Operand.tmp 19) (Go.Operand.tmp 24) (Go.Operand.const (Go.Value.bool false)), type := 4, pos := "law.go:76", after := #[{ on := 14, ground := Go.Ground.data }, { on := 19, ground := Go.Ground.data }], guard := none }) (v := ?_) rfl (by kernel_rfl) (by kernel_rfl) (by kernel_rfl) (by kernel_rfl) (fun _ _ _ h => h) (Or.inl ⟨by rfl, ?_⟩) (by assumption) ?_
  rotate_left
  · (intro w; go_simp; try with_reducible rfl)
  simp only [Act.put, List.setIfInBounds_toArray, List.set_cons_zero, List.set_cons_succ]
  refine wpAnyG_pure (i := 21) (oi := { dst := some 26, op := Go.Op.move (Go.Operand.tmp 25), type := 4, pos := "law.go:76", after := #[{ on := 20, ground := Go.Ground.data }, { on := 18, ground := Go.Ground.chain }], guard := none }) (v := ?_) rfl (by kernel_rfl) (by kernel_rfl) (by kernel_rfl) (by kernel_rfl) (fun _ _ _ h => h) (Or.inl ⟨by rfl, ?_⟩) (by assumption) ?_
  rotate_left
  · (intro w; go_simp; try with_reducible rfl)
  simp only [Act.put, List.setIfInBounds_toArray, List.set_cons_zero, List.set_cons_succ]
  refine wpAnyG_take (i := 22) (oi := { dst := some 27, op := Go.Op.load 25 (Go.Operand.tmp 2), type := 25, pos := "law.go:76", after := #[{ on := 21, ground := Go.Ground.guard }], guard := some (21, true) }) (v := ?_) rfl (by kernel_rfl) (by kernel_rfl) (by kernel_rfl) (by kernel_rfl) (fun _ _ _ h => h) (Or.inl ⟨by rfl, ?_⟩) (by assumption) ?_
  rotate_left
  · (intro w hSw; (obtain ⟨⟨c0, c1, c2, c3, c4, c5⟩, e0, e1, e2, e3, e4, e5⟩ := And.intro hSw.1.six hSw.2.six); go_simp; try with_reducible rfl)
  simp only [Act.put, List.setIfInBounds_toArray, List.set_cons_zero, List.set_cons_succ]
  refine wpAnyG_take (i := 24) (oi := { dst := some 29, op := Go.Op.load 25 (Go.Operand.tmp 2), type := 25, pos := "law.go:76", after := #[{ on := 21, ground := Go.Ground.guard }], guard := some (21, true) }) (v := ?_) rfl (by kernel_rfl) (by kernel_rfl) (by kernel_rfl) (by kernel_rfl) (fun _ _ _ h => h) (Or.inl ⟨by rfl, ?_⟩) (by assumption) ?_
  rotate_left
  · (intro w hSw; (obtain ⟨⟨c0, c1, c2, c3, c4, c5⟩, e0, e1, e2, e3, e4, e5⟩ := And.intro hSw.1.six hSw.2.six); go_simp; try with_reducible rfl)
  simp only [Act.put, List.setIfInBounds_toArray, List.set_cons_zero, List.set_cons_succ]
  refine wpAnyG_ready (rs := [23]) (by kernel_rfl) (by simp) ?_
  refine AllReadyG.cons (o := { dst := some 28, op := Go.Op.call { callee := Go.Callee.value (Go.Operand.func 19), args := #[Go.Operand.tmp 27], argTypes := #[25] }, type := 3, pos := "law.go:76", after := #[{ on := 22, ground := Go.Ground.data }, { on := 21, ground := Go.Ground.chain }, { on := 21, ground := Go.Ground.guard }], guard := some (21, true) }) rfl (fun K hK => ?_) AllReadyG.nil
  go_simp
  go_at_call 19
  refine (H19.out _ k6).mono ?_
  rintro e U7 ⟨rfl, u7⟩
  go_wp2_with fail
  have k7 : Kp [] B U7 := k6.trans u7 (fun z hz => by simp at hz)
  refine hK.out _ _ ⟨At.kept hHeld6.1 u7 (by simp), At.kept hHeld6.2 u7 (by simp)⟩ (fun hHeld7 => ?_)
  clear hK K hHeld6
  try simp only [Act.put, List.setIfInBounds_toArray, List.set_cons_zero, List.set_cons_succ]
  refine wpAnyG_ready (rs := [25]) (by kernel_rfl) (by simp) ?_
  refine AllReadyG.cons (o := { dst := some 30, op := Go.Op.call { callee := Go.Callee.value (Go.Operand.func 25), args := #[Go.Operand.tmp 29], argTypes := #[25] }, type := 3, pos := "law.go:76", after := #[{ on := 24, ground := Go.Ground.data }, { on := 23, ground := Go.Ground.chain }, { on := 21, ground := Go.Ground.guard }], guard := some (21, true) }) rfl (fun K hK => ?_) AllReadyG.nil
  go_simp
  go_at_call 25
  refine (H25.out _ k7).mono ?_
  rintro e U8 ⟨rfl, u8⟩
  go_wp2_with fail
  have k8 : Kp [] B U8 := k7.trans u8 (fun z hz => by simp at hz)
  refine hK.out _ _ ⟨At.kept hHeld7.1 u8 (by simp), At.kept hHeld7.2 u8 (by simp)⟩ (fun hHeld8 => ?_)
  clear hK K hHeld7
  try simp only [Act.put, List.setIfInBounds_toArray, List.set_cons_zero, List.set_cons_succ]
  refine wpAnyG_pure (i := 26) (oi := { dst := some 31, op := Go.Op.binOp Go.BinOp.eql 3 (Go.Operand.tmp 28) (Go.Operand.tmp 30) 3, type := 4, pos := "law.go:76", after := #[{ on := 23, ground := Go.Ground.data }, { on := 25, ground := Go.Ground.data }, { on := 21, ground := Go.Ground.guard }], guard := some (21, true) }) (v := ?_) rfl (by kernel_rfl) (by kernel_rfl) (by kernel_rfl) (by kernel_rfl) (fun _ _ _ h => h) (Or.inl ⟨by rfl, ?_⟩) (by assumption) ?_
  rotate_left
  · (intro w; go_simp; try with_reducible rfl)
  simp only [Act.put, List.setIfInBounds_toArray, List.set_cons_zero, List.set_cons_succ]
  refine wpAnyG_pure (i := 27) (oi := { dst := some 32, op := Go.Op.pick (Go.Operand.tmp 26) (Go.Operand.tmp 31) (Go.Operand.const (Go.Value.bool false)), type := 4, pos := "law.go:76", after := #[{ on := 21, ground := Go.Ground.data }, { on := 26, ground := Go.Ground.data }], guard := none }) (v := ?_) rfl (by kernel_rfl) (by kernel_rfl) (by kernel_rfl) (by kernel_rfl) (fun _ _ _ h => h) (Or.inl ⟨by rfl, ?_⟩) (by assumption) ?_
  rotate_left
  · (intro w; go_simp; try with_reducible rfl)
  simp only [Act.put, List.setIfInBounds_toArray, List.set_cons_zero, List.set_cons_succ]
  refine wpAnyG_pure (i := 28) (oi := { dst := some 33, op := Go.Op.move (Go.Operand.tmp 32), type := 4, pos := "law.go:76", after := #[{ on := 27, ground := Go.Ground.data }, { on := 25, ground := Go.Ground.chain }], guard := none }) (v := ?_) rfl (by kernel_rfl) (by kernel_rfl) (by kernel_rfl) (by kernel_rfl) (fun _ _ _ h => h) (Or.inl ⟨by rfl, ?_⟩) (by assumption) ?_
  rotate_left
  · (intro w; go_simp; try with_reducible rfl)
  simp only [Act.put, List.setIfInBounds_toArray, List.set_cons_zero, List.set_cons_succ]
  refine wpAnyG_take (i := 29) (oi := { dst := some 34, op := Go.Op.load 25 (Go.Operand.tmp 2), type := 25, pos := "law.go:76", after := #[{ on := 28, ground := Go.Ground.guard }], guard := some (28, true) }) (v := ?_) rfl (by kernel_rfl) (by kernel_rfl) (by kernel_rfl) (by kernel_rfl) (fun _ _ _ h => h) (Or.inl ⟨by rfl, ?_⟩) (by assumption) ?_
  rotate_left
  · (intro w hSw; (obtain ⟨⟨c0, c1, c2, c3, c4, c5⟩, e0, e1, e2, e3, e4, e5⟩ := And.intro hSw.1.six hSw.2.six); go_simp; try with_reducible rfl)
  simp only [Act.put, List.setIfInBounds_toArray, List.set_cons_zero, List.set_cons_succ]
  refine wpAnyG_take (i := 31) (oi := { dst := some 36, op := Go.Op.load 25 (Go.Operand.tmp 2), type := 25, pos := "law.go:76", after := #[{ on := 28, ground := Go.Ground.guard }], guard := some (28, true) }) (v := ?_) rfl (by kernel_rfl) (by kernel_rfl) (by kernel_rfl) (by kernel_rfl) (fun _ _ _ h => h) (Or.inl ⟨by rfl, ?_⟩) (by assumption) ?_
  rotate_left
  · (intro w hSw; (obtain ⟨⟨c0, c1, c2, c3, c4, c5⟩, e0, e1, e2, e3, e4, e5⟩ := And.intro hSw.1.six hSw.2.six); go_simp; try with_reducible rfl)
  simp only [Act.put, List.setIfInBounds_toArray, List.set_cons_zero, List.set_cons_succ]
  refine wpAnyG_ready (rs := [30]) (by kernel_rfl) (by simp) ?_
  refine AllReadyG.cons (o := { dst := some 35, op := Go.Op.call { callee := Go.Callee.value (Go.Operand.func 20), args := #[Go.Operand.tmp 34], argTypes := #[25] }, type := 9, pos := "law.go:76", after := #[{ on := 29, ground := Go.Ground.data }, { on := 28, ground := Go.Ground.chain }, { on := 28, ground := Go.Ground.guard }], guard := some (28, true) }) rfl (fun K hK => ?_) AllReadyG.nil
  go_simp
  go_at_call 20
  refine (H20.out _ k8).mono ?_
  rintro e U9 ⟨rfl, u9⟩
  go_wp2_with fail
  have k9 : Kp [] B U9 := k8.trans u9 (fun z hz => by simp at hz)
  refine hK.out _ _ ⟨At.kept hHeld8.1 u9 (by simp), At.kept hHeld8.2 u9 (by simp)⟩ (fun hHeld9 => ?_)
  clear hK K hHeld8
  try simp only [Act.put, List.setIfInBounds_toArray, List.set_cons_zero, List.set_cons_succ]
  refine wpAnyG_ready (rs := [32]) (by kernel_rfl) (by simp) ?_
  refine AllReadyG.cons (o := { dst := some 37, op := Go.Op.call { callee := Go.Callee.value (Go.Operand.func 26), args := #[Go.Operand.tmp 36], argTypes := #[25] }, type := 9, pos := "law.go:76", after := #[{ on := 31, ground := Go.Ground.data }, { on := 30, ground := Go.Ground.chain }, { on := 28, ground := Go.Ground.guard }], guard := some (28, true) }) rfl (fun K hK => ?_) AllReadyG.nil
  go_simp
  go_at_call 26
  refine (H26.out _ k9).mono ?_
  rintro e U10 ⟨rfl, u10⟩
  go_wp2_with fail
  have k10 : Kp [] B U10 := k9.trans u10 (fun z hz => by simp at hz)
  refine hK.out _ _ ⟨At.kept hHeld9.1 u10 (by simp), At.kept hHeld9.2 u10 (by simp)⟩ (fun hHeld10 => ?_)
  clear hK K hHeld9
  try simp only [Act.put, List.setIfInBounds_toArray, List.set_cons_zero, List.set_cons_succ]
  refine wpAnyG_pure (i := 33) (oi := { dst := some 38, op := Go.Op.binOp Go.BinOp.eql 9 (Go.Operand.tmp 35) (Go.Operand.tmp 37) 9, type := 4, pos := "law.go:76", after := #[{ on := 30, ground := Go.Ground.data }, { on := 32, ground := Go.Ground.data }, { on := 28, ground := Go.Ground.guard }], guard := some (28, true) }) (v := ?_) rfl (by kernel_rfl) (by kernel_rfl) (by kernel_rfl) (by kernel_rfl) (fun _ _ _ h => h) (Or.inl ⟨by rfl, ?_⟩) (by assumption) ?_
  rotate_left
  · (intro w; go_simp; try with_reducible rfl)
  simp only [Act.put, List.setIfInBounds_toArray, List.set_cons_zero, List.set_cons_succ]
  refine wpAnyG_pure (i := 34) (oi := { dst := some 39, op := Go.Op.pick (Go.Operand.tmp 33) (Go.Operand.tmp 38) (Go.Operand.const (Go.Value.bool false)), type := 4, pos := "law.go:76", after := #[{ on := 28, ground := Go.Ground.data }, { on := 33, ground := Go.Ground.data }], guard := none }) (v := ?_) rfl (by kernel_rfl) (by kernel_rfl) (by kernel_rfl) (by kernel_rfl) (fun _ _ _ h => h) (Or.inl ⟨by rfl, ?_⟩) (by assumption) ?_
  rotate_left
  · (intro w; go_simp; try with_reducible rfl)
  simp only [Act.put, List.setIfInBounds_toArray, List.set_cons_zero, List.set_cons_succ]
  refine wpAnyG_pure (i := 35) (oi := { dst := some 40, op := Go.Op.move (Go.Operand.tmp 39), type := 4, pos := "law.go:76", after := #[{ on := 34, ground := Go.Ground.data }, { on := 32, ground := Go.Ground.chain }], guard := none }) (v := ?_) rfl (by kernel_rfl) (by kernel_rfl) (by kernel_rfl) (by kernel_rfl) (fun _ _ _ h => h) (Or.inl ⟨by rfl, ?_⟩) (by assumption) ?_
  rotate_left
  · (intro w; go_simp; try with_reducible rfl)
  simp only [Act.put, List.setIfInBounds_toArray, List.set_cons_zero, List.set_cons_succ]
  refine wpAnyG_take (i := 36) (oi := { dst := some 41, op := Go.Op.load 25 (Go.Operand.tmp 2), type := 25, pos := "law.go:76", after := #[{ on := 35, ground := Go.Ground.guard }], guard := some (35, true) }) (v := ?_) rfl (by kernel_rfl) (by kernel_rfl) (by kernel_rfl) (by kernel_rfl) (fun _ _ _ h => h) (Or.inl ⟨by rfl, ?_⟩) (by assumption) ?_
  rotate_left
  · (intro w hSw; (obtain ⟨⟨c0, c1, c2, c3, c4, c5⟩, e0, e1, e2, e3, e4, e5⟩ := And.intro hSw.1.six hSw.2.six); go_simp; try with_reducible rfl)
  simp only [Act.put, List.setIfInBounds_toArray, List.set_cons_zero, List.set_cons_succ]
  refine wpAnyG_take (i := 38) (oi := { dst := some 43, op := Go.Op.load 25 (Go.Operand.tmp 2), type := 25, pos := "law.go:76", after := #[{ on := 35, ground := Go.Ground.guard }], guard := some (35, true) }) (v := ?_) rfl (by kernel_rfl) (by kernel_rfl) (by kernel_rfl) (by kernel_rfl) (fun _ _ _ h => h) (Or.inl ⟨by rfl, ?_⟩) (by assumption) ?_
  rotate_left
  · (intro w hSw; (obtain ⟨⟨c0, c1, c2, c3, c4, c5⟩, e0, e1, e2, e3, e4, e5⟩ := And.intro hSw.1.six hSw.2.six); go_simp; try with_reducible rfl)
  simp only [Act.put, List.setIfInBounds_toArray, List.set_cons_zero, List.set_cons_succ]
  refine wpAnyG_ready (rs := [37]) (by kernel_rfl) (by simp) ?_
  refine AllReadyG.cons (o := { dst := some 42, op := Go.Op.call { callee := Go.Callee.value (Go.Operand.func 16), args := #[Go.Operand.tmp 41], argTypes := #[25] }, type := 9, pos := "law.go:76", after := #[{ on := 36, ground := Go.Ground.data }, { on := 35, ground := Go.Ground.chain }, { on := 35, ground := Go.Ground.guard }], guard := some (35, true) }) rfl (fun K hK => ?_) AllReadyG.nil
  go_simp
  go_at_call 16
  refine (H16.out _ k10).mono ?_
  rintro e U11 ⟨rfl, u11⟩
  go_wp2_with fail
  have k11 : Kp [] B U11 := k10.trans u11 (fun z hz => by simp at hz)
  refine hK.out _ _ ⟨At.kept hHeld10.1 u11 (by simp), At.kept hHeld10.2 u11 (by simp)⟩ (fun hHeld11 => ?_)
  clear hK K hHeld10
  try simp only [Act.put, List.setIfInBounds_toArray, List.set_cons_zero, List.set_cons_succ]
  refine wpAnyG_ready (rs := [39]) (by kernel_rfl) (by simp) ?_
  refine AllReadyG.cons (o := { dst := some 44, op := Go.Op.call { callee := Go.Callee.value (Go.Operand.func 13), args := #[Go.Operand.tmp 43], argTypes := #[25] }, type := 9, pos := "law.go:76", after := #[{ on := 38, ground := Go.Ground.data }, { on := 37, ground := Go.Ground.chain }, { on := 35, ground := Go.Ground.guard }], guard := some (35, true) }) rfl (fun K hK => ?_) AllReadyG.nil
  go_simp
  go_at_call 13
  refine (H13.out _ k11).mono ?_
  rintro e U12 ⟨rfl, u12⟩
  go_wp2_with fail
  have k12 : Kp [] B U12 := k11.trans u12 (fun z hz => by simp at hz)
  refine hK.out _ _ ⟨At.kept hHeld11.1 u12 (by simp), At.kept hHeld11.2 u12 (by simp)⟩ (fun hHeld12 => ?_)
  clear hK K hHeld11
  try simp only [Act.put, List.setIfInBounds_toArray, List.set_cons_zero, List.set_cons_succ]
  refine wpAnyG_pure (i := 40) (oi := { dst := some 45, op := Go.Op.binOp Go.BinOp.eql 9 (Go.Operand.tmp 42) (Go.Operand.tmp 44) 9, type := 4, pos := "law.go:76", after := #[{ on := 37, ground := Go.Ground.data }, { on := 39, ground := Go.Ground.data }, { on := 35, ground := Go.Ground.guard }], guard := some (35, true) }) (v := ?_) rfl (by kernel_rfl) (by kernel_rfl) (by kernel_rfl) (by kernel_rfl) (fun _ _ _ h => h) (Or.inl ⟨by rfl, ?_⟩) (by assumption) ?_
  rotate_left
  · (intro w; go_simp; try with_reducible rfl)
  simp only [Act.put, List.setIfInBounds_toArray, List.set_cons_zero, List.set_cons_succ]
  refine wpAnyG_pure (i := 41) (oi := { dst := some 46, op := Go.Op.pick (Go.Operand.tmp 40) (Go.Operand.tmp 45) (Go.Operand.const (Go.Value.bool false)), type := 4, pos := "law.go:76", after := #[{ on := 35, ground := Go.Ground.data }, { on := 40, ground := Go.Ground.data }], guard := none }) (v := ?_) rfl (by kernel_rfl) (by kernel_rfl) (by kernel_rfl) (by kernel_rfl) (fun _ _ _ h => h) (Or.inl ⟨by rfl, ?_⟩) (by assumption) ?_
  rotate_left
  · (intro w; go_simp; try with_reducible rfl)
  simp only [Act.put, List.setIfInBounds_toArray, List.set_cons_zero, List.set_cons_succ]
  refine wpAnyG_pure (i := 42) (oi := { dst := some 47, op := Go.Op.move (Go.Operand.tmp 46), type := 4, pos := "law.go:76", after := #[{ on := 41, ground := Go.Ground.data }, { on := 39, ground := Go.Ground.chain }], guard := none }) (v := ?_) rfl (by kernel_rfl) (by kernel_rfl) (by kernel_rfl) (by kernel_rfl) (fun _ _ _ h => h) (Or.inl ⟨by rfl, ?_⟩) (by assumption) ?_
  rotate_left
  · (intro w; go_simp; try with_reducible rfl)
  simp only [Act.put, List.setIfInBounds_toArray, List.set_cons_zero, List.set_cons_succ]
  refine wpAnyG_take (i := 43) (oi := { dst := some 48, op := Go.Op.load 25 (Go.Operand.tmp 2), type := 25, pos := "law.go:76", after := #[{ on := 42, ground := Go.Ground.guard }], guard := some (42, true) }) (v := ?_) rfl (by kernel_rfl) (by kernel_rfl) (by kernel_rfl) (by kernel_rfl) (fun _ _ _ h => h) (Or.inl ⟨by rfl, ?_⟩) (by assumption) ?_
  rotate_left
  · (intro w hSw; (obtain ⟨⟨c0, c1, c2, c3, c4, c5⟩, e0, e1, e2, e3, e4, e5⟩ := And.intro hSw.1.six hSw.2.six); go_simp; try with_reducible rfl)
  simp only [Act.put, List.setIfInBounds_toArray, List.set_cons_zero, List.set_cons_succ]
  refine wpAnyG_take (i := 44) (oi := { dst := some 49, op := Go.Op.load 25 (Go.Operand.tmp 2), type := 25, pos := "law.go:76", after := #[{ on := 42, ground := Go.Ground.guard }], guard := some (42, true) }) (v := ?_) rfl (by kernel_rfl) (by kernel_rfl) (by kernel_rfl) (by kernel_rfl) (fun _ _ _ h => h) (Or.inl ⟨by rfl, ?_⟩) (by assumption) ?_
  rotate_left
  · (intro w hSw; (obtain ⟨⟨c0, c1, c2, c3, c4, c5⟩, e0, e1, e2, e3, e4, e5⟩ := And.intro hSw.1.six hSw.2.six); go_simp; try with_reducible rfl)
  simp only [Act.put, List.setIfInBounds_toArray, List.set_cons_zero, List.set_cons_succ]
  refine wpAnyG_ready (rs := [45]) (by kernel_rfl) (by simp) ?_
  refine AllReadyG.cons (o := { dst := some 50, op := Go.Op.call { callee := Go.Callee.value (Go.Operand.func 14), args := #[Go.Operand.tmp 48, Go.Operand.tmp 49], argTypes := #[25, 25] }, type := 4, pos := "law.go:76", after := #[{ on := 43, ground := Go.Ground.data }, { on := 44, ground := Go.Ground.data }, { on := 42, ground := Go.Ground.chain }, { on := 42, ground := Go.Ground.guard }], guard := some (42, true) }) rfl (fun K hK => ?_) AllReadyG.nil
  go_simp
  go_at_call 14
  refine (HX.out _ k12).mono ?_
  rintro e U13 ⟨rfl, u13⟩
  go_wp2_with fail
  have k13 : Kp [] B U13 := k12.trans u13 (fun z hz => by simp at hz)
  refine hK.out _ _ ⟨At.kept hHeld12.1 u13 (by simp), At.kept hHeld12.2 u13 (by simp)⟩ (fun hHeld13 => ?_)
  clear hK K hHeld12
  try simp only [Act.put, List.setIfInBounds_toArray, List.set_cons_zero, List.set_cons_succ]
  refine wpAnyG_pure (i := 46) (oi := { dst := some 51, op := Go.Op.pick (Go.Operand.tmp 47) (Go.Operand.tmp 50) (Go.Operand.const (Go.Value.bool false)), type := 4, pos := "law.go:76", after := #[{ on := 42, ground := Go.Ground.data }, { on := 45, ground := Go.Ground.data }], guard := none }) (v := ?_) rfl (by kernel_rfl) (by kernel_rfl) (by kernel_rfl) (by kernel_rfl) (fun _ _ _ h => h) (Or.inl ⟨by rfl, ?_⟩) (by assumption) ?_
  rotate_left
  · (intro w; go_simp; try with_reducible rfl)
  simp only [Act.put, List.setIfInBounds_toArray, List.set_cons_zero, List.set_cons_succ]
  refine wpAnyG_pure (i := 47) (oi := { dst := some 4, op := Go.Op.assign (Go.Operand.tmp 51), type := 4, pos := "law.go:76", after := #[{ on := 46, ground := Go.Ground.data }, { on := 45, ground := Go.Ground.chain }, { on := 0, ground := Go.Ground.phase }, { on := 1, ground := Go.Ground.phase }, { on := 2, ground := Go.Ground.phase }, { on := 3, ground := Go.Ground.phase }, { on := 4, ground := Go.Ground.phase }, { on := 5, ground := Go.Ground.phase }, { on := 6, ground := Go.Ground.phase }, { on := 7, ground := Go.Ground.phase }, { on := 8, ground := Go.Ground.phase }, { on := 9, ground := Go.Ground.phase }, { on := 10, ground := Go.Ground.phase }, { on := 11, ground := Go.Ground.phase }, { on := 12, ground := Go.Ground.phase }, { on := 13, ground := Go.Ground.phase }, { on := 14, ground := Go.Ground.phase }, { on := 15, ground := Go.Ground.phase }, { on := 16, ground := Go.Ground.phase }, { on := 17, ground := Go.Ground.phase }, { on := 18, ground := Go.Ground.phase }, { on := 19, ground := Go.Ground.phase }, { on := 20, ground := Go.Ground.phase }, { on := 21, ground := Go.Ground.phase }, { on := 22, ground := Go.Ground.phase }, { on := 23, ground := Go.Ground.phase }, { on := 24, ground := Go.Ground.phase }, { on := 25, ground := Go.Ground.phase }, { on := 26, ground := Go.Ground.phase }, { on := 27, ground := Go.Ground.phase }, { on := 28, ground := Go.Ground.phase }, { on := 29, ground := Go.Ground.phase }, { on := 30, ground := Go.Ground.phase }, { on := 31, ground := Go.Ground.phase }, { on := 32, ground := Go.Ground.phase }, { on := 33, ground := Go.Ground.phase }, { on := 34, ground := Go.Ground.phase }, { on := 35, ground := Go.Ground.phase }, { on := 36, ground := Go.Ground.phase }, { on := 37, ground := Go.Ground.phase }, { on := 38, ground := Go.Ground.phase }, { on := 39, ground := Go.Ground.phase }, { on := 40, ground := Go.Ground.phase }, { on := 41, ground := Go.Ground.phase }, { on := 42, ground := Go.Ground.phase }, { on := 43, ground := Go.Ground.phase }, { on := 44, ground := Go.Ground.phase }, { on := 45, ground := Go.Ground.phase }, { on := 46, ground := Go.Ground.phase }], guard := none }) (v := ?_) rfl (by kernel_rfl) (by kernel_rfl) (by kernel_rfl) (by kernel_rfl) (fun _ _ _ h => h) (Or.inl ⟨by rfl, ?_⟩) (by assumption) ?_
  rotate_left
  · (intro w; go_simp; try with_reducible rfl)
  simp only [Act.put, List.setIfInBounds_toArray, List.set_cons_zero, List.set_cons_succ]
  refine wpAnyG_free (by kernel_rfl) ?_
  refine wpAny_done (by kernel_rfl) ?_ _
  go_wp2
  go_ret
  exact ⟨rfl, KB.out.trans k13 (fun z hz => by simp at hz)⟩

end Go.Proofs.Ytgnbafgglkncmaa
