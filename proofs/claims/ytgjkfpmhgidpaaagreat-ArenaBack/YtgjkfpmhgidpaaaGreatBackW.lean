/-
  ArenaBack: a right tree laid in an arena comes out as itself; what is not right is refused.
-/
import Derived.Test.YtgjkfpmhgidpaaaGreatOF
import Derived.Test.YtgjkfpmhgidpaaaGreatOfR
import Derived.Test.YtgjkfpmhgidpaaaGreatPlay
import Derived.Test.YtgjkfpmhgidpaaaGreatAllP
namespace Go.Proofs.YtgjkfpmhgidpaaaGreat
open Go.RowKit Go.Maps Utf
set_option linter.unusedVariables false
set_option linter.unusedSimpArgs false

set_option maxRecDepth 100000 in
set_option maxHeartbeats 4000000 in
theorem back_any (w : World) (ao : Option Addr) (n c : Nat) (F : Nat → Aq) (hin : Ain w ao n c F) :
    Calls Tryz.prog 4 #[.slice ao n c] w fun e w' => e = .returned (.bool true) ∧ Kp [] w w' := by
  have HPl := played_any w ao n c F hin
  clear hin
  go_enter Tryz.func4, Tryz.ntmps4
  go_upto_region 4 with (go_at_call 11; refine HPl.mono ?_; rintro e W1 ⟨b, d, tag, q, A, k, rfl, B, hk, v⟩)
  clear HPl
  have hpos := B.ps.ful.toOk.pos
  have okT0 := B.okT 0
  have hcnt : (A.below 0).cnt ≤ 3000 := by have := B.ps.ful.toOk.below_cnt 0; have := B.n_lt; omega
  have HEn : Hid (rightF (A.lb 0) (A.below 0) = true → (A.below 0).Each okN) := fun hr => by
    have h1 := (right_each hr).2
    have h2 : (A.below 0).Each (fun l => l.attrs.length ≤ 8000 ∧ fits l.attrs ∧ l.name.size ≤ 1000000 ∧ l.text.size ≤ 1000000) := Ar.below_each (fun x => ⟨(B.att x).1, (B.att x).2, B.ps.nm x, Nat.le_trans (B.ps.txt x) (by omega)⟩) 0
    exact Fo.each_and h1 h2
  have HP := B.ps.pure 0 hpos
  unfold wv at HP
  rw [show ((0 : Nat) : Int) = 0 from rfl] at HP
  have k01 : Hid (Kp [] w W1) := v.kp (fun _ _ => rfl)
  clear B v hpos hk
  generalize A.lb 0 = l at *
  generalize A.below 0 = f at *
  go_upto_region 5 with (go_at_call 12; refine HP.mono ?_; rintro e W2 ⟨p, rfl, k2, n2⟩)
  clear HP
  obtain ⟨W3, hW3⟩ : ∃ W, W = W2.alloc (.cells #[.int .i64 l.kind, .int .i64 l.ns, .string l.name, .slice p.1.1 p.1.2.1 p.1.2.2, .string l.text, .slice p.2.1 p.2.2.1 p.2.2.2] 38) := ⟨_, rfl⟩
  have k3 : Kp [] W2 W3 := by rw [hW3]; exact (Kp.refl _ _).alloc _
  have a3 : At W3 W2.heap.size #[.int .i64 l.kind, .int .i64 l.ns, .string l.name, .slice p.1.1 p.1.2.1 p.1.2.2, .string l.text, .slice p.2.1 p.2.2.1 p.2.2.2] 38 := by rw [hW3]; exact At.new _ _ _
  rw [← hW3]
  clear hW3
  obtain ⟨g4, hg4⟩ : ∃ g, W2.heap.size = g := ⟨_, rfl⟩
  rw [hg4] at a3 ⊢
  clear hg4
  have n3 : Nd Any W3 l f p := (n2.any).kept k3
  have k03 : Kp [] w W3 := (k01.out.trans k2 (fun z hz => Or.inl hz)).trans k3 (fun z hz => Or.inl hz)
  have HF : Hid (∀ V, Kp [] W3 V → V.cell? ⟨g4, 0, none⟩ = some (.int .i64 l.kind) ∧ V.cell? ⟨g4, 1, none⟩ = some (.int .i64 l.ns) ∧ V.cell? ⟨g4, 2, none⟩ = some (.string l.name) ∧ V.cell? ⟨g4, 3, none⟩ = some (.slice p.1.1 p.1.2.1 p.1.2.2) ∧ V.cell? ⟨g4, 4, none⟩ = some (.string l.text) ∧ V.cell? ⟨g4, 5, none⟩ = some (.slice p.2.1 p.2.2.1 p.2.2.2)) := fun V kV => (a3.kept kV (by simp)).six
  clear k01 k2 k3 n2 a3
  have HR : Hid (∀ V, Kp [] W3 V → Calls Tryz.prog 13 #[wv l p] V fun e w' => e = .returned (.bool (rightF l f)) ∧ Kp [] V w') := fun V kV => right_any V l f p (n3.kept kV) okT0
  unfold wv at HR
  cases hr : rightF l f with
  | false =>
    have HO := of_wrong W3 l f p n3 okT0 hr
    rw [hr] at HR
    unfold wv at HO
    obtain ⟨x0, x1, x2, x3, x4, x5⟩ := HF.out _ (Kp.refl [] W3)
    go_upto_region 8 with (go_at_call 8; refine HO.mono ?_; rintro e W4 ⟨rfl, k4⟩)
    clear HO x0 x1 x2 x3 x4 x5
    obtain ⟨x0, x1, x2, x3, x4, x5⟩ := HF.out _ k4
    have HR2 := HR.out _ k4
    clear HR HF HEn
    go_wp2_with (first | (go_at_call 13; refine HR2.mono ?_; rintro e W5 ⟨rfl, k5⟩) | (go_at_call 10; refine (known_any _).mono ?_; rintro e W6 ⟨rfl, k6⟩))
    go_ret
    exact ⟨rfl, ((k03.trans k4 (fun z hz => Or.inl hz)).trans k5 (fun z hz => Or.inl hz)).trans k6 (fun z hz => Or.inl hz)⟩
  | true =>
    have HO := of_right W3 l f p n3 okT0 hr (HEn.out hr) hcnt
    obtain ⟨hl, _⟩ := right_each hr
    obtain ⟨zok, zn, zl, zb⟩ := Ar.lay_first f
    have zat : ∀ x, ((Ar.lay f 0 Ar.first).lb x).attrs.length ≤ 20000 ∧ fits ((Ar.lay f 0 Ar.first).lb x).attrs ∧ ((Ar.lay f 0 Ar.first).lb x).name.size ≤ 1000000 := Ar.lay_lbs (P := fun l => l.attrs.length ≤ 20000 ∧ fits l.attrs ∧ l.name.size ≤ 1000000) (Fo.each_mono (fun l h => ⟨by have := h.2.1; omega, h.2.2.1, h.2.2.2.1⟩) (HEn.out hr)) 0 Ar.first (fun y => ⟨Nat.zero_le _, (fun a ha => by cases ha), Nat.zero_le _⟩)
    have hcT : countT l f = 1 + f.cnt := rfl
    rw [hr] at HR
    unfold wv at HO
    rw [zn] at HO
    have zl2 : (Ar.lay f 0 Ar.first).lb 0 = l := by rw [zl, hl]
    generalize Ar.lay f 0 Ar.first = Z at *
    have HZ : Hid (Z.Ok ∧ Z.n = 1 + f.cnt ∧ Z.lb 0 = l ∧ Z.below 0 = f ∧ (∀ x, (Z.lb x).attrs.length ≤ 20000 ∧ fits (Z.lb x).attrs ∧ (Z.lb x).name.size ≤ 1000000) ∧ countT l f = 1 + f.cnt) := ⟨zok, zn, zl2, zb, zat, hcT⟩
    clear zok zn zl zl2 zb zat hcT hl HEn hr
    obtain ⟨x0, x1, x2, x3, x4, x5⟩ := HF.out _ (Kp.refl [] W3)
    go_upto_region 8 with (go_at_call 8; refine HO.mono ?_; rintro e W4 ⟨b2, tag2, rfl, k4, pa4⟩)
    clear HO x0 x1 x2 x3 x4 x5
    obtain ⟨x0, x1, x2, x3, x4, x5⟩ := HF.out _ k4
    have HR2 := HR.out _ k4
    clear HR
    go_upto_region 12 with (go_at_call 13; refine HR2.mono ?_; rintro e W5 ⟨rfl, k5⟩)
    clear HR2 x0 x1 x2 x3 x4 x5
    obtain ⟨zok, zn, zl2, zb, zat, hcT⟩ := HZ.out
    have pa5 : Pa tag2 W5 b2 false Z.n Z.raw := by rw [zn]; exact pa4.mv k5 (fun _ _ => rfl)
    have k35 : Kp [] W3 W5 := k4.trans k5 (fun z hz => Or.inl hz)
    have HP : Calls Tryz.prog 12 #[.pointer (some ⟨b2, 0, none⟩), .int .i64 ((0 : Nat) : Int)] W5 fun e w' => ∃ p, e = .returned (.tuple #[wv l p, .int .i64 0]) ∧ Kp [] W5 w' ∧ Nd (fun y => W5.heap.size ≤ y) w' l f p := by
      obtain ⟨g0, o0, c0, pl0, r0⟩ := pa5
      have := pure_any r0 zok (by omega) 0 (by omega) zat
      rw [zl2, zb] at this
      exact this
    unfold wv at HP
    rw [show ((0 : Nat) : Int) = 0 from rfl] at HP
    have HLn : Hid (∀ V, Kp [] W5 V → Calls Tryz.prog 15 #[.pointer (some ⟨b2, 0, none⟩)] V fun e w' => e = .returned (.int .i64 ((1 + f.cnt : Nat) : Int)) ∧ w' = V) := fun V kV => by
      obtain ⟨g0, o0, c0, pl0, r0⟩ := pa5
      have := len_any (r0.kept kV)
      rw [zn] at this
      exact this
    have HCn : Hid (∀ V, Kp [] W3 V → Calls Tryz.prog 16 #[wv l p] V fun e w' => e = .returned (.int .i64 ((1 + f.cnt : Nat) : Int)) ∧ Kp [] V w') := fun V kV => by
      have := count_any V l f p (n3.kept kV) (by omega)
      rw [hcT] at this
      exact this
    unfold wv at HCn
    have HT : Hid (∀ V p', Kp [] W3 V → Nd Any V l f p' → Calls Tryz.prog 14 #[wv l p, wv l p'] V fun e w' => e = .returned (.bool true) ∧ Kp [] V w') := fun V p' kV n' => by
      have := ktree_any V _ _ _ _ p p' (n3.kept kV) n' okT0 okT0
      rw [(sameT_iff _ _ _ _).2 ⟨rfl, rfl⟩] at this
      exact this
    unfold wv at HT
    clear pa5 pa4 zok zn zb zat zl2 hcT HZ
    generalize 1 + f.cnt = N at *
    go_upto_region 13 with (go_at_call 12; refine HP.mono ?_; rintro e W6 ⟨p6, rfl, k6, n6⟩)
    clear HP
    obtain ⟨W7, hW7⟩ : ∃ W, W = W6.alloc (.cells #[.int .i64 l.kind, .int .i64 l.ns, .string l.name, .slice p6.1.1 p6.1.2.1 p6.1.2.2, .string l.text, .slice p6.2.1 p6.2.2.1 p6.2.2.2] 38) := ⟨_, rfl⟩
    have k7 : Kp [] W6 W7 := by rw [hW7]; exact (Kp.refl _ _).alloc _
    have a7 : At W7 W6.heap.size #[.int .i64 l.kind, .int .i64 l.ns, .string l.name, .slice p6.1.1 p6.1.2.1 p6.1.2.2, .string l.text, .slice p6.2.1 p6.2.2.1 p6.2.2.2] 38 := by rw [hW7]; exact At.new _ _ _
    rw [← hW7]
    clear hW7
    obtain ⟨g8, hg8⟩ : ∃ g, W6.heap.size = g := ⟨_, rfl⟩
    rw [hg8] at a7 ⊢
    clear hg8
    have n7 : Nd Any W7 l f p6 := (n6.any).kept k7
    have k57 : Kp [] W5 W7 := k6.trans k7 (fun z hz => Or.inl hz)
    have k37 : Kp [] W3 W7 := k35.trans k57 (fun z hz => Or.inl hz)
    have HG : Hid (∀ V, Kp [] W7 V → (V.cell? ⟨g4, 0, none⟩ = some (.int .i64 l.kind) ∧ V.cell? ⟨g4, 1, none⟩ = some (.int .i64 l.ns) ∧ V.cell? ⟨g4, 2, none⟩ = some (.string l.name) ∧ V.cell? ⟨g4, 3, none⟩ = some (.slice p.1.1 p.1.2.1 p.1.2.2) ∧ V.cell? ⟨g4, 4, none⟩ = some (.string l.text) ∧ V.cell? ⟨g4, 5, none⟩ = some (.slice p.2.1 p.2.2.1 p.2.2.2)) ∧ V.cell? ⟨g8, 0, none⟩ = some (.int .i64 l.kind) ∧ V.cell? ⟨g8, 1, none⟩ = some (.int .i64 l.ns) ∧ V.cell? ⟨g8, 2, none⟩ = some (.string l.name) ∧ V.cell? ⟨g8, 3, none⟩ = some (.slice p6.1.1 p6.1.2.1 p6.1.2.2) ∧ V.cell? ⟨g8, 4, none⟩ = some (.string l.text) ∧ V.cell? ⟨g8, 5, none⟩ = some (.slice p6.2.1 p6.2.2.1 p6.2.2.2)) := fun V kV => ⟨HF.out V (k37.trans kV (fun z hz => Or.inl hz)), (a7.kept kV (by simp)).six⟩
    have HT7 : Hid (∀ V, Kp [] W7 V → Calls Tryz.prog 14 #[.agg #[.int .i64 l.kind, .int .i64 l.ns, .string l.name, .slice p.1.1 p.1.2.1 p.1.2.2, .string l.text, .slice p.2.1 p.2.2.1 p.2.2.2], .agg #[.int .i64 l.kind, .int .i64 l.ns, .string l.name, .slice p6.1.1 p6.1.2.1 p6.1.2.2, .string l.text, .slice p6.2.1 p6.2.2.1 p6.2.2.2]] V fun e w' => e = .returned (.bool true) ∧ Kp [] V w') := fun V kV => HT.out V p6 (k37.trans kV (fun z hz => Or.inl hz)) (n7.kept kV)
    have k07 : Hid (Kp [] w W7) := k03.trans k37 (fun z hz => Or.inl hz)
    clear HF HT a7 n6 n7 k6 k7 n3 k03 k4 k5
    obtain ⟨U5, hU5⟩ : ∃ V, V = W7.drew := ⟨_, rfl⟩
    have k5 : Kp [] W7 U5 := by rw [hU5]; exact (Kp.refl _ _).drew
    refine wp_region_g (S := fun V => (V.cell? ⟨g4, 0, none⟩ = some (.int .i64 l.kind) ∧ V.cell? ⟨g4, 1, none⟩ = some (.int .i64 l.ns) ∧ V.cell? ⟨g4, 2, none⟩ = some (.string l.name) ∧ V.cell? ⟨g4, 3, none⟩ = some (.slice p.1.1 p.1.2.1 p.1.2.2) ∧ V.cell? ⟨g4, 4, none⟩ = some (.string l.text) ∧ V.cell? ⟨g4, 5, none⟩ = some (.slice p.2.1 p.2.2.1 p.2.2.2)) ∧ V.cell? ⟨g8, 0, none⟩ = some (.int .i64 l.kind) ∧ V.cell? ⟨g8, 1, none⟩ = some (.int .i64 l.ns) ∧ V.cell? ⟨g8, 2, none⟩ = some (.string l.name) ∧ V.cell? ⟨g8, 3, none⟩ = some (.slice p6.1.1 p6.1.2.1 p6.1.2.2) ∧ V.cell? ⟨g8, 4, none⟩ = some (.string l.text) ∧ V.cell? ⟨g8, 5, none⟩ = some (.slice p6.2.1 p6.2.2.1 p6.2.2.2)) (T := []) (by kernel_rfl) (HG.out _ (Kp.refl _ _).drew) (fun hHeld => ?_)
    rw [← hU5] at hHeld ⊢
    clear hU5
    refine g_pure 0 (oi := ⟨some 49, .move (.tmp 9), 33, "law.go:204", #[], none⟩) (v := ?_) (Or.inl ⟨by rfl, ?_⟩) ?_
    rotate_left
    · (intro w; go_simp; try with_reducible rfl)
    simp only [Act.put, pu1, pu2, pu3]
    refine g_pure 1 (oi := ⟨some 50, .binOp .eql 33 (.tmp 49) (.const (.int .i64 0)) 33, 4, "law.go:204", #[⟨0, .data⟩], none⟩) (v := ?_) (Or.inl ⟨by rfl, ?_⟩) ?_
    rotate_left
    · (intro w; go_simp; try with_reducible rfl)
    simp only [Act.put, pu1, pu2, pu3]
    refine g_pure 2 (oi := ⟨some 51, .move (.tmp 50), 4, "law.go:204", #[⟨1, .data⟩], none⟩) (v := ?_) (Or.inl ⟨by rfl, ?_⟩) ?_
    rotate_left
    · (intro w; go_simp; try with_reducible rfl)
    simp only [Act.put, pu1, pu2, pu3]
    refine g_take 3 (oi := ⟨some 52, .load 38 (.tmp 4), 38, "law.go:204", #[⟨2, .guard⟩], some (2, true)⟩) (v := ?_) (Or.inl ⟨by rfl, ?_⟩) ?_
    rotate_left
    · (intro w hSw; (obtain ⟨⟨q0, q1, q2, q3, q4, q5⟩, r0, r1, r2, r3, r4, r5⟩ := hSw); go_simp; try with_reducible rfl)
    simp only [Act.put, pu1, pu2, pu3]
    refine g_take 4 (oi := ⟨some 53, .load 38 (.tmp 8), 38, "law.go:204", #[⟨2, .guard⟩], some (2, true)⟩) (v := ?_) (Or.inl ⟨by rfl, ?_⟩) ?_
    rotate_left
    · (intro w hSw; (obtain ⟨⟨q0, q1, q2, q3, q4, q5⟩, r0, r1, r2, r3, r4, r5⟩ := hSw); go_simp; try with_reducible rfl)
    simp only [Act.put, pu1, pu2, pu3]
    refine wpAnyG_ready (rs := [5]) (by kernel_rfl) (by simp) ?_
    refine AllReadyG.cons (o := ⟨some 54, .call { callee := .value (.func 14), args := #[.tmp 52, .tmp 53], argTypes := #[38, 38] }, 4, "law.go:204", #[⟨3, .data⟩, ⟨4, .data⟩, ⟨2, .chain⟩, ⟨2, .guard⟩], some (2, true)⟩) rfl (fun K hK => ?_) AllReadyG.nil
    go_simp
    go_at_call 14
    refine (HT7.out _ k5).mono ?_
    rintro e U6 ⟨rfl, u6⟩
    go_wp2_with fail
    have k6 : Kp [] W7 U6 := k5.trans u6 (fun z hz => Or.inl hz)
    refine hK.out _ _ (HG.out _ k6) (fun hHeld1 => ?_)
    clear hK K hHeld
    try simp only [Act.put, pu1, pu2, pu3]
    refine g_pure 6 (oi := ⟨some 55, .pick (.tmp 51) (.tmp 54) (.const (.bool false)), 4, "law.go:204", #[⟨2, .data⟩, ⟨5, .data⟩], none⟩) (v := ?_) (Or.inl ⟨by rfl, ?_⟩) ?_
    rotate_left
    · (intro w; go_simp; try with_reducible rfl)
    simp only [Act.put, pu1, pu2, pu3]
    refine g_pure 7 (oi := ⟨some 56, .move (.tmp 55), 4, "law.go:204", #[⟨6, .data⟩, ⟨5, .chain⟩], none⟩) (v := ?_) (Or.inl ⟨by rfl, ?_⟩) ?_
    rotate_left
    · (intro w; go_simp; try with_reducible rfl)
    simp only [Act.put, pu1, pu2, pu3]
    refine g_pure 8 (oi := ⟨some 57, .move (.tmp 6), 22, "law.go:204", #[⟨7, .guard⟩], some (7, true)⟩) (v := ?_) (Or.inl ⟨by rfl, ?_⟩) ?_
    rotate_left
    · (intro w; go_simp; try with_reducible rfl)
    simp only [Act.put, pu1, pu2, pu3]
    refine g_take 10 (oi := ⟨some 59, .load 38 (.tmp 4), 38, "law.go:204", #[⟨7, .guard⟩], some (7, true)⟩) (v := ?_) (Or.inl ⟨by rfl, ?_⟩) ?_
    rotate_left
    · (intro w hSw; (obtain ⟨⟨q0, q1, q2, q3, q4, q5⟩, r0, r1, r2, r3, r4, r5⟩ := hSw); go_simp; try with_reducible rfl)
    simp only [Act.put, pu1, pu2, pu3]
    refine wpAnyG_ready (rs := [9]) (by kernel_rfl) (by simp) ?_
    refine AllReadyG.cons (o := ⟨some 58, .call { callee := .value (.func 15), args := #[.tmp 57], argTypes := #[22] }, 3, "law.go:204", #[⟨8, .data⟩, ⟨7, .chain⟩, ⟨7, .guard⟩], some (7, true)⟩) rfl (fun K hK => ?_) AllReadyG.nil
    go_simp
    go_at_call 15
    refine (HLn.out _ (k57.trans k6 (fun z hz => Or.inl hz))).mono ?_
    rintro e w9 ⟨rfl, hw⟩
    have hw2 := hw.symm
    clear hw
    subst hw2
    go_wp2_with fail
    refine hK.out _ _ (HG.out _ k6) (fun hHeld2 => ?_)
    clear hK K hHeld1
    try simp only [Act.put, pu1, pu2, pu3]
    refine wpAnyG_ready (rs := [11]) (by kernel_rfl) (by simp) ?_
    refine AllReadyG.cons (o := ⟨some 60, .call { callee := .value (.func 16), args := #[.tmp 59], argTypes := #[38] }, 3, "law.go:204", #[⟨10, .data⟩, ⟨9, .chain⟩, ⟨7, .guard⟩], some (7, true)⟩) rfl (fun K hK => ?_) AllReadyG.nil
    go_simp
    go_at_call 16
    refine (HCn.out _ (k37.trans k6 (fun z hz => Or.inl hz))).mono ?_
    rintro e U8 ⟨rfl, u8⟩
    go_wp2_with fail
    have k8 : Kp [] W7 U8 := k6.trans u8 (fun z hz => Or.inl hz)
    refine hK.out _ _ (HG.out _ k8) (fun hHeld3 => ?_)
    clear hK K hHeld2
    try simp only [Act.put, pu1, pu2, pu3]
    refine g_pure 12 (oi := ⟨some 61, .binOp .eql 3 (.tmp 58) (.tmp 60) 3, 4, "law.go:204", #[⟨9, .data⟩, ⟨11, .data⟩, ⟨7, .guard⟩], some (7, true)⟩) (v := ?_) (Or.inl ⟨by rfl, ?_⟩) ?_
    rotate_left
    · (intro w; go_simp; try with_reducible rfl)
    simp only [Act.put, pu1, pu2, pu3]
    refine g_pure 13 (oi := ⟨some 62, .pick (.tmp 56) (.tmp 61) (.const (.bool false)), 4, "law.go:204", #[⟨7, .data⟩, ⟨12, .data⟩], none⟩) (v := ?_) (Or.inl ⟨by rfl, ?_⟩) ?_
    rotate_left
    · (intro w; go_simp; try with_reducible rfl)
    simp only [Act.put, pu1, pu2, pu3]
    refine g_pure 14 (oi := ⟨some 63, .move (.tmp 62), 4, "law.go:204", #[⟨13, .data⟩, ⟨11, .chain⟩], none⟩) (v := ?_) (Or.inl ⟨by rfl, ?_⟩) ?_
    rotate_left
    · (intro w; go_simp; try with_reducible rfl)
    simp only [Act.put, pu1, pu2, pu3]
    refine wpAnyG_ready (rs := [15]) (by kernel_rfl) (by simp) ?_
    refine AllReadyG.cons (o := ⟨some 64, .call { callee := .value (.func 10), args := #[], argTypes := #[] }, 4, "law.go:204", #[⟨14, .chain⟩, ⟨14, .guard⟩], some (14, true)⟩) rfl (fun K hK => ?_) AllReadyG.nil
    go_simp
    go_at_call 10
    refine (known_any _).mono ?_
    rintro e U9 ⟨rfl, u9⟩
    go_wp2_with fail
    have k9 : Kp [] W7 U9 := k8.trans u9 (fun z hz => Or.inl hz)
    refine hK.out _ _ (HG.out _ k9) (fun hHeld4 => ?_)
    clear hK K hHeld3
    try simp only [Act.put, pu1, pu2, pu3]
    refine g_pure 16 (oi := ⟨some 65, .pick (.tmp 63) (.tmp 64) (.const (.bool false)), 4, "law.go:204", #[⟨14, .data⟩, ⟨15, .data⟩], none⟩) (v := ?_) (Or.inl ⟨by rfl, ?_⟩) ?_
    rotate_left
    · (intro w; go_simp; try with_reducible rfl)
    simp only [Act.put, pu1, pu2, pu3]
    refine g_pure 17 (oi := ⟨some 2, .assign (.tmp 65), 4, "law.go:204", #[⟨16, .data⟩, ⟨15, .chain⟩, ⟨0, .phase⟩, ⟨1, .phase⟩, ⟨2, .phase⟩, ⟨3, .phase⟩, ⟨4, .phase⟩, ⟨5, .phase⟩, ⟨6, .phase⟩, ⟨7, .phase⟩, ⟨8, .phase⟩, ⟨9, .phase⟩, ⟨10, .phase⟩, ⟨11, .phase⟩, ⟨12, .phase⟩, ⟨13, .phase⟩, ⟨14, .phase⟩, ⟨15, .phase⟩, ⟨16, .phase⟩], none⟩) (v := ?_) (Or.inl ⟨by rfl, ?_⟩) ?_
    rotate_left
    · (intro w; go_simp; try with_reducible rfl)
    simp only [Act.put, pu1, pu2, pu3]
    refine wpAnyG_free (by kernel_rfl) ?_
    refine wpAny_done (by kernel_rfl) ?_ _
    go_wp2
    go_ret
    exact ⟨rfl, k07.out.trans k9 (fun z hz => Or.inl hz)⟩

end Go.Proofs.YtgjkfpmhgidpaaaGreat
