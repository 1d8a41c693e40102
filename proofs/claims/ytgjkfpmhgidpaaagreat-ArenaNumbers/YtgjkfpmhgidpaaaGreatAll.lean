/-
  all of the law: both arenas tell each node, and each tree, alike.
-/
import Derived.Test.YtgjkfpmhgidpaaaGreatBO
import Derived.Test.YtgjkfpmhgidpaaaGreatAllP
import Derived.Test.YtgjkfpmhgidpaaaGreatRdP
namespace Go.Proofs.YtgjkfpmhgidpaaaGreat
open Go.RowKit Go.Maps Utf
set_option linter.unusedVariables false
set_option linter.unusedSimpArgs false

section
variable {tag : Nat → Nat} {w : World} {b d k : Nat} {q : Bool} {A : Ar}

/-- The document's tree of a node. -/
theorem Bo.rpure (B : Bo tag w b d q A k) (x : Nat) (hx : x < A.n) :
    Calls Tryz.prog 44 #[.pointer (some ⟨d, 0, none⟩), .int .i64 (x : Int)] w fun e w' => ∃ p, e = .returned (wv (A.lb x) p) ∧ Kp [] w w' ∧ Nd Any w' (A.lb x) (A.below x) p := by
  obtain ⟨g, o, c, pl, h⟩ := B.dn
  refine (rpure_any h B.ps.ful.toOk (by have := B.n_lt; omega) x hx).mono ?_
  rintro e w' ⟨p, rfl, k1, n1⟩
  exact ⟨p, rfl, k1, n1.any⟩

set_option maxRecDepth 100000 in
set_option maxHeartbeats 1000000 in
theorem all_any (B : Bo tag w b d q A k) :
    Calls Tryz.prog 9 #[.pointer (some ⟨b, 0, none⟩), .pointer (some ⟨d, 0, none⟩)] w fun e w' => e = .returned (.bool true) ∧ Kp [] w w' := by
  have hn := B.n_lt
  obtain ⟨g, o, c, HC⟩ : ∃ g o c, Hid (∀ V, Kp [] w V → V.cell? ⟨d, 0, none⟩ = some (.slice (some ⟨g, o, none⟩) A.n c)) := by
    obtain ⟨g, o, c, pl, h⟩ := B.dn
    exact ⟨g, o, c, fun V kV => (h.kept kV).head.1⟩
  have HO : Hid (∀ V z, Kp [] w V → Calls Tryz.prog 38 #[.pointer (some ⟨b, 0, none⟩), .pointer (some ⟨d, 0, none⟩), .int .i64 z] V fun e w' => e = .returned (.bool true) ∧ Kp [] V w') := fun V z kV => one_any (B.kept kV) z
  have HP : Hid (∀ V (x : Nat), Kp [] w V → x < A.n → Calls Tryz.prog 12 #[.pointer (some ⟨b, 0, none⟩), .int .i64 (x : Int)] V fun e w' => ∃ p, e = .returned (.tuple #[wv (A.lb x) p, .int .i64 0]) ∧ Kp [] V w' ∧ Nd Any w' (A.lb x) (A.below x) p) := fun V x kV hx => by
    refine ((B.ps.kept kV).pure x hx).mono ?_
    rintro e w' ⟨p, rfl, k1, n1⟩
    exact ⟨p, rfl, k1, n1.any⟩
  have HP0 : Hid (∀ V z, Kp [] w V → A.there z = false → Calls Tryz.prog 12 #[.pointer (some ⟨b, 0, none⟩), .int .i64 z] V fun e w' => e = .returned (.tuple #[.agg #[.int .i64 0, .int .i64 0, .string ⟨#[]⟩, .slice none 0 0, .string ⟨#[]⟩, .slice none 0 0], .int .i64 22]) ∧ Kp [] V w') := fun V z kV hz => (B.ps.kept kV).pure0 z hz
  have HR : Hid (∀ V (x : Nat), Kp [] w V → x < A.n → Calls Tryz.prog 44 #[.pointer (some ⟨d, 0, none⟩), .int .i64 (x : Int)] V fun e w' => ∃ p, e = .returned (wv (A.lb x) p) ∧ Kp [] V w' ∧ Nd Any w' (A.lb x) (A.below x) p) := fun V x kV hx => (B.kept kV).rpure x hx
  have HT : Hid (∀ V (x : Nat) p p', Nd Any V (A.lb x) (A.below x) p → Nd Any V (A.lb x) (A.below x) p' → Calls Tryz.prog 14 #[wv (A.lb x) p, wv (A.lb x) p'] V fun e w' => e = .returned (.bool true) ∧ Kp [] V w') := fun V x p p' n1 n2 => by
    have := ktree_any V _ _ _ _ p p' n1 n2 (B.okT x) (B.okT x)
    rw [(sameT_iff _ _ _ _).2 ⟨rfl, rfl⟩] at this
    exact this
  clear B
  unfold wv at HP HR HT
  go_enter Tryz.func9, Tryz.ntmps9
  go_wp2_with fail
  go_loopw [5] (fun v wr => ∃ i : Int, v = .int .i64 i ∧ -1 ≤ i ∧ i ≤ (A.n : Int) + 1 ∧ Kp [] w wr) (fun v _ => ((A.n : Int) + 2 - intOf v).toNat)
  case atStart => exact ⟨-1, rfl, by omega, by omega, Kp.refl _ _⟩
  case round =>
    obtain ⟨i, rfl, h1, h2, kr⟩ := hrel
    have c0 := HC.out _ kr
    by_cases hi : i ≤ (A.n : Int)
    · by_cases hth : 0 ≤ i ∧ i < (A.n : Int)
      · obtain ⟨x, rfl⟩ : ∃ x : Nat, i = (x : Int) := ⟨i.toNat, by omega⟩
        have hx : x < A.n := by omega
        have j1 : (0 : Int) ≤ (x : Int) := by omega
        have j2 : (x : Int) < (A.n : Int) := by omega
        have HP1 := HP.out _ x kr hx
        have HP : Hid (∀ V, Kp [] w V → V.cell? ⟨d, 0, none⟩ = some (.slice (some ⟨g, o, none⟩) A.n c)) := HC
        go_upto_region 5 with (go_at_call 12; refine HP1.mono ?_; rintro e W1 ⟨p, rfl, k1, n1⟩)
        obtain ⟨W2, hW2⟩ : ∃ W, W = W1.alloc (.cells #[.int .i64 (A.lb x).kind, .int .i64 (A.lb x).ns, .string (A.lb x).name, .slice p.1.1 p.1.2.1 p.1.2.2, .string (A.lb x).text, .slice p.2.1 p.2.2.1 p.2.2.2] 38) := ⟨_, rfl⟩
        have k12 : Kp [] W1 W2 := by rw [hW2]; exact (Kp.refl _ _).alloc _
        have a6 : At W2 W1.heap.size #[.int .i64 (A.lb x).kind, .int .i64 (A.lb x).ns, .string (A.lb x).name, .slice p.1.1 p.1.2.1 p.1.2.2, .string (A.lb x).text, .slice p.2.1 p.2.2.1 p.2.2.2] 38 := by rw [hW2]; exact At.new _ _ _
        rw [← hW2]
        clear hW2
        obtain ⟨g6, hg6⟩ : ∃ g, W1.heap.size = g := ⟨_, rfl⟩
        rw [hg6] at a6 ⊢
        clear hg6
        have k2 : Kp [] w W2 := (kr.trans k1 (fun z hz => Or.inl hz)).trans k12 (fun z hz => Or.inl hz)
        clear c0
        go_upto_region 7 with (go_at_call 38; refine (HO.out _ _ k2).mono ?_; rintro e W3 ⟨rfl, k23⟩; have c0 := HC.out _ (k2.trans k23 (fun z hz => Or.inl hz)))
        have a6 := a6.kept k23 (by simp)
        have n3 := (n1.kept k12).kept k23
        have k3 : Kp [] w W3 := k2.trans k23 (fun z hz => Or.inl hz)
        have HF : Hid (∀ V, Kp [] W3 V → V.cell? ⟨g6, 0, none⟩ = some (.int .i64 (A.lb x).kind) ∧ V.cell? ⟨g6, 1, none⟩ = some (.int .i64 (A.lb x).ns) ∧ V.cell? ⟨g6, 2, none⟩ = some (.string (A.lb x).name) ∧ V.cell? ⟨g6, 3, none⟩ = some (.slice p.1.1 p.1.2.1 p.1.2.2) ∧ V.cell? ⟨g6, 4, none⟩ = some (.string (A.lb x).text) ∧ V.cell? ⟨g6, 5, none⟩ = some (.slice p.2.1 p.2.2.1 p.2.2.2)) := fun V kV => (a6.kept kV (by simp)).six
        clear c0 a6
        obtain ⟨U5, hU5⟩ : ∃ V, V = W3.drew := ⟨_, rfl⟩
        have k5 : Kp [] W3 U5 := by rw [hU5]; exact (Kp.refl _ _).drew
        have k35 : Kp [] w U5 := k3.trans k5 (fun z hz => Or.inl hz)
        refine wp_region_g (S := fun V => V.cell? ⟨g6, 0, none⟩ = some (.int .i64 (A.lb x).kind) ∧ V.cell? ⟨g6, 1, none⟩ = some (.int .i64 (A.lb x).ns) ∧ V.cell? ⟨g6, 2, none⟩ = some (.string (A.lb x).name) ∧ V.cell? ⟨g6, 3, none⟩ = some (.slice p.1.1 p.1.2.1 p.1.2.2) ∧ V.cell? ⟨g6, 4, none⟩ = some (.string (A.lb x).text) ∧ V.cell? ⟨g6, 5, none⟩ = some (.slice p.2.1 p.2.2.1 p.2.2.2)) (T := []) (by kernel_rfl) (HF.out _ (Kp.refl _ _).drew) (fun hHeld => ?_)
        rw [← hU5] at hHeld ⊢
        clear hU5
        refine g_pure 0 (oi := ⟨some 52, .move (.tmp 7), 33, "law.go:91", #[], none⟩) (v := ?_) (Or.inl ⟨by rfl, ?_⟩) ?_
        rotate_left
        · (intro w; go_simp; try with_reducible rfl)
        simp only [Act.put, pu1, pu2, pu3]
        refine g_pure 1 (oi := ⟨some 53, .binOp .eql 33 (.tmp 52) (.const (.int .i64 0)) 33, 4, "law.go:91", #[⟨0, .data⟩], none⟩) (v := ?_) (Or.inl ⟨by rfl, ?_⟩) ?_
        rotate_left
        · (intro w; go_simp; try with_reducible rfl)
        simp only [Act.put, pu1, pu2, pu3]
        refine g_pure 2 (oi := ⟨some 54, .move (.tmp 53), 4, "law.go:91", #[⟨1, .data⟩], none⟩) (v := ?_) (Or.inl ⟨by rfl, ?_⟩) ?_
        rotate_left
        · (intro w; go_simp; try with_reducible rfl)
        simp only [Act.put, pu1, pu2, pu3]
        refine g_take 3 (oi := ⟨some 55, .load 38 (.tmp 6), 38, "law.go:91", #[⟨2, .guard⟩], some (2, true)⟩) (v := ?_) (Or.inl ⟨by rfl, ?_⟩) ?_
        rotate_left
        · (intro w hSw; (obtain ⟨q0, q1, q2, q3, q4, q5⟩ := hSw); go_simp; try with_reducible rfl)
        simp only [Act.put, pu1, pu2, pu3]
        refine g_pure 4 (oi := ⟨some 56, .move (.tmp 1), 24, "law.go:91", #[⟨2, .guard⟩], some (2, true)⟩) (v := ?_) (Or.inl ⟨by rfl, ?_⟩) ?_
        rotate_left
        · (intro w; go_simp; try with_reducible rfl)
        simp only [Act.put, pu1, pu2, pu3]
        refine g_pure 5 (oi := ⟨some 57, .move (.tmp 5), 3, "law.go:91", #[⟨2, .guard⟩], some (2, true)⟩) (v := ?_) (Or.inl ⟨by rfl, ?_⟩) ?_
        rotate_left
        · (intro w; go_simp; try with_reducible rfl)
        simp only [Act.put, pu1, pu2, pu3]
        refine wpAnyG_ready (rs := [6]) (by kernel_rfl) (by simp) ?_
        refine AllReadyG.cons (o := ⟨some 58, .call { callee := .value (.func 44), args := #[.tmp 56, .tmp 57], argTypes := #[24, 3] }, 38, "law.go:91", #[⟨4, .data⟩, ⟨5, .data⟩, ⟨2, .chain⟩, ⟨2, .guard⟩], some (2, true)⟩) rfl (fun K hK => ?_) AllReadyG.nil
        go_simp
        go_at_call 44
        refine (HR.out _ x k35 hx).mono ?_
        rintro e U6 ⟨p6, rfl, u6, n6⟩
        go_wp2_with fail
        have k6 : Kp [] W3 U6 := k5.trans u6 (fun z hz => Or.inl hz)
        refine hK.out _ _ (HF.out _ k6) (fun hHeld1 => ?_)
        clear hK K hHeld
        try simp only [Act.put, pu1, pu2, pu3]
        refine wpAnyG_ready (rs := [7]) (by kernel_rfl) (by simp) ?_
        refine AllReadyG.cons (o := ⟨some 59, .call { callee := .value (.func 14), args := #[.tmp 55, .tmp 58], argTypes := #[38, 38] }, 4, "law.go:91", #[⟨3, .data⟩, ⟨6, .data⟩, ⟨6, .chain⟩, ⟨2, .guard⟩], some (2, true)⟩) rfl (fun K hK => ?_) AllReadyG.nil
        go_simp
        go_at_call 14
        refine (HT.out _ x p p6 (n3.kept k6) n6).mono ?_
        rintro e U7 ⟨rfl, u7⟩
        go_wp2_with fail
        have k7 : Kp [] W3 U7 := k6.trans u7 (fun z hz => Or.inl hz)
        refine hK.out _ _ (HF.out _ k7) (fun hHeld2 => ?_)
        clear hK K hHeld1
        try simp only [Act.put, pu1, pu2, pu3]
        refine g_pure 8 (oi := ⟨some 60, .unOp .not 4 (.tmp 59), 4, "law.go:91", #[⟨7, .data⟩, ⟨2, .guard⟩], some (2, true)⟩) (v := ?_) (Or.inl ⟨by rfl, ?_⟩) ?_
        rotate_left
        · (intro w; go_simp; try with_reducible rfl)
        simp only [Act.put, pu1, pu2, pu3]
        refine g_pure 9 (oi := ⟨some 61, .pick (.tmp 54) (.tmp 60) (.const (.bool false)), 4, "law.go:91", #[⟨2, .data⟩, ⟨8, .data⟩], none⟩) (v := ?_) (Or.inl ⟨by rfl, ?_⟩) ?_
        rotate_left
        · (intro w; go_simp; try with_reducible rfl)
        simp only [Act.put, pu1, pu2, pu3]
        refine wpAnyG_free (by kernel_rfl) ?_
        refine wpAny_done (by kernel_rfl) ?_ _
        clear hHeld2 HF
        have k9 : Hid (Kp [] w U7) := k3.trans k7 (fun z hz => Or.inl hz)
        clear HR HT HO HP0 HC HP HP1 n1 n3 n6 k7 k6 k5 k35 k3 k2 k12 k1 k23 u6 u7 kr
        go_wp2
        go_roundw
        case rel => exact ⟨(x : Int) + 1, by go_num, by omega, by omega, k9.out⟩
        case measure => simp [intOf]; omega
      · have hz : A.there i = false := by unfold Ar.there; exact decide_eq_false hth
        have HP1 := HP0.out _ i kr hz
        go_upto_region 5 with (go_at_call 12; refine HP1.mono ?_; rintro e W1 ⟨rfl, k1⟩)
        obtain ⟨W2, hW2⟩ : ∃ W, W = W1.alloc (.cells #[.int .i64 0, .int .i64 0, .string ⟨#[]⟩, .slice none 0 0, .string ⟨#[]⟩, .slice none 0 0] 38) := ⟨_, rfl⟩
        have k12 : Kp [] W1 W2 := by rw [hW2]; exact (Kp.refl _ _).alloc _
        rw [← hW2]
        clear hW2
        have k2 : Kp [] w W2 := (kr.trans k1 (fun z hz => Or.inl hz)).trans k12 (fun z hz => Or.inl hz)
        clear c0
        rcases (show i = -1 ∨ i = (A.n : Int) by omega) with rfl | rfl
        · go_upto_region 7 with (go_at_call 38; refine (HO.out _ _ k2).mono ?_; rintro e W3 ⟨rfl, k23⟩; have c0 := HC.out _ (k2.trans k23 (fun z hz => Or.inl hz)))
          have k3 : Kp [] w W3 := k2.trans k23 (fun z hz => Or.inl hz)
          clear c0
          refine wp_region_g (S := fun V => True) (T := []) (by kernel_rfl) trivial (fun hHeld => ?_)
          refine g_pure 0 (oi := ⟨some 52, .move (.tmp 7), 33, "law.go:91", #[], none⟩) (v := ?_) (Or.inl ⟨by rfl, ?_⟩) ?_
          rotate_left
          · (intro w; go_simp; try with_reducible rfl)
          simp only [Act.put, pu1, pu2, pu3]
          refine g_pure 1 (oi := ⟨some 53, .binOp .eql 33 (.tmp 52) (.const (.int .i64 0)) 33, 4, "law.go:91", #[⟨0, .data⟩], none⟩) (v := ?_) (Or.inl ⟨by rfl, ?_⟩) ?_
          rotate_left
          · (intro w; go_simp; try with_reducible rfl)
          simp only [Act.put, pu1, pu2, pu3]
          refine g_pure 2 (oi := ⟨some 54, .move (.tmp 53), 4, "law.go:91", #[⟨1, .data⟩], none⟩) (v := ?_) (Or.inl ⟨by rfl, ?_⟩) ?_
          rotate_left
          · (intro w; go_simp; try with_reducible rfl)
          simp only [Act.put, pu1, pu2, pu3]
          refine g_take 3 (oi := ⟨some 55, .load 38 (.tmp 6), 38, "law.go:91", #[⟨2, .guard⟩], some (2, true)⟩) (v := undef) (Or.inr ⟨by rfl, rfl⟩) ?_
          simp only [Act.put, pu1, pu2, pu3]
          refine g_pure 4 (oi := ⟨some 56, .move (.tmp 1), 24, "law.go:91", #[⟨2, .guard⟩], some (2, true)⟩) (v := undef) (Or.inr ⟨by rfl, rfl⟩) ?_
          simp only [Act.put, pu1, pu2, pu3]
          refine g_pure 5 (oi := ⟨some 57, .move (.tmp 5), 3, "law.go:91", #[⟨2, .guard⟩], some (2, true)⟩) (v := undef) (Or.inr ⟨by rfl, rfl⟩) ?_
          simp only [Act.put, pu1, pu2, pu3]
          refine g_pure 6 (oi := ⟨some 58, .call { callee := .value (.func 44), args := #[.tmp 56, .tmp 57], argTypes := #[24, 3] }, 38, "law.go:91", #[⟨4, .data⟩, ⟨5, .data⟩, ⟨2, .chain⟩, ⟨2, .guard⟩], some (2, true)⟩) (v := undef) (Or.inr ⟨by rfl, rfl⟩) ?_
          simp only [Act.put, pu1, pu2, pu3]
          refine g_pure 7 (oi := ⟨some 59, .call { callee := .value (.func 14), args := #[.tmp 55, .tmp 58], argTypes := #[38, 38] }, 4, "law.go:91", #[⟨3, .data⟩, ⟨6, .data⟩, ⟨6, .chain⟩, ⟨2, .guard⟩], some (2, true)⟩) (v := undef) (Or.inr ⟨by rfl, rfl⟩) ?_
          simp only [Act.put, pu1, pu2, pu3]
          refine g_pure 8 (oi := ⟨some 60, .unOp .not 4 (.tmp 59), 4, "law.go:91", #[⟨7, .data⟩, ⟨2, .guard⟩], some (2, true)⟩) (v := undef) (Or.inr ⟨by rfl, rfl⟩) ?_
          simp only [Act.put, pu1, pu2, pu3]
          refine g_pure 9 (oi := ⟨some 61, .pick (.tmp 54) (.tmp 60) (.const (.bool false)), 4, "law.go:91", #[⟨2, .data⟩, ⟨8, .data⟩], none⟩) (v := ?_) (Or.inl ⟨by rfl, ?_⟩) ?_
          rotate_left
          · (intro w; go_simp; try with_reducible rfl)
          simp only [Act.put, pu1, pu2, pu3]
          refine wpAnyG_free (by kernel_rfl) ?_
          refine wpAny_done (by kernel_rfl) ?_ _
          have k9 : Hid (Kp [] w W3.drew) := k3.drew
          clear HR HT HO HP0 HC HP HP1 k3 k2 k12 k1 k23 kr
          go_wp2
          go_roundw
          case rel => exact ⟨0, by go_num, by omega, by omega, k9.out⟩
          case measure => simp [intOf]; omega
        · have j0 : (0 : Int) ≤ (A.n : Int) := by omega
          go_upto_region 7 with (go_at_call 38; refine (HO.out _ _ k2).mono ?_; rintro e W3 ⟨rfl, k23⟩; have c0 := HC.out _ (k2.trans k23 (fun z hz => Or.inl hz)))
          have k3 : Kp [] w W3 := k2.trans k23 (fun z hz => Or.inl hz)
          clear c0
          refine wp_region_g (S := fun V => True) (T := []) (by kernel_rfl) trivial (fun hHeld => ?_)
          refine g_pure 0 (oi := ⟨some 52, .move (.tmp 7), 33, "law.go:91", #[], none⟩) (v := ?_) (Or.inl ⟨by rfl, ?_⟩) ?_
          rotate_left
          · (intro w; go_simp; try with_reducible rfl)
          simp only [Act.put, pu1, pu2, pu3]
          refine g_pure 1 (oi := ⟨some 53, .binOp .eql 33 (.tmp 52) (.const (.int .i64 0)) 33, 4, "law.go:91", #[⟨0, .data⟩], none⟩) (v := ?_) (Or.inl ⟨by rfl, ?_⟩) ?_
          rotate_left
          · (intro w; go_simp; try with_reducible rfl)
          simp only [Act.put, pu1, pu2, pu3]
          refine g_pure 2 (oi := ⟨some 54, .move (.tmp 53), 4, "law.go:91", #[⟨1, .data⟩], none⟩) (v := ?_) (Or.inl ⟨by rfl, ?_⟩) ?_
          rotate_left
          · (intro w; go_simp; try with_reducible rfl)
          simp only [Act.put, pu1, pu2, pu3]
          refine g_take 3 (oi := ⟨some 55, .load 38 (.tmp 6), 38, "law.go:91", #[⟨2, .guard⟩], some (2, true)⟩) (v := undef) (Or.inr ⟨by rfl, rfl⟩) ?_
          simp only [Act.put, pu1, pu2, pu3]
          refine g_pure 4 (oi := ⟨some 56, .move (.tmp 1), 24, "law.go:91", #[⟨2, .guard⟩], some (2, true)⟩) (v := undef) (Or.inr ⟨by rfl, rfl⟩) ?_
          simp only [Act.put, pu1, pu2, pu3]
          refine g_pure 5 (oi := ⟨some 57, .move (.tmp 5), 3, "law.go:91", #[⟨2, .guard⟩], some (2, true)⟩) (v := undef) (Or.inr ⟨by rfl, rfl⟩) ?_
          simp only [Act.put, pu1, pu2, pu3]
          refine g_pure 6 (oi := ⟨some 58, .call { callee := .value (.func 44), args := #[.tmp 56, .tmp 57], argTypes := #[24, 3] }, 38, "law.go:91", #[⟨4, .data⟩, ⟨5, .data⟩, ⟨2, .chain⟩, ⟨2, .guard⟩], some (2, true)⟩) (v := undef) (Or.inr ⟨by rfl, rfl⟩) ?_
          simp only [Act.put, pu1, pu2, pu3]
          refine g_pure 7 (oi := ⟨some 59, .call { callee := .value (.func 14), args := #[.tmp 55, .tmp 58], argTypes := #[38, 38] }, 4, "law.go:91", #[⟨3, .data⟩, ⟨6, .data⟩, ⟨6, .chain⟩, ⟨2, .guard⟩], some (2, true)⟩) (v := undef) (Or.inr ⟨by rfl, rfl⟩) ?_
          simp only [Act.put, pu1, pu2, pu3]
          refine g_pure 8 (oi := ⟨some 60, .unOp .not 4 (.tmp 59), 4, "law.go:91", #[⟨7, .data⟩, ⟨2, .guard⟩], some (2, true)⟩) (v := undef) (Or.inr ⟨by rfl, rfl⟩) ?_
          simp only [Act.put, pu1, pu2, pu3]
          refine g_pure 9 (oi := ⟨some 61, .pick (.tmp 54) (.tmp 60) (.const (.bool false)), 4, "law.go:91", #[⟨2, .data⟩, ⟨8, .data⟩], none⟩) (v := ?_) (Or.inl ⟨by rfl, ?_⟩) ?_
          rotate_left
          · (intro w; go_simp; try with_reducible rfl)
          simp only [Act.put, pu1, pu2, pu3]
          refine wpAnyG_free (by kernel_rfl) ?_
          refine wpAny_done (by kernel_rfl) ?_ _
          have k9 : Hid (Kp [] w W3.drew) := k3.drew
          clear HR HT HO HP0 HC HP HP1 k3 k2 k12 k1 k23 kr
          go_wp2
          go_roundw
          case rel => exact ⟨(A.n : Int) + 1, by go_num, by omega, by omega, k9.out⟩
          case measure => simp [intOf]; omega
    · have hi2 : ¬ i ≤ (A.n : Int) := hi
      clear HR HT HO HP0 HC HP
      go_wp2
      go_ret
      exact ⟨rfl, kr⟩

end

end Go.Proofs.YtgjkfpmhgidpaaaGreat
