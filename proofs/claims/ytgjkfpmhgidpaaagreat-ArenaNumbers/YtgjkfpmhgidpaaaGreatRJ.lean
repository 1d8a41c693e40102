/-
  Joined: RdJ RdK RdL.
-/
import Derived.Test.YtgjkfpmhgidpaaaGreatRD
import Derived.Test.YtgjkfpmhgidpaaaGreatGP
import Derived.Test.YtgjkfpmhgidpaaaGreatGC

/-
  The document's arena: Move.
-/
namespace Go.Proofs.YtgjkfpmhgidpaaaGreat
open Go.RowKit Go.Maps Utf
set_option linter.unusedVariables false
set_option linter.unusedSimpArgs false

section
variable {tag : Nat → Nat} {w : World} {d : Nat} {q : Bool} {A : Ar}

theorem Dv.of_kp0 {w w' : World} {tag : Nat → Nat} (k : Kp [] w w') : Dv tag w tag w' := Dv.of_kp k (fun x hx => by simp at hx) (fun _ _ => rfl)

theorem Dn.kept {w' : World} (h : Dn tag w d q A) (k : Kp [] w w') : Dn tag w' d q A := by
  obtain ⟨g, o, c, pl, h⟩ := h
  exact ⟨g, o, c, pl, h.kept k⟩

theorem Ar.there_of {x : Nat} (hx : x < A.n) : A.there (x : Int) = true := by unfold Ar.there; exact decide_eq_true (by omega)

/-- A list that is never written again is read as before. -/
theorem Rk.dv {tag' : Nat → Nat} {w' : World} {K : Nat} {ao : Option Addr} {n c : Nat} {xs : List Value} (r : Rk (Q5 tag) K w ao n c xs) (v : Dv tag w tag' w') : Rk (Q5 tag') K w' ao n c xs := by
  refine ⟨r.len, r.cap, fun hn => ?_⟩
  obtain ⟨b, off, cur, t, hq, e1, e2, e3⟩ := r.at' hn
  have hl := lt_of e2
  have h5 : tag b = 5 := hq
  exact ⟨b, off, cur, t, (v.tg b hl).trans h5, e1, by rw [v.block b hl (by omega) (by omega)]; exact e2, e3⟩

set_option maxRecDepth 100000 in
set_option maxHeartbeats 1000000 in
theorem rmov_all (hD : Dn tag w d q A) (ful : A.Ful) (hn : A.n < 50000) (f t : Nat) (hf : f < A.n) (ht : t < A.n) (h1 : Ar.hld (A.lb f) = true) (h2 : Ar.hld (A.lb t) = true) (hw : A.wn t f = false) :
    Calls Tryz.prog 29 #[.pointer (some ⟨d, 0, none⟩), .int .i64 (f : Int), .int .i64 (t : Int)] w fun e w' => e = .returned (.int .i64 0) ∧ ∃ tag', Dn tag' w' d q (A.movs t (A.kids f)) ∧ Dv tag w tag' w' := by
  have ok := ful.toOk
  have hD0 := hD
  obtain ⟨g, o, c, pl, h⟩ := hD
  have HT : Hid (∀ z, A.there z = true → Calls Tryz.prog 61 #[.pointer (some ⟨d, 0, none⟩), .int .i64 z] w fun e w' => e = .returned (.bool true) ∧ w' = w) := fun z hz => by rw [← hz]; exact rthere_any h z
  have tf := Ar.there_of hf
  have tt := Ar.there_of ht
  have HH : Hid (∀ z : Nat, z < A.n → Ar.hld (A.lb z) = true → Calls Tryz.prog 62 #[.pointer (some ⟨d, 0, none⟩), .int .i64 (z : Int)] w fun e w' => e = .returned (.bool true) ∧ w' = w) := fun z hz hh => by rw [← hh]; exact rholds_any h z hz
  have HW := rwithin_any h ok t f ht
  rw [hw] at HW
  have c0 := h.head.1
  have c5 := (h.seven hf).2.2.2.2.2.1
  rw [h.klen hf] at c5
  have j1 : (0 : Int) ≤ (f : Int) := by omega
  have j2 : (f : Int) < (A.n : Int) := by omega
  have j3 : (0 : Int) ≤ (t : Int) := by omega
  have j4 : (t : Int) < (A.n : Int) := by omega
  have HK : Hid (∀ tag' V, Dv tag w tag' V → ∀ i (hi : i < (A.kids f).length), ∃ b7 o7, (pl f).2.1 = some ⟨b7, o7, none⟩ ∧ V.cell? ⟨b7, o7 + i, none⟩ = some (.int .i64 ((A.kids f)[i] : Int))) := fun tag' V v i hi => ((h.kid f hf).dv v).iv_at i hi
  have MV0 : Hid (Mvd A A f t (A.kids f) 0) := ⟨ful, rfl, rfl, by rw [List.drop_zero], fun y hy => by rw [List.drop_zero] at hy; exact (ok.link f y).1 hy, Ar.wn_false ok ht hw⟩
  have hnd := ok.one f
  have hlen : (A.kids f).length ≤ A.n := Ar.pig _ _ hnd (fun y hy => (ok.kid_lt hy).1)
  have hkl : ∀ y, y ∈ A.kids f → y < A.n ∧ y ≠ 0 := fun y hy => ⟨(ok.kid_lt hy).1, fun e => by
    have := (ok.link f y).1 hy
    rw [e, ok.top] at this; cases this⟩
  have hdoc : ∀ y, y < A.n → y ≠ 0 → (A.lb y).kind ≠ 1 := fun y h3 h4 e => h4 ((ful.doc y h3).1 e)
  obtain ⟨T9, hT9⟩ : ∃ T, A.movs t (A.kids f) = T := ⟨_, rfl⟩
  rw [hT9]
  have hT : Hid (A.movs t (A.kids f) = T9) := hT9
  have hDv : Hid (Dn tag w d q A ∧ Dv tag w tag w) := ⟨hD0, Dv.refl _ _⟩
  clear hT9 h hD0 ok
  generalize (pl f).2.1 = ko at *
  generalize (pl f).2.2.2 = kc at *
  generalize A.kids f = ks at *
  go_enter Tryz.func29, Tryz.ntmps29
  go_wp2_with (first | (go_at_call 61; refine (HT.out _ (by assumption)).mono ?_; rintro e w9 ⟨rfl, hw⟩; have hw2 := hw.symm; clear hw; subst hw2) | (go_at_call 62; refine (HH.out _ (by assumption) (by assumption)).mono ?_; rintro e w9 ⟨rfl, hw⟩; have hw2 := hw.symm; clear hw; subst hw2) | (go_at_call 64; refine (HW).mono ?_; rintro e w9 ⟨rfl, hw⟩; have hw2 := hw.symm; clear hw; subst hw2))
  clear HT HH HW c0 c5 tf tt
  go_loopw [8] (fun i wr => ∃ (k : Nat) (B : Ar) (tag' : Nat → Nat), k ≤ ks.length ∧ i = .int .i64 (k : Int) ∧ Mvd A B f t ks k ∧ Dn tag' wr d q B ∧ Dv tag w tag' wr) (fun i _ => ks.length - (intOf i).toNat)
  case atStart => exact ⟨0, A, tag, Nat.zero_le _, rfl, MV0.out, hDv.out.1, hDv.out.2⟩
  case round =>
    obtain ⟨k, B, tag', hk, rfl, mv, dn, dv⟩ := hrel
    clear MV0 hDv
    by_cases hlt : k < ks.length
    · obtain ⟨b7, o7, rfl, h3⟩ := HK.out _ _ dv k hlt
      have hk1 : (k : Int) < (ks.length : Int) := by omega
      have hk0 : (0 : Int) ≤ (k : Int) := by omega
      obtain ⟨hy1, hy2⟩ := hkl ks[k] (List.getElem_mem hlt)
      have hd1 := hdoc _ hy1 hy2
      have dn0 := dn
      obtain ⟨g, o, c, pl', h⟩ := dn
      have s0 := (h.seven (i := ks[k]) (by rw [mv.n]; exact hy1)).1
      rw [mv.lb] at s0
      have c0 := h.head.1
      rw [mv.n] at c0
      have y1 : (0 : Int) ≤ (ks[k] : Int) := by omega
      have y2 : (ks[k] : Int) < (A.n : Int) := by omega
      by_cases h6 : (A.lb ks[k]).kind = 6
      · have mv2 : Hid (Mvd A B f t ks (k + 1)) := mv.skip hlt h6
        have dn2 : Hid (Dn tag' wr.drew d q B ∧ Dv tag w tag' wr.drew) := ⟨dn0.kept (Kp.refl _ _).drew, dv.trans (Dv.of_kp0 (Kp.refl _ _).drew)⟩
        rw [h6] at s0
        clear mv dn0 dv h h6 hd1 HK hy1 hy2
        generalize ks[k] = y at *
        have hS1 : (World.drew wr).cell? ⟨d, 0, none⟩ = some (.slice (some ⟨g, o, none⟩) A.n c) ∧ (World.drew wr).cell? ⟨b7, o7 + k, none⟩ = some (.int .i64 (y : Int)) ∧ (World.drew wr).cell? ⟨g, o + y * 7, none⟩ = some (.int .i64 6) := ⟨c0, h3, s0⟩
        go_upto_region 11 with fail
        refine wp_region_g (S := fun V => V.cell? ⟨d, 0, none⟩ = some (.slice (some ⟨g, o, none⟩) A.n c) ∧ V.cell? ⟨b7, o7 + k, none⟩ = some (.int .i64 (y : Int)) ∧ V.cell? ⟨g, o + y * 7, none⟩ = some (.int .i64 6)) (T := []) (by kernel_rfl) hS1 (fun hHeld => ?_)
        refine g_pure 0 (oi := ⟨some 47, .move (.tmp 0), 24, "ref.go:159", #[], none⟩) (v := ?_) (Or.inl ⟨by rfl, ?_⟩) ?_
        rotate_left
        · (intro w; go_simp; try with_reducible rfl)
        simp only [Act.put, pu1, pu2, pu3]
        refine g_pure 1 (oi := ⟨some 48, .nilCheck (.tmp 47), 0, "ref.go:159", #[⟨0, .data⟩], none⟩) (v := ?_) (Or.inl ⟨by rfl, ?_⟩) ?_
        rotate_left
        · (intro w; go_simp; try with_reducible rfl)
        simp only [Act.put, pu1, pu2, pu3]
        refine g_pure 2 (oi := ⟨some 49, .fieldAddr 62 (.tmp 48) 0, 0, "ref.go:159", #[⟨1, .data⟩], none⟩) (v := ?_) (Or.inl ⟨by rfl, ?_⟩) ?_
        rotate_left
        · (intro w; go_simp; try with_reducible rfl)
        simp only [Act.put, pu1, pu2, pu3]
        refine g_take 3 (oi := ⟨some 50, .load 60 (.tmp 49), 60, "ref.go:159", #[⟨2, .data⟩], none⟩) (v := ?_) (Or.inl ⟨by rfl, ?_⟩) ?_
        rotate_left
        · (intro w hSw; (obtain ⟨q1, q2, q3⟩ := hSw); go_simp; try with_reducible rfl)
        simp only [Act.put, pu1, pu2, pu3]
        refine g_pure 4 (oi := ⟨some 51, .move (.tmp 7), 57, "ref.go:159", #[], none⟩) (v := ?_) (Or.inl ⟨by rfl, ?_⟩) ?_
        rotate_left
        · (intro w; go_simp; try with_reducible rfl)
        simp only [Act.put, pu1, pu2, pu3]
        refine g_pure 5 (oi := ⟨some 52, .move (.tmp 8), 3, "ref.go:159", #[], none⟩) (v := ?_) (Or.inl ⟨by rfl, ?_⟩) ?_
        rotate_left
        · (intro w; go_simp; try with_reducible rfl)
        simp only [Act.put, pu1, pu2, pu3]
        refine g_pure 6 (oi := ⟨some 53, .indexAddr 57 (.tmp 51) (.tmp 52), 0, "ref.go:159", #[⟨4, .data⟩, ⟨5, .data⟩], none⟩) (v := ?_) (Or.inl ⟨by rfl, ?_⟩) ?_
        rotate_left
        · (intro w; go_simp; try with_reducible rfl)
        simp only [Act.put, pu1, pu2, pu3]
        refine g_take 7 (oi := ⟨some 54, .load 3 (.tmp 53), 3, "ref.go:159", #[⟨6, .data⟩], none⟩) (v := ?_) (Or.inl ⟨by rfl, ?_⟩) ?_
        rotate_left
        · (intro w hSw; (obtain ⟨q1, q2, q3⟩ := hSw); go_simp; try with_reducible rfl)
        simp only [Act.put, pu1, pu2, pu3]
        refine g_pure 8 (oi := ⟨some 55, .indexAddr 60 (.tmp 50) (.tmp 54), 0, "ref.go:159", #[⟨3, .data⟩, ⟨7, .data⟩], none⟩) (v := ?_) (Or.inl ⟨by rfl, ?_⟩) ?_
        rotate_left
        · (intro w; go_simp; try with_reducible rfl)
        simp only [Act.put, pu1, pu2, pu3]
        refine g_pure 9 (oi := ⟨some 56, .fieldAddr 59 (.tmp 55) 0, 0, "ref.go:159", #[⟨8, .data⟩], none⟩) (v := ?_) (Or.inl ⟨by rfl, ?_⟩) ?_
        rotate_left
        · (intro w; go_simp; try with_reducible rfl)
        simp only [Act.put, pu1, pu2, pu3]
        refine g_take 10 (oi := ⟨some 57, .load 3 (.tmp 56), 3, "ref.go:159", #[⟨9, .data⟩], none⟩) (v := ?_) (Or.inl ⟨by rfl, ?_⟩) ?_
        rotate_left
        · (intro w hSw; (obtain ⟨q1, q2, q3⟩ := hSw); go_simp; try with_reducible rfl)
        simp only [Act.put, pu1, pu2, pu3]
        refine g_pure 11 (oi := ⟨some 58, .binOp .neq 3 (.tmp 57) (.const (.int .i64 6)) 3, 4, "ref.go:159", #[⟨10, .data⟩], none⟩) (v := ?_) (Or.inl ⟨by rfl, ?_⟩) ?_
        rotate_left
        · (intro w; go_simp; try with_reducible rfl)
        simp only [Act.put, pu1, pu2, pu3]
        refine wpAnyG_free (by kernel_rfl) ?_
        refine wpAny_done (by kernel_rfl) ?_ _
        clear hS1
        go_wp2
        go_roundw
        case rel => exact ⟨k + 1, B, tag', by omega, by go_num, mv2.out, dn2.out.1, dn2.out.2⟩
        case measure => simp [intOf]; omega
      · have hfx : Ar.fix (A.lb ks[k]) = false := by simp [Ar.fix, hd1, h6]
        have mv2 : Hid (Mvd A (B.shift t ks[k]) f t ks (k + 1)) := mv.step hnd hlt hfx ht h2
        have hub : B.up ks[k] = some f := mv.ups _ (by rw [List.drop_eq_getElem_cons hlt]; exact List.mem_cons_self ..)
        have eD : B.detF (ks[k] : Int) = (B.cut ks[k], 0) := by
          unfold Ar.detF
          rw [if_neg (by rw [Ar.there_of (by rw [mv.n]; exact hy1)]; simp), Int.toNat_natCast, if_neg (by rw [mv.lb, hfx]; simp)]
        have HDt : Hid (∀ V, Kp [] wr V → Calls Tryz.prog 27 #[.pointer (some ⟨d, 0, none⟩), .int .i64 (ks[k] : Int)] V fun e w' => e = .returned (.int .i64 0) ∧ ∃ tag5, Dn tag5 w' d q (B.cut ks[k]) ∧ Dv tag w tag5 w') := fun V kV => by
          have := rdet_any (dn0.kept kV) mv.ful (by rw [mv.n]; exact hn) (ks[k] : Int)
          rw [eD] at this
          refine this.mono ?_
          rintro e w5 ⟨rfl, tag5, a5, v5⟩
          exact ⟨rfl, tag5, a5, (dv.trans (Dv.of_kp0 kV)).trans v5⟩
        have HPu : Hid (∀ tag5 V g5 o5 c5 pl5, Dd tag5 V d g5 o5 c5 q (B.cut ks[k]) pl5 → Dv tag w tag5 V → Calls Tryz.prog 65 #[.pointer (some ⟨d, 0, none⟩), .int .i64 (t : Int), .int .i64 (((B.cut ks[k]).kids t).length : Int), .int .i64 (ks[k] : Int)] V fun e w' => e = .returned (.tuple #[]) ∧ ∃ tag6, Dn tag6 w' d q (B.shift t ks[k]) ∧ Dv tag w tag6 w') := fun tag5 V g5 o5 c5 pl5 h5 v5 => by
          refine (rput_any h5 (mv.ful.toOk.cut _) (by show B.n < _; rw [mv.n]; exact hn) t ks[k] _ (by show t < B.n; rw [mv.n]; exact ht) (by show ks[k] < B.n; rw [mv.n]; exact hy1) (Nat.le_refl _)).mono ?_
          rintro e w6 ⟨rfl, k6, h6⟩
          obtain ⟨tag6, a6, v6⟩ := dn_turn h5 k6 h6
          exact ⟨rfl, tag6, a6, v5.trans v6⟩
        have HQ : Hid (∀ tag5 V, Dn tag5 V d q (B.cut ks[k]) → ∃ g5 o5 c5 pl5, Dd tag5 V d g5 o5 c5 q (B.cut ks[k]) pl5 ∧ V.cell? ⟨d, 0, none⟩ = some (.slice (some ⟨g5, o5, none⟩) A.n c5) ∧ V.cell? ⟨g5, o5 + t * 7 + 5, none⟩ = some (.slice (pl5 t).2.1 ((B.cut ks[k]).kids t).length (pl5 t).2.2.2)) := fun tag5 V dn5 => by
          obtain ⟨g5, o5, c5, pl5, h5⟩ := dn5
          have ht5 : t < (B.cut ks[k]).n := by show t < B.n; rw [mv.n]; exact ht
          have e5 := (h5.seven ht5).2.2.2.2.2.1
          rw [h5.klen ht5] at e5
          have e0 := h5.head.1
          rw [show (B.cut ks[k]).n = A.n from mv.n] at e0
          exact ⟨g5, o5, c5, pl5, h5, e0, e5⟩
        have HK2 : Hid (∀ tag' V, Dv tag w tag' V → V.cell? ⟨b7, o7 + k, none⟩ = some (.int .i64 (ks[k] : Int))) := fun tag5 V v5 => by
          obtain ⟨b8, o8, e8, e9⟩ := HK.out _ _ v5 k hlt
          simp only [Option.some.injEq, Addr.mk.injEq] at e8
          obtain ⟨rfl, rfl, _⟩ := e8
          exact e9
        have b6 : ((A.lb ks[k]).kind != 6) = true := by simpa using h6
        have dvz : Hid (Dv tag w tag' wr.drew) := dv.trans (Dv.of_kp0 (Kp.refl _ _).drew)
        clear mv dn0 dv h h6 hd1 hub eD hfx
        generalize ks[k] = y at *
        generalize (A.lb y).kind = kd at *
        have hS1 : (World.drew wr).cell? ⟨d, 0, none⟩ = some (.slice (some ⟨g, o, none⟩) A.n c) ∧ (World.drew wr).cell? ⟨b7, o7 + k, none⟩ = some (.int .i64 (y : Int)) ∧ (World.drew wr).cell? ⟨g, o + y * 7, none⟩ = some (.int .i64 kd) := ⟨c0, h3, s0⟩
        go_upto_region 11 with fail
        refine wp_region_g (S := fun V => V.cell? ⟨d, 0, none⟩ = some (.slice (some ⟨g, o, none⟩) A.n c) ∧ V.cell? ⟨b7, o7 + k, none⟩ = some (.int .i64 (y : Int)) ∧ V.cell? ⟨g, o + y * 7, none⟩ = some (.int .i64 kd)) (T := []) (by kernel_rfl) hS1 (fun hHeld => ?_)
        refine g_pure 0 (oi := ⟨some 47, .move (.tmp 0), 24, "ref.go:159", #[], none⟩) (v := ?_) (Or.inl ⟨by rfl, ?_⟩) ?_
        rotate_left
        · (intro w; go_simp; try with_reducible rfl)
        simp only [Act.put, pu1, pu2, pu3]
        refine g_pure 1 (oi := ⟨some 48, .nilCheck (.tmp 47), 0, "ref.go:159", #[⟨0, .data⟩], none⟩) (v := ?_) (Or.inl ⟨by rfl, ?_⟩) ?_
        rotate_left
        · (intro w; go_simp; try with_reducible rfl)
        simp only [Act.put, pu1, pu2, pu3]
        refine g_pure 2 (oi := ⟨some 49, .fieldAddr 62 (.tmp 48) 0, 0, "ref.go:159", #[⟨1, .data⟩], none⟩) (v := ?_) (Or.inl ⟨by rfl, ?_⟩) ?_
        rotate_left
        · (intro w; go_simp; try with_reducible rfl)
        simp only [Act.put, pu1, pu2, pu3]
        refine g_take 3 (oi := ⟨some 50, .load 60 (.tmp 49), 60, "ref.go:159", #[⟨2, .data⟩], none⟩) (v := ?_) (Or.inl ⟨by rfl, ?_⟩) ?_
        rotate_left
        · (intro w hSw; (obtain ⟨q1, q2, q3⟩ := hSw); go_simp; try with_reducible rfl)
        simp only [Act.put, pu1, pu2, pu3]
        refine g_pure 4 (oi := ⟨some 51, .move (.tmp 7), 57, "ref.go:159", #[], none⟩) (v := ?_) (Or.inl ⟨by rfl, ?_⟩) ?_
        rotate_left
        · (intro w; go_simp; try with_reducible rfl)
        simp only [Act.put, pu1, pu2, pu3]
        refine g_pure 5 (oi := ⟨some 52, .move (.tmp 8), 3, "ref.go:159", #[], none⟩) (v := ?_) (Or.inl ⟨by rfl, ?_⟩) ?_
        rotate_left
        · (intro w; go_simp; try with_reducible rfl)
        simp only [Act.put, pu1, pu2, pu3]
        refine g_pure 6 (oi := ⟨some 53, .indexAddr 57 (.tmp 51) (.tmp 52), 0, "ref.go:159", #[⟨4, .data⟩, ⟨5, .data⟩], none⟩) (v := ?_) (Or.inl ⟨by rfl, ?_⟩) ?_
        rotate_left
        · (intro w; go_simp; try with_reducible rfl)
        simp only [Act.put, pu1, pu2, pu3]
        refine g_take 7 (oi := ⟨some 54, .load 3 (.tmp 53), 3, "ref.go:159", #[⟨6, .data⟩], none⟩) (v := ?_) (Or.inl ⟨by rfl, ?_⟩) ?_
        rotate_left
        · (intro w hSw; (obtain ⟨q1, q2, q3⟩ := hSw); go_simp; try with_reducible rfl)
        simp only [Act.put, pu1, pu2, pu3]
        refine g_pure 8 (oi := ⟨some 55, .indexAddr 60 (.tmp 50) (.tmp 54), 0, "ref.go:159", #[⟨3, .data⟩, ⟨7, .data⟩], none⟩) (v := ?_) (Or.inl ⟨by rfl, ?_⟩) ?_
        rotate_left
        · (intro w; go_simp; try with_reducible rfl)
        simp only [Act.put, pu1, pu2, pu3]
        refine g_pure 9 (oi := ⟨some 56, .fieldAddr 59 (.tmp 55) 0, 0, "ref.go:159", #[⟨8, .data⟩], none⟩) (v := ?_) (Or.inl ⟨by rfl, ?_⟩) ?_
        rotate_left
        · (intro w; go_simp; try with_reducible rfl)
        simp only [Act.put, pu1, pu2, pu3]
        refine g_take 10 (oi := ⟨some 57, .load 3 (.tmp 56), 3, "ref.go:159", #[⟨9, .data⟩], none⟩) (v := ?_) (Or.inl ⟨by rfl, ?_⟩) ?_
        rotate_left
        · (intro w hSw; (obtain ⟨q1, q2, q3⟩ := hSw); go_simp; try with_reducible rfl)
        simp only [Act.put, pu1, pu2, pu3]
        refine g_pure 11 (oi := ⟨some 58, .binOp .neq 3 (.tmp 57) (.const (.int .i64 6)) 3, 4, "ref.go:159", #[⟨10, .data⟩], none⟩) (v := ?_) (Or.inl ⟨by rfl, ?_⟩) ?_
        rotate_left
        · (intro w; go_simp; try with_reducible rfl)
        simp only [Act.put, pu1, pu2, pu3]
        refine wpAnyG_free (by kernel_rfl) ?_
        refine wpAny_done (by kernel_rfl) ?_ _
        clear hS1 c0 s0
        have kd0 : Kp [] wr wr.drew := (Kp.refl _ _).drew
        have h3 := HK2.out _ _ dvz.out
        go_upto_region 13 with (go_at_call 27; refine (HDt.out _ kd0).mono ?_; rintro e w5 ⟨rfl, tag5, a5, v5⟩)
        clear h3
        obtain ⟨g5, o5, c5, pl5, h5, e0, e5⟩ := HQ.out _ _ a5
        have h3 := HK2.out _ _ v5
        have HP5 : Hid (∀ V, Kp [] w5 V → Calls Tryz.prog 65 #[.pointer (some ⟨d, 0, none⟩), .int .i64 (t : Int), .int .i64 (((B.cut y).kids t).length : Int), .int .i64 (y : Int)] V fun e w' => e = .returned (.tuple #[]) ∧ ∃ tag6, Dn tag6 w' d q (B.shift t y) ∧ Dv tag w tag6 w') := fun V kV => HPu.out _ _ _ _ _ _ (h5.kept kV) (v5.trans (Dv.of_kp0 kV))
        clear HPu HQ HDt h5 a5 v5
        generalize (pl5 t).2.1 = ko5 at *
        generalize (pl5 t).2.2.2 = kc5 at *
        generalize ((B.cut y).kids t).length = m5 at *
        have hS1 : (World.drew w5).cell? ⟨d, 0, none⟩ = some (.slice (some ⟨g5, o5, none⟩) A.n c5) ∧ (World.drew w5).cell? ⟨b7, o7 + k, none⟩ = some (.int .i64 (y : Int)) ∧ (World.drew w5).cell? ⟨g5, o5 + t * 7 + 5, none⟩ = some (.slice ko5 m5 kc5) := ⟨e0, h3, e5⟩
        clear e0 h3 e5
        have k5 : Kp [] w5 w5.drew := (Kp.refl _ _).drew
        refine wp_region_g (S := fun V => V.cell? ⟨d, 0, none⟩ = some (.slice (some ⟨g5, o5, none⟩) A.n c5) ∧ V.cell? ⟨b7, o7 + k, none⟩ = some (.int .i64 (y : Int)) ∧ V.cell? ⟨g5, o5 + t * 7 + 5, none⟩ = some (.slice ko5 m5 kc5)) (T := [15]) (by kernel_rfl) hS1 (fun hHeld => ?_)
        refine g_pure 0 (oi := ⟨some 65, .move (.tmp 0), 24, "ref.go:161", #[], none⟩) (v := ?_) (Or.inl ⟨by rfl, ?_⟩) ?_
        rotate_left
        · (intro w; go_simp; try with_reducible rfl)
        simp only [Act.put, pu1, pu2, pu3]
        refine g_pure 1 (oi := ⟨some 66, .move (.tmp 2), 3, "ref.go:161", #[], none⟩) (v := ?_) (Or.inl ⟨by rfl, ?_⟩) ?_
        rotate_left
        · (intro w; go_simp; try with_reducible rfl)
        simp only [Act.put, pu1, pu2, pu3]
        refine g_pure 2 (oi := ⟨some 67, .move (.tmp 0), 24, "ref.go:161", #[], none⟩) (v := ?_) (Or.inl ⟨by rfl, ?_⟩) ?_
        rotate_left
        · (intro w; go_simp; try with_reducible rfl)
        simp only [Act.put, pu1, pu2, pu3]
        refine g_pure 3 (oi := ⟨some 68, .nilCheck (.tmp 67), 0, "ref.go:161", #[⟨2, .data⟩], none⟩) (v := ?_) (Or.inl ⟨by rfl, ?_⟩) ?_
        rotate_left
        · (intro w; go_simp; try with_reducible rfl)
        simp only [Act.put, pu1, pu2, pu3]
        refine g_pure 4 (oi := ⟨some 69, .fieldAddr 62 (.tmp 68) 0, 0, "ref.go:161", #[⟨3, .data⟩], none⟩) (v := ?_) (Or.inl ⟨by rfl, ?_⟩) ?_
        rotate_left
        · (intro w; go_simp; try with_reducible rfl)
        simp only [Act.put, pu1, pu2, pu3]
        refine g_takeC 5 (oi := ⟨some 70, .load 60 (.tmp 69), 60, "ref.go:161", #[⟨4, .data⟩], none⟩) (v := ?_) (Or.inl ⟨by rfl, ?_⟩) ?_
        rotate_left
        · (intro w hSw; (obtain ⟨q1, q2, q3⟩ := hSw); go_simp; try with_reducible rfl)
        simp only [Act.put, pu1, pu2, pu3]
        refine g_pure 6 (oi := ⟨some 71, .move (.tmp 2), 3, "ref.go:161", #[], none⟩) (v := ?_) (Or.inl ⟨by rfl, ?_⟩) ?_
        rotate_left
        · (intro w; go_simp; try with_reducible rfl)
        simp only [Act.put, pu1, pu2, pu3]
        refine g_pure 7 (oi := ⟨some 72, .indexAddr 60 (.tmp 70) (.tmp 71), 0, "ref.go:161", #[⟨5, .data⟩, ⟨6, .data⟩], none⟩) (v := ?_) (Or.inl ⟨by rfl, ?_⟩) ?_
        rotate_left
        · (intro w; go_simp; try with_reducible rfl)
        simp only [Act.put, pu1, pu2, pu3]
        refine g_pure 8 (oi := ⟨some 73, .fieldAddr 59 (.tmp 72) 5, 0, "ref.go:161", #[⟨7, .data⟩], none⟩) (v := ?_) (Or.inl ⟨by rfl, ?_⟩) ?_
        rotate_left
        · (intro w; go_simp; try with_reducible rfl)
        simp only [Act.put, pu1, pu2, pu3]
        refine g_takeC 9 (oi := ⟨some 74, .load 57 (.tmp 73), 57, "ref.go:161", #[⟨8, .data⟩], none⟩) (v := ?_) (Or.inl ⟨by rfl, ?_⟩) ?_
        rotate_left
        · (intro w hSw; (obtain ⟨q1, q2, q3⟩ := hSw); go_simp; try with_reducible rfl)
        simp only [Act.put, pu1, pu2, pu3]
        refine g_pure 10 (oi := ⟨some 75, .call { callee := .builtin .len, args := #[.tmp 74], argTypes := #[57] }, 3, "ref.go:161", #[⟨9, .data⟩], none⟩) (v := ?_) (Or.inl ⟨by rfl, ?_⟩) ?_
        rotate_left
        · (intro w; go_simp; try with_reducible rfl)
        simp only [Act.put, pu1, pu2, pu3]
        refine g_pure 11 (oi := ⟨some 76, .move (.tmp 7), 57, "ref.go:161", #[], none⟩) (v := ?_) (Or.inl ⟨by rfl, ?_⟩) ?_
        rotate_left
        · (intro w; go_simp; try with_reducible rfl)
        simp only [Act.put, pu1, pu2, pu3]
        refine g_pure 12 (oi := ⟨some 77, .move (.tmp 8), 3, "ref.go:161", #[], none⟩) (v := ?_) (Or.inl ⟨by rfl, ?_⟩) ?_
        rotate_left
        · (intro w; go_simp; try with_reducible rfl)
        simp only [Act.put, pu1, pu2, pu3]
        refine g_pure 13 (oi := ⟨some 78, .indexAddr 57 (.tmp 76) (.tmp 77), 0, "ref.go:161", #[⟨11, .data⟩, ⟨12, .data⟩], none⟩) (v := ?_) (Or.inl ⟨by rfl, ?_⟩) ?_
        rotate_left
        · (intro w; go_simp; try with_reducible rfl)
        simp only [Act.put, pu1, pu2, pu3]
        refine g_takeC 14 (oi := ⟨some 79, .load 3 (.tmp 78), 3, "ref.go:161", #[⟨13, .data⟩], none⟩) (v := ?_) (Or.inl ⟨by rfl, ?_⟩) ?_
        rotate_left
        · (intro w hSw; (obtain ⟨q1, q2, q3⟩ := hSw); go_simp; try with_reducible rfl)
        simp only [Act.put, pu1, pu2, pu3]
        refine wpAnyG_free (by kernel_rfl) ?_
        refine wpAny_ready (rs := [15]) (by kernel_rfl) (by simp) ?_
        refine AllReady.cons (o := ⟨some 80, .call { callee := .value (.func 65), args := #[.tmp 65, .tmp 66, .tmp 75, .tmp 79], argTypes := #[24, 3, 3, 3] }, 0, "ref.go:161", #[⟨0, .data⟩, ⟨1, .data⟩, ⟨10, .data⟩, ⟨14, .data⟩], none⟩) rfl (fun K hK => ?_) AllReady.nil
        go_simp
        go_at_call 65
        refine (HP5.out _ k5).mono ?_
        rintro e w6 ⟨rfl, tag6, a6, v6⟩
        go_simp
        refine hK _ _ ?_
        clear hK K
        try simp only [Act.put, pu1, pu2, pu3]
        refine wpAny_done (by kernel_rfl) ?_ _
        clear hS1
        go_wp2
        go_roundw
        case rel => exact ⟨k + 1, _, tag6, by omega, by go_num, mv2.out, a6, v6⟩
        case measure => simp [intOf]; omega
    · obtain rfl : k = ks.length := by omega
      have e9 : Hid (B = A.movs t ks) := by have := mv.rest; rw [List.drop_length] at this; exact this
      have r9 : Hid (∃ tag', Dn tag' wr d q B ∧ Dv tag w tag' wr) := ⟨_, dn, dv⟩
      clear mv dn dv HK
      go_wp2
      go_ret
      exact ⟨rfl, by rw [← hT.out, ← e9.out]; exact r9.out⟩

set_option maxRecDepth 100000 in
set_option maxHeartbeats 1000000 in
theorem rmovF (hD : Dn tag w d q A) (ful : A.Ful) (hn : A.n < 50000) (f t : Int) :
    Calls Tryz.prog 29 #[.pointer (some ⟨d, 0, none⟩), .int .i64 f, .int .i64 t] w fun e w' => e = .returned (.int .i64 (A.movF f t).2) ∧ ∃ tag', Dn tag' w' d q (A.movF f t).1 ∧ Dv tag w tag' w' := by
  have hD0 : Hid (∃ tag', Dn tag' w d q A ∧ Dv tag w tag' w) := ⟨tag, hD, Dv.refl tag w⟩
  have hD1 := hD
  obtain ⟨g, o, c, pl, h⟩ := hD
  have HT : Hid (∀ z, Calls Tryz.prog 61 #[.pointer (some ⟨d, 0, none⟩), .int .i64 z] w fun e w' => e = .returned (.bool (A.there z)) ∧ w' = w) := fun z => rthere_any h z
  by_cases h1 : A.there f = false ∨ A.there t = false
  · have eF : A.movF f t = (A, 22) := by unfold Ar.movF; rw [if_pos h1]
    rw [eF]
    clear eF h ful hD1
    cases hp : A.there f with
    | false =>
      clear h1
      go_enter Tryz.func29, Tryz.ntmps29
      go_wp2_with (go_at_call 61; refine (HT.out _).mono ?_; rintro e w9 ⟨rfl, hw⟩; have hw2 := hw.symm; clear hw; subst hw2)
      go_ret
      exact ⟨rfl, hD0.out⟩
    | true =>
      have hx : A.there t = false := h1.resolve_left (by rw [hp]; simp)
      clear h1
      go_enter Tryz.func29, Tryz.ntmps29
      go_wp2_with (go_at_call 61; refine (HT.out _).mono ?_; rintro e w9 ⟨rfl, hw⟩; have hw2 := hw.symm; clear hw; subst hw2)
      go_ret
      exact ⟨rfl, hD0.out⟩
  · have hp : A.there f = true := by cases e : A.there f with | true => rfl | false => exact absurd (.inl e) h1
    have hx : A.there t = true := by cases e : A.there t with | true => rfl | false => exact absurd (.inr e) h1
    obtain ⟨f, rfl, hf'⟩ := there_nat hp
    obtain ⟨t, rfl, ht'⟩ := there_nat hx
    have HH : Hid (∀ z : Nat, z < A.n → Calls Tryz.prog 62 #[.pointer (some ⟨d, 0, none⟩), .int .i64 (z : Int)] w fun e w' => e = .returned (.bool (Ar.hld (A.lb z))) ∧ w' = w) := fun z hz => rholds_any h z hz
    have HW := rwithin_any h ful.toOk t f ht'
    by_cases h2 : Ar.hld (A.lb f) = false ∨ Ar.hld (A.lb t) = false
    · have eF : A.movF (f : Int) (t : Int) = (A, 23) := by unfold Ar.movF; rw [if_neg h1, Int.toNat_natCast, Int.toNat_natCast, if_pos h2]
      rw [eF]
      clear eF h ful HW h1 hD1
      cases e2 : Ar.hld (A.lb f) with
      | false =>
        clear h2
        go_enter Tryz.func29, Tryz.ntmps29
        go_wp2_with (first | (go_at_call 61; refine (HT.out _).mono ?_; rintro e w9 ⟨rfl, hw⟩; have hw2 := hw.symm; clear hw; subst hw2) | (go_at_call 62; refine (HH.out _ (by assumption)).mono ?_; rintro e w9 ⟨rfl, hw⟩; have hw2 := hw.symm; clear hw; subst hw2))
        go_ret
        exact ⟨rfl, hD0.out⟩
      | true =>
        have e3 : Ar.hld (A.lb t) = false := h2.resolve_left (by rw [e2]; simp)
        clear h2
        go_enter Tryz.func29, Tryz.ntmps29
        go_wp2_with (first | (go_at_call 61; refine (HT.out _).mono ?_; rintro e w9 ⟨rfl, hw⟩; have hw2 := hw.symm; clear hw; subst hw2) | (go_at_call 62; refine (HH.out _ (by assumption)).mono ?_; rintro e w9 ⟨rfl, hw⟩; have hw2 := hw.symm; clear hw; subst hw2))
        go_ret
        exact ⟨rfl, hD0.out⟩
    · have e2 : Ar.hld (A.lb f) = true := by cases e : Ar.hld (A.lb f) with | true => rfl | false => exact absurd (.inl e) h2
      have e3 : Ar.hld (A.lb t) = true := by cases e : Ar.hld (A.lb t) with | true => rfl | false => exact absurd (.inr e) h2
      cases hw : A.wn t f with
      | true =>
        have eF : A.movF (f : Int) (t : Int) = (A, 26) := by unfold Ar.movF; rw [if_neg h1, Int.toNat_natCast, Int.toNat_natCast, if_neg h2, if_pos hw]
        rw [eF]
        rw [hw] at HW
        clear eF h ful h1 h2 hD1
        go_enter Tryz.func29, Tryz.ntmps29
        go_wp2_with (first | (go_at_call 61; refine (HT.out _).mono ?_; rintro e w9 ⟨rfl, hw⟩; have hw2 := hw.symm; clear hw; subst hw2) | (go_at_call 62; refine (HH.out _ (by assumption)).mono ?_; rintro e w9 ⟨rfl, hw⟩; have hw2 := hw.symm; clear hw; subst hw2) | (go_at_call 64; refine (HW).mono ?_; rintro e w9 ⟨rfl, hw⟩; have hw2 := hw.symm; clear hw; subst hw2))
        go_ret
        exact ⟨rfl, hD0.out⟩
      | false =>
        have eF : A.movF (f : Int) (t : Int) = (A.movs t (A.kids f), 0) := by unfold Ar.movF; rw [if_neg h1, Int.toNat_natCast, Int.toNat_natCast, if_neg h2, if_neg (by rw [hw]; simp)]
        rw [eF]
        exact rmov_all hD1 ful hn f t hf' ht' e2 e3 hw

end

end Go.Proofs.YtgjkfpmhgidpaaaGreat

/-
  The document's arena: one node more; New.
-/
namespace Go.Proofs.YtgjkfpmhgidpaaaGreat
open Go.RowKit Go.Maps Utf
set_option linter.unusedVariables false
set_option linter.unusedSimpArgs false

def Z7 : Array Value := #[.int .i64 0, .int .i64 0, .string ⟨#[]⟩, .string ⟨#[]⟩, .slice none 0 0, .slice none 0 0, .int .i64 0]
theorem infoR : (Tryz.prog.info? 59).map (fun i => (i.zero, i.size, i.bytes)) = some (some (.agg Z7), 7, 104) := by kernel_rfl

theorem dl_one (l : Lb) (u : Int) (p : Dp) : ∀ v, v ∈ dl l u p → v.oneCell' = true := fun v hv => by
  simp [dl] at hv
  rcases hv with rfl | rfl | rfl | rfl | rfl | rfl | rfl <;> rfl

section
variable {tag : Nat → Nat} {w w0 : World} {d g o c : Nat} {q : Bool} {A : Ar} {pl : Nat → Dp}

/-- The nodes as one list of cells. -/
theorem Dd.own (h : Dd tag w d g o c q A pl) : ∃ xs, OwnK 7 w 59 (.slice (some ⟨g, o, none⟩) A.n c) A.n xs ∧ ∀ i, i < A.n → ∀ k, k < 7 → xs[i * 7 + k]? = (dl (A.lb i) (Ar.upI (A.up i)) (pl i))[k]? := by
  obtain ⟨cur, h1, h2, h3⟩ := h.body
  have hcap := h.cap
  refine ⟨(cur.toList.drop o).take (A.n * 7), ⟨by rw [List.length_take, List.length_drop]; simp; omega, Or.inr ⟨g, o, c, cur, rfl, h1, h.cap, h.max, h2, fun j hj => ?_⟩⟩, fun i hi k hk => ?_⟩
  · rw [List.getElem?_take_of_lt hj, List.getElem?_drop]; simp
  · rw [List.getElem?_take_of_lt (by omega), List.getElem?_drop, ← h3 i hi k hk]
    simp [Nat.add_assoc]

/-- A' is A with one node more, of no kids. -/
structure Oner (A A' : Ar) (l : Lb) (u : Int) : Prop where
  n : A'.n = A.n + 1
  lb : ∀ i, i < A.n → A'.lb i = A.lb i
  kids : ∀ i, i < A.n → A'.kids i = A.kids i
  up : ∀ i, i < A.n → A'.up i = A.up i
  lbn : A'.lb A.n = l
  kn : A'.kids A.n = []
  un : Ar.upI (A'.up A.n) = u

/-- One node more: the attributes lie in a block that has come since w0. -/
theorem Dd.grown {A' : Ar} {w2 : World} {xs : List Value} {l : Lb} {u : Int} {pa : Option Addr × Nat × Nat} {v' : Value} (h : Dd tag w0 d g o c q A pl) (k0 : Kp [] w0 w) (hx : xs.length = A.n * 7) (hxs : ∀ i, i < A.n → ∀ k, k < 7 → xs[i * 7 + k]? = (dl (A.lb i) (Ar.upI (A.up i)) (pl i))[k]?)
    (ra : Rk (fun x => w0.heap.size ≤ x) 2 w pa.1 pa.2.1 pa.2.2 (cs l.attrs)) (on : Oner A A' l u)
    (k : Kp [d, g] w0 w2) (kw : ∀ x, x < w.heap.size → x ≠ d → x ≠ g → w2.heap[x]? = w.heap[x]?) (hd : At w2 d #[v', .bool q] 62) (ho : OwnK 7 w2 59 v' (A.n + 1) (xs ++ dl l u (pa, (none, 0, 0)))) (hv : ∀ x, x ∈ blk v' → x = g ∨ w.heap.size ≤ x) :
    ∃ tag', Dn tag' w2 d q A' ∧ Dv tag w0 tag' w2 := by
  obtain ⟨hol, ho⟩ := ho
  rcases ho with ⟨_, h0⟩ | ⟨g2, o2, c2, cur2, hv2, hg2, hc1, hc2, hc3, hc4⟩
  · omega
  have hgm : g2 = g ∨ w.heap.size ≤ g2 := hv g2 (by rw [hv2]; simp [blk])
  have hlt := h.lt
  have hk0 := k0.size
  have hne := h.ne
  obtain ⟨T, hT⟩ : ∃ T : Nat → Nat, T = fun x => if x < w0.heap.size then tag x else if x = g2 then 4 else 5 := ⟨_, rfl⟩
  have T0 : ∀ x, x < w0.heap.size → T x = tag x := fun x hx => by rw [hT]; simp only [if_pos hx]
  obtain ⟨P, hP⟩ : ∃ P : Nat → Dp, P = fun i => if i = A.n then (pa, (none, 0, 0)) else pl i := ⟨_, rfl⟩
  have Pn : P A.n = (pa, (none, 0, 0)) := by rw [hP]; simp
  have Pi : ∀ i, i < A.n → P i = pl i := fun i hi => by rw [hP]; simp only [if_neg (show i ≠ A.n by omega)]
  have old : ∀ {K ao n c xs}, Rk (Q5 tag) K w0 ao n c xs → Rk (Q5 T) K w2 ao n c xs := fun {K ao n c xs} r => by
    refine ⟨r.len, r.cap, fun hn => ?_⟩
    obtain ⟨b, off, cur, t, hq, e1, e2, e3⟩ := r.at' hn
    have hl := lt_of e2
    have h5 : tag b = 5 := hq
    exact ⟨b, off, cur, t, (T0 b hl).trans hq, e1, by
      rw [k.block b hl (by
        simp only [List.mem_cons, List.not_mem_nil, or_false, not_or]
        refine ⟨fun e => ?_, fun e => ?_⟩
        · rw [e, h.td] at h5; cases h5
        · rw [e, h.tg] at h5; cases h5)]
      exact e2, e3⟩
  have new : Rk (Q5 T) 2 w2 pa.1 pa.2.1 pa.2.2 (cs l.attrs) := by
    refine ⟨ra.len, ra.cap, fun hn => ?_⟩
    obtain ⟨b, off, cur, t, hq, e1, e2, e3⟩ := ra.at' hn
    have hl := lt_of e2
    have hq' : w0.heap.size ≤ b := hq
    refine ⟨b, off, cur, t, ?_, e1, by rw [kw b hl (by omega) (by omega)]; exact e2, e3⟩
    show T b = 5
    rw [hT]
    simp only [if_neg (show ¬ b < w0.heap.size by omega)]
    exact if_neg (by omega)
  refine ⟨T, ⟨g2, o2, c2, P, ?_⟩, Dv.of_kp k (fun x hx _ => ?_) T0⟩
  · refine ⟨by rw [on.n, ← hv2]; exact hd, by rw [T0 d hlt.1]; exact h.td, by rw [on.n]; exact hc1, hc2, ⟨cur2, hg2, hc3, fun i hi k hk => ?_⟩, ?_, fun i hi => ?_, fun i hi => ?_, fun i hi => ?_⟩
    · rw [on.n] at hi
      rw [Nat.add_assoc, hc4 _ (by omega)]
      by_cases hin : i = A.n
      · subst hin
        rw [Pn, on.lbn, on.un, List.getElem?_append_right (by omega), hx, show A.n * 7 + k - A.n * 7 = k by omega]
      · rw [Pi i (by omega), on.lb i (by omega), on.up i (by omega), List.getElem?_append_left (by omega), hxs i (by omega) k hk]
    · rcases hgm with e | e
      · rw [e, T0 g hlt.2]; exact h.tg
      · rw [hT]
        simp only [if_neg (show ¬ g2 < w0.heap.size by omega), if_pos trivial]
    · rw [on.n] at hi
      by_cases hin : i = A.n
      · subst hin; rw [Pn, on.lbn]; exact new
      · rw [Pi i (by omega), on.lb i (by omega)]; exact old (h.att i (by omega))
    · rw [on.n] at hi
      by_cases hin : i = A.n
      · subst hin; rw [Pn, on.kn]; exact Rk.nil _ _ _ _ _
      · rw [Pi i (by omega), on.kids i (by omega)]; exact old (h.kid i (by omega))
    · rw [on.n] at hi
      by_cases hin : i = A.n
      · subst hin; rw [Pn]; exact .inl rfl
      · rw [Pi i (by omega)]; exact h.kf i (by omega)
  · rcases List.mem_cons.1 hx with rfl | hx
    · exact .inl h.td
    · rw [List.mem_singleton.1 hx]; exact .inr h.tg

theorem Ar.oner_new (ok : A.Ok) (l : Lb) : Oner A (A.new l) l (-1) := by
  have ho := ok.out A.n (Nat.le_refl _)
  refine ⟨rfl, fun i hi => ?_, fun _ _ => rfl, fun _ _ => rfl, ?_, ho.1, ?_⟩
  · show (if i = A.n then _ else _) = _; rw [if_neg (by omega)]
  · show (if A.n = A.n then _ else _) = _; rw [if_pos rfl]
  · show Ar.upI (A.up A.n) = _; rw [ho.2]; rfl

end

set_option maxRecDepth 100000 in
set_option maxHeartbeats 1000000 in
theorem rnew_any (w : World) (tag : Nat → Nat) :
    Calls Tryz.prog 6 #[] w fun e w' => ∃ d tag', e = .returned (.pointer (some ⟨d, 0, none⟩)) ∧ Dn tag' w' d false Ar.first ∧ Dv tag w tag' w' ∧ w.heap.size ≤ d := by
  obtain ⟨W1, hW1⟩ : ∃ W, W = w.alloc (.cells #[.int .i64 1, .int .i64 0, .string ⟨#[]⟩, .string ⟨#[]⟩, .slice none 0 0, .slice none 0 0, .int .i64 (-1)] 59) := ⟨_, rfl⟩
  obtain ⟨W2, hW2⟩ : ∃ W, W = W1.alloc (.cells #[.slice (some ⟨w.heap.size, 0, none⟩) 1 1, .bool false] 62) := ⟨_, rfl⟩
  have k1 : Kp [] w W1 := by rw [hW1]; exact (Kp.refl _ _).alloc _
  have k2 : Kp [] W1 W2 := by rw [hW2]; exact (Kp.refl _ _).alloc _
  have hs1 : W1.heap.size = w.heap.size + 1 := by rw [hW1]; simp
  have a1 : At W2 w.heap.size #[.int .i64 1, .int .i64 0, .string ⟨#[]⟩, .string ⟨#[]⟩, .slice none 0 0, .slice none 0 0, .int .i64 (-1)] 59 := (show At W1 _ _ _ by rw [hW1]; exact At.new _ _ _).kept k2 (by simp)
  have a2 : At W2 W1.heap.size #[.slice (some ⟨w.heap.size, 0, none⟩) 1 1, .bool false] 62 := by rw [hW2]; exact At.new _ _ _
  have HE : Hid (∃ d tag', (some ⟨w.heap.size + 1, 0, none⟩ : Option Addr) = some ⟨d, 0, none⟩ ∧ Dn tag' W2 d false Ar.first ∧ Dv tag w tag' W2 ∧ w.heap.size ≤ d) := by
    obtain ⟨T, hT⟩ : ∃ T : Nat → Nat, T = fun x => if x < w.heap.size then tag x else if x = w.heap.size then 4 else 3 := ⟨_, rfl⟩
    refine ⟨w.heap.size + 1, T, rfl, ⟨w.heap.size, 0, 1, fun _ => ((none, 0, 0), (none, 0, 0)), ?_⟩, Dv.of_kp (k1.trans k2 (fun x hx => Or.inl hx)) (fun x hx => by simp at hx) (fun x hx => by rw [hT]; simp only [if_pos hx]), by omega⟩
    rw [hs1] at a2
    refine ⟨a2, ?_, Nat.le_refl _, by decide, ⟨_, a1, by simp, fun i hi k hk => ?_⟩, ?_, fun i hi => Rk.nil _ _ _ _ _, fun i hi => Rk.nil _ _ _ _ _, fun i hi => .inl rfl⟩
    · rw [hT]; simp only [if_neg (show ¬ w.heap.size + 1 < w.heap.size by omega), if_neg (show w.heap.size + 1 ≠ w.heap.size by omega)]
    · have : i < 1 := hi
      obtain rfl : i = 0 := by omega
      show _ = (dl (1, 0, ⟨#[]⟩, [], ⟨#[]⟩) (-1) ((none, 0, 0), (none, 0, 0)))[k]?
      simp [dl, Lb.kind, Lb.ns, Lb.name, Lb.text]
    · rw [hT]; simp only [if_neg (show ¬ w.heap.size < w.heap.size by omega), if_pos trivial]
  have HW0 : (w.alloc (.cells #[.int .i64 1, .int .i64 0, .string ⟨#[]⟩, .string ⟨#[]⟩, .slice none 0 0, .slice none 0 0, .int .i64 (-1)] 59)).alloc (.cells #[.slice (some ⟨w.heap.size, 0, none⟩) 1 1, .bool false] 62) = W2 := by rw [hW2, hW1]
  have HW : Hid ((w.alloc (.cells #[.int .i64 1, .int .i64 0, .string ⟨#[]⟩, .string ⟨#[]⟩, .slice none 0 0, .slice none 0 0, .int .i64 (-1)] 59)).alloc (.cells #[.slice (some ⟨w.heap.size, 0, none⟩) 1 1, .bool false] 62) = W2) := HW0
  clear hW1 hW2 a1 a2 k1 k2 hs1 HW0
  go_enter Tryz.func6, Tryz.ntmps6
  go_wp2
  rw [HW.out]
  go_ret
  obtain ⟨d, tag', e1, e2⟩ := HE.out
  cases e1
  exact ⟨_, tag', rfl, e2⟩

end Go.Proofs.YtgjkfpmhgidpaaaGreat

/-
  The document's arena: Make.
-/
namespace Go.Proofs.YtgjkfpmhgidpaaaGreat
open Go.RowKit Go.Maps Utf
set_option linter.unusedVariables false
set_option linter.unusedSimpArgs false

section
variable {tag : Nat → Nat} {w w0 : World} {d g o c : Nat} {q : Bool} {A : Ar} {pl : Nat → Dp}

/-- append of a node that lies in a block of its own, and the store of what came of it. -/
theorem rapp_run {A' : Ar} {L : Lb} {u : Int} {pa : Option Addr × Nat × Nat} {gb : Nat} (h : Dd tag w0 d g o c q A pl) (k0 : Kp [] w0 w) (hn : A.n < 50000) (ha : At w gb (dl L u (pa, (none, 0, 0))).toArray 59)
    (ra : Rk (fun x => w0.heap.size ≤ x) 2 w pa.1 pa.2.1 pa.2.2 (cs L.attrs)) (on : Oner A A' L u) :
    ∃ v' w2, (∀ ty, (Builtin.append_ #[60, 60] ty #[.slice (some ⟨g, o, none⟩) A.n c, .slice (some ⟨gb, 0, none⟩) 1 1]).run Tryz.prog w = .ok v' w2) ∧ Kp [g] w w2 ∧ w2.cell? ⟨d, 0, none⟩ = some (.slice (some ⟨g, o, none⟩) A.n c) ∧ w2.frozen? ⟨d, 0, none⟩ = false ∧ (∃ a c', v' = .slice (some a) (A.n + 1) c') ∧ ∃ tag', Dn tag' (w2.setCell ⟨d, 0, none⟩ v') d q A' ∧ Dv tag w0 tag' (w2.setCell ⟨d, 0, none⟩ v') := by
  have hw := h.kept k0
  obtain ⟨xs, ox, hxs⟩ := hw.own
  have hlt := hw.lt
  have hlt0 := h.lt
  have hne := h.ne
  obtain ⟨v', w2, hrun, hown2, hk2, hb2, a2, c2, hv2⟩ := appK Tryz.underlying60 infoR rfl (by decide) w _ A.n xs ox _ 1 _ (src_new Tryz.underlying60 ha (dl L u (pa, (none, 0, 0))) rfl (dl_one _ _ _)) (fun _ => by omega) (by omega)
  have hk2' : Kp [g] w w2 := hk2
  have hp2 : At w2 d #[.slice (some ⟨g, o, none⟩) A.n c, .bool q] 62 := hw.hd.kept hk2' (by simpa using hne)
  have k3 : Kp [d] w2 (w2.setCell ⟨d, 0, none⟩ v') := (Kp.refl _ _).setCell (Or.inl (by simp)) _
  have hbl : ∀ x, x ∈ blk v' → x = g ∨ w.heap.size ≤ x := fun x hx => by
    rcases hb2 x hx with h1 | h1
    · exact .inl (by simpa [blk] using h1)
    · exact .inr (by omega)
  refine ⟨v', w2, hrun, hk2', hp2.cell 0, hp2.free 0, ⟨a2, c2, hv2⟩, h.grown k0 ox.1 hxs ra on ?_ (fun x hx h1 h2 => ?_) (hp2.set 0 v') ?_ hbl⟩
  · exact (k0.mono (T := [d, g]) (fun x hx => by simp at hx)).trans ((hk2'.mono (T := [d, g]) (fun x hx => Or.inl (by simp at hx; simp [hx]))).trans k3 (fun x hx => Or.inl (by simp at hx; simp [hx]))) (fun x hx => Or.inl hx)
  · rw [k3.block x (by have := hk2.size; omega) (by simpa using h1), hk2'.block x hx (by simpa using h2)]
  · exact hown2.keep k3 (fun x hx hs => by
      rw [List.mem_singleton.1 hs] at hx
      rcases hbl d hx with h1 | h1
      · exact hne h1
      · omega)

theorem Mp.rk0 {w1 w2 : World} {ao : Option Addr} {n c : Nat} {l : List Att} (h : Mp w1 w2 ao n c l) (k : Kp [] w w1) : Rk (fun x => w.heap.size ≤ x) 2 w2 ao n c (cs l) := by
  have hl := h.len
  obtain ⟨h1, h2, h3⟩ := h
  have hc : n ≤ c := (Rp.of_own h1).cap
  have ks := k.size
  refine ⟨by rw [cs_len]; omega, hc, fun hn => ?_⟩
  obtain ⟨_, h1⟩ := h1
  rcases h1 with ⟨e1, _⟩ | ⟨g', o', cap, cur, e1, e2, e3, e4, e5, e6⟩
  · cases e1; omega
  · cases e1
    exact ⟨g', o', cur, _, (by have := h3 g' (by simp [blk]); omega), rfl, e2, fun j hj => e6 j hj⟩

/-- A template's Content stands behind it, and is not among its kids yet. -/
def A2 (A : Ar) (L : Lb) : Ar := { (A.new L).new (6, 0, ⟨#[]⟩, [], ⟨#[]⟩) with up := fun y => if y = A.n + 1 then some A.n else A.up y }
theorem a2_oner (ok : A.Ok) (L : Lb) : Oner (A.new L) (A2 A L) (6, 0, ⟨#[]⟩, [], ⟨#[]⟩) (A.n : Int) := by
  refine ⟨rfl, fun i hi => ?_, fun _ _ => rfl, fun i hi => ?_, ?_, (ok.out (A.n + 1) (by omega)).1, ?_⟩
  · have : i < A.n + 1 := hi
    show (if i = A.n + 1 then _ else _) = _; rw [if_neg (by omega)]
  · have : i < A.n + 1 := hi
    show (if i = A.n + 1 then _ else _) = _; rw [if_neg (by omega)]; rfl
  · show (if A.n + 1 = A.n + 1 then _ else _) = _; rw [if_pos rfl]
  · show Ar.upI (if A.n + 1 = A.n + 1 then _ else _) = _; rw [if_pos rfl]; rfl
theorem a2_newT (ok : A.Ok) {L : Lb} : ({ A2 A L with kids := fun y => if y = A.n then [A.n + 1] else (A2 A L).kids y } : Ar) = A.newT L := by
  unfold Ar.newT Ar.put A2
  simp only [Ar.mk.injEq, true_and, and_true]
  refine ⟨funext fun y => ?_, rfl⟩
  show (if y = A.n then [A.n + 1] else A.kids y) = (if y = A.n then (A.kids A.n).take 0 ++ (A.n + 1) :: (A.kids A.n).drop 0 else A.kids y)
  rw [(ok.out A.n (Nat.le_refl _)).1]; rfl
theorem made_one {W6 W7 : World} {n : Nat} (h : W7 = W6.alloc (.cells #[.int .i64 ((n : Int) + 1)] 3)) : Made W6 W7 3 (some ⟨W6.heap.size, 0, none⟩) 1 1 (iv [n + 1]) := by
  refine ⟨Or.inr ⟨_, 0, 1, _, rfl, by rw [h]; exact heap_new _ _, Nat.le_refl _, by decide, by simp, fun j hj => ?_⟩, by rw [h]; exact (Kp.refl _ _).alloc _, fun z hz => by simp [blk] at hz; omega⟩
  have hj : j < 1 := hj
  obtain rfl : j = 0 := by omega
  simp [iv]

set_option maxRecDepth 100000 in
set_option maxHeartbeats 1000000 in
theorem rmk_two (h : Dd tag w d g o c q A pl) (ful : A.Ful) (hn : A.n < 40000) (ns : Int) (name text : ByteArray) (l : List Att) (ao : Option Addr) (n' c' : Nat) (hr : Rp w ao n' c' l) (ha : n' ≤ 10000) :
    Calls Tryz.prog 21 #[.pointer (some ⟨d, 0, none⟩), .int .i64 2, .int .i64 ns, .string name, .slice ao n' c', .string text] w fun e w' => e = .returned (.tuple #[.int .i64 (A.n : Int), .int .i64 0]) ∧ ∃ tag', Dn tag' w' d q (A.new (2, 0, name, [], ⟨#[]⟩)) ∧ Dv tag w tag' w' := by
  have ok := ful.toOk
  have hlt := h.lt
  have hdg := h.ne
  obtain ⟨W, hW⟩ : ∃ W, W = w.alloc (.cells #[.int .i64 2, .int .i64 0, .string name, .string ⟨#[]⟩, .slice none 0 0, .slice none 0 0, .int .i64 (-1)] 59) := ⟨_, rfl⟩
  have kW : Kp [] w W := by rw [hW]; exact (Kp.refl _ _).alloc _
  have aX : At W w.heap.size #[.int .i64 2, .int .i64 0, .string name, .string ⟨#[]⟩, .slice none 0 0, .slice none 0 0, .int .i64 (-1)] 59 := by rw [hW]; exact At.new _ _ _
  have HW : Hid (w.alloc (.cells #[.int .i64 2, .int .i64 0, .string name, .string ⟨#[]⟩, .slice none 0 0, .slice none 0 0, .int .i64 (-1)] 59) = W) := hW.symm
  clear hW
  have rA : Hid (Rk (fun x => w.heap.size ≤ x) 2 W none 0 0 (cs (Lb.attrs (2, 0, name, [], ⟨#[]⟩)))) := Rk.nil _ _ _ _ _
  clear hr
  have hgx : g ≠ w.heap.size := by omega
  have HS : Hid (∀ V, Kp [g] W V → V.cell? ⟨d, 0, none⟩ = some (.slice (some ⟨g, o, none⟩) A.n c) ∧ V.cell? ⟨w.heap.size, 0, none⟩ = some (.int .i64 2) ∧ V.cell? ⟨w.heap.size, 1, none⟩ = some (.int .i64 0) ∧ V.cell? ⟨w.heap.size, 2, none⟩ = some (.string name) ∧ V.cell? ⟨w.heap.size, 3, none⟩ = some (.string ⟨#[]⟩) ∧ V.cell? ⟨w.heap.size, 4, none⟩ = some (.slice none 0 0) ∧ V.cell? ⟨w.heap.size, 5, none⟩ = some (.slice none 0 0) ∧ V.cell? ⟨w.heap.size, 6, none⟩ = some (.int .i64 (-1))) := fun V kV => by
    have a7 := aX.kept kV (by simpa using Ne.symm hgx)
    exact ⟨((h.kept kW).hd.kept kV (by simpa using hdg)).cell 0, a7.cell 0, a7.cell 1, a7.cell 2, a7.cell 3, a7.cell 4, a7.cell 5, a7.cell 6⟩
  have HG : Hid (∀ V gb, Kp [] W V → At V gb #[.int .i64 2, .int .i64 0, .string name, .string ⟨#[]⟩, .slice none 0 0, .slice none 0 0, .int .i64 (-1)] 59 → ∃ v' w2, (∀ ty, (Builtin.append_ #[60, 60] ty #[.slice (some ⟨g, o, none⟩) A.n c, .slice (some ⟨gb, 0, none⟩) 1 1]).run Tryz.prog V = .ok v' w2) ∧ Kp [g] V w2 ∧ w2.cell? ⟨d, 0, none⟩ = some (.slice (some ⟨g, o, none⟩) A.n c) ∧ w2.frozen? ⟨d, 0, none⟩ = false ∧ (∃ a c', v' = .slice (some a) (A.n + 1) c') ∧ ∃ tag', Dn tag' (w2.setCell ⟨d, 0, none⟩ v') d q (A.new (2, 0, name, [], ⟨#[]⟩)) ∧ Dv tag w tag' (w2.setCell ⟨d, 0, none⟩ v')) := fun V gb kV aV =>
    rapp_run (pa := (none, 0, 0)) (L := (2, 0, name, [], ⟨#[]⟩)) (u := -1) h (kW.trans kV (fun x hx => Or.inl hx)) (by omega) aV (rA.out.keep (kV.sms (fun x _ hx => by simp at hx))) (Ar.oner_new ok _)
  clear h
  go_enter Tryz.func21, Tryz.ntmps21
  have c0 := (HS.out _ (Kp.refl _ _)).1
  go_upto_region 12 with fail
  rw [HW.out]
  clear HW
  go_upto_region 13 with fail
  clear c0
  obtain ⟨U0, hU0⟩ : ∃ V, V = W.drew := ⟨_, rfl⟩
  have k0 : Kp [] W U0 := by rw [hU0]; exact (Kp.refl _ _).drew
  refine wp_region_g (S := fun V => V.cell? ⟨d, 0, none⟩ = some (.slice (some ⟨g, o, none⟩) A.n c) ∧ V.cell? ⟨w.heap.size, 0, none⟩ = some (.int .i64 2) ∧ V.cell? ⟨w.heap.size, 1, none⟩ = some (.int .i64 0) ∧ V.cell? ⟨w.heap.size, 2, none⟩ = some (.string name) ∧ V.cell? ⟨w.heap.size, 3, none⟩ = some (.string ⟨#[]⟩) ∧ V.cell? ⟨w.heap.size, 4, none⟩ = some (.slice none 0 0) ∧ V.cell? ⟨w.heap.size, 5, none⟩ = some (.slice none 0 0) ∧ V.cell? ⟨w.heap.size, 6, none⟩ = some (.int .i64 (-1))) (T := [10]) (by kernel_rfl) (HS.out _ ((Kp.refl _ _).drew)) (fun hHeld => ?_)
  rw [← hU0] at hHeld ⊢
  clear hU0
  refine g_pure 0 (oi := ⟨some 55, .move (.tmp 0), 24, "ref.go:75", #[], none⟩) (v := ?_) (Or.inl ⟨by rfl, ?_⟩) ?_
  rotate_left
  · (intro w; go_simp; try with_reducible rfl)
  simp only [Act.put, pu1, pu2, pu3]
  refine g_pure 1 (oi := ⟨some 56, .move (.tmp 0), 24, "ref.go:75", #[], none⟩) (v := ?_) (Or.inl ⟨by rfl, ?_⟩) ?_
  rotate_left
  · (intro w; go_simp; try with_reducible rfl)
  simp only [Act.put, pu1, pu2, pu3]
  refine g_pure 2 (oi := ⟨some 57, .nilCheck (.tmp 56), 0, "ref.go:75", #[⟨1, .data⟩], none⟩) (v := ?_) (Or.inl ⟨by rfl, ?_⟩) ?_
  rotate_left
  · (intro w; go_simp; try with_reducible rfl)
  simp only [Act.put, pu1, pu2, pu3]
  refine g_pure 3 (oi := ⟨some 58, .fieldAddr 62 (.tmp 57) 0, 0, "ref.go:75", #[⟨2, .data⟩], none⟩) (v := ?_) (Or.inl ⟨by rfl, ?_⟩) ?_
  rotate_left
  · (intro w; go_simp; try with_reducible rfl)
  simp only [Act.put, pu1, pu2, pu3]
  refine g_takeC 4 (oi := ⟨some 59, .load 60 (.tmp 58), 60, "ref.go:75", #[⟨3, .data⟩], none⟩) (v := ?_) (Or.inl ⟨by rfl, ?_⟩) ?_
  rotate_left
  · (intro w hSw; (obtain ⟨q, q0, q1, q2, q3, q4, q5, q6⟩ := hSw); go_simp; try with_reducible rfl)
  simp only [Act.put, pu1, pu2, pu3]
  refine g_takeC 5 (oi := ⟨some 60, .load 59 (.tmp 14), 59, "ref.go:75", #[], none⟩) (v := ?_) (Or.inl ⟨by rfl, ?_⟩) ?_
  rotate_left
  · (intro w hSw; (obtain ⟨q, q0, q1, q2, q3, q4, q5, q6⟩ := hSw); go_simp; try with_reducible rfl)
  simp only [Act.put, pu1, pu2, pu3]
  refine wpAnyG_ready (rs := [6]) (by kernel_rfl) (by simp) ?_
  refine AllReadyG.cons (o := ⟨some 61, .buildSlice 60 1 #[(0, .tmp 60)], 60, "ref.go:75", #[⟨5, .data⟩], none⟩) rfl (fun K hK => ?_) AllReadyG.nil
  go_simp
  obtain ⟨U1, hU⟩ : ∃ V, V = World.alloc U0 (.cells #[.int .i64 2, .int .i64 0, .string name, .string ⟨#[]⟩, .slice none 0 0, .slice none 0 0, .int .i64 (-1)] 59) := ⟨_, rfl⟩
  rw [← hU]
  have u1 : Kp [] U0 U1 := by rw [hU]; exact (Kp.refl _ _).alloc _
  have k1 : Kp [] W U1 := k0.trans u1 (fun z hz => Or.inl hz)
  have A11 : At U1 U0.heap.size #[.int .i64 2, .int .i64 0, .string name, .string ⟨#[]⟩, .slice none 0 0, .slice none 0 0, .int .i64 (-1)] 59 := by rw [hU]; exact At.new _ _ _
  obtain ⟨g11, hg11⟩ : ∃ g, U0.heap.size = g := ⟨_, rfl⟩
  rw [hg11] at A11 ⊢
  clear hU
  refine hK.out _ _ (HS.out _ (k1.mono (fun z hz => by simp at hz))) (fun hHeld1 => ?_)
  clear hK K hHeld
  try simp only [Act.put, pu1, pu2, pu3]
  refine wpAnyG_ready (rs := [7]) (by kernel_rfl) (by simp) ?_
  refine AllReadyG.cons (o := ⟨some 62, .call { callee := .builtin .append, args := #[.tmp 59, .tmp 61], argTypes := #[60, 60] }, 60, "ref.go:75", #[⟨4, .data⟩, ⟨6, .data⟩], none⟩) rfl (fun K hK => ?_) AllReadyG.nil
  obtain ⟨v7, U2, run7, kk7, d7, f7, ⟨a7, c7, e7⟩, F7⟩ := HG.out U1 g11 k1 A11
  subst e7
  refine step_app2 (by rfl) _ _ 60 60 (by rfl) _ _ (by rfl) (by rfl) run7 ?_
  refine hK.out _ _ (HS.out _ ((k1.mono (T := [g]) (fun z hz => by simp at hz)).trans kk7 (fun z hz => Or.inl hz))) (fun hHeld2 => ?_)
  clear hK K hHeld1
  try simp only [Act.put, pu1, pu2, pu3]
  refine g_pure 8 (oi := ⟨some 63, .nilCheck (.tmp 55), 0, "ref.go:75", #[⟨0, .data⟩, ⟨0, .phase⟩, ⟨1, .phase⟩, ⟨2, .phase⟩, ⟨3, .phase⟩, ⟨4, .phase⟩, ⟨5, .phase⟩, ⟨6, .phase⟩, ⟨7, .phase⟩], none⟩) (v := ?_) (Or.inl ⟨by rfl, ?_⟩) ?_
  rotate_left
  · (intro w; go_simp; try with_reducible rfl)
  simp only [Act.put, pu1, pu2, pu3]
  refine g_pure 9 (oi := ⟨some 64, .fieldAddr 62 (.tmp 63) 0, 0, "ref.go:75", #[⟨8, .data⟩, ⟨0, .phase⟩, ⟨1, .phase⟩, ⟨2, .phase⟩, ⟨3, .phase⟩, ⟨4, .phase⟩, ⟨5, .phase⟩, ⟨6, .phase⟩, ⟨7, .phase⟩], none⟩) (v := ?_) (Or.inl ⟨by rfl, ?_⟩) ?_
  rotate_left
  · (intro w; go_simp; try with_reducible rfl)
  simp only [Act.put, pu1, pu2, pu3]
  refine wpAnyG_free (by kernel_rfl) ?_
  refine wpAny_ready (rs := [10]) (by kernel_rfl) (by simp) ?_
  refine AllReady.cons (o := ⟨none, .store 60 (.tmp 64) (.tmp 62), 0, "ref.go:75", #[⟨9, .data⟩, ⟨7, .data⟩, ⟨7, .chain⟩, ⟨0, .phase⟩, ⟨1, .phase⟩, ⟨2, .phase⟩, ⟨3, .phase⟩, ⟨4, .phase⟩, ⟨5, .phase⟩, ⟨6, .phase⟩, ⟨7, .phase⟩], none⟩) rfl (fun K hK => ?_) AllReady.nil
  go_simp
  refine hK _ _ ?_
  clear hK K
  try simp only [Act.put, pu1, pu2, pu3]
  refine wpAny_done (by kernel_rfl) ?_ _
  have ZZ : Hid _ := F7
  clear F7 HS HG
  go_wp2
  go_ret2
  exact ⟨rfl, ZZ.out⟩

set_option maxRecDepth 100000 in
set_option maxHeartbeats 1000000 in
theorem rmk_four (h : Dd tag w d g o c q A pl) (ful : A.Ful) (hn : A.n < 40000) (ns : Int) (name text : ByteArray) (l : List Att) (ao : Option Addr) (n' c' : Nat) (hr : Rp w ao n' c' l) (ha : n' ≤ 10000) :
    Calls Tryz.prog 21 #[.pointer (some ⟨d, 0, none⟩), .int .i64 4, .int .i64 ns, .string name, .slice ao n' c', .string text] w fun e w' => e = .returned (.tuple #[.int .i64 (A.n : Int), .int .i64 0]) ∧ ∃ tag', Dn tag' w' d q (A.new (4, 0, ⟨#[]⟩, [], text)) ∧ Dv tag w tag' w' := by
  have ok := ful.toOk
  have hlt := h.lt
  have hdg := h.ne
  obtain ⟨W, hW⟩ : ∃ W, W = w.alloc (.cells #[.int .i64 4, .int .i64 0, .string ⟨#[]⟩, .string text, .slice none 0 0, .slice none 0 0, .int .i64 (-1)] 59) := ⟨_, rfl⟩
  have kW : Kp [] w W := by rw [hW]; exact (Kp.refl _ _).alloc _
  have aX : At W w.heap.size #[.int .i64 4, .int .i64 0, .string ⟨#[]⟩, .string text, .slice none 0 0, .slice none 0 0, .int .i64 (-1)] 59 := by rw [hW]; exact At.new _ _ _
  have HW : Hid (w.alloc (.cells #[.int .i64 4, .int .i64 0, .string ⟨#[]⟩, .string text, .slice none 0 0, .slice none 0 0, .int .i64 (-1)] 59) = W) := hW.symm
  clear hW
  have rA : Hid (Rk (fun x => w.heap.size ≤ x) 2 W none 0 0 (cs (Lb.attrs (4, 0, ⟨#[]⟩, [], text)))) := Rk.nil _ _ _ _ _
  clear hr
  have hgx : g ≠ w.heap.size := by omega
  have HS : Hid (∀ V, Kp [g] W V → V.cell? ⟨d, 0, none⟩ = some (.slice (some ⟨g, o, none⟩) A.n c) ∧ V.cell? ⟨w.heap.size, 0, none⟩ = some (.int .i64 4) ∧ V.cell? ⟨w.heap.size, 1, none⟩ = some (.int .i64 0) ∧ V.cell? ⟨w.heap.size, 2, none⟩ = some (.string ⟨#[]⟩) ∧ V.cell? ⟨w.heap.size, 3, none⟩ = some (.string text) ∧ V.cell? ⟨w.heap.size, 4, none⟩ = some (.slice none 0 0) ∧ V.cell? ⟨w.heap.size, 5, none⟩ = some (.slice none 0 0) ∧ V.cell? ⟨w.heap.size, 6, none⟩ = some (.int .i64 (-1))) := fun V kV => by
    have a7 := aX.kept kV (by simpa using Ne.symm hgx)
    exact ⟨((h.kept kW).hd.kept kV (by simpa using hdg)).cell 0, a7.cell 0, a7.cell 1, a7.cell 2, a7.cell 3, a7.cell 4, a7.cell 5, a7.cell 6⟩
  have HG : Hid (∀ V gb, Kp [] W V → At V gb #[.int .i64 4, .int .i64 0, .string ⟨#[]⟩, .string text, .slice none 0 0, .slice none 0 0, .int .i64 (-1)] 59 → ∃ v' w2, (∀ ty, (Builtin.append_ #[60, 60] ty #[.slice (some ⟨g, o, none⟩) A.n c, .slice (some ⟨gb, 0, none⟩) 1 1]).run Tryz.prog V = .ok v' w2) ∧ Kp [g] V w2 ∧ w2.cell? ⟨d, 0, none⟩ = some (.slice (some ⟨g, o, none⟩) A.n c) ∧ w2.frozen? ⟨d, 0, none⟩ = false ∧ (∃ a c', v' = .slice (some a) (A.n + 1) c') ∧ ∃ tag', Dn tag' (w2.setCell ⟨d, 0, none⟩ v') d q (A.new (4, 0, ⟨#[]⟩, [], text)) ∧ Dv tag w tag' (w2.setCell ⟨d, 0, none⟩ v')) := fun V gb kV aV =>
    rapp_run (pa := (none, 0, 0)) (L := (4, 0, ⟨#[]⟩, [], text)) (u := -1) h (kW.trans kV (fun x hx => Or.inl hx)) (by omega) aV (rA.out.keep (kV.sms (fun x _ hx => by simp at hx))) (Ar.oner_new ok _)
  clear h
  go_enter Tryz.func21, Tryz.ntmps21
  have c0 := (HS.out _ (Kp.refl _ _)).1
  go_upto_region 12 with fail
  rw [HW.out]
  clear HW
  go_upto_region 13 with fail
  clear c0
  obtain ⟨U0, hU0⟩ : ∃ V, V = W.drew := ⟨_, rfl⟩
  have k0 : Kp [] W U0 := by rw [hU0]; exact (Kp.refl _ _).drew
  refine wp_region_g (S := fun V => V.cell? ⟨d, 0, none⟩ = some (.slice (some ⟨g, o, none⟩) A.n c) ∧ V.cell? ⟨w.heap.size, 0, none⟩ = some (.int .i64 4) ∧ V.cell? ⟨w.heap.size, 1, none⟩ = some (.int .i64 0) ∧ V.cell? ⟨w.heap.size, 2, none⟩ = some (.string ⟨#[]⟩) ∧ V.cell? ⟨w.heap.size, 3, none⟩ = some (.string text) ∧ V.cell? ⟨w.heap.size, 4, none⟩ = some (.slice none 0 0) ∧ V.cell? ⟨w.heap.size, 5, none⟩ = some (.slice none 0 0) ∧ V.cell? ⟨w.heap.size, 6, none⟩ = some (.int .i64 (-1))) (T := [10]) (by kernel_rfl) (HS.out _ ((Kp.refl _ _).drew)) (fun hHeld => ?_)
  rw [← hU0] at hHeld ⊢
  clear hU0
  refine g_pure 0 (oi := ⟨some 55, .move (.tmp 0), 24, "ref.go:75", #[], none⟩) (v := ?_) (Or.inl ⟨by rfl, ?_⟩) ?_
  rotate_left
  · (intro w; go_simp; try with_reducible rfl)
  simp only [Act.put, pu1, pu2, pu3]
  refine g_pure 1 (oi := ⟨some 56, .move (.tmp 0), 24, "ref.go:75", #[], none⟩) (v := ?_) (Or.inl ⟨by rfl, ?_⟩) ?_
  rotate_left
  · (intro w; go_simp; try with_reducible rfl)
  simp only [Act.put, pu1, pu2, pu3]
  refine g_pure 2 (oi := ⟨some 57, .nilCheck (.tmp 56), 0, "ref.go:75", #[⟨1, .data⟩], none⟩) (v := ?_) (Or.inl ⟨by rfl, ?_⟩) ?_
  rotate_left
  · (intro w; go_simp; try with_reducible rfl)
  simp only [Act.put, pu1, pu2, pu3]
  refine g_pure 3 (oi := ⟨some 58, .fieldAddr 62 (.tmp 57) 0, 0, "ref.go:75", #[⟨2, .data⟩], none⟩) (v := ?_) (Or.inl ⟨by rfl, ?_⟩) ?_
  rotate_left
  · (intro w; go_simp; try with_reducible rfl)
  simp only [Act.put, pu1, pu2, pu3]
  refine g_takeC 4 (oi := ⟨some 59, .load 60 (.tmp 58), 60, "ref.go:75", #[⟨3, .data⟩], none⟩) (v := ?_) (Or.inl ⟨by rfl, ?_⟩) ?_
  rotate_left
  · (intro w hSw; (obtain ⟨q, q0, q1, q2, q3, q4, q5, q6⟩ := hSw); go_simp; try with_reducible rfl)
  simp only [Act.put, pu1, pu2, pu3]
  refine g_takeC 5 (oi := ⟨some 60, .load 59 (.tmp 14), 59, "ref.go:75", #[], none⟩) (v := ?_) (Or.inl ⟨by rfl, ?_⟩) ?_
  rotate_left
  · (intro w hSw; (obtain ⟨q, q0, q1, q2, q3, q4, q5, q6⟩ := hSw); go_simp; try with_reducible rfl)
  simp only [Act.put, pu1, pu2, pu3]
  refine wpAnyG_ready (rs := [6]) (by kernel_rfl) (by simp) ?_
  refine AllReadyG.cons (o := ⟨some 61, .buildSlice 60 1 #[(0, .tmp 60)], 60, "ref.go:75", #[⟨5, .data⟩], none⟩) rfl (fun K hK => ?_) AllReadyG.nil
  go_simp
  obtain ⟨U1, hU⟩ : ∃ V, V = World.alloc U0 (.cells #[.int .i64 4, .int .i64 0, .string ⟨#[]⟩, .string text, .slice none 0 0, .slice none 0 0, .int .i64 (-1)] 59) := ⟨_, rfl⟩
  rw [← hU]
  have u1 : Kp [] U0 U1 := by rw [hU]; exact (Kp.refl _ _).alloc _
  have k1 : Kp [] W U1 := k0.trans u1 (fun z hz => Or.inl hz)
  have A11 : At U1 U0.heap.size #[.int .i64 4, .int .i64 0, .string ⟨#[]⟩, .string text, .slice none 0 0, .slice none 0 0, .int .i64 (-1)] 59 := by rw [hU]; exact At.new _ _ _
  obtain ⟨g11, hg11⟩ : ∃ g, U0.heap.size = g := ⟨_, rfl⟩
  rw [hg11] at A11 ⊢
  clear hU
  refine hK.out _ _ (HS.out _ (k1.mono (fun z hz => by simp at hz))) (fun hHeld1 => ?_)
  clear hK K hHeld
  try simp only [Act.put, pu1, pu2, pu3]
  refine wpAnyG_ready (rs := [7]) (by kernel_rfl) (by simp) ?_
  refine AllReadyG.cons (o := ⟨some 62, .call { callee := .builtin .append, args := #[.tmp 59, .tmp 61], argTypes := #[60, 60] }, 60, "ref.go:75", #[⟨4, .data⟩, ⟨6, .data⟩], none⟩) rfl (fun K hK => ?_) AllReadyG.nil
  obtain ⟨v7, U2, run7, kk7, d7, f7, ⟨a7, c7, e7⟩, F7⟩ := HG.out U1 g11 k1 A11
  subst e7
  refine step_app2 (by rfl) _ _ 60 60 (by rfl) _ _ (by rfl) (by rfl) run7 ?_
  refine hK.out _ _ (HS.out _ ((k1.mono (T := [g]) (fun z hz => by simp at hz)).trans kk7 (fun z hz => Or.inl hz))) (fun hHeld2 => ?_)
  clear hK K hHeld1
  try simp only [Act.put, pu1, pu2, pu3]
  refine g_pure 8 (oi := ⟨some 63, .nilCheck (.tmp 55), 0, "ref.go:75", #[⟨0, .data⟩, ⟨0, .phase⟩, ⟨1, .phase⟩, ⟨2, .phase⟩, ⟨3, .phase⟩, ⟨4, .phase⟩, ⟨5, .phase⟩, ⟨6, .phase⟩, ⟨7, .phase⟩], none⟩) (v := ?_) (Or.inl ⟨by rfl, ?_⟩) ?_
  rotate_left
  · (intro w; go_simp; try with_reducible rfl)
  simp only [Act.put, pu1, pu2, pu3]
  refine g_pure 9 (oi := ⟨some 64, .fieldAddr 62 (.tmp 63) 0, 0, "ref.go:75", #[⟨8, .data⟩, ⟨0, .phase⟩, ⟨1, .phase⟩, ⟨2, .phase⟩, ⟨3, .phase⟩, ⟨4, .phase⟩, ⟨5, .phase⟩, ⟨6, .phase⟩, ⟨7, .phase⟩], none⟩) (v := ?_) (Or.inl ⟨by rfl, ?_⟩) ?_
  rotate_left
  · (intro w; go_simp; try with_reducible rfl)
  simp only [Act.put, pu1, pu2, pu3]
  refine wpAnyG_free (by kernel_rfl) ?_
  refine wpAny_ready (rs := [10]) (by kernel_rfl) (by simp) ?_
  refine AllReady.cons (o := ⟨none, .store 60 (.tmp 64) (.tmp 62), 0, "ref.go:75", #[⟨9, .data⟩, ⟨7, .data⟩, ⟨7, .chain⟩, ⟨0, .phase⟩, ⟨1, .phase⟩, ⟨2, .phase⟩, ⟨3, .phase⟩, ⟨4, .phase⟩, ⟨5, .phase⟩, ⟨6, .phase⟩, ⟨7, .phase⟩], none⟩) rfl (fun K hK => ?_) AllReady.nil
  go_simp
  refine hK _ _ ?_
  clear hK K
  try simp only [Act.put, pu1, pu2, pu3]
  refine wpAny_done (by kernel_rfl) ?_ _
  have ZZ : Hid _ := F7
  clear F7 HS HG
  go_wp2
  go_ret2
  exact ⟨rfl, ZZ.out⟩

set_option maxRecDepth 100000 in
set_option maxHeartbeats 1000000 in
theorem rmk_five (h : Dd tag w d g o c q A pl) (ful : A.Ful) (hn : A.n < 40000) (ns : Int) (name text : ByteArray) (l : List Att) (ao : Option Addr) (n' c' : Nat) (hr : Rp w ao n' c' l) (ha : n' ≤ 10000) :
    Calls Tryz.prog 21 #[.pointer (some ⟨d, 0, none⟩), .int .i64 5, .int .i64 ns, .string name, .slice ao n' c', .string text] w fun e w' => e = .returned (.tuple #[.int .i64 (A.n : Int), .int .i64 0]) ∧ ∃ tag', Dn tag' w' d q (A.new (5, 0, ⟨#[]⟩, [], text)) ∧ Dv tag w tag' w' := by
  have ok := ful.toOk
  have hlt := h.lt
  have hdg := h.ne
  obtain ⟨W, hW⟩ : ∃ W, W = w.alloc (.cells #[.int .i64 5, .int .i64 0, .string ⟨#[]⟩, .string text, .slice none 0 0, .slice none 0 0, .int .i64 (-1)] 59) := ⟨_, rfl⟩
  have kW : Kp [] w W := by rw [hW]; exact (Kp.refl _ _).alloc _
  have aX : At W w.heap.size #[.int .i64 5, .int .i64 0, .string ⟨#[]⟩, .string text, .slice none 0 0, .slice none 0 0, .int .i64 (-1)] 59 := by rw [hW]; exact At.new _ _ _
  have HW : Hid (w.alloc (.cells #[.int .i64 5, .int .i64 0, .string ⟨#[]⟩, .string text, .slice none 0 0, .slice none 0 0, .int .i64 (-1)] 59) = W) := hW.symm
  clear hW
  have rA : Hid (Rk (fun x => w.heap.size ≤ x) 2 W none 0 0 (cs (Lb.attrs (5, 0, ⟨#[]⟩, [], text)))) := Rk.nil _ _ _ _ _
  clear hr
  have hgx : g ≠ w.heap.size := by omega
  have HS : Hid (∀ V, Kp [g] W V → V.cell? ⟨d, 0, none⟩ = some (.slice (some ⟨g, o, none⟩) A.n c) ∧ V.cell? ⟨w.heap.size, 0, none⟩ = some (.int .i64 5) ∧ V.cell? ⟨w.heap.size, 1, none⟩ = some (.int .i64 0) ∧ V.cell? ⟨w.heap.size, 2, none⟩ = some (.string ⟨#[]⟩) ∧ V.cell? ⟨w.heap.size, 3, none⟩ = some (.string text) ∧ V.cell? ⟨w.heap.size, 4, none⟩ = some (.slice none 0 0) ∧ V.cell? ⟨w.heap.size, 5, none⟩ = some (.slice none 0 0) ∧ V.cell? ⟨w.heap.size, 6, none⟩ = some (.int .i64 (-1))) := fun V kV => by
    have a7 := aX.kept kV (by simpa using Ne.symm hgx)
    exact ⟨((h.kept kW).hd.kept kV (by simpa using hdg)).cell 0, a7.cell 0, a7.cell 1, a7.cell 2, a7.cell 3, a7.cell 4, a7.cell 5, a7.cell 6⟩
  have HG : Hid (∀ V gb, Kp [] W V → At V gb #[.int .i64 5, .int .i64 0, .string ⟨#[]⟩, .string text, .slice none 0 0, .slice none 0 0, .int .i64 (-1)] 59 → ∃ v' w2, (∀ ty, (Builtin.append_ #[60, 60] ty #[.slice (some ⟨g, o, none⟩) A.n c, .slice (some ⟨gb, 0, none⟩) 1 1]).run Tryz.prog V = .ok v' w2) ∧ Kp [g] V w2 ∧ w2.cell? ⟨d, 0, none⟩ = some (.slice (some ⟨g, o, none⟩) A.n c) ∧ w2.frozen? ⟨d, 0, none⟩ = false ∧ (∃ a c', v' = .slice (some a) (A.n + 1) c') ∧ ∃ tag', Dn tag' (w2.setCell ⟨d, 0, none⟩ v') d q (A.new (5, 0, ⟨#[]⟩, [], text)) ∧ Dv tag w tag' (w2.setCell ⟨d, 0, none⟩ v')) := fun V gb kV aV =>
    rapp_run (pa := (none, 0, 0)) (L := (5, 0, ⟨#[]⟩, [], text)) (u := -1) h (kW.trans kV (fun x hx => Or.inl hx)) (by omega) aV (rA.out.keep (kV.sms (fun x _ hx => by simp at hx))) (Ar.oner_new ok _)
  clear h
  go_enter Tryz.func21, Tryz.ntmps21
  have c0 := (HS.out _ (Kp.refl _ _)).1
  go_upto_region 12 with fail
  rw [HW.out]
  clear HW
  go_upto_region 13 with fail
  clear c0
  obtain ⟨U0, hU0⟩ : ∃ V, V = W.drew := ⟨_, rfl⟩
  have k0 : Kp [] W U0 := by rw [hU0]; exact (Kp.refl _ _).drew
  refine wp_region_g (S := fun V => V.cell? ⟨d, 0, none⟩ = some (.slice (some ⟨g, o, none⟩) A.n c) ∧ V.cell? ⟨w.heap.size, 0, none⟩ = some (.int .i64 5) ∧ V.cell? ⟨w.heap.size, 1, none⟩ = some (.int .i64 0) ∧ V.cell? ⟨w.heap.size, 2, none⟩ = some (.string ⟨#[]⟩) ∧ V.cell? ⟨w.heap.size, 3, none⟩ = some (.string text) ∧ V.cell? ⟨w.heap.size, 4, none⟩ = some (.slice none 0 0) ∧ V.cell? ⟨w.heap.size, 5, none⟩ = some (.slice none 0 0) ∧ V.cell? ⟨w.heap.size, 6, none⟩ = some (.int .i64 (-1))) (T := [10]) (by kernel_rfl) (HS.out _ ((Kp.refl _ _).drew)) (fun hHeld => ?_)
  rw [← hU0] at hHeld ⊢
  clear hU0
  refine g_pure 0 (oi := ⟨some 55, .move (.tmp 0), 24, "ref.go:75", #[], none⟩) (v := ?_) (Or.inl ⟨by rfl, ?_⟩) ?_
  rotate_left
  · (intro w; go_simp; try with_reducible rfl)
  simp only [Act.put, pu1, pu2, pu3]
  refine g_pure 1 (oi := ⟨some 56, .move (.tmp 0), 24, "ref.go:75", #[], none⟩) (v := ?_) (Or.inl ⟨by rfl, ?_⟩) ?_
  rotate_left
  · (intro w; go_simp; try with_reducible rfl)
  simp only [Act.put, pu1, pu2, pu3]
  refine g_pure 2 (oi := ⟨some 57, .nilCheck (.tmp 56), 0, "ref.go:75", #[⟨1, .data⟩], none⟩) (v := ?_) (Or.inl ⟨by rfl, ?_⟩) ?_
  rotate_left
  · (intro w; go_simp; try with_reducible rfl)
  simp only [Act.put, pu1, pu2, pu3]
  refine g_pure 3 (oi := ⟨some 58, .fieldAddr 62 (.tmp 57) 0, 0, "ref.go:75", #[⟨2, .data⟩], none⟩) (v := ?_) (Or.inl ⟨by rfl, ?_⟩) ?_
  rotate_left
  · (intro w; go_simp; try with_reducible rfl)
  simp only [Act.put, pu1, pu2, pu3]
  refine g_takeC 4 (oi := ⟨some 59, .load 60 (.tmp 58), 60, "ref.go:75", #[⟨3, .data⟩], none⟩) (v := ?_) (Or.inl ⟨by rfl, ?_⟩) ?_
  rotate_left
  · (intro w hSw; (obtain ⟨q, q0, q1, q2, q3, q4, q5, q6⟩ := hSw); go_simp; try with_reducible rfl)
  simp only [Act.put, pu1, pu2, pu3]
  refine g_takeC 5 (oi := ⟨some 60, .load 59 (.tmp 14), 59, "ref.go:75", #[], none⟩) (v := ?_) (Or.inl ⟨by rfl, ?_⟩) ?_
  rotate_left
  · (intro w hSw; (obtain ⟨q, q0, q1, q2, q3, q4, q5, q6⟩ := hSw); go_simp; try with_reducible rfl)
  simp only [Act.put, pu1, pu2, pu3]
  refine wpAnyG_ready (rs := [6]) (by kernel_rfl) (by simp) ?_
  refine AllReadyG.cons (o := ⟨some 61, .buildSlice 60 1 #[(0, .tmp 60)], 60, "ref.go:75", #[⟨5, .data⟩], none⟩) rfl (fun K hK => ?_) AllReadyG.nil
  go_simp
  obtain ⟨U1, hU⟩ : ∃ V, V = World.alloc U0 (.cells #[.int .i64 5, .int .i64 0, .string ⟨#[]⟩, .string text, .slice none 0 0, .slice none 0 0, .int .i64 (-1)] 59) := ⟨_, rfl⟩
  rw [← hU]
  have u1 : Kp [] U0 U1 := by rw [hU]; exact (Kp.refl _ _).alloc _
  have k1 : Kp [] W U1 := k0.trans u1 (fun z hz => Or.inl hz)
  have A11 : At U1 U0.heap.size #[.int .i64 5, .int .i64 0, .string ⟨#[]⟩, .string text, .slice none 0 0, .slice none 0 0, .int .i64 (-1)] 59 := by rw [hU]; exact At.new _ _ _
  obtain ⟨g11, hg11⟩ : ∃ g, U0.heap.size = g := ⟨_, rfl⟩
  rw [hg11] at A11 ⊢
  clear hU
  refine hK.out _ _ (HS.out _ (k1.mono (fun z hz => by simp at hz))) (fun hHeld1 => ?_)
  clear hK K hHeld
  try simp only [Act.put, pu1, pu2, pu3]
  refine wpAnyG_ready (rs := [7]) (by kernel_rfl) (by simp) ?_
  refine AllReadyG.cons (o := ⟨some 62, .call { callee := .builtin .append, args := #[.tmp 59, .tmp 61], argTypes := #[60, 60] }, 60, "ref.go:75", #[⟨4, .data⟩, ⟨6, .data⟩], none⟩) rfl (fun K hK => ?_) AllReadyG.nil
  obtain ⟨v7, U2, run7, kk7, d7, f7, ⟨a7, c7, e7⟩, F7⟩ := HG.out U1 g11 k1 A11
  subst e7
  refine step_app2 (by rfl) _ _ 60 60 (by rfl) _ _ (by rfl) (by rfl) run7 ?_
  refine hK.out _ _ (HS.out _ ((k1.mono (T := [g]) (fun z hz => by simp at hz)).trans kk7 (fun z hz => Or.inl hz))) (fun hHeld2 => ?_)
  clear hK K hHeld1
  try simp only [Act.put, pu1, pu2, pu3]
  refine g_pure 8 (oi := ⟨some 63, .nilCheck (.tmp 55), 0, "ref.go:75", #[⟨0, .data⟩, ⟨0, .phase⟩, ⟨1, .phase⟩, ⟨2, .phase⟩, ⟨3, .phase⟩, ⟨4, .phase⟩, ⟨5, .phase⟩, ⟨6, .phase⟩, ⟨7, .phase⟩], none⟩) (v := ?_) (Or.inl ⟨by rfl, ?_⟩) ?_
  rotate_left
  · (intro w; go_simp; try with_reducible rfl)
  simp only [Act.put, pu1, pu2, pu3]
  refine g_pure 9 (oi := ⟨some 64, .fieldAddr 62 (.tmp 63) 0, 0, "ref.go:75", #[⟨8, .data⟩, ⟨0, .phase⟩, ⟨1, .phase⟩, ⟨2, .phase⟩, ⟨3, .phase⟩, ⟨4, .phase⟩, ⟨5, .phase⟩, ⟨6, .phase⟩, ⟨7, .phase⟩], none⟩) (v := ?_) (Or.inl ⟨by rfl, ?_⟩) ?_
  rotate_left
  · (intro w; go_simp; try with_reducible rfl)
  simp only [Act.put, pu1, pu2, pu3]
  refine wpAnyG_free (by kernel_rfl) ?_
  refine wpAny_ready (rs := [10]) (by kernel_rfl) (by simp) ?_
  refine AllReady.cons (o := ⟨none, .store 60 (.tmp 64) (.tmp 62), 0, "ref.go:75", #[⟨9, .data⟩, ⟨7, .data⟩, ⟨7, .chain⟩, ⟨0, .phase⟩, ⟨1, .phase⟩, ⟨2, .phase⟩, ⟨3, .phase⟩, ⟨4, .phase⟩, ⟨5, .phase⟩, ⟨6, .phase⟩, ⟨7, .phase⟩], none⟩) rfl (fun K hK => ?_) AllReady.nil
  go_simp
  refine hK _ _ ?_
  clear hK K
  try simp only [Act.put, pu1, pu2, pu3]
  refine wpAny_done (by kernel_rfl) ?_ _
  have ZZ : Hid _ := F7
  clear F7 HS HG
  go_wp2
  go_ret2
  exact ⟨rfl, ZZ.out⟩

set_option maxRecDepth 100000 in
set_option maxHeartbeats 1000000 in
theorem rmk_html (h : Dd tag w d g o c q A pl) (ful : A.Ful) (hn : A.n < 40000) (ns : Int) (name text : ByteArray) (l : List Att) (ao : Option Addr) (n' c' : Nat) (hr : Rp w ao n' c' l) (ha : n' ≤ 10000) (hns : ns = 1) (h0 : name.size ≠ 0) (ht : name ≠ TMPL) :
    Calls Tryz.prog 21 #[.pointer (some ⟨d, 0, none⟩), .int .i64 3, .int .i64 ns, .string name, .slice ao n' c', .string text] w fun e w' => e = .returned (.tuple #[.int .i64 (A.n : Int), .int .i64 0]) ∧ ∃ tag', Dn tag' w' d q (A.new (3, 1, name, uniq l, ⟨#[]⟩)) ∧ Dv tag w tag' w' := by
  have ok := ful.toOk
  subst hns
  have t9 : name.toList.isEmpty = false := ne_empty h0
  have t3 : (name.toList == [116, 101, 109, 112, 108, 97, 116, 101]) = false := beq_false_of_ne (fun hh => ht (eqs_iff.1 (by unfold eqs; rw [hh, tmpl_list]; rfl)))
  clear ht
  clear h0
  have hlt := h.lt
  have hdg := h.ne
  obtain ⟨W1, hW1⟩ : ∃ W, W = w.alloc (.cells #[.int .i64 3, .int .i64 0, .string ⟨#[]⟩, .string ⟨#[]⟩, .slice none 0 0, .slice none 0 0, .int .i64 (-1)] 59) := ⟨_, rfl⟩
  have kW1 : Kp [] w W1 := by rw [hW1]; exact (Kp.refl _ _).alloc _
  have aX1 : At W1 w.heap.size #[.int .i64 3, .int .i64 0, .string ⟨#[]⟩, .string ⟨#[]⟩, .slice none 0 0, .slice none 0 0, .int .i64 (-1)] 59 := by rw [hW1]; exact At.new _ _ _
  have HW1 : Hid (w.alloc (.cells #[.int .i64 3, .int .i64 0, .string ⟨#[]⟩, .string ⟨#[]⟩, .slice none 0 0, .slice none 0 0, .int .i64 (-1)] 59) = W1) := hW1.symm
  clear hW1
  have HU := ref_uniq_any W1 l ao n' c' (hr.kept kW1) ha
  clear hr
  have hgx : g ≠ w.heap.size := by omega
  go_enter Tryz.func21, Tryz.ntmps21
  go_upto_region 7 with fail
  rw [HW1.out]
  clear HW1
  go_upto_region 9 with fail
  go_wp2_with (go_at_call 57; refine HU.mono ?_; rintro e W2 ⟨a2, n2, c2, rfl, M2⟩; refine Hid.out ?_)
  unfold Hid
  have aX2 := aX1.kept M2.kp (by simp)
  obtain ⟨x0, x1, x2, x3, x4, x5, x6⟩ : W2.cell? ⟨w.heap.size, 0, none⟩ = some (.int .i64 3) ∧ W2.cell? ⟨w.heap.size, 1, none⟩ = some (.int .i64 0) ∧ W2.cell? ⟨w.heap.size, 2, none⟩ = some (.string ⟨#[]⟩) ∧ W2.cell? ⟨w.heap.size, 3, none⟩ = some (.string ⟨#[]⟩) ∧ W2.cell? ⟨w.heap.size, 4, none⟩ = some (.slice none 0 0) ∧ W2.cell? ⟨w.heap.size, 5, none⟩ = some (.slice none 0 0) ∧ W2.cell? ⟨w.heap.size, 6, none⟩ = some (.int .i64 (-1)) := ⟨aX2.cell 0, aX2.cell 1, aX2.cell 2, aX2.cell 3, aX2.cell 4, aX2.cell 5, aX2.cell 6⟩
  have fr := fun j => aX2.free j
  go_upto_region 12 with fail
  obtain ⟨W, hW⟩ : ∃ W, W = ((W2.setCell ⟨w.heap.size, 1, none⟩ (.int .i64 1)).setCell ⟨w.heap.size, 2, none⟩ (.string name)).setCell ⟨w.heap.size, 4, none⟩ (.slice a2 n2 c2) := ⟨_, rfl⟩
  rw [← hW]
  have kx : Kp [w.heap.size] W2 W := by rw [hW]; exact (((Kp.refl [w.heap.size] W2).setCell (Or.inl (by simp)) _).setCell (Or.inl (by simp)) _).setCell (Or.inl (by simp)) _
  have kW : Kp [] w W := (kW1.trans M2.kp (fun x hx => Or.inl hx)).trans kx (fun x hx => by rw [List.mem_singleton.1 hx]; exact Or.inr (Nat.le_refl _))
  have aX : At W w.heap.size #[.int .i64 3, .int .i64 1, .string name, .string ⟨#[]⟩, .slice a2 n2 c2, .slice none 0 0, .int .i64 (-1)] 59 := by rw [hW]; exact ((aX2.set 1 _).set 2 _).set 4 _
  have rA : Hid (Rk (fun x => w.heap.size ≤ x) 2 W a2 n2 c2 (cs (Lb.attrs (3, 1, name, uniq l, ⟨#[]⟩)))) := (M2.rk0 (Kp.refl [] W1)).keep (kx.sms (fun x hx hs => by rw [List.mem_singleton.1 hs] at hx; have := aX1.lt; omega)) |>.mono (fun x _ hx => by have := kW1.size; omega)
  clear hW kx x0 x1 x2 x3 x4 x5 x6 fr aX2 M2 HU aX1
  have HS : Hid (∀ V, Kp [g] W V → V.cell? ⟨d, 0, none⟩ = some (.slice (some ⟨g, o, none⟩) A.n c) ∧ V.cell? ⟨w.heap.size, 0, none⟩ = some (.int .i64 3) ∧ V.cell? ⟨w.heap.size, 1, none⟩ = some (.int .i64 1) ∧ V.cell? ⟨w.heap.size, 2, none⟩ = some (.string name) ∧ V.cell? ⟨w.heap.size, 3, none⟩ = some (.string ⟨#[]⟩) ∧ V.cell? ⟨w.heap.size, 4, none⟩ = some (.slice a2 n2 c2) ∧ V.cell? ⟨w.heap.size, 5, none⟩ = some (.slice none 0 0) ∧ V.cell? ⟨w.heap.size, 6, none⟩ = some (.int .i64 (-1))) := fun V kV => by
    have a7 := aX.kept kV (by simpa using Ne.symm hgx)
    exact ⟨((h.kept kW).hd.kept kV (by simpa using hdg)).cell 0, a7.cell 0, a7.cell 1, a7.cell 2, a7.cell 3, a7.cell 4, a7.cell 5, a7.cell 6⟩
  have HG : Hid (∀ V gb, Kp [] W V → At V gb #[.int .i64 3, .int .i64 1, .string name, .string ⟨#[]⟩, .slice a2 n2 c2, .slice none 0 0, .int .i64 (-1)] 59 → ∃ v' w2, (∀ ty, (Builtin.append_ #[60, 60] ty #[.slice (some ⟨g, o, none⟩) A.n c, .slice (some ⟨gb, 0, none⟩) 1 1]).run Tryz.prog V = .ok v' w2) ∧ Kp [g] V w2 ∧ w2.cell? ⟨d, 0, none⟩ = some (.slice (some ⟨g, o, none⟩) A.n c) ∧ w2.frozen? ⟨d, 0, none⟩ = false ∧ (∃ a c', v' = .slice (some a) (A.n + 1) c') ∧ ∃ tag', Dn tag' (w2.setCell ⟨d, 0, none⟩ v') d q (A.new (3, 1, name, uniq l, ⟨#[]⟩)) ∧ Dv tag w tag' (w2.setCell ⟨d, 0, none⟩ v')) := fun V gb kV aV =>
    rapp_run (pa := (a2, n2, c2)) (L := (3, 1, name, uniq l, ⟨#[]⟩)) (u := -1) h (kW.trans kV (fun x hx => Or.inl hx)) (by omega) aV (rA.out.keep (kV.sms (fun x _ hx => by simp at hx))) (Ar.oner_new ok _)
  clear h
  have c0 := (HS.out _ (Kp.refl _ _)).1
  go_upto_region 13 with fail
  clear c0
  obtain ⟨U0, hU0⟩ : ∃ V, V = W.drew := ⟨_, rfl⟩
  have k0 : Kp [] W U0 := by rw [hU0]; exact (Kp.refl _ _).drew
  refine wp_region_g (S := fun V => V.cell? ⟨d, 0, none⟩ = some (.slice (some ⟨g, o, none⟩) A.n c) ∧ V.cell? ⟨w.heap.size, 0, none⟩ = some (.int .i64 3) ∧ V.cell? ⟨w.heap.size, 1, none⟩ = some (.int .i64 1) ∧ V.cell? ⟨w.heap.size, 2, none⟩ = some (.string name) ∧ V.cell? ⟨w.heap.size, 3, none⟩ = some (.string ⟨#[]⟩) ∧ V.cell? ⟨w.heap.size, 4, none⟩ = some (.slice a2 n2 c2) ∧ V.cell? ⟨w.heap.size, 5, none⟩ = some (.slice none 0 0) ∧ V.cell? ⟨w.heap.size, 6, none⟩ = some (.int .i64 (-1))) (T := [10]) (by kernel_rfl) (HS.out _ ((Kp.refl _ _).drew)) (fun hHeld => ?_)
  rw [← hU0] at hHeld ⊢
  clear hU0
  refine g_pure 0 (oi := ⟨some 55, .move (.tmp 0), 24, "ref.go:75", #[], none⟩) (v := ?_) (Or.inl ⟨by rfl, ?_⟩) ?_
  rotate_left
  · (intro w; go_simp; try with_reducible rfl)
  simp only [Act.put, pu1, pu2, pu3]
  refine g_pure 1 (oi := ⟨some 56, .move (.tmp 0), 24, "ref.go:75", #[], none⟩) (v := ?_) (Or.inl ⟨by rfl, ?_⟩) ?_
  rotate_left
  · (intro w; go_simp; try with_reducible rfl)
  simp only [Act.put, pu1, pu2, pu3]
  refine g_pure 2 (oi := ⟨some 57, .nilCheck (.tmp 56), 0, "ref.go:75", #[⟨1, .data⟩], none⟩) (v := ?_) (Or.inl ⟨by rfl, ?_⟩) ?_
  rotate_left
  · (intro w; go_simp; try with_reducible rfl)
  simp only [Act.put, pu1, pu2, pu3]
  refine g_pure 3 (oi := ⟨some 58, .fieldAddr 62 (.tmp 57) 0, 0, "ref.go:75", #[⟨2, .data⟩], none⟩) (v := ?_) (Or.inl ⟨by rfl, ?_⟩) ?_
  rotate_left
  · (intro w; go_simp; try with_reducible rfl)
  simp only [Act.put, pu1, pu2, pu3]
  refine g_takeC 4 (oi := ⟨some 59, .load 60 (.tmp 58), 60, "ref.go:75", #[⟨3, .data⟩], none⟩) (v := ?_) (Or.inl ⟨by rfl, ?_⟩) ?_
  rotate_left
  · (intro w hSw; (obtain ⟨q, q0, q1, q2, q3, q4, q5, q6⟩ := hSw); go_simp; try with_reducible rfl)
  simp only [Act.put, pu1, pu2, pu3]
  refine g_takeC 5 (oi := ⟨some 60, .load 59 (.tmp 14), 59, "ref.go:75", #[], none⟩) (v := ?_) (Or.inl ⟨by rfl, ?_⟩) ?_
  rotate_left
  · (intro w hSw; (obtain ⟨q, q0, q1, q2, q3, q4, q5, q6⟩ := hSw); go_simp; try with_reducible rfl)
  simp only [Act.put, pu1, pu2, pu3]
  refine wpAnyG_ready (rs := [6]) (by kernel_rfl) (by simp) ?_
  refine AllReadyG.cons (o := ⟨some 61, .buildSlice 60 1 #[(0, .tmp 60)], 60, "ref.go:75", #[⟨5, .data⟩], none⟩) rfl (fun K hK => ?_) AllReadyG.nil
  go_simp
  obtain ⟨U1, hU⟩ : ∃ V, V = World.alloc U0 (.cells #[.int .i64 3, .int .i64 1, .string name, .string ⟨#[]⟩, .slice a2 n2 c2, .slice none 0 0, .int .i64 (-1)] 59) := ⟨_, rfl⟩
  rw [← hU]
  have u1 : Kp [] U0 U1 := by rw [hU]; exact (Kp.refl _ _).alloc _
  have k1 : Kp [] W U1 := k0.trans u1 (fun z hz => Or.inl hz)
  have A11 : At U1 U0.heap.size #[.int .i64 3, .int .i64 1, .string name, .string ⟨#[]⟩, .slice a2 n2 c2, .slice none 0 0, .int .i64 (-1)] 59 := by rw [hU]; exact At.new _ _ _
  obtain ⟨g11, hg11⟩ : ∃ g, U0.heap.size = g := ⟨_, rfl⟩
  rw [hg11] at A11 ⊢
  clear hU
  refine hK.out _ _ (HS.out _ (k1.mono (fun z hz => by simp at hz))) (fun hHeld1 => ?_)
  clear hK K hHeld
  try simp only [Act.put, pu1, pu2, pu3]
  refine wpAnyG_ready (rs := [7]) (by kernel_rfl) (by simp) ?_
  refine AllReadyG.cons (o := ⟨some 62, .call { callee := .builtin .append, args := #[.tmp 59, .tmp 61], argTypes := #[60, 60] }, 60, "ref.go:75", #[⟨4, .data⟩, ⟨6, .data⟩], none⟩) rfl (fun K hK => ?_) AllReadyG.nil
  obtain ⟨v7, U2, run7, kk7, d7, f7, ⟨a7, c7, e7⟩, F7⟩ := HG.out U1 g11 k1 A11
  subst e7
  refine step_app2 (by rfl) _ _ 60 60 (by rfl) _ _ (by rfl) (by rfl) run7 ?_
  refine hK.out _ _ (HS.out _ ((k1.mono (T := [g]) (fun z hz => by simp at hz)).trans kk7 (fun z hz => Or.inl hz))) (fun hHeld2 => ?_)
  clear hK K hHeld1
  try simp only [Act.put, pu1, pu2, pu3]
  refine g_pure 8 (oi := ⟨some 63, .nilCheck (.tmp 55), 0, "ref.go:75", #[⟨0, .data⟩, ⟨0, .phase⟩, ⟨1, .phase⟩, ⟨2, .phase⟩, ⟨3, .phase⟩, ⟨4, .phase⟩, ⟨5, .phase⟩, ⟨6, .phase⟩, ⟨7, .phase⟩], none⟩) (v := ?_) (Or.inl ⟨by rfl, ?_⟩) ?_
  rotate_left
  · (intro w; go_simp; try with_reducible rfl)
  simp only [Act.put, pu1, pu2, pu3]
  refine g_pure 9 (oi := ⟨some 64, .fieldAddr 62 (.tmp 63) 0, 0, "ref.go:75", #[⟨8, .data⟩, ⟨0, .phase⟩, ⟨1, .phase⟩, ⟨2, .phase⟩, ⟨3, .phase⟩, ⟨4, .phase⟩, ⟨5, .phase⟩, ⟨6, .phase⟩, ⟨7, .phase⟩], none⟩) (v := ?_) (Or.inl ⟨by rfl, ?_⟩) ?_
  rotate_left
  · (intro w; go_simp; try with_reducible rfl)
  simp only [Act.put, pu1, pu2, pu3]
  refine wpAnyG_free (by kernel_rfl) ?_
  refine wpAny_ready (rs := [10]) (by kernel_rfl) (by simp) ?_
  refine AllReady.cons (o := ⟨none, .store 60 (.tmp 64) (.tmp 62), 0, "ref.go:75", #[⟨9, .data⟩, ⟨7, .data⟩, ⟨7, .chain⟩, ⟨0, .phase⟩, ⟨1, .phase⟩, ⟨2, .phase⟩, ⟨3, .phase⟩, ⟨4, .phase⟩, ⟨5, .phase⟩, ⟨6, .phase⟩, ⟨7, .phase⟩], none⟩) rfl (fun K hK => ?_) AllReady.nil
  go_simp
  refine hK _ _ ?_
  clear hK K
  try simp only [Act.put, pu1, pu2, pu3]
  refine wpAny_done (by kernel_rfl) ?_ _
  have ZZ : Hid _ := F7
  clear F7 HS HG
  go_wp2
  go_ret2
  exact ⟨rfl, ZZ.out⟩

set_option maxRecDepth 100000 in
set_option maxHeartbeats 1000000 in
theorem rmk_svg (h : Dd tag w d g o c q A pl) (ful : A.Ful) (hn : A.n < 40000) (ns : Int) (name text : ByteArray) (l : List Att) (ao : Option Addr) (n' c' : Nat) (hr : Rp w ao n' c' l) (ha : n' ≤ 10000) (hns : ns = 2) (h0 : name.size ≠ 0) :
    Calls Tryz.prog 21 #[.pointer (some ⟨d, 0, none⟩), .int .i64 3, .int .i64 ns, .string name, .slice ao n' c', .string text] w fun e w' => e = .returned (.tuple #[.int .i64 (A.n : Int), .int .i64 0]) ∧ ∃ tag', Dn tag' w' d q (A.new (3, 2, name, uniq l, ⟨#[]⟩)) ∧ Dv tag w tag' w' := by
  have ok := ful.toOk
  subst hns
  have t9 : name.toList.isEmpty = false := ne_empty h0
  clear h0
  have hlt := h.lt
  have hdg := h.ne
  obtain ⟨W1, hW1⟩ : ∃ W, W = w.alloc (.cells #[.int .i64 3, .int .i64 0, .string ⟨#[]⟩, .string ⟨#[]⟩, .slice none 0 0, .slice none 0 0, .int .i64 (-1)] 59) := ⟨_, rfl⟩
  have kW1 : Kp [] w W1 := by rw [hW1]; exact (Kp.refl _ _).alloc _
  have aX1 : At W1 w.heap.size #[.int .i64 3, .int .i64 0, .string ⟨#[]⟩, .string ⟨#[]⟩, .slice none 0 0, .slice none 0 0, .int .i64 (-1)] 59 := by rw [hW1]; exact At.new _ _ _
  have HW1 : Hid (w.alloc (.cells #[.int .i64 3, .int .i64 0, .string ⟨#[]⟩, .string ⟨#[]⟩, .slice none 0 0, .slice none 0 0, .int .i64 (-1)] 59) = W1) := hW1.symm
  clear hW1
  have HU := ref_uniq_any W1 l ao n' c' (hr.kept kW1) ha
  clear hr
  have hgx : g ≠ w.heap.size := by omega
  go_enter Tryz.func21, Tryz.ntmps21
  go_upto_region 7 with fail
  rw [HW1.out]
  clear HW1
  go_upto_region 9 with fail
  go_wp2_with (go_at_call 57; refine HU.mono ?_; rintro e W2 ⟨a2, n2, c2, rfl, M2⟩; refine Hid.out ?_)
  unfold Hid
  have aX2 := aX1.kept M2.kp (by simp)
  obtain ⟨x0, x1, x2, x3, x4, x5, x6⟩ : W2.cell? ⟨w.heap.size, 0, none⟩ = some (.int .i64 3) ∧ W2.cell? ⟨w.heap.size, 1, none⟩ = some (.int .i64 0) ∧ W2.cell? ⟨w.heap.size, 2, none⟩ = some (.string ⟨#[]⟩) ∧ W2.cell? ⟨w.heap.size, 3, none⟩ = some (.string ⟨#[]⟩) ∧ W2.cell? ⟨w.heap.size, 4, none⟩ = some (.slice none 0 0) ∧ W2.cell? ⟨w.heap.size, 5, none⟩ = some (.slice none 0 0) ∧ W2.cell? ⟨w.heap.size, 6, none⟩ = some (.int .i64 (-1)) := ⟨aX2.cell 0, aX2.cell 1, aX2.cell 2, aX2.cell 3, aX2.cell 4, aX2.cell 5, aX2.cell 6⟩
  have fr := fun j => aX2.free j
  go_upto_region 12 with fail
  obtain ⟨W, hW⟩ : ∃ W, W = ((W2.setCell ⟨w.heap.size, 1, none⟩ (.int .i64 2)).setCell ⟨w.heap.size, 2, none⟩ (.string name)).setCell ⟨w.heap.size, 4, none⟩ (.slice a2 n2 c2) := ⟨_, rfl⟩
  rw [← hW]
  have kx : Kp [w.heap.size] W2 W := by rw [hW]; exact (((Kp.refl [w.heap.size] W2).setCell (Or.inl (by simp)) _).setCell (Or.inl (by simp)) _).setCell (Or.inl (by simp)) _
  have kW : Kp [] w W := (kW1.trans M2.kp (fun x hx => Or.inl hx)).trans kx (fun x hx => by rw [List.mem_singleton.1 hx]; exact Or.inr (Nat.le_refl _))
  have aX : At W w.heap.size #[.int .i64 3, .int .i64 2, .string name, .string ⟨#[]⟩, .slice a2 n2 c2, .slice none 0 0, .int .i64 (-1)] 59 := by rw [hW]; exact ((aX2.set 1 _).set 2 _).set 4 _
  have rA : Hid (Rk (fun x => w.heap.size ≤ x) 2 W a2 n2 c2 (cs (Lb.attrs (3, 2, name, uniq l, ⟨#[]⟩)))) := (M2.rk0 (Kp.refl [] W1)).keep (kx.sms (fun x hx hs => by rw [List.mem_singleton.1 hs] at hx; have := aX1.lt; omega)) |>.mono (fun x _ hx => by have := kW1.size; omega)
  clear hW kx x0 x1 x2 x3 x4 x5 x6 fr aX2 M2 HU aX1
  have HS : Hid (∀ V, Kp [g] W V → V.cell? ⟨d, 0, none⟩ = some (.slice (some ⟨g, o, none⟩) A.n c) ∧ V.cell? ⟨w.heap.size, 0, none⟩ = some (.int .i64 3) ∧ V.cell? ⟨w.heap.size, 1, none⟩ = some (.int .i64 2) ∧ V.cell? ⟨w.heap.size, 2, none⟩ = some (.string name) ∧ V.cell? ⟨w.heap.size, 3, none⟩ = some (.string ⟨#[]⟩) ∧ V.cell? ⟨w.heap.size, 4, none⟩ = some (.slice a2 n2 c2) ∧ V.cell? ⟨w.heap.size, 5, none⟩ = some (.slice none 0 0) ∧ V.cell? ⟨w.heap.size, 6, none⟩ = some (.int .i64 (-1))) := fun V kV => by
    have a7 := aX.kept kV (by simpa using Ne.symm hgx)
    exact ⟨((h.kept kW).hd.kept kV (by simpa using hdg)).cell 0, a7.cell 0, a7.cell 1, a7.cell 2, a7.cell 3, a7.cell 4, a7.cell 5, a7.cell 6⟩
  have HG : Hid (∀ V gb, Kp [] W V → At V gb #[.int .i64 3, .int .i64 2, .string name, .string ⟨#[]⟩, .slice a2 n2 c2, .slice none 0 0, .int .i64 (-1)] 59 → ∃ v' w2, (∀ ty, (Builtin.append_ #[60, 60] ty #[.slice (some ⟨g, o, none⟩) A.n c, .slice (some ⟨gb, 0, none⟩) 1 1]).run Tryz.prog V = .ok v' w2) ∧ Kp [g] V w2 ∧ w2.cell? ⟨d, 0, none⟩ = some (.slice (some ⟨g, o, none⟩) A.n c) ∧ w2.frozen? ⟨d, 0, none⟩ = false ∧ (∃ a c', v' = .slice (some a) (A.n + 1) c') ∧ ∃ tag', Dn tag' (w2.setCell ⟨d, 0, none⟩ v') d q (A.new (3, 2, name, uniq l, ⟨#[]⟩)) ∧ Dv tag w tag' (w2.setCell ⟨d, 0, none⟩ v')) := fun V gb kV aV =>
    rapp_run (pa := (a2, n2, c2)) (L := (3, 2, name, uniq l, ⟨#[]⟩)) (u := -1) h (kW.trans kV (fun x hx => Or.inl hx)) (by omega) aV (rA.out.keep (kV.sms (fun x _ hx => by simp at hx))) (Ar.oner_new ok _)
  clear h
  have c0 := (HS.out _ (Kp.refl _ _)).1
  go_upto_region 13 with fail
  clear c0
  obtain ⟨U0, hU0⟩ : ∃ V, V = W.drew := ⟨_, rfl⟩
  have k0 : Kp [] W U0 := by rw [hU0]; exact (Kp.refl _ _).drew
  refine wp_region_g (S := fun V => V.cell? ⟨d, 0, none⟩ = some (.slice (some ⟨g, o, none⟩) A.n c) ∧ V.cell? ⟨w.heap.size, 0, none⟩ = some (.int .i64 3) ∧ V.cell? ⟨w.heap.size, 1, none⟩ = some (.int .i64 2) ∧ V.cell? ⟨w.heap.size, 2, none⟩ = some (.string name) ∧ V.cell? ⟨w.heap.size, 3, none⟩ = some (.string ⟨#[]⟩) ∧ V.cell? ⟨w.heap.size, 4, none⟩ = some (.slice a2 n2 c2) ∧ V.cell? ⟨w.heap.size, 5, none⟩ = some (.slice none 0 0) ∧ V.cell? ⟨w.heap.size, 6, none⟩ = some (.int .i64 (-1))) (T := [10]) (by kernel_rfl) (HS.out _ ((Kp.refl _ _).drew)) (fun hHeld => ?_)
  rw [← hU0] at hHeld ⊢
  clear hU0
  refine g_pure 0 (oi := ⟨some 55, .move (.tmp 0), 24, "ref.go:75", #[], none⟩) (v := ?_) (Or.inl ⟨by rfl, ?_⟩) ?_
  rotate_left
  · (intro w; go_simp; try with_reducible rfl)
  simp only [Act.put, pu1, pu2, pu3]
  refine g_pure 1 (oi := ⟨some 56, .move (.tmp 0), 24, "ref.go:75", #[], none⟩) (v := ?_) (Or.inl ⟨by rfl, ?_⟩) ?_
  rotate_left
  · (intro w; go_simp; try with_reducible rfl)
  simp only [Act.put, pu1, pu2, pu3]
  refine g_pure 2 (oi := ⟨some 57, .nilCheck (.tmp 56), 0, "ref.go:75", #[⟨1, .data⟩], none⟩) (v := ?_) (Or.inl ⟨by rfl, ?_⟩) ?_
  rotate_left
  · (intro w; go_simp; try with_reducible rfl)
  simp only [Act.put, pu1, pu2, pu3]
  refine g_pure 3 (oi := ⟨some 58, .fieldAddr 62 (.tmp 57) 0, 0, "ref.go:75", #[⟨2, .data⟩], none⟩) (v := ?_) (Or.inl ⟨by rfl, ?_⟩) ?_
  rotate_left
  · (intro w; go_simp; try with_reducible rfl)
  simp only [Act.put, pu1, pu2, pu3]
  refine g_takeC 4 (oi := ⟨some 59, .load 60 (.tmp 58), 60, "ref.go:75", #[⟨3, .data⟩], none⟩) (v := ?_) (Or.inl ⟨by rfl, ?_⟩) ?_
  rotate_left
  · (intro w hSw; (obtain ⟨q, q0, q1, q2, q3, q4, q5, q6⟩ := hSw); go_simp; try with_reducible rfl)
  simp only [Act.put, pu1, pu2, pu3]
  refine g_takeC 5 (oi := ⟨some 60, .load 59 (.tmp 14), 59, "ref.go:75", #[], none⟩) (v := ?_) (Or.inl ⟨by rfl, ?_⟩) ?_
  rotate_left
  · (intro w hSw; (obtain ⟨q, q0, q1, q2, q3, q4, q5, q6⟩ := hSw); go_simp; try with_reducible rfl)
  simp only [Act.put, pu1, pu2, pu3]
  refine wpAnyG_ready (rs := [6]) (by kernel_rfl) (by simp) ?_
  refine AllReadyG.cons (o := ⟨some 61, .buildSlice 60 1 #[(0, .tmp 60)], 60, "ref.go:75", #[⟨5, .data⟩], none⟩) rfl (fun K hK => ?_) AllReadyG.nil
  go_simp
  obtain ⟨U1, hU⟩ : ∃ V, V = World.alloc U0 (.cells #[.int .i64 3, .int .i64 2, .string name, .string ⟨#[]⟩, .slice a2 n2 c2, .slice none 0 0, .int .i64 (-1)] 59) := ⟨_, rfl⟩
  rw [← hU]
  have u1 : Kp [] U0 U1 := by rw [hU]; exact (Kp.refl _ _).alloc _
  have k1 : Kp [] W U1 := k0.trans u1 (fun z hz => Or.inl hz)
  have A11 : At U1 U0.heap.size #[.int .i64 3, .int .i64 2, .string name, .string ⟨#[]⟩, .slice a2 n2 c2, .slice none 0 0, .int .i64 (-1)] 59 := by rw [hU]; exact At.new _ _ _
  obtain ⟨g11, hg11⟩ : ∃ g, U0.heap.size = g := ⟨_, rfl⟩
  rw [hg11] at A11 ⊢
  clear hU
  refine hK.out _ _ (HS.out _ (k1.mono (fun z hz => by simp at hz))) (fun hHeld1 => ?_)
  clear hK K hHeld
  try simp only [Act.put, pu1, pu2, pu3]
  refine wpAnyG_ready (rs := [7]) (by kernel_rfl) (by simp) ?_
  refine AllReadyG.cons (o := ⟨some 62, .call { callee := .builtin .append, args := #[.tmp 59, .tmp 61], argTypes := #[60, 60] }, 60, "ref.go:75", #[⟨4, .data⟩, ⟨6, .data⟩], none⟩) rfl (fun K hK => ?_) AllReadyG.nil
  obtain ⟨v7, U2, run7, kk7, d7, f7, ⟨a7, c7, e7⟩, F7⟩ := HG.out U1 g11 k1 A11
  subst e7
  refine step_app2 (by rfl) _ _ 60 60 (by rfl) _ _ (by rfl) (by rfl) run7 ?_
  refine hK.out _ _ (HS.out _ ((k1.mono (T := [g]) (fun z hz => by simp at hz)).trans kk7 (fun z hz => Or.inl hz))) (fun hHeld2 => ?_)
  clear hK K hHeld1
  try simp only [Act.put, pu1, pu2, pu3]
  refine g_pure 8 (oi := ⟨some 63, .nilCheck (.tmp 55), 0, "ref.go:75", #[⟨0, .data⟩, ⟨0, .phase⟩, ⟨1, .phase⟩, ⟨2, .phase⟩, ⟨3, .phase⟩, ⟨4, .phase⟩, ⟨5, .phase⟩, ⟨6, .phase⟩, ⟨7, .phase⟩], none⟩) (v := ?_) (Or.inl ⟨by rfl, ?_⟩) ?_
  rotate_left
  · (intro w; go_simp; try with_reducible rfl)
  simp only [Act.put, pu1, pu2, pu3]
  refine g_pure 9 (oi := ⟨some 64, .fieldAddr 62 (.tmp 63) 0, 0, "ref.go:75", #[⟨8, .data⟩, ⟨0, .phase⟩, ⟨1, .phase⟩, ⟨2, .phase⟩, ⟨3, .phase⟩, ⟨4, .phase⟩, ⟨5, .phase⟩, ⟨6, .phase⟩, ⟨7, .phase⟩], none⟩) (v := ?_) (Or.inl ⟨by rfl, ?_⟩) ?_
  rotate_left
  · (intro w; go_simp; try with_reducible rfl)
  simp only [Act.put, pu1, pu2, pu3]
  refine wpAnyG_free (by kernel_rfl) ?_
  refine wpAny_ready (rs := [10]) (by kernel_rfl) (by simp) ?_
  refine AllReady.cons (o := ⟨none, .store 60 (.tmp 64) (.tmp 62), 0, "ref.go:75", #[⟨9, .data⟩, ⟨7, .data⟩, ⟨7, .chain⟩, ⟨0, .phase⟩, ⟨1, .phase⟩, ⟨2, .phase⟩, ⟨3, .phase⟩, ⟨4, .phase⟩, ⟨5, .phase⟩, ⟨6, .phase⟩, ⟨7, .phase⟩], none⟩) rfl (fun K hK => ?_) AllReady.nil
  go_simp
  refine hK _ _ ?_
  clear hK K
  try simp only [Act.put, pu1, pu2, pu3]
  refine wpAny_done (by kernel_rfl) ?_ _
  have ZZ : Hid _ := F7
  clear F7 HS HG
  go_wp2
  go_ret2
  exact ⟨rfl, ZZ.out⟩

set_option maxRecDepth 100000 in
set_option maxHeartbeats 1000000 in
theorem rmk_tmpl (h : Dd tag w d g o c q A pl) (ful : A.Ful) (hn : A.n < 40000) (ns : Int) (name text : ByteArray) (l : List Att) (ao : Option Addr) (n' c' : Nat) (hr : Rp w ao n' c' l) (ha : n' ≤ 10000) (hns : ns = 1) (h0 : name.size ≠ 0) (ht : name = TMPL) :
    Calls Tryz.prog 21 #[.pointer (some ⟨d, 0, none⟩), .int .i64 3, .int .i64 ns, .string name, .slice ao n' c', .string text] w fun e w' => e = .returned (.tuple #[.int .i64 (A.n : Int), .int .i64 0]) ∧ ∃ tag', Dn tag' w' d q (A.newT (3, 1, name, uniq l, ⟨#[]⟩)) ∧ Dv tag w tag' w' := by
  have ok := ful.toOk
  subst hns
  have t9 : name.toList.isEmpty = false := ne_empty h0
  have t3 : (name.toList == [116, 101, 109, 112, 108, 97, 116, 101]) = true := by rw [ht, tmpl_list]; rfl
  clear ht
  clear h0
  have hlt := h.lt
  have hdg := h.ne
  obtain ⟨W1, hW1⟩ : ∃ W, W = w.alloc (.cells #[.int .i64 3, .int .i64 0, .string ⟨#[]⟩, .string ⟨#[]⟩, .slice none 0 0, .slice none 0 0, .int .i64 (-1)] 59) := ⟨_, rfl⟩
  have kW1 : Kp [] w W1 := by rw [hW1]; exact (Kp.refl _ _).alloc _
  have aX1 : At W1 w.heap.size #[.int .i64 3, .int .i64 0, .string ⟨#[]⟩, .string ⟨#[]⟩, .slice none 0 0, .slice none 0 0, .int .i64 (-1)] 59 := by rw [hW1]; exact At.new _ _ _
  have HW1 : Hid (w.alloc (.cells #[.int .i64 3, .int .i64 0, .string ⟨#[]⟩, .string ⟨#[]⟩, .slice none 0 0, .slice none 0 0, .int .i64 (-1)] 59) = W1) := hW1.symm
  clear hW1
  have HU := ref_uniq_any W1 l ao n' c' (hr.kept kW1) ha
  clear hr
  have hgx : g ≠ w.heap.size := by omega
  go_enter Tryz.func21, Tryz.ntmps21
  go_upto_region 7 with fail
  rw [HW1.out]
  clear HW1
  go_upto_region 9 with fail
  go_wp2_with (go_at_call 57; refine HU.mono ?_; rintro e W2 ⟨a2, n2, c2, rfl, M2⟩; refine Hid.out ?_)
  unfold Hid
  have aX2 := aX1.kept M2.kp (by simp)
  obtain ⟨x0, x1, x2, x3, x4, x5, x6⟩ : W2.cell? ⟨w.heap.size, 0, none⟩ = some (.int .i64 3) ∧ W2.cell? ⟨w.heap.size, 1, none⟩ = some (.int .i64 0) ∧ W2.cell? ⟨w.heap.size, 2, none⟩ = some (.string ⟨#[]⟩) ∧ W2.cell? ⟨w.heap.size, 3, none⟩ = some (.string ⟨#[]⟩) ∧ W2.cell? ⟨w.heap.size, 4, none⟩ = some (.slice none 0 0) ∧ W2.cell? ⟨w.heap.size, 5, none⟩ = some (.slice none 0 0) ∧ W2.cell? ⟨w.heap.size, 6, none⟩ = some (.int .i64 (-1)) := ⟨aX2.cell 0, aX2.cell 1, aX2.cell 2, aX2.cell 3, aX2.cell 4, aX2.cell 5, aX2.cell 6⟩
  have fr := fun j => aX2.free j
  go_upto_region 12 with fail
  obtain ⟨W, hW⟩ : ∃ W, W = ((W2.setCell ⟨w.heap.size, 1, none⟩ (.int .i64 1)).setCell ⟨w.heap.size, 2, none⟩ (.string name)).setCell ⟨w.heap.size, 4, none⟩ (.slice a2 n2 c2) := ⟨_, rfl⟩
  rw [← hW]
  have kx : Kp [w.heap.size] W2 W := by rw [hW]; exact (((Kp.refl [w.heap.size] W2).setCell (Or.inl (by simp)) _).setCell (Or.inl (by simp)) _).setCell (Or.inl (by simp)) _
  have kW : Kp [] w W := (kW1.trans M2.kp (fun x hx => Or.inl hx)).trans kx (fun x hx => by rw [List.mem_singleton.1 hx]; exact Or.inr (Nat.le_refl _))
  have aX : At W w.heap.size #[.int .i64 3, .int .i64 1, .string name, .string ⟨#[]⟩, .slice a2 n2 c2, .slice none 0 0, .int .i64 (-1)] 59 := by rw [hW]; exact ((aX2.set 1 _).set 2 _).set 4 _
  have rA : Hid (Rk (fun x => w.heap.size ≤ x) 2 W a2 n2 c2 (cs (Lb.attrs (3, 1, name, uniq l, ⟨#[]⟩)))) := (M2.rk0 (Kp.refl [] W1)).keep (kx.sms (fun x hx hs => by rw [List.mem_singleton.1 hs] at hx; have := aX1.lt; omega)) |>.mono (fun x _ hx => by have := kW1.size; omega)
  clear hW kx x0 x1 x2 x3 x4 x5 x6 fr aX2 M2 HU aX1
  have HS : Hid (∀ V, Kp [g] W V → V.cell? ⟨d, 0, none⟩ = some (.slice (some ⟨g, o, none⟩) A.n c) ∧ V.cell? ⟨w.heap.size, 0, none⟩ = some (.int .i64 3) ∧ V.cell? ⟨w.heap.size, 1, none⟩ = some (.int .i64 1) ∧ V.cell? ⟨w.heap.size, 2, none⟩ = some (.string name) ∧ V.cell? ⟨w.heap.size, 3, none⟩ = some (.string ⟨#[]⟩) ∧ V.cell? ⟨w.heap.size, 4, none⟩ = some (.slice a2 n2 c2) ∧ V.cell? ⟨w.heap.size, 5, none⟩ = some (.slice none 0 0) ∧ V.cell? ⟨w.heap.size, 6, none⟩ = some (.int .i64 (-1))) := fun V kV => by
    have a7 := aX.kept kV (by simpa using Ne.symm hgx)
    exact ⟨((h.kept kW).hd.kept kV (by simpa using hdg)).cell 0, a7.cell 0, a7.cell 1, a7.cell 2, a7.cell 3, a7.cell 4, a7.cell 5, a7.cell 6⟩
  have HG : Hid (∀ V gb, Kp [] W V → At V gb #[.int .i64 3, .int .i64 1, .string name, .string ⟨#[]⟩, .slice a2 n2 c2, .slice none 0 0, .int .i64 (-1)] 59 → ∃ v' w2, (∀ ty, (Builtin.append_ #[60, 60] ty #[.slice (some ⟨g, o, none⟩) A.n c, .slice (some ⟨gb, 0, none⟩) 1 1]).run Tryz.prog V = .ok v' w2) ∧ Kp [g] V w2 ∧ w2.cell? ⟨d, 0, none⟩ = some (.slice (some ⟨g, o, none⟩) A.n c) ∧ w2.frozen? ⟨d, 0, none⟩ = false ∧ (∃ a c', v' = .slice (some a) (A.n + 1) c') ∧ ∃ tag', Dn tag' (w2.setCell ⟨d, 0, none⟩ v') d q (A.new (3, 1, name, uniq l, ⟨#[]⟩)) ∧ Dv tag w tag' (w2.setCell ⟨d, 0, none⟩ v')) := fun V gb kV aV =>
    rapp_run (pa := (a2, n2, c2)) (L := (3, 1, name, uniq l, ⟨#[]⟩)) (u := -1) h (kW.trans kV (fun x hx => Or.inl hx)) (by omega) aV (rA.out.keep (kV.sms (fun x _ hx => by simp at hx))) (Ar.oner_new ok _)
  clear h
  have c0 := (HS.out _ (Kp.refl _ _)).1
  go_upto_region 13 with fail
  clear c0
  obtain ⟨U0, hU0⟩ : ∃ V, V = W.drew := ⟨_, rfl⟩
  have k0 : Kp [] W U0 := by rw [hU0]; exact (Kp.refl _ _).drew
  refine wp_region_g (S := fun V => V.cell? ⟨d, 0, none⟩ = some (.slice (some ⟨g, o, none⟩) A.n c) ∧ V.cell? ⟨w.heap.size, 0, none⟩ = some (.int .i64 3) ∧ V.cell? ⟨w.heap.size, 1, none⟩ = some (.int .i64 1) ∧ V.cell? ⟨w.heap.size, 2, none⟩ = some (.string name) ∧ V.cell? ⟨w.heap.size, 3, none⟩ = some (.string ⟨#[]⟩) ∧ V.cell? ⟨w.heap.size, 4, none⟩ = some (.slice a2 n2 c2) ∧ V.cell? ⟨w.heap.size, 5, none⟩ = some (.slice none 0 0) ∧ V.cell? ⟨w.heap.size, 6, none⟩ = some (.int .i64 (-1))) (T := [10]) (by kernel_rfl) (HS.out _ ((Kp.refl _ _).drew)) (fun hHeld => ?_)
  rw [← hU0] at hHeld ⊢
  clear hU0
  refine g_pure 0 (oi := ⟨some 55, .move (.tmp 0), 24, "ref.go:75", #[], none⟩) (v := ?_) (Or.inl ⟨by rfl, ?_⟩) ?_
  rotate_left
  · (intro w; go_simp; try with_reducible rfl)
  simp only [Act.put, pu1, pu2, pu3]
  refine g_pure 1 (oi := ⟨some 56, .move (.tmp 0), 24, "ref.go:75", #[], none⟩) (v := ?_) (Or.inl ⟨by rfl, ?_⟩) ?_
  rotate_left
  · (intro w; go_simp; try with_reducible rfl)
  simp only [Act.put, pu1, pu2, pu3]
  refine g_pure 2 (oi := ⟨some 57, .nilCheck (.tmp 56), 0, "ref.go:75", #[⟨1, .data⟩], none⟩) (v := ?_) (Or.inl ⟨by rfl, ?_⟩) ?_
  rotate_left
  · (intro w; go_simp; try with_reducible rfl)
  simp only [Act.put, pu1, pu2, pu3]
  refine g_pure 3 (oi := ⟨some 58, .fieldAddr 62 (.tmp 57) 0, 0, "ref.go:75", #[⟨2, .data⟩], none⟩) (v := ?_) (Or.inl ⟨by rfl, ?_⟩) ?_
  rotate_left
  · (intro w; go_simp; try with_reducible rfl)
  simp only [Act.put, pu1, pu2, pu3]
  refine g_takeC 4 (oi := ⟨some 59, .load 60 (.tmp 58), 60, "ref.go:75", #[⟨3, .data⟩], none⟩) (v := ?_) (Or.inl ⟨by rfl, ?_⟩) ?_
  rotate_left
  · (intro w hSw; (obtain ⟨q, q0, q1, q2, q3, q4, q5, q6⟩ := hSw); go_simp; try with_reducible rfl)
  simp only [Act.put, pu1, pu2, pu3]
  refine g_takeC 5 (oi := ⟨some 60, .load 59 (.tmp 14), 59, "ref.go:75", #[], none⟩) (v := ?_) (Or.inl ⟨by rfl, ?_⟩) ?_
  rotate_left
  · (intro w hSw; (obtain ⟨q, q0, q1, q2, q3, q4, q5, q6⟩ := hSw); go_simp; try with_reducible rfl)
  simp only [Act.put, pu1, pu2, pu3]
  refine wpAnyG_ready (rs := [6]) (by kernel_rfl) (by simp) ?_
  refine AllReadyG.cons (o := ⟨some 61, .buildSlice 60 1 #[(0, .tmp 60)], 60, "ref.go:75", #[⟨5, .data⟩], none⟩) rfl (fun K hK => ?_) AllReadyG.nil
  go_simp
  obtain ⟨U1, hU⟩ : ∃ V, V = World.alloc U0 (.cells #[.int .i64 3, .int .i64 1, .string name, .string ⟨#[]⟩, .slice a2 n2 c2, .slice none 0 0, .int .i64 (-1)] 59) := ⟨_, rfl⟩
  rw [← hU]
  have u1 : Kp [] U0 U1 := by rw [hU]; exact (Kp.refl _ _).alloc _
  have k1 : Kp [] W U1 := k0.trans u1 (fun z hz => Or.inl hz)
  have A11 : At U1 U0.heap.size #[.int .i64 3, .int .i64 1, .string name, .string ⟨#[]⟩, .slice a2 n2 c2, .slice none 0 0, .int .i64 (-1)] 59 := by rw [hU]; exact At.new _ _ _
  obtain ⟨g11, hg11⟩ : ∃ g, U0.heap.size = g := ⟨_, rfl⟩
  rw [hg11] at A11 ⊢
  clear hU
  refine hK.out _ _ (HS.out _ (k1.mono (fun z hz => by simp at hz))) (fun hHeld1 => ?_)
  clear hK K hHeld
  try simp only [Act.put, pu1, pu2, pu3]
  refine wpAnyG_ready (rs := [7]) (by kernel_rfl) (by simp) ?_
  refine AllReadyG.cons (o := ⟨some 62, .call { callee := .builtin .append, args := #[.tmp 59, .tmp 61], argTypes := #[60, 60] }, 60, "ref.go:75", #[⟨4, .data⟩, ⟨6, .data⟩], none⟩) rfl (fun K hK => ?_) AllReadyG.nil
  obtain ⟨v7, U2, run7, kk7, d7, f7, ⟨a7, c7, e7⟩, F7⟩ := HG.out U1 g11 k1 A11
  subst e7
  refine step_app2 (by rfl) _ _ 60 60 (by rfl) _ _ (by rfl) (by rfl) run7 ?_
  refine hK.out _ _ (HS.out _ ((k1.mono (T := [g]) (fun z hz => by simp at hz)).trans kk7 (fun z hz => Or.inl hz))) (fun hHeld2 => ?_)
  clear hK K hHeld1
  try simp only [Act.put, pu1, pu2, pu3]
  refine g_pure 8 (oi := ⟨some 63, .nilCheck (.tmp 55), 0, "ref.go:75", #[⟨0, .data⟩, ⟨0, .phase⟩, ⟨1, .phase⟩, ⟨2, .phase⟩, ⟨3, .phase⟩, ⟨4, .phase⟩, ⟨5, .phase⟩, ⟨6, .phase⟩, ⟨7, .phase⟩], none⟩) (v := ?_) (Or.inl ⟨by rfl, ?_⟩) ?_
  rotate_left
  · (intro w; go_simp; try with_reducible rfl)
  simp only [Act.put, pu1, pu2, pu3]
  refine g_pure 9 (oi := ⟨some 64, .fieldAddr 62 (.tmp 63) 0, 0, "ref.go:75", #[⟨8, .data⟩, ⟨0, .phase⟩, ⟨1, .phase⟩, ⟨2, .phase⟩, ⟨3, .phase⟩, ⟨4, .phase⟩, ⟨5, .phase⟩, ⟨6, .phase⟩, ⟨7, .phase⟩], none⟩) (v := ?_) (Or.inl ⟨by rfl, ?_⟩) ?_
  rotate_left
  · (intro w; go_simp; try with_reducible rfl)
  simp only [Act.put, pu1, pu2, pu3]
  refine wpAnyG_free (by kernel_rfl) ?_
  refine wpAny_ready (rs := [10]) (by kernel_rfl) (by simp) ?_
  refine AllReady.cons (o := ⟨none, .store 60 (.tmp 64) (.tmp 62), 0, "ref.go:75", #[⟨9, .data⟩, ⟨7, .data⟩, ⟨7, .chain⟩, ⟨0, .phase⟩, ⟨1, .phase⟩, ⟨2, .phase⟩, ⟨3, .phase⟩, ⟨4, .phase⟩, ⟨5, .phase⟩, ⟨6, .phase⟩, ⟨7, .phase⟩], none⟩) rfl (fun K hK => ?_) AllReady.nil
  go_simp
  refine hK _ _ ?_
  clear hK K
  try simp only [Act.put, pu1, pu2, pu3]
  refine wpAny_done (by kernel_rfl) ?_ _
  obtain ⟨tag3, D3, V3⟩ := F7
  obtain ⟨W3, hW3⟩ : ∃ V, V = U2.setCell ⟨d, 0, none⟩ (.slice (some a7) (A.n + 1) c7) := ⟨_, rfl⟩
  rw [← hW3] at D3 V3 ⊢
  clear hW3 d7 f7 kk7 run7 A11 k1 u1 HS HG
  obtain ⟨g3, o3, c3, pl3, h3⟩ := D3
  obtain ⟨W4, hW4⟩ : ∃ V, V = W3.alloc (.cells #[.int .i64 6, .int .i64 0, .string ⟨#[]⟩, .string ⟨#[]⟩, .slice none 0 0, .slice none 0 0, .int .i64 (A.n : Int)] 59) := ⟨_, rfl⟩
  have k4 : Kp [] W3 W4 := by rw [hW4]; exact (Kp.refl _ _).alloc _
  have a4 : At W4 W3.heap.size #[.int .i64 6, .int .i64 0, .string ⟨#[]⟩, .string ⟨#[]⟩, .slice none 0 0, .slice none 0 0, .int .i64 (A.n : Int)] 59 := by rw [hW4]; exact At.new _ _ _
  obtain ⟨v5, W5, run5, kk5, d5, f5, ⟨a5, c5, e5⟩, tag6, D6, V6⟩ := rapp_run (A' := A2 A (3, 1, name, uniq l, ⟨#[]⟩)) (pa := (none, 0, 0)) (L := (6, 0, ⟨#[]⟩, [], ⟨#[]⟩)) (u := (A.n : Int)) h3 k4 (show A.n + 1 < 50000 by omega) a4 (Rk.nil _ _ _ _ _) (a2_oner ok _)
  subst e5
  have c0 := h3.head.1
  rw [show (A.new (3, 1, name, uniq l, ⟨#[]⟩)).n = A.n + 1 from rfl] at run5 d5 c0 D6 V6
  rw [hW4] at run5
  clear hW4 a4
  obtain ⟨m, hm⟩ : ∃ m, A.n + 1 + 1 = m := ⟨_, rfl⟩
  rw [hm] at run5 D6 V6
  obtain ⟨W6, hW6⟩ : ∃ V, V = W5.setCell ⟨d, 0, none⟩ (.slice (some a5) m c5) := ⟨_, rfl⟩
  rw [← hW6] at D6 V6
  have HW6 : Hid (W5.setCell ⟨d, 0, none⟩ (.slice (some a5) m c5) = W6) := hW6.symm
  clear hW6
  have hD6 : Hid _ := D6
  have hV6 : Hid (Dv tag w tag6 W6) := V3.trans V6
  clear D6 V6 V3 h3 k4 kk5
  go_upto_region 16 with (at_builtin; refine Lib.wpList_append_run _ rfl _ _ _ _ rfl _ _ rfl rfl _ _ (run5 _) ?_)
  rw [HW6.out]
  clear HW6 run5 d5 f5 c0
  obtain ⟨g6, o6, c6, pl6, h6⟩ := hD6.out
  obtain ⟨W7, hW7⟩ : ∃ V, V = W6.alloc (.cells #[.int .i64 ((A.n : Int) + 1)] 3) := ⟨_, rfl⟩
  have k7 : Kp [] W6 W7 := by rw [hW7]; exact (Kp.refl _ _).alloc _
  have M7 : Made W6 W7 3 (some ⟨W6.heap.size, 0, none⟩) 1 1 (iv [A.n + 1]) := made_one hW7
  obtain ⟨P8, e8, _⟩ := h6.kids M7 (p := A.n) (x := A.n) (show A.n < A.n + 2 by omega) (show A.n < A.n + 2 by omega) none
  have HF : Hid (∃ tag', Dn tag' (W7.setCell ⟨g6, o6 + A.n * 7 + 5, none⟩ (.slice (some ⟨W6.heap.size, 0, none⟩) 1 1)) d q (A.newT (3, 1, name, uniq l, ⟨#[]⟩)) ∧ Dv tag w tag' (W7.setCell ⟨g6, o6 + A.n * 7 + 5, none⟩ (.slice (some ⟨W6.heap.size, 0, none⟩) 1 1))) := by
    obtain ⟨tag9, D9, V9⟩ := dn_turn h6 (kpg (k7.mono (T := [g6]) (fun x hx => by simp at hx)) _ _) ⟨P8, e8⟩
    refine ⟨tag9, ?_, hV6.out.trans V9⟩
    rw [a2_newT ok] at D9
    exact D9
  have c0 := h6.head.1
  have c5 := ((h6.kept k7).seven (i := A.n) (show A.n < A.n + 2 by omega)).2.2.2.2.2.1
  have fr := (h6.kept k7).free
  rw [show (A2 A (3, 1, name, uniq l, ⟨#[]⟩)).n = m from hm] at c0
  have c1 := (h6.kept k7).head.1
  rw [show (A2 A (3, 1, name, uniq l, ⟨#[]⟩)).n = m from hm] at c1
  rw [hW7] at HF c1 c5 fr
  clear hW7 k7 M7 e8 h6 hD6 hV6
  have j1 : (0 : Int) ≤ (A.n : Int) := by omega
  have j2 : (A.n : Int) < (m : Int) := by omega
  clear hm
  go_wp2
  go_ret2
  exact ⟨rfl, HF.out⟩


end

end Go.Proofs.YtgjkfpmhgidpaaaGreat
