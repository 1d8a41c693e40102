/-
  The walk of NamesKinds: whatever it is given, it answers true, and leaves what was there as it was.
-/
import Derived.Test.YtpapdcnkbfmcpaaAgree
namespace Go.Proofs.Ytpapdcnkbfmcpaa
open Go.RowKit

/-- What the walk asks of kinds that are called in its one round. -/
theorem sorts_round (y : ByteArray) :
    ((has BLOCK y || (has HEAD y || has VOID y)) = true → special 1 y = true) ∧ (has IMPL y = true → thorough y = true) ∧ bound 2 y = point 2 y ∧ special 2 y = point 2 y ∧ point 1 y = false ∧ (has VOID y = true → raw y true = 1) ∧ (has FORM y = true → special 1 y = false) := by
  refine ⟨special_of y, fun h => by simp [thorough, h], by simp [bound], by simp [special], by simp [point], raw_void y, form_not y⟩

theorem ways (b1 b2 b3 sp fm : Bool) (r : Int) (t1 : (b1 || (b2 || b3)) = true → sp = true) (t6 : b3 = true → r = 1) (t7 : fm = true → sp = false) :
    (b1 = true ∧ sp = true ∧ fm = false ∧ (r != 1) = false) ∨ (b1 = true ∧ b3 = false ∧ sp = true ∧ fm = false ∧ (r != 1) = true) ∨ (b1 = false ∧ b2 = true ∧ sp = true ∧ fm = false ∧ (r != 1) = false) ∨ (b1 = false ∧ b2 = true ∧ b3 = false ∧ sp = true ∧ fm = false ∧ (r != 1) = true) ∨ (b1 = false ∧ b2 = false ∧ b3 = true ∧ sp = true ∧ fm = false ∧ (r != 1) = false) ∨ (b1 = false ∧ b2 = false ∧ b3 = false ∧ fm = false ∧ (r != 1) = false) ∨ (b1 = false ∧ b2 = false ∧ b3 = false ∧ fm = false ∧ (r != 1) = true) ∨ (b1 = false ∧ b2 = false ∧ b3 = false ∧ sp = false ∧ fm = true ∧ (r != 1) = false) ∨ (b1 = false ∧ b2 = false ∧ b3 = false ∧ sp = false ∧ fm = true ∧ (r != 1) = true) := by
  cases hr : (r != 1)
  · clear t6
    revert t1 t7
    cases b1 <;> cases b2 <;> cases b3 <;> cases sp <;> cases fm <;> simp
  · have h3 : b3 = false := by
      cases b3
      · rfl
      · rw [t6 rfl] at hr
        cases hr
    subst h3
    clear t6
    revert t1 t7
    cases b1 <;> cases b2 <;> cases sp <;> cases fm <;> simp

set_option maxHeartbeats 4000000 in
theorem sorts_any (w : World) (s0 : ByteArray) (i : Int) : Calls Try.prog 5 #[.string s0, .int .i64 i] w fun e w' => e = .returned (.bool true) ∧ Kp [] w w' := by
  have hsz := cut_size s0 30
  go_enter Try.func5, Try.ntmps5
  go_wp2_with fail
  refine (cut_any _ s0 30 (by omega)).mono ?_
  rintro e w1 ⟨rfl, rfl⟩
  generalize (if 30 < s0.size then s0.extract 0 30 else s0) = s at hsz ⊢
  go_wp2_with fail
  refine (names_any _ i).mono ?_
  rintro e w2 ⟨x, rfl, hx, k1⟩
  have HR := rb_lit w2 9 #[.string s, .string x] (tx [s, x]) 2 rfl rfl (by omega)
  have kw : Kp [] w1 (w2.alloc (.cells #[.string s, .string x] 9)) := k1.alloc _
  go_wp2
  generalize w2.alloc (.cells #[.string s, .string x] 9) = w3 at HR kw ⊢
  generalize some (⟨w2.heap.size, 0, none⟩ : Addr) = a1 at HR ⊢
  obtain ⟨zs, hz, hl, hb⟩ : ∃ zs : List ByteArray, [s, x] = zs ∧ zs.length = 2 ∧ ∀ z, z ∈ zs → z.size ≤ 1000 := ⟨_, rfl, rfl, fun z hz => by
    simp at hz
    rcases hz with rfl | rfl <;> omega⟩
  rw [hz] at HR
  clear hz k1 hsz hx
  go_loopw [13] (fun i wr => ∃ p : Nat, i = .int .i64 (p : Int) ∧ p ≤ 2 ∧ Kp [] w1 wr ∧ Rb wr a1 2 2 (tx zs)) (fun i _ => 2 - (intOf i).toNat)
  case atStart => exact ⟨0, rfl, by omega, kw, HR⟩
  case round =>
    obtain ⟨p, rfl, hp, kp, rp⟩ := hrel
    clear kw HR
    by_cases hlt : p < 2
    · obtain ⟨b, o, rfl, hc⟩ := rp.tx_at p (by rw [hl]; exact hlt)
      have hy := hb (zs[p]'(by rw [hl]; exact hlt)) (List.getElem_mem _)
      generalize zs[p]'(by rw [hl]; exact hlt) = y at hc hy
      clear hl hb
      obtain ⟨t1, t2, t3, t4, t5, t6, t7⟩ := sorts_round y
      have hf := fix_fix y
      have A12 := fun w => block_any w y
      have A13 := fun w => head_any w y
      have A14 := fun w => void_any w y
      have A15 := fun w => special_any w 1 y
      have A16 := fun w => impl_any w y
      have A17 := fun w => thorough_any w y
      have A18 := fun w => point_any w 2 y
      have B18 := fun w => point_any w 1 y
      have A19 := fun w => bound_any w 2 y
      have B15 := fun w => special_any w 2 y
      have A20 := fun w => fix_any w y (by omega)
      have B20 := fun w => fix_any w (fix y) (by have := fix_size y hy; omega)
      have A21 := fun w => raw_any w y true
      have A22 := fun w => form_any w y
      rw [t3] at A19
      rw [t4] at B15
      rw [t5] at B18
      rw [hf] at B20
      clear hf t3 t4 t5 hy
      generalize has BLOCK y = b1 at *
      generalize has HEAD y = b2 at *
      generalize has VOID y = b3 at *
      generalize special 1 y = sp at *
      generalize has IMPL y = im at *
      generalize thorough y = th at *
      generalize point 2 y = pt at *
      generalize fix y = f at *
      generalize raw y true = r at *
      generalize has FORM y = fm at *
      have HS : ∀ w', Kp [] wr w' → Kp [] w1 w' ∧ Rb w' (some ⟨b, o, none⟩) 2 2 (tx zs) := fun w' k => ⟨kp.trans k (fun x hx => by simp at hx), rp.kept k⟩
      have k0 := Kp.refl [] wr
      obtain ⟨HS⟩ : Nonempty (Hid (∀ w', Kp [] wr w' → Kp [] w1 w' ∧ Rb w' (some ⟨b, o, none⟩) 2 2 (tx zs))) := ⟨HS⟩
      clear kp rp
      have HC := ways b1 b2 b3 sp fm r t1 t6 t7
      have him : im = false ∨ (im = true ∧ th = true) := by
        cases im
        · exact Or.inl rfl
        · exact Or.inr ⟨rfl, t2 rfl⟩
      clear t1 t2 t6 t7
      rcases HC with ⟨rfl, rfl, rfl, hr⟩ | ⟨rfl, rfl, rfl, rfl, hr⟩ | ⟨rfl, rfl, rfl, rfl, hr⟩ | ⟨rfl, rfl, rfl, rfl, rfl, hr⟩ | ⟨rfl, rfl, rfl, rfl, rfl, hr⟩ | ⟨rfl, rfl, rfl, rfl, hr⟩ | ⟨rfl, rfl, rfl, rfl, hr⟩ | ⟨rfl, rfl, rfl, rfl, rfl, hr⟩ | ⟨rfl, rfl, rfl, rfl, rfl, hr⟩
      · rcases him with rfl | ⟨rfl, rfl⟩ <;> cases pt
        · as_aux_lemma =>
          go_wp2_with fail
          refine (A12 _).mono ?_
          rintro e wr ⟨rfl, rfl⟩
          go_wp2_with fail
          refine (A15 _).mono ?_
          rintro e wr ⟨rfl, rfl⟩
          go_wp2_with fail
          refine (A16 _).mono ?_
          rintro e wr ⟨rfl, rfl⟩
          go_wp2_with fail
          refine (A18 _).mono ?_
          rintro e wr ⟨rfl, rfl⟩
          go_wp2_with fail
          refine (B18 _).mono ?_
          rintro e wr ⟨rfl, rfl⟩
          go_wp2_with fail
          refine (from_back (A20 _) k0).mono ?_
          rintro e v1 ⟨rfl, k1⟩
          go_wp2_with fail
          refine (from_back (B20 _) k1).mono ?_
          rintro e v2 ⟨rfl, k2⟩
          go_wp2_with fail
          refine (from_back (A20 _) k2).mono ?_
          rintro e v3 ⟨rfl, k3⟩
          go_wp2_with fail
          refine (A21 _).mono ?_
          rintro e v3 ⟨rfl, rfl⟩
          go_wp2_with fail
          refine (A22 _).mono ?_
          rintro e v3 ⟨rfl, rfl⟩
          go_wp2
          go_roundw
          case rel => exact ⟨p + 1, by go_num, by omega, HS.out _ k3⟩
          case measure => simp [intOf]; omega
        · as_aux_lemma =>
          go_wp2_with fail
          refine (A12 _).mono ?_
          rintro e wr ⟨rfl, rfl⟩
          go_wp2_with fail
          refine (A15 _).mono ?_
          rintro e wr ⟨rfl, rfl⟩
          go_wp2_with fail
          refine (A16 _).mono ?_
          rintro e wr ⟨rfl, rfl⟩
          go_wp2_with fail
          refine (A18 _).mono ?_
          rintro e wr ⟨rfl, rfl⟩
          go_wp2_with fail
          refine (A19 _).mono ?_
          rintro e wr ⟨rfl, rfl⟩
          go_wp2_with fail
          refine (B15 _).mono ?_
          rintro e wr ⟨rfl, rfl⟩
          go_wp2_with fail
          refine (B18 _).mono ?_
          rintro e wr ⟨rfl, rfl⟩
          go_wp2_with fail
          refine (from_back (A20 _) k0).mono ?_
          rintro e v1 ⟨rfl, k1⟩
          go_wp2_with fail
          refine (from_back (B20 _) k1).mono ?_
          rintro e v2 ⟨rfl, k2⟩
          go_wp2_with fail
          refine (from_back (A20 _) k2).mono ?_
          rintro e v3 ⟨rfl, k3⟩
          go_wp2_with fail
          refine (A21 _).mono ?_
          rintro e v3 ⟨rfl, rfl⟩
          go_wp2_with fail
          refine (A22 _).mono ?_
          rintro e v3 ⟨rfl, rfl⟩
          go_wp2
          go_roundw
          case rel => exact ⟨p + 1, by go_num, by omega, HS.out _ k3⟩
          case measure => simp [intOf]; omega
        · as_aux_lemma =>
          go_wp2_with fail
          refine (A12 _).mono ?_
          rintro e wr ⟨rfl, rfl⟩
          go_wp2_with fail
          refine (A15 _).mono ?_
          rintro e wr ⟨rfl, rfl⟩
          go_wp2_with fail
          refine (A16 _).mono ?_
          rintro e wr ⟨rfl, rfl⟩
          go_wp2_with fail
          refine (A17 _).mono ?_
          rintro e wr ⟨rfl, rfl⟩
          go_wp2_with fail
          refine (A18 _).mono ?_
          rintro e wr ⟨rfl, rfl⟩
          go_wp2_with fail
          refine (B18 _).mono ?_
          rintro e wr ⟨rfl, rfl⟩
          go_wp2_with fail
          refine (from_back (A20 _) k0).mono ?_
          rintro e v1 ⟨rfl, k1⟩
          go_wp2_with fail
          refine (from_back (B20 _) k1).mono ?_
          rintro e v2 ⟨rfl, k2⟩
          go_wp2_with fail
          refine (from_back (A20 _) k2).mono ?_
          rintro e v3 ⟨rfl, k3⟩
          go_wp2_with fail
          refine (A21 _).mono ?_
          rintro e v3 ⟨rfl, rfl⟩
          go_wp2_with fail
          refine (A22 _).mono ?_
          rintro e v3 ⟨rfl, rfl⟩
          go_wp2
          go_roundw
          case rel => exact ⟨p + 1, by go_num, by omega, HS.out _ k3⟩
          case measure => simp [intOf]; omega
        · as_aux_lemma =>
          go_wp2_with fail
          refine (A12 _).mono ?_
          rintro e wr ⟨rfl, rfl⟩
          go_wp2_with fail
          refine (A15 _).mono ?_
          rintro e wr ⟨rfl, rfl⟩
          go_wp2_with fail
          refine (A16 _).mono ?_
          rintro e wr ⟨rfl, rfl⟩
          go_wp2_with fail
          refine (A17 _).mono ?_
          rintro e wr ⟨rfl, rfl⟩
          go_wp2_with fail
          refine (A18 _).mono ?_
          rintro e wr ⟨rfl, rfl⟩
          go_wp2_with fail
          refine (A19 _).mono ?_
          rintro e wr ⟨rfl, rfl⟩
          go_wp2_with fail
          refine (B15 _).mono ?_
          rintro e wr ⟨rfl, rfl⟩
          go_wp2_with fail
          refine (B18 _).mono ?_
          rintro e wr ⟨rfl, rfl⟩
          go_wp2_with fail
          refine (from_back (A20 _) k0).mono ?_
          rintro e v1 ⟨rfl, k1⟩
          go_wp2_with fail
          refine (from_back (B20 _) k1).mono ?_
          rintro e v2 ⟨rfl, k2⟩
          go_wp2_with fail
          refine (from_back (A20 _) k2).mono ?_
          rintro e v3 ⟨rfl, k3⟩
          go_wp2_with fail
          refine (A21 _).mono ?_
          rintro e v3 ⟨rfl, rfl⟩
          go_wp2_with fail
          refine (A22 _).mono ?_
          rintro e v3 ⟨rfl, rfl⟩
          go_wp2
          go_roundw
          case rel => exact ⟨p + 1, by go_num, by omega, HS.out _ k3⟩
          case measure => simp [intOf]; omega
      · rcases him with rfl | ⟨rfl, rfl⟩ <;> cases pt
        · as_aux_lemma =>
          go_wp2_with fail
          refine (A12 _).mono ?_
          rintro e wr ⟨rfl, rfl⟩
          go_wp2_with fail
          refine (A15 _).mono ?_
          rintro e wr ⟨rfl, rfl⟩
          go_wp2_with fail
          refine (A16 _).mono ?_
          rintro e wr ⟨rfl, rfl⟩
          go_wp2_with fail
          refine (A18 _).mono ?_
          rintro e wr ⟨rfl, rfl⟩
          go_wp2_with fail
          refine (B18 _).mono ?_
          rintro e wr ⟨rfl, rfl⟩
          go_wp2_with fail
          refine (from_back (A20 _) k0).mono ?_
          rintro e v1 ⟨rfl, k1⟩
          go_wp2_with fail
          refine (from_back (B20 _) k1).mono ?_
          rintro e v2 ⟨rfl, k2⟩
          go_wp2_with fail
          refine (from_back (A20 _) k2).mono ?_
          rintro e v3 ⟨rfl, k3⟩
          go_wp2_with fail
          refine (A21 _).mono ?_
          rintro e v3 ⟨rfl, rfl⟩
          go_wp2_with fail
          refine (A14 _).mono ?_
          rintro e v3 ⟨rfl, rfl⟩
          go_wp2_with fail
          refine (A22 _).mono ?_
          rintro e v3 ⟨rfl, rfl⟩
          go_wp2
          go_roundw
          case rel => exact ⟨p + 1, by go_num, by omega, HS.out _ k3⟩
          case measure => simp [intOf]; omega
        · as_aux_lemma =>
          go_wp2_with fail
          refine (A12 _).mono ?_
          rintro e wr ⟨rfl, rfl⟩
          go_wp2_with fail
          refine (A15 _).mono ?_
          rintro e wr ⟨rfl, rfl⟩
          go_wp2_with fail
          refine (A16 _).mono ?_
          rintro e wr ⟨rfl, rfl⟩
          go_wp2_with fail
          refine (A18 _).mono ?_
          rintro e wr ⟨rfl, rfl⟩
          go_wp2_with fail
          refine (A19 _).mono ?_
          rintro e wr ⟨rfl, rfl⟩
          go_wp2_with fail
          refine (B15 _).mono ?_
          rintro e wr ⟨rfl, rfl⟩
          go_wp2_with fail
          refine (B18 _).mono ?_
          rintro e wr ⟨rfl, rfl⟩
          go_wp2_with fail
          refine (from_back (A20 _) k0).mono ?_
          rintro e v1 ⟨rfl, k1⟩
          go_wp2_with fail
          refine (from_back (B20 _) k1).mono ?_
          rintro e v2 ⟨rfl, k2⟩
          go_wp2_with fail
          refine (from_back (A20 _) k2).mono ?_
          rintro e v3 ⟨rfl, k3⟩
          go_wp2_with fail
          refine (A21 _).mono ?_
          rintro e v3 ⟨rfl, rfl⟩
          go_wp2_with fail
          refine (A14 _).mono ?_
          rintro e v3 ⟨rfl, rfl⟩
          go_wp2_with fail
          refine (A22 _).mono ?_
          rintro e v3 ⟨rfl, rfl⟩
          go_wp2
          go_roundw
          case rel => exact ⟨p + 1, by go_num, by omega, HS.out _ k3⟩
          case measure => simp [intOf]; omega
        · as_aux_lemma =>
          go_wp2_with fail
          refine (A12 _).mono ?_
          rintro e wr ⟨rfl, rfl⟩
          go_wp2_with fail
          refine (A15 _).mono ?_
          rintro e wr ⟨rfl, rfl⟩
          go_wp2_with fail
          refine (A16 _).mono ?_
          rintro e wr ⟨rfl, rfl⟩
          go_wp2_with fail
          refine (A17 _).mono ?_
          rintro e wr ⟨rfl, rfl⟩
          go_wp2_with fail
          refine (A18 _).mono ?_
          rintro e wr ⟨rfl, rfl⟩
          go_wp2_with fail
          refine (B18 _).mono ?_
          rintro e wr ⟨rfl, rfl⟩
          go_wp2_with fail
          refine (from_back (A20 _) k0).mono ?_
          rintro e v1 ⟨rfl, k1⟩
          go_wp2_with fail
          refine (from_back (B20 _) k1).mono ?_
          rintro e v2 ⟨rfl, k2⟩
          go_wp2_with fail
          refine (from_back (A20 _) k2).mono ?_
          rintro e v3 ⟨rfl, k3⟩
          go_wp2_with fail
          refine (A21 _).mono ?_
          rintro e v3 ⟨rfl, rfl⟩
          go_wp2_with fail
          refine (A14 _).mono ?_
          rintro e v3 ⟨rfl, rfl⟩
          go_wp2_with fail
          refine (A22 _).mono ?_
          rintro e v3 ⟨rfl, rfl⟩
          go_wp2
          go_roundw
          case rel => exact ⟨p + 1, by go_num, by omega, HS.out _ k3⟩
          case measure => simp [intOf]; omega
        · as_aux_lemma =>
          go_wp2_with fail
          refine (A12 _).mono ?_
          rintro e wr ⟨rfl, rfl⟩
          go_wp2_with fail
          refine (A15 _).mono ?_
          rintro e wr ⟨rfl, rfl⟩
          go_wp2_with fail
          refine (A16 _).mono ?_
          rintro e wr ⟨rfl, rfl⟩
          go_wp2_with fail
          refine (A17 _).mono ?_
          rintro e wr ⟨rfl, rfl⟩
          go_wp2_with fail
          refine (A18 _).mono ?_
          rintro e wr ⟨rfl, rfl⟩
          go_wp2_with fail
          refine (A19 _).mono ?_
          rintro e wr ⟨rfl, rfl⟩
          go_wp2_with fail
          refine (B15 _).mono ?_
          rintro e wr ⟨rfl, rfl⟩
          go_wp2_with fail
          refine (B18 _).mono ?_
          rintro e wr ⟨rfl, rfl⟩
          go_wp2_with fail
          refine (from_back (A20 _) k0).mono ?_
          rintro e v1 ⟨rfl, k1⟩
          go_wp2_with fail
          refine (from_back (B20 _) k1).mono ?_
          rintro e v2 ⟨rfl, k2⟩
          go_wp2_with fail
          refine (from_back (A20 _) k2).mono ?_
          rintro e v3 ⟨rfl, k3⟩
          go_wp2_with fail
          refine (A21 _).mono ?_
          rintro e v3 ⟨rfl, rfl⟩
          go_wp2_with fail
          refine (A14 _).mono ?_
          rintro e v3 ⟨rfl, rfl⟩
          go_wp2_with fail
          refine (A22 _).mono ?_
          rintro e v3 ⟨rfl, rfl⟩
          go_wp2
          go_roundw
          case rel => exact ⟨p + 1, by go_num, by omega, HS.out _ k3⟩
          case measure => simp [intOf]; omega
      · rcases him with rfl | ⟨rfl, rfl⟩ <;> cases pt
        · as_aux_lemma =>
          go_wp2_with fail
          refine (A12 _).mono ?_
          rintro e wr ⟨rfl, rfl⟩
          go_wp2_with fail
          refine (A13 _).mono ?_
          rintro e wr ⟨rfl, rfl⟩
          go_wp2_with fail
          refine (A15 _).mono ?_
          rintro e wr ⟨rfl, rfl⟩
          go_wp2_with fail
          refine (A16 _).mono ?_
          rintro e wr ⟨rfl, rfl⟩
          go_wp2_with fail
          refine (A18 _).mono ?_
          rintro e wr ⟨rfl, rfl⟩
          go_wp2_with fail
          refine (B18 _).mono ?_
          rintro e wr ⟨rfl, rfl⟩
          go_wp2_with fail
          refine (from_back (A20 _) k0).mono ?_
          rintro e v1 ⟨rfl, k1⟩
          go_wp2_with fail
          refine (from_back (B20 _) k1).mono ?_
          rintro e v2 ⟨rfl, k2⟩
          go_wp2_with fail
          refine (from_back (A20 _) k2).mono ?_
          rintro e v3 ⟨rfl, k3⟩
          go_wp2_with fail
          refine (A21 _).mono ?_
          rintro e v3 ⟨rfl, rfl⟩
          go_wp2_with fail
          refine (A22 _).mono ?_
          rintro e v3 ⟨rfl, rfl⟩
          go_wp2
          go_roundw
          case rel => exact ⟨p + 1, by go_num, by omega, HS.out _ k3⟩
          case measure => simp [intOf]; omega
        · as_aux_lemma =>
          go_wp2_with fail
          refine (A12 _).mono ?_
          rintro e wr ⟨rfl, rfl⟩
          go_wp2_with fail
          refine (A13 _).mono ?_
          rintro e wr ⟨rfl, rfl⟩
          go_wp2_with fail
          refine (A15 _).mono ?_
          rintro e wr ⟨rfl, rfl⟩
          go_wp2_with fail
          refine (A16 _).mono ?_
          rintro e wr ⟨rfl, rfl⟩
          go_wp2_with fail
          refine (A18 _).mono ?_
          rintro e wr ⟨rfl, rfl⟩
          go_wp2_with fail
          refine (A19 _).mono ?_
          rintro e wr ⟨rfl, rfl⟩
          go_wp2_with fail
          refine (B15 _).mono ?_
          rintro e wr ⟨rfl, rfl⟩
          go_wp2_with fail
          refine (B18 _).mono ?_
          rintro e wr ⟨rfl, rfl⟩
          go_wp2_with fail
          refine (from_back (A20 _) k0).mono ?_
          rintro e v1 ⟨rfl, k1⟩
          go_wp2_with fail
          refine (from_back (B20 _) k1).mono ?_
          rintro e v2 ⟨rfl, k2⟩
          go_wp2_with fail
          refine (from_back (A20 _) k2).mono ?_
          rintro e v3 ⟨rfl, k3⟩
          go_wp2_with fail
          refine (A21 _).mono ?_
          rintro e v3 ⟨rfl, rfl⟩
          go_wp2_with fail
          refine (A22 _).mono ?_
          rintro e v3 ⟨rfl, rfl⟩
          go_wp2
          go_roundw
          case rel => exact ⟨p + 1, by go_num, by omega, HS.out _ k3⟩
          case measure => simp [intOf]; omega
        · as_aux_lemma =>
          go_wp2_with fail
          refine (A12 _).mono ?_
          rintro e wr ⟨rfl, rfl⟩
          go_wp2_with fail
          refine (A13 _).mono ?_
          rintro e wr ⟨rfl, rfl⟩
          go_wp2_with fail
          refine (A15 _).mono ?_
          rintro e wr ⟨rfl, rfl⟩
          go_wp2_with fail
          refine (A16 _).mono ?_
          rintro e wr ⟨rfl, rfl⟩
          go_wp2_with fail
          refine (A17 _).mono ?_
          rintro e wr ⟨rfl, rfl⟩
          go_wp2_with fail
          refine (A18 _).mono ?_
          rintro e wr ⟨rfl, rfl⟩
          go_wp2_with fail
          refine (B18 _).mono ?_
          rintro e wr ⟨rfl, rfl⟩
          go_wp2_with fail
          refine (from_back (A20 _) k0).mono ?_
          rintro e v1 ⟨rfl, k1⟩
          go_wp2_with fail
          refine (from_back (B20 _) k1).mono ?_
          rintro e v2 ⟨rfl, k2⟩
          go_wp2_with fail
          refine (from_back (A20 _) k2).mono ?_
          rintro e v3 ⟨rfl, k3⟩
          go_wp2_with fail
          refine (A21 _).mono ?_
          rintro e v3 ⟨rfl, rfl⟩
          go_wp2_with fail
          refine (A22 _).mono ?_
          rintro e v3 ⟨rfl, rfl⟩
          go_wp2
          go_roundw
          case rel => exact ⟨p + 1, by go_num, by omega, HS.out _ k3⟩
          case measure => simp [intOf]; omega
        · as_aux_lemma =>
          go_wp2_with fail
          refine (A12 _).mono ?_
          rintro e wr ⟨rfl, rfl⟩
          go_wp2_with fail
          refine (A13 _).mono ?_
          rintro e wr ⟨rfl, rfl⟩
          go_wp2_with fail
          refine (A15 _).mono ?_
          rintro e wr ⟨rfl, rfl⟩
          go_wp2_with fail
          refine (A16 _).mono ?_
          rintro e wr ⟨rfl, rfl⟩
          go_wp2_with fail
          refine (A17 _).mono ?_
          rintro e wr ⟨rfl, rfl⟩
          go_wp2_with fail
          refine (A18 _).mono ?_
          rintro e wr ⟨rfl, rfl⟩
          go_wp2_with fail
          refine (A19 _).mono ?_
          rintro e wr ⟨rfl, rfl⟩
          go_wp2_with fail
          refine (B15 _).mono ?_
          rintro e wr ⟨rfl, rfl⟩
          go_wp2_with fail
          refine (B18 _).mono ?_
          rintro e wr ⟨rfl, rfl⟩
          go_wp2_with fail
          refine (from_back (A20 _) k0).mono ?_
          rintro e v1 ⟨rfl, k1⟩
          go_wp2_with fail
          refine (from_back (B20 _) k1).mono ?_
          rintro e v2 ⟨rfl, k2⟩
          go_wp2_with fail
          refine (from_back (A20 _) k2).mono ?_
          rintro e v3 ⟨rfl, k3⟩
          go_wp2_with fail
          refine (A21 _).mono ?_
          rintro e v3 ⟨rfl, rfl⟩
          go_wp2_with fail
          refine (A22 _).mono ?_
          rintro e v3 ⟨rfl, rfl⟩
          go_wp2
          go_roundw
          case rel => exact ⟨p + 1, by go_num, by omega, HS.out _ k3⟩
          case measure => simp [intOf]; omega
      · rcases him with rfl | ⟨rfl, rfl⟩ <;> cases pt
        · as_aux_lemma =>
          go_wp2_with fail
          refine (A12 _).mono ?_
          rintro e wr ⟨rfl, rfl⟩
          go_wp2_with fail
          refine (A13 _).mono ?_
          rintro e wr ⟨rfl, rfl⟩
          go_wp2_with fail
          refine (A15 _).mono ?_
          rintro e wr ⟨rfl, rfl⟩
          go_wp2_with fail
          refine (A16 _).mono ?_
          rintro e wr ⟨rfl, rfl⟩
          go_wp2_with fail
          refine (A18 _).mono ?_
          rintro e wr ⟨rfl, rfl⟩
          go_wp2_with fail
          refine (B18 _).mono ?_
          rintro e wr ⟨rfl, rfl⟩
          go_wp2_with fail
          refine (from_back (A20 _) k0).mono ?_
          rintro e v1 ⟨rfl, k1⟩
          go_wp2_with fail
          refine (from_back (B20 _) k1).mono ?_
          rintro e v2 ⟨rfl, k2⟩
          go_wp2_with fail
          refine (from_back (A20 _) k2).mono ?_
          rintro e v3 ⟨rfl, k3⟩
          go_wp2_with fail
          refine (A21 _).mono ?_
          rintro e v3 ⟨rfl, rfl⟩
          go_wp2_with fail
          refine (A14 _).mono ?_
          rintro e v3 ⟨rfl, rfl⟩
          go_wp2_with fail
          refine (A22 _).mono ?_
          rintro e v3 ⟨rfl, rfl⟩
          go_wp2
          go_roundw
          case rel => exact ⟨p + 1, by go_num, by omega, HS.out _ k3⟩
          case measure => simp [intOf]; omega
        · as_aux_lemma =>
          go_wp2_with fail
          refine (A12 _).mono ?_
          rintro e wr ⟨rfl, rfl⟩
          go_wp2_with fail
          refine (A13 _).mono ?_
          rintro e wr ⟨rfl, rfl⟩
          go_wp2_with fail
          refine (A15 _).mono ?_
          rintro e wr ⟨rfl, rfl⟩
          go_wp2_with fail
          refine (A16 _).mono ?_
          rintro e wr ⟨rfl, rfl⟩
          go_wp2_with fail
          refine (A18 _).mono ?_
          rintro e wr ⟨rfl, rfl⟩
          go_wp2_with fail
          refine (A19 _).mono ?_
          rintro e wr ⟨rfl, rfl⟩
          go_wp2_with fail
          refine (B15 _).mono ?_
          rintro e wr ⟨rfl, rfl⟩
          go_wp2_with fail
          refine (B18 _).mono ?_
          rintro e wr ⟨rfl, rfl⟩
          go_wp2_with fail
          refine (from_back (A20 _) k0).mono ?_
          rintro e v1 ⟨rfl, k1⟩
          go_wp2_with fail
          refine (from_back (B20 _) k1).mono ?_
          rintro e v2 ⟨rfl, k2⟩
          go_wp2_with fail
          refine (from_back (A20 _) k2).mono ?_
          rintro e v3 ⟨rfl, k3⟩
          go_wp2_with fail
          refine (A21 _).mono ?_
          rintro e v3 ⟨rfl, rfl⟩
          go_wp2_with fail
          refine (A14 _).mono ?_
          rintro e v3 ⟨rfl, rfl⟩
          go_wp2_with fail
          refine (A22 _).mono ?_
          rintro e v3 ⟨rfl, rfl⟩
          go_wp2
          go_roundw
          case rel => exact ⟨p + 1, by go_num, by omega, HS.out _ k3⟩
          case measure => simp [intOf]; omega
        · as_aux_lemma =>
          go_wp2_with fail
          refine (A12 _).mono ?_
          rintro e wr ⟨rfl, rfl⟩
          go_wp2_with fail
          refine (A13 _).mono ?_
          rintro e wr ⟨rfl, rfl⟩
          go_wp2_with fail
          refine (A15 _).mono ?_
          rintro e wr ⟨rfl, rfl⟩
          go_wp2_with fail
          refine (A16 _).mono ?_
          rintro e wr ⟨rfl, rfl⟩
          go_wp2_with fail
          refine (A17 _).mono ?_
          rintro e wr ⟨rfl, rfl⟩
          go_wp2_with fail
          refine (A18 _).mono ?_
          rintro e wr ⟨rfl, rfl⟩
          go_wp2_with fail
          refine (B18 _).mono ?_
          rintro e wr ⟨rfl, rfl⟩
          go_wp2_with fail
          refine (from_back (A20 _) k0).mono ?_
          rintro e v1 ⟨rfl, k1⟩
          go_wp2_with fail
          refine (from_back (B20 _) k1).mono ?_
          rintro e v2 ⟨rfl, k2⟩
          go_wp2_with fail
          refine (from_back (A20 _) k2).mono ?_
          rintro e v3 ⟨rfl, k3⟩
          go_wp2_with fail
          refine (A21 _).mono ?_
          rintro e v3 ⟨rfl, rfl⟩
          go_wp2_with fail
          refine (A14 _).mono ?_
          rintro e v3 ⟨rfl, rfl⟩
          go_wp2_with fail
          refine (A22 _).mono ?_
          rintro e v3 ⟨rfl, rfl⟩
          go_wp2
          go_roundw
          case rel => exact ⟨p + 1, by go_num, by omega, HS.out _ k3⟩
          case measure => simp [intOf]; omega
        · as_aux_lemma =>
          go_wp2_with fail
          refine (A12 _).mono ?_
          rintro e wr ⟨rfl, rfl⟩
          go_wp2_with fail
          refine (A13 _).mono ?_
          rintro e wr ⟨rfl, rfl⟩
          go_wp2_with fail
          refine (A15 _).mono ?_
          rintro e wr ⟨rfl, rfl⟩
          go_wp2_with fail
          refine (A16 _).mono ?_
          rintro e wr ⟨rfl, rfl⟩
          go_wp2_with fail
          refine (A17 _).mono ?_
          rintro e wr ⟨rfl, rfl⟩
          go_wp2_with fail
          refine (A18 _).mono ?_
          rintro e wr ⟨rfl, rfl⟩
          go_wp2_with fail
          refine (A19 _).mono ?_
          rintro e wr ⟨rfl, rfl⟩
          go_wp2_with fail
          refine (B15 _).mono ?_
          rintro e wr ⟨rfl, rfl⟩
          go_wp2_with fail
          refine (B18 _).mono ?_
          rintro e wr ⟨rfl, rfl⟩
          go_wp2_with fail
          refine (from_back (A20 _) k0).mono ?_
          rintro e v1 ⟨rfl, k1⟩
          go_wp2_with fail
          refine (from_back (B20 _) k1).mono ?_
          rintro e v2 ⟨rfl, k2⟩
          go_wp2_with fail
          refine (from_back (A20 _) k2).mono ?_
          rintro e v3 ⟨rfl, k3⟩
          go_wp2_with fail
          refine (A21 _).mono ?_
          rintro e v3 ⟨rfl, rfl⟩
          go_wp2_with fail
          refine (A14 _).mono ?_
          rintro e v3 ⟨rfl, rfl⟩
          go_wp2_with fail
          refine (A22 _).mono ?_
          rintro e v3 ⟨rfl, rfl⟩
          go_wp2
          go_roundw
          case rel => exact ⟨p + 1, by go_num, by omega, HS.out _ k3⟩
          case measure => simp [intOf]; omega
      · rcases him with rfl | ⟨rfl, rfl⟩ <;> cases pt
        · as_aux_lemma =>
          go_wp2_with fail
          refine (A12 _).mono ?_
          rintro e wr ⟨rfl, rfl⟩
          go_wp2_with fail
          refine (A13 _).mono ?_
          rintro e wr ⟨rfl, rfl⟩
          go_wp2_with fail
          refine (A14 _).mono ?_
          rintro e wr ⟨rfl, rfl⟩
          go_wp2_with fail
          refine (A15 _).mono ?_
          rintro e wr ⟨rfl, rfl⟩
          go_wp2_with fail
          refine (A16 _).mono ?_
          rintro e wr ⟨rfl, rfl⟩
          go_wp2_with fail
          refine (A18 _).mono ?_
          rintro e wr ⟨rfl, rfl⟩
          go_wp2_with fail
          refine (B18 _).mono ?_
          rintro e wr ⟨rfl, rfl⟩
          go_wp2_with fail
          refine (from_back (A20 _) k0).mono ?_
          rintro e v1 ⟨rfl, k1⟩
          go_wp2_with fail
          refine (from_back (B20 _) k1).mono ?_
          rintro e v2 ⟨rfl, k2⟩
          go_wp2_with fail
          refine (from_back (A20 _) k2).mono ?_
          rintro e v3 ⟨rfl, k3⟩
          go_wp2_with fail
          refine (A21 _).mono ?_
          rintro e v3 ⟨rfl, rfl⟩
          go_wp2_with fail
          refine (A22 _).mono ?_
          rintro e v3 ⟨rfl, rfl⟩
          go_wp2
          go_roundw
          case rel => exact ⟨p + 1, by go_num, by omega, HS.out _ k3⟩
          case measure => simp [intOf]; omega
        · as_aux_lemma =>
          go_wp2_with fail
          refine (A12 _).mono ?_
          rintro e wr ⟨rfl, rfl⟩
          go_wp2_with fail
          refine (A13 _).mono ?_
          rintro e wr ⟨rfl, rfl⟩
          go_wp2_with fail
          refine (A14 _).mono ?_
          rintro e wr ⟨rfl, rfl⟩
          go_wp2_with fail
          refine (A15 _).mono ?_
          rintro e wr ⟨rfl, rfl⟩
          go_wp2_with fail
          refine (A16 _).mono ?_
          rintro e wr ⟨rfl, rfl⟩
          go_wp2_with fail
          refine (A18 _).mono ?_
          rintro e wr ⟨rfl, rfl⟩
          go_wp2_with fail
          refine (A19 _).mono ?_
          rintro e wr ⟨rfl, rfl⟩
          go_wp2_with fail
          refine (B15 _).mono ?_
          rintro e wr ⟨rfl, rfl⟩
          go_wp2_with fail
          refine (B18 _).mono ?_
          rintro e wr ⟨rfl, rfl⟩
          go_wp2_with fail
          refine (from_back (A20 _) k0).mono ?_
          rintro e v1 ⟨rfl, k1⟩
          go_wp2_with fail
          refine (from_back (B20 _) k1).mono ?_
          rintro e v2 ⟨rfl, k2⟩
          go_wp2_with fail
          refine (from_back (A20 _) k2).mono ?_
          rintro e v3 ⟨rfl, k3⟩
          go_wp2_with fail
          refine (A21 _).mono ?_
          rintro e v3 ⟨rfl, rfl⟩
          go_wp2_with fail
          refine (A22 _).mono ?_
          rintro e v3 ⟨rfl, rfl⟩
          go_wp2
          go_roundw
          case rel => exact ⟨p + 1, by go_num, by omega, HS.out _ k3⟩
          case measure => simp [intOf]; omega
        · as_aux_lemma =>
          go_wp2_with fail
          refine (A12 _).mono ?_
          rintro e wr ⟨rfl, rfl⟩
          go_wp2_with fail
          refine (A13 _).mono ?_
          rintro e wr ⟨rfl, rfl⟩
          go_wp2_with fail
          refine (A14 _).mono ?_
          rintro e wr ⟨rfl, rfl⟩
          go_wp2_with fail
          refine (A15 _).mono ?_
          rintro e wr ⟨rfl, rfl⟩
          go_wp2_with fail
          refine (A16 _).mono ?_
          rintro e wr ⟨rfl, rfl⟩
          go_wp2_with fail
          refine (A17 _).mono ?_
          rintro e wr ⟨rfl, rfl⟩
          go_wp2_with fail
          refine (A18 _).mono ?_
          rintro e wr ⟨rfl, rfl⟩
          go_wp2_with fail
          refine (B18 _).mono ?_
          rintro e wr ⟨rfl, rfl⟩
          go_wp2_with fail
          refine (from_back (A20 _) k0).mono ?_
          rintro e v1 ⟨rfl, k1⟩
          go_wp2_with fail
          refine (from_back (B20 _) k1).mono ?_
          rintro e v2 ⟨rfl, k2⟩
          go_wp2_with fail
          refine (from_back (A20 _) k2).mono ?_
          rintro e v3 ⟨rfl, k3⟩
          go_wp2_with fail
          refine (A21 _).mono ?_
          rintro e v3 ⟨rfl, rfl⟩
          go_wp2_with fail
          refine (A22 _).mono ?_
          rintro e v3 ⟨rfl, rfl⟩
          go_wp2
          go_roundw
          case rel => exact ⟨p + 1, by go_num, by omega, HS.out _ k3⟩
          case measure => simp [intOf]; omega
        · as_aux_lemma =>
          go_wp2_with fail
          refine (A12 _).mono ?_
          rintro e wr ⟨rfl, rfl⟩
          go_wp2_with fail
          refine (A13 _).mono ?_
          rintro e wr ⟨rfl, rfl⟩
          go_wp2_with fail
          refine (A14 _).mono ?_
          rintro e wr ⟨rfl, rfl⟩
          go_wp2_with fail
          refine (A15 _).mono ?_
          rintro e wr ⟨rfl, rfl⟩
          go_wp2_with fail
          refine (A16 _).mono ?_
          rintro e wr ⟨rfl, rfl⟩
          go_wp2_with fail
          refine (A17 _).mono ?_
          rintro e wr ⟨rfl, rfl⟩
          go_wp2_with fail
          refine (A18 _).mono ?_
          rintro e wr ⟨rfl, rfl⟩
          go_wp2_with fail
          refine (A19 _).mono ?_
          rintro e wr ⟨rfl, rfl⟩
          go_wp2_with fail
          refine (B15 _).mono ?_
          rintro e wr ⟨rfl, rfl⟩
          go_wp2_with fail
          refine (B18 _).mono ?_
          rintro e wr ⟨rfl, rfl⟩
          go_wp2_with fail
          refine (from_back (A20 _) k0).mono ?_
          rintro e v1 ⟨rfl, k1⟩
          go_wp2_with fail
          refine (from_back (B20 _) k1).mono ?_
          rintro e v2 ⟨rfl, k2⟩
          go_wp2_with fail
          refine (from_back (A20 _) k2).mono ?_
          rintro e v3 ⟨rfl, k3⟩
          go_wp2_with fail
          refine (A21 _).mono ?_
          rintro e v3 ⟨rfl, rfl⟩
          go_wp2_with fail
          refine (A22 _).mono ?_
          rintro e v3 ⟨rfl, rfl⟩
          go_wp2
          go_roundw
          case rel => exact ⟨p + 1, by go_num, by omega, HS.out _ k3⟩
          case measure => simp [intOf]; omega
      · rcases him with rfl | ⟨rfl, rfl⟩ <;> cases pt
        · as_aux_lemma =>
          go_wp2_with fail
          refine (A12 _).mono ?_
          rintro e wr ⟨rfl, rfl⟩
          go_wp2_with fail
          refine (A13 _).mono ?_
          rintro e wr ⟨rfl, rfl⟩
          go_wp2_with fail
          refine (A14 _).mono ?_
          rintro e wr ⟨rfl, rfl⟩
          go_wp2_with fail
          refine (A16 _).mono ?_
          rintro e wr ⟨rfl, rfl⟩
          go_wp2_with fail
          refine (A18 _).mono ?_
          rintro e wr ⟨rfl, rfl⟩
          go_wp2_with fail
          refine (B18 _).mono ?_
          rintro e wr ⟨rfl, rfl⟩
          go_wp2_with fail
          refine (from_back (A20 _) k0).mono ?_
          rintro e v1 ⟨rfl, k1⟩
          go_wp2_with fail
          refine (from_back (B20 _) k1).mono ?_
          rintro e v2 ⟨rfl, k2⟩
          go_wp2_with fail
          refine (from_back (A20 _) k2).mono ?_
          rintro e v3 ⟨rfl, k3⟩
          go_wp2_with fail
          refine (A21 _).mono ?_
          rintro e v3 ⟨rfl, rfl⟩
          go_wp2_with fail
          refine (A22 _).mono ?_
          rintro e v3 ⟨rfl, rfl⟩
          go_wp2
          go_roundw
          case rel => exact ⟨p + 1, by go_num, by omega, HS.out _ k3⟩
          case measure => simp [intOf]; omega
        · as_aux_lemma =>
          go_wp2_with fail
          refine (A12 _).mono ?_
          rintro e wr ⟨rfl, rfl⟩
          go_wp2_with fail
          refine (A13 _).mono ?_
          rintro e wr ⟨rfl, rfl⟩
          go_wp2_with fail
          refine (A14 _).mono ?_
          rintro e wr ⟨rfl, rfl⟩
          go_wp2_with fail
          refine (A16 _).mono ?_
          rintro e wr ⟨rfl, rfl⟩
          go_wp2_with fail
          refine (A18 _).mono ?_
          rintro e wr ⟨rfl, rfl⟩
          go_wp2_with fail
          refine (A19 _).mono ?_
          rintro e wr ⟨rfl, rfl⟩
          go_wp2_with fail
          refine (B15 _).mono ?_
          rintro e wr ⟨rfl, rfl⟩
          go_wp2_with fail
          refine (B18 _).mono ?_
          rintro e wr ⟨rfl, rfl⟩
          go_wp2_with fail
          refine (from_back (A20 _) k0).mono ?_
          rintro e v1 ⟨rfl, k1⟩
          go_wp2_with fail
          refine (from_back (B20 _) k1).mono ?_
          rintro e v2 ⟨rfl, k2⟩
          go_wp2_with fail
          refine (from_back (A20 _) k2).mono ?_
          rintro e v3 ⟨rfl, k3⟩
          go_wp2_with fail
          refine (A21 _).mono ?_
          rintro e v3 ⟨rfl, rfl⟩
          go_wp2_with fail
          refine (A22 _).mono ?_
          rintro e v3 ⟨rfl, rfl⟩
          go_wp2
          go_roundw
          case rel => exact ⟨p + 1, by go_num, by omega, HS.out _ k3⟩
          case measure => simp [intOf]; omega
        · as_aux_lemma =>
          go_wp2_with fail
          refine (A12 _).mono ?_
          rintro e wr ⟨rfl, rfl⟩
          go_wp2_with fail
          refine (A13 _).mono ?_
          rintro e wr ⟨rfl, rfl⟩
          go_wp2_with fail
          refine (A14 _).mono ?_
          rintro e wr ⟨rfl, rfl⟩
          go_wp2_with fail
          refine (A16 _).mono ?_
          rintro e wr ⟨rfl, rfl⟩
          go_wp2_with fail
          refine (A17 _).mono ?_
          rintro e wr ⟨rfl, rfl⟩
          go_wp2_with fail
          refine (A18 _).mono ?_
          rintro e wr ⟨rfl, rfl⟩
          go_wp2_with fail
          refine (B18 _).mono ?_
          rintro e wr ⟨rfl, rfl⟩
          go_wp2_with fail
          refine (from_back (A20 _) k0).mono ?_
          rintro e v1 ⟨rfl, k1⟩
          go_wp2_with fail
          refine (from_back (B20 _) k1).mono ?_
          rintro e v2 ⟨rfl, k2⟩
          go_wp2_with fail
          refine (from_back (A20 _) k2).mono ?_
          rintro e v3 ⟨rfl, k3⟩
          go_wp2_with fail
          refine (A21 _).mono ?_
          rintro e v3 ⟨rfl, rfl⟩
          go_wp2_with fail
          refine (A22 _).mono ?_
          rintro e v3 ⟨rfl, rfl⟩
          go_wp2
          go_roundw
          case rel => exact ⟨p + 1, by go_num, by omega, HS.out _ k3⟩
          case measure => simp [intOf]; omega
        · as_aux_lemma =>
          go_wp2_with fail
          refine (A12 _).mono ?_
          rintro e wr ⟨rfl, rfl⟩
          go_wp2_with fail
          refine (A13 _).mono ?_
          rintro e wr ⟨rfl, rfl⟩
          go_wp2_with fail
          refine (A14 _).mono ?_
          rintro e wr ⟨rfl, rfl⟩
          go_wp2_with fail
          refine (A16 _).mono ?_
          rintro e wr ⟨rfl, rfl⟩
          go_wp2_with fail
          refine (A17 _).mono ?_
          rintro e wr ⟨rfl, rfl⟩
          go_wp2_with fail
          refine (A18 _).mono ?_
          rintro e wr ⟨rfl, rfl⟩
          go_wp2_with fail
          refine (A19 _).mono ?_
          rintro e wr ⟨rfl, rfl⟩
          go_wp2_with fail
          refine (B15 _).mono ?_
          rintro e wr ⟨rfl, rfl⟩
          go_wp2_with fail
          refine (B18 _).mono ?_
          rintro e wr ⟨rfl, rfl⟩
          go_wp2_with fail
          refine (from_back (A20 _) k0).mono ?_
          rintro e v1 ⟨rfl, k1⟩
          go_wp2_with fail
          refine (from_back (B20 _) k1).mono ?_
          rintro e v2 ⟨rfl, k2⟩
          go_wp2_with fail
          refine (from_back (A20 _) k2).mono ?_
          rintro e v3 ⟨rfl, k3⟩
          go_wp2_with fail
          refine (A21 _).mono ?_
          rintro e v3 ⟨rfl, rfl⟩
          go_wp2_with fail
          refine (A22 _).mono ?_
          rintro e v3 ⟨rfl, rfl⟩
          go_wp2
          go_roundw
          case rel => exact ⟨p + 1, by go_num, by omega, HS.out _ k3⟩
          case measure => simp [intOf]; omega
      · rcases him with rfl | ⟨rfl, rfl⟩ <;> cases pt
        · as_aux_lemma =>
          go_wp2_with fail
          refine (A12 _).mono ?_
          rintro e wr ⟨rfl, rfl⟩
          go_wp2_with fail
          refine (A13 _).mono ?_
          rintro e wr ⟨rfl, rfl⟩
          go_wp2_with fail
          refine (A14 _).mono ?_
          rintro e wr ⟨rfl, rfl⟩
          go_wp2_with fail
          refine (A16 _).mono ?_
          rintro e wr ⟨rfl, rfl⟩
          go_wp2_with fail
          refine (A18 _).mono ?_
          rintro e wr ⟨rfl, rfl⟩
          go_wp2_with fail
          refine (B18 _).mono ?_
          rintro e wr ⟨rfl, rfl⟩
          go_wp2_with fail
          refine (from_back (A20 _) k0).mono ?_
          rintro e v1 ⟨rfl, k1⟩
          go_wp2_with fail
          refine (from_back (B20 _) k1).mono ?_
          rintro e v2 ⟨rfl, k2⟩
          go_wp2_with fail
          refine (from_back (A20 _) k2).mono ?_
          rintro e v3 ⟨rfl, k3⟩
          go_wp2_with fail
          refine (A21 _).mono ?_
          rintro e v3 ⟨rfl, rfl⟩
          go_wp2_with fail
          refine (A14 _).mono ?_
          rintro e v3 ⟨rfl, rfl⟩
          go_wp2_with fail
          refine (A22 _).mono ?_
          rintro e v3 ⟨rfl, rfl⟩
          go_wp2
          go_roundw
          case rel => exact ⟨p + 1, by go_num, by omega, HS.out _ k3⟩
          case measure => simp [intOf]; omega
        · as_aux_lemma =>
          go_wp2_with fail
          refine (A12 _).mono ?_
          rintro e wr ⟨rfl, rfl⟩
          go_wp2_with fail
          refine (A13 _).mono ?_
          rintro e wr ⟨rfl, rfl⟩
          go_wp2_with fail
          refine (A14 _).mono ?_
          rintro e wr ⟨rfl, rfl⟩
          go_wp2_with fail
          refine (A16 _).mono ?_
          rintro e wr ⟨rfl, rfl⟩
          go_wp2_with fail
          refine (A18 _).mono ?_
          rintro e wr ⟨rfl, rfl⟩
          go_wp2_with fail
          refine (A19 _).mono ?_
          rintro e wr ⟨rfl, rfl⟩
          go_wp2_with fail
          refine (B15 _).mono ?_
          rintro e wr ⟨rfl, rfl⟩
          go_wp2_with fail
          refine (B18 _).mono ?_
          rintro e wr ⟨rfl, rfl⟩
          go_wp2_with fail
          refine (from_back (A20 _) k0).mono ?_
          rintro e v1 ⟨rfl, k1⟩
          go_wp2_with fail
          refine (from_back (B20 _) k1).mono ?_
          rintro e v2 ⟨rfl, k2⟩
          go_wp2_with fail
          refine (from_back (A20 _) k2).mono ?_
          rintro e v3 ⟨rfl, k3⟩
          go_wp2_with fail
          refine (A21 _).mono ?_
          rintro e v3 ⟨rfl, rfl⟩
          go_wp2_with fail
          refine (A14 _).mono ?_
          rintro e v3 ⟨rfl, rfl⟩
          go_wp2_with fail
          refine (A22 _).mono ?_
          rintro e v3 ⟨rfl, rfl⟩
          go_wp2
          go_roundw
          case rel => exact ⟨p + 1, by go_num, by omega, HS.out _ k3⟩
          case measure => simp [intOf]; omega
        · as_aux_lemma =>
          go_wp2_with fail
          refine (A12 _).mono ?_
          rintro e wr ⟨rfl, rfl⟩
          go_wp2_with fail
          refine (A13 _).mono ?_
          rintro e wr ⟨rfl, rfl⟩
          go_wp2_with fail
          refine (A14 _).mono ?_
          rintro e wr ⟨rfl, rfl⟩
          go_wp2_with fail
          refine (A16 _).mono ?_
          rintro e wr ⟨rfl, rfl⟩
          go_wp2_with fail
          refine (A17 _).mono ?_
          rintro e wr ⟨rfl, rfl⟩
          go_wp2_with fail
          refine (A18 _).mono ?_
          rintro e wr ⟨rfl, rfl⟩
          go_wp2_with fail
          refine (B18 _).mono ?_
          rintro e wr ⟨rfl, rfl⟩
          go_wp2_with fail
          refine (from_back (A20 _) k0).mono ?_
          rintro e v1 ⟨rfl, k1⟩
          go_wp2_with fail
          refine (from_back (B20 _) k1).mono ?_
          rintro e v2 ⟨rfl, k2⟩
          go_wp2_with fail
          refine (from_back (A20 _) k2).mono ?_
          rintro e v3 ⟨rfl, k3⟩
          go_wp2_with fail
          refine (A21 _).mono ?_
          rintro e v3 ⟨rfl, rfl⟩
          go_wp2_with fail
          refine (A14 _).mono ?_
          rintro e v3 ⟨rfl, rfl⟩
          go_wp2_with fail
          refine (A22 _).mono ?_
          rintro e v3 ⟨rfl, rfl⟩
          go_wp2
          go_roundw
          case rel => exact ⟨p + 1, by go_num, by omega, HS.out _ k3⟩
          case measure => simp [intOf]; omega
        · as_aux_lemma =>
          go_wp2_with fail
          refine (A12 _).mono ?_
          rintro e wr ⟨rfl, rfl⟩
          go_wp2_with fail
          refine (A13 _).mono ?_
          rintro e wr ⟨rfl, rfl⟩
          go_wp2_with fail
          refine (A14 _).mono ?_
          rintro e wr ⟨rfl, rfl⟩
          go_wp2_with fail
          refine (A16 _).mono ?_
          rintro e wr ⟨rfl, rfl⟩
          go_wp2_with fail
          refine (A17 _).mono ?_
          rintro e wr ⟨rfl, rfl⟩
          go_wp2_with fail
          refine (A18 _).mono ?_
          rintro e wr ⟨rfl, rfl⟩
          go_wp2_with fail
          refine (A19 _).mono ?_
          rintro e wr ⟨rfl, rfl⟩
          go_wp2_with fail
          refine (B15 _).mono ?_
          rintro e wr ⟨rfl, rfl⟩
          go_wp2_with fail
          refine (B18 _).mono ?_
          rintro e wr ⟨rfl, rfl⟩
          go_wp2_with fail
          refine (from_back (A20 _) k0).mono ?_
          rintro e v1 ⟨rfl, k1⟩
          go_wp2_with fail
          refine (from_back (B20 _) k1).mono ?_
          rintro e v2 ⟨rfl, k2⟩
          go_wp2_with fail
          refine (from_back (A20 _) k2).mono ?_
          rintro e v3 ⟨rfl, k3⟩
          go_wp2_with fail
          refine (A21 _).mono ?_
          rintro e v3 ⟨rfl, rfl⟩
          go_wp2_with fail
          refine (A14 _).mono ?_
          rintro e v3 ⟨rfl, rfl⟩
          go_wp2_with fail
          refine (A22 _).mono ?_
          rintro e v3 ⟨rfl, rfl⟩
          go_wp2
          go_roundw
          case rel => exact ⟨p + 1, by go_num, by omega, HS.out _ k3⟩
          case measure => simp [intOf]; omega
      · rcases him with rfl | ⟨rfl, rfl⟩ <;> cases pt
        · as_aux_lemma =>
          go_wp2_with fail
          refine (A12 _).mono ?_
          rintro e wr ⟨rfl, rfl⟩
          go_wp2_with fail
          refine (A13 _).mono ?_
          rintro e wr ⟨rfl, rfl⟩
          go_wp2_with fail
          refine (A14 _).mono ?_
          rintro e wr ⟨rfl, rfl⟩
          go_wp2_with fail
          refine (A16 _).mono ?_
          rintro e wr ⟨rfl, rfl⟩
          go_wp2_with fail
          refine (A18 _).mono ?_
          rintro e wr ⟨rfl, rfl⟩
          go_wp2_with fail
          refine (B18 _).mono ?_
          rintro e wr ⟨rfl, rfl⟩
          go_wp2_with fail
          refine (from_back (A20 _) k0).mono ?_
          rintro e v1 ⟨rfl, k1⟩
          go_wp2_with fail
          refine (from_back (B20 _) k1).mono ?_
          rintro e v2 ⟨rfl, k2⟩
          go_wp2_with fail
          refine (from_back (A20 _) k2).mono ?_
          rintro e v3 ⟨rfl, k3⟩
          go_wp2_with fail
          refine (A21 _).mono ?_
          rintro e v3 ⟨rfl, rfl⟩
          go_wp2_with fail
          refine (A22 _).mono ?_
          rintro e v3 ⟨rfl, rfl⟩
          go_wp2_with fail
          refine (A15 _).mono ?_
          rintro e v3 ⟨rfl, rfl⟩
          go_wp2
          go_roundw
          case rel => exact ⟨p + 1, by go_num, by omega, HS.out _ k3⟩
          case measure => simp [intOf]; omega
        · as_aux_lemma =>
          go_wp2_with fail
          refine (A12 _).mono ?_
          rintro e wr ⟨rfl, rfl⟩
          go_wp2_with fail
          refine (A13 _).mono ?_
          rintro e wr ⟨rfl, rfl⟩
          go_wp2_with fail
          refine (A14 _).mono ?_
          rintro e wr ⟨rfl, rfl⟩
          go_wp2_with fail
          refine (A16 _).mono ?_
          rintro e wr ⟨rfl, rfl⟩
          go_wp2_with fail
          refine (A18 _).mono ?_
          rintro e wr ⟨rfl, rfl⟩
          go_wp2_with fail
          refine (A19 _).mono ?_
          rintro e wr ⟨rfl, rfl⟩
          go_wp2_with fail
          refine (B15 _).mono ?_
          rintro e wr ⟨rfl, rfl⟩
          go_wp2_with fail
          refine (B18 _).mono ?_
          rintro e wr ⟨rfl, rfl⟩
          go_wp2_with fail
          refine (from_back (A20 _) k0).mono ?_
          rintro e v1 ⟨rfl, k1⟩
          go_wp2_with fail
          refine (from_back (B20 _) k1).mono ?_
          rintro e v2 ⟨rfl, k2⟩
          go_wp2_with fail
          refine (from_back (A20 _) k2).mono ?_
          rintro e v3 ⟨rfl, k3⟩
          go_wp2_with fail
          refine (A21 _).mono ?_
          rintro e v3 ⟨rfl, rfl⟩
          go_wp2_with fail
          refine (A22 _).mono ?_
          rintro e v3 ⟨rfl, rfl⟩
          go_wp2_with fail
          refine (A15 _).mono ?_
          rintro e v3 ⟨rfl, rfl⟩
          go_wp2
          go_roundw
          case rel => exact ⟨p + 1, by go_num, by omega, HS.out _ k3⟩
          case measure => simp [intOf]; omega
        · as_aux_lemma =>
          go_wp2_with fail
          refine (A12 _).mono ?_
          rintro e wr ⟨rfl, rfl⟩
          go_wp2_with fail
          refine (A13 _).mono ?_
          rintro e wr ⟨rfl, rfl⟩
          go_wp2_with fail
          refine (A14 _).mono ?_
          rintro e wr ⟨rfl, rfl⟩
          go_wp2_with fail
          refine (A16 _).mono ?_
          rintro e wr ⟨rfl, rfl⟩
          go_wp2_with fail
          refine (A17 _).mono ?_
          rintro e wr ⟨rfl, rfl⟩
          go_wp2_with fail
          refine (A18 _).mono ?_
          rintro e wr ⟨rfl, rfl⟩
          go_wp2_with fail
          refine (B18 _).mono ?_
          rintro e wr ⟨rfl, rfl⟩
          go_wp2_with fail
          refine (from_back (A20 _) k0).mono ?_
          rintro e v1 ⟨rfl, k1⟩
          go_wp2_with fail
          refine (from_back (B20 _) k1).mono ?_
          rintro e v2 ⟨rfl, k2⟩
          go_wp2_with fail
          refine (from_back (A20 _) k2).mono ?_
          rintro e v3 ⟨rfl, k3⟩
          go_wp2_with fail
          refine (A21 _).mono ?_
          rintro e v3 ⟨rfl, rfl⟩
          go_wp2_with fail
          refine (A22 _).mono ?_
          rintro e v3 ⟨rfl, rfl⟩
          go_wp2_with fail
          refine (A15 _).mono ?_
          rintro e v3 ⟨rfl, rfl⟩
          go_wp2
          go_roundw
          case rel => exact ⟨p + 1, by go_num, by omega, HS.out _ k3⟩
          case measure => simp [intOf]; omega
        · as_aux_lemma =>
          go_wp2_with fail
          refine (A12 _).mono ?_
          rintro e wr ⟨rfl, rfl⟩
          go_wp2_with fail
          refine (A13 _).mono ?_
          rintro e wr ⟨rfl, rfl⟩
          go_wp2_with fail
          refine (A14 _).mono ?_
          rintro e wr ⟨rfl, rfl⟩
          go_wp2_with fail
          refine (A16 _).mono ?_
          rintro e wr ⟨rfl, rfl⟩
          go_wp2_with fail
          refine (A17 _).mono ?_
          rintro e wr ⟨rfl, rfl⟩
          go_wp2_with fail
          refine (A18 _).mono ?_
          rintro e wr ⟨rfl, rfl⟩
          go_wp2_with fail
          refine (A19 _).mono ?_
          rintro e wr ⟨rfl, rfl⟩
          go_wp2_with fail
          refine (B15 _).mono ?_
          rintro e wr ⟨rfl, rfl⟩
          go_wp2_with fail
          refine (B18 _).mono ?_
          rintro e wr ⟨rfl, rfl⟩
          go_wp2_with fail
          refine (from_back (A20 _) k0).mono ?_
          rintro e v1 ⟨rfl, k1⟩
          go_wp2_with fail
          refine (from_back (B20 _) k1).mono ?_
          rintro e v2 ⟨rfl, k2⟩
          go_wp2_with fail
          refine (from_back (A20 _) k2).mono ?_
          rintro e v3 ⟨rfl, k3⟩
          go_wp2_with fail
          refine (A21 _).mono ?_
          rintro e v3 ⟨rfl, rfl⟩
          go_wp2_with fail
          refine (A22 _).mono ?_
          rintro e v3 ⟨rfl, rfl⟩
          go_wp2_with fail
          refine (A15 _).mono ?_
          rintro e v3 ⟨rfl, rfl⟩
          go_wp2
          go_roundw
          case rel => exact ⟨p + 1, by go_num, by omega, HS.out _ k3⟩
          case measure => simp [intOf]; omega
      · rcases him with rfl | ⟨rfl, rfl⟩ <;> cases pt
        · as_aux_lemma =>
          go_wp2_with fail
          refine (A12 _).mono ?_
          rintro e wr ⟨rfl, rfl⟩
          go_wp2_with fail
          refine (A13 _).mono ?_
          rintro e wr ⟨rfl, rfl⟩
          go_wp2_with fail
          refine (A14 _).mono ?_
          rintro e wr ⟨rfl, rfl⟩
          go_wp2_with fail
          refine (A16 _).mono ?_
          rintro e wr ⟨rfl, rfl⟩
          go_wp2_with fail
          refine (A18 _).mono ?_
          rintro e wr ⟨rfl, rfl⟩
          go_wp2_with fail
          refine (B18 _).mono ?_
          rintro e wr ⟨rfl, rfl⟩
          go_wp2_with fail
          refine (from_back (A20 _) k0).mono ?_
          rintro e v1 ⟨rfl, k1⟩
          go_wp2_with fail
          refine (from_back (B20 _) k1).mono ?_
          rintro e v2 ⟨rfl, k2⟩
          go_wp2_with fail
          refine (from_back (A20 _) k2).mono ?_
          rintro e v3 ⟨rfl, k3⟩
          go_wp2_with fail
          refine (A21 _).mono ?_
          rintro e v3 ⟨rfl, rfl⟩
          go_wp2_with fail
          refine (A14 _).mono ?_
          rintro e v3 ⟨rfl, rfl⟩
          go_wp2_with fail
          refine (A22 _).mono ?_
          rintro e v3 ⟨rfl, rfl⟩
          go_wp2_with fail
          refine (A15 _).mono ?_
          rintro e v3 ⟨rfl, rfl⟩
          go_wp2
          go_roundw
          case rel => exact ⟨p + 1, by go_num, by omega, HS.out _ k3⟩
          case measure => simp [intOf]; omega
        · as_aux_lemma =>
          go_wp2_with fail
          refine (A12 _).mono ?_
          rintro e wr ⟨rfl, rfl⟩
          go_wp2_with fail
          refine (A13 _).mono ?_
          rintro e wr ⟨rfl, rfl⟩
          go_wp2_with fail
          refine (A14 _).mono ?_
          rintro e wr ⟨rfl, rfl⟩
          go_wp2_with fail
          refine (A16 _).mono ?_
          rintro e wr ⟨rfl, rfl⟩
          go_wp2_with fail
          refine (A18 _).mono ?_
          rintro e wr ⟨rfl, rfl⟩
          go_wp2_with fail
          refine (A19 _).mono ?_
          rintro e wr ⟨rfl, rfl⟩
          go_wp2_with fail
          refine (B15 _).mono ?_
          rintro e wr ⟨rfl, rfl⟩
          go_wp2_with fail
          refine (B18 _).mono ?_
          rintro e wr ⟨rfl, rfl⟩
          go_wp2_with fail
          refine (from_back (A20 _) k0).mono ?_
          rintro e v1 ⟨rfl, k1⟩
          go_wp2_with fail
          refine (from_back (B20 _) k1).mono ?_
          rintro e v2 ⟨rfl, k2⟩
          go_wp2_with fail
          refine (from_back (A20 _) k2).mono ?_
          rintro e v3 ⟨rfl, k3⟩
          go_wp2_with fail
          refine (A21 _).mono ?_
          rintro e v3 ⟨rfl, rfl⟩
          go_wp2_with fail
          refine (A14 _).mono ?_
          rintro e v3 ⟨rfl, rfl⟩
          go_wp2_with fail
          refine (A22 _).mono ?_
          rintro e v3 ⟨rfl, rfl⟩
          go_wp2_with fail
          refine (A15 _).mono ?_
          rintro e v3 ⟨rfl, rfl⟩
          go_wp2
          go_roundw
          case rel => exact ⟨p + 1, by go_num, by omega, HS.out _ k3⟩
          case measure => simp [intOf]; omega
        · as_aux_lemma =>
          go_wp2_with fail
          refine (A12 _).mono ?_
          rintro e wr ⟨rfl, rfl⟩
          go_wp2_with fail
          refine (A13 _).mono ?_
          rintro e wr ⟨rfl, rfl⟩
          go_wp2_with fail
          refine (A14 _).mono ?_
          rintro e wr ⟨rfl, rfl⟩
          go_wp2_with fail
          refine (A16 _).mono ?_
          rintro e wr ⟨rfl, rfl⟩
          go_wp2_with fail
          refine (A17 _).mono ?_
          rintro e wr ⟨rfl, rfl⟩
          go_wp2_with fail
          refine (A18 _).mono ?_
          rintro e wr ⟨rfl, rfl⟩
          go_wp2_with fail
          refine (B18 _).mono ?_
          rintro e wr ⟨rfl, rfl⟩
          go_wp2_with fail
          refine (from_back (A20 _) k0).mono ?_
          rintro e v1 ⟨rfl, k1⟩
          go_wp2_with fail
          refine (from_back (B20 _) k1).mono ?_
          rintro e v2 ⟨rfl, k2⟩
          go_wp2_with fail
          refine (from_back (A20 _) k2).mono ?_
          rintro e v3 ⟨rfl, k3⟩
          go_wp2_with fail
          refine (A21 _).mono ?_
          rintro e v3 ⟨rfl, rfl⟩
          go_wp2_with fail
          refine (A14 _).mono ?_
          rintro e v3 ⟨rfl, rfl⟩
          go_wp2_with fail
          refine (A22 _).mono ?_
          rintro e v3 ⟨rfl, rfl⟩
          go_wp2_with fail
          refine (A15 _).mono ?_
          rintro e v3 ⟨rfl, rfl⟩
          go_wp2
          go_roundw
          case rel => exact ⟨p + 1, by go_num, by omega, HS.out _ k3⟩
          case measure => simp [intOf]; omega
        · as_aux_lemma =>
          go_wp2_with fail
          refine (A12 _).mono ?_
          rintro e wr ⟨rfl, rfl⟩
          go_wp2_with fail
          refine (A13 _).mono ?_
          rintro e wr ⟨rfl, rfl⟩
          go_wp2_with fail
          refine (A14 _).mono ?_
          rintro e wr ⟨rfl, rfl⟩
          go_wp2_with fail
          refine (A16 _).mono ?_
          rintro e wr ⟨rfl, rfl⟩
          go_wp2_with fail
          refine (A17 _).mono ?_
          rintro e wr ⟨rfl, rfl⟩
          go_wp2_with fail
          refine (A18 _).mono ?_
          rintro e wr ⟨rfl, rfl⟩
          go_wp2_with fail
          refine (A19 _).mono ?_
          rintro e wr ⟨rfl, rfl⟩
          go_wp2_with fail
          refine (B15 _).mono ?_
          rintro e wr ⟨rfl, rfl⟩
          go_wp2_with fail
          refine (B18 _).mono ?_
          rintro e wr ⟨rfl, rfl⟩
          go_wp2_with fail
          refine (from_back (A20 _) k0).mono ?_
          rintro e v1 ⟨rfl, k1⟩
          go_wp2_with fail
          refine (from_back (B20 _) k1).mono ?_
          rintro e v2 ⟨rfl, k2⟩
          go_wp2_with fail
          refine (from_back (A20 _) k2).mono ?_
          rintro e v3 ⟨rfl, k3⟩
          go_wp2_with fail
          refine (A21 _).mono ?_
          rintro e v3 ⟨rfl, rfl⟩
          go_wp2_with fail
          refine (A14 _).mono ?_
          rintro e v3 ⟨rfl, rfl⟩
          go_wp2_with fail
          refine (A22 _).mono ?_
          rintro e v3 ⟨rfl, rfl⟩
          go_wp2_with fail
          refine (A15 _).mono ?_
          rintro e v3 ⟨rfl, rfl⟩
          go_wp2
          go_roundw
          case rel => exact ⟨p + 1, by go_num, by omega, HS.out _ k3⟩
          case measure => simp [intOf]; omega
    · go_wp2_with fail
      refine (known_any _).mono ?_
      rintro e w' ⟨rfl, rfl⟩
      go_wp2
      go_ret
      exact ⟨rfl, kp⟩

end Go.Proofs.Ytpapdcnkbfmcpaa
