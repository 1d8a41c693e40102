/-
  The walk of UtfJoins: whatever two rows of bytes and byte it is given, it answers true, and leaves what was there as it was.
-/
import Derived.Test.YtinafcajaikfdaaCat
namespace Go.Proofs.Ytinafcajaikfdaa
open Go.RowKit Utf

set_option maxHeartbeats 1000000 in
set_option maxRecDepth 100000 in
theorem joins_any (w : World) (ao : Option Addr) (n c : Nat) (vs : List Int) (bo : Option Addr) (m d : Nat) (bs : List Int) (x : Int) (h : Rb w ao n c (b8 vs)) (ha : byt vs) (k : Rb w bo m d (b8 bs)) (hb : byt bs) (x0 : 0 ≤ x) (x1 : x < 256) :
    Calls Try.prog 6 #[.slice ao n c, .slice bo m d, .int .u8 x] w fun e w' => e = .returned (.bool true) ∧ Kp [] w w' := by
  have HC := cut_any w ao n c 150 vs h
  have HD := cut_any w bo m d 150 bs k
  clear h k
  have ha2 := byt_take ha 150
  have hb2 := byt_take hb 150
  have hal : (vs.take 150).length ≤ 150 := by simp; omega
  have hbl : (bs.take 150).length ≤ 150 := by simp; omega
  generalize vs.take 150 = al at HC ha2 hal
  generalize bs.take 150 = bl at HD hb2 hbl
  have hand : bits .and .u8 x 127 = x % 128 := bits_mask .u8 8 (by decide) wraps_u8 7 (by decide) x x0 x1
  have y0 : 0 ≤ x % 128 := by omega
  have y1 : x % 128 < 128 := by omega
  clear ha hb
  go_enter Try.func6, Try.ntmps6
  go_wp2_with fail
  refine HC.mono ?_
  rintro e w1 ⟨⟨ao1, n1, c1, rfl, hn1, r1⟩, rfl⟩
  clear HC
  go_wp2_with fail
  refine HD.mono ?_
  rintro e w2 ⟨⟨bo1, m1, d1, rfl, hm1, s1⟩, rfl⟩
  clear HD
  have hln1 := r1.len
  have hlm1 := s1.len
  rw [b8_len] at hln1 hlm1
  have HN1 : Hid (n1 = al.length) := hln1
  clear hln1 hlm1
  have u5 : ∀ (v : Int) (u : Value), u ∈ (#[.int .u8 v] : Array Value).toList → u.oneCell' = true := fun v u hu => by simp at hu; subst hu; rfl
  have u21 : ∀ (v : Int) (u : Value), u ∈ (#[.int .i32 v] : Array Value).toList → u.oneCell' = true := fun v u hu => by simp at hu; subst hu; rfl
  obtain ⟨_, yn, yc, w3, hrun3, m3, ya, rfl⟩ := (Made.lit w2 5 #[] 0 rfl (by omega)).join Try.underlying23 info5 rfl (by decide) (r1.kept ((Kp.refl _ _).alloc _)) (b8_one _) (fun h => by cases h) (by simp; omega)
  obtain ⟨_, zn, zc, w4, hrun4, m4, za, rfl⟩ := m3.lits Try.underlying23 info5 rfl (by decide) #[.int .u8 (x % 128)] 1 rfl (by omega) (u5 _) (by simp [b8_len]; omega)
  obtain ⟨_, xn, xc, w5, hrun5, m5, xa, rfl⟩ := m4.join Try.underlying23 info5 rfl (by decide) (s1.kept m4.2.1) (b8_one _) (fun h => by cases h) (by simp [b8_len]; omega)
  have k5 := m5.2.1
  have hx5 : Rb w5 (some xa) xn xc (b8 (al ++ x % 128 :: bl)) := by
    have := m5.rb
    simpa [b8] using this
  have r5 := r1.kept k5
  have s5 := s1.kept k5
  clear m3 m4 m5 r1 s1
  go_wp2_with (at_builtin; refine Hid.out ?_)
  unfold Hid
  refine Lib.wpList_append_run _ rfl _ _ _ _ rfl _ _ rfl rfl _ _ (hrun3 _) ?_
  go_wp2_with (at_builtin; refine Hid.out ?_)
  unfold Hid
  refine Lib.wpList_append_run _ rfl _ _ _ _ rfl _ _ rfl rfl _ _ (hrun4 _) ?_
  go_wp2_with (at_builtin; refine Hid.out ?_)
  unfold Hid
  refine Lib.wpList_append_run _ rfl _ _ _ _ rfl _ _ rfl rfl _ _ (hrun5 _) ?_
  clear hrun3 hrun4 hrun5
  have ka : Kp [] w5 (w5.alloc (.cells #[] 21)) := (Kp.refl _ _).alloc _
  have l5 := Made.lit w5 21 #[] 0 rfl (by omega)
  have HD := decode_any _ _ _ _ al (r5.kept ka) ha2 (by omega)
  go_wp2_with fail
  generalize w5.alloc (.cells #[] 21) = w6 at ka l5 HD ⊢
  refine HD.mono ?_
  rintro e w7 ⟨da, dn, dc, rfl, md⟩
  clear HD ka
  have l7 := l5.kept md.2.1
  have hdn : dn ≤ 150 := by
    have e1 := md.rb.len
    rw [r32_len] at e1
    have e2 := dec_len _ al (Nat.le_refl _)
    omega
  have hdl : (dec al).length ≤ 150 := Nat.le_trans (dec_len _ al (Nat.le_refl _)) hal
  have hdm : (dec bl).length ≤ 150 := Nat.le_trans (dec_len _ bl (Nat.le_refl _)) hbl
  obtain ⟨_, en, ec, w8, hrun8, m8, ea, rfl⟩ := l7.join Try.underlying26 info21 rfl (by decide) md.rb (r32_one _) (fun h => by cases h) (by simp; omega)
  obtain ⟨_, fn, fc, w9, hrun9, m9, fa, rfl⟩ := m8.lits Try.underlying26 info21 rfl (by decide) #[.int .i32 (x % 128)] 1 rfl (by omega) (u21 _) (by simp [r32_len]; omega)
  have s9 := s5.kept m9.2.1
  clear l5 l7 md m8
  go_wp2_with (at_builtin; refine Hid.out ?_)
  unfold Hid
  refine Lib.wpList_append_run _ rfl _ _ _ _ rfl _ _ rfl rfl _ _ (hrun8 _) ?_
  go_wp2_with (at_builtin; refine Hid.out ?_)
  unfold Hid
  refine Lib.wpList_append_run _ rfl _ _ _ _ rfl _ _ rfl rfl _ _ (hrun9 _) ?_
  clear hrun8 hrun9
  have HD := decode_any _ _ _ _ bl s9 hb2 (by omega)
  go_wp2_with fail
  refine HD.mono ?_
  rintro e w10 ⟨ga, gn, gc, rfl, mg⟩
  clear HD s9
  have m10 := m9.kept mg.2.1
  have hgn : gn ≤ 150 := by
    have e1 := mg.rb.len
    rw [r32_len] at e1
    omega
  obtain ⟨_, hn, hc, w11, hrun11, m11, ha11, rfl⟩ := m10.join Try.underlying26 info21 rfl (by decide) mg.rb (r32_one _) (fun h => by cases h) (by simp [r32_len]; omega)
  have hx11 := hx5.kept m11.2.1
  have r11 := r5.kept m11.2.1
  have k11 := k5.trans m11.2.1 (fun x hx => by simp at hx)
  have want : Rb w11 (some ha11) hn hc (r32 (dec (al ++ x % 128 :: bl))) := by
    have := m11.rb
    rw [dec_join (x % 128) y1 bl _ al (Nat.le_refl _)]
    simpa [r32] using this
  clear m9 m10 mg m11 hx5 r5 s5 k5
  go_wp2_with (at_builtin; refine Hid.out ?_)
  unfold Hid
  refine Lib.wpList_append_run _ rfl _ _ _ _ rfl _ _ rfl rfl _ _ (hrun11 _) ?_
  clear hrun11
  have hbx : byt (al ++ x % 128 :: bl) := byt_append ha2 (fun y hy => by
    rcases List.mem_cons.1 hy with rfl | h1
    · omega
    · exact hb2 y h1)
  have hxn : xn ≤ 1000 := by
    have := hx11.len
    rw [b8_len] at this
    simp at this
    omega
  have HD := decode_any _ _ _ _ _ hx11 hbx (by omega)
  go_wp2_with fail
  refine HD.mono ?_
  rintro e w12 ⟨ia, im, ic, rfl, mi⟩
  have him : im ≤ 1000 := by
    have e1 := mi.rb.len
    rw [r32_len] at e1
    have e2 := dec_len _ (al ++ x % 128 :: bl) (Nat.le_refl _)
    simp at e2
    omega
  have HS := same_runes _ _ _ _ _ _ _ _ mi.rb (want.kept mi.2.1) (by omega)
  have r12 := r11.kept mi.2.1
  have k12 := k11.trans mi.2.1 (fun x hx => by simp at hx)
  clear HD want mi r11 k11 hx11
  go_wp2_with fail
  refine HS.mono ?_
  rintro e w13 ⟨rfl, kk⟩
  have r13 := r12.kept kk
  have k13 := k12.trans kk (fun x hx => by simp at hx)
  clear HS r12 k12 kk
  have HD := decode_any _ _ _ _ al r13 ha2 (by omega)
  go_wp2_with fail
  refine HD.mono ?_
  rintro e w14 ⟨ja, jn, jc, rfl, mj⟩
  have hjn : jn ≤ n1 := by
    have e1 := mj.rb.len
    rw [r32_len] at e1
    have e2 := dec_len _ al (Nat.le_refl _)
    have := HN1.out
    omega
  have k14 := k13.trans mj.2.1 (fun x hx => by simp at hx)
  clear HD mj r13 k13
  go_wp2_with fail
  refine (known_any _).mono ?_
  rintro e w15 ⟨rfl, kk⟩
  have k15 := k14.trans kk (fun x hx => by simp at hx)
  clear k14 kk
  go_wp2
  go_ret
  exact ⟨rfl, k15⟩

end Go.Proofs.Ytinafcajaikfdaa
