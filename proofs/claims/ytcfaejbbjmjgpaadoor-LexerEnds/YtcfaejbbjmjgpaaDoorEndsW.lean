/-
  The walk of LexerEnds: whatever it is given, it answers true, and leaves what was there as it was.
-/
import Derived.Test.YtcfaejbbjmjgpaaDoorMarkd
namespace Go.Proofs.YtcfaejbbjmjgpaaDoor
open Go.RowKit Utf
set_option linter.unusedVariables false

set_option maxHeartbeats 1000000 in
set_option maxRecDepth 100000 in
theorem lgoes_any (w : World) (hn : Nm w) (hi : In w) (s0 : ByteArray) (ao : Option Addr) (n c : Nat) (F : Nat → Int) (hl : Is w ao n c F) : Calls Tryd.prog 3 #[.string s0, .slice ao n c] w fun e w' => e = .returned (.bool true) ∧ Kp [] w w' := by
  have hsz := cut_size s0 100
  have HS := fun W => cut_any W s0 100 (by omega)
  generalize (if 100 < s0.size then s0.extract 0 100 else s0) = s1 at HS hsz
  have HM := markup_any w ao n c F hl 20 (by omega)
  have HK := fun W (kk : Kp [] w W) => known_any W (hn.kept kk) (hi.kept kk)
  clear hl
  go_enter Tryd.func3, Tryd.ntmps3
  go_wp2_with fail
  refine (HS _).mono ?_
  rintro e w' ⟨rfl, rfl⟩
  clear HS
  rename World => w
  go_wp2_with fail
  refine HM.mono ?_
  rintro e w1 ⟨t, bo, m, d, rfl, ht, R, k1⟩
  clear HM
  have hcv := conv_text R
  have i7 : ¬ 9223372036854775807 < s1.size + t.size := by omega
  have hs : (s1 ++ t).size ≤ 900 := by rw [cat_size]; omega
  generalize hS : s1 ++ t = s at hs
  have HN := fun W => new_any W s
  clear R
  go_wp2_with fail
  clear hcv
  try rw [hS]
  refine (HN _).mono ?_
  rintro e w2 ⟨rfl, rfl⟩
  have L0 := Lx.new w1 s 0 1 false ⟨#[]⟩
  have k0 := k1.alloc (.cells #[.string s, .int .i64 ((0 : Nat) : Int), .int .i64 1, .bool false, .string ⟨#[]⟩] 44)
  have hbw : Hid (w.heap.size ≤ w1.heap.size) := k1.size
  generalize w1.alloc (.cells #[.string s, .int .i64 ((0 : Nat) : Int), .int .i64 1, .bool false, .string ⟨#[]⟩] 44) = W1 at L0 k0 ⊢
  generalize w1.heap.size = b at L0 hbw ⊢
  clear HN k1 hS i7
  go_wp2_with fail
  go_loopw [6] (fun i wr => ∃ (k p : Nat) (md : Int) (ln : ByteArray), i = .int .i64 (k : Int) ∧ k ≤ p ∧ p ≤ s.size ∧ Kp [] w wr ∧ Lx wr b s p md false ln ∧ Hid (mdOk md ∧ nmOk ln)) (fun i _ => s.size + 1 - (intOf i).toNat)
  case atStart => exact ⟨0, 0, 1, ⟨#[]⟩, rfl, Nat.le_refl _, Nat.zero_le _, k0, L0, one_ok, none_ok⟩
  case round =>
    obtain ⟨k, p, md, ln, rfl, p1, p2, kr, Lr, hI⟩ := hrel
    obtain ⟨hm, hnm⟩ := hI.out
    clear L0 k0 hI
    have HA := at_any wr b s p md false ln Lr
    have E : Ev w wr b := ⟨kr, hbw.out, hn, hi⟩
    have HX := next_any w wr b E s p md false ln Lr p2 (by omega) hm hnm
    obtain ⟨htd, hm2, hl2⟩ := next_told (s := s) (fg := false) p2 hm hnm
    obtain ⟨T, hT⟩ : ∃ T, nextF s md false ln p = T := ⟨_, rfl⟩
    rw [hT] at HX htd hm2 hl2
    obtain ⟨⟨tk, tx', tl, tb, ty⟩, te, tm, tn⟩ := T
    unfold tv at HX
    simp only [] at HX htd hm2 hl2
    have hle : (k : Int) ≤ (s.size : Int) := by omega
    clear hT
    go_wp2_with fail
    refine HA.mono ?_
    rintro e w3 ⟨rfl, rfl⟩
    clear HA
    go_wp2_with fail
    refine HX.mono ?_
    rintro e v1 ⟨a2, n2, c2, rfl, N1⟩
    clear HX
    have N2 := N1.keep ((Kp.refl [] v1).alloc (.cells #[.int .i64 tk, .string tx', .slice a2 n2 c2, .bool tb, .string ty] 31))
    have B2 := At.new v1 #[.int .i64 tk, .string tx', .slice a2 n2 c2, .bool tb, .string ty] 31
    have kz : Kp [] w (v1.alloc (.cells #[.int .i64 tk, .string tx', .slice a2 n2 c2, .bool tb, .string ty] 31)) := kr.trans N2.kp (fun z hz => Or.inr (by have := hbw.out; simp at hz; omega))
    obtain ⟨x0, x1, x2, x3, x4⟩ := B2.cells5
    have HA2 := fun W (LW : Lx W b s te tm false tn) => at_any W b s te tm false tn LW
    have L2 := N2.lx
    have hhi := htd.hi
    by_cases h6 : tk = 6
    · subst h6
      obtain rfl : te = s.size := by
        rcases htd.go with g | g
        · exact g.2
        · exact absurd rfl g.1
      have E2 : Ev w _ b := ⟨kz, hbw.out, hn, hi⟩
      have HX2 := next_any w _ b E2 s s.size tm false tn L2 (Nat.le_refl _) (by omega) hm2 hl2
      rw [nextF_end (Nat.le_refl _)] at HX2
      unfold tv eofT at HX2
      simp only [] at HX2
      have hbb : ((s.size : Int) == (s.size : Int)) = true := by simp
      clear E htd hm hnm hm2 hl2 N1 N2 B2 kr Lr E2
      go_wp2_with fail
      refine (HA2 _ L2).mono ?_
      rintro e w4 ⟨rfl, rfl⟩
      clear HA2
      go_wp2_with fail
      refine HX2.mono ?_
      rintro e v4 ⟨a5, n5, c5, rfl, N5⟩
      clear HX2 x0 x1 x2 x3 x4
      have k5 : Kp [] w v4 := kz.trans N5.kp (fun z hz => Or.inr (by have := hbw.out; simp at hz; omega))
      have HK := HK _ k5
      have hfd : ∀ W : World, (Instr.field 31 (.agg #[.int .i64 6, .string ⟨#[]⟩, .slice a5 n5 c5, .bool false, .string ⟨#[]⟩]) 0).run Tryd.prog W = .ok (.int .i64 6) W := fun _ => by kernel_rfl
      clear N5 L2
      go_wp2_with fail
      refine (from_back HK k5).mono ?_
      rintro e w6 ⟨rfl, k6⟩
      clear HK
      go_wp2
      go_ret
      exact ⟨rfl, k6⟩
    · have b6 : (tk == 6) = false := by simpa using h6
      obtain ⟨hgo, hr⟩ : p < te ∧ right (tk, tx', tl, tb, ty) = true := by
        rcases htd.go with g | g
        · exact absurd (congrArg Prod.fst g.1) h6
        · exact g.2
      have hRp := Rp.of_own N2.own
      have hlen := hRp.len
      have htl := htd.len
      have htn := htd.name
      have htf := htd.fit (by omega)
      simp only at htl htn htf
      have HR := right_any _ tk tx' ty tl tb a2 n2 c2 hRp (by omega) htf (by omega)
      rw [hr] at HR
      unfold tv at HR
      have d1 : ¬ (te : Int) ≤ (p : Int) := by omega
      have d2 : ¬ (s.size : Int) < (te : Int) := by omega
      have hZ : Hid (mdOk tm ∧ nmOk tn) := ⟨hm2, hl2⟩
      have hbb := hbw.out
      clear E htd hm hnm hm2 hl2 N1 N2 B2 kr Lr HK hRp hlen htl htn htf hr h6
      go_wp2_with fail
      refine (HA2 _ L2).mono ?_
      rintro e w4 ⟨rfl, rfl⟩
      go_wp2_with fail
      refine (HA2 _ L2).mono ?_
      rintro e w4 ⟨rfl, rfl⟩
      clear HA2
      go_wp2_with fail
      refine HR.mono ?_
      rintro e w6 ⟨rfl, k6⟩
      clear HR
      have L6 := L2.kept k6 (by simp)
      have k7 := kz.trans k6 (fun z hz => by simp at hz)
      clear L2 x0 x1 x2 x3 x4 kz k6
      go_wp2
      go_roundw
      case rel => exact ⟨k + 1, te, tm, tn, by go_num, by omega, hhi, k7, L6, hZ.out⟩
      case measure => simp [intOf]; omega

end Go.Proofs.YtcfaejbbjmjgpaaDoor
