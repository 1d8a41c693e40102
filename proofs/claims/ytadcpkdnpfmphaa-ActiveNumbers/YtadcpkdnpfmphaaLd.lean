/-
  hasFirst and alike of the program.
-/
import Derived.Test.YtadcpkdnpfmphaaLc
import Derived.Test.YtadcpkdnpfmphaaAlk
import Derived.Deep.QuietTactic
namespace Go.Proofs.Ytadcpkdnpfmphaa.Ints
open Go.RowKit
set_option linter.unusedSimpArgs false

set_option maxHeartbeats 1000000 in
theorem has_any (w : World) (l a : List Att) (ao bo : Option Addr) (n c p d : Nat) (hr : Rp w ao n c l) (hs : Rp w bo p d a) (hl : n ≤ 1000) (hm : p ≤ 1000) :
    Calls Try.prog 51 #[.slice ao n c, .slice bo p d] w fun e w' => e = .returned (.bool (hfst l a)) ∧ Kp [] w w' := by
  obtain rfl := hr.len
  obtain rfl := hs.len
  cases a with
  | nil =>
    have e1 : hfst l [] = ((l.length : Int) == 0) := by
      cases l with
      | nil => rfl
      | cons x l => simp [hfst]; omega
    rw [e1]
    clear hr hs
    simp only [List.length_nil]
    go_enter Try.func51, Try.ntmps51
    go_wp2
    go_ret
    exact ⟨rfl, Kp.refl _ _⟩
  | cons x a =>
    obtain ⟨b0, o0, rfl, h1, h2⟩ := hs.get 0 (by simp)
    simp only [List.getElem_cons_zero, Nat.zero_mul, Nat.add_zero] at h1 h2
    have hpos : (((x :: a).length : Int) == 0) = false := by simp; omega
    have hpl : 0 < (x :: a).length := by simp
    generalize (x :: a).length = p at hs hm hpos hpl
    obtain ⟨A, hA⟩ : ∃ A, hfR x l = A := ⟨_, rfl⟩
    rw [show hfst l (x :: a) = A from hA]
    clear hs
    go_enter Try.func51, Try.ntmps51
    go_wp2
    go_loopw [15] (fun i wr => ∃ k : Nat, k ≤ l.length ∧ i = .int .i64 (k : Int) ∧ Kp [] w wr ∧ hfR x (l.drop k) = A) (fun i _ => l.length - (intOf i).toNat)
    case atStart => exact ⟨0, Nat.zero_le _, rfl, Kp.refl _ _, hA⟩
    case round =>
      obtain ⟨k, hk, rfl, kr, hp⟩ := hrel
      clear hA
      by_cases hlt : k < l.length
      · obtain ⟨b1, o1, rfl, h3, h4⟩ := (hr.kept kr).get k hlt
        rw [List.drop_eq_getElem_cons hlt, hfR] at hp
        generalize l[k] = y at h3 h4 hp
        have ka : Kp [] wr (wr.alloc (.cells #[.string y.1, .string y.2] 31)) := (Kp.refl _ _).alloc _
        have g1 : (wr.alloc (.cells #[.string y.1, .string y.2] 31)).cell? ⟨b0, o0, none⟩ = some (.string x.1) := by
          have h5 : wr.cell? ⟨b0, o0, none⟩ = some (.string x.1) := by rw [kr.cell (block_lt_of_cell h1) (by simp)]; exact h1
          rw [ka.cell (block_lt_of_cell h5) (by simp)]; exact h5
        have g2 : (wr.alloc (.cells #[.string y.1, .string y.2] 31)).cell? ⟨b0, o0 + 1, none⟩ = some (.string x.2) := by
          have h5 : wr.cell? ⟨b0, o0 + 1, none⟩ = some (.string x.2) := by rw [kr.cell (block_lt_of_cell h2) (by simp)]; exact h2
          rw [ka.cell (block_lt_of_cell h5) (by simp)]; exact h5
        have g3 : (wr.alloc (.cells #[.string y.1, .string y.2] 31)).cell? ⟨wr.heap.size, 0, none⟩ = some (.string y.1) := by rw [cell_of (heap_new _ _)]; rfl
        have g4 : (wr.alloc (.cells #[.string y.1, .string y.2] 31)).cell? ⟨wr.heap.size, 1, none⟩ = some (.string y.2) := by rw [cell_of (heap_new _ _)]; rfl
        have kz : Hid (Kp [] w (wr.alloc (.cells #[.string y.1, .string y.2] 31))) := kt kr ka
        clear ka kr hr
        unfold eqs at hp
        cases hq : (y.1.toList == x.1.toList)
        · rw [hq] at hp
          simp only [Bool.false_eq_true, if_false] at hp
          go_wp2
          go_quiet (fail)
          go_wp2
          go_roundw
          case rel => exact ⟨k + 1, by omega, by go_num, kz.out.drewN _, hp⟩
          case measure => simp [intOf]; omega
        · rw [hq] at hp
          simp only [if_true] at hp
          subst hp
          go_wp2
          go_quiet (fail)
          go_wp2
          go_quiet (fail)
          go_wp2
          go_ret
          first | exact ⟨rfl, (kz.out.drewN _).drewN _⟩ | (refine ⟨?_, ?_⟩; trace_state; rfl; trace_state; exact (kz.out.drewN _).drewN _)
      · obtain rfl : k = l.length := by omega
        rw [List.drop_length, hfR] at hp
        subst hp
        clear hr
        go_wp2
        go_ret
        exact ⟨rfl, kr⟩

set_option maxHeartbeats 2000000 in
theorem alike_list (w0 w : World) (q : Nat) (B : List Nat) (zs : List Ent) (s : ByteArray) (a : List Att) (ao : Option Addr) (n c : Nat) (hL : Li w0 w q B zs) (hr : Rp w ao n c a) (hn : n ≤ 100) (hf : fits a) (hl : zs.length < 100000) :
    Calls Try.prog 37 #[.pointer (some ⟨q, 0, none⟩), .string s, .slice ao n c] w fun e w' => e = .returned (.tuple #[.int .i64 (scn (alk s a) zs.reverse 0 0).1, .int .i64 (scn (alk s a) zs.reverse 0 0).2]) ∧ Kp [] w w' := by
  obtain ⟨A, hA⟩ : ∃ A, scn (alk s a) (zs.take zs.length).reverse 0 0 = A := ⟨_, rfl⟩
  rw [show scn (alk s a) zs.reverse 0 0 = A by rw [← hA, rev_all]]
  have HL := len_list w0 w q B zs hL
  have HK : Hid (Kp [] w w) := Kp.refl _ _
  go_enter Try.func37, Try.ntmps37
  go_wp2_with fail
  refine HL.mono ?_
  rintro e w' ⟨rfl, hw⟩
  have hw2 := hw.symm
  clear hw
  subst hw2
  go_wp2
  go_loopw [6, 7, 8] (fun f m i wr => ∃ (k : Nat) (f0 : Int) (m0 : Nat), k ≤ zs.length ∧ m0 + k ≤ zs.length ∧ f = .int .i64 f0 ∧ m = .int .i64 (m0 : Int) ∧ i = .int .i64 ((k : Int) - 1) ∧ Kp [] w wr ∧ scn (alk s a) (zs.take k).reverse f0 m0 = A) (fun _ _ i _ => (intOf i + 1).toNat)
  case atStart => exact ⟨zs.length, 0, 0, Nat.le_refl _, by omega, rfl, rfl, rfl, HK.out, hA⟩
  case round =>
    obtain ⟨k, f0, m0, hk, hmk, rfl, rfl, rfl, kr, hp⟩ := hrel
    clear hA HL HK
    rcases k with _ | j
    · simp only [List.take_zero, List.reverse_nil, scn] at hp
      subst hp
      have KR : Hid (Kp [] w wr) := kr
      clear kr hL hr
      go_wp2
      go_ret2
      exact ⟨rfl, KR.out⟩
    · obtain ⟨⟨p, v, bs, hx, _⟩, _⟩ := hL.kept kr
      have hr' := hr.kept kr
      have hc := hx.cell
      have hlen := hx.len
      obtain ⟨b, hb1, hb2⟩ := hx.get j (by omega)
      have HA := at_in wr p v bs (j : Int) hx.px (by omega) (by omega) b (by simpa using hb1)
      rw [rev_take zs j (by omega)] at hp
      have hlj : (zs.take j).reverse.length = j := by simp; omega
      generalize zs[j] = x at hb2 hp
      obtain ⟨g, xo, xn, xc, rfl, c0, c1, c2, c3, _, hz, hfx, _, _⟩ := hb2.out
      obtain ⟨mk, hh, nm, l⟩ := x
      unfold scn at hp
      rw [hlj] at hp
      simp only at hp c0 c1 c2 hz
      unfold alk at hp
      simp only at hp
      have hxn : xn ≤ 6 := by rw [hz.len]; exact hfx.1
      have hz2 := hz.rp
      have H1 := has_any wr l a xo ao xn xc n c hz2 hr' (by omega) (by omega)
      have H2 : Hid (∀ W, Kp [] wr W → W.cell? ⟨g, 3, none⟩ = some (.slice xo xn xc) ∧ Calls Try.prog 52 #[.slice xo xn xc, .slice ao n c] W fun e w' => e = .returned (.bool (alike l a)) ∧ Kp [] W w') := fun W kW =>
        ⟨by rw [kW.cell (block_lt_of_cell c3) (by simp)]; exact c3, alike_any W l a xo ao xn xc n c (hz2.kept kW) (hr'.kept kW) (by omega) (by omega) hfx.2 hf⟩
      have KR : Hid (Kp [] w wr) := kr
      have KE : Hid (hfst l a = false → alike l a = false) := hfst_not
      clear hb1 hb2 hx hz hz2 hfx hL hr hr' kr c1
      rw [show (((j + 1 : Nat) : Int) - 1) = (j : Int) by omega]
      cases mk
      · simp only [Bool.false_eq_true, if_false] at hp
        unfold eqs at hp
        cases hq : (nm.toList == s.toList)
        · rw [hq] at hp
          simp only [Bool.false_and, Bool.false_eq_true, if_false] at hp
          clear H1 H2 KE
          go_wp2_with (first | (go_at_call 44; refine (HA).mono ?_; rintro e w9 ⟨rfl, hw⟩; have hw2 := hw.symm; clear hw; subst hw2))
          go_roundw
          case rel => exact ⟨j, f0, m0, by omega, by omega, rfl, rfl, by go_num, KR.out, hp⟩
          case measure => simp [intOf]
        · rw [hq, Bool.true_and] at hp
          generalize hfst l a = y at H1 KE
          cases y
          · rw [KE.out rfl] at hp
            simp only [Bool.false_eq_true, if_false] at hp
            clear H2 KE
            go_wp2_with (first | (go_at_call 44; refine (HA).mono ?_; rintro e w9 ⟨rfl, hw⟩; have hw2 := hw.symm; clear hw; subst hw2) | (go_at_call 51; refine H1.mono ?_; rintro e w2 ⟨rfl, k2⟩; have K2 : Hid (Kp [] w w2) := kt KR.out k2; clear k2))
            go_roundw
            case rel => exact ⟨j, f0, m0, by omega, by omega, rfl, rfl, by go_num, K2.out, hp⟩
            case measure => simp [intOf]
          · clear KE
            generalize alike l a = z at H2 hp
            cases z
            · simp only [Bool.false_eq_true, if_false] at hp
              go_wp2_with (first | (go_at_call 44; refine (HA).mono ?_; rintro e w9 ⟨rfl, hw⟩; have hw2 := hw.symm; clear hw; subst hw2) | (go_at_call 51; refine H1.mono ?_; rintro e w2 ⟨rfl, k2⟩; obtain ⟨c32, HH⟩ := H2.out w2 k2; have K2 : Hid (Kp [] w w2) := kt KR.out k2; clear k2) | (go_at_call 52; refine HH.mono ?_; rintro e w3 ⟨rfl, k3⟩; have K3 : Hid (Kp [] w w3) := kt K2.out k3; clear k3))
              go_roundw
              case rel => exact ⟨j, f0, m0, by omega, by omega, rfl, rfl, by go_num, K3.out, hp⟩
              case measure => simp [intOf]
            · simp only [if_true] at hp
              go_wp2_with (first | (go_at_call 44; refine (HA).mono ?_; rintro e w9 ⟨rfl, hw⟩; have hw2 := hw.symm; clear hw; subst hw2) | (go_at_call 51; refine H1.mono ?_; rintro e w2 ⟨rfl, k2⟩; obtain ⟨c32, HH⟩ := H2.out w2 k2; have K2 : Hid (Kp [] w w2) := kt KR.out k2; clear k2) | (go_at_call 52; refine HH.mono ?_; rintro e w3 ⟨rfl, k3⟩; have K3 : Hid (Kp [] w w3) := kt K2.out k3; clear k3))
              go_roundw
              case rel => exact ⟨j, j, m0 + 1, by omega, by omega, rfl, by go_num, by go_num, K3.out, hp⟩
              case measure => simp [intOf]
      · simp only [if_true] at hp
        subst hp
        clear H1 H2 KE
        go_wp2_with (first | (go_at_call 44; refine (HA).mono ?_; rintro e w9 ⟨rfl, hw⟩; have hw2 := hw.symm; clear hw; subst hw2))
        go_ret2
        exact ⟨rfl, KR.out⟩

end Go.Proofs.Ytadcpkdnpfmphaa.Ints
