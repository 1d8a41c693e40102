/-
  AttrsMore, walked.
-/
import Derived.Test.YtbhgldinoijecaaAgain
namespace Go.Proofs.Ytbhgldinoijecaa
open Go.RowKit

set_option maxRecDepth 100000 in
set_option maxHeartbeats 4000000 in
theorem mores_any (w : World) (l m : List Att) (t : Int) (ao bo : Option Addr) (n c p d : Nat) (hr : Rp w ao n c l) (hs : Rp w bo p d m) (hl : n ≤ 140737488355328) (hm : p ≤ 140737488355328) :
    Calls Try.prog 5 #[.slice ao n c, .slice bo p d, .int .i64 t] w fun e w' => e = .returned (.bool true) ∧ Kp [] w w' := by
  have HS := short_any w l ao n c hr hl
  have hL6 := short_len l
  have hM6 := short_len m
  have hLf := short_fits l
  have hMf := short_fits m
  go_enter Try.func5, Try.ntmps5
  go_wp2_with fail
  refine HS.mono ?_
  rintro e w1 ⟨a1, n1, c1, rfl, M1⟩
  clear HS
  have HS2 := short_any w1 m bo p d (hs.kept M1.kp) hm
  go_wp2_with fail
  refine HS2.mono ?_
  rintro e w2 ⟨a2, n2, c2, rfl, M2⟩
  clear HS2 hr hs hl hm
  have R1 := M1.rp.kept M2.kp
  have R2 := M2.rp
  have k2 := M1.kp.trans M2.kp (fun x hx => by simp at hx)
  clear M1 M2
  generalize short l = L at R1 hL6 hLf
  generalize short m = M at R2 hM6 hMf
  obtain rfl := R1.len
  obtain rfl := R2.len
  have HM := more_any w2 L M a1 a2 _ c1 _ c2 R1 R2 (by omega) (by omega) hLf hMf
  go_wp2_with fail
  refine HM.mono ?_
  rintro e w3 ⟨a3, n3, c3, rfl, M3⟩
  clear HM
  have R3 := M3.rp
  have k3 := k2.trans M3.kp (fun x hx => by simp at hx)
  have S1 := R1.kept M3.kp
  have S2 := R2.kept M3.kp
  have hX12 := more_len M L
  have hXge := more_ge L M
  have hXtake := more_take L M
  have hXagain := more_again L M
  have hXin : Hid (∀ i (h : i < M.length), ∃ y, getF (more L M) M[i].1 = some y) := fun i h => more_in (List.getElem_mem h)
  have hXold : Hid (∀ x y, getF L x = some y → getF (more L M) x = some y) := fun x y h => more_old h
  have hXf : fits (more L M) := fits_more M hLf hMf
  clear M3 R1 R2 k2
  generalize more L M = X at R3 hX12 hXge hXtake hXagain hXin hXold hXf
  obtain rfl := R3.len
  have hd : decide (X.length < L.length) = false := by simp; omega
  have hc3 := R3.cap
  have hc4 : L.length ≤ c3 := by omega
  have RT := R3.take L.length hXge
  rw [hXtake] at RT
  have HE := same_any w3 L L a3 a1 _ _ _ _ RT S1 (by omega) (by omega)
  rw [same_yes rfl] at HE
  clear RT
  go_wp2_with fail
  refine HE.mono ?_
  rintro e w4 ⟨rfl, k4⟩
  clear HE hd hc4
  have HM2 := more_any w4 X M a3 a2 _ c3 _ c2 (R3.kept k4) (S2.kept k4) (by omega) (by omega) hXf hMf
  rw [hXagain] at HM2
  go_wp2_with fail
  refine HM2.mono ?_
  rintro e w5 ⟨a5, n5, c5, rfl, M5⟩
  clear HM2
  have k35 := k4.trans M5.kp (fun x hx => by simp at hx)
  have HE2 := same_any w5 X X a5 a3 n5 c5 _ c3 M5.rp (R3.kept k35) (by have := M5.len; omega) (by omega)
  rw [same_yes rfl] at HE2
  clear M5 k4
  go_wp2_with fail
  refine HE2.mono ?_
  rintro e w6 ⟨rfl, k6⟩
  clear HE2 hXagain hXtake hXge
  have k36 := k35.trans k6 (fun x hx => by simp at hx)
  clear k35 k6
  go_wp2
  go_loopw [8] (fun i wr => ∃ k : Nat, k ≤ M.length ∧ i = .int .i64 k ∧ Kp [] w3 wr) (fun i _ => M.length - (intOf i).toNat)
  case atStart => exact ⟨0, Nat.zero_le _, rfl, k36⟩
  case round =>
    obtain ⟨k, hk, rfl, kp⟩ := hrel
    clear k36
    by_cases hlt : k < M.length
    · obtain ⟨b1, o1, rfl, h1, h2⟩ := (S2.kept kp).get k hlt
      obtain ⟨y, hy⟩ := hXin.out k hlt
      have hold := hXold.out M[k].1
      clear h2 S2 hXin hXold
      generalize M[k].1 = x at h1 hy hold
      have HG := get_any wr x X a3 _ c3 (R3.kept kp) (by omega) hXf
      rw [hy] at HG
      simp only [gtn] at HG
      obtain ⟨v, hv⟩ : ∃ v, y.2 = v := ⟨_, rfl⟩
      rw [hv] at HG
      go_wp2_with fail
      refine HG.mono ?_
      rintro e w7 ⟨rfl, k7⟩
      clear HG
      have k37 := kp.trans k7 (fun x hx => by simp at hx)
      have h1' : w7.cell? ⟨b1, o1 + k * 2, none⟩ = some (.string x) := by rw [k7.cell (block_lt_of_cell h1) (by simp)]; exact h1
      have HG2 := get_any w7 x L a1 _ c1 (S1.kept k37) (by omega) hLf
      clear h1
      cases hz : getF L x with
      | none =>
        rw [hz] at HG2
        simp only [gtn] at HG2
        clear hz hold hv hy
        go_wp2_with fail
        refine HG2.mono ?_
        rintro e w8 ⟨rfl, k8⟩
        clear HG2
        go_wp2
        go_roundw
        case rel => exact ⟨k + 1, by omega, by go_num, k37.trans k8 (fun x hx => by simp at hx)⟩
        case measure => simp [intOf]; omega
      | some z =>
        have e1 := hold z hz
        rw [hy] at e1
        have e2 : z.2 = v := by rw [← hv]; exact congrArg Prod.snd (Option.some.inj e1).symm
        rw [hz] at HG2
        simp only [gtn] at HG2
        rw [e2] at HG2
        clear hz hold hv hy e1 e2
        go_wp2_with fail
        refine HG2.mono ?_
        rintro e w8 ⟨rfl, k8⟩
        clear HG2
        go_wp2
        go_roundw
        case rel => exact ⟨k + 1, by omega, by go_num, k37.trans k8 (fun x hx => by simp at hx)⟩
        case measure => simp [intOf]; omega
    · obtain rfl : k = M.length := by omega
      clear hXin hXold hXf R3 S2 hMf
      have HU := uniq_any wr L a1 _ c1 (S1.kept kp) (by omega) hLf
      go_wp2_with fail
      refine HU.mono ?_
      rintro e w7 ⟨a7, n7, c7, rfl, M7⟩
      clear HU
      have R7 := M7.rp
      have S7 := (S1.kept kp).kept M7.kp
      have k7 := (k3.trans kp (fun x hx => by simp at hx)).trans M7.kp (fun x hx => by simp at hx)
      have hA1 : Hid (∀ j, alike (uniq L) (turned (uniq L) j) = true) := fun j => alike_turned (dist_uniq L) j
      have hA2 : Hid (∀ j, alike (turned (uniq L) j) L = true) := turned_alike L
      have hUn : Hid ((uniq L).length = 0 → L = []) := uniq_nil
      have hUf : fits (uniq L) := fits_more L (fun a ha => by simp at ha) hLf
      have hUl : (uniq L).length ≤ 6 := by have := more_len L []; unfold uniq; simp at this; omega
      have hA3 := alike_self L
      clear M7 S1 kp k3
      generalize uniq L = U at R7 hA1 hA2 hUn hUf hUl
      obtain rfl := R7.len
      rcases Nat.eq_zero_or_pos U.length with h0 | h0
      · have hL0 := hUn.out h0
        subst hL0
        have hq : ((U.length : Int) == 0) = true := by simp [h0]
        clear h0 hA1 hA2 hUn
        have HK := from_back (known_any w7) k7
        go_wp2_with fail
        refine HK.mono ?_
        rintro e w8 ⟨rfl, k8⟩
        clear HK
        go_wp2
        go_ret
        exact ⟨rfl, k8⟩
      · obtain ⟨r, hr⟩ : ∃ r, U.length = r + 1 := ⟨U.length - 1, by omega⟩
        have HW := within_any w7 t r (by omega)
        have hwl := wi_le t r
        generalize wi t r = j at HW hwl
        obtain ⟨b7, o7, rfl, _⟩ := R7.at' 0 (by omega)
        have hc7 := R7.cap
        have RD := R7.drop j (by omega)
        have RK := R7.take j (by omega)
        rw [hr] at RD
        have hsub : (U.length : Int) - 1 = (r : Int) := by omega
        have HR : Hid (∀ v, Kp [] w7 v → Rp v (some ⟨b7, o7, none⟩) (r + 1) c7 U) := fun v kv => by rw [← hr]; exact R7.kept kv
        have HD : Hid (∀ v, Kp [] w7 v → Rp v (some ⟨b7, o7 + j * 2, none⟩) (r + 1 - j) (c7 - j) (U.drop j)) := fun v kv => RD.kept kv
        have HT : Hid (∀ v, Kp [] w7 v → Rp v (some ⟨b7, o7, none⟩) j c7 (U.take j)) := fun v kv => RK.kept kv
        have HL : Hid (∀ v, Kp [] w7 v → Rp v a1 L.length c1 L) := fun v kv => S7.kept kv
        clear RD RK
        go_wp2_with fail
        refine HW.mono ?_
        rintro e w8 ⟨rfl, rfl⟩
        clear HW hsub
        have hj1 : j < c7 := by omega
        have i1 : (0 : Int) ≤ (j : Int) := by omega
        have i2 : (j : Int) ≤ (r : Int) + 1 := by omega
        have i3 : (j : Int) ≤ (c7 : Int) := by omega
        have i4 : (j : Int) ≤ ((r + 1 : Nat) : Int) := by omega
        have i5 : ¬ c7 = j := by omega
        have i6 : j ≤ r + 1 := by omega
        have i7 : r + 1 ≤ c7 := by omega
        have hUl2 : r + 1 ≤ 6 := by omega
        clear hr hUl h0 hc7 R7 hwl
        have M0 := mp_none w8.drew
        go_wp2_with fail
        go_region_held3 (fun w' => Kp [] w8 w')
          (first
            | exact (Kp.refl [] w8).drew
            | exact (Kp.refl [] w8).drew.alloc _
            | exact ((Kp.refl [] w8).drew.trans N2.kp (fun x hx => by simp at hx))
            | exact ((Kp.refl [] w8).drew.trans N1.kp (fun x hx => by simp at hx)))
          (first
            | (refine step_more (by rfl) _ _ (by rfl) (by rfl) (by rfl) N1 (HT.out _ ((Kp.refl [] w8).drew.trans N1.kp (fun x hx => by simp at hx))) (fun h => by cases h) (by omega) ?_; intro a10 c10 w10 N2)
            | (refine step_more (by rfl) _ _ (by rfl) (by rfl) (by rfl) M0 (HD.out _ ((Kp.refl [] w8).drew.trans M0.kp (fun x hx => by simp at hx))) (fun h => by cases h) (by omega) ?_; intro a9 c9 w9 N1))
        have k10 : Kp [] w8 w10 := (Kp.refl [] w8).drew.trans N2.kp (fun x hx => by simp at hx)
        have RT := N2.rp
        rw [List.nil_append, show List.drop j U ++ List.take j U = turned U j from rfl, show 0 + (r + 1 - j) + j = r + 1 by omega] at RT
        have hTf : fits (turned U j) := fun x hx => hUf x (turned_mem.1 hx)
        have HA := alike_any w10 U (turned U j) _ _ _ _ _ _ (HR.out w10 k10) RT (by omega) (by omega) hUf hTf
        rw [hA1.out j] at HA
        have hA2j := hA2.out j
        clear N1 N2 M0 i1 i2 i3 i4 i5 i6 i7 hA1 hA2 hj1 HD HT HR
        go_wp2_with fail
        refine HA.mono ?_
        rintro e w11 ⟨rfl, k11⟩
        clear HA
        have k811 := k10.trans k11 (fun x hx => by simp at hx)
        have HB := alike_any w11 (turned U j) L _ _ _ _ _ _ (RT.kept k11) (HL.out w11 k811) (by omega) (by omega) hTf hLf
        rw [hA2j] at HB
        clear RT hA2j
        go_wp2_with fail
        refine HB.mono ?_
        rintro e w12 ⟨rfl, k12⟩
        clear HB
        have k812 := k811.trans k12 (fun x hx => by simp at hx)
        have HC := alike_any w12 L L _ _ _ _ _ _ (HL.out w12 k812) (HL.out w12 k812) (by omega) (by omega) hLf hLf
        rw [hA3] at HC
        go_wp2_with fail
        refine HC.mono ?_
        rintro e w13 ⟨rfl, k13⟩
        clear HC
        have HK := from_back (known_any w13) ((k7.trans k812 (fun x hx => by simp at hx)).trans k13 (fun x hx => by simp at hx))
        go_wp2_with fail
        refine HK.mono ?_
        rintro e w14 ⟨rfl, k14⟩
        clear HK
        go_wp2
        go_ret
        exact ⟨rfl, k14⟩

end Go.Proofs.Ytbhgldinoijecaa
