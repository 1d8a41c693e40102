/-
  TokenNumbers: chapter 8's runs, and each Kind with each field.
-/
import Derived.Test.YtgeebmlincddkaaAlikes
import Derived.Test.YtgeebmlincddkaaJoin
namespace Go.Proofs.Ytgeebmlincddkaa
open Go.RowKit

theorem brief_nil : brief [] := ⟨by simp, fun a ha => by simp at ha⟩

theorem brief_all {l : List Att} (h1 : l.length ≤ 100) (h2 : l.all (fun a => decide (a.1.size ≤ 1000) && decide (a.2.size ≤ 1000)) = true) : brief l := ⟨h1, fun a ha => by
  have := List.all_eq_true.1 h2 a ha
  simpa using this⟩

/-- Of tokens without attributes. -/
theorem alikes_bare (V : World) (K : Int) (x y : ByteArray) (b : Bool) (hx : x.size ≤ 1000) (hy : y.size ≤ 1000) :
    Calls Try.prog 7 #[.agg #[.int .i64 K, .string x, .slice none 0 0, .bool b, .string y], .agg #[.int .i64 K, .string ⟨#[112]⟩, .slice none 0 0, .bool false, .string ⟨#[]⟩]] V fun e w' => e = .returned (.bool true) ∧ Kp [] V w' :=
  alikes_any V K K x ⟨#[112]⟩ y ⟨#[]⟩ [] [] b false none none 0 0 0 0 (rp_nil V) (rp_nil V) brief_nil brief_nil hx (by omega)

/-- Of tokens with attributes that were laid. -/
theorem alikes_laid (V : World) (K : Int) (l : List Att) (ao : Option Addr) (n c : Nat) (hr : Rp V ao n c l) (hb : brief l) :
    Calls Try.prog 7 #[.agg #[.int .i64 K, .string ⟨#[112]⟩, .slice ao n c, .bool false, .string ⟨#[]⟩], .agg #[.int .i64 K, .string ⟨#[112]⟩, .slice none 0 0, .bool false, .string ⟨#[]⟩]] V fun e w' => e = .returned (.bool true) ∧ Kp [] V w' :=
  alikes_any V K K ⟨#[112]⟩ ⟨#[112]⟩ ⟨#[]⟩ ⟨#[]⟩ l [] false false ao none n c 0 0 hr (rp_nil V) hb brief_nil (by decide) (by decide)

theorem laid_at (w : World) (g : Nat) (hg : w.heap.size = g) (cur : Array Value) (l : List Att) (n : Nat) (h : cur = (cs l).toArray) (hn : n = l.length) (hm : n ≤ 1000) : Rp (w.alloc (.cells cur 26)) (some ⟨g, 0, none⟩) n n l := by
  subst hg
  exact (rp_lit w cur l n h hn hm).rp

set_option maxRecDepth 100000 in
set_option maxHeartbeats 8000000 in
theorem numbers_any (w : World) : Calls Try.prog 3 #[] w fun e w' => e = .returned (.bool true) ∧ Kp [] w w' := by
  go_enter Try.func3, Try.ntmps3
  go_wp2
  go_loopw [1] (fun v wr => ∃ j : Nat, j ≤ 9 ∧ v = .int .i64 ((j : Int) - 1) ∧ Kp [] w wr) (fun v _ => (8 - intOf v).toNat)
  case atStart => exact ⟨0, by omega, by go_num, Kp.refl _ _⟩
  case round =>
    obtain ⟨j, hj, rfl, kp⟩ := hrel
    by_cases hlt : j < 9
    · obtain ⟨K, hK⟩ : ∃ K : Int, (j : Int) - 1 = K := ⟨_, rfl⟩
      rw [hK]
      have hK1 : -1 ≤ K := by omega
      have hK2 : K < 8 := by omega
      go_wp2
      go_loopw [2] (fun v wr => ∃ h : Nat, h ≤ 12 ∧ v = .int .i64 (h : Int) ∧ Kp [] w wr) (fun v _ => (12 - intOf v).toNat)
      case atStart => exact ⟨0, by omega, rfl, kp⟩
      case round =>
        obtain ⟨h, hh, rfl, kp⟩ := hrel
        by_cases hlt2 : h < 12
        · rcases (show h = 0 ∨ h = 1 ∨ h = 2 ∨ h = 3 ∨ h = 4 ∨ h = 5 ∨ h = 6 ∨ h = 7 ∨ h = 8 ∨ h = 9 ∨ h = 10 ∨ h = 11 by omega) with rfl | rfl | rfl | rfl | rfl | rfl | rfl | rfl | rfl | rfl | rfl | rfl

          · -- how = 0
            have HA := fun V => alikes_bare V K ⟨#[]⟩ ⟨#[]⟩ false (by decide) (by decide)
            go_wp2_with fail
            refine (HA _).mono ?_
            rintro e w2 ⟨rfl, k2⟩
            clear HA
            have k3 := (kp.alloc _).trans k2 (fun z hz => by simp at hz)
            go_wp2
            go_roundw
            case rel => exact ⟨1, by omega, by go_num, k3⟩
            case measure => simp [intOf]
          · -- how = 1
            have HA := fun V => alikes_bare V K ⟨#[112]⟩ ⟨#[]⟩ false (by decide) (by decide)
            go_wp2_with fail
            refine (HA _).mono ?_
            rintro e w2 ⟨rfl, k2⟩
            clear HA
            have k3 := (kp.alloc _).trans k2 (fun z hz => by simp at hz)
            go_wp2
            go_roundw
            case rel => exact ⟨2, by omega, by go_num, k3⟩
            case measure => simp [intOf]
          · -- how = 2
            have HA := fun V => alikes_bare V K ⟨#[80]⟩ ⟨#[]⟩ false (by decide) (by decide)
            go_wp2_with fail
            refine (HA _).mono ?_
            rintro e w2 ⟨rfl, k2⟩
            clear HA
            have k3 := (kp.alloc _).trans k2 (fun z hz => by simp at hz)
            go_wp2
            go_roundw
            case rel => exact ⟨3, by omega, by go_num, k3⟩
            case measure => simp [intOf]
          · -- how = 3
            have HA := fun V => alikes_bare V K ⟨#[49]⟩ ⟨#[]⟩ false (by decide) (by decide)
            go_wp2_with fail
            refine (HA _).mono ?_
            rintro e w2 ⟨rfl, k2⟩
            clear HA
            have k3 := (kp.alloc _).trans k2 (fun z hz => by simp at hz)
            go_wp2
            go_roundw
            case rel => exact ⟨4, by omega, by go_num, k3⟩
            case measure => simp [intOf]
          · -- how = 4
            have HA := fun V => alikes_bare V K ⟨#[98, 114]⟩ ⟨#[]⟩ true (by decide) (by decide)
            go_wp2_with fail
            refine (HA _).mono ?_
            rintro e w2 ⟨rfl, k2⟩
            clear HA
            have k3 := (kp.alloc _).trans k2 (fun z hz => by simp at hz)
            go_wp2
            go_roundw
            case rel => exact ⟨5, by omega, by go_num, k3⟩
            case measure => simp [intOf]
          · -- how = 5
            have HA := alikes_laid _ K [(⟨#[97]⟩, ⟨#[]⟩), (⟨#[97]⟩, ⟨#[]⟩)] _ 2 2 (laid_at (wr.alloc (.cells #[.int .i64 K, .string ⟨#[112]⟩, .slice (some ⟨wr.heap.size + 1, 0, none⟩) 2 2, .bool false, .string ⟨#[]⟩] 24)) (wr.heap.size + 1) (by simp) #[.string ⟨#[97]⟩, .string ⟨#[]⟩, .string ⟨#[97]⟩, .string ⟨#[]⟩] [(⟨#[97]⟩, ⟨#[]⟩), (⟨#[97]⟩, ⟨#[]⟩)] 2 rfl rfl (by omega)) (brief_all (by decide) (by decide))
            go_wp2_with fail
            refine HA.mono ?_
            rintro e w2 ⟨rfl, k2⟩
            clear HA
            have k3 := ((kp.alloc _).alloc _).trans k2 (fun z hz => by simp at hz)
            go_wp2
            go_roundw
            case rel => exact ⟨6, by omega, by go_num, k3⟩
            case measure => simp [intOf]
          · -- how = 6
            have HA := alikes_laid _ K [(⟨#[97]⟩, ⟨#[]⟩), (⟨#[98]⟩, ⟨#[120]⟩)] _ 2 2 (laid_at (wr.alloc (.cells #[.int .i64 K, .string ⟨#[112]⟩, .slice (some ⟨wr.heap.size + 1, 0, none⟩) 2 2, .bool false, .string ⟨#[]⟩] 24)) (wr.heap.size + 1) (by simp) #[.string ⟨#[97]⟩, .string ⟨#[]⟩, .string ⟨#[98]⟩, .string ⟨#[120]⟩] [(⟨#[97]⟩, ⟨#[]⟩), (⟨#[98]⟩, ⟨#[120]⟩)] 2 rfl rfl (by omega)) (brief_all (by decide) (by decide))
            go_wp2_with fail
            refine HA.mono ?_
            rintro e w2 ⟨rfl, k2⟩
            clear HA
            have k3 := ((kp.alloc _).alloc _).trans k2 (fun z hz => by simp at hz)
            go_wp2
            go_roundw
            case rel => exact ⟨7, by omega, by go_num, k3⟩
            case measure => simp [intOf]
          · -- how = 7
            have HA := fun V => alikes_bare V K ⟨#[]⟩ ⟨#[116]⟩ false (by decide) (by decide)
            go_wp2_with fail
            refine (HA _).mono ?_
            rintro e w2 ⟨rfl, k2⟩
            clear HA
            have k3 := (kp.alloc _).trans k2 (fun z hz => by simp at hz)
            go_wp2
            go_roundw
            case rel => exact ⟨8, by omega, by go_num, k3⟩
            case measure => simp [intOf]
          · -- how = 8
            have HA := fun V => alikes_bare V K ⟨#[112]⟩ ⟨#[116]⟩ false (by decide) (by decide)
            go_wp2_with fail
            refine (HA _).mono ?_
            rintro e w2 ⟨rfl, k2⟩
            clear HA
            have k3 := (kp.alloc _).trans k2 (fun z hz => by simp at hz)
            go_wp2
            go_roundw
            case rel => exact ⟨9, by omega, by go_num, k3⟩
            case measure => simp [intOf]
          · -- how = 9
            have HA := fun V => alikes_bare V K ⟨#[112, 32, 113]⟩ ⟨#[]⟩ false (by decide) (by decide)
            go_wp2_with fail
            refine (HA _).mono ?_
            rintro e w2 ⟨rfl, k2⟩
            clear HA
            have k3 := (kp.alloc _).trans k2 (fun z hz => by simp at hz)
            go_wp2
            go_roundw
            case rel => exact ⟨10, by omega, by go_num, k3⟩
            case measure => simp [intOf]
          · -- how = 10
            have HA := alikes_laid _ K [(⟨#[]⟩, ⟨#[]⟩)] _ 1 1 (laid_at (wr.alloc (.cells #[.int .i64 K, .string ⟨#[112]⟩, .slice (some ⟨wr.heap.size + 1, 0, none⟩) 1 1, .bool false, .string ⟨#[]⟩] 24)) (wr.heap.size + 1) (by simp) #[.string ⟨#[]⟩, .string ⟨#[]⟩] [(⟨#[]⟩, ⟨#[]⟩)] 1 rfl rfl (by omega)) (brief_all (by decide) (by decide))
            go_wp2_with fail
            refine HA.mono ?_
            rintro e w2 ⟨rfl, k2⟩
            clear HA
            have k3 := ((kp.alloc _).alloc _).trans k2 (fun z hz => by simp at hz)
            go_wp2
            go_roundw
            case rel => exact ⟨11, by omega, by go_num, k3⟩
            case measure => simp [intOf]
          · -- how = 11
            have HA := fun V => alikes_bare V K ⟨#[112, 47]⟩ ⟨#[]⟩ false (by decide) (by decide)
            go_wp2_with fail
            refine (HA _).mono ?_
            rintro e w2 ⟨rfl, k2⟩
            clear HA
            have k3 := (kp.alloc _).trans k2 (fun z hz => by simp at hz)
            go_wp2
            go_roundw
            case rel => exact ⟨12, by omega, by go_num, k3⟩
            case measure => simp [intOf]
        · obtain rfl : h = 12 := by omega
          go_wp2
          go_roundw
          case rel => exact ⟨j + 1, by omega, by go_num, kp⟩
          case measure => simp [intOf]; omega
    · obtain rfl : j = 9 := by omega
      have HJ := fun V => join_any V [] none 0 0 ⟨rfl, Nat.le_refl _, fun j hj => by omega⟩ (by omega) (fun p hp => by simp at hp) (fun p hp => by simp at hp) (by decide)
      go_wp2_with fail
      refine (HJ _).mono ?_
      rintro e w2 ⟨a2, n2, c2, q2, rfl, M2, hq⟩
      clear HJ
      have hq0 : q2 = [] := by
        have : q2.map Prod.fst = [] := hq
        simpa using this
      have hn0 : n2 = 0 := by rw [M2.len, hq0]; rfl
      subst hn0
      have k2 := kp.trans M2.kp (fun z hz => by simp at hz)
      have HK := known_any w2
      clear M2 hq hq0 kp
      go_wp2_with fail
      refine HK.mono ?_
      rintro e w3 ⟨rfl, k3⟩
      clear HK
      go_wp2
      go_ret
      exact ⟨rfl, k2.trans k3 (fun z hz => by simp at hz)⟩

end Go.Proofs.Ytgeebmlincddkaa
