/-
  AttrsForeign: foreign attributes are as many, with the same values; names that need no fixing stay; done again nothing is turned.
-/
import Derived.Test.YtbhgldinoijecaaAgree
namespace Go.Proofs.Ytbhgldinoijecaa
open Go.RowKit

def VB : Att := (⟨#[118, 105, 101, 119, 98, 111, 120]⟩, ⟨#[118]⟩)
def XY : Att := (⟨#[120]⟩, ⟨#[121]⟩)

theorem fix_vb : fix ⟨#[118, 105, 101, 119, 98, 111, 120]⟩ = ⟨#[118, 105, 101, 119, 66, 111, 120]⟩ := by
  simp [fix, fixIn, FROM, TO, txt]

theorem fix_x : fix ⟨#[120]⟩ = ⟨#[120]⟩ := by
  simp [fix, fixIn, FROM, TO]

theorem foreign_twice (l : List Att) : foreign (foreign l) = foreign l := by
  unfold foreign
  rw [List.map_map]
  refine List.map_congr_left fun a _ => ?_
  simp only [Function.comp]
  rw [fix_fix]

theorem foreign_small {l : List Att} (h : ∀ a, a ∈ l → a.1.size ≤ 1000 ∧ a.2.size ≤ 1000) : ∀ a, a ∈ foreign l → a.1.size ≤ 1000 ∧ a.2.size ≤ 1000 := by
  intro a ha
  unfold foreign at ha
  obtain ⟨b, hb, rfl⟩ := List.mem_map.1 ha
  exact ⟨fix_size _ (h b hb).1, (h b hb).2⟩

theorem short_small (l : List Att) : ∀ a, a ∈ short l → a.1.size ≤ 1000 ∧ a.2.size ≤ 1000 := by
  intro a ha
  unfold short at ha
  obtain ⟨x, _, rfl⟩ := List.mem_map.1 ha
  have h1 := cut_size x.1 20
  have h2 := cut_size x.2 30
  exact ⟨Nat.le_trans h1 (by omega), Nat.le_trans h2 (by omega)⟩

theorem foreign_get {l : List Att} {k : Nat} (h : k < l.length) (h' : k < (foreign l).length) : (foreign l)[k] = (fix l[k].1, l[k].2) := List.getElem_map _

/-- What AttrsForeign asks of. -/
def outer (l : List Att) : List Att := short l ++ [VB, XY]

theorem outer_len (l : List Att) : (outer l).length = (short l).length + 2 := by simp [outer]

theorem outer_small (l : List Att) : ∀ a, a ∈ outer l → a.1.size ≤ 1000 ∧ a.2.size ≤ 1000 := by
  intro a ha
  rcases List.mem_append.1 ha with h | h
  · exact short_small l a h
  · simp only [List.mem_cons, List.not_mem_nil, or_false] at h
    rcases h with rfl | rfl
    · decide
    · decide

theorem outer_vb (l : List Att) (h : (short l).length < (outer l).length) : (outer l)[(short l).length] = VB := by
  have h3 : (outer l)[(short l).length]? = some VB := by
    unfold outer
    rw [List.getElem?_append_right (Nat.le_refl _)]
    simp
  rw [List.getElem?_eq_getElem h] at h3
  exact Option.some.inj h3

theorem outer_xy (l : List Att) (h : (short l).length + 1 < (outer l).length) : (outer l)[(short l).length + 1] = XY := by
  have h3 : (outer l)[(short l).length + 1]? = some XY := by
    unfold outer
    rw [List.getElem?_append_right (by omega)]
    simp
  rw [List.getElem?_eq_getElem h] at h3
  exact Option.some.inj h3

set_option maxHeartbeats 2000000 in
theorem outer_any (w : World) (l : List Att) (ao : Option Addr) (n c : Nat) (hr : Rp w ao n c l) (hl : n ≤ 140737488355328) :
    Calls Try.prog 6 #[.slice ao n c] w fun e w' => e = .returned (.bool true) ∧ Kp [] w w' := by
  have HS := short_any w l ao n c hr hl
  clear hr hl
  go_enter Try.func6, Try.ntmps6
  go_wp2_with fail
  refine HS.mono ?_
  rintro e w1 ⟨a1, n1, c1, rfl, M1⟩
  clear HS
  have hn1 : n1 ≤ 1000 := by have := M1.len; have := short_len l; omega
  have R := rp_lit w1 #[.string ⟨#[118, 105, 101, 119, 98, 111, 120]⟩, .string ⟨#[118]⟩, .string ⟨#[120]⟩, .string ⟨#[121]⟩] [VB, XY] 2 rfl rfl (by omega)
  obtain ⟨a2, n2, c2, w2, hrun, M2⟩ := (M1.kept R.kp).app (R.rp.src Try.underlying24) (fun _ => by omega) (by omega)
  clear R M1
  go_wp2_with (first
    | (at_builtin; refine Lib.wpList_append_run _ rfl _ _ _ _ rfl _ _ rfl rfl _ _ (hrun _) ?_)
    | (go_at_call 18; refine Hid.out ?_))
  unfold Hid
  clear hrun
  have M2' : Mp w w2 a2 n2 c2 (outer l) := M2
  obtain ⟨q, hq, hq7, Hvb, Hxy⟩ : ∃ q, n2 = q + 2 ∧ q ≤ 6 ∧ (∃ h : q < (outer l).length, (outer l)[q] = VB) ∧ ∃ h : q + 1 < (outer l).length, (outer l)[q + 1] = XY :=
    ⟨(short l).length, by have := M2'.len; rw [outer_len] at this; exact this, short_len l, ⟨by rw [outer_len]; omega, outer_vb l _⟩, ⟨by rw [outer_len]; omega, outer_xy l _⟩⟩
  subst hq
  have hsm := outer_small l
  have Hln := M2'.len
  clear M2
  generalize outer l = F at M2' hsm Hvb Hxy Hln
  have HF := foreign_any w2 F a2 (q + 2) c2 M2'.rp (by omega) (fits_small hsm)
  refine HF.mono ?_
  rintro e w3 ⟨a3, n3, c3, rfl, M3⟩
  clear HF
  obtain rfl : n3 = q + 2 := by have := M3.len; simp [foreign] at this; omega
  have hlen2 : (foreign F).length = F.length := by simp [foreign]
  have R2 := M2'.rp.kept M3.kp
  have R3 := M3.rp
  have k3 := M2'.kp.trans M3.kp (fun x hx => by simp at hx)
  have hff : foreign (foreign F) = foreign F := foreign_twice F
  have hsm2 := foreign_small hsm
  obtain ⟨_, Hvb⟩ := Hvb
  obtain ⟨_, Hxy⟩ := Hxy
  have GV : Hid (∃ h : q < (foreign F).length, (foreign F)[q] = (⟨#[118, 105, 101, 119, 66, 111, 120]⟩, ⟨#[118]⟩)) := ⟨by omega, by
    rw [foreign_get (by omega), Hvb]
    exact Prod.ext fix_vb rfl⟩
  have GX : Hid (∃ h : q + 1 < (foreign F).length, (foreign F)[q + 1] = (⟨#[120]⟩, ⟨#[121]⟩)) := ⟨by omega, by
    rw [foreign_get (by omega), Hxy]
    exact Prod.ext fix_x rfl⟩
  have GK : Hid (∀ k (h : k < F.length) (h' : k < (foreign F).length), (foreign F)[k].2 = F[k].2) := fun k h h' => by rw [foreign_get h h']
  have HHl : Hid (q + 2 = F.length) := Hln
  have HHm : Hid ((foreign F).length = F.length) := hlen2
  clear M2' M3 Hvb Hxy hsm Hln hlen2
  generalize foreign F = G at R3 hff hsm2 GV GX GK HHm
  go_wp2
  go_loopw [4] (fun i wr => ∃ k : Nat, k ≤ q + 2 ∧ i = .int .i64 k ∧ Kp [] w3 wr) (fun i _ => q + 2 - (intOf i).toNat)
  case atStart => exact ⟨0, Nat.zero_le _, rfl, Kp.refl _ _⟩
  case round =>
    obtain ⟨k, hk, rfl, kp⟩ := hrel
    by_cases hlt : k < q + 2
    · have hkF : k < F.length := by have := HHl.out; omega
      have hkG : k < G.length := by have := HHl.out; have := HHm.out; omega
      obtain ⟨b1, o1, rfl, h1, h2⟩ := (R2.kept kp).get k hkF
      obtain ⟨b2, o2, rfl, h3, h4⟩ := (R3.kept kp).get k hkG
      rw [GK.out k hkF hkG] at h4
      clear R2 R3 h1 h3 hff hsm2 GV GX GK HHl HHm
      generalize F[k].2 = z at h2 h4
      clear hkF hkG
      go_wp2_with fail
      go_quiet (fail)
      go_wp2
      go_roundw
      case rel => exact ⟨k + 1, by omega, by go_num, kp.drewN _⟩
      case measure => simp [intOf]; omega
    · obtain rfl : k = q + 2 := by omega
      obtain ⟨hq1, gv⟩ := GV.out
      obtain ⟨hq2, gx⟩ := GX.out
      obtain ⟨b2, o2, rfl, h3, h4⟩ := (R3.kept kp).get q hq1
      obtain ⟨b3, o3, e5, h5, h6⟩ := (R3.kept kp).get (q + 1) hq2
      simp only [Option.some.injEq, Addr.mk.injEq, and_true] at e5
      obtain ⟨rfl, rfl⟩ := e5
      rw [gv] at h3
      rw [gx] at h5
      have HF2 := foreign_any wr G _ _ _ (R3.kept kp) (by omega) (fits_small hsm2)
      rw [hff] at HF2
      have R4 := R3.kept kp
      clear gv gx hq1 hq2 GV GX GK HHl HHm h4 h6 R2 R3 hff
      go_wp2_with fail
      refine HF2.mono ?_
      rintro e w5 ⟨a5, n5, c5, rfl, M5⟩
      clear HF2 h3 h5
      have hn5 : n5 ≤ 1000 := by have := M5.len; have := R4.len; omega
      have HSm := same_any w5 G G _ _ _ _ _ _ M5.rp (R4.kept M5.kp) hn5 (by omega)
      rw [same_yes rfl] at HSm
      have k5 := (k3.trans kp (fun x hx => by simp at hx)).trans M5.kp (fun x hx => by simp at hx)
      clear M5 R4
      go_wp2_with fail
      refine HSm.mono ?_
      rintro e w6 ⟨rfl, k6⟩
      clear HSm
      have HK := from_back (known_any w6) (k5.trans k6 (fun x hx => by simp at hx))
      go_wp2_with fail
      refine HK.mono ?_
      rintro e w7 ⟨rfl, k7⟩
      clear HK
      go_wp2
      go_ret
      exact ⟨rfl, k7⟩

end Go.Proofs.Ytbhgldinoijecaa
