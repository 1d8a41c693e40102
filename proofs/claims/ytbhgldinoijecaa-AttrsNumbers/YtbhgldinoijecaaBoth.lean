/-
  same: the program and the document tell alike, of any two lists and any attribute.
-/
import Derived.Test.YtbhgldinoijecaaAgree
namespace Go.Proofs.Ytbhgldinoijecaa
open Go.RowKit

theorem uniq_len (l : List Att) : (uniq l).length ≤ l.length := by
  have := more_len l []
  unfold uniq
  simp at this
  omega

theorem foreign_len (l : List Att) : (foreign l).length = l.length := by simp [foreign]

set_option maxRecDepth 100000 in
set_option maxHeartbeats 8000000 in
/-- same, from its last row on. -/
theorem both_any (w : World) (l m : List Att) (a : Att) (ao bo : Option Addr) (n c p d : Nat) (hr : Rp w ao n c l) (hs : Rp w bo p d m) (hl : n ≤ 100) (hm : p ≤ 100) (hf : fits l) (hfm : fits m) (hfa : fits [a]) :
    Calls Try.prog 7 #[.slice ao n c, .slice bo p d, av a] w fun e w' => e = .returned (.bool true) ∧ Kp [] w w' := by
  obtain ⟨w1, hw1⟩ : ∃ w1, w1 = w.alloc (.cells #[.string a.1, .string a.2] 23) := ⟨_, rfl⟩
  have kb : Kp [] w w1 := by rw [hw1]; exact (Kp.refl _ _).alloc _
  have cb : w1.heap[w.heap.size]? = some (.cells #[.string a.1, .string a.2] 23) := by rw [hw1]; exact heap_new _ _
  have lb : w.heap.size < w1.heap.size := by rw [hw1]; simp
  have c0 : w1.cell? ⟨w.heap.size, 0, none⟩ = some (.string a.1) := by rw [cell_of cb]; rfl
  have HG := get_any w1 a.1 l ao n c (hr.kept kb) (by omega) hf
  have D1 : Hid (∀ v, Kp [] w1 v → v.cell? ⟨w.heap.size, 0, none⟩ = some (.string a.1) ∧ v.cell? ⟨w.heap.size, 1, none⟩ = some (.string a.2)) := fun v kv => by
    have : v.heap[w.heap.size]? = some (.cells #[.string a.1, .string a.2] 23) := by rw [kv.block _ lb (by simp)]; exact cb
    exact ⟨by rw [cell_of this]; rfl, by rw [cell_of this]; rfl⟩
  unfold av
  go_enter Try.func7, Try.ntmps7
  rw [hw1] at HG
  go_wp2_with fail
  refine HG.mono ?_
  rintro e w2 ⟨rfl, k2⟩
  clear HG
  rw [← hw1] at k2
  clear hw1 cb lb c0
  obtain ⟨g0, g1⟩ := D1.out w2 k2
  have HH := ref_has_any w2 a.1 l ao n c ((hr.kept kb).kept k2) (by omega)
  have kw1 : Kp [] w1 w2 := k2
  cases hi : idx l a.1 with
  | none =>
    have hg := idx_none.1 hi
    rw [hi] at HH
    rw [hg]
    simp only [gtn]
    simp only [plc] at HH
    clear hi hg
    go_wp2_with fail
    refine HH.mono ?_
    rintro e V ⟨rfl, k3⟩
    clear HH g0 g1
    have kV := k2.trans k3 (fun x hx => by simp at hx)
    clear k2 k3 kw1
    have C1 : Hid (∀ v, Kp [] V v → v.cell? ⟨w.heap.size, 0, none⟩ = some (.string a.1) ∧ v.cell? ⟨w.heap.size, 1, none⟩ = some (.string a.2)) := fun v kv => D1.out v (kV.trans kv (fun x hx => by simp at hx))
    have HR : Hid (∀ v, Kp [] V v → Rp v ao n c l) := fun v kv => ((hr.kept kb).kept kV).kept kv
    have HT : Hid (∀ v, Kp [] V v → Rp v bo p d m) := fun v kv => ((hs.kept kb).kept kV).kept kv
    have HB1 : Hid (∀ v, Kp [] V v → Calls Try.prog 13 #[.slice ao n c, .slice bo p d] v fun e w' => e = .returned (.bool (same l m)) ∧ Kp [] v w') := fun v kv => same_any v l m ao bo n c p d (HR.out v kv) (HT.out v kv) (by omega) (by omega)
    have HB2 : Hid (∀ v, Kp [] V v → Calls Try.prog 25 #[.slice ao n c, .slice bo p d] v fun e w' => e = .returned (.bool (same l m)) ∧ Kp [] v w') := fun v kv => ref_same_any v l m ao bo n c p d (HR.out v kv) (HT.out v kv) (by omega) (by omega)
    have HB3 : Hid (∀ v, Kp [] V v → Calls Try.prog 17 #[.slice ao n c, .slice bo p d] v fun e w' => e = .returned (.bool (alike l m)) ∧ Kp [] v w') := fun v kv => alike_any v l m ao bo n c p d (HR.out v kv) (HT.out v kv) (by omega) (by omega) hf hfm
    have HB4 : Hid (∀ v, Kp [] V v → Calls Try.prog 26 #[.slice ao n c, .slice bo p d] v fun e w' => e = .returned (.bool (alike l m)) ∧ Kp [] v w') := fun v kv => ref_alike_any v l m ao bo n c p d (HR.out v kv) (HT.out v kv) (by omega) (by omega)
    have B3 : Hid ((add l a).length ≤ 1000) := by have h1 := add_len l a; have h2 := hr.len; show (add l a).length ≤ 1000; omega
    have B6 : Hid ((uniq l).length ≤ 1000) := by have h1 := uniq_len l; have h2 := hr.len; show (uniq l).length ≤ 1000; omega
    have B9 : Hid ((more l m).length ≤ 1000) := by have h1 := more_len m l; have h2 := hr.len; have h3 := hs.len; show (more l m).length ≤ 1000; omega
    have B16 : Hid ((foreign l).length ≤ 1000) := by have h1 := foreign_len l; have h2 := hr.len; show (foreign l).length ≤ 1000; omega
    have kz := kb.trans kV (fun x hx => by simp at hx)
    generalize same l m = sb at HB1 HB2
    generalize alike l m = ab at HB3 HB4
    obtain ⟨e0, e1⟩ := C1.out V (Kp.refl _ _)
    clear hr hs kb kV D1
    go_wp2_with fail
    go_region_held3 (fun w' => w'.cell? ⟨w.heap.size, 0, none⟩ = some (.string a.1) ∧ w'.cell? ⟨w.heap.size, 1, none⟩ = some (.string a.2))
      (first
      | exact C1.out _ S16.out
      | exact C1.out _ S15.out
      | exact C1.out _ S14.out
      | exact C1.out _ S13.out
      | exact C1.out _ S12.out
      | exact C1.out _ S11.out
      | exact C1.out _ S10.out
      | exact C1.out _ S9.out
      | exact C1.out _ S8.out
      | exact C1.out _ S7.out
      | exact C1.out _ S6.out
      | exact C1.out _ S5.out
      | exact C1.out _ S4.out
      | exact C1.out _ S3.out
      | exact C1.out _ S2.out
      | exact C1.out _ S1.out
      | exact C1.out _ (Kp.refl [] V).drew)
      (first
      | (go_at_call 20; have D16 := S15.out; refine (attrs_self _ _ _ _ _ _ _ _ Q14.out R15.out (by have h1 := L14.out; have h2 := B16.out; omega)).mono ?_; rintro e v16 ⟨rfl, kk⟩; have S16 : Hid (Kp [] V v16) := S15.out.trans kk (fun x hx => by simp at hx); clear kk)
      | (go_at_call 27; have D15 := S14.out; refine (ref_foreign_any _ l ao n c (HR.out _ S14.out) (by omega)).mono ?_; rintro e v15 ⟨a15, n15, c15, rfl, N15⟩; have S15 : Hid (Kp [] V v15) := S14.out.trans N15.kp (fun x hx => by simp at hx); have R15 : Hid (Rp v15 a15 n15 c15 _) := N15.rp; have L15 : Hid (n15 = List.length _) := N15.len; have Q14 : Hid (Rp v15 a14 n14 c14 _) := R14.out.kept N15.kp; clear N15)
      | (go_at_call 18; have D14 := S13.out; refine (foreign_any _ l ao n c (HR.out _ S13.out) (by omega) hf).mono ?_; rintro e v14 ⟨a14, n14, c14, rfl, N14⟩; have S14 : Hid (Kp [] V v14) := S13.out.trans N14.kp (fun x hx => by simp at hx); have R14 : Hid (Rp v14 a14 n14 c14 _) := N14.rp; have L14 : Hid (n14 = List.length _) := N14.len; clear N14)
      | (go_at_call 26; have D13 := S12.out; refine (HB4.out _ S12.out).mono ?_; rintro e v13 ⟨rfl, kk⟩; have S13 : Hid (Kp [] V v13) := S12.out.trans kk (fun x hx => by simp at hx); clear kk)
      | (go_at_call 17; have D12 := S11.out; refine (HB3.out _ S11.out).mono ?_; rintro e v12 ⟨rfl, kk⟩; have S12 : Hid (Kp [] V v12) := S11.out.trans kk (fun x hx => by simp at hx); clear kk)
      | (go_at_call 25; have D11 := S10.out; refine (HB2.out _ S10.out).mono ?_; rintro e v11 ⟨rfl, kk⟩; have S11 : Hid (Kp [] V v11) := S10.out.trans kk (fun x hx => by simp at hx); clear kk)
      | (go_at_call 13; have D10 := S9.out; refine (HB1.out _ S9.out).mono ?_; rintro e v10 ⟨rfl, kk⟩; have S10 : Hid (Kp [] V v10) := S9.out.trans kk (fun x hx => by simp at hx); clear kk)
      | (go_at_call 20; have D9 := S8.out; refine (attrs_self _ _ _ _ _ _ _ _ Q7.out R8.out (by have h1 := L7.out; have h2 := B9.out; omega)).mono ?_; rintro e v9 ⟨rfl, kk⟩; have S9 : Hid (Kp [] V v9) := S8.out.trans kk (fun x hx => by simp at hx); clear kk)
      | (go_at_call 24; have D8 := S7.out; refine (ref_more_any _ l m ao bo n c p d (HR.out _ S7.out) (HT.out _ S7.out) (by omega) (by omega)).mono ?_; rintro e v8 ⟨a8, n8, c8, rfl, N8⟩; have S8 : Hid (Kp [] V v8) := S7.out.trans N8.kp (fun x hx => by simp at hx); have R8 : Hid (Rp v8 a8 n8 c8 _) := N8.rp; have L8 : Hid (n8 = List.length _) := N8.len; have Q7 : Hid (Rp v8 a7 n7 c7 _) := R7.out.kept N8.kp; clear N8)
      | (go_at_call 12; have D7 := S6.out; refine (more_any _ l m ao bo n c p d (HR.out _ S6.out) (HT.out _ S6.out) (by omega) (by omega) hf hfm).mono ?_; rintro e v7 ⟨a7, n7, c7, rfl, N7⟩; have S7 : Hid (Kp [] V v7) := S6.out.trans N7.kp (fun x hx => by simp at hx); have R7 : Hid (Rp v7 a7 n7 c7 _) := N7.rp; have L7 : Hid (n7 = List.length _) := N7.len; clear N7)
      | (go_at_call 20; have D6 := S5.out; refine (attrs_self _ _ _ _ _ _ _ _ Q4.out R5.out (by have h1 := L4.out; have h2 := B6.out; omega)).mono ?_; rintro e v6 ⟨rfl, kk⟩; have S6 : Hid (Kp [] V v6) := S5.out.trans kk (fun x hx => by simp at hx); clear kk)
      | (go_at_call 23; have D5 := S4.out; refine (ref_uniq_any _ l ao n c (HR.out _ S4.out) (by omega)).mono ?_; rintro e v5 ⟨a5, n5, c5, rfl, N5⟩; have S5 : Hid (Kp [] V v5) := S4.out.trans N5.kp (fun x hx => by simp at hx); have R5 : Hid (Rp v5 a5 n5 c5 _) := N5.rp; have L5 : Hid (n5 = List.length _) := N5.len; have Q4 : Hid (Rp v5 a4 n4 c4 _) := R4.out.kept N5.kp; clear N5)
      | (go_at_call 15; have D4 := S3.out; refine (uniq_any _ l ao n c (HR.out _ S3.out) (by omega) hf).mono ?_; rintro e v4 ⟨a4, n4, c4, rfl, N4⟩; have S4 : Hid (Kp [] V v4) := S3.out.trans N4.kp (fun x hx => by simp at hx); have R4 : Hid (Rp v4 a4 n4 c4 _) := N4.rp; have L4 : Hid (n4 = List.length _) := N4.len; clear N4)
      | (go_at_call 20; have D3 := S2.out; refine (attrs_self _ _ _ _ _ _ _ _ Q1.out R2.out (by have h1 := L1.out; have h2 := B3.out; omega)).mono ?_; rintro e v3 ⟨rfl, kk⟩; have S3 : Hid (Kp [] V v3) := S2.out.trans kk (fun x hx => by simp at hx); clear kk)
      | (go_at_call 22; have D2 := S1.out; refine (ref_add_any _ l a ao n c (HR.out _ S1.out) (by omega)).mono ?_; rintro e v2 ⟨a2, n2, c2, rfl, N2⟩; have S2 : Hid (Kp [] V v2) := S1.out.trans N2.kp (fun x hx => by simp at hx); have R2 : Hid (Rp v2 a2 n2 c2 _) := N2.rp; have L2 : Hid (n2 = List.length _) := N2.len; have Q1 : Hid (Rp v2 a1 n1 c1 _) := R1.out.kept N2.kp; clear N2)
      | (go_at_call 21; refine (add_any _ l a ao n c (HR.out _ (Kp.refl [] V).drew) (by omega) hf hfa).mono ?_; rintro e v1 ⟨a1, n1, c1, rfl, N1⟩; have S1 : Hid (Kp [] V v1) := (Kp.refl [] V).drew.trans N1.kp (fun x hx => by simp at hx); have R1 : Hid (Rp v1 a1 n1 c1 _) := N1.rp; have L1 : Hid (n1 = List.length _) := N1.len; clear N1))
    go_wp2
    go_ret
    exact ⟨rfl, kz.trans S16.out (fun x hx => by simp at hx)⟩
  | some i =>
    obtain ⟨hlt, hg⟩ := idx_get hi
    rw [hi] at HH
    rw [hg]
    simp only [gtn]
    obtain ⟨z, hz⟩ : ∃ z, l[i].2 = z := ⟨_, rfl⟩
    rw [hz]
    simp only [plc] at HH
    clear hi hg
    go_wp2_with fail
    refine HH.mono ?_
    rintro e V ⟨rfl, k3⟩
    clear HH g0 g1
    have kV := k2.trans k3 (fun x hx => by simp at hx)
    clear k2 k3 kw1
    obtain ⟨b1, o1, rfl, h3, h4⟩ := ((hr.kept kb).kept kV).get i hlt
    have hin : i < n := by have := hr.len; omega
    rw [hz] at h4
    clear h3 hz hlt
    have C1 : Hid (∀ v, Kp [] V v → v.cell? ⟨w.heap.size, 0, none⟩ = some (.string a.1) ∧ v.cell? ⟨w.heap.size, 1, none⟩ = some (.string a.2)) := fun v kv => D1.out v (kV.trans kv (fun x hx => by simp at hx))
    have HR : Hid (∀ v, Kp [] V v → Rp v (some ⟨b1, o1, none⟩) n c l) := fun v kv => ((hr.kept kb).kept kV).kept kv
    have HT : Hid (∀ v, Kp [] V v → Rp v bo p d m) := fun v kv => ((hs.kept kb).kept kV).kept kv
    have HB1 : Hid (∀ v, Kp [] V v → Calls Try.prog 13 #[.slice (some ⟨b1, o1, none⟩) n c, .slice bo p d] v fun e w' => e = .returned (.bool (same l m)) ∧ Kp [] v w') := fun v kv => same_any v l m (some ⟨b1, o1, none⟩) bo n c p d (HR.out v kv) (HT.out v kv) (by omega) (by omega)
    have HB2 : Hid (∀ v, Kp [] V v → Calls Try.prog 25 #[.slice (some ⟨b1, o1, none⟩) n c, .slice bo p d] v fun e w' => e = .returned (.bool (same l m)) ∧ Kp [] v w') := fun v kv => ref_same_any v l m (some ⟨b1, o1, none⟩) bo n c p d (HR.out v kv) (HT.out v kv) (by omega) (by omega)
    have HB3 : Hid (∀ v, Kp [] V v → Calls Try.prog 17 #[.slice (some ⟨b1, o1, none⟩) n c, .slice bo p d] v fun e w' => e = .returned (.bool (alike l m)) ∧ Kp [] v w') := fun v kv => alike_any v l m (some ⟨b1, o1, none⟩) bo n c p d (HR.out v kv) (HT.out v kv) (by omega) (by omega) hf hfm
    have HB4 : Hid (∀ v, Kp [] V v → Calls Try.prog 26 #[.slice (some ⟨b1, o1, none⟩) n c, .slice bo p d] v fun e w' => e = .returned (.bool (alike l m)) ∧ Kp [] v w') := fun v kv => ref_alike_any v l m (some ⟨b1, o1, none⟩) bo n c p d (HR.out v kv) (HT.out v kv) (by omega) (by omega)
    have B3 : Hid ((add l a).length ≤ 1000) := by have h1 := add_len l a; have h2 := hr.len; show (add l a).length ≤ 1000; omega
    have B6 : Hid ((uniq l).length ≤ 1000) := by have h1 := uniq_len l; have h2 := hr.len; show (uniq l).length ≤ 1000; omega
    have B9 : Hid ((more l m).length ≤ 1000) := by have h1 := more_len m l; have h2 := hr.len; have h3 := hs.len; show (more l m).length ≤ 1000; omega
    have B16 : Hid ((foreign l).length ≤ 1000) := by have h1 := foreign_len l; have h2 := hr.len; show (foreign l).length ≤ 1000; omega
    have kz := kb.trans kV (fun x hx => by simp at hx)
    generalize same l m = sb at HB1 HB2
    generalize alike l m = ab at HB3 HB4
    obtain ⟨e0, e1⟩ := C1.out V (Kp.refl _ _)
    clear hr hs kb kV D1
    go_wp2_with fail
    go_region_held3 (fun w' => w'.cell? ⟨w.heap.size, 0, none⟩ = some (.string a.1) ∧ w'.cell? ⟨w.heap.size, 1, none⟩ = some (.string a.2))
      (first
      | exact C1.out _ S16.out
      | exact C1.out _ S15.out
      | exact C1.out _ S14.out
      | exact C1.out _ S13.out
      | exact C1.out _ S12.out
      | exact C1.out _ S11.out
      | exact C1.out _ S10.out
      | exact C1.out _ S9.out
      | exact C1.out _ S8.out
      | exact C1.out _ S7.out
      | exact C1.out _ S6.out
      | exact C1.out _ S5.out
      | exact C1.out _ S4.out
      | exact C1.out _ S3.out
      | exact C1.out _ S2.out
      | exact C1.out _ S1.out
      | exact C1.out _ (Kp.refl [] V).drew)
      (first
      | (go_at_call 20; have D16 := S15.out; refine (attrs_self _ _ _ _ _ _ _ _ Q14.out R15.out (by have h1 := L14.out; have h2 := B16.out; omega)).mono ?_; rintro e v16 ⟨rfl, kk⟩; have S16 : Hid (Kp [] V v16) := S15.out.trans kk (fun x hx => by simp at hx); clear kk)
      | (go_at_call 27; have D15 := S14.out; refine (ref_foreign_any _ l (some ⟨b1, o1, none⟩) n c (HR.out _ S14.out) (by omega)).mono ?_; rintro e v15 ⟨a15, n15, c15, rfl, N15⟩; have S15 : Hid (Kp [] V v15) := S14.out.trans N15.kp (fun x hx => by simp at hx); have R15 : Hid (Rp v15 a15 n15 c15 _) := N15.rp; have L15 : Hid (n15 = List.length _) := N15.len; have Q14 : Hid (Rp v15 a14 n14 c14 _) := R14.out.kept N15.kp; clear N15)
      | (go_at_call 18; have D14 := S13.out; refine (foreign_any _ l (some ⟨b1, o1, none⟩) n c (HR.out _ S13.out) (by omega) hf).mono ?_; rintro e v14 ⟨a14, n14, c14, rfl, N14⟩; have S14 : Hid (Kp [] V v14) := S13.out.trans N14.kp (fun x hx => by simp at hx); have R14 : Hid (Rp v14 a14 n14 c14 _) := N14.rp; have L14 : Hid (n14 = List.length _) := N14.len; clear N14)
      | (go_at_call 26; have D13 := S12.out; refine (HB4.out _ S12.out).mono ?_; rintro e v13 ⟨rfl, kk⟩; have S13 : Hid (Kp [] V v13) := S12.out.trans kk (fun x hx => by simp at hx); clear kk)
      | (go_at_call 17; have D12 := S11.out; refine (HB3.out _ S11.out).mono ?_; rintro e v12 ⟨rfl, kk⟩; have S12 : Hid (Kp [] V v12) := S11.out.trans kk (fun x hx => by simp at hx); clear kk)
      | (go_at_call 25; have D11 := S10.out; refine (HB2.out _ S10.out).mono ?_; rintro e v11 ⟨rfl, kk⟩; have S11 : Hid (Kp [] V v11) := S10.out.trans kk (fun x hx => by simp at hx); clear kk)
      | (go_at_call 13; have D10 := S9.out; refine (HB1.out _ S9.out).mono ?_; rintro e v10 ⟨rfl, kk⟩; have S10 : Hid (Kp [] V v10) := S9.out.trans kk (fun x hx => by simp at hx); clear kk)
      | (go_at_call 20; have D9 := S8.out; refine (attrs_self _ _ _ _ _ _ _ _ Q7.out R8.out (by have h1 := L7.out; have h2 := B9.out; omega)).mono ?_; rintro e v9 ⟨rfl, kk⟩; have S9 : Hid (Kp [] V v9) := S8.out.trans kk (fun x hx => by simp at hx); clear kk)
      | (go_at_call 24; have D8 := S7.out; refine (ref_more_any _ l m (some ⟨b1, o1, none⟩) bo n c p d (HR.out _ S7.out) (HT.out _ S7.out) (by omega) (by omega)).mono ?_; rintro e v8 ⟨a8, n8, c8, rfl, N8⟩; have S8 : Hid (Kp [] V v8) := S7.out.trans N8.kp (fun x hx => by simp at hx); have R8 : Hid (Rp v8 a8 n8 c8 _) := N8.rp; have L8 : Hid (n8 = List.length _) := N8.len; have Q7 : Hid (Rp v8 a7 n7 c7 _) := R7.out.kept N8.kp; clear N8)
      | (go_at_call 12; have D7 := S6.out; refine (more_any _ l m (some ⟨b1, o1, none⟩) bo n c p d (HR.out _ S6.out) (HT.out _ S6.out) (by omega) (by omega) hf hfm).mono ?_; rintro e v7 ⟨a7, n7, c7, rfl, N7⟩; have S7 : Hid (Kp [] V v7) := S6.out.trans N7.kp (fun x hx => by simp at hx); have R7 : Hid (Rp v7 a7 n7 c7 _) := N7.rp; have L7 : Hid (n7 = List.length _) := N7.len; clear N7)
      | (go_at_call 20; have D6 := S5.out; refine (attrs_self _ _ _ _ _ _ _ _ Q4.out R5.out (by have h1 := L4.out; have h2 := B6.out; omega)).mono ?_; rintro e v6 ⟨rfl, kk⟩; have S6 : Hid (Kp [] V v6) := S5.out.trans kk (fun x hx => by simp at hx); clear kk)
      | (go_at_call 23; have D5 := S4.out; refine (ref_uniq_any _ l (some ⟨b1, o1, none⟩) n c (HR.out _ S4.out) (by omega)).mono ?_; rintro e v5 ⟨a5, n5, c5, rfl, N5⟩; have S5 : Hid (Kp [] V v5) := S4.out.trans N5.kp (fun x hx => by simp at hx); have R5 : Hid (Rp v5 a5 n5 c5 _) := N5.rp; have L5 : Hid (n5 = List.length _) := N5.len; have Q4 : Hid (Rp v5 a4 n4 c4 _) := R4.out.kept N5.kp; clear N5)
      | (go_at_call 15; have D4 := S3.out; refine (uniq_any _ l (some ⟨b1, o1, none⟩) n c (HR.out _ S3.out) (by omega) hf).mono ?_; rintro e v4 ⟨a4, n4, c4, rfl, N4⟩; have S4 : Hid (Kp [] V v4) := S3.out.trans N4.kp (fun x hx => by simp at hx); have R4 : Hid (Rp v4 a4 n4 c4 _) := N4.rp; have L4 : Hid (n4 = List.length _) := N4.len; clear N4)
      | (go_at_call 20; have D3 := S2.out; refine (attrs_self _ _ _ _ _ _ _ _ Q1.out R2.out (by have h1 := L1.out; have h2 := B3.out; omega)).mono ?_; rintro e v3 ⟨rfl, kk⟩; have S3 : Hid (Kp [] V v3) := S2.out.trans kk (fun x hx => by simp at hx); clear kk)
      | (go_at_call 22; have D2 := S1.out; refine (ref_add_any _ l a (some ⟨b1, o1, none⟩) n c (HR.out _ S1.out) (by omega)).mono ?_; rintro e v2 ⟨a2, n2, c2, rfl, N2⟩; have S2 : Hid (Kp [] V v2) := S1.out.trans N2.kp (fun x hx => by simp at hx); have R2 : Hid (Rp v2 a2 n2 c2 _) := N2.rp; have L2 : Hid (n2 = List.length _) := N2.len; have Q1 : Hid (Rp v2 a1 n1 c1 _) := R1.out.kept N2.kp; clear N2)
      | (go_at_call 21; refine (add_any _ l a (some ⟨b1, o1, none⟩) n c (HR.out _ (Kp.refl [] V).drew) (by omega) hf hfa).mono ?_; rintro e v1 ⟨a1, n1, c1, rfl, N1⟩; have S1 : Hid (Kp [] V v1) := (Kp.refl [] V).drew.trans N1.kp (fun x hx => by simp at hx); have R1 : Hid (Rp v1 a1 n1 c1 _) := N1.rp; have L1 : Hid (n1 = List.length _) := N1.len; clear N1))
    go_wp2
    go_ret
    exact ⟨rfl, kz.trans S16.out (fun x hx => by simp at hx)⟩

end Go.Proofs.Ytbhgldinoijecaa
