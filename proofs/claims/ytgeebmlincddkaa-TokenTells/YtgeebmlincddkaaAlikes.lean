/-
  same: the program and the document tell alike, of any two tokens that are not too long.
-/
import Derived.Test.YtgeebmlincddkaaAgree
namespace Go.Proofs.Ytgeebmlincddkaa
open Go.RowKit

set_option maxRecDepth 100000 in
set_option maxHeartbeats 8000000 in
theorem alikes_any (w : World) (k k' : Int) (x x' y y' : ByteArray) (l l' : List Att) (b b' : Bool) (ao bo : Option Addr) (n c p d : Nat) (hr : Rp w ao n c l) (hs : Rp w bo p d l') (hla : brief l) (hlb : brief l') (hx : x.size ≤ 1000) (hy : y.size ≤ 100000) :
    Calls Try.prog 7 #[tv k x ao n c b y, tv k' x' bo p d b' y'] w fun e w' => e = .returned (.bool true) ∧ Kp [] w w' := by
  obtain ⟨W, hW⟩ : ∃ W, W = (w.alloc (.cells #[.int .i64 k, .string x, .slice ao n c, .bool b, .string y] 24)).alloc (.cells #[.int .i64 k', .string x', .slice bo p d, .bool b', .string y'] 24) := ⟨_, rfl⟩
  have k0 : Kp [] w W := by rw [hW]; exact ((Kp.refl _ _).alloc _).alloc _
  have hra := hr.kept k0
  have hrb := hs.kept k0
  have n1 : n ≤ 100 := by have h1 := hr.len; have h2 := hla.1; omega
  have n2 : p ≤ 100 := by have h1 := hs.len; have h2 := hlb.1; omega
  have C1 : Hid (∀ V, Kp [] W V → V.cell? ⟨w.heap.size, 0, none⟩ = some (.int .i64 k) ∧ V.cell? ⟨w.heap.size, 1, none⟩ = some (.string x) ∧ V.cell? ⟨w.heap.size, 2, none⟩ = some (.slice ao n c) ∧ V.cell? ⟨w.heap.size, 3, none⟩ = some (.bool b) ∧ V.cell? ⟨w.heap.size, 4, none⟩ = some (.string y) ∧ V.cell? ⟨w.heap.size + 1, 0, none⟩ = some (.int .i64 k') ∧ V.cell? ⟨w.heap.size + 1, 1, none⟩ = some (.string x') ∧ V.cell? ⟨w.heap.size + 1, 2, none⟩ = some (.slice bo p d) ∧ V.cell? ⟨w.heap.size + 1, 3, none⟩ = some (.bool b') ∧ V.cell? ⟨w.heap.size + 1, 4, none⟩ = some (.string y')) := fun V kV => by
    rw [hW] at kV
    obtain ⟨⟨c0, c1, c2, c3, c4⟩, ⟨d0, d1, d2, d3, d4⟩⟩ := box_two _ _ _ _ _ _ _ _ _ _ _ V kV
    exact ⟨c0, c1, c2, c3, c4, d0, d1, d2, d3, d4⟩
  have H1 : Hid (∀ V, Kp [] W V → Calls Try.prog 15 #[.agg #[.int .i64 k, .string x, .slice ao n c, .bool b, .string y]] V fun e w' => e = .returned (.bool (right (k, x, l, b, y))) ∧ Kp [] V w') := fun V kV => right_any V k x y l b ao n c (hra.kept kV) (by omega) (brief_fits hla) (by omega)
  have H2 : Hid (∀ V, Kp [] W V → Calls Try.prog 16 #[.agg #[.int .i64 k, .string x, .slice ao n c, .bool b, .string y]] V fun e w' => e = .returned (.bool (right (k, x, l, b, y))) ∧ Kp [] V w') := fun V kV => judge_any V k x y l b ao n c (hra.kept kV) (by omega) (by omega)
  have H3 : Hid (∀ V, Kp [] W V → Calls Try.prog 13 #[.agg #[.int .i64 k, .string x, .slice ao n c, .bool b, .string y]] V fun e w' => e = .returned (.string (told (k, x, l, b, y))) ∧ Kp [] V w') := fun V kV => text_any V k x y l b ao n c (hra.kept kV) hla hx hy
  have H4 : Hid (∀ V, Kp [] W V → Calls Try.prog 17 #[.agg #[.int .i64 k, .string x, .slice ao n c, .bool b, .string y]] V fun e w' => e = .returned (.string (told (k, x, l, b, y))) ∧ Kp [] V w') := fun V kV => ref_text_any V k x y l b ao n c (hra.kept kV) hla hx hy
  have H5 : Hid (∀ V, Kp [] W V → Calls Try.prog 14 #[.agg #[.int .i64 k, .string x, .slice ao n c, .bool b, .string y], .agg #[.int .i64 k', .string x', .slice bo p d, .bool b', .string y']] V fun e w' => e = .returned ((.bool (decide (((k, x, l, b, y) : Tok) = (k', x', l', b', y'))))) ∧ Kp [] V w') := fun V kV => tsame_any V k k' x x' y y' l l' b b' ao bo n c p d (hra.kept kV) (hrb.kept kV) (by omega) (by omega)
  have H6 : Hid (∀ V, Kp [] W V → Calls Try.prog 18 #[.agg #[.int .i64 k, .string x, .slice ao n c, .bool b, .string y], .agg #[.int .i64 k', .string x', .slice bo p d, .bool b', .string y']] V fun e w' => e = .returned ((.bool (decide (((k, x, l, b, y) : Tok) = (k', x', l', b', y'))))) ∧ Kp [] V w') := fun V kV => ref_tsame_any V k k' x x' y y' l l' b b' ao bo n c p d (hra.kept kV) (hrb.kept kV) (by omega) (by omega)
  have H7 : Hid (∀ V, Kp [] W V → Calls Try.prog 14 #[.agg #[.int .i64 k, .string x, .slice ao n c, .bool b, .string y], .agg #[.int .i64 k, .string x, .slice ao n c, .bool b, .string y]] V fun e w' => e = .returned (.bool true) ∧ Kp [] V w') := fun V kV => by
    have := tsame_any V k k x x y y l l b b ao ao n c n c (hra.kept kV) (hra.kept kV) (by omega) (by omega)
    rw [decide_eq_true rfl] at this
    exact this
  generalize right (k, x, l, b, y) = R at H1 H2
  generalize told (k, x, l, b, y) = T at H3 H4
  generalize decide (((k, x, l, b, y) : Tok) = (k', x', l', b', y')) = D at H5 H6
  obtain ⟨c0, c1, c2, c3, c4, d0, d1, d2, d3, d4⟩ := C1.out W (Kp.refl _ _)
  clear hr hs hra hrb hla hlb
  unfold tv
  go_enter Try.func7, Try.ntmps7
  go_wp2_with fail
  rw [← hW]
  clear hW
  go_region_held3 (fun w' => w'.cell? ⟨w.heap.size, 0, none⟩ = some (.int .i64 k) ∧ w'.cell? ⟨w.heap.size, 1, none⟩ = some (.string x) ∧ w'.cell? ⟨w.heap.size, 2, none⟩ = some (.slice ao n c) ∧ w'.cell? ⟨w.heap.size, 3, none⟩ = some (.bool b) ∧ w'.cell? ⟨w.heap.size, 4, none⟩ = some (.string y) ∧ w'.cell? ⟨w.heap.size + 1, 0, none⟩ = some (.int .i64 k') ∧ w'.cell? ⟨w.heap.size + 1, 1, none⟩ = some (.string x') ∧ w'.cell? ⟨w.heap.size + 1, 2, none⟩ = some (.slice bo p d) ∧ w'.cell? ⟨w.heap.size + 1, 3, none⟩ = some (.bool b') ∧ w'.cell? ⟨w.heap.size + 1, 4, none⟩ = some (.string y'))
    (first
      | with_reducible exact C1.out _ S7.out
      | with_reducible exact C1.out _ S6.out
      | with_reducible exact C1.out _ S5.out
      | with_reducible exact C1.out _ S4.out
      | with_reducible exact C1.out _ S3.out
      | with_reducible exact C1.out _ S2.out
      | with_reducible exact C1.out _ S1.out
      | exact C1.out _ (Kp.refl [] W).drew)
    (first
      | (go_at_call 14; have D7 := S6.out; refine (H7.out _ S6.out).mono ?_; rintro e v7 ⟨rfl, kk⟩; have S7 : Hid (Kp [] W v7) := S6.out.trans kk (fun x hx => by simp at hx); clear kk)
      | (go_at_call 18; have D6 := S5.out; refine (H6.out _ S5.out).mono ?_; rintro e v6 ⟨rfl, kk⟩; have S6 : Hid (Kp [] W v6) := S5.out.trans kk (fun x hx => by simp at hx); clear kk)
      | (go_at_call 14; have D5 := S4.out; refine (H5.out _ S4.out).mono ?_; rintro e v5 ⟨rfl, kk⟩; have S5 : Hid (Kp [] W v5) := S4.out.trans kk (fun x hx => by simp at hx); clear kk)
      | (go_at_call 17; have D4 := S3.out; refine (H4.out _ S3.out).mono ?_; rintro e v4 ⟨rfl, kk⟩; have S4 : Hid (Kp [] W v4) := S3.out.trans kk (fun x hx => by simp at hx); clear kk)
      | (go_at_call 13; have D3 := S2.out; refine (H3.out _ S2.out).mono ?_; rintro e v3 ⟨rfl, kk⟩; have S3 : Hid (Kp [] W v3) := S2.out.trans kk (fun x hx => by simp at hx); clear kk)
      | (go_at_call 16; have D2 := S1.out; refine (H2.out _ S1.out).mono ?_; rintro e v2 ⟨rfl, kk⟩; have S2 : Hid (Kp [] W v2) := S1.out.trans kk (fun x hx => by simp at hx); clear kk)
      | (go_at_call 15; refine (H1.out _ (Kp.refl [] W).drew).mono ?_; rintro e v1 ⟨rfl, kk⟩; have S1 : Hid (Kp [] W v1) := (Kp.refl [] W).drew.trans kk (fun x hx => by simp at hx); clear kk))
  have kz := k0.trans S7.out (fun x hx => by simp at hx)
  clear C1 H1 H2 H3 H4 H5 H6 H7 S1 S2 S3 S4 S5 S6 S7 c0 c1 c2 c3 c4 d0 d1 d2 d3 d4 k0
  go_wp2
  go_ret
  exact ⟨rfl, kz⟩

end Go.Proofs.Ytgeebmlincddkaa
