/-
  AttrsTells: lists of attributes are what the document says; what is handed in is left as it was.
-/
import Derived.Test.YtbhgldinoijecaaBoth
namespace Go.Proofs.Ytbhgldinoijecaa
open Go.RowKit
set_option linter.unusedVariables false

/-- The mark. -/
def mk : Att := (⟨#[109, 97, 114, 107]⟩, ⟨#[]⟩)

theorem rooms_take (l : List Att) (n : Nat) (h : n = l.length) : (rooms l mk).take n = l := by
  unfold rooms
  rw [h, List.take_append_of_le_length (Nat.le_refl _), List.take_length]

theorem fits_take {l : List Att} (h : fits l) (k : Nat) : fits (l.take k) := fun a ha => h a (List.mem_of_mem_take ha)

set_option maxRecDepth 100000 in
set_option maxHeartbeats 4000000 in
theorem tells_ll (w : World) (l m : List Att) (a : Att) (ao bo : Option Addr) (n c p d : Nat) (hr0 : Rp w ao n c l) (hs0 : Rp w bo p d m) (hl : n ≤ 140737488355328) (hm : p ≤ 140737488355328) (hc : c ≤ 140737488355328) (hd : d ≤ 140737488355328) (hg9 : fits l) (hgm9 : fits m) (hfa : fits [a]) (h1 : n ≤ 20) (h2 : p ≤ 20) :
    Calls Try.prog 4 #[.slice ao n c, .slice bo p d, av a] w fun e w' => e = .returned (.bool true) ∧ Kp [] w w' := by
  have hr := hr0
  have hs := hs0
  have hf := hg9
  have hfm := hgm9
  have hr : Rp w ao n c l := hr
  have hs : Rp w bo p d m := hs
  have hcn := hr0.cap
  have hdp := hs0.cap
  clear hr0 hs0 hg9 hgm9
  have kb : Kp [] w ((w.alloc (.cells #[.string a.1, .string a.2] 23)).alloc (.cells #[.string ⟨#[109, 97, 114, 107]⟩, .string ⟨#[]⟩] 23)) := ((Kp.refl _ _).alloc _).alloc _
  have b0 : ((w.alloc (.cells #[.string a.1, .string a.2] 23)).alloc (.cells #[.string ⟨#[109, 97, 114, 107]⟩, .string ⟨#[]⟩] 23)).heap[w.heap.size]? = some (.cells #[.string a.1, .string a.2] 23) := by
    rw [Below.heap_alloc _ _ _ (by simp)]
    exact heap_new _ _
  have b1 : ((w.alloc (.cells #[.string a.1, .string a.2] 23)).alloc (.cells #[.string ⟨#[109, 97, 114, 107]⟩, .string ⟨#[]⟩] 23)).heap[w.heap.size + 1]? = some (.cells #[.string ⟨#[109, 97, 114, 107]⟩, .string ⟨#[]⟩] 23) := heap_new' _ _ _ (by simp)
  unfold av
  go_enter Try.func4, Try.ntmps4
  go_wp2_with fail
  generalize (w.alloc (.cells #[.string a.1, .string a.2] 23)).alloc (.cells #[.string ⟨#[109, 97, 114, 107]⟩, .string ⟨#[]⟩] 23) = W at kb b0 b1
  have C1 : Hid (∀ v, Kp [] W v → v.cell? ⟨w.heap.size, 0, none⟩ = some (.string a.1) ∧ v.cell? ⟨w.heap.size, 1, none⟩ = some (.string a.2) ∧ v.cell? ⟨w.heap.size + 1, 0, none⟩ = some (.string ⟨#[109, 97, 114, 107]⟩) ∧ v.cell? ⟨w.heap.size + 1, 1, none⟩ = some (.string ⟨#[]⟩)) := fun v kv => by
    have h0 : v.heap[w.heap.size]? = some (.cells #[.string a.1, .string a.2] 23) := by rw [kv.block _ (lt_of b0) (by simp)]; exact b0
    have h1 : v.heap[w.heap.size + 1]? = some (.cells #[.string ⟨#[109, 97, 114, 107]⟩, .string ⟨#[]⟩] 23) := by rw [kv.block _ (lt_of b1) (by simp)]; exact b1
    exact ⟨by rw [cell_of h0]; rfl, by rw [cell_of h0]; rfl, by rw [cell_of h1]; rfl, by rw [cell_of h1]; rfl⟩
  have HR : Hid (∀ v, Kp [] W v → Rp v ao n c l) := fun v kv => (hr.kept kb).kept kv
  have HT : Hid (∀ v, Kp [] W v → Rp v bo p d m) := fun v kv => (hs.kept kb).kept kv
  have HL : Hid (n = l.length) := hr.len
  have HM : Hid (p = m.length) := hs.len
  obtain ⟨g0, g1, g2, g3⟩ := C1.out W (Kp.refl _ _)
  clear b0 b1 hr hs
  go_region_held3 (fun w' => w'.cell? ⟨w.heap.size, 0, none⟩ = some (.string a.1) ∧ w'.cell? ⟨w.heap.size, 1, none⟩ = some (.string a.2) ∧ w'.cell? ⟨w.heap.size + 1, 0, none⟩ = some (.string ⟨#[109, 97, 114, 107]⟩) ∧ w'.cell? ⟨w.heap.size + 1, 1, none⟩ = some (.string ⟨#[]⟩))
    (first
      | exact C1.out _ S2.out
      | exact C1.out _ S1.out
      | exact C1.out _ (Kp.refl [] W).drew)
    (first
      | (go_at_call 9; have D2 := S1.out; refine (roomy_any _ bo p d m mk (HT.out _ S1.out) (by omega)).mono ?_; rintro e v2 ⟨a2, rfl, N2⟩; have S2 : Hid (Kp [] W v2) := S1.out.trans N2.kp (fun x hx => by simp at hx); have R2 : Hid (Rp v2 a2 (p + 80) (p + 80) (rooms m mk)) := N2.rp; have Q1 : Hid (Rp v2 a1 (n + 80) (n + 80) (rooms l mk)) := R1.out.kept N2.kp; clear N2)
      | (go_at_call 9; refine (roomy_any _ ao n c l mk (HR.out _ (Kp.refl [] W).drew) (by omega)).mono ?_; rintro e v1 ⟨a1, rfl, N1⟩; have S1 : Hid (Kp [] W v1) := (Kp.refl [] W).drew.trans N1.kp (fun x hx => by simp at hx); have R1 : Hid (Rp v1 a1 (n + 80) (n + 80) (rooms l mk)) := N1.rp; clear N1))
  have k2 := S2.out
  have C2 : Hid (∀ v, Kp [] v2 v → v.cell? ⟨w.heap.size, 0, none⟩ = some (.string a.1) ∧ v.cell? ⟨w.heap.size, 1, none⟩ = some (.string a.2) ∧ v.cell? ⟨w.heap.size + 1, 0, none⟩ = some (.string ⟨#[109, 97, 114, 107]⟩) ∧ v.cell? ⟨w.heap.size + 1, 1, none⟩ = some (.string ⟨#[]⟩)) := fun v kv => C1.out v (k2.trans kv (fun x hx => by simp at hx))
  have HX : Hid (∀ v, Kp [] v2 v → Rp v a1 n (n + 80) l) := fun v kv => by
    have := (Q1.out.kept kv).take n (by omega)
    rw [rooms_take l n HL.out] at this
    exact this
  have HY : Hid (∀ v, Kp [] v2 v → Rp v a2 p (p + 80) m) := fun v kv => by
    have := (R2.out.kept kv).take p (by omega)
    rw [rooms_take m p HM.out] at this
    exact this
  have HX2 : Hid (∀ v, Kp [] v2 v → Rp v a1 (n + 80) (n + 80) (rooms l mk)) := fun v kv => Q1.out.kept kv
  have HY2 : Hid (∀ v, Kp [] v2 v → Rp v a2 (p + 80) (p + 80) (rooms m mk)) := fun v kv => R2.out.kept kv
  have HR2 : Hid (∀ v, Kp [] v2 v → Rp v ao n c l) := fun v kv => HR.out v (k2.trans kv (fun x hx => by simp at hx))
  have HT2 : Hid (∀ v, Kp [] v2 v → Rp v bo p d m) := fun v kv => HT.out v (k2.trans kv (fun x hx => by simp at hx))
  have kz := kb.trans k2 (fun x hx => by simp at hx)
  obtain ⟨f0, f1, f2, f3⟩ := C2.out v2 (Kp.refl _ _)
  clear C1 HR HT HL HM g0 g1 g2 g3 R1 R2 Q1 S1 S2 D2 k2 kb
  have in1 : (0 : Int) ≤ (n : Int) := by omega
  have in2 : (n : Int) ≤ ((n + 80 : Nat) : Int) := by omega
  have in3 : (n : Int) ≤ (n : Int) + 80 := by omega
  have ip1 : (0 : Int) ≤ (p : Int) := by omega
  have ip2 : (p : Int) ≤ ((p + 80 : Nat) : Int) := by omega
  have ip3 : (p : Int) ≤ (p : Int) + 80 := by omega
  go_wp2_with fail
  go_region_held3 (fun w' => w'.cell? ⟨w.heap.size, 0, none⟩ = some (.string a.1) ∧ w'.cell? ⟨w.heap.size, 1, none⟩ = some (.string a.2) ∧ w'.cell? ⟨w.heap.size + 1, 0, none⟩ = some (.string ⟨#[109, 97, 114, 107]⟩) ∧ w'.cell? ⟨w.heap.size + 1, 1, none⟩ = some (.string ⟨#[]⟩))
    (first
      | exact C2.out _ S6.out
      | exact C2.out _ S5.out
      | exact C2.out _ S4.out
      | exact C2.out _ S3.out
      | exact C2.out _ (Kp.refl [] v2).drew)
    (first
      | (go_at_call 8; refine (known_any _).mono ?_; rintro e v6 ⟨rfl, kk⟩; have S6 : Hid (Kp [] v2 v6) := S5.out.trans kk (fun x hx => by simp at hx); clear kk)
      | (go_at_call 10; have D5 := S4.out; refine (intact_any _ bo a2 p d m mk (HT2.out _ S4.out) (HY2.out _ S4.out) (by omega)).mono ?_; rintro e v5 ⟨rfl, kk⟩; have S5 : Hid (Kp [] v2 v5) := S4.out.trans kk (fun x hx => by simp at hx); clear kk)
      | (go_at_call 10; refine (intact_any _ ao a1 n c l mk (HR2.out _ S3.out) (HX2.out _ S3.out) (by omega)).mono ?_; rintro e v4 ⟨rfl, kk⟩; have S4 : Hid (Kp [] v2 v4) := S3.out.trans kk (fun x hx => by simp at hx); clear kk)
      | (go_at_call 7; refine (both_any _ l m a a1 a2 n (n + 80) p (p + 80) (HX.out _ (Kp.refl [] v2).drew) (HY.out _ (Kp.refl [] v2).drew) (by omega) (by omega) hf hfm hfa).mono ?_; rintro e v3 ⟨rfl, kk⟩; have S3 : Hid (Kp [] v2 v3) := (Kp.refl [] v2).drew.trans kk (fun x hx => by simp at hx); clear kk))
  go_wp2
  go_ret
  exact ⟨rfl, kz.trans S6.out (fun x hx => by simp at hx)⟩

set_option maxRecDepth 100000 in
set_option maxHeartbeats 4000000 in
theorem tells_lc (w : World) (l m : List Att) (a : Att) (ao bo : Option Addr) (n c p d : Nat) (hr0 : Rp w ao n c l) (hs0 : Rp w bo p d m) (hl : n ≤ 140737488355328) (hm : p ≤ 140737488355328) (hc : c ≤ 140737488355328) (hd : d ≤ 140737488355328) (hg9 : fits l) (hgm9 : fits m) (hfa : fits [a]) (h1 : n ≤ 20) (h2 : 20 < p) :
    Calls Try.prog 4 #[.slice ao n c, .slice bo p d, av a] w fun e w' => e = .returned (.bool true) ∧ Kp [] w w' := by
  have hr := hr0
  have hs := hs0.take 20 (by omega)
  have hf := hg9
  have hfm := fits_take hgm9 20
  have hr : Rp w ao n c l := hr
  generalize m.take 20 = m0 at hs hfm
  have hcn := hr0.cap
  have hdp := hs0.cap
  clear hr0 hs0 hg9 hgm9
  have kb : Kp [] w ((w.alloc (.cells #[.string a.1, .string a.2] 23)).alloc (.cells #[.string ⟨#[109, 97, 114, 107]⟩, .string ⟨#[]⟩] 23)) := ((Kp.refl _ _).alloc _).alloc _
  have b0 : ((w.alloc (.cells #[.string a.1, .string a.2] 23)).alloc (.cells #[.string ⟨#[109, 97, 114, 107]⟩, .string ⟨#[]⟩] 23)).heap[w.heap.size]? = some (.cells #[.string a.1, .string a.2] 23) := by
    rw [Below.heap_alloc _ _ _ (by simp)]
    exact heap_new _ _
  have b1 : ((w.alloc (.cells #[.string a.1, .string a.2] 23)).alloc (.cells #[.string ⟨#[109, 97, 114, 107]⟩, .string ⟨#[]⟩] 23)).heap[w.heap.size + 1]? = some (.cells #[.string ⟨#[109, 97, 114, 107]⟩, .string ⟨#[]⟩] 23) := heap_new' _ _ _ (by simp)
  unfold av
  go_enter Try.func4, Try.ntmps4
  go_wp2_with fail
  generalize (w.alloc (.cells #[.string a.1, .string a.2] 23)).alloc (.cells #[.string ⟨#[109, 97, 114, 107]⟩, .string ⟨#[]⟩] 23) = W at kb b0 b1
  have C1 : Hid (∀ v, Kp [] W v → v.cell? ⟨w.heap.size, 0, none⟩ = some (.string a.1) ∧ v.cell? ⟨w.heap.size, 1, none⟩ = some (.string a.2) ∧ v.cell? ⟨w.heap.size + 1, 0, none⟩ = some (.string ⟨#[109, 97, 114, 107]⟩) ∧ v.cell? ⟨w.heap.size + 1, 1, none⟩ = some (.string ⟨#[]⟩)) := fun v kv => by
    have h0 : v.heap[w.heap.size]? = some (.cells #[.string a.1, .string a.2] 23) := by rw [kv.block _ (lt_of b0) (by simp)]; exact b0
    have h1 : v.heap[w.heap.size + 1]? = some (.cells #[.string ⟨#[109, 97, 114, 107]⟩, .string ⟨#[]⟩] 23) := by rw [kv.block _ (lt_of b1) (by simp)]; exact b1
    exact ⟨by rw [cell_of h0]; rfl, by rw [cell_of h0]; rfl, by rw [cell_of h1]; rfl, by rw [cell_of h1]; rfl⟩
  have HR : Hid (∀ v, Kp [] W v → Rp v ao n c l) := fun v kv => (hr.kept kb).kept kv
  have HT : Hid (∀ v, Kp [] W v → Rp v bo 20 d m0) := fun v kv => (hs.kept kb).kept kv
  have HL : Hid (n = l.length) := hr.len
  have HM : Hid (20 = m0.length) := hs.len
  obtain ⟨g0, g1, g2, g3⟩ := C1.out W (Kp.refl _ _)
  clear b0 b1 hr hs
  go_region_held3 (fun w' => w'.cell? ⟨w.heap.size, 0, none⟩ = some (.string a.1) ∧ w'.cell? ⟨w.heap.size, 1, none⟩ = some (.string a.2) ∧ w'.cell? ⟨w.heap.size + 1, 0, none⟩ = some (.string ⟨#[109, 97, 114, 107]⟩) ∧ w'.cell? ⟨w.heap.size + 1, 1, none⟩ = some (.string ⟨#[]⟩))
    (first
      | exact C1.out _ S2.out
      | exact C1.out _ S1.out
      | exact C1.out _ (Kp.refl [] W).drew)
    (first
      | (go_at_call 9; have D2 := S1.out; refine (roomy_any _ bo 20 d m0 mk (HT.out _ S1.out) (by omega)).mono ?_; rintro e v2 ⟨a2, rfl, N2⟩; have S2 : Hid (Kp [] W v2) := S1.out.trans N2.kp (fun x hx => by simp at hx); have R2 : Hid (Rp v2 a2 (20 + 80) (20 + 80) (rooms m0 mk)) := N2.rp; have Q1 : Hid (Rp v2 a1 (n + 80) (n + 80) (rooms l mk)) := R1.out.kept N2.kp; clear N2)
      | (go_at_call 9; refine (roomy_any _ ao n c l mk (HR.out _ (Kp.refl [] W).drew) (by omega)).mono ?_; rintro e v1 ⟨a1, rfl, N1⟩; have S1 : Hid (Kp [] W v1) := (Kp.refl [] W).drew.trans N1.kp (fun x hx => by simp at hx); have R1 : Hid (Rp v1 a1 (n + 80) (n + 80) (rooms l mk)) := N1.rp; clear N1))
  have k2 := S2.out
  have C2 : Hid (∀ v, Kp [] v2 v → v.cell? ⟨w.heap.size, 0, none⟩ = some (.string a.1) ∧ v.cell? ⟨w.heap.size, 1, none⟩ = some (.string a.2) ∧ v.cell? ⟨w.heap.size + 1, 0, none⟩ = some (.string ⟨#[109, 97, 114, 107]⟩) ∧ v.cell? ⟨w.heap.size + 1, 1, none⟩ = some (.string ⟨#[]⟩)) := fun v kv => C1.out v (k2.trans kv (fun x hx => by simp at hx))
  have HX : Hid (∀ v, Kp [] v2 v → Rp v a1 n (n + 80) l) := fun v kv => by
    have := (Q1.out.kept kv).take n (by omega)
    rw [rooms_take l n HL.out] at this
    exact this
  have HY : Hid (∀ v, Kp [] v2 v → Rp v a2 20 (20 + 80) m0) := fun v kv => by
    have := (R2.out.kept kv).take 20 (by omega)
    rw [rooms_take m0 20 HM.out] at this
    exact this
  have HX2 : Hid (∀ v, Kp [] v2 v → Rp v a1 (n + 80) (n + 80) (rooms l mk)) := fun v kv => Q1.out.kept kv
  have HY2 : Hid (∀ v, Kp [] v2 v → Rp v a2 (20 + 80) (20 + 80) (rooms m0 mk)) := fun v kv => R2.out.kept kv
  have HR2 : Hid (∀ v, Kp [] v2 v → Rp v ao n c l) := fun v kv => HR.out v (k2.trans kv (fun x hx => by simp at hx))
  have HT2 : Hid (∀ v, Kp [] v2 v → Rp v bo 20 d m0) := fun v kv => HT.out v (k2.trans kv (fun x hx => by simp at hx))
  have kz := kb.trans k2 (fun x hx => by simp at hx)
  obtain ⟨f0, f1, f2, f3⟩ := C2.out v2 (Kp.refl _ _)
  clear C1 HR HT HL HM g0 g1 g2 g3 R1 R2 Q1 S1 S2 D2 k2 kb
  have in1 : (0 : Int) ≤ (n : Int) := by omega
  have in2 : (n : Int) ≤ ((n + 80 : Nat) : Int) := by omega
  have in3 : (n : Int) ≤ (n : Int) + 80 := by omega
  go_wp2_with fail
  go_region_held3 (fun w' => w'.cell? ⟨w.heap.size, 0, none⟩ = some (.string a.1) ∧ w'.cell? ⟨w.heap.size, 1, none⟩ = some (.string a.2) ∧ w'.cell? ⟨w.heap.size + 1, 0, none⟩ = some (.string ⟨#[109, 97, 114, 107]⟩) ∧ w'.cell? ⟨w.heap.size + 1, 1, none⟩ = some (.string ⟨#[]⟩))
    (first
      | exact C2.out _ S6.out
      | exact C2.out _ S5.out
      | exact C2.out _ S4.out
      | exact C2.out _ S3.out
      | exact C2.out _ (Kp.refl [] v2).drew)
    (first
      | (go_at_call 8; refine (known_any _).mono ?_; rintro e v6 ⟨rfl, kk⟩; have S6 : Hid (Kp [] v2 v6) := S5.out.trans kk (fun x hx => by simp at hx); clear kk)
      | (go_at_call 10; have D5 := S4.out; refine (intact_any _ bo a2 20 d m0 mk (HT2.out _ S4.out) (HY2.out _ S4.out) (by omega)).mono ?_; rintro e v5 ⟨rfl, kk⟩; have S5 : Hid (Kp [] v2 v5) := S4.out.trans kk (fun x hx => by simp at hx); clear kk)
      | (go_at_call 10; refine (intact_any _ ao a1 n c l mk (HR2.out _ S3.out) (HX2.out _ S3.out) (by omega)).mono ?_; rintro e v4 ⟨rfl, kk⟩; have S4 : Hid (Kp [] v2 v4) := S3.out.trans kk (fun x hx => by simp at hx); clear kk)
      | (go_at_call 7; refine (both_any _ l m0 a a1 a2 n (n + 80) 20 (20 + 80) (HX.out _ (Kp.refl [] v2).drew) (HY.out _ (Kp.refl [] v2).drew) (by omega) (by omega) hf hfm hfa).mono ?_; rintro e v3 ⟨rfl, kk⟩; have S3 : Hid (Kp [] v2 v3) := (Kp.refl [] v2).drew.trans kk (fun x hx => by simp at hx); clear kk))
  go_wp2
  go_ret
  exact ⟨rfl, kz.trans S6.out (fun x hx => by simp at hx)⟩

set_option maxRecDepth 100000 in
set_option maxHeartbeats 4000000 in
theorem tells_cl (w : World) (l m : List Att) (a : Att) (ao bo : Option Addr) (n c p d : Nat) (hr0 : Rp w ao n c l) (hs0 : Rp w bo p d m) (hl : n ≤ 140737488355328) (hm : p ≤ 140737488355328) (hc : c ≤ 140737488355328) (hd : d ≤ 140737488355328) (hg9 : fits l) (hgm9 : fits m) (hfa : fits [a]) (h1 : 20 < n) (h2 : p ≤ 20) :
    Calls Try.prog 4 #[.slice ao n c, .slice bo p d, av a] w fun e w' => e = .returned (.bool true) ∧ Kp [] w w' := by
  have hr := hr0.take 20 (by omega)
  have hs := hs0
  have hf := fits_take hg9 20
  have hfm := hgm9
  generalize l.take 20 = l0 at hr hf
  have hs : Rp w bo p d m := hs
  have hcn := hr0.cap
  have hdp := hs0.cap
  clear hr0 hs0 hg9 hgm9
  have kb : Kp [] w ((w.alloc (.cells #[.string a.1, .string a.2] 23)).alloc (.cells #[.string ⟨#[109, 97, 114, 107]⟩, .string ⟨#[]⟩] 23)) := ((Kp.refl _ _).alloc _).alloc _
  have b0 : ((w.alloc (.cells #[.string a.1, .string a.2] 23)).alloc (.cells #[.string ⟨#[109, 97, 114, 107]⟩, .string ⟨#[]⟩] 23)).heap[w.heap.size]? = some (.cells #[.string a.1, .string a.2] 23) := by
    rw [Below.heap_alloc _ _ _ (by simp)]
    exact heap_new _ _
  have b1 : ((w.alloc (.cells #[.string a.1, .string a.2] 23)).alloc (.cells #[.string ⟨#[109, 97, 114, 107]⟩, .string ⟨#[]⟩] 23)).heap[w.heap.size + 1]? = some (.cells #[.string ⟨#[109, 97, 114, 107]⟩, .string ⟨#[]⟩] 23) := heap_new' _ _ _ (by simp)
  unfold av
  go_enter Try.func4, Try.ntmps4
  go_wp2_with fail
  generalize (w.alloc (.cells #[.string a.1, .string a.2] 23)).alloc (.cells #[.string ⟨#[109, 97, 114, 107]⟩, .string ⟨#[]⟩] 23) = W at kb b0 b1
  have C1 : Hid (∀ v, Kp [] W v → v.cell? ⟨w.heap.size, 0, none⟩ = some (.string a.1) ∧ v.cell? ⟨w.heap.size, 1, none⟩ = some (.string a.2) ∧ v.cell? ⟨w.heap.size + 1, 0, none⟩ = some (.string ⟨#[109, 97, 114, 107]⟩) ∧ v.cell? ⟨w.heap.size + 1, 1, none⟩ = some (.string ⟨#[]⟩)) := fun v kv => by
    have h0 : v.heap[w.heap.size]? = some (.cells #[.string a.1, .string a.2] 23) := by rw [kv.block _ (lt_of b0) (by simp)]; exact b0
    have h1 : v.heap[w.heap.size + 1]? = some (.cells #[.string ⟨#[109, 97, 114, 107]⟩, .string ⟨#[]⟩] 23) := by rw [kv.block _ (lt_of b1) (by simp)]; exact b1
    exact ⟨by rw [cell_of h0]; rfl, by rw [cell_of h0]; rfl, by rw [cell_of h1]; rfl, by rw [cell_of h1]; rfl⟩
  have HR : Hid (∀ v, Kp [] W v → Rp v ao 20 c l0) := fun v kv => (hr.kept kb).kept kv
  have HT : Hid (∀ v, Kp [] W v → Rp v bo p d m) := fun v kv => (hs.kept kb).kept kv
  have HL : Hid (20 = l0.length) := hr.len
  have HM : Hid (p = m.length) := hs.len
  obtain ⟨g0, g1, g2, g3⟩ := C1.out W (Kp.refl _ _)
  clear b0 b1 hr hs
  go_region_held3 (fun w' => w'.cell? ⟨w.heap.size, 0, none⟩ = some (.string a.1) ∧ w'.cell? ⟨w.heap.size, 1, none⟩ = some (.string a.2) ∧ w'.cell? ⟨w.heap.size + 1, 0, none⟩ = some (.string ⟨#[109, 97, 114, 107]⟩) ∧ w'.cell? ⟨w.heap.size + 1, 1, none⟩ = some (.string ⟨#[]⟩))
    (first
      | exact C1.out _ S2.out
      | exact C1.out _ S1.out
      | exact C1.out _ (Kp.refl [] W).drew)
    (first
      | (go_at_call 9; have D2 := S1.out; refine (roomy_any _ bo p d m mk (HT.out _ S1.out) (by omega)).mono ?_; rintro e v2 ⟨a2, rfl, N2⟩; have S2 : Hid (Kp [] W v2) := S1.out.trans N2.kp (fun x hx => by simp at hx); have R2 : Hid (Rp v2 a2 (p + 80) (p + 80) (rooms m mk)) := N2.rp; have Q1 : Hid (Rp v2 a1 (20 + 80) (20 + 80) (rooms l0 mk)) := R1.out.kept N2.kp; clear N2)
      | (go_at_call 9; refine (roomy_any _ ao 20 c l0 mk (HR.out _ (Kp.refl [] W).drew) (by omega)).mono ?_; rintro e v1 ⟨a1, rfl, N1⟩; have S1 : Hid (Kp [] W v1) := (Kp.refl [] W).drew.trans N1.kp (fun x hx => by simp at hx); have R1 : Hid (Rp v1 a1 (20 + 80) (20 + 80) (rooms l0 mk)) := N1.rp; clear N1))
  have k2 := S2.out
  have C2 : Hid (∀ v, Kp [] v2 v → v.cell? ⟨w.heap.size, 0, none⟩ = some (.string a.1) ∧ v.cell? ⟨w.heap.size, 1, none⟩ = some (.string a.2) ∧ v.cell? ⟨w.heap.size + 1, 0, none⟩ = some (.string ⟨#[109, 97, 114, 107]⟩) ∧ v.cell? ⟨w.heap.size + 1, 1, none⟩ = some (.string ⟨#[]⟩)) := fun v kv => C1.out v (k2.trans kv (fun x hx => by simp at hx))
  have HX : Hid (∀ v, Kp [] v2 v → Rp v a1 20 (20 + 80) l0) := fun v kv => by
    have := (Q1.out.kept kv).take 20 (by omega)
    rw [rooms_take l0 20 HL.out] at this
    exact this
  have HY : Hid (∀ v, Kp [] v2 v → Rp v a2 p (p + 80) m) := fun v kv => by
    have := (R2.out.kept kv).take p (by omega)
    rw [rooms_take m p HM.out] at this
    exact this
  have HX2 : Hid (∀ v, Kp [] v2 v → Rp v a1 (20 + 80) (20 + 80) (rooms l0 mk)) := fun v kv => Q1.out.kept kv
  have HY2 : Hid (∀ v, Kp [] v2 v → Rp v a2 (p + 80) (p + 80) (rooms m mk)) := fun v kv => R2.out.kept kv
  have HR2 : Hid (∀ v, Kp [] v2 v → Rp v ao 20 c l0) := fun v kv => HR.out v (k2.trans kv (fun x hx => by simp at hx))
  have HT2 : Hid (∀ v, Kp [] v2 v → Rp v bo p d m) := fun v kv => HT.out v (k2.trans kv (fun x hx => by simp at hx))
  have kz := kb.trans k2 (fun x hx => by simp at hx)
  obtain ⟨f0, f1, f2, f3⟩ := C2.out v2 (Kp.refl _ _)
  clear C1 HR HT HL HM g0 g1 g2 g3 R1 R2 Q1 S1 S2 D2 k2 kb
  have ip1 : (0 : Int) ≤ (p : Int) := by omega
  have ip2 : (p : Int) ≤ ((p + 80 : Nat) : Int) := by omega
  have ip3 : (p : Int) ≤ (p : Int) + 80 := by omega
  go_wp2_with fail
  go_region_held3 (fun w' => w'.cell? ⟨w.heap.size, 0, none⟩ = some (.string a.1) ∧ w'.cell? ⟨w.heap.size, 1, none⟩ = some (.string a.2) ∧ w'.cell? ⟨w.heap.size + 1, 0, none⟩ = some (.string ⟨#[109, 97, 114, 107]⟩) ∧ w'.cell? ⟨w.heap.size + 1, 1, none⟩ = some (.string ⟨#[]⟩))
    (first
      | exact C2.out _ S6.out
      | exact C2.out _ S5.out
      | exact C2.out _ S4.out
      | exact C2.out _ S3.out
      | exact C2.out _ (Kp.refl [] v2).drew)
    (first
      | (go_at_call 8; refine (known_any _).mono ?_; rintro e v6 ⟨rfl, kk⟩; have S6 : Hid (Kp [] v2 v6) := S5.out.trans kk (fun x hx => by simp at hx); clear kk)
      | (go_at_call 10; have D5 := S4.out; refine (intact_any _ bo a2 p d m mk (HT2.out _ S4.out) (HY2.out _ S4.out) (by omega)).mono ?_; rintro e v5 ⟨rfl, kk⟩; have S5 : Hid (Kp [] v2 v5) := S4.out.trans kk (fun x hx => by simp at hx); clear kk)
      | (go_at_call 10; refine (intact_any _ ao a1 20 c l0 mk (HR2.out _ S3.out) (HX2.out _ S3.out) (by omega)).mono ?_; rintro e v4 ⟨rfl, kk⟩; have S4 : Hid (Kp [] v2 v4) := S3.out.trans kk (fun x hx => by simp at hx); clear kk)
      | (go_at_call 7; refine (both_any _ l0 m a a1 a2 20 (20 + 80) p (p + 80) (HX.out _ (Kp.refl [] v2).drew) (HY.out _ (Kp.refl [] v2).drew) (by omega) (by omega) hf hfm hfa).mono ?_; rintro e v3 ⟨rfl, kk⟩; have S3 : Hid (Kp [] v2 v3) := (Kp.refl [] v2).drew.trans kk (fun x hx => by simp at hx); clear kk))
  go_wp2
  go_ret
  exact ⟨rfl, kz.trans S6.out (fun x hx => by simp at hx)⟩

set_option maxRecDepth 100000 in
set_option maxHeartbeats 4000000 in
theorem tells_cc (w : World) (l m : List Att) (a : Att) (ao bo : Option Addr) (n c p d : Nat) (hr0 : Rp w ao n c l) (hs0 : Rp w bo p d m) (hl : n ≤ 140737488355328) (hm : p ≤ 140737488355328) (hc : c ≤ 140737488355328) (hd : d ≤ 140737488355328) (hg9 : fits l) (hgm9 : fits m) (hfa : fits [a]) (h1 : 20 < n) (h2 : 20 < p) :
    Calls Try.prog 4 #[.slice ao n c, .slice bo p d, av a] w fun e w' => e = .returned (.bool true) ∧ Kp [] w w' := by
  have hr := hr0.take 20 (by omega)
  have hs := hs0.take 20 (by omega)
  have hf := fits_take hg9 20
  have hfm := fits_take hgm9 20
  generalize l.take 20 = l0 at hr hf
  generalize m.take 20 = m0 at hs hfm
  have hcn := hr0.cap
  have hdp := hs0.cap
  clear hr0 hs0 hg9 hgm9
  have kb : Kp [] w ((w.alloc (.cells #[.string a.1, .string a.2] 23)).alloc (.cells #[.string ⟨#[109, 97, 114, 107]⟩, .string ⟨#[]⟩] 23)) := ((Kp.refl _ _).alloc _).alloc _
  have b0 : ((w.alloc (.cells #[.string a.1, .string a.2] 23)).alloc (.cells #[.string ⟨#[109, 97, 114, 107]⟩, .string ⟨#[]⟩] 23)).heap[w.heap.size]? = some (.cells #[.string a.1, .string a.2] 23) := by
    rw [Below.heap_alloc _ _ _ (by simp)]
    exact heap_new _ _
  have b1 : ((w.alloc (.cells #[.string a.1, .string a.2] 23)).alloc (.cells #[.string ⟨#[109, 97, 114, 107]⟩, .string ⟨#[]⟩] 23)).heap[w.heap.size + 1]? = some (.cells #[.string ⟨#[109, 97, 114, 107]⟩, .string ⟨#[]⟩] 23) := heap_new' _ _ _ (by simp)
  unfold av
  go_enter Try.func4, Try.ntmps4
  go_wp2_with fail
  generalize (w.alloc (.cells #[.string a.1, .string a.2] 23)).alloc (.cells #[.string ⟨#[109, 97, 114, 107]⟩, .string ⟨#[]⟩] 23) = W at kb b0 b1
  have C1 : Hid (∀ v, Kp [] W v → v.cell? ⟨w.heap.size, 0, none⟩ = some (.string a.1) ∧ v.cell? ⟨w.heap.size, 1, none⟩ = some (.string a.2) ∧ v.cell? ⟨w.heap.size + 1, 0, none⟩ = some (.string ⟨#[109, 97, 114, 107]⟩) ∧ v.cell? ⟨w.heap.size + 1, 1, none⟩ = some (.string ⟨#[]⟩)) := fun v kv => by
    have h0 : v.heap[w.heap.size]? = some (.cells #[.string a.1, .string a.2] 23) := by rw [kv.block _ (lt_of b0) (by simp)]; exact b0
    have h1 : v.heap[w.heap.size + 1]? = some (.cells #[.string ⟨#[109, 97, 114, 107]⟩, .string ⟨#[]⟩] 23) := by rw [kv.block _ (lt_of b1) (by simp)]; exact b1
    exact ⟨by rw [cell_of h0]; rfl, by rw [cell_of h0]; rfl, by rw [cell_of h1]; rfl, by rw [cell_of h1]; rfl⟩
  have HR : Hid (∀ v, Kp [] W v → Rp v ao 20 c l0) := fun v kv => (hr.kept kb).kept kv
  have HT : Hid (∀ v, Kp [] W v → Rp v bo 20 d m0) := fun v kv => (hs.kept kb).kept kv
  have HL : Hid (20 = l0.length) := hr.len
  have HM : Hid (20 = m0.length) := hs.len
  obtain ⟨g0, g1, g2, g3⟩ := C1.out W (Kp.refl _ _)
  clear b0 b1 hr hs
  go_region_held3 (fun w' => w'.cell? ⟨w.heap.size, 0, none⟩ = some (.string a.1) ∧ w'.cell? ⟨w.heap.size, 1, none⟩ = some (.string a.2) ∧ w'.cell? ⟨w.heap.size + 1, 0, none⟩ = some (.string ⟨#[109, 97, 114, 107]⟩) ∧ w'.cell? ⟨w.heap.size + 1, 1, none⟩ = some (.string ⟨#[]⟩))
    (first
      | exact C1.out _ S2.out
      | exact C1.out _ S1.out
      | exact C1.out _ (Kp.refl [] W).drew)
    (first
      | (go_at_call 9; have D2 := S1.out; refine (roomy_any _ bo 20 d m0 mk (HT.out _ S1.out) (by omega)).mono ?_; rintro e v2 ⟨a2, rfl, N2⟩; have S2 : Hid (Kp [] W v2) := S1.out.trans N2.kp (fun x hx => by simp at hx); have R2 : Hid (Rp v2 a2 (20 + 80) (20 + 80) (rooms m0 mk)) := N2.rp; have Q1 : Hid (Rp v2 a1 (20 + 80) (20 + 80) (rooms l0 mk)) := R1.out.kept N2.kp; clear N2)
      | (go_at_call 9; refine (roomy_any _ ao 20 c l0 mk (HR.out _ (Kp.refl [] W).drew) (by omega)).mono ?_; rintro e v1 ⟨a1, rfl, N1⟩; have S1 : Hid (Kp [] W v1) := (Kp.refl [] W).drew.trans N1.kp (fun x hx => by simp at hx); have R1 : Hid (Rp v1 a1 (20 + 80) (20 + 80) (rooms l0 mk)) := N1.rp; clear N1))
  have k2 := S2.out
  have C2 : Hid (∀ v, Kp [] v2 v → v.cell? ⟨w.heap.size, 0, none⟩ = some (.string a.1) ∧ v.cell? ⟨w.heap.size, 1, none⟩ = some (.string a.2) ∧ v.cell? ⟨w.heap.size + 1, 0, none⟩ = some (.string ⟨#[109, 97, 114, 107]⟩) ∧ v.cell? ⟨w.heap.size + 1, 1, none⟩ = some (.string ⟨#[]⟩)) := fun v kv => C1.out v (k2.trans kv (fun x hx => by simp at hx))
  have HX : Hid (∀ v, Kp [] v2 v → Rp v a1 20 (20 + 80) l0) := fun v kv => by
    have := (Q1.out.kept kv).take 20 (by omega)
    rw [rooms_take l0 20 HL.out] at this
    exact this
  have HY : Hid (∀ v, Kp [] v2 v → Rp v a2 20 (20 + 80) m0) := fun v kv => by
    have := (R2.out.kept kv).take 20 (by omega)
    rw [rooms_take m0 20 HM.out] at this
    exact this
  have HX2 : Hid (∀ v, Kp [] v2 v → Rp v a1 (20 + 80) (20 + 80) (rooms l0 mk)) := fun v kv => Q1.out.kept kv
  have HY2 : Hid (∀ v, Kp [] v2 v → Rp v a2 (20 + 80) (20 + 80) (rooms m0 mk)) := fun v kv => R2.out.kept kv
  have HR2 : Hid (∀ v, Kp [] v2 v → Rp v ao 20 c l0) := fun v kv => HR.out v (k2.trans kv (fun x hx => by simp at hx))
  have HT2 : Hid (∀ v, Kp [] v2 v → Rp v bo 20 d m0) := fun v kv => HT.out v (k2.trans kv (fun x hx => by simp at hx))
  have kz := kb.trans k2 (fun x hx => by simp at hx)
  obtain ⟨f0, f1, f2, f3⟩ := C2.out v2 (Kp.refl _ _)
  clear C1 HR HT HL HM g0 g1 g2 g3 R1 R2 Q1 S1 S2 D2 k2 kb
  go_wp2_with fail
  go_region_held3 (fun w' => w'.cell? ⟨w.heap.size, 0, none⟩ = some (.string a.1) ∧ w'.cell? ⟨w.heap.size, 1, none⟩ = some (.string a.2) ∧ w'.cell? ⟨w.heap.size + 1, 0, none⟩ = some (.string ⟨#[109, 97, 114, 107]⟩) ∧ w'.cell? ⟨w.heap.size + 1, 1, none⟩ = some (.string ⟨#[]⟩))
    (first
      | exact C2.out _ S6.out
      | exact C2.out _ S5.out
      | exact C2.out _ S4.out
      | exact C2.out _ S3.out
      | exact C2.out _ (Kp.refl [] v2).drew)
    (first
      | (go_at_call 8; refine (known_any _).mono ?_; rintro e v6 ⟨rfl, kk⟩; have S6 : Hid (Kp [] v2 v6) := S5.out.trans kk (fun x hx => by simp at hx); clear kk)
      | (go_at_call 10; have D5 := S4.out; refine (intact_any _ bo a2 20 d m0 mk (HT2.out _ S4.out) (HY2.out _ S4.out) (by omega)).mono ?_; rintro e v5 ⟨rfl, kk⟩; have S5 : Hid (Kp [] v2 v5) := S4.out.trans kk (fun x hx => by simp at hx); clear kk)
      | (go_at_call 10; refine (intact_any _ ao a1 20 c l0 mk (HR2.out _ S3.out) (HX2.out _ S3.out) (by omega)).mono ?_; rintro e v4 ⟨rfl, kk⟩; have S4 : Hid (Kp [] v2 v4) := S3.out.trans kk (fun x hx => by simp at hx); clear kk)
      | (go_at_call 7; refine (both_any _ l0 m0 a a1 a2 20 (20 + 80) 20 (20 + 80) (HX.out _ (Kp.refl [] v2).drew) (HY.out _ (Kp.refl [] v2).drew) (by omega) (by omega) hf hfm hfa).mono ?_; rintro e v3 ⟨rfl, kk⟩; have S3 : Hid (Kp [] v2 v3) := (Kp.refl [] v2).drew.trans kk (fun x hx => by simp at hx); clear kk))
  go_wp2
  go_ret
  exact ⟨rfl, kz.trans S6.out (fun x hx => by simp at hx)⟩

theorem tells_any (w : World) (l m : List Att) (a : Att) (ao bo : Option Addr) (n c p d : Nat) (hr : Rp w ao n c l) (hs : Rp w bo p d m) (hl : n ≤ 140737488355328) (hm : p ≤ 140737488355328) (hc : c ≤ 140737488355328) (hd : d ≤ 140737488355328) (hf : fits l) (hfm : fits m) (hfa : fits [a]) :
    Calls Try.prog 4 #[.slice ao n c, .slice bo p d, av a] w fun e w' => e = .returned (.bool true) ∧ Kp [] w w' := by
  rcases Nat.lt_or_ge 20 n with h1 | h1
  · rcases Nat.lt_or_ge 20 p with h2 | h2
    · exact tells_cc w l m a ao bo n c p d hr hs hl hm hc hd hf hfm hfa h1 h2
    · exact tells_cl w l m a ao bo n c p d hr hs hl hm hc hd hf hfm hfa h1 h2
  · rcases Nat.lt_or_ge 20 p with h2 | h2
    · exact tells_lc w l m a ao bo n c p d hr hs hl hm hc hd hf hfm hfa h1 h2
    · exact tells_ll w l m a ao bo n c p d hr hs hl hm hc hd hf hfm hfa h1 h2

end Go.Proofs.Ytbhgldinoijecaa
