/-
  Joined: Parts MReader.
-/
import Derived.Test.YtcfaejbbjmjgpaaGreatDoorMarkA
import Derived.Test.YtcfaejbbjmjgpaaGreatDoorBoxes
import Derived.Test.YtcfaejbbjmjgpaaGreatDoorGroundB
import Derived.Test.YtcfaejbbjmjgpaaGreatDoorGroundD

/-
  The program's other, cdata, doctype and comment, of any text.
-/
namespace Go.Proofs.YtcfaejbbjmjgpaaGreatDoor
open Go.RowKit Utf
set_option linter.unusedVariables false

/-- A token without attributes, as a value. -/
def mv (t : Mt) : Value := .agg #[.int .i64 t.1, .string t.2.1, .slice none 0 0, .bool false, .string t.2.2]

/-- A literal of texts, made behind a block. -/
theorem lit_rb (w : World) (o : Obj) (cur : Array Value) (l : List ByteArray) (n : Nat) (h : cur = (tx l).toArray) (hn : n = l.length) (hm : n ≤ 1000) : Rb ((w.alloc o).alloc (.cells cur 9)) (some ⟨w.heap.size + 1, 0, none⟩) n n (tx l) := by
  have := rb_lit (w.alloc o) 9 cur (tx l) n h (by rw [tx_len]; exact hn) hm
  rw [show (w.alloc o).heap.size = w.heap.size + 1 by simp] at this
  exact this
theorem lit_kp (w : World) (o : Obj) (o2 : Obj) : Kp [] w ((w.alloc o).alloc o2) := ((Kp.refl _ _).alloc _).alloc _
theorem lit_at (w : World) (o2 : Obj) : At ((w.alloc (.cells ZT 44)).alloc o2) w.heap.size ZT 44 := (At.new w ZT 44).kept ((Kp.refl [] _).alloc _) (by simp)
theorem solid_one (x : ByteArray) (h : 0 < x.size) : solid [x] := fun y hy => by
  simp only [List.mem_singleton] at hy
  rw [hy]
  exact h
theorem brief_one (x : ByteArray) (h : x.size ≤ 100) : ∀ y, y ∈ [x] → y.size ≤ 100 := fun y hy => by
  simp only [List.mem_singleton] at hy
  rw [hy]
  exact h

set_option maxHeartbeats 1000000 in
set_option maxRecDepth 100000 in
theorem other_any (w : World) (s : ByteArray) (f : Nat) (hf : f ≤ s.size) (hs : s.size ≤ 100000) :
    Calls Tryz.prog 83 #[.string s, .int .i64 (f : Int)] w fun e w' => e = .returned (.tuple #[mv (oF s f).1, .int .i64 ((oF s f).2 : Int)]) ∧ Kp [] w w' := by
  have HE := fun W => end_any W s f hf hs [GT] (solid_one _ (by decide)) (brief_one _ (by decide))
  have h1 := (eP_is s [GT] hf).lo
  have h2 := (eP_is s [GT] hf).hi
  unfold oF mv
  generalize eN s [GT] f = m at HE ⊢
  generalize eP s [GT] f = t at HE h1 h2 ⊢
  have HC := fun W => clone_any W (s.extract f t) (by have := cut_le s f t; omega)
  simp only []
  go_enter Tryz.func83, Tryz.ntmps83
  go_wp2_with fail
  refine (HE _ _ _ _ (lit_rb w (.cells ZT 44) _ [GT] 1 rfl rfl (by omega)) (by omega)).mono ?_
  rintro e w2 ⟨rfl, k2⟩
  have A1 := (lit_at w (.cells #[.string ⟨#[62]⟩] 9)).kept k2 (by simp)
  have k1 := (lit_kp w (.cells ZT 44) (.cells #[.string ⟨#[62]⟩] 9)).trans k2 (fun z hz => by simp at hz)
  clear HE k2
  go_wp2_with fail
  refine (HC _).mono ?_
  rintro e w3 ⟨rfl, k3⟩
  replace A1 := A1.kept k3 (by simp)
  replace k1 := k1.trans k3 (fun z hz => by simp at hz)
  clear HC k3
  obtain ⟨c0, c1, c2, c3, c4⟩ := A1.cells5
  have f0 := fun j => A1.free j
  have D : Hid _ := laid5 k1 A1 (Nat.le_refl _) (.int .i64 5) (.string ⟨#[]⟩) (.slice none 0 0) (.bool false) (.string (s.extract f t))
  clear A1 k1
  generalize w.heap.size = g0 at c0 c1 c2 c3 c4 f0 D ⊢
  go_wp2
  obtain ⟨d0, d1, d2, d3, d4, kz⟩ := D.out
  unfold put5 at d0 d1 d2 d3 d4 kz
  refine bodyPost_ret (v := .tuple #[.agg #[.int .i64 5, .string ⟨#[]⟩, .slice none 0 0, .bool false, .string (s.extract f t)], .int .i64 (m : Int)]) (by simp [results, go_sem, d0, d1, d2, d3, d4]) rfl ⟨rfl, kz⟩

set_option maxHeartbeats 1000000 in
set_option maxRecDepth 100000 in
theorem cdata_any (w : World) (s : ByteArray) (f : Nat) (hf : f ≤ s.size) (hs : s.size ≤ 100000) :
    Calls Tryz.prog 82 #[.string s, .int .i64 (f : Int)] w fun e w' => e = .returned (.tuple #[mv (kF s f).1, .int .i64 ((kF s f).2 : Int)]) ∧ Kp [] w w' := by
  have HE := fun W => end_any W s f hf hs [E3] (solid_one _ (by decide)) (brief_one _ (by decide))
  have h1 := (eP_is s [E3] hf).lo
  have h2 := (eP_is s [E3] hf).hi
  unfold kF
  generalize eN s [E3] f = m at HE ⊢
  generalize eP s [E3] f = t at HE h1 h2 ⊢
  by_cases h3 : t = f
  · rw [if_pos h3]
    subst h3
    unfold mv z3
    simp only []
    go_enter Tryz.func82, Tryz.ntmps82
    go_wp2_with fail
    refine (HE _ _ _ _ (lit_rb w (.cells ZT 44) _ [E3] 1 rfl rfl (by omega)) (by omega)).mono ?_
    rintro e w2 ⟨rfl, k2⟩
    have A1 := (lit_at w (.cells #[.string ⟨#[93, 93, 62]⟩] 9)).kept k2 (by simp)
    have k1 := (lit_kp w (.cells ZT 44) (.cells #[.string ⟨#[93, 93, 62]⟩] 9)).trans k2 (fun z hz => by simp at hz)
    clear HE k2
    obtain ⟨c0, c1, c2, c3, c4⟩ := A1.cells5
    have f0 := fun j => A1.free j
    have D : Hid _ := laid5 k1 A1 (Nat.le_refl _) (.int .i64 0) (.string ⟨#[]⟩) (.slice none 0 0) (.bool false) (.string ⟨#[]⟩)
    clear A1 k1
    generalize w.heap.size = g0 at c0 c1 c2 c3 c4 f0 D ⊢
    go_wp2
    obtain ⟨d0, d1, d2, d3, d4, kz⟩ := D.out
    unfold put5 at d0 d1 d2 d3 d4 kz
    refine bodyPost_ret (v := .tuple #[.agg #[.int .i64 0, .string ⟨#[]⟩, .slice none 0 0, .bool false, .string ⟨#[]⟩], .int .i64 (m : Int)]) (by simp [results, go_sem, d0, d1, d2, d3, d4]) rfl ⟨rfl, kz⟩
  · rw [if_neg h3]
    have b1 : ((t : Int) == (f : Int)) = false := by simp only [beq_eq_false_iff_ne, ne_eq]; omega
    have HC := fun W => clone_any W (s.extract f t) (by have := cut_le s f t; omega)
    unfold mv
    simp only []
    clear h3
    go_enter Tryz.func82, Tryz.ntmps82
    go_wp2_with fail
    refine (HE _ _ _ _ (lit_rb w (.cells ZT 44) _ [E3] 1 rfl rfl (by omega)) (by omega)).mono ?_
    rintro e w2 ⟨rfl, k2⟩
    have A1 := (lit_at w (.cells #[.string ⟨#[93, 93, 62]⟩] 9)).kept k2 (by simp)
    have k1 := (lit_kp w (.cells ZT 44) (.cells #[.string ⟨#[93, 93, 62]⟩] 9)).trans k2 (fun z hz => by simp at hz)
    clear HE k2
    go_wp2_with fail
    refine (HC _).mono ?_
    rintro e w3 ⟨rfl, k3⟩
    replace A1 := A1.kept k3 (by simp)
    replace k1 := k1.trans k3 (fun z hz => by simp at hz)
    clear HC k3
    obtain ⟨c0, c1, c2, c3, c4⟩ := A1.cells5
    have f0 := fun j => A1.free j
    have D : Hid _ := laid5 k1 A1 (Nat.le_refl _) (.int .i64 4) (.string ⟨#[]⟩) (.slice none 0 0) (.bool false) (.string (s.extract f t))
    clear A1 k1
    generalize w.heap.size = g0 at c0 c1 c2 c3 c4 f0 D ⊢
    go_wp2
    obtain ⟨d0, d1, d2, d3, d4, kz⟩ := D.out
    unfold put5 at d0 d1 d2 d3 d4 kz
    refine bodyPost_ret (v := .tuple #[.agg #[.int .i64 4, .string ⟨#[]⟩, .slice none 0 0, .bool false, .string (s.extract f t)], .int .i64 (m : Int)]) (by simp [results, go_sem, d0, d1, d2, d3, d4]) rfl ⟨rfl, kz⟩

set_option maxHeartbeats 1000000 in
set_option maxRecDepth 100000 in
theorem doctype_any (w : World) (s : ByteArray) (f : Nat) (hf : f ≤ s.size) (hs : s.size ≤ 100000) :
    Calls Tryz.prog 81 #[.string s, .int .i64 (f : Int)] w fun e w' => e = .returned (.tuple #[mv (dF s f).1, .int .i64 ((dF s f).2 : Int)]) ∧ Kp [] w w' := by
  have HK := fun W => skip_any W s (f : Int) (by omega)
  rw [pl_of hf] at HK
  unfold dF mv
  have hk := skip_is s hf
  generalize skipF s f = a at HK hk ⊢
  have l1 := hk.lo
  have l2 := hk.hi
  have HU := fun W => until_any W s (a : Int) DT (by omega) (by decide)
  rw [pl_of l2] at HU
  have hu := until_is s DT l2
  generalize untilF s DT a = b at HU hu ⊢
  have l3 := hu.lo
  have l4 := hu.hi
  have HE := fun W => end_any W s b l4 hs [GT] (solid_one _ (by decide)) (brief_one _ (by decide))
  generalize eN s [GT] b = m at HE ⊢
  generalize eP s [GT] b = t at HE
  have HC := fun W => lower_any W (s.extract a b) (by have := cut_le s a b; omega)
  generalize lower (s.extract a b) = y at HC ⊢
  unfold DT at HU
  simp only []
  clear hk hu
  have A0 := At.new w ZT 44
  have k0 : Kp [] w (w.alloc (.cells ZT 44)) := (Kp.refl _ _).alloc _
  go_enter Tryz.func81, Tryz.ntmps81
  go_wp2_with fail
  refine (HK _).mono ?_
  rintro e w1 ⟨rfl, rfl⟩
  clear HK
  go_wp2_with fail
  refine (HU _).mono ?_
  rintro e w2 ⟨rfl, k2⟩
  have A2 := A0.kept k2 (by simp)
  have k3 := k0.trans k2 (fun z hz => by simp at hz)
  clear HU A0 k0 k2
  have HR := rb_lit w2 9 _ (tx [GT]) 1 rfl rfl (by omega)
  have k4 : Kp [] w2 (w2.alloc (.cells (tx [GT]).toArray 9)) := (Kp.refl _ _).alloc _
  go_wp2_with fail
  refine (HE _ _ _ _ HR (by omega)).mono ?_
  rintro e w4 ⟨rfl, k5⟩
  have k6 := k4.trans k5 (fun z hz => by simp at hz)
  have A1 := A2.kept k6 (by simp)
  have k1 := k3.trans k6 (fun z hz => by simp at hz)
  clear HE HR k4 k5 k6 A2 k3
  go_wp2_with fail
  refine (HC _).mono ?_
  rintro e w3 ⟨rfl, k3⟩
  replace A1 := A1.kept k3 (by simp)
  replace k1 := k1.trans k3 (fun z hz => by simp at hz)
  clear HC k3
  obtain ⟨c0, c1, c2, c3, c4⟩ := A1.cells5
  have f0 := fun j => A1.free j
  have D : Hid _ := laid5 k1 A1 (Nat.le_refl _) (.int .i64 1) (.string y) (.slice none 0 0) (.bool false) (.string ⟨#[]⟩)
  clear A1 k1
  generalize w.heap.size = g0 at c0 c1 c2 c3 c4 f0 D ⊢
  go_wp2
  obtain ⟨d0, d1, d2, d3, d4, kz⟩ := D.out
  unfold put5 at d0 d1 d2 d3 d4 kz
  refine bodyPost_ret (v := .tuple #[.agg #[.int .i64 1, .string y, .slice none 0 0, .bool false, .string ⟨#[]⟩], .int .i64 (m : Int)]) (by simp [results, go_sem, d0, d1, d2, d3, d4]) rfl ⟨rfl, kz⟩

set_option maxHeartbeats 1000000 in
set_option maxRecDepth 100000 in
theorem comment_any (w : World) (s : ByteArray) (f : Nat) (hf : f ≤ s.size) (hs : s.size ≤ 100000) :
    Calls Tryz.prog 80 #[.string s, .int .i64 (f : Int)] w fun e w' => e = .returned (.tuple #[mv (cF s f).1, .int .i64 ((cF s f).2 : Int)]) ∧ Kp [] w w' := by
  obtain ⟨V, hV⟩ : ∃ V, cF s f = V := ⟨_, rfl⟩
  rw [hV]
  unfold cF at hV
  have A0 := lit_at w (.cells (tx [GT, DGT]).toArray 9)
  have k0 := lit_kp w (.cells ZT 44) (.cells (tx [GT, DGT]).toArray 9)
  have R0 := lit_rb w (.cells ZT 44) (tx [GT, DGT]).toArray [GT, DGT] 2 rfl rfl (by omega)
  go_enter Tryz.func80, Tryz.ntmps80
  go_wp2
  rw [show #[Value.string { data := #[62] }, Value.string { data := #[45, 62] }] = (tx [GT, DGT]).toArray from rfl]
  generalize (w.alloc (.cells ZT 44)).alloc (.cells (tx [GT, DGT]).toArray 9) = w2 at A0 k0 R0 ⊢
  generalize some (⟨w.heap.size + 1, 0, none⟩ : Addr) = ta at R0 ⊢
  obtain ⟨g0, hg0⟩ : ∃ g0, w.heap.size = g0 := ⟨_, rfl⟩
  rw [hg0] at A0 ⊢
  have hgw : Hid (w.heap.size ≤ g0) := by show _ ≤ _; omega
  clear hg0
  go_loopw [12] (fun i wr => ∃ m : Nat, m ≤ 2 ∧ i = .int .i64 m ∧ Kp [] w wr ∧ Rb wr ta 2 2 (tx [GT, DGT]) ∧ At wr g0 ZT 44 ∧ Hid (∀ j (hj : j < 2), j < m → st s f ([GT, DGT][j]) = false)) (fun i _ => 2 - (intOf i).toNat)
  case atStart => exact ⟨0, Nat.zero_le _, rfl, k0, R0, A0, fun j h1 h2 => by omega⟩
  case round =>
    obtain ⟨m, h3, rfl, ky, rt, A1, hc⟩ := hrel
    clear k0 R0 A0
    rcases (show m = 0 ∨ m = 1 ∨ m = 2 by omega) with rfl | rfl | rfl
    · skip
      have HS := starts_any wr s (f : Int) GT (by omega)
      rw [pl_of hf] at HS
      obtain ⟨b, o, rfl, hcell⟩ := rt.tx_at 0 (by decide)
      rw [show ([GT, DGT][0]) = GT from rfl] at hcell
      rw [Nat.add_zero] at hcell
      cases hx : st s f GT with
      | true =>
        rw [hx] at HS
        rw [if_pos hx] at hV
        have hV : Hid (_ = V) := hV
        have hfit := st_le hx
        have hsz : (GT).size = 1 := rfl
        rw [hsz] at hfit
        clear hc hx rt
        go_wp2_with fail
        refine HS.mono ?_
        rintro e w3 ⟨rfl, k3⟩
        replace A1 := A1.kept k3 (by simp)
        replace ky := ky.trans k3 (fun z hz => by simp at hz)
        clear HS k3
        obtain ⟨c0, c1, c2, c3, c4⟩ := A1.cells5
        have f0 := fun j => A1.free j
        have D : Hid _ := laid5 ky A1 hgw.out (.int .i64 5) (.string ⟨#[]⟩) (.slice none 0 0) (.bool false) (.string ⟨#[]⟩)
        clear A1 ky
        go_wp2
        obtain ⟨d0, d1, d2, d3, d4, kz⟩ := D.out
        unfold put5 at d0 d1 d2 d3 d4 kz
        try simp only [Exit.inBlock, Exit.then]
        refine bodyPost_ret (v := .tuple #[.agg #[.int .i64 5, .string ⟨#[]⟩, .slice none 0 0, .bool false, .string ⟨#[]⟩], .int .i64 ((f + 1 : Nat) : Int)]) (by simp [results, go_sem, d0, d1, d2, d3, d4]) rfl ⟨by rw [← hV.out]; rfl, kz⟩
      | false =>
        rw [hx] at HS
        have hc2 : Hid (∀ j (hj : j < 2), j < 0 + 1 → st s f ([GT, DGT][j]) = false) := fun j hj g => by
          by_cases hjm : j = 0
          · subst hjm; exact hx
          · exact hc.out j hj (by omega)
        clear hc hx
        go_wp2_with fail
        refine HS.mono ?_
        rintro e w3 ⟨rfl, k3⟩
        clear HS
        go_wp2
        go_roundw
        case rel => exact ⟨0 + 1, by omega, by go_num, ky.trans k3 (fun z hz => by simp at hz), rt.kept k3, A1.kept k3 (by simp), hc2⟩
        case measure => simp [intOf]
    · have g1 : st s f GT = false := hc.out 0 (by omega) (by omega)
      have HS := starts_any wr s (f : Int) DGT (by omega)
      rw [pl_of hf] at HS
      obtain ⟨b, o, rfl, hcell⟩ := rt.tx_at 1 (by decide)
      rw [show ([GT, DGT][1]) = DGT from rfl] at hcell
      cases hx : st s f DGT with
      | true =>
        rw [hx] at HS
        rw [if_neg (by rw [g1]; simp), if_pos hx] at hV
        have hV : Hid (_ = V) := hV
        have hfit := st_le hx
        have hsz : (DGT).size = 2 := rfl
        rw [hsz] at hfit
        clear hc hx rt
        go_wp2_with fail
        refine HS.mono ?_
        rintro e w3 ⟨rfl, k3⟩
        replace A1 := A1.kept k3 (by simp)
        replace ky := ky.trans k3 (fun z hz => by simp at hz)
        clear HS k3
        obtain ⟨c0, c1, c2, c3, c4⟩ := A1.cells5
        have f0 := fun j => A1.free j
        have D : Hid _ := laid5 ky A1 hgw.out (.int .i64 5) (.string ⟨#[]⟩) (.slice none 0 0) (.bool false) (.string ⟨#[]⟩)
        clear A1 ky
        go_wp2
        obtain ⟨d0, d1, d2, d3, d4, kz⟩ := D.out
        unfold put5 at d0 d1 d2 d3 d4 kz
        try simp only [Exit.inBlock, Exit.then]
        refine bodyPost_ret (v := .tuple #[.agg #[.int .i64 5, .string ⟨#[]⟩, .slice none 0 0, .bool false, .string ⟨#[]⟩], .int .i64 ((f + 2 : Nat) : Int)]) (by simp [results, go_sem, d0, d1, d2, d3, d4]) rfl ⟨by rw [← hV.out]; rfl, kz⟩
      | false =>
        rw [hx] at HS
        have hc2 : Hid (∀ j (hj : j < 2), j < 1 + 1 → st s f ([GT, DGT][j]) = false) := fun j hj g => by
          by_cases hjm : j = 1
          · subst hjm; exact hx
          · exact hc.out j hj (by omega)
        clear hc hx
        go_wp2_with fail
        refine HS.mono ?_
        rintro e w3 ⟨rfl, k3⟩
        clear HS
        go_wp2
        go_roundw
        case rel => exact ⟨1 + 1, by omega, by go_num, ky.trans k3 (fun z hz => by simp at hz), rt.kept k3, A1.kept k3 (by simp), hc2⟩
        case measure => simp [intOf]
    · have g1 : st s f GT = false := hc.out 0 (by omega) (by omega)
      have g2 : st s f DGT = false := hc.out 1 (by omega) (by omega)
      rw [if_neg (by rw [g1]; simp), if_neg (by rw [g2]; simp)] at hV
      have HE := fun W => end_any W s f hf hs ES es_solid (fun x hx => by simp only [ES, List.mem_cons, List.mem_nil_iff, or_false] at hx; rcases hx with rfl | rfl <;> decide)
      have l1 := (eP_is s ES hf).lo
      have l2 := (eP_is s ES hf).hi
      have l3 := eP_end (s := s) (l := ES) hf
      generalize eN s ES f = nx at HE l3 hV
      generalize eP s ES f = t at HE l1 l2 l3 hV
      clear g1 g2 hc rt
      have R1 := rb_lit wr 9 _ (tx ES) 2 rfl rfl (by omega)
      have k2 : Kp [] wr (wr.alloc (.cells (tx ES).toArray 9)) := (Kp.refl _ _).alloc _
      by_cases h5 : t = s.size
      · rw [if_pos h5] at hV
        have hV : Hid (_ = V) := hV
        obtain rfl := l3 h5
        subst h5
        have HX := fun W => cutoff_any W s f hf hs
        have l4 := cutL_le s hf DS
        generalize cutL s f DS = u at HX l4 hV
        obtain ⟨l5, l6⟩ := l4
        have HC := fun W => clone_any W (s.extract f u) (by have := cut_le s f u; omega)
        clear l3
        go_wp2_with fail
        refine (HE _ _ _ _ R1 (by omega)).mono ?_
        rintro e w3 ⟨rfl, k3⟩
        replace k3 := k2.trans k3 (fun z hz => by simp at hz)
        replace A1 := A1.kept k3 (by simp)
        replace ky := ky.trans k3 (fun z hz => by simp at hz)
        clear HE k3 k2 R1
        go_wp2_with fail
        refine (HX _).mono ?_
        rintro e w4 ⟨rfl, k4⟩
        replace A1 := A1.kept k4 (by simp)
        replace ky := ky.trans k4 (fun z hz => by simp at hz)
        clear HX k4
        go_wp2_with fail
        refine (HC _).mono ?_
        rintro e w5 ⟨rfl, k5⟩
        replace A1 := A1.kept k5 (by simp)
        replace ky := ky.trans k5 (fun z hz => by simp at hz)
        clear HC k5
        obtain ⟨c0, c1, c2, c3, c4⟩ := A1.cells5
        have f0 := fun j => A1.free j
        have D : Hid _ := laid5 ky A1 hgw.out (.int .i64 5) (.string ⟨#[]⟩) (.slice none 0 0) (.bool false) (.string (s.extract f u))
        clear A1 ky
        go_wp2
        obtain ⟨d0, d1, d2, d3, d4, kz⟩ := D.out
        unfold put5 at d0 d1 d2 d3 d4 kz
        try simp only [Exit.inBlock, Exit.then]
        refine bodyPost_ret (v := .tuple #[.agg #[.int .i64 5, .string ⟨#[]⟩, .slice none 0 0, .bool false, .string (s.extract f u)], .int .i64 (s.size : Int)]) (by simp [results, go_sem, d0, d1, d2, d3, d4]) rfl ⟨by rw [← hV.out]; rfl, kz⟩
      · rw [if_neg h5] at hV
        have hV : Hid (_ = V) := hV
        have b1 : ((t : Int) == (s.size : Int)) = false := by simp only [beq_eq_false_iff_ne, ne_eq]; omega
        have HC := fun W => clone_any W (s.extract f t) (by have := cut_le s f t; omega)
        clear l3 h5
        go_wp2_with fail
        refine (HE _ _ _ _ R1 (by omega)).mono ?_
        rintro e w3 ⟨rfl, k3⟩
        replace k3 := k2.trans k3 (fun z hz => by simp at hz)
        replace A1 := A1.kept k3 (by simp)
        replace ky := ky.trans k3 (fun z hz => by simp at hz)
        clear HE k3 k2 R1
        go_wp2_with fail
        refine (HC _).mono ?_
        rintro e w5 ⟨rfl, k5⟩
        replace A1 := A1.kept k5 (by simp)
        replace ky := ky.trans k5 (fun z hz => by simp at hz)
        clear HC k5
        obtain ⟨c0, c1, c2, c3, c4⟩ := A1.cells5
        have f0 := fun j => A1.free j
        have D : Hid _ := laid5 ky A1 hgw.out (.int .i64 5) (.string ⟨#[]⟩) (.slice none 0 0) (.bool false) (.string (s.extract f t))
        clear A1 ky
        go_wp2
        obtain ⟨d0, d1, d2, d3, d4, kz⟩ := D.out
        unfold put5 at d0 d1 d2 d3 d4 kz
        try simp only [Exit.inBlock, Exit.then]
        refine bodyPost_ret (v := .tuple #[.agg #[.int .i64 5, .string ⟨#[]⟩, .slice none 0 0, .bool false, .string (s.extract f t)], .int .i64 (nx : Int)]) (by simp [results, go_sem, d0, d1, d2, d3, d4]) rfl ⟨by rw [← hV.out]; rfl, kz⟩

end Go.Proofs.YtcfaejbbjmjgpaaGreatDoor

/-
  The program's begins, read and Read, of any text and place.
-/
namespace Go.Proofs.YtcfaejbbjmjgpaaGreatDoor
open Go.RowKit Utf
set_option linter.unusedVariables false

theorem begM_false {s : ByteArray} {p : Nat} (h : ¬ (p + 1 < s.size ∧ bt s p = 60 ∧ (bt s (p + 1) = 33 ∨ bt s (p + 1) = 63 ∨ (bt s (p + 1) = 47 ∧ p + 2 < s.size ∧ isLet (bt s (p + 2)) = false)))) : begM s p = false := decide_eq_false h
theorem begM_true {s : ByteArray} {p : Nat} (h : p + 1 < s.size ∧ bt s p = 60 ∧ (bt s (p + 1) = 33 ∨ bt s (p + 1) = 63 ∨ (bt s (p + 1) = 47 ∧ p + 2 < s.size ∧ isLet (bt s (p + 2)) = false))) : begM s p = true := decide_eq_true h

set_option maxHeartbeats 1000000 in
set_option maxRecDepth 100000 in
theorem begins_at (w : World) (s : ByteArray) (p : Nat) (hs : s.size ≤ 100000) (hp : p + 1 < s.size) : Calls Tryz.prog 56 #[.string s, .int .i64 (p : Int)] w fun e w' => e = .returned (.bool (begM s p)) ∧ w' = w := by
  have c1 : ¬ (p : Int) < 0 := by omega
  have c2 : ¬ (s.size : Int) - 1 ≤ (p : Int) := by omega
  have i0 := index_at s (p : Int) p rfl (by omega)
  have i1 := index_at s ((p : Int) + 1) (p + 1) (by omega) hp
  by_cases h0 : bt s p = 60
  · rw [h0] at i0
    by_cases h1 : bt s (p + 1) = 33
    · rw [begM_true ⟨hp, h0, Or.inl h1⟩]
      rw [h1] at i1
      clear h0 h1
      go_enter Tryz.func56, Tryz.ntmps56
      go_wp2
      go_ret
      exact ⟨rfl, rfl⟩
    by_cases h2 : bt s (p + 1) = 63
    · rw [begM_true ⟨hp, h0, Or.inr (Or.inl h2)⟩]
      rw [h2] at i1
      clear h0 h1 h2
      go_enter Tryz.func56, Tryz.ntmps56
      go_wp2
      go_ret
      exact ⟨rfl, rfl⟩
    by_cases h3 : bt s (p + 1) = 47
    · rw [h3] at i1
      by_cases h4 : p + 2 < s.size
      · have i2 := index_at s ((p : Int) + 2) (p + 2) (by omega) h4
        obtain ⟨q1, q2⟩ := bt_range s (p + 2)
        have HL := fun W => letter_any W (bt s (p + 2))
        have hb : begM s p = !(isLet (bt s (p + 2))) := by
          cases hx : isLet (bt s (p + 2)) with
          | false => exact begM_true ⟨hp, h0, Or.inr (Or.inr ⟨h3, h4, hx⟩)⟩
          | true =>
            refine begM_false fun h => ?_
            rcases h.2.2 with g | g | g
            · exact h1 g
            · exact h2 g
            · rw [hx] at g; exact absurd g.2.2 (by simp)
        rw [hb]
        generalize bt s (p + 2) = x at i2 q1 q2 HL ⊢
        have c3 : (p : Int) + 2 < (s.size : Int) := by omega
        clear h0 h1 h2 h3 hb
        go_enter Tryz.func56, Tryz.ntmps56
        go_wp2_with fail
        refine (HL _).mono ?_
        rintro e w2 ⟨rfl, rfl⟩
        clear HL
        go_wp2
        go_ret
        exact ⟨rfl, rfl⟩
      · rw [begM_false (fun h => by
          rcases h.2.2 with g | g | g
          · exact h1 g
          · exact h2 g
          · exact h4 g.2.1)]
        have c3 : ¬ (p : Int) + 2 < (s.size : Int) := by omega
        clear h0 h1 h2 h3
        go_enter Tryz.func56, Tryz.ntmps56
        go_wp2
        go_ret
        exact ⟨rfl, rfl⟩
    · rw [begM_false (fun h => by
        rcases h.2.2 with g | g | g
        · exact h1 g
        · exact h2 g
        · exact h3 g.1)]
      have b1 : (bt s (p + 1) == 33) = false := by simpa using h1
      have b2 : (bt s (p + 1) == 63) = false := by simpa using h2
      have b3 : (bt s (p + 1) == 47) = false := by simpa using h3
      generalize bt s (p + 1) = x at i1 b1 b2 b3
      clear h0 h1 h2 h3
      go_enter Tryz.func56, Tryz.ntmps56
      go_wp2
      go_ret
      exact ⟨rfl, rfl⟩
  · rw [begM_false (fun h => h0 h.2.1)]
    have b0 : (bt s p != 60) = true := by simpa using h0
    have b1 : (bt s p == 60) = false := by simpa using h0
    generalize bt s p = x at i0 b0 b1
    clear h0
    go_enter Tryz.func56, Tryz.ntmps56
    go_wp2
    go_ret
    exact ⟨rfl, rfl⟩

theorem begins_no (w : World) (s : ByteArray) (a : Int) (hs : s.size ≤ 100000) (h : a < 0 ∨ (s.size : Int) ≤ a + 1) : Calls Tryz.prog 56 #[.string s, .int .i64 a] w fun e w' => e = .returned (.bool false) ∧ w' = w := by
  by_cases h1 : a < 0
  · clear h
    go_enter Tryz.func56, Tryz.ntmps56
    go_wp2
    go_ret
    exact ⟨rfl, rfl⟩
  · have h2 : (s.size : Int) - 1 ≤ a := by omega
    clear h
    go_enter Tryz.func56, Tryz.ntmps56
    go_wp2
    go_ret
    exact ⟨rfl, rfl⟩

set_option maxHeartbeats 1000000 in
set_option maxRecDepth 100000 in
theorem mread_any (w : World) (s : ByteArray) (p : Nat) (b : Bool) (hs : s.size ≤ 100000) (hp : p + 1 < s.size) :
    Calls Tryz.prog 57 #[.string s, .int .i64 (p : Int), .bool b] w fun e w' => e = .returned (.tuple #[mv (rdM s p b).1, .int .i64 ((rdM s p b).2 : Int)]) ∧ Kp [] w w' := by
  have H1 := fun W => starts_any W s (p : Int) EMP hs
  have H2 := fun W => starts_any W s (p : Int) COM hs
  have H3 := fun W => fold_any W s (p : Int) DOC hs
  have H4 := fun W => starts_any W s (p : Int) CDA hs
  rw [pl_of (by omega)] at H1 H2 H3 H4
  have i1 := index_at s ((p : Int) + 1) (p + 1) (by omega) hp
  unfold rdM
  cases h1 : st s p EMP with
  | true =>
    rw [h1] at H1
    rw [if_pos rfl]
    have h5 : p + 3 ≤ s.size := st_le h1
    unfold mv z3
    simp only []
    unfold EMP at H1
    clear H2 H3 H4 i1 h1
    have A1 := At.new w ZT 44
    have k1 : Kp [] w (w.alloc (.cells ZT 44)) := (Kp.refl _ _).alloc _
    go_enter Tryz.func57, Tryz.ntmps57
    go_wp2_with fail
    refine (H1 _).mono ?_
    rintro e w1 ⟨rfl, k2⟩
    replace A1 := A1.kept k2 (by simp)
    replace k1 := k1.trans k2 (fun z hz => by simp at hz)
    clear H1 k2
    obtain ⟨c0, c1, c2, c3, c4⟩ := A1.cells5
    have f0 := fun j => A1.free j
    have D : Hid _ := laid5 k1 A1 (Nat.le_refl _) (.int .i64 0) (.string ⟨#[]⟩) (.slice none 0 0) (.bool false) (.string ⟨#[]⟩)
    clear A1 k1
    generalize w.heap.size = g0 at c0 c1 c2 c3 c4 f0 D ⊢
    go_wp2
    obtain ⟨d0, d1, d2, d3, d4, kz⟩ := D.out
    unfold put5 at d0 d1 d2 d3 d4 kz
    refine bodyPost_ret (v := .tuple #[.agg #[.int .i64 0, .string ⟨#[]⟩, .slice none 0 0, .bool false, .string ⟨#[]⟩], .int .i64 ((p + 3 : Nat) : Int)]) (by simp [results, go_sem, d0, d1, d2, d3, d4]) rfl ⟨rfl, kz⟩
  | false =>
    rw [h1] at H1
    rw [if_neg (by simp)]
    unfold EMP at H1
    clear h1
    cases h2 : st s p COM with
    | true =>
      rw [h2] at H2
      rw [if_pos rfl]
      have h5 : p + 4 ≤ s.size := st_le h2
      unfold COM at H2
      clear H3 H4 i1 h2
      have HC := fun W => comment_any W s (p + 4) (by omega) hs
      generalize cF s (p + 4) = R at HC ⊢
      obtain ⟨⟨k, x, y⟩, n⟩ := R
      unfold mv at HC ⊢
      simp only [] at HC ⊢
      push_cast at HC
      have A1 := At.new w ZT 44
      have k1 : Kp [] w (w.alloc (.cells ZT 44)) := (Kp.refl _ _).alloc _
      go_enter Tryz.func57, Tryz.ntmps57
      go_wp2_with fail
      refine (H1 _).mono ?_
      rintro e w1 ⟨rfl, k2⟩
      replace A1 := A1.kept k2 (by simp)
      replace k1 := k1.trans k2 (fun z hz => by simp at hz)
      clear H1 k2
      go_wp2_with fail
      refine (H2 _).mono ?_
      rintro e w1 ⟨rfl, k2⟩
      replace A1 := A1.kept k2 (by simp)
      replace k1 := k1.trans k2 (fun z hz => by simp at hz)
      clear H2 k2
      go_wp2_with fail
      refine (HC _).mono ?_
      rintro e w1 ⟨rfl, k2⟩
      replace A1 := A1.kept k2 (by simp)
      replace k1 := k1.trans k2 (fun z hz => by simp at hz)
      clear HC k2
      obtain ⟨c0, c1, c2, c3, c4⟩ := A1.cells5
      have f0 := fun j => A1.free j
      have D : Hid _ := laid5 k1 A1 (Nat.le_refl _) (.int .i64 k) (.string x) (.slice none 0 0) (.bool false) (.string y)
      clear A1 k1
      generalize w.heap.size = g0 at c0 c1 c2 c3 c4 f0 D ⊢
      go_wp2
      obtain ⟨d0, d1, d2, d3, d4, kz⟩ := D.out
      unfold put5 at d0 d1 d2 d3 d4 kz
      refine bodyPost_ret (v := .tuple #[.agg #[.int .i64 k, .string x, .slice none 0 0, .bool false, .string y], .int .i64 (n : Int)]) (by simp [results, go_sem, d0, d1, d2, d3, d4]) rfl ⟨rfl, kz⟩
    | false =>
      rw [h2] at H2
      rw [if_neg (by simp)]
      unfold COM at H2
      clear h2
      cases h3 : fo s p DOC with
      | true =>
        rw [h3] at H3
        rw [if_pos rfl]
        have h5 : p + 9 ≤ s.size := fo_le h3
        unfold DOC at H3
        clear H4 i1 h3
        have HC := fun W => doctype_any W s (p + 9) (by omega) hs
        generalize dF s (p + 9) = R at HC ⊢
        obtain ⟨⟨k, x, y⟩, n⟩ := R
        unfold mv at HC ⊢
        simp only [] at HC ⊢
        push_cast at HC
        have A1 := At.new w ZT 44
        have k1 : Kp [] w (w.alloc (.cells ZT 44)) := (Kp.refl _ _).alloc _
        go_enter Tryz.func57, Tryz.ntmps57
        go_wp2_with fail
        refine (H1 _).mono ?_
        rintro e w1 ⟨rfl, k2⟩
        replace A1 := A1.kept k2 (by simp)
        replace k1 := k1.trans k2 (fun z hz => by simp at hz)
        clear H1 k2
        go_wp2_with fail
        refine (H2 _).mono ?_
        rintro e w1 ⟨rfl, k2⟩
        replace A1 := A1.kept k2 (by simp)
        replace k1 := k1.trans k2 (fun z hz => by simp at hz)
        clear H2 k2
        go_wp2_with fail
        refine (H3 _).mono ?_
        rintro e w1 ⟨rfl, k2⟩
        replace A1 := A1.kept k2 (by simp)
        replace k1 := k1.trans k2 (fun z hz => by simp at hz)
        clear H3 k2
        go_wp2_with fail
        refine (HC _).mono ?_
        rintro e w1 ⟨rfl, k2⟩
        replace A1 := A1.kept k2 (by simp)
        replace k1 := k1.trans k2 (fun z hz => by simp at hz)
        clear HC k2
        obtain ⟨c0, c1, c2, c3, c4⟩ := A1.cells5
        have f0 := fun j => A1.free j
        have D : Hid _ := laid5 k1 A1 (Nat.le_refl _) (.int .i64 k) (.string x) (.slice none 0 0) (.bool false) (.string y)
        clear A1 k1
        generalize w.heap.size = g0 at c0 c1 c2 c3 c4 f0 D ⊢
        go_wp2
        obtain ⟨d0, d1, d2, d3, d4, kz⟩ := D.out
        unfold put5 at d0 d1 d2 d3 d4 kz
        refine bodyPost_ret (v := .tuple #[.agg #[.int .i64 k, .string x, .slice none 0 0, .bool false, .string y], .int .i64 (n : Int)]) (by simp [results, go_sem, d0, d1, d2, d3, d4]) rfl ⟨rfl, kz⟩
      | false =>
        rw [h3] at H3
        rw [if_neg (by simp)]
        unfold DOC at H3
        clear h3
        have tail : ∀ (HF : Bool), True := fun _ => trivial
        clear tail
        cases b with
        | true =>
          rw [Bool.true_and]
          cases h4 : st s p CDA with
          | true =>
            rw [h4] at H4
            rw [if_pos rfl]
            have h5 : p + 9 ≤ s.size := st_le h4
            unfold CDA at H4
            clear i1 h4
            have HC := fun W => cdata_any W s (p + 9) (by omega) hs
            generalize kF s (p + 9) = R at HC ⊢
            obtain ⟨⟨k, x, y⟩, n⟩ := R
            unfold mv at HC ⊢
            simp only [] at HC ⊢
            push_cast at HC
            have A1 := At.new w ZT 44
            have k1 : Kp [] w (w.alloc (.cells ZT 44)) := (Kp.refl _ _).alloc _
            go_enter Tryz.func57, Tryz.ntmps57
            go_wp2_with fail
            refine (H1 _).mono ?_
            rintro e w1 ⟨rfl, k2⟩
            replace A1 := A1.kept k2 (by simp)
            replace k1 := k1.trans k2 (fun z hz => by simp at hz)
            clear H1 k2
            go_wp2_with fail
            refine (H2 _).mono ?_
            rintro e w1 ⟨rfl, k2⟩
            replace A1 := A1.kept k2 (by simp)
            replace k1 := k1.trans k2 (fun z hz => by simp at hz)
            clear H2 k2
            go_wp2_with fail
            refine (H3 _).mono ?_
            rintro e w1 ⟨rfl, k2⟩
            replace A1 := A1.kept k2 (by simp)
            replace k1 := k1.trans k2 (fun z hz => by simp at hz)
            clear H3 k2
            go_wp2_with fail
            refine (H4 _).mono ?_
            rintro e w1 ⟨rfl, k2⟩
            replace A1 := A1.kept k2 (by simp)
            replace k1 := k1.trans k2 (fun z hz => by simp at hz)
            clear H4 k2
            go_wp2_with fail
            refine (HC _).mono ?_
            rintro e w1 ⟨rfl, k2⟩
            replace A1 := A1.kept k2 (by simp)
            replace k1 := k1.trans k2 (fun z hz => by simp at hz)
            clear HC k2
            obtain ⟨c0, c1, c2, c3, c4⟩ := A1.cells5
            have f0 := fun j => A1.free j
            have D : Hid _ := laid5 k1 A1 (Nat.le_refl _) (.int .i64 k) (.string x) (.slice none 0 0) (.bool false) (.string y)
            clear A1 k1
            generalize w.heap.size = g0 at c0 c1 c2 c3 c4 f0 D ⊢
            go_wp2
            obtain ⟨d0, d1, d2, d3, d4, kz⟩ := D.out
            unfold put5 at d0 d1 d2 d3 d4 kz
            refine bodyPost_ret (v := .tuple #[.agg #[.int .i64 k, .string x, .slice none 0 0, .bool false, .string y], .int .i64 (n : Int)]) (by simp [results, go_sem, d0, d1, d2, d3, d4]) rfl ⟨rfl, kz⟩
          | false =>
            rw [h4] at H4
            rw [if_neg (by simp)]
            unfold CDA at H4
            clear h4
            by_cases h6 : bt s (p + 1) = 63
            · rw [if_pos h6]
              rw [h6] at i1
              clear h6
              have HC := fun W => other_any W s (p + 1) (by omega) hs
              generalize oF s (p + 1) = R at HC ⊢
              obtain ⟨⟨k, x, y⟩, n⟩ := R
              unfold mv at HC ⊢
              simp only [] at HC ⊢
              push_cast at HC
              have A1 := At.new w ZT 44
              have k1 : Kp [] w (w.alloc (.cells ZT 44)) := (Kp.refl _ _).alloc _
              go_enter Tryz.func57, Tryz.ntmps57
              go_wp2_with fail
              refine (H1 _).mono ?_
              rintro e w1 ⟨rfl, k2⟩
              replace A1 := A1.kept k2 (by simp)
              replace k1 := k1.trans k2 (fun z hz => by simp at hz)
              clear H1 k2
              go_wp2_with fail
              refine (H2 _).mono ?_
              rintro e w1 ⟨rfl, k2⟩
              replace A1 := A1.kept k2 (by simp)
              replace k1 := k1.trans k2 (fun z hz => by simp at hz)
              clear H2 k2
              go_wp2_with fail
              refine (H3 _).mono ?_
              rintro e w1 ⟨rfl, k2⟩
              replace A1 := A1.kept k2 (by simp)
              replace k1 := k1.trans k2 (fun z hz => by simp at hz)
              clear H3 k2
              go_wp2_with fail
              refine (H4 _).mono ?_
              rintro e w1 ⟨rfl, k2⟩
              replace A1 := A1.kept k2 (by simp)
              replace k1 := k1.trans k2 (fun z hz => by simp at hz)
              clear H4 k2
              go_wp2_with fail
              refine (HC _).mono ?_
              rintro e w1 ⟨rfl, k2⟩
              replace A1 := A1.kept k2 (by simp)
              replace k1 := k1.trans k2 (fun z hz => by simp at hz)
              clear HC k2
              obtain ⟨c0, c1, c2, c3, c4⟩ := A1.cells5
              have f0 := fun j => A1.free j
              have D : Hid _ := laid5 k1 A1 (Nat.le_refl _) (.int .i64 k) (.string x) (.slice none 0 0) (.bool false) (.string y)
              clear A1 k1
              generalize w.heap.size = g0 at c0 c1 c2 c3 c4 f0 D ⊢
              go_wp2
              obtain ⟨d0, d1, d2, d3, d4, kz⟩ := D.out
              unfold put5 at d0 d1 d2 d3 d4 kz
              refine bodyPost_ret (v := .tuple #[.agg #[.int .i64 k, .string x, .slice none 0 0, .bool false, .string y], .int .i64 (n : Int)]) (by simp [results, go_sem, d0, d1, d2, d3, d4]) rfl ⟨rfl, kz⟩
            · rw [if_neg h6]
              have b6 : (bt s (p + 1) == 63) = false := by simpa using h6
              generalize bt s (p + 1) = z at i1 b6
              clear h6
              have HC := fun W => other_any W s (p + 2) (by omega) hs
              generalize oF s (p + 2) = R at HC ⊢
              obtain ⟨⟨k, x, y⟩, n⟩ := R
              unfold mv at HC ⊢
              simp only [] at HC ⊢
              push_cast at HC
              have A1 := At.new w ZT 44
              have k1 : Kp [] w (w.alloc (.cells ZT 44)) := (Kp.refl _ _).alloc _
              go_enter Tryz.func57, Tryz.ntmps57
              go_wp2_with fail
              refine (H1 _).mono ?_
              rintro e w1 ⟨rfl, k2⟩
              replace A1 := A1.kept k2 (by simp)
              replace k1 := k1.trans k2 (fun z hz => by simp at hz)
              clear H1 k2
              go_wp2_with fail
              refine (H2 _).mono ?_
              rintro e w1 ⟨rfl, k2⟩
              replace A1 := A1.kept k2 (by simp)
              replace k1 := k1.trans k2 (fun z hz => by simp at hz)
              clear H2 k2
              go_wp2_with fail
              refine (H3 _).mono ?_
              rintro e w1 ⟨rfl, k2⟩
              replace A1 := A1.kept k2 (by simp)
              replace k1 := k1.trans k2 (fun z hz => by simp at hz)
              clear H3 k2
              go_wp2_with fail
              refine (H4 _).mono ?_
              rintro e w1 ⟨rfl, k2⟩
              replace A1 := A1.kept k2 (by simp)
              replace k1 := k1.trans k2 (fun z hz => by simp at hz)
              clear H4 k2
              go_wp2_with fail
              refine (HC _).mono ?_
              rintro e w1 ⟨rfl, k2⟩
              replace A1 := A1.kept k2 (by simp)
              replace k1 := k1.trans k2 (fun z hz => by simp at hz)
              clear HC k2
              obtain ⟨c0, c1, c2, c3, c4⟩ := A1.cells5
              have f0 := fun j => A1.free j
              have D : Hid _ := laid5 k1 A1 (Nat.le_refl _) (.int .i64 k) (.string x) (.slice none 0 0) (.bool false) (.string y)
              clear A1 k1
              generalize w.heap.size = g0 at c0 c1 c2 c3 c4 f0 D ⊢
              go_wp2
              obtain ⟨d0, d1, d2, d3, d4, kz⟩ := D.out
              unfold put5 at d0 d1 d2 d3 d4 kz
              refine bodyPost_ret (v := .tuple #[.agg #[.int .i64 k, .string x, .slice none 0 0, .bool false, .string y], .int .i64 (n : Int)]) (by simp [results, go_sem, d0, d1, d2, d3, d4]) rfl ⟨rfl, kz⟩
        | false =>
          rw [Bool.false_and, if_neg (by simp)]
          clear H4
          by_cases h6 : bt s (p + 1) = 63
          · rw [if_pos h6]
            rw [h6] at i1
            clear h6
            have HC := fun W => other_any W s (p + 1) (by omega) hs
            generalize oF s (p + 1) = R at HC ⊢
            obtain ⟨⟨k, x, y⟩, n⟩ := R
            unfold mv at HC ⊢
            simp only [] at HC ⊢
            push_cast at HC
            have A1 := At.new w ZT 44
            have k1 : Kp [] w (w.alloc (.cells ZT 44)) := (Kp.refl _ _).alloc _
            go_enter Tryz.func57, Tryz.ntmps57
            go_wp2_with fail
            refine (H1 _).mono ?_
            rintro e w1 ⟨rfl, k2⟩
            replace A1 := A1.kept k2 (by simp)
            replace k1 := k1.trans k2 (fun z hz => by simp at hz)
            clear H1 k2
            go_wp2_with fail
            refine (H2 _).mono ?_
            rintro e w1 ⟨rfl, k2⟩
            replace A1 := A1.kept k2 (by simp)
            replace k1 := k1.trans k2 (fun z hz => by simp at hz)
            clear H2 k2
            go_wp2_with fail
            refine (H3 _).mono ?_
            rintro e w1 ⟨rfl, k2⟩
            replace A1 := A1.kept k2 (by simp)
            replace k1 := k1.trans k2 (fun z hz => by simp at hz)
            clear H3 k2
            go_wp2_with fail
            refine (HC _).mono ?_
            rintro e w1 ⟨rfl, k2⟩
            replace A1 := A1.kept k2 (by simp)
            replace k1 := k1.trans k2 (fun z hz => by simp at hz)
            clear HC k2
            obtain ⟨c0, c1, c2, c3, c4⟩ := A1.cells5
            have f0 := fun j => A1.free j
            have D : Hid _ := laid5 k1 A1 (Nat.le_refl _) (.int .i64 k) (.string x) (.slice none 0 0) (.bool false) (.string y)
            clear A1 k1
            generalize w.heap.size = g0 at c0 c1 c2 c3 c4 f0 D ⊢
            go_wp2
            obtain ⟨d0, d1, d2, d3, d4, kz⟩ := D.out
            unfold put5 at d0 d1 d2 d3 d4 kz
            refine bodyPost_ret (v := .tuple #[.agg #[.int .i64 k, .string x, .slice none 0 0, .bool false, .string y], .int .i64 (n : Int)]) (by simp [results, go_sem, d0, d1, d2, d3, d4]) rfl ⟨rfl, kz⟩
          · rw [if_neg h6]
            have b6 : (bt s (p + 1) == 63) = false := by simpa using h6
            generalize bt s (p + 1) = z at i1 b6
            clear h6
            have HC := fun W => other_any W s (p + 2) (by omega) hs
            generalize oF s (p + 2) = R at HC ⊢
            obtain ⟨⟨k, x, y⟩, n⟩ := R
            unfold mv at HC ⊢
            simp only [] at HC ⊢
            push_cast at HC
            have A1 := At.new w ZT 44
            have k1 : Kp [] w (w.alloc (.cells ZT 44)) := (Kp.refl _ _).alloc _
            go_enter Tryz.func57, Tryz.ntmps57
            go_wp2_with fail
            refine (H1 _).mono ?_
            rintro e w1 ⟨rfl, k2⟩
            replace A1 := A1.kept k2 (by simp)
            replace k1 := k1.trans k2 (fun z hz => by simp at hz)
            clear H1 k2
            go_wp2_with fail
            refine (H2 _).mono ?_
            rintro e w1 ⟨rfl, k2⟩
            replace A1 := A1.kept k2 (by simp)
            replace k1 := k1.trans k2 (fun z hz => by simp at hz)
            clear H2 k2
            go_wp2_with fail
            refine (H3 _).mono ?_
            rintro e w1 ⟨rfl, k2⟩
            replace A1 := A1.kept k2 (by simp)
            replace k1 := k1.trans k2 (fun z hz => by simp at hz)
            clear H3 k2
            go_wp2_with fail
            refine (HC _).mono ?_
            rintro e w1 ⟨rfl, k2⟩
            replace A1 := A1.kept k2 (by simp)
            replace k1 := k1.trans k2 (fun z hz => by simp at hz)
            clear HC k2
            obtain ⟨c0, c1, c2, c3, c4⟩ := A1.cells5
            have f0 := fun j => A1.free j
            have D : Hid _ := laid5 k1 A1 (Nat.le_refl _) (.int .i64 k) (.string x) (.slice none 0 0) (.bool false) (.string y)
            clear A1 k1
            generalize w.heap.size = g0 at c0 c1 c2 c3 c4 f0 D ⊢
            go_wp2
            obtain ⟨d0, d1, d2, d3, d4, kz⟩ := D.out
            unfold put5 at d0 d1 d2 d3 d4 kz
            refine bodyPost_ret (v := .tuple #[.agg #[.int .i64 k, .string x, .slice none 0 0, .bool false, .string y], .int .i64 (n : Int)]) (by simp [results, go_sem, d0, d1, d2, d3, d4]) rfl ⟨rfl, kz⟩

/-- What Read answers, as a value. -/
def rv (T : Mt × Int × Bool) : Value := .tuple #[mv T.1, .int .i64 T.2.1, .bool T.2.2]

set_option maxHeartbeats 1000000 in
set_option maxRecDepth 100000 in
theorem read_no (w : World) (s : ByteArray) (a : Int) (b : Bool) (HB : ∀ W, Calls Tryz.prog 56 #[.string s, .int .i64 a] W fun e w' => e = .returned (.bool false) ∧ w' = W) :
    Calls Tryz.prog 38 #[.string s, .int .i64 a, .bool b] w fun e w' => e = .returned (rv (z3, a, false)) ∧ Kp [] w w' := by
  unfold rv mv z3
  simp only []
  have A1 := At.new w ZT 44
  have k1 : Kp [] w (w.alloc (.cells ZT 44)) := (Kp.refl _ _).alloc _
  go_enter Tryz.func38, Tryz.ntmps38
  go_wp2_with fail
  refine (HB _).mono ?_
  rintro e w1 ⟨rfl, rfl⟩
  clear HB
  generalize w.alloc (.cells ZT 44) = W at A1 k1 ⊢
  obtain ⟨c0, c1, c2, c3, c4⟩ := A1.cells5
  have f0 := fun j => A1.free j
  have D : Hid _ := laid5 k1 A1 (Nat.le_refl _) (.int .i64 0) (.string ⟨#[]⟩) (.slice none 0 0) (.bool false) (.string ⟨#[]⟩)
  clear A1 k1
  generalize w.heap.size = g0 at c0 c1 c2 c3 c4 f0 D ⊢
  go_wp2
  obtain ⟨d0, d1, d2, d3, d4, kz⟩ := D.out
  unfold put5 at d0 d1 d2 d3 d4 kz
  refine bodyPost_ret (v := .tuple #[.agg #[.int .i64 0, .string ⟨#[]⟩, .slice none 0 0, .bool false, .string ⟨#[]⟩], .int .i64 a, .bool false]) (by simp [results, go_sem, d0, d1, d2, d3, d4]) rfl ⟨rfl, kz⟩

set_option maxHeartbeats 1000000 in
set_option maxRecDepth 100000 in
theorem read_yes (w : World) (s : ByteArray) (p : Nat) (b : Bool) (hs : s.size ≤ 100000) (hp : p + 1 < s.size) (hb : begM s p = true) :
    Calls Tryz.prog 38 #[.string s, .int .i64 (p : Int), .bool b] w fun e w' => e = .returned (rv ((rdM s p b).1, ((rdM s p b).2 : Int), true)) ∧ Kp [] w w' := by
  have HB := fun W => begins_at W s p hs hp
  rw [hb] at HB
  have HC := fun W => mread_any W s p b hs hp
  generalize rdM s p b = R at HC ⊢
  obtain ⟨⟨k, x, y⟩, n⟩ := R
  unfold mv at HC
  unfold rv mv
  simp only [] at HC ⊢
  clear hb
  have A0 := At.new w ZT 44
  have k0 : Kp [] w (w.alloc (.cells ZT 44)) := (Kp.refl _ _).alloc _
  go_enter Tryz.func38, Tryz.ntmps38
  go_wp2_with fail
  refine (HB _).mono ?_
  rintro e w1 ⟨rfl, rfl⟩
  clear HB
  go_wp2_with fail
  generalize w.alloc (.cells ZT 44) = W at A0 k0 ⊢
  refine (HC _).mono ?_
  rintro e w1 ⟨rfl, k2⟩
  clear HC
  have B := Bx.new (k0.trans k2 (fun z hz => by simp at hz)) (A0.kept k2 (by simp)) (Nat.le_refl _) (.int .i64 k) (.string x) (.slice none 0 0) (.bool false) (.string y)
  obtain ⟨⟨x0, x1, x2, x3, x4⟩, _, ⟨c0, c1, c2, c3, c4⟩, f0⟩ := B.facts
  have D : Hid _ := laid5 B.kp B.r B.n0 (.int .i64 k) (.string x) (.slice none 0 0) (.bool false) (.string y)
  clear B k0 k2 A0
  generalize w.heap.size = g0 at c0 c1 c2 c3 c4 f0 D ⊢
  go_wp2
  obtain ⟨d0, d1, d2, d3, d4, kz⟩ := D.out
  unfold put5 at d0 d1 d2 d3 d4 kz
  refine bodyPost_ret (v := .tuple #[.agg #[.int .i64 k, .string x, .slice none 0 0, .bool false, .string y], .int .i64 (n : Int), .bool true]) (by simp [results, go_sem, d0, d1, d2, d3, d4]) rfl ⟨rfl, kz⟩

theorem mk_read_any (w : World) (s : ByteArray) (a : Int) (b : Bool) (hs : s.size ≤ 100000) :
    Calls Tryz.prog 38 #[.string s, .int .i64 a, .bool b] w fun e w' => e = .returned (rv (mkF s a b)) ∧ Kp [] w w' := by
  by_cases h : a < 0 ∨ (s.size : Int) ≤ a + 1
  · have : mkF s a b = (z3, a, false) := by
      rcases h with h | h
      · exact mk_lo h b
      · exact mk_hi h b
    rw [this]
    exact read_no w s a b (fun W => begins_no W s a hs h)
  · obtain ⟨p, rfl⟩ : ∃ p : Nat, a = p := ⟨a.toNat, by omega⟩
    have hp : p + 1 < s.size := by omega
    cases hb : begM s p with
    | true =>
      rw [mk_yes hb]
      exact read_yes w s p b hs hp hb
    | false =>
      rw [mk_no hb]
      refine read_no w s p b (fun W => ?_)
      have := begins_at W s p hs hp
      rw [hb] at this
      exact this

end Go.Proofs.YtcfaejbbjmjgpaaGreatDoor
