/-
  The program's other, cdata, doctype and comment, of any text.
-/
import Derived.Test.YthdlmglnieomeaaEnd
import Derived.Test.YthdlmglnieomeaaBoxes
import Derived.Test.YthdlmglnieomeaaUntil
import Derived.Test.YthdlmglnieomeaaClone
namespace Go.Proofs.Ythdlmglnieomeaa
open Go.RowKit Utf
set_option linter.unusedVariables false

/-- A token without attributes, as a value. -/
def mv (t : Mt) : Value := .agg #[.int .i64 t.1, .string t.2.1, .slice none 0 0, .bool false, .string t.2.2]

/-- A literal of texts, made behind a block. -/
theorem lit_rb (w : World) (o : Obj) (cur : Array Value) (l : List ByteArray) (n : Nat) (h : cur = (tx l).toArray) (hn : n = l.length) (hm : n ≤ 1000) : Rb ((w.alloc o).alloc (.cells cur 9)) (some ⟨w.heap.size + 1, 0, none⟩) n n (tx l) := by
  have := rb_lit (w.alloc o) 9 cur (tx l) n h (by rw [tx_len]; exact hn) hm
  rw [show (w.alloc o).heap.size = w.heap.size + 1 by simp] at this
  exact this
theorem lit_kp (w : World) (o : Obj) (o2 : Obj) : Kp [] w ((w.alloc o).alloc o2) := ((Kp.refl _ _).alloc _).alloc _
theorem lit_at (w : World) (o2 : Obj) : At ((w.alloc (.cells ZT 32)).alloc o2) w.heap.size ZT 32 := (At.new w ZT 32).kept ((Kp.refl [] _).alloc _) (by simp)
theorem solid_one (x : ByteArray) (h : 0 < x.size) : solid [x] := fun y hy => by
  simp only [List.mem_singleton] at hy
  rw [hy]
  exact h
theorem brief_one (x : ByteArray) (h : x.size ≤ 100) : ∀ y, y ∈ [x] → y.size ≤ 100 := fun y hy => by
  simp only [List.mem_singleton] at hy
  rw [hy]
  exact h

set_option maxHeartbeats 1000000 in
set_option maxRecDepth 100000 in
theorem other_any (w : World) (s : ByteArray) (f : Nat) (hf : f ≤ s.size) (hs : s.size ≤ 100000) :
    Calls Try.prog 38 #[.string s, .int .i64 (f : Int)] w fun e w' => e = .returned (.tuple #[mv (oF s f).1, .int .i64 ((oF s f).2 : Int)]) ∧ Kp [] w w' := by
  have HE := fun W => end_any W s f hf hs [GT] (solid_one _ (by decide)) (brief_one _ (by decide))
  have h1 := (eP_is s [GT] hf).lo
  have h2 := (eP_is s [GT] hf).hi
  unfold oF mv
  generalize eN s [GT] f = m at HE ⊢
  generalize eP s [GT] f = t at HE h1 h2 ⊢
  have HC := fun W => clone_any W (s.extract f t) (by have := cut_le s f t; omega)
  simp only []
  go_enter Try.func38, Try.ntmps38
  go_wp2_with fail
  refine (HE _ _ _ _ (lit_rb w (.cells ZT 32) _ [GT] 1 rfl rfl (by omega)) (by omega)).mono ?_
  rintro e w2 ⟨rfl, k2⟩
  have A1 := (lit_at w (.cells #[.string ⟨#[62]⟩] 9)).kept k2 (by simp)
  have k1 := (lit_kp w (.cells ZT 32) (.cells #[.string ⟨#[62]⟩] 9)).trans k2 (fun z hz => by simp at hz)
  clear HE k2
  go_wp2_with fail
  refine (HC _).mono ?_
  rintro e w3 ⟨rfl, k3⟩
  replace A1 := A1.kept k3 (by simp)
  replace k1 := k1.trans k3 (fun z hz => by simp at hz)
  clear HC k3
  obtain ⟨c0, c1, c2, c3, c4⟩ := A1.cells5
  have f0 := fun j => A1.free j
  have D : Hid _ := laid5 k1 A1 (Nat.le_refl _) (.int .i64 5) (.string ⟨#[]⟩) (.slice none 0 0) (.bool false) (.string (s.extract f t))
  clear A1 k1
  generalize w.heap.size = g0 at c0 c1 c2 c3 c4 f0 D ⊢
  go_wp2
  obtain ⟨d0, d1, d2, d3, d4, kz⟩ := D.out
  unfold put5 at d0 d1 d2 d3 d4 kz
  refine bodyPost_ret (v := .tuple #[.agg #[.int .i64 5, .string ⟨#[]⟩, .slice none 0 0, .bool false, .string (s.extract f t)], .int .i64 (m : Int)]) (by simp [results, go_sem, d0, d1, d2, d3, d4]) rfl ⟨rfl, kz⟩

set_option maxHeartbeats 1000000 in
set_option maxRecDepth 100000 in
theorem cdata_any (w : World) (s : ByteArray) (f : Nat) (hf : f ≤ s.size) (hs : s.size ≤ 100000) :
    Calls Try.prog 37 #[.string s, .int .i64 (f : Int)] w fun e w' => e = .returned (.tuple #[mv (kF s f).1, .int .i64 ((kF s f).2 : Int)]) ∧ Kp [] w w' := by
  have HE := fun W => end_any W s f hf hs [E3] (solid_one _ (by decide)) (brief_one _ (by decide))
  have h1 := (eP_is s [E3] hf).lo
  have h2 := (eP_is s [E3] hf).hi
  unfold kF
  generalize eN s [E3] f = m at HE ⊢
  generalize eP s [E3] f = t at HE h1 h2 ⊢
  by_cases h3 : t = f
  · rw [if_pos h3]
    subst h3
    unfold mv z3
    simp only []
    go_enter Try.func37, Try.ntmps37
    go_wp2_with fail
    refine (HE _ _ _ _ (lit_rb w (.cells ZT 32) _ [E3] 1 rfl rfl (by omega)) (by omega)).mono ?_
    rintro e w2 ⟨rfl, k2⟩
    have A1 := (lit_at w (.cells #[.string ⟨#[93, 93, 62]⟩] 9)).kept k2 (by simp)
    have k1 := (lit_kp w (.cells ZT 32) (.cells #[.string ⟨#[93, 93, 62]⟩] 9)).trans k2 (fun z hz => by simp at hz)
    clear HE k2
    obtain ⟨c0, c1, c2, c3, c4⟩ := A1.cells5
    have f0 := fun j => A1.free j
    have D : Hid _ := laid5 k1 A1 (Nat.le_refl _) (.int .i64 0) (.string ⟨#[]⟩) (.slice none 0 0) (.bool false) (.string ⟨#[]⟩)
    clear A1 k1
    generalize w.heap.size = g0 at c0 c1 c2 c3 c4 f0 D ⊢
    go_wp2
    obtain ⟨d0, d1, d2, d3, d4, kz⟩ := D.out
    unfold put5 at d0 d1 d2 d3 d4 kz
    refine bodyPost_ret (v := .tuple #[.agg #[.int .i64 0, .string ⟨#[]⟩, .slice none 0 0, .bool false, .string ⟨#[]⟩], .int .i64 (m : Int)]) (by simp [results, go_sem, d0, d1, d2, d3, d4]) rfl ⟨rfl, kz⟩
  · rw [if_neg h3]
    have b1 : ((t : Int) == (f : Int)) = false := by simp only [beq_eq_false_iff_ne, ne_eq]; omega
    have HC := fun W => clone_any W (s.extract f t) (by have := cut_le s f t; omega)
    unfold mv
    simp only []
    clear h3
    go_enter Try.func37, Try.ntmps37
    go_wp2_with fail
    refine (HE _ _ _ _ (lit_rb w (.cells ZT 32) _ [E3] 1 rfl rfl (by omega)) (by omega)).mono ?_
    rintro e w2 ⟨rfl, k2⟩
    have A1 := (lit_at w (.cells #[.string ⟨#[93, 93, 62]⟩] 9)).kept k2 (by simp)
    have k1 := (lit_kp w (.cells ZT 32) (.cells #[.string ⟨#[93, 93, 62]⟩] 9)).trans k2 (fun z hz => by simp at hz)
    clear HE k2
    go_wp2_with fail
    refine (HC _).mono ?_
    rintro e w3 ⟨rfl, k3⟩
    replace A1 := A1.kept k3 (by simp)
    replace k1 := k1.trans k3 (fun z hz => by simp at hz)
    clear HC k3
    obtain ⟨c0, c1, c2, c3, c4⟩ := A1.cells5
    have f0 := fun j => A1.free j
    have D : Hid _ := laid5 k1 A1 (Nat.le_refl _) (.int .i64 4) (.string ⟨#[]⟩) (.slice none 0 0) (.bool false) (.string (s.extract f t))
    clear A1 k1
    generalize w.heap.size = g0 at c0 c1 c2 c3 c4 f0 D ⊢
    go_wp2
    obtain ⟨d0, d1, d2, d3, d4, kz⟩ := D.out
    unfold put5 at d0 d1 d2 d3 d4 kz
    refine bodyPost_ret (v := .tuple #[.agg #[.int .i64 4, .string ⟨#[]⟩, .slice none 0 0, .bool false, .string (s.extract f t)], .int .i64 (m : Int)]) (by simp [results, go_sem, d0, d1, d2, d3, d4]) rfl ⟨rfl, kz⟩

set_option maxHeartbeats 1000000 in
set_option maxRecDepth 100000 in
theorem doctype_any (w : World) (s : ByteArray) (f : Nat) (hf : f ≤ s.size) (hs : s.size ≤ 100000) :
    Calls Try.prog 36 #[.string s, .int .i64 (f : Int)] w fun e w' => e = .returned (.tuple #[mv (dF s f).1, .int .i64 ((dF s f).2 : Int)]) ∧ Kp [] w w' := by
  have HK := fun W => skip_any W s (f : Int) (by omega)
  rw [pl_of hf] at HK
  unfold dF mv
  have hk := skip_is s hf
  generalize skipF s f = a at HK hk ⊢
  have l1 := hk.lo
  have l2 := hk.hi
  have HU := fun W => until_any W s (a : Int) DT (by omega) (by decide)
  rw [pl_of l2] at HU
  have hu := until_is s DT l2
  generalize untilF s DT a = b at HU hu ⊢
  have l3 := hu.lo
  have l4 := hu.hi
  have HE := fun W => end_any W s b l4 hs [GT] (solid_one _ (by decide)) (brief_one _ (by decide))
  generalize eN s [GT] b = m at HE ⊢
  generalize eP s [GT] b = t at HE
  have HC := fun W => lower_any W (s.extract a b) (by have := cut_le s a b; omega)
  generalize lower (s.extract a b) = y at HC ⊢
  unfold DT at HU
  simp only []
  clear hk hu
  have A0 := At.new w ZT 32
  have k0 : Kp [] w (w.alloc (.cells ZT 32)) := (Kp.refl _ _).alloc _
  go_enter Try.func36, Try.ntmps36
  go_wp2_with fail
  refine (HK _).mono ?_
  rintro e w1 ⟨rfl, rfl⟩
  clear HK
  go_wp2_with fail
  refine (HU _).mono ?_
  rintro e w2 ⟨rfl, k2⟩
  have A2 := A0.kept k2 (by simp)
  have k3 := k0.trans k2 (fun z hz => by simp at hz)
  clear HU A0 k0 k2
  have HR := rb_lit w2 9 _ (tx [GT]) 1 rfl rfl (by omega)
  have k4 : Kp [] w2 (w2.alloc (.cells (tx [GT]).toArray 9)) := (Kp.refl _ _).alloc _
  go_wp2_with fail
  refine (HE _ _ _ _ HR (by omega)).mono ?_
  rintro e w4 ⟨rfl, k5⟩
  have k6 := k4.trans k5 (fun z hz => by simp at hz)
  have A1 := A2.kept k6 (by simp)
  have k1 := k3.trans k6 (fun z hz => by simp at hz)
  clear HE HR k4 k5 k6 A2 k3
  go_wp2_with fail
  refine (HC _).mono ?_
  rintro e w3 ⟨rfl, k3⟩
  replace A1 := A1.kept k3 (by simp)
  replace k1 := k1.trans k3 (fun z hz => by simp at hz)
  clear HC k3
  obtain ⟨c0, c1, c2, c3, c4⟩ := A1.cells5
  have f0 := fun j => A1.free j
  have D : Hid _ := laid5 k1 A1 (Nat.le_refl _) (.int .i64 1) (.string y) (.slice none 0 0) (.bool false) (.string ⟨#[]⟩)
  clear A1 k1
  generalize w.heap.size = g0 at c0 c1 c2 c3 c4 f0 D ⊢
  go_wp2
  obtain ⟨d0, d1, d2, d3, d4, kz⟩ := D.out
  unfold put5 at d0 d1 d2 d3 d4 kz
  refine bodyPost_ret (v := .tuple #[.agg #[.int .i64 1, .string y, .slice none 0 0, .bool false, .string ⟨#[]⟩], .int .i64 (m : Int)]) (by simp [results, go_sem, d0, d1, d2, d3, d4]) rfl ⟨rfl, kz⟩

set_option maxHeartbeats 1000000 in
set_option maxRecDepth 100000 in
theorem comment_any (w : World) (s : ByteArray) (f : Nat) (hf : f ≤ s.size) (hs : s.size ≤ 100000) :
    Calls Try.prog 34 #[.string s, .int .i64 (f : Int)] w fun e w' => e = .returned (.tuple #[mv (cF s f).1, .int .i64 ((cF s f).2 : Int)]) ∧ Kp [] w w' := by
  obtain ⟨V, hV⟩ : ∃ V, cF s f = V := ⟨_, rfl⟩
  rw [hV]
  unfold cF at hV
  have A0 := lit_at w (.cells (tx [GT, DGT]).toArray 9)
  have k0 := lit_kp w (.cells ZT 32) (.cells (tx [GT, DGT]).toArray 9)
  have R0 := lit_rb w (.cells ZT 32) (tx [GT, DGT]).toArray [GT, DGT] 2 rfl rfl (by omega)
  go_enter Try.func34, Try.ntmps34
  go_wp2
  rw [show #[Value.string { data := #[62] }, Value.string { data := #[45, 62] }] = (tx [GT, DGT]).toArray from rfl]
  generalize (w.alloc (.cells ZT 32)).alloc (.cells (tx [GT, DGT]).toArray 9) = w2 at A0 k0 R0 ⊢
  generalize some (⟨w.heap.size + 1, 0, none⟩ : Addr) = ta at R0 ⊢
  obtain ⟨g0, hg0⟩ : ∃ g0, w.heap.size = g0 := ⟨_, rfl⟩
  rw [hg0] at A0 ⊢
  have hgw : Hid (w.heap.size ≤ g0) := by show _ ≤ _; omega
  clear hg0
  go_loopw [12] (fun i wr => ∃ m : Nat, m ≤ 2 ∧ i = .int .i64 m ∧ Kp [] w wr ∧ Rb wr ta 2 2 (tx [GT, DGT]) ∧ At wr g0 ZT 32 ∧ Hid (∀ j (hj : j < 2), j < m → st s f ([GT, DGT][j]) = false)) (fun i _ => 2 - (intOf i).toNat)
  case atStart => exact ⟨0, Nat.zero_le _, rfl, k0, R0, A0, fun j h1 h2 => by omega⟩
  case round =>
    obtain ⟨m, h3, rfl, ky, rt, A1, hc⟩ := hrel
    clear k0 R0 A0
    rcases (show m = 0 ∨ m = 1 ∨ m = 2 by omega) with rfl | rfl | rfl
    · skip
      have HS := starts_any wr s (f : Int) GT (by omega)
      rw [pl_of hf] at HS
      obtain ⟨b, o, rfl, hcell⟩ := rt.tx_at 0 (by decide)
      rw [show ([GT, DGT][0]) = GT from rfl] at hcell
      rw [Nat.add_zero] at hcell
      cases hx : st s f GT with
      | true =>
        rw [hx] at HS
        rw [if_pos hx] at hV
        have hV : Hid (_ = V) := hV
        have hfit := st_le hx
        have hsz : (GT).size = 1 := rfl
        rw [hsz] at hfit
        clear hc hx rt
        go_wp2_with fail
        refine HS.mono ?_
        rintro e w3 ⟨rfl, k3⟩
        replace A1 := A1.kept k3 (by simp)
        replace ky := ky.trans k3 (fun z hz => by simp at hz)
        clear HS k3
        obtain ⟨c0, c1, c2, c3, c4⟩ := A1.cells5
        have f0 := fun j => A1.free j
        have D : Hid _ := laid5 ky A1 hgw.out (.int .i64 5) (.string ⟨#[]⟩) (.slice none 0 0) (.bool false) (.string ⟨#[]⟩)
        clear A1 ky
        go_wp2
        obtain ⟨d0, d1, d2, d3, d4, kz⟩ := D.out
        unfold put5 at d0 d1 d2 d3 d4 kz
        try simp only [Exit.inBlock, Exit.then]
        refine bodyPost_ret (v := .tuple #[.agg #[.int .i64 5, .string ⟨#[]⟩, .slice none 0 0, .bool false, .string ⟨#[]⟩], .int .i64 ((f + 1 : Nat) : Int)]) (by simp [results, go_sem, d0, d1, d2, d3, d4]) rfl ⟨by rw [← hV.out]; rfl, kz⟩
      | false =>
        rw [hx] at HS
        have hc2 : Hid (∀ j (hj : j < 2), j < 0 + 1 → st s f ([GT, DGT][j]) = false) := fun j hj g => by
          by_cases hjm : j = 0
          · subst hjm; exact hx
          · exact hc.out j hj (by omega)
        clear hc hx
        go_wp2_with fail
        refine HS.mono ?_
        rintro e w3 ⟨rfl, k3⟩
        clear HS
        go_wp2
        go_roundw
        case rel => exact ⟨0 + 1, by omega, by go_num, ky.trans k3 (fun z hz => by simp at hz), rt.kept k3, A1.kept k3 (by simp), hc2⟩
        case measure => simp [intOf]
    · have g1 : st s f GT = false := hc.out 0 (by omega) (by omega)
      have HS := starts_any wr s (f : Int) DGT (by omega)
      rw [pl_of hf] at HS
      obtain ⟨b, o, rfl, hcell⟩ := rt.tx_at 1 (by decide)
      rw [show ([GT, DGT][1]) = DGT from rfl] at hcell
      cases hx : st s f DGT with
      | true =>
        rw [hx] at HS
        rw [if_neg (by rw [g1]; simp), if_pos hx] at hV
        have hV : Hid (_ = V) := hV
        have hfit := st_le hx
        have hsz : (DGT).size = 2 := rfl
        rw [hsz] at hfit
        clear hc hx rt
        go_wp2_with fail
        refine HS.mono ?_
        rintro e w3 ⟨rfl, k3⟩
        replace A1 := A1.kept k3 (by simp)
        replace ky := ky.trans k3 (fun z hz => by simp at hz)
        clear HS k3
        obtain ⟨c0, c1, c2, c3, c4⟩ := A1.cells5
        have f0 := fun j => A1.free j
        have D : Hid _ := laid5 ky A1 hgw.out (.int .i64 5) (.string ⟨#[]⟩) (.slice none 0 0) (.bool false) (.string ⟨#[]⟩)
        clear A1 ky
        go_wp2
        obtain ⟨d0, d1, d2, d3, d4, kz⟩ := D.out
        unfold put5 at d0 d1 d2 d3 d4 kz
        try simp only [Exit.inBlock, Exit.then]
        refine bodyPost_ret (v := .tuple #[.agg #[.int .i64 5, .string ⟨#[]⟩, .slice none 0 0, .bool false, .string ⟨#[]⟩], .int .i64 ((f + 2 : Nat) : Int)]) (by simp [results, go_sem, d0, d1, d2, d3, d4]) rfl ⟨by rw [← hV.out]; rfl, kz⟩
      | false =>
        rw [hx] at HS
        have hc2 : Hid (∀ j (hj : j < 2), j < 1 + 1 → st s f ([GT, DGT][j]) = false) := fun j hj g => by
          by_cases hjm : j = 1
          · subst hjm; exact hx
          · exact hc.out j hj (by omega)
        clear hc hx
        go_wp2_with fail
        refine HS.mono ?_
        rintro e w3 ⟨rfl, k3⟩
        clear HS
        go_wp2
        go_roundw
        case rel => exact ⟨1 + 1, by omega, by go_num, ky.trans k3 (fun z hz => by simp at hz), rt.kept k3, A1.kept k3 (by simp), hc2⟩
        case measure => simp [intOf]
    · have g1 : st s f GT = false := hc.out 0 (by omega) (by omega)
      have g2 : st s f DGT = false := hc.out 1 (by omega) (by omega)
      rw [if_neg (by rw [g1]; simp), if_neg (by rw [g2]; simp)] at hV
      have HE := fun W => end_any W s f hf hs ES es_solid (fun x hx => by simp only [ES, List.mem_cons, List.mem_nil_iff, or_false] at hx; rcases hx with rfl | rfl <;> decide)
      have l1 := (eP_is s ES hf).lo
      have l2 := (eP_is s ES hf).hi
      have l3 := eP_end (s := s) (l := ES) hf
      generalize eN s ES f = nx at HE l3 hV
      generalize eP s ES f = t at HE l1 l2 l3 hV
      clear g1 g2 hc rt
      have R1 := rb_lit wr 9 _ (tx ES) 2 rfl rfl (by omega)
      have k2 : Kp [] wr (wr.alloc (.cells (tx ES).toArray 9)) := (Kp.refl _ _).alloc _
      by_cases h5 : t = s.size
      · rw [if_pos h5] at hV
        have hV : Hid (_ = V) := hV
        obtain rfl := l3 h5
        subst h5
        have HX := fun W => cutoff_any W s f hf hs
        have l4 := cutL_le s hf DS
        generalize cutL s f DS = u at HX l4 hV
        obtain ⟨l5, l6⟩ := l4
        have HC := fun W => clone_any W (s.extract f u) (by have := cut_le s f u; omega)
        clear l3
        go_wp2_with fail
        refine (HE _ _ _ _ R1 (by omega)).mono ?_
        rintro e w3 ⟨rfl, k3⟩
        replace k3 := k2.trans k3 (fun z hz => by simp at hz)
        replace A1 := A1.kept k3 (by simp)
        replace ky := ky.trans k3 (fun z hz => by simp at hz)
        clear HE k3 k2 R1
        go_wp2_with fail
        refine (HX _).mono ?_
        rintro e w4 ⟨rfl, k4⟩
        replace A1 := A1.kept k4 (by simp)
        replace ky := ky.trans k4 (fun z hz => by simp at hz)
        clear HX k4
        go_wp2_with fail
        refine (HC _).mono ?_
        rintro e w5 ⟨rfl, k5⟩
        replace A1 := A1.kept k5 (by simp)
        replace ky := ky.trans k5 (fun z hz => by simp at hz)
        clear HC k5
        obtain ⟨c0, c1, c2, c3, c4⟩ := A1.cells5
        have f0 := fun j => A1.free j
        have D : Hid _ := laid5 ky A1 hgw.out (.int .i64 5) (.string ⟨#[]⟩) (.slice none 0 0) (.bool false) (.string (s.extract f u))
        clear A1 ky
        go_wp2
        obtain ⟨d0, d1, d2, d3, d4, kz⟩ := D.out
        unfold put5 at d0 d1 d2 d3 d4 kz
        try simp only [Exit.inBlock, Exit.then]
        refine bodyPost_ret (v := .tuple #[.agg #[.int .i64 5, .string ⟨#[]⟩, .slice none 0 0, .bool false, .string (s.extract f u)], .int .i64 (s.size : Int)]) (by simp [results, go_sem, d0, d1, d2, d3, d4]) rfl ⟨by rw [← hV.out]; rfl, kz⟩
      · rw [if_neg h5] at hV
        have hV : Hid (_ = V) := hV
        have b1 : ((t : Int) == (s.size : Int)) = false := by simp only [beq_eq_false_iff_ne, ne_eq]; omega
        have HC := fun W => clone_any W (s.extract f t) (by have := cut_le s f t; omega)
        clear l3 h5
        go_wp2_with fail
        refine (HE _ _ _ _ R1 (by omega)).mono ?_
        rintro e w3 ⟨rfl, k3⟩
        replace k3 := k2.trans k3 (fun z hz => by simp at hz)
        replace A1 := A1.kept k3 (by simp)
        replace ky := ky.trans k3 (fun z hz => by simp at hz)
        clear HE k3 k2 R1
        go_wp2_with fail
        refine (HC _).mono ?_
        rintro e w5 ⟨rfl, k5⟩
        replace A1 := A1.kept k5 (by simp)
        replace ky := ky.trans k5 (fun z hz => by simp at hz)
        clear HC k5
        obtain ⟨c0, c1, c2, c3, c4⟩ := A1.cells5
        have f0 := fun j => A1.free j
        have D : Hid _ := laid5 ky A1 hgw.out (.int .i64 5) (.string ⟨#[]⟩) (.slice none 0 0) (.bool false) (.string (s.extract f t))
        clear A1 ky
        go_wp2
        obtain ⟨d0, d1, d2, d3, d4, kz⟩ := D.out
        unfold put5 at d0 d1 d2 d3 d4 kz
        try simp only [Exit.inBlock, Exit.then]
        refine bodyPost_ret (v := .tuple #[.agg #[.int .i64 5, .string ⟨#[]⟩, .slice none 0 0, .bool false, .string (s.extract f t)], .int .i64 (nx : Int)]) (by simp [results, go_sem, d0, d1, d2, d3, d4]) rfl ⟨by rw [← hV.out]; rfl, kz⟩

end Go.Proofs.Ythdlmglnieomeaa
