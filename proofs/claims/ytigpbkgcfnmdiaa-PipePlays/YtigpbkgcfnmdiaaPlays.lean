/-
  The walk of PipePlays: whatever room and calls it is given, it answers true, and leaves what was there as it was.
-/
import Derived.Test.YtigpbkgcfnmdiaaIntsC
import Derived.Test.YtigpbkgcfnmdiaaKnown
import Derived.Deep.RegionHeld3
import Derived.Deep.DeepCutAuto
namespace Go.Proofs.Ytigpbkgcfnmdiaa
open Go.RowKit Ints

/-- The calls that came in: each of three cells, the third a slice of ints that reads as ys. -/
def Asks (w : World) (ao : Option Addr) (n : Nat) : Prop :=
  ∀ k, k < n → ∃ (b off : Nat) (kd x : Int) (lo : Option Addr) (lc : Nat) (ys : List Int), ao = some ⟨b, off, none⟩ ∧ b < w.heap.size ∧ w.cell? ⟨b, off + k * 3, none⟩ = some (.int .i64 kd) ∧ w.cell? ⟨b, off + k * 3 + 1, none⟩ = some (.int .i64 x) ∧ w.cell? ⟨b, off + k * 3 + 2, none⟩ = some (.slice lo ys.length lc) ∧
    Rd w (.slice lo ys.length lc) (ys.map (Value.int .i64)) ∧ ys.length ≤ lc ∧ lc ≤ 9223372036854775807

/-- A line that holds zs, and a list, in a block of its own, that holds us; made behind w. -/
structure Pl (w wr : World) (p c r : Nat) (ks : List Nat) (zs us : List Int) (v : Value) : Prop where
  inv : Inv w wr p c r ks zs
  own : Own wr 3 v (us.map (Value.int .i64))
  new : ∀ x, x ∈ blk v → w.heap.size ≤ x ∧ x ∉ ks

section
variable {w wr w2 : World} {p c r : Nat} {ks : List Nat} {zs us : List Int} {v : Value}

theorem Pl.kept (h : Pl w wr p c r ks zs us v) (k : Kp [] wr w2) : Pl w w2 p c r ks zs us v :=
  ⟨h.inv.kept k, h.own.keep k (fun _ _ => by simp), h.new⟩

theorem Pl.form (h : Pl w wr p c r ks zs us v) : ∃ ao cap, v = .slice ao us.length cap := by
  rcases h.own with ⟨rfl, h0⟩ | ⟨g, o, cap, cur, rfl, _⟩
  · obtain rfl : us = [] := by simpa using h0
    exact ⟨none, 0, rfl⟩
  · exact ⟨some ⟨g, o, none⟩, cap, by rw [List.length_map]⟩

/-- The line turns: what is in it now was in it, or is new. -/
theorem Pl.turn {ks' : List Nat} {zs' : List Int} (h : Pl w wr p c r ks zs us v) (hs : ∀ x, x ∈ ks' → x ∈ ks ∨ wr.heap.size ≤ x) (l : LX w2 p c r ks' zs') (k : Kp [c] wr w2) : Pl w w2 p c r ks' zs' us v :=
  ⟨h.inv.step l k, h.own.past h.inv.1 k, fun x hx => by
    obtain ⟨h1, h2⟩ := h.new x hx
    have := h.own.lt x hx
    refine ⟨h1, fun hm => ?_⟩
    rcases hs x hm with h4 | h4
    · exact h2 h4
    · omega⟩

/-- The list grows. -/
theorem Pl.app {v' : Value} {us' : List Int} (h : Pl w wr p c r ks zs us v) (o : Own w2 3 v' (us'.map (Value.int .i64))) (k : Kp (blk v) wr w2) (hb : ∀ y, y ∈ blk v' → y ∈ blk v ∨ wr.heap.size ≤ y) : Pl w w2 p c r ks zs us' v' := by
  obtain ⟨n1, n2⟩ := h.inv.1.own (by decide) h.own
  have hsz := h.inv.2.1.size
  refine ⟨⟨h.inv.1.kept k n1 n2 (fun y hy hm => (h.new y hm).2 hy), h.inv.2.1.trans k (fun y hy => Or.inr (h.new y hy).1), h.inv.2.2⟩, o, fun y hy => ?_⟩
  rcases hb y hy with h1 | h1
  · exact h.new y h1
  · refine ⟨by omega, fun hm => ?_⟩
    have := h.inv.1.lt.2.2 y hm
    omega

/-- Another list, in a new block. -/
theorem Pl.other {v' : Value} {us' : List Int} (h : Pl w wr p c r ks zs us v) (o : Own w2 3 v' (us'.map (Value.int .i64))) (k : Kp [] wr w2) (hb : ∀ y, y ∈ blk v' → wr.heap.size ≤ y) : Pl w w2 p c r ks zs us' v' := by
  have hsz := h.inv.2.1.size
  refine ⟨h.inv.kept k, o, fun y hy => ?_⟩
  have h1 := hb y hy
  refine ⟨by omega, fun hm => ?_⟩
  have := h.inv.1.lt.2.2 y hm
  omega

/-- None. -/
theorem Pl.none (h : Pl w wr p c r ks zs us v) : Pl w wr p c r ks zs [] (.slice .none 0 0) :=
  ⟨h.inv, Or.inl ⟨rfl, rfl⟩, fun x hx => by simp [blk] at hx⟩

/-- The first of the list, and where it lies. -/
theorem Pl.first {x : Int} {ao : Option Addr} {m cap : Nat} (h : Pl w wr p c r ks zs (x :: us) (.slice ao m cap)) : m = us.length + 1 ∧ m ≤ cap ∧ ∃ g o, ao = some ⟨g, o, .none⟩ ∧ wr.cell? ⟨g, o, .none⟩ = some (.int .i64 x) ∧
    Pl w wr p c r ks zs us (if cap = 1 then .slice (some ⟨g, o, .none⟩) 0 0 else .slice (some ⟨g, o + 1, .none⟩) us.length (cap - 1)) := by
  have ho := h.own
  rw [List.map_cons] at ho
  obtain ⟨h1, h2, h3, h4⟩ := ho.tail
  obtain ⟨ao', c', he, hcs⟩ := ho.rd
  simp only [Value.slice.injEq] at he
  obtain ⟨rfl, _, rfl⟩ := he
  obtain ⟨g, o, rfl, hc⟩ := hcs 0 (by simp)
  refine ⟨by simpa using h1, h2, g, o, rfl, by simpa using hc, ?_⟩
  have hv : sliced (some ⟨g, o, .none⟩) 1 m cap 1 = if cap = 1 then .slice (some ⟨g, o, .none⟩) 0 0 else .slice (some ⟨g, o + 1, .none⟩) us.length (cap - 1) := by
    simp only [List.length_map] at h1
    by_cases hcp : cap = 1
    · subst hcp
      simp [sliced]
      omega
    · simp [sliced, hcp, Addr.add_lit]
      omega
  rw [← hv]
  exact ⟨h.inv, h3, fun y hy => h.new y (h4 ▸ hy)⟩
end

/-- A beginning of what is read. -/
theorem rd_cut {w : World} {lo : Option Addr} {n c : Nat} {xs : List Value} (h : Rd w (.slice lo n c) xs) (f : Nat) (hf : f ≤ xs.length) : Rd w (.slice lo f c) (xs.take f) := by
  obtain ⟨ao, c', he, hcs⟩ := h
  simp only [Value.slice.injEq] at he
  obtain ⟨rfl, _, rfl⟩ := he
  have hl : (xs.take f).length = f := by simp; omega
  refine ⟨lo, c, by rw [hl], fun j hj => ?_⟩
  rw [hl] at hj
  obtain ⟨b, off, h1, h2⟩ := hcs j (by omega)
  exact ⟨b, off, h1, by rw [h2, List.getElem?_take, if_pos hj]⟩

/-- The call that is played lies in a block of its own: three cells. -/
def Held (w : World) (q : Nat) (kd x : Int) (l : Value) : Prop := w.heap[q]? = some (.cells #[.int .i64 kd, .int .i64 x, l] 37 (0, 0))

theorem Held.get {w : World} {q : Nat} {kd x : Int} {l : Value} (h : Held w q kd x l) : w.cell? ⟨q, 0, none⟩ = some (.int .i64 kd) ∧ w.cell? ⟨q, 1, none⟩ = some (.int .i64 x) ∧ w.cell? ⟨q, 2, none⟩ = some l :=
  ⟨by rw [cell_of h]; rfl, by rw [cell_of h]; rfl, by rw [cell_of h]; rfl⟩

theorem Held.past {w w' : World} {q : Nat} {kd x : Int} {l : Value} {p c r : Nat} {ks : List Nat} {zs : List Int} (h : Held w q kd x l) (hl : LX w p c r ks zs) (k : Kp [c] w w') : Held w' q kd x l := by
  obtain ⟨s, t, hc⟩ := hl.chan
  show w'.heap[q]? = _
  rw [k.block q (lt_of h) (by
    simp only [List.mem_singleton]
    intro he
    rw [Held, he, hc] at h
    cases h)]
  exact h

theorem Held.kept {w w' : World} {q : Nat} {kd x : Int} {l : Value} (h : Held w q kd x l) (k : Kp [] w w') : Held w' q kd x l := by
  show w'.heap[q]? = _
  rw [k.block q (lt_of h) (by simp)]
  exact h

set_option maxHeartbeats 4000000 in
set_option maxRecDepth 100000 in
theorem plays_any (w : World) (n : Int) (ao : Option Addr) (len cap : Nat) (hA : Asks w ao len) :
    Calls Try.prog 4 #[.int .i64 n, .slice ao len cap] w fun e w' => e = .returned (.bool true) ∧ Kp [] w w' := by
  have HA : Hid (Asks w ao len) := hA
  clear hA
  go_enter Try.func4, Try.ntmps4
  go_wp2_with fail
  refine (within_any w n 40 (by omega) (by omega)).mono ?_
  rintro e w1 ⟨⟨r, h1, h2, rfl⟩, rfl⟩
  go_wp2_with fail
  refine (new_any w1 r h1 (by omega)).mono ?_
  rintro e w2 ⟨rfl, l1, k1⟩
  have o1 : Pl w1 w2 (w1.heap.size + 1) w1.heap.size r [] [] [] (.slice none 0 0) := ⟨⟨l1, k1, Nat.le_refl _⟩, Or.inl ⟨rfl, rfl⟩, fun x hx => by simp [blk] at hx⟩
  clear l1 k1
  generalize w1.heap.size + 1 = p at o1 ⊢
  obtain ⟨c, hc⟩ : ∃ c, c = w1.heap.size := ⟨_, rfl⟩
  rw [← hc] at o1
  clear hc
  go_wp2
  go_loopw [8, 9] (fun v i wr => ∃ (k : Nat) (ks : List Nat) (zs : List Int), k ≤ 60 ∧ k ≤ len ∧ i = .int .i64 (k : Nat) ∧ Pl w1 wr p c r ks zs zs v) (fun _ i _ => 60 - (intOf i).toNat)
  case atStart => exact ⟨0, [], [], by omega, Nat.zero_le _, rfl, o1⟩
  case round =>
    obtain ⟨k, ks, zs, hk, hkl, rfl, ho⟩ := hrel
    clear o1
    obtain ⟨ai, ci, rfl⟩ := ho.form
    obtain ⟨m, hm⟩ : ∃ m, zs.length = m := ⟨_, rfl⟩
    have hmr : m ≤ r := by
      have := ho.inv.1.fits
      rw [List.length_map] at this
      omega
    rw [hm] at ho
    rw [hm]
    by_cases hlt : k < len ∧ k < 60
    · obtain ⟨hlt1, hlt2⟩ := hlt
      obtain ⟨b, off, kd, x, lo, lc, ys, rfl, hb, c0, c1, c2, hrd, hyc, hlc⟩ := HA.out k hlt1
      have e0 : wr.cell? ⟨b, off + k * 3, none⟩ = some (.int .i64 kd) := (ho.inv.2.1.cell (a := ⟨b, off + k * 3, none⟩) hb (by simp)).trans c0
      have e1 : wr.cell? ⟨b, off + k * 3 + 1, none⟩ = some (.int .i64 x) := (ho.inv.2.1.cell (a := ⟨b, off + k * 3 + 1, none⟩) hb (by simp)).trans c1
      have e2 : wr.cell? ⟨b, off + k * 3 + 2, none⟩ = some (.slice lo ys.length lc) := (ho.inv.2.1.cell (a := ⟨b, off + k * 3 + 2, none⟩) hb (by simp)).trans c2
      clear c0 c1 c2 hb HA
      obtain ⟨l, hl⟩ : ∃ l, ys.length = l := ⟨_, rfl⟩
      rw [hl] at e2 hyc
      have hrd3 := (hrd.kept ho.inv.2.1).kept ((Kp.refl [] wr).alloc (.cells #[.int .i64 kd, .int .i64 x, .slice lo l lc] 37))
      have ho3 := ho.kept ((Kp.refl [] wr).alloc (.cells #[.int .i64 kd, .int .i64 x, .slice lo l lc] 37))
      have hh3 : Held (wr.alloc (.cells #[.int .i64 kd, .int .i64 x, .slice lo l lc] 37)) wr.heap.size kd x (.slice lo l lc) := heap_new wr _
      have HRD : Hid (Rd (wr.alloc (.cells #[.int .i64 kd, .int .i64 x, .slice lo l lc] 37)) (.slice lo ys.length lc) (ys.map (Value.int .i64))) := hrd3
      have HL : Hid (ys.length = l) := hl
      have HM : Hid (zs.length = m) := hm
      clear hrd ho hrd3 hl hm
      go_upto_region 14 with fail
      generalize wr.alloc (.cells #[.int .i64 kd, .int .i64 x, .slice lo l lc] 37) = w3 at ho3 hh3 HRD ⊢
      generalize wr.heap.size = q at hh3 ⊢
      clear e0 e1 e2
      obtain hcase : kd = 1 ∨ kd = 2 ∨ kd = 3 ∨ (kd ≠ 1 ∧ kd ≠ 2 ∧ kd ≠ 3) := by omega
      rcases hcase with rfl | rfl | rfl | ⟨n1, n2, n3⟩
      · rcases Nat.lt_or_ge m r with hroom | hroom
        · as_aux_lemma =>
          have HP := put_in w3 p c r ks zs x ho3.inv.1 (by rw [HM.out]; exact hroom)
          obtain ⟨_, g1, _⟩ := hh3.get
          go_wp2_with fail
          refine HP.mono ?_
          rintro e w4 ⟨rfl, l4, k4⟩
          have o4 := ho3.turn (fun y hy => by
            rcases List.mem_append.1 hy with h5 | h5
            · exact Or.inl h5
            · simp only [List.mem_singleton] at h5
              exact Or.inr (by omega)) l4 k4
          obtain ⟨_, g4, _⟩ := (hh3.past ho3.inv.1 k4).get
          clear HP l4 k4 ho3 hh3 g1 HRD HL
          generalize ks ++ [w3.heap.size] = ks4 at o4
          obtain ⟨v5, w5, hrun, q1, q2, q3, a5, c5, rfl⟩ := app_one Try.underlying22 info rfl (by decide) w4 _ _ o4.own (.int .i64 x) rfl (by rw [List.length_map, HM.out]; omega)
          have o5 := o4.app (us' := zs ++ [x]) (by simpa using q1) q2 q3
          rw [List.length_map, HM.out] at o5
          rw [List.length_map, HM.out] at hrun
          obtain ⟨m5, hm5⟩ : ∃ m5, m5 = m + 1 := ⟨_, rfl⟩
          rw [← hm5] at o5 hrun
          have HM5 : Hid ((zs ++ [x]).length = m5) := by
            show _ = _
            rw [List.length_append, HM.out, hm5]
            rfl
          have hmr5 : m5 ≤ r := by omega
          clear q1 q2 q3 o4 hm5
          have HT := len_any _ _ _ _ _ _ o5.inv.1
          have HR := room_any _ _ _ _ _ _ o5.inv.1 (by omega)
          rw [HM5.out] at HT HR
          go_wp2_with (at_builtin; refine Lib.wpList_append_run _ rfl _ _ _ _ rfl _ _ rfl rfl _ _ (hrun _) ?_)
          refine HT.mono ?_
          rintro e wt ⟨rfl, rfl⟩
          clear HT
          go_wp2_with fail
          refine HR.mono ?_
          rintro e wu ⟨rfl, _, ku⟩
          have hou := o5.kept ku
          clear HR ku o5
          go_wp2
          go_roundw
          case rel => exact ⟨k + 1, ks4, zs ++ [x], by omega, by omega, by go_num, hou⟩
          case measure => simp [intOf]; omega
        · as_aux_lemma =>
          have HP := put_out w3 p c r ks zs x ho3.inv.1 (by rw [HM.out]; exact hroom)
          obtain ⟨_, g1, _⟩ := hh3.get
          go_wp2_with fail
          refine HP.mono ?_
          rintro e w4 ⟨rfl, l4, k4⟩
          have o4 := ho3.kept k4
          clear HP l4 k4 ho3 hh3 g1 HRD HL
          have HT := len_any _ _ _ _ _ _ o4.inv.1
          have HR := room_any _ _ _ _ _ _ o4.inv.1 (by omega)
          rw [HM.out] at HT HR
          go_wp2_with fail
          refine HT.mono ?_
          rintro e wt ⟨rfl, rfl⟩
          clear HT
          go_wp2_with fail
          refine HR.mono ?_
          rintro e wu ⟨rfl, _, ku⟩
          have hou := o4.kept ku
          clear HR ku o4
          go_wp2
          go_roundw
          case rel => exact ⟨k + 1, ks, zs, by omega, by omega, by go_num, hou⟩
          case measure => simp [intOf]; omega
      · rcases zs with _ | ⟨y, zs⟩
        · as_aux_lemma =>
          obtain rfl : m = 0 := HM.out.symm
          have hks : ks = [] := List.eq_nil_of_length_eq_zero (by have := ho3.inv.1.size; simpa using this)
          subst hks
          have HP := take_out w3 p c r ho3.inv.1
          obtain ⟨_, g1, _⟩ := hh3.get
          go_wp2_with fail
          refine HP.mono ?_
          rintro e w4 ⟨rfl, rfl⟩
          clear HP hh3 g1 HRD HL
          have HT := len_any _ _ _ _ _ _ ho3.inv.1
          have HR := room_any _ _ _ _ _ _ ho3.inv.1 (by omega)
          rw [HM.out] at HT HR
          go_wp2_with fail
          refine HT.mono ?_
          rintro e wt ⟨rfl, rfl⟩
          clear HT
          go_wp2_with fail
          refine HR.mono ?_
          rintro e wu ⟨rfl, _, ku⟩
          have hou := ho3.kept ku
          clear HR ku ho3
          go_wp2
          go_roundw
          case rel => exact ⟨k + 1, [], [], by omega, by omega, by go_num, hou⟩
          case measure => simp [intOf]; omega
        · by_cases hci : ci = 1
          · as_aux_lemma =>
              subst hci
              obtain ⟨k0, ks4, rfl⟩ : ∃ k0 ks4, ks = k0 :: ks4 := by
                rcases ks with _ | ⟨k0, ks4⟩
                · have := ho3.inv.1.size
                  simp at this
                · exact ⟨k0, ks4, rfl⟩
              have HP := take_in w3 p c r k0 ks4 y zs ho3.inv.1
              obtain ⟨hm1, hmc, g, o, rfl, -, -⟩ := ho3.first
              obtain rfl : m = 1 := by omega
              have HM4 : Hid (zs.length = 0) := by
                show _ = _
                omega
              clear hm1
              go_wp2_with fail
              refine HP.mono ?_
              rintro e w4 ⟨rfl, l4, k4⟩
              have o4 := ho3.turn (fun y hy => Or.inl (by simp [hy])) l4 k4
              obtain ⟨-, -, g', o', he, hc4, o5⟩ := o4.first
              simp only [Option.some.injEq, Addr.mk.injEq] at he
              obtain ⟨rfl, rfl, -⟩ := he
              rw [if_pos rfl] at o5
              clear HP l4 k4 ho3 hh3 HRD HL o4 HM
              have HT := len_any _ _ _ _ _ _ o5.inv.1
              have HR := room_any _ _ _ _ _ _ o5.inv.1 (by omega)
              rw [HM4.out] at HT HR
              go_wp2_with fail
              refine HT.mono ?_
              rintro e wt ⟨rfl, rfl⟩
              clear HT
              go_wp2_with fail
              refine HR.mono ?_
              rintro e wu ⟨rfl, _, ku⟩
              have hou := o5.kept ku
              clear HR ku o5
              go_wp2
              go_roundw
              case rel => exact ⟨k + 1, ks4, zs, by omega, by omega, by go_num, hou⟩
              case measure => simp [intOf]; omega
          · as_aux_lemma =>
              obtain ⟨k0, ks4, rfl⟩ : ∃ k0 ks4, ks = k0 :: ks4 := by
                rcases ks with _ | ⟨k0, ks4⟩
                · have := ho3.inv.1.size
                  simp at this
                · exact ⟨k0, ks4, rfl⟩
              have HP := take_in w3 p c r k0 ks4 y zs ho3.inv.1
              obtain ⟨hm1, hmc, g, o, rfl, -, -⟩ := ho3.first
              obtain ⟨m4, rfl⟩ : ∃ m4, m = m4 + 1 := ⟨_, hm1⟩
              have HM4 : Hid (zs.length = m4) := by
                show _ = _
                omega
              clear hm1
              go_wp2_with fail
              refine HP.mono ?_
              rintro e w4 ⟨rfl, l4, k4⟩
              have o4 := ho3.turn (fun y hy => Or.inl (by simp [hy])) l4 k4
              obtain ⟨-, -, g', o', he, hc4, o5⟩ := o4.first
              simp only [Option.some.injEq, Addr.mk.injEq] at he
              obtain ⟨rfl, rfl, -⟩ := he
              rw [if_neg hci, HM4.out] at o5
              clear HP l4 k4 ho3 hh3 HRD HL o4 HM
              have HT := len_any _ _ _ _ _ _ o5.inv.1
              have HR := room_any _ _ _ _ _ _ o5.inv.1 (by omega)
              rw [HM4.out] at HT HR
              go_wp2_with fail
              refine HT.mono ?_
              rintro e wt ⟨rfl, rfl⟩
              clear HT
              go_wp2_with fail
              refine HR.mono ?_
              rintro e wu ⟨rfl, _, ku⟩
              have hou := o5.kept ku
              clear HR ku o5
              go_wp2
              go_roundw
              case rel => exact ⟨k + 1, ks4, zs, by omega, by omega, by go_num, hou⟩
              case measure => simp [intOf]; omega
      · rcases Nat.lt_or_ge l (r - m) with hfl | hfl
        · as_aux_lemma =>
            have HF := fill_any w3 p c r ks zs ho3.inv.1 lo lc ys HRD.out (by rw [HL.out]; omega)

            have hmin : min (r - m) l = l := by omega
            rw [HM.out, HL.out, hmin] at HF
            clear hmin

            obtain ⟨_, _, g3⟩ := hh3.get
            go_wp2_with fail
            refine HF.mono ?_
            rintro e w4 ⟨rfl, k4, ks4, l4, hks4⟩
            have o4 := ho3.turn (fun y hy => by
              rcases List.mem_append.1 hy with h5 | h5
              · exact Or.inl h5
              · exact Or.inr (hks4 y h5)) l4 k4
            have hrd4 := HRD.out.past ho3.inv.1 k4
            have hh4 := hh3.past ho3.inv.1 k4
            clear HF hks4 l4 k4 ho3 hh3 HRD g3
            generalize ks ++ ks4 = ks5 at o4
            obtain ⟨f, hf⟩ : ∃ f, f = l := ⟨_, rfl⟩
            rw [show List.take l ys = List.take f ys by rw [hf]] at o4
            have hfll : f ≤ l := by omega
            have hflc : f ≤ lc := by omega
            have hf40 : f ≤ 40 := by omega
            have hmf : m + f ≤ r := by omega
            have HC : Hid (∀ w', Kp [] w4 w' → w'.cell? ⟨q, 2, none⟩ = some (.slice lo l lc)) := fun w' kk => (hh4.kept kk).get.2.2
            have HS1 : Hid (∀ w', Kp [] w4 w' → Src Try.prog 1 22 (.slice ai m ci) m (zs.map (Value.int .i64)) w') := fun w' kk => (o4.kept kk).own.rd.src Try.underlying22 (one zs)
            have HS3 : Hid (∀ w', Kp [] w4 w' → Src Try.prog 1 22 (.slice lo f lc) f ((ys.take f).map (Value.int .i64)) w') := fun w' kk => by
              have h5 := rd_cut (hrd4.kept kk) f (by rw [List.length_map, HL.out]; exact hfll)
              rw [← List.map_take] at h5
              exact h5.src Try.underlying22 (one _)
            have HW : Hid (∀ w5 v5, Own w5 3 v5 (([] : List Value) ++ zs.map (Value.int .i64) ++ (ys.take f).map (Value.int .i64)) → Kp [] w4 w5 → (∀ y, y ∈ blk v5 → w4.heap.size ≤ y) → Pl w1 w5 p c r ks5 (zs ++ ys.take f) (zs ++ ys.take f) v5) := fun w5 v5 o5 k5 b5 =>
              o4.other (by simpa using o5) k5 b5
            have HLa : Hid (([] : List Value).length + m ≤ 1000000) := by show _ ≤ _; simp; omega
            have HLc : Hid ((([] : List Value) ++ zs.map (Value.int .i64)).length + f ≤ 1000000) := by show _ ≤ _; rw [List.nil_append, List.length_map, HM.out]; omega
            have HLm : Hid ((([] : List Value) ++ zs.map (Value.int .i64)).length + f = m + f) := by show _ = _; rw [List.nil_append, List.length_map, HM.out]
            have HM5 : Hid ((zs ++ ys.take f).length = m + f) := by
              show _ = _
              rw [List.length_append, HM.out, List.length_take, HL.out, Nat.min_eq_left hfll]
            clear hh4 o4 hrd4 HL
            go_wp2_with fail
            rw [← hf]
            clear hf
            go_region_held3 (fun w' => w'.cell? ⟨q, 2, none⟩ = some (.slice lo l lc) ∧ Kp [] w4 w')
              (first
                | exact ⟨HC.out _ (Kp.refl [] w4).drew, (Kp.refl [] w4).drew⟩
                | (go_split_ands; exact ⟨HC.out _ (Kp.alloc (by assumption) _), Kp.alloc (by assumption) _⟩)
                | exact ⟨HC.out _ S3.out, S3.out⟩
                | exact ⟨HC.out _ S1.out, S1.out⟩)
              (first
                | (refine step_app (by rfl) _ _ _ (by rfl) Try.underlying22 info rfl (by decide) _ _ (by rfl) (by rfl) [] (own_empty (by first | exact heap_new' _ _ _ (by simp) | exact (Below.heap_alloc _ _ _ (by simp)).trans (heap_new' _ _ _ (by simp)))) m (zs.map (Value.int .i64)) (HS1.out _ (by go_split_ands; assumption)) (fun h => by cases h) HLa.out ?_; intro v1 w6 o6 k6 f6 h6; have B1 : Hid (∀ y, y ∈ blk v1 → w4.heap.size ≤ y) := (fun y hy => by have h5 := f6 y hy; simp [blk] at h5; omega); have S1 : Hid (Kp [] w4 w6) := (by go_split_ands; exact Kp.trans (by assumption) k6 (fun y hy => Or.inr (by simp [blk] at hy; omega))))
                | (refine step_app (by rfl) _ _ _ (by rfl) Try.underlying22 info rfl (by decide) _ _ (by rfl) (by rfl) (([] : List Value) ++ zs.map (Value.int .i64)) (by exact o6) f ((ys.take f).map (Value.int .i64)) (HS3.out _ S1.out) (fun h => by obtain ⟨a5, c5, h5⟩ := h6; rw [h5] at h; cases h) HLc.out ?_; intro v3 w7 o7 k7 f7 h7; have B3 : Hid (∀ y, y ∈ blk v3 → w4.heap.size ≤ y) := (fun y hy => by rcases f7 y hy with h5 | h5 <;> first | exact B1.out y h5 | (have h8 := S1.out.size; omega)); have S3 : Hid (Kp [] w4 w7) := (S1.out.trans k7 (fun y hy => Or.inr (B1.out y hy)))))
            obtain ⟨m5, hm5⟩ : ∃ m5, m5 = m + f := ⟨_, rfl⟩
            rw [← hm5] at HM5
            obtain ⟨a8, c8, h8⟩ := h7
            rw [HLm.out, ← hm5] at h8
            subst h8
            have o8 := HW.out _ _ o7 S3.out B3.out
            have hm5r : m5 ≤ r := by omega
            clear k6 f6 o6 h6 B1 S1 k7 f7 o7 B3 S3 HC HS1 HS3 HW HLa HLc HLm hm5
            have HT := len_any _ _ _ _ _ _ o8.inv.1
            have HR := room_any _ _ _ _ _ _ o8.inv.1 (by omega)
            rw [HM5.out] at HT HR
            go_wp2_with fail
            refine HT.mono ?_
            rintro e wt ⟨rfl, rfl⟩
            clear HT
            go_wp2_with fail
            refine HR.mono ?_
            rintro e wu ⟨rfl, _, ku⟩
            have hou := o8.kept ku
            clear HR ku o8
            go_wp2
            go_roundw
            case rel => exact ⟨k + 1, ks5, zs ++ ys.take f, by omega, by omega, by go_num, hou⟩
            case measure => simp [intOf]; omega
        · as_aux_lemma =>
            have HF := fill_any w3 p c r ks zs ho3.inv.1 lo lc ys HRD.out (by rw [HL.out]; omega)

            have hmin : min (r - m) l = r - m := by omega
            rw [HM.out, HL.out, hmin, show (((r - m : Nat)) : Int) = (r : Int) - (m : Int) by omega] at HF
            clear hmin

            obtain ⟨_, _, g3⟩ := hh3.get
            go_wp2_with fail
            refine HF.mono ?_
            rintro e w4 ⟨rfl, k4, ks4, l4, hks4⟩
            have o4 := ho3.turn (fun y hy => by
              rcases List.mem_append.1 hy with h5 | h5
              · exact Or.inl h5
              · exact Or.inr (hks4 y h5)) l4 k4
            have hrd4 := HRD.out.past ho3.inv.1 k4
            have hh4 := hh3.past ho3.inv.1 k4
            clear HF hks4 l4 k4 ho3 hh3 HRD g3
            generalize ks ++ ks4 = ks5 at o4
            obtain ⟨f, hf⟩ : ∃ f, f = r - m := ⟨_, rfl⟩
            rw [← hf] at o4
            have hfll : f ≤ l := by omega
            have hflc : f ≤ lc := by omega
            have hf40 : f ≤ 40 := by omega
            have hmf : m + f ≤ r := by omega
            have HC : Hid (∀ w', Kp [] w4 w' → w'.cell? ⟨q, 2, none⟩ = some (.slice lo l lc)) := fun w' kk => (hh4.kept kk).get.2.2
            have HS1 : Hid (∀ w', Kp [] w4 w' → Src Try.prog 1 22 (.slice ai m ci) m (zs.map (Value.int .i64)) w') := fun w' kk => (o4.kept kk).own.rd.src Try.underlying22 (one zs)
            have HS3 : Hid (∀ w', Kp [] w4 w' → Src Try.prog 1 22 (.slice lo f lc) f ((ys.take f).map (Value.int .i64)) w') := fun w' kk => by
              have h5 := rd_cut (hrd4.kept kk) f (by rw [List.length_map, HL.out]; exact hfll)
              rw [← List.map_take] at h5
              exact h5.src Try.underlying22 (one _)
            have HW : Hid (∀ w5 v5, Own w5 3 v5 (([] : List Value) ++ zs.map (Value.int .i64) ++ (ys.take f).map (Value.int .i64)) → Kp [] w4 w5 → (∀ y, y ∈ blk v5 → w4.heap.size ≤ y) → Pl w1 w5 p c r ks5 (zs ++ ys.take f) (zs ++ ys.take f) v5) := fun w5 v5 o5 k5 b5 =>
              o4.other (by simpa using o5) k5 b5
            have HLa : Hid (([] : List Value).length + m ≤ 1000000) := by show _ ≤ _; simp; omega
            have HLc : Hid ((([] : List Value) ++ zs.map (Value.int .i64)).length + f ≤ 1000000) := by show _ ≤ _; rw [List.nil_append, List.length_map, HM.out]; omega
            have HLm : Hid ((([] : List Value) ++ zs.map (Value.int .i64)).length + f = m + f) := by show _ = _; rw [List.nil_append, List.length_map, HM.out]
            have HM5 : Hid ((zs ++ ys.take f).length = m + f) := by
              show _ = _
              rw [List.length_append, HM.out, List.length_take, HL.out, Nat.min_eq_left hfll]
            clear hh4 o4 hrd4 HL
            go_wp2_with fail
            rw [show (r : Int) - (m : Int) = (f : Int) by omega]
            clear hf
            go_region_held3 (fun w' => w'.cell? ⟨q, 2, none⟩ = some (.slice lo l lc) ∧ Kp [] w4 w')
              (first
                | exact ⟨HC.out _ (Kp.refl [] w4).drew, (Kp.refl [] w4).drew⟩
                | (go_split_ands; exact ⟨HC.out _ (Kp.alloc (by assumption) _), Kp.alloc (by assumption) _⟩)
                | exact ⟨HC.out _ S3.out, S3.out⟩
                | exact ⟨HC.out _ S1.out, S1.out⟩)
              (first
                | (refine step_app (by rfl) _ _ _ (by rfl) Try.underlying22 info rfl (by decide) _ _ (by rfl) (by rfl) [] (own_empty (by first | exact heap_new' _ _ _ (by simp) | exact (Below.heap_alloc _ _ _ (by simp)).trans (heap_new' _ _ _ (by simp)))) m (zs.map (Value.int .i64)) (HS1.out _ (by go_split_ands; assumption)) (fun h => by cases h) HLa.out ?_; intro v1 w6 o6 k6 f6 h6; have B1 : Hid (∀ y, y ∈ blk v1 → w4.heap.size ≤ y) := (fun y hy => by have h5 := f6 y hy; simp [blk] at h5; omega); have S1 : Hid (Kp [] w4 w6) := (by go_split_ands; exact Kp.trans (by assumption) k6 (fun y hy => Or.inr (by simp [blk] at hy; omega))))
                | (refine step_app (by rfl) _ _ _ (by rfl) Try.underlying22 info rfl (by decide) _ _ (by rfl) (by rfl) (([] : List Value) ++ zs.map (Value.int .i64)) (by exact o6) f ((ys.take f).map (Value.int .i64)) (HS3.out _ S1.out) (fun h => by obtain ⟨a5, c5, h5⟩ := h6; rw [h5] at h; cases h) HLc.out ?_; intro v3 w7 o7 k7 f7 h7; have B3 : Hid (∀ y, y ∈ blk v3 → w4.heap.size ≤ y) := (fun y hy => by rcases f7 y hy with h5 | h5 <;> first | exact B1.out y h5 | (have h8 := S1.out.size; omega)); have S3 : Hid (Kp [] w4 w7) := (S1.out.trans k7 (fun y hy => Or.inr (B1.out y hy)))))
            obtain ⟨m5, hm5⟩ : ∃ m5, m5 = m + f := ⟨_, rfl⟩
            rw [← hm5] at HM5
            obtain ⟨a8, c8, h8⟩ := h7
            rw [HLm.out, ← hm5] at h8
            subst h8
            have o8 := HW.out _ _ o7 S3.out B3.out
            have hm5r : m5 ≤ r := by omega
            clear k6 f6 o6 h6 B1 S1 k7 f7 o7 B3 S3 HC HS1 HS3 HW HLa HLc HLm hm5
            have HT := len_any _ _ _ _ _ _ o8.inv.1
            have HR := room_any _ _ _ _ _ _ o8.inv.1 (by omega)
            rw [HM5.out] at HT HR
            go_wp2_with fail
            refine HT.mono ?_
            rintro e wt ⟨rfl, rfl⟩
            clear HT
            go_wp2_with fail
            refine HR.mono ?_
            rintro e wu ⟨rfl, _, ku⟩
            have hou := o8.kept ku
            clear HR ku o8
            go_wp2
            go_roundw
            case rel => exact ⟨k + 1, ks5, zs ++ ys.take f, by omega, by omega, by go_num, hou⟩
            case measure => simp [intOf]; omega
      · as_aux_lemma =>
          have HD := drain_any w3 p c r ks zs ho3.inv.1 (by omega)
          rw [HM.out] at HD
          go_wp2_with fail
          refine HD.mono ?_
          rintro e w4 ⟨a, cp, rfl, q4, l4, k4, _⟩
          have o4 := ho3.turn (by simp) l4 k4
          have HS := same_eq w4 _ _ _ q4.rd o4.own.rd (by rw [HM.out]; omega)
          clear HD q4 l4 k4 ho3 hh3 HRD HL
          go_wp2_with fail
          refine HS.mono ?_
          rintro e w5 ⟨rfl, t, rfl⟩
          have o5 := (o4.kept ((Kp.refl [] _).drewN t)).none
          generalize w4.drewN t = w5 at o5 ⊢
          clear HS o4
          have HM5 : Hid (([] : List Int).length = 0) := rfl
          have HT := len_any _ _ _ _ _ _ o5.inv.1
          have HR := room_any _ _ _ _ _ _ o5.inv.1 (by omega)
          rw [HM5.out] at HT HR
          go_wp2_with fail
          refine HT.mono ?_
          rintro e wt ⟨rfl, rfl⟩
          clear HT
          go_wp2_with fail
          refine HR.mono ?_
          rintro e wu ⟨rfl, _, ku⟩
          have hou := o5.kept ku
          clear HR ku o5
          go_wp2
          go_roundw
          case rel => exact ⟨k + 1, [], [], by omega, by omega, by go_num, hou⟩
          case measure => simp [intOf]; omega
    · have hend : len ≤ k ∨ (k < len ∧ 60 ≤ k) := by omega
      have hkp := ho.inv.2.1
      clear hlt ho hm HA
      rcases hend with hend | hend
      all_goals
        go_wp2_with fail
        refine (known_any _).mono ?_
        rintro e w6 ⟨rfl, k6⟩
        have hkk := hkp.trans k6 (fun x hx => by simp at hx)
        clear hkp k6
        go_wp2
        go_ret
        exact ⟨rfl, hkk⟩

end Go.Proofs.Ytigpbkgcfnmdiaa
