/-
  TokenTexts: what a token is told as begins with its Kind's sign; unlike names are told unlike; a token held against itself is the same.
-/
import Derived.Test.YtgeebmlincddkaaFews
import Derived.Test.YtgeebmlincddkaaAgree
import Derived.Test.YtgeebmlincddkaaSigns
namespace Go.Proofs.Ytgeebmlincddkaa
open Go.RowKit

set_option maxRecDepth 100000 in
set_option maxHeartbeats 4000000 in
theorem texts_any (w : World) (p r : Q) (hp : At w p) (hr : At w r) (bp : p.2.2.1 ≤ 140737488355328) (br : r.2.2.1 ≤ 140737488355328) :
    Calls Try.prog 6 #[qv p, qv r] w fun e w' => e = .returned (.bool true) ∧ Kp [] w w' := by
  obtain ⟨⟨k, x, l, b, y⟩, ao, n, c⟩ := p
  obtain ⟨⟨k', x', l', b', y'⟩, bo, m, d⟩ := r
  have hp' : Rp w ao n c l := hp
  have hr' : Rp w bo m d l' := hr
  simp only at bp br
  obtain ⟨W, hW⟩ : ∃ W, W = (w.alloc (.cells #[.int .i64 k, .string x, .slice ao n c, .bool b, .string y] 24)).alloc (.cells #[.int .i64 k', .string x', .slice bo m d, .bool b', .string y'] 24) := ⟨_, rfl⟩
  have k0 : Kp [] w W := by rw [hW]; exact ((Kp.refl _ _).alloc _).alloc _
  have hs : w.heap.size + 1 < W.heap.size := by rw [hW]; simp
  have C0 : Hid (∀ V, Kp [] W V → V.heap[w.heap.size]? = some (.cells #[.int .i64 k, .string x, .slice ao n c, .bool b, .string y] 24) ∧ V.heap[w.heap.size + 1]? = some (.cells #[.int .i64 k', .string x', .slice bo m d, .bool b', .string y'] 24)) := fun V kV => by
    rw [hW] at kV
    exact boxes w ((k, x, l, b, y), ao, n, c) ((k', x', l', b', y'), bo, m, d) V kV
  have F1 := fun V (kV : Kp [] W V) => few_any V k x y l b ao n c ((hp'.kept k0).kept kV) bp
  have F2 := fun V (kV : Kp [] W V) => few_any V k' x' y' l' b' bo m d ((hr'.kept k0).kept kV) br
  have TW : Hid (∀ v1 v2 Z a1 n1 c1 a2 n2 c2, Mp W v1 a1 n1 c1 (short l) → Mp v1 v2 a2 n2 c2 (short l') → Z.heap[w.heap.size]? = some (.cells #[.int .i64 k, .string (cutB x 20), .slice a1 n1 c1, .bool b, .string (cutB y 60)] 24) → Z.heap[w.heap.size + 1]? = some (.cells #[.int .i64 k', .string (cutB x' 20), .slice a2 n2 c2, .bool b', .string (cutB y' 60)] 24) → Kp [w.heap.size, w.heap.size + 1] v2 Z → Twos w Z (k, x, l, b, y) (k', x', l', b', y')) := fun v1 v2 Z a1 n1 c1 a2 n2 c2 M1 M2 z0 z1 kz => twos (t := (k, x, l, b, y)) (u := (k', x', l', b', y')) k0 hs M1 M2 z0 z1 kz
  clear hp hr hp' hr' bp br
  unfold tv at F1 F2
  simp only [qv, tv]
  go_enter Try.func6, Try.ntmps6
  go_upto_region 1 with fail
  rw [← hW]
  go_cut [] from 10 to 13 (fun wx => Twos w wx (k, x, l, b, y) (k', x', l', b', y'))
  case first =>
    obtain ⟨q0, q1⟩ := C0.out W (Kp.refl _ _)
    obtain ⟨c0, c1, c2, c3, c4⟩ := box_of q0
    obtain ⟨d0, d1, d2, d3, d4⟩ := box_of q1
    clear q0 q1 hW
    go_region_with (first
      | (go_at_call 10; have D2 := S1.out; refine (F2 _ S1.out).mono ?_; rintro e v2 ⟨a2, n2, c2', rfl, M2⟩; have S2 : Hid (Kp [] W v2) := S1.out.trans M2.kp (fun z hz => by simp at hz); have N2 : Hid (Mp v1 v2 a2 n2 c2' (short l')) := M2; clear M2; have z0 := (C0.out _ S2.out).1; have z1 := (C0.out _ S2.out).2; obtain ⟨g0, g1, g2, g3, g4⟩ := box_of z0; obtain ⟨h0, h1, h2, h3, h4⟩ := box_of z1; have i0 := frozen_of z0 0; have i1 := frozen_of z0 1; have i2 := frozen_of z0 2; have i3 := frozen_of z0 3; have i4 := frozen_of z0 4; have j0 := frozen_of z1 0; have j1 := frozen_of z1 1; have j2 := frozen_of z1 2; have j3 := frozen_of z1 3; have j4 := frozen_of z1 4; clear z0 z1)
      | (go_at_call 10; refine (F1 _ (Kp.refl [] W).drew).mono ?_; rintro e v1 ⟨a1, n1, c1', rfl, M1⟩; have N1 : Hid (Mp W v1 a1 n1 c1' (short l)) := Mp.back (Kp.refl [] W).drew M1; have S1 : Hid (Kp [] W v1) := N1.out.kp; clear M1; have z1 := (C0.out _ S1.out).2; obtain ⟨e0, e1, e2, e3, e4⟩ := box_of z1; clear z1))
    all_goals
      have z0 := (C0.out _ S2.out).1
      have z1 := (C0.out _ S2.out).2
      have P0 := put5_block z0 (.int .i64 k) (.string (cutB x 20)) (.slice a1 n1 c1') (.bool b) (.string (cutB y 60))
      have P1 := put5_other (w := v2) (g := w.heap.size) (k := w.heap.size + 1) (by omega) (.int .i64 k) (.string (cutB x 20)) (.slice a1 n1 c1') (.bool b) (.string (cutB y 60)) (lt_of z1)
      rw [z1] at P1
      have R1 := put5_block P1 (.int .i64 k') (.string (cutB x' 20)) (.slice a2 n2 c2') (.bool b') (.string (cutB y' 60))
      have R0 := put5_other (w := put5 v2 w.heap.size (.int .i64 k) (.string (cutB x 20)) (.slice a1 n1 c1') (.bool b) (.string (cutB y 60))) (g := w.heap.size + 1) (k := w.heap.size) (by omega) (.int .i64 k') (.string (cutB x' 20)) (.slice a2 n2 c2') (.bool b') (.string (cutB y' 60)) (lt_of P0)
      rw [P0] at R0
      have KZ : Kp [w.heap.size, w.heap.size + 1] v2 (put5 (put5 v2 w.heap.size (.int .i64 k) (.string (cutB x 20)) (.slice a1 n1 c1') (.bool b) (.string (cutB y 60))) (w.heap.size + 1) (.int .i64 k') (.string (cutB x' 20)) (.slice a2 n2 c2') (.bool b') (.string (cutB y' 60))) := ((Kp.refl _ _).put5 (Or.inl (by simp)) _ _ _ _ _).put5 (Or.inl (by simp)) _ _ _ _ _
      have TZ : Hid _ := TW.out v1 v2 _ _ _ _ _ _ _ N1.out N2.out R0 R1 KZ
      clear KZ R0 R1 P0 P1 z0 z1 C0 F1 F2 TW N1 N2 S1 S2
      go_wp2_with fail
      go_meet
      case rel => exact TZ.out
  case rest =>
    obtain ⟨p, r, hp, hr, Bp, Br, Ap, Aq, kc⟩ := hcut
    have bp := few_brief (k, x, l, b, y)
    have np := few_name (k, x, l, b, y)
    have tp := few_text (k, x, l, b, y)
    have bq := few_brief (k', x', l', b', y')
    have nq' := few_name (k', x', l', b', y')
    have tq := few_text (k', x', l', b', y')
    rw [← hp] at bp np tp
    rw [← hr] at bq nq' tq
    clear hp hr C0 F1 F2 TW hW
    obtain ⟨⟨tk, tx', tl, tb, ty⟩, ta, tn, tc⟩ := p
    obtain ⟨⟨uk, ux, ul, ub, uy⟩, ua, un, uc⟩ := r
    simp only at bp np tp bq nq' tq
    have hAp : Rp wc ta tn tc tl := Ap.rp
    have hAq : Rp wc ua un uc ul := Aq.rp
    clear Ap Aq
    obtain ⟨w1, hw1⟩ : ∃ w1, w1 = wc.alloc (.cells #[.string ⟨#[33]⟩, .string ⟨#[60]⟩, .string ⟨#[47]⟩, .string ⟨#[34]⟩, .string ⟨#[45]⟩, .string ⟨#[46]⟩] 9) := ⟨_, rfl⟩
    have k1 : Kp [] wc w1 := by rw [hw1]; exact (Kp.refl _ _).alloc _
    obtain ⟨w2, hw2⟩ : ∃ w2, w2 = w1.alloc (.cells #[.int .i64 tk, .string tx', .slice ta tn tc, .bool tb, .string ty, .int .i64 uk, .string ux, .slice ua un uc, .bool ub, .string uy] 24) := ⟨_, rfl⟩
    have k2 : Kp [] w1 w2 := by rw [hw2]; exact (Kp.refl _ _).alloc _
    have kz := k1.trans k2 (fun z hz => by simp at hz)
    have CP : Hid (∀ V, Kp [] w2 V → Box V w.heap.size tk tx' (.slice ta tn tc) tb ty) := fun V kV => (Bp.kept kz).kept kV
    have CR : Hid (∀ V, Kp [] w2 V → Box V (w.heap.size + 1) uk ux (.slice ua un uc) ub uy) := fun V kV => (Br.kept kz).kept kV
    obtain ⟨c0, c1, c2, c3, c4⟩ := Bp.kept k1
    obtain ⟨d0, d1, d2, d3, d4⟩ := Br.kept k1
    simp only at c0 c1 c2 c3 c4 d0 d1 d2 d3 d4
    have s1 : w1.heap.size = wc.heap.size + 1 := by rw [hw1]; simp
    have RL : Hid (∀ V, Kp [] w2 V → Rq V (some ⟨wc.heap.size + 1, 0, none⟩) 2 2 [((tk, tx', tl, tb, ty), ta, tn, tc), ((uk, ux, ul, ub, uy), ua, un, uc)]) := fun V kV => by
      refine Rq.kept ⟨rfl, Nat.le_refl _, fun j hj => ⟨_, _, rfl, ?_⟩⟩ kV
      have : w2.heap[wc.heap.size + 1]? = some (.cells #[.int .i64 tk, .string tx', .slice ta tn tc, .bool tb, .string ty, .int .i64 uk, .string ux, .slice ua un uc, .bool ub, .string uy] 24) := by rw [hw2]; exact heap_new' _ _ _ s1.symm
      rw [cell_of this, Nat.zero_add, ← List.getElem?_toArray]
      rfl
    have SL : Hid (∀ V, Kp [] w2 V → V.heap[wc.heap.size]? = some (.cells #[.string ⟨#[33]⟩, .string ⟨#[60]⟩, .string ⟨#[47]⟩, .string ⟨#[34]⟩, .string ⟨#[45]⟩, .string ⟨#[46]⟩] 9)) := fun V kV => by
      rw [kV.block _ (by have := k2.size; omega) (by simp), k2.block _ (by omega) (by simp), hw1]
      exact heap_new wc _
    rw [hw1] at c0 c1 c2 c3 c4 d0 d1 d2 d3 d4
    go_wp2
    rw [← hw1, ← hw2]
    have HQ : Hid (∀ p', p' ∈ [((tk, tx', tl, tb, ty), ta, tn, tc), ((uk, ux, ul, ub, uy), ua, un, uc)] → At w2 p' ∧ brief p'.1.2.2.1 ∧ p'.1.2.1.size ≤ 20 ∧ p'.1.2.2.2.2.size ≤ 60) := fun p' hp' => by
      simp only [List.mem_cons, List.not_mem_nil, or_false] at hp'
      rcases hp' with rfl | rfl
      · exact ⟨hAp.kept kz, bp, np, tp⟩
      · exact ⟨hAq.kept kz, bq, nq', tq⟩
    clear c0 c1 c2 c3 c4 d0 d1 d2 d3 d4 hw1 hw2
    go_loopw [19] (fun i wr => ∃ j : Nat, j ≤ 2 ∧ i = .int .i64 j ∧ Kp [] w2 wr) (fun i _ => 2 - (intOf i).toNat)
    case atStart => exact ⟨0, by omega, rfl, Kp.refl _ _⟩
    case round =>
      obtain ⟨j, hj, rfl, kp⟩ := hrel
      by_cases hlt : j < 2
      · obtain ⟨b1, o1, e, g0, g1, g2, g3, g4⟩ := (RL.out wr kp).get j hlt
        simp only [Option.some.injEq, Addr.mk.injEq, and_true] at e
        obtain ⟨rfl, rfl⟩ := e
        obtain ⟨q1, q2, q3, q4⟩ := HQ.out _ (List.getElem_mem (l := [((tk, tx', tl, tb, ty), ta, tn, tc), ((uk, ux, ul, ub, uy), ua, un, uc)]) (n := j) hlt)
        generalize [((tk, tx', tl, tb, ty), ta, tn, tc), ((uk, ux, ul, ub, uy), ua, un, uc)][j] = p' at g0 g1 g2 g3 g4 q1 q2 q3 q4
        obtain ⟨⟨pk, px, pl, pb, py⟩, pa, pn, pc⟩ := p'
        simp only [Nat.zero_add] at g0 g1 g2 g3 g4 q2 q3 q4
        have qr : Rp wr pa pn pc pl := Rp.kept q1 kp
        have qn : pn ≤ 1000 := by have h1 := qr.len; have h2 := q2.1; omega
        have ka : Kp [] wr (wr.alloc (.cells #[.int .i64 pk, .string px, .slice pa pn pc, .bool pb, .string py] 24)) := (Kp.refl _ _).alloc _
        have HT := text_any _ pk px py pl pb pa pn pc (qr.kept ka) q2 (by omega) (by omega)
        have HS : ∀ V, Kp [] (wr.alloc (.cells #[.int .i64 pk, .string px, .slice pa pn pc, .bool pb, .string py] 24)) V → Calls Try.prog 14 #[.agg #[.int .i64 pk, .string px, .slice pa pn pc, .bool pb, .string py], .agg #[.int .i64 pk, .string px, .slice pa pn pc, .bool pb, .string py]] V fun e w' => e = .returned (.bool true) ∧ Kp [] V w' := fun V kV => by
          have := tsame_any V pk pk px px py py pl pl pb pb pa pa pn pc pn pc ((qr.kept ka).kept kV) ((qr.kept ka).kept kV) qn qn
          rw [decide_eq_true rfl] at this
          exact this
        unfold tv at HT
        clear q1 qr ka hj
        by_cases h1 : pk = 1
        · subst h1
          have hst := told1 (1, px, pl, pb, py) rfl
          have hs1 := starts_size hst
          have hs2 := starts_first hst
          have hs3 := starts_ne hst
          clear hst
          generalize told (1, px, pl, pb, py) = T at HT hs1 hs2 hs3
          go_wp2_with fail
          refine HT.mono ?_
          rintro e v3 ⟨rfl, k3⟩
          clear HT
          obtain ⟨x0, x1, x2, x3, x4⟩ := box_one wr 1 px py _ pb v3 k3
          have kq := (kp.alloc _).trans k3 (fun z hz => by simp at hz)
          have HS3 := HS v3 k3
          have sg : v3.cell? ⟨wc.heap.size, 0, none⟩ = some (.string ⟨#[33]⟩) := by rw [cell_of (SL.out v3 kq)]; rfl
          go_wp2_with fail
          refine HS3.mono ?_
          rintro e v4 ⟨rfl, k4⟩
          have ky := kq.trans k4 (fun z hz => by simp at hz)
          clear HS HS3 k3 k4 kq kp
          go_wp2
          go_roundw
          case rel => exact ⟨j + 1, by omega, by go_num, ky⟩
          case measure => simp [intOf]; omega
        by_cases h2 : pk = 2
        · subst h2
          have hst := told2 (2, px, pl, pb, py) rfl
          have hs1 := starts_size hst
          have hs2 := starts_first hst
          have hs3 := starts_ne hst
          clear hst
          generalize told (2, px, pl, pb, py) = T at HT hs1 hs2 hs3
          go_wp2_with fail
          refine HT.mono ?_
          rintro e v3 ⟨rfl, k3⟩
          clear HT
          obtain ⟨x0, x1, x2, x3, x4⟩ := box_one wr 2 px py _ pb v3 k3
          have kq := (kp.alloc _).trans k3 (fun z hz => by simp at hz)
          have HS3 := HS v3 k3
          have sg : v3.cell? ⟨wc.heap.size, 1, none⟩ = some (.string ⟨#[60]⟩) := by rw [cell_of (SL.out v3 kq)]; rfl
          go_wp2_with fail
          refine HS3.mono ?_
          rintro e v4 ⟨rfl, k4⟩
          have ky := kq.trans k4 (fun z hz => by simp at hz)
          clear HS HS3 k3 k4 kq kp
          go_wp2
          go_roundw
          case rel => exact ⟨j + 1, by omega, by go_num, ky⟩
          case measure => simp [intOf]; omega
        by_cases h3 : pk = 3
        · subst h3
          have hst := told3 (3, px, pl, pb, py) rfl
          have hs1 := starts_size hst
          have hs2 := starts_first hst
          have hs3 := starts_ne hst
          clear hst
          generalize told (3, px, pl, pb, py) = T at HT hs1 hs2 hs3
          go_wp2_with fail
          refine HT.mono ?_
          rintro e v3 ⟨rfl, k3⟩
          clear HT
          obtain ⟨x0, x1, x2, x3, x4⟩ := box_one wr 3 px py _ pb v3 k3
          have kq := (kp.alloc _).trans k3 (fun z hz => by simp at hz)
          have HS3 := HS v3 k3
          have sg : v3.cell? ⟨wc.heap.size, 2, none⟩ = some (.string ⟨#[47]⟩) := by rw [cell_of (SL.out v3 kq)]; rfl
          go_wp2_with fail
          refine HS3.mono ?_
          rintro e v4 ⟨rfl, k4⟩
          have ky := kq.trans k4 (fun z hz => by simp at hz)
          clear HS HS3 k3 k4 kq kp
          go_wp2
          go_roundw
          case rel => exact ⟨j + 1, by omega, by go_num, ky⟩
          case measure => simp [intOf]; omega
        by_cases h4 : pk = 4
        · subst h4
          have hst := told4 (4, px, pl, pb, py) rfl
          have hs1 := starts_size hst
          have hs2 := starts_first hst
          have hs3 := starts_ne hst
          clear hst
          generalize told (4, px, pl, pb, py) = T at HT hs1 hs2 hs3
          go_wp2_with fail
          refine HT.mono ?_
          rintro e v3 ⟨rfl, k3⟩
          clear HT
          obtain ⟨x0, x1, x2, x3, x4⟩ := box_one wr 4 px py _ pb v3 k3
          have kq := (kp.alloc _).trans k3 (fun z hz => by simp at hz)
          have HS3 := HS v3 k3
          have sg : v3.cell? ⟨wc.heap.size, 3, none⟩ = some (.string ⟨#[34]⟩) := by rw [cell_of (SL.out v3 kq)]; rfl
          go_wp2_with fail
          refine HS3.mono ?_
          rintro e v4 ⟨rfl, k4⟩
          have ky := kq.trans k4 (fun z hz => by simp at hz)
          clear HS HS3 k3 k4 kq kp
          go_wp2
          go_roundw
          case rel => exact ⟨j + 1, by omega, by go_num, ky⟩
          case measure => simp [intOf]; omega
        by_cases h5 : pk = 5
        · subst h5
          have hst := told5 (5, px, pl, pb, py) rfl
          have hs1 := starts_size hst
          have hs2 := starts_first hst
          have hs3 := starts_ne hst
          clear hst
          generalize told (5, px, pl, pb, py) = T at HT hs1 hs2 hs3
          go_wp2_with fail
          refine HT.mono ?_
          rintro e v3 ⟨rfl, k3⟩
          clear HT
          obtain ⟨x0, x1, x2, x3, x4⟩ := box_one wr 5 px py _ pb v3 k3
          have kq := (kp.alloc _).trans k3 (fun z hz => by simp at hz)
          have HS3 := HS v3 k3
          have sg : v3.cell? ⟨wc.heap.size, 4, none⟩ = some (.string ⟨#[45]⟩) := by rw [cell_of (SL.out v3 kq)]; rfl
          go_wp2_with fail
          refine HS3.mono ?_
          rintro e v4 ⟨rfl, k4⟩
          have ky := kq.trans k4 (fun z hz => by simp at hz)
          clear HS HS3 k3 k4 kq kp
          go_wp2
          go_roundw
          case rel => exact ⟨j + 1, by omega, by go_num, ky⟩
          case measure => simp [intOf]; omega
        by_cases h6 : pk = 6
        · subst h6
          have hst := told6 (6, px, pl, pb, py) rfl
          have hs1 := starts_size hst
          have hs2 := starts_first hst
          have hs3 := starts_ne hst
          clear hst
          generalize told (6, px, pl, pb, py) = T at HT hs1 hs2 hs3
          go_wp2_with fail
          refine HT.mono ?_
          rintro e v3 ⟨rfl, k3⟩
          clear HT
          obtain ⟨x0, x1, x2, x3, x4⟩ := box_one wr 6 px py _ pb v3 k3
          have kq := (kp.alloc _).trans k3 (fun z hz => by simp at hz)
          have HS3 := HS v3 k3
          have sg : v3.cell? ⟨wc.heap.size, 5, none⟩ = some (.string ⟨#[46]⟩) := by rw [cell_of (SL.out v3 kq)]; rfl
          go_wp2_with fail
          refine HS3.mono ?_
          rintro e v4 ⟨rfl, k4⟩
          have ky := kq.trans k4 (fun z hz => by simp at hz)
          clear HS HS3 k3 k4 kq kp
          go_wp2
          go_roundw
          case rel => exact ⟨j + 1, by omega, by go_num, ky⟩
          case measure => simp [intOf]; omega
        rcases (show pk < 1 ∨ 6 < pk by omega) with hlow | hhigh
        · have e1 : decide ((1 : Int) ≤ pk) = false := by simp; omega
          have hst := told0 (pk, px, pl, pb, py) (Or.inl hlow)
          have hs1 := starts_size hst
          have hs2 := starts_first hst
          have hs3 := starts_ne hst
          clear hst
          generalize told (pk, px, pl, pb, py) = T at HT hs1 hs2 hs3
          go_wp2_with fail
          refine HT.mono ?_
          rintro e v3 ⟨rfl, k3⟩
          clear HT
          obtain ⟨x0, x1, x2, x3, x4⟩ := box_one wr pk px py _ pb v3 k3
          have kq := (kp.alloc _).trans k3 (fun z hz => by simp at hz)
          have HS3 := HS v3 k3
          go_wp2_with fail
          refine HS3.mono ?_
          rintro e v4 ⟨rfl, k4⟩
          have ky := kq.trans k4 (fun z hz => by simp at hz)
          clear HS HS3 k3 k4 kq kp
          go_wp2
          go_roundw
          case rel => exact ⟨j + 1, by omega, by go_num, ky⟩
          case measure => simp [intOf]; omega
        · have e1 : decide ((1 : Int) ≤ pk) = true := by simp; omega
          have e2 : decide (pk ≤ 6) = false := by simp; omega
          have e3 : (1 : Int) ≤ pk := by omega
          have e4 : ¬ pk ≤ 6 := by omega
          have hst := told0 (pk, px, pl, pb, py) (Or.inr hhigh)
          have hs1 := starts_size hst
          have hs2 := starts_first hst
          have hs3 := starts_ne hst
          clear hst
          generalize told (pk, px, pl, pb, py) = T at HT hs1 hs2 hs3
          go_wp2_with fail
          refine HT.mono ?_
          rintro e v3 ⟨rfl, k3⟩
          clear HT
          obtain ⟨x0, x1, x2, x3, x4⟩ := box_one wr pk px py _ pb v3 k3
          have kq := (kp.alloc _).trans k3 (fun z hz => by simp at hz)
          have HS3 := HS v3 k3
          go_wp2_with fail
          refine HS3.mono ?_
          rintro e v4 ⟨rfl, k4⟩
          have ky := kq.trans k4 (fun z hz => by simp at hz)
          clear HS HS3 k3 k4 kq kp
          go_wp2
          go_roundw
          case rel => exact ⟨j + 1, by omega, by go_num, ky⟩
          case measure => simp [intOf]; omega
      · obtain rfl : j = 2 := by omega
        have ST : Hid (∀ V, Kp [] w2 V → V.cell? ⟨w.heap.size, 0, none⟩ = some (.int .i64 tk) ∧ V.cell? ⟨w.heap.size, 1, none⟩ = some (.string tx') ∧ V.cell? ⟨w.heap.size, 2, none⟩ = some (.slice ta tn tc) ∧ V.cell? ⟨w.heap.size, 3, none⟩ = some (.bool tb) ∧ V.cell? ⟨w.heap.size, 4, none⟩ = some (.string ty) ∧ V.cell? ⟨w.heap.size + 1, 0, none⟩ = some (.int .i64 uk) ∧ V.cell? ⟨w.heap.size + 1, 1, none⟩ = some (.string ux) ∧ V.cell? ⟨w.heap.size + 1, 2, none⟩ = some (.slice ua un uc) ∧ V.cell? ⟨w.heap.size + 1, 3, none⟩ = some (.bool ub) ∧ V.cell? ⟨w.heap.size + 1, 4, none⟩ = some (.string uy)) := fun V kV => by
          obtain ⟨x0, x1, x2, x3, x4⟩ := CP.out V kV
          obtain ⟨y0, y1, y2, y3, y4⟩ := CR.out V kV
          exact ⟨x0, x1, x2, x3, x4, y0, y1, y2, y3, y4⟩
        have RT : Hid (∀ V, Kp [] w2 V → Rp V ta tn tc tl) := fun V kV => (hAp.kept kz).kept kV
        have RU : Hid (∀ V, Kp [] w2 V → Rp V ua un uc ul) := fun V kV => (hAq.kept kz).kept kV
        have en : tn ≤ 1000 := by have h1 := hAp.len; have h2 := bp.1; omega
        have eu : un ≤ 1000 := by have h1 := hAq.len; have h2 := bq.1; omega
        have HT : Hid (∀ V, Kp [] w2 V → Calls Try.prog 13 #[.agg #[.int .i64 tk, .string tx', .slice ta tn tc, .bool tb, .string ty]] V fun e w' => e = .returned (.string (told (tk, tx', tl, tb, ty))) ∧ Kp [] V w') := fun V kV => text_any V tk tx' ty tl tb ta tn tc (RT.out V kV) bp (by omega) (by omega)
        have HU : Hid (∀ V, Kp [] w2 V → Calls Try.prog 13 #[.agg #[.int .i64 uk, .string ux, .slice ua un uc, .bool ub, .string uy]] V fun e w' => e = .returned (.string (told (uk, ux, ul, ub, uy))) ∧ Kp [] V w') := fun V kV => text_any V uk ux uy ul ub ua un uc (RU.out V kV) bq (by omega) (by omega)
        have HA : Hid (∀ V, Kp [] w2 V → Calls Try.prog 14 #[.agg #[.int .i64 tk, .string tx', .slice ta tn tc, .bool tb, .string ty], .agg #[.int .i64 uk, .string ux, .slice ua un uc, .bool ub, .string uy]] V fun e w' => e = .returned (.bool (decide (((tk, tx', tl, tb, ty) : Tok) = (uk, ux, ul, ub, uy)))) ∧ Kp [] V w') := fun V kV => tsame_any V tk uk tx' ux ty uy tl ul tb ub ta ua tn tc un uc (RT.out V kV) (RU.out V kV) en eu
        have HB : Hid (∀ V, Kp [] w2 V → Calls Try.prog 14 #[.agg #[.int .i64 uk, .string ux, .slice ua un uc, .bool ub, .string uy], .agg #[.int .i64 tk, .string tx', .slice ta tn tc, .bool tb, .string ty]] V fun e w' => e = .returned (.bool (decide (((tk, tx', tl, tb, ty) : Tok) = (uk, ux, ul, ub, uy)))) ∧ Kp [] V w') := fun V kV => by
          have := tsame_any V uk tk ux tx' uy ty ul tl ub tb ua ta un uc tn tc (RU.out V kV) (RT.out V kV) eu en
          have e1 : decide (((uk, ux, ul, ub, uy) : Tok) = (tk, tx', tl, tb, ty)) = decide (((tk, tx', tl, tb, ty) : Tok) = (uk, ux, ul, ub, uy)) := by
            rw [Bool.eq_iff_iff, decide_eq_true_eq, decide_eq_true_eq]
            exact eq_comm
          rw [e1] at this
          exact this
        generalize decide (((tk, tx', tl, tb, ty) : Tok) = (uk, ux, ul, ub, uy)) = D at HA HB
        have HE : Hid (tk = uk → tk = 1 ∨ tk = 3 → ((told (tk, tx', tl, tb, ty)).toList == (told (uk, ux, ul, ub, uy)).toList) = (tx'.toList == ux.toList)) := fun h1 h2 => told_eqs (t := (tk, tx', tl, tb, ty)) (u := (uk, ux, ul, ub, uy)) h1 h2
        generalize told (tk, tx', tl, tb, ty) = T at HT HE
        generalize told (uk, ux, ul, ub, uy) = U at HU HE
        obtain ⟨c0, c1, c2, c3, c4, d0, d1, d2, d3, d4⟩ := ST.out wr kp
        clear CP CR SL RL HQ hAp hAq bp bq np tp nq' tq Bp Br RT RU
        go_upto_region 13 with fail
        go_cut [81] from 54 to 81 (fun v wx => v = .bool false ∧ Kp [] w2 wx)
        case first =>
          by_cases hk : tk = uk
          · subst hk
            by_cases h3 : tk = 3
            · subst h3
              have hE := HE.out rfl (Or.inr rfl)
              cases hN : (tx'.toList == ux.toList) with
              | false =>
                rw [hN] at hE
                refine wp_region_held_drew (S := fun w' => w'.cell? ⟨w.heap.size, 0, none⟩ = some (.int .i64 3) ∧ w'.cell? ⟨w.heap.size, 1, none⟩ = some (.string tx') ∧ w'.cell? ⟨w.heap.size, 2, none⟩ = some (.slice ta tn tc) ∧ w'.cell? ⟨w.heap.size, 3, none⟩ = some (.bool tb) ∧ w'.cell? ⟨w.heap.size, 4, none⟩ = some (.string ty) ∧ w'.cell? ⟨w.heap.size + 1, 0, none⟩ = some (.int .i64 3) ∧ w'.cell? ⟨w.heap.size + 1, 1, none⟩ = some (.string ux) ∧ w'.cell? ⟨w.heap.size + 1, 2, none⟩ = some (.slice ua un uc) ∧ w'.cell? ⟨w.heap.size + 1, 3, none⟩ = some (.bool ub) ∧ w'.cell? ⟨w.heap.size + 1, 4, none⟩ = some (.string uy)) (by kernel_rfl) (ST.out _ kp.drew) (fun hHeld => ?_)
                refine wpAnyH_take (i := 0) (oi := { dst := some 54, op := Op.fieldAddr 24 (Operand.tmp 2) 0, type := 0, pos := "law.go:109", after := #[], guard := none }) (v := .pointer (some ⟨w.heap.size, 0, none⟩)) rfl (by kernel_rfl) (by kernel_rfl) (by kernel_rfl) (fun _ _ _ h => h) (Or.inl ⟨by rfl, ?_⟩) (by assumption) ?_
                · intro w' hSw
                  try dsimp only at hSw
                  go_simp
                try simp only [Act.put, List.setIfInBounds_toArray, List.set_cons_zero, List.set_cons_succ]
                refine wpAnyH_take (i := 1) (oi := { dst := some 55, op := Op.load 3 (Operand.tmp 54), type := 3, pos := "law.go:109", after := #[{ on := 0, ground := Ground.data }], guard := none }) (v := .int .i64 3) rfl (by kernel_rfl) (by kernel_rfl) (by kernel_rfl) (fun _ _ _ h => h) (Or.inl ⟨by rfl, ?_⟩) (by assumption) ?_
                · intro w' hSw
                  try dsimp only at hSw
                  go_simp
                try simp only [Act.put, List.setIfInBounds_toArray, List.set_cons_zero, List.set_cons_succ]
                refine wpAnyH_take (i := 2) (oi := { dst := some 56, op := Op.fieldAddr 24 (Operand.tmp 3) 0, type := 0, pos := "law.go:109", after := #[], guard := none }) (v := .pointer (some ⟨w.heap.size + 1, 0, none⟩)) rfl (by kernel_rfl) (by kernel_rfl) (by kernel_rfl) (fun _ _ _ h => h) (Or.inl ⟨by rfl, ?_⟩) (by assumption) ?_
                · intro w' hSw
                  try dsimp only at hSw
                  go_simp
                try simp only [Act.put, List.setIfInBounds_toArray, List.set_cons_zero, List.set_cons_succ]
                refine wpAnyH_take (i := 3) (oi := { dst := some 57, op := Op.load 3 (Operand.tmp 56), type := 3, pos := "law.go:109", after := #[{ on := 2, ground := Ground.data }], guard := none }) (v := .int .i64 3) rfl (by kernel_rfl) (by kernel_rfl) (by kernel_rfl) (fun _ _ _ h => h) (Or.inl ⟨by rfl, ?_⟩) (by assumption) ?_
                · intro w' hSw
                  try dsimp only at hSw
                  go_simp
                try simp only [Act.put, List.setIfInBounds_toArray, List.set_cons_zero, List.set_cons_succ]
                refine wpAnyH_take (i := 4) (oi := { dst := some 58, op := Op.binOp BinOp.eql 3 (Operand.tmp 55) (Operand.tmp 57) 3, type := 4, pos := "law.go:109", after := #[{ on := 1, ground := Ground.data }, { on := 3, ground := Ground.data }], guard := none }) (v := .bool true) rfl (by kernel_rfl) (by kernel_rfl) (by kernel_rfl) (fun _ _ _ h => h) (Or.inl ⟨by rfl, ?_⟩) (by assumption) ?_
                · intro w' hSw
                  try dsimp only at hSw
                  go_simp
                try simp only [Act.put, List.setIfInBounds_toArray, List.set_cons_zero, List.set_cons_succ]
                refine wpAnyH_take (i := 5) (oi := { dst := some 59, op := Op.move (Operand.tmp 58), type := 4, pos := "law.go:109", after := #[{ on := 4, ground := Ground.data }], guard := none }) (v := .bool true) rfl (by kernel_rfl) (by kernel_rfl) (by kernel_rfl) (fun _ _ _ h => h) (Or.inl ⟨by rfl, ?_⟩) (by assumption) ?_
                · intro w' hSw
                  try dsimp only at hSw
                  go_simp
                try simp only [Act.put, List.setIfInBounds_toArray, List.set_cons_zero, List.set_cons_succ]
                refine wpAnyH_take (i := 6) (oi := { dst := some 60, op := Op.fieldAddr 24 (Operand.tmp 2) 0, type := 0, pos := "law.go:109", after := #[{ on := 5, ground := Ground.guard }], guard := some (5, true) }) (v := .pointer (some ⟨w.heap.size, 0, none⟩)) rfl (by kernel_rfl) (by kernel_rfl) (by kernel_rfl) (fun _ _ _ h => h) (Or.inl ⟨by rfl, ?_⟩) (by assumption) ?_
                · intro w' hSw
                  try dsimp only at hSw
                  go_simp
                try simp only [Act.put, List.setIfInBounds_toArray, List.set_cons_zero, List.set_cons_succ]
                refine wpAnyH_take (i := 7) (oi := { dst := some 61, op := Op.load 3 (Operand.tmp 60), type := 3, pos := "law.go:109", after := #[{ on := 6, ground := Ground.data }, { on := 5, ground := Ground.guard }], guard := some (5, true) }) (v := .int .i64 3) rfl (by kernel_rfl) (by kernel_rfl) (by kernel_rfl) (fun _ _ _ h => h) (Or.inl ⟨by rfl, ?_⟩) (by assumption) ?_
                · intro w' hSw
                  try dsimp only at hSw
                  go_simp
                try simp only [Act.put, List.setIfInBounds_toArray, List.set_cons_zero, List.set_cons_succ]
                refine wpAnyH_take (i := 8) (oi := { dst := some 62, op := Op.binOp BinOp.eql 3 (Operand.tmp 61) (Operand.const (Value.int IntKind.i64 3)) 3, type := 4, pos := "law.go:109", after := #[{ on := 7, ground := Ground.data }, { on := 5, ground := Ground.guard }], guard := some (5, true) }) (v := .bool true) rfl (by kernel_rfl) (by kernel_rfl) (by kernel_rfl) (fun _ _ _ h => h) (Or.inl ⟨by rfl, ?_⟩) (by assumption) ?_
                · intro w' hSw
                  try dsimp only at hSw
                  go_simp
                try simp only [Act.put, List.setIfInBounds_toArray, List.set_cons_zero, List.set_cons_succ]
                refine wpAnyH_take (i := 9) (oi := { dst := some 63, op := Op.move (Operand.tmp 62), type := 4, pos := "law.go:109", after := #[{ on := 8, ground := Ground.data }, { on := 5, ground := Ground.chain }, { on := 5, ground := Ground.guard }], guard := some (5, true) }) (v := .bool true) rfl (by kernel_rfl) (by kernel_rfl) (by kernel_rfl) (fun _ _ _ h => h) (Or.inl ⟨by rfl, ?_⟩) (by assumption) ?_
                · intro w' hSw
                  try dsimp only at hSw
                  go_simp
                try simp only [Act.put, List.setIfInBounds_toArray, List.set_cons_zero, List.set_cons_succ]
                refine wpAnyH_take (i := 10) (oi := { dst := some 64, op := Op.fieldAddr 24 (Operand.tmp 2) 0, type := 0, pos := "law.go:109", after := #[{ on := 9, ground := Ground.guard }], guard := some (9, false) }) (v := undef) rfl (by kernel_rfl) (by kernel_rfl) (by kernel_rfl) (fun _ _ _ h => h) (Or.inr ⟨by rfl, rfl⟩) (by assumption) ?_
                try simp only [Act.put, List.setIfInBounds_toArray, List.set_cons_zero, List.set_cons_succ]
                refine wpAnyH_take (i := 11) (oi := { dst := some 65, op := Op.load 3 (Operand.tmp 64), type := 3, pos := "law.go:109", after := #[{ on := 10, ground := Ground.data }, { on := 9, ground := Ground.guard }], guard := some (9, false) }) (v := undef) rfl (by kernel_rfl) (by kernel_rfl) (by kernel_rfl) (fun _ _ _ h => h) (Or.inr ⟨by rfl, rfl⟩) (by assumption) ?_
                try simp only [Act.put, List.setIfInBounds_toArray, List.set_cons_zero, List.set_cons_succ]
                refine wpAnyH_take (i := 12) (oi := { dst := some 66, op := Op.binOp BinOp.eql 3 (Operand.tmp 65) (Operand.const (Value.int IntKind.i64 1)) 3, type := 4, pos := "law.go:109", after := #[{ on := 11, ground := Ground.data }, { on := 9, ground := Ground.guard }], guard := some (9, false) }) (v := undef) rfl (by kernel_rfl) (by kernel_rfl) (by kernel_rfl) (fun _ _ _ h => h) (Or.inr ⟨by rfl, rfl⟩) (by assumption) ?_
                try simp only [Act.put, List.setIfInBounds_toArray, List.set_cons_zero, List.set_cons_succ]
                refine wpAnyH_take (i := 13) (oi := { dst := some 67, op := Op.pick (Operand.tmp 63) (Operand.const (Value.bool true)) (Operand.tmp 66), type := 4, pos := "law.go:109", after := #[{ on := 9, ground := Ground.data }, { on := 12, ground := Ground.data }, { on := 5, ground := Ground.guard }], guard := some (5, true) }) (v := .bool true) rfl (by kernel_rfl) (by kernel_rfl) (by kernel_rfl) (fun _ _ _ h => h) (Or.inl ⟨by rfl, ?_⟩) (by assumption) ?_
                · intro w' hSw
                  try dsimp only at hSw
                  go_simp
                try simp only [Act.put, List.setIfInBounds_toArray, List.set_cons_zero, List.set_cons_succ]
                refine wpAnyH_take (i := 14) (oi := { dst := some 68, op := Op.pick (Operand.tmp 59) (Operand.tmp 67) (Operand.const (Value.bool false)), type := 4, pos := "law.go:109", after := #[{ on := 5, ground := Ground.data }, { on := 13, ground := Ground.data }], guard := none }) (v := .bool true) rfl (by kernel_rfl) (by kernel_rfl) (by kernel_rfl) (fun _ _ _ h => h) (Or.inl ⟨by rfl, ?_⟩) (by assumption) ?_
                · intro w' hSw
                  try dsimp only at hSw
                  go_simp
                try simp only [Act.put, List.setIfInBounds_toArray, List.set_cons_zero, List.set_cons_succ]
                refine wpAnyH_take (i := 15) (oi := { dst := some 69, op := Op.move (Operand.tmp 68), type := 4, pos := "law.go:109", after := #[{ on := 14, ground := Ground.data }, { on := 9, ground := Ground.chain }], guard := none }) (v := .bool true) rfl (by kernel_rfl) (by kernel_rfl) (by kernel_rfl) (fun _ _ _ h => h) (Or.inl ⟨by rfl, ?_⟩) (by assumption) ?_
                · intro w' hSw
                  try dsimp only at hSw
                  go_simp
                try simp only [Act.put, List.setIfInBounds_toArray, List.set_cons_zero, List.set_cons_succ]
                refine wpAnyH_take (i := 16) (oi := { dst := some 70, op := Op.load 24 (Operand.tmp 2), type := 24, pos := "law.go:109", after := #[{ on := 15, ground := Ground.guard }], guard := some (15, true) }) (v := .agg #[.int .i64 3, .string tx', .slice ta tn tc, .bool tb, .string ty]) rfl (by kernel_rfl) (by kernel_rfl) (by kernel_rfl) (fun _ _ _ h => h) (Or.inl ⟨by rfl, ?_⟩) (by assumption) ?_
                · intro w' hSw
                  try dsimp only at hSw
                  go_simp
                try simp only [Act.put, List.setIfInBounds_toArray, List.set_cons_zero, List.set_cons_succ]
                refine wpAnyH_take (i := 18) (oi := { dst := some 72, op := Op.load 24 (Operand.tmp 3), type := 24, pos := "law.go:109", after := #[{ on := 15, ground := Ground.guard }], guard := some (15, true) }) (v := .agg #[.int .i64 3, .string ux, .slice ua un uc, .bool ub, .string uy]) rfl (by kernel_rfl) (by kernel_rfl) (by kernel_rfl) (fun _ _ _ h => h) (Or.inl ⟨by rfl, ?_⟩) (by assumption) ?_
                · intro w' hSw
                  try dsimp only at hSw
                  go_simp
                try simp only [Act.put, List.setIfInBounds_toArray, List.set_cons_zero, List.set_cons_succ]
                refine wpAnyH_take (i := 21) (oi := { dst := some 75, op := Op.fieldAddr 24 (Operand.tmp 2) 1, type := 0, pos := "law.go:109", after := #[{ on := 15, ground := Ground.guard }], guard := some (15, true) }) (v := .pointer (some ⟨w.heap.size, 1, none⟩)) rfl (by kernel_rfl) (by kernel_rfl) (by kernel_rfl) (fun _ _ _ h => h) (Or.inl ⟨by rfl, ?_⟩) (by assumption) ?_
                · intro w' hSw
                  try dsimp only at hSw
                  go_simp
                try simp only [Act.put, List.setIfInBounds_toArray, List.set_cons_zero, List.set_cons_succ]
                refine wpAnyH_take (i := 22) (oi := { dst := some 76, op := Op.load 9 (Operand.tmp 75), type := 9, pos := "law.go:109", after := #[{ on := 21, ground := Ground.data }, { on := 15, ground := Ground.guard }], guard := some (15, true) }) (v := .string tx') rfl (by kernel_rfl) (by kernel_rfl) (by kernel_rfl) (fun _ _ _ h => h) (Or.inl ⟨by rfl, ?_⟩) (by assumption) ?_
                · intro w' hSw
                  try dsimp only at hSw
                  go_simp
                try simp only [Act.put, List.setIfInBounds_toArray, List.set_cons_zero, List.set_cons_succ]
                refine wpAnyH_take (i := 23) (oi := { dst := some 77, op := Op.fieldAddr 24 (Operand.tmp 3) 1, type := 0, pos := "law.go:109", after := #[{ on := 15, ground := Ground.guard }], guard := some (15, true) }) (v := .pointer (some ⟨w.heap.size + 1, 1, none⟩)) rfl (by kernel_rfl) (by kernel_rfl) (by kernel_rfl) (fun _ _ _ h => h) (Or.inl ⟨by rfl, ?_⟩) (by assumption) ?_
                · intro w' hSw
                  try dsimp only at hSw
                  go_simp
                try simp only [Act.put, List.setIfInBounds_toArray, List.set_cons_zero, List.set_cons_succ]
                refine wpAnyH_take (i := 24) (oi := { dst := some 78, op := Op.load 9 (Operand.tmp 77), type := 9, pos := "law.go:109", after := #[{ on := 23, ground := Ground.data }, { on := 15, ground := Ground.guard }], guard := some (15, true) }) (v := .string ux) rfl (by kernel_rfl) (by kernel_rfl) (by kernel_rfl) (fun _ _ _ h => h) (Or.inl ⟨by rfl, ?_⟩) (by assumption) ?_
                · intro w' hSw
                  try dsimp only at hSw
                  go_simp
                try simp only [Act.put, List.setIfInBounds_toArray, List.set_cons_zero, List.set_cons_succ]
                refine wpAnyH_take (i := 25) (oi := { dst := some 79, op := Op.binOp BinOp.eql 9 (Operand.tmp 76) (Operand.tmp 78) 9, type := 4, pos := "law.go:109", after := #[{ on := 22, ground := Ground.data }, { on := 24, ground := Ground.data }, { on := 15, ground := Ground.guard }], guard := some (15, true) }) (v := .bool false) rfl (by kernel_rfl) (by kernel_rfl) (by kernel_rfl) (fun _ _ _ h => h) (Or.inl ⟨by rfl, ?_⟩) (by assumption) ?_
                · intro w' hSw
                  try dsimp only at hSw
                  go_simp
                try simp only [Act.put, List.setIfInBounds_toArray, List.set_cons_zero, List.set_cons_succ]
                refine wpAnyH_ready (rs := [17]) (by kernel_rfl) (by simp) ?_
                refine AllReadyH.cons (o := { dst := some 71, op := Op.call { callee := Callee.value (Operand.func 13), args := #[Operand.tmp 70], argTypes := #[24] }, type := 9, pos := "law.go:109", after := #[{ on := 16, ground := Ground.data }, { on := 15, ground := Ground.chain }, { on := 15, ground := Ground.guard }], guard := some (15, true) }) rfl (fun K hK => ?_) AllReadyH.nil
                go_simp
                refine (HT.out _ kp.drew).mono ?_
                rintro e v1 ⟨rfl, kk⟩
                have S1 : Hid (Kp [] w2 v1) := kp.drew.trans kk (fun x hx => by simp at hx)
                clear kk
                refine hK.out _ _ (ST.out _ S1.out) (fun hHeld => ?_)
                clear hK K
                try simp only [Act.put, List.setIfInBounds_toArray, List.set_cons_zero, List.set_cons_succ]
                refine wpAnyH_ready (rs := [19]) (by kernel_rfl) (by simp) ?_
                refine AllReadyH.cons (o := { dst := some 73, op := Op.call { callee := Callee.value (Operand.func 13), args := #[Operand.tmp 72], argTypes := #[24] }, type := 9, pos := "law.go:109", after := #[{ on := 18, ground := Ground.data }, { on := 17, ground := Ground.chain }, { on := 15, ground := Ground.guard }], guard := some (15, true) }) rfl (fun K hK => ?_) AllReadyH.nil
                go_simp
                refine (HU.out _ S1.out).mono ?_
                rintro e v2 ⟨rfl, kk⟩
                have S2 : Hid (Kp [] w2 v2) := S1.out.trans kk (fun x hx => by simp at hx)
                clear kk
                refine hK.out _ _ (ST.out _ S2.out) (fun hHeld => ?_)
                clear hK K
                try simp only [Act.put, List.setIfInBounds_toArray, List.set_cons_zero, List.set_cons_succ]
                refine wpAnyH_take (i := 20) (oi := { dst := some 74, op := Op.binOp BinOp.eql 9 (Operand.tmp 71) (Operand.tmp 73) 9, type := 4, pos := "law.go:109", after := #[{ on := 17, ground := Ground.data }, { on := 19, ground := Ground.data }, { on := 15, ground := Ground.guard }], guard := some (15, true) }) (v := .bool false) rfl (by kernel_rfl) (by kernel_rfl) (by kernel_rfl) (fun _ _ _ h => h) (Or.inl ⟨by rfl, ?_⟩) (by assumption) ?_
                · intro w' hSw
                  try dsimp only at hSw
                  go_simp
                try simp only [Act.put, List.setIfInBounds_toArray, List.set_cons_zero, List.set_cons_succ]
                refine wpAnyH_take (i := 26) (oi := { dst := some 80, op := Op.binOp BinOp.neq 4 (Operand.tmp 74) (Operand.tmp 79) 4, type := 4, pos := "law.go:109", after := #[{ on := 20, ground := Ground.data }, { on := 25, ground := Ground.data }, { on := 15, ground := Ground.guard }], guard := some (15, true) }) (v := .bool false) rfl (by kernel_rfl) (by kernel_rfl) (by kernel_rfl) (fun _ _ _ h => h) (Or.inl ⟨by rfl, ?_⟩) (by assumption) ?_
                · intro w' hSw
                  try dsimp only at hSw
                  go_simp
                try simp only [Act.put, List.setIfInBounds_toArray, List.set_cons_zero, List.set_cons_succ]
                refine wpAnyH_take (i := 27) (oi := { dst := some 81, op := Op.pick (Operand.tmp 69) (Operand.tmp 80) (Operand.const (Value.bool false)), type := 4, pos := "law.go:109", after := #[{ on := 15, ground := Ground.data }, { on := 26, ground := Ground.data }], guard := none }) (v := .bool false) rfl (by kernel_rfl) (by kernel_rfl) (by kernel_rfl) (fun _ _ _ h => h) (Or.inl ⟨by rfl, ?_⟩) (by assumption) ?_
                · intro w' hSw
                  try dsimp only at hSw
                  go_simp
                try simp only [Act.put, List.setIfInBounds_toArray, List.set_cons_zero, List.set_cons_succ]
                refine wpAnyH_done (by kernel_rfl) ?_ _
                go_wp2_with fail
                go_meet
                case rel => exact ⟨rfl, S2.out⟩
              | true =>
                rw [hN] at hE
                refine wp_region_held_drew (S := fun w' => w'.cell? ⟨w.heap.size, 0, none⟩ = some (.int .i64 3) ∧ w'.cell? ⟨w.heap.size, 1, none⟩ = some (.string tx') ∧ w'.cell? ⟨w.heap.size, 2, none⟩ = some (.slice ta tn tc) ∧ w'.cell? ⟨w.heap.size, 3, none⟩ = some (.bool tb) ∧ w'.cell? ⟨w.heap.size, 4, none⟩ = some (.string ty) ∧ w'.cell? ⟨w.heap.size + 1, 0, none⟩ = some (.int .i64 3) ∧ w'.cell? ⟨w.heap.size + 1, 1, none⟩ = some (.string ux) ∧ w'.cell? ⟨w.heap.size + 1, 2, none⟩ = some (.slice ua un uc) ∧ w'.cell? ⟨w.heap.size + 1, 3, none⟩ = some (.bool ub) ∧ w'.cell? ⟨w.heap.size + 1, 4, none⟩ = some (.string uy)) (by kernel_rfl) (ST.out _ kp.drew) (fun hHeld => ?_)
                refine wpAnyH_take (i := 0) (oi := { dst := some 54, op := Op.fieldAddr 24 (Operand.tmp 2) 0, type := 0, pos := "law.go:109", after := #[], guard := none }) (v := .pointer (some ⟨w.heap.size, 0, none⟩)) rfl (by kernel_rfl) (by kernel_rfl) (by kernel_rfl) (fun _ _ _ h => h) (Or.inl ⟨by rfl, ?_⟩) (by assumption) ?_
                · intro w' hSw
                  try dsimp only at hSw
                  go_simp
                try simp only [Act.put, List.setIfInBounds_toArray, List.set_cons_zero, List.set_cons_succ]
                refine wpAnyH_take (i := 1) (oi := { dst := some 55, op := Op.load 3 (Operand.tmp 54), type := 3, pos := "law.go:109", after := #[{ on := 0, ground := Ground.data }], guard := none }) (v := .int .i64 3) rfl (by kernel_rfl) (by kernel_rfl) (by kernel_rfl) (fun _ _ _ h => h) (Or.inl ⟨by rfl, ?_⟩) (by assumption) ?_
                · intro w' hSw
                  try dsimp only at hSw
                  go_simp
                try simp only [Act.put, List.setIfInBounds_toArray, List.set_cons_zero, List.set_cons_succ]
                refine wpAnyH_take (i := 2) (oi := { dst := some 56, op := Op.fieldAddr 24 (Operand.tmp 3) 0, type := 0, pos := "law.go:109", after := #[], guard := none }) (v := .pointer (some ⟨w.heap.size + 1, 0, none⟩)) rfl (by kernel_rfl) (by kernel_rfl) (by kernel_rfl) (fun _ _ _ h => h) (Or.inl ⟨by rfl, ?_⟩) (by assumption) ?_
                · intro w' hSw
                  try dsimp only at hSw
                  go_simp
                try simp only [Act.put, List.setIfInBounds_toArray, List.set_cons_zero, List.set_cons_succ]
                refine wpAnyH_take (i := 3) (oi := { dst := some 57, op := Op.load 3 (Operand.tmp 56), type := 3, pos := "law.go:109", after := #[{ on := 2, ground := Ground.data }], guard := none }) (v := .int .i64 3) rfl (by kernel_rfl) (by kernel_rfl) (by kernel_rfl) (fun _ _ _ h => h) (Or.inl ⟨by rfl, ?_⟩) (by assumption) ?_
                · intro w' hSw
                  try dsimp only at hSw
                  go_simp
                try simp only [Act.put, List.setIfInBounds_toArray, List.set_cons_zero, List.set_cons_succ]
                refine wpAnyH_take (i := 4) (oi := { dst := some 58, op := Op.binOp BinOp.eql 3 (Operand.tmp 55) (Operand.tmp 57) 3, type := 4, pos := "law.go:109", after := #[{ on := 1, ground := Ground.data }, { on := 3, ground := Ground.data }], guard := none }) (v := .bool true) rfl (by kernel_rfl) (by kernel_rfl) (by kernel_rfl) (fun _ _ _ h => h) (Or.inl ⟨by rfl, ?_⟩) (by assumption) ?_
                · intro w' hSw
                  try dsimp only at hSw
                  go_simp
                try simp only [Act.put, List.setIfInBounds_toArray, List.set_cons_zero, List.set_cons_succ]
                refine wpAnyH_take (i := 5) (oi := { dst := some 59, op := Op.move (Operand.tmp 58), type := 4, pos := "law.go:109", after := #[{ on := 4, ground := Ground.data }], guard := none }) (v := .bool true) rfl (by kernel_rfl) (by kernel_rfl) (by kernel_rfl) (fun _ _ _ h => h) (Or.inl ⟨by rfl, ?_⟩) (by assumption) ?_
                · intro w' hSw
                  try dsimp only at hSw
                  go_simp
                try simp only [Act.put, List.setIfInBounds_toArray, List.set_cons_zero, List.set_cons_succ]
                refine wpAnyH_take (i := 6) (oi := { dst := some 60, op := Op.fieldAddr 24 (Operand.tmp 2) 0, type := 0, pos := "law.go:109", after := #[{ on := 5, ground := Ground.guard }], guard := some (5, true) }) (v := .pointer (some ⟨w.heap.size, 0, none⟩)) rfl (by kernel_rfl) (by kernel_rfl) (by kernel_rfl) (fun _ _ _ h => h) (Or.inl ⟨by rfl, ?_⟩) (by assumption) ?_
                · intro w' hSw
                  try dsimp only at hSw
                  go_simp
                try simp only [Act.put, List.setIfInBounds_toArray, List.set_cons_zero, List.set_cons_succ]
                refine wpAnyH_take (i := 7) (oi := { dst := some 61, op := Op.load 3 (Operand.tmp 60), type := 3, pos := "law.go:109", after := #[{ on := 6, ground := Ground.data }, { on := 5, ground := Ground.guard }], guard := some (5, true) }) (v := .int .i64 3) rfl (by kernel_rfl) (by kernel_rfl) (by kernel_rfl) (fun _ _ _ h => h) (Or.inl ⟨by rfl, ?_⟩) (by assumption) ?_
                · intro w' hSw
                  try dsimp only at hSw
                  go_simp
                try simp only [Act.put, List.setIfInBounds_toArray, List.set_cons_zero, List.set_cons_succ]
                refine wpAnyH_take (i := 8) (oi := { dst := some 62, op := Op.binOp BinOp.eql 3 (Operand.tmp 61) (Operand.const (Value.int IntKind.i64 3)) 3, type := 4, pos := "law.go:109", after := #[{ on := 7, ground := Ground.data }, { on := 5, ground := Ground.guard }], guard := some (5, true) }) (v := .bool true) rfl (by kernel_rfl) (by kernel_rfl) (by kernel_rfl) (fun _ _ _ h => h) (Or.inl ⟨by rfl, ?_⟩) (by assumption) ?_
                · intro w' hSw
                  try dsimp only at hSw
                  go_simp
                try simp only [Act.put, List.setIfInBounds_toArray, List.set_cons_zero, List.set_cons_succ]
                refine wpAnyH_take (i := 9) (oi := { dst := some 63, op := Op.move (Operand.tmp 62), type := 4, pos := "law.go:109", after := #[{ on := 8, ground := Ground.data }, { on := 5, ground := Ground.chain }, { on := 5, ground := Ground.guard }], guard := some (5, true) }) (v := .bool true) rfl (by kernel_rfl) (by kernel_rfl) (by kernel_rfl) (fun _ _ _ h => h) (Or.inl ⟨by rfl, ?_⟩) (by assumption) ?_
                · intro w' hSw
                  try dsimp only at hSw
                  go_simp
                try simp only [Act.put, List.setIfInBounds_toArray, List.set_cons_zero, List.set_cons_succ]
                refine wpAnyH_take (i := 10) (oi := { dst := some 64, op := Op.fieldAddr 24 (Operand.tmp 2) 0, type := 0, pos := "law.go:109", after := #[{ on := 9, ground := Ground.guard }], guard := some (9, false) }) (v := undef) rfl (by kernel_rfl) (by kernel_rfl) (by kernel_rfl) (fun _ _ _ h => h) (Or.inr ⟨by rfl, rfl⟩) (by assumption) ?_
                try simp only [Act.put, List.setIfInBounds_toArray, List.set_cons_zero, List.set_cons_succ]
                refine wpAnyH_take (i := 11) (oi := { dst := some 65, op := Op.load 3 (Operand.tmp 64), type := 3, pos := "law.go:109", after := #[{ on := 10, ground := Ground.data }, { on := 9, ground := Ground.guard }], guard := some (9, false) }) (v := undef) rfl (by kernel_rfl) (by kernel_rfl) (by kernel_rfl) (fun _ _ _ h => h) (Or.inr ⟨by rfl, rfl⟩) (by assumption) ?_
                try simp only [Act.put, List.setIfInBounds_toArray, List.set_cons_zero, List.set_cons_succ]
                refine wpAnyH_take (i := 12) (oi := { dst := some 66, op := Op.binOp BinOp.eql 3 (Operand.tmp 65) (Operand.const (Value.int IntKind.i64 1)) 3, type := 4, pos := "law.go:109", after := #[{ on := 11, ground := Ground.data }, { on := 9, ground := Ground.guard }], guard := some (9, false) }) (v := undef) rfl (by kernel_rfl) (by kernel_rfl) (by kernel_rfl) (fun _ _ _ h => h) (Or.inr ⟨by rfl, rfl⟩) (by assumption) ?_
                try simp only [Act.put, List.setIfInBounds_toArray, List.set_cons_zero, List.set_cons_succ]
                refine wpAnyH_take (i := 13) (oi := { dst := some 67, op := Op.pick (Operand.tmp 63) (Operand.const (Value.bool true)) (Operand.tmp 66), type := 4, pos := "law.go:109", after := #[{ on := 9, ground := Ground.data }, { on := 12, ground := Ground.data }, { on := 5, ground := Ground.guard }], guard := some (5, true) }) (v := .bool true) rfl (by kernel_rfl) (by kernel_rfl) (by kernel_rfl) (fun _ _ _ h => h) (Or.inl ⟨by rfl, ?_⟩) (by assumption) ?_
                · intro w' hSw
                  try dsimp only at hSw
                  go_simp
                try simp only [Act.put, List.setIfInBounds_toArray, List.set_cons_zero, List.set_cons_succ]
                refine wpAnyH_take (i := 14) (oi := { dst := some 68, op := Op.pick (Operand.tmp 59) (Operand.tmp 67) (Operand.const (Value.bool false)), type := 4, pos := "law.go:109", after := #[{ on := 5, ground := Ground.data }, { on := 13, ground := Ground.data }], guard := none }) (v := .bool true) rfl (by kernel_rfl) (by kernel_rfl) (by kernel_rfl) (fun _ _ _ h => h) (Or.inl ⟨by rfl, ?_⟩) (by assumption) ?_
                · intro w' hSw
                  try dsimp only at hSw
                  go_simp
                try simp only [Act.put, List.setIfInBounds_toArray, List.set_cons_zero, List.set_cons_succ]
                refine wpAnyH_take (i := 15) (oi := { dst := some 69, op := Op.move (Operand.tmp 68), type := 4, pos := "law.go:109", after := #[{ on := 14, ground := Ground.data }, { on := 9, ground := Ground.chain }], guard := none }) (v := .bool true) rfl (by kernel_rfl) (by kernel_rfl) (by kernel_rfl) (fun _ _ _ h => h) (Or.inl ⟨by rfl, ?_⟩) (by assumption) ?_
                · intro w' hSw
                  try dsimp only at hSw
                  go_simp
                try simp only [Act.put, List.setIfInBounds_toArray, List.set_cons_zero, List.set_cons_succ]
                refine wpAnyH_take (i := 16) (oi := { dst := some 70, op := Op.load 24 (Operand.tmp 2), type := 24, pos := "law.go:109", after := #[{ on := 15, ground := Ground.guard }], guard := some (15, true) }) (v := .agg #[.int .i64 3, .string tx', .slice ta tn tc, .bool tb, .string ty]) rfl (by kernel_rfl) (by kernel_rfl) (by kernel_rfl) (fun _ _ _ h => h) (Or.inl ⟨by rfl, ?_⟩) (by assumption) ?_
                · intro w' hSw
                  try dsimp only at hSw
                  go_simp
                try simp only [Act.put, List.setIfInBounds_toArray, List.set_cons_zero, List.set_cons_succ]
                refine wpAnyH_take (i := 18) (oi := { dst := some 72, op := Op.load 24 (Operand.tmp 3), type := 24, pos := "law.go:109", after := #[{ on := 15, ground := Ground.guard }], guard := some (15, true) }) (v := .agg #[.int .i64 3, .string ux, .slice ua un uc, .bool ub, .string uy]) rfl (by kernel_rfl) (by kernel_rfl) (by kernel_rfl) (fun _ _ _ h => h) (Or.inl ⟨by rfl, ?_⟩) (by assumption) ?_
                · intro w' hSw
                  try dsimp only at hSw
                  go_simp
                try simp only [Act.put, List.setIfInBounds_toArray, List.set_cons_zero, List.set_cons_succ]
                refine wpAnyH_take (i := 21) (oi := { dst := some 75, op := Op.fieldAddr 24 (Operand.tmp 2) 1, type := 0, pos := "law.go:109", after := #[{ on := 15, ground := Ground.guard }], guard := some (15, true) }) (v := .pointer (some ⟨w.heap.size, 1, none⟩)) rfl (by kernel_rfl) (by kernel_rfl) (by kernel_rfl) (fun _ _ _ h => h) (Or.inl ⟨by rfl, ?_⟩) (by assumption) ?_
                · intro w' hSw
                  try dsimp only at hSw
                  go_simp
                try simp only [Act.put, List.setIfInBounds_toArray, List.set_cons_zero, List.set_cons_succ]
                refine wpAnyH_take (i := 22) (oi := { dst := some 76, op := Op.load 9 (Operand.tmp 75), type := 9, pos := "law.go:109", after := #[{ on := 21, ground := Ground.data }, { on := 15, ground := Ground.guard }], guard := some (15, true) }) (v := .string tx') rfl (by kernel_rfl) (by kernel_rfl) (by kernel_rfl) (fun _ _ _ h => h) (Or.inl ⟨by rfl, ?_⟩) (by assumption) ?_
                · intro w' hSw
                  try dsimp only at hSw
                  go_simp
                try simp only [Act.put, List.setIfInBounds_toArray, List.set_cons_zero, List.set_cons_succ]
                refine wpAnyH_take (i := 23) (oi := { dst := some 77, op := Op.fieldAddr 24 (Operand.tmp 3) 1, type := 0, pos := "law.go:109", after := #[{ on := 15, ground := Ground.guard }], guard := some (15, true) }) (v := .pointer (some ⟨w.heap.size + 1, 1, none⟩)) rfl (by kernel_rfl) (by kernel_rfl) (by kernel_rfl) (fun _ _ _ h => h) (Or.inl ⟨by rfl, ?_⟩) (by assumption) ?_
                · intro w' hSw
                  try dsimp only at hSw
                  go_simp
                try simp only [Act.put, List.setIfInBounds_toArray, List.set_cons_zero, List.set_cons_succ]
                refine wpAnyH_take (i := 24) (oi := { dst := some 78, op := Op.load 9 (Operand.tmp 77), type := 9, pos := "law.go:109", after := #[{ on := 23, ground := Ground.data }, { on := 15, ground := Ground.guard }], guard := some (15, true) }) (v := .string ux) rfl (by kernel_rfl) (by kernel_rfl) (by kernel_rfl) (fun _ _ _ h => h) (Or.inl ⟨by rfl, ?_⟩) (by assumption) ?_
                · intro w' hSw
                  try dsimp only at hSw
                  go_simp
                try simp only [Act.put, List.setIfInBounds_toArray, List.set_cons_zero, List.set_cons_succ]
                refine wpAnyH_take (i := 25) (oi := { dst := some 79, op := Op.binOp BinOp.eql 9 (Operand.tmp 76) (Operand.tmp 78) 9, type := 4, pos := "law.go:109", after := #[{ on := 22, ground := Ground.data }, { on := 24, ground := Ground.data }, { on := 15, ground := Ground.guard }], guard := some (15, true) }) (v := .bool true) rfl (by kernel_rfl) (by kernel_rfl) (by kernel_rfl) (fun _ _ _ h => h) (Or.inl ⟨by rfl, ?_⟩) (by assumption) ?_
                · intro w' hSw
                  try dsimp only at hSw
                  go_simp
                try simp only [Act.put, List.setIfInBounds_toArray, List.set_cons_zero, List.set_cons_succ]
                refine wpAnyH_ready (rs := [17]) (by kernel_rfl) (by simp) ?_
                refine AllReadyH.cons (o := { dst := some 71, op := Op.call { callee := Callee.value (Operand.func 13), args := #[Operand.tmp 70], argTypes := #[24] }, type := 9, pos := "law.go:109", after := #[{ on := 16, ground := Ground.data }, { on := 15, ground := Ground.chain }, { on := 15, ground := Ground.guard }], guard := some (15, true) }) rfl (fun K hK => ?_) AllReadyH.nil
                go_simp
                refine (HT.out _ kp.drew).mono ?_
                rintro e v1 ⟨rfl, kk⟩
                have S1 : Hid (Kp [] w2 v1) := kp.drew.trans kk (fun x hx => by simp at hx)
                clear kk
                refine hK.out _ _ (ST.out _ S1.out) (fun hHeld => ?_)
                clear hK K
                try simp only [Act.put, List.setIfInBounds_toArray, List.set_cons_zero, List.set_cons_succ]
                refine wpAnyH_ready (rs := [19]) (by kernel_rfl) (by simp) ?_
                refine AllReadyH.cons (o := { dst := some 73, op := Op.call { callee := Callee.value (Operand.func 13), args := #[Operand.tmp 72], argTypes := #[24] }, type := 9, pos := "law.go:109", after := #[{ on := 18, ground := Ground.data }, { on := 17, ground := Ground.chain }, { on := 15, ground := Ground.guard }], guard := some (15, true) }) rfl (fun K hK => ?_) AllReadyH.nil
                go_simp
                refine (HU.out _ S1.out).mono ?_
                rintro e v2 ⟨rfl, kk⟩
                have S2 : Hid (Kp [] w2 v2) := S1.out.trans kk (fun x hx => by simp at hx)
                clear kk
                refine hK.out _ _ (ST.out _ S2.out) (fun hHeld => ?_)
                clear hK K
                try simp only [Act.put, List.setIfInBounds_toArray, List.set_cons_zero, List.set_cons_succ]
                refine wpAnyH_take (i := 20) (oi := { dst := some 74, op := Op.binOp BinOp.eql 9 (Operand.tmp 71) (Operand.tmp 73) 9, type := 4, pos := "law.go:109", after := #[{ on := 17, ground := Ground.data }, { on := 19, ground := Ground.data }, { on := 15, ground := Ground.guard }], guard := some (15, true) }) (v := .bool true) rfl (by kernel_rfl) (by kernel_rfl) (by kernel_rfl) (fun _ _ _ h => h) (Or.inl ⟨by rfl, ?_⟩) (by assumption) ?_
                · intro w' hSw
                  try dsimp only at hSw
                  go_simp
                try simp only [Act.put, List.setIfInBounds_toArray, List.set_cons_zero, List.set_cons_succ]
                refine wpAnyH_take (i := 26) (oi := { dst := some 80, op := Op.binOp BinOp.neq 4 (Operand.tmp 74) (Operand.tmp 79) 4, type := 4, pos := "law.go:109", after := #[{ on := 20, ground := Ground.data }, { on := 25, ground := Ground.data }, { on := 15, ground := Ground.guard }], guard := some (15, true) }) (v := .bool false) rfl (by kernel_rfl) (by kernel_rfl) (by kernel_rfl) (fun _ _ _ h => h) (Or.inl ⟨by rfl, ?_⟩) (by assumption) ?_
                · intro w' hSw
                  try dsimp only at hSw
                  go_simp
                try simp only [Act.put, List.setIfInBounds_toArray, List.set_cons_zero, List.set_cons_succ]
                refine wpAnyH_take (i := 27) (oi := { dst := some 81, op := Op.pick (Operand.tmp 69) (Operand.tmp 80) (Operand.const (Value.bool false)), type := 4, pos := "law.go:109", after := #[{ on := 15, ground := Ground.data }, { on := 26, ground := Ground.data }], guard := none }) (v := .bool false) rfl (by kernel_rfl) (by kernel_rfl) (by kernel_rfl) (fun _ _ _ h => h) (Or.inl ⟨by rfl, ?_⟩) (by assumption) ?_
                · intro w' hSw
                  try dsimp only at hSw
                  go_simp
                try simp only [Act.put, List.setIfInBounds_toArray, List.set_cons_zero, List.set_cons_succ]
                refine wpAnyH_done (by kernel_rfl) ?_ _
                go_wp2_with fail
                go_meet
                case rel => exact ⟨rfl, S2.out⟩
            · by_cases h1 : tk = 1
              · subst h1
                have hE := HE.out rfl (Or.inl rfl)
                cases hN : (tx'.toList == ux.toList)
                all_goals
                  rw [hN] at hE
                  go_region_held3 (fun w' => w'.cell? ⟨w.heap.size, 0, none⟩ = some (.int .i64 1) ∧ w'.cell? ⟨w.heap.size, 1, none⟩ = some (.string tx') ∧ w'.cell? ⟨w.heap.size, 2, none⟩ = some (.slice ta tn tc) ∧ w'.cell? ⟨w.heap.size, 3, none⟩ = some (.bool tb) ∧ w'.cell? ⟨w.heap.size, 4, none⟩ = some (.string ty) ∧ w'.cell? ⟨w.heap.size + 1, 0, none⟩ = some (.int .i64 1) ∧ w'.cell? ⟨w.heap.size + 1, 1, none⟩ = some (.string ux) ∧ w'.cell? ⟨w.heap.size + 1, 2, none⟩ = some (.slice ua un uc) ∧ w'.cell? ⟨w.heap.size + 1, 3, none⟩ = some (.bool ub) ∧ w'.cell? ⟨w.heap.size + 1, 4, none⟩ = some (.string uy))
                    (first
                      | with_reducible exact ST.out _ S2.out
                      | with_reducible exact ST.out _ S1.out
                      | exact ST.out _ kp.drew)
                    (first
                      | (go_at_call 13; have D2 := S1.out; refine (HU.out _ S1.out).mono ?_; rintro e v2 ⟨rfl, kk⟩; have S2 : Hid (Kp [] w2 v2) := S1.out.trans kk (fun x hx => by simp at hx); clear kk)
                      | (go_at_call 13; refine (HT.out _ kp.drew).mono ?_; rintro e v1 ⟨rfl, kk⟩; have S1 : Hid (Kp [] w2 v1) := kp.drew.trans kk (fun x hx => by simp at hx); clear kk))
                  go_wp2_with fail
                  go_meet
                  case rel => exact ⟨rfl, S2.out⟩
              · have e1 : (tk == tk) = true := by simp
                have e3 : (tk == 3) = false := by simpa using h3
                have e4 : (tk == 1) = false := by simpa using h1
                go_quiet (fail)
                go_wp2_with fail
                go_meet
                case rel => exact ⟨rfl, kp.drewN _⟩
          · have e1 : (tk == uk) = false := by simpa using hk
            go_quiet (fail)
            go_wp2_with fail
            go_meet
            case rel => exact ⟨rfl, kp.drewN _⟩
        case rest =>
          obtain ⟨rfl, kx⟩ := hcut
          clear c0 c1 c2 c3 c4 d0 d1 d2 d3 d4 HT HU HE
          obtain ⟨c0, c1, c2, c3, c4, d0, d1, d2, d3, d4⟩ := ST.out _ kx
          go_wp2_with fail
          go_region_held3 (fun w' => w'.cell? ⟨w.heap.size, 0, none⟩ = some (.int .i64 tk) ∧ w'.cell? ⟨w.heap.size, 1, none⟩ = some (.string tx') ∧ w'.cell? ⟨w.heap.size, 2, none⟩ = some (.slice ta tn tc) ∧ w'.cell? ⟨w.heap.size, 3, none⟩ = some (.bool tb) ∧ w'.cell? ⟨w.heap.size, 4, none⟩ = some (.string ty) ∧ w'.cell? ⟨w.heap.size + 1, 0, none⟩ = some (.int .i64 uk) ∧ w'.cell? ⟨w.heap.size + 1, 1, none⟩ = some (.string ux) ∧ w'.cell? ⟨w.heap.size + 1, 2, none⟩ = some (.slice ua un uc) ∧ w'.cell? ⟨w.heap.size + 1, 3, none⟩ = some (.bool ub) ∧ w'.cell? ⟨w.heap.size + 1, 4, none⟩ = some (.string uy))
            (first
              | with_reducible exact ST.out _ S3.out
              | with_reducible exact ST.out _ S2.out
              | with_reducible exact ST.out _ S1.out
              | exact ST.out _ kx.drew)
            (first
              | (go_at_call 9; have D3 := S2.out; refine (known_any _).mono ?_; rintro e v3 ⟨rfl, kk⟩; have S3 : Hid (Kp [] w2 v3) := S2.out.trans kk (fun x hx => by simp at hx); clear kk)
              | (go_at_call 14; have D2 := S1.out; refine (HB.out _ S1.out).mono ?_; rintro e v2 ⟨rfl, kk⟩; have S2 : Hid (Kp [] w2 v2) := S1.out.trans kk (fun x hx => by simp at hx); clear kk)
              | (go_at_call 14; refine (HA.out _ kx.drew).mono ?_; rintro e v1 ⟨rfl, kk⟩; have S1 : Hid (Kp [] w2 v1) := kx.drew.trans kk (fun x hx => by simp at hx); clear kk))
          have KZ := (kc.trans kz (fun x hx => by simp at hx)).trans S3.out (fun x hx => by simp at hx)
          clear ST HA HB S1 S2 S3 c0 c1 c2 c3 c4 d0 d1 d2 d3 d4
          go_wp2
          go_ret
          exact ⟨rfl, KZ⟩

end Go.Proofs.Ytgeebmlincddkaa
