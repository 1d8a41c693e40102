/-
  TokenTells: tokens are judged and told as the document says, for any.
-/
import Derived.Test.YtgeebmlincddkaaFews
import Derived.Test.YtgeebmlincddkaaAlikes
import Derived.Test.YtgeebmlincddkaaSigns
import Derived.Test.YtgeebmlincddkaaTokens
import Derived.Test.YtgeebmlincddkaaJoin
import Derived.Test.YtgeebmlincddkaaRefJoin
namespace Go.Proofs.Ytgeebmlincddkaa
open Go.RowKit

theorem few_tame (t : Tok) : tame (few t) := ⟨by have := few_name t; omega, few_brief t⟩

/-- Tokens that are few are light. -/
theorem few_wt : ∀ l : List Tok, wt (l.map few) ≤ l.length * 60
  | [] => by simp [wt]
  | t :: l => by
    have h1 := few_wt l
    have h2 := few_text t
    rw [List.map_cons, wt_cons, List.length_cons]
    unfold tt
    omega

set_option maxRecDepth 100000 in
set_option maxHeartbeats 4000000 in
theorem tells_any (w : World) (p r : Q) (hp : At w p) (hr : At w r) (bp : p.2.2.1 ≤ 140737488355328) (br : r.2.2.1 ≤ 140737488355328) (qo : Option Addr) (qn qc : Nat) (qq : List Q) (hq : Rq w qo qn qc qq) (hqn : qn ≤ 140737488355328) (hqa : ∀ p, p ∈ qq → At w p ∧ p.2.2.1 ≤ 140737488355328) :
    Calls Try.prog 4 #[qv p, qv r, .slice qo qn qc] w fun e w' => e = .returned (.bool true) ∧ Kp [] w w' := by
  obtain ⟨⟨k, x, l, b, y⟩, ao, n, c⟩ := p
  obtain ⟨⟨k', x', l', b', y'⟩, bo, m, d⟩ := r
  have hp' : Rp w ao n c l := hp
  have hr' : Rp w bo m d l' := hr
  simp only at bp br
  obtain ⟨W, hW⟩ : ∃ W, W = (w.alloc (.cells #[.int .i64 k, .string x, .slice ao n c, .bool b, .string y] 24)).alloc (.cells #[.int .i64 k', .string x', .slice bo m d, .bool b', .string y'] 24) := ⟨_, rfl⟩
  have k0 : Kp [] w W := by rw [hW]; exact ((Kp.refl _ _).alloc _).alloc _
  have hs : w.heap.size + 1 < W.heap.size := by rw [hW]; simp
  have C0 : Hid (∀ V, Kp [] W V → V.heap[w.heap.size]? = some (.cells #[.int .i64 k, .string x, .slice ao n c, .bool b, .string y] 24) ∧ V.heap[w.heap.size + 1]? = some (.cells #[.int .i64 k', .string x', .slice bo m d, .bool b', .string y'] 24)) := fun V kV => by
    rw [hW] at kV
    exact boxes w ((k, x, l, b, y), ao, n, c) ((k', x', l', b', y'), bo, m, d) V kV
  have F1 := fun V (kV : Kp [] W V) => few_any V k x y l b ao n c ((hp'.kept k0).kept kV) bp
  have F2 := fun V (kV : Kp [] W V) => few_any V k' x' y' l' b' bo m d ((hr'.kept k0).kept kV) br
  have TW : Hid (∀ v1 v2 Z a1 n1 c1 a2 n2 c2, Mp W v1 a1 n1 c1 (short l) → Mp v1 v2 a2 n2 c2 (short l') → Z.heap[w.heap.size]? = some (.cells #[.int .i64 k, .string (cutB x 20), .slice a1 n1 c1, .bool b, .string (cutB y 60)] 24) → Z.heap[w.heap.size + 1]? = some (.cells #[.int .i64 k', .string (cutB x' 20), .slice a2 n2 c2, .bool b', .string (cutB y' 60)] 24) → Kp [w.heap.size, w.heap.size + 1] v2 Z → Twos w Z (k, x, l, b, y) (k', x', l', b', y')) := fun v1 v2 Z a1 n1 c1 a2 n2 c2 M1 M2 z0 z1 kz => twos (t := (k, x, l, b, y)) (u := (k', x', l', b', y')) k0 hs M1 M2 z0 z1 kz
  clear hp hr hp' hr' bp br
  unfold tv at F1 F2
  simp only [qv, tv]
  go_enter Try.func4, Try.ntmps4
  go_upto_region 1 with fail
  rw [← hW]
  go_cut [] from 9 to 12 (fun wx => Twos w wx (k, x, l, b, y) (k', x', l', b', y'))
  case first =>
    obtain ⟨q0, q1⟩ := C0.out W (Kp.refl _ _)
    obtain ⟨c0, c1, c2, c3, c4⟩ := box_of q0
    obtain ⟨d0, d1, d2, d3, d4⟩ := box_of q1
    clear q0 q1 hW
    go_region_with (first
      | (go_at_call 10; have D2 := S1.out; refine (F2 _ S1.out).mono ?_; rintro e v2 ⟨a2, n2, c2', rfl, M2⟩; have S2 : Hid (Kp [] W v2) := S1.out.trans M2.kp (fun z hz => by simp at hz); have N2 : Hid (Mp v1 v2 a2 n2 c2' (short l')) := M2; clear M2; have z0 := (C0.out _ S2.out).1; have z1 := (C0.out _ S2.out).2; obtain ⟨g0, g1, g2, g3, g4⟩ := box_of z0; obtain ⟨h0, h1, h2, h3, h4⟩ := box_of z1; have i0 := frozen_of z0 0; have i1 := frozen_of z0 1; have i2 := frozen_of z0 2; have i3 := frozen_of z0 3; have i4 := frozen_of z0 4; have j0 := frozen_of z1 0; have j1 := frozen_of z1 1; have j2 := frozen_of z1 2; have j3 := frozen_of z1 3; have j4 := frozen_of z1 4; clear z0 z1)
      | (go_at_call 10; refine (F1 _ (Kp.refl [] W).drew).mono ?_; rintro e v1 ⟨a1, n1, c1', rfl, M1⟩; have N1 : Hid (Mp W v1 a1 n1 c1' (short l)) := Mp.back (Kp.refl [] W).drew M1; have S1 : Hid (Kp [] W v1) := N1.out.kp; clear M1; have z1 := (C0.out _ S1.out).2; obtain ⟨e0, e1, e2, e3, e4⟩ := box_of z1; clear z1))
    all_goals
      have z0 := (C0.out _ S2.out).1
      have z1 := (C0.out _ S2.out).2
      have P0 := put5_block z0 (.int .i64 k) (.string (cutB x 20)) (.slice a1 n1 c1') (.bool b) (.string (cutB y 60))
      have P1 := put5_other (w := v2) (g := w.heap.size) (k := w.heap.size + 1) (by omega) (.int .i64 k) (.string (cutB x 20)) (.slice a1 n1 c1') (.bool b) (.string (cutB y 60)) (lt_of z1)
      rw [z1] at P1
      have R1 := put5_block P1 (.int .i64 k') (.string (cutB x' 20)) (.slice a2 n2 c2') (.bool b') (.string (cutB y' 60))
      have R0 := put5_other (w := put5 v2 w.heap.size (.int .i64 k) (.string (cutB x 20)) (.slice a1 n1 c1') (.bool b) (.string (cutB y 60))) (g := w.heap.size + 1) (k := w.heap.size) (by omega) (.int .i64 k') (.string (cutB x' 20)) (.slice a2 n2 c2') (.bool b') (.string (cutB y' 60)) (lt_of P0)
      rw [P0] at R0
      have KZ : Kp [w.heap.size, w.heap.size + 1] v2 (put5 (put5 v2 w.heap.size (.int .i64 k) (.string (cutB x 20)) (.slice a1 n1 c1') (.bool b) (.string (cutB y 60))) (w.heap.size + 1) (.int .i64 k') (.string (cutB x' 20)) (.slice a2 n2 c2') (.bool b') (.string (cutB y' 60))) := ((Kp.refl _ _).put5 (Or.inl (by simp)) _ _ _ _ _).put5 (Or.inl (by simp)) _ _ _ _ _
      have TZ : Hid _ := TW.out v1 v2 _ _ _ _ _ _ _ N1.out N2.out R0 R1 KZ
      clear KZ R0 R1 P0 P1 z0 z1 C0 F1 F2 TW N1 N2 S1 S2
      go_wp2_with fail
      go_meet
      case rel => exact TZ.out
  case rest =>
    obtain ⟨p, r, hp, hr, Bp, Br, Ap, Aq, kc⟩ := hcut
    have bp := few_brief (k, x, l, b, y)
    have np := few_name (k, x, l, b, y)
    have tp := few_text (k, x, l, b, y)
    have bq := few_brief (k', x', l', b', y')
    have nq' := few_name (k', x', l', b', y')
    have tq := few_text (k', x', l', b', y')
    rw [← hp] at bp np tp
    rw [← hr] at bq nq' tq
    clear hp hr C0 F1 F2 TW hW
    obtain ⟨⟨tk, tx', tl, tb, ty⟩, ta, tn, tc⟩ := p
    obtain ⟨⟨uk, ux, ul, ub, uy⟩, ua, un, uc⟩ := r
    simp only at bp np tp bq nq' tq
    have hAp : Rp wc ta tn tc tl := Ap.rp
    have hAq : Rp wc ua un uc ul := Aq.rp
    clear Ap Aq
    have hqc := hq.kept kc
    have hac : ∀ p, p ∈ qq → At wc p ∧ p.2.2.1 ≤ 140737488355328 := fun p hp => ⟨(hqa p hp).1.kept kc, (hqa p hp).2⟩
    clear hq hqa
    obtain rfl := hqc.len
    go_wp2
    go_loopw [7, 8] (fun v i wr => ∃ (j : Nat) (ao' : Option Addr) (n' c' : Nat) (q' : List Q), j ≤ qq.length ∧ j ≤ 20 ∧ i = .int .i64 j ∧ v = .slice ao' n' c' ∧ Mq wc wr ao' n' c' q' ∧ Hid (q'.map Prod.fst = ((qq.map Prod.fst).take j).map few)) (fun _ i _ => 20 - (intOf i).toNat)
    case atStart => exact ⟨0, _, _, _, [], Nat.zero_le _, Nat.zero_le _, rfl, rfl, Mq.nil wc, rfl⟩
    case round =>
      obtain ⟨j, ao', n', c', q', hj, hj20, rfl, rfl, M, he⟩ := hrel
      have hn' : n' ≤ 20 := by
        have h1 := M.len
        have h2 := congrArg List.length he.out
        simp at h2
        omega
      by_cases hgo : j < qq.length ∧ j < 20
      · obtain ⟨hlt, hlt2⟩ := hgo
        obtain ⟨b1, o1, rfl, g0, g1, g2, g3, g4⟩ := (hqc.kept M.kp).get j hlt
        obtain ⟨q1, q2⟩ := hac _ (List.getElem_mem hlt)
        have HN : Hid (((qq.map Prod.fst).take (j + 1)).map few = q'.map Prod.fst ++ [few qq[j].1]) := by
          show _ = _
          rw [he.out, tak (by simpa using hlt), List.map_append]
          simp
        clear he hac
        generalize qq[j] = p' at g0 g1 g2 g3 g4 q1 q2 HN
        obtain ⟨⟨pk, px, pl, pb, py⟩, pa, pn, pc⟩ := p'
        simp only at g0 g1 g2 g3 g4 q2
        have qr : Rp wr pa pn pc pl := Rp.kept q1 M.kp
        have HF := few_any wr pk px py pl pb pa pn pc qr q2
        unfold tv at HF
        clear q1 q2 qr hqc
        go_wp2_with fail
        refine HF.mono ?_
        rintro e w2 ⟨a2, n2, c2, rfl, M2⟩
        clear HF
        obtain ⟨a4, n4, c4, w4, hrun4, M4⟩ := (M.kept M2.kp).one ((pk, cutB px 20, short pl, pb, cutB py 60), a2, n2, c2) M2.1 (by omega)
        simp only at hrun4
        have HZ : Hid ((q' ++ [((pk, cutB px 20, short pl, pb, cutB py 60), a2, n2, c2)]).map Prod.fst = ((qq.map Prod.fst).take (j + 1)).map few) := by
          show _ = _
          rw [HN.out, List.map_append]
          rfl
        clear M M2 HN
        go_wp2_with (at_builtin; refine Lib.wpList_append_run _ rfl _ _ _ _ rfl _ _ rfl rfl _ _ (hrun4 _) ?_)
        go_roundw
        case rel => exact ⟨j + 1, _, _, _, _, by omega, by omega, by go_num, rfl, M4, HZ.out⟩
        case measure => simp [intOf]; omega
      · obtain ⟨c0, c1, c2, c3, c4⟩ := Bp.kept M.kp
        obtain ⟨d0, d1, d2, d3, d4⟩ := Br.kept M.kp
        simp only at c0 c1 c2 c3 c4 d0 d1 d2 d3 d4
        have HS1 := fun V (kV : Kp [] wc V) => alikes_any V tk uk tx' ux ty uy tl ul tb ub ta ua tn tc un uc (hAp.kept kV) (hAq.kept kV) bp bq (by omega) (by omega)
        have HS2 := fun V (kV : Kp [] wc V) => alikes_any V uk tk ux tx' uy ty ul tl ub tb ua ta un uc tn tc (hAq.kept kV) (hAp.kept kV) bq bp (by omega) (by omega)
        have CB : Hid (∀ V, Kp [] wc V → Bq V w.heap.size ((tk, tx', tl, tb, ty), ta, tn, tc) ∧ Bq V (w.heap.size + 1) ((uk, ux, ul, ub, uy), ua, un, uc)) := fun V kV => ⟨Bp.kept kV, Br.kept kV⟩
        have hl20 : ((qq.map Prod.fst).take j).length ≤ 20 := by simp; omega
        have hwt : wt (q'.map Prod.fst) ≤ 100000 := by
          rw [he.out]
          have := few_wt ((qq.map Prod.fst).take j)
          omega
        have htm : ∀ p, p ∈ q' → tame p.1 := fun p hp => by
          have : p.1 ∈ q'.map Prod.fst := List.mem_map.2 ⟨p, hp, rfl⟩
          rw [he.out] at this
          obtain ⟨t, _, e⟩ := List.mem_map.1 this
          rw [← e]
          exact few_tame t
        unfold tv at HS1 HS2
        have HS1' := HS1 _ M.kp
        have arq : ∀ p, p ∈ q' → At wr p := fun p hp => (M.ar p hp).rp
        have HJ := fun V (kV : Kp [] wr V) => join_any V q' ao' n' c' (M.rq.kept kV) (by omega) (fun p hp => (arq p hp).kept kV) htm hwt
        have HR := fun V (kV : Kp [] wr V) => ref_join_any V q' ao' n' c' (M.rq.kept kV) (by omega) (fun p hp => (arq p hp).kept kV) hwt
        have htj : ∀ u, u ∈ join (q'.map Prod.fst) → tame u := tame_join (fun u hu => by
          obtain ⟨p, hp, e⟩ := List.mem_map.1 hu
          rw [← e]
          exact htm p hp)
        have hlj : (join (q'.map Prod.fst)).length ≤ 1000 := by
          have h1 := join_len (q'.map Prod.fst)
          have h2 := M.len
          rw [List.length_map] at h1
          omega
        have kM := M.kp
        clear he hac hqc M arq htm hwt hl20 hAp hAq Bp Br
        rcases (show ¬ j < qq.length ∨ (j < qq.length ∧ ¬ j < 20) by omega) with h1 | ⟨h1, h2⟩
        all_goals
          clear hgo
          go_wp2_with fail
          refine HS1'.mono ?_
          rintro e v1 ⟨rfl, k1⟩
          have K1 := kM.trans k1 (fun z hz => by simp at hz)
          clear c0 c1 c2 c3 c4 d0 d1 d2 d3 d4
          obtain ⟨⟨c0, c1, c2, c3, c4⟩, ⟨d0, d1, d2, d3, d4⟩⟩ := CB.out v1 K1
          simp only at c0 c1 c2 c3 c4 d0 d1 d2 d3 d4
          have HS2' := HS2 v1 K1
          go_wp2_with fail
          refine HS2'.mono ?_
          rintro e v2 ⟨rfl, k2⟩
          have L2 := k1.trans k2 (fun z hz => by simp at hz)
          clear c0 c1 c2 c3 c4 d0 d1 d2 d3 d4 HS1 HS1' HS2 HS2'
          have HJ' := HJ v2 L2
          go_wp2_with fail
          refine HJ'.mono ?_
          rintro e v3 ⟨a3, n3, c3, q3, rfl, M3, e3⟩
          clear HJ HJ'
          have L3 := L2.trans M3.kp (fun z hz => by simp at hz)
          have HR' := HR v3 L3
          go_wp2_with fail
          refine HR'.mono ?_
          rintro e v4 ⟨a4, n4, c4, q4, rfl, M4, A4, e4⟩
          clear HR HR'
          have L4 := L3.trans M4.kp (fun z hz => by simp at hz)
          have HT := tokens_any v4 q3 q4 a3 a4 n3 c3 n4 c4 (M3.rq.kept M4.kp) M4.rq (by
            have z1 := M3.len
            have z2 := congrArg List.length e3
            rw [List.length_map] at z2
            omega) (fun p hp => ((M3.ar p hp).rp).kept M4.kp) (fun p hp => (A4 p hp).kept M4.kp) (fun p hp => htj _ (by rw [← e3]; exact List.mem_map.2 ⟨p, hp, rfl⟩)) (by rw [e3, e4])
          clear M3 M4 A4 e3 e4
          go_wp2_with fail
          refine HT.mono ?_
          rintro e v5 ⟨rfl, k5⟩
          clear HT
          have HK := known_any v5
          go_wp2_with fail
          refine HK.mono ?_
          rintro e v6 ⟨rfl, k6⟩
          clear HK
          have KZ := (((kc.trans kM (fun z hz => by simp at hz)).trans L4 (fun z hz => by simp at hz)).trans k5 (fun z hz => by simp at hz)).trans k6 (fun z hz => by simp at hz)
          go_wp2
          go_ret
          exact ⟨rfl, KZ⟩

end Go.Proofs.Ytgeebmlincddkaa
