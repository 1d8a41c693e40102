/-
  TokenJoins: joined, no two Texts stand side by side; joined again nothing is turned; the text in all is the same.
-/
import Derived.Test.YtgeebmlincddkaaSigns
import Derived.Test.YtgeebmlincddkaaTokens
import Derived.Test.YtgeebmlincddkaaJoin
import Derived.Test.YtgeebmlincddkaaAgree
namespace Go.Proofs.Ytgeebmlincddkaa
open Go.RowKit

/-- append of one; what lies elsewhere is kept. -/
theorem Mq.oneK {w w1 : World} {ao : Option Addr} {n c : Nat} {q : List Q} (h : Mq w w1 ao n c q) (p : Q) (hp : Ar w1 p) (hlen : n + 1 ≤ 1000000) :
    ∃ ao' n' c' w2, (∀ ty, (Builtin.append_ #[28, 28] ty #[.slice ao n c, .slice (some ⟨w1.heap.size, 0, none⟩) 1 1]).run Try.prog (w1.alloc (.cells #[.int .i64 p.1.1, .string p.1.2.1, .slice p.2.1 p.2.2.1 p.2.2.2, .bool p.1.2.2.2.1, .string p.1.2.2.2.2] 24)) = .ok (.slice ao' n' c') w2) ∧ Mq w w2 ao' n' c' (q ++ [p]) ∧ Kp (blk (.slice ao n c)) w1 w2 := by
  have k1 : Kp [] w1 (w1.alloc (.cells #[.int .i64 p.1.1, .string p.1.2.1, .slice p.2.1 p.2.2.1 p.2.2.2, .bool p.1.2.2.2.1, .string p.1.2.2.2.2] 24)) := (Kp.refl _ _).alloc _
  have hs := src_tok (p := p) (heap_new w1 _)
  have hp' := hp.keep k1 (fun _ _ => by simp)
  obtain ⟨h1, h2, h3, h4⟩ := h.kept k1
  obtain ⟨v', w2, hrun, o2, k2, b2, a2, c2, rfl⟩ := appK Try.underlying28 info24 rfl (by decide) _ _ _ _ h1 _ 1 (qs [p]) hs (fun _ => by omega) hlen
  refine ⟨_, _, _, w2, hrun, ⟨by rw [qs_append]; exact o2, h2.trans k2 (fun x hx => Or.inr (h3 x hx)), fun k hk => ?_, fun r hr => ?_⟩, ((Kp.refl _ _).alloc _).trans k2 (fun x hx => Or.inl hx)⟩
  · rcases b2 k hk with h4 | h4
    · exact h3 k h4
    · have := h2.size
      omega
  · have hx := (List.mem_append.1 hr).elim (h4 r) (fun e => by rw [List.mem_singleton.1 e]; exact hp')
    exact hx.keep k2 (hx.apart h1)

theorem few_meek (t : Tok) : tame (few t) := ⟨by have := few_name t; omega, few_brief t⟩

theorem size_alloc_one (w : World) (o : Obj) : (w.alloc o).heap.size = w.heap.size + 1 := by simp

/-- What is said of the tokens so far. -/
def Sofar (q : List Q) (s : ByteArray) : Prop := s = all4 ⟨#[]⟩ (q.map Prod.fst) ∧ (∀ p, p ∈ q → tame p.1) ∧ wt (q.map Prod.fst) ≤ q.length * 60

theorem sofar_more {q : List Q} {s : ByteArray} (h : Sofar q s) (p : Q) (h1 : tame p.1) (h2 : (tt p.1).size ≤ 60) : Sofar (q ++ [p]) (if p.1.1 = 4 then s ++ tt p.1 else s) := by
  obtain ⟨a, b, c⟩ := h
  refine ⟨?_, fun r hr => ?_, ?_⟩
  · rw [List.map_append, List.map_singleton, all4_snoc, a]
  · rcases List.mem_append.1 hr with hr | hr
    · exact b r hr
    · rw [List.mem_singleton.1 hr]
      exact h1
  · rw [List.map_append, List.map_singleton, wt_append, wt_cons, List.length_append, List.length_singleton]
    show _ + ((tt p.1).size + 0) ≤ _
    omega

theorem all4_size : ∀ (l : List Tok) (s : ByteArray), (all4 s l).size ≤ s.size + wt l
  | [], s => Nat.le_refl _
  | t :: l, s => by
    have h := all4_size l (if t.1 = 4 then s ++ tt t else s)
    have e : all4 s (t :: l) = all4 (if t.1 = 4 then s ++ tt t else s) l := rfl
    rw [e, wt_cons]
    by_cases h4 : t.1 = 4
    · rw [if_pos h4] at h ⊢
      rw [cat_size] at h
      omega
    · rw [if_neg h4] at h ⊢
      omega

theorem all4_tak {l : List Tok} {k : Nat} (h : k < l.length) : all4 ⟨#[]⟩ (l.take (k + 1)) = if l[k].1 = 4 then all4 ⟨#[]⟩ (l.take k) ++ tt l[k] else all4 ⟨#[]⟩ (l.take k) := by
  rw [tak h, all4_snoc]

set_option maxRecDepth 100000 in
set_option maxHeartbeats 1000000 in
theorem joins_any (w : World) (qo : Option Addr) (qn qc : Nat) (qq : List Q) (hq : Rq w qo qn qc qq) (hqn : qn ≤ 140737488355328) (hqa : ∀ p, p ∈ qq → At w p ∧ p.2.2.1 ≤ 140737488355328) (bo : Option Addr) (m d : Nat) (F : Nat → Bool) (hb : ∀ i, i < m → ∃ b off, bo = some ⟨b, off, none⟩ ∧ w.cell? ⟨b, off + i, none⟩ = some (.bool (F i))) :
    Calls Try.prog 5 #[.slice qo qn qc, .slice bo m d] w fun e w' => e = .returned (.bool true) ∧ Kp [] w w' := by
  obtain rfl := hq.len
  go_enter Try.func5, Try.ntmps5
  go_wp2
  go_loopw [5, 6, 7] (fun v s i wr => ∃ (j : Nat) (ao' : Option Addr) (n' c' : Nat) (q' : List Q) (S : ByteArray), j ≤ qq.length ∧ j ≤ 30 ∧ i = .int .i64 j ∧ v = .slice ao' n' c' ∧ s = .string S ∧ Mq w wr ao' n' c' q' ∧ Hid (Sofar q' S ∧ q'.length = j)) (fun _ _ i _ => 30 - (intOf i).toNat)
  case atStart => exact ⟨0, _, _, _, [], _, Nat.zero_le _, Nat.zero_le _, rfl, rfl, rfl, Mq.nil w, ⟨rfl, fun p hp => by simp at hp, by simp [wt]⟩, rfl⟩
  case round =>
    obtain ⟨j, ao', n', c', q', S, hj, hj30, rfl, rfl, rfl, M, he⟩ := hrel
    have hn' : n' ≤ 30 := by
      have h1 := M.len
      have h2 := he.out.2
      omega
    have hS : S.size ≤ 1800 := by
      have h1 := all4_size (q'.map Prod.fst) ⟨#[]⟩
      rw [← he.out.1.1] at h1
      have h2 := he.out.1.2.2
      have h3 := he.out.2
      have h4 : (⟨#[]⟩ : ByteArray).size = 0 := rfl
      omega
    by_cases hgo : j < qq.length ∧ j < 30
    · obtain ⟨hlt, hlt2⟩ := hgo
      obtain ⟨b1, o1, rfl, g0, g1, g2, g3, g4⟩ := (hq.kept M.kp).get j hlt
      obtain ⟨q1, q2⟩ := hqa _ (List.getElem_mem hlt)
      have fb := few_meek qq[j].1
      have fx := few_text qq[j].1
      have hbl : ∀ x, x ∈ blk (.slice ao' n' c') → x < wr.heap.size := M.1.lt
      clear hqa
      generalize qq[j] = p' at g0 g1 g2 g3 g4 q1 q2 fb fx
      obtain ⟨⟨pk, px, pl, pb, py⟩, pa, pn, pc⟩ := p'
      simp only at g0 g1 g2 g3 g4 q2
      have fb' : tame (pk, cutB px 20, short pl, pb, cutB py 60) := fb
      have fx' : (cutB py 60).size ≤ 60 := fx
      have qr : Rp wr pa pn pc pl := Rp.kept q1 M.kp
      have HF := few_any wr pk px py pl pb pa pn pc qr q2
      unfold tv at HF
      clear q1 q2 qr hq fb fx
      generalize cutB px 20 = x at HF fb'
      generalize cutB py 60 = y at HF fb' fx'
      generalize short pl = sl at HF fb'
      go_wp2_with fail
      refine HF.mono ?_
      rintro e w2 ⟨a2, n2, c2, rfl, M2⟩
      clear HF g0 g1 g2 g3 g4
      have hw2 := M2.kp.size
      have MM := M.kept M2.kp
      have AR : Hid (Ar w2 ((pk, x, sl, pb, y), a2, n2, c2)) := M2.1
      have kw2 := MM.kp
      have j1 : ¬ 9223372036854775807 < S.size + y.size := by omega
      clear M M2
      by_cases hm : j < m
      · obtain ⟨b3, o3, rfl, f0⟩ := hb j hm
        have f1 : w2.cell? ⟨b3, o3 + j, none⟩ = some (.bool (F j)) := by rw [kw2.cell (block_lt_of_cell f0) (by simp)]; exact f0
        have f2 : (w2.alloc (.cells #[.int .i64 pk, .string x, .slice a2 n2 c2, .bool pb, .string y] 24)).cell? ⟨b3, o3 + j, none⟩ = some (.bool (F j)) := by
          rw [((Kp.refl [] w2).alloc _).cell (block_lt_of_cell f1) (by simp)]
          exact f1
        clear f0 f1
        cases hF : F j with
        | true =>
          rw [hF] at f2
          have kx : Kp [] w2 (w2.alloc (.cells #[.int .i64 4, .string ⟨#[]⟩, .slice none 0 0, .bool false, .string y] 24)) := (Kp.refl _ _).alloc _
          obtain ⟨a4, n4, c4, w4, hrun4, M4, k4⟩ := (MM.kept kx).oneK ((4, (⟨#[]⟩ : ByteArray), ([] : List Att), false, y), (none : Option Addr), 0, 0) (Ar.keep (show Ar w2 ((4, (⟨#[]⟩ : ByteArray), ([] : List Att), false, y), (none : Option Addr), 0, 0) from ⟨rfl, Or.inl ⟨rfl, rfl⟩⟩) kx (fun _ _ => by simp)) (by omega)
          simp only [size_alloc_one] at hrun4
          have hbx : w4.heap[w2.heap.size]? = some (.cells #[.int .i64 4, .string ⟨#[]⟩, .slice none 0 0, .bool false, .string y] 24) := by
            rw [k4.block _ (by simp) (fun h => by have := hbl _ h; omega)]
            exact heap_new w2 _
          obtain ⟨x0, x1, x2, x3, x4⟩ := box_of hbx
          have HZ : Hid (Sofar (q' ++ [((4, (⟨#[]⟩ : ByteArray), ([] : List Att), false, y), (none : Option Addr), 0, 0)]) (S ++ y) ∧ (q' ++ [((4, (⟨#[]⟩ : ByteArray), ([] : List Att), false, y), (none : Option Addr), 0, 0)]).length = j + 1) := by
            refine ⟨?_, by rw [List.length_append, List.length_singleton, he.out.2]⟩
            have := sofar_more he.out.1 ((4, (⟨#[]⟩ : ByteArray), ([] : List Att), false, y), (none : Option Addr), 0, 0) ⟨by show (0 : Nat) ≤ 1000; omega, by simp, fun a ha => by simp at ha⟩ fx'
            rw [if_pos (show (4 : Int) = 4 from rfl)] at this
            exact this
          clear he MM kx k4 hbx hbl AR hb
          go_wp2_with (at_builtin; refine Lib.wpList_append_run _ rfl _ _ _ _ rfl _ _ rfl rfl _ _ (hrun4 _) ?_)
          go_roundw
          case rel => exact ⟨j + 1, _, _, _, _, _, by omega, by omega, by go_num, rfl, rfl, M4, HZ.out⟩
          case measure => simp [intOf]; omega
        | false =>
          rw [hF] at f2
          by_cases h4 : pk = 4
          · subst h4
            have kx : Kp [] w2 (w2.alloc (.cells #[.int .i64 4, .string x, .slice a2 n2 c2, .bool pb, .string y] 24)) := (Kp.refl _ _).alloc _
            obtain ⟨a4, n4, c4, w4, hrun4, M4, k4⟩ := (MM.kept kx).oneK ((4, x, sl, pb, y), a2, n2, c2) (Ar.keep (show Ar w2 ((4, x, sl, pb, y), a2, n2, c2) from AR.out) kx (fun _ _ => by simp)) (by omega)
            simp only [size_alloc_one] at hrun4
            have hbx : w4.heap[w2.heap.size]? = some (.cells #[.int .i64 4, .string x, .slice a2 n2 c2, .bool pb, .string y] 24) := by
              rw [k4.block _ (by simp) (fun h => by have := hbl _ h; omega)]
              exact heap_new w2 _
            obtain ⟨x0, x1, x2, x3, x4⟩ := box_of hbx
            have HZ : Hid (Sofar (q' ++ [((4, x, sl, pb, y), a2, n2, c2)]) (S ++ y) ∧ (q' ++ [((4, x, sl, pb, y), a2, n2, c2)]).length = j + 1) := by
              refine ⟨?_, by rw [List.length_append, List.length_singleton, he.out.2]⟩
              have := sofar_more he.out.1 ((4, x, sl, pb, y), a2, n2, c2) fb' fx'
              rw [if_pos (show (4 : Int) = 4 from rfl)] at this
              exact this
            clear he MM kx k4 hbx hbl AR hb
            go_wp2_with (at_builtin; refine Lib.wpList_append_run _ rfl _ _ _ _ rfl _ _ rfl rfl _ _ (hrun4 _) ?_)
            go_roundw
            case rel => exact ⟨j + 1, _, _, _, _, _, by omega, by omega, by go_num, rfl, rfl, M4, HZ.out⟩
            case measure => simp [intOf]; omega
          · have h5 : (pk == 4) = false := by simpa using h4
            have kx : Kp [] w2 (w2.alloc (.cells #[.int .i64 pk, .string x, .slice a2 n2 c2, .bool pb, .string y] 24)) := (Kp.refl _ _).alloc _
            obtain ⟨a4, n4, c4, w4, hrun4, M4, k4⟩ := (MM.kept kx).oneK ((pk, x, sl, pb, y), a2, n2, c2) (Ar.keep (show Ar w2 ((pk, x, sl, pb, y), a2, n2, c2) from AR.out) kx (fun _ _ => by simp)) (by omega)
            simp only [size_alloc_one] at hrun4
            have hbx : w4.heap[w2.heap.size]? = some (.cells #[.int .i64 pk, .string x, .slice a2 n2 c2, .bool pb, .string y] 24) := by
              rw [k4.block _ (by simp) (fun h => by have := hbl _ h; omega)]
              exact heap_new w2 _
            obtain ⟨x0, x1, x2, x3, x4⟩ := box_of hbx
            have HZ : Hid (Sofar (q' ++ [((pk, x, sl, pb, y), a2, n2, c2)]) (S) ∧ (q' ++ [((pk, x, sl, pb, y), a2, n2, c2)]).length = j + 1) := by
              refine ⟨?_, by rw [List.length_append, List.length_singleton, he.out.2]⟩
              have := sofar_more he.out.1 ((pk, x, sl, pb, y), a2, n2, c2) fb' fx'
              rw [if_neg h4] at this
              exact this
            clear he MM kx k4 hbx hbl AR hb
            go_wp2_with (at_builtin; refine Lib.wpList_append_run _ rfl _ _ _ _ rfl _ _ rfl rfl _ _ (hrun4 _) ?_)
            go_roundw
            case rel => exact ⟨j + 1, _, _, _, _, _, by omega, by omega, by go_num, rfl, rfl, M4, HZ.out⟩
            case measure => simp [intOf]; omega
      · by_cases h4 : pk = 4
        · subst h4
          have kx : Kp [] w2 (w2.alloc (.cells #[.int .i64 4, .string x, .slice a2 n2 c2, .bool pb, .string y] 24)) := (Kp.refl _ _).alloc _
          obtain ⟨a4, n4, c4, w4, hrun4, M4, k4⟩ := (MM.kept kx).oneK ((4, x, sl, pb, y), a2, n2, c2) (Ar.keep (show Ar w2 ((4, x, sl, pb, y), a2, n2, c2) from AR.out) kx (fun _ _ => by simp)) (by omega)
          simp only [size_alloc_one] at hrun4
          have hbx : w4.heap[w2.heap.size]? = some (.cells #[.int .i64 4, .string x, .slice a2 n2 c2, .bool pb, .string y] 24) := by
            rw [k4.block _ (by simp) (fun h => by have := hbl _ h; omega)]
            exact heap_new w2 _
          obtain ⟨x0, x1, x2, x3, x4⟩ := box_of hbx
          have HZ : Hid (Sofar (q' ++ [((4, x, sl, pb, y), a2, n2, c2)]) (S ++ y) ∧ (q' ++ [((4, x, sl, pb, y), a2, n2, c2)]).length = j + 1) := by
            refine ⟨?_, by rw [List.length_append, List.length_singleton, he.out.2]⟩
            have := sofar_more he.out.1 ((4, x, sl, pb, y), a2, n2, c2) fb' fx'
            rw [if_pos (show (4 : Int) = 4 from rfl)] at this
            exact this
          clear he MM kx k4 hbx hbl AR hb
          go_wp2_with (at_builtin; refine Lib.wpList_append_run _ rfl _ _ _ _ rfl _ _ rfl rfl _ _ (hrun4 _) ?_)
          go_roundw
          case rel => exact ⟨j + 1, _, _, _, _, _, by omega, by omega, by go_num, rfl, rfl, M4, HZ.out⟩
          case measure => simp [intOf]; omega
        · have h5 : (pk == 4) = false := by simpa using h4
          have kx : Kp [] w2 (w2.alloc (.cells #[.int .i64 pk, .string x, .slice a2 n2 c2, .bool pb, .string y] 24)) := (Kp.refl _ _).alloc _
          obtain ⟨a4, n4, c4, w4, hrun4, M4, k4⟩ := (MM.kept kx).oneK ((pk, x, sl, pb, y), a2, n2, c2) (Ar.keep (show Ar w2 ((pk, x, sl, pb, y), a2, n2, c2) from AR.out) kx (fun _ _ => by simp)) (by omega)
          simp only [size_alloc_one] at hrun4
          have hbx : w4.heap[w2.heap.size]? = some (.cells #[.int .i64 pk, .string x, .slice a2 n2 c2, .bool pb, .string y] 24) := by
            rw [k4.block _ (by simp) (fun h => by have := hbl _ h; omega)]
            exact heap_new w2 _
          obtain ⟨x0, x1, x2, x3, x4⟩ := box_of hbx
          have HZ : Hid (Sofar (q' ++ [((pk, x, sl, pb, y), a2, n2, c2)]) (S) ∧ (q' ++ [((pk, x, sl, pb, y), a2, n2, c2)]).length = j + 1) := by
            refine ⟨?_, by rw [List.length_append, List.length_singleton, he.out.2]⟩
            have := sofar_more he.out.1 ((pk, x, sl, pb, y), a2, n2, c2) fb' fx'
            rw [if_neg h4] at this
            exact this
          clear he MM kx k4 hbx hbl AR hb
          go_wp2_with (at_builtin; refine Lib.wpList_append_run _ rfl _ _ _ _ rfl _ _ rfl rfl _ _ (hrun4 _) ?_)
          go_roundw
          case rel => exact ⟨j + 1, _, _, _, _, _, by omega, by omega, by go_num, rfl, rfl, M4, HZ.out⟩
          case measure => simp [intOf]; omega
    · have hsf := he.out.1
      have hlq := he.out.2
      have HJ := join_any wr q' ao' n' c' M.rq (by omega) (fun p hp => (M.ar p hp).rp) hsf.2.1 (by have := hsf.2.2; omega)
      have hMl := M.len
      have kM := M.kp
      have hfin : Hid (S = all4 ⟨#[]⟩ (join (q'.map Prod.fst))) := by
        show _ = _
        rw [all4_join]
        exact hsf.1
      have hwt : wt (join (q'.map Prod.fst)) ≤ 1800 := by
        rw [wt_join]
        have := hsf.2.2
        omega
      have htj : Hid (∀ u, u ∈ join (q'.map Prod.fst) → tame u) := tame_join (fun u hu => by
        obtain ⟨p, hp, e⟩ := List.mem_map.1 hu
        rw [← e]
        exact hsf.2.1 p hp)
      have hjl : (join (q'.map Prod.fst)).length ≤ n' := by
        have := join_len (q'.map Prod.fst)
        rw [List.length_map] at this
        omega
      have hal := join_alone (q'.map Prod.fst)
      have hjj : Hid (join (join (q'.map Prod.fst)) = join (q'.map Prod.fst)) := join_join _
      clear he hsf hlq M hq hqa hb hMl
      generalize join (q'.map Prod.fst) = J at HJ hfin hwt htj hjl hal hjj
      rcases (show ¬ j < qq.length ∨ (j < qq.length ∧ ¬ j < 30) by omega) with h1 | ⟨h1, h2⟩
      all_goals
        clear hgo
        go_wp2_with fail
        refine HJ.mono ?_
        rintro e v1 ⟨a3, n3, c3, q3, rfl, M3, e3⟩
        clear HJ
        have hn3 : n3 ≤ n' := by
          have z1 := M3.len
          have z2 := congrArg List.length e3
          rw [List.length_map] at z2
          omega
        have hl3 : n3 = q3.length := M3.len
        have hJl : J.length = q3.length := by rw [← e3, List.length_map]
        have R3 := M3.rq
        have hat : Hid (∀ t (h : t < q3.length) (h' : t < J.length), J[t] = q3[t].1) := fun t h h' => by
          have : (q3.map Prod.fst)[t]'(by simpa using h) = q3[t].1 := by simp
          rw [← this]
          simp only [e3]
        subst hl3
        go_wp2
        go_loopw [10, 11] (fun g i wz => ∃ t : Nat, t ≤ q3.length ∧ i = .int .i64 t ∧ g = .string (all4 ⟨#[]⟩ (J.take t)) ∧ v1 = wz) (fun _ i _ => q3.length - (intOf i).toNat)
        case atStart => exact ⟨0, Nat.zero_le _, rfl, rfl, rfl⟩
        case round =>
          obtain ⟨t, ht, rfl, rfl, rfl⟩ := hrel
          have hsz : (all4 ⟨#[]⟩ (J.take t)).size ≤ 1800 := by
            have z1 := all4_size (J.take t) ⟨#[]⟩
            have z2 := wt_take J t
            have z3 : (⟨#[]⟩ : ByteArray).size = 0 := rfl
            omega
          by_cases hlt : t < q3.length
          · obtain ⟨b3, o3, rfl, g0, g1, g2, g3, g4⟩ := R3.get t hlt
            have hsn := all4_tak (l := J) (k := t) (by omega)
            have hJt := hat.out t hlt (by omega)
            have htx : q3[t].1.2.2.2.2.size ≤ 1800 := by
              have z1 := wt_at (l := J) (t := q3[t].1) (by rw [← hJt]; exact List.getElem_mem _)
              unfold tt at z1
              omega
            by_cases h4 : q3[t].1.1 = 4
            · rw [hJt, if_pos h4] at hsn
              have hsn' : Hid (all4 ⟨#[]⟩ (J.take (t + 1)) = all4 ⟨#[]⟩ (J.take t) ++ q3[t].1.2.2.2.2) := hsn
              have hprev : Hid (∀ (s : Nat) (hs : s < q3.length), t = s + 1 → ¬ q3[s].1.1 = 4) := fun s hs e => by
                subst e
                have z := hal (s + 1) (by omega) (by omega) (by rw [hJt]; exact h4)
                have z2 := hat.out s hs (by omega)
                simp only [Nat.add_sub_cancel] at z
                rw [z2] at z
                exact z
              rw [h4] at g0
              generalize q3[t].1.2.2.2.2 = y at g4 htx hsn'
              clear hsn hJt h4
              generalize all4 ⟨#[]⟩ (J.take t) = G at hsz hsn'
              have j1 : ¬ 9223372036854775807 < G.size + y.size := by omega
              rcases Nat.eq_zero_or_pos t with hz | hz
              · subst hz
                clear hprev hat
                rw [show ((0 : Nat) : Int) = 0 from rfl]
                simp only [Nat.zero_mul, Nat.add_zero] at g0 g1 g2 g3 g4
                go_wp2
                go_roundw
                case rel => exact ⟨1, by omega, by go_num, by rw [hsn'.out], by first | trivial | rfl⟩
                case measure => simp [intOf]; omega
              · obtain ⟨s, rfl⟩ : ∃ s, t = s + 1 := ⟨t - 1, by omega⟩
                obtain ⟨b4, o4, e4, f0, _⟩ := R3.get s (by omega)
                simp only [Option.some.injEq, Addr.mk.injEq, and_true] at e4
                obtain ⟨rfl, rfl⟩ := e4
                have h5 := hprev.out s (by omega) rfl
                have h6 : (q3[s].1.1 == 4) = false := by simpa using h5
                generalize q3[s].1.1 = pk at f0 h5 h6
                clear hprev hat
                rw [show ((s + 1 : Nat) : Int) = (s : Int) + 1 from rfl]
                go_wp2
                go_roundw
                case rel => exact ⟨s + 1 + 1, by omega, by go_num, by rw [hsn'.out], by first | trivial | rfl⟩
                case measure => simp [intOf]; omega
            · rw [hJt, if_neg h4] at hsn
              have hsn' : Hid (all4 ⟨#[]⟩ (J.take (t + 1)) = all4 ⟨#[]⟩ (J.take t)) := hsn
              have h6 : (q3[t].1.1 == 4) = false := by simpa using h4
              generalize q3[t].1.1 = pk at g0 h4 h6 hJt
              clear hsn hat hJt
              go_wp2
              go_roundw
              case rel => exact ⟨t + 1, by omega, by go_num, by rw [hsn'.out], by first | trivial | rfl⟩
              case measure => simp [intOf]; omega
          · obtain rfl : t = q3.length := by omega
            have hG : all4 ⟨#[]⟩ (J.take q3.length) = S := by rw [hfin.out, List.take_of_length_le (by omega)]
            rw [hG]
            have HJ2 := join_any v1 q3 a3 q3.length c3 R3 (by omega) (fun p hp => (M3.ar p hp).rp) (fun p hp => htj.out _ (by rw [← e3]; exact List.mem_map.2 ⟨p, hp, rfl⟩)) (by rw [e3]; omega)
            rw [e3, hjj.out] at HJ2
            have kz := kM.trans M3.kp (fun z hz => by simp at hz)
            have A3 : Hid (∀ p, p ∈ q3 → At v1 p) := fun p hp => (M3.ar p hp).rp
            have e3' : Hid (q3.map Prod.fst = J) := e3
            have hq3 : q3.length ≤ 30 := by omega
            have hle : decide (q3.length ≤ n') = true := by simpa using hn3
            have hle2 : decide ((q3.length : Int) ≤ (n' : Int)) = true := by simp; omega
            clear hat hG hfin M3 e3 hsz kM
            go_wp2_with fail
            refine HJ2.mono ?_
            rintro e v2 ⟨a5, n5, c5, q5, rfl, M5, e5⟩
            clear HJ2
            have HT := tokens_any v2 q5 q3 a5 a3 n5 c5 q3.length c3 M5.rq (R3.kept M5.kp) (by
              have z1 := M5.len
              have z2 := congrArg List.length e5
              rw [List.length_map] at z2
              omega) (fun p hp => (M5.ar p hp).rp) (fun p hp => (A3.out p hp).kept M5.kp) (fun p hp => htj.out _ (by rw [← e5]; exact List.mem_map.2 ⟨p, hp, rfl⟩)) (by rw [e5, e3'.out])
            have k5 := M5.kp
            clear M5 e5
            go_wp2_with fail
            refine HT.mono ?_
            rintro e v3 ⟨rfl, k6⟩
            clear HT
            have HK := known_any v3
            go_wp2_with fail
            refine HK.mono ?_
            rintro e v4 ⟨rfl, k7⟩
            clear HK
            have KZ := ((kz.trans k5 (fun z hz => by simp at hz)).trans k6 (fun z hz => by simp at hz)).trans k7 (fun z hz => by simp at hz)
            go_wp2
            go_ret
            exact ⟨rfl, KZ⟩

end Go.Proofs.Ytgeebmlincddkaa
