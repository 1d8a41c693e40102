/-
  The document's Join.
-/
import Derived.Test.YtgeebmlincddkaaToks
import Derived.Test.YtgeebmlincddkaaJoined
import Derived.BigQuiet
namespace Go.Proofs.Ytgeebmlincddkaa
open Go.RowKit

/-- A slice of tokens that a call made; their attributes may lie anywhere. -/
def Mo (w w' : World) (ao : Option Addr) (n c : Nat) (q : List Q) : Prop := OwnK 5 w' 24 (.slice ao n c) n (qs q) ∧ Kp [] w w' ∧ ∀ k, k ∈ blk (.slice ao n c) → w.heap.size ≤ k

theorem Mo.nil (w : World) : Mo w w none 0 0 [] := ⟨⟨rfl, Or.inl ⟨rfl, rfl⟩⟩, Kp.refl _ _, fun k hk => by simp [blk] at hk⟩

theorem Mo.len {w w' : World} {ao : Option Addr} {n c : Nat} {q : List Q} (h : Mo w w' ao n c q) : n = q.length := by
  have := h.1.1
  rw [qs_len] at this
  omega

theorem Mo.rq {w w' : World} {ao : Option Addr} {n c : Nat} {q : List Q} (h : Mo w w' ao n c q) : Rq w' ao n c q := Rq.of_own h.1

theorem Mo.kp {w w' : World} {ao : Option Addr} {n c : Nat} {q : List Q} (h : Mo w w' ao n c q) : Kp [] w w' := h.2.1

theorem Mo.kept {w w1 w2 : World} {ao : Option Addr} {n c : Nat} {q : List Q} (h : Mo w w1 ao n c q) (k : Kp [] w1 w2) : Mo w w2 ao n c q :=
  ⟨h.1.keep k (fun _ _ => by simp), h.2.1.trans k (fun x hx => by simp at hx), h.2.2⟩

theorem Mo.one {w w1 : World} {ao : Option Addr} {n c : Nat} {q : List Q} (h : Mo w w1 ao n c q) (p : Q) (hlen : n + 1 ≤ 1000000) :
    ∃ ao' n' c' w2, (∀ ty, (Builtin.append_ #[28, 28] ty #[.slice ao n c, .slice (some ⟨w1.heap.size, 0, none⟩) 1 1]).run Try.prog (w1.alloc (.cells #[.int .i64 p.1.1, .string p.1.2.1, .slice p.2.1 p.2.2.1 p.2.2.2, .bool p.1.2.2.2.1, .string p.1.2.2.2.2] 24)) = .ok (.slice ao' n' c') w2) ∧ Mo w w2 ao' n' c' (q ++ [p]) := by
  have k1 : Kp [] w1 (w1.alloc (.cells #[.int .i64 p.1.1, .string p.1.2.1, .slice p.2.1 p.2.2.1 p.2.2.2, .bool p.1.2.2.2.1, .string p.1.2.2.2.2] 24)) := (Kp.refl _ _).alloc _
  have hs := src_tok (p := p) (heap_new w1 _)
  obtain ⟨h1, h2, h3⟩ := h.kept k1
  obtain ⟨v', w2, hrun, o2, k2, b2, a2, c2, rfl⟩ := appK Try.underlying28 info24 rfl (by decide) _ _ _ _ h1 _ 1 (qs [p]) hs (fun _ => by omega) hlen
  refine ⟨_, _, _, w2, hrun, by rw [qs_append]; exact o2, h2.trans k2 (fun x hx => Or.inr (h3 x hx)), fun k hk => ?_⟩
  rcases b2 k hk with h4 | h4
  · exact h3 k h4
  · have := h2.size
    omega

theorem nil_or_last (l : List Q) : l = [] ∨ ∃ m u, l = m ++ [u] := by
  by_cases h : l = []
  · exact Or.inl h
  · exact Or.inr ⟨l.dropLast, l.getLast h, (List.dropLast_concat_getLast h).symm⟩

theorem qs_text (q1 : List Q) (u : Q) (y : ByteArray) : qs (q1 ++ [(setText u.1 y, u.2)]) = (qs (q1 ++ [u])).set (q1.length * 5 + 4) (.string y) := by
  rw [qs_append, qs_append, List.set_append_right _ _ (by rw [qs_len]; omega), qs_len, show q1.length * 5 + 4 - q1.length * 5 = 4 by omega]
  rfl

/-- The last one's Text is stored. -/
theorem Mo.text {w w1 : World} {ao : Option Addr} {n c : Nat} {q1 : List Q} {u : Q} (h : Mo w w1 ao n c (q1 ++ [u])) (y : ByteArray) :
    ∃ b off, ao = some ⟨b, off, none⟩ ∧ n = q1.length + 1 ∧ n ≤ c ∧ w1.cell? ⟨b, off + q1.length * 5, none⟩ = some (.int .i64 u.1.1) ∧ w1.cell? ⟨b, off + q1.length * 5 + 4, none⟩ = some (.string u.1.2.2.2.2) ∧ w1.frozen? ⟨b, off + q1.length * 5 + 4, none⟩ = false ∧ Mo w (w1.setCell ⟨b, off + q1.length * 5 + 4, none⟩ (.string y)) ao n c (q1 ++ [(setText u.1 y, u.2)]) := by
  have hl := h.len
  rw [List.length_append, List.length_singleton] at hl
  have hrq := h.rq
  obtain ⟨b, off, e, g0, _, _, _, g4⟩ := hrq.get q1.length (by simp)
  rw [List.getElem_append_right (Nat.le_refl _)] at g0 g4
  simp only [Nat.sub_self, List.getElem_singleton] at g0 g4
  obtain ⟨⟨h0, h1⟩, h2, h3⟩ := h
  rcases h1 with ⟨e1, h5⟩ | ⟨g, o, cap, cur, hv, hg, e1, e2, e3, e4⟩
  · omega
  · simp only [Value.slice.injEq] at hv
    obtain ⟨rfl, _, rfl⟩ := hv
    simp only [Option.some.injEq, Addr.mk.injEq, and_true] at e
    obtain ⟨rfl, rfl⟩ := e
    have hb : w.heap.size ≤ g := h3 g (by simp [blk])
    refine ⟨g, o, rfl, hl, e1, g0, g4, frozen_of hg _, ⟨?_, Or.inr ⟨g, o, c, _, rfl, setCell_block hg _ _, e1, e2, by simpa using e3, fun j hj => ?_⟩⟩, h2.setCell (Or.inr hb) _, h3⟩
    · rw [qs_len] at *
      simpa using h0
    · rw [qs_text, Array.getElem?_setIfInBounds, List.getElem?_set]
      by_cases hjk : q1.length * 5 + 4 = j
      · subst hjk
        rw [if_pos (by omega), if_pos (by have := Nat.mul_le_mul_right 5 e1; omega), if_pos rfl, if_pos (by rw [h0]; exact hj)]
      · rw [if_neg (by omega), if_neg hjk, e4 j hj]

set_option maxHeartbeats 2000000 in
theorem ref_join_any (w : World) (q : List Q) (ao : Option Addr) (n c : Nat) (hr : Rq w ao n c q) (hn : n ≤ 100) (ha : ∀ p, p ∈ q → At w p) (hw : wt (q.map Prod.fst) ≤ 100000) :
    Calls Try.prog 12 #[.slice ao n c] w fun e w' => ∃ ao' n' c' q', e = .returned (.slice ao' n' c') ∧ Mo w w' ao' n' c' q' ∧ (∀ p, p ∈ q' → At w p) ∧ q'.map Prod.fst = join (q.map Prod.fst) := by
  obtain rfl := hr.len
  go_enter Try.func12, Try.ntmps12
  go_wp2
  go_loopw [3, 4] (fun v i wr => ∃ (k : Nat) (ao' : Option Addr) (n' c' : Nat) (q' : List Q), k ≤ q.length ∧ i = .int .i64 k ∧ v = .slice ao' n' c' ∧ Mo w wr ao' n' c' q' ∧ Hid (q'.map Prod.fst = join ((q.map Prod.fst).take k) ∧ ∀ p, p ∈ q' → At w p)) (fun _ i _ => q.length - (intOf i).toNat)
  case atStart => exact ⟨0, _, _, _, [], Nat.zero_le _, rfl, rfl, Mo.nil w, rfl, fun p hp => by simp at hp⟩
  case round =>
    obtain ⟨k, ao', n', c', q', hk, rfl, rfl, M, hj⟩ := hrel
    have hn' : n' ≤ 100 := by
      have e1 := M.len
      have e2 := join_len_to (q.map Prod.fst) k (by simpa using hk)
      rw [← hj.out.1, List.length_map] at e2
      omega
    have hwt : wt (q'.map Prod.fst) ≤ 100000 := by
      rw [hj.out.1, wt_join_to _ k (by simpa using hk)]
      exact Nat.le_trans (wt_take _ _) hw
    by_cases hlt : k < q.length
    · obtain ⟨b1, o1, rfl, g0, g1, g2, g3, g4⟩ := (hr.kept M.kp).get k hlt
      have hts : q[k].1.2.2.2.2.size ≤ 100000 := by
        have := wt_at (l := q.map Prod.fst) (t := q[k].1) (List.mem_map.2 ⟨q[k], List.getElem_mem hlt, rfl⟩)
        unfold tt at this
        omega
      have hsn : Hid (join ((q.map Prod.fst).take (k + 1)) = jstep (join ((q.map Prod.fst).take k)) q[k].1) := by
        have := join_snoc (l := q.map Prod.fst) (k := k) (by simpa using hlt)
        rw [List.getElem_map] at this
        exact this
      have hat := ha _ (List.getElem_mem hlt)
      have hpk : ∀ p, p ∈ q' ++ [q[k]] → At w p := fun p hp => by
        rcases List.mem_append.1 hp with hp | hp
        · exact hj.out.2 p hp
        · rw [List.mem_singleton.1 hp]
          exact hat
      have HN : Hid ((q[k].1.1 = 4 → ∀ u, (q'.map Prod.fst).getLast? = some u → ¬ u.1 = 4) → (q' ++ [q[k]]).map Prod.fst = join ((q.map Prod.fst).take (k + 1)) ∧ ∀ p, p ∈ q' ++ [q[k]] → At w p) := fun h => ⟨by rw [hsn.out, ← hj.out.1, jstep_new h, List.map_append]; rfl, hpk⟩
      rcases nil_or_last q' with rfl | ⟨q1, u, rfl⟩
      · have HZ := HN.out (fun _ u hu => by simp at hu)
        have hn0 : n' = 0 := M.len
        subst hn0
        obtain ⟨a4, n4, c4, w4, hrun4, M4⟩ := M.one q[k] (by omega)
        have HZ' : Hid _ := HZ
        clear HZ HN hpk hsn hat hj hr ha M
        generalize q[k] = p at g0 g1 g2 g3 g4 hrun4 M4 HZ'
        obtain ⟨⟨pk, px, pl, pb, py⟩, pa, pn, pc⟩ := p
        simp only at g0 g1 g2 g3 g4 hrun4
        go_wp2_with (at_builtin; refine Lib.wpList_append_run _ rfl _ _ _ _ rfl _ _ rfl rfl _ _ (hrun4 _) ?_)
        go_roundw
        case rel => exact ⟨k + 1, _, _, _, _, by omega, by go_num, rfl, M4, HZ'.out⟩
        case measure => simp [intOf]; omega
      · obtain ⟨b2, o2, rfl, hnl, hnc, f0, f4, ff, MT⟩ := M.text (u.1.2.2.2.2 ++ q[k].1.2.2.2.2)
        subst hnl
        have i1 : q1.length + 1 ≤ 100 := hn'
        by_cases h4 : q[k].1.1 = 4
        · by_cases h5 : u.1.1 = 4
          · have HZ : Hid ((q1 ++ [(setText u.1 (u.1.2.2.2.2 ++ q[k].1.2.2.2.2), u.2)]).map Prod.fst = join ((q.map Prod.fst).take (k + 1)) ∧ ∀ p, p ∈ q1 ++ [(setText u.1 (u.1.2.2.2.2 ++ q[k].1.2.2.2.2), u.2)] → At w p) := by
              refine ⟨?_, fun p hp => ?_⟩
              · rw [hsn.out, ← hj.out.1, List.map_append, List.map_append]
                exact (jstep_more _ u.1 q[k].1 h4 h5).symm
              · rcases List.mem_append.1 hp with hp | hp
                · exact hj.out.2 p (List.mem_append_left _ hp)
                · rw [List.mem_singleton.1 hp]
                  exact hj.out.2 u (by simp)
            have hus : u.1.2.2.2.2.size ≤ 100000 := by
              have := wt_at (l := (q1 ++ [u]).map Prod.fst) (t := u.1) (List.mem_map.2 ⟨u, by simp, rfl⟩)
              unfold tt at this
              omega
            rw [h4] at g0
            rw [h5] at f0
            clear HN hpk hsn hat hj hr ha M h4 h5 hwt hw
            generalize q[k].1.2.2.2.2 = y at g4 hts MT HZ
            generalize u.1.2.2.2.2 = x at f4 hus MT HZ
            generalize setText u.1 (x ++ y) = t at MT HZ
            have j1 : ¬ 9223372036854775807 < x.size + y.size := by omega
            generalize q1.length = m at i1 f0 f4 ff MT hnc
            have i2 : (0 : Int) ≤ (k : Int) := by omega
            have i3 : (k : Int) < (q.length : Int) := by omega
            have i4 : (0 : Int) ≤ (m : Int) := by omega
            have i5 : (m : Int) < (m : Int) + 1 := by omega
            have i6 : IntKind.i64.wrap (m : Int) = (m : Int) := by rw [IntKind.wrap_i64]; omega
            go_wp2_with fail
            go_region
            all_goals
              clear g0 g1 g2 g3 g4 f0 f4 ff
              go_wp2
              go_roundw
              case rel => exact ⟨k + 1, _, _, _, _, by omega, by go_num, rfl, MT.kept ((Kp.refl _ _).drewN _), HZ.out⟩
              case measure => simp [intOf]; omega
          · have HZ := HN.out (fun _ v hv => by
              rw [List.map_append, List.map_singleton, List.getLast?_concat] at hv
              rw [← Option.some.inj hv]
              exact h5)
            obtain ⟨a4, n4, c4, w4, hrun4, M4⟩ := M.one q[k] (by omega)
            have HZ' : Hid _ := HZ
            have h6 : (u.1.1 == 4) = false := by simpa using h5
            rw [h4] at g0
            have hq4 : q[k].1.1 = 4 := h4
            clear HZ HN hpk hsn hat hj hr ha M MT ff f4
            generalize q[k] = p at g0 g1 g2 g3 g4 hrun4 M4 HZ' hq4
            generalize u.1.1 = uk at f0 h5 h6
            obtain ⟨⟨pk, px, pl, pb, py⟩, pa, pn, pc⟩ := p
            simp only at g0 g1 g2 g3 g4 hrun4 hq4
            subst hq4
            go_wp2_with (at_builtin; refine Lib.wpList_append_run _ rfl _ _ _ _ rfl _ _ rfl rfl _ _ (hrun4 _) ?_)
            go_roundw
            case rel => exact ⟨k + 1, _, _, _, _, by omega, by go_num, rfl, M4, HZ'.out⟩
            case measure => simp [intOf]; omega
        · have HZ := HN.out (fun h => absurd h h4)
          obtain ⟨a4, n4, c4, w4, hrun4, M4⟩ := M.one q[k] (by omega)
          have HZ' : Hid _ := HZ
          clear HZ HN hpk hsn hat hj hr ha M MT ff f4
          generalize q[k] = p at g0 g1 g2 g3 g4 hrun4 M4 HZ' h4
          obtain ⟨⟨pk, px, pl, pb, py⟩, pa, pn, pc⟩ := p
          simp only at g0 g1 g2 g3 g4 hrun4 h4
          have h6 : (pk == 4) = false := by simpa using h4
          go_wp2_with (at_builtin; refine Lib.wpList_append_run _ rfl _ _ _ _ rfl _ _ rfl rfl _ _ (hrun4 _) ?_)
          go_roundw
          case rel => exact ⟨k + 1, _, _, _, _, by omega, by go_num, rfl, M4, HZ'.out⟩
          case measure => simp [intOf]; omega
    · obtain rfl : k = q.length := by omega
      have e1 : Hid (q'.map Prod.fst = join (q.map Prod.fst)) := by
        show _ = _
        rw [hj.out.1, List.take_of_length_le (by simp)]
      have e2 : Hid (∀ p, p ∈ q' → At w p) := hj.out.2
      clear hj hwt
      go_wp2
      go_ret
      exact ⟨_, _, _, q', rfl, M, e2.out, e1.out⟩

end Go.Proofs.Ytgeebmlincddkaa
