/-
  The program's Join.
-/
import Derived.Test.YtgeebmlincddkaaOneRun
namespace Go.Proofs.Ytgeebmlincddkaa
open Go.RowKit

/-- Some in the midst. -/
theorem Rq.sub {w : World} {b off n c : Nat} {q : List Q} (h : Rq w (some ⟨b, off, none⟩) n c q) (k t : Nat) (hk : k ≤ t) (ht : t ≤ n) : Rq w (some ⟨b, off + k * 5, none⟩) (t - k) (c - k) ((q.drop k).take (t - k)) := by
  have hl := h.len
  refine ⟨by simp; omega, by have := h.cap; omega, fun j hj => ?_⟩
  obtain ⟨b', off', h1, h2⟩ := h.at' (k * 5 + j) (by omega)
  simp only [Option.some.injEq, Addr.mk.injEq, and_true] at h1
  obtain ⟨rfl, rfl⟩ := h1
  refine ⟨b, off + k * 5, rfl, ?_⟩
  rw [Nat.add_assoc, h2]
  have e1 : q = q.take k ++ ((q.drop k).take (t - k) ++ (q.drop k).drop (t - k)) := by rw [List.take_append_drop, List.take_append_drop]
  have e2 : (qs (q.take k)).length = k * 5 := by rw [qs_len]; simp; omega
  have e3 : j < (qs ((q.drop k).take (t - k))).length := by rw [qs_len]; simp; omega
  conv => lhs; rw [e1, qs_append, qs_append]
  rw [List.getElem?_append_right (by omega), e2, show k * 5 + j - k * 5 = j by omega, List.getElem?_append_left e3]

/-- make, of none, with room. -/
theorem make_toks (w : World) (n : Nat) (h1 : n ≤ 1000) :
    ∃ w1, (Instr.makeSlice 28 (.int .i64 0) (.int .i64 (n : Int))).run Try.prog w = .ok (.slice (some ⟨w.heap.size, 0, none⟩) 0 n) w1 ∧ Mq w w1 (some ⟨w.heap.size, 0, none⟩) 0 n [] := by
  obtain ⟨i, hi0, hi1, hi2, hi3⟩ := info_parts info24
  have hr := run_make (P := Try.prog) w 28 24 i _ Try.underlying28 hi0 hi1 .i64 .i64 0 (n : Int) (Int.le_refl _) (by omega) (by rw [hi3]; omega) (by omega)
  rw [show ((n : Int)).toNat = n by omega] at hr
  refine ⟨_, hr, ownK_new 5 w 24 _ [] 0 n rfl (by omega) (by unfold maxLen; omega) (by rw [size_madeCells, hi2]; exact Nat.le_refl _) (fun j hj => by omega), (Kp.refl _ _).alloc _, fun k hk => by simp [blk] at hk; omega, fun p hp => by simp at hp⟩

set_option maxHeartbeats 2000000 in
theorem join_any (w : World) (q : List Q) (ao : Option Addr) (n c : Nat) (hr : Rq w ao n c q) (hn : n ≤ 100) (ha : ∀ p, p ∈ q → At w p) (ht : ∀ p, p ∈ q → tame p.1) (hw : wt (q.map Prod.fst) ≤ 100000) :
    Calls Try.prog 8 #[.slice ao n c] w fun e w' => ∃ ao' n' c' q', e = .returned (.slice ao' n' c') ∧ Mq w w' ao' n' c' q' ∧ q'.map Prod.fst = join (q.map Prod.fst) := by
  obtain rfl := hr.len
  obtain ⟨w1, hmk, M1⟩ := make_toks w q.length (by omega)
  have hcap := hr.cap
  go_enter Try.func8, Try.ntmps8
  go_wp2
  clear hmk
  generalize some (⟨w.heap.size, 0, none⟩ : Addr) = ao0 at M1
  go_loopw [3, 4] (fun v i wr => ∃ (k : Nat) (ao' : Option Addr) (n' c' : Nat) (q' : List Q), k ≤ q.length ∧ i = .int .i64 k ∧ v = .slice ao' n' c' ∧ Mq w wr ao' n' c' q' ∧ Hid (q'.map Prod.fst = join ((q.map Prod.fst).take k) ∧ Bnd (q.map Prod.fst) k)) (fun _ i _ => q.length - (intOf i).toNat)
  case atStart => exact ⟨0, _, _, _, [], Nat.zero_le _, rfl, rfl, M1, rfl, bnd_zero _⟩
  case round =>
    obtain ⟨k, ao', n', c', q', hk, rfl, rfl, M, hj⟩ := hrel
    clear M1
    by_cases hlt : k < q.length
    · have HR := runend_any wr q ao q.length c (hr.kept M.kp) (by omega) k hlt
      go_wp2_with fail
      refine HR.mono ?_
      rintro e w2 ⟨t, rfl, hrun, rfl⟩
      clear HR
      have h1 : k < t := hrun.lt
      have h2 : t ≤ q.length := by have := hrun.le; simpa using this
      obtain ⟨b1, o1, rfl, _⟩ := hr.get k hlt
      have hsub := (hr.kept M.kp).sub k t (by omega) h2
      obtain ⟨j1, j2⟩ := join_run hj.out.2 hrun
      have hn' : n' ≤ 100 := by
        have e1 := M.len
        have e2 := join_len_to (q.map Prod.fst) k (by simpa using hk)
        rw [← hj.out.1, List.length_map] at e2
        omega
      have hne : 0 < ((q.drop k).take (t - k)).length := by simp; omega
      have e0 : ((q.drop k).take (t - k))[0] = q[k] := by simp
      have HO := asone_any w2 ((q.drop k).take (t - k)) (some ⟨b1, o1 + k * 5, none⟩) (t - k) (c - k) hsub (by omega) hne (by rw [e0]; exact (ha _ (List.getElem_mem hlt)).kept M.kp) (by rw [e0]; exact ht _ (List.getElem_mem hlt)) (by
        rw [List.map_take, List.map_drop]
        exact Nat.le_trans (wt_take _ _) (Nat.le_trans (wt_drop _ _) hw))
      rw [List.map_take, List.map_drop] at HO
      have J1 : Hid (∀ p : Q, p.1 = one ((List.drop k (List.map Prod.fst q)).take (t - k)) → (q' ++ [p]).map Prod.fst = join ((q.map Prod.fst).take t)) := fun p hp => by
        rw [List.map_append, hj.out.1, j1, ← hp]
        rfl
      have J2 : Hid (Bnd (q.map Prod.fst) t) := j2
      generalize one ((List.drop k (List.map Prod.fst q)).take (t - k)) = tk at HO J1
      clear hrun hsub j1 j2 hj hne e0 hr ha ht hw
      have i1 : (0 : Int) ≤ (k : Int) := by omega
      have i2 : (k : Int) ≤ (t : Int) := by omega
      have i3 : (t : Int) ≤ (c : Int) := by omega
      have i4 : k ≤ t := by omega
      have i5 : t ≤ c := by omega
      have i6 : ¬ c - k = 0 := by omega
      have i7 : ¬ k = c := by omega
      go_wp2_with fail
      refine HO.mono ?_
      rintro e w3 ⟨p, rfl, hp, k3, hA3⟩
      clear HO
      have J3 := J1.out p hp
      obtain ⟨a4, n4, c4, w4, hrun4, M4⟩ := (M.kept k3).one p hA3 (by omega)
      clear J1 hp M k3 hA3
      obtain ⟨⟨pk, px, pl, pb, py⟩, pa, pn, pc⟩ := p
      simp only [qv, tv] at hrun4 ⊢
      have J4 : Hid _ := J3
      clear J3
      go_wp2_with (at_builtin; refine Lib.wpList_append_run _ rfl _ _ _ _ rfl _ _ rfl rfl _ _ (hrun4 _) ?_)
      go_roundw
      case rel => exact ⟨t, _, _, _, _, h2, rfl, rfl, M4, J4.out, J2.out⟩
      case measure => simp [intOf]; omega
    · obtain rfl : k = q.length := by omega
      have e1 : Hid (q'.map Prod.fst = join (q.map Prod.fst)) := by
        show _ = _
        rw [hj.out.1, List.take_of_length_le (by simp)]
      clear hj
      go_wp2
      go_ret
      exact ⟨_, _, _, q', rfl, M, e1.out⟩

end Go.Proofs.Ytgeebmlincddkaa
