/-
  The laws' elements: slices of them, and what list makes of them.
-/
import Derived.Test.YtfobbgmfbpoigaaLres
import Derived.Test.YtfobbgmfbpoigaaStp
namespace Go.Proofs.Ytfobbgmfbpoigaa.Ints
open Go.RowKit Utf
set_option linter.unusedSimpArgs false
set_option linter.unusedVariables false

/-- The slice of n elements of the laws from ao on reads so. -/
def Es (w : World) (ao : Option Addr) (n c : Nat) (F : Nat → Int × Bool) : Prop :=
  n ≤ c ∧ ∀ i, i < n → ∃ b off, ao = some ⟨b, off, none⟩ ∧ w.cell? ⟨b, off + i * 2, none⟩ = some (.int .i64 (F i).1) ∧ w.cell? ⟨b, off + i * 2 + 1, none⟩ = some (.bool (F i).2)

theorem Es.kept {w w' : World} {ao : Option Addr} {n c : Nat} {F : Nat → Int × Bool} (h : Es w ao n c F) (k : Kp [] w w') : Es w' ao n c F :=
  ⟨h.1, fun i hi => by
    obtain ⟨b, off, h1, h2, h3⟩ := h.2 i hi
    exact ⟨b, off, h1, by rw [k.cell (a := ⟨b, off + i * 2, none⟩) (block_lt_of_cell h2) (by simp)]; exact h2, by rw [k.cell (a := ⟨b, off + i * 2 + 1, none⟩) (block_lt_of_cell h3) (by simp)]; exact h3⟩⟩

theorem Es.nil (w : World) (F : Nat → Int × Bool) : Es w none 0 0 F := ⟨Nat.le_refl _, fun i hi => by omega⟩

/-- The i-th open element. -/
def itm (i : Nat) (e : Int × Bool) : It := ((i : Int) + 1, if e.2 then 2 else 1, nm e.1)

/-- The first k of them. -/
def lsT (F : Nat → Int × Bool) (k : Nat) : List It := (List.range k).map fun i => itm i (F i)

theorem lsT_len (F : Nat → Int × Bool) (k : Nat) : (lsT F k).length = k := by simp [lsT]

theorem lsT_snoc (F : Nat → Int × Bool) (k : Nat) : lsT F (k + 1) = lsT F k ++ [itm k (F k)] := by simp [lsT, List.range_succ]

theorem bx_new (w : World) (x : It) : Bx (w.alloc (.cells (ic x) 51)) (some ⟨w.heap.size, 0, none⟩) x := ⟨_, rfl, heap_new _ _⟩

theorem kt {w w1 w2 : World} (h : Kp [] w w1) (k : Kp [] w1 w2) : Kp [] w w2 := h.trans k (fun y hy => by simp at hy)

set_option maxRecDepth 100000 in
set_option maxHeartbeats 4000000 in
theorem list_any (w : World) (ao : Option Addr) (n c : Nat) (F : Nat → Int × Bool) (hE : Es w ao n c F) :
    Calls Try.prog 20 #[.slice ao n c] w fun e w' => ∃ q bo d, e = .returned (.tuple #[.pointer (some ⟨q, 0, none⟩), .slice bo (min n 20) d]) ∧ Li w w' q (lsT F (min n 20)) ∧ Rs w' bo (min n 20) d (lsT F (min n 20)) ∧ Kp [] w w' := by
  have H1 := new_list w w (Nat.le_refl _)
  have hnc := hE.1
  go_enter Try.func20, Try.ntmps20
  go_wp2_with fail
  refine H1.mono ?_
  rintro e w1 ⟨q, rfl, hL, k1⟩
  clear H1
  have HK1 : Hid (Kp [] w w1) := k1
  have HM1 : Hid (Ms w w1 none 0 0 []) := (Ms.nil w).kept k1
  clear k1
  go_wp2
  go_loopw [5, 6] (fun l i wr => ∃ k : Nat, ∃ bo d, k ≤ 20 ∧ k ≤ n ∧ l = .slice bo k d ∧ i = .int .i64 k ∧ Li w wr q (lsT F k) ∧ Kp [] w wr ∧ Ms w wr bo k d (lsT F k) ∧ (k = 0 → bo = none)) (fun _ i _ => n - (intOf i).toNat)
  case atStart => exact ⟨0, none, 0, by omega, Nat.zero_le _, rfl, rfl, hL, HK1.out, HM1.out, fun _ => rfl⟩
  case round =>
    obtain ⟨k, bo, d, hk, hkn, rfl, rfl, hr, kr, hm, hb⟩ := hrel
    clear hL HK1 HM1
    by_cases hlt : k < n ∧ k < 20
    · obtain ⟨g1, g2⟩ := hlt
      obtain ⟨b, off, rfl, c0, c1⟩ := (hE.kept kr).2 k g1
      have HN := fun W => names_any W (F k).1
      have hs := lsT_snoc F k
      unfold itm at hs
      generalize F k = a at c0 c1 HN hs
      obtain ⟨a, svg⟩ := a
      simp only at c0 c1 HN hs
      generalize nm a = nmx at HN hs
      have hz := lsT_len F k
      obtain ⟨ys, hys⟩ : ∃ ys, ys = lsT F (k + 1) := ⟨_, rfl⟩
      rw [← hys] at hs
      generalize lsT F k = zs at hr hm hs hz
      have HM : Hid (Kp [] w wr ∧ Ms w wr bo k d zs ∧ (k = 0 → bo = none) ∧ zs.length = k ∧ ys = zs ++ [((k : Int) + 1, (if svg then 2 else 1), nmx)] ∧ Li w wr q zs) := ⟨kr, hm, hb, hz, hs, hr⟩
      clear hr kr hm hb hz hs
      go_wp2_with fail
      refine (HN wr).mono ?_
      rintro e w3 ⟨rfl, k3⟩
      have K3 : Hid (Kp [] wr w3) := k3
      have c1' : w3.cell? ⟨b, off + k * 2 + 1, none⟩ = some (.bool svg) := by rw [k3.cell (a := ⟨b, off + k * 2 + 1, none⟩) (block_lt_of_cell c1) (by simp)]; exact c1
      have ka : Kp [] w3 (w3.alloc (.cells #[.int .i64 ((k : Int) + 1), .int .i64 1, .string nmx, .slice none 0 0] 51)) := (Kp.refl _ _).alloc _
      have c1'' : (w3.alloc (.cells #[.int .i64 ((k : Int) + 1), .int .i64 1, .string nmx, .slice none 0 0] 51)).cell? ⟨b, off + k * 2 + 1, none⟩ = some (.bool svg) := by rw [ka.cell (a := ⟨b, off + k * 2 + 1, none⟩) (block_lt_of_cell c1') (by simp)]; exact c1'
      clear HN k3 c0 c1 c1' ka
      cases svg
      · go_wp2_with fail
        have H5 := push_list w (w3.alloc (.cells #[.int .i64 ((k : Int) + 1), .int .i64 1, .string nmx, .slice none 0 0] 51)) q zs ((k : Int) + 1, (1 : Int), nmx) ((HM.out.2.2.2.2.2.kept K3.out).kept ((Kp.refl _ _).alloc _)) (by rw [HM.out.2.2.2.1]; omega)
        unfold iv at H5
        refine H5.mono ?_
        rintro e w5 ⟨rfl, l5, e5⟩
        obtain ⟨kr, hm, hb, hz, hs, hr⟩ := HM.out
        have hbx := (bx_new w3 ((k : Int) + 1, (1 : Int), nmx)).ev e5
        obtain ⟨g9, hg9, d0, d1, d2, d3⟩ := hbx.out
        simp only [Option.some.injEq, Addr.mk.injEq, and_true] at hg9
        subst hg9
        have k6 : Kp [] w5 (w5.alloc (.cells #[.int .i64 ((k : Int) + 1), .int .i64 1, .string nmx, .slice none 0 0] 51)) := (Kp.refl _ _).alloc _
        have hm5 := (((hm.kept K3.out).kept ((Kp.refl _ _).alloc (.cells #[.int .i64 ((k : Int) + 1), .int .i64 1, .string nmx, .slice none 0 0] 51))).ev e5).kept k6
        have hsr : Src Try.prog 4 47 (.slice (some ⟨w5.heap.size, 0, none⟩) 1 1) 1 (cz [((k : Int) + 1, (1 : Int), nmx)]) (w5.alloc (.cells #[.int .i64 ((k : Int) + 1), .int .i64 1, .string nmx, .slice none 0 0] 51)) := (Ms.lit w5 ((k : Int) + 1, (1 : Int), nmx)).rs.src
        obtain ⟨ao', c', w7, hrun, M7, ⟨a7, rfl⟩, hL7, _⟩ := hm5.more hsr (by omega) hb
        have HR7 : Hid (Li w w7 q ys ∧ Kp [] w w7 ∧ Ms w w7 (some a7) (k + 1) c' ys) := ⟨by rw [hs]; exact hL7 w q _ (l5.kept k6), M7.2.1, by rw [hs]; exact M7⟩
        clear l5 e5 kr hm hb hz hs hr hbx k6 hm5 hsr M7 hL7 H5 HM K3 c1''
        go_wp2_with (at_builtin; refine Lib.wpList_append_run _ rfl _ _ _ _ rfl _ _ rfl rfl _ _ (hrun _) ?_)
        go_roundw
        case rel => exact ⟨k + 1, some a7, c', by omega, by omega, rfl, by go_num, by rw [← hys]; exact HR7.out.1, HR7.out.2.1, by rw [← hys]; exact HR7.out.2.2, fun h => by omega⟩
        case measure => simp [intOf]; omega
      · go_wp2_with fail
        have H5 := push_list w (w3.alloc (.cells #[.int .i64 ((k : Int) + 1), .int .i64 2, .string nmx, .slice none 0 0] 51)) q zs ((k : Int) + 1, (2 : Int), nmx) ((HM.out.2.2.2.2.2.kept K3.out).kept ((Kp.refl _ _).alloc _)) (by rw [HM.out.2.2.2.1]; omega)
        unfold iv at H5
        refine H5.mono ?_
        rintro e w5 ⟨rfl, l5, e5⟩
        obtain ⟨kr, hm, hb, hz, hs, hr⟩ := HM.out
        have hbx := (bx_new w3 ((k : Int) + 1, (2 : Int), nmx)).ev e5
        obtain ⟨g9, hg9, d0, d1, d2, d3⟩ := hbx.out
        simp only [Option.some.injEq, Addr.mk.injEq, and_true] at hg9
        subst hg9
        have k6 : Kp [] w5 (w5.alloc (.cells #[.int .i64 ((k : Int) + 1), .int .i64 2, .string nmx, .slice none 0 0] 51)) := (Kp.refl _ _).alloc _
        have hm5 := (((hm.kept K3.out).kept ((Kp.refl _ _).alloc (.cells #[.int .i64 ((k : Int) + 1), .int .i64 2, .string nmx, .slice none 0 0] 51))).ev e5).kept k6
        have hsr : Src Try.prog 4 47 (.slice (some ⟨w5.heap.size, 0, none⟩) 1 1) 1 (cz [((k : Int) + 1, (2 : Int), nmx)]) (w5.alloc (.cells #[.int .i64 ((k : Int) + 1), .int .i64 2, .string nmx, .slice none 0 0] 51)) := (Ms.lit w5 ((k : Int) + 1, (2 : Int), nmx)).rs.src
        obtain ⟨ao', c', w7, hrun, M7, ⟨a7, rfl⟩, hL7, _⟩ := hm5.more hsr (by omega) hb
        have HR7 : Hid (Li w w7 q ys ∧ Kp [] w w7 ∧ Ms w w7 (some a7) (k + 1) c' ys) := ⟨by rw [hs]; exact hL7 w q _ (l5.kept k6), M7.2.1, by rw [hs]; exact M7⟩
        clear l5 e5 kr hm hb hz hs hr hbx k6 hm5 hsr M7 hL7 H5 HM K3 c1''
        go_wp2_with (at_builtin; refine Lib.wpList_append_run _ rfl _ _ _ _ rfl _ _ rfl rfl _ _ (hrun _) ?_)
        go_roundw
        case rel => exact ⟨k + 1, some a7, c', by omega, by omega, rfl, by go_num, by rw [← hys]; exact HR7.out.1, HR7.out.2.1, by rw [← hys]; exact HR7.out.2.2, fun h => by omega⟩
        case measure => simp [intOf]; omega
    · have hmin : min n 20 = k := by omega
      have HX : Hid (Li w wr q (lsT F k) ∧ Kp [] w wr ∧ Rs wr bo k d (lsT F k)) := ⟨hr, kr, hm.rs⟩
      have hkb : k ≤ d := hm.rs.cap
      have hfin : ¬ k < n ∨ (k < n ∧ ¬ k < 20) := by omega
      clear hr kr hm hb hlt hE
      rcases hfin with g1 | ⟨g0, g1⟩
      all_goals
        go_wp2
        go_ret2
        exact ⟨q, bo, d, by rw [hmin]; rfl, by rw [hmin]; exact HX.out.1, by rw [hmin]; exact HX.out.2.2, HX.out.2.1⟩

end Go.Proofs.Ytfobbgmfbpoigaa.Ints
