/-
  The program's copyOf, Add; the document's Add, More, Unique.
-/
import Derived.Test.YtadcpkdnpfmphaaFind
import Derived.Laws.MakeOwn
namespace Go.Proofs.Ytadcpkdnpfmphaa
open Go.RowKit

theorem take_snoc {l : List Att} {k : Nat} (h : k < l.length) : l.take (k + 1) = l.take k ++ [l[k]] := by
  rw [List.take_succ_eq_append_getElem h]

theorem fits_one {l : List Att} (h : fits l) {k : Nat} (hk : k < l.length) : fits [l[k]] := fun a ha => by
  simp only [List.mem_singleton] at ha
  rw [ha]
  exact h _ (List.getElem_mem hk)

/-- make, of none, with room. -/
theorem make_room (w : World) (n m : Nat) (h1 : n ≤ 1000) (h2 : m ≤ 1000) :
    ∃ w1, (Instr.makeSlice 27 (.int .i64 0) (.int .i64 ((n : Int) + (m : Int)))).run Try.prog w = .ok (.slice (some ⟨w.heap.size, 0, none⟩) 0 (n + m)) w1 ∧ Mp w w1 (some ⟨w.heap.size, 0, none⟩) 0 (n + m) [] := by
  obtain ⟨i, hi0, hi1, hi2, hi3⟩ := info_parts info23
  have hr := run_make (P := Try.prog) w 27 31 i _ Try.underlying27 hi0 hi1 .i64 .i64 0 ((n : Int) + (m : Int)) (Int.le_refl _) (by omega) (by rw [hi3]; omega) (by omega)
  rw [show ((n : Int) + (m : Int)).toNat = n + m by omega] at hr
  refine ⟨_, hr, ownK_new 2 w 31 _ [] 0 (n + m) rfl (by omega) (by unfold maxLen; omega) (by rw [size_madeCells, hi2]; exact Nat.le_refl _) (fun j hj => by omega), (Kp.refl _ _).alloc _, fun k hk => by simp [blk] at hk; omega⟩


/-- A literal of none. -/
theorem mp_none (w : World) : Mp w (w.alloc (.cells #[] 31)) (some ⟨w.heap.size, 0, none⟩) 0 0 [] := rp_lit w #[] [] 0 rfl rfl (by omega)

theorem has_idx (l : List Att) (x : ByteArray) : (∃ i, idx l x = some i ∧ hasN l x = true) ∨ (idx l x = none ∧ hasN l x = false) := by
  have := idx_some (l := l) (x := x)
  cases h : idx l x with
  | none => exact Or.inr ⟨rfl, by rw [h] at this; exact this.symm⟩
  | some i => exact Or.inl ⟨i, rfl, by rw [h] at this; exact this.symm⟩


set_option maxHeartbeats 1000000 in
theorem ref_add_any (w : World) (l : List Att) (a : Att) (ao : Option Addr) (n c : Nat) (hr : Rp w ao n c l) (hl : n ≤ 900) :
    Calls Try.prog 61 #[.slice ao n c, av a] w fun e w' => ∃ ao' n' c', e = .returned (.slice ao' n' c') ∧ Mp w w' ao' n' c' (add l a) := by
  have kb : Kp [] w (w.alloc (.cells #[.string a.1, .string a.2] 31)) := (Kp.refl _ _).alloc _
  have cb : (w.alloc (.cells #[.string a.1, .string a.2] 31)).heap[w.heap.size]? = some (.cells #[.string a.1, .string a.2] 31) := heap_new _ _
  have lb : w.heap.size < (w.alloc (.cells #[.string a.1, .string a.2] 31)).heap.size := by simp
  have e0 : (w.alloc (.cells #[.string a.1, .string a.2] 31)).heap.size = w.heap.size + 1 := by simp
  have M1 := mp_none (w.alloc (.cells #[.string a.1, .string a.2] 31))
  have hr1 := (hr.kept kb).kept M1.kp
  obtain ⟨a2, n2, c2, w2, hrun, M2⟩ := M1.app (hr1.src Try.underlying27) (fun h => by cases h) (by omega)
  rw [e0] at hrun
  have hr2 := (hr.kept kb).kept M2.kp
  have M2b := M2.back kb
  have cb2 : w2.heap[w.heap.size]? = some (.cells #[.string a.1, .string a.2] 31) := by rw [M2.kp.block _ lb (by simp)]; exact cb
  have g1 : w2.cell? ⟨w.heap.size, 0, none⟩ = some (.string a.1) := by rw [cell_of cb2]; rfl
  rw [List.nil_append] at M2b
  have HH := ref_has_any w2 a.1 l ao n c hr2 (by omega)
  have hn : n2 ≤ 1000 := by have := M2b.len; have := hr.len; omega
  clear M1 hr1 M2 kb cb lb e0 hr2
  unfold av
  go_enter Try.func61, Try.ntmps61
  go_wp2_with (first
    | (at_builtin; refine Lib.wpList_append_run _ rfl _ _ _ _ rfl _ _ rfl rfl _ _ (hrun _) ?_)
    | (go_at_call 46; refine Hid.out ?_))
  unfold Hid
  refine HH.mono ?_
  rintro e w3 ⟨rfl, k3⟩
  clear HH hrun
  have M3 := M2b.kept k3
  have cb3 : w3.heap[w.heap.size]? = some (.cells #[.string a.1, .string a.2] 31) := by rw [k3.block _ (lt_of cb2) (by simp)]; exact cb2
  have g2 : w3.cell? ⟨w.heap.size, 0, none⟩ = some (.string a.1) := by rw [cell_of cb3]; rfl
  have g3 : w3.cell? ⟨w.heap.size, 1, none⟩ = some (.string a.2) := by rw [cell_of cb3]; rfl
  clear g1 cb2 M2b k3 cb3
  rcases has_idx l a.1 with ⟨i, hi, hh⟩ | ⟨hi, hh⟩
  · rw [hi]
    have e1 : add l a = l := by unfold add; rw [hh]; rfl
    simp only [plc]
    go_wp2
    go_ret
    exact ⟨_, _, _, rfl, by rw [e1]; exact M3⟩
  · rw [hi]
    have e1 : add l a = l ++ [a] := by unfold add; rw [hh]; rfl
    simp only [plc]
    obtain ⟨a5, n5, c5, w5, hrun, M5⟩ := M3.one a (by omega)
    go_wp2_with (at_builtin; refine Lib.wpList_append_run _ rfl _ _ _ _ rfl _ _ rfl rfl _ _ (hrun _) ?_)
    go_ret
    exact ⟨_, _, _, rfl, by rw [e1]; exact M5⟩

end Go.Proofs.Ytadcpkdnpfmphaa
