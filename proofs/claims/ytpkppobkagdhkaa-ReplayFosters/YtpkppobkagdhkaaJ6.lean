/-
  Joined: Find Copy.
-/
import Derived.Test.YtpkppobkagdhkaaJ5
import Derived.Deep.RegionHeld3
import Derived.Laws.MakeOwn

/-
  Where the first one of a name stands: the document's Has, the program's find and Get.
-/
namespace Go.Proofs.Ytpkppobkagdhkaa
open Go.RowKit

set_option maxHeartbeats 1000000 in
set_option maxRecDepth 100000 in
theorem own_any (w : World) (a : Att) (hf : fits [a]) : Calls Try.prog 67 #[av a] w fun e w' => e = .returned (av a) ∧ Kp [] w w' := by
  have h1 := (hf a (by simp)).1
  have h2 := (hf a (by simp)).2
  obtain ⟨x, y⟩ := a
  simp only at h1 h2
  have HX := fun w => clone_any w x (by omega)
  have HY := fun w => clone_any w y (by omega)
  clear h1 h2 hf
  unfold av
  go_enter Try.func67, Try.ntmps67
  go_wp2_with fail
  have K0 : Kp [] w ((w.alloc (Obj.cells #[Value.string x, Value.string y] 70)).alloc (Obj.cells #[Value.string { data := #[] }, Value.string { data := #[] }] 70)) := ((Kp.refl _ _).alloc _).alloc _
  have C0 : ∀ v, Kp [w.heap.size + 1] ((w.alloc (Obj.cells #[Value.string x, Value.string y] 70)).alloc (Obj.cells #[Value.string { data := #[] }, Value.string { data := #[] }] 70)) v → v.heap[w.heap.size]? = some (.cells #[Value.string x, Value.string y] 70) := by
    intro v kv
    rw [kv.block _ (by simp; omega) (by simp), Below.heap_alloc _ _ _ (by simp)]
    exact heap_new w _
  have D0 : ∀ v, Kp [] ((w.alloc (Obj.cells #[Value.string x, Value.string y] 70)).alloc (Obj.cells #[Value.string { data := #[] }, Value.string { data := #[] }] 70)) v → v.heap[w.heap.size + 1]? = some (.cells #[Value.string { data := #[] }, Value.string { data := #[] }] 70) := by
    intro v kv
    rw [kv.block _ (by simp) (by simp)]
    exact heap_new' _ _ _ (by simp)
  generalize (w.alloc (Obj.cells #[Value.string x, Value.string y] 70)).alloc (Obj.cells #[Value.string { data := #[] }, Value.string { data := #[] }] 70) = W at K0 C0 D0
  have C1 : Hid (∀ v, Kp [w.heap.size + 1] W v → v.cell? ⟨w.heap.size, 0, none⟩ = some (.string x) ∧ v.cell? ⟨w.heap.size, 1, none⟩ = some (.string y)) := fun v kv => ⟨by rw [cell_of (C0 v kv)]; rfl, by rw [cell_of (C0 v kv)]; rfl⟩
  have C2 : Hid (∀ v, Kp [] W v → v.cell? ⟨w.heap.size + 1, 0, none⟩ = some (.string ⟨#[]⟩) ∧ v.cell? ⟨w.heap.size + 1, 1, none⟩ = some (.string ⟨#[]⟩) ∧ v.frozen? ⟨w.heap.size + 1, 0, none⟩ = false ∧ v.frozen? ⟨w.heap.size + 1, 1, none⟩ = false) := fun v kv => ⟨by rw [cell_of (D0 v kv)]; rfl, by rw [cell_of (D0 v kv)]; rfl, frozen_of (D0 v kv) _, frozen_of (D0 v kv) _⟩
  clear C0 D0
  have U : Hid (∀ v, Kp [] W v → Kp [w.heap.size + 1] W v) := fun v kv => kv.mono (fun x hx => by simp at hx)
  have V : Hid (∀ v p q, Kp [] W v → Kp [w.heap.size + 1] W ((v.setCell ⟨w.heap.size + 1, 0, none⟩ p).setCell ⟨w.heap.size + 1, 1, none⟩ q)) := fun v p q kv => ((U.out v kv).setCell (Or.inl (by simp)) _).setCell (Or.inl (by simp)) _
  obtain ⟨e0, e1⟩ := C1.out W (Kp.refl _ _)
  go_region_held3 (fun w' => Kp [w.heap.size + 1] W w' ∧ w'.cell? ⟨w.heap.size, 0, none⟩ = some (.string x) ∧ w'.cell? ⟨w.heap.size, 1, none⟩ = some (.string y))
    (first
      | exact ⟨V.out _ _ _ S2.out, C1.out _ (V.out _ _ _ S2.out)⟩
      | exact ⟨U.out _ S2.out, C1.out _ (U.out _ S2.out)⟩
      | exact ⟨U.out _ S1.out, C1.out _ (U.out _ S1.out)⟩
      | exact ⟨(Kp.refl _ W).drew, C1.out _ (Kp.refl _ W).drew⟩)
    (first
      | (go_at_call 19; refine (HY _).mono ?_; rintro e v2 ⟨rfl, kk⟩; have S2 : Hid (Kp [] W v2) := S1.out.trans kk (fun x hx => by simp at hx); clear kk; obtain ⟨g0, g1, g2, g3⟩ := C2.out _ S2.out)
      | (go_at_call 19; refine (HX _).mono ?_; rintro e v1 ⟨rfl, kk⟩; have S1 : Hid (Kp [] W v1) := (Kp.refl [] W).drew.trans kk (fun x hx => by simp at hx); clear kk))
  have KZ : Kp [] w ((v2.setCell ⟨w.heap.size + 1, 0, none⟩ (.string x)).setCell ⟨w.heap.size + 1, 1, none⟩ (.string y)) := K0.trans (V.out _ _ _ S2.out) (fun z hz => by simp at hz; omega)
  have Z0 : ((v2.setCell ⟨w.heap.size + 1, 0, none⟩ (.string x)).setCell ⟨w.heap.size + 1, 1, none⟩ (.string y)).cell? ⟨w.heap.size + 1, 0, none⟩ = some (.string x) := by
    rw [World.cell?_setCell_other _ _ _ _ (fun e => by simp at e), World.cell?_setCell_same _ _ _ (by rw [g0])]
  have Z1 : ((v2.setCell ⟨w.heap.size + 1, 0, none⟩ (.string x)).setCell ⟨w.heap.size + 1, 1, none⟩ (.string y)).cell? ⟨w.heap.size + 1, 1, none⟩ = some (.string y) := by
    rw [World.cell?_setCell_same _ _ _ (by rw [World.cell?_setCell_other _ _ _ _ (fun e => by simp at e), g1])]
  generalize (v2.setCell ⟨w.heap.size + 1, 0, none⟩ (.string x)).setCell ⟨w.heap.size + 1, 1, none⟩ (.string y) = Z at KZ Z0 Z1
  clear C1 C2 U V e0 e1 S1 S2 g0 g1 g2 g3 HX HY
  go_wp2
  refine bodyPost_ret (v := .agg #[.string x, .string y]) (by simp [results, go_sem, Z0, Z1]) rfl ⟨rfl, KZ⟩

end Go.Proofs.Ytpkppobkagdhkaa

/-
  The program's copyOf, Add; the document's Add, More, Unique.
-/
namespace Go.Proofs.Ytpkppobkagdhkaa
open Go.RowKit

theorem take_snoc {l : List Att} {k : Nat} (h : k < l.length) : l.take (k + 1) = l.take k ++ [l[k]] := by
  rw [List.take_succ_eq_append_getElem h]

theorem fits_one {l : List Att} (h : fits l) {k : Nat} (hk : k < l.length) : fits [l[k]] := fun a ha => by
  simp only [List.mem_singleton] at ha
  rw [ha]
  exact h _ (List.getElem_mem hk)

/-- make, of none, with room. -/
theorem make_room (w : World) (n m : Nat) (h1 : n ≤ 100000) (h2 : m ≤ 100000) :
    ∃ w1, (Instr.makeSlice 23 (.int .i64 0) (.int .i64 ((n : Int) + (m : Int)))).run Try.prog w = .ok (.slice (some ⟨w.heap.size, 0, none⟩) 0 (n + m)) w1 ∧ Mp w w1 (some ⟨w.heap.size, 0, none⟩) 0 (n + m) [] := by
  obtain ⟨i, hi0, hi1, hi2, hi3⟩ := info_parts info23
  have hr := run_make (P := Try.prog) w 23 70 i _ Try.underlying23 hi0 hi1 .i64 .i64 0 ((n : Int) + (m : Int)) (Int.le_refl _) (by omega) (by rw [hi3]; omega) (by omega)
  rw [show ((n : Int) + (m : Int)).toNat = n + m by omega] at hr
  refine ⟨_, hr, ownK_new 2 w 70 _ [] 0 (n + m) rfl (by omega) (by unfold maxLen; omega) (by rw [size_madeCells, hi2]; exact Nat.le_refl _) (fun j hj => by omega), (Kp.refl _ _).alloc _, fun k hk => by simp [blk] at hk; omega⟩

set_option maxHeartbeats 1000000 in
theorem copy_any (w : World) (l : List Att) (ao : Option Addr) (n c m : Nat) (hr : Rp w ao n c l) (hl : n ≤ 100000) (hm : m ≤ 100000) (hf : fits l) :
    Calls Try.prog 66 #[.slice ao n c, .int .i64 (m : Int)] w fun e w' => ∃ ao' n' c', e = .returned (.slice ao' n' c') ∧ Mp w w' ao' n' c' l := by
  obtain rfl := hr.len
  obtain ⟨w1, hmk, M1⟩ := make_room w l.length m hl hm
  go_enter Try.func66, Try.ntmps66
  go_wp2
  clear hmk
  generalize some (⟨w.heap.size, 0, none⟩ : Addr) = ao0 at M1
  generalize l.length + m = c0 at M1
  go_loopw [5, 15] (fun v i wr => ∃ (k : Nat) (ao' : Option Addr) (n' c' : Nat), k ≤ l.length ∧ i = .int .i64 k ∧ v = .slice ao' n' c' ∧ Mp w wr ao' n' c' (l.take k)) (fun _ i _ => l.length - (intOf i).toNat)
  case atStart => exact ⟨0, _, _, _, Nat.zero_le _, rfl, rfl, M1⟩
  case round =>
    obtain ⟨k, ao', n', c', hk, rfl, rfl, M⟩ := hrel
    clear M1
    by_cases hlt : k < l.length
    · obtain ⟨b1, o1, rfl, h1, h2⟩ := (hr.kept M.kp).get k hlt
      have hs := take_snoc hlt
      have hf1 := fits_one hf hlt
      have hn : n' ≤ 100000 := by have := M.len; simp at this; omega
      generalize l[k] = a at h1 h2 hs hf1
      clear hr hf
      have HO := own_any (wr.alloc (.cells #[.string a.1, .string a.2] 70)) a hf1
      clear hf1
      unfold av at HO
      go_wp2_with fail
      refine HO.mono ?_
      rintro e w3 ⟨rfl, k3⟩
      clear HO
      have M3 := (M.kept ((Kp.refl _ _).alloc (.cells #[.string a.1, .string a.2] 70))).kept k3
      obtain ⟨a4, n4, c4, w4, hrun, M4⟩ := M3.one a (by omega)
      rw [← hs] at M4
      clear M M3 k3 hs h1 h2
      go_wp2_with (at_builtin; refine Lib.wpList_append_run _ rfl _ _ _ _ rfl _ _ rfl rfl _ _ (hrun _) ?_)
      go_roundw
      case rel => exact ⟨k + 1, _, _, _, by omega, by go_num, rfl, M4⟩
      case measure => simp [intOf]; omega
    · obtain rfl : k = l.length := by omega
      rw [List.take_length] at M
      go_wp2
      go_ret
      exact ⟨_, _, _, rfl, M⟩

theorem has_idx (l : List Att) (x : ByteArray) : (∃ i, idx l x = some i ∧ hasN l x = true) ∨ (idx l x = none ∧ hasN l x = false) := by
  have := idx_some (l := l) (x := x)
  cases h : idx l x with
  | none => exact Or.inr ⟨rfl, by rw [h] at this; exact this.symm⟩
  | some i => exact Or.inl ⟨i, rfl, by rw [h] at this; exact this.symm⟩


end Go.Proofs.Ytpkppobkagdhkaa
