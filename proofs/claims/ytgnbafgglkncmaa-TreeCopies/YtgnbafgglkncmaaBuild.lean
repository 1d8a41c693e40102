/-
  A strings.Builder that a call made: what it holds (Bd); WriteString and String at this program.
-/
import Derived.Shelf.Strings.BuilderK
import Derived.Test.YtgnbafgglkncmaaClone
namespace Go.Proofs
open Go.Shelf
def Try.lays169_ren : Go.Shelf.Ren := ⟨fun | 169 => 45 | n => n, fun | 70 => 66 | 9 => 9 | 0 => 0 | 72 => 69 | 37 => 67 | 127 => 96 | 3 => 3 | 5 => 5 | n => n, fun | n => n⟩
theorem Try.lays169 : Go.Proofs.Lays.n169 Try.prog Try.lays169_ren := {
  mixed := by kernel_rfl
  f169 := Try.func45.trans (congrArg some (by kernel_rfl))
  t0 := Try.underlying0
  a0 := Try.isAgg0
  z0 := Try.sizeOf0
  v0 := Try.zeroValue0
  t3 := Try.underlying3
  a3 := Try.isAgg3
  z3 := Try.sizeOf3
  v3 := Try.zeroValue3
  t9 := Try.underlying9
  a9 := Try.isAgg9
  z9 := Try.sizeOf9
  v9 := Try.zeroValue9
  t37 := Try.underlying67
  a37 := Try.isAgg67
  z37 := Try.sizeOf67
  v37 := Try.zeroValue67
  t70 := Try.underlying66
  a70 := Try.isAgg66
  z70 := Try.sizeOf66
  v70 := Try.zeroValue66
  t72 := Try.underlying69
  a72 := Try.isAgg69
  z72 := Try.sizeOf69
  v72 := Try.zeroValue69
  t127 := Try.underlying96
  a127 := Try.isAgg96
  z127 := Try.sizeOf96
  v127 := Try.zeroValue96 }
theorem Try.Builder_Extra_169 : Builder.Extra Try.prog Try.lays169_ren := {
  sizeBuilder := by kernel_rfl
  liesBuilder := by kernel_rfl
  t5 := Try.underlying5
  a5 := Try.isAgg5
  z5 := Try.sizeOf5
  v5 := Try.zeroValue5
  infoByte := by kernel_rfl
  cellsByte := by kernel_rfl
  sizeByte := by kernel_rfl
  neB5 := by decide }
end Go.Proofs
namespace Go.Proofs.Ytgnbafgglkncmaa
open Go.RowKit

/-- The builder in block b, made since w, holds the text s. -/
def Bd (w W : World) (b : Nat) (s : ByteArray) : Prop := Lib.IsBuilderF 69 5 w.heap.size b (Lib.strCells s) W ∧ Kp [] w W

theorem Kp.under {w W W' : World} (k : Kp [] w W) (h : Below w.heap.size W W') : Kp [] w W' :=
  ⟨h.os.trans k.os, h.tape.trans k.tape, h.output.trans k.output, Nat.le_trans k.size h.size, fun i hi _ => (h.block i hi).trans (k.block i hi (by simp))⟩

theorem Bd.kp {w W : World} {b : Nat} {s : ByteArray} (h : Bd w W b s) : Kp [] w W := h.2

theorem bd_new (w : World) : Bd w (w.alloc (.cells #[.pointer none, .slice none 0 0] 69)) w.heap.size ⟨#[]⟩ :=
  ⟨Lib.IsBuilderF.of (Lib.fresh_isBuilder 69 5 w), (Kp.refl _ _).alloc _⟩

theorem builder_kept {B b : Nat} {p : Value} {bs : List Value} {W W' : World} (h : Lib.BuilderAtF 69 5 B b p bs W) (k : Kp [] W W') : Lib.BuilderAtF 69 5 B b p bs W' := by
  have hlt := h.lt
  obtain ⟨hB, v, hb, hown, hne⟩ := h
  refine ⟨hB, v, by rw [k.block b hlt (by simp)]; exact hb, ⟨hown.1, ?_⟩, hne⟩
  rcases hown.2 with h1 | ⟨g, cap, cur, fz, hv, hbg, hg, r⟩
  · exact Or.inl h1
  · exact Or.inr ⟨g, cap, cur, fz, hv, hbg, by rw [k.block g (lt_of hg) (by simp)]; exact hg, r⟩

/-- What a call changes in no block that was there is kept. -/
theorem Bd.kept {w W W' : World} {b : Nat} {s : ByteArray} (h : Bd w W b s) (k : Kp [] W W') : Bd w W' b s := by
  refine ⟨?_, h.2.trans k (fun x hx => by simp at hx)⟩
  rcases h.1 with h1 | h1
  · exact Or.inl (builder_kept h1 k)
  · exact Or.inr (builder_kept h1 k)

theorem info52 : (Try.prog.info? 69).map (·.size) = some 2 := by kernel_rfl
theorem lies52 : liesAt Try.prog Try.prog.depth 69 (2 / Try.prog.cellsOf 69) 0 69 1 = true := by kernel_rfl

/-- A builder's address, as a bare one. -/
theorem ptr_out (w : World) (b : Nat) (hsh : w.shape? b = some (69, 2)) : (convert 66 106 (.pointer (some ⟨b, 0, none⟩))).run Try.prog w = .ok (.pointer (some ⟨b, 0, none⟩)) w := by
  obtain ⟨j, hj, hjs⟩ := Option.map_eq_some_iff.1 info52
  have hj0 : j.size ≠ 0 := by rw [hjs]; decide
  simp [convert, run_underlying Try.underlying66, run_underlying Try.underlying106, Conv.unsafePointer, Conv.seenAt, viewAt, cellsIn, hsh, sizeOf, typeInfo, hj, hj0]

/-- And back. -/
theorem ptr_in (w : World) (b : Nat) (hsh : w.shape? b = some (69, 2)) : (convert 106 66 (.pointer (some ⟨b, 0, none⟩))).run Try.prog w = .ok (.pointer (some ⟨b, 0, none⟩)) w := by
  obtain ⟨j, hj, hjs⟩ := Option.map_eq_some_iff.1 info52
  have hl := lies52
  simp [convert, run_underlying Try.underlying66, run_underlying Try.underlying106, Conv.unsafePointer, Conv.seenAt, viewAt, hsh, variablesAt, hl, sizeOf, typeInfo, hj]

set_option maxHeartbeats 1000000 in
set_option maxRecDepth 100000 in
/-- The library's check of a builder that is new: its own address is laid. -/
theorem check_new (b : Nat) (w : World) (h0 : w.cell? ⟨b, 0, none⟩ = some (.pointer none)) (hsh : w.shape? b = some (69, 2)) (hfz : w.frozen? ⟨b, 0, none⟩ = false) :
    Calls Try.prog 60 #[.pointer (some ⟨b, 0, none⟩)] w fun e w' => e = .returned (.tuple #[]) ∧ w' = w.setCell ⟨b, 0, none⟩ (.pointer (some ⟨b, 0, none⟩)) := by
  go_enter Try.func60, Try.ntmps60
  go_wp2
  rw [ptr_out w b hsh]
  simp only [Result.andThen]
  rw [Oper.upon_value]
  go_wp2
  rw [run_callFunc_extern Try.func73 (by kernel_rfl) (by kernel_rfl) (by kernel_rfl) (e := Extern.AbiNoEscape.same) (by kernel_rfl)]
  rw [Lib.run_noEscape]
  simp only [Result.andThen]
  rw [Oper.upon_value]
  go_wp2
  rw [ptr_in w b hsh]
  simp only [Result.andThen]
  rw [Oper.upon_value]
  go_wp2
  go_end0
  exact ⟨rfl, rfl⟩

set_option maxHeartbeats 1000000 in
set_option maxRecDepth 100000 in
/-- Of one that was written: nothing is turned. -/
theorem check_used (b : Nat) (w : World) (h0 : w.cell? ⟨b, 0, none⟩ = some (.pointer (some ⟨b, 0, none⟩))) :
    Calls Try.prog 60 #[.pointer (some ⟨b, 0, none⟩)] w fun e w' => e = .returned (.tuple #[]) ∧ w' = w := by
  obtain ⟨j, hj, hjs⟩ := Option.map_eq_some_iff.1 info52
  have hne := Lib.run_neq_ptr_same (P := Try.prog) w ⟨b, 0, none⟩ Try.underlying66 hj
  go_enter Try.func60, Try.ntmps60
  go_wp2
  go_end0
  exact ⟨rfl, rfl⟩

/-- The check of either. -/
theorem check_any (B b : Nat) (bs : List Value) (w : World) (h : Lib.IsBuilderF 69 5 B b bs w) :
    Calls Try.prog 60 #[.pointer (some ⟨b, 0, none⟩)] w fun e w' => e = .returned (.tuple #[]) ∧ Lib.BuilderAtF 69 5 B b (.pointer (some ⟨b, 0, none⟩)) bs w' ∧ Below B w w' := by
  rcases h with h | h
  · refine (check_new b w h.cell0 h.shape h.frozen0).mono ?_
    rintro e w' ⟨rfl, rfl⟩
    exact ⟨rfl, h.used _, (Below.refl B w).setCell (p := ⟨b, 0, none⟩) h.1 _⟩
  · refine (check_used b w h.cell0).mono ?_
    rintro e w' ⟨rfl, rfl⟩
    exact ⟨rfl, h, Below.refl B _⟩

theorem cells_cat (s t : ByteArray) : Lib.strCells s ++ Lib.strCells t = Lib.strCells (s ++ t) := by
  simp [Lib.strCells]

set_option maxHeartbeats 2000000 in
set_option maxRecDepth 100000 in
theorem write_any (w W : World) (b : Nat) (acc s : ByteArray) (h : Bd w W b acc) (hlen : acc.size + s.size ≤ 1000000) :
    Calls Try.prog 42 #[.pointer (some ⟨b, 0, none⟩), .string s] W fun e W' => e = .returned (.tuple #[.int .i64 s.size, .nilIface]) ∧ Bd w W' b (acc ++ s) := by
  obtain ⟨i0, hi, hz0, hz1, hz2⟩ := info_parts info5
  obtain ⟨hI, hk⟩ := h
  have hsz := hk.size
  have hcl := Lib.strCells_length acc
  have HC := check_any _ b _ W hI
  clear hI
  go_enter Try.func42, Try.ntmps42
  go_wp2_with fail
  refine HC.mono ?_
  rintro e w1 ⟨rfl, h1, hb1⟩
  clear HC
  obtain ⟨hB, v, hbk, hown, hne⟩ := h1
  have c0 : w1.cell? ⟨b, 0, none⟩ = some (.pointer (some ⟨b, 0, none⟩)) := by rw [Lib.cell_of_heap hbk]; rfl
  have c1 : w1.cell? ⟨b, 1, none⟩ = some v := by rw [Lib.cell_of_heap hbk]; rfl
  go_wp2_with (at_builtin; refine Lib.wpList_append_own_stringF _ rfl _ _ 67 9 rfl w.heap.size 5 i0 Try.underlying67 Try.underlying9 hi hz0 hz1 hz2 _ _ _ rfl hown s rfl ?c3 ?c4 ?c5 ?_)
  case c3 => unfold maxLen; omega
  case c4 => omega
  case c5 => have := hb1.size; omega
  intro v' w2 hown' hgrow _
  have hlt : b < w1.heap.size := lt_of hbk
  have hb2 : w2.heap[b]? = some (.cells #[.pointer (some ⟨b, 0, none⟩), v] 69 (0, 0)) := by
    rw [hgrow.block b hlt (fun e => hne e.symm)]
    exact hbk
  have d0 : w2.cell? ⟨b, 0, none⟩ = some (.pointer (some ⟨b, 0, none⟩)) := by rw [Lib.cell_of_heap hb2]; rfl
  have d1 : w2.cell? ⟨b, 1, none⟩ = some v := by rw [Lib.cell_of_heap hb2]; rfl
  have f1 : w2.frozen? ⟨b, 1, none⟩ = false := Lib.frozen_of_heap hb2 1
  obtain ⟨ao, n', cap, rfl⟩ : ∃ ao n' cap, v' = .slice ao n' cap := by
    rcases hown'.2 with ⟨hv, _⟩ | ⟨g, cap, cur, fz, hv, _⟩
    · exact ⟨_, _, _, hv⟩
    · exact ⟨_, _, _, hv⟩
  go_wp2
  go_ret2
  refine ⟨rfl, Or.inr ?_, ?_⟩
  · refine Lib.BuilderAtF.put (T := 69) (e := 5) hB hb2 (bs' := Lib.strCells (acc ++ s)) ?_ (by decide)
    rw [← cells_cat, List.length_append, Lib.strCells_length s, Lib.strCells_length acc]
    exact hown'
  · exact hk.under ((hb1.grown hgrow (by have := hb1.size; omega) (fun k hk => (hown.lt k hk).1)).setCell (p := ⟨b, 1, none⟩) hB _)

/-- The text that was written. -/
theorem string_any (w W : World) (b : Nat) (acc : ByteArray) (h : Bd w W b acc) :
    Calls Try.prog 45 #[.pointer (some ⟨b, 0, none⟩)] W fun e W' => e = .returned (.string acc) ∧ Kp [] w W' := by
  refine (Any.Builder_String_any_k Try.lays169 Try.Builder_Extra_169 w.heap.size b acc.data.toList W ?_ h.2.size).mono ?_
  · exact h.1
  · rintro e W' ⟨rfl, _, hb, _⟩
    exact ⟨rfl, h.2.under hb⟩

end Go.Proofs.Ytgnbafgglkncmaa
