/-
  Joined: Base Clone Back Small.
-/
import Derived.Test.YtpkppobkagdhkaaRows
import Derived.Test.YtpkppobkagdhkaaJ1
import Derived.Test.YtpkppobkagdhkaaJ2
import Derived.WalkLawsBesides
import Derived.Laws.BytesArg
import Derived.Lib.ConvBytes
import Derived.Laws.BitsLemmas
import Derived.Laws.RangeAny
import Derived.Shelf.Pu.Clone

/-
  Slices that are only read (Rb) or were made by a call (Made); bytes and texts as values.
-/
namespace Go.Proofs.Ytpkppobkagdhkaa
open Go.RowKit Utf

/-- Bytes, as values. -/
def b8 (l : List Int) : List Value := l.map (Value.int .u8)
/-- Texts, as values. -/
def tx (l : List ByteArray) : List Value := l.map Value.string
theorem b8_len (l : List Int) : (b8 l).length = l.length := by simp [b8]
/-- The slice of n cells from ao on, with room for c, reads as xs. -/
structure Rb (w : World) (ao : Option Addr) (n c : Nat) (xs : List Value) : Prop where
  len : n = xs.length
  cap : n ≤ c
  at' : ∀ j, j < n → ∃ b off, ao = some ⟨b, off, none⟩ ∧ w.cell? ⟨b, off + j, none⟩ = xs[j]?

theorem Rb.of_own {w : World} {e : TypeId} {ao : Option Addr} {n c : Nat} {xs : List Value} (h : Own w e (.slice ao n c) xs) : Rb w ao n c xs := by
  rcases h with ⟨h1, rfl⟩ | ⟨g, o, cap, cur, hv, hg, h1, h2, h3, h4⟩
  · simp only [Value.slice.injEq] at h1
    obtain ⟨rfl, rfl, rfl⟩ := h1
    exact ⟨rfl, Nat.le_refl _, fun j hj => by omega⟩
  · simp only [Value.slice.injEq] at hv
    obtain ⟨rfl, rfl, rfl⟩ := hv
    exact ⟨rfl, h1, fun j hj => ⟨g, o, rfl, by rw [cell_of hg, h4 j hj]⟩⟩

theorem Rb.keep {w w' : World} {ao : Option Addr} {n c : Nat} {xs : List Value} (h : Rb w ao n c xs) (hs : ∀ a, (∃ u, w.cell? a = some u) → w'.cell? a = w.cell? a) : Rb w' ao n c xs := by
  refine ⟨h.len, h.cap, fun j hj => ?_⟩
  obtain ⟨b, off, h1, h2⟩ := h.at' j hj
  exact ⟨b, off, h1, by rw [hs _ ⟨_, h2.trans (List.getElem?_eq_getElem (by have := h.len; omega))⟩]; exact h2⟩

theorem Rb.kept {w w' : World} {ao : Option Addr} {n c : Nat} {xs : List Value} (h : Rb w ao n c xs) (k : Kp [] w w') : Rb w' ao n c xs :=
  h.keep (fun a ha => by
    obtain ⟨u, hu⟩ := ha
    exact k.cell (block_lt_of_cell hu) (by simp))

/-- A slice that a call made: it holds xs, in blocks that are new since w. -/
def Made (w w' : World) (e : TypeId) (ao : Option Addr) (n c : Nat) (xs : List Value) : Prop := Own w' e (.slice ao n c) xs ∧ Kp [] w w' ∧ ∀ k, k ∈ blk (.slice ao n c) → w.heap.size ≤ k

theorem Made.nil (w : World) (e : TypeId) : Made w w e none 0 0 [] := ⟨Or.inl ⟨rfl, rfl⟩, Kp.refl _ _, fun k hk => by simp [blk] at hk⟩

theorem Made.rb {w w' : World} {e : TypeId} {ao : Option Addr} {n c : Nat} {xs : List Value} (h : Made w w' e ao n c xs) : Rb w' ao n c xs := Rb.of_own h.1

/-- What a call changes in no block that was there is kept. -/
theorem Made.kept {w w1 w2 : World} {e : TypeId} {ao : Option Addr} {n c : Nat} {xs : List Value} (h : Made w w1 e ao n c xs) (k : Kp [] w1 w2) : Made w w2 e ao n c xs :=
  ⟨h.1.keep k (fun _ _ => by simp), h.2.1.trans k (fun x hx => by simp at hx), h.2.2⟩

/-- One more. -/
theorem Made.one {t e : TypeId} {z : Value} {bytes : Nat} (ht : Try.prog.underlying t = some (.slice e)) (hi : (Try.prog.info? e).map (fun i => (i.zero, i.size, i.bytes)) = some (some z, 1, bytes)) (hz : z.cells = #[z]) (hby : bytes ≤ 1024)
    {w w1 : World} {ao : Option Addr} {n c : Nat} {xs : List Value} (h : Made w w1 e ao n c xs) (u : Value) (hu : u.oneCell' = true) (hlen : xs.length + 1 ≤ 1000000) :
    ∃ ao' n' c' w2, (∀ ty, (Builtin.append_ #[t, t] ty #[.slice ao n c, .slice (some ⟨w1.heap.size, 0, none⟩) 1 1]).run Try.prog (w1.alloc (.cells #[u] e)) = .ok (.slice ao' n' c') w2) ∧ Made w w2 e ao' n' c' (xs ++ [u]) := by
  obtain ⟨h1, h2, h3⟩ := h
  obtain ⟨v', w2, hrun, o2, k2, b2, a2, c2, rfl⟩ := app_one ht hi hz hby w1 _ _ h1 u hu hlen
  refine ⟨_, _, _, w2, hrun, o2, h2.trans k2 (fun x hx => Or.inr (h3 x hx)), fun k hk => ?_⟩
  rcases b2 k hk with h4 | h4
  · exact h3 k h4
  · have := h2.size
    omega

theorem strs_bytes (s : ByteArray) : strOfNums (bytesOf s) = s := by
  apply ByteArray.ext
  simp [strOfNums, bytesOf, Function.comp_def]

/-- string(b), of bytes that are read. -/
theorem conv_rb {w : World} {ao : Option Addr} {n c : Nat} {xs : List Int} (h : Rb w ao n c (b8 xs)) : (convert 65 9 (.slice ao n c)).run Try.prog w = .ok (.string (strOfNums xs)) w := by
  have hl := h.len
  rw [b8_len] at hl
  by_cases h0 : n = 0
  · have hx : xs = [] := List.eq_nil_of_length_eq_zero (by omega)
    subst hx
    cases ao with
    | none =>
      rw [run_convert_bytes_nil (P := Try.prog) w 65 5 Try.underlying65 Try.underlying5 n c 9 Try.underlying9]
      rfl
    | some a =>
      subst h0
      obtain ⟨b, o, p⟩ := a
      have hz : (loadCells ⟨b, o, p⟩ 0).run Try.prog w = .ok #[] w := by simpa using run_loadCells_list (P := Try.prog) w ⟨b, o, p⟩ [] (by simp)
      simp [convert, run_underlying Try.underlying65, run_underlying Try.underlying9, run_underlying Try.underlying5, Conv.bytesToString, hz, strOfNums]
      rfl
  · obtain ⟨b, off, rfl, _⟩ := h.at' 0 (by omega)
    refine run_convert_bytes_arg (P := Try.prog) w 65 5 Try.underlying65 Try.underlying5 b off n c xs hl.symm (fun i hi => ?_) 9 Try.underlying9
    obtain ⟨b', off', h1, h2⟩ := h.at' i hi
    simp only [Option.some.injEq, Addr.mk.injEq] at h1
    obtain ⟨rfl, rfl, _⟩ := h1
    rw [h2]
    simp [b8, show i < xs.length by omega]

end Go.Proofs.Ytpkppobkagdhkaa

/-
  A piece of a text, in memory of its own: the program's piece, over the library's Clone, whose contract is laid at this program.
-/
namespace Go.Proofs
open Go.Shelf
def Try.lays25_ren : Go.Shelf.Ren := ⟨fun | 25 => 37 | n => n, fun | 37 => 65 | 47 => 98 | n => n, fun | n => n⟩
theorem Try.lays25 : Go.Proofs.LaysPu.n25 Try.prog Try.lays25_ren := {
  mixed := by kernel_rfl
  f25 := Try.func37.trans (congrArg some (by kernel_rfl))
  t0 := Try.underlying0
  a0 := Try.isAgg0
  z0 := Try.sizeOf0
  v0 := Try.zeroValue0
  i0 := by kernel_rfl
  t3 := Try.underlying3
  a3 := Try.isAgg3
  z3 := Try.sizeOf3
  v3 := Try.zeroValue3
  i3 := by kernel_rfl
  t4 := Try.underlying4
  a4 := Try.isAgg4
  z4 := Try.sizeOf4
  v4 := Try.zeroValue4
  i4 := by kernel_rfl
  t5 := Try.underlying5
  a5 := Try.isAgg5
  z5 := Try.sizeOf5
  v5 := Try.zeroValue5
  i5 := by kernel_rfl
  t9 := Try.underlying9
  a9 := Try.isAgg9
  z9 := Try.sizeOf9
  v9 := Try.zeroValue9
  i9 := by kernel_rfl
  t37 := Try.underlying65
  a37 := Try.isAgg65
  z37 := Try.sizeOf65
  v37 := Try.zeroValue65
  i37 := by kernel_rfl
  t47 := Try.underlying98
  a47 := Try.isAgg98
  z47 := Try.sizeOf98
  v47 := Try.zeroValue98
  i47 := by kernel_rfl }
end Go.Proofs
namespace Go.Proofs.Ytpkppobkagdhkaa
open Go.RowKit Utf

theorem kp_below {w w' : World} (h : Below w.heap.size w w') : Kp [] w w' := ⟨h.os, h.tape, h.output, h.size, fun k hk _ => h.block k hk⟩

theorem clone_any (w : World) (s : ByteArray) (hl : s.size ≤ 281474976710656) : Calls Try.prog 19 #[.string s] w fun e w' => e = .returned (.string s) ∧ Kp [] w w' := by
  have HC : Calls Try.prog 37 #[.string s] w fun e w' => e = .returned (.string s) ∧ Below w.heap.size w w' := AnyPu.stringslite_Clone Try.lays25 s w (by omega)
  go_enter Try.func19, Try.ntmps19
  go_wp2_with fail
  refine HC.mono ?_
  rintro e w1 ⟨rfl, hb⟩
  clear HC
  go_wp2
  go_ret
  exact ⟨rfl, kp_below hb⟩

end Go.Proofs.Ytpkppobkagdhkaa

/-
  Calls that turn nothing, and what came of a call, seen from further back.
-/
namespace Go.Proofs.Ytpkppobkagdhkaa
open Go.RowKit Utf

/-- A call that turns nothing. -/
theorem still {f : FuncId} {args : Array Value} {E : Ending} {w : World} (h : Calls Try.prog f args w fun e w' => e = E ∧ w' = w) : Calls Try.prog f args w fun e w' => e = E ∧ Kp [] w w' :=
  h.mono fun _ _ x => ⟨x.1, by rw [x.2]; exact Kp.refl _ _⟩

end Go.Proofs.Ytpkppobkagdhkaa

/-
  Head and Within.
-/
namespace Go.Proofs.Ytpkppobkagdhkaa
open Go.RowKit Utf

/-- No more of a text than m bytes. -/
theorem cut_any (w : World) (s : ByteArray) (m : Nat) (hm : m ≤ 1000) : Calls Try.prog 4 #[.string s, .int .i64 (m : Int)] w fun e w' => e = .returned (.string (if m < s.size then s.extract 0 m else s)) ∧ w' = w := by
  by_cases h : m < s.size
  · rw [if_pos h]
    go_enter Try.func4, Try.ntmps4
    go_wp2
    go_ret
    exact ⟨rfl, rfl⟩
  · rw [if_neg h]
    go_enter Try.func4, Try.ntmps4
    go_wp2
    go_ret
    exact ⟨rfl, rfl⟩

theorem cut_size (s : ByteArray) (m : Nat) : (if m < s.size then s.extract 0 m else s).size ≤ m := by
  split
  · simp
    omega
  · omega

end Go.Proofs.Ytpkppobkagdhkaa
