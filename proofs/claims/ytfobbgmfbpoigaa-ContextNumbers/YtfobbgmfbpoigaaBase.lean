/-
  Slices that are only read (Rb) or were made by a call (Made); bytes and texts as values.
-/
import Derived.Test.YtfobbgmfbpoigaaRows
import Derived.Test.YtfobbgmfbpoigaaKeep
import Derived.Test.YtfobbgmfbpoigaaUtf
import Derived.WalkLawsBesides
import Derived.Laws.BytesArg
import Derived.Lib.ConvBytes
import Derived.Laws.BitsLemmas
import Derived.Laws.RangeAny
namespace Go.Proofs.Ytfobbgmfbpoigaa
open Go.RowKit Utf

theorem info5 : (Try.prog.info? 5).map (fun i => (i.zero, i.size, i.bytes)) = some (some (Value.int .u8 0), 1, 1) := by kernel_rfl
theorem info9 : (Try.prog.info? 9).map (fun i => (i.zero, i.size, i.bytes)) = some (some (Value.string ⟨#[]⟩), 1, 16) := by kernel_rfl

/-- Bytes, as values. -/
def b8 (l : List Int) : List Value := l.map (Value.int .u8)
/-- Texts, as values. -/
def tx (l : List ByteArray) : List Value := l.map Value.string
theorem b8_len (l : List Int) : (b8 l).length = l.length := by simp [b8]
theorem tx_len (l : List ByteArray) : (tx l).length = l.length := by simp [tx]

/-- Each is a byte. -/
def byt (l : List Int) : Prop := ∀ x, x ∈ l → 0 ≤ x ∧ x < 256

/-- The slice of n cells from ao on, with room for c, reads as xs. -/
structure Rb (w : World) (ao : Option Addr) (n c : Nat) (xs : List Value) : Prop where
  len : n = xs.length
  cap : n ≤ c
  at' : ∀ j, j < n → ∃ b off, ao = some ⟨b, off, none⟩ ∧ w.cell? ⟨b, off + j, none⟩ = xs[j]?

theorem Rb.of_own {w : World} {e : TypeId} {ao : Option Addr} {n c : Nat} {xs : List Value} (h : Own w e (.slice ao n c) xs) : Rb w ao n c xs := by
  rcases h with ⟨h1, rfl⟩ | ⟨g, o, cap, cur, hv, hg, h1, h2, h3, h4⟩
  · simp only [Value.slice.injEq] at h1
    obtain ⟨rfl, rfl, rfl⟩ := h1
    exact ⟨rfl, Nat.le_refl _, fun j hj => by omega⟩
  · simp only [Value.slice.injEq] at hv
    obtain ⟨rfl, rfl, rfl⟩ := hv
    exact ⟨rfl, h1, fun j hj => ⟨g, o, rfl, by rw [cell_of hg, h4 j hj]⟩⟩

theorem Rb.keep {w w' : World} {ao : Option Addr} {n c : Nat} {xs : List Value} (h : Rb w ao n c xs) (hs : ∀ a, (∃ u, w.cell? a = some u) → w'.cell? a = w.cell? a) : Rb w' ao n c xs := by
  refine ⟨h.len, h.cap, fun j hj => ?_⟩
  obtain ⟨b, off, h1, h2⟩ := h.at' j hj
  exact ⟨b, off, h1, by rw [hs _ ⟨_, h2.trans (List.getElem?_eq_getElem (by have := h.len; omega))⟩]; exact h2⟩

theorem Rb.kept {w w' : World} {ao : Option Addr} {n c : Nat} {xs : List Value} (h : Rb w ao n c xs) (k : Kp [] w w') : Rb w' ao n c xs :=
  h.keep (fun a ha => by
    obtain ⟨u, hu⟩ := ha
    exact k.cell (block_lt_of_cell hu) (by simp))

/-- What stands at a place. -/
theorem Rb.tx_at {w : World} {ao : Option Addr} {n c : Nat} {l : List ByteArray} (h : Rb w ao n c (tx l)) (k : Nat) (hk : k < l.length) : ∃ b off, ao = some ⟨b, off, none⟩ ∧ w.cell? ⟨b, off + k, none⟩ = some (Value.string l[k]) := by
  have hl := h.len
  rw [tx_len] at hl
  obtain ⟨b, off, h1, h2⟩ := h.at' k (by omega)
  exact ⟨b, off, h1, by rw [h2]; simp [tx, hk]⟩

/-- A slice that a call made: it holds xs, in blocks that are new since w. -/
def Made (w w' : World) (e : TypeId) (ao : Option Addr) (n c : Nat) (xs : List Value) : Prop := Own w' e (.slice ao n c) xs ∧ Kp [] w w' ∧ ∀ k, k ∈ blk (.slice ao n c) → w.heap.size ≤ k

theorem Made.nil (w : World) (e : TypeId) : Made w w e none 0 0 [] := ⟨Or.inl ⟨rfl, rfl⟩, Kp.refl _ _, fun k hk => by simp [blk] at hk⟩

theorem Made.rb {w w' : World} {e : TypeId} {ao : Option Addr} {n c : Nat} {xs : List Value} (h : Made w w' e ao n c xs) : Rb w' ao n c xs := Rb.of_own h.1

/-- What a call changes in no block that was there is kept. -/
theorem Made.kept {w w1 w2 : World} {e : TypeId} {ao : Option Addr} {n c : Nat} {xs : List Value} (h : Made w w1 e ao n c xs) (k : Kp [] w1 w2) : Made w w2 e ao n c xs :=
  ⟨h.1.keep k (fun _ _ => by simp), h.2.1.trans k (fun x hx => by simp at hx), h.2.2⟩

/-- One more. -/
theorem Made.one {t e : TypeId} {z : Value} {bytes : Nat} (ht : Try.prog.underlying t = some (.slice e)) (hi : (Try.prog.info? e).map (fun i => (i.zero, i.size, i.bytes)) = some (some z, 1, bytes)) (hz : z.cells = #[z]) (hby : bytes ≤ 1024)
    {w w1 : World} {ao : Option Addr} {n c : Nat} {xs : List Value} (h : Made w w1 e ao n c xs) (u : Value) (hu : u.oneCell' = true) (hlen : xs.length + 1 ≤ 1000000) :
    ∃ ao' n' c' w2, (∀ ty, (Builtin.append_ #[t, t] ty #[.slice ao n c, .slice (some ⟨w1.heap.size, 0, none⟩) 1 1]).run Try.prog (w1.alloc (.cells #[u] e)) = .ok (.slice ao' n' c') w2) ∧ Made w w2 e ao' n' c' (xs ++ [u]) := by
  obtain ⟨h1, h2, h3⟩ := h
  obtain ⟨v', w2, hrun, o2, k2, b2, a2, c2, rfl⟩ := app_one ht hi hz hby w1 _ _ h1 u hu hlen
  refine ⟨_, _, _, w2, hrun, o2, h2.trans k2 (fun x hx => Or.inr (h3 x hx)), fun k hk => ?_⟩
  rcases b2 k hk with h4 | h4
  · exact h3 k h4
  · have := h2.size
    omega

/-- What a literal reads as. -/
theorem rb_lit (w : World) (e : TypeId) (cur : Array Value) (xs : List Value) (n : Nat) (h : cur = xs.toArray) (hn : n = xs.length) (hm : n ≤ 1000) : Rb (w.alloc (.cells cur e)) (some ⟨w.heap.size, 0, none⟩) n n xs := by
  subst h
  exact Rb.of_own (own_new w e _ xs n (by omega) (by unfold maxLen; omega) (by simp [hn]) (fun j hj => by simp) n hn)

theorem strs_bytes (s : ByteArray) : strOfNums (bytesOf s) = s := by
  apply ByteArray.ext
  simp [strOfNums, bytesOf, Function.comp_def]

theorem bytes_strs {l : List Int} (h : byt l) : bytesOf (strOfNums l) = l := by
  unfold bytesOf
  rw [strOfNums_data, List.map_map]
  conv => rhs; rw [← List.map_id l]
  refine List.map_congr_left fun x hx => ?_
  have := h x hx
  simp
  omega

theorem bytes_byt (s : ByteArray) : byt (bytesOf s) := bytesOf_range s
theorem bytes_len (s : ByteArray) : (bytesOf s).length = s.size := by simp [bytesOf]

theorem bytes_inj {s t : ByteArray} (h : bytesOf s = bytesOf t) : s = t := by rw [← strs_bytes s, h, strs_bytes]

end Go.Proofs.Ytfobbgmfbpoigaa
