/-
  Slices that are only read (Rb), and what is sliced off them; bytes and runes as lists of numbers.
-/
import Derived.Test.YtinafcajaikfdaaRows
import Derived.Test.YtinafcajaikfdaaKeep
import Derived.Test.YtinafcajaikfdaaUtf
import Derived.WalkLawsBesides
import Derived.Laws.BytesArg
import Derived.Lib.ConvBytes
import Derived.Laws.BitsLemmas
namespace Go.Proofs.Ytinafcajaikfdaa
open Go.RowKit Utf

theorem info5 : (Try.prog.info? 5).map (fun i => (i.zero, i.size, i.bytes)) = some (some (Value.int .u8 0), 1, 1) := by kernel_rfl
theorem info21 : (Try.prog.info? 21).map (fun i => (i.zero, i.size, i.bytes)) = some (some (Value.int .i32 0), 1, 4) := by kernel_rfl

/-- Bytes, as values. -/
def b8 (l : List Int) : List Value := l.map (Value.int .u8)
/-- Runes, as values. -/
def r32 (l : List Int) : List Value := l.map (Value.int .i32)
theorem b8_len (l : List Int) : (b8 l).length = l.length := by simp [b8]
theorem r32_len (l : List Int) : (r32 l).length = l.length := by simp [r32]
theorem b8_one (l : List Int) : ∀ u, u ∈ b8 l → u.oneCell' = true := fun u hu => by
  obtain ⟨x, _, rfl⟩ := List.mem_map.1 hu
  rfl
theorem r32_one (l : List Int) : ∀ u, u ∈ r32 l → u.oneCell' = true := fun u hu => by
  obtain ⟨x, _, rfl⟩ := List.mem_map.1 hu
  rfl

/-- Each is a byte. -/
def byt (l : List Int) : Prop := ∀ x, x ∈ l → 0 ≤ x ∧ x < 256
theorem byt_of {l : List Int} (h : byt l) : ∀ x, x ∈ l → 0 ≤ x := fun x hx => (h x hx).1

/-- The slice of n cells from ao on, with room for c, reads as xs. -/
structure Rb (w : World) (ao : Option Addr) (n c : Nat) (xs : List Value) : Prop where
  len : n = xs.length
  cap : n ≤ c
  at' : ∀ j, j < n → ∃ b off, ao = some ⟨b, off, none⟩ ∧ w.cell? ⟨b, off + j, none⟩ = xs[j]?

theorem Rb.of_own {w : World} {e : TypeId} {ao : Option Addr} {n c : Nat} {xs : List Value} (h : Own w e (.slice ao n c) xs) : Rb w ao n c xs := by
  rcases h with ⟨h1, rfl⟩ | ⟨g, o, cap, cur, hv, hg, h1, h2, h3, h4⟩
  · simp only [Value.slice.injEq] at h1
    obtain ⟨rfl, rfl, rfl⟩ := h1
    exact ⟨rfl, Nat.le_refl _, fun j hj => by omega⟩
  · simp only [Value.slice.injEq] at hv
    obtain ⟨rfl, rfl, rfl⟩ := hv
    exact ⟨rfl, h1, fun j hj => ⟨g, o, rfl, by rw [cell_of hg, h4 j hj]⟩⟩

theorem Rb.keep {w w' : World} {ao : Option Addr} {n c : Nat} {xs : List Value} (h : Rb w ao n c xs) (hs : ∀ a, (∃ u, w.cell? a = some u) → w'.cell? a = w.cell? a) : Rb w' ao n c xs := by
  refine ⟨h.len, h.cap, fun j hj => ?_⟩
  obtain ⟨b, off, h1, h2⟩ := h.at' j hj
  exact ⟨b, off, h1, by rw [hs _ ⟨_, h2.trans (List.getElem?_eq_getElem (by have := h.len; omega))⟩]; exact h2⟩

theorem Rb.kept {w w' : World} {ao : Option Addr} {n c : Nat} {xs : List Value} (h : Rb w ao n c xs) (k : Kp [] w w') : Rb w' ao n c xs :=
  h.keep (fun a ha => by
    obtain ⟨u, hu⟩ := ha
    exact k.cell (block_lt_of_cell hu) (by simp))

theorem Rb.drewN {w : World} {ao : Option Addr} {n c : Nat} {xs : List Value} (h : Rb w ao n c xs) (q : Nat) : Rb (w.drewN q) ao n c xs := h.kept ((Kp.refl _ _).drewN q)

theorem Rb.rd {w : World} {ao : Option Addr} {n c : Nat} {xs : List Value} (h : Rb w ao n c xs) : Rd w (.slice ao n c) xs :=
  ⟨ao, c, by rw [h.len], fun j hj => h.at' j (by have := h.len; omega)⟩

theorem Rb.nil (w : World) : Rb w none 0 0 [] := ⟨rfl, Nat.le_refl _, fun j hj => by omega⟩

/-- The address of what is sliced off from k on. -/
def offAt (ao : Option Addr) (k c : Nat) : Option Addr := if c = k then ao else ao.map (·.add (k * 1))

theorem sliced_off (ao : Option Addr) (k n c : Nat) : sliced ao k n c 1 = .slice (offAt ao k c) (n - k) (c - k) := rfl

theorem Rb.drop {w : World} {ao : Option Addr} {n c : Nat} {xs : List Value} (h : Rb w ao n c xs) (k : Nat) (hk : k ≤ n) : Rb w (offAt ao k c) (n - k) (c - k) (xs.drop k) := by
  have hl := h.len
  have hc := h.cap
  refine ⟨by simp; omega, by omega, fun j hj => ?_⟩
  obtain ⟨b, off, h1, h2⟩ := h.at' (k + j) (by omega)
  refine ⟨b, off + k, ?_, ?_⟩
  · subst h1
    unfold offAt
    rw [if_neg (by omega)]
    simp [Addr.add_lit]
  · rw [Nat.add_assoc, h2]
    simp

theorem Rb.take {w : World} {ao : Option Addr} {n c : Nat} {xs : List Value} (h : Rb w ao n c xs) (k : Nat) (hk : k ≤ n) : Rb w ao k c (xs.take k) := by
  have hl := h.len
  have hc := h.cap
  refine ⟨by simp; omega, by omega, fun j hj => ?_⟩
  obtain ⟨b, off, h1, h2⟩ := h.at' j (by omega)
  exact ⟨b, off, h1, by rw [h2, List.getElem?_take_of_lt hj]⟩

theorem Rb.same {w : World} {ao : Option Addr} {n c : Nat} {xs : List Value} (h : Rb w ao n c xs) {k : Nat} (hk : n ≤ k) : xs.take k = xs := List.take_of_length_le (by have := h.len; omega)

theorem b8_take (l : List Int) (k : Nat) : (b8 l).take k = b8 (l.take k) := by simp [b8]
theorem b8_drop (l : List Int) (k : Nat) : (b8 l).drop k = b8 (l.drop k) := by simp [b8]
theorem r32_take (l : List Int) (k : Nat) : (r32 l).take k = r32 (l.take k) := by simp [r32]
theorem r32_drop (l : List Int) (k : Nat) : (r32 l).drop k = r32 (l.drop k) := by simp [r32]

/-- What stands at a place. -/
theorem Rb.b8_at {w : World} {ao : Option Addr} {n c : Nat} {l : List Int} (h : Rb w ao n c (b8 l)) (k : Nat) (hk : k < l.length) : ∃ b off, ao = some ⟨b, off, none⟩ ∧ w.cell? ⟨b, off + k, none⟩ = some (Value.int .u8 l[k]) := by
  have hl := h.len
  rw [b8_len] at hl
  obtain ⟨b, off, h1, h2⟩ := h.at' k (by omega)
  exact ⟨b, off, h1, by rw [h2]; simp [b8, hk]⟩
theorem Rb.r32_at {w : World} {ao : Option Addr} {n c : Nat} {l : List Int} (h : Rb w ao n c (r32 l)) (k : Nat) (hk : k < l.length) : ∃ b off, ao = some ⟨b, off, none⟩ ∧ w.cell? ⟨b, off + k, none⟩ = some (Value.int .i32 l[k]) := by
  have hl := h.len
  rw [r32_len] at hl
  obtain ⟨b, off, h1, h2⟩ := h.at' k (by omega)
  exact ⟨b, off, h1, by rw [h2]; simp [r32, hk]⟩

theorem byt_drop {l : List Int} (h : byt l) (k : Nat) : byt (l.drop k) := fun x hx => h x (List.mem_of_mem_drop hx)
theorem byt_take {l : List Int} (h : byt l) (k : Nat) : byt (l.take k) := fun x hx => h x (List.mem_of_mem_take hx)
theorem byt_at {l : List Int} (h : byt l) (k : Nat) (hk : k < l.length) : 0 ≤ l[k] ∧ l[k] < 256 := h _ (List.getElem_mem hk)

theorem cut_any (w : World) (ao : Option Addr) (n c m : Nat) (bs : List Int) (h : Rb w ao n c (b8 bs)) :
    Calls Try.prog 10 #[.slice ao n c, .int .i64 (m : Int)] w fun e w' => (∃ ao' n' c', e = .returned (.slice ao' n' c') ∧ n' ≤ m ∧ Rb w ao' n' c' (b8 (bs.take m))) ∧ w' = w := by
  rcases Nat.lt_or_ge m n with hlt | hge
  · have hc := h.cap
    have ht := h.take m (by omega)
    rw [b8_take] at ht
    clear h
    go_enter Try.func10, Try.ntmps10
    go_wp2
    go_ret
    exact ⟨⟨_, _, _, rfl, Nat.le_refl _, ht⟩, rfl⟩
  · have ht := h
    rw [← h.same hge, b8_take] at ht
    clear h
    go_enter Try.func10, Try.ntmps10
    go_wp2
    go_ret
    exact ⟨⟨_, _, _, rfl, hge, ht⟩, rfl⟩

end Go.Proofs.Ytinafcajaikfdaa
