/-
  What OpenTexts calls its elements by, and where they are found: no program; a list of texts' elements beside a law's list.
-/
import Derived.Test.YtpadnfpifldoaaaApp
import Derived.Test.YtpadnfpifldoaaaLes
import Derived.Laws.Cover4
namespace Go.Proofs.Ytpadnfpifldoaaa

/-- The k-th handle. -/
def hn (h : ByteArray) (k : Nat) : ByteArray := h ++ Utf8.encode (97 + (k : Int))

theorem enc_is : ∀ k : Nat, k < 20 → (Utf8.encode (97 + (k : Int))).data.toList = [UInt8.ofNat (97 + k)] := by decide +kernel

theorem app_data (a b : ByteArray) : (a ++ b).data.toList = a.data.toList ++ b.data.toList := by simp

theorem hn_inj (h : ByteArray) (i j : Nat) (hi : i < 20) (hj : j < 20) (e : ((hn h i).toList == (hn h j).toList) = true) : i = j := by
  have e1 := toList_inj (eq_of_beq e)
  have e2 : (hn h i).data.toList = (hn h j).data.toList := by rw [e1]
  unfold hn at e2
  rw [app_data, app_data, enc_is i hi, enc_is j hj] at e2
  have e3 := List.append_cancel_left e2
  simp only [List.cons.injEq, and_true] at e3
  have e4 : (UInt8.ofNat (97 + i)).toNat = (UInt8.ofNat (97 + j)).toNat := by rw [e3]
  simp at e4
  omega

theorem hn_none (h : ByteArray) (i : Nat) (hi : i < 20) : ((hn h i).toList == (h ++ ⟨#[110, 111, 110, 101]⟩).toList) = false := by
  rw [beq_eq_false_iff_ne]
  intro e
  have e1 := toList_inj e
  have e2 : (hn h i).data.toList = (h ++ ⟨#[110, 111, 110, 101]⟩ : ByteArray).data.toList := by rw [e1]
  unfold hn at e2
  rw [app_data, app_data, enc_is i hi] at e2
  have e3 := List.append_cancel_left e2
  simp at e3

theorem hn_fit (h : ByteArray) (hs : h.size ≤ 140737488355328) : ∀ i, ¬ 9223372036854775807 < h.size + (Utf8.encode i).size := fun i => by
  have := encode_size_le i
  omega

variable {α : Type}

theorem plc_at (eq : α → Bool) (zs : List (Itm α)) (i : Nat) (hi : i < zs.length) (h1 : eq (zs[i].1) = true) (h2 : ∀ j (hj : j < zs.length), i < j → eq (zs[j].1) = false) : plc eq zs = i := by
  have H : ∀ k, i < k → k ≤ zs.length → plcR eq (zs.take k).reverse = i := by
    intro k
    induction k with
    | zero => intro h; omega
    | succ k ih =>
      intro hk hl
      rw [rev_take zs k (by omega)]
      unfold plcR
      by_cases he : i = k
      · subst he
        rw [if_pos h1]
        simp
        omega
      · rw [h2 k (by omega) (by omega), if_neg (by simp)]
        exact ih (by omega) (by omega)
  have := H zs.length hi (Nat.le_refl _)
  rw [rev_all] at this
  exact this

theorem plc_no (eq : α → Bool) (zs : List (Itm α)) (h : ∀ j (hj : j < zs.length), eq (zs[j].1) = false) : plc eq zs = -1 := by
  have H : ∀ k, k ≤ zs.length → plcR eq (zs.take k).reverse = -1 := by
    intro k
    induction k with
    | zero => intro _; rfl
    | succ k ih =>
      intro hl
      rw [rev_take zs k (by omega)]
      unfold plcR
      rw [h k (by omega), if_neg (by simp)]
      exact ih (by omega)
  have := H zs.length (Nat.le_refl _)
  rw [rev_all] at this
  exact this

/-- A law's elements, under the handles that the texts give. -/
def tg (h : ByteArray) (zs : List (Itm Int)) : List (Itm ByteArray) := zs.mapIdx fun j x => (hn h j, x.2)

theorem tg_snoc (h : ByteArray) (zs : List (Itm Int)) (x : Itm Int) : tg h (zs ++ [x]) = tg h zs ++ [(hn h zs.length, x.2)] := by
  unfold tg
  rw [List.mapIdx_append]
  simp

theorem tg_len (h : ByteArray) (zs : List (Itm Int)) : (tg h zs).length = zs.length := by simp [tg]

theorem tg_map (h : ByteArray) (zs : List (Itm Int)) : (tg h zs).map (·.2) = zs.map (·.2) := by
  apply List.ext_getElem
  · simp [tg]
  · intro i h1 h2
    simp [tg]

theorem tg_at (h : ByteArray) (zs : List (Itm Int)) (j : Nat) (h1 : j < (tg h zs).length) (h2 : j < zs.length) : (tg h zs)[j] = (hn h j, zs[j].2) := by
  simp [tg]

theorem tg_plc (h : ByteArray) (zs : List (Itm Int)) (i : Nat) (hi : i < zs.length) (hl : zs.length ≤ 20) : plc (Strs.eqh (hn h i)) (tg h zs) = i := by
  refine plc_at _ _ i (by rw [tg_len]; exact hi) ?_ (fun j hj hij => ?_)
  · rw [tg_at h zs i _ hi]
    simp [Strs.eqh]
  · have hj2 : j < zs.length := by rw [tg_len] at hj; exact hj
    rw [tg_at h zs j hj hj2]
    unfold Strs.eqh
    cases hb : ((hn h j).toList == (hn h i).toList)
    · rfl
    · have := hn_inj h j i (by omega) (by omega) hb
      omega

theorem tg_none (h : ByteArray) (zs : List (Itm Int)) (hl : zs.length ≤ 20) : plc (Strs.eqh (h ++ ⟨#[110, 111, 110, 101]⟩)) (tg h zs) = -1 := by
  refine plc_no _ _ (fun j hj => ?_)
  have hj2 : j < zs.length := by rw [tg_len] at hj; exact hj
  rw [tg_at h zs j hj hj2]
  unfold Strs.eqh
  exact hn_none h j (by omega)

namespace Strs
open Go.RowKit

/-- Blocks of a law's own list are written: no part of the program's list lies there. -/
theorem Li.side {w0 w w' : World} {q : Nat} {zs : List It} {S : List Nat} (h : Li w0 w q zs) (k : Kp S w w') (hS : ∀ x, x ∈ S → ∃ cur, w.heap[x]? = some (Obj.cells cur 36 (0, 0))) : Li w0 w' q zs := by
  obtain ⟨p, v, bs, h⟩ := h
  have ne : ∀ x c t, w.heap[x]? = some (Obj.cells c t (0, 0)) → t ≠ 36 → x ∉ S := fun x c t h1 h2 h3 => by
    obtain ⟨cur, h4⟩ := hS x h3
    rw [h4] at h1
    simp only [Option.some.injEq, Obj.cells.injEq] at h1
    exact h2 h1.2.1.symm
  refine ⟨p, v, bs, ?_, ⟨?_, h.px.2.1.keep k (fun x hx => ?_), h.px.2.2⟩, h.len, fun i h1 h2 => ?_, h.new1, h.new2⟩
  · rw [k.block q (lt_of h.head) (ne _ _ _ h.head (by decide))]
    exact h.head
  · rw [k.block p (lt_of h.px.1) (ne _ _ _ h.px.1 (by decide))]
    exact h.px.1
  · rcases h.px.2.1 with ⟨h3, _⟩ | ⟨g, cap, cur', h3, h4, _⟩
    · rw [h3] at hx
      simp [blk] at hx
    · rw [h3] at hx
      simp [blk] at hx
      subst hx
      exact ne _ _ _ h4 (by decide)
  · obtain ⟨g, h3, h4⟩ := h.box i h1 h2
    refine ⟨g, h3, ?_⟩
    rw [k.block g (lt_of h4) (ne _ _ _ h4 (by decide))]
    exact h4

end Strs
end Go.Proofs.Ytpadnfpifldoaaa
