/-
  An operation as text: the document's line.
-/
import Derived.Test.YtpjkpobdkmcedaaDoorDig
import Derived.Test.YtpjkpobdkmcedaaDoorOlist
import Derived.Test.YtpjkpobdkmcedaaDoorEnc
import Derived.BigQuiet
namespace Go.Proofs.YtpjkpobdkmcedaaDoor
open Go.RowKit Utf
set_option linter.unusedVariables false
set_option linter.unusedSimpArgs false

/-- A blank. -/
def sp : ByteArray := ⟨#[32]⟩
/-- A sign of equality. -/
def eqS : ByteArray := ⟨#[61]⟩

/-- Attributes, behind a text. -/
def atF (s : ByteArray) : List Att → ByteArray
  | [] => s
  | a :: l => atF (s ++ sp ++ a.1 ++ eqS ++ a.2) l

/-- The first part. -/
def hdF (g : Int → ByteArray) (o : Ot) : ByteArray := g o.kd ++ sp ++ g o.nd ++ sp ++ g o.pa ++ sp ++ g o.rf ++ sp ++ g o.ty ++ sp ++ g o.ns ++ sp ++ o.nm

/-- An operation as text, its numbers told by g. -/
def lnO (g : Int → ByteArray) (o : Ot) : ByteArray := atF (hdF g o) o.al ++ ⟨#[32, 34]⟩ ++ o.tt ++ ⟨#[34]⟩

theorem atF_snoc (a : Att) : ∀ (l : List Att) (s : ByteArray), atF s (l ++ [a]) = atF s l ++ sp ++ a.1 ++ eqS ++ a.2
  | [], s => rfl
  | b :: l, s => atF_snoc a l _

theorem atF_take {l : List Att} {k : Nat} (h : k < l.length) (s : ByteArray) : atF s (l.take (k + 1)) = atF s (l.take k) ++ sp ++ l[k].1 ++ eqS ++ l[k].2 := by
  rw [take_snoc h, atF_snoc]

theorem atF_size : ∀ (l : List Att) (s : ByteArray), (atF s l).size ≤ s.size + (ab l).length
  | [], s => by simp [atF, ab]
  | a :: l, s => by
    have := atF_size l (s ++ sp ++ a.1 ++ eqS ++ a.2)
    simp only [ByteArray.size_append] at this
    have e1 : sp.size = 1 := rfl
    have e2 : eqS.size = 1 := rfl
    simp only [atF, ab, List.length_append, tb_len]
    omega

theorem ab_take_le' (l : List Att) (k : Nat) : (ab (l.take k)).length ≤ (ab l).length := by
  have : ab l = ab (l.take k) ++ ab (l.drop k) := by rw [← ab_append, List.take_append_drop]
  rw [this, List.length_append]
  omega

theorem ab_len_ge : ∀ l : List Att, l.length ≤ (ab l).length
  | [] => Nat.le_refl _
  | a :: l => by
    have := ab_len_ge l
    simp only [ab, List.length_append, tb_len, List.length_cons]
    omega

theorem atF_part {l : List Att} {k : Nat} (h : k < l.length) (s : ByteArray) : (atF s (l.take k)).size + l[k].1.size + l[k].2.size + 2 ≤ s.size + (ab l).length := by
  have h1 := atF_size (l.take (k + 1)) s
  have h2 := ab_take_le' l (k + 1)
  rw [atF_take h] at h1
  simp only [ByteArray.size_append] at h1
  have e1 : sp.size = 1 := rfl
  have e2 : eqS.size = 1 := rfl
  omega

/-- A number that an int can hold. -/
def i64 (n : Int) : Prop := -9223372036854775808 ≤ n ∧ n ≤ 9223372036854775807
/-- All its numbers. -/
def in64 (o : Ot) : Prop := i64 o.kd ∧ i64 o.nd ∧ i64 o.pa ∧ i64 o.rf ∧ i64 o.ty ∧ i64 o.ns

theorem dgt_size {n : Int} (h : i64 n) : (dgt n).size ≤ 21 := by
  unfold dgt
  split
  · exact Nat.le_of_ble_eq_true rfl
  · exact itb_size h.1 h.2

set_option maxRecDepth 100000 in
set_option maxHeartbeats 2000000 in
theorem line_any (w : World) (o : Ot) (p : Sl) (hA : At w (o, p)) (hi : in64 o) (hlen : o.nm.size + o.tt.size + (ab o.al).length ≤ 800000) :
    Calls Tryd.prog 11 #[ov o p] w fun e w' => e = .returned (.string (lnO dgt o)) ∧ Kp [] w w' := by
  have hq : p.2.1 = o.al.length := Rp.len hA
  obtain ⟨o1, o2, o3, o4, o5, o6, o7, l, o9⟩ := o
  obtain ⟨p1, p2, p3⟩ := p
  simp only at hq hlen
  subst hq
  have hll : l.length ≤ 800000 := by have := ab_len_ge l; omega
  obtain ⟨i1, i2, i3, i4, i5, i6⟩ := hi
  simp only at i1 i2 i3 i4 i5 i6
  have HD : ∀ W (n : Int), (n = o1 ∨ n = o2 ∨ n = o3 ∨ n = o4 ∨ n = o5 ∨ n = o6) → Calls Tryd.prog 32 #[.int .i64 n] W fun e w' => e = .returned (.string (dgt n)) ∧ w' = W := fun W n hn => by
    rcases hn with rfl | rfl | rfl | rfl | rfl | rfl
    · exact digits_any W _ i1.1 i1.2
    · exact digits_any W _ i2.1 i2.2
    · exact digits_any W _ i3.1 i3.2
    · exact digits_any W _ i4.1 i4.2
    · exact digits_any W _ i5.1 i5.2
    · exact digits_any W _ i6.1 i6.2
  have z1 := dgt_size i1
  have z2 := dgt_size i2
  have z3 := dgt_size i3
  have z4 := dgt_size i4
  have z5 := dgt_size i5
  have z6 := dgt_size i6
  obtain ⟨D, hD⟩ : ∃ D, D = dgt := ⟨_, rfl⟩
  rw [← hD] at HD z1 z2 z3 z4 z5 z6 ⊢
  clear hD i1 i2 i3 i4 i5 i6
  have HR : Hid (∀ W, Kp [] w W → Rp W p1 l.length p3 l) := fun W k => Rp.kept hA k
  have kb : Kp [] w (w.alloc (.cells (oc ⟨o1, o2, o3, o4, o5, o6, o7, l, o9⟩ (p1, l.length, p3)) 24)) := (Kp.refl _ _).alloc _
  have HS : Hid (∀ V, Kp [] (w.alloc (.cells (oc ⟨o1, o2, o3, o4, o5, o6, o7, l, o9⟩ (p1, l.length, p3)) 24)) V → Nine V w.heap.size 0 ⟨o1, o2, o3, o4, o5, o6, o7, l, o9⟩ (p1, l.length, p3)) := fun V k => (nine_of (heap_new w _)).kept k (by simp)
  clear hA
  simp only [oc, ov, Nine, Nat.zero_add] at HS kb ⊢
  obtain ⟨A, hA⟩ : ∃ A, lnO D ⟨o1, o2, o3, o4, o5, o6, o7, l, o9⟩ = A := ⟨_, rfl⟩
  rw [hA]
  have HA : Hid (lnO D ⟨o1, o2, o3, o4, o5, o6, o7, l, o9⟩ = A) := hA
  clear hA
  go_enter Tryd.func11, Tryd.ntmps11
  go_wp2_with fail
  generalize hW : w.alloc (Obj.cells _ 24) = W0 at HS kb ⊢
  clear hW
  generalize w.heap.size = g at HS ⊢
  obtain ⟨f0, f1, f2, f3, f4, f5, f6, f7, f8⟩ := HS.out _ (Kp.refl _ _)
  go_quiet (first | (go_at_call 32; refine Calls.quiet_of_same (HD _ _ (by simp))))
  clear HD f0 f1 f2 f3 f4 f5 f6 f7 f8
  have hs0 : (hdF D ⟨o1, o2, o3, o4, o5, o6, o7, l, o9⟩).size ≤ 140 + o7.size := by
    have e1 : sp.size = 1 := rfl
    simp only [hdF, ByteArray.size_append, e1]
    omega
  rw [show D o1 ++ { data := #[32] } ++ D o2 ++ { data := #[32] } ++ D o3 ++ { data := #[32] } ++ D o4 ++ { data := #[32] } ++ D o5 ++ { data := #[32] } ++ D o6 ++ { data := #[32] } ++ o7 = hdF D ⟨o1, o2, o3, o4, o5, o6, o7, l, o9⟩ from rfl]
  have HA2 : Hid (atF (hdF D ⟨o1, o2, o3, o4, o5, o6, o7, l, o9⟩) l ++ ⟨#[32, 34]⟩ ++ o9 ++ ⟨#[34]⟩ = A) := HA.out
  generalize hdF D ⟨o1, o2, o3, o4, o5, o6, o7, l, o9⟩ = h0 at hs0 HA2 ⊢
  clear HA z1 z2 z3 z4 z5 z6
  have k1 : Kp [] W0 (W0.drewN nq) := (Kp.refl _ _).drewN nq
  generalize W0.drewN nq = W1 at k1 ⊢
  go_wp2
  go_loopw [3, 4] (fun sv i wr => ∃ (k : Nat), k ≤ l.length ∧ i = .int .i64 k ∧ sv = .string (atF h0 (l.take k)) ∧ Kp [] W0 wr) (fun _ i _ => l.length - (intOf i).toNat)
  case atStart => exact ⟨0, Nat.zero_le _, rfl, rfl, k1⟩
  case round =>
    obtain ⟨k, hk, rfl, rfl, kw⟩ := hrel
    clear k1
    obtain ⟨f0, f1, f2, f3, f4, f5, f6, f7, f8⟩ := HS.out _ kw
    clear f0 f1 f2 f3 f4 f5 f6
    by_cases hlt : k < l.length
    · obtain ⟨b, off, e0, h1, h2⟩ := (HR.out _ (kb.trans kw (fun z hz => Or.inl hz))).get k hlt
      subst e0
      have hnx : Hid (atF h0 (l.take (k + 1)) = atF h0 (l.take k) ++ sp ++ l[k].1 ++ eqS ++ l[k].2) := atF_take hlt h0
      have hpt := atF_part hlt h0
      have hk0 : (0 : Int) ≤ (k : Int) := by omega
      have hk1 : (k : Int) < (l.length : Int) := by omega
      clear HA2
      generalize l[k] = x at h1 h2 hnx hpt
      generalize atF h0 (l.take k) = s at hnx hpt ⊢
      have ha : s.size ≤ 800200 := by omega
      have hb : x.1.size ≤ 800200 := by omega
      have hc : x.2.size ≤ 800200 := by omega
      have HP : Hid (s.size + x.1.size + x.2.size + 2 ≤ h0.size + (ab l).length) := hpt
      clear hpt
      go_wp2_with fail
      go_quiet (fail)
      clear h1 h2 f7 f8 ha hb hc
      have kz : Kp [] W0 (wr.drewN nq) := kw.drewN nq
      go_wp2
      go_roundw
      case rel => exact ⟨k + 1, by omega, by go_num, by rw [hnx.out]; rfl, kz⟩
      case measure => simp [intOf]; omega
    · obtain rfl : k = l.length := by omega
      rw [List.take_length]
      have hz := atF_size l h0
      have ha : (atF h0 l).size ≤ 800200 := by omega
      have hA3 := HA2.out
      clear HA2 hz
      generalize atF h0 l = s at ha hA3 ⊢
      have hb : o9.size ≤ 800000 := by omega
      have kz := kb.trans kw (fun z hz => Or.inl hz)
      subst hA3
      go_wp2
      go_ret
      exact ⟨rfl, kz⟩

end Go.Proofs.YtpjkpobdkmcedaaDoor
