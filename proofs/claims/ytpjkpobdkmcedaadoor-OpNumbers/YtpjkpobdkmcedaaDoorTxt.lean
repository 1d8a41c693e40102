/-
  The program's Text.
-/
import Derived.Test.YtpjkpobdkmcedaaDoorLin
import Derived.Test.YtpjkpobdkmcedaaDoorBu
import Derived.Test.YtpjkpobdkmcedaaDoorZero
namespace Go.Proofs.YtpjkpobdkmcedaaDoor
open Go.RowKit Utf
set_option linter.unusedVariables false
set_option linter.unusedSimpArgs false

theorem nil_ba (a : ByteArray) : (⟨#[]⟩ : ByteArray) ++ a = a := by
  apply ByteArray.ext
  simp [ByteArray.data_append]

/-- Numbers, a blank behind each. -/
def pfx (g : Int → ByteArray) : List Int → ByteArray
  | l => l.foldl (fun s n => s ++ (g n ++ sp)) ⟨#[]⟩

theorem pfx_take {g : Int → ByteArray} {l : List Int} {k : Nat} (h : k < l.length) : pfx g (l.take (k + 1)) = pfx g (l.take k) ++ (g l[k] ++ sp) := by
  unfold pfx
  rw [List.take_succ_eq_append_getElem h, List.foldl_append]
  rfl

theorem pfx_head (g : Int → ByteArray) (o1 o2 o3 o4 o5 o6 : Int) (o7 o9 : ByteArray) (l : List Att) : pfx g [o1, o2, o3, o4, o5, o6] ++ o7 = hdF g ⟨o1, o2, o3, o4, o5, o6, o7, l, o9⟩ := by
  simp only [pfx, hdF, List.foldl_cons, List.foldl_nil, nil_ba, ba_assoc]

theorem pfx_size {g : Int → ByteArray} {m : Nat} : ∀ (l : List Int), (∀ n, n ∈ l → (g n).size ≤ m) → ∀ k, (pfx g (l.take k)).size ≤ (m + 1) * k := by
  intro l hl k
  induction k with
  | zero => exact Nat.zero_le _
  | succ k ih =>
    by_cases h : k < l.length
    · rw [pfx_take h]
      simp only [ByteArray.size_append]
      have := hl l[k] (List.getElem_mem h)
      have e1 : sp.size = 1 := rfl
      rw [Nat.mul_succ]
      omega
    · rw [List.take_of_length_le (by omega)]
      rw [List.take_of_length_le (by omega)] at ih
      rw [Nat.mul_succ]
      omega

/-- The builder in block b, which was there in w2, holds acc; nothing else of w2 turned. -/
def TS (w2 W : World) (b : Nat) (acc : ByteArray) : Prop := ∃ v, Bu W b v acc ∧ Kp [b] w2 W ∧ ∀ x, x ∈ blk v → w2.heap.size ≤ x

theorem TS.kept {w2 W W' : World} {b : Nat} {acc : ByteArray} (h : TS w2 W b acc) (k : Kp [] W W') : TS w2 W' b acc := by
  obtain ⟨v, h1, h2, h3⟩ := h
  exact ⟨v, h1.keep k (by simp) (fun _ _ => by simp), h2.trans k (fun x hx => by simp at hx), h3⟩

theorem TS.write {w2 W : World} {b : Nat} {acc : ByteArray} (h : TS w2 W b acc) (s : ByteArray) (hlen : acc.size + s.size ≤ 1000000) :
    Calls Tryd.prog 29 #[.pointer (some ⟨b, 0, none⟩), .string s] W fun e W' => e = .returned (.tuple #[.int .i64 s.size, .nilIface]) ∧ TS w2 W' b (acc ++ s) := by
  obtain ⟨v, h1, h2, h3⟩ := h
  refine (bu_write W b v acc s h1 hlen).mono ?_
  rintro e W' ⟨rfl, v', g1, g2, g3⟩
  have hsz := h2.size
  refine ⟨rfl, v', g1, h2.trans g2 (fun x hx => ?_), fun x hx => ?_⟩
  · rcases List.mem_cons.1 hx with rfl | hx
    · exact Or.inl (by simp)
    · exact Or.inr (h3 x hx)
  · rcases g3 x hx with h4 | h4
    · exact h3 x h4
    · omega

set_option maxRecDepth 100000 in
set_option maxHeartbeats 1000000 in
theorem text_any (w : World) (hT : Tb w) (o : Ot) (p : Sl) (hA : At w (o, p)) (hi : in64 o) (hlen : o.nm.size + o.tt.size + (ab o.al).length ≤ 800000) :
    Calls Tryd.prog 10 #[ov o p] w fun e w' => e = .returned (.string (lnO itb o)) ∧ Kp [] w w' := by
  have hq : p.2.1 = o.al.length := Rp.len hA
  obtain ⟨o1, o2, o3, o4, o5, o6, o7, l, o9⟩ := o
  obtain ⟨p1, p2, p3⟩ := p
  simp only at hq hlen
  subst hq
  have hll : l.length ≤ 800000 := by have := ab_len_ge l; omega
  obtain ⟨i1, i2, i3, i4, i5, i6⟩ := hi
  simp only at i1 i2 i3 i4 i5 i6
  obtain ⟨N, hN⟩ : ∃ N, N = [o1, o2, o3, o4, o5, o6] := ⟨_, rfl⟩
  have hnl : N.length = 6 := by rw [hN]; rfl
  have hni : ∀ n, n ∈ N → i64 n := fun n hn => by
    rw [hN] at hn
    simp only [List.mem_cons, List.not_mem_nil, or_false] at hn
    rcases hn with rfl | rfl | rfl | rfl | rfl | rfl <;> assumption
  have HZ : Hid (∀ n, n ∈ N → (itb n).size ≤ 21) := fun n hn => itb_size (hni n hn).1 (hni n hn).2
  have HP := pfx_size N HZ.out
  have HH : Hid (pfx itb N ++ o7 = hdF itb ⟨o1, o2, o3, o4, o5, o6, o7, l, o9⟩) := (by rw [hN]; exact pfx_head itb o1 o2 o3 o4 o5 o6 o7 o9 l : pfx itb N ++ o7 = hdF itb ⟨o1, o2, o3, o4, o5, o6, o7, l, o9⟩)
  -- the worlds: the box, the builder, the numbers
  obtain ⟨w2, hw2⟩ : ∃ w2, w2 = ((w.alloc (.cells (oc ⟨o1, o2, o3, o4, o5, o6, o7, l, o9⟩ (p1, l.length, p3)) 24)).alloc (.cells #[.pointer none, .slice none 0 0] 60)).alloc (.cells #[.int .i64 o1, .int .i64 o2, .int .i64 o3, .int .i64 o4, .int .i64 o5, .int .i64 o6] 3) := ⟨_, rfl⟩
  have kb : Kp [] w w2 := by rw [hw2]; exact (((Kp.refl _ _).alloc _).alloc _).alloc _
  have B0 : w2.heap[w.heap.size]? = some (.cells (oc ⟨o1, o2, o3, o4, o5, o6, o7, l, o9⟩ (p1, l.length, p3)) 24 (0, 0)) := by
    rw [hw2, Below.heap_alloc _ _ _ (by simp; omega), Below.heap_alloc _ _ _ (by simp)]
    exact heap_new w _
  have B2 : w2.heap[w.heap.size + 2]? = some (.cells (iz N).toArray 3 (0, 0)) := by
    rw [hw2, hN]
    exact heap_new' _ _ _ (by simp)
  have T0 : TS w2 w2 (w.heap.size + 1) ⟨#[]⟩ := by
    refine ⟨.slice none 0 0, ?_, Kp.refl _ _, fun x hx => by simp [blk] at hx⟩
    have := (bu_new (w.alloc (.cells (oc ⟨o1, o2, o3, o4, o5, o6, o7, l, o9⟩ (p1, l.length, p3)) 24))).keep ((Kp.refl [] _).alloc (.cells #[.int .i64 o1, .int .i64 o2, .int .i64 o3, .int .i64 o4, .int .i64 o5, .int .i64 o6] 3)) (by simp) (fun _ _ => by simp)
    rw [hw2]
    simpa using this
  have hsz2 : w2.heap.size = w.heap.size + 3 := by rw [hw2]; simp
  have HS : Hid (∀ V acc, TS w2 V (w.heap.size + 1) acc → Nine V w.heap.size 0 ⟨o1, o2, o3, o4, o5, o6, o7, l, o9⟩ (p1, l.length, p3)) := fun V acc h => by
    obtain ⟨v, _, k, _⟩ := h
    exact (nine_of B0).kept k (by simp)
  have HN : Hid (∀ V acc, TS w2 V (w.heap.size + 1) acc → ∀ k (hk : k < N.length), V.cell? ⟨w.heap.size + 2, k, none⟩ = some (.int .i64 N[k])) := fun V acc h k hk => by
    obtain ⟨v, _, kk, _⟩ := h
    have e : V.heap[w.heap.size + 2]? = some (.cells (iz N).toArray 3 (0, 0)) := (kk.block _ (by omega) (by simp)).trans B2
    rw [cell_of e]
    simp [iz, hk]
  have HK : Hid (∀ V acc, TS w2 V (w.heap.size + 1) acc → Kp [] w V) := fun V acc h => by
    obtain ⟨v, _, kk, _⟩ := h
    exact kb.trans kk (fun x hx => Or.inr (by simp at hx; omega))
  have HR : Hid (∀ V acc, TS w2 V (w.heap.size + 1) acc → Rp V p1 l.length p3 l) := fun V acc h => Rp.kept hA (HK.out V acc h)
  have HI : Hid (∀ V acc n, n ∈ N → TS w2 V (w.heap.size + 1) acc → Calls Tryd.prog 30 #[.int .i64 n] V fun e w' => e = .returned (.string (itb n)) ∧ Kp [] V w') := fun V acc n hn h => itoa_any V (hT.kept (HK.out V acc h)) n (hni n hn).1 (hni n hn).2
  have HG : Hid (∀ V acc, TS w2 V (w.heap.size + 1) acc → Calls Tryd.prog 31 #[.pointer (some ⟨w.heap.size + 1, 0, none⟩)] V fun e w' => e = .returned (.string acc) ∧ Kp [] w w') := fun V acc h => by
    have kk := HK.out V acc h
    obtain ⟨v, h1, h2, h3⟩ := h
    exact bu_string w V _ v acc h1 kk (by omega) (fun x hx => by have := h3 x hx; omega)
  have HW : Hid (((w.alloc (.cells (oc ⟨o1, o2, o3, o4, o5, o6, o7, l, o9⟩ (p1, l.length, p3)) 24)).alloc (.cells #[.pointer none, .slice none 0 0] 60)).alloc (.cells #[.int .i64 o1, .int .i64 o2, .int .i64 o3, .int .i64 o4, .int .i64 o5, .int .i64 o6] 3) = w2) := hw2.symm
  clear hw2 kb B0 B2 hsz2 hA hT hN hni i1 i2 i3 i4 i5 i6
  simp only [oc, ov, Nine, Nat.zero_add] at HS HW ⊢
  obtain ⟨A, hA⟩ : ∃ A, lnO itb ⟨o1, o2, o3, o4, o5, o6, o7, l, o9⟩ = A := ⟨_, rfl⟩
  rw [hA]
  have HA : Hid (atF (hdF itb ⟨o1, o2, o3, o4, o5, o6, o7, l, o9⟩) l ++ ⟨#[32, 34]⟩ ++ o9 ++ ⟨#[34]⟩ = A) := hA
  clear hA
  go_enter Tryd.func10, Tryd.ntmps10
  go_wp2
  rw [HW.out]
  clear HW
  have HL : Hid (N.length = 6) := hnl
  have HQ : Hid (∀ k, (pfx itb (N.take k)).size ≤ (21 + 1) * k) := HP
  clear hnl HP
  generalize w.heap.size = g at T0 HS HN HK HR HI HG ⊢
  go_loopw [22] (fun i wr => ∃ k : Nat, k ≤ 6 ∧ i = .int .i64 k ∧ TS w2 wr (g + 1) (pfx itb (N.take k))) (fun i _ => 6 - (intOf i).toNat)
  case atStart => exact ⟨0, by omega, rfl, T0⟩
  case round =>
    obtain ⟨k, hk, rfl, T⟩ := hrel
    clear T0
    by_cases hlt : k < 6
    · have hkN : k < N.length := by rw [HL.out]; exact hlt
      have hc := HN.out _ _ T k hkN
      have hI := HI.out _ _ N[k] (List.getElem_mem hkN) T
      have hz := HZ.out N[k] (List.getElem_mem hkN)
      have hac := HQ.out k
      have hnx : Hid (pfx itb (N.take (k + 1)) = pfx itb (N.take k) ++ (itb N[k] ++ sp)) := pfx_take hkN
      have TT : Hid (TS w2 wr (g + 1) (pfx itb (N.take k))) := T
      have hac2 : (pfx itb (N.take k)).size ≤ 200 := by omega
      clear T hac HI HN HG HZ HQ HR HS HA HH
      generalize pfx itb (N.take k) = acc at hnx TT hac2
      generalize N[k] = n at hc hI hz hnx
      generalize itb n = x at hI hz hnx
      have hw1 : acc.size + (x ++ (⟨#[32]⟩ : ByteArray)).size ≤ 1000000 := by
        rw [ByteArray.size_append]
        have : (⟨#[32]⟩ : ByteArray).size = 1 := rfl
        omega
      have HW1 : Hid (acc.size + (x ++ (⟨#[32]⟩ : ByteArray)).size ≤ 1000000) := hw1
      clear hw1
      go_wp2_with fail
      refine hI.mono ?_
      rintro e w3 ⟨rfl, k3⟩
      have T3 := TT.out.kept k3
      clear hI TT hc k3
      go_wp2_with fail
      have HW2 := T3.write _ HW1.out
      refine HW2.mono ?_
      rintro e w4 ⟨rfl, T4⟩
      clear T3 HW2 HW1
      go_wp2
      go_roundw
      case rel => exact ⟨k + 1, by omega, by go_num, by rw [hnx.out]; exact T4⟩
      case measure => simp [intOf]; omega
    · obtain rfl : k = 6 := by omega
      have hac := HQ.out 6
      rw [List.take_of_length_le (Nat.le_of_eq HL.out)] at T hac
      have hac2 : (pfx itb N).size ≤ 200 := by omega
      clear hac HQ HZ HN HI hlt hk
      obtain ⟨f0, f1, f2, f3, f4, f5, f6, f7, f8⟩ := HS.out _ _ T
      go_wp2_with fail
      refine (T.write o7 (by omega)).mono ?_
      rintro e w3 ⟨rfl, T3⟩
      rw [HH.out] at T3
      have hs0 : (hdF itb ⟨o1, o2, o3, o4, o5, o6, o7, l, o9⟩).size ≤ 200 + o7.size := by
        rw [← HH.out, ByteArray.size_append]
        omega
      clear T f0 f1 f2 f3 f4 f5 f6 f7 f8 hac2 HH
      generalize hdF itb ⟨o1, o2, o3, o4, o5, o6, o7, l, o9⟩ = h0 at T3 hs0 HA
      obtain ⟨f0, f1, f2, f3, f4, f5, f6, f7, f8⟩ := HS.out _ _ T3
      obtain ⟨wr0, hwr0⟩ : ∃ x, x = wr := ⟨_, rfl⟩
      go_wp2
      clear f0 f1 f2 f3 f4 f5 f6 f7 f8
      go_loopw [37] (fun i wr => ∃ k : Nat, k ≤ l.length ∧ i = .int .i64 k ∧ TS w2 wr (g + 1) (atF h0 (l.take k))) (fun i _ => l.length - (intOf i).toNat)
      case atStart => exact ⟨0, Nat.zero_le _, rfl, T3⟩
      case round =>
        obtain ⟨k, hk, rfl, T⟩ := hrel
        clear T3
        by_cases hlt : k < l.length
        · obtain ⟨b, off, e0, h1, h2⟩ := (HR.out _ _ T).get k hlt
          subst e0
          have hnx : Hid (atF h0 (l.take (k + 1)) = atF h0 (l.take k) ++ (sp ++ l[k].1 ++ eqS ++ l[k].2)) := (by rw [atF_take hlt]; simp only [ba_assoc] : atF h0 (l.take (k + 1)) = atF h0 (l.take k) ++ (sp ++ l[k].1 ++ eqS ++ l[k].2))
          have hpt := atF_part hlt h0
          have T1 : Hid (TS w2 (wr.alloc (.cells #[.string l[k].1, .string l[k].2] 26)) (g + 1) (atF h0 (l.take k))) := T.kept ((Kp.refl _ _).alloc _)
          clear T HR HS HA HG
          generalize l[k] = x at h1 h2 hnx hpt T1
          generalize atF h0 (l.take k) = acc at hnx hpt T1
          have hb : x.1.size ≤ 800200 := by omega
          have hc : x.2.size ≤ 800200 := by omega
          have HPT : Hid (acc.size + x.1.size + x.2.size + 2 ≤ 800200) := (by omega : acc.size + x.1.size + x.2.size + 2 ≤ 800200)
          have HW1 : Hid (acc.size + ((⟨#[32]⟩ : ByteArray) ++ x.1 ++ ⟨#[61]⟩ ++ x.2).size ≤ 1000000) := (by
            simp only [ByteArray.size_append]
            have e1 : (⟨#[32]⟩ : ByteArray).size = 1 := rfl
            have e2 : (⟨#[61]⟩ : ByteArray).size = 1 := rfl
            omega : acc.size + ((⟨#[32]⟩ : ByteArray) ++ x.1 ++ ⟨#[61]⟩ ++ x.2).size ≤ 1000000)
          clear hpt
          go_wp2_with fail
          have HW2 := T1.out.write _ HW1.out
          refine HW2.mono ?_
          rintro e w4 ⟨rfl, T4⟩
          clear T1 h1 h2 hb hc HPT HW1 HW2
          go_wp2
          go_roundw
          case rel => exact ⟨k + 1, by omega, by go_num, by rw [hnx.out]; exact T4⟩
          case measure => simp [intOf]; omega
        · obtain rfl : k = l.length := by omega
          rw [List.take_length] at T
          have hz := atF_size l h0
          have ha : (atF h0 l).size ≤ 800400 := by omega
          have hA3 := HA.out
          have HA4 : Hid (atF h0 l ++ (⟨#[32, 34]⟩ ++ o9 ++ ⟨#[34]⟩) = A) := (by rw [← hA3]; simp only [ba_assoc] : atF h0 l ++ (⟨#[32, 34]⟩ ++ o9 ++ ⟨#[34]⟩) = A)
          clear HA hA3
          generalize atF h0 l = s at ha HA4 T hz
          obtain ⟨f0, f1, f2, f3, f4, f5, f6, f7, f8⟩ := HS.out _ _ T
          have hb : o9.size ≤ 800000 := by omega
          have HW1 : Hid (s.size + ((⟨#[32, 34]⟩ : ByteArray) ++ o9 ++ ⟨#[34]⟩).size ≤ 1000000) := (by
            simp only [ByteArray.size_append]
            have e1 : (⟨#[32, 34]⟩ : ByteArray).size = 2 := rfl
            have e2 : (⟨#[34]⟩ : ByteArray).size = 1 := rfl
            omega : s.size + ((⟨#[32, 34]⟩ : ByteArray) ++ o9 ++ ⟨#[34]⟩).size ≤ 1000000)
          clear hz
          go_wp2_with fail
          have HW2 := T.write _ HW1.out
          refine HW2.mono ?_
          rintro e w4 ⟨rfl, T4⟩
          rw [HA4.out] at T4
          clear T f0 f1 f2 f3 f4 f5 f6 f7 f8 HW1 HW2
          go_wp2_with fail
          refine (HG.out _ _ T4).mono ?_
          rintro e w5 ⟨rfl, k5⟩
          clear T4
          go_wp2
          go_ret
          exact ⟨rfl, k5⟩

end Go.Proofs.YtpjkpobdkmcedaaDoor
