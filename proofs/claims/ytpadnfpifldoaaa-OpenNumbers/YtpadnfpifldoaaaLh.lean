/-
  Remove, Replace and After.
-/
import Derived.Test.YtpadnfpifldoaaaLg
import Derived.Deep.RegionHeld3
namespace Go.Proofs.Ytpadnfpifldoaaa.Ints
open Go.RowKit
set_option linter.unusedSimpArgs false

/-- What is left when the element at place k is gone. -/
def rmv (zs : List It) (k : Int) : List It := if 0 ≤ k then zs.take k.toNat ++ zs.drop (k.toNat + 1) else zs
/-- x in the place of the one at k. -/
def rpl (zs : List It) (k : Int) (x : It) : List It := if 0 ≤ k then zs.set k.toNat x else zs
/-- x right above the one at k. -/
def aft (zs : List It) (k : Int) (x : It) : List It := if 0 ≤ k then zs.take (k.toNat + 1) ++ x :: zs.drop (k.toNat + 1) else zs

/-- A pile's slice with something taken out at a place. -/
theorem Lx.cut {w0 w w' : World} {q p : Nat} {v : Value} {bs : List (Option Addr)} {zs : List It} (h : Lx w0 w q p v bs zs) (k : Nat) (hk : k < zs.length) (t : TX w w' p v (bs.take k ++ bs.drop (k + 1))) : Li w0 w' q (zs.take k ++ zs.drop (k + 1)) ∧ Ev w0 w w' := by
  have hlen := h.len
  refine h.turn t (by simp [hlen]) (fun i i1 i2 => ?_)
  by_cases hi : i < k
  · have e1 : (bs.take k ++ bs.drop (k + 1))[i] = bs[i]'(by omega) := by
      rw [List.getElem_append_left (by simp; omega), List.getElem_take]
    have e2 : (zs.take k ++ zs.drop (k + 1))[i] = zs[i]'(by omega) := by
      rw [List.getElem_append_left (by simp; omega), List.getElem_take]
    rw [e1, e2]
    exact h.box i _ _
  · simp at i1
    have e1 : (bs.take k ++ bs.drop (k + 1))[i] = bs[i + 1]'(by omega) := by
      rw [List.getElem_append_right (by simp; omega), List.getElem_drop]
      congr 1
      simp
      omega
    have e2 : (zs.take k ++ zs.drop (k + 1))[i] = zs[i + 1]'(by omega) := by
      rw [List.getElem_append_right (by simp; omega), List.getElem_drop]
      congr 1
      simp
      omega
    rw [e1, e2]
    exact h.box (i + 1) _ _

/-- .. with something else at a place. -/
theorem Lx.set {w0 w w' : World} {q p : Nat} {v : Value} {bs : List (Option Addr)} {zs : List It} (h : Lx w0 w q p v bs zs) (k : Nat) (b : Option Addr) (x : It) (hb : Bx w b x) (t : TX w w' p v (bs.set k b)) : Li w0 w' q (zs.set k x) ∧ Ev w0 w w' := by
  have hlen := h.len
  refine h.turn t (by simp [hlen]) (fun i i1 i2 => ?_)
  rw [List.getElem_set, List.getElem_set]
  split
  · exact hb
  · exact h.box i (by simpa using i1) (by simpa using i2)

/-- .. with something put in at a place. -/
theorem Lx.put {w0 w w' : World} {q p : Nat} {v : Value} {bs : List (Option Addr)} {zs : List It} (h : Lx w0 w q p v bs zs) (k : Nat) (hk : k ≤ zs.length) (b : Option Addr) (x : It) (hb : Bx w b x) (t : TX w w' p v (bs.take k ++ b :: bs.drop k)) :
    Li w0 w' q (zs.take k ++ x :: zs.drop k) ∧ Ev w0 w w' := by
  have hlen := h.len
  refine h.turn t (by simp [hlen]) (fun i i1 i2 => ?_)
  by_cases hi : i < k
  · have e1 : (bs.take k ++ b :: bs.drop k)[i] = bs[i]'(by omega) := by
      rw [List.getElem_append_left (by simp; omega), List.getElem_take]
    have e2 : (zs.take k ++ x :: zs.drop k)[i] = zs[i]'(by omega) := by
      rw [List.getElem_append_left (by simp; omega), List.getElem_take]
    rw [e1, e2]
    exact h.box i _ _
  · simp at i1
    by_cases hj : i = k
    · subst hj
      have e1 : (bs.take i ++ b :: bs.drop i)[i] = b := by
        rw [List.getElem_append_right (by simp; omega)]
        simp [Nat.min_eq_left (show i ≤ bs.length by omega)]
      have e2 : (zs.take i ++ x :: zs.drop i)[i] = x := by
        rw [List.getElem_append_right (by simp; omega)]
        simp [Nat.min_eq_left (show i ≤ zs.length by omega)]
      rw [e1, e2]
      exact hb
    · obtain ⟨j, rfl⟩ : ∃ j, i = j + 1 := ⟨i - 1, by omega⟩
      have e1 : (bs.take k ++ b :: bs.drop k)[j + 1] = bs[j]'(by omega) := by
        rw [List.getElem_append_right (by simp; omega)]
        simp only [List.length_take, Nat.min_eq_left (show k ≤ bs.length by omega), show j + 1 - k = (j - k) + 1 by omega, List.getElem_cons_succ, List.getElem_drop]
        congr 1
        omega
      have e2 : (zs.take k ++ x :: zs.drop k)[j + 1] = zs[j]'(by omega) := by
        rw [List.getElem_append_right (by simp; omega)]
        simp only [List.length_take, Nat.min_eq_left (show k ≤ zs.length by omega), show j + 1 - k = (j - k) + 1 by omega, List.getElem_cons_succ, List.getElem_drop]
        congr 1
        omega
      rw [e1, e2]
      exact h.box j _ _

/-- Cut, of the pile in a list. -/
theorem cut_pile (w0 w : World) (q p : Nat) (v : Value) (bs : List (Option Addr)) (zs : List It) (k : Int) (h : Lx w0 w q p v bs zs) (h1 : -1 ≤ k) (h2 : k < zs.length) (hl : zs.length < 90000) :
    Calls Try.prog 68 #[.pointer (some ⟨p, 0, none⟩), .int .i64 k] w fun e w' => ∃ b, e = .returned (.tuple #[.pointer b, .bool (decide (0 ≤ k))]) ∧ Li w0 w' q (rmv zs k) ∧ Ev w0 w w' := by
  have hlen := h.len
  by_cases h0 : 0 ≤ k
  · have hk : k.toNat < bs.length := by omega
    refine (cut_in w p v bs k h.px h0 (by omega) (by omega) bs[k.toNat] (List.getElem?_eq_getElem hk)).mono ?_
    rintro e w2 ⟨rfl, t⟩
    obtain ⟨r1, r2⟩ := h.cut k.toNat (by omega) t
    refine ⟨_, by rw [decide_eq_true h0], ?_, r2⟩
    rw [rmv, if_pos h0]
    exact r1
  · refine (cut_out w p v bs k h.px (by omega)).mono ?_
    rintro e w2 ⟨rfl, rfl⟩
    refine ⟨_, by rw [decide_eq_false h0], ?_, Ev.refl _ _⟩
    rw [rmv, if_neg h0]
    exact ⟨p, v, bs, h⟩

set_option maxHeartbeats 1000000 in
theorem remove_list (w0 w : World) (q : Nat) (zs : List It) (h : Int) (hL : Li w0 w q zs) (hl : zs.length < 90000) :
    Calls Try.prog 37 #[.pointer (some ⟨q, 0, none⟩), .int .i64 h] w fun e w' => e = .returned (.bool (decide (0 ≤ plc (eqh h) zs))) ∧ Li w0 w' q (rmv zs (plc (eqh h) zs)) ∧ Ev w0 w w' := by
  have hr := plc_range (eqh h) zs
  have hP : Hid (∀ W, Kp [] w W → Calls Try.prog 43 #[.pointer (some ⟨q, 0, none⟩), .int .i64 h] W fun e w' => e = .returned (.int .i64 (plc (eqh h) zs)) ∧ Kp [] W w') := fun W k => place_list w0 W q zs h (hL.kept k) (by omega)
  obtain ⟨p, v, bs, hx⟩ := hL
  obtain ⟨K, hK⟩ : ∃ K, plc (eqh h) zs = K := ⟨_, rfl⟩
  rw [hK] at hP hr ⊢
  have hC : Hid (∀ W, Kp [] w W → Calls Try.prog 68 #[.pointer (some ⟨p, 0, none⟩), .int .i64 K] W fun e w' => ∃ b, e = .returned (.tuple #[.pointer b, .bool (decide (0 ≤ K))]) ∧ Li w0 w' q (rmv zs K) ∧ Ev w0 w w' ∧ w'.cell? ⟨q, 0, none⟩ = some (.pointer (some ⟨p, 0, none⟩))) := fun W k =>
    (cut_pile w0 W q p v bs zs K (hx.kept k) hr.1 hr.2 hl).mono (fun e w' ⟨b, e1, e2, e3⟩ => ⟨b, e1, e2, (Ev.of_kp k).trans e3, cell_of (e3.cells _ _ _ (hx.kept k).head not_pil_list) 0⟩)
  have CC : Hid (∀ W, Kp [] w W → W.cell? ⟨q, 0, none⟩ = some (.pointer (some ⟨p, 0, none⟩))) := fun W k => (hx.kept k).cell
  generalize hB : decide (0 ≤ K) = B at hC ⊢
  clear hx hr hK hB
  have hc := CC.out w (Kp.refl _ _)
  go_enter Try.func37, Try.ntmps37
  go_wp2_with fail
  go_region_held3 (fun V => V.cell? ⟨q, 0, none⟩ = some (.pointer (some ⟨p, 0, none⟩)))
    (first | with_reducible exact c2 | with_reducible exact CC.out _ S1.out | exact CC.out _ (Kp.refl [] w).drew)
    (first
      | (have D1 := S1.out; go_at_call 68; refine (hC.out _ D1).mono ?_; rintro e v2 ⟨b, rfl, r1, r2, c2⟩; have S2 : Hid (Li w0 v2 q (rmv zs K) ∧ Ev w0 w v2) := ⟨r1, r2⟩; clear r1 r2)
      | (go_at_call 43; refine (hP.out _ (Kp.refl [] w).drew).mono ?_; rintro e v1 ⟨rfl, kk⟩; have S1 : Hid (Kp [] w v1) := (Kp.refl [] w).drew.trans kk (fun x hx => by simp at hx); clear kk))
  all_goals (have R := S2.out; clear S1 S2 CC hC hP c2)
  all_goals go_wp2
  all_goals go_ret
  all_goals exact ⟨rfl, R⟩

/-- Set, of the pile in a list. -/
theorem set_pile (w0 w : World) (q p : Nat) (v : Value) (bs : List (Option Addr)) (zs : List It) (k : Int) (b : Option Addr) (x : It) (h : Lx w0 w q p v bs zs) (hb : Bx w b x) (h1 : -1 ≤ k) (h2 : k < zs.length) :
    Calls Try.prog 69 #[.pointer (some ⟨p, 0, none⟩), .int .i64 k, .pointer b] w fun e w' => e = .returned (.bool (decide (0 ≤ k))) ∧ Li w0 w' q (rpl zs k x) ∧ Ev w0 w w' := by
  have hlen := h.len
  by_cases h0 : 0 ≤ k
  · refine (set_in w p v bs k b h.px h0 (by omega)).mono ?_
    rintro e w2 ⟨rfl, t⟩
    obtain ⟨r1, r2⟩ := h.set k.toNat b x hb t
    refine ⟨by rw [decide_eq_true h0], ?_, r2⟩
    rw [rpl, if_pos h0]
    exact r1
  · refine (set_out w p v bs k b h.px (by omega)).mono ?_
    rintro e w2 ⟨rfl, rfl⟩
    refine ⟨by rw [decide_eq_false h0], ?_, Ev.refl _ _⟩
    rw [rpl, if_neg h0]
    exact ⟨p, v, bs, h⟩

set_option maxHeartbeats 1000000 in
theorem replace_list (w0 w : World) (q : Nat) (zs : List It) (h : Int) (x : It) (hL : Li w0 w q zs) (hl : zs.length < 90000) :
    Calls Try.prog 38 #[.pointer (some ⟨q, 0, none⟩), .int .i64 h, iv x] w fun e w' => e = .returned (.bool (decide (0 ≤ plc (eqh h) zs))) ∧ Li w0 w' q (rpl zs (plc (eqh h) zs) x) ∧ Ev w0 w w' := by
  have hr := plc_range (eqh h) zs
  have k1 : Kp [] w (w.alloc (.cells (ic x) 36)) := (Kp.refl _ _).alloc _
  have hb : Bx (w.alloc (.cells (ic x) 36)) (some ⟨w.heap.size, 0, none⟩) x := ⟨_, rfl, heap_new _ _⟩
  have hL1 := hL.kept k1
  obtain ⟨w1, hw1⟩ : ∃ w1, w1 = w.alloc (.cells (ic x) 36) := ⟨_, rfl⟩
  rw [← hw1] at k1 hb hL1
  obtain ⟨ba, hba⟩ : ∃ ba : Option Addr, ba = some ⟨w.heap.size, 0, none⟩ := ⟨_, rfl⟩
  rw [← hba] at hb
  have hP : Hid (∀ W, Kp [] w1 W → Calls Try.prog 43 #[.pointer (some ⟨q, 0, none⟩), .int .i64 h] W fun e w' => e = .returned (.int .i64 (plc (eqh h) zs)) ∧ Kp [] W w') := fun W k => place_list w0 W q zs h (hL1.kept k) (by omega)
  obtain ⟨p, v, bs, hx⟩ := hL1
  obtain ⟨K, hK⟩ : ∃ K, plc (eqh h) zs = K := ⟨_, rfl⟩
  rw [hK] at hP hr ⊢
  have hC : Hid (∀ W, Kp [] w1 W → Calls Try.prog 69 #[.pointer (some ⟨p, 0, none⟩), .int .i64 K, .pointer (some ⟨w.heap.size, 0, none⟩)] W fun e w' => e = .returned (.bool (decide (0 ≤ K))) ∧ Li w0 w' q (rpl zs K x) ∧ Ev w0 w w' ∧ w'.cell? ⟨q, 0, none⟩ = some (.pointer (some ⟨p, 0, none⟩))) := fun W k => by
    rw [← hba]
    exact (set_pile w0 W q p v bs zs K ba x (hx.kept k) (hb.kept k) hr.1 hr.2).mono (fun e w' ⟨e1, e2, e3⟩ => ⟨e1, e2, (Ev.of_kp (k1.trans k (fun y hy => by simp at hy))).trans e3, cell_of (e3.cells _ _ _ (hx.kept k).head not_pil_list) 0⟩)
  have CC : Hid (∀ W, Kp [] w1 W → W.cell? ⟨q, 0, none⟩ = some (.pointer (some ⟨p, 0, none⟩))) := fun W k => (hx.kept k).cell
  generalize hB : decide (0 ≤ K) = B at hC ⊢
  have hc := CC.out w1 (Kp.refl _ _)
  clear hx hr hK hB hb hba hL k1 ba
  have HW : Hid (w1 = w.alloc (.cells (ic x) 36)) := hw1
  obtain ⟨hh, ns, nm⟩ := x
  unfold iv
  rw [hw1] at hc
  unfold ic at hc hw1
  go_enter Try.func38, Try.ntmps38
  go_wp2_with fail
  rw [← hw1] at hc ⊢
  clear hw1 HW
  go_region_held3 (fun V => V.cell? ⟨q, 0, none⟩ = some (.pointer (some ⟨p, 0, none⟩)))
    (first | with_reducible exact c2 | with_reducible exact CC.out _ S1.out | exact CC.out _ (Kp.refl [] w1).drew)
    (first
      | (have D1 := S1.out; go_at_call 69; refine (hC.out _ D1).mono ?_; rintro e v2 ⟨rfl, r1, r2, c2⟩; have S2 : Hid (Li w0 v2 q (rpl zs K (hh, ns, nm)) ∧ Ev w0 w v2) := ⟨r1, r2⟩; clear r1 r2)
      | (go_at_call 43; refine (hP.out _ (Kp.refl [] w1).drew).mono ?_; rintro e v1 ⟨rfl, kk⟩; have S1 : Hid (Kp [] w1 v1) := (Kp.refl [] w1).drew.trans kk (fun x hx => by simp at hx); clear kk))
  all_goals (have R := S2.out; clear S1 S2 CC hC hP c2)
  all_goals go_wp2
  all_goals go_ret
  all_goals exact ⟨rfl, R⟩

set_option maxHeartbeats 1000000 in
theorem after_list (w0 w : World) (q : Nat) (zs : List It) (h : Int) (x : It) (hL : Li w0 w q zs) (hl : zs.length < 90000) :
    Calls Try.prog 39 #[.pointer (some ⟨q, 0, none⟩), .int .i64 h, iv x] w fun e w' => e = .returned (.bool (decide (0 ≤ plc (eqh h) zs))) ∧ Li w0 w' q (aft zs (plc (eqh h) zs) x) ∧ Ev w0 w w' := by
  have hr := plc_range (eqh h) zs
  have k1 : Kp [] w (w.alloc (.cells (ic x) 36)) := (Kp.refl _ _).alloc _
  have hb : Bx (w.alloc (.cells (ic x) 36)) (some ⟨w.heap.size, 0, none⟩) x := ⟨_, rfl, heap_new _ _⟩
  have hL1 := hL.kept k1
  have hP := place_list w0 _ q zs h hL1 (by omega)
  obtain ⟨p, v, bs, hx⟩ := hL1
  obtain ⟨K, hK⟩ : ∃ K, plc (eqh h) zs = K := ⟨_, rfl⟩
  rw [hK] at hP hr ⊢
  have hlen := hx.len
  have hC : 0 ≤ K → Hid (∀ W, Kp [] (w.alloc (.cells (ic x) 36)) W → W.cell? ⟨q, 0, none⟩ = some (.pointer (some ⟨p, 0, none⟩)) ∧ Calls Try.prog 70 #[.pointer (some ⟨p, 0, none⟩), .int .i64 (K + 1), .pointer (some ⟨w.heap.size, 0, none⟩)] W fun e w' => e = .returned (.bool true) ∧ Li w0 w' q (aft zs K x) ∧ Ev w0 w w') := fun h0 W k => by
    refine ⟨(hx.kept k).cell, (put_in W p v bs (K + 1) (some ⟨w.heap.size, 0, none⟩) (hx.kept k).px (by omega) (by omega) (by omega)).mono ?_⟩
    rintro e w' ⟨rfl, t⟩
    rw [show (K + 1).toNat = K.toNat + 1 by omega] at t
    obtain ⟨r1, r2⟩ := (hx.kept k).put (K.toNat + 1) (by omega) _ x (hb.kept k) t
    refine ⟨rfl, ?_, (Ev.of_kp (k1.trans k (fun y hy => by simp at hy))).trans r2⟩
    rw [aft, if_pos h0]
    exact r1
  have hN : ¬ 0 ≤ K → Hid (∀ W, Kp [] (w.alloc (.cells (ic x) 36)) W → Li w0 W q (aft zs K x) ∧ Ev w0 w W) := fun h0 W k => by
    rw [aft, if_neg h0]
    have kk := k1.trans k (fun y hy => by simp at hy)
    exact ⟨hL.kept kk, Ev.of_kp kk⟩
  clear hx hK hb hlen k1 hL
  obtain ⟨hh, ns, nm⟩ := x
  unfold ic at hP hC hN
  unfold iv
  by_cases h0 : 0 ≤ K
  · have hC2 := hC h0
    rw [decide_eq_true h0]
    clear hN hC
    go_enter Try.func39, Try.ntmps39
    go_wp2_with fail
    refine hP.mono ?_
    rintro e w2 ⟨rfl, k2⟩
    obtain ⟨c2, HC⟩ := hC2.out w2 k2
    have b1 : K ≤ 1000000 := by omega
    clear hC2 hP k2
    go_wp2_with fail
    refine HC.mono ?_
    rintro e w3 ⟨rfl, r1, r2⟩
    clear HC
    go_wp2
    go_ret
    exact ⟨rfl, r1, r2⟩
  · have hN2 := hN h0
    rw [decide_eq_false h0]
    clear hC hN
    go_enter Try.func39, Try.ntmps39
    go_wp2_with fail
    refine hP.mono ?_
    rintro e w2 ⟨rfl, k2⟩
    have R := hN2.out w2 k2
    clear hN2 hP k2
    go_wp2
    go_ret
    exact ⟨rfl, R⟩

end Go.Proofs.Ytpadnfpifldoaaa.Ints
