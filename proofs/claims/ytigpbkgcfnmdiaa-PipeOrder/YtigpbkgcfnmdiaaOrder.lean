/-
  The walk of PipeOrder: whatever room, texts and takes it is given, it answers true, and leaves what was there as it was.
-/
import Derived.Test.YtigpbkgcfnmdiaaKnown
namespace Go.Proofs.Ytigpbkgcfnmdiaa
open Go.RowKit Strs

/-- A line that holds zs, what was put (vs, in vp) and what was got (us, in vg): each in blocks of its own, all made behind w. -/
structure Ord (w wr : World) (p c r : Nat) (ks : List Nat) (zs us vs : List ByteArray) (vp vg : Value) : Prop where
  inv : Inv w wr p c r ks zs
  op : Own wr 9 vp (vs.map Value.string)
  og : Own wr 9 vg (us.map Value.string)
  fp : ∀ x, x ∈ blk vp → w.heap.size ≤ x ∧ x ∉ ks ∧ x ∉ blk vg
  fg : ∀ x, x ∈ blk vg → w.heap.size ≤ x ∧ x ∉ ks

section
variable {w wr w2 : World} {p c r : Nat} {ks : List Nat} {zs us vs : List ByteArray} {vp vg : Value}

theorem Ord.kept (h : Ord w wr p c r ks zs us vs vp vg) (k : Kp [] wr w2) : Ord w w2 p c r ks zs us vs vp vg :=
  ⟨h.inv.kept k, h.op.keep k (fun _ _ => by simp), h.og.keep k (fun _ _ => by simp), h.fp, h.fg⟩

theorem Ord.put {zs' : List ByteArray} (h : Ord w wr p c r ks zs us vs vp vg) (l : LX w2 p c r (ks ++ [wr.heap.size]) zs') (k : Kp [c] wr w2) : Ord w w2 p c r (ks ++ [wr.heap.size]) zs' us vs vp vg :=
  ⟨h.inv.step l k, h.op.past h.inv.1 k, h.og.past h.inv.1 k, fun x hx => by
    obtain ⟨h1, h2, h3⟩ := h.fp x hx
    have := h.op.lt x hx
    refine ⟨h1, fun hm => ?_, h3⟩
    rcases List.mem_append.1 hm with h4 | h4
    · exact h2 h4
    · simp only [List.mem_singleton] at h4
      omega, fun x hx => by
    obtain ⟨h1, h2⟩ := h.fg x hx
    have := h.og.lt x hx
    refine ⟨h1, fun hm => ?_⟩
    rcases List.mem_append.1 hm with h4 | h4
    · exact h2 h4
    · simp only [List.mem_singleton] at h4
      omega⟩

theorem Ord.take {ks' : List Nat} {zs' : List ByteArray} (h : Ord w wr p c r ks zs us vs vp vg) (hs : ∀ x, x ∈ ks' → x ∈ ks) (l : LX w2 p c r ks' zs') (k : Kp [c] wr w2) : Ord w w2 p c r ks' zs' us vs vp vg :=
  ⟨h.inv.step l k, h.op.past h.inv.1 k, h.og.past h.inv.1 k, fun x hx => by
    obtain ⟨h1, h2, h3⟩ := h.fp x hx
    exact ⟨h1, fun hm => h2 (hs x hm), h3⟩, fun x hx => by
    obtain ⟨h1, h2⟩ := h.fg x hx
    exact ⟨h1, fun hm => h2 (hs x hm)⟩⟩

theorem Ord.app_p {v' : Value} {x : ByteArray} (h : Ord w wr p c r ks zs us vs vp vg) (o : Own w2 9 v' (vs.map Value.string ++ [.string x])) (k : Kp (blk vp) wr w2) (hb : ∀ y, y ∈ blk v' → y ∈ blk vp ∨ wr.heap.size ≤ y) : Ord w w2 p c r ks zs us (vs ++ [x]) v' vg := by
  obtain ⟨n1, n2⟩ := h.inv.1.own (by decide) h.op
  have hsz := h.inv.2.1.size
  refine ⟨⟨h.inv.1.kept k n1 n2 (fun y hy hm => (h.fp y hm).2.1 hy), h.inv.2.1.trans k (fun y hy => Or.inr (h.fp y hy).1), h.inv.2.2⟩, by simpa using o, h.og.keep k (fun y hy hm => (h.fp y hm).2.2 hy), fun y hy => ?_, h.fg⟩
  rcases hb y hy with h1 | h1
  · exact h.fp y h1
  · refine ⟨by omega, fun hm => ?_, fun hm => ?_⟩
    · have := h.inv.1.lt.2.2 y hm
      omega
    · have := h.og.lt y hm
      omega

theorem Ord.app_g {v' : Value} {xs : List ByteArray} (h : Ord w wr p c r ks zs us vs vp vg) (o : Own w2 9 v' (us.map Value.string ++ xs.map Value.string)) (k : Kp (blk vg) wr w2) (hb : ∀ y, y ∈ blk v' → y ∈ blk vg ∨ wr.heap.size ≤ y) : Ord w w2 p c r ks zs (us ++ xs) vs vp v' := by
  obtain ⟨n1, n2⟩ := h.inv.1.own (by decide) h.og
  have hsz := h.inv.2.1.size
  refine ⟨⟨h.inv.1.kept k n1 n2 (fun y hy hm => (h.fg y hm).2 hy), h.inv.2.1.trans k (fun y hy => Or.inr (h.fg y hy).1), h.inv.2.2⟩, h.op.keep k (fun y hy hm => (h.fp y hy).2.2 hm), by simpa using o, fun y hy => ?_, fun y hy => ?_⟩
  · obtain ⟨h1, h2, h3⟩ := h.fp y hy
    refine ⟨h1, h2, fun hm => ?_⟩
    rcases hb y hm with h4 | h4
    · exact h3 h4
    · have := h.op.lt y hy
      omega
  · rcases hb y hy with h1 | h1
    · exact h.fg y h1
    · refine ⟨by omega, fun hm => ?_⟩
      have := h.inv.1.lt.2.2 y hm
      omega
end

/-- append of a whole slice; of an empty one onto nil, too. -/
theorem app_all (w : World) (v : Value) (xs : List Value) (h : Own w 9 v xs) (ao : Option Addr) (cap : Nat) (zs : List ByteArray) (hs : Rd w (.slice ao zs.length cap) (zs.map Value.string)) (hlen : xs.length + zs.length ≤ 1000000) :
    ∃ v' w', (∀ ty, (Builtin.append_ #[40, 40] ty #[v, .slice ao zs.length cap]).run Try.prog w = .ok v' w') ∧ Own w' 9 v' (xs ++ zs.map Value.string) ∧ Kp (blk v) w w' ∧ (∀ k, k ∈ blk v' → k ∈ blk v ∨ w.heap.size ≤ k) ∧ (∃ a c, v' = .slice a (xs.length + zs.length) c) := by
  have hsrc : Src Try.prog 1 40 (.slice ao zs.length cap) zs.length (zs.map Value.string) w := Rd.src Try.underlying40 hs (one zs)
  by_cases hcase : v = .slice none 0 0 ∧ zs = []
  · obtain ⟨rfl, rfl⟩ := hcase
    have hx : xs = [] := by
      rcases h with ⟨_, h⟩ | ⟨g, o, cp, cur, hv, _⟩
      · exact h
      · cases hv
    subst hx
    obtain ⟨i, hi0, hi1, hi2, hi3⟩ := info_parts info
    refine ⟨.slice none 0 0, w, fun ty => ?_, Or.inl ⟨rfl, rfl⟩, Kp.refl _ _, fun k hk => Or.inl hk, none, 0, rfl⟩
    have hcs := hsrc.cells
    have hln := hsrc.len
    simp only [List.length_nil, List.map_nil] at hcs hln ⊢
    simp [Builtin.append_, run_underlying Try.underlying40, sizeOf, typeInfo, hi0, hi2, hln, hcs]
  · obtain ⟨v', w', h1, h2, h3, h4, a, c, h5⟩ := app_any Try.underlying40 info rfl (by decide) w v xs h _ _ _ hsrc (fun hv => by
      rcases zs with _ | ⟨z, zs⟩
      · exact absurd ⟨hv, rfl⟩ hcase
      · simp) hlen
    exact ⟨v', w', h1, h2, h3, fun k hk => (h4 k hk).imp id (fun e => by omega), some a, c, h5⟩

set_option maxHeartbeats 4000000 in
set_option maxRecDepth 100000 in
theorem order_any (w : World) (n : Int) (ao : Option Addr) (len cap : Nat) (hs : ∀ k, k < len → ∃ b off s, ao = some ⟨b, off, none⟩ ∧ w.cell? ⟨b, off + k, none⟩ = some (.string s))
    (bo : Option Addr) (blen bcap : Nat) (ht : ∀ k, k < blen → ∃ b off q, bo = some ⟨b, off, none⟩ ∧ w.cell? ⟨b, off + k, none⟩ = some (.bool q)) :
    Calls Try.prog 5 #[.int .i64 n, .slice ao len cap, .slice bo blen bcap] w fun e w' => e = .returned (.bool true) ∧ Kp [] w w' := by
  go_enter Try.func5, Try.ntmps5
  go_wp2_with fail
  refine (within_any w n 20 (by omega) (by omega)).mono ?_
  rintro e w1 ⟨⟨r, h1, h2, rfl⟩, rfl⟩
  go_wp2_with fail
  refine (new_any w1 r h1 (by omega)).mono ?_
  rintro e w2 ⟨rfl, l1, k1⟩
  have o1 : Ord w1 w2 (w1.heap.size + 1) w1.heap.size r [] [] [] [] (.slice none 0 0) (.slice none 0 0) := ⟨⟨l1, k1, Nat.le_refl _⟩, Or.inl ⟨rfl, rfl⟩, Or.inl ⟨rfl, rfl⟩, fun x hx => by simp [blk] at hx, fun x hx => by simp [blk] at hx⟩
  clear l1 k1
  generalize w1.heap.size + 1 = p at o1 ⊢
  obtain ⟨c, hc⟩ : ∃ c, c = w1.heap.size := ⟨_, rfl⟩
  rw [← hc] at o1
  clear hc
  go_wp2
  go_loopw [9, 10, 11] (fun vp vg i wr => ∃ (k : Nat) (ks : List Nat) (zs us : List ByteArray), k ≤ 100 ∧ k ≤ len ∧ i = .int .i64 (k : Nat) ∧ Ord w1 wr p c r ks zs us (us ++ zs) vp vg ∧ (us ++ zs).length ≤ k) (fun _ _ i _ => 100 - (intOf i).toNat)
  case atStart => exact ⟨0, [], [], [], by omega, Nat.zero_le _, rfl, o1, by simp⟩
  case round =>
    obtain ⟨k, ks, zs, us, hk, hkl, rfl, ho, hlen⟩ := hrel
    clear o1
    by_cases hlt : k < len ∧ k < 100
    · obtain ⟨hlt1, hlt2⟩ := hlt
      obtain ⟨b, off, s, rfl, hc0⟩ := hs k hlt1
      have hcell : wr.cell? ⟨b, off + k, none⟩ = some (.string s) := by
        rw [ho.inv.2.1.cell (a := ⟨b, off + k, none⟩) (block_lt_of_cell hc0) (by simp)]
        exact hc0
      rcases Nat.lt_or_ge k blen with hkb | hkb
      · obtain ⟨b2, off2, q0, rfl, hq0⟩ := ht k hkb
        rcases q0 with _ | _
        · rcases Nat.lt_or_ge zs.length r with hroom | hroom
          · as_aux_lemma =>
            go_wp2_with fail
            refine (put_in wr p c r ks zs s ho.inv.1 hroom).mono ?_
            rintro e w2 ⟨rfl, l2, k2⟩
            have o2 := ho.put l2 k2
            have hcell2 : w2.cell? ⟨b, off + k, none⟩ = some (.string s) := by
              rw [o2.inv.2.1.cell (a := ⟨b, off + k, none⟩) (block_lt_of_cell hc0) (by simp)]
              exact hc0
            clear l2 k2 ho hcell
            generalize ks ++ [wr.heap.size] = ks2 at o2
            obtain ⟨v', w4, hrun, q1, q2, q3, _⟩ := app_one Try.underlying40 info rfl (by decide) w2 _ _ o2.op (.string s) rfl (by simp only [List.length_map]; omega)
            have o4 := o2.app_p q1 q2 q3
            rw [List.append_assoc] at o4
            have hlen4 : (us ++ (zs ++ [s])).length ≤ k + 1 := by
              simp only [List.length_append, List.length_cons, List.length_nil] at hlen ⊢
              omega
            clear q1 q2 q3 o2 hlen
            generalize hzz : zs ++ [s] = zs2 at o4 hlen4
            have hz2 : 0 < zs2.length := by
              rw [← hzz]
              simp
            clear hzz hroom
            have hct : w4.cell? ⟨b2, off2 + k, none⟩ = some (.bool false) := by
              rw [o4.inv.2.1.cell (a := ⟨b2, off2 + k, none⟩) (block_lt_of_cell hq0) (by simp)]
              exact hq0
            go_wp2_with (at_builtin; refine Lib.wpList_append_run _ rfl _ _ _ _ rfl _ _ rfl rfl _ _ (hrun _) ?_)
            go_roundw
            case rel => exact ⟨k + 1, ks2, zs2, us, by omega, by omega, by go_num, o4, hlen4⟩
            case measure => simp [intOf]; omega
          · as_aux_lemma =>
            go_wp2_with fail
            refine (put_out wr p c r ks zs s ho.inv.1 hroom).mono ?_
            rintro e w4 ⟨rfl, l2, k2⟩
            have o4 := ho.kept k2
            have hlen4 : (us ++ zs).length ≤ k + 1 := by omega
            clear l2 k2 ho hcell hlen
            have hz2 : 0 < zs.length := by omega
            clear hroom
            have hct : w4.cell? ⟨b2, off2 + k, none⟩ = some (.bool false) := by
              rw [o4.inv.2.1.cell (a := ⟨b2, off2 + k, none⟩) (block_lt_of_cell hq0) (by simp)]
              exact hq0
            go_wp2
            go_roundw
            case rel => exact ⟨k + 1, ks, zs, us, by omega, by omega, by go_num, o4, hlen4⟩
            case measure => simp [intOf]; omega
        · rcases Nat.lt_or_ge zs.length r with hroom | hroom
          · as_aux_lemma =>
            go_wp2_with fail
            refine (put_in wr p c r ks zs s ho.inv.1 hroom).mono ?_
            rintro e w2 ⟨rfl, l2, k2⟩
            have o2 := ho.put l2 k2
            have hcell2 : w2.cell? ⟨b, off + k, none⟩ = some (.string s) := by
              rw [o2.inv.2.1.cell (a := ⟨b, off + k, none⟩) (block_lt_of_cell hc0) (by simp)]
              exact hc0
            clear l2 k2 ho hcell
            generalize ks ++ [wr.heap.size] = ks2 at o2
            obtain ⟨v', w4, hrun, q1, q2, q3, _⟩ := app_one Try.underlying40 info rfl (by decide) w2 _ _ o2.op (.string s) rfl (by simp only [List.length_map]; omega)
            have o4 := o2.app_p q1 q2 q3
            rw [List.append_assoc] at o4
            have hlen4 : (us ++ (zs ++ [s])).length ≤ k + 1 := by
              simp only [List.length_append, List.length_cons, List.length_nil] at hlen ⊢
              omega
            clear q1 q2 q3 o2 hlen
            generalize hzz : zs ++ [s] = zs2 at o4 hlen4
            have hz2 : 0 < zs2.length := by
              rw [← hzz]
              simp
            clear hzz hroom
            have hct : w4.cell? ⟨b2, off2 + k, none⟩ = some (.bool true) := by
              rw [o4.inv.2.1.cell (a := ⟨b2, off2 + k, none⟩) (block_lt_of_cell hq0) (by simp)]
              exact hq0
            obtain ⟨x, zs3, rfl⟩ : ∃ x zs3, zs2 = x :: zs3 := by
              rcases zs2 with _ | ⟨x, zs3⟩
              · simp at hz2
              · exact ⟨x, zs3, rfl⟩
            obtain ⟨q, ks3, rfl⟩ : ∃ q ks3, ks2 = q :: ks3 := by
              rcases ks2 with _ | ⟨q, ks3⟩
              · have := o4.inv.1.size
                simp at this
              · exact ⟨q, ks3, rfl⟩
            go_wp2_with (at_builtin; refine Lib.wpList_append_run _ rfl _ _ _ _ rfl _ _ rfl rfl _ _ (hrun _) ?_)
            refine (take_in _ _ _ _ _ _ _ _ o4.inv.1).mono ?_
            rintro e w5 ⟨rfl, l5, k5⟩
            have o5 := o4.take (fun y hy => by simp [hy]) l5 k5
            clear l5 k5 o4 hct hrun hcell2
            obtain ⟨v6, w6, hrun, q1, q2, q3, _⟩ := app_one Try.underlying40 info rfl (by decide) w5 _ _ o5.og (.string x) rfl (by simp only [List.length_map]; simp only [List.length_append] at hlen4; omega)
            have o6 := o5.app_g (xs := [x]) q1 q2 q3
            have HO : Hid (Ord w1 w6 p c r ks3 zs3 (us ++ [x]) ((us ++ [x]) ++ zs3) v' v6) := by
              rw [List.append_assoc]
              exact o6
            have HL : Hid (((us ++ [x]) ++ zs3).length ≤ k + 1) := by
              rw [List.append_assoc]
              exact hlen4
            clear q1 q2 q3 o5 o6 hlen4
            go_wp2_with (at_builtin; refine Lib.wpList_append_run _ rfl _ _ _ _ rfl _ _ rfl rfl _ _ (hrun _) ?_)
            go_roundw
            case rel => exact ⟨k + 1, ks3, zs3, us ++ [x], by omega, by omega, by go_num, HO.out, HL.out⟩
            case measure => simp [intOf]; omega
          · as_aux_lemma =>
            go_wp2_with fail
            refine (put_out wr p c r ks zs s ho.inv.1 hroom).mono ?_
            rintro e w4 ⟨rfl, l2, k2⟩
            have o4 := ho.kept k2
            have hlen4 : (us ++ zs).length ≤ k + 1 := by omega
            clear l2 k2 ho hcell hlen
            have hz2 : 0 < zs.length := by omega
            clear hroom
            have hct : w4.cell? ⟨b2, off2 + k, none⟩ = some (.bool true) := by
              rw [o4.inv.2.1.cell (a := ⟨b2, off2 + k, none⟩) (block_lt_of_cell hq0) (by simp)]
              exact hq0
            obtain ⟨x, zs3, rfl⟩ : ∃ x zs3, zs = x :: zs3 := by
              rcases zs with _ | ⟨x, zs3⟩
              · simp at hz2
              · exact ⟨x, zs3, rfl⟩
            obtain ⟨q, ks3, rfl⟩ : ∃ q ks3, ks = q :: ks3 := by
              rcases ks with _ | ⟨q, ks3⟩
              · have := o4.inv.1.size
                simp at this
              · exact ⟨q, ks3, rfl⟩
            go_wp2_with fail
            refine (take_in _ _ _ _ _ _ _ _ o4.inv.1).mono ?_
            rintro e w5 ⟨rfl, l5, k5⟩
            have o5 := o4.take (fun y hy => by simp [hy]) l5 k5
            clear l5 k5 o4 hct
            obtain ⟨v6, w6, hrun, q1, q2, q3, _⟩ := app_one Try.underlying40 info rfl (by decide) w5 _ _ o5.og (.string x) rfl (by simp only [List.length_map]; simp only [List.length_append] at hlen4; omega)
            have o6 := o5.app_g (xs := [x]) q1 q2 q3
            have HO : Hid (Ord w1 w6 p c r ks3 zs3 (us ++ [x]) ((us ++ [x]) ++ zs3) u9 v6) := by
              rw [List.append_assoc]
              exact o6
            have HL : Hid (((us ++ [x]) ++ zs3).length ≤ k + 1) := by
              rw [List.append_assoc]
              exact hlen4
            clear q1 q2 q3 o5 o6 hlen4
            go_wp2_with (at_builtin; refine Lib.wpList_append_run _ rfl _ _ _ _ rfl _ _ rfl rfl _ _ (hrun _) ?_)
            go_roundw
            case rel => exact ⟨k + 1, ks3, zs3, us ++ [x], by omega, by omega, by go_num, HO.out, HL.out⟩
            case measure => simp [intOf]; omega
      · rcases Nat.lt_or_ge zs.length r with hroom | hroom
        · as_aux_lemma =>
          go_wp2_with fail
          refine (put_in wr p c r ks zs s ho.inv.1 hroom).mono ?_
          rintro e w2 ⟨rfl, l2, k2⟩
          have o2 := ho.put l2 k2
          have hcell2 : w2.cell? ⟨b, off + k, none⟩ = some (.string s) := by
            rw [o2.inv.2.1.cell (a := ⟨b, off + k, none⟩) (block_lt_of_cell hc0) (by simp)]
            exact hc0
          clear l2 k2 ho hcell
          generalize ks ++ [wr.heap.size] = ks2 at o2
          obtain ⟨v', w4, hrun, q1, q2, q3, _⟩ := app_one Try.underlying40 info rfl (by decide) w2 _ _ o2.op (.string s) rfl (by simp only [List.length_map]; omega)
          have o4 := o2.app_p q1 q2 q3
          rw [List.append_assoc] at o4
          have hlen4 : (us ++ (zs ++ [s])).length ≤ k + 1 := by
            simp only [List.length_append, List.length_cons, List.length_nil] at hlen ⊢
            omega
          clear q1 q2 q3 o2 hlen
          generalize hzz : zs ++ [s] = zs2 at o4 hlen4
          have hz2 : 0 < zs2.length := by
            rw [← hzz]
            simp
          clear hzz hroom
          go_wp2_with (at_builtin; refine Lib.wpList_append_run _ rfl _ _ _ _ rfl _ _ rfl rfl _ _ (hrun _) ?_)
          go_roundw
          case rel => exact ⟨k + 1, ks2, zs2, us, by omega, by omega, by go_num, o4, hlen4⟩
          case measure => simp [intOf]; omega
        · as_aux_lemma =>
          go_wp2_with fail
          refine (put_out wr p c r ks zs s ho.inv.1 hroom).mono ?_
          rintro e w4 ⟨rfl, l2, k2⟩
          have o4 := ho.kept k2
          have hlen4 : (us ++ zs).length ≤ k + 1 := by omega
          clear l2 k2 ho hcell hlen
          have hz2 : 0 < zs.length := by omega
          clear hroom
          go_wp2
          go_roundw
          case rel => exact ⟨k + 1, ks, zs, us, by omega, by omega, by go_num, o4, hlen4⟩
          case measure => simp [intOf]; omega
    · have hend : len ≤ k ∨ (k < len ∧ 100 ≤ k) := by omega
      clear hlt hs ht
      rcases hend with hend | hend
      all_goals
        go_wp2_with fail
        refine (drain_any _ _ _ _ _ _ ho.inv.1 (by omega)).mono ?_
        rintro e w3 ⟨a, cp, rfl, q1, l3, k3, ha⟩
        have o3 := ho.take (by simp) l3 k3
        have hsz := ho.inv.2.1.size
        clear l3 k3 ho
        obtain ⟨v4, w4, hrun, q2, q3, q4, _⟩ := app_all w3 u10 _ o3.og (some a) cp zs q1.rd (by simp only [List.length_append, List.length_map] at hlen ⊢; omega)
        have o4 := o3.app_g q2 q3 q4
        have HS := same_eq w4 _ _ _ o4.op.rd o4.og.rd (by omega)
        have H4 : Hid (Ord w1 w4 p c r [] [] (us ++ zs) (us ++ zs) u9 v4) := o4
        clear q1 q2 q3 q4 o3 o4
        go_wp2_with (at_builtin; refine Lib.wpList_append_run _ rfl _ _ _ _ rfl _ _ rfl rfl _ _ (hrun _) ?_)
        refine HS.mono ?_
        rintro e w5 ⟨rfl, q, rfl⟩
        have o5 := H4.out.kept ((Kp.refl [] _).drewN q)
        generalize w4.drewN q = w5 at o5 ⊢
        clear HS H4 hrun
        go_wp2_with fail
        refine (len_any _ _ _ _ _ _ o5.inv.1).mono ?_
        rintro e w6 ⟨rfl, rfl⟩
        go_wp2_with fail
        refine (known_any _).mono ?_
        rintro e w7 ⟨rfl, k7⟩
        have hk7 := o5.inv.2.1.trans k7 (fun x hx => by simp at hx)
        clear o5 k7
        go_wp2
        go_ret
        exact ⟨rfl, hk7⟩

end Go.Proofs.Ytigpbkgcfnmdiaa
