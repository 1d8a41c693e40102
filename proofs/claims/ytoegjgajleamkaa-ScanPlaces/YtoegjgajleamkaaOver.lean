/-
  The program's overlaps and Find, of any texts.
-/
import Derived.Test.YtoegjgajleamkaaLonger
import Derived.Laws.MakeOwn
import Derived.Laws.OwnMore
import Derived.Deep.RegionWith
namespace Go.Proofs.Ytoegjgajleamkaa
open Go.RowKit Utf

/-- In block g, made since w, lie the values xs. -/
structure Arr (w wr : World) (g : Nat) (xs : List Value) : Prop where
  kp : Kp [] w wr
  new : w.heap.size ≤ g
  at' : ∀ j, j < xs.length → wr.cell? ⟨g, j, none⟩ = xs[j]?
  free : ∀ j, j < xs.length → wr.frozen? ⟨g, j, none⟩ = false

theorem Arr.set {w wr : World} {g : Nat} {xs : List Value} (h : Arr w wr g xs) (k : Nat) (hk : k < xs.length) (u : Value) : Arr w (wr.setCell ⟨g, k, none⟩ u) g (xs.set k u) := by
  refine ⟨h.kp.setCell (Or.inr h.new) _, h.new, fun j hj => ?_, fun j hj => ?_⟩
  · have hj2 : j < xs.length := by simpa using hj
    by_cases he : j = k
    · subst he
      rw [World.cell?_setCell_same _ _ _ ((h.at' j hj2).trans (List.getElem?_eq_getElem hj2))]
      simp [hj2]
    · rw [World.cell?_setCell_other _ _ _ _ (fun e => he (congrArg Addr.off e).symm), h.at' j hj2, List.getElem?_set_ne (fun e => he e.symm)]
  · rw [World.frozen?_setCell]
    exact h.free j (by simpa using hj)

theorem Arr.drew {w wr : World} {g : Nat} {xs : List Value} (h : Arr w wr g xs) : Arr w wr.drew g xs := ⟨h.kp.drew, h.new, h.at', h.free⟩
theorem Arr.drewN {w wr : World} {g : Nat} {xs : List Value} (h : Arr w wr g xs) (n : Nat) : Arr w (wr.drewN n) g xs := by
  obtain ⟨h1, h2, h3, h4⟩ := h
  exact ⟨h1.drewN n, h2, h3, h4⟩

theorem Arr.rb {w wr : World} {g n c : Nat} {xs : List Value} (h : Arr w wr g xs) (hn : n = xs.length) (hc : n ≤ c) : Rb wr (some ⟨g, 0, none⟩) n c xs :=
  ⟨hn, hc, fun j hj => ⟨g, 0, rfl, by rw [Nat.zero_add, h.at' j (by omega)]⟩⟩

theorem arr_new (w : World) (cur : Array Value) (e : TypeId) (xs : List Value) (h : cur.toList = xs) : Arr w (w.alloc (.cells cur e)) w.heap.size xs := by
  refine ⟨(Kp.refl _ _).alloc _, Nat.le_refl _, fun j hj => ?_, fun j hj => frozen_of (heap_new w _) j⟩
  rw [cell_of (heap_new w _), ← h]
  simp

theorem info3 : (Try.prog.info? 3).map (fun i => (i.zero, i.size, i.bytes)) = some (some (Value.int .i64 0), 1, 8) := by kernel_rfl

/-- make([]int, n). -/
theorem make_ints (w : World) (n : Nat) (h : n ≤ 100000) :
    ∃ w1, (Instr.makeSlice 33 (.int .i64 (n : Int)) (.int .i64 (n : Int))).run Try.prog w = .ok (.slice (some ⟨w.heap.size, 0, none⟩) n n) w1 ∧ Arr w w1 w.heap.size (nv (List.replicate n 0)) := by
  obtain ⟨i, hi0, hi1, hi2, hi3⟩ := info_parts info3
  have hr := run_make (P := Try.prog) w 33 3 i _ Try.underlying33 hi0 hi1 .i64 .i64 (n : Int) (n : Int) (by omega) (by omega) (by rw [hi3]; omega) (by omega)
  rw [hi2, show ((n : Int)).toNat = n by omega] at hr
  refine ⟨_, hr, arr_new w _ _ _ ?_⟩
  rw [Nat.mul_one]
  show (madeCells #[Value.int .i64 0] n).toList = _
  rw [toList_madeCells_one]
  simp [nv]

theorem nv_set (l : List Nat) (k r : Nat) : (nv l).set k (.int .i64 (r : Int)) = nv (l.set k r) := by
  simp [nv, List.map_set]

set_option maxHeartbeats 1000000 in
set_option maxRecDepth 100000 in
theorem over_any (w : World) (sub : ByteArray) (h0 : 0 < sub.size) (hs : sub.size ≤ 100000) : Calls Try.prog 27 #[.string sub] w fun e w' => ∃ g l, e = .returned (.slice (some ⟨g, 0, none⟩) sub.size sub.size) ∧ l.length = sub.size ∧ Arr w w' g (nv l) ∧ Ov sub l sub.size := by
  obtain ⟨w1, hmk, A1⟩ := make_ints w sub.size hs
  have A0 : Hid (Arr w w1 w.heap.size (nv (List.replicate sub.size 0))) := A1
  clear A1
  generalize w.heap.size = g at hmk A0
  go_enter Try.func27, Try.ntmps27
  go_wp2
  clear hmk
  go_loopw [4] (fun i wr => ∃ (k : Nat) (l : List Nat), k ≤ sub.size ∧ 1 ≤ k ∧ i = .int .i64 k ∧ Hid (l.length = sub.size ∧ Arr w wr g (nv l) ∧ Ov sub l k)) (fun i _ => sub.size - (intOf i).toNat)
  case atStart =>
    refine ⟨1, List.replicate sub.size 0, by omega, Nat.le_refl _, rfl, by simp, A0.out, fun k h1 h2 => ?_⟩
    obtain rfl : k = 1 := by omega
    exact ⟨0, by simp [h0], Fl.one _⟩
  case round =>
    obtain ⟨k, l, hk, hk1, rfl, HA⟩ := hrel
    clear A0
    by_cases hlt : k < sub.size
    · obtain ⟨hl, ha, ho⟩ := HA.out
      obtain ⟨q, rfl⟩ : ∃ q, k = q + 1 := ⟨k - 1, by omega⟩
      obtain ⟨f, hf1, hf2⟩ := ho (q + 1) (by omega) (Nat.le_refl _)
      rw [Nat.add_sub_cancel] at hf1
      have hfl := hf2.lt
      have c1 : wr.cell? ⟨g, q, none⟩ = some (.int .i64 (f : Int)) := by
        rw [ha.at' q (by rw [nv_len]; omega)]
        simp [nv, hf1]
      have c2 : wr.cell? ⟨g, q + 1, none⟩ = some (.int .i64 ((l[q + 1]'(by omega) : Nat) : Int)) := by
        rw [ha.at' (q + 1) (by rw [nv_len]; omega)]
        simp [nv, hl, hlt]
      have c3 : wr.frozen? ⟨g, q + 1, none⟩ = false := ha.free (q + 1) (by rw [nv_len]; omega)
      have HL := longer_any wr.drew sub (some ⟨g, 0, none⟩) sub.size sub.size l (ha.drew.rb (by rw [nv_len, hl]) (Nat.le_refl _)) hs f (bt sub (q + 1)) (by omega) hs (fun k h1 h2 => ho k h1 (by omega))
      have i1 := index_at sub ((q : Int) + 1) (q + 1) (by omega) hlt
      have HN : Hid (∀ r, Nx (bt sub) f (bt sub (q + 1)) r → (l.set (q + 1) r).length = sub.size ∧ Arr w (wr.setCell ⟨g, q + 1, none⟩ (.int .i64 (r : Int))).drew g (nv (l.set (q + 1) r)) ∧ Ov sub (l.set (q + 1) r) (q + 1 + 1)) := fun r hr => by
        refine ⟨by simp [hl], ?_, fun k h1 h2 => ?_⟩
        · rw [← nv_set]
          exact (ha.set (q + 1) (by rw [nv_len]; omega) _).drew
        · by_cases he : k = q + 1 + 1
          · subst he
            refine ⟨r, ?_, hf2.next hr⟩
            simp [hl, hlt]
          · obtain ⟨f', g1, g2⟩ := ho k h1 (by omega)
            refine ⟨f', ?_, g2⟩
            rw [List.getElem?_set_ne (by omega)]
            exact g1
      generalize bt sub (q + 1) = y at HL i1 HN
      generalize (l[q + 1]'(by omega) : Nat) = z at c2
      clear ha ho hl hf1 hf2 HA
      rw [show ((q + 1 : Nat) : Int) = (q : Int) + 1 from rfl]
      have b1 : 0 ≤ (q : Int) + 1 := by omega
      have b2 : (q : Int) + 1 < (sub.size : Int) := by omega
      have b3 : 0 ≤ (q : Int) := by omega
      have b4 : (q : Int) < (sub.size : Int) := by omega
      have b5 : IntKind.i64.wrap (q : Int) = q := by rw [IntKind.wrap_i64]; omega
      have b6 : q < sub.size := by omega
      go_wp2
      go_region_with (first | (go_at_call 28; refine HL.mono ?_; rintro e v1 ⟨r, rfl, hnx, rfl⟩))
      all_goals
        have HZ := HN.out r hnx
        clear HN hnx HL
        go_wp2
        go_roundw
        case rel => exact ⟨q + 1 + 1, l.set (q + 1) r, by omega, by omega, by go_num, HZ⟩
        case measure => simp [intOf]; omega
    · obtain rfl : k = sub.size := by omega
      go_wp2
      go_ret
      exact ⟨g, l, rfl, HA.out.1, HA.out.2.1, HA.out.2.2⟩

theorem empty_list {s : ByteArray} (h : s.size = 0) : s.toList.isEmpty = true := by
  rw [Lib.toList_data]
  have : s.data.toList.length = 0 := by simpa using h
  rw [List.eq_nil_of_length_eq_zero this]
  rfl

theorem some_list {s : ByteArray} (h : 0 < s.size) : s.toList.isEmpty = false := by
  rw [Lib.toList_data]
  have : s.data.toList.length ≠ 0 := by
    have : s.data.toList.length = s.size := by simp
    omega
  cases hd : s.data.toList with
  | nil => rw [hd] at this; exact absurd rfl this
  | cons x r => rfl

set_option maxHeartbeats 1000000 in
set_option maxRecDepth 100000 in
theorem find_any (w : World) (s : ByteArray) (p : Int) (sub : ByteArray) (hs : s.size ≤ 100000) (hsub : sub.size ≤ 100000) : Calls Try.prog 13 #[.string s, .int .i64 p, .string sub] w fun e w' => e = .returned (.int .i64 (findF s sub (pl s.size p) : Int)) ∧ Kp [] w w' := by
  have HP := place_any w s p
  have hpl := pl_le s.size p
  generalize pl s.size p = a at HP hpl
  by_cases h0 : sub.size = 0
  · have he := empty_list h0
    rw [find_empty hpl h0]
    clear h0
    go_enter Try.func13, Try.ntmps13
    go_wp2_with fail
    refine HP.mono ?_
    rintro e w1 ⟨rfl, rfl⟩
    clear HP
    go_wp2
    go_ret
    exact ⟨rfl, Kp.refl _ _⟩
  have h1 : 0 < sub.size := by omega
  have he := some_list h1
  clear h0
  have HF := fits_any w s sub a hpl hs
  by_cases hf : a + sub.size ≤ s.size
  · rw [decide_eq_true hf] at HF
    have HO := over_any w sub h1 hsub
    go_enter Try.func13, Try.ntmps13
    go_wp2_with fail
    refine HP.mono ?_
    rintro e w1 ⟨rfl, rfl⟩
    clear HP
    go_wp2_with fail
    refine HF.mono ?_
    rintro e w1 ⟨rfl, rfl⟩
    clear HF
    go_wp2_with fail
    refine HO.mono ?_
    rintro e w2 ⟨g, l, rfl, hl, ha, ho⟩
    clear HO
    have HB : Hid (Rb w2 (some ⟨g, 0, none⟩) sub.size sub.size (nv l)) := ha.rb (by rw [nv_len, hl]) (Nat.le_refl _)
    have HV : Hid (Ov sub l sub.size) := ho
    have hk := ha.kp
    clear ha ho hl
    go_wp2
    go_loopw [1, 8] (fun i v wr => ∃ k q : Nat, a ≤ k ∧ k ≤ s.size ∧ i = .int .i64 k ∧ q < sub.size ∧ v = .int .i64 q ∧ wr = w2 ∧ Hid (Fi s sub a k q)) (fun i _ _ => s.size - (intOf i).toNat)
    case atStart => exact ⟨a, 0, Nat.le_refl _, hpl, rfl, h1, rfl, rfl, Fi.start h1⟩
    case round =>
      obtain ⟨k, q, ha, hks, rfl, hq, rfl, rfl, hfi⟩ := hrel
      by_cases hlt : k < s.size
      · have i1 := index_at s (k : Int) k rfl hlt
        have HL := longer_any wr sub (some ⟨g, 0, none⟩) sub.size sub.size l HB.out hsub q (bt s k) hq hsub (fun k h1 h2 => HV.out k h1 (by omega))
        have HN : Hid (∀ r, Nx (bt sub) q (bt s k) r → (r ≤ sub.size) ∧ (r = sub.size → findF s sub a = k + 1 - sub.size ∧ sub.size ≤ k + 1) ∧ (¬ r = sub.size → Fi s sub a (k + 1) r)) := fun r hr => by
          refine ⟨?_, fun e => ⟨hfi.out.found ha hlt hr e, ?_⟩, fun e => hfi.out.next ha hr e⟩
          · have := hr.le
            omega
          · have := (hfi.out.sx_next ha hr).fit
            omega
        generalize bt s k = y at HL i1 HN
        clear hfi
        go_wp2_with fail
        refine HL.mono ?_
        rintro e w3 ⟨r, rfl, hnx, rfl⟩
        obtain ⟨n1, n2, n3⟩ := HN.out r hnx
        clear HL HN hnx
        by_cases hr : r = sub.size
        · obtain ⟨n4, n5⟩ := n2 hr
          have n6 : Hid (findF s sub a = k + 1 - sub.size) := n4
          clear n2 n3 n4
          have hre : ((r : Int) == (sub.size : Int)) = true := by simp [hr]
          clear hr
          go_wp2
          go_ret
          refine ⟨?_, hk⟩
          rw [n6.out]
          show Ending.returned (.int .i64 _) = _
          congr 2
          omega
        · have n6 : Hid (Fi s sub a (k + 1) r) := n3 hr
          have hre : ((r : Int) == (sub.size : Int)) = false := by
            simp
            omega
          have hr2 : r < sub.size := by omega
          clear n2 n3 hr
          go_wp2
          go_roundw
          case rel => exact ⟨k + 1, r, by omega, by omega, by go_num, hr2, rfl, trivial, n6⟩
          case measure => simp [intOf]; omega
      · obtain rfl : k = s.size := by omega
        have hd : Hid (findF s sub a = s.size) := hfi.out.none hpl
        clear hfi
        go_wp2
        go_ret
        exact ⟨by rw [hd.out]; rfl, hk⟩
  · rw [decide_eq_false hf] at HF
    rw [find_long hpl hf]
    clear hf
    go_enter Try.func13, Try.ntmps13
    go_wp2_with fail
    refine HP.mono ?_
    rintro e w1 ⟨rfl, rfl⟩
    clear HP
    go_wp2_with fail
    refine HF.mono ?_
    rintro e w1 ⟨rfl, rfl⟩
    clear HF
    go_wp2
    go_ret
    exact ⟨rfl, Kp.refl _ _⟩

end Go.Proofs.Ytoegjgajleamkaa
