/-
  The program's Until, of any texts.
-/
import Derived.Test.YthdlmglnieomeaaArr
import Derived.Deep.Cut
namespace Go.Proofs.Ythdlmglnieomeaa
open Go.RowKit Utf

theorem info38 : (Try.prog.info? 66).bind (fun i => i.zero) = some (Value.agg (List.replicate 256 (Value.bool false)).toArray) := by kernel_rfl

theorem zero_of {P : Program} {t : TypeId} {z : Value} (h : (P.info? t).bind (fun i => i.zero) = some z) (w : World) : (zeroValue t).run P w = .ok z w := by
  cases hi : P.info? t with
  | none =>
    rw [hi] at h
    cases h
  | some i =>
    rw [hi] at h
    have hz : i.zero = some z := h
    simp [zeroValue, typeInfo, hi, hz]

/-- Which bytes are among the first k of set. -/
def BV (set : ByteArray) (k : Nat) : List Value := (List.range 256).map fun (n : Nat) => Value.bool (decide (∃ j, j < k ∧ bt set j = (n : Int)))

theorem bv_len (set : ByteArray) (k : Nat) : (BV set k).length = 256 := by simp [BV]
theorem bv_at (set : ByteArray) (k n : Nat) (h : n < 256) : (BV set k)[n]? = some (Value.bool (decide (∃ j, j < k ∧ bt set j = (n : Int)))) := by
  simp [BV, h]
theorem bv_zero (set : ByteArray) : BV set 0 = List.replicate 256 (Value.bool false) := by
  refine List.ext_getElem? fun n => ?_
  by_cases h : n < 256
  · rw [bv_at set 0 n h, List.getElem?_replicate, if_pos h]
    rw [decide_eq_false (fun ⟨j, h1, _⟩ => by omega)]
  · rw [List.getElem?_eq_none (by rw [bv_len]; omega), List.getElem?_eq_none (by rw [List.length_replicate]; omega)]
theorem bv_set (set : ByteArray) (k n : Nat) (hn : bt set k = (n : Int)) : (BV set k).set n (Value.bool true) = BV set (k + 1) := by
  refine List.ext_getElem? fun m => ?_
  by_cases hm : m < 256
  · rw [bv_at set (k + 1) m hm]
    by_cases he : n = m
    · subst he
      rw [List.getElem?_set_self (by rw [bv_len]; exact hm)]
      rw [decide_eq_true (show ∃ j, j < k + 1 ∧ bt set j = (n : Int) from ⟨k, by omega, hn⟩)]
    · rw [List.getElem?_set_ne he, bv_at set k m hm]
      congr 2
      rw [decide_eq_decide]
      constructor
      · rintro ⟨j, h1, h2⟩
        exact ⟨j, by omega, h2⟩
      · rintro ⟨j, h1, h2⟩
        refine ⟨j, ?_, h2⟩
        by_cases hj : j = k
        · rw [hj, hn] at h2
          omega
        · omega
  · rw [List.getElem?_eq_none (by simp [bv_len]; omega), List.getElem?_eq_none (by rw [bv_len]; omega)]

set_option maxHeartbeats 1000000 in
set_option maxRecDepth 100000 in
theorem until_any (w : World) (s : ByteArray) (p : Int) (set : ByteArray) (hs : s.size ≤ 100000) (hset : set.size ≤ 100000) : Calls Try.prog 55 #[.string s, .int .i64 p, .string set] w fun e w' => e = .returned (.int .i64 (untilF s set (pl s.size p) : Int)) ∧ Kp [] w w' := by
  have HP := fun W => place_any W s p
  have hpl := pl_le s.size p
  generalize pl s.size p = a at HP hpl
  have A0 : Hid (Arr w (w.alloc (.cells (List.replicate 256 (Value.bool false)).toArray 66)) w.heap.size (BV set 0)) := arr_new w _ _ _ (by rw [bv_zero])
  have hz := zero_of info38 w
  generalize (List.replicate 256 (Value.bool false)).toArray = cur at A0 hz
  go_enter Try.func55, Try.ntmps55
  go_wp2
  clear hz
  generalize w.alloc (.cells cur 66) = w1 at A0 ⊢
  generalize w.heap.size = g at A0 ⊢
  go_loopw [11] (fun i wr => ∃ k : Nat, k ≤ set.size ∧ i = .int .i64 k ∧ Hid (Arr w wr g (BV set k))) (fun i _ => set.size - (intOf i).toNat)
  case atStart => exact ⟨0, Nat.zero_le _, rfl, A0⟩
  case round =>
    obtain ⟨k, hk, rfl, HA⟩ := hrel
    clear A0
    by_cases hlt : k < set.size
    · have i1 := index_at set (k : Int) k rfl hlt
      obtain ⟨r1, r2⟩ := bt_range set k
      obtain ⟨n, hn⟩ : ∃ n : Nat, bt set k = (n : Int) := ⟨(bt set k).toNat, by omega⟩
      have hn2 : n < 256 := by omega
      have c1 := HA.out.at' n (by rw [bv_len]; exact hn2)
      rw [bv_at set k n hn2] at c1
      have c2 := HA.out.free n (by rw [bv_len]; exact hn2)
      have A1 : Hid (Arr w (wr.setCell ⟨g, n, none⟩ (.bool true)) g (BV set (k + 1))) := by
        show Arr _ _ _ _
        rw [← bv_set set k n hn]
        exact HA.out.set n (by rw [bv_len]; exact hn2) _
      rw [hn] at i1
      generalize decide (∃ j, j < k ∧ bt set j = (n : Int)) = B at c1
      clear hn r1 r2 HA
      go_wp2
      go_roundw
      case rel => exact ⟨k + 1, by omega, by go_num, A1⟩
      case measure => simp [intOf]; omega
    · obtain rfl : k = set.size := by omega
      have hk2 := HA.out.kp
      have HB : Hid (∀ n, n < 256 → wr.cell? ⟨g, n, none⟩ = some (.bool (inS set (n : Int)))) := fun n hn => by
        rw [HA.out.at' n (by rw [bv_len]; exact hn), bv_at set _ n hn]
        rfl
      have HQ := HP wr
      clear HA HP
      go_wp2_with fail
      refine HQ.mono ?_
      rintro e w2 ⟨rfl, rfl⟩
      clear HQ
      go_wp2
      go_loopw [1] (fun i wx => ∃ k : Nat, a ≤ k ∧ k ≤ s.size ∧ i = .int .i64 k ∧ wx = w2 ∧ Hid (∀ j, a ≤ j → j < k → inS set (bt s j) = false)) (fun i _ => s.size - (intOf i).toNat)
      case atStart => exact ⟨a, Nat.le_refl _, hpl, rfl, rfl, fun j h1 h2 => by omega⟩
      case round =>
        obtain ⟨k, ha, hks, rfl, rfl, hb⟩ := hrel
        by_cases hlt2 : k < s.size
        · have i1 := index_at s (k : Int) k rfl hlt2
          obtain ⟨r1, r2⟩ := bt_range s k
          obtain ⟨n, hn⟩ : ∃ n : Nat, bt s k = (n : Int) := ⟨(bt s k).toNat, by omega⟩
          have hn2 : n < 256 := by omega
          have c1 := HB.out n hn2
          rw [hn] at i1
          cases hx : inS set (n : Int) with
          | false =>
            have hb2 : Hid (∀ j, a ≤ j → j < k + 1 → inS set (bt s j) = false) := fun j h1 hj => by
              by_cases hjk : j = k
              · rw [hjk, hn]; exact hx
              · exact hb.out j h1 (by omega)
            rw [hx] at c1
            clear hx hb hn r1 r2
            go_wp2
            go_roundw
            case rel => exact ⟨k + 1, by omega, by omega, by go_num, trivial, hb2⟩
            case measure => simp [intOf]; omega
          | true =>
            have hd : Hid (untilF s set a = k) := fs_eq ⟨ha, hks, fun j h1 h2 => by exact hb.out j h1 h2, fun _ => by rw [hn]; exact hx⟩
            rw [hx] at c1
            clear hx hb hn r1 r2
            go_wp2
            go_ret
            exact ⟨by rw [hd.out]; rfl, hk2⟩
        · obtain rfl : k = s.size := by omega
          have hd : Hid (untilF s set a = s.size) := fs_eq ⟨ha, hks, fun j h1 h2 => by exact hb.out j h1 h2, fun h => by omega⟩
          clear hb
          go_wp2
          go_ret
          exact ⟨by rw [hd.out]; rfl, hk2⟩

end Go.Proofs.Ythdlmglnieomeaa
