/-
  What the methods Cut and Pop of a pile of texts do to the world.
-/
import Derived.Test.YtfnacibhmanblaaStrsC
namespace Go.Proofs.Ytfnacibhmanblaa.Strs
open Go.RowKit

theorem encdec (x : ByteArray) : (fun l : List UInt8 => Value.string ⟨l.toArray⟩) ((fun s : ByteArray => s.data.toList) x) = Value.string x := rfl

set_option maxHeartbeats 1000000 in
theorem del_any (w : World) (v : Value) (zs : List ByteArray) (i : Nat) (h : Own w 9 v (zs.map (Value.string))) (hi : i < zs.length) (hl : zs.length < 100000) :
    Calls Try.prog 38 #[v, .int .i64 (i : Nat), .int .i64 ((i + 1 : Nat) : Int)] w fun e w' => ∃ v', e = .returned v' ∧ (∃ a n c, v' = .slice (some a) n c) ∧ Own w' 9 v' ((zs.take i ++ zs.drop (i + 1)).map (Value.string)) ∧ Kp (blk v) w w' ∧ blk v' = blk v := by
  rcases h with ⟨rfl, h0⟩ | ⟨g, cap, cur, rfl, hg, h1, h2, h3, h4⟩
  · obtain rfl : zs = [] := by simpa using h0
    simp at hi
  · rw [List.length_map] at h1 h4 ⊢
    have hH : Sort.Holds (fun l : List UInt8 => Value.string ⟨l.toArray⟩) w g 0 (zs.map (fun s : ByteArray => s.data.toList)).toArray := by
      intro j hj
      have hj' : j < zs.length := by simpa using hj
      refine ⟨?_, frozen_of hg _⟩
      rw [Nat.zero_add, cell_of hg, h4 j hj', getElem!_pos _ j hj]
      simp [hj']
      try rfl
    have hc : Calls Try.prog 38 #[.slice (some ⟨g, 0, none⟩) (zs.map (fun s : ByteArray => s.data.toList)).length cap, .int .i64 (i : Nat), .int .i64 ((i + 1 : Nat) : Int)] w fun e w' =>
        e = .returned (.slice (some ⟨g, 0, none⟩) ((zs.map (fun s : ByteArray => s.data.toList)).length - (i + 1 - i)) cap) ∧
        ∃ q, w' = Sort.putRow (fun l : List UInt8 => Value.string ⟨l.toArray⟩) (Sort.ahead w q) g 0 ((zs.map (fun s : ByteArray => s.data.toList)).take i ++ (zs.map (fun s : ByteArray => s.data.toList)).drop (i + 1) ++ List.replicate (i + 1 - i) ((fun s : ByteArray => s.data.toList) ⟨#[]⟩)).toArray :=
      Any.slices_Delete_string Try.lays24 g 0 cap i (i + 1) (zs.map (fun s : ByteArray => s.data.toList)) w hH (by simpa using h1) (by unfold maxLen at h2; exact h2) (by omega) (by simp; omega)
    rw [List.length_map] at hc
    refine hc.mono ?_
    rintro e w' ⟨rfl, q, rfl⟩
    have hg1 := putRow_block (fun l : List UInt8 => Value.string ⟨l.toArray⟩) (Sort.ahead w q) g cur 9 hg ((zs.map (fun s : ByteArray => s.data.toList)).take i ++ (zs.map (fun s : ByteArray => s.data.toList)).drop (i + 1) ++ List.replicate (i + 1 - i) ((fun s : ByteArray => s.data.toList) ⟨#[]⟩)).toArray
    have hlen : ((zs.take i ++ zs.drop (i + 1)).map (Value.string)).length = zs.length - 1 := by simp; omega
    refine ⟨_, rfl, ⟨_, _, _, rfl⟩, Or.inr ⟨g, cap, _, by rw [hlen, show i + 1 - i = 1 by omega], hg1, by omega, h2, by simp [Sort.putCells, h3], fun j hj => ?_⟩, ((ahead_kp _ w q).trans (putRow_kp _ _ g _) (fun y hy => Or.inl (by simpa [blk] using hy))), rfl⟩
    rw [hlen] at hj
    have hjc : j < cur.size := by omega
    have hD : ((zs.map (fun s : ByteArray => s.data.toList)).take i ++ (zs.map (fun s : ByteArray => s.data.toList)).drop (i + 1) ++ List.replicate (i + 1 - i) ((fun s : ByteArray => s.data.toList) ⟨#[]⟩)).length = zs.length := by simp; omega
    simp only [Sort.putCells, Array.getElem?_mapIdx, Array.getElem?_eq_getElem hjc, Option.map_some]
    rw [if_pos ⟨by omega, by rw [List.size_toArray, hD]; omega⟩, Nat.sub_zero, getElem!_pos _ j (by rw [List.size_toArray, hD]; omega)]
    have hjj : j < (zs.take i ++ zs.drop (i + 1)).length := by simp; omega
    have e1 : ((zs.map (fun s : ByteArray => s.data.toList)).take i ++ (zs.map (fun s : ByteArray => s.data.toList)).drop (i + 1) ++ List.replicate (i + 1 - i) ((fun s : ByteArray => s.data.toList) ⟨#[]⟩))[j]? = some ((fun s : ByteArray => s.data.toList) (zs.take i ++ zs.drop (i + 1))[j]) := by
      rw [← List.map_take, ← List.map_drop, ← List.map_append, List.getElem?_append_left (by simpa using hjj), List.getElem?_map, List.getElem?_eq_getElem hjj]
      rfl
    rw [List.getElem?_map, List.getElem?_eq_getElem hjj, Option.map_some, ← encdec]
    congr 2
    rw [List.getElem?_eq_getElem (by rw [hD]; omega)] at e1
    simpa using e1

set_option maxHeartbeats 400000 in
theorem cut_in (w : World) (p : Nat) (v : Value) (zs : List ByteArray) (i : Int) (h : PX w p v zs) (h0 : 0 ≤ i) (h1 : i < zs.length) (hl : zs.length < 100000) (y : ByteArray) (hy : zs[i.toNat]? = some y) :
    Calls Try.prog 30 #[.pointer (some ⟨p, 0, none⟩), .int .i64 i] w fun e w' => e = .returned (.tuple #[Value.string y, .bool true]) ∧ TX w w' p v (zs.take i.toNat ++ zs.drop (i.toNat + 1)) := by
  obtain ⟨ao, c, hv, hc, hf, _⟩ := h.out
  have ha := at_in w p v zs i h h0 h1 y hy
  obtain ⟨hp, hown, hpb⟩ := h
  have hpl : p < w.heap.size := (Array.getElem?_eq_some_iff.1 hp).1
  have hh := del_any w v zs i.toNat hown (by omega) hl
  rw [show ((i.toNat + 1 : Nat) : Int) = i + 1 by omega, show ((i.toNat : Nat) : Int) = i by omega] at hh
  have HF : Hid (∀ v' w2, ((∃ a n c, v' = .slice (some a) n c) ∧ Own w2 9 v' ((zs.take i.toNat ++ zs.drop (i.toNat + 1)).map (Value.string)) ∧ Kp (blk v) w w2 ∧ blk v' = blk v) → (∃ a n c, v' = .slice (some a) n c) ∧ w2.cell? ⟨p, 0, none⟩ = some v ∧ w2.frozen? ⟨p, 0, none⟩ = false ∧ TX w (w2.setCell ⟨p, 0, none⟩ v') p v (zs.take i.toNat ++ zs.drop (i.toNat + 1))) := by
    rintro v' w2 ⟨ha, hown2, hk2, hb2⟩
    have hp2 : w2.heap[p]? = some (.cells #[v] 55 (0, 0)) := by
      rw [hk2.block p hpl hpb]; exact hp
    exact ⟨ha, by rw [cell_of hp2]; rfl, frozen_of hp2 0, Turned.mk hpl hp2 hpb hown2 (hk2.mono (fun y hy => Or.inl (by simp [hy]))) (fun k hk => Or.inl (hb2 ▸ hk))⟩
  clear hown hy
  subst hv
  go_enter Try.func30, Try.ntmps30
  go_wp2_with fail
  refine ha.mono ?_
  rintro e w' ⟨rfl, rfl⟩
  go_wp2_with fail
  refine hh.mono ?_
  rintro e w2 ⟨v', rfl, hput⟩
  obtain ⟨⟨a2, n2, c2, rfl⟩, hc2, hf2, hT⟩ := HF.out v' w2 hput
  clear hput hh
  go_wp2
  go_ret2
  exact ⟨rfl, hT⟩

theorem cut_out (w : World) (p : Nat) (v : Value) (zs : List ByteArray) (i : Int) (h : PX w p v zs) (h1 : i < 0 ∨ zs.length ≤ i) :
    Calls Try.prog 30 #[.pointer (some ⟨p, 0, none⟩), .int .i64 i] w fun e w' => e = .returned (.tuple #[Value.string ⟨#[]⟩, .bool false]) ∧ w' = w := by
  have ha := at_out w p v zs i h h1
  clear h h1
  go_enter Try.func30, Try.ntmps30
  go_wp2_with fail
  refine ha.mono ?_
  rintro e w' ⟨rfl, rfl⟩
  go_wp2
  go_ret2
  exact ⟨rfl, rfl⟩

theorem pop_in (w : World) (p : Nat) (v : Value) (zs : List ByteArray) (h : PX w p v zs) (hl : zs.length < 100000) (y : ByteArray) (hy : zs[zs.length - 1]? = some y) :
    Calls Try.prog 28 #[.pointer (some ⟨p, 0, none⟩)] w fun e w' => e = .returned (.tuple #[Value.string y, .bool true]) ∧ TX w w' p v (zs.take (zs.length - 1)) := by
  obtain ⟨ao, c, hv, hc, hf, hcs⟩ := h.out
  have hn : 0 < zs.length := by
    have := (List.getElem?_eq_some_iff.1 hy).1
    omega
  have hh := cut_in w p v zs ((zs.length : Int) - 1) h (by omega) (by omega) hl y (by rw [show ((zs.length : Int) - 1).toNat = zs.length - 1 by omega]; exact hy)
  rw [show ((zs.length : Int) - 1).toNat = zs.length - 1 by omega, show zs.length - 1 + 1 = zs.length by omega, List.drop_length, List.append_nil] at hh
  clear h hcs hv hy
  go_enter Try.func28, Try.ntmps28
  go_wp2_with fail
  refine hh.mono ?_
  rintro e w' ⟨rfl, hT⟩
  go_wp2
  go_ret2
  exact ⟨rfl, hT⟩

theorem pop_out (w : World) (p : Nat) (v : Value) (h : PX w p v []) :
    Calls Try.prog 28 #[.pointer (some ⟨p, 0, none⟩)] w fun e w' => e = .returned (.tuple #[Value.string ⟨#[]⟩, .bool false]) ∧ w' = w := by
  obtain ⟨ao, c, hv, hc, hf, hcs⟩ := h.out
  have hh := cut_out w p v [] (-1) h (by simp)
  simp only [List.length_nil] at hc
  clear h hcs hv
  go_enter Try.func28, Try.ntmps28
  go_wp2_with fail
  refine hh.mono ?_
  rintro e w' ⟨rfl, rfl⟩
  go_wp2
  go_ret2
  exact ⟨rfl, rfl⟩

end Go.Proofs.Ytfnacibhmanblaa.Strs
