/-
  slices.Delete of one pointer; what the methods Cut and Pop of a pile of pointers do to the world.
-/
import Derived.Test.YtadcpkdnpfmphaaPc
import Derived.Lib.SlicesDelete
import Derived.Shelf.Slices.Delete
namespace Go.Proofs.Ytadcpkdnpfmphaa.Ints
open Go.RowKit Go.Lib

set_option maxHeartbeats 2000000 in
set_option maxRecDepth 100000 in
theorem del_j (w : World) (v : Value) (zs : List (Option Addr)) (i j : Nat) (hij : j = i + 1) (h : Ow w 51 v (zs.map (Value.pointer))) (hi : i < zs.length) (hl : zs.length < 100000) :
    Calls Try.prog 53 #[v, .int .i64 (i : Nat), .int .i64 (j : Nat)] w fun e w' => ∃ v', e = .returned v' ∧ (∃ a n c, v' = .slice (some a) n c) ∧ Ow w' 51 v' ((zs.take i ++ zs.drop (i + 1)).map (Value.pointer)) ∧ Kp (blk v) w w' ∧ blk v' = blk v := by
  rcases h with ⟨rfl, h0⟩ | ⟨g, cap, cur, rfl, hg, h1, h2, h3, h4⟩
  · obtain rfl : zs = [] := by simpa using h0
    simp at hi
  · have hml : (zs.map (Value.pointer)).length = zs.length := by simp
    rw [hml] at h1 h4 ⊢
    obtain ⟨i0, hi0, hz0, hz1, hz2⟩ := info_parts info
    obtain ⟨n, hn⟩ : ∃ n, n = zs.length := ⟨_, rfl⟩
    rw [← hn] at h1 h4 hi hml hl ⊢
    obtain ⟨news, hnews⟩ : ∃ news, news = (zs.drop j).map Value.pointer := ⟨_, rfl⟩
    have hlen : news.length = n - j := by rw [hnews, hn]; simp
    have hget : ∀ t, news[t]? = (zs.map Value.pointer)[j + t]? := fun t => by
      rw [hnews, List.getElem?_map, List.getElem?_drop, List.getElem?_map]
    obtain ⟨A, hA, hsrc⟩ : ∃ A : Addr, (if cap = j then some (⟨g, 0, none⟩ : Addr) else some ⟨g, j, none⟩) = some A ∧ Hid (∀ t u, news[t]? = some u → w.drew.cell? (A.add t) = some u) := by
      by_cases h : cap = j
      · refine ⟨⟨g, 0, none⟩, by simp [h], fun t u hu => ?_⟩
        have h0 : news.length = 0 := by rw [hlen]; omega
        rw [List.length_eq_zero_iff.1 h0] at hu
        simp at hu
      · refine ⟨⟨g, j, none⟩, by simp [h], fun t u hu => ?_⟩
        have ht : t < n - j := by
          have := (List.getElem?_eq_some_iff.1 hu).1
          rwa [hlen] at this
        rw [hget t] at hu
        rw [Addr.add_lit]
        show w.cell? _ = _
        rw [cell_of hg, h4 _ (by omega)]
        exact hu
    have s1 : Hid (news.length = (n - j) * 1) := by rw [Nat.mul_one]; exact hlen
    have s2 : Hid (∀ u ∈ news, u.oneCell' = true) := by
      intro u hu
      rw [hnews] at hu
      obtain ⟨x, _, rfl⟩ := List.mem_map.1 hu
      rfl
    have s3 : Hid (∀ t, t < news.length → (w.drew.cell? ⟨g, 0 + i * 1 + t, none⟩).isSome = true ∧ w.drew.frozen? ⟨g, 0 + i * 1 + t, none⟩ = false) := by
      intro t ht
      rw [hlen] at ht
      rw [Nat.mul_one, Nat.zero_add]
      exact ⟨by show (w.cell? _).isSome = true; rw [cell_of hg, Array.getElem?_eq_getElem (by omega)]; rfl, frozen_of (w := w) hg _⟩
    obtain ⟨W1, hW1⟩ : ∃ W1, W1 = w.drew.setCells g (0 + i * 1) news := ⟨_, rfl⟩
    have hW1' : W1 = w.drew.setCells g i news := by rw [hW1, Nat.mul_one, Nat.zero_add]
    obtain ⟨cur1, hg1, hs1⟩ := setCells_block g 51 news i w.drew cur hg
    have hget1 := setCells_get g 51 news i w.drew cur cur1 hg hg1 (by omega)
    rw [← hW1'] at hg1
    have hcl : ∀ ty, (Builtin.clear_ #[73] ty #[.slice (some ⟨g, i + (n - j), none⟩) (n - (i + (n - j))) (cap - (i + (n - j)))]).run Try.prog W1 = .ok (.tuple #[]) (W1.setCells g (i + (n - j)) (List.replicate (n - (i + (n - j))) (Value.pointer none))) :=
      fun ty => Lib.run_clear_slice W1 _ _ ty _ Try.underlying73 zvp rfl rfl g (i + (n - j)) _ _ (by omega) (fun t ht => by rw [cell_of hg1, Array.getElem?_eq_getElem (by omega)]; rfl) (fun t ht => frozen_of hg1 _)
    have HF : Hid (∃ v', Value.slice (some ⟨g, 0, none⟩) (i + (n - j)) cap = v' ∧ (∃ a n c, v' = .slice (some a) n c) ∧ Ow (W1.setCells g (i + (n - j)) (List.replicate (n - (i + (n - j))) (Value.pointer none))) 51 v' ((zs.take i ++ zs.drop (i + 1)).map (Value.pointer)) ∧ Kp [g] w (W1.setCells g (i + (n - j)) (List.replicate (n - (i + (n - j))) (Value.pointer none))) ∧ blk v' = [g]) := by
      rw [show i + (n - j) = n - 1 by omega, show n - (n - 1) = 1 by omega]
      obtain ⟨cur2, hg2, hs2⟩ := setCells_block g 51 (List.replicate 1 (Value.pointer none)) (n - 1) W1 cur1 hg1
      have hget2 := setCells_get g 51 (List.replicate 1 (Value.pointer none)) (n - 1) W1 cur1 cur2 hg1 hg2 (by simp; omega)
      have hl2 : ((zs.take i ++ zs.drop (i + 1)).map (Value.pointer)).length = n - 1 := by rw [hn]; simp; omega
      refine ⟨_, rfl, ⟨_, _, _, rfl⟩, Or.inr ⟨g, cap, cur2, by rw [hl2], hg2, by omega, h2, by omega, fun k hk => ?_⟩, ?_, rfl⟩
      · rw [hl2] at hk
        rw [hget2, if_neg (by omega), hget1, hlen]
        rw [List.map_append, List.map_take, List.map_drop]
        by_cases hj1 : k < i
        · rw [if_neg (by omega), List.getElem?_append_left (by simp; omega), List.getElem?_take, if_pos hj1, h4 k (by omega)]
        · rw [if_pos (by omega), List.getElem?_append_right (by simp; omega), hget, List.getElem?_drop]
          congr 1
          simp
          omega
      · rw [hW1']
        exact Kp.setCells g (Or.inl (by simp)) _ _ _ (Kp.setCells g (Or.inl (by simp)) _ _ _ (Kp.refl _ _).drew)
    have hW : Hid (W1 = w.drew.setCells g (0 + i * 1) news) := hW1
    have hic : i ≤ cap := by omega
    have hjc : j ≤ cap := by omega
    have hlt : i < j := by omega
    have hjn : j ≤ n := by omega
    clear hW1 hW1' hg1 hget hget1 hnews hlen h4 hn hs1 hml hij
    go_enter Try.func53, Try.ntmps53
    go_wp2_with fail
    go_region_law (refine step_append_room rfl (.tmp 22) (.tmp 25) 73 rfl 51 i0 1 Try.underlying73 hi0 hz1 g 0 i cap (by simp [Act.eval, Act.put]) A (n - j) (cap - j) news (by simp [Act.eval, Act.put]) s1.out hsrc.out s2.out (by omega) s3.out ?_; rw [← hW.out])
    go_wp2
    go_ret
    obtain ⟨v', e1, e2⟩ := HF.out
    exact ⟨v', by rw [e1]; rfl, e2⟩

theorem del_any (w : World) (v : Value) (zs : List (Option Addr)) (i : Nat) (h : Ow w 51 v (zs.map (Value.pointer))) (hi : i < zs.length) (hl : zs.length < 100000) :
    Calls Try.prog 53 #[v, .int .i64 (i : Nat), .int .i64 ((i + 1 : Nat) : Int)] w fun e w' => ∃ v', e = .returned v' ∧ (∃ a n c, v' = .slice (some a) n c) ∧ Ow w' 51 v' ((zs.take i ++ zs.drop (i + 1)).map (Value.pointer)) ∧ Kp (blk v) w w' ∧ blk v' = blk v :=
  del_j w v zs i (i + 1) rfl h hi hl

set_option maxHeartbeats 400000 in
theorem cut_in (w : World) (p : Nat) (v : Value) (zs : List (Option Addr)) (i : Int) (h : PX w p v zs) (h0 : 0 ≤ i) (h1 : i < zs.length) (hl : zs.length < 100000) (y : (Option Addr)) (hy : zs[i.toNat]? = some y) :
    Calls Try.prog 38 #[.pointer (some ⟨p, 0, none⟩), .int .i64 i] w fun e w' => e = .returned (.tuple #[Value.pointer y, .bool true]) ∧ TX w w' p v (zs.take i.toNat ++ zs.drop (i.toNat + 1)) := by
  obtain ⟨ao, c, hv, hc, hf, _⟩ := h.out
  have ha := at_in w p v zs i h h0 h1 y hy
  obtain ⟨hp, hown, hpb⟩ := h
  have hpl : p < w.heap.size := (Array.getElem?_eq_some_iff.1 hp).1
  have hh := del_any w v zs i.toNat hown (by omega) hl
  rw [show ((i.toNat + 1 : Nat) : Int) = i + 1 by omega, show ((i.toNat : Nat) : Int) = i by omega] at hh
  have HF : Hid (∀ v' w2, ((∃ a n c, v' = .slice (some a) n c) ∧ Ow w2 51 v' ((zs.take i.toNat ++ zs.drop (i.toNat + 1)).map (Value.pointer)) ∧ Kp (blk v) w w2 ∧ blk v' = blk v) → (∃ a n c, v' = .slice (some a) n c) ∧ w2.cell? ⟨p, 0, none⟩ = some v ∧ w2.frozen? ⟨p, 0, none⟩ = false ∧ TX w (w2.setCell ⟨p, 0, none⟩ v') p v (zs.take i.toNat ++ zs.drop (i.toNat + 1))) := by
    rintro v' w2 ⟨ha, hown2, hk2, hb2⟩
    have hp2 : w2.heap[p]? = some (.cells #[v] 75 (0, 0)) := by
      rw [hk2.block p hpl hpb]; exact hp
    exact ⟨ha, by rw [cell_of hp2]; rfl, frozen_of hp2 0, Turned.mk hpl hp2 hpb hown2 (hk2.mono (fun y hy => Or.inl (by simp [hy]))) (fun k hk => Or.inl (hb2 ▸ hk))⟩
  clear hown hy
  subst hv
  go_enter Try.func38, Try.ntmps38
  go_wp2_with fail
  refine ha.mono ?_
  rintro e w' ⟨rfl, rfl⟩
  go_wp2_with fail
  refine hh.mono ?_
  rintro e w2 ⟨v', rfl, hput⟩
  obtain ⟨⟨a2, n2, c2, rfl⟩, hc2, hf2, hT⟩ := HF.out v' w2 hput
  clear hput hh
  go_wp2
  go_ret2
  exact ⟨rfl, hT⟩

theorem cut_out (w : World) (p : Nat) (v : Value) (zs : List (Option Addr)) (i : Int) (h : PX w p v zs) (h1 : i < 0 ∨ zs.length ≤ i) :
    Calls Try.prog 38 #[.pointer (some ⟨p, 0, none⟩), .int .i64 i] w fun e w' => e = .returned (.tuple #[Value.pointer none, .bool false]) ∧ w' = w := by
  have ha := at_out w p v zs i h h1
  clear h h1
  go_enter Try.func38, Try.ntmps38
  go_wp2_with fail
  refine ha.mono ?_
  rintro e w' ⟨rfl, rfl⟩
  go_wp2
  go_ret2
  exact ⟨rfl, rfl⟩

theorem pop_in (w : World) (p : Nat) (v : Value) (zs : List (Option Addr)) (h : PX w p v zs) (hl : zs.length < 100000) (y : (Option Addr)) (hy : zs[zs.length - 1]? = some y) :
    Calls Try.prog 36 #[.pointer (some ⟨p, 0, none⟩)] w fun e w' => e = .returned (.tuple #[Value.pointer y, .bool true]) ∧ TX w w' p v (zs.take (zs.length - 1)) := by
  obtain ⟨ao, c, hv, hc, hf, hcs⟩ := h.out
  have hn : 0 < zs.length := by
    have := (List.getElem?_eq_some_iff.1 hy).1
    omega
  have hh := cut_in w p v zs ((zs.length : Int) - 1) h (by omega) (by omega) hl y (by rw [show ((zs.length : Int) - 1).toNat = zs.length - 1 by omega]; exact hy)
  rw [show ((zs.length : Int) - 1).toNat = zs.length - 1 by omega, show zs.length - 1 + 1 = zs.length by omega, List.drop_length, List.append_nil] at hh
  clear h hcs hv hy
  go_enter Try.func36, Try.ntmps36
  go_wp2_with fail
  refine hh.mono ?_
  rintro e w' ⟨rfl, hT⟩
  go_wp2
  go_ret2
  exact ⟨rfl, hT⟩

theorem pop_out (w : World) (p : Nat) (v : Value) (h : PX w p v []) :
    Calls Try.prog 36 #[.pointer (some ⟨p, 0, none⟩)] w fun e w' => e = .returned (.tuple #[Value.pointer none, .bool false]) ∧ w' = w := by
  obtain ⟨ao, c, hv, hc, hf, hcs⟩ := h.out
  have hh := cut_out w p v [] (-1) h (by simp)
  simp only [List.length_nil] at hc
  clear h hcs hv
  go_enter Try.func36, Try.ntmps36
  go_wp2_with fail
  refine hh.mono ?_
  rintro e w' ⟨rfl, rfl⟩
  go_wp2
  go_ret2
  exact ⟨rfl, rfl⟩

end Go.Proofs.Ytadcpkdnpfmphaa.Ints
