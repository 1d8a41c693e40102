/-
  What the method Put of a pile of pointers do to the world.
-/
import Derived.Test.YtadcpkdnpfmphaaPb
namespace Go.Proofs.Ytadcpkdnpfmphaa.Ints
open Go.RowKit

/-- What slices.Insert of one leaves: a slice with x at place i, in the old block or in a new one. -/
def Put1 (w w' : World) (v v' : Value) (zs : List (Option Addr)) (i : Nat) (x : (Option Addr)) : Prop :=
  (∃ a n c, v' = .slice (some a) n c) ∧ Ow w' 51 v' ((zs.take i ++ x :: zs.drop i).map (Value.pointer)) ∧ Kp (blk v) w w' ∧ ∀ k, k ∈ blk v' → k ∈ blk v ∨ w.heap.size ≤ k

theorem put1_len (zs : List (Option Addr)) (i : Nat) (x : (Option Addr)) (hi : i ≤ zs.length) : ((zs.take i ++ x :: zs.drop i).map (Value.pointer)).length = zs.length + 1 := by
  simp
  omega

theorem put1_get (zs : List (Option Addr)) (i : Nat) (x : (Option Addr)) (hi : i ≤ zs.length) (j : Nat) : ((zs.take i ++ x :: zs.drop i).map (Value.pointer))[j]? = if j < i then (zs.map (Value.pointer))[j]? else if j = i then some (Value.pointer x) else (zs.map (Value.pointer))[j - 1]? := by
  simp only [List.getElem?_map]
  by_cases h1 : j < i
  · rw [if_pos h1, List.getElem?_append_left (by simp; omega), List.getElem?_take, if_pos h1]
  · rw [if_neg h1, List.getElem?_append_right (by simp; omega)]
    have hm : (zs.take i).length = i := by simp; omega
    rw [hm]
    by_cases h2 : j = i
    · rw [if_pos h2]; simp [h2]
    · rw [if_neg h2, show j - i = (j - i - 1) + 1 by omega, List.getElem?_cons_succ, List.getElem?_drop, show i + (j - i - 1) = j - 1 by omega]

set_option maxHeartbeats 1000000 in
theorem ins_any (w : World) (v : Value) (zs : List (Option Addr)) (i : Nat) (x : (Option Addr)) (vb : Nat) (h : Ow w 51 v (zs.map (Value.pointer))) (hi : i ≤ zs.length) (hl : zs.length < 100000) (hvb : w.heap[vb]? = some (.cells #[Value.pointer x] 51 (0, 0))) (hvn : vb ∉ blk v) :
    Calls Try.prog 59 #[v, .int .i64 i, .slice (some ⟨vb, 0, none⟩) 1 1] w fun e w' => ∃ v', e = .returned v' ∧ Put1 w w' v v' zs i x := by
  have hvl : vb < w.heap.size := (Array.getElem?_eq_some_iff.1 hvb).1
  have hvs : w.cell? ⟨vb, 0, none⟩ = some (Value.pointer x) := by rw [cell_of hvb]; rfl
  have hsrc : Src Try.prog 1 73 (.slice (some ⟨vb, 0, none⟩) 1 1) 1 [Value.pointer x] w := src_one Try.underlying73 hvb rfl
  have hplen := put1_len zs i x hi
  have hget := put1_get zs i x hi
  have hml : (zs.map (Value.pointer)).length = zs.length := by simp
  by_cases hin : i < zs.length
  · rcases h with ⟨rfl, h0⟩ | ⟨g, cap, cur, rfl, hg, h1, h2, h3, h4⟩
    · obtain rfl : zs = [] := by simpa using h0
      simp at hin
    · have hgv : vb ≠ g := by simpa [blk] using hvn
      rw [List.length_map] at h1 h4 ⊢
      have hgl : g < w.heap.size := (Array.getElem?_eq_some_iff.1 hg).1
      have hcs : ∀ j u, (zs.map (Value.pointer))[j]? = some u → w.cell? ⟨g, j, none⟩ = some u := fun j u hj => by
        have hjl : j < zs.length := by have := (List.getElem?_eq_some_iff.1 hj).1; simpa using this
        rw [cell_of hg, h4 j hjl]; exact hj
      have hc63 : cap ≤ 9223372036854775807 := by unfold maxLen at h2; exact h2
      by_cases hroom : zs.length + 1 ≤ cap
      · refine (ins_shift g zs.length cap i vb (zs.map (Value.pointer)) (Value.pointer x) w hin hroom hc63 hgv hml hcs
            (fun j hj => by rw [cell_of hg, Array.getElem?_eq_getElem (by omega)]; rfl) (fun j hj => frozen_of hg _) hvs (one zs) rfl 51 51 1 cap (by simp [World.shape?, hvb]) (by simp [World.shape?, hg, h3]) (by omega) (frozen_of hvb _) (frozen_of hvb _)).mono ?_
        rintro e w' ⟨rfl, rfl⟩
        obtain ⟨cur1, hg1, hs1⟩ := setCells_block g 51 ((zs.map (Value.pointer)).drop i) (i + 1) w.drew cur hg
        have hget1 := setCells_get g 51 ((zs.map (Value.pointer)).drop i) (i + 1) w.drew cur cur1 hg hg1 (by simp; omega)
        obtain ⟨cur2, hg2, hs2⟩ := setCells_block g 51 [Value.pointer x] i _ cur1 hg1
        have hget2 := setCells_get g 51 [Value.pointer x] i _ cur1 cur2 hg1 hg2 (by simp; omega)
        refine ⟨_, rfl, ⟨_, _, _, rfl⟩, Or.inr ⟨g, cap, cur2, by rw [hplen], hg2, by omega, h2, by omega, fun j hj => ?_⟩, Kp.setCells g (Or.inl (by simp [blk])) _ _ _ (Kp.setCells g (Or.inl (by simp [blk])) _ _ _ (Kp.refl _ _).drew), fun k hk => Or.inl (by simpa [blk] using hk)⟩
        rw [hget j, hget2 j, hget1 j]
        simp only [List.length_cons, List.length_nil, List.length_drop, hml]
        by_cases hj1 : j < i
        · rw [if_neg (by omega), if_neg (by omega), if_pos hj1, h4 j (by omega)]
        · by_cases hj2 : j = i
          · subst hj2
            rw [if_pos (by omega), if_neg hj1, if_pos rfl]
            simp
          · rw [if_neg (by omega), if_pos (by omega), if_neg hj1, if_neg hj2, List.getElem?_drop, show i + (j - (i + 1)) = j - 1 by omega]
      · refine (ins_grow g zs.length cap i vb (zs.map (Value.pointer)) (Value.pointer x) w hin h1 (by omega) (by omega) hml hcs hvs (one zs) rfl).mono ?_
        rintro e w' ⟨rfl, rfl⟩
        have hG := grownCap_ge w (zs.length + 1) cap 51
        have hGm := grownCap_le_maxLen w (zs.length + 1) cap 51 (by unfold maxLen; omega)
        generalize grownCap w (zs.length + 1) cap 51 = G at hG hGm ⊢
        obtain ⟨ROW, hROW⟩ : ∃ ROW : Array Value, ROW = ((zs.map (Value.pointer)).take i).toArray ++ Builtin.zeroCells (Value.pointer none).cells (zs.length + 1 - i) ++ Builtin.zeroCells (Value.pointer none).cells (G - (zs.length + 1)) := ⟨_, rfl⟩
        rw [← hROW]
        have hz1 := zeroCells_size (Value.pointer none) rfl (zs.length + 1 - i)
        have hz2 := zeroCells_size (Value.pointer none) rfl (G - (zs.length + 1))
        have hRs : ROW.size = G := by rw [hROW, Array.size_append, Array.size_append, hz1, hz2]; simp; omega
        have hR0 : ∀ j, j < i → ROW[j]? = (zs.map (Value.pointer))[j]? := fun j hj => by
          rw [hROW, Array.append_assoc, Array.getElem?_append_left (by simp; omega), List.getElem?_toArray, List.getElem?_take, if_pos hj]
        have hgW : ((w.alloc (.cells ROW 51)).drew).heap[w.heap.size]? = some (.cells ROW 51 (0, 0)) := heap_new w _
        obtain ⟨cur1, hg1, hs1⟩ := setCells_block w.heap.size 51 [Value.pointer x] i _ ROW hgW
        have hget1 := setCells_get w.heap.size 51 [Value.pointer x] i _ ROW cur1 hgW hg1 (by simp; omega)
        have hg1' : (((w.alloc (.cells ROW 51)).drew.setCells w.heap.size i [Value.pointer x]).drew).heap[w.heap.size]? = some (.cells cur1 51 (0, 0)) := hg1
        obtain ⟨cur2, hg2, hs2⟩ := setCells_block w.heap.size 51 ((zs.map (Value.pointer)).drop i) (i + 1) _ cur1 hg1'
        have hget2 := setCells_get w.heap.size 51 ((zs.map (Value.pointer)).drop i) (i + 1) _ cur1 cur2 hg1' hg2 (by simp; omega)
        refine ⟨_, rfl, ⟨_, _, _, rfl⟩, Or.inr ⟨w.heap.size, G, cur2, by rw [hplen], hg2, by omega, hGm, by omega, fun j hj => ?_⟩, Kp.setCells w.heap.size (Or.inr (Nat.le_refl _)) _ _ _ (Kp.drew (Kp.setCells w.heap.size (Or.inr (Nat.le_refl _)) _ _ _ (Kp.drew ((Kp.refl _ _).alloc _)))), fun k hk => Or.inr (by simp [blk] at hk; omega)⟩
        rw [hget j, hget2 j, hget1 j]
        simp only [List.length_cons, List.length_nil, List.length_drop, hml]
        by_cases hj1 : j < i
        · rw [if_neg (by omega), if_neg (by omega), if_pos hj1, hR0 j hj1]
        · by_cases hj2 : j = i
          · subst hj2
            rw [if_neg (by omega), if_pos (by omega), if_neg hj1, if_pos rfl]
            simp
          · rw [hplen] at hj
            rw [if_pos (by omega), if_neg hj1, if_neg hj2, List.getElem?_drop, show i + (j - (i + 1)) = j - 1 by omega]
  · obtain rfl : i = zs.length := by omega
    obtain ⟨v', w', hrun, hown, hk, hb, a, c, rfl⟩ := ow_app Try.underlying73 info rfl (by decide) w v _ h _ 1 _ hsrc (fun _ => by omega) (by simp; omega)
    have hv : ∃ ao c0, v = .slice ao zs.length c0 := by
      rcases h with ⟨rfl, h0⟩ | ⟨g, cap, cur, rfl, hg, h1, h2, h3, h4⟩
      · obtain rfl : zs = [] := by simpa using h0
        exact ⟨none, 0, rfl⟩
      · exact ⟨_, cap, by rw [hml]⟩
    obtain ⟨ao, c0, hv⟩ := hv
    refine (ins_end w w' v _ zs.length vb ao c0 hv hrun).mono ?_
    rintro e w2 ⟨rfl, rfl⟩
    refine ⟨_, rfl, ⟨_, _, _, rfl⟩, ?_, hk, fun k hk2 => ?_⟩
    · rw [List.take_of_length_le (Nat.le_refl _), List.drop_eq_nil_of_le (Nat.le_refl _), List.map_append]
      exact hown
    · rcases hb k hk2 with h5 | h5
      · exact Or.inl h5
      · exact Or.inr (by omega)

set_option maxHeartbeats 400000 in
theorem put_in (w : World) (p : Nat) (v : Value) (zs : List (Option Addr)) (i : Int) (x : (Option Addr)) (h : PX w p v zs) (h0 : 0 ≤ i) (h1 : i ≤ zs.length) (hl : zs.length < 100000) :
    Calls Try.prog 50 #[.pointer (some ⟨p, 0, none⟩), .int .i64 i, Value.pointer x] w fun e w' => e = .returned (.bool true) ∧ TX w w' p v (zs.take i.toNat ++ x :: zs.drop i.toNat) := by
  obtain ⟨ao, c, hv, hc, hf, _⟩ := h.out
  obtain ⟨hp, hown, hpb⟩ := h
  have hpl : p < w.heap.size := (Array.getElem?_eq_some_iff.1 hp).1
  have hown1 : Ow (w.alloc (.cells #[Value.pointer x] 51)) 51 v (zs.map (Value.pointer)) := hown.keep ((Kp.refl [] w).alloc _) (fun _ _ => by simp)
  have hh := ins_any (w.alloc (.cells #[Value.pointer x] 51)) v zs i.toNat x w.heap.size hown1 (by omega) hl (heap_new w _) (fun hx => by have := hown.lt _ hx; omega)
  rw [show ((i.toNat : Nat) : Int) = i by omega] at hh
  have hfin : ∀ v' w2, Put1 (w.alloc (.cells #[Value.pointer x] 51)) w2 v v' zs i.toNat x → (∃ a n c, v' = .slice (some a) n c) ∧ w2.cell? ⟨p, 0, none⟩ = some v ∧ w2.frozen? ⟨p, 0, none⟩ = false ∧ TX w (w2.setCell ⟨p, 0, none⟩ v') p v (zs.take i.toNat ++ x :: zs.drop i.toNat) := by
    rintro v' w2 ⟨ha, hown2, hk2, hb2⟩
    have hp2 : w2.heap[p]? = some (.cells #[v] 75 (0, 0)) := by
      rw [hk2.block p (by simp; omega) hpb, Below.heap_alloc _ _ _ hpl]; exact hp
    refine ⟨ha, by rw [cell_of hp2]; rfl, frozen_of hp2 0, Turned.mk hpl hp2 hpb hown2 ((((Kp.refl (blk v) w).alloc _).trans hk2 (fun y hy => Or.inl hy)).mono (fun y hy => Or.inl (by simp [hy]))) (fun k hk => ?_)⟩
    rcases hb2 k hk with h3 | h3
    · exact Or.inl h3
    · right; simp at h3; omega
  have HF : Hid (∀ v' w2, Put1 (w.alloc (.cells #[Value.pointer x] 51)) w2 v v' zs i.toNat x → (∃ a n c, v' = .slice (some a) n c) ∧ w2.cell? ⟨p, 0, none⟩ = some v ∧ w2.frozen? ⟨p, 0, none⟩ = false ∧ TX w (w2.setCell ⟨p, 0, none⟩ v') p v (zs.take i.toNat ++ x :: zs.drop i.toNat)) := hfin
  clear hfin hown1 hown
  subst hv
  go_enter Try.func50, Try.ntmps50
  go_wp2_with fail
  refine hh.mono ?_
  rintro e w2 ⟨v', rfl, hput⟩
  obtain ⟨⟨a2, n2, c2, rfl⟩, hc2, hf2, hT⟩ := HF.out v' w2 hput
  clear hput hh
  go_wp2
  go_ret
  exact ⟨rfl, hT⟩

theorem put_out (w : World) (p : Nat) (v : Value) (zs : List (Option Addr)) (i : Int) (x : (Option Addr)) (h : PX w p v zs) (h1 : i < 0 ∨ zs.length < i) :
    Calls Try.prog 50 #[.pointer (some ⟨p, 0, none⟩), .int .i64 i, Value.pointer x] w fun e w' => e = .returned (.bool false) ∧ w' = w := by
  obtain ⟨ao, c, rfl, hc, hf, hcs⟩ := h.out
  clear h hcs
  rcases h1 with h1 | h1
  · go_enter Try.func50, Try.ntmps50
    go_wp2
    go_ret
    exact ⟨rfl, rfl⟩
  · have h2 : ¬ i < 0 := by omega
    go_enter Try.func50, Try.ntmps50
    go_wp2
    go_ret
    exact ⟨rfl, rfl⟩

end Go.Proofs.Ytadcpkdnpfmphaa.Ints
