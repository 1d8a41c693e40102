/-
  What the methods Put, Cut and Pop of a pile of texts do to the world.
-/
import Derived.Test.YtfnacibhmanblaaStrsB
namespace Go.Proofs.Ytfnacibhmanblaa.Strs
open Go.RowKit

/-- What slices.Insert of one leaves: a slice with x at place i, in the old block or in a new one. -/
def Put1 (w w' : World) (v v' : Value) (zs : List ByteArray) (i : Nat) (x : ByteArray) : Prop :=
  (∃ a n c, v' = .slice (some a) n c) ∧ Own w' 9 v' ((zs.take i ++ x :: zs.drop i).map (Value.string)) ∧ Kp (blk v) w w' ∧ ∀ k, k ∈ blk v' → k ∈ blk v ∨ w.heap.size ≤ k

theorem put1_len (zs : List ByteArray) (i : Nat) (x : ByteArray) (hi : i ≤ zs.length) : ((zs.take i ++ x :: zs.drop i).map (Value.string)).length = zs.length + 1 := by
  simp
  omega

theorem put1_get (zs : List ByteArray) (i : Nat) (x : ByteArray) (hi : i ≤ zs.length) (j : Nat) : ((zs.take i ++ x :: zs.drop i).map (Value.string))[j]? = if j < i then (zs.map (Value.string))[j]? else if j = i then some (Value.string x) else (zs.map (Value.string))[j - 1]? := by
  simp only [List.getElem?_map]
  by_cases h1 : j < i
  · rw [if_pos h1, List.getElem?_append_left (by simp; omega), List.getElem?_take, if_pos h1]
  · rw [if_neg h1, List.getElem?_append_right (by simp; omega)]
    have hm : (zs.take i).length = i := by simp; omega
    rw [hm]
    by_cases h2 : j = i
    · rw [if_pos h2]; simp [h2]
    · rw [if_neg h2, show j - i = (j - i - 1) + 1 by omega, List.getElem?_cons_succ, List.getElem?_drop, show i + (j - i - 1) = j - 1 by omega]

set_option maxHeartbeats 1000000 in
theorem ins_any (w : World) (v : Value) (zs : List ByteArray) (i : Nat) (x : ByteArray) (vb : Nat) (h : Own w 9 v (zs.map (Value.string))) (hi : i ≤ zs.length) (hl : zs.length < 100000) (hvb : w.heap[vb]? = some (.cells #[Value.string x] 9 (0, 0))) (hvn : vb ∉ blk v) :
    Calls Try.prog 36 #[v, .int .i64 i, .slice (some ⟨vb, 0, none⟩) 1 1] w fun e w' => ∃ v', e = .returned v' ∧ Put1 w w' v v' zs i x := by
  have hvl : vb < w.heap.size := (Array.getElem?_eq_some_iff.1 hvb).1
  have hvs : ∀ j u, [Value.string x][j]? = some u → w.cell? ⟨vb, 0 + j, none⟩ = some u := fun j u hj => by
    match j, hj with
    | 0, hj => rw [cell_of hvb]; simpa using hj
  have h1v : ∀ u, u ∈ [Value.string x] → u.oneCell' = true := fun u hu => by simp at hu; subst hu; rfl
  have hplen := put1_len zs i x hi
  have hget := put1_get zs i x hi
  rcases h with ⟨rfl, h0⟩ | ⟨g, cap, cur, rfl, hg, h1, h2, h3, h4⟩
  · obtain rfl : zs = [] := by simpa using h0
    obtain rfl : i = 0 := by simpa using hi
    have hc : Calls Try.prog 36 #[.slice none 0 0, .int .i64 (0 : Nat), .slice (some ⟨vb, 0, none⟩) 1 1] w fun e w' =>
        e = .returned (.slice (some ⟨w.heap.size, 0, none⟩) (0 + 1) (grownCap w (0 + 1) 0 9)) ∧
        w' = w.drew.alloc (.cells (([] ++ [Value.string x]).toArray ++ Builtin.zeroCells ((Value.string ⟨#[]⟩) : Value).cells (grownCap w (0 + 1) 0 9 - (0 + 1))) 9) :=
      Any2.slices_Insert_string_end_grow Try.lays22 none 0 0 vb 0 1 1 [] [Value.string x] w (by omega) (by omega) (by omega) (by omega) rfl rfl (fun _ => rfl) (fun a ha => by cases ha) hvs h1v
    refine hc.mono ?_
    rintro e w' ⟨rfl, rfl⟩
    refine ⟨_, rfl, ⟨_, _, _, rfl⟩, ?_, (Kp.refl _ _).drew.alloc _, fun k hk => ?_⟩
    · exact own_grown w.drew 9 (Value.string ⟨#[]⟩) rfl [Value.string x] (0 + 1) _ rfl (grownCap_ge w (0 + 1) 0 9) (grownCap_le_maxLen w _ _ _ (by unfold maxLen; omega))
    · simp [blk] at hk
      exact Or.inr (by omega)
  · have hgv : vb ≠ g := by simpa [blk] using hvn
    rw [List.length_map] at h1 h4 ⊢
    have hgl : g < w.heap.size := (Array.getElem?_eq_some_iff.1 hg).1
    have hcs : ∀ j u, (zs.map (Value.string))[j]? = some u → w.cell? ⟨g, 0 + j, none⟩ = some u := fun j u hj => by
      have hjl : j < zs.length := by have := (List.getElem?_eq_some_iff.1 hj).1; simpa using this
      rw [Nat.zero_add, cell_of hg, h4 j hjl]; exact hj
    have hml : (zs.map (Value.string)).length = zs.length := by simp
    have hc63 : cap ≤ 9223372036854775807 := by unfold maxLen at h2; exact h2
    by_cases hin : i < zs.length
    · by_cases hroom : zs.length + 1 ≤ cap
      · have hc : Calls Try.prog 36 #[.slice (some ⟨g, 0, none⟩) zs.length cap, .int .i64 i, .slice (some ⟨vb, 0, none⟩) 1 1] w fun e w' =>
            e = .returned (.slice (some ⟨g, 0, none⟩) (zs.length + 1) cap) ∧ w' = (w.drew.setCells g (0 + (i + 1)) ((zs.map (Value.string)).drop i)).setCells g (0 + i) [Value.string x] :=
          Any2.slices_Insert_string_shift Try.lays22 g 0 zs.length cap i vb 0 1 1 (zs.map (Value.string)) [Value.string x] w hin (by omega) hroom hc63 hgv hml rfl hcs
            (fun j hj => by rw [cell_of hg, Array.getElem?_eq_getElem (by omega)]; rfl) (fun j hj => frozen_of hg _) hvs (one zs) h1v 9 9 1 cap (by simp [World.shape?, hvb]) (by simp [World.shape?, hg, h3]) (by omega) (frozen_of hvb _) (frozen_of hvb _)
        refine hc.mono ?_
        rintro e w' ⟨rfl, rfl⟩
        obtain ⟨cur1, hg1, hs1⟩ := setCells_block g 9 ((zs.map (Value.string)).drop i) (0 + (i + 1)) w.drew cur hg
        have hget1 := setCells_get g 9 ((zs.map (Value.string)).drop i) (0 + (i + 1)) w.drew cur cur1 hg hg1 (by simp; omega)
        obtain ⟨cur2, hg2, hs2⟩ := setCells_block g 9 [Value.string x] (0 + i) _ cur1 hg1
        have hget2 := setCells_get g 9 [Value.string x] (0 + i) _ cur1 cur2 hg1 hg2 (by simp; omega)
        refine ⟨_, rfl, ⟨_, _, _, rfl⟩, Or.inr ⟨g, cap, cur2, by rw [hplen], hg2, by omega, h2, by omega, fun j hj => ?_⟩, Kp.setCells g (Or.inl (by simp [blk])) _ _ _ (Kp.setCells g (Or.inl (by simp [blk])) _ _ _ (Kp.refl _ _).drew), fun k hk => Or.inl (by simpa [blk] using hk)⟩
        rw [hget j, hget2 j, hget1 j]
        simp only [Nat.zero_add, List.length_cons, List.length_nil, List.length_drop, hml]
        by_cases hj1 : j < i
        · rw [if_neg (by omega), if_neg (by omega), if_pos hj1, h4 j (by omega)]
        · by_cases hj2 : j = i
          · subst hj2
            rw [if_pos (by omega), if_neg hj1, if_pos rfl]
            simp
          · rw [if_neg (by omega), if_pos (by omega), if_neg hj1, if_neg hj2, List.getElem?_drop, show i + (j - (i + 1)) = j - 1 by omega]
      · have hc : Calls Try.prog 36 #[.slice (some ⟨g, 0, none⟩) zs.length cap, .int .i64 i, .slice (some ⟨vb, 0, none⟩) 1 1] w fun e w' =>
            e = .returned (.slice (some ⟨w.heap.size, 0, none⟩) (zs.length + 1) (grownCap w (zs.length + 1) cap 9)) ∧
            w' = (((w.alloc (.cells (((zs.map (Value.string)).take i).toArray ++ Builtin.zeroCells ((Value.string ⟨#[]⟩) : Value).cells (zs.length + 1 - i) ++ Builtin.zeroCells ((Value.string ⟨#[]⟩) : Value).cells (grownCap w (zs.length + 1) cap 9 - (zs.length + 1))) 9)).drew.setCells w.heap.size i [Value.string x]).drew).setCells w.heap.size (i + 1) ((zs.map (Value.string)).drop i) :=
          Any2.slices_Insert_string_grow Try.lays22 g 0 zs.length cap i vb 0 1 1 (zs.map (Value.string)) [Value.string x] w hin (by omega) h1 (by omega) (by omega) hml rfl hcs hvs (one zs) h1v
        refine hc.mono ?_
        rintro e w' ⟨rfl, rfl⟩
        have hge := grownCap_ge w (zs.length + 1) cap 9
        have hgm := grownCap_le_maxLen w (zs.length + 1) cap 9 (by unfold maxLen; omega)
        generalize grownCap w (zs.length + 1) cap 9 = G at hge hgm ⊢
        obtain ⟨ROW, hROW⟩ : ∃ ROW, ROW = ((zs.map (Value.string)).take i).toArray ++ Builtin.zeroCells ((Value.string ⟨#[]⟩) : Value).cells (zs.length + 1 - i) ++ Builtin.zeroCells ((Value.string ⟨#[]⟩) : Value).cells (G - (zs.length + 1)) := ⟨_, rfl⟩
        have hRs : ROW.size = G := by
          rw [hROW, Array.size_append, Array.size_append, zeroCells_size _ rfl, zeroCells_size _ rfl]
          simp
          omega
        have hRi : ∀ j, j < i → ROW[j]? = (zs.map (Value.string))[j]? := fun j hj => by
          rw [hROW, Array.append_assoc, Array.getElem?_append_left (by simp; omega)]
          simp [hj]
        rw [← hROW]
        have hg0 : (w.alloc (.cells ROW 9)).drew.heap[w.heap.size]? = some (.cells ROW 9 (0, 0)) := heap_new w _
        obtain ⟨cur1, hg1, hs1⟩ := setCells_block w.heap.size 9 [Value.string x] i _ ROW hg0
        have hget1 := setCells_get w.heap.size 9 [Value.string x] i _ ROW cur1 hg0 hg1 (by simp; omega)
        have hg1' : (((w.alloc (.cells ROW 9)).drew.setCells w.heap.size i [Value.string x]).drew).heap[w.heap.size]? = some (.cells cur1 9 (0, 0)) := hg1
        obtain ⟨cur2, hg2, hs2⟩ := setCells_block w.heap.size 9 ((zs.map (Value.string)).drop i) (i + 1) _ cur1 hg1'
        have hget2 := setCells_get w.heap.size 9 ((zs.map (Value.string)).drop i) (i + 1) _ cur1 cur2 hg1' hg2 (by simp; omega)
        refine ⟨_, rfl, ⟨_, _, _, rfl⟩, Or.inr ⟨w.heap.size, G, cur2, by rw [hplen], hg2, by omega, hgm, by omega, fun j hj => ?_⟩, Kp.setCells _ (Or.inr (Nat.le_refl _)) _ _ _ (Kp.setCells _ (Or.inr (Nat.le_refl _)) _ _ _ ((Kp.refl _ _).alloc _).drew).drew, fun k hk => Or.inr (by simp [blk] at hk; omega)⟩
        rw [hget j, hget2 j, hget1 j]
        simp only [List.length_cons, List.length_nil, List.length_drop, hml]
        by_cases hj1 : j < i
        · rw [if_neg (by omega), if_neg (by omega), if_pos hj1, hRi j hj1]
        · by_cases hj2 : j = i
          · subst hj2
            rw [if_neg (by omega), if_pos (by omega), if_neg hj1, if_pos rfl]
            simp
          · rw [if_pos (by omega), if_neg hj1, if_neg hj2, List.getElem?_drop, show i + (j - (i + 1)) = j - 1 by omega]
    · obtain rfl : i = zs.length := by omega
      have heq : (zs.take zs.length ++ x :: zs.drop zs.length).map (Value.string) = zs.map (Value.string) ++ [Value.string x] := by simp
      by_cases hroom : zs.length + 1 ≤ cap
      · have hc : Calls Try.prog 36 #[.slice (some ⟨g, 0, none⟩) zs.length cap, .int .i64 zs.length, .slice (some ⟨vb, 0, none⟩) 1 1] w fun e w' =>
            e = .returned (.slice (some ⟨g, 0, none⟩) (zs.length + 1) cap) ∧ w' = w.setCells g (0 + zs.length) [Value.string x] :=
          Any2.slices_Insert_string_end_room Try.lays22 g 0 zs.length cap vb 0 1 1 [Value.string x] w (by omega) hroom hc63 rfl
            (fun j hj => by rw [cell_of hg, Array.getElem?_eq_getElem (by omega)]; rfl) (fun j hj => frozen_of hg _) hvs h1v
        refine hc.mono ?_
        rintro e w' ⟨rfl, rfl⟩
        obtain ⟨cur2, hg2, hs2⟩ := setCells_block g 9 [Value.string x] (0 + zs.length) _ cur hg
        have hget2 := setCells_get g 9 [Value.string x] (0 + zs.length) _ cur cur2 hg hg2 (by simp; omega)
        refine ⟨_, rfl, ⟨_, _, _, rfl⟩, Or.inr ⟨g, cap, cur2, by rw [hplen], hg2, by omega, h2, by omega, fun j hj => ?_⟩, Kp.setCells g (Or.inl (by simp [blk])) _ _ _ (Kp.refl _ _), fun k hk => Or.inl (by simpa [blk] using hk)⟩
        rw [hget j, hget2 j]
        simp only [Nat.zero_add, List.length_cons, List.length_nil]
        by_cases hj1 : j < zs.length
        · rw [if_neg (by omega), if_pos hj1, h4 j hj1]
        · obtain rfl : j = zs.length := by omega
          rw [if_pos (by omega), if_neg hj1, if_pos rfl]
          simp
      · have hc : Calls Try.prog 36 #[.slice (some ⟨g, 0, none⟩) zs.length cap, .int .i64 zs.length, .slice (some ⟨vb, 0, none⟩) 1 1] w fun e w' =>
            e = .returned (.slice (some ⟨w.heap.size, 0, none⟩) (zs.length + 1) (grownCap w (zs.length + 1) cap 9)) ∧
            w' = w.drew.alloc (.cells ((zs.map (Value.string) ++ [Value.string x]).toArray ++ Builtin.zeroCells ((Value.string ⟨#[]⟩) : Value).cells (grownCap w (zs.length + 1) cap 9 - (zs.length + 1))) 9) :=
          Any2.slices_Insert_string_end_grow Try.lays22 (some ⟨g, 0, none⟩) zs.length cap vb 0 1 1 (zs.map (Value.string)) [Value.string x] w (by omega) h1 (by omega) (by omega) hml rfl (fun h => by cases h)
            (fun a ha j u hj => by
              obtain rfl : (⟨g, 0, none⟩ : Addr) = a := by simpa using ha
              rw [Addr.add_lit]; exact hcs j u hj) hvs h1v
        refine hc.mono ?_
        rintro e w' ⟨rfl, rfl⟩
        refine ⟨_, rfl, ⟨_, _, _, rfl⟩, ?_, (Kp.refl _ _).drew.alloc _, fun k hk => Or.inr (by simp [blk] at hk; omega)⟩
        rw [heq]
        exact own_grown w.drew 9 (Value.string ⟨#[]⟩) rfl _ (zs.length + 1) _ (by simp) (grownCap_ge w _ _ 9) (grownCap_le_maxLen w _ _ _ (by unfold maxLen; omega))

set_option maxHeartbeats 400000 in
theorem put_in (w : World) (p : Nat) (v : Value) (zs : List ByteArray) (i : Int) (x : ByteArray) (h : PX w p v zs) (h0 : 0 ≤ i) (h1 : i ≤ zs.length) (hl : zs.length < 100000) :
    Calls Try.prog 24 #[.pointer (some ⟨p, 0, none⟩), .int .i64 i, Value.string x] w fun e w' => e = .returned (.bool true) ∧ TX w w' p v (zs.take i.toNat ++ x :: zs.drop i.toNat) := by
  obtain ⟨ao, c, hv, hc, hf, _⟩ := h.out
  obtain ⟨hp, hown, hpb⟩ := h
  have hpl : p < w.heap.size := (Array.getElem?_eq_some_iff.1 hp).1
  have hown1 : Own (w.alloc (.cells #[Value.string x] 9)) 9 v (zs.map (Value.string)) := hown.keep ((Kp.refl [] w).alloc _) (fun _ _ => by simp)
  have hh := ins_any (w.alloc (.cells #[Value.string x] 9)) v zs i.toNat x w.heap.size hown1 (by omega) hl (heap_new w _) (fun hx => by have := hown.lt _ hx; omega)
  rw [show ((i.toNat : Nat) : Int) = i by omega] at hh
  have hfin : ∀ v' w2, Put1 (w.alloc (.cells #[Value.string x] 9)) w2 v v' zs i.toNat x → (∃ a n c, v' = .slice (some a) n c) ∧ w2.cell? ⟨p, 0, none⟩ = some v ∧ w2.frozen? ⟨p, 0, none⟩ = false ∧ TX w (w2.setCell ⟨p, 0, none⟩ v') p v (zs.take i.toNat ++ x :: zs.drop i.toNat) := by
    rintro v' w2 ⟨ha, hown2, hk2, hb2⟩
    have hp2 : w2.heap[p]? = some (.cells #[v] 55 (0, 0)) := by
      rw [hk2.block p (by simp; omega) hpb, Below.heap_alloc _ _ _ hpl]; exact hp
    refine ⟨ha, by rw [cell_of hp2]; rfl, frozen_of hp2 0, Turned.mk hpl hp2 hpb hown2 ((((Kp.refl (blk v) w).alloc _).trans hk2 (fun y hy => Or.inl hy)).mono (fun y hy => Or.inl (by simp [hy]))) (fun k hk => ?_)⟩
    rcases hb2 k hk with h3 | h3
    · exact Or.inl h3
    · right; simp at h3; omega
  have HF : Hid (∀ v' w2, Put1 (w.alloc (.cells #[Value.string x] 9)) w2 v v' zs i.toNat x → (∃ a n c, v' = .slice (some a) n c) ∧ w2.cell? ⟨p, 0, none⟩ = some v ∧ w2.frozen? ⟨p, 0, none⟩ = false ∧ TX w (w2.setCell ⟨p, 0, none⟩ v') p v (zs.take i.toNat ++ x :: zs.drop i.toNat)) := hfin
  clear hfin hown1 hown
  subst hv
  go_enter Try.func24, Try.ntmps24
  go_wp2_with fail
  refine hh.mono ?_
  rintro e w2 ⟨v', rfl, hput⟩
  obtain ⟨⟨a2, n2, c2, rfl⟩, hc2, hf2, hT⟩ := HF.out v' w2 hput
  clear hput hh
  go_wp2
  go_ret
  exact ⟨rfl, hT⟩

theorem put_out (w : World) (p : Nat) (v : Value) (zs : List ByteArray) (i : Int) (x : ByteArray) (h : PX w p v zs) (h1 : i < 0 ∨ zs.length < i) :
    Calls Try.prog 24 #[.pointer (some ⟨p, 0, none⟩), .int .i64 i, Value.string x] w fun e w' => e = .returned (.bool false) ∧ w' = w := by
  obtain ⟨ao, c, rfl, hc, hf, hcs⟩ := h.out
  clear h hcs
  rcases h1 with h1 | h1
  · go_enter Try.func24, Try.ntmps24
    go_wp2
    go_ret
    exact ⟨rfl, rfl⟩
  · have h2 : ¬ i < 0 := by omega
    go_enter Try.func24, Try.ntmps24
    go_wp2
    go_ret
    exact ⟨rfl, rfl⟩

end Go.Proofs.Ytfnacibhmanblaa.Strs
