/-
  One call on a pile of texts and on a list: both tell the same.
-/
import Derived.Test.YtfnacibhmanblaaStrsE
import Derived.Deep.DeepCutAuto
import Derived.Deep.CutBlock
import Derived.Deep.RegionHeld3
namespace Go.Proofs.Ytfnacibhmanblaa.Strs
open Go.RowKit

/-- Is there an i-th one? -/
def inB (i : Int) (n : Nat) : Bool := decide (0 ≤ i ∧ i < n)

/-- A pile and a list that hold the same, each in blocks of its own. -/
def Two (w : World) (p : Nat) (pv lv : Value) (zs : List ByteArray) : Prop :=
  PX w p pv zs ∧ Own w 9 lv (zs.map (Value.string)) ∧ p ∉ blk lv ∧ ∀ k, k ∈ blk pv → k ∉ blk lv

/-- The blocks of both. -/
def feet (p : Nat) (pv lv : Value) : List Nat := p :: (blk pv ++ blk lv)

/-- They hold zs' now; nothing else has turned. -/
def TwoT (w w' : World) (p : Nat) (pv lv lv' : Value) (zs' : List ByteArray) : Prop :=
  ∃ pv', Two w' p pv' lv' zs' ∧ Kp (feet p pv lv) w w' ∧ ∀ k, k ∈ feet p pv' lv' → k ∈ feet p pv lv ∨ w.heap.size ≤ k

theorem Two.kept {w w' : World} {S : List Nat} {p : Nat} {pv lv : Value} {zs : List ByteArray} (h : Two w p pv lv zs) (k : Kp S w w') (hn : ∀ x, x ∈ feet p pv lv → x ∉ S) : Two w' p pv lv zs := by
  obtain ⟨h1, h2, h3, h4⟩ := h
  exact ⟨h1.kept k (hn p (by simp [feet])) (fun x hx => hn x (by simp [feet, hx])), h2.keep k (fun x hx => hn x (by simp [feet, hx])), h3, h4⟩

theorem Two.lt {w : World} {p : Nat} {pv lv : Value} {zs : List ByteArray} (h : Two w p pv lv zs) : ∀ x, x ∈ feet p pv lv → x < w.heap.size := by
  obtain ⟨h1, h2, h3, h4⟩ := h
  intro x hx
  simp only [feet, List.mem_cons, List.mem_append] at hx
  rcases hx with rfl | hx | hx
  · exact (Array.getElem?_eq_some_iff.1 h1.1).1
  · exact h1.2.1.lt x hx
  · exact h2.lt x hx

theorem Two.refl {w : World} {p : Nat} {pv lv : Value} {zs : List ByteArray} (h : Two w p pv lv zs) : TwoT w w p pv lv lv zs :=
  ⟨pv, h, Kp.refl _ _, fun _ hk => Or.inl hk⟩

/-- A method of the pile, then an operation on the list. -/
theorem Two.both {w w1 w2 : World} {p : Nat} {pv lv lv' : Value} {zs zs' : List ByteArray} (h : Two w p pv lv zs) (t : TX w w1 p pv zs') (o : Own w2 9 lv' (zs'.map (Value.string))) (k : Kp (blk lv) w1 w2) (f : ∀ x, x ∈ blk lv' → x ∈ blk lv ∨ w1.heap.size ≤ x) : TwoT w w2 p pv lv lv' zs' := by
  have hlt := h.lt
  obtain ⟨h1, h2, h3, h4⟩ := h
  obtain ⟨pv', t1, t2, t3⟩ := t
  have hp : p < w.heap.size := hlt p (by simp [feet])
  have hll : ∀ x, x ∈ blk lv → x < w.heap.size := fun x hx => hlt x (by simp [feet, hx])
  have hsz := t2.size
  have hpp : p < w1.heap.size := by omega
  have hpv1 : ∀ x, x ∈ blk pv' → x ∉ blk lv := fun x hx hy => by
    rcases t3 x hx with h5 | h5
    · exact h4 x h5 hy
    · have := hll x hy
      omega
  have hlt1 : ∀ x, x ∈ blk pv' → x < w1.heap.size := t1.2.1.lt
  refine ⟨pv', ⟨?_, o, ?_, ?_⟩, ?_, ?_⟩
  · exact PX.kept t1 k h3 hpv1
  · intro hx
    rcases f p hx with h5 | h5
    · exact h3 h5
    · omega
  · intro x hx hy
    rcases f x hy with h5 | h5
    · exact hpv1 x hx h5
    · have := hlt1 x hx
      omega
  · exact (t2.mono (fun x hx => Or.inl (by simp only [List.mem_cons, feet, List.mem_append] at hx ⊢; rcases hx with h5 | h5 <;> simp [h5]))).trans k (fun x hx => Or.inl (by simp [feet, hx]))
  · intro x hx
    simp only [feet, List.mem_cons, List.mem_append] at hx ⊢
    rcases hx with rfl | hx | hx
    · simp
    · rcases t3 x hx with h5 | h5 <;> simp [h5]
    · rcases f x hx with h5 | h5
      · simp [h5]
      · right; omega

/-- What the walks want of the list: its slice written out. -/
theorem own_out {w : World} {v : Value} {zs : List ByteArray} (h : Own w 9 v (zs.map (Value.string))) : ∃ ao c, v = .slice ao zs.length c ∧ zs.length ≤ c ∧ c ≤ 9223372036854775807 ∧
    ∀ j (hj : j < zs.length), ∃ g, ao = some ⟨g, 0, none⟩ ∧ w.cell? ⟨g, j, none⟩ = some (Value.string zs[j]) ∧ w.frozen? ⟨g, j, none⟩ = false := by
  rcases h with ⟨rfl, h0⟩ | ⟨g, cap, cur, rfl, hg, h1, h2, h3, h4⟩
  · obtain rfl : zs = [] := by simpa using h0
    exact ⟨none, 0, rfl, Nat.le_refl _, by omega, fun j hj => by simp at hj⟩
  · rw [List.length_map] at h1 h4 ⊢
    exact ⟨some ⟨g, 0, none⟩, cap, rfl, h1, by unfold maxLen at h2; exact h2, fun j hj => ⟨g, rfl, by rw [cell_of hg, h4 j hj]; simp [hj], frozen_of hg j⟩⟩

set_option maxHeartbeats 20000000 in
set_option maxRecDepth 100000 in
theorem play_any (w : World) (p : Nat) (pv lv : Value) (zs : List ByteArray) (kind i n : Int) (s : ByteArray) (x : ByteArray) (h : Two w p pv lv zs) (hl : zs.length < 1000) :
    Calls Try.prog 11 #[.pointer (some ⟨p, 0, none⟩), lv, .agg #[.int .i64 kind, .int .i64 i, .int .i64 n, .string s], Value.string x] w fun e w' =>
      ∃ lv' zs', e = .returned (.tuple #[lv', .bool true]) ∧ TwoT w w' p pv lv lv' zs' ∧ zs'.length ≤ zs.length + 1 := by
  obtain ⟨W, hW⟩ : ∃ W, W = w.alloc (.cells #[.int .i64 kind, .int .i64 i, .int .i64 n, .string s] 28) := ⟨_, rfl⟩
  have hb0 : (w.alloc (.cells #[.int .i64 kind, .int .i64 i, .int .i64 n, .string s] 28)).heap[w.heap.size]? = some (.cells #[.int .i64 kind, .int .i64 i, .int .i64 n, .string s] 28 (0, 0)) := heap_new w _
  have hT0 : Two (w.alloc (.cells #[.int .i64 kind, .int .i64 i, .int .i64 n, .string s] 28)) p pv lv zs := h.kept ((Kp.refl [] w).alloc _) (fun _ _ => by simp)
  obtain ⟨ao, c, hlv, hlc, hc63, hcs0⟩ := own_out h.2.1
  clear hcs0
  subst hlv
  go_enter Try.func11, Try.ntmps11
  go_upto_region 3 with fail
  go_cut [12] (fun b wc => b = .bool (inB i zs.length) ∧ wc = w.alloc (.cells #[.int .i64 kind, .int .i64 i, .int .i64 n, .string s] 28))
  case first => as_aux_lemma =>
    by_cases h1 : 0 ≤ i
    · by_cases h2 : i < zs.length
      · have e1 : inB i zs.length = true := by simp [inB, h1, h2]
        have E1 : Hid (inB i zs.length = true) := e1
        clear e1
        go_wp2
        go_meet
        case rel => exact ⟨by rw [E1.out], rfl⟩
      · have e1 : inB i zs.length = false := by simp [inB]; omega
        have E1 : Hid (inB i zs.length = false) := e1
        have d1 : decide (i < (zs.length : Int)) = false := by simp; omega
        clear e1
        go_wp2
        go_meet
        case rel => exact ⟨by rw [E1.out], rfl⟩
    · have e1 : inB i zs.length = false := by simp [inB]; omega
      have E1 : Hid (inB i zs.length = false) := e1
      clear e1
      go_wp2
      go_meet
      case rel => exact ⟨by rw [E1.out], rfl⟩
  case rest =>
    obtain ⟨rfl, rfl⟩ := hcut
    have hbx : w.heap.size ∉ feet p pv (.slice ao zs.length c) := fun hx => by have := h.lt _ hx; omega
    have hK0 : Kp [] w (w.alloc (.cells #[.int .i64 kind, .int .i64 i, .int .i64 n, .string s] 28)) := (Kp.refl [] w).alloc _
    have hbs : w.heap.size < (w.alloc (.cells #[.int .i64 kind, .int .i64 i, .int .i64 n, .string s] 28)).heap.size := by simp
    clear hW W h
    go_upto_block 0 with fail
    generalize w.alloc (.cells #[.int .i64 kind, .int .i64 i, .int .i64 n, .string s] 28) = W at hb0 hT0 hK0 hbs ⊢
    have HK : Hid (Kp [] w W) := hK0
    clear hK0
    generalize w.heap.size = bx at hb0 hbx hbs ⊢
    have hk0 : W.cell? ⟨bx, 0, none⟩ = some (.int .i64 kind) := by rw [cell_of hb0]; rfl
    have hk1 : W.cell? ⟨bx, 1, none⟩ = some (.int .i64 i) := by rw [cell_of hb0]; rfl
    go_cut [1, 11, 12] (fun l' _ _ wc => ∃ zs', TwoT W wc p pv (.slice ao zs.length c) l' zs' ∧ zs'.length ≤ zs.length + 1)
    case first =>
      have hlp : ∀ y, y ∈ blk (.slice ao zs.length c) → y ∉ p :: blk pv := fun y hy hx => by
        rcases List.mem_cons.1 hx with h1 | h1
        · exact hT0.2.2.1 (h1 ▸ hy)
        · exact hT0.2.2.2 y h1 hy
      have HLP : Hid (∀ y, y ∈ blk (.slice ao zs.length c) → y ∉ p :: blk pv) := hlp
      clear hlp
      by_cases k1 : kind = 1
      · as_aux_lemma =>
        subst k1
        have HP := push_any _ _ _ _ x hT0.1 (by omega)
        go_wp2_with fail
        refine HP.mono ?_
        rintro e w2 ⟨rfl, t2⟩
        have o2 : Own w2 9 (.slice ao zs.length c) (zs.map (Value.string)) := by
          obtain ⟨pv', _, kk, _⟩ := t2
          exact hT0.2.1.keep kk HLP.out
        have o3 : Own (w2.alloc (.cells #[Value.string x] 9)) 9 (.slice ao zs.length c) (zs.map (Value.string)) := o2.keep ((Kp.refl [] w2).alloc _) (fun _ _ => by simp)
        have hsrc : Src Try.prog 1 33 (.slice (some ⟨w2.heap.size, 0, none⟩) 1 1) 1 [Value.string x] (w2.alloc (.cells #[Value.string x] 9)) :=
          Src.ofSlice _ Try.underlying33 ⟨w2.heap.size, 0, none⟩ 1 1 [Value.string x] rfl (fun j u hj => by
            match j, hj with
            | 0, hj => simp at hj; subst hj; simp [Addr.add]) (fun u hu => by simp at hu; subst hu; rfl)
        obtain ⟨v', w3, hrun, o4, k4, f4, a4, c4, hv4⟩ := app_any Try.underlying33 info rfl (by decide) _ _ _ o3 _ 1 _ hsrc (fun _ => by omega) (by simp; omega)
        have hfin : TwoT W w3 p pv (.slice ao zs.length c) v' (zs ++ [x]) := by
          refine hT0.both t2 (by simpa using o4) (((Kp.refl _ _).alloc _).trans k4 (fun y hy => Or.inl hy)) (fun y hy => ?_)
          rcases f4 y hy with h5 | h5
          · exact Or.inl h5
          · right; rw [h5]; simp
        have HF : Hid (TwoT W w3 p pv (.slice ao zs.length c) v' (zs ++ [x])) := hfin
        rw [List.length_map] at hv4
        subst hv4
        clear hfin hsrc o2 o3 o4 k4 f4 HP t2 hT0
        go_wp2_with (at_builtin; refine Lib.wpList_append_run _ rfl _ _ _ _ rfl _ _ rfl rfl _ _ (hrun _) ?_)
        go_meet
        case rel => exact ⟨zs ++ [x], HF.out, by simp⟩
      · have n1 : (kind == 1) = false := by simp [k1]
        by_cases k2 : kind = 2
        · subst k2
          clear n1 k1
          by_cases h0 : zs.length = 0
          · as_aux_lemma =>
            obtain rfl : zs = [] := List.eq_nil_of_length_eq_zero h0
            have HP := pop_out _ _ _ hT0.1
            have HF : Hid (TwoT W W p pv (.slice ao ([] : List ByteArray).length c) (.slice ao ([] : List ByteArray).length c) []) := hT0.refl
            simp only [List.length_nil] at HF hk0 hk1 hbs hlc ⊢
            clear hT0 HLP h0
            go_wp2_with fail
            refine HP.mono ?_
            rintro e w2 ⟨rfl, rfl⟩
            clear HP
            go_wp2
            go_meet
            case rel => exact ⟨[], HF.out, by simp⟩
          · as_aux_lemma =>
            obtain ⟨m, hm⟩ : ∃ m, zs.length = m + 1 := ⟨zs.length - 1, by omega⟩
            obtain ⟨ao', c', hu1, hz1, hz2, hcs⟩ := own_out hT0.2.1
            simp only [Value.slice.injEq] at hu1
            obtain ⟨rfl, hz3, rfl⟩ := hu1
            obtain ⟨g, rfl, hz4, hz5⟩ := hcs m (by omega)
            clear hz1 hz2 hz3 hz4 hz5
            obtain ⟨y, hy⟩ : ∃ y, y = zs[m]'(by omega) := ⟨_, rfl⟩
            have HP := pop_in _ _ _ _ hT0.1 (by omega) y (by rw [hm, Nat.add_sub_cancel, List.getElem?_eq_getElem (by omega), hy])
            rw [hm, Nat.add_sub_cancel] at HP
            have hmb : m < 2000 := by omega
            have hmc : m ≤ c := by omega
            have HM : Hid (zs.length = m + 1) := hm
            have HL3 : Hid ((zs.take m).length ≤ zs.length + 1) := by show _ ≤ _; simp; omega
            have HN : Hid (∀ w2, TX W w2 p pv (zs.take m) → w2.cell? ⟨g, m, none⟩ = some (Value.string y) ∧ TwoT W w2 p pv (.slice (some ⟨g, 0, none⟩) zs.length c) (.slice (some ⟨g, 0, none⟩) m c) (zs.take m)) := by
              intro w2 t2
              have o2 : Own w2 9 (.slice (some ⟨g, 0, none⟩) zs.length c) (zs.map (Value.string)) := by
                obtain ⟨pv', _, kk, _⟩ := t2
                exact hT0.2.1.keep kk HLP.out
              refine ⟨?_, hT0.both t2 (by rw [List.map_take]; exact o2.cut m (by simp; omega)) (Kp.refl _ _) (fun z hz => Or.inl hz)⟩
              rw [(o2.get m (by simp; omega)).1, hy]
              simp
            rw [hm] at hlc HN HLP hbx ⊢
            clear hT0 HLP h0 hy hm hcs
            go_wp2_with fail
            refine HP.mono ?_
            rintro e w2 ⟨rfl, t2⟩
            obtain ⟨hcm, hTT⟩ := HN.out w2 t2
            have HTT : Hid (TwoT W w2 p pv (.slice (some ⟨g, 0, none⟩) (m + 1) c) (.slice (some ⟨g, 0, none⟩) m c) (zs.take m)) := hTT
            clear HP HN t2 hTT
            go_wp2
            go_meet
            case rel => exact ⟨zs.take m, HTT.out, HL3.out⟩
        · have n2 : (kind == 2) = false := by simp [k2]
          by_cases k3 : kind = 3
          · subst k3
            clear n1 k1 n2 k2
            by_cases hin : 0 ≤ i ∧ i < zs.length
            · as_aux_lemma =>
              obtain ⟨hi0, hi1⟩ := hin
              have e1 : inB i zs.length = true := by simp [inB, hi0, hi1]
              obtain ⟨ao', c', hu1, hz1, hz2, hcs⟩ := own_out hT0.2.1
              simp only [Value.slice.injEq] at hu1
              obtain ⟨rfl, hz3, rfl⟩ := hu1
              obtain ⟨g, rfl, hz4, hz5⟩ := hcs i.toNat (by omega)
              clear hz1 hz2 hz3 hz4 hz5
              have HP := set_in _ _ _ _ i x hT0.1 hi0 hi1
              have HN : Hid (∀ w2, TX W w2 p pv (zs.set i.toNat x) → w2.cell? ⟨bx, 1, none⟩ = some (.int .i64 i) ∧ (∃ u, w2.cell? ⟨g, i.toNat, none⟩ = some u) ∧ w2.frozen? ⟨g, i.toNat, none⟩ = false ∧ TwoT W (w2.setCell ⟨g, i.toNat, none⟩ (Value.string x)) p pv (.slice (some ⟨g, 0, none⟩) zs.length c) (.slice (some ⟨g, 0, none⟩) zs.length c) (zs.set i.toNat x)) := by
                intro w2 t2
                have hb2 : w2.cell? ⟨bx, 1, none⟩ = some (.int .i64 i) := by
                  obtain ⟨pv', _, kk, _⟩ := t2
                  rw [kk.cell (a := ⟨bx, 1, none⟩) hbs (fun hx => hbx (by simp only [feet, List.mem_cons, List.mem_append] at hx ⊢; rcases hx with h5 | h5 <;> simp [h5]))]
                  exact hk1
                have o2 : Own w2 9 (.slice (some ⟨g, 0, none⟩) zs.length c) (zs.map (Value.string)) := by
                  obtain ⟨pv', _, kk, _⟩ := t2
                  exact hT0.2.1.keep kk HLP.out
                obtain ⟨hc2, hf2⟩ := o2.get i.toNat (by simp; omega)
                exact ⟨hb2, ⟨_, hc2⟩, hf2, hT0.both t2 (by rw [List.map_set]; exact o2.stored _ _) ((Kp.refl _ _).setCell (Or.inl (by simp [blk])) _) (fun z hz => Or.inl hz)⟩
              have HL3 : Hid ((zs.set i.toNat x).length ≤ zs.length + 1) := by show _ ≤ _; simp
              clear hT0 HLP hcs
              go_wp2_with fail
              refine HP.mono ?_
              rintro e w2 ⟨rfl, t2⟩
              obtain ⟨hb2, ⟨u, hc2⟩, hf2, hTT⟩ := HN.out w2 t2
              have HTT : Hid (TwoT W (w2.setCell ⟨g, i.toNat, none⟩ (Value.string x)) p pv (.slice (some ⟨g, 0, none⟩) zs.length c) (.slice (some ⟨g, 0, none⟩) zs.length c) (zs.set i.toNat x)) := hTT
              clear HP HN t2 hTT
              go_wp2
              go_meet
              case rel => exact ⟨zs.set i.toNat x, HTT.out, HL3.out⟩
            · as_aux_lemma =>
              have e1 : inB i zs.length = false := by simp only [inB]; exact decide_eq_false hin
              have HP := set_out _ _ _ _ i x hT0.1 (by omega)
              have HF : Hid (TwoT W W p pv (.slice ao zs.length c) (.slice ao zs.length c) zs) := hT0.refl
              clear hT0 HLP hin
              go_wp2_with fail
              refine HP.mono ?_
              rintro e w2 ⟨rfl, rfl⟩
              clear HP
              go_wp2
              go_meet
              case rel => exact ⟨zs, HF.out, by omega⟩
          · have n3 : (kind == 3) = false := by simp [k3]
            by_cases k4 : kind = 4
            · subst k4
              clear n1 k1 n2 k2 n3 k3
              by_cases hin : 0 ≤ i ∧ i ≤ zs.length
              · obtain ⟨hi0, hi1⟩ := hin
                obtain ⟨j, rfl⟩ := Int.eq_ofNat_of_zero_le hi0
                have HP := put_in _ _ _ _ (j : Int) x hT0.1 hi0 hi1 (by omega)
                rw [Int.toNat_natCast] at HP
                have HN : Hid (∀ w2, TX W w2 p pv (zs.take j ++ x :: zs.drop j) → w2.cell? ⟨bx, 1, none⟩ = some (.int .i64 (j : Nat)) ∧ Own w2 9 (.slice ao zs.length c) (zs.map (Value.string))) := by
                  intro w2 t2
                  obtain ⟨pv', _, kk, _⟩ := t2
                  refine ⟨?_, hT0.2.1.keep kk HLP.out⟩
                  rw [kk.cell (a := ⟨bx, 1, none⟩) hbs (fun hx => hbx (by simp only [feet, List.mem_cons, List.mem_append] at hx ⊢; rcases hx with h5 | h5 <;> simp [h5]))]
                  exact hk1
                have HB : Hid (∀ w2 w3 v3, TX W w2 p pv (zs.take j ++ x :: zs.drop j) → Own w3 9 v3 ((zs.take j ++ x :: zs.drop j).map (Value.string)) → Kp [] w2 w3 → (∀ y, y ∈ blk v3 → w2.heap.size ≤ y) → TwoT W w3 p pv (.slice ao zs.length c) v3 (zs.take j ++ x :: zs.drop j)) :=
                  fun w2 w3 v3 t2 o3 k3 f3 => hT0.both t2 o3 (k3.mono (fun y hy => by simp at hy)) (fun y hy => Or.inr (f3 y hy))
                have HL3 : Hid ((zs.take j ++ x :: zs.drop j).length ≤ zs.length + 1) := by show _ ≤ _; simp; omega
                have hjn : j ≤ zs.length := by omega
                have own0 := hT0.2.1
                clear hT0 HLP hb0 hbx
                by_cases hnil : ao = none
                · subst hnil
                  rcases own0 with ⟨h5, h6⟩ | ⟨g, cap, cur, h5, _⟩
                  · simp only [Value.slice.injEq] at h5
                    obtain ⟨_, h7, rfl⟩ := h5
                    obtain rfl : zs = [] := List.eq_nil_of_length_eq_zero h7
                    obtain rfl : j = 0 := by simpa using hjn
                    simp only [List.length_nil, Int.natCast_zero] at HP HN HB hk1 ⊢
                    clear h6 h7 hi0 hi1 hjn
                    as_aux_lemma =>
                    go_wp2_with fail
                    refine HP.mono ?_
                    rintro e w2 ⟨rfl, t2⟩
                    obtain ⟨hb2, o2⟩ := HN.out w2 t2
                    have HT2 : Hid (TX W w2 p pv (([] : List ByteArray).take 0 ++ x :: ([] : List ByteArray).drop 0)) := t2
                    have HC : Hid (∀ w', Kp [] w2 w' → w'.cell? ⟨bx, 1, none⟩ = some (.int .i64 0)) := fun w' k => by rw [k.cell (a := ⟨bx, 1, none⟩) (block_lt_of_cell hb2) (by simp)]; exact hb2
                    have HS1 : Hid (∀ w', Kp [] w2 w' → Src Try.prog 1 33 (.slice none 0 0) 0 ((([] : List ByteArray).take 0).map (Value.string)) w') := fun w' k => Src.ofNil w' Try.underlying33 0
                    have HS3 : Hid (∀ w', Kp [] w2 w' → Src Try.prog 1 33 (.slice none 0 0) 0 ((([] : List ByteArray).drop 0).map (Value.string)) w') := fun w' k => by
                      exact Src.ofNil w' Try.underlying33 0
                    have HW : Hid (∀ w3 v3, Own w3 9 v3 ((([] : List Value) ++ ((([] : List ByteArray).take 0).map (Value.string)) ++ [Value.string x]) ++ ((([] : List ByteArray).drop 0).map (Value.string))) → Kp [] w2 w3 → (∀ y, y ∈ blk v3 → w2.heap.size ≤ y) → TwoT W w3 p pv (.slice none 0 0) v3 (([] : List ByteArray).take 0 ++ x :: ([] : List ByteArray).drop 0)) := fun w3 v3 o3 k3 f3 =>
                      HB.out w2 w3 v3 HT2.out (by simpa using o3) k3 f3
                    have HLa : Hid ((([] : List Value)).length + 0 ≤ 1000000) := by show _ ≤ _; simp; try omega
                    have HLb : Hid ((([] : List Value) ++ ((([] : List ByteArray).take 0).map (Value.string))).length + 1 ≤ 1000000) := by show _ ≤ _; simp; try omega
                    have HLc : Hid ((([] : List Value) ++ ((([] : List ByteArray).take 0).map (Value.string)) ++ [Value.string x]).length + 0 ≤ 1000000) := by show _ ≤ _; simp; try omega
                    clear HP HN t2 o2 HB HT2
                    go_wp2_with fail
                    go_region_held3 (fun w' => w'.cell? ⟨bx, 1, none⟩ = some (.int .i64 0) ∧ Kp [] w2 w')
                      (first
                        | exact ⟨HC.out _ (Kp.refl [] w2).drew, (Kp.refl [] w2).drew⟩
                        | (go_split_ands; exact ⟨HC.out _ (Kp.alloc (by assumption) _), Kp.alloc (by assumption) _⟩)
                        | exact ⟨HC.out _ S3.out, S3.out⟩
                        | exact ⟨HC.out _ S2.out, S2.out⟩
                        | exact ⟨HC.out _ S1.out, S1.out⟩)
                      (first
                        | (refine step_app (by rfl) _ _ _ (by rfl) Try.underlying33 info rfl (by decide) _ _ (by rfl) (by rfl) [] (own_empty (by first | exact heap_new' _ _ _ (by simp) | exact (Below.heap_alloc _ _ _ (by simp)).trans (heap_new' _ _ _ (by simp)))) 0 ((([] : List ByteArray).take 0).map (Value.string)) (HS1.out _ (by go_split_ands; assumption)) (fun h => by cases h) HLa.out ?_; intro v1 w1 o1 k1 f1 h1; have B1 : Hid (∀ y, y ∈ blk v1 → w2.heap.size ≤ y) := (fun y hy => by have h5 := f1 y hy; simp [blk] at h5; omega); have S1 : Hid (Kp [] w2 w1) := (by go_split_ands; exact Kp.trans (by assumption) k1 (fun y hy => Or.inr (by simp [blk] at hy; omega))))
                        | (refine step_app (by rfl) _ _ _ (by rfl) Try.underlying33 info rfl (by decide) _ _ (by rfl) (by rfl) (([] : List Value) ++ ((([] : List ByteArray).take 0).map (Value.string))) (by first | exact o1 | exact o1.keep ((Kp.refl [] _).alloc _) (fun _ _ => by simp)) 1 [Value.string x] (src_one Try.underlying33 (by first | exact heap_new' _ _ _ (by simp) | exact (k1.block _ (by simp) (by simp [blk])).trans (heap_new' _ _ _ (by simp)) | exact (k1.block _ (by simp; omega) (by simp [blk])).trans ((Below.heap_alloc _ _ _ (by simp)).trans (heap_new' _ _ _ (by simp)))) rfl) (fun _ => by omega) HLb.out ?_; intro v2 w3 o3 k3 f3 h3; have B2 : Hid (∀ y, y ∈ blk v2 → w2.heap.size ≤ y) := (fun y hy => by rcases f3 y hy with h5 | h5 <;> first | exact B1.out y h5 | (have h6 := S1.out.size; (try simp at h5); omega)); have S2 : Hid (Kp [] w2 w3) := (by go_split_ands; exact Kp.trans (by assumption) k3 (fun y hy => Or.inr (B1.out y hy))))
                        | (refine step_app (by rfl) _ _ _ (by rfl) Try.underlying33 info rfl (by decide) _ _ (by rfl) (by rfl) (([] : List Value) ++ ((([] : List ByteArray).take 0).map (Value.string)) ++ [Value.string x]) (by exact o3) 0 ((([] : List ByteArray).drop 0).map (Value.string)) (HS3.out _ S2.out) (fun h => by obtain ⟨a5, c5, h5⟩ := h3; rw [h5] at h; cases h) HLc.out ?_; intro v3 w4 o4 k4 f4 h4; have B3 : Hid (∀ y, y ∈ blk v3 → w2.heap.size ≤ y) := (fun y hy => by rcases f4 y hy with h5 | h5 <;> first | exact B2.out y h5 | (have h6 := S2.out.size; omega)); have S3 : Hid (Kp [] w2 w4) := (S2.out.trans k4 (fun y hy => Or.inr (B2.out y hy)))))
                    all_goals
                      go_wp2
                      go_meet
                      case rel => exact ⟨_, HW.out _ _ o4 S3.out B3.out, HL3.out⟩
                  · simp only [Value.slice.injEq] at h5
                    exact absurd h5.1 (by simp)
                · obtain ⟨g, hao⟩ : ∃ g, ao = some ⟨g, 0, none⟩ := by
                    rcases own0 with ⟨h5, _⟩ | ⟨g, cap, cur, h5, _⟩
                    · simp only [Value.slice.injEq] at h5
                      exact absurd h5.1 hnil
                    · simp only [Value.slice.injEq] at h5
                      exact ⟨g, h5.1⟩
                  subst hao
                  clear hnil own0
                  have hjc : (j : Int) ≤ (c : Int) := by omega
                  by_cases hcj : c = j
                  · subst hcj
                    as_aux_lemma =>
                    go_wp2_with fail
                    refine HP.mono ?_
                    rintro e w2 ⟨rfl, t2⟩
                    obtain ⟨hb2, o2⟩ := HN.out w2 t2
                    have HT2 : Hid (TX W w2 p pv (zs.take c ++ x :: zs.drop c)) := t2
                    have HC : Hid (∀ w', Kp [] w2 w' → w'.cell? ⟨bx, 1, none⟩ = some (.int .i64 (c : Nat))) := fun w' k => by rw [k.cell (a := ⟨bx, 1, none⟩) (block_lt_of_cell hb2) (by simp)]; exact hb2
                    have HS1 : Hid (∀ w', Kp [] w2 w' → Src Try.prog 1 33 (.slice (some ⟨g, 0, none⟩) c c) c ((zs.take c).map (Value.string)) w') := fun w' k => by
                      have h5 := (o2.cut c (by simp; omega)).rd.kept k
                      rw [← List.map_take] at h5
                      exact h5.src Try.underlying33 (one _)
                    have HS3 : Hid (∀ w', Kp [] w2 w' → Src Try.prog 1 33 (.slice (some ⟨g, 0, none⟩) 0 0) 0 ((zs.drop c).map (Value.string)) w') := fun w' k => by
                      have h7 : zs.drop c = [] := List.drop_eq_nil_of_le hlc
                      rw [h7]
                      have h6 : Rd w' (.slice (some ⟨g, 0, none⟩) 0 0) (([] : List ByteArray).map (Value.string)) := ⟨some ⟨g, 0, none⟩, 0, rfl, fun t ht => by simp at ht⟩
                      exact h6.src Try.underlying33 (one _)
                    have HW : Hid (∀ w3 v3, Own w3 9 v3 ((([] : List Value) ++ ((zs.take c).map (Value.string)) ++ [Value.string x]) ++ ((zs.drop c).map (Value.string))) → Kp [] w2 w3 → (∀ y, y ∈ blk v3 → w2.heap.size ≤ y) → TwoT W w3 p pv (.slice (some ⟨g, 0, none⟩) zs.length c) v3 (zs.take c ++ x :: zs.drop c)) := fun w3 v3 o3 k3 f3 =>
                      HB.out w2 w3 v3 HT2.out (by simpa using o3) k3 f3
                    have HLa : Hid ((([] : List Value)).length + c ≤ 1000000) := by show _ ≤ _; simp; try omega
                    have HLb : Hid ((([] : List Value) ++ ((zs.take c).map (Value.string))).length + 1 ≤ 1000000) := by show _ ≤ _; simp; try omega
                    have HLc : Hid ((([] : List Value) ++ ((zs.take c).map (Value.string)) ++ [Value.string x]).length + 0 ≤ 1000000) := by show _ ≤ _; simp; try omega
                    clear HP HN t2 o2 HB HT2
                    go_wp2_with fail
                    go_region_held3 (fun w' => w'.cell? ⟨bx, 1, none⟩ = some (.int .i64 (c : Nat)) ∧ Kp [] w2 w')
                      (first
                        | exact ⟨HC.out _ (Kp.refl [] w2).drew, (Kp.refl [] w2).drew⟩
                        | (go_split_ands; exact ⟨HC.out _ (Kp.alloc (by assumption) _), Kp.alloc (by assumption) _⟩)
                        | exact ⟨HC.out _ S3.out, S3.out⟩
                        | exact ⟨HC.out _ S2.out, S2.out⟩
                        | exact ⟨HC.out _ S1.out, S1.out⟩)
                      (first
                        | (refine step_app (by rfl) _ _ _ (by rfl) Try.underlying33 info rfl (by decide) _ _ (by rfl) (by rfl) [] (own_empty (by first | exact heap_new' _ _ _ (by simp) | exact (Below.heap_alloc _ _ _ (by simp)).trans (heap_new' _ _ _ (by simp)))) c ((zs.take c).map (Value.string)) (HS1.out _ (by go_split_ands; assumption)) (fun h => by cases h) HLa.out ?_; intro v1 w1 o1 k1 f1 h1; have B1 : Hid (∀ y, y ∈ blk v1 → w2.heap.size ≤ y) := (fun y hy => by have h5 := f1 y hy; simp [blk] at h5; omega); have S1 : Hid (Kp [] w2 w1) := (by go_split_ands; exact Kp.trans (by assumption) k1 (fun y hy => Or.inr (by simp [blk] at hy; omega))))
                        | (refine step_app (by rfl) _ _ _ (by rfl) Try.underlying33 info rfl (by decide) _ _ (by rfl) (by rfl) (([] : List Value) ++ ((zs.take c).map (Value.string))) (by first | exact o1 | exact o1.keep ((Kp.refl [] _).alloc _) (fun _ _ => by simp)) 1 [Value.string x] (src_one Try.underlying33 (by first | exact heap_new' _ _ _ (by simp) | exact (k1.block _ (by simp) (by simp [blk])).trans (heap_new' _ _ _ (by simp)) | exact (k1.block _ (by simp; omega) (by simp [blk])).trans ((Below.heap_alloc _ _ _ (by simp)).trans (heap_new' _ _ _ (by simp)))) rfl) (fun _ => by omega) HLb.out ?_; intro v2 w3 o3 k3 f3 h3; have B2 : Hid (∀ y, y ∈ blk v2 → w2.heap.size ≤ y) := (fun y hy => by rcases f3 y hy with h5 | h5 <;> first | exact B1.out y h5 | (have h6 := S1.out.size; (try simp at h5); omega)); have S2 : Hid (Kp [] w2 w3) := (by go_split_ands; exact Kp.trans (by assumption) k3 (fun y hy => Or.inr (B1.out y hy))))
                        | (refine step_app (by rfl) _ _ _ (by rfl) Try.underlying33 info rfl (by decide) _ _ (by rfl) (by rfl) (([] : List Value) ++ ((zs.take c).map (Value.string)) ++ [Value.string x]) (by exact o3) 0 ((zs.drop c).map (Value.string)) (HS3.out _ S2.out) (fun h => by obtain ⟨a5, c5, h5⟩ := h3; rw [h5] at h; cases h) HLc.out ?_; intro v3 w4 o4 k4 f4 h4; have B3 : Hid (∀ y, y ∈ blk v3 → w2.heap.size ≤ y) := (fun y hy => by rcases f4 y hy with h5 | h5 <;> first | exact B2.out y h5 | (have h6 := S2.out.size; omega)); have S3 : Hid (Kp [] w2 w4) := (S2.out.trans k4 (fun y hy => Or.inr (B2.out y hy)))))
                    all_goals
                      go_wp2
                      go_meet
                      case rel => exact ⟨_, HW.out _ _ o4 S3.out B3.out, HL3.out⟩
                  · as_aux_lemma =>
                    go_wp2_with fail
                    refine HP.mono ?_
                    rintro e w2 ⟨rfl, t2⟩
                    obtain ⟨hb2, o2⟩ := HN.out w2 t2
                    have HT2 : Hid (TX W w2 p pv (zs.take j ++ x :: zs.drop j)) := t2
                    have HC : Hid (∀ w', Kp [] w2 w' → w'.cell? ⟨bx, 1, none⟩ = some (.int .i64 (j : Nat))) := fun w' k => by rw [k.cell (a := ⟨bx, 1, none⟩) (block_lt_of_cell hb2) (by simp)]; exact hb2
                    have HS1 : Hid (∀ w', Kp [] w2 w' → Src Try.prog 1 33 (.slice (some ⟨g, 0, none⟩) j c) j ((zs.take j).map (Value.string)) w') := fun w' k => by
                      have h5 := (o2.cut j (by simp; omega)).rd.kept k
                      rw [← List.map_take] at h5
                      exact h5.src Try.underlying33 (one _)
                    have HS3 : Hid (∀ w', Kp [] w2 w' → Src Try.prog 1 33 (.slice (some ⟨g, j, none⟩) (zs.length - j) (c - j)) (zs.length - j) ((zs.drop j).map (Value.string)) w') := fun w' k => by
                      have h6 : Rd w' (.slice (some ⟨g, j, none⟩) (zs.length - j) (c - j)) ((zs.drop j).map (Value.string)) := by
                        refine ⟨some ⟨g, j, none⟩, c - j, by simp, fun t ht => ⟨g, j, rfl, ?_⟩⟩
                        rw [List.length_map, List.length_drop] at ht
                        obtain ⟨h5, _⟩ := o2.get (j + t) (by simp; omega)
                        rw [k.cell (a := ⟨g, j + t, none⟩) (block_lt_of_cell h5) (by simp), h5]
                        simp [show j + t < zs.length by omega]
                      exact h6.src Try.underlying33 (one _)
                    have HW : Hid (∀ w3 v3, Own w3 9 v3 ((([] : List Value) ++ ((zs.take j).map (Value.string)) ++ [Value.string x]) ++ ((zs.drop j).map (Value.string))) → Kp [] w2 w3 → (∀ y, y ∈ blk v3 → w2.heap.size ≤ y) → TwoT W w3 p pv (.slice (some ⟨g, 0, none⟩) zs.length c) v3 (zs.take j ++ x :: zs.drop j)) := fun w3 v3 o3 k3 f3 =>
                      HB.out w2 w3 v3 HT2.out (by simpa using o3) k3 f3
                    have HLa : Hid ((([] : List Value)).length + j ≤ 1000000) := by show _ ≤ _; simp; try omega
                    have HLb : Hid ((([] : List Value) ++ ((zs.take j).map (Value.string))).length + 1 ≤ 1000000) := by show _ ≤ _; simp; try omega
                    have HLc : Hid ((([] : List Value) ++ ((zs.take j).map (Value.string)) ++ [Value.string x]).length + (zs.length - j) ≤ 1000000) := by show _ ≤ _; simp; try omega
                    clear HP HN t2 o2 HB HT2
                    go_wp2_with fail
                    go_region_held3 (fun w' => w'.cell? ⟨bx, 1, none⟩ = some (.int .i64 (j : Nat)) ∧ Kp [] w2 w')
                      (first
                        | exact ⟨HC.out _ (Kp.refl [] w2).drew, (Kp.refl [] w2).drew⟩
                        | (go_split_ands; exact ⟨HC.out _ (Kp.alloc (by assumption) _), Kp.alloc (by assumption) _⟩)
                        | exact ⟨HC.out _ S3.out, S3.out⟩
                        | exact ⟨HC.out _ S2.out, S2.out⟩
                        | exact ⟨HC.out _ S1.out, S1.out⟩)
                      (first
                        | (refine step_app (by rfl) _ _ _ (by rfl) Try.underlying33 info rfl (by decide) _ _ (by rfl) (by rfl) [] (own_empty (by first | exact heap_new' _ _ _ (by simp) | exact (Below.heap_alloc _ _ _ (by simp)).trans (heap_new' _ _ _ (by simp)))) j ((zs.take j).map (Value.string)) (HS1.out _ (by go_split_ands; assumption)) (fun h => by cases h) HLa.out ?_; intro v1 w1 o1 k1 f1 h1; have B1 : Hid (∀ y, y ∈ blk v1 → w2.heap.size ≤ y) := (fun y hy => by have h5 := f1 y hy; simp [blk] at h5; omega); have S1 : Hid (Kp [] w2 w1) := (by go_split_ands; exact Kp.trans (by assumption) k1 (fun y hy => Or.inr (by simp [blk] at hy; omega))))
                        | (refine step_app (by rfl) _ _ _ (by rfl) Try.underlying33 info rfl (by decide) _ _ (by rfl) (by rfl) (([] : List Value) ++ ((zs.take j).map (Value.string))) (by first | exact o1 | exact o1.keep ((Kp.refl [] _).alloc _) (fun _ _ => by simp)) 1 [Value.string x] (src_one Try.underlying33 (by first | exact heap_new' _ _ _ (by simp) | exact (k1.block _ (by simp) (by simp [blk])).trans (heap_new' _ _ _ (by simp)) | exact (k1.block _ (by simp; omega) (by simp [blk])).trans ((Below.heap_alloc _ _ _ (by simp)).trans (heap_new' _ _ _ (by simp)))) rfl) (fun _ => by omega) HLb.out ?_; intro v2 w3 o3 k3 f3 h3; have B2 : Hid (∀ y, y ∈ blk v2 → w2.heap.size ≤ y) := (fun y hy => by rcases f3 y hy with h5 | h5 <;> first | exact B1.out y h5 | (have h6 := S1.out.size; (try simp at h5); omega)); have S2 : Hid (Kp [] w2 w3) := (by go_split_ands; exact Kp.trans (by assumption) k3 (fun y hy => Or.inr (B1.out y hy))))
                        | (refine step_app (by rfl) _ _ _ (by rfl) Try.underlying33 info rfl (by decide) _ _ (by rfl) (by rfl) (([] : List Value) ++ ((zs.take j).map (Value.string)) ++ [Value.string x]) (by exact o3) (zs.length - j) ((zs.drop j).map (Value.string)) (HS3.out _ S2.out) (fun h => by obtain ⟨a5, c5, h5⟩ := h3; rw [h5] at h; cases h) HLc.out ?_; intro v3 w4 o4 k4 f4 h4; have B3 : Hid (∀ y, y ∈ blk v3 → w2.heap.size ≤ y) := (fun y hy => by rcases f4 y hy with h5 | h5 <;> first | exact B2.out y h5 | (have h6 := S2.out.size; omega)); have S3 : Hid (Kp [] w2 w4) := (S2.out.trans k4 (fun y hy => Or.inr (B2.out y hy)))))
                    all_goals
                      go_wp2
                      go_meet
                      case rel => exact ⟨_, HW.out _ _ o4 S3.out B3.out, HL3.out⟩
              · as_aux_lemma =>
                have HP := put_out _ _ _ _ i x hT0.1 (by omega)
                have HF : Hid (TwoT W W p pv (.slice ao zs.length c) (.slice ao zs.length c) zs) := hT0.refl
                clear hT0 HLP
                by_cases hi : i < 0
                all_goals
                  try have hd : decide (i ≤ (zs.length : Int)) = false := decide_eq_false (by omega)
                  go_wp2_with fail
                  refine HP.mono ?_
                  rintro e w2 ⟨rfl, rfl⟩
                  clear HP
                  go_wp2
                  go_meet
                  case rel => exact ⟨zs, HF.out, by omega⟩
            · have n4 : (kind == 4) = false := by simp [k4]
              by_cases k5 : kind = 5
              · subst k5
                clear n1 k1 n2 k2 n3 k3 n4 k4
                by_cases hin : 0 ≤ i ∧ i < zs.length
                · obtain ⟨hi0, hi1⟩ := hin
                  have e1 : inB i zs.length = true := by simp [inB, hi0, hi1]
                  obtain ⟨j, rfl⟩ := Int.eq_ofNat_of_zero_le hi0
                  have hjn : j < zs.length := by omega
                  obtain ⟨y, hy⟩ : ∃ y, y = zs[j] := ⟨_, rfl⟩
                  have HY : Hid (y = zs[j]) := hy
                  have HP := cut_in _ _ _ _ (j : Int) hT0.1 hi0 hi1 (by omega) y (by rw [Int.toNat_natCast, List.getElem?_eq_getElem hjn, hy])
                  rw [Int.toNat_natCast] at HP
                  have HN : Hid (∀ w2, TX W w2 p pv (zs.take j ++ zs.drop (j + 1)) → w2.cell? ⟨bx, 1, none⟩ = some (.int .i64 (j : Nat)) ∧ Own w2 9 (.slice ao zs.length c) (zs.map (Value.string))) := by
                    intro w2 t2
                    obtain ⟨pv', _, kk, _⟩ := t2
                    refine ⟨?_, hT0.2.1.keep kk HLP.out⟩
                    rw [kk.cell (a := ⟨bx, 1, none⟩) hbs (fun hx => hbx (by simp only [feet, List.mem_cons, List.mem_append] at hx ⊢; rcases hx with h5 | h5 <;> simp [h5]))]
                    exact hk1
                  have HB : Hid (∀ w2 w3 v3, TX W w2 p pv (zs.take j ++ zs.drop (j + 1)) → Own w3 9 v3 ((zs.take j ++ zs.drop (j + 1)).map (Value.string)) → Kp [] w2 w3 → (∀ y, y ∈ blk v3 → w2.heap.size ≤ y) → TwoT W w3 p pv (.slice ao zs.length c) v3 (zs.take j ++ zs.drop (j + 1))) :=
                    fun w2 w3 v3 t2 o3 k3 f3 => hT0.both t2 o3 (k3.mono (fun y hy => by simp at hy)) (fun y hy => Or.inr (f3 y hy))
                  have HL3 : Hid ((zs.take j ++ zs.drop (j + 1)).length ≤ zs.length + 1) := by show _ ≤ _; simp; omega
                  obtain ⟨g, hao⟩ : ∃ g, ao = some ⟨g, 0, none⟩ := by
                    rcases hT0.2.1 with ⟨h5, _⟩ | ⟨g, cap, cur, h5, _⟩
                    · simp only [Value.slice.injEq] at h5
                      exact absurd h5.2.1 (by omega)
                    · simp only [Value.slice.injEq] at h5
                      exact ⟨g, h5.1⟩
                  subst hao
                  have hjc : (j : Int) ≤ (c : Int) := by omega
                  have hwr : IntKind.i64.wrap ((j : Int) + 1) = (j : Int) + 1 := by rw [IntKind.wrap_i64]; omega
                  have hp0 : (0 : Int) ≤ (j : Int) + 1 := by omega
                  have hp1 : (j : Int) + 1 ≤ (zs.length : Int) := by omega
                  have hp2 : ((j : Int) + 1).toNat = j + 1 := by omega
                  clear hT0 HLP hb0 hbx hy
                  by_cases hcj : c = j + 1
                  · subst hcj
                    have hq1 : (j : Int) ≤ (j : Int) + 1 := by omega
                    have hq2 : j ≤ j + 1 := by omega
                    as_aux_lemma =>
                    go_wp2_with fail
                    refine HP.mono ?_
                    rintro e w2 ⟨rfl, t2⟩
                    obtain ⟨hb2, o2⟩ := HN.out w2 t2
                    have HT2 : Hid (TX W w2 p pv (zs.take j ++ zs.drop (j + 1))) := t2
                    have hcj2 : w2.cell? ⟨g, j, none⟩ = some (Value.string y) := by
                      rw [(o2.get j (by simp; omega)).1, HY.out]
                      simp
                    have HC : Hid (∀ w', Kp [] w2 w' → w'.cell? ⟨bx, 1, none⟩ = some (.int .i64 (j : Nat))) := fun w' k => by rw [k.cell (a := ⟨bx, 1, none⟩) (block_lt_of_cell hb2) (by simp)]; exact hb2
                    have HS1 : Hid (∀ w', Kp [] w2 w' → Src Try.prog 1 33 (.slice (some ⟨g, 0, none⟩) j (j + 1)) j ((zs.take j).map (Value.string)) w') := fun w' k => by
                      have h5 := (o2.cut j (by simp; omega)).rd.kept k
                      rw [← List.map_take] at h5
                      exact h5.src Try.underlying33 (one _)
                    have HS3 : Hid (∀ w', Kp [] w2 w' → Src Try.prog 1 33 (.slice (some ⟨g, 0, none⟩) 0 0) 0 ((zs.drop (j + 1)).map (Value.string)) w') := fun w' k => by
                      have h7 : zs.drop (j + 1) = [] := List.drop_eq_nil_of_le (by omega)
                      rw [h7]
                      have h6 : Rd w' (.slice (some ⟨g, 0, none⟩) 0 0) (([] : List ByteArray).map (Value.string)) := ⟨some ⟨g, 0, none⟩, 0, rfl, fun t ht => by simp at ht⟩
                      exact h6.src Try.underlying33 (one _)
                    have HW : Hid (∀ w3 v3, Own w3 9 v3 ((([] : List Value) ++ (zs.take j).map (Value.string)) ++ (zs.drop (j + 1)).map (Value.string)) → Kp [] w2 w3 → (∀ y, y ∈ blk v3 → w2.heap.size ≤ y) → TwoT W w3 p pv (.slice (some ⟨g, 0, none⟩) zs.length (j + 1)) v3 (zs.take j ++ zs.drop (j + 1))) := fun w3 v3 o3 k3 f3 =>
                      HB.out w2 w3 v3 HT2.out (by simpa using o3) k3 f3
                    have HLa : Hid ((([] : List Value)).length + j ≤ 1000000) := by show _ ≤ _; simp; try omega
                    have HLc : Hid ((([] : List Value) ++ (zs.take j).map (Value.string)).length + 0 ≤ 1000000) := by show _ ≤ _; simp; try omega
                    clear HP HN t2 o2 HB HT2 HY
                    go_wp2_with fail
                    go_region_held3 (fun w' => w'.cell? ⟨bx, 1, none⟩ = some (.int .i64 (j : Nat)) ∧ Kp [] w2 w')
                      (first
                        | exact ⟨HC.out _ (Kp.refl [] w2).drew, (Kp.refl [] w2).drew⟩
                        | (go_split_ands; exact ⟨HC.out _ (Kp.alloc (by assumption) _), Kp.alloc (by assumption) _⟩)
                        | exact ⟨HC.out _ S3.out, S3.out⟩
                        | exact ⟨HC.out _ S1.out, S1.out⟩)
                      (first
                        | (refine step_app (by rfl) _ _ _ (by rfl) Try.underlying33 info rfl (by decide) _ _ (by rfl) (by rfl) [] (own_empty (by first | exact heap_new' _ _ _ (by simp) | exact (Below.heap_alloc _ _ _ (by simp)).trans (heap_new' _ _ _ (by simp)))) j ((zs.take j).map (Value.string)) (HS1.out _ (by go_split_ands; assumption)) (fun h => by cases h) HLa.out ?_; intro v1 w1 o1 k1 f1 h1; have B1 : Hid (∀ y, y ∈ blk v1 → w2.heap.size ≤ y) := (fun y hy => by have h5 := f1 y hy; simp [blk] at h5; omega); have S1 : Hid (Kp [] w2 w1) := (by go_split_ands; exact Kp.trans (by assumption) k1 (fun y hy => Or.inr (by simp [blk] at hy; omega))))
                        | (refine step_app (by rfl) _ _ _ (by rfl) Try.underlying33 info rfl (by decide) _ _ (by rfl) (by rfl) (([] : List Value) ++ (zs.take j).map (Value.string)) (by exact o1) 0 ((zs.drop (j + 1)).map (Value.string)) (HS3.out _ S1.out) (fun h => by obtain ⟨a5, c5, h5⟩ := h1; rw [h5] at h; cases h) HLc.out ?_; intro v3 w4 o4 k4 f4 h4; have B3 : Hid (∀ y, y ∈ blk v3 → w2.heap.size ≤ y) := (fun y hy => by rcases f4 y hy with h5 | h5 <;> first | exact B1.out y h5 | (have h6 := S1.out.size; omega)); have S3 : Hid (Kp [] w2 w4) := (S1.out.trans k4 (fun y hy => Or.inr (B1.out y hy)))))
                    all_goals
                      go_wp2
                      go_meet
                      case rel => exact ⟨_, HW.out _ _ o4 S3.out B3.out, HL3.out⟩
                  · as_aux_lemma =>
                    go_wp2_with fail
                    refine HP.mono ?_
                    rintro e w2 ⟨rfl, t2⟩
                    obtain ⟨hb2, o2⟩ := HN.out w2 t2
                    have HT2 : Hid (TX W w2 p pv (zs.take j ++ zs.drop (j + 1))) := t2
                    have hcj2 : w2.cell? ⟨g, j, none⟩ = some (Value.string y) := by
                      rw [(o2.get j (by simp; omega)).1, HY.out]
                      simp
                    have HC : Hid (∀ w', Kp [] w2 w' → w'.cell? ⟨bx, 1, none⟩ = some (.int .i64 (j : Nat))) := fun w' k => by rw [k.cell (a := ⟨bx, 1, none⟩) (block_lt_of_cell hb2) (by simp)]; exact hb2
                    have HS1 : Hid (∀ w', Kp [] w2 w' → Src Try.prog 1 33 (.slice (some ⟨g, 0, none⟩) j c) j ((zs.take j).map (Value.string)) w') := fun w' k => by
                      have h5 := (o2.cut j (by simp; omega)).rd.kept k
                      rw [← List.map_take] at h5
                      exact h5.src Try.underlying33 (one _)
                    have HS3 : Hid (∀ w', Kp [] w2 w' → Src Try.prog 1 33 (.slice (some ⟨g, j + 1, none⟩) (zs.length - (j + 1)) (c - (j + 1))) (zs.length - (j + 1)) ((zs.drop (j + 1)).map (Value.string)) w') := fun w' k => by
                      have h6 : Rd w' (.slice (some ⟨g, j + 1, none⟩) (zs.length - (j + 1)) (c - (j + 1))) ((zs.drop (j + 1)).map (Value.string)) := by
                        refine ⟨some ⟨g, j + 1, none⟩, c - (j + 1), by simp, fun t ht => ⟨g, j + 1, rfl, ?_⟩⟩
                        rw [List.length_map, List.length_drop] at ht
                        obtain ⟨h5, _⟩ := o2.get (j + 1 + t) (by simp; omega)
                        rw [k.cell (a := ⟨g, j + 1 + t, none⟩) (block_lt_of_cell h5) (by simp), h5]
                        simp [show j + 1 + t < zs.length by omega]
                      exact h6.src Try.underlying33 (one _)
                    have HW : Hid (∀ w3 v3, Own w3 9 v3 ((([] : List Value) ++ (zs.take j).map (Value.string)) ++ (zs.drop (j + 1)).map (Value.string)) → Kp [] w2 w3 → (∀ y, y ∈ blk v3 → w2.heap.size ≤ y) → TwoT W w3 p pv (.slice (some ⟨g, 0, none⟩) zs.length c) v3 (zs.take j ++ zs.drop (j + 1))) := fun w3 v3 o3 k3 f3 =>
                      HB.out w2 w3 v3 HT2.out (by simpa using o3) k3 f3
                    have HLa : Hid ((([] : List Value)).length + j ≤ 1000000) := by show _ ≤ _; simp; try omega
                    have HLc : Hid ((([] : List Value) ++ (zs.take j).map (Value.string)).length + (zs.length - (j + 1)) ≤ 1000000) := by show _ ≤ _; simp; try omega
                    clear HP HN t2 o2 HB HT2 HY
                    go_wp2_with fail
                    go_region_held3 (fun w' => w'.cell? ⟨bx, 1, none⟩ = some (.int .i64 (j : Nat)) ∧ Kp [] w2 w')
                      (first
                        | exact ⟨HC.out _ (Kp.refl [] w2).drew, (Kp.refl [] w2).drew⟩
                        | (go_split_ands; exact ⟨HC.out _ (Kp.alloc (by assumption) _), Kp.alloc (by assumption) _⟩)
                        | exact ⟨HC.out _ S3.out, S3.out⟩
                        | exact ⟨HC.out _ S1.out, S1.out⟩)
                      (first
                        | (refine step_app (by rfl) _ _ _ (by rfl) Try.underlying33 info rfl (by decide) _ _ (by rfl) (by rfl) [] (own_empty (by first | exact heap_new' _ _ _ (by simp) | exact (Below.heap_alloc _ _ _ (by simp)).trans (heap_new' _ _ _ (by simp)))) j ((zs.take j).map (Value.string)) (HS1.out _ (by go_split_ands; assumption)) (fun h => by cases h) HLa.out ?_; intro v1 w1 o1 k1 f1 h1; have B1 : Hid (∀ y, y ∈ blk v1 → w2.heap.size ≤ y) := (fun y hy => by have h5 := f1 y hy; simp [blk] at h5; omega); have S1 : Hid (Kp [] w2 w1) := (by go_split_ands; exact Kp.trans (by assumption) k1 (fun y hy => Or.inr (by simp [blk] at hy; omega))))
                        | (refine step_app (by rfl) _ _ _ (by rfl) Try.underlying33 info rfl (by decide) _ _ (by rfl) (by rfl) (([] : List Value) ++ (zs.take j).map (Value.string)) (by exact o1) (zs.length - (j + 1)) ((zs.drop (j + 1)).map (Value.string)) (HS3.out _ S1.out) (fun h => by obtain ⟨a5, c5, h5⟩ := h1; rw [h5] at h; cases h) HLc.out ?_; intro v3 w4 o4 k4 f4 h4; have B3 : Hid (∀ y, y ∈ blk v3 → w2.heap.size ≤ y) := (fun y hy => by rcases f4 y hy with h5 | h5 <;> first | exact B1.out y h5 | (have h6 := S1.out.size; omega)); have S3 : Hid (Kp [] w2 w4) := (S1.out.trans k4 (fun y hy => Or.inr (B1.out y hy)))))
                    all_goals
                      go_wp2
                      go_meet
                      case rel => exact ⟨_, HW.out _ _ o4 S3.out B3.out, HL3.out⟩
                · as_aux_lemma =>
                  have e1 : inB i zs.length = false := by simp only [inB]; exact decide_eq_false hin
                  have HP := cut_out _ _ _ _ i hT0.1 (by omega)
                  have HF : Hid (TwoT W W p pv (.slice ao zs.length c) (.slice ao zs.length c) zs) := hT0.refl
                  clear hT0 HLP hin
                  go_wp2_with fail
                  refine HP.mono ?_
                  rintro e w2 ⟨rfl, rfl⟩
                  clear HP
                  go_wp2
                  go_meet
                  case rel => exact ⟨zs, HF.out, by omega⟩
              · as_aux_lemma =>
                have n5 : (kind == 5) = false := by simp [k5]
                have HF : Hid (TwoT W W p pv (.slice ao zs.length c) (.slice ao zs.length c) zs) := hT0.refl
                clear hT0 HLP k1 k2 k3 k4 k5
                go_wp2
                go_meet
                case rel => exact ⟨zs, HF.out, by omega⟩
    case rest =>
      obtain ⟨zs', hTT, hl'⟩ := hcut
      have hfin : ∀ w2, Kp [] wc w2 → TwoT w w2 p pv (.slice ao zs.length c) u1 zs' := by
        intro w2 k2
        obtain ⟨pv', t1, t2, t3⟩ := hTT
        refine ⟨pv', t1.kept k2 (fun _ _ => by simp), ((HK.out.mono (fun _ hx => by simp at hx)).trans t2 (fun _ hx => Or.inl hx)).trans k2 (fun _ hx => by simp at hx), fun k hk => ?_⟩
        rcases t3 k hk with h1 | h1
        · exact Or.inl h1
        · right
          have := HK.out.size
          omega
      have HF : Hid (∀ w2, Kp [] wc w2 → TwoT w w2 p pv (.slice ao zs.length c) u1 zs') := hfin
      clear hfin
      obtain ⟨pv', t1, t2, t3⟩ := hTT
      have hk1' : wc.cell? ⟨bx, 1, none⟩ = some (.int .i64 i) := by rw [t2.cell (a := ⟨bx, 1, none⟩) hbs hbx]; exact hk1
      clear hk0 hk1 hb0 hT0 hbx hbs t2 t3 HK hlc hc63
      obtain ⟨ao', c', hu1, _, _, hcs⟩ := own_out t1.2.1
      have hrd := t1.2.1.rd
      have HL := len_any _ _ _ _ t1.1
      have HA := all_any _ _ _ _ t1.1 (by omega)
      have HE : Hid (∀ w2, (Own w2 9 (.slice (some ⟨wc.heap.size, 0, none⟩) zs'.length zs'.length) (zs'.map (Value.string)) ∧ Kp [] wc w2) → Calls Try.prog 25 #[.slice (some ⟨wc.heap.size, 0, none⟩) zs'.length zs'.length, u1] w2 fun e w3 => e = .returned (.bool true) ∧ ∃ q, w3 = w2.drewN q) :=
        fun w2 h2 => same_eq _ _ _ _ h2.1.rd (hrd.kept h2.2) (by omega)
      have HD : Hid (∀ w2 q, Kp [] wc w2 → TwoT w (w2.drewN q) p pv (.slice ao zs.length c) u1 zs') := fun w2 q k2 => HF.out _ (k2.drewN q)
      have HZ : Hid (zs'.length ≤ zs.length + 1) := hl'
      rw [hu1] at HE HD
      subst hu1
      by_cases h0 : zs'.length = 0
      · obtain rfl : zs' = [] := List.eq_nil_of_length_eq_zero h0
        have HT := top_out _ _ _ t1.1
        have HI := at_out _ _ _ _ i t1.1 (by simp; omega)
        simp only [List.length_nil] at HL HA HE HD ⊢
        by_cases hi : i < 0
        all_goals as_aux_lemma =>
          clear t1 hcs hrd h0 HF
          try have hd : decide (i < (0 : Int)) = false := decide_eq_false hi
          go_wp2_with fail
          refine HT.mono ?_
          rintro e w2 ⟨rfl, rfl⟩
          clear HT
          go_wp2_with fail
          refine HI.mono ?_
          rintro e w2 ⟨rfl, rfl⟩
          clear HI
          go_upto_region 35 with fail
          dsimp only [List.append]
          go_wp2_with fail
          refine HL.mono ?_
          rintro e w2 ⟨rfl, rfl⟩
          clear HL
          go_wp2_with fail
          refine HA.mono ?_
          rintro e w5 ⟨rfl, o5, k5⟩
          have HS := HE.out _ ⟨o5, k5⟩
          clear HA HE
          go_wp2_with fail
          refine HS.mono ?_
          rintro e w6 ⟨rfl, q, rfl⟩
          have hT := HD.out w5 q k5
          clear HS HD o5 k5
          go_wp2
          go_ret2
          exact ⟨_, _, rfl, hT, HZ.out⟩
      · obtain ⟨m, hm⟩ : ∃ m, zs'.length = m + 1 := ⟨zs'.length - 1, by omega⟩
        obtain ⟨g, rfl, hcm, _⟩ := hcs m (by omega)
        obtain ⟨y, hy⟩ : ∃ y, y = zs'[m]'(by omega) := ⟨_, rfl⟩
        rw [← hy] at hcm
        have HT := top_in _ _ _ _ t1.1 (by omega) y (by rw [hm, Nat.add_sub_cancel, List.getElem?_eq_getElem (by omega), hy])
        rw [hm] at HL HA HE HD ⊢
        have HM : Hid (zs'.length = m + 1) := hm
        have hmb : m < 2000 := by have := HZ.out; omega
        by_cases h1 : 0 ≤ i ∧ i < (m : Int) + 1
        · as_aux_lemma =>
          obtain ⟨h1, h2⟩ := h1
          obtain ⟨g', hg', hci, _⟩ := hcs i.toNat (by omega)
          simp only [Option.some.injEq, Addr.mk.injEq] at hg'
          obtain ⟨rfl, _⟩ := hg'
          obtain ⟨y2, hy2⟩ : ∃ y2, y2 = zs'[i.toNat]'(by omega) := ⟨_, rfl⟩
          rw [← hy2] at hci
          have HI := at_in _ _ _ _ i t1.1 h1 (by omega) y2 (by rw [List.getElem?_eq_getElem (by omega), hy2])
          clear t1 hcs hrd h0 HF hy hy2 hm HM
          go_wp2_with fail
          refine HT.mono ?_
          rintro e w2 ⟨rfl, rfl⟩
          clear HT
          go_wp2_with fail
          refine HI.mono ?_
          rintro e w2 ⟨rfl, rfl⟩
          clear HI
          go_upto_region 35 with fail
          dsimp only [List.append]
          go_wp2_with fail
          refine HL.mono ?_
          rintro e w2 ⟨rfl, rfl⟩
          clear HL
          go_wp2_with fail
          refine HA.mono ?_
          rintro e w5 ⟨rfl, o5, k5⟩
          have HS := HE.out _ ⟨o5, k5⟩
          clear HA HE
          go_wp2_with fail
          refine HS.mono ?_
          rintro e w6 ⟨rfl, q, rfl⟩
          have hT := HD.out w5 q k5
          clear HS HD o5 k5
          go_wp2
          go_ret2
          exact ⟨_, _, rfl, hT, HZ.out⟩
        · have HI := at_out _ _ _ _ i t1.1 (by omega)
          clear t1 hcs hrd h0 HF hy hm HM
          by_cases hi : i < 0
          all_goals as_aux_lemma =>
            try have hd : decide (i < (m : Int) + 1) = false := decide_eq_false (by omega)
            go_wp2_with fail
            refine HT.mono ?_
            rintro e w2 ⟨rfl, rfl⟩
            clear HT
            go_wp2_with fail
            refine HI.mono ?_
            rintro e w2 ⟨rfl, rfl⟩
            clear HI
            go_upto_region 35 with fail
            dsimp only [List.append]
            go_wp2_with fail
            refine HL.mono ?_
            rintro e w2 ⟨rfl, rfl⟩
            clear HL
            go_wp2_with fail
            refine HA.mono ?_
            rintro e w5 ⟨rfl, o5, k5⟩
            have HS := HE.out _ ⟨o5, k5⟩
            clear HA HE
            go_wp2_with fail
            refine HS.mono ?_
            rintro e w6 ⟨rfl, q, rfl⟩
            have hT := HD.out w5 q k5
            clear HS HD o5 k5
            go_wp2
            go_ret2
            exact ⟨_, _, rfl, hT, HZ.out⟩

end Go.Proofs.Ytfnacibhmanblaa.Strs
