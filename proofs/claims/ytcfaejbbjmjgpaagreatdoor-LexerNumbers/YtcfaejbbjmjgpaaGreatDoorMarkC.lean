/-
  Joined: MRefParts MRefRead.
-/
import Derived.Test.YtcfaejbbjmjgpaaGreatDoorMarkB
import Derived.Test.YtcfaejbbjmjgpaaGreatDoorGroundB

/-
  The document's bogus and comment, of any text.
-/
namespace Go.Proofs.YtcfaejbbjmjgpaaGreatDoor
open Go.RowKit Utf
set_option linter.unusedVariables false

set_option maxHeartbeats 1000000 in
set_option maxRecDepth 100000 in
theorem bogus_any (w : World) (s : ByteArray) (f : Nat) (hf : f ≤ s.size) (hs : s.size ≤ 100000) :
    Calls Tryz.prog 48 #[.string s, .int .i64 (f : Int)] w fun e w' => e = .returned (.tuple #[mv (oF s f).1, .int .i64 ((oF s f).2 : Int), .bool true]) ∧ Kp [] w w' := by
  have HF := fun W => ref_find_any W s (f : Int) GT hs (by decide)
  rw [pl_of hf] at HF
  have h1 := (eP_is s [GT] hf).lo
  have h2 := (eP_is s [GT] hf).hi
  unfold oF mv
  rw [eN_one GT (by decide) hf]
  rw [eP_one s GT (by decide)] at h1 h2 ⊢
  generalize findF s GT f = t at HF h1 h2 ⊢
  unfold GT at HF
  simp only []
  by_cases h3 : t < s.size
  · rw [if_pos h3]
    have A1 := At.new w ZT 44
    have k1 : Kp [] w (w.alloc (.cells ZT 44)) := (Kp.refl _ _).alloc _
    go_enter Tryz.func48, Tryz.ntmps48
    go_wp2_with fail
    refine (HF _).mono ?_
    rintro e w1 ⟨rfl, rfl⟩
    clear HF
    generalize w.alloc (.cells ZT 44) = W at A1 k1 ⊢
    have B := Bx.new k1 A1 (Nat.le_refl _) (.int .i64 5) (.string ⟨#[]⟩) (.slice none 0 0) (.bool false) (.string (s.extract f t))
    obtain ⟨⟨x0, x1, x2, x3, x4⟩, _, ⟨c0, c1, c2, c3, c4⟩, f0⟩ := B.facts
    have D : Hid _ := laid5 B.kp B.r B.n0 (.int .i64 5) (.string ⟨#[]⟩) (.slice none 0 0) (.bool false) (.string (s.extract f t))
    clear B k1 A1
    go_wp2
    obtain ⟨d0, d1, d2, d3, d4, kz⟩ := D.out
    unfold put5 at d0 d1 d2 d3 d4 kz
    refine bodyPost_ret (v := .tuple #[.agg #[.int .i64 5, .string ⟨#[]⟩, .slice none 0 0, .bool false, .string (s.extract f t)], .int .i64 ((t + 1 : Nat) : Int), .bool true]) (by simp [results, go_sem, d0, d1, d2, d3, d4]) rfl ⟨rfl, kz⟩
  · rw [if_neg h3]
    obtain rfl : t = s.size := by omega
    have A1 := At.new w ZT 44
    have k1 : Kp [] w (w.alloc (.cells ZT 44)) := (Kp.refl _ _).alloc _
    go_enter Tryz.func48, Tryz.ntmps48
    go_wp2_with fail
    refine (HF _).mono ?_
    rintro e w1 ⟨rfl, rfl⟩
    clear HF
    generalize w.alloc (.cells ZT 44) = W at A1 k1 ⊢
    have B := Bx.new k1 A1 (Nat.le_refl _) (.int .i64 5) (.string ⟨#[]⟩) (.slice none 0 0) (.bool false) (.string (s.extract f s.size))
    obtain ⟨⟨x0, x1, x2, x3, x4⟩, _, ⟨c0, c1, c2, c3, c4⟩, f0⟩ := B.facts
    have D : Hid _ := laid5 B.kp B.r B.n0 (.int .i64 5) (.string ⟨#[]⟩) (.slice none 0 0) (.bool false) (.string (s.extract f s.size))
    clear B k1 A1
    go_wp2
    obtain ⟨d0, d1, d2, d3, d4, kz⟩ := D.out
    unfold put5 at d0 d1 d2 d3 d4 kz
    refine bodyPost_ret (v := .tuple #[.agg #[.int .i64 5, .string ⟨#[]⟩, .slice none 0 0, .bool false, .string (s.extract f s.size)], .int .i64 (s.size : Int), .bool true]) (by simp [results, go_sem, d0, d1, d2, d3, d4]) rfl ⟨rfl, kz⟩

set_option maxHeartbeats 1000000 in
set_option maxRecDepth 100000 in
theorem ref_comment_any (w : World) (s : ByteArray) (f : Nat) (hf : f ≤ s.size) (hs : s.size ≤ 100000) :
    Calls Tryz.prog 49 #[.string s, .int .i64 (f : Int)] w fun e w' => e = .returned (.tuple #[mv (cF s f).1, .int .i64 ((cF s f).2 : Int), .bool true]) ∧ Kp [] w w' := by
  obtain ⟨V, hV⟩ : ∃ V, cF s f = V := ⟨_, rfl⟩
  rw [hV]
  unfold cF at hV
  have H1 := fun W => ref_starts_any W s (f : Int) GT hs (by decide)
  have H2 := fun W => ref_starts_any W s (f : Int) DGT hs (by decide)
  rw [pl_of hf] at H1 H2
  have A1 := At.new w ZT 44
  have k1 : Kp [] w (w.alloc (.cells ZT 44)) := (Kp.refl _ _).alloc _
  have hgw : Hid (w.heap.size ≤ w.heap.size) := Nat.le_refl _
  cases g1 : st s f GT with
  | true =>
    rw [g1] at H1
    rw [if_pos g1] at hV
    have hfit : f + 1 ≤ s.size := st_le g1
    have hV : Hid (_ = V) := hV
    unfold GT at H1
    clear H2 g1
    go_enter Tryz.func49, Tryz.ntmps49
    go_wp2_with fail
    refine (H1 _).mono ?_
    rintro e w1 ⟨rfl, rfl⟩
    clear H1
    generalize w.alloc (.cells ZT 44) = W at A1 k1 ⊢
    obtain ⟨c0, c1, c2, c3, c4⟩ := A1.cells5
    have f0 := fun j => A1.free j
    have D : Hid _ := laid5 k1 A1 hgw.out (.int .i64 5) (.string ⟨#[]⟩) (.slice none 0 0) (.bool false) (.string ⟨#[]⟩)
    clear A1 k1
    go_wp2
    obtain ⟨d0, d1, d2, d3, d4, kz⟩ := D.out
    unfold put5 at d0 d1 d2 d3 d4 kz
    try simp only [Exit.inBlock, Exit.then]
    refine bodyPost_ret (v := .tuple #[.agg #[.int .i64 5, .string ⟨#[]⟩, .slice none 0 0, .bool false, .string ⟨#[]⟩], .int .i64 ((f + 1 : Nat) : Int), .bool true]) (by simp [results, go_sem, d0, d1, d2, d3, d4]) rfl ⟨by rw [← hV.out]; rfl, kz⟩
  | false =>
    rw [g1] at H1
    rw [if_neg (by rw [g1]; simp)] at hV
    unfold GT at H1
    clear g1
    cases g2 : st s f DGT with
    | true =>
      rw [g2] at H2
      rw [if_pos g2] at hV
      have hfit : f + 2 ≤ s.size := st_le g2
      have hV : Hid (_ = V) := hV
      unfold DGT at H2
      clear g2
      go_enter Tryz.func49, Tryz.ntmps49
      go_wp2_with fail
      refine (H1 _).mono ?_
      rintro e w1 ⟨rfl, rfl⟩
      clear H1
      go_wp2_with fail
      refine (H2 _).mono ?_
      rintro e w1 ⟨rfl, rfl⟩
      clear H2
      generalize w.alloc (.cells ZT 44) = W at A1 k1 ⊢
      obtain ⟨c0, c1, c2, c3, c4⟩ := A1.cells5
      have f0 := fun j => A1.free j
      have D : Hid _ := laid5 k1 A1 hgw.out (.int .i64 5) (.string ⟨#[]⟩) (.slice none 0 0) (.bool false) (.string ⟨#[]⟩)
      clear A1 k1
      go_wp2
      obtain ⟨d0, d1, d2, d3, d4, kz⟩ := D.out
      unfold put5 at d0 d1 d2 d3 d4 kz
      try simp only [Exit.inBlock, Exit.then]
      refine bodyPost_ret (v := .tuple #[.agg #[.int .i64 5, .string ⟨#[]⟩, .slice none 0 0, .bool false, .string ⟨#[]⟩], .int .i64 ((f + 2 : Nat) : Int), .bool true]) (by simp [results, go_sem, d0, d1, d2, d3, d4]) rfl ⟨by rw [← hV.out]; rfl, kz⟩
    | false =>
      rw [g2] at H2
      rw [if_neg (by rw [g2]; simp)] at hV
      have hV : Hid ((if eP s ES f = s.size then (((5 : Int), ⟨#[]⟩, s.extract f (cutL s f DS)), s.size) else ((5, ⟨#[]⟩, s.extract f (eP s ES f)), eN s ES f)) = V) := hV
      unfold DGT at H2
      clear g2
      go_enter Tryz.func49, Tryz.ntmps49
      go_wp2_with fail
      refine (H1 _).mono ?_
      rintro e w1 ⟨rfl, rfl⟩
      clear H1
      go_wp2_with fail
      refine (H2 _).mono ?_
      rintro e w1 ⟨rfl, rfl⟩
      clear H2
      generalize w.alloc (.cells ZT 44) = W at A1 k1 ⊢
      obtain ⟨g0, hg0⟩ : ∃ g0, w.heap.size = g0 := ⟨_, rfl⟩
      rw [hg0] at A1 ⊢
      have hgw : Hid (w.heap.size ≤ g0) := by show _ ≤ _; omega
      clear hg0
      go_wp2
      go_loopw [7] (fun i wr => ∃ k : Nat, f ≤ k ∧ k ≤ s.size ∧ i = .int .i64 k ∧ wr = W ∧ Hid (∀ j, f ≤ j → j < k → pick s j ES = 0)) (fun i _ => s.size - (intOf i).toNat)
      case atStart => exact ⟨f, Nat.le_refl _, hf, rfl, rfl, fun j h1 h2 => by omega⟩
      case round =>
        obtain ⟨k, l1, l2, rfl, rfl, hb⟩ := hrel
        by_cases hlt : k < s.size
        · have J1 := ref_starts_any wr s (k : Int) E1 hs (by decide)
          have J2 := ref_starts_any wr s (k : Int) E2 hs (by decide)
          rw [pl_of l2] at J1 J2
          cases j1 : st s k E1 with
          | true =>
            have hp1 : pick s k ES = 3 := by unfold ES; rw [pick, if_pos j1]; rfl
            have he : eP s ES f = k := fs_eq ⟨l1, l2, fun j g1 g2 => by rw [hb.out j g1 g2]; rfl, fun _ => decide_eq_true (by rw [hp1]; decide)⟩
            have he2 : eN s ES f = k + 3 := by unfold eN; rw [he, hp1]
            have hV : Hid ((((5 : Int), ⟨#[]⟩, s.extract f k), k + 3) = V) := by
              show _ = _
              rw [← hV.out, he, he2, if_neg (by omega)]
            have hfit : k + 3 ≤ s.size := st_le j1
            rw [j1] at J1
            unfold E1 at J1
            clear J2 j1 hp1 he he2 hb
            go_wp2_with fail
            refine J1.mono ?_
            rintro e w1 ⟨rfl, rfl⟩
            clear J1
            obtain ⟨c0, c1, c2, c3, c4⟩ := A1.cells5
            have f0 := fun j => A1.free j
            have D : Hid _ := laid5 k1 A1 hgw.out (.int .i64 5) (.string ⟨#[]⟩) (.slice none 0 0) (.bool false) (.string (s.extract f k))
            clear A1 k1
            go_wp2
            obtain ⟨d0, d1, d2, d3, d4, kz⟩ := D.out
            unfold put5 at d0 d1 d2 d3 d4 kz
            try simp only [Exit.inBlock, Exit.then]
            refine bodyPost_ret (v := .tuple #[.agg #[.int .i64 5, .string ⟨#[]⟩, .slice none 0 0, .bool false, .string (s.extract f k)], .int .i64 ((k + 3 : Nat) : Int), .bool true]) (by simp [results, go_sem, d0, d1, d2, d3, d4]) rfl ⟨by rw [← hV.out]; rfl, kz⟩
          | false =>
            cases j2 : st s k E2 with
            | true =>
              have hp1 : pick s k ES = 4 := by unfold ES; rw [pick, if_neg (by rw [j1]; simp), pick, if_pos j2]; rfl
              have he : eP s ES f = k := fs_eq ⟨l1, l2, fun j g1 g2 => by rw [hb.out j g1 g2]; rfl, fun _ => decide_eq_true (by rw [hp1]; decide)⟩
              have he2 : eN s ES f = k + 4 := by unfold eN; rw [he, hp1]
              have hV : Hid ((((5 : Int), ⟨#[]⟩, s.extract f k), k + 4) = V) := by
                show _ = _
                rw [← hV.out, he, he2, if_neg (by omega)]
              have hfit : k + 4 ≤ s.size := st_le j2
              rw [j1] at J1
              rw [j2] at J2
              unfold E1 at J1
              unfold E2 at J2
              clear j1 j2 hp1 he he2 hb
              go_wp2_with fail
              refine J1.mono ?_
              rintro e w1 ⟨rfl, rfl⟩
              clear J1
              go_wp2_with fail
              refine J2.mono ?_
              rintro e w1 ⟨rfl, rfl⟩
              clear J2
              obtain ⟨c0, c1, c2, c3, c4⟩ := A1.cells5
              have f0 := fun j => A1.free j
              have D : Hid _ := laid5 k1 A1 hgw.out (.int .i64 5) (.string ⟨#[]⟩) (.slice none 0 0) (.bool false) (.string (s.extract f k))
              clear A1 k1
              go_wp2
              obtain ⟨d0, d1, d2, d3, d4, kz⟩ := D.out
              unfold put5 at d0 d1 d2 d3 d4 kz
              try simp only [Exit.inBlock, Exit.then]
              refine bodyPost_ret (v := .tuple #[.agg #[.int .i64 5, .string ⟨#[]⟩, .slice none 0 0, .bool false, .string (s.extract f k)], .int .i64 ((k + 4 : Nat) : Int), .bool true]) (by simp [results, go_sem, d0, d1, d2, d3, d4]) rfl ⟨by rw [← hV.out]; rfl, kz⟩
            | false =>
              have hp1 : pick s k ES = 0 := by unfold ES; rw [pick, if_neg (by rw [j1]; simp), pick, if_neg (by rw [j2]; simp)]; rfl
              have hb2 : Hid (∀ j, f ≤ j → j < k + 1 → pick s j ES = 0) := fun j g1 g2 => by
                by_cases hjk : j = k
                · rw [hjk]; exact hp1
                · exact hb.out j g1 (by omega)
              rw [j1] at J1
              rw [j2] at J2
              unfold E1 at J1
              unfold E2 at J2
              clear j1 j2 hp1 hb
              go_wp2_with fail
              refine J1.mono ?_
              rintro e w1 ⟨rfl, rfl⟩
              clear J1
              go_wp2_with fail
              refine J2.mono ?_
              rintro e w1 ⟨rfl, rfl⟩
              clear J2
              go_wp2
              go_roundw
              case rel => exact ⟨k + 1, by omega, by omega, by go_num, trivial, hb2⟩
              case measure => simp [intOf]; omega
        · obtain rfl : k = s.size := by omega
          have he : eP s ES f = s.size := fs_eq ⟨l1, l2, fun j g1 g2 => by rw [hb.out j g1 g2]; rfl, fun h => by omega⟩
          have hV : Hid ((((5 : Int), ⟨#[]⟩, s.extract f (cutL s f DS)), s.size) = V) := by
            show _ = _
            rw [← hV.out, if_pos he]
          clear he hb
          have R0 : Rb (wr.alloc (.cells (tx DS).toArray 9)) (some ⟨wr.heap.size, 0, none⟩) 3 3 (tx DS) := rb_lit wr 9 _ (tx DS) 3 rfl rfl (by omega)
          have k2 : Kp [] wr (wr.alloc (.cells (tx DS).toArray 9)) := (Kp.refl _ _).alloc _
          have A2 := A1.kept k2 (by simp)
          have k3 := k1.trans k2 (fun z hz => by simp at hz)
          clear k2
          go_wp2
          rw [show #[Value.string { data := #[45, 45, 33] }, Value.string { data := #[45, 45] }, Value.string { data := #[45] }] = (tx DS).toArray from rfl]
          generalize wr.alloc (.cells (tx DS).toArray 9) = W2 at R0 A2 k3 ⊢
          generalize some (⟨wr.heap.size, 0, none⟩ : Addr) = ta at R0 ⊢
          clear A1 k1
          go_loopw [8, 54] (fun en i wy => ∃ m e : Nat, m ≤ 3 ∧ i = .int .i64 m ∧ en = .int .i64 e ∧ wy = W2 ∧ f ≤ e ∧ e ≤ s.size ∧ Hid (e = cutL s f (DS.take m))) (fun _ i _ => 3 - (intOf i).toNat)
          case atStart => exact ⟨0, s.size, Nat.zero_le _, rfl, rfl, rfl, hf, Nat.le_refl _, rfl⟩
          case round =>
            obtain ⟨m, e, h3, rfl, rfl, rfl, m1, m2, hc⟩ := hrel
            by_cases hlt2 : m < 3
            · obtain ⟨b, o, rfl, hcell⟩ := R0.tx_at m (by rw [show DS.length = 3 from rfl]; exact hlt2)
              have hx0 := ds_solid (DS[m]'(by rw [show DS.length = 3 from rfl]; exact hlt2)) (List.getElem_mem _)
              have hst : cutL s f (DS.take (m + 1)) = if cutL s f (DS.take m) = s.size then cutL s f [DS[m]'(by rw [show DS.length = 3 from rfl]; exact hlt2)] else cutL s f (DS.take m) := by
                rw [List.take_succ_eq_append_getElem (by rw [show DS.length = 3 from rfl]; exact hlt2)]
                exact cutL_snoc s f _ _ (fun y hy => ds_solid y (List.mem_of_mem_take hy))
              rw [← hc.out] at hst
              have hx1 : (DS[m]'(by rw [show DS.length = 3 from rfl]; exact hlt2)).size ≤ 3 := by
                rcases (show m = 0 ∨ m = 1 ∨ m = 2 by omega) with rfl | rfl | rfl
                · show D3.size ≤ 3; decide
                · show D2.size ≤ 3; decide
                · show D1.size ≤ 3; decide
              generalize (DS[m]'(by rw [show DS.length = 3 from rfl]; exact hlt2)) = x at hcell hst hx0 hx1
              by_cases he : e = s.size
              · rw [if_pos he] at hst
                subst he
                by_cases hle : f + x.size ≤ s.size
                · have q1 : (x.size : Int) ≤ (s.size : Int) - (f : Int) := by omega
                  have hq : ((s.extract (s.size - x.size) s.size).toList == x.toList) = st s (s.size - x.size) x := by
                    rw [st_cut (by omega), list_eq, show s.size - x.size + x.size = s.size by omega]
                  cases hx : st s (s.size - x.size) x with
                  | true =>
                    have hd : Hid (s.size - x.size = cutL s f (DS.take (m + 1))) := by
                      show _ = _
                      rw [hst, cutL, if_pos ⟨hle, hx⟩]
                    rw [hx] at hq
                    clear hst hc hx
                    go_wp2
                    go_roundw
                    case rel => exact ⟨m + 1, s.size - x.size, by omega, by go_num, by congr 1; omega, trivial, by omega, by omega, hd⟩
                    case measure => simp [intOf]; omega
                  | false =>
                    have hd : Hid (s.size = cutL s f (DS.take (m + 1))) := by
                      show _ = _
                      rw [hst, cutL, if_neg (by rw [hx]; simp)]
                      rfl
                    rw [hx] at hq
                    clear hst hc hx
                    go_wp2
                    go_roundw
                    case rel => exact ⟨m + 1, s.size, by omega, by go_num, rfl, trivial, hf, Nat.le_refl _, hd⟩
                    case measure => simp [intOf]; omega
                · have q1 : ¬ (x.size : Int) ≤ (s.size : Int) - (f : Int) := by omega
                  have hd : Hid (s.size = cutL s f (DS.take (m + 1))) := by
                    show _ = _
                    rw [hst, cutL, if_neg (by omega)]
                    rfl
                  clear hst hc
                  go_wp2
                  go_roundw
                  case rel => exact ⟨m + 1, s.size, by omega, by go_num, rfl, trivial, hf, Nat.le_refl _, hd⟩
                  case measure => simp [intOf]; omega
              · rw [if_neg he] at hst
                have b1 : ((e : Int) == (s.size : Int)) = false := by simp only [beq_eq_false_iff_ne, ne_eq]; omega
                have hd : Hid (e = cutL s f (DS.take (m + 1))) := hst.symm
                clear hst hc he
                go_wp2
                go_roundw
                case rel => exact ⟨m + 1, e, by omega, by go_num, rfl, trivial, m1, m2, hd⟩
                case measure => simp [intOf]; omega
            · obtain rfl : m = 3 := by omega
              have hV : Hid ((((5 : Int), ⟨#[]⟩, s.extract f e), s.size) = V) := by
                show _ = _
                rw [← hV.out, hc.out]
                rfl
              clear hc R0
              obtain ⟨c0, c1, c2, c3, c4⟩ := A2.cells5
              have f0 := fun j => A2.free j
              have D : Hid _ := laid5 k3 A2 hgw.out (.int .i64 5) (.string ⟨#[]⟩) (.slice none 0 0) (.bool false) (.string (s.extract f e))
              clear A2 k3
              go_wp2
              obtain ⟨d0, d1, d2, d3, d4, kz⟩ := D.out
              unfold put5 at d0 d1 d2 d3 d4 kz
              try simp only [Exit.inBlock, Exit.then]
              refine bodyPost_ret (v := .tuple #[.agg #[.int .i64 5, .string ⟨#[]⟩, .slice none 0 0, .bool false, .string (s.extract f e)], .int .i64 (s.size : Int), .bool true]) (by simp [results, go_sem, d0, d1, d2, d3, d4]) rfl ⟨by rw [← hV.out]; rfl, kz⟩

end Go.Proofs.YtcfaejbbjmjgpaaGreatDoor

/-
  The document's Read, of any text and place.
-/
namespace Go.Proofs.YtcfaejbbjmjgpaaGreatDoor
open Go.RowKit Utf
set_option linter.unusedVariables false

/-- Two bytes there. -/
theorem st_two (s : ByteArray) (p : Nat) (a b : UInt8) : st s p ⟨#[a, b]⟩ = decide (p + 1 < s.size ∧ bt s p = (a.toNat : Int) ∧ bt s (p + 1) = (b.toNat : Int)) := by
  have h0 : bt ⟨#[a, b]⟩ 0 = (a.toNat : Int) := bt_at ⟨#[a, b]⟩ 0 (by show 0 < 2; omega)
  have h1 : bt ⟨#[a, b]⟩ 1 = (b.toNat : Int) := bt_at ⟨#[a, b]⟩ 1 (by show 1 < 2; omega)
  rw [Bool.eq_iff_iff, decide_eq_true_eq]
  constructor
  · intro h
    have g1 : p + 2 ≤ s.size := st_le h
    have g2 := st_at h 0 (by show 0 < 2; omega)
    have g3 := st_at h 1 (by show 1 < 2; omega)
    rw [Nat.add_zero] at g2
    exact ⟨by omega, by rw [g2, h0], by rw [g3, h1]⟩
  · rintro ⟨g1, g2, g3⟩
    refine st_true (by show p + 2 ≤ s.size; omega) fun j hj => ?_
    have hj2 : j < 2 := hj
    rcases (show j = 0 ∨ j = 1 by omega) with rfl | rfl
    · rw [Nat.add_zero, g2, h0]
    · rw [g3, h1]

def SLA : ByteArray := ⟨#[60, 47]⟩
def QUE : ByteArray := ⟨#[60, 63]⟩
def EXC : ByteArray := ⟨#[60, 33]⟩
def WRD : ByteArray := ⟨#[100, 111, 99, 116, 121, 112, 101]⟩

theorem sla_is {s : ByteArray} {p : Nat} : st s p SLA = true ↔ p + 1 < s.size ∧ bt s p = 60 ∧ bt s (p + 1) = 47 := by
  unfold SLA
  rw [st_two, decide_eq_true_eq]
  rfl
theorem que_is {s : ByteArray} {p : Nat} : st s p QUE = true ↔ p + 1 < s.size ∧ bt s p = 60 ∧ bt s (p + 1) = 63 := by
  unfold QUE
  rw [st_two, decide_eq_true_eq]
  rfl
theorem exc_is {s : ByteArray} {p : Nat} : st s p EXC = true ↔ p + 1 < s.size ∧ bt s p = 60 ∧ bt s (p + 1) = 33 := by
  unfold EXC
  rw [st_two, decide_eq_true_eq]
  rfl

/-- With another second byte a text does not stand there. -/
theorem st_second {s : ByteArray} {p : Nat} (x : ByteArray) (hx : 1 < x.size) (h : ¬ bt s (p + 1) = bt x 1) : st s p x = false := st_not 1 hx h
theorem fo_second {s : ByteArray} {p : Nat} (x : ByteArray) (hx : 1 < x.size) (h : ¬ low (bt s (p + 1)) = low (bt x 1)) : fo s p x = false := fo_not 1 hx h

theorem emp_is {s : ByteArray} {p : Nat} (h : st s p EMP = true) : begM s p = true := by
  have g1 : p + 3 ≤ s.size := st_le h
  have g2 : bt s p = 60 := st_at h 0 (by decide)
  have g3 : bt s (p + 1) = 47 := st_at h 1 (by decide)
  have g4 : bt s (p + 2) = 62 := st_at h 2 (by decide)
  exact begM_true ⟨by omega, g2, Or.inr (Or.inr ⟨g3, by omega, by rw [g4]; decide⟩)⟩

theorem rd_emp {s : ByteArray} {p : Nat} (h : st s p EMP = true) (b : Bool) : rdM s p b = (z3, p + 3) := by unfold rdM; rw [if_pos h]

theorem rd_sla {s : ByteArray} {p : Nat} (h : st s p EMP = false) (h1 : bt s (p + 1) = 47) (b : Bool) : rdM s p b = oF s (p + 2) := by
  unfold rdM
  rw [if_neg (by rw [h]; simp), st_second COM (by decide) (by rw [h1]; decide), fo_second DOC (by decide) (by rw [h1]; decide), st_second CDA (by decide) (by rw [h1]; decide), h1, Bool.and_false, if_neg (by simp), if_neg (by simp), if_neg (by simp), if_neg (by decide)]

theorem rd_que {s : ByteArray} {p : Nat} (h1 : bt s (p + 1) = 63) (b : Bool) : rdM s p b = oF s (p + 1) := by
  unfold rdM
  rw [st_second EMP (by decide) (by rw [h1]; decide), st_second COM (by decide) (by rw [h1]; decide), fo_second DOC (by decide) (by rw [h1]; decide), st_second CDA (by decide) (by rw [h1]; decide), h1, Bool.and_false, if_neg (by simp), if_neg (by simp), if_neg (by simp), if_neg (by simp), if_pos rfl]

theorem rd_exc {s : ByteArray} {p : Nat} (h1 : bt s (p + 1) = 33) (b : Bool) : rdM s p b = if st s p COM then cF s (p + 4) else if fo s p DOC then dF s (p + 9) else if b && st s p CDA then kF s (p + 9) else oF s (p + 2) := by
  unfold rdM
  rw [st_second EMP (by decide) (by rw [h1]; decide), h1, if_neg (by simp), if_neg (c := (33 : Int) = 63) (by decide)]

theorem doc_word {s : ByteArray} {p : Nat} (h0 : bt s p = 60) (h1 : bt s (p + 1) = 33) : fo s (p + 2) WRD = fo s p DOC := by
  rw [Bool.eq_iff_iff]
  constructor
  · intro h
    have g1 : p + 2 + 7 ≤ s.size := fo_le h
    refine fo_true (by show p + 9 ≤ s.size; omega) fun j hj => ?_
    have hj2 : j < 9 := hj
    by_cases hj0 : j = 0
    · subst hj0; rw [Nat.add_zero, h0]; rfl
    by_cases hj1 : j = 1
    · subst hj1; rw [h1]; rfl
    · have := (of_decide_eq_true h).2 (j - 2) (by show j - 2 < 7; omega)
      rw [show p + 2 + (j - 2) = p + j by omega] at this
      rw [this]
      rcases (show j = 2 ∨ j = 3 ∨ j = 4 ∨ j = 5 ∨ j = 6 ∨ j = 7 ∨ j = 8 by omega) with rfl | rfl | rfl | rfl | rfl | rfl | rfl <;> rfl
  · intro h
    have g1 : p + 9 ≤ s.size := fo_le h
    refine fo_true (by show p + 2 + 7 ≤ s.size; omega) fun j hj => ?_
    have hj2 : j < 7 := hj
    have := (of_decide_eq_true h).2 (j + 2) (by show j + 2 < 9; omega)
    rw [show p + (j + 2) = p + 2 + j by omega] at this
    rw [this]
    rcases (show j = 0 ∨ j = 1 ∨ j = 2 ∨ j = 3 ∨ j = 4 ∨ j = 5 ∨ j = 6 by omega) with rfl | rfl | rfl | rfl | rfl | rfl | rfl <;> rfl

set_option maxHeartbeats 1000000 in
set_option maxRecDepth 100000 in
theorem ref_read_out (w : World) (s : ByteArray) (a : Int) (b : Bool) (hs : s.size ≤ 100000) (h : a < 0 ∨ (s.size : Int) < a) :
    Calls Tryz.prog 31 #[.string s, .int .i64 a, .bool b] w fun e w' => e = .returned (rv (mkF s a b)) ∧ Kp [] w w' := by
  have hm : mkF s a b = (z3, a, false) := by
    rcases h with h | h
    · exact mk_lo h b
    · exact mk_hi (by omega) b
  rw [hm]
  clear hm
  unfold rv mv z3
  simp only []
  have A1 := At.new w ZT 44
  have k1 : Kp [] w (w.alloc (.cells ZT 44)) := (Kp.refl _ _).alloc _
  by_cases h1 : a < 0
  · clear h
    go_enter Tryz.func31, Tryz.ntmps31
    go_upto_region 1 with fail
    generalize w.alloc (.cells ZT 44) = W at A1 k1 ⊢
    obtain ⟨c0, c1, c2, c3, c4⟩ := A1.cells5
    have f0 := fun j => A1.free j
    have D : Hid _ := laid5 k1 A1 (Nat.le_refl _) (.int .i64 0) (.string ⟨#[]⟩) (.slice none 0 0) (.bool false) (.string ⟨#[]⟩)
    clear A1 k1
    go_wp2
    obtain ⟨d0, d1, d2, d3, d4, kz⟩ := D.out
    unfold put5 at d0 d1 d2 d3 d4 kz
    try simp only [Exit.inBlock, Exit.then]
    refine bodyPost_ret (v := .tuple #[.agg #[.int .i64 0, .string ⟨#[]⟩, .slice none 0 0, .bool false, .string ⟨#[]⟩], .int .i64 a, .bool false]) (by simp [results, go_sem, d0, d1, d2, d3, d4]) rfl ⟨rfl, kz⟩
  · have h2 : (s.size : Int) < a := by omega
    clear h
    go_enter Tryz.func31, Tryz.ntmps31
    go_upto_region 1 with fail
    generalize w.alloc (.cells ZT 44) = W at A1 k1 ⊢
    obtain ⟨c0, c1, c2, c3, c4⟩ := A1.cells5
    have f0 := fun j => A1.free j
    have D : Hid _ := laid5 k1 A1 (Nat.le_refl _) (.int .i64 0) (.string ⟨#[]⟩) (.slice none 0 0) (.bool false) (.string ⟨#[]⟩)
    clear A1 k1
    go_wp2
    obtain ⟨d0, d1, d2, d3, d4, kz⟩ := D.out
    unfold put5 at d0 d1 d2 d3 d4 kz
    try simp only [Exit.inBlock, Exit.then]
    refine bodyPost_ret (v := .tuple #[.agg #[.int .i64 0, .string ⟨#[]⟩, .slice none 0 0, .bool false, .string ⟨#[]⟩], .int .i64 a, .bool false]) (by simp [results, go_sem, d0, d1, d2, d3, d4]) rfl ⟨rfl, kz⟩

set_option maxHeartbeats 1000000 in
set_option maxRecDepth 100000 in
theorem ref_read_emp (w : World) (s : ByteArray) (p : Nat) (b : Bool) (hs : s.size ≤ 100000) (h : st s p EMP = true) :
    Calls Tryz.prog 31 #[.string s, .int .i64 (p : Int), .bool b] w fun e w' => e = .returned (rv (mkF s (p : Int) b)) ∧ Kp [] w w' := by
  have g1 : p + 3 ≤ s.size := st_le h
  rw [mk_yes (emp_is h), rd_emp h]
  have H1 := fun W => ref_starts_any W s (p : Int) EMP hs (by decide)
  have H2 := fun W => ref_starts_any W s (p : Int) SLA hs (by decide)
  have H3 := fun W => ref_starts_any W s (p : Int) QUE hs (by decide)
  have H4 := fun W => ref_starts_any W s (p : Int) EXC hs (by decide)
  have H5 := fun W => ref_starts_any W s (p : Int) COM hs (by decide)
  have H6 := fun W => ref_fold_any W s ((p + 2 : Nat) : Int) WRD hs (by decide)
  have H7 := fun W => ref_starts_any W s (p : Int) CDA hs (by decide)
  rw [pl_of (by omega)] at H1 H2 H3 H4 H5 H7
  have o1 : ¬ (p : Int) < 0 := by omega
  have o2 : ¬ (s.size : Int) < (p : Int) := by omega
  rw [h] at H1
  unfold EMP at H1
  clear H2 H3 H4 H5 H6 H7 h
  unfold rv
  simp only []
  unfold mv z3
  simp only []
  have A1 := At.new w ZT 44
  have k1 : Kp [] w (w.alloc (.cells ZT 44)) := (Kp.refl _ _).alloc _
  go_enter Tryz.func31, Tryz.ntmps31
  go_wp2_with fail
  refine (H1 _).mono ?_
  rintro e w1 ⟨rfl, rfl⟩
  clear H1
  generalize w.alloc (.cells ZT 44) = W at A1 k1 ⊢
  obtain ⟨c0, c1, c2, c3, c4⟩ := A1.cells5
  have f0 := fun j => A1.free j
  have D : Hid _ := laid5 k1 A1 (Nat.le_refl _) (.int .i64 0) (.string ⟨#[]⟩) (.slice none 0 0) (.bool false) (.string ⟨#[]⟩)
  clear A1 k1
  go_wp2
  obtain ⟨d0, d1, d2, d3, d4, kz⟩ := D.out
  unfold put5 at d0 d1 d2 d3 d4 kz
  try simp only [Exit.inBlock, Exit.then]
  refine bodyPost_ret (v := .tuple #[.agg #[.int .i64 0, .string ⟨#[]⟩, .slice none 0 0, .bool false, .string ⟨#[]⟩], .int .i64 ((p + 3 : Nat) : Int), .bool true]) (by simp [results, go_sem, d0, d1, d2, d3, d4]) rfl ⟨rfl, kz⟩

set_option maxHeartbeats 1000000 in
set_option maxRecDepth 100000 in
theorem ref_read_sla (w : World) (s : ByteArray) (p : Nat) (b : Bool) (hs : s.size ≤ 100000) (h : st s p EMP = false) (h2 : st s p SLA = true) :
    Calls Tryz.prog 31 #[.string s, .int .i64 (p : Int), .bool b] w fun e w' => e = .returned (rv (mkF s (p : Int) b)) ∧ Kp [] w w' := by
  obtain ⟨g1, g2, g3⟩ := sla_is.1 h2
  have H1 := fun W => ref_starts_any W s (p : Int) EMP hs (by decide)
  have H2 := fun W => ref_starts_any W s (p : Int) SLA hs (by decide)
  have H3 := fun W => ref_starts_any W s (p : Int) QUE hs (by decide)
  have H4 := fun W => ref_starts_any W s (p : Int) EXC hs (by decide)
  have H5 := fun W => ref_starts_any W s (p : Int) COM hs (by decide)
  have H6 := fun W => ref_fold_any W s ((p + 2 : Nat) : Int) WRD hs (by decide)
  have H7 := fun W => ref_starts_any W s (p : Int) CDA hs (by decide)
  rw [pl_of (by omega)] at H1 H2 H3 H4 H5 H7
  have o1 : ¬ (p : Int) < 0 := by omega
  have o2 : ¬ (s.size : Int) < (p : Int) := by omega
  rw [h] at H1
  rw [h2] at H2
  unfold EMP at H1
  unfold SLA at H2
  clear H3 H4 H5 H6 H7 h2
  by_cases h4 : p + 2 = s.size
  · rw [mk_no (begM_false (fun e => by
      rcases e.2.2 with g | g | g
      · rw [g3] at g; exact absurd g (by decide)
      · rw [g3] at g; exact absurd g (by decide)
      · omega))]
    have b4 : ((p : Int) + 2 == (s.size : Int)) = true := by simp only [beq_iff_eq]; omega
    unfold rv mv z3
    simp only []
    clear h h4 g2 g3
    have A1 := At.new w ZT 44
    have k1 : Kp [] w (w.alloc (.cells ZT 44)) := (Kp.refl _ _).alloc _
    go_enter Tryz.func31, Tryz.ntmps31
    go_wp2_with fail
    refine (H1 _).mono ?_
    rintro e w1 ⟨rfl, rfl⟩
    clear H1
    generalize w.alloc (.cells ZT 44) = W at A1 k1 ⊢
    go_wp2_with fail
    refine (H2 _).mono ?_
    rintro e w1 ⟨rfl, rfl⟩
    clear H2
    obtain ⟨c0, c1, c2, c3, c4⟩ := A1.cells5
    have f0 := fun j => A1.free j
    have D : Hid _ := laid5 k1 A1 (Nat.le_refl _) (.int .i64 0) (.string ⟨#[]⟩) (.slice none 0 0) (.bool false) (.string ⟨#[]⟩)
    clear A1 k1
    go_wp2
    obtain ⟨d0, d1, d2, d3, d4, kz⟩ := D.out
    unfold put5 at d0 d1 d2 d3 d4 kz
    try simp only [Exit.inBlock, Exit.then]
    refine bodyPost_ret (v := .tuple #[.agg #[.int .i64 0, .string ⟨#[]⟩, .slice none 0 0, .bool false, .string ⟨#[]⟩], .int .i64 (p : Int), .bool false]) (by simp [results, go_sem, d0, d1, d2, d3, d4]) rfl ⟨rfl, kz⟩
  have b4 : ((p : Int) + 2 == (s.size : Int)) = false := by simp only [beq_eq_false_iff_ne, ne_eq]; omega
  have i2 := index_at s ((p : Int) + 2) (p + 2) (by omega) (by omega)
  obtain ⟨q1, q2⟩ := bt_range s (p + 2)
  have HL := fun W => ref_letter_any W (bt s (p + 2))
  cases h5 : isLet (bt s (p + 2)) with
  | true =>
    rw [h5] at HL
    rw [mk_no (begM_false (fun e => by
      rcases e.2.2 with g | g | g
      · rw [g3] at g; exact absurd g (by decide)
      · rw [g3] at g; exact absurd g (by decide)
      · rw [h5] at g; exact absurd g.2.2 (by simp)))]
    unfold rv mv z3
    simp only []
    generalize bt s (p + 2) = x at i2 q1 q2 HL
    clear h h4 h5 g2 g3
    have A1 := At.new w ZT 44
    have k1 : Kp [] w (w.alloc (.cells ZT 44)) := (Kp.refl _ _).alloc _
    go_enter Tryz.func31, Tryz.ntmps31
    go_wp2_with fail
    refine (H1 _).mono ?_
    rintro e w1 ⟨rfl, rfl⟩
    clear H1
    generalize w.alloc (.cells ZT 44) = W at A1 k1 ⊢
    go_wp2_with fail
    refine (H2 _).mono ?_
    rintro e w1 ⟨rfl, rfl⟩
    clear H2
    go_wp2_with fail
    refine (HL _).mono ?_
    rintro e w1 ⟨rfl, rfl⟩
    clear HL
    obtain ⟨c0, c1, c2, c3, c4⟩ := A1.cells5
    have f0 := fun j => A1.free j
    have D : Hid _ := laid5 k1 A1 (Nat.le_refl _) (.int .i64 0) (.string ⟨#[]⟩) (.slice none 0 0) (.bool false) (.string ⟨#[]⟩)
    clear A1 k1
    go_wp2
    obtain ⟨d0, d1, d2, d3, d4, kz⟩ := D.out
    unfold put5 at d0 d1 d2 d3 d4 kz
    try simp only [Exit.inBlock, Exit.then]
    refine bodyPost_ret (v := .tuple #[.agg #[.int .i64 0, .string ⟨#[]⟩, .slice none 0 0, .bool false, .string ⟨#[]⟩], .int .i64 (p : Int), .bool false]) (by simp [results, go_sem, d0, d1, d2, d3, d4]) rfl ⟨rfl, kz⟩
  | false =>
    rw [h5] at HL
    rw [mk_yes (begM_true ⟨g1, g2, Or.inr (Or.inr ⟨g3, by omega, h5⟩)⟩), rd_sla h g3]
    generalize bt s (p + 2) = z at i2 q1 q2 HL
    have HC := fun W => bogus_any W s (p + 2) (by omega) hs
    unfold rv
    generalize oF s (p + 2) = R at HC ⊢
    obtain ⟨⟨k, x, y⟩, n⟩ := R
    unfold mv at HC ⊢
    simp only [] at HC ⊢
    push_cast at HC
    clear h h4 h5 g2 g3
    have A1 := At.new w ZT 44
    have k1 : Kp [] w (w.alloc (.cells ZT 44)) := (Kp.refl _ _).alloc _
    go_enter Tryz.func31, Tryz.ntmps31
    go_wp2_with fail
    refine (H1 _).mono ?_
    rintro e w1 ⟨rfl, rfl⟩
    clear H1
    generalize w.alloc (.cells ZT 44) = W at A1 k1 ⊢
    go_wp2_with fail
    refine (H2 _).mono ?_
    rintro e w1 ⟨rfl, rfl⟩
    clear H2
    go_wp2_with fail
    refine (HL _).mono ?_
    rintro e w1 ⟨rfl, rfl⟩
    clear HL
    go_wp2_with fail
    refine (HC _).mono ?_
    rintro e w1 ⟨rfl, k2⟩
    replace A1 := A1.kept k2 (by simp)
    replace k1 := k1.trans k2 (fun z hz => by simp at hz)
    clear HC k2
    obtain ⟨c0, c1, c2, c3, c4⟩ := A1.cells5
    have f0 := fun j => A1.free j
    have D : Hid _ := laid5 k1 A1 (Nat.le_refl _) (.int .i64 k) (.string x) (.slice none 0 0) (.bool false) (.string y)
    clear A1 k1
    go_wp2
    obtain ⟨d0, d1, d2, d3, d4, kz⟩ := D.out
    unfold put5 at d0 d1 d2 d3 d4 kz
    try simp only [Exit.inBlock, Exit.then]
    refine bodyPost_ret (v := .tuple #[.agg #[.int .i64 k, .string x, .slice none 0 0, .bool false, .string y], .int .i64 (n : Int), .bool true]) (by simp [results, go_sem, d0, d1, d2, d3, d4]) rfl ⟨rfl, kz⟩

set_option maxHeartbeats 1000000 in
set_option maxRecDepth 100000 in
theorem ref_read_que (w : World) (s : ByteArray) (p : Nat) (b : Bool) (hs : s.size ≤ 100000) (h : st s p EMP = false) (h2 : st s p SLA = false) (h3 : st s p QUE = true) :
    Calls Tryz.prog 31 #[.string s, .int .i64 (p : Int), .bool b] w fun e w' => e = .returned (rv (mkF s (p : Int) b)) ∧ Kp [] w w' := by
  obtain ⟨g1, g2, g3⟩ := que_is.1 h3
  have H1 := fun W => ref_starts_any W s (p : Int) EMP hs (by decide)
  have H2 := fun W => ref_starts_any W s (p : Int) SLA hs (by decide)
  have H3 := fun W => ref_starts_any W s (p : Int) QUE hs (by decide)
  have H4 := fun W => ref_starts_any W s (p : Int) EXC hs (by decide)
  have H5 := fun W => ref_starts_any W s (p : Int) COM hs (by decide)
  have H6 := fun W => ref_fold_any W s ((p + 2 : Nat) : Int) WRD hs (by decide)
  have H7 := fun W => ref_starts_any W s (p : Int) CDA hs (by decide)
  rw [pl_of (by omega)] at H1 H2 H3 H4 H5 H7
  have o1 : ¬ (p : Int) < 0 := by omega
  have o2 : ¬ (s.size : Int) < (p : Int) := by omega
  rw [h] at H1
  rw [h2] at H2
  rw [h3] at H3
  unfold EMP at H1
  unfold SLA at H2
  unfold QUE at H3
  clear H4 H5 H6 H7 h h2 h3
  rw [mk_yes (begM_true ⟨g1, g2, Or.inr (Or.inl g3)⟩), rd_que g3]
  have HC := fun W => bogus_any W s (p + 1) (by omega) hs
  unfold rv
  generalize oF s (p + 1) = R at HC ⊢
  obtain ⟨⟨k, x, y⟩, n⟩ := R
  unfold mv at HC ⊢
  simp only [] at HC ⊢
  push_cast at HC
  clear g2 g3
  have A1 := At.new w ZT 44
  have k1 : Kp [] w (w.alloc (.cells ZT 44)) := (Kp.refl _ _).alloc _
  go_enter Tryz.func31, Tryz.ntmps31
  go_wp2_with fail
  refine (H1 _).mono ?_
  rintro e w1 ⟨rfl, rfl⟩
  clear H1
  generalize w.alloc (.cells ZT 44) = W at A1 k1 ⊢
  go_wp2_with fail
  refine (H2 _).mono ?_
  rintro e w1 ⟨rfl, rfl⟩
  clear H2
  go_wp2_with fail
  refine (H3 _).mono ?_
  rintro e w1 ⟨rfl, rfl⟩
  clear H3
  go_wp2_with fail
  refine (HC _).mono ?_
  rintro e w1 ⟨rfl, k2⟩
  replace A1 := A1.kept k2 (by simp)
  replace k1 := k1.trans k2 (fun z hz => by simp at hz)
  clear HC k2
  obtain ⟨c0, c1, c2, c3, c4⟩ := A1.cells5
  have f0 := fun j => A1.free j
  have D : Hid _ := laid5 k1 A1 (Nat.le_refl _) (.int .i64 k) (.string x) (.slice none 0 0) (.bool false) (.string y)
  clear A1 k1
  go_wp2
  obtain ⟨d0, d1, d2, d3, d4, kz⟩ := D.out
  unfold put5 at d0 d1 d2 d3 d4 kz
  try simp only [Exit.inBlock, Exit.then]
  refine bodyPost_ret (v := .tuple #[.agg #[.int .i64 k, .string x, .slice none 0 0, .bool false, .string y], .int .i64 (n : Int), .bool true]) (by simp [results, go_sem, d0, d1, d2, d3, d4]) rfl ⟨rfl, kz⟩

set_option maxHeartbeats 1000000 in
set_option maxRecDepth 100000 in
theorem ref_read_no (w : World) (s : ByteArray) (p : Nat) (b : Bool) (hs : s.size ≤ 100000) (hp : p ≤ s.size) (h : st s p EMP = false) (h2 : st s p SLA = false) (h3 : st s p QUE = false) (h4 : st s p EXC = false) :
    Calls Tryz.prog 31 #[.string s, .int .i64 (p : Int), .bool b] w fun e w' => e = .returned (rv (mkF s (p : Int) b)) ∧ Kp [] w w' := by
  have H1 := fun W => ref_starts_any W s (p : Int) EMP hs (by decide)
  have H2 := fun W => ref_starts_any W s (p : Int) SLA hs (by decide)
  have H3 := fun W => ref_starts_any W s (p : Int) QUE hs (by decide)
  have H4 := fun W => ref_starts_any W s (p : Int) EXC hs (by decide)
  have H5 := fun W => ref_starts_any W s (p : Int) COM hs (by decide)
  have H6 := fun W => ref_fold_any W s ((p + 2 : Nat) : Int) WRD hs (by decide)
  have H7 := fun W => ref_starts_any W s (p : Int) CDA hs (by decide)
  rw [pl_of (by omega)] at H1 H2 H3 H4 H5 H7
  have o1 : ¬ (p : Int) < 0 := by omega
  have o2 : ¬ (s.size : Int) < (p : Int) := by omega
  rw [mk_no (begM_false (fun e => by
    rcases e.2.2 with g | g | g
    · have := exc_is.2 ⟨e.1, e.2.1, g⟩
      rw [h4] at this; cases this
    · have := que_is.2 ⟨e.1, e.2.1, g⟩
      rw [h3] at this; cases this
    · have := sla_is.2 ⟨e.1, e.2.1, g.1⟩
      rw [h2] at this; cases this))]
  rw [h] at H1
  rw [h2] at H2
  rw [h3] at H3
  rw [h4] at H4
  unfold EMP at H1
  unfold SLA at H2
  unfold QUE at H3
  unfold EXC at H4
  clear H5 H6 H7 h h2 h3 h4
  unfold rv mv z3
  simp only []
  have A1 := At.new w ZT 44
  have k1 : Kp [] w (w.alloc (.cells ZT 44)) := (Kp.refl _ _).alloc _
  go_enter Tryz.func31, Tryz.ntmps31
  go_wp2_with fail
  refine (H1 _).mono ?_
  rintro e w1 ⟨rfl, rfl⟩
  clear H1
  generalize w.alloc (.cells ZT 44) = W at A1 k1 ⊢
  go_wp2_with fail
  refine (H2 _).mono ?_
  rintro e w1 ⟨rfl, rfl⟩
  clear H2
  go_wp2_with fail
  refine (H3 _).mono ?_
  rintro e w1 ⟨rfl, rfl⟩
  clear H3
  go_wp2_with fail
  refine (H4 _).mono ?_
  rintro e w1 ⟨rfl, rfl⟩
  clear H4
  obtain ⟨c0, c1, c2, c3, c4⟩ := A1.cells5
  have f0 := fun j => A1.free j
  have D : Hid _ := laid5 k1 A1 (Nat.le_refl _) (.int .i64 0) (.string ⟨#[]⟩) (.slice none 0 0) (.bool false) (.string ⟨#[]⟩)
  clear A1 k1
  go_wp2
  obtain ⟨d0, d1, d2, d3, d4, kz⟩ := D.out
  unfold put5 at d0 d1 d2 d3 d4 kz
  try simp only [Exit.inBlock, Exit.then]
  refine bodyPost_ret (v := .tuple #[.agg #[.int .i64 0, .string ⟨#[]⟩, .slice none 0 0, .bool false, .string ⟨#[]⟩], .int .i64 (p : Int), .bool false]) (by simp [results, go_sem, d0, d1, d2, d3, d4]) rfl ⟨rfl, kz⟩

set_option maxHeartbeats 1000000 in
set_option maxRecDepth 100000 in
theorem ref_read_exc (w : World) (s : ByteArray) (p : Nat) (b : Bool) (hs : s.size ≤ 100000) (h : st s p EMP = false) (h2 : st s p SLA = false) (h3 : st s p QUE = false) (h4 : st s p EXC = true) :
    Calls Tryz.prog 31 #[.string s, .int .i64 (p : Int), .bool b] w fun e w' => e = .returned (rv (mkF s (p : Int) b)) ∧ Kp [] w w' := by
  obtain ⟨g1, g2, g3⟩ := exc_is.1 h4
  have H1 := fun W => ref_starts_any W s (p : Int) EMP hs (by decide)
  have H2 := fun W => ref_starts_any W s (p : Int) SLA hs (by decide)
  have H3 := fun W => ref_starts_any W s (p : Int) QUE hs (by decide)
  have H4 := fun W => ref_starts_any W s (p : Int) EXC hs (by decide)
  have H5 := fun W => ref_starts_any W s (p : Int) COM hs (by decide)
  have H6 := fun W => ref_fold_any W s ((p + 2 : Nat) : Int) WRD hs (by decide)
  have H7 := fun W => ref_starts_any W s (p : Int) CDA hs (by decide)
  rw [pl_of (by omega)] at H1 H2 H3 H4 H5 H7
  have o1 : ¬ (p : Int) < 0 := by omega
  have o2 : ¬ (s.size : Int) < (p : Int) := by omega
  rw [pl_of (by omega), doc_word g2 g3] at H6
  push_cast at H6
  rw [mk_yes (begM_true ⟨g1, g2, Or.inl g3⟩), rd_exc g3]
  rw [h] at H1
  rw [h2] at H2
  rw [h3] at H3
  rw [h4] at H4
  unfold EMP at H1
  unfold SLA at H2
  unfold QUE at H3
  unfold EXC at H4
  clear h h2 h3 h4 g2 g3
  cases h5 : st s p COM with
  | true =>
    rw [h5] at H5
    rw [if_pos rfl]
    have h9 : p + 4 ≤ s.size := st_le h5
    unfold COM at H5
    clear H6 H7 h5
    have HC := fun W => ref_comment_any W s (p + 4) (by omega) hs
    unfold rv
    generalize cF s (p + 4) = R at HC ⊢
    obtain ⟨⟨k, x, y⟩, n⟩ := R
    unfold mv at HC ⊢
    simp only [] at HC ⊢
    push_cast at HC
    have A1 := At.new w ZT 44
    have k1 : Kp [] w (w.alloc (.cells ZT 44)) := (Kp.refl _ _).alloc _
    go_enter Tryz.func31, Tryz.ntmps31
    go_wp2_with fail
    refine (H1 _).mono ?_
    rintro e w1 ⟨rfl, rfl⟩
    clear H1
    generalize w.alloc (.cells ZT 44) = W at A1 k1 ⊢
    go_wp2_with fail
    refine (H2 _).mono ?_
    rintro e w1 ⟨rfl, rfl⟩
    clear H2
    go_wp2_with fail
    refine (H3 _).mono ?_
    rintro e w1 ⟨rfl, rfl⟩
    clear H3
    go_wp2_with fail
    refine (H4 _).mono ?_
    rintro e w1 ⟨rfl, rfl⟩
    clear H4
    go_wp2_with fail
    refine (H5 _).mono ?_
    rintro e w1 ⟨rfl, rfl⟩
    clear H5
    go_wp2_with fail
    refine (HC _).mono ?_
    rintro e w1 ⟨rfl, k2⟩
    replace A1 := A1.kept k2 (by simp)
    replace k1 := k1.trans k2 (fun z hz => by simp at hz)
    clear HC k2
    obtain ⟨c0, c1, c2, c3, c4⟩ := A1.cells5
    have f0 := fun j => A1.free j
    have D : Hid _ := laid5 k1 A1 (Nat.le_refl _) (.int .i64 k) (.string x) (.slice none 0 0) (.bool false) (.string y)
    clear A1 k1
    go_wp2
    obtain ⟨d0, d1, d2, d3, d4, kz⟩ := D.out
    unfold put5 at d0 d1 d2 d3 d4 kz
    try simp only [Exit.inBlock, Exit.then]
    refine bodyPost_ret (v := .tuple #[.agg #[.int .i64 k, .string x, .slice none 0 0, .bool false, .string y], .int .i64 (n : Int), .bool true]) (by simp [results, go_sem, d0, d1, d2, d3, d4]) rfl ⟨rfl, kz⟩
  | false =>
    rw [h5] at H5
    rw [if_neg (by simp)]
    unfold COM at H5
    clear h5
    cases h6 : fo s p DOC with
    | true =>
      rw [h6] at H6
      rw [if_pos rfl]
      have h9 : p + 9 ≤ s.size := fo_le h6
      unfold WRD at H6
      clear H7 h6
      have HK := fun W => ref_skip_any W s ((p + 9 : Nat) : Int) hs
      rw [pl_of (by omega)] at HK
      push_cast at HK
      unfold dF rv
      have hk := skip_is s (p := p + 9) h9
      generalize skipF s (p + 9) = a at HK hk ⊢
      have l1 := hk.lo
      have l2 := hk.hi
      have HU := fun W => ref_until_any W s (a : Int) DT hs (by decide)
      rw [pl_of l2] at HU
      have hu := until_is s DT l2
      generalize untilF s DT a = e at HU hu ⊢
      have l3 := hu.lo
      have l4 := hu.hi
      have HL := fun W => ref_lower_any W (s.extract a e) (by have := cut_le s a e; omega)
      generalize lower (s.extract a e) = y at HL ⊢
      have HF := fun W => ref_find_any W s (e : Int) GT hs (by decide)
      rw [pl_of l4] at HF
      rw [eN_one GT (by decide) l4]
      have l5 := (eP_is s [GT] l4).hi
      rw [eP_one s GT (by decide)] at l5
      generalize findF s GT e = t at HF l5 ⊢
      unfold GT at HF
      unfold DT at HU
      unfold mv
      simp only []
      clear hk hu
      by_cases h10 : t < s.size
      · rw [if_pos h10]
        have A1 := At.new w ZT 44
        have k1 : Kp [] w (w.alloc (.cells ZT 44)) := (Kp.refl _ _).alloc _
        go_enter Tryz.func31, Tryz.ntmps31
        go_wp2_with fail
        refine (H1 _).mono ?_
        rintro e w1 ⟨rfl, rfl⟩
        clear H1
        generalize w.alloc (.cells ZT 44) = W at A1 k1 ⊢
        go_wp2_with fail
        refine (H2 _).mono ?_
        rintro e w1 ⟨rfl, rfl⟩
        clear H2
        go_wp2_with fail
        refine (H3 _).mono ?_
        rintro e w1 ⟨rfl, rfl⟩
        clear H3
        go_wp2_with fail
        refine (H4 _).mono ?_
        rintro e w1 ⟨rfl, rfl⟩
        clear H4
        go_wp2_with fail
        refine (H5 _).mono ?_
        rintro e w1 ⟨rfl, rfl⟩
        clear H5
        go_wp2_with fail
        refine (H6 _).mono ?_
        rintro e w1 ⟨rfl, k2⟩
        replace A1 := A1.kept k2 (by simp)
        replace k1 := k1.trans k2 (fun z hz => by simp at hz)
        clear H6 k2
        go_wp2_with fail
        refine (HK _).mono ?_
        rintro e w1 ⟨rfl, rfl⟩
        clear HK
        go_wp2_with fail
        refine (HU _).mono ?_
        rintro e w1 ⟨rfl, rfl⟩
        clear HU
        go_wp2_with fail
        refine (HL _).mono ?_
        rintro e w1 ⟨rfl, k2⟩
        replace A1 := A1.kept k2 (by simp)
        replace k1 := k1.trans k2 (fun z hz => by simp at hz)
        clear HL k2
        have B := Bx.new k1 A1 (Nat.le_refl _) (.int .i64 1) (.string y) (.slice none 0 0) (.bool false) (.string ⟨#[]⟩)
        clear k1 A1
        go_wp2_with fail
        refine (HF _).mono ?_
        rintro e1 w2 ⟨rfl, rfl⟩
        clear HF
        obtain ⟨⟨x0, x1, x2, x3, x4⟩, _, ⟨c0, c1, c2, c3, c4⟩, f0⟩ := B.facts
        have D : Hid _ := laid5 B.kp B.r B.n0 (.int .i64 1) (.string y) (.slice none 0 0) (.bool false) (.string ⟨#[]⟩)
        clear B
        go_wp2
        obtain ⟨d0, d1, d2, d3, d4, kz⟩ := D.out
        unfold put5 at d0 d1 d2 d3 d4 kz
        refine bodyPost_ret (v := .tuple #[.agg #[.int .i64 1, .string y, .slice none 0 0, .bool false, .string ⟨#[]⟩], .int .i64 ((t + 1 : Nat) : Int), .bool true]) (by simp [results, go_sem, d0, d1, d2, d3, d4]) rfl ⟨rfl, kz⟩
      · rw [if_neg h10]
        obtain rfl : t = s.size := by omega
        have A1 := At.new w ZT 44
        have k1 : Kp [] w (w.alloc (.cells ZT 44)) := (Kp.refl _ _).alloc _
        go_enter Tryz.func31, Tryz.ntmps31
        go_wp2_with fail
        refine (H1 _).mono ?_
        rintro e w1 ⟨rfl, rfl⟩
        clear H1
        generalize w.alloc (.cells ZT 44) = W at A1 k1 ⊢
        go_wp2_with fail
        refine (H2 _).mono ?_
        rintro e w1 ⟨rfl, rfl⟩
        clear H2
        go_wp2_with fail
        refine (H3 _).mono ?_
        rintro e w1 ⟨rfl, rfl⟩
        clear H3
        go_wp2_with fail
        refine (H4 _).mono ?_
        rintro e w1 ⟨rfl, rfl⟩
        clear H4
        go_wp2_with fail
        refine (H5 _).mono ?_
        rintro e w1 ⟨rfl, rfl⟩
        clear H5
        go_wp2_with fail
        refine (H6 _).mono ?_
        rintro e w1 ⟨rfl, k2⟩
        replace A1 := A1.kept k2 (by simp)
        replace k1 := k1.trans k2 (fun z hz => by simp at hz)
        clear H6 k2
        go_wp2_with fail
        refine (HK _).mono ?_
        rintro e w1 ⟨rfl, rfl⟩
        clear HK
        go_wp2_with fail
        refine (HU _).mono ?_
        rintro e w1 ⟨rfl, rfl⟩
        clear HU
        go_wp2_with fail
        refine (HL _).mono ?_
        rintro e w1 ⟨rfl, k2⟩
        replace A1 := A1.kept k2 (by simp)
        replace k1 := k1.trans k2 (fun z hz => by simp at hz)
        clear HL k2
        have B := Bx.new k1 A1 (Nat.le_refl _) (.int .i64 1) (.string y) (.slice none 0 0) (.bool false) (.string ⟨#[]⟩)
        clear k1 A1
        go_wp2_with fail
        refine (HF _).mono ?_
        rintro e1 w2 ⟨rfl, rfl⟩
        clear HF
        obtain ⟨⟨x0, x1, x2, x3, x4⟩, _, ⟨c0, c1, c2, c3, c4⟩, f0⟩ := B.facts
        have D : Hid _ := laid5 B.kp B.r B.n0 (.int .i64 1) (.string y) (.slice none 0 0) (.bool false) (.string ⟨#[]⟩)
        clear B
        go_wp2
        obtain ⟨d0, d1, d2, d3, d4, kz⟩ := D.out
        unfold put5 at d0 d1 d2 d3 d4 kz
        refine bodyPost_ret (v := .tuple #[.agg #[.int .i64 1, .string y, .slice none 0 0, .bool false, .string ⟨#[]⟩], .int .i64 (s.size : Int), .bool true]) (by simp [results, go_sem, d0, d1, d2, d3, d4]) rfl ⟨rfl, kz⟩
    | false =>
      rw [h6] at H6
      rw [if_neg (by simp)]
      unfold WRD at H6
      clear h6
      cases b with
      | false =>
        rw [Bool.false_and, if_neg (by simp)]
        clear H7
        have HC := fun W => bogus_any W s (p + 2) (by omega) hs
        unfold rv
        generalize oF s (p + 2) = R at HC ⊢
        obtain ⟨⟨k, x, y⟩, n⟩ := R
        unfold mv at HC ⊢
        simp only [] at HC ⊢
        push_cast at HC
        have A1 := At.new w ZT 44
        have k1 : Kp [] w (w.alloc (.cells ZT 44)) := (Kp.refl _ _).alloc _
        go_enter Tryz.func31, Tryz.ntmps31
        go_wp2_with fail
        refine (H1 _).mono ?_
        rintro e w1 ⟨rfl, rfl⟩
        clear H1
        generalize w.alloc (.cells ZT 44) = W at A1 k1 ⊢
        go_wp2_with fail
        refine (H2 _).mono ?_
        rintro e w1 ⟨rfl, rfl⟩
        clear H2
        go_wp2_with fail
        refine (H3 _).mono ?_
        rintro e w1 ⟨rfl, rfl⟩
        clear H3
        go_wp2_with fail
        refine (H4 _).mono ?_
        rintro e w1 ⟨rfl, rfl⟩
        clear H4
        go_wp2_with fail
        refine (H5 _).mono ?_
        rintro e w1 ⟨rfl, rfl⟩
        clear H5
        go_wp2_with fail
        refine (H6 _).mono ?_
        rintro e w1 ⟨rfl, k2⟩
        replace A1 := A1.kept k2 (by simp)
        replace k1 := k1.trans k2 (fun z hz => by simp at hz)
        clear H6 k2
        go_wp2_with fail
        refine (HC _).mono ?_
        rintro e w1 ⟨rfl, k2⟩
        replace A1 := A1.kept k2 (by simp)
        replace k1 := k1.trans k2 (fun z hz => by simp at hz)
        clear HC k2
        obtain ⟨c0, c1, c2, c3, c4⟩ := A1.cells5
        have f0 := fun j => A1.free j
        have D : Hid _ := laid5 k1 A1 (Nat.le_refl _) (.int .i64 k) (.string x) (.slice none 0 0) (.bool false) (.string y)
        clear A1 k1
        go_wp2
        obtain ⟨d0, d1, d2, d3, d4, kz⟩ := D.out
        unfold put5 at d0 d1 d2 d3 d4 kz
        try simp only [Exit.inBlock, Exit.then]
        refine bodyPost_ret (v := .tuple #[.agg #[.int .i64 k, .string x, .slice none 0 0, .bool false, .string y], .int .i64 (n : Int), .bool true]) (by simp [results, go_sem, d0, d1, d2, d3, d4]) rfl ⟨rfl, kz⟩
      | true =>
        rw [Bool.true_and]
        cases h7 : st s p CDA with
        | false =>
          rw [h7] at H7
          rw [if_neg (by simp)]
          unfold CDA at H7
          clear h7
          have HC := fun W => bogus_any W s (p + 2) (by omega) hs
          unfold rv
          generalize oF s (p + 2) = R at HC ⊢
          obtain ⟨⟨k, x, y⟩, n⟩ := R
          unfold mv at HC ⊢
          simp only [] at HC ⊢
          push_cast at HC
          have A1 := At.new w ZT 44
          have k1 : Kp [] w (w.alloc (.cells ZT 44)) := (Kp.refl _ _).alloc _
          go_enter Tryz.func31, Tryz.ntmps31
          go_wp2_with fail
          refine (H1 _).mono ?_
          rintro e w1 ⟨rfl, rfl⟩
          clear H1
          generalize w.alloc (.cells ZT 44) = W at A1 k1 ⊢
          go_wp2_with fail
          refine (H2 _).mono ?_
          rintro e w1 ⟨rfl, rfl⟩
          clear H2
          go_wp2_with fail
          refine (H3 _).mono ?_
          rintro e w1 ⟨rfl, rfl⟩
          clear H3
          go_wp2_with fail
          refine (H4 _).mono ?_
          rintro e w1 ⟨rfl, rfl⟩
          clear H4
          go_wp2_with fail
          refine (H5 _).mono ?_
          rintro e w1 ⟨rfl, rfl⟩
          clear H5
          go_wp2_with fail
          refine (H6 _).mono ?_
          rintro e w1 ⟨rfl, k2⟩
          replace A1 := A1.kept k2 (by simp)
          replace k1 := k1.trans k2 (fun z hz => by simp at hz)
          clear H6 k2
          go_wp2_with fail
          refine (H7 _).mono ?_
          rintro e w1 ⟨rfl, rfl⟩
          clear H7
          go_wp2_with fail
          refine (HC _).mono ?_
          rintro e w1 ⟨rfl, k2⟩
          replace A1 := A1.kept k2 (by simp)
          replace k1 := k1.trans k2 (fun z hz => by simp at hz)
          clear HC k2
          obtain ⟨c0, c1, c2, c3, c4⟩ := A1.cells5
          have f0 := fun j => A1.free j
          have D : Hid _ := laid5 k1 A1 (Nat.le_refl _) (.int .i64 k) (.string x) (.slice none 0 0) (.bool false) (.string y)
          clear A1 k1
          go_wp2
          obtain ⟨d0, d1, d2, d3, d4, kz⟩ := D.out
          unfold put5 at d0 d1 d2 d3 d4 kz
          try simp only [Exit.inBlock, Exit.then]
          refine bodyPost_ret (v := .tuple #[.agg #[.int .i64 k, .string x, .slice none 0 0, .bool false, .string y], .int .i64 (n : Int), .bool true]) (by simp [results, go_sem, d0, d1, d2, d3, d4]) rfl ⟨rfl, kz⟩
        | true =>
          rw [h7] at H7
          rw [if_pos rfl]
          have h9 : p + 9 ≤ s.size := st_le h7
          unfold CDA at H7
          clear h7
          have HF := fun W => ref_find_any W s ((p + 9 : Nat) : Int) E3 hs (by decide)
          rw [pl_of h9] at HF
          push_cast at HF
          unfold kF rv
          rw [eN_one E3 (by decide) h9]
          have l4 := (eP_is s [E3] h9).lo
          have l5 := (eP_is s [E3] h9).hi
          rw [eP_one s E3 (by decide)] at l4 l5 ⊢
          have l6 : findF s E3 (p + 9) < s.size → findF s E3 (p + 9) + 3 ≤ s.size := fun hh => by
            have := eN_le s [E3] h9
            rw [eN_one E3 (by decide) h9, if_pos hh] at this
            exact this.2
          generalize findF s E3 (p + 9) = t at HF l4 l5 l6 ⊢
          unfold E3 at HF
          by_cases h8 : t = p + 9
          · subst h8
            rw [if_pos rfl]
            unfold mv z3
            simp only []
            by_cases h10 : p + 9 < s.size
            · rw [if_pos h10]
              have h11 := l6 h10
              have h12 : ((p : Int) + 9 < (s.size : Int)) := by omega
              clear l6
              push_cast at HF
              have A1 := At.new w ZT 44
              have k1 : Kp [] w (w.alloc (.cells ZT 44)) := (Kp.refl _ _).alloc _
              go_enter Tryz.func31, Tryz.ntmps31
              go_wp2_with fail
              refine (H1 _).mono ?_
              rintro e w1 ⟨rfl, rfl⟩
              clear H1
              generalize w.alloc (.cells ZT 44) = W at A1 k1 ⊢
              go_wp2_with fail
              refine (H2 _).mono ?_
              rintro e w1 ⟨rfl, rfl⟩
              clear H2
              go_wp2_with fail
              refine (H3 _).mono ?_
              rintro e w1 ⟨rfl, rfl⟩
              clear H3
              go_wp2_with fail
              refine (H4 _).mono ?_
              rintro e w1 ⟨rfl, rfl⟩
              clear H4
              go_wp2_with fail
              refine (H5 _).mono ?_
              rintro e w1 ⟨rfl, rfl⟩
              clear H5
              go_wp2_with fail
              refine (H6 _).mono ?_
              rintro e w1 ⟨rfl, k2⟩
              replace A1 := A1.kept k2 (by simp)
              replace k1 := k1.trans k2 (fun z hz => by simp at hz)
              clear H6 k2
              go_wp2_with fail
              refine (H7 _).mono ?_
              rintro e w1 ⟨rfl, rfl⟩
              clear H7
              go_wp2_with fail
              refine (HF _).mono ?_
              rintro e w1 ⟨rfl, rfl⟩
              clear HF
              have B := Bx.new k1 A1 (Nat.le_refl _) (.int .i64 0) (.string ⟨#[]⟩) (.slice none 0 0) (.bool false) (.string ⟨#[]⟩)
              obtain ⟨⟨x0, x1, x2, x3, x4⟩, _, ⟨c0, c1, c2, c3, c4⟩, f0⟩ := B.facts
              have D : Hid _ := laid5 B.kp B.r B.n0 (.int .i64 0) (.string ⟨#[]⟩) (.slice none 0 0) (.bool false) (.string ⟨#[]⟩)
              clear B k1 A1
              go_wp2
              obtain ⟨d0, d1, d2, d3, d4, kz⟩ := D.out
              unfold put5 at d0 d1 d2 d3 d4 kz
              refine bodyPost_ret (v := .tuple #[.agg #[.int .i64 0, .string ⟨#[]⟩, .slice none 0 0, .bool false, .string ⟨#[]⟩], .int .i64 ((p + 9 + 3 : Nat) : Int), .bool true]) (by simp [results, go_sem, d0, d1, d2, d3, d4]; omega) rfl ⟨rfl, kz⟩
            · rw [if_neg h10]
              have h12 : ¬ ((p : Int) + 9 < (s.size : Int)) := by omega
              clear l6
              push_cast at HF
              have A1 := At.new w ZT 44
              have k1 : Kp [] w (w.alloc (.cells ZT 44)) := (Kp.refl _ _).alloc _
              go_enter Tryz.func31, Tryz.ntmps31
              go_wp2_with fail
              refine (H1 _).mono ?_
              rintro e w1 ⟨rfl, rfl⟩
              clear H1
              generalize w.alloc (.cells ZT 44) = W at A1 k1 ⊢
              go_wp2_with fail
              refine (H2 _).mono ?_
              rintro e w1 ⟨rfl, rfl⟩
              clear H2
              go_wp2_with fail
              refine (H3 _).mono ?_
              rintro e w1 ⟨rfl, rfl⟩
              clear H3
              go_wp2_with fail
              refine (H4 _).mono ?_
              rintro e w1 ⟨rfl, rfl⟩
              clear H4
              go_wp2_with fail
              refine (H5 _).mono ?_
              rintro e w1 ⟨rfl, rfl⟩
              clear H5
              go_wp2_with fail
              refine (H6 _).mono ?_
              rintro e w1 ⟨rfl, k2⟩
              replace A1 := A1.kept k2 (by simp)
              replace k1 := k1.trans k2 (fun z hz => by simp at hz)
              clear H6 k2
              go_wp2_with fail
              refine (H7 _).mono ?_
              rintro e w1 ⟨rfl, rfl⟩
              clear H7
              go_wp2_with fail
              refine (HF _).mono ?_
              rintro e w1 ⟨rfl, rfl⟩
              clear HF
              have B := Bx.new k1 A1 (Nat.le_refl _) (.int .i64 0) (.string ⟨#[]⟩) (.slice none 0 0) (.bool false) (.string ⟨#[]⟩)
              obtain ⟨⟨x0, x1, x2, x3, x4⟩, _, ⟨c0, c1, c2, c3, c4⟩, f0⟩ := B.facts
              have D : Hid _ := laid5 B.kp B.r B.n0 (.int .i64 0) (.string ⟨#[]⟩) (.slice none 0 0) (.bool false) (.string ⟨#[]⟩)
              clear B k1 A1
              go_wp2
              obtain ⟨d0, d1, d2, d3, d4, kz⟩ := D.out
              unfold put5 at d0 d1 d2 d3 d4 kz
              refine bodyPost_ret (v := .tuple #[.agg #[.int .i64 0, .string ⟨#[]⟩, .slice none 0 0, .bool false, .string ⟨#[]⟩], .int .i64 (s.size : Int), .bool true]) (by simp [results, go_sem, d0, d1, d2, d3, d4]; omega) rfl ⟨rfl, kz⟩
          · rw [if_neg h8]
            have b8 : ((t : Int) == (p : Int) + 9) = false := by simp only [beq_eq_false_iff_ne, ne_eq]; omega
            unfold mv
            simp only []
            by_cases h10 : t < s.size
            · rw [if_pos h10]
              have h11 := l6 h10
              clear l6
              have A1 := At.new w ZT 44
              have k1 : Kp [] w (w.alloc (.cells ZT 44)) := (Kp.refl _ _).alloc _
              go_enter Tryz.func31, Tryz.ntmps31
              go_wp2_with fail
              refine (H1 _).mono ?_
              rintro e w1 ⟨rfl, rfl⟩
              clear H1
              generalize w.alloc (.cells ZT 44) = W at A1 k1 ⊢
              go_wp2_with fail
              refine (H2 _).mono ?_
              rintro e w1 ⟨rfl, rfl⟩
              clear H2
              go_wp2_with fail
              refine (H3 _).mono ?_
              rintro e w1 ⟨rfl, rfl⟩
              clear H3
              go_wp2_with fail
              refine (H4 _).mono ?_
              rintro e w1 ⟨rfl, rfl⟩
              clear H4
              go_wp2_with fail
              refine (H5 _).mono ?_
              rintro e w1 ⟨rfl, rfl⟩
              clear H5
              go_wp2_with fail
              refine (H6 _).mono ?_
              rintro e w1 ⟨rfl, k2⟩
              replace A1 := A1.kept k2 (by simp)
              replace k1 := k1.trans k2 (fun z hz => by simp at hz)
              clear H6 k2
              go_wp2_with fail
              refine (H7 _).mono ?_
              rintro e w1 ⟨rfl, rfl⟩
              clear H7
              go_wp2_with fail
              refine (HF _).mono ?_
              rintro e w1 ⟨rfl, rfl⟩
              clear HF
              have B := Bx.new k1 A1 (Nat.le_refl _) (.int .i64 4) (.string ⟨#[]⟩) (.slice none 0 0) (.bool false) (.string (s.extract (p + 9) t))
              obtain ⟨⟨x0, x1, x2, x3, x4⟩, _, ⟨c0, c1, c2, c3, c4⟩, f0⟩ := B.facts
              have D : Hid _ := laid5 B.kp B.r B.n0 (.int .i64 4) (.string ⟨#[]⟩) (.slice none 0 0) (.bool false) (.string (s.extract (p + 9) t))
              clear B k1 A1
              go_wp2
              obtain ⟨d0, d1, d2, d3, d4, kz⟩ := D.out
              unfold put5 at d0 d1 d2 d3 d4 kz
              refine bodyPost_ret (v := .tuple #[.agg #[.int .i64 4, .string ⟨#[]⟩, .slice none 0 0, .bool false, .string (s.extract (p + 9) t)], .int .i64 ((t + 3 : Nat) : Int), .bool true]) (by simp [results, go_sem, d0, d1, d2, d3, d4]) rfl ⟨rfl, kz⟩
            · rw [if_neg h10]
              obtain rfl : t = s.size := by omega
              clear l6
              have A1 := At.new w ZT 44
              have k1 : Kp [] w (w.alloc (.cells ZT 44)) := (Kp.refl _ _).alloc _
              go_enter Tryz.func31, Tryz.ntmps31
              go_wp2_with fail
              refine (H1 _).mono ?_
              rintro e w1 ⟨rfl, rfl⟩
              clear H1
              generalize w.alloc (.cells ZT 44) = W at A1 k1 ⊢
              go_wp2_with fail
              refine (H2 _).mono ?_
              rintro e w1 ⟨rfl, rfl⟩
              clear H2
              go_wp2_with fail
              refine (H3 _).mono ?_
              rintro e w1 ⟨rfl, rfl⟩
              clear H3
              go_wp2_with fail
              refine (H4 _).mono ?_
              rintro e w1 ⟨rfl, rfl⟩
              clear H4
              go_wp2_with fail
              refine (H5 _).mono ?_
              rintro e w1 ⟨rfl, rfl⟩
              clear H5
              go_wp2_with fail
              refine (H6 _).mono ?_
              rintro e w1 ⟨rfl, k2⟩
              replace A1 := A1.kept k2 (by simp)
              replace k1 := k1.trans k2 (fun z hz => by simp at hz)
              clear H6 k2
              go_wp2_with fail
              refine (H7 _).mono ?_
              rintro e w1 ⟨rfl, rfl⟩
              clear H7
              go_wp2_with fail
              refine (HF _).mono ?_
              rintro e w1 ⟨rfl, rfl⟩
              clear HF
              have B := Bx.new k1 A1 (Nat.le_refl _) (.int .i64 4) (.string ⟨#[]⟩) (.slice none 0 0) (.bool false) (.string (s.extract (p + 9) s.size))
              obtain ⟨⟨x0, x1, x2, x3, x4⟩, _, ⟨c0, c1, c2, c3, c4⟩, f0⟩ := B.facts
              have D : Hid _ := laid5 B.kp B.r B.n0 (.int .i64 4) (.string ⟨#[]⟩) (.slice none 0 0) (.bool false) (.string (s.extract (p + 9) s.size))
              clear B k1 A1
              go_wp2
              obtain ⟨d0, d1, d2, d3, d4, kz⟩ := D.out
              unfold put5 at d0 d1 d2 d3 d4 kz
              refine bodyPost_ret (v := .tuple #[.agg #[.int .i64 4, .string ⟨#[]⟩, .slice none 0 0, .bool false, .string (s.extract (p + 9) s.size)], .int .i64 (s.size : Int), .bool true]) (by simp [results, go_sem, d0, d1, d2, d3, d4]) rfl ⟨rfl, kz⟩

theorem mk_ref_read_any (w : World) (s : ByteArray) (a : Int) (b : Bool) (hs : s.size ≤ 100000) :
    Calls Tryz.prog 31 #[.string s, .int .i64 a, .bool b] w fun e w' => e = .returned (rv (mkF s a b)) ∧ Kp [] w w' := by
  by_cases h : a < 0 ∨ (s.size : Int) < a
  · exact ref_read_out w s a b hs h
  · obtain ⟨p, rfl⟩ : ∃ p : Nat, a = p := ⟨a.toNat, by omega⟩
    cases h1 : st s p EMP with
    | true => exact ref_read_emp w s p b hs h1
    | false =>
      cases h2 : st s p SLA with
      | true => exact ref_read_sla w s p b hs h1 h2
      | false =>
        cases h3 : st s p QUE with
        | true => exact ref_read_que w s p b hs h1 h2 h3
        | false =>
          cases h4 : st s p EXC with
          | true => exact ref_read_exc w s p b hs h1 h2 h3 h4
          | false => exact ref_read_no w s p b hs (by omega) h1 h2 h3 h4

end Go.Proofs.YtcfaejbbjmjgpaaGreatDoor
