/-
  The document's bogus and comment, of any text.
-/
import Derived.Test.YthdlmglnieomeaaParts
import Derived.Test.YthdlmglnieomeaaRefs
namespace Go.Proofs.Ythdlmglnieomeaa
open Go.RowKit Utf
set_option linter.unusedVariables false

set_option maxHeartbeats 1000000 in
set_option maxRecDepth 100000 in
theorem bogus_any (w : World) (s : ByteArray) (f : Nat) (hf : f ≤ s.size) (hs : s.size ≤ 100000) :
    Calls Try.prog 25 #[.string s, .int .i64 (f : Int)] w fun e w' => e = .returned (.tuple #[mv (oF s f).1, .int .i64 ((oF s f).2 : Int), .bool true]) ∧ Kp [] w w' := by
  have HF := fun W => ref_find_any W s (f : Int) GT hs (by decide)
  rw [pl_of hf] at HF
  have h1 := (eP_is s [GT] hf).lo
  have h2 := (eP_is s [GT] hf).hi
  unfold oF mv
  rw [eN_one GT (by decide) hf]
  rw [eP_one s GT (by decide)] at h1 h2 ⊢
  generalize findF s GT f = t at HF h1 h2 ⊢
  unfold GT at HF
  simp only []
  by_cases h3 : t < s.size
  · rw [if_pos h3]
    have A1 := At.new w ZT 32
    have k1 : Kp [] w (w.alloc (.cells ZT 32)) := (Kp.refl _ _).alloc _
    go_enter Try.func25, Try.ntmps25
    go_wp2_with fail
    refine (HF _).mono ?_
    rintro e w1 ⟨rfl, rfl⟩
    clear HF
    generalize w.alloc (.cells ZT 32) = W at A1 k1 ⊢
    have B := Bx.new k1 A1 (Nat.le_refl _) (.int .i64 5) (.string ⟨#[]⟩) (.slice none 0 0) (.bool false) (.string (s.extract f t))
    obtain ⟨⟨x0, x1, x2, x3, x4⟩, _, ⟨c0, c1, c2, c3, c4⟩, f0⟩ := B.facts
    have D : Hid _ := laid5 B.kp B.r B.n0 (.int .i64 5) (.string ⟨#[]⟩) (.slice none 0 0) (.bool false) (.string (s.extract f t))
    clear B k1 A1
    go_wp2
    obtain ⟨d0, d1, d2, d3, d4, kz⟩ := D.out
    unfold put5 at d0 d1 d2 d3 d4 kz
    refine bodyPost_ret (v := .tuple #[.agg #[.int .i64 5, .string ⟨#[]⟩, .slice none 0 0, .bool false, .string (s.extract f t)], .int .i64 ((t + 1 : Nat) : Int), .bool true]) (by simp [results, go_sem, d0, d1, d2, d3, d4]) rfl ⟨rfl, kz⟩
  · rw [if_neg h3]
    obtain rfl : t = s.size := by omega
    have A1 := At.new w ZT 32
    have k1 : Kp [] w (w.alloc (.cells ZT 32)) := (Kp.refl _ _).alloc _
    go_enter Try.func25, Try.ntmps25
    go_wp2_with fail
    refine (HF _).mono ?_
    rintro e w1 ⟨rfl, rfl⟩
    clear HF
    generalize w.alloc (.cells ZT 32) = W at A1 k1 ⊢
    have B := Bx.new k1 A1 (Nat.le_refl _) (.int .i64 5) (.string ⟨#[]⟩) (.slice none 0 0) (.bool false) (.string (s.extract f s.size))
    obtain ⟨⟨x0, x1, x2, x3, x4⟩, _, ⟨c0, c1, c2, c3, c4⟩, f0⟩ := B.facts
    have D : Hid _ := laid5 B.kp B.r B.n0 (.int .i64 5) (.string ⟨#[]⟩) (.slice none 0 0) (.bool false) (.string (s.extract f s.size))
    clear B k1 A1
    go_wp2
    obtain ⟨d0, d1, d2, d3, d4, kz⟩ := D.out
    unfold put5 at d0 d1 d2 d3 d4 kz
    refine bodyPost_ret (v := .tuple #[.agg #[.int .i64 5, .string ⟨#[]⟩, .slice none 0 0, .bool false, .string (s.extract f s.size)], .int .i64 (s.size : Int), .bool true]) (by simp [results, go_sem, d0, d1, d2, d3, d4]) rfl ⟨rfl, kz⟩

set_option maxHeartbeats 1000000 in
set_option maxRecDepth 100000 in
theorem ref_comment_any (w : World) (s : ByteArray) (f : Nat) (hf : f ≤ s.size) (hs : s.size ≤ 100000) :
    Calls Try.prog 26 #[.string s, .int .i64 (f : Int)] w fun e w' => e = .returned (.tuple #[mv (cF s f).1, .int .i64 ((cF s f).2 : Int), .bool true]) ∧ Kp [] w w' := by
  obtain ⟨V, hV⟩ : ∃ V, cF s f = V := ⟨_, rfl⟩
  rw [hV]
  unfold cF at hV
  have H1 := fun W => ref_starts_any W s (f : Int) GT hs (by decide)
  have H2 := fun W => ref_starts_any W s (f : Int) DGT hs (by decide)
  rw [pl_of hf] at H1 H2
  have A1 := At.new w ZT 32
  have k1 : Kp [] w (w.alloc (.cells ZT 32)) := (Kp.refl _ _).alloc _
  have hgw : Hid (w.heap.size ≤ w.heap.size) := Nat.le_refl _
  cases g1 : st s f GT with
  | true =>
    rw [g1] at H1
    rw [if_pos g1] at hV
    have hfit : f + 1 ≤ s.size := st_le g1
    have hV : Hid (_ = V) := hV
    unfold GT at H1
    clear H2 g1
    go_enter Try.func26, Try.ntmps26
    go_wp2_with fail
    refine (H1 _).mono ?_
    rintro e w1 ⟨rfl, rfl⟩
    clear H1
    generalize w.alloc (.cells ZT 32) = W at A1 k1 ⊢
    obtain ⟨c0, c1, c2, c3, c4⟩ := A1.cells5
    have f0 := fun j => A1.free j
    have D : Hid _ := laid5 k1 A1 hgw.out (.int .i64 5) (.string ⟨#[]⟩) (.slice none 0 0) (.bool false) (.string ⟨#[]⟩)
    clear A1 k1
    go_wp2
    obtain ⟨d0, d1, d2, d3, d4, kz⟩ := D.out
    unfold put5 at d0 d1 d2 d3 d4 kz
    try simp only [Exit.inBlock, Exit.then]
    refine bodyPost_ret (v := .tuple #[.agg #[.int .i64 5, .string ⟨#[]⟩, .slice none 0 0, .bool false, .string ⟨#[]⟩], .int .i64 ((f + 1 : Nat) : Int), .bool true]) (by simp [results, go_sem, d0, d1, d2, d3, d4]) rfl ⟨by rw [← hV.out]; rfl, kz⟩
  | false =>
    rw [g1] at H1
    rw [if_neg (by rw [g1]; simp)] at hV
    unfold GT at H1
    clear g1
    cases g2 : st s f DGT with
    | true =>
      rw [g2] at H2
      rw [if_pos g2] at hV
      have hfit : f + 2 ≤ s.size := st_le g2
      have hV : Hid (_ = V) := hV
      unfold DGT at H2
      clear g2
      go_enter Try.func26, Try.ntmps26
      go_wp2_with fail
      refine (H1 _).mono ?_
      rintro e w1 ⟨rfl, rfl⟩
      clear H1
      go_wp2_with fail
      refine (H2 _).mono ?_
      rintro e w1 ⟨rfl, rfl⟩
      clear H2
      generalize w.alloc (.cells ZT 32) = W at A1 k1 ⊢
      obtain ⟨c0, c1, c2, c3, c4⟩ := A1.cells5
      have f0 := fun j => A1.free j
      have D : Hid _ := laid5 k1 A1 hgw.out (.int .i64 5) (.string ⟨#[]⟩) (.slice none 0 0) (.bool false) (.string ⟨#[]⟩)
      clear A1 k1
      go_wp2
      obtain ⟨d0, d1, d2, d3, d4, kz⟩ := D.out
      unfold put5 at d0 d1 d2 d3 d4 kz
      try simp only [Exit.inBlock, Exit.then]
      refine bodyPost_ret (v := .tuple #[.agg #[.int .i64 5, .string ⟨#[]⟩, .slice none 0 0, .bool false, .string ⟨#[]⟩], .int .i64 ((f + 2 : Nat) : Int), .bool true]) (by simp [results, go_sem, d0, d1, d2, d3, d4]) rfl ⟨by rw [← hV.out]; rfl, kz⟩
    | false =>
      rw [g2] at H2
      rw [if_neg (by rw [g2]; simp)] at hV
      have hV : Hid ((if eP s ES f = s.size then (((5 : Int), ⟨#[]⟩, s.extract f (cutL s f DS)), s.size) else ((5, ⟨#[]⟩, s.extract f (eP s ES f)), eN s ES f)) = V) := hV
      unfold DGT at H2
      clear g2
      go_enter Try.func26, Try.ntmps26
      go_wp2_with fail
      refine (H1 _).mono ?_
      rintro e w1 ⟨rfl, rfl⟩
      clear H1
      go_wp2_with fail
      refine (H2 _).mono ?_
      rintro e w1 ⟨rfl, rfl⟩
      clear H2
      generalize w.alloc (.cells ZT 32) = W at A1 k1 ⊢
      obtain ⟨g0, hg0⟩ : ∃ g0, w.heap.size = g0 := ⟨_, rfl⟩
      rw [hg0] at A1 ⊢
      have hgw : Hid (w.heap.size ≤ g0) := by show _ ≤ _; omega
      clear hg0
      go_wp2
      go_loopw [7] (fun i wr => ∃ k : Nat, f ≤ k ∧ k ≤ s.size ∧ i = .int .i64 k ∧ wr = W ∧ Hid (∀ j, f ≤ j → j < k → pick s j ES = 0)) (fun i _ => s.size - (intOf i).toNat)
      case atStart => exact ⟨f, Nat.le_refl _, hf, rfl, rfl, fun j h1 h2 => by omega⟩
      case round =>
        obtain ⟨k, l1, l2, rfl, rfl, hb⟩ := hrel
        by_cases hlt : k < s.size
        · have J1 := ref_starts_any wr s (k : Int) E1 hs (by decide)
          have J2 := ref_starts_any wr s (k : Int) E2 hs (by decide)
          rw [pl_of l2] at J1 J2
          cases j1 : st s k E1 with
          | true =>
            have hp1 : pick s k ES = 3 := by unfold ES; rw [pick, if_pos j1]; rfl
            have he : eP s ES f = k := fs_eq ⟨l1, l2, fun j g1 g2 => by rw [hb.out j g1 g2]; rfl, fun _ => decide_eq_true (by rw [hp1]; decide)⟩
            have he2 : eN s ES f = k + 3 := by unfold eN; rw [he, hp1]
            have hV : Hid ((((5 : Int), ⟨#[]⟩, s.extract f k), k + 3) = V) := by
              show _ = _
              rw [← hV.out, he, he2, if_neg (by omega)]
            have hfit : k + 3 ≤ s.size := st_le j1
            rw [j1] at J1
            unfold E1 at J1
            clear J2 j1 hp1 he he2 hb
            go_wp2_with fail
            refine J1.mono ?_
            rintro e w1 ⟨rfl, rfl⟩
            clear J1
            obtain ⟨c0, c1, c2, c3, c4⟩ := A1.cells5
            have f0 := fun j => A1.free j
            have D : Hid _ := laid5 k1 A1 hgw.out (.int .i64 5) (.string ⟨#[]⟩) (.slice none 0 0) (.bool false) (.string (s.extract f k))
            clear A1 k1
            go_wp2
            obtain ⟨d0, d1, d2, d3, d4, kz⟩ := D.out
            unfold put5 at d0 d1 d2 d3 d4 kz
            try simp only [Exit.inBlock, Exit.then]
            refine bodyPost_ret (v := .tuple #[.agg #[.int .i64 5, .string ⟨#[]⟩, .slice none 0 0, .bool false, .string (s.extract f k)], .int .i64 ((k + 3 : Nat) : Int), .bool true]) (by simp [results, go_sem, d0, d1, d2, d3, d4]) rfl ⟨by rw [← hV.out]; rfl, kz⟩
          | false =>
            cases j2 : st s k E2 with
            | true =>
              have hp1 : pick s k ES = 4 := by unfold ES; rw [pick, if_neg (by rw [j1]; simp), pick, if_pos j2]; rfl
              have he : eP s ES f = k := fs_eq ⟨l1, l2, fun j g1 g2 => by rw [hb.out j g1 g2]; rfl, fun _ => decide_eq_true (by rw [hp1]; decide)⟩
              have he2 : eN s ES f = k + 4 := by unfold eN; rw [he, hp1]
              have hV : Hid ((((5 : Int), ⟨#[]⟩, s.extract f k), k + 4) = V) := by
                show _ = _
                rw [← hV.out, he, he2, if_neg (by omega)]
              have hfit : k + 4 ≤ s.size := st_le j2
              rw [j1] at J1
              rw [j2] at J2
              unfold E1 at J1
              unfold E2 at J2
              clear j1 j2 hp1 he he2 hb
              go_wp2_with fail
              refine J1.mono ?_
              rintro e w1 ⟨rfl, rfl⟩
              clear J1
              go_wp2_with fail
              refine J2.mono ?_
              rintro e w1 ⟨rfl, rfl⟩
              clear J2
              obtain ⟨c0, c1, c2, c3, c4⟩ := A1.cells5
              have f0 := fun j => A1.free j
              have D : Hid _ := laid5 k1 A1 hgw.out (.int .i64 5) (.string ⟨#[]⟩) (.slice none 0 0) (.bool false) (.string (s.extract f k))
              clear A1 k1
              go_wp2
              obtain ⟨d0, d1, d2, d3, d4, kz⟩ := D.out
              unfold put5 at d0 d1 d2 d3 d4 kz
              try simp only [Exit.inBlock, Exit.then]
              refine bodyPost_ret (v := .tuple #[.agg #[.int .i64 5, .string ⟨#[]⟩, .slice none 0 0, .bool false, .string (s.extract f k)], .int .i64 ((k + 4 : Nat) : Int), .bool true]) (by simp [results, go_sem, d0, d1, d2, d3, d4]) rfl ⟨by rw [← hV.out]; rfl, kz⟩
            | false =>
              have hp1 : pick s k ES = 0 := by unfold ES; rw [pick, if_neg (by rw [j1]; simp), pick, if_neg (by rw [j2]; simp)]; rfl
              have hb2 : Hid (∀ j, f ≤ j → j < k + 1 → pick s j ES = 0) := fun j g1 g2 => by
                by_cases hjk : j = k
                · rw [hjk]; exact hp1
                · exact hb.out j g1 (by omega)
              rw [j1] at J1
              rw [j2] at J2
              unfold E1 at J1
              unfold E2 at J2
              clear j1 j2 hp1 hb
              go_wp2_with fail
              refine J1.mono ?_
              rintro e w1 ⟨rfl, rfl⟩
              clear J1
              go_wp2_with fail
              refine J2.mono ?_
              rintro e w1 ⟨rfl, rfl⟩
              clear J2
              go_wp2
              go_roundw
              case rel => exact ⟨k + 1, by omega, by omega, by go_num, trivial, hb2⟩
              case measure => simp [intOf]; omega
        · obtain rfl : k = s.size := by omega
          have he : eP s ES f = s.size := fs_eq ⟨l1, l2, fun j g1 g2 => by rw [hb.out j g1 g2]; rfl, fun h => by omega⟩
          have hV : Hid ((((5 : Int), ⟨#[]⟩, s.extract f (cutL s f DS)), s.size) = V) := by
            show _ = _
            rw [← hV.out, if_pos he]
          clear he hb
          have R0 : Rb (wr.alloc (.cells (tx DS).toArray 9)) (some ⟨wr.heap.size, 0, none⟩) 3 3 (tx DS) := rb_lit wr 9 _ (tx DS) 3 rfl rfl (by omega)
          have k2 : Kp [] wr (wr.alloc (.cells (tx DS).toArray 9)) := (Kp.refl _ _).alloc _
          have A2 := A1.kept k2 (by simp)
          have k3 := k1.trans k2 (fun z hz => by simp at hz)
          clear k2
          go_wp2
          rw [show #[Value.string { data := #[45, 45, 33] }, Value.string { data := #[45, 45] }, Value.string { data := #[45] }] = (tx DS).toArray from rfl]
          generalize wr.alloc (.cells (tx DS).toArray 9) = W2 at R0 A2 k3 ⊢
          generalize some (⟨wr.heap.size, 0, none⟩ : Addr) = ta at R0 ⊢
          clear A1 k1
          go_loopw [8, 54] (fun en i wy => ∃ m e : Nat, m ≤ 3 ∧ i = .int .i64 m ∧ en = .int .i64 e ∧ wy = W2 ∧ f ≤ e ∧ e ≤ s.size ∧ Hid (e = cutL s f (DS.take m))) (fun _ i _ => 3 - (intOf i).toNat)
          case atStart => exact ⟨0, s.size, Nat.zero_le _, rfl, rfl, rfl, hf, Nat.le_refl _, rfl⟩
          case round =>
            obtain ⟨m, e, h3, rfl, rfl, rfl, m1, m2, hc⟩ := hrel
            by_cases hlt2 : m < 3
            · obtain ⟨b, o, rfl, hcell⟩ := R0.tx_at m (by rw [show DS.length = 3 from rfl]; exact hlt2)
              have hx0 := ds_solid (DS[m]'(by rw [show DS.length = 3 from rfl]; exact hlt2)) (List.getElem_mem _)
              have hst : cutL s f (DS.take (m + 1)) = if cutL s f (DS.take m) = s.size then cutL s f [DS[m]'(by rw [show DS.length = 3 from rfl]; exact hlt2)] else cutL s f (DS.take m) := by
                rw [List.take_succ_eq_append_getElem (by rw [show DS.length = 3 from rfl]; exact hlt2)]
                exact cutL_snoc s f _ _ (fun y hy => ds_solid y (List.mem_of_mem_take hy))
              rw [← hc.out] at hst
              have hx1 : (DS[m]'(by rw [show DS.length = 3 from rfl]; exact hlt2)).size ≤ 3 := by
                rcases (show m = 0 ∨ m = 1 ∨ m = 2 by omega) with rfl | rfl | rfl
                · show D3.size ≤ 3; decide
                · show D2.size ≤ 3; decide
                · show D1.size ≤ 3; decide
              generalize (DS[m]'(by rw [show DS.length = 3 from rfl]; exact hlt2)) = x at hcell hst hx0 hx1
              by_cases he : e = s.size
              · rw [if_pos he] at hst
                subst he
                by_cases hle : f + x.size ≤ s.size
                · have q1 : (x.size : Int) ≤ (s.size : Int) - (f : Int) := by omega
                  have hq : ((s.extract (s.size - x.size) s.size).toList == x.toList) = st s (s.size - x.size) x := by
                    rw [st_cut (by omega), list_eq, show s.size - x.size + x.size = s.size by omega]
                  cases hx : st s (s.size - x.size) x with
                  | true =>
                    have hd : Hid (s.size - x.size = cutL s f (DS.take (m + 1))) := by
                      show _ = _
                      rw [hst, cutL, if_pos ⟨hle, hx⟩]
                    rw [hx] at hq
                    clear hst hc hx
                    go_wp2
                    go_roundw
                    case rel => exact ⟨m + 1, s.size - x.size, by omega, by go_num, by congr 1; omega, trivial, by omega, by omega, hd⟩
                    case measure => simp [intOf]; omega
                  | false =>
                    have hd : Hid (s.size = cutL s f (DS.take (m + 1))) := by
                      show _ = _
                      rw [hst, cutL, if_neg (by rw [hx]; simp)]
                      rfl
                    rw [hx] at hq
                    clear hst hc hx
                    go_wp2
                    go_roundw
                    case rel => exact ⟨m + 1, s.size, by omega, by go_num, rfl, trivial, hf, Nat.le_refl _, hd⟩
                    case measure => simp [intOf]; omega
                · have q1 : ¬ (x.size : Int) ≤ (s.size : Int) - (f : Int) := by omega
                  have hd : Hid (s.size = cutL s f (DS.take (m + 1))) := by
                    show _ = _
                    rw [hst, cutL, if_neg (by omega)]
                    rfl
                  clear hst hc
                  go_wp2
                  go_roundw
                  case rel => exact ⟨m + 1, s.size, by omega, by go_num, rfl, trivial, hf, Nat.le_refl _, hd⟩
                  case measure => simp [intOf]; omega
              · rw [if_neg he] at hst
                have b1 : ((e : Int) == (s.size : Int)) = false := by simp only [beq_eq_false_iff_ne, ne_eq]; omega
                have hd : Hid (e = cutL s f (DS.take (m + 1))) := hst.symm
                clear hst hc he
                go_wp2
                go_roundw
                case rel => exact ⟨m + 1, e, by omega, by go_num, rfl, trivial, m1, m2, hd⟩
                case measure => simp [intOf]; omega
            · obtain rfl : m = 3 := by omega
              have hV : Hid ((((5 : Int), ⟨#[]⟩, s.extract f e), s.size) = V) := by
                show _ = _
                rw [← hV.out, hc.out]
                rfl
              clear hc R0
              obtain ⟨c0, c1, c2, c3, c4⟩ := A2.cells5
              have f0 := fun j => A2.free j
              have D : Hid _ := laid5 k3 A2 hgw.out (.int .i64 5) (.string ⟨#[]⟩) (.slice none 0 0) (.bool false) (.string (s.extract f e))
              clear A2 k3
              go_wp2
              obtain ⟨d0, d1, d2, d3, d4, kz⟩ := D.out
              unfold put5 at d0 d1 d2 d3 d4 kz
              try simp only [Exit.inBlock, Exit.then]
              refine bodyPost_ret (v := .tuple #[.agg #[.int .i64 5, .string ⟨#[]⟩, .slice none 0 0, .bool false, .string (s.extract f e)], .int .i64 (s.size : Int), .bool true]) (by simp [results, go_sem, d0, d1, d2, d3, d4]) rfl ⟨by rw [← hV.out]; rfl, kz⟩

end Go.Proofs.Ythdlmglnieomeaa
