/-
  The document's lexer: Next, in every mode; how long the last name is.
-/
import Derived.Test.YtcfaejbbjmjgpaaGreatDoorRlexE
import Derived.Test.YtcfaejbbjmjgpaaGreatDoorRlexF
namespace Go.Proofs.YtcfaejbbjmjgpaaGreatDoor
open Go.RowKit Utf
set_option linter.unusedVariables false

theorem tgF_last {s last : ByteArray} {p : Nat} (h : ¬ (begF s (p : Int)).1 = 0) (hz : last.size ≤ s.size) : (tgF s last p).2.2.size ≤ s.size := by
  unfold tgF
  rcases tag_facts h with g | ⟨e, g1, _, _, _, _, _, g7, _⟩
  · rw [g]; exact hz
  · rw [if_pos (by rw [g1])]
    show (if _ then _ else _ : ByteArray).size ≤ _
    split
    · exact g7
    · exact hz
theorem datF_last {s last : ByteArray} {fg : Bool} (hz : last.size ≤ s.size) : ∀ n p, (datF s fg last n p).2.2.size ≤ s.size
  | 0, p => hz
  | n + 1, p => by
    unfold datF
    split
    · exact hz
    split
    · rename_i h
      exact tgF_last h hz
    split
    · split
      · exact datF_last hz n _
      · exact hz
    · exact hz
theorem nextF_last {s last : ByteArray} {md : Int} {fg : Bool} {p : Nat} (hz : last.size ≤ s.size) (hn : nmOk last) : (nextF s md fg last p).2.2.2.size ≤ s.size := by
  unfold nextF
  split
  · exact hz
  split
  · exact datF_last hz _ _
  split
  · rename_i h
    exact tgF_last (by rw [clo_beg hn h.2]; show ¬ (3 : Int) = 0; decide) hz
  · exact hz

set_option maxHeartbeats 1000000 in
set_option maxRecDepth 100000 in
theorem rnext_end (w : World) (b : Nat) (s : ByteArray) (md : Int) (fg : Bool) (last : ByteArray) (h : Ly w b s s.size md fg last) (hs : s.size ≤ 4000) :
    Calls Tryz.prog 17 #[.pointer (some ⟨b, 0, none⟩)] w fun e w' => e = .returned (tv 6 ⟨#[]⟩ none 0 0 false ⟨#[]⟩) ∧ Nyt w w' b none 0 0 [] s s.size md fg last := by
  obtain ⟨g0, hg0⟩ : ∃ g0, w.heap.size = g0 := ⟨_, rfl⟩
  have hlt := h.lt
  have hbg : g0 ≠ b := by omega
  have hgw : Hid (w.heap.size ≤ g0) := by show _ ≤ _; omega
  have k0 : Kp [b] w (w.alloc (.cells ZT 44)) := (Kp.refl _ _).alloc _
  have A0 : At (w.alloc (.cells ZT 44)) g0 ZT 44 := by rw [← hg0]; exact At.new w ZT 44
  have L0 := h.kept ((Kp.refl [] w).alloc (.cells ZT 44)) (by simp)
  unfold tv
  clear h
  go_enter Tryz.func17, Tryz.ntmps17
  go_wp2_with fail
  generalize w.alloc (.cells ZT 44) = W1 at k0 A0 L0 ⊢
  clear hg0
  go_loopw [] (fun wr => wr = W1) (fun _ => 0)
  case atStart => rfl
  case round =>
    subst hrel
    obtain ⟨⟨c0, c1, c2, c3, c4⟩, hf⟩ := L0.facts
    have b1 : decide ((s.size : Int) < (s.size : Int)) = false := decide_eq_false (by omega)
    go_wp2_with fail
    go_quiet (fail)
    have kV := k0.drewN nq
    have LV : Ly (wr.drewN nq) b s s.size md fg last := L0.kept ((Kp.refl [] wr).drewN nq) (by simp)
    have AV : At (wr.drewN nq) g0 ZT 44 := A0.kept ((Kp.refl [] wr).drewN nq) (by simp)
    have D : Hid _ := nyt_fin (nyt_none kV LV) AV hgw.out hbg (fun z hz => by simp [blk] at hz) (.int .i64 6) (.string ⟨#[]⟩) (.slice none 0 0) (.bool false) (.string ⟨#[]⟩)
    obtain ⟨y0, y1, y2, y3, y4⟩ := AV.cells5
    have yf := fun j => AV.free j
    clear LV AV kV L0 A0 k0 c0 c1 c2 c3 c4 hf
    go_wp2
    obtain ⟨d0, d1, d2, d3, d4, N⟩ := D.out
    unfold put5 at d0 d1 d2 d3 d4 N
    try simp only [Exit.inBlock, Exit.then]
    refine bodyPost_ret (v := .agg #[.int .i64 6, .string ⟨#[]⟩, .slice none 0 0, .bool false, .string ⟨#[]⟩]) (by simp [results, go_sem, d0, d1, d2, d3, d4]) rfl ⟨rfl, N⟩

set_option maxHeartbeats 1000000 in
set_option maxRecDepth 100000 in
theorem rnext_raw (w : World) (b : Nat) (s : ByteArray) (p : Nat) (md : Int) (fg : Bool) (last : ByteArray) (h : Ly w b s p md fg last) (hp : p < s.size) (hs : s.size ≤ 4000) (hm : md = 2 ∨ md = 3) (hl : nmOk last) (hz : last.size ≤ 4000) :
    Calls Tryz.prog 17 #[.pointer (some ⟨b, 0, none⟩)] w fun e w' => ∃ ao n c, e = .returned (tv (nextF s md fg last p).1.1 (nextF s md fg last p).1.2.1 ao n c (nextF s md fg last p).1.2.2.2.1 (nextF s md fg last p).1.2.2.2.2) ∧ Nyt w w' b ao n c (nextF s md fg last p).1.2.2.1 s (nextF s md fg last p).2.1 (nextF s md fg last p).2.2.1 fg (nextF s md fg last p).2.2.2 := by
  obtain ⟨g0, hg0⟩ : ∃ g0, w.heap.size = g0 := ⟨_, rfl⟩
  have hlt := h.lt
  have hbg : g0 ≠ b := by omega
  have hgw : Hid (w.heap.size ≤ g0) := by show _ ≤ _; omega
  have k0 : Kp [b] w (w.alloc (.cells ZT 44)) := (Kp.refl _ _).alloc _
  have A0 : At (w.alloc (.cells ZT 44)) g0 ZT 44 := by rw [← hg0]; exact At.new w ZT 44
  have L0 := h.kept ((Kp.refl [] w).alloc (.cells ZT 44)) (by simp)
  have HX : Hid (∀ W, Ly W b s p md fg last → _) := fun W LW => rraw_any W b s p md fg last LW hp hs hm hl hz
  obtain ⟨T, hT⟩ : ∃ T, nextF s md fg last p = T := ⟨_, rfl⟩
  rw [hT] at HX ⊢
  obtain ⟨⟨vk, vx, vl, vb, vy⟩, ve, vm, vn⟩ := T
  unfold tv at HX ⊢
  simp only [] at HX ⊢
  clear h hT
  go_enter Tryz.func17, Tryz.ntmps17
  go_wp2_with fail
  generalize w.alloc (.cells ZT 44) = W1 at k0 A0 L0 ⊢
  clear hg0
  go_loopw [] (fun wr => wr = W1) (fun _ => 0)
  case atStart => rfl
  case round =>
    subst hrel
    obtain ⟨⟨c0, c1, c2, c3, c4⟩, hf⟩ := L0.facts
    have b1 : decide ((p : Int) < (s.size : Int)) = true := decide_eq_true (by omega)
    go_wp2_with fail
    go_quiet (fail)
    have kV := k0.drewN nq
    have LV : Ly (wr.drewN nq) b s p md fg last := L0.kept ((Kp.refl [] wr).drewN nq) (by simp)
    have AV : At (wr.drewN nq) g0 ZT 44 := A0.kept ((Kp.refl [] wr).drewN nq) (by simp)
    generalize wr.drewN nq = V at kV LV AV ⊢
    have HY := HX.out V LV
    have zg := AV.lt
    clear c0 c1 c2 c3 c4 hf HX L0 A0 k0
    obtain ⟨⟨c0, c1, c2, c3, c4⟩, hf⟩ := LV.facts
    rcases hm with rfl | rfl
    all_goals
      go_wp2_with fail
      refine HY.mono ?_
      rintro e v3 ⟨ao, n, c, rfl, N1⟩
      have N2 := N1.back kV
      have AU := AV.kept N1.kp (by simpa using hbg)
      have D : Hid _ := nyt_fin N2 AU hgw.out hbg (fun z hz => by have := N1.nw z hz; omega) (.int .i64 vk) (.string vx) (.slice ao n c) (.bool vb) (.string vy)
      obtain ⟨y0, y1, y2, y3, y4⟩ := AU.cells5
      have yf := fun j => AU.free j
      clear HY N1 N2 AU LV AV kV c0 c1 c2 c3 c4 hf
      go_wp2
      obtain ⟨d0, d1, d2, d3, d4, N⟩ := D.out
      unfold put5 at d0 d1 d2 d3 d4 N
      try simp only [Exit.inBlock, Exit.then]
      refine bodyPost_ret (v := .agg #[.int .i64 vk, .string vx, .slice ao n c, .bool vb, .string vy]) (by simp [results, go_sem, d0, d1, d2, d3, d4]) rfl ⟨ao, n, c, rfl, N⟩

set_option maxHeartbeats 1000000 in
set_option maxRecDepth 100000 in
theorem rnext_plain (w : World) (b : Nat) (s : ByteArray) (p : Nat) (fg : Bool) (last : ByteArray) (h : Ly w b s p 4 fg last) (hp : p < s.size) (hs : s.size ≤ 4000) :
    Calls Tryz.prog 17 #[.pointer (some ⟨b, 0, none⟩)] w fun e w' => e = .returned (tv 4 ⟨#[]⟩ none 0 0 false (s.extract p s.size)) ∧ Nyt w w' b none 0 0 [] s s.size 4 fg last := by
  obtain ⟨g0, hg0⟩ : ∃ g0, w.heap.size = g0 := ⟨_, rfl⟩
  have hlt := h.lt
  have hbg : g0 ≠ b := by omega
  have hgw : Hid (w.heap.size ≤ g0) := by show _ ≤ _; omega
  have k0 : Kp [b] w (w.alloc (.cells ZT 44)) := (Kp.refl _ _).alloc _
  have A0 : At (w.alloc (.cells ZT 44)) g0 ZT 44 := by rw [← hg0]; exact At.new w ZT 44
  have L0 := h.kept ((Kp.refl [] w).alloc (.cells ZT 44)) (by simp)
  unfold tv
  clear h
  go_enter Tryz.func17, Tryz.ntmps17
  go_wp2_with fail
  generalize w.alloc (.cells ZT 44) = W1 at k0 A0 L0 ⊢
  clear hg0
  go_loopw [] (fun wr => wr = W1) (fun _ => 0)
  case atStart => rfl
  case round =>
    subst hrel
    obtain ⟨⟨c0, c1, c2, c3, c4⟩, hf⟩ := L0.facts
    have b1 : decide ((p : Int) < (s.size : Int)) = true := decide_eq_true (by omega)
    go_wp2_with fail
    go_quiet (fail)
    have KV := k0.drewN nq
    have LV : Ly (wr.drewN nq) b s p 4 fg last := L0.kept ((Kp.refl [] wr).drewN nq) (by simp)
    have AV : At (wr.drewN nq) g0 ZT 44 := A0.kept ((Kp.refl [] wr).drewN nq) (by simp)
    generalize wr.drewN nq = V at KV LV AV ⊢
    clear c0 c1 c2 c3 c4 hf L0 A0 k0
    have CC : Hid (∀ W, Kp [] V W → W.cell? ⟨b, 0, none⟩ = some (.string s) ∧ W.cell? ⟨b, 1, none⟩ = some (.int .i64 (p : Int))) := fun W kW => by
      obtain ⟨⟨d0, d1, _, _, _⟩, _⟩ := (LV.kept kW (by simp)).facts
      exact ⟨d0, d1⟩
    have K3 : Hid (∀ o, Kp [] V (V.alloc o).drew) := fun o => ((Kp.refl [] V).alloc o).drew
    have K4 : Hid (∀ o, Kp [] V (V.drew.alloc o)) := fun o => (Kp.refl [] V).drew.alloc o
    have i1 : (0 : Int) ≤ (p : Int) := by omega
    have i2 : (p : Int) ≤ (s.size : Int) := by omega
    obtain ⟨⟨c0, c1, c2, c3, c4⟩, hf⟩ := LV.facts
    go_wp2_with fail
    go_region_held3 (fun w' => w'.cell? ⟨b, 0, none⟩ = some (.string s) ∧ w'.cell? ⟨b, 1, none⟩ = some (.int .i64 (p : Int)))
      (first | with_reducible exact CC.out _ (Kp.refl [] V).drew | with_reducible exact CC.out _ (K3.out _) | with_reducible exact CC.out _ (K4.out _) | exact CC.out _ ((Kp.refl [] V).drew.alloc _))
      (fail)
    clear CC K3 K4
    have kA : Kp [] V (V.alloc (.cells #[.int .i64 4, .string ⟨#[]⟩, .slice none 0 0, .bool false, .string (s.extract p s.size)] 44)).drew := ((Kp.refl [] V).alloc _).drew
    have TU : At (V.alloc (.cells #[.int .i64 4, .string ⟨#[]⟩, .slice none 0 0, .bool false, .string (s.extract p s.size)] 44)).drew V.heap.size #[.int .i64 4, .string ⟨#[]⟩, .slice none 0 0, .bool false, .string (s.extract p s.size)] 44 := (At.new _ _ _).kept (Kp.refl [] _).drew (by simp)
    have LU := LV.kept kA (by simp)
    have AU := AV.kept kA (by simp)
    have kU := KV.trans kA (fun z hz => by simp at hz)
    have zb := LV.lt
    clear LV AV KV kA c0 c1 c2 c3 c4 hf
    generalize (V.alloc (.cells #[.int .i64 4, .string ⟨#[]⟩, .slice none 0 0, .bool false, .string (s.extract p s.size)] 44)).drew = U at TU LU AU kU ⊢
    generalize V.heap.size = gt at TU zb ⊢
    have hbt : gt ≠ b := by omega
    obtain ⟨⟨c0, c1, c2, c3, c4⟩, hf⟩ := LU.facts
    have TZ := TU.other hbt.symm 1 (.int .i64 (s.size : Int))
    have LZ := LU.setAt s.size
    have AZ := AU.other hbg.symm 1 (.int .i64 (s.size : Int))
    have kZ := kU.setCell (p := ⟨b, 1, none⟩) (Or.inl (by simp)) (.int .i64 (s.size : Int))
    have D : Hid _ := nyt_fin (nyt_none kZ LZ) AZ hgw.out hbg (fun z hz => by simp [blk] at hz) (.int .i64 4) (.string ⟨#[]⟩) (.slice none 0 0) (.bool false) (.string (s.extract p s.size))
    obtain ⟨y0, y1, y2, y3, y4⟩ := AZ.cells5
    have yf := fun j => AZ.free j
    obtain ⟨z0, z1, z2, z3, z4⟩ := TZ.cells5
    clear TU LU AU kU TZ LZ AZ kZ
    go_wp2
    obtain ⟨d0, d1, d2, d3, d4, N⟩ := D.out
    unfold put5 at d0 d1 d2 d3 d4 N
    try simp only [Exit.inBlock, Exit.then]
    refine bodyPost_ret (v := .agg #[.int .i64 4, .string ⟨#[]⟩, .slice none 0 0, .bool false, .string (s.extract p s.size)]) (by simp [results, go_sem, d0, d1, d2, d3, d4]) rfl ⟨rfl, N⟩

theorem rnext_any (w : World) (b : Nat) (s : ByteArray) (p : Nat) (md : Int) (fg : Bool) (last : ByteArray) (h : Ly w b s p md fg last) (hp : p ≤ s.size) (hs : s.size ≤ 4000) (hm : mdOk md) (hl : nmOk last) (hz : last.size ≤ 4000) :
    Calls Tryz.prog 17 #[.pointer (some ⟨b, 0, none⟩)] w fun e w' => ∃ ao n c, e = .returned (tv (nextF s md fg last p).1.1 (nextF s md fg last p).1.2.1 ao n c (nextF s md fg last p).1.2.2.2.1 (nextF s md fg last p).1.2.2.2.2) ∧ Nyt w w' b ao n c (nextF s md fg last p).1.2.2.1 s (nextF s md fg last p).2.1 (nextF s md fg last p).2.2.1 fg (nextF s md fg last p).2.2.2 := by
  by_cases he : p = s.size
  · subst he
    rw [nextF_end (Nat.le_refl _)]
    refine (rnext_end w b s md fg last h hs).mono ?_
    rintro e w' ⟨rfl, N⟩
    exact ⟨none, 0, 0, rfl, N⟩
  have hp2 : p < s.size := by omega
  rcases (show md = 1 ∨ (md = 2 ∨ md = 3) ∨ md = 4 by omega) with rfl | h2 | rfl
  · rw [nextF_data hp2]
    exact rdata_any w b s p fg last h hp hs
  · exact rnext_raw w b s p md fg last h hp2 hs h2 hl hz
  · have hE : tE s 4 last p = s.size := fs_eq ⟨hp2, Nat.le_refl _, fun j _ _ => by unfold enF; rw [if_neg (by decide), if_neg (by decide)], fun g => by omega⟩
    rw [nextF_text hp2 (by decide) (by simp), hE]
    unfold tT
    rw [if_neg (by decide)]
    refine (rnext_plain w b s p fg last h hp2 hs).mono ?_
    rintro e w' ⟨rfl, N⟩
    exact ⟨none, 0, 0, rfl, N⟩

end Go.Proofs.YtcfaejbbjmjgpaaGreatDoor
