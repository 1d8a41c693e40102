/-
  Joined: PrL PrM PrMb PrN Cl Kn.
-/
import Derived.Test.YtgjkfpmhgidpaaaGreatPH
import Derived.Test.YtgjkfpmhgidpaaaGreatGS
import Derived.Test.YtgjkfpmhgidpaaaGreatGI

/-
  The program's arena: bare, Node.
-/
namespace Go.Proofs.YtgjkfpmhgidpaaaGreat
open Go.RowKit Go.Maps Utf
set_option linter.unusedVariables false
set_option linter.unusedSimpArgs false

/-- bare under way: the tree in block gt has the first k attributes; the result lies in block s. -/
structure Bl (w wr : World) (gt s : Nat) (l : Lb) (k : Nat) (ao : Option Addr) (n c : Nat) : Prop where
  kp : Kp [] w wr
  tt : At wr gt #[.int .i64 l.kind, .int .i64 l.ns, .string l.name, .slice ao n c, .string l.text, .slice none 0 0] 38
  ow : OwnK 2 wr 30 (.slice ao n c) n (cs (l.attrs.take k))
  bk : ∀ x, x ∈ blk (.slice ao n c) → w.heap.size ≤ x ∧ x ≠ gt ∧ x ≠ s
  rs : At wr s #[.int .i64 0, .int .i64 0, .string ⟨#[]⟩, .slice none 0 0, .string ⟨#[]⟩, .slice none 0 0] 38
  gs : gt ≠ s ∧ w.heap.size ≤ gt ∧ w.heap.size ≤ s

theorem Bl.kept {w wr V : World} {gt s : Nat} {l : Lb} {k : Nat} {ao : Option Addr} {n c : Nat} (h : Bl w wr gt s l k ao n c) (kV : Kp [] wr V) : Bl w V gt s l k ao n c :=
  ⟨h.kp.trans kV (fun x hx => Or.inl hx), h.tt.kept kV (by simp), h.ow.keep kV (fun _ _ => by simp), h.bk, h.rs.kept kV (by simp), h.gs⟩

theorem Bl.len {w wr : World} {gt s : Nat} {l : Lb} {k : Nat} {ao : Option Addr} {n c : Nat} (h : Bl w wr gt s l k ao n c) : n = (l.attrs.take k).length := by
  have := h.ow.1
  rw [cs_len] at this
  omega

/-- One attribute more. -/
theorem Bl.one {w V : World} {gt s ga : Nat} {l : Lb} {k : Nat} {ao : Option Addr} {n c : Nat} (h : Bl w V gt s l k ao n c) (hk : k < l.attrs.length) (hl : l.attrs.length ≤ 100000) (hga : At V ga #[.string l.attrs[k].1, .string l.attrs[k].2] 30) (hgb : ga ∉ blk (.slice ao n c)) :
    ∃ ao' n' c' w4, (∀ ty, (Builtin.append_ #[26, 26] ty #[.slice ao n c, .slice (some ⟨V.heap.size, 0, none⟩) 1 1]).run Tryz.prog (V.alloc (.cells #[.string l.attrs[k].1, .string l.attrs[k].2] 30)) = .ok (.slice ao' n' c') w4) ∧ (w4.cell? ⟨gt, 3, none⟩ = some (.slice ao n c) ∧ w4.cell? ⟨ga, 0, none⟩ = some (.string l.attrs[k].1) ∧ w4.cell? ⟨ga, 1, none⟩ = some (.string l.attrs[k].2)) ∧ w4.frozen? ⟨gt, 3, none⟩ = false ∧
      Bl w (w4.setCell ⟨gt, 3, none⟩ (.slice ao' n' c')) gt s l (k + 1) ao' n' c' := by
  have hn := h.len
  have hr := (rp_lit V #[.string l.attrs[k].1, .string l.attrs[k].2] [l.attrs[k]] 1 rfl rfl (by omega)).rp
  have ka : Kp [] V (V.alloc (.cells #[.string l.attrs[k].1, .string l.attrs[k].2] 30)) := (Kp.refl _ _).alloc _
  obtain ⟨v', w4, hrun, o4, k4, b4, a4, c4, rfl⟩ := appK Tryz.underlying26 info23 rfl (by decide) _ _ _ _ (h.ow.keep ka (fun _ _ => by simp)) _ 1 (cs [l.attrs[k]]) (hr.src Tryz.underlying26) (fun _ => by omega) (by rw [List.length_take] at hn; omega)
  have hgt : gt ∉ blk (.slice ao n c) := fun hx => (h.bk gt hx).2.1 rfl
  have hs : s ∉ blk (.slice ao n c) := fun hx => (h.bk s hx).2.2 rfl
  have t4 := (h.tt.kept ka (by simp)).kept k4 hgt
  have g4 := (hga.kept ka (by simp)).kept k4 hgb
  have s4 := (h.rs.kept ka (by simp)).kept k4 hs
  have k5 : Kp [gt] w4 (w4.setCell ⟨gt, 3, none⟩ (.slice (some a4) (n + 1) c4)) := (Kp.refl _ _).setCell (Or.inl (by simp)) _
  have hb : ∀ x, x ∈ blk (Value.slice (some a4) (n + 1) c4) → w.heap.size ≤ x ∧ x ≠ gt ∧ x ≠ s := fun x hx => by
    rcases b4 x hx with h5 | h5
    · exact h.bk x h5
    · have h6 := h.kp.size
      have h7 := h.tt.lt
      have h8 := h.rs.lt
      rw [h5]
      simp
      omega
  refine ⟨_, _, _, w4, hrun, ⟨t4.cell 3, g4.cell 0, g4.cell 1⟩, t4.free 3, ⟨?_, t4.set 3 _, ?_, hb, s4.kept k5 (by simp; exact Ne.symm h.gs.1), h.gs⟩⟩
  · refine ((h.kp.trans ka (fun x hx => Or.inl hx)).trans k4 (fun x hx => Or.inr (h.bk x hx).1)).trans k5 (fun x hx => Or.inr (by rw [List.mem_singleton.1 hx]; exact h.gs.2.1))
  · rw [take_snoc hk, cs_append]
    exact o4.keep k5 (fun x hx hs => by rw [List.mem_singleton.1 hs] at hx; exact (hb gt hx).2.1 rfl)

/-- make, of none, with room for so many attributes. -/
theorem make_atts (w : World) (n : Nat) (h1 : n ≤ 100000) :
    ∃ w1, (Instr.makeSlice 26 (.int .i64 0) (.int .i64 (n : Int))).run Tryz.prog w = .ok (.slice (some ⟨w.heap.size, 0, none⟩) 0 n) w1 ∧ Mp w w1 (some ⟨w.heap.size, 0, none⟩) 0 n [] := by
  obtain ⟨i, hi0, hi1, hi2, hi3⟩ := info_parts info23
  have hr := run_make (P := Tryz.prog) w 26 30 i _ Tryz.underlying26 hi0 hi1 .i64 .i64 0 (n : Int) (Int.le_refl _) (by omega) (by rw [hi3]; omega) (by omega)
  rw [show ((n : Int)).toNat = n by omega] at hr
  refine ⟨_, hr, ownK_new 2 w 30 _ [] 0 n rfl (by omega) (by unfold maxLen; omega) (by rw [size_madeCells, hi2]; exact Nat.le_refl _) (fun j hj => by omega), (Kp.refl _ _).alloc _, fun k hk => by simp [blk] at hk; omega⟩

section
variable {tag : Nat → Nat} {w : World} {b g o c : Nat} {q : Bool} {n : Nat} {N : Nat → Pn} {pl : Nat → Np}

set_option maxRecDepth 100000 in
set_option maxHeartbeats 2000000 in
theorem bare_any (h : Rw tag w b g o c q n N pl) (hn : n < 100000) {i : Nat} (hi : i < n) (hat : (N i).lb.attrs.length ≤ 20000 ∧ fits (N i).lb.attrs) (hnm : (N i).lb.name.size ≤ 1000000) :
    Calls Tryz.prog 47 #[.pointer (some ⟨b, 0, none⟩), .int .i64 (i : Int)] w fun e w' => ∃ p : Option Addr × Nat × Nat, e = .returned (wv (N i).lb (p, (none, 0, 0))) ∧ Kp [] w w' ∧ Rk (fun x => w.heap.size ≤ x) 2 w' p.1 p.2.1 p.2.2 (cs (N i).lb.attrs) := by
  have hi0 : (0 : Int) ≤ (i : Int) := by omega
  have hi1 : (i : Int) < (n : Int) := by omega
  have sd := h.side i hi
  have hal := sd.alen
  have HC : Hid (∀ V, Kp [] w V → (V.cell? ⟨b, 0, none⟩ = some (.slice (some ⟨g, o, none⟩) n c)) ∧ (V.cell? ⟨g, o + i * 11, none⟩ = some (.int .i64 (N i).lb.kind) ∧ V.cell? ⟨g, o + i * 11 + 1, none⟩ = some (.int .i64 (N i).lb.ns) ∧ V.cell? ⟨g, o + i * 11 + 2, none⟩ = some (.string (N i).lb.name) ∧ V.cell? ⟨g, o + i * 11 + 5, none⟩ = some (.slice (pl i).to (pl i).tn (pl i).tc) ∧ (convert 54 9 (.slice (pl i).to (pl i).tn (pl i).tc)).run Tryz.prog V = .ok (.string (N i).lb.text) V) ∧ V.cell? ⟨g, o + i * 11 + 3, none⟩ = some (.slice (pl i).ao (pl i).an (pl i).ac) ∧ Rp V (pl i).ao (pl i).an (pl i).ac (N i).lb.attrs) := fun V kV => by
    have hV := h.kept kV
    obtain ⟨g1, g2, g3, g4, _, g6⟩ := hV.fields hi
    have sV := hV.side i hi
    have cv := conv_rb sV.tx.rb
    rw [strs_bytes] at cv
    exact ⟨hV.head.1, ⟨g1, g2, g3, g6, cv⟩, g4, Rp.of_own sV.at'⟩
  have HN : Hid (∀ W, Calls Tryz.prog 82 #[.string (N i).lb.name] W fun e w' => e = .returned (.string (N i).lb.name) ∧ Kp [] W w') := fun W => clone_any W _ (by omega)
  obtain ⟨hat1, hat2⟩ := hat
  clear h sd hnm
  obtain ⟨L, hL⟩ : ∃ L, (N i).lb = L := ⟨_, rfl⟩
  rw [hL] at HC HN hat1 hat2 hal ⊢
  clear hL
  generalize (pl i).to = xo at HC
  generalize (pl i).tn = xn at HC
  generalize (pl i).tc = xc at HC
  generalize (pl i).ao = yo at HC
  generalize (pl i).an = yn at HC hal
  generalize (pl i).ac = yc at HC
  subst hal
  obtain ⟨B, hB⟩ : ∃ B, B = w.alloc (.cells #[.int .i64 0, .int .i64 0, .string ⟨#[]⟩, .slice none 0 0, .string ⟨#[]⟩, .slice none 0 0] 38) := ⟨_, rfl⟩
  have kB : Kp [] w B := by rw [hB]; exact (Kp.refl _ _).alloc _
  have A0 : At B w.heap.size #[.int .i64 0, .int .i64 0, .string ⟨#[]⟩, .slice none 0 0, .string ⟨#[]⟩, .slice none 0 0] 38 := by rw [hB]; exact At.new _ _ _
  have HB : Hid (w.alloc (.cells #[.int .i64 0, .int .i64 0, .string ⟨#[]⟩, .slice none 0 0, .string ⟨#[]⟩, .slice none 0 0] 38) = B) := hB.symm
  have KB : Hid (Kp [] w B) := kB
  have SB : Hid (w.heap.size < B.heap.size) := A0.lt
  have c0 := (HC.out B kB).1
  have c00 := (HC.out w (Kp.refl _ _)).1
  have AB : Hid (At B w.heap.size #[.int .i64 0, .int .i64 0, .string ⟨#[]⟩, .slice none 0 0, .string ⟨#[]⟩, .slice none 0 0] 38) := A0
  clear hB kB A0
  go_enter Tryz.func47, Tryz.ntmps47
  go_upto_region 1 with fail
  rw [HB.out]
  clear HB c00
  go_wp2_with fail
  clear c0
  go_cut [6] from 15 to 33 (fun x6 wc => ∃ g3, x6 = .pointer (some ⟨g3, 0, none⟩) ∧ At wc g3 #[.int .i64 L.kind, .int .i64 L.ns, .string L.name, .slice none 0 0, .string L.text, .slice none 0 0] 38 ∧ Kp [] B wc ∧ B.heap.size ≤ g3)
  case first =>
    have CL : Hid (∀ V, Kp [] B V → V.cell? ⟨g, o + i * 11, none⟩ = some (.int .i64 L.kind) ∧ V.cell? ⟨g, o + i * 11 + 1, none⟩ = some (.int .i64 L.ns) ∧ V.cell? ⟨g, o + i * 11 + 2, none⟩ = some (.string L.name) ∧ V.cell? ⟨g, o + i * 11 + 5, none⟩ = some (.slice xo xn xc) ∧ (convert 54 9 (.slice xo xn xc)).run Tryz.prog V = .ok (.string L.text) V) := fun V kV => (HC.out V (KB.out.trans kV (fun x hx => Or.inl hx))).2.1
    obtain ⟨U0, hU0⟩ : ∃ V, V = B.drew := ⟨_, rfl⟩
    have k0 : Kp [] B U0 := by rw [hU0]; exact (Kp.refl _ _).drew
    refine wp_region_g (S := fun V => V.cell? ⟨g, o + i * 11, none⟩ = some (.int .i64 L.kind) ∧ V.cell? ⟨g, o + i * 11 + 1, none⟩ = some (.int .i64 L.ns) ∧ V.cell? ⟨g, o + i * 11 + 2, none⟩ = some (.string L.name) ∧ V.cell? ⟨g, o + i * 11 + 5, none⟩ = some (.slice xo xn xc) ∧ (convert 54 9 (.slice xo xn xc)).run Tryz.prog V = .ok (.string L.text) V) (T := [20]) (by kernel_rfl) (CL.out _ (Kp.refl [] B).drew) (fun hHeld => ?_)
    rw [← hU0] at hHeld ⊢
    clear hU0
    refine g_pure 0 (oi := ⟨some 15, .move (.tmp 5), 111, "read.go:51", #[], none⟩) (v := ?_) (Or.inl ⟨by rfl, ?_⟩) ?_
    rotate_left
    · (intro w; go_simp; try with_reducible rfl)
    simp only [Act.put, pu1, pu2, pu3]
    refine g_pure 1 (oi := ⟨some 16, .nilCheck (.tmp 15), 0, "read.go:51", #[⟨0, .data⟩], none⟩) (v := ?_) (Or.inl ⟨by rfl, ?_⟩) ?_
    rotate_left
    · (intro w; go_simp; try with_reducible rfl)
    simp only [Act.put, pu1, pu2, pu3]
    refine g_pure 2 (oi := ⟨some 17, .fieldAddr 56 (.tmp 16) 0, 0, "read.go:51", #[⟨1, .data⟩], none⟩) (v := ?_) (Or.inl ⟨by rfl, ?_⟩) ?_
    rotate_left
    · (intro w; go_simp; try with_reducible rfl)
    simp only [Act.put, pu1, pu2, pu3]
    refine g_take 3 (oi := ⟨some 18, .load 3 (.tmp 17), 3, "read.go:51", #[⟨2, .data⟩], none⟩) (v := ?_) (Or.inl ⟨by rfl, ?_⟩) ?_
    rotate_left
    · (intro w hSw; (obtain ⟨c0, c1, c2, c5, cv⟩ := hSw); go_simp; try with_reducible rfl)
    simp only [Act.put, pu1, pu2, pu3]
    refine g_pure 4 (oi := ⟨some 19, .move (.tmp 5), 111, "read.go:51", #[], none⟩) (v := ?_) (Or.inl ⟨by rfl, ?_⟩) ?_
    rotate_left
    · (intro w; go_simp; try with_reducible rfl)
    simp only [Act.put, pu1, pu2, pu3]
    refine g_pure 5 (oi := ⟨some 20, .nilCheck (.tmp 19), 0, "read.go:51", #[⟨4, .data⟩], none⟩) (v := ?_) (Or.inl ⟨by rfl, ?_⟩) ?_
    rotate_left
    · (intro w; go_simp; try with_reducible rfl)
    simp only [Act.put, pu1, pu2, pu3]
    refine g_pure 6 (oi := ⟨some 21, .fieldAddr 56 (.tmp 20) 1, 0, "read.go:51", #[⟨5, .data⟩], none⟩) (v := ?_) (Or.inl ⟨by rfl, ?_⟩) ?_
    rotate_left
    · (intro w; go_simp; try with_reducible rfl)
    simp only [Act.put, pu1, pu2, pu3]
    refine g_take 7 (oi := ⟨some 22, .load 3 (.tmp 21), 3, "read.go:51", #[⟨6, .data⟩], none⟩) (v := ?_) (Or.inl ⟨by rfl, ?_⟩) ?_
    rotate_left
    · (intro w hSw; (obtain ⟨c0, c1, c2, c5, cv⟩ := hSw); go_simp; try with_reducible rfl)
    simp only [Act.put, pu1, pu2, pu3]
    refine g_pure 8 (oi := ⟨some 23, .move (.tmp 5), 111, "read.go:51", #[], none⟩) (v := ?_) (Or.inl ⟨by rfl, ?_⟩) ?_
    rotate_left
    · (intro w; go_simp; try with_reducible rfl)
    simp only [Act.put, pu1, pu2, pu3]
    refine g_pure 9 (oi := ⟨some 24, .nilCheck (.tmp 23), 0, "read.go:51", #[⟨8, .data⟩], none⟩) (v := ?_) (Or.inl ⟨by rfl, ?_⟩) ?_
    rotate_left
    · (intro w; go_simp; try with_reducible rfl)
    simp only [Act.put, pu1, pu2, pu3]
    refine g_pure 10 (oi := ⟨some 25, .fieldAddr 56 (.tmp 24) 2, 0, "read.go:51", #[⟨9, .data⟩], none⟩) (v := ?_) (Or.inl ⟨by rfl, ?_⟩) ?_
    rotate_left
    · (intro w; go_simp; try with_reducible rfl)
    simp only [Act.put, pu1, pu2, pu3]
    refine g_take 11 (oi := ⟨some 26, .load 9 (.tmp 25), 9, "read.go:51", #[⟨10, .data⟩], none⟩) (v := ?_) (Or.inl ⟨by rfl, ?_⟩) ?_
    rotate_left
    · (intro w hSw; (obtain ⟨c0, c1, c2, c5, cv⟩ := hSw); go_simp; try with_reducible rfl)
    simp only [Act.put, pu1, pu2, pu3]
    refine g_pure 13 (oi := ⟨some 28, .move (.tmp 5), 111, "read.go:51", #[], none⟩) (v := ?_) (Or.inl ⟨by rfl, ?_⟩) ?_
    rotate_left
    · (intro w; go_simp; try with_reducible rfl)
    simp only [Act.put, pu1, pu2, pu3]
    refine g_pure 14 (oi := ⟨some 29, .nilCheck (.tmp 28), 0, "read.go:51", #[⟨13, .data⟩], none⟩) (v := ?_) (Or.inl ⟨by rfl, ?_⟩) ?_
    rotate_left
    · (intro w; go_simp; try with_reducible rfl)
    simp only [Act.put, pu1, pu2, pu3]
    refine g_pure 15 (oi := ⟨some 30, .fieldAddr 56 (.tmp 29) 5, 0, "read.go:51", #[⟨14, .data⟩], none⟩) (v := ?_) (Or.inl ⟨by rfl, ?_⟩) ?_
    rotate_left
    · (intro w; go_simp; try with_reducible rfl)
    simp only [Act.put, pu1, pu2, pu3]
    refine g_take 16 (oi := ⟨some 31, .load 54 (.tmp 30), 54, "read.go:51", #[⟨15, .data⟩], none⟩) (v := ?_) (Or.inl ⟨by rfl, ?_⟩) ?_
    rotate_left
    · (intro w hSw; (obtain ⟨c0, c1, c2, c5, cv⟩ := hSw); go_simp; try with_reducible rfl)
    simp only [Act.put, pu1, pu2, pu3]
    refine g_take 17 (oi := ⟨some 32, .convert 54 9 (.tmp 31), 9, "read.go:51", #[⟨16, .data⟩], none⟩) (v := ?_) (Or.inl ⟨by rfl, ?_⟩) ?_
    rotate_left
    · (intro w hSw; (obtain ⟨c0, c1, c2, c5, cv⟩ := hSw); go_simp; try with_reducible rfl)
    simp only [Act.put, pu1, pu2, pu3]
    refine wpAnyG_ready (rs := [12, 19]) (by kernel_rfl) (by simp) ?_
    refine AllReadyG.cons (o := ⟨some 27, .call { callee := .value (.func 82), args := #[.tmp 26], argTypes := #[9] }, 9, "read.go:51", #[⟨11, .data⟩], none⟩) rfl (fun K hK => ?_) ?_
    · go_simp
      go_at_call 82
      refine (HN.out _).mono ?_
      rintro e U1 ⟨rfl, u1⟩
      go_wp2_with fail
      have k1 : Kp [] B U1 := k0.trans u1 (fun z hz => by simp at hz)
      refine hK.out _ _ (CL.out _ k1) (fun hHeld1 => ?_)
      clear hK K hHeld
      try simp only [Act.put, pu1, pu2, pu3]
      refine g_pure 18 (oi := ⟨some 33, .build 38 #[(0, .tmp 18), (1, .tmp 22), (2, .tmp 27), (4, .tmp 32)], 38, "read.go:51", #[⟨3, .data⟩, ⟨7, .data⟩, ⟨12, .data⟩, ⟨17, .data⟩], none⟩) (v := ?_) (Or.inl ⟨by rfl, ?_⟩) ?_
      rotate_left
      · (intro w; go_simp; try with_reducible rfl)
      simp only [Act.put, pu1, pu2, pu3]
      refine wpAnyG_ready (rs := [19]) (by kernel_rfl) (by simp) ?_
      refine AllReadyG.cons (o := ⟨some 6, .alloc 38, 0, "read.go:51", #[], none⟩) rfl (fun K hK => ?_) AllReadyG.nil
      go_simp
      obtain ⟨U2, hU⟩ : ∃ V, V = World.alloc U1 (.cells #[.int .i64 0, .int .i64 0, .string ⟨#[]⟩, .slice none 0 0, .string ⟨#[]⟩, .slice none 0 0] 38) := ⟨_, rfl⟩
      rw [← hU]
      have u2 : Kp [] U1 U2 := by rw [hU]; exact (Kp.refl _ _).alloc _
      have k2 : Kp [] B U2 := k1.trans u2 (fun z hz => by simp at hz)
      have T3 : At U2 U1.heap.size #[.int .i64 0, .int .i64 0, .string ⟨#[]⟩, .slice none 0 0, .string ⟨#[]⟩, .slice none 0 0] 38 := by rw [hU]; exact At.new _ _ _
      have n3 := k1.size
      obtain ⟨g3, hg3⟩ : ∃ g, U1.heap.size = g := ⟨_, rfl⟩
      rw [hg3] at T3 ⊢
      clear hU
      refine hK.out _ _ (CL.out _ k2) (fun hHeld2 => ?_)
      clear hK K hHeld1
      try simp only [Act.put, pu1, pu2, pu3]
      refine wpAnyG_free (by kernel_rfl) ?_
      refine wpAny_ready (rs := [20]) (by kernel_rfl) (by simp) ?_
      refine AllReady.cons (o := ⟨none, .store 38 (.tmp 6) (.tmp 33), 0, "read.go:51", #[⟨19, .data⟩, ⟨18, .data⟩, ⟨12, .chain⟩, ⟨0, .phase⟩, ⟨1, .phase⟩, ⟨2, .phase⟩, ⟨3, .phase⟩, ⟨4, .phase⟩, ⟨5, .phase⟩, ⟨6, .phase⟩, ⟨7, .phase⟩, ⟨8, .phase⟩, ⟨9, .phase⟩, ⟨10, .phase⟩, ⟨11, .phase⟩, ⟨12, .phase⟩, ⟨13, .phase⟩, ⟨14, .phase⟩, ⟨15, .phase⟩, ⟨16, .phase⟩, ⟨17, .phase⟩, ⟨18, .phase⟩, ⟨19, .phase⟩], none⟩) rfl (fun K hK => ?_) AllReady.nil
      obtain ⟨d20, d21, d22, d23, d24, d25⟩ := T3.six
      have fr2 := fun j => T3.free j
      go_simp
      refine hK _ _ ?_
      clear hK K
      try simp only [Act.put, pu1, pu2, pu3]
      refine wpAny_done (by kernel_rfl) ?_ _
      clear d20 d21 d22 d23 d24 d25 fr2
      obtain ⟨W, hW⟩ : ∃ F, F = putZ U2 g3 (.int .i64 L.kind) (.int .i64 L.ns) (.string L.name) (.slice none 0 0) (.string L.text) (.slice none 0 0) := ⟨_, rfl⟩
      have hWu := hW
      unfold putZ at hWu
      rw [← hWu]
      clear hWu
      have v3 : Kp [g3] U2 W := by rw [hW]; exact (Kp.refl _ _).putZ (g := g3) (Or.inl (by simp)) (.int .i64 L.kind) (.int .i64 L.ns) (.string L.name) (.slice none 0 0) (.string L.text) (.slice none 0 0)
      have T3 : At W g3 #[.int .i64 L.kind, .int .i64 L.ns, .string L.name, .slice none 0 0, .string L.text, .slice none 0 0] 38 := by rw [hW]; exact T3.putZ (.int .i64 L.kind) (.int .i64 L.ns) (.string L.name) (.slice none 0 0) (.string L.text) (.slice none 0 0)
      clear hW
      have kW : Kp [] B W := k2.trans v3 (fun z hz => Or.inr (by simp at hz; omega))
      go_wp2_with fail
      go_meet
      case rel => exact ⟨g3, rfl, T3, kW, by omega⟩
    refine AllReadyG.cons (o := ⟨some 6, .alloc 38, 0, "read.go:51", #[], none⟩) rfl (fun K hK => ?_) AllReadyG.nil
    go_simp
    obtain ⟨U1, hU⟩ : ∃ V, V = World.alloc U0 (.cells #[.int .i64 0, .int .i64 0, .string ⟨#[]⟩, .slice none 0 0, .string ⟨#[]⟩, .slice none 0 0] 38) := ⟨_, rfl⟩
    rw [← hU]
    have u1 : Kp [] U0 U1 := by rw [hU]; exact (Kp.refl _ _).alloc _
    have k1 : Kp [] B U1 := k0.trans u1 (fun z hz => by simp at hz)
    have T3 : At U1 U0.heap.size #[.int .i64 0, .int .i64 0, .string ⟨#[]⟩, .slice none 0 0, .string ⟨#[]⟩, .slice none 0 0] 38 := by rw [hU]; exact At.new _ _ _
    have n3 := k0.size
    obtain ⟨g3, hg3⟩ : ∃ g, U0.heap.size = g := ⟨_, rfl⟩
    rw [hg3] at T3 ⊢
    clear hU
    refine hK.out _ _ (CL.out _ k1) (fun hHeld1 => ?_)
    clear hK K hHeld
    try simp only [Act.put, pu1, pu2, pu3]
    refine wpAnyG_ready (rs := [12]) (by kernel_rfl) (by simp) ?_
    refine AllReadyG.cons (o := ⟨some 27, .call { callee := .value (.func 82), args := #[.tmp 26], argTypes := #[9] }, 9, "read.go:51", #[⟨11, .data⟩], none⟩) rfl (fun K hK => ?_) AllReadyG.nil
    go_simp
    go_at_call 82
    refine (HN.out _).mono ?_
    rintro e U2 ⟨rfl, u2⟩
    go_wp2_with fail
    have k2 : Kp [] B U2 := k1.trans u2 (fun z hz => by simp at hz)
    have T3 := T3.kept u2 (by simp)
    refine hK.out _ _ (CL.out _ k2) (fun hHeld2 => ?_)
    clear hK K hHeld1
    try simp only [Act.put, pu1, pu2, pu3]
    refine g_pure 18 (oi := ⟨some 33, .build 38 #[(0, .tmp 18), (1, .tmp 22), (2, .tmp 27), (4, .tmp 32)], 38, "read.go:51", #[⟨3, .data⟩, ⟨7, .data⟩, ⟨12, .data⟩, ⟨17, .data⟩], none⟩) (v := ?_) (Or.inl ⟨by rfl, ?_⟩) ?_
    rotate_left
    · (intro w; go_simp; try with_reducible rfl)
    simp only [Act.put, pu1, pu2, pu3]
    refine wpAnyG_free (by kernel_rfl) ?_
    refine wpAny_ready (rs := [20]) (by kernel_rfl) (by simp) ?_
    refine AllReady.cons (o := ⟨none, .store 38 (.tmp 6) (.tmp 33), 0, "read.go:51", #[⟨19, .data⟩, ⟨18, .data⟩, ⟨12, .chain⟩, ⟨0, .phase⟩, ⟨1, .phase⟩, ⟨2, .phase⟩, ⟨3, .phase⟩, ⟨4, .phase⟩, ⟨5, .phase⟩, ⟨6, .phase⟩, ⟨7, .phase⟩, ⟨8, .phase⟩, ⟨9, .phase⟩, ⟨10, .phase⟩, ⟨11, .phase⟩, ⟨12, .phase⟩, ⟨13, .phase⟩, ⟨14, .phase⟩, ⟨15, .phase⟩, ⟨16, .phase⟩, ⟨17, .phase⟩, ⟨18, .phase⟩, ⟨19, .phase⟩], none⟩) rfl (fun K hK => ?_) AllReady.nil
    obtain ⟨d20, d21, d22, d23, d24, d25⟩ := T3.six
    have fr2 := fun j => T3.free j
    go_simp
    refine hK _ _ ?_
    clear hK K
    try simp only [Act.put, pu1, pu2, pu3]
    refine wpAny_done (by kernel_rfl) ?_ _
    clear d20 d21 d22 d23 d24 d25 fr2
    obtain ⟨W, hW⟩ : ∃ F, F = putZ U2 g3 (.int .i64 L.kind) (.int .i64 L.ns) (.string L.name) (.slice none 0 0) (.string L.text) (.slice none 0 0) := ⟨_, rfl⟩
    have hWu := hW
    unfold putZ at hWu
    rw [← hWu]
    clear hWu
    have v3 : Kp [g3] U2 W := by rw [hW]; exact (Kp.refl _ _).putZ (g := g3) (Or.inl (by simp)) (.int .i64 L.kind) (.int .i64 L.ns) (.string L.name) (.slice none 0 0) (.string L.text) (.slice none 0 0)
    have T3 : At W g3 #[.int .i64 L.kind, .int .i64 L.ns, .string L.name, .slice none 0 0, .string L.text, .slice none 0 0] 38 := by rw [hW]; exact T3.putZ (.int .i64 L.kind) (.int .i64 L.ns) (.string L.name) (.slice none 0 0) (.string L.text) (.slice none 0 0)
    clear hW
    have kW : Kp [] B W := k2.trans v3 (fun z hz => Or.inr (by simp at hz; omega))
    go_wp2_with fail
    go_meet
    case rel => exact ⟨g3, rfl, T3, kW, by omega⟩
  obtain ⟨g3, rfl, T3, kc, hg3⟩ := hcut
  have bl0 : Bl w wc g3 w.heap.size L 0 none 0 0 := ⟨KB.out.trans kc (fun x hx => Or.inl hx), T3, ⟨rfl, Or.inl ⟨rfl, rfl⟩⟩, fun x hx => by simp [blk] at hx, AB.out.kept kc (by simp), by have := SB.out; omega, by have := SB.out; omega, Nat.le_refl _⟩
  have bl0' : Hid (Bl w wc g3 w.heap.size L 0 none 0 0) := bl0
  have hfl : ∀ a, a ∈ L.attrs → a.1.size ≤ 281474976710656 ∧ a.2.size ≤ 281474976710656 := fun a ha => by have := hat2 a ha; omega
  clear HN KB SB AB T3 kc bl0 hat2
  have bl0 := bl0'.out
  have ca := (HC.out wc bl0.kp).2.2.1
  by_cases hl0 : L.attrs.length = 0
  · rw [hl0] at ca
    have hte : L.attrs.take 0 = L.attrs := by rw [List.take_zero]; exact (List.eq_nil_of_length_eq_zero hl0).symm
    clear bl0 hl0
    go_wp2_with fail
    go_loopw [8, 52] (fun _ kk wr => kk = .int .i64 0 ∧ wr = wc) (fun _ _ _ => 0)
    case atStart => exact ⟨rfl, rfl⟩
    case round =>
      obtain ⟨rfl, hw⟩ := hrel
      have hw2 := hw.symm
      clear hw
      subst hw2
      have bl := bl0'.out
      have D := (bl.rs.putZ (.int .i64 L.kind) (.int .i64 L.ns) (.string L.name) (.slice none 0 0) (.string L.text) (.slice none 0 0)).six
      have kD : Kp [] w (putZ wc w.heap.size (.int .i64 L.kind) (.int .i64 L.ns) (.string L.name) (.slice none 0 0) (.string L.text) (.slice none 0 0)) := bl.kp.putZ (Or.inr (Nat.le_refl _)) _ _ _ _ _ _
      have kD2 : Kp [w.heap.size] wc (putZ wc w.heap.size (.int .i64 L.kind) (.int .i64 L.ns) (.string L.name) (.slice none 0 0) (.string L.text) (.slice none 0 0)) := (Kp.refl _ _).putZ (Or.inl (by simp)) _ _ _ _ _ _
      have R9 : Rk (fun x => w.heap.size ≤ x) 2 (putZ wc w.heap.size (.int .i64 L.kind) (.int .i64 L.ns) (.string L.name) (.slice none 0 0) (.string L.text) (.slice none 0 0)) none 0 0 (cs L.attrs) := by
        have e := bl.ow
        rw [hte] at e
        exact Rk.of_own (e.keep kD2 (fun x hx hs => by rw [List.mem_singleton.1 hs] at hx; exact (bl.bk _ hx).2.2 rfl)) rfl (fun x hx => (bl.bk x hx).1)
      have D9 : Hid (_ ∧ _ ∧ _) := ⟨D, kD, R9⟩
      unfold putZ at D9
      obtain ⟨y0, y1, y2, y3, y4, y5⟩ := bl.tt.six
      obtain ⟨z0, z1, z2, z3, z4, z5⟩ := bl.rs.six
      have fr := bl.rs.free
      have hgs := bl.gs
      clear bl D kD kD2 R9 HC
      go_wp2
      obtain ⟨⟨x0, x1, x2, x3, x4, x5⟩, kD, R9⟩ := D9.out
      refine bodyPost_ret (v := .agg #[.int .i64 L.kind, .int .i64 L.ns, .string L.name, .slice none 0 0, .string L.text, .slice none 0 0]) (by simp [results, go_sem, x0, x1, x2, x3, x4, x5]) rfl ⟨(none, 0, 0), rfl, kD, R9⟩

  · have t0 : decide ((L.attrs.length : Int) > 0) = true := decide_eq_true (by omega)
    obtain ⟨w1, hmk, M1⟩ := make_atts wc L.attrs.length (by omega)
    have bl1 := bl0.kept M1.kp
    have hw3 := bl0.tt.lt
    have hws := bl0.rs.lt
    have hk0 := bl0.kp.size
    have k5 : Kp [g3] w1 (w1.setCell ⟨g3, 3, none⟩ (.slice (some ⟨wc.heap.size, 0, none⟩) 0 L.attrs.length)) := (Kp.refl _ _).setCell (Or.inl (by simp)) _
    obtain ⟨wd, hwd⟩ : ∃ wd, wd = w1.setCell ⟨g3, 3, none⟩ (.slice (some ⟨wc.heap.size, 0, none⟩) 0 L.attrs.length) := ⟨_, rfl⟩
    have B0 : Hid (Bl w wd g3 w.heap.size L 0 (some ⟨wc.heap.size, 0, none⟩) 0 L.attrs.length) := by
      rw [hwd]
      exact ⟨bl1.kp.trans k5 (fun x hx => Or.inr (by rw [List.mem_singleton.1 hx]; exact bl1.gs.2.1)), bl1.tt.set 3 _, M1.1.keep k5 (fun x hx hs => by simp [blk] at hx; rw [List.mem_singleton.1 hs] at hx; omega), fun x hx => by simp [blk] at hx; omega, bl1.rs.kept k5 (by simp; exact Ne.symm bl1.gs.1), bl1.gs⟩
    have d3 := bl1.tt.cell 3
    have f3 := bl1.tt.free 3
    have ca1 := (HC.out w1 bl1.kp).2.2.1
    have HD : Hid (w1.setCell ⟨g3, 3, none⟩ (.slice (some ⟨wc.heap.size, 0, none⟩) 0 L.attrs.length) = wd) := hwd.symm
    clear bl0 bl0' bl1 M1 k5 hwd
    go_upto_region 5 with fail
    rw [HD.out]
    clear HD hmk d3 f3 ca ca1 t0
    have ca := (HC.out wd B0.out.kp).2.2.1
    go_wp2_with fail
    rw [show decide (0 < L.attrs.length) = true from decide_eq_true (by omega)]
    go_loopw [8, 52] (fun _ kk wr => ∃ (k : Nat) (ao : Option Addr) (n c : Nat), k ≤ L.attrs.length ∧ kk = .int .i64 (k : Int) ∧ Bl w wr g3 w.heap.size L k ao n c) (fun _ kk _ => L.attrs.length - (intOf kk).toNat)
    case atStart => exact ⟨0, _, _, _, Nat.zero_le _, rfl, B0.out⟩
    case round =>
      obtain ⟨k, ao, nn, cc, hk, rfl, bl⟩ := hrel
      clear B0 ca
      by_cases hlt : k < L.attrs.length
      · obtain ⟨b1, o1, rfl, g1, g2⟩ := (HC.out wr bl.kp).2.2.2.get k hlt
        have hk0 : (0 : Int) ≤ (k : Int) := by omega
        have hk1 : (k : Int) < (L.attrs.length : Int) := by omega
        have hb1 : b1 < wr.heap.size := block_lt_of_cell g1
        have hfk := hfl _ (List.getElem_mem hlt)
        obtain ⟨Y, hY⟩ : ∃ Y, Y = wr.alloc (.cells #[.string L.attrs[k].1, .string L.attrs[k].2] 30) := ⟨_, rfl⟩
        have kY : Kp [] wr Y := by rw [hY]; exact (Kp.refl _ _).alloc _
        have AY : At Y wr.heap.size #[.string L.attrs[k].1, .string L.attrs[k].2] 30 := by rw [hY]; exact At.new _ _ _
        have hgb : wr.heap.size ∉ blk (.slice ao nn cc) := fun hx => by have := bl.ow.lt _ hx; omega
        have HO : Hid (∀ V, Kp [] Y V → ∃ ao' n' c' w4, (∀ ty, (Builtin.append_ #[26, 26] ty #[.slice ao nn cc, .slice (some ⟨V.heap.size, 0, none⟩) 1 1]).run Tryz.prog (V.alloc (.cells #[.string L.attrs[k].1, .string L.attrs[k].2] 30)) = .ok (.slice ao' n' c') w4) ∧ (w4.cell? ⟨g3, 3, none⟩ = some (.slice ao nn cc) ∧ w4.cell? ⟨wr.heap.size, 0, none⟩ = some (.string L.attrs[k].1) ∧ w4.cell? ⟨wr.heap.size, 1, none⟩ = some (.string L.attrs[k].2)) ∧ w4.frozen? ⟨g3, 3, none⟩ = false ∧ Hid (Bl w (w4.setCell ⟨g3, 3, none⟩ (.slice ao' n' c')) g3 w.heap.size L (k + 1) ao' n' c')) := fun V kV =>
          ((bl.kept kY).kept kV).one hlt (by omega) (AY.kept kV (by simp)) hgb
        have HS : Hid (∀ V, Kp [] Y V → V.cell? ⟨g3, 3, none⟩ = some (.slice ao nn cc) ∧ V.cell? ⟨wr.heap.size, 0, none⟩ = some (.string L.attrs[k].1) ∧ V.cell? ⟨wr.heap.size, 1, none⟩ = some (.string L.attrs[k].2)) := fun V kV => ⟨(((bl.kept kY).kept kV).tt).cell 3, (AY.kept kV (by simp)).cell 0, (AY.kept kV (by simp)).cell 1⟩
        have HY : Hid (wr.alloc (.cells #[.string L.attrs[k].1, .string L.attrs[k].2] 30) = Y) := hY.symm
        have H1 : Hid (∀ W, Calls Tryz.prog 82 #[.string L.attrs[k].1] W fun e w' => e = .returned (.string L.attrs[k].1) ∧ Kp [] W w') := fun W => clone_any W _ hfk.1
        have H2 : Hid (∀ W, Calls Tryz.prog 82 #[.string L.attrs[k].2] W fun e w' => e = .returned (.string L.attrs[k].2) ∧ Kp [] W w') := fun W => clone_any W _ hfk.2
        clear bl hY kY AY hgb HC hfk hfl
        generalize L.attrs[k] = a at g1 g2 HO HS HY H1 H2
        go_upto_region 8 with fail
        rw [HY.out]
        clear HY g1 g2
        obtain ⟨U0, hU0⟩ : ∃ V, V = Y.drew := ⟨_, rfl⟩
        have k0 : Kp [] Y U0 := by rw [hU0]; exact (Kp.refl _ _).drew
        refine wp_region_g (S := fun V => V.cell? ⟨g3, 3, none⟩ = some (.slice ao nn cc) ∧ V.cell? ⟨wr.heap.size, 0, none⟩ = some (.string a.1) ∧ V.cell? ⟨wr.heap.size, 1, none⟩ = some (.string a.2)) (T := [12]) (by kernel_rfl) (HS.out _ (Kp.refl [] Y).drew) (fun hHeld => ?_)
        rw [← hU0] at hHeld ⊢
        clear hU0
        refine g_pure 0 (oi := ⟨some 56, .fieldAddr 38 (.tmp 6) 3, 0, "read.go:56", #[], none⟩) (v := ?_) (Or.inl ⟨by rfl, ?_⟩) ?_
        rotate_left
        · (intro w; go_simp; try with_reducible rfl)
        simp only [Act.put, pu1, pu2, pu3]
        refine g_take 1 (oi := ⟨some 57, .load 26 (.tmp 56), 26, "read.go:56", #[⟨0, .data⟩], none⟩) (v := ?_) (Or.inl ⟨by rfl, ?_⟩) ?_
        rotate_left
        · (intro w hSw; (obtain ⟨q0, q1, q2⟩ := hSw); go_simp; try with_reducible rfl)
        simp only [Act.put, pu1, pu2, pu3]
        refine g_pure 2 (oi := ⟨some 58, .fieldAddr 30 (.tmp 8) 0, 0, "read.go:56", #[], none⟩) (v := ?_) (Or.inl ⟨by rfl, ?_⟩) ?_
        rotate_left
        · (intro w; go_simp; try with_reducible rfl)
        simp only [Act.put, pu1, pu2, pu3]
        refine g_take 3 (oi := ⟨some 59, .load 9 (.tmp 58), 9, "read.go:56", #[⟨2, .data⟩], none⟩) (v := ?_) (Or.inl ⟨by rfl, ?_⟩) ?_
        rotate_left
        · (intro w hSw; (obtain ⟨q0, q1, q2⟩ := hSw); go_simp; try with_reducible rfl)
        simp only [Act.put, pu1, pu2, pu3]
        refine g_pure 5 (oi := ⟨some 61, .fieldAddr 30 (.tmp 8) 1, 0, "read.go:56", #[], none⟩) (v := ?_) (Or.inl ⟨by rfl, ?_⟩) ?_
        rotate_left
        · (intro w; go_simp; try with_reducible rfl)
        simp only [Act.put, pu1, pu2, pu3]
        refine g_take 6 (oi := ⟨some 62, .load 9 (.tmp 61), 9, "read.go:56", #[⟨5, .data⟩], none⟩) (v := ?_) (Or.inl ⟨by rfl, ?_⟩) ?_
        rotate_left
        · (intro w hSw; (obtain ⟨q0, q1, q2⟩ := hSw); go_simp; try with_reducible rfl)
        simp only [Act.put, pu1, pu2, pu3]
        refine wpAnyG_ready (rs := [4]) (by kernel_rfl) (by simp) ?_
        refine AllReadyG.cons (o := ⟨some 60, .call { callee := .value (.func 82), args := #[.tmp 59], argTypes := #[9] }, 9, "read.go:56", #[⟨3, .data⟩], none⟩) rfl (fun K hK => ?_) AllReadyG.nil
        go_simp
        go_at_call 82
        refine (H1.out _).mono ?_
        rintro e U1 ⟨rfl, u1⟩
        go_wp2_with fail
        have k1 : Kp [] Y U1 := k0.trans u1 (fun z hz => by simp at hz)
        refine hK.out _ _ (HS.out _ k1) (fun hHeld1 => ?_)
        clear hK K hHeld
        try simp only [Act.put, pu1, pu2, pu3]
        refine wpAnyG_ready (rs := [7]) (by kernel_rfl) (by simp) ?_
        refine AllReadyG.cons (o := ⟨some 63, .call { callee := .value (.func 82), args := #[.tmp 62], argTypes := #[9] }, 9, "read.go:56", #[⟨6, .data⟩, ⟨4, .chain⟩], none⟩) rfl (fun K hK => ?_) AllReadyG.nil
        go_simp
        go_at_call 82
        refine (H2.out _).mono ?_
        rintro e U2 ⟨rfl, u2⟩
        go_wp2_with fail
        have k2 : Kp [] Y U2 := k1.trans u2 (fun z hz => by simp at hz)
        refine hK.out _ _ (HS.out _ k2) (fun hHeld2 => ?_)
        clear hK K hHeld1
        try simp only [Act.put, pu1, pu2, pu3]
        refine g_pure 8 (oi := ⟨some 64, .build 30 #[(0, .tmp 60), (1, .tmp 63)], 30, "read.go:56", #[⟨4, .data⟩, ⟨7, .data⟩], none⟩) (v := ?_) (Or.inl ⟨by rfl, ?_⟩) ?_
        rotate_left
        · (intro w; go_simp; try with_reducible rfl)
        simp only [Act.put, pu1, pu2, pu3]
        refine wpAnyG_ready (rs := [9]) (by kernel_rfl) (by simp) ?_
        refine AllReadyG.cons (o := ⟨some 65, .buildSlice 26 1 #[(0, .tmp 64)], 26, "read.go:56", #[⟨8, .data⟩], none⟩) rfl (fun K hK => ?_) AllReadyG.nil
        obtain ⟨ao4, n4, c4, w4, hrun4, hS4, hf4, X4⟩ := HO.out _ k2
        go_simp
        refine hK.out _ _ (HS.out _ (k2.alloc _)) (fun hHeld3 => ?_)
        clear hK K hHeld2
        try simp only [Act.put, pu1, pu2, pu3]
        refine wpAnyG_ready (rs := [10]) (by kernel_rfl) (by simp) ?_
        refine AllReadyG.cons (o := ⟨some 66, .call { callee := .builtin .append, args := #[.tmp 57, .tmp 65], argTypes := #[26, 26] }, 26, "read.go:56", #[⟨1, .data⟩, ⟨9, .data⟩, ⟨7, .chain⟩], none⟩) rfl (fun K hK => ?_) AllReadyG.nil
        refine step_app2 (by rfl) _ _ 26 26 (by rfl) _ _ (by rfl) (by rfl) hrun4 ?_
        refine hK.out _ _ hS4 (fun hHeld4 => ?_)
        clear hK K hHeld3
        try simp only [Act.put, pu1, pu2, pu3]
        refine g_pure 11 (oi := ⟨some 67, .fieldAddr 38 (.tmp 6) 3, 0, "read.go:56", #[⟨0, .phase⟩, ⟨1, .phase⟩, ⟨2, .phase⟩, ⟨3, .phase⟩, ⟨4, .phase⟩, ⟨5, .phase⟩, ⟨6, .phase⟩, ⟨7, .phase⟩, ⟨8, .phase⟩, ⟨9, .phase⟩, ⟨10, .phase⟩], none⟩) (v := ?_) (Or.inl ⟨by rfl, ?_⟩) ?_
        rotate_left
        · (intro w; go_simp; try with_reducible rfl)
        simp only [Act.put, pu1, pu2, pu3]
        refine wpAnyG_free (by kernel_rfl) ?_
        refine wpAny_ready (rs := [12]) (by kernel_rfl) (by simp) ?_
        refine AllReady.cons (o := ⟨none, .store 26 (.tmp 67) (.tmp 66), 0, "read.go:56", #[⟨11, .data⟩, ⟨10, .data⟩, ⟨10, .chain⟩, ⟨0, .phase⟩, ⟨1, .phase⟩, ⟨2, .phase⟩, ⟨3, .phase⟩, ⟨4, .phase⟩, ⟨5, .phase⟩, ⟨6, .phase⟩, ⟨7, .phase⟩, ⟨8, .phase⟩, ⟨9, .phase⟩, ⟨10, .phase⟩], none⟩) rfl (fun K hK => ?_) AllReady.nil
        obtain ⟨q0, q1, q2⟩ := hS4
        go_simp
        refine hK _ _ ?_
        clear hK K
        try simp only [Act.put, pu1, pu2, pu3]
        refine wpAny_done (by kernel_rfl) ?_ _
        go_wp2
        go_roundw
        case rel => exact ⟨k + 1, _, _, _, by omega, by go_num, X4.out⟩
        case measure => simp [intOf]; omega
      · obtain rfl : k = L.attrs.length := by omega
        have D := (bl.rs.putZ (.int .i64 L.kind) (.int .i64 L.ns) (.string L.name) (.slice ao nn cc) (.string L.text) (.slice none 0 0)).six
        have kD : Kp [] w (putZ wr w.heap.size (.int .i64 L.kind) (.int .i64 L.ns) (.string L.name) (.slice ao nn cc) (.string L.text) (.slice none 0 0)) := bl.kp.putZ (Or.inr (Nat.le_refl _)) _ _ _ _ _ _
        have kD2 : Kp [w.heap.size] wr (putZ wr w.heap.size (.int .i64 L.kind) (.int .i64 L.ns) (.string L.name) (.slice ao nn cc) (.string L.text) (.slice none 0 0)) := (Kp.refl _ _).putZ (Or.inl (by simp)) _ _ _ _ _ _
        have R9 : Rk (fun x => w.heap.size ≤ x) 2 (putZ wr w.heap.size (.int .i64 L.kind) (.int .i64 L.ns) (.string L.name) (.slice ao nn cc) (.string L.text) (.slice none 0 0)) ao nn cc (cs L.attrs) := by
          have e := bl.ow
          rw [List.take_length] at e
          exact Rk.of_own (e.keep kD2 (fun x hx hs => by rw [List.mem_singleton.1 hs] at hx; exact (bl.bk _ hx).2.2 rfl)) rfl (fun x hx => (bl.bk x hx).1)
        have D9 : Hid (_ ∧ _ ∧ _) := ⟨D, kD, R9⟩
        unfold putZ at D9
        obtain ⟨y0, y1, y2, y3, y4, y5⟩ := bl.tt.six
        obtain ⟨z0, z1, z2, z3, z4, z5⟩ := bl.rs.six
        have fr := bl.rs.free
        have hgs := bl.gs
        clear bl D kD kD2 R9 HC
        go_wp2
        obtain ⟨⟨x0, x1, x2, x3, x4, x5⟩, kD, R9⟩ := D9.out
        refine bodyPost_ret (v := .agg #[.int .i64 L.kind, .int .i64 L.ns, .string L.name, .slice ao nn cc, .string L.text, .slice none 0 0]) (by simp [results, go_sem, x0, x1, x2, x3, x4, x5]) rfl ⟨(ao, nn, cc), rfl, kD, R9⟩

end

end Go.Proofs.YtgjkfpmhgidpaaaGreat

/-
  The program's arena: Pure under way, its pile.
-/
namespace Go.Proofs.YtgjkfpmhgidpaaaGreat
open Go.RowKit Go.Maps Utf
set_option linter.unusedVariables false
set_option linter.unusedSimpArgs false

namespace Ar
/-- Those that have their cells once the nodes of D have their kids. -/
def Mof (A : Ar) (x0 : Nat) (D : List Nat) (x : Nat) : Prop := x = x0 ∨ ∃ p, p ∈ D ∧ A.up x = some p
def Kof (A : Ar) (D : List Nat) (x : Nat) : Bool := decide (x ∈ D ∧ A.kids x ≠ [])

/-- D is done, L is still to be done. -/
structure Pw (A : Ar) (x0 : Nat) (D L : List Nat) : Prop where
  dn : D.Nodup
  dw : ∀ x, x ∈ D → A.Mof x0 D x ∧ A.Wn x x0 ∧ x < A.n
  ln : L.Nodup
  lw : ∀ x, x ∈ L → A.Mof x0 D x ∧ x ∉ D ∧ A.Wn x x0 ∧ x < A.n
  al : ∀ x, A.Mof x0 D x → x ∈ D ∨ x ∈ L

theorem Pw.start {A : Ar} {x0 : Nat} (h : x0 < A.n) : A.Pw x0 [] [x0] :=
  ⟨List.nodup_nil, fun x hx => (by cases hx), by simp, fun x hx => by rw [List.mem_singleton.1 hx]; exact ⟨.inl rfl, (fun h => by cases h), Wn.refl A x0, h⟩, fun x hx => by
    rcases hx with rfl | ⟨p, hp, _⟩
    · exact .inr (by simp)
    · cases hp⟩

theorem Mof_cons (A : Ar) (ok : A.Ok) (x0 y : Nat) (D : List Nat) (x : Nat) : A.Mof x0 (y :: D) x ↔ A.Mof x0 D x ∨ x ∈ A.kids y := by
  unfold Mof
  constructor
  · rintro (h | ⟨p, hp, hu⟩)
    · exact .inl (.inl h)
    · rcases List.mem_cons.1 hp with rfl | hp
      · exact .inr ((ok.link p x).2 hu)
      · exact .inl (.inr ⟨p, hp, hu⟩)
  · rintro ((h | ⟨p, hp, hu⟩) | h)
    · exact .inl h
    · exact .inr ⟨p, List.mem_cons_of_mem _ hp, hu⟩
    · exact .inr ⟨y, by simp, (ok.link y x).1 h⟩

/-- A kid of one that is still to be done has no cells yet. -/
theorem Pw.kid_no {A : Ar} {x0 : Nat} {D L : List Nat} (h : A.Pw x0 D L) (ok : A.Ok) {y c : Nat} (hy : y ∈ L) (hc : c ∈ A.kids y) : ¬ A.Mof x0 D c ∧ c ≠ x0 ∧ c ∉ D := by
  have hu := (ok.link y c).1 hc
  obtain ⟨_, h2, h3, _⟩ := h.lw y hy
  have hc0 : c ≠ x0 := fun e => ok.not_up hu (e ▸ h3)
  have hM : ¬ A.Mof x0 D c := fun hm => by
    rcases hm with e | ⟨p, hp, hup⟩
    · exact hc0 e
    · rw [hu] at hup
      exact h2 ((Option.some.inj hup) ▸ hp)
  exact ⟨hM, hc0, fun hd => hM (h.dw c hd).1⟩

theorem Pw.step {A : Ar} {x0 : Nat} {D S : List Nat} {y : Nat} (h : A.Pw x0 D (S ++ [y])) (ok : A.Ok) : A.Pw x0 (y :: D) (S ++ A.kids y) := by
  have hyL : y ∈ S ++ [y] := by simp
  obtain ⟨y1, y2, y3, y4⟩ := h.lw y hyL
  have hS : ∀ x, x ∈ S → x ≠ y := fun x hx e => by
    have := h.ln
    rw [List.nodup_append] at this
    exact this.2.2 x hx y (by simp) e
  refine ⟨List.nodup_cons.2 ⟨y2, h.dn⟩, fun x hx => ?_, ?_, fun x hx => ?_, fun x hx => ?_⟩
  · rcases List.mem_cons.1 hx with rfl | hx
    · exact ⟨(Mof_cons A ok x0 _ D _).2 (.inl y1), y3, y4⟩
    · obtain ⟨a, b⟩ := h.dw x hx
      exact ⟨(Mof_cons A ok x0 _ D _).2 (.inl a), b⟩
  · have := h.ln
    rw [List.nodup_append] at this ⊢
    refine ⟨this.1, ok.one y, fun a ha c hc e => ?_⟩
    subst e
    exact (h.kid_no ok hyL hc).1 (h.lw a (by simp [ha])).1
  · rcases List.mem_append.1 hx with hx | hx
    · obtain ⟨a, b, c, d⟩ := h.lw x (by simp [hx])
      exact ⟨(Mof_cons A ok x0 _ D _).2 (.inl a), fun hm => by
        rcases List.mem_cons.1 hm with e | hm
        · exact hS x hx e
        · exact b hm, c, d⟩
    · obtain ⟨a, b, c⟩ := h.kid_no ok hyL hx
      have hu := (ok.link y x).1 hx
      refine ⟨(Mof_cons A ok x0 _ D _).2 (.inr hx), fun hm => ?_, Wn.step hu y3, (ok.lt hu).1⟩
      rcases List.mem_cons.1 hm with e | hm
      · subst e; exact ok.not_up hu (Wn.refl A x)
      · exact c hm
  · rcases (Mof_cons A ok x0 _ D _).1 hx with hx | hx
    · rcases h.al x hx with h1 | h1
      · exact .inl (List.mem_cons_of_mem _ h1)
      · rcases List.mem_append.1 h1 with h1 | h1
        · exact .inr (by simp [h1])
        · exact .inl (by simp [List.mem_singleton.1 h1])
    · exact .inr (by simp [hx])

theorem Pw.lenD {A : Ar} {x0 : Nat} {D L : List Nat} (h : A.Pw x0 D L) : D.length ≤ A.n := pig _ _ h.dn (fun x hx => (h.dw x hx).2.2)
theorem Pw.lenL {A : Ar} {x0 : Nat} {D L : List Nat} (h : A.Pw x0 D L) : L.length ≤ A.n := pig _ _ h.ln (fun x hx => (h.lw x hx).2.2.2)
theorem Pw.lenDy {A : Ar} {x0 : Nat} {D L : List Nat} {y : Nat} (h : A.Pw x0 D L) (hy : y ∈ L) : D.length < A.n := by
  have := pig A.n (y :: D) (List.nodup_cons.2 ⟨(h.lw y hy).2.1, h.dn⟩) (fun x hx => by
    rcases List.mem_cons.1 hx with rfl | hx
    · exact (h.lw x hy).2.2.2
    · exact (h.dw x hx).2.2)
  simp only [List.length_cons] at this
  omega

theorem Pw.all {A : Ar} {x0 : Nat} {D : List Nat} (h : A.Pw x0 D []) {x : Nat} (hx : A.Wn x x0) : x ∈ D := by
  obtain ⟨k, e⟩ := hx
  induction k generalizing x with
  | zero =>
    obtain rfl : x = x0 := by simpa [anc] using e
    rcases h.al x (.inl rfl) with h1 | h1
    · exact h1
    · cases h1
  | succ k ih =>
    cases hu : A.up x with
    | none => simp [anc, hu] at e
    | some p =>
      have hp := ih (x := p) (by simpa [anc, hu] using e)
      rcases h.al x (.inr ⟨p, hp, hu⟩) with h1 | h1
      · exact h1
      · cases h1
end Ar

/-- The pile's cells. -/
def px (A : Ar) (x0 gT : Nat) (B : Nat → Nat) (S : List Nat) : List Value := S.flatMap (fun x => pcc ⟨A.abk x0 gT B x, A.aof x0 x, none⟩ (x : Int))
theorem px_app (A : Ar) (x0 gT : Nat) (B : Nat → Nat) (S T : List Nat) : px A x0 gT B (S ++ T) = px A x0 gT B S ++ px A x0 gT B T := by unfold px; rw [List.flatMap_append]
theorem px_congr {A : Ar} {x0 gT : Nat} {B B' : Nat → Nat} {S : List Nat} (h : ∀ x, x ∈ S → A.abk x0 gT B' x = A.abk x0 gT B x) : px A x0 gT B' S = px A x0 gT B S := by
  induction S with
  | nil => rfl
  | cons x r ih =>
    unfold px at ih ⊢
    rw [List.flatMap_cons, List.flatMap_cons, ih (fun y hy => h y (List.mem_cons_of_mem _ hy)), h x (by simp)]

/-- Pure under way in memory: the tree, the pile, the result's block; scratch has the mark 0. -/
structure Pm (A : Ar) (w wr : World) (x0 gT s P : Nat) (τ : Nat → Nat) (B : Nat → Nat) (M : Nat → Prop) (K : Nat → Bool) (v : Value) (S : List Nat) : Prop where
  cs : Cs A w wr x0 gT τ B M K
  pk : Pk 2 wr 128 95 P v S.length (px A x0 gT B S)
  pn : ∀ k, k = P ∨ k ∈ blk v → w.heap.size ≤ k ∧ τ k = 0 ∧ k ≠ s
  rs : At wr s #[.int .i64 0, .int .i64 0, .string ⟨#[]⟩, .slice none 0 0, .string ⟨#[]⟩, .slice none 0 0] 38
  rn : w.heap.size ≤ s ∧ τ s = 0

theorem Pk.lt {K : Nat} {w : World} {T e : TypeId} {p : Nat} {v : Value} {n : Nat} {xs : List Value} (h : Pk K w T e p v n xs) : ∀ k, k = p ∨ k ∈ blk v → k < w.heap.size := fun k hk => by
  rcases hk with rfl | hk
  · exact lt_of h.1
  · exact h.2.1.lt k hk

section
variable {A : Ar} {w wr : World} {x0 gT s P : Nat} {τ : Nat → Nat} {B : Nat → Nat} {M : Nat → Prop} {K : Nat → Bool} {v : Value} {S : List Nat}

/-- Blocks that are none of these, or new ones, have turned. -/
theorem Pm.keep {D : List Nat} {w2 : World} {τ' : Nat → Nat} (h : Pm A w wr x0 gT s P τ B M K v S) (k : Kp D wr w2) (hD : ∀ x, x ∈ D → w.heap.size ≤ x ∧ (x < wr.heap.size → τ x ≠ 1 ∧ τ x ≠ 2 ∧ x ≠ P ∧ x ∉ blk v ∧ x ≠ s)) (ht : ∀ x, x < wr.heap.size → τ' x = τ x) : Pm A w w2 x0 gT s P τ' B M K v S := by
  have hp := h.pk.lt
  refine ⟨h.cs.keep k (fun x hx => ⟨(hD x hx).1, fun hl => ⟨((hD x hx).2 hl).1, ((hD x hx).2 hl).2.1⟩⟩) ht, h.pk.keep k (fun hx => ((hD P hx).2 (hp P (.inl rfl))).2.2.1 rfl) (fun x hx hs => ((hD x hs).2 (hp x (.inr hx))).2.2.2.1 hx), fun x hx => ?_, h.rs.kept k (fun hx => ((hD s hx).2 h.rs.lt).2.2.2.2 rfl), h.rn.1, by rw [ht s h.rs.lt]; exact h.rn.2⟩
  obtain ⟨a, b, c⟩ := h.pn x hx
  exact ⟨a, by rw [ht x (hp x hx)]; exact b, c⟩

theorem Pm.kept {w2 : World} (h : Pm A w wr x0 gT s P τ B M K v S) (k : Kp [] wr w2) : Pm A w w2 x0 gT s P τ B M K v S := h.keep k (fun x hx => by simp at hx) (fun _ _ => rfl)

/-- The pile has turned. -/
theorem Pm.pile {w2 : World} {S' : List Nat} {n' : Nat} (h : Pm A w wr x0 gT s P τ B M K v S) (t : Tk 2 wr w2 128 95 P v n' (px A x0 gT B S')) (hn : n' = S'.length) : ∃ v' τ', Pm A w w2 x0 gT s P τ' B M K v' S' ∧ (∀ x, x < wr.heap.size → τ' x = τ x) ∧ Kp (P :: blk v) wr w2 ∧ ∀ k, k ∈ blk v' → k ∈ blk v ∨ wr.heap.size ≤ k := by
  subst hn
  obtain ⟨v', t1, t2, t3⟩ := t
  obtain ⟨T, hT⟩ : ∃ T : Nat → Nat, T = fun b => if b < wr.heap.size then τ b else 0 := ⟨_, rfl⟩
  have T0 : ∀ x, x < wr.heap.size → T x = τ x := fun x hx => by rw [hT]; simp only [if_pos hx]
  have hin : ∀ x, x ∈ P :: blk v → x = P ∨ x ∈ blk v := fun x hx => List.mem_cons.1 hx
  have hkw := h.cs.kp.size
  refine ⟨v', T, ⟨h.cs.keep t2 (fun x hx => ⟨(h.pn x (hin x hx)).1, fun _ => by have := (h.pn x (hin x hx)).2.1; omega⟩) T0, t1, fun x hx => ?_, h.rs.kept t2 (fun hx => (h.pn s (hin s hx)).2.2 rfl), h.rn.1, by rw [T0 s h.rs.lt]; exact h.rn.2⟩, T0, t2, t3⟩
  have hs := h.rs.lt
  rcases hx with rfl | hx
  · obtain ⟨a, b, c⟩ := h.pn x (.inl rfl)
    exact ⟨a, by rw [T0 x (h.pk.lt x (.inl rfl))]; exact b, c⟩
  · rcases t3 x hx with h1 | h1
    · obtain ⟨a, b, c⟩ := h.pn x (.inr h1)
      exact ⟨a, by rw [T0 x (h.pk.lt x (.inr h1))]; exact b, c⟩
    · exact ⟨by omega, by rw [hT]; simp only [if_neg (show ¬ x < wr.heap.size by omega)], by omega⟩

/-- A block beside all that. -/
def Ex (w wr : World) (s P : Nat) (τ : Nat → Nat) (v : Value) (b : Nat) : Prop := w.heap.size ≤ b ∧ b < wr.heap.size ∧ τ b = 0 ∧ b ≠ P ∧ b ∉ blk v ∧ b ≠ s

theorem Ex.step {w wr w2 : World} {s P : Nat} {τ τ' : Nat → Nat} {v v' : Value} {b : Nat} (h : Ex w wr s P τ v b) (hs : wr.heap.size ≤ w2.heap.size) (ht : ∀ x, x < wr.heap.size → τ' x = τ x) (hv : ∀ k, k ∈ blk v' → k ∈ blk v ∨ wr.heap.size ≤ k) : Ex w w2 s P τ' v' b := by
  obtain ⟨h1, h2, h3, h4, h5, h6⟩ := h
  refine ⟨h1, Nat.lt_of_lt_of_le h2 hs, by rw [ht b h2]; exact h3, h4, fun hx => ?_, h6⟩
  rcases hv b hx with h7 | h7
  · exact h5 h7
  · omega

/-- The loop of Pure. -/
def RPure (A : Ar) (w : World) (x0 gT s P : Nat) (a : Value × Value × World) (n : Nat) : Prop :=
  ∃ (gA : Nat) (D S cu : List Nat) (τ B : Nat → Nat) (v c0 c1 : Value), a.1 = .pointer (some ⟨gA, 0, none⟩) ∧ a.2.1 = .bool (decide (cu ≠ [])) ∧ A.n - D.length = n ∧ Pm A w a.2.2 x0 gT s P τ B (A.Mof x0 D) (A.Kof D) v S ∧ A.Pw x0 D (S ++ cu) ∧ cu.length ≤ 1 ∧ Ex w a.2.2 s P τ v gA ∧ At a.2.2 gA #[c0, c1] 95 ∧ (∀ y, y ∈ cu → c0 = .int .i64 (y : Int) ∧ c1 = .pointer (some ⟨A.abk x0 gT B y, A.aof x0 y, none⟩)) ∧ (cu = [] → S = [])

theorem tail_none {D : List Nat} (pm : Pm A w wr x0 gT s P τ B (A.Mof x0 D) (A.Kof D) v []) (pw : A.Pw x0 D []) (c0 c1 : Value) {w2 : World} (k : Kp [] (wr.alloc (.cells #[c0, c1] 95)) w2) :
    RPure A w x0 gT s P (.pointer (some ⟨wr.heap.size, 0, none⟩), .bool false, (w2.setCell ⟨wr.heap.size, 0, none⟩ (.int .i64 0)).setCell ⟨wr.heap.size, 1, none⟩ (.pointer none)) (A.n - D.length) := by
  have ka : Kp [] wr (wr.alloc (.cells #[c0, c1] 95)) := (Kp.refl _ _).alloc _
  have A2 : At w2 wr.heap.size #[c0, c1] 95 := (At.new wr _ _).kept k (by simp)
  have k3 : Kp [wr.heap.size] w2 ((w2.setCell ⟨wr.heap.size, 0, none⟩ (.int .i64 0)).setCell ⟨wr.heap.size, 1, none⟩ (.pointer none)) := ((Kp.refl _ _).setCell (Or.inl (by simp)) _).setCell (Or.inl (by simp)) _
  have kk : Kp [wr.heap.size] wr _ := ((ka.trans k (fun x hx => Or.inl hx)).mono (T := [wr.heap.size]) (fun x hx => by simp at hx)).trans k3 (fun x hx => Or.inl hx)
  have hkw := pm.cs.kp.size
  obtain ⟨T, hT⟩ : ∃ T : Nat → Nat, T = fun b => if b < wr.heap.size then τ b else 0 := ⟨_, rfl⟩
  have T0 : ∀ x, x < wr.heap.size → T x = τ x := fun x hx => by rw [hT]; simp only [if_pos hx]
  have hpl := pm.pk.lt
  have hsl := pm.rs.lt
  refine ⟨wr.heap.size, D, [], [], T, B, v, _, _, rfl, rfl, rfl, pm.keep kk (fun x hx => by rw [List.mem_singleton.1 hx]; exact ⟨hkw, fun hl => absurd hl (Nat.lt_irrefl _)⟩) T0, pw, Nat.zero_le _, ⟨hkw, ((A2.set 0 _).set 1 _).lt, by rw [hT]; simp only [if_neg (Nat.lt_irrefl _)], fun e => by have := hpl P (.inl rfl); omega, fun hx => by have := hpl _ (.inr hx); omega, fun e => by omega⟩, (A2.set 0 _).set 1 _, fun y hy => (by cases hy), fun _ => rfl⟩

theorem tail_some {D S2 : List Nat} {y : Nat} (pm : Pm A w wr x0 gT s P τ B (A.Mof x0 D) (A.Kof D) v (S2 ++ [y])) (pw : A.Pw x0 D (S2 ++ [y])) (c0 c1 : Value) {w2 : World} (t : Tk 2 (wr.alloc (.cells #[c0, c1] 95)) w2 128 95 P v S2.length (px A x0 gT B S2)) :
    RPure A w x0 gT s P (.pointer (some ⟨wr.heap.size, 0, none⟩), .bool true, (w2.setCell ⟨wr.heap.size, 0, none⟩ (.int .i64 (y : Int))).setCell ⟨wr.heap.size, 1, none⟩ (.pointer (some ⟨A.abk x0 gT B y, A.aof x0 y, none⟩))) (A.n - D.length) := by
  have ka : Kp [] wr (wr.alloc (.cells #[c0, c1] 95)) := (Kp.refl _ _).alloc _
  have hpl := pm.pk.lt
  have hsl := pm.rs.lt
  have hkw := pm.cs.kp.size
  obtain ⟨T1, hT1⟩ : ∃ T : Nat → Nat, T = fun b => if b < wr.heap.size then τ b else 0 := ⟨_, rfl⟩
  have T01 : ∀ x, x < wr.heap.size → T1 x = τ x := fun x hx => by rw [hT1]; simp only [if_pos hx]
  have pm1 : Pm A w (wr.alloc (.cells #[c0, c1] 95)) x0 gT s P T1 B (A.Mof x0 D) (A.Kof D) v (S2 ++ [y]) := pm.keep ka (fun x hx => by simp at hx) T01
  obtain ⟨v', τ', pm2, T2, k2, b2⟩ := pm1.pile t rfl
  have hnP : wr.heap.size ∉ P :: blk v := fun hx => by
    have := hpl _ (List.mem_cons.1 hx)
    omega
  have A2 : At w2 wr.heap.size #[c0, c1] 95 := (At.new wr _ _).kept k2 hnP
  have hex : Ex w (wr.alloc (.cells #[c0, c1] 95)) s P T1 v wr.heap.size := ⟨hkw, by simp, by rw [hT1]; simp only [if_neg (Nat.lt_irrefl _)], fun e => by have := hpl P (.inl rfl); omega, fun hx => by have := hpl _ (.inr hx); omega, fun e => by omega⟩
  have hex2 := hex.step (w2 := w2) (τ' := τ') (v' := v') k2.size T2 b2
  have k3 : Kp [wr.heap.size] w2 ((w2.setCell ⟨wr.heap.size, 0, none⟩ (.int .i64 (y : Int))).setCell ⟨wr.heap.size, 1, none⟩ (.pointer (some ⟨A.abk x0 gT B y, A.aof x0 y, none⟩))) := ((Kp.refl _ _).setCell (Or.inl (by simp)) _).setCell (Or.inl (by simp)) _
  have pm3 := pm2.keep (τ' := τ') k3 (fun x hx => by rw [List.mem_singleton.1 hx]; exact ⟨hkw, fun _ => ⟨by rw [hex2.2.2.1]; omega, by rw [hex2.2.2.1]; omega, hex2.2.2.2.1, hex2.2.2.2.2.1, hex2.2.2.2.2.2⟩⟩) (fun _ _ => rfl)
  refine ⟨wr.heap.size, D, S2, [y], τ', B, v', _, _, rfl, rfl, rfl, pm3, pw, by simp, hex2.step k3.size (fun _ _ => rfl) (fun k hk => .inl hk), (A2.set 0 _).set 1 _, fun z hz => by rw [List.mem_singleton.1 hz]; exact ⟨rfl, rfl⟩, fun e => by cases e⟩

end

end Go.Proofs.YtgjkfpmhgidpaaaGreat

/-
  The program's arena: Pure under way, step by step.
-/
namespace Go.Proofs.YtgjkfpmhgidpaaaGreat
open Go.RowKit Go.Maps Utf
set_option linter.unusedVariables false
set_option linter.unusedSimpArgs false

/-- Kids are set for those of D, and for y. -/
def Kin (A : Ar) (D : List Nat) (y : Nat) (x : Nat) : Bool := if x = y then true else A.Kof D x

section
variable {A : Ar} {w wr : World} {x0 gT s P : Nat} {τ : Nat → Nat} {B : Nat → Nat} {v : Value} {D S : List Nat} {y : Nat}

theorem kof_y (pw : A.Pw x0 D (S ++ [y])) : A.Kof D y = false := by
  unfold Ar.Kof
  exact decide_eq_false (fun hh => (pw.lw y (by simp)).2.1 hh.1)

theorem kdv_y (pw : A.Pw x0 D (S ++ [y])) : A.kdV B (A.Kof D) y = (none, 0, 0) := by unfold Ar.kdV; rw [if_neg (by rw [kof_y pw]; simp)]

/-- A node without kids is done. -/
theorem Pm.leaf (pm : Pm A w wr x0 gT s P τ B (A.Mof x0 D) (A.Kof D) v S) (ok : A.Ok) (pw : A.Pw x0 D (S ++ [y])) (hk : A.kids y = []) : Pm A w wr x0 gT s P τ B (A.Mof x0 (y :: D)) (A.Kof (y :: D)) v S ∧ A.Pw x0 (y :: D) S := by
  have h2 := pw.step ok
  rw [hk, List.append_nil] at h2
  refine ⟨⟨pm.cs.congr (fun x => ?_) (fun x => ?_), pm.pk, pm.pn, pm.rs, pm.rn⟩, h2⟩
  · rw [Ar.Mof_cons A ok, hk]; simp
  · unfold Ar.Kof
    by_cases e : x = y
    · subst e; rw [decide_eq_false (fun hh => hh.2 hk), decide_eq_false (fun hh => hh.2 hk)]
    · refine decide_eq_decide.2 ⟨fun hh => ⟨?_, hh.2⟩, fun hh => ⟨List.mem_cons_of_mem _ hh.1, hh.2⟩⟩
      rcases List.mem_cons.1 hh.1 with h1 | h1
      · exact absurd h1 e
      · exact h1

/-- A node gets room for its kids. -/
theorem Pm.room {w1 : World} {cur : Array Value} (pm : Pm A w wr x0 gT s P τ B (A.Mof x0 D) (A.Kof D) v S) (ok : A.Ok) (pw : A.Pw x0 D (S ++ [y])) (gK : Nat) (hg : wr.heap.size ≤ gK) (k : Kp [] wr w1) (hc : At w1 gK cur 38) (hsz : (A.kids y).length * 6 = cur.size) :
    ∃ τ', Pm A w (w1.setCell ⟨A.abk x0 gT B y, A.aof x0 y + 5, none⟩ (.slice (some ⟨gK, 0, none⟩) (A.kids y).length (A.kids y).length)) x0 gT s P τ' (fun p => if p = y then gK else B p) (fun x => A.Mof x0 D x ∨ x ∈ (A.kids y).take 0) (Kin A D y) v S ∧ (∀ x, x < wr.heap.size → τ' x = τ x) ∧ Kp [A.abk x0 gT B y] w1 (w1.setCell ⟨A.abk x0 gT B y, A.aof x0 y + 5, none⟩ (.slice (some ⟨gK, 0, none⟩) (A.kids y).length (A.kids y).length)) ∧ τ (A.abk x0 gT B y) = 2 ∧ A.abk x0 gT (fun p => if p = y then gK else B p) y = A.abk x0 gT B y := by
  have hyM := (pw.lw y (by simp)).1
  obtain ⟨y1, y2, y3⟩ := pm.cs.blk2 hyM
  have c2 := pm.cs.kids ok hyM (kof_y pw) hg k hc hsz
  obtain ⟨T, hT⟩ : ∃ T : Nat → Nat, T = fun b => if b < wr.heap.size then τ b else if b = gK then 2 else 0 := ⟨_, rfl⟩
  have T0 : ∀ x, x < wr.heap.size → T x = τ x := fun x hx => by rw [hT]; simp only [if_pos hx]
  rw [← hT] at c2
  have k5 : Kp [A.abk x0 gT B y] w1 (w1.setCell ⟨A.abk x0 gT B y, A.aof x0 y + 5, none⟩ (.slice (some ⟨gK, 0, none⟩) (A.kids y).length (A.kids y).length)) := (Kp.refl _ _).setCell (Or.inl (by simp)) _
  have hpl := pm.pk.lt
  have hne : ∀ z, τ z = 0 → z ≠ A.abk x0 gT B y := fun z hz e => by rw [e, y1] at hz; cases hz
  have epx : px A x0 gT (fun p => if p = y then gK else B p) S = px A x0 gT B S := px_congr (fun x hx => by
    unfold Ar.abk
    by_cases e : x = x0
    · rw [if_pos e, if_pos e]
    · obtain ⟨p, hu, hkp⟩ := pm.cs.mkd x (pw.lw x (by simp [hx])).1 e
      rw [if_neg e, if_neg e, Ar.par_eq hu]
      exact if_neg (fun e2 => by rw [e2, kof_y pw] at hkp; cases hkp))
  refine ⟨T, ⟨c2.congr (fun x => by simp) (fun x => rfl), ?_, fun z hz => ?_, ?_, pm.rn.1, by rw [T0 s pm.rs.lt]; exact pm.rn.2⟩, T0, k5, y1, ?_⟩
  rotate_right
  · unfold Ar.abk
    by_cases e : y = x0
    · rw [if_pos e, if_pos e]
    · obtain ⟨p, hu, hkp⟩ := pm.cs.mkd y hyM e
      rw [if_neg e, if_neg e, Ar.par_eq hu]
      exact if_neg (fun e2 => by rw [e2, kof_y pw] at hkp; cases hkp)
  · rw [epx]
    refine (pm.pk.keep k (by simp) (fun _ _ => by simp)).keep k5 ?_ (fun x hx => ?_)
    · simpa using hne P (pm.pn P (.inl rfl)).2.1
    · simpa using hne x (pm.pn x (.inr hx)).2.1
  · obtain ⟨a1, a2, a3⟩ := pm.pn z hz
    exact ⟨a1, by rw [T0 z (hpl z hz)]; exact a2, a3⟩
  · exact (pm.rs.kept k (by simp)).kept k5 (by simpa using hne s pm.rn.2)

/-- A kid's cells are laid. -/
theorem pm_kid {V : World} {pa : Option Addr × Nat × Nat} {j c : Nat} (pm : Pm A w wr x0 gT s P τ B (fun x => A.Mof x0 D x ∨ x ∈ (A.kids y).take j) (Kin A D y) v (S ++ (A.kids y).take j)) (ok : A.Ok) (pw : A.Pw x0 D (S ++ [y])) (hj : j < (A.kids y).length) (hc : (A.kids y)[j] = c) (k : Kp [] wr V) (hat : Rk (fun b => wr.heap.size ≤ b) 2 V pa.1 pa.2.1 pa.2.2 (cs (A.lb c).attrs)) :
    ∃ τ', Pm A w (put6 V (B y) (j * 6) (.int .i64 (A.lb c).kind) (.int .i64 (A.lb c).ns) (.string (A.lb c).name) (.slice pa.1 pa.2.1 pa.2.2) (.string (A.lb c).text) (.slice none 0 0)) x0 gT s P τ' B (fun x => A.Mof x0 D x ∨ x ∈ (A.kids y).take (j + 1)) (Kin A D y) v (S ++ (A.kids y).take j) ∧ (∀ x, x < wr.heap.size → τ' x = τ x) ∧ Kp [B y] V (put6 V (B y) (j * 6) (.int .i64 (A.lb c).kind) (.int .i64 (A.lb c).ns) (.string (A.lb c).name) (.slice pa.1 pa.2.1 pa.2.2) (.string (A.lb c).text) (.slice none 0 0)) ∧ τ (B y) = 2 := by
  have hyL : y ∈ S ++ [y] := by simp
  have hcm : c ∈ A.kids y := by rw [← hc]; exact List.getElem_mem hj
  obtain ⟨m1, m2, m3⟩ := pw.kid_no ok hyL hcm
  have hcy : c ≠ y := fun e => ok.not_up ((ok.link y c).1 hcm) (e ▸ Ar.Wn.refl A c)
  have hky : Kin A D y y = true := by unfold Kin; rw [if_pos rfl]
  have hts : (A.kids y).take (j + 1) = (A.kids y).take j ++ [c] := by rw [List.take_succ_eq_append_getElem hj, hc]
  have hnt : c ∉ (A.kids y).take j := fun hm => by
    have hnd := ok.one y
    rw [← List.take_append_drop (j + 1) (A.kids y), hts, List.append_assoc, List.nodup_append] at hnd
    exact hnd.2.2 c hm c (by simp) rfl
  have c2 := pm.cs.kid ok hky hj hc (fun hm => hm.elim m1 hnt) (by unfold Kin; rw [if_neg hcy]; unfold Ar.Kof; exact decide_eq_false (fun hh => m3 hh.1)) m2 k hat
  obtain ⟨_, b3, b4, _⟩ := pm.cs.bks y hky
  obtain ⟨T, hT⟩ : ∃ T : Nat → Nat, T = fun b => if b < wr.heap.size then τ b else 1 := ⟨_, rfl⟩
  have T0 : ∀ x, x < wr.heap.size → T x = τ x := fun x hx => by rw [hT]; simp only [if_pos hx]
  rw [← hT] at c2
  have k6 : Kp [B y] V (put6 V (B y) (j * 6) (.int .i64 (A.lb c).kind) (.int .i64 (A.lb c).ns) (.string (A.lb c).name) (.slice pa.1 pa.2.1 pa.2.2) (.string (A.lb c).text) (.slice none 0 0)) := kp_put6 (Kp.refl [B y] V) _ _ _ _ _ _ _
  have hpl := pm.pk.lt
  have hne : ∀ z, τ z = 0 → z ≠ B y := fun z hz e => by rw [e, b4] at hz; cases hz
  refine ⟨T, ⟨c2.congr (fun x => ?_) (fun x => rfl), (pm.pk.keep k (by simp) (fun _ _ => by simp)).keep k6 (by simpa using hne P (pm.pn P (.inl rfl)).2.1) (fun x hx => by simpa using hne x (pm.pn x (.inr hx)).2.1), fun z hz => ?_, (pm.rs.kept k (by simp)).kept k6 (by simpa using hne s pm.rn.2), pm.rn.1, by rw [T0 s pm.rs.lt]; exact pm.rn.2⟩, T0, k6, b4⟩
  · rw [hts, List.mem_append, List.mem_singleton, or_assoc]
  · obtain ⟨a1, a2, a3⟩ := pm.pn z hz
    exact ⟨a1, by rw [T0 z (hpl z hz)]; exact a2, a3⟩

/-- All kids are laid: the node is done. -/
theorem Pm.done (pm : Pm A w wr x0 gT s P τ B (fun x => A.Mof x0 D x ∨ x ∈ A.kids y) (Kin A D y) v (S ++ A.kids y)) (ok : A.Ok) (pw : A.Pw x0 D (S ++ [y])) (hk : A.kids y ≠ []) : Pm A w wr x0 gT s P τ B (A.Mof x0 (y :: D)) (A.Kof (y :: D)) v (S ++ A.kids y) ∧ A.Pw x0 (y :: D) (S ++ A.kids y) := by
  refine ⟨⟨pm.cs.congr (fun x => Ar.Mof_cons A ok x0 y D x) (fun x => ?_), pm.pk, pm.pn, pm.rs, pm.rn⟩, pw.step ok⟩
  unfold Kin Ar.Kof
  by_cases e : x = y
  · subst e; rw [if_pos rfl]; exact decide_eq_true ⟨by simp, hk⟩
  · rw [if_neg e]
    refine decide_eq_decide.2 ⟨fun hh => ⟨?_, hh.2⟩, fun hh => ⟨List.mem_cons_of_mem _ hh.1, hh.2⟩⟩
    rcases List.mem_cons.1 hh.1 with h1 | h1
    · exact absurd h1 e
    · exact h1

/-- The beginning: the top node's cells, an empty pile. -/
theorem pm_start {W1 W2 : World} {pa : Option Addr × Nat × Nat} (hx0 : x0 < A.n) (k1 : Kp [] w W1) (A1 : At W1 w.heap.size #[.int .i64 0, .int .i64 0, .string ⟨#[]⟩, .slice none 0 0, .string ⟨#[]⟩, .slice none 0 0] 38) (k2 : Kp [] W1 W2) (r2 : Rk (fun z => W1.heap.size ≤ z) 2 W2 pa.1 pa.2.1 pa.2.2 (cs (A.lb x0).attrs)) :
    ∃ τ, Pm A w ((W2.alloc (.cells #[.int .i64 (A.lb x0).kind, .int .i64 (A.lb x0).ns, .string (A.lb x0).name, .slice pa.1 pa.2.1 pa.2.2, .string (A.lb x0).text, .slice none 0 0] 38)).alloc (.cells #[.slice none 0 0] 128)) x0 W2.heap.size w.heap.size (W2.heap.size + 1) τ (fun _ => 0) (A.Mof x0 []) (A.Kof []) (.slice none 0 0) [] := by
  obtain ⟨X, hX⟩ : ∃ X, X = W2.alloc (.cells #[.int .i64 (A.lb x0).kind, .int .i64 (A.lb x0).ns, .string (A.lb x0).name, .slice pa.1 pa.2.1 pa.2.2, .string (A.lb x0).text, .slice none 0 0] 38) := ⟨_, rfl⟩
  rw [← hX]
  have kX : Kp [] W2 X := by rw [hX]; exact (Kp.refl _ _).alloc _
  have kP : Kp [] X (X.alloc (.cells #[.slice none 0 0] 128)) := (Kp.refl _ _).alloc _
  have AT : At X W2.heap.size #[.int .i64 (A.lb x0).kind, .int .i64 (A.lb x0).ns, .string (A.lb x0).name, .slice pa.1 pa.2.1 pa.2.2, .string (A.lb x0).text, .slice none 0 0] 38 := by rw [hX]; exact At.new _ _ _
  have sX : X.heap.size = W2.heap.size + 1 := by rw [hX]; simp
  have hw1 : w.heap.size < W1.heap.size := A1.lt
  have hw2 := k2.size
  obtain ⟨T, hT⟩ : ∃ T : Nat → Nat, T = fun b => if b = W2.heap.size then 2 else if W1.heap.size ≤ b ∧ b < W2.heap.size then 1 else 0 := ⟨_, rfl⟩
  have hK : ∀ p, A.Kof [] p = false := fun p => by unfold Ar.Kof; exact decide_eq_false (fun hh => by cases hh.1)
  have ATP := AT.kept kP (by simp)
  refine ⟨T, ⟨(k1.trans k2 (fun x hx => Or.inl hx)).trans (kX.trans kP (fun x hx => Or.inl hx)) (fun x hx => Or.inl hx), ⟨_, ATP, by simp⟩, ⟨by omega, by rw [hT]; simp⟩, fun p hp => ?_, fun p p' hp => ?_, fun x hx e => ?_, .inl rfl, fun x hx => ?_⟩, ⟨?_, ⟨rfl, Or.inl ⟨rfl, rfl⟩⟩, by simp [blk]⟩, fun z hz => ?_, ((A1.kept k2 (by simp)).kept kX (by simp)).kept kP (by simp), Nat.le_refl _, ?_⟩
  · rw [hK p] at hp; cases hp
  · rw [hK p] at hp; cases hp
  · rcases hx with e2 | ⟨p, hp, _⟩
    · exact absurd e2 e
    · cases hp
  · have e : x = x0 := by
      rcases hx with e2 | ⟨p, hp, _⟩
      · exact e2
      · cases hp
    subst e
    refine ⟨pa, ?_, ?_⟩
    · unfold Ar.abk Ar.aof Ar.kdV
      rw [if_pos rfl, if_pos rfl, if_neg (by rw [hK]; simp)]
      exact ⟨_, _, ATP, fun i hi => by rw [Nat.zero_add]; simp [six]⟩
    · refine ⟨r2.len, r2.cap, fun hn => ?_⟩
      obtain ⟨b, off, cur, t, hq, e1, e2, e3⟩ := r2.at' hn
      have hl := lt_of e2
      exact ⟨b, off, cur, t, ⟨by omega, by rw [hT]; simp only [if_neg (show ¬ b = W2.heap.size by omega), if_pos (show W1.heap.size ≤ b ∧ b < W2.heap.size from ⟨hq, hl⟩)]⟩, e1, by rw [kP.block b (by omega) (by simp), kX.block b hl (by simp)]; exact e2, e3⟩
  · rw [← sX]; exact heap_new X _
  · rcases hz with rfl | hz
    · exact ⟨by omega, by rw [hT]; simp only [if_neg (show ¬ W2.heap.size + 1 = W2.heap.size by omega), if_neg (show ¬ (W1.heap.size ≤ W2.heap.size + 1 ∧ W2.heap.size + 1 < W2.heap.size) by omega)], by omega⟩
    · simp [blk] at hz
  · rw [hT]; simp only [if_neg (show ¬ w.heap.size = W2.heap.size by omega), if_neg (show ¬ (W1.heap.size ≤ w.heap.size ∧ w.heap.size < W2.heap.size) by omega)]

/-- The first one is taken from the pile. -/
theorem head_some {w2 : World} {n' : Nat} (pm : Pm A w wr x0 gT s P τ B (A.Mof x0 []) (A.Kof []) v [x0]) (hx0 : x0 < A.n) (t : Tk 2 wr w2 128 95 P v n' (px A x0 gT B [])) (hn : n' = 0) :
    RPure A w x0 gT s P (.pointer (some ⟨w2.heap.size, 0, none⟩), .bool true, w2.alloc (.cells #[.int .i64 (x0 : Int), .pointer (some ⟨gT, 0, none⟩)] 95)) A.n := by
  obtain ⟨v', τ', pm2, T2, k2, b2⟩ := pm.pile (S' := []) t hn
  have ka : Kp [] w2 (w2.alloc (.cells #[.int .i64 (x0 : Int), .pointer (some ⟨gT, 0, none⟩)] 95)) := (Kp.refl _ _).alloc _
  obtain ⟨T, hT⟩ : ∃ T : Nat → Nat, T = fun b => if b < w2.heap.size then τ' b else 0 := ⟨_, rfl⟩
  have T0 : ∀ x, x < w2.heap.size → T x = τ' x := fun x hx => by rw [hT]; simp only [if_pos hx]
  have hpl := pm2.pk.lt
  have hsl := pm2.rs.lt
  have hkw := pm2.cs.kp.size
  exact ⟨w2.heap.size, [], [], [x0], T, B, v', _, _, rfl, rfl, rfl, pm2.keep ka (fun x hx => by simp at hx) T0, Ar.Pw.start hx0, by simp, ⟨hkw, by simp, by rw [hT]; simp only [if_neg (Nat.lt_irrefl _)], fun e => by have := hpl P (.inl rfl); omega, fun hx => by have := hpl _ (.inr hx); omega, fun e => by omega⟩, At.new _ _ _, fun z hz => by rw [List.mem_singleton.1 hz]; unfold Ar.abk Ar.aof; rw [if_pos rfl, if_pos rfl]; exact ⟨rfl, rfl⟩, fun e => by cases e⟩

/-- The kids of y under way: so many have their cells, so many are on the pile. -/
def Inn (A : Ar) (w wr : World) (x0 gT s P : Nat) (B : Nat → Nat) (D S : List Nat) (y jm jp gA ay oy : Nat) (kl : Value) : Prop :=
  ∃ (τ : Nat → Nat) (v : Value), Pm A w wr x0 gT s P τ B (fun x => A.Mof x0 D x ∨ x ∈ (A.kids y).take jm) (Kin A D y) v (S ++ (A.kids y).take jp) ∧ Ex w wr s P τ v gA ∧ At wr gA #[.int .i64 (y : Int), .pointer (some ⟨ay, oy, none⟩)] 95 ∧ (∀ kb, kb ∈ blk kl → Ex w wr s P τ v kb) ∧ Own wr 3 kl (iv (A.kids y)) ∧ A.abk x0 gT B y = ay ∧ A.aof x0 y = oy

theorem Ex.no2 {τ : Nat → Nat} {b z : Nat} (h : Ex w wr s P τ v b) (hz : τ z = 2) : b ≠ z := fun e => by
  have := h.2.2.1
  rw [e, hz] at this
  cases this

theorem Inn.kid {V : World} {pa : Option Addr × Nat × Nat} {j c gA ay oy : Nat} {kl : Value} (h : Inn A w wr x0 gT s P B D S y j j gA ay oy kl) (ok : A.Ok) (pw : A.Pw x0 D (S ++ [y])) (hj : j < (A.kids y).length) (hc : (A.kids y)[j] = c) (k : Kp [] wr V) (hat : Rk (fun b => wr.heap.size ≤ b) 2 V pa.1 pa.2.1 pa.2.2 (cs (A.lb c).attrs)) :
    Inn A w (put6 V (B y) (j * 6) (.int .i64 (A.lb c).kind) (.int .i64 (A.lb c).ns) (.string (A.lb c).name) (.slice pa.1 pa.2.1 pa.2.2) (.string (A.lb c).text) (.slice none 0 0)) x0 gT s P B D S y (j + 1) j gA ay oy kl := by
  obtain ⟨τ, v, pm, ex, ha, he, ho, e1, e2⟩ := h
  obtain ⟨τ', pm2, T0, k6, h2⟩ := pm_kid pm ok pw hj hc k hat
  have hs := Nat.le_trans k.size k6.size
  refine ⟨τ', v, pm2, ex.step hs T0 (fun k hk => .inl hk), (ha.kept k (by simp)).kept k6 (by simpa using ex.no2 h2), fun kb hk => (he kb hk).step hs T0 (fun k hk => .inl hk), (ho.keep k (fun _ _ => by simp)).keep k6 (fun x hx => by simpa using (he x hx).no2 h2), e1, e2⟩

theorem Inn.push {w2 : World} {j c gA ay oy : Nat} {kl : Value} (h : Inn A w wr x0 gT s P B D S y (j + 1) j gA ay oy kl) (ok : A.Ok) (pw : A.Pw x0 D (S ++ [y])) (hj : j < (A.kids y).length) (hc : (A.kids y)[j] = c) (hn : A.n < 40000) :
    Calls Tryz.prog 49 #[.pointer (some ⟨P, 0, none⟩), .agg #[.int .i64 (c : Int), .pointer (some ⟨B y, j * 6, none⟩)]] wr fun e w' => e = .returned (.tuple #[]) ∧ Inn A w w' x0 gT s P B D S y (j + 1) (j + 1) gA ay oy kl := by
  obtain ⟨τ, v, pm, ex, ha, he, ho, e1, e2⟩ := h
  have hyL : y ∈ S ++ [y] := by simp
  have hcm : c ∈ A.kids y := by rw [← hc]; exact List.getElem_mem hj
  obtain ⟨m1, m2, m3⟩ := pw.kid_no ok hyL hcm
  have huc := (ok.link y c).1 hcm
  have eab : A.abk x0 gT B c = B y := by unfold Ar.abk; rw [if_neg m2, Ar.par_eq huc]
  have eof : A.aof x0 c = j * 6 := by unfold Ar.aof; rw [if_neg m2, Ar.par_eq huc, ← hc, Ar.place_at ok hj]
  have hts : (A.kids y).take (j + 1) = (A.kids y).take j ++ [c] := by rw [List.take_succ_eq_append_getElem hj, hc]
  have hl1 := pw.lenL
  have hl2 : (A.kids y).length ≤ A.n := Ar.pig _ _ (ok.one y) (fun z hz => (ok.kid_lt hz).1)
  refine (cp_push wr P v _ _ ⟨B y, j * 6, none⟩ (c : Int) pm.pk (by simp at hl1 ⊢; omega)).mono ?_
  rintro e w3 ⟨rfl, t⟩
  have ep : px A x0 gT B (S ++ (A.kids y).take j) ++ pcc ⟨B y, j * 6, none⟩ (c : Int) = px A x0 gT B (S ++ (A.kids y).take (j + 1)) := by
    rw [hts, ← List.append_assoc, px_app A x0 gT B (S ++ (A.kids y).take j) [c]]
    congr 1
    unfold px
    rw [List.flatMap_cons, List.flatMap_nil, eab, eof, List.append_nil]
  rw [ep] at t
  obtain ⟨v', τ', pm2, T0, k2, b2⟩ := pm.pile (S' := S ++ (A.kids y).take (j + 1)) t (by rw [hts]; simp; omega)
  have exn : ∀ z, Ex w wr s P τ v z → z ∉ P :: blk v := fun z hz hm => by
    rcases List.mem_cons.1 hm with e | hm
    · exact hz.2.2.2.1 e
    · exact hz.2.2.2.2.1 hm
  exact ⟨rfl, τ', v', pm2, ex.step k2.size T0 b2, ha.kept k2 (exn _ ex), fun kb hk => (he kb hk).step k2.size T0 b2, ho.keep k2 (fun x hx => exn x (he x hx)), e1, e2⟩

/-- What the walk reads in the midst of it. -/
theorem Inn.cells {jm jp gA ay oy : Nat} {kl : Value} (h : Inn A w wr x0 gT s P B D S y jm jp gA ay oy kl) (ok : A.Ok) (pw : A.Pw x0 D (S ++ [y])) : wr.cell? ⟨gA, 1, none⟩ = some (.pointer (some ⟨ay, oy, none⟩)) ∧ wr.cell? ⟨ay, oy + 5, none⟩ = some (.slice (some ⟨B y, 0, none⟩) (A.kids y).length (A.kids y).length) ∧ Kp [] w wr ∧ ∃ cur, At wr (B y) cur 38 ∧ (A.kids y).length * 6 = cur.size := by
  obtain ⟨τ, v, pm, ex, ha, he, ho, rfl, rfl⟩ := h
  have hky : Kin A D y y = true := by unfold Kin; rw [if_pos rfl]
  have h1 := (pm.cs.kidCell (y := y) (.inl (pw.lw y (by simp)).1)).1
  rw [show A.kdV B (Kin A D y) y = (some ⟨B y, 0, none⟩, (A.kids y).length, (A.kids y).length) by unfold Ar.kdV; rw [if_pos hky]] at h1
  exact ⟨ha.cell 1, h1, pm.cs.kp, (pm.cs.bks y hky).1⟩

end

end Go.Proofs.YtgjkfpmhgidpaaaGreat

/-
  The program's arena: Pure.
-/
namespace Go.Proofs.YtgjkfpmhgidpaaaGreat
open Go.RowKit Go.Maps Utf
set_option linter.unusedVariables false
set_option linter.unusedSimpArgs false

theorem least_nat {Q : Nat → Prop} : ∀ n, Q n → ∃ m, Q m ∧ ∀ j, Q j → m ≤ j := by
  intro n
  induction n using Nat.strongRecOn with
  | _ n ih =>
    intro h
    by_cases hx : ∃ j, j < n ∧ Q j
    · obtain ⟨j, h1, h2⟩ := hx
      exact ih j h1 h2
    · exact ⟨n, h, fun j hj => Nat.le_of_not_lt (fun hlt => hx ⟨j, hlt, hj⟩)⟩

/-- How many rounds there are at most: a number for each state, out of what is known of it. -/
theorem least_of {α : Type} (R : α → Nat → Prop) : ∃ μ : α → Nat, ∀ a n, R a n → R a (μ a) ∧ μ a ≤ n := by
  classical
  refine ⟨fun a => if h : ∃ n, R a n then (least_nat h.choose h.choose_spec).choose else 0, fun a n hn => ?_⟩
  have h : ∃ n, R a n := ⟨n, hn⟩
  have hs := (least_nat h.choose h.choose_spec).choose_spec
  simp only [dif_pos h]
  exact ⟨hs.1, hs.2 n hn⟩

theorem info42 : (Tryz.prog.info? 38).map (fun i => (i.zero, i.size, i.bytes)) = some (some (.agg #[.int .i64 0, .int .i64 0, .string ⟨#[]⟩, .slice none 0 0, .string ⟨#[]⟩, .slice none 0 0]), 6, 96) := by kernel_rfl

/-- make, of so many trees. -/
theorem make_trees (w : World) (n : Nat) (h1 : n ≤ 100000) :
    ∃ w1 cur, (Instr.makeSlice 36 (.int .i64 (n : Int)) (.int .i64 (n : Int))).run Tryz.prog w = .ok (.slice (some ⟨w.heap.size, 0, none⟩) n n) w1 ∧ At w1 w.heap.size cur 38 ∧ n * 6 = cur.size ∧ Kp [] w w1 := by
  obtain ⟨i, hi0, hi1, hi2, hi3⟩ := info_parts info42
  have hr := run_make (P := Tryz.prog) w 36 38 i _ Tryz.underlying36 hi0 hi1 .i64 .i64 (n : Int) (n : Int) (by omega) (by omega) (by rw [hi3]; omega) (by omega)
  rw [show ((n : Int)).toNat = n by omega] at hr
  exact ⟨_, _, hr, At.new _ _ _, by rw [size_madeCells, hi2], (Kp.refl _ _).alloc _⟩

section
variable {tag : Nat → Nat} {w : World} {b g o c : Nat} {q : Bool} {A : Ar} {pl : Nat → Np}

set_option maxRecDepth 100000 in
set_option maxHeartbeats 2000000 in
theorem pure_none (h : Rw tag w b g o c q A.n A.raw pl) (hn : A.n < 40000) (z : Int) (hz : A.there z = false) :
    Calls Tryz.prog 12 #[.pointer (some ⟨b, 0, none⟩), .int .i64 z] w fun e w' => e = .returned (.tuple #[.agg #[.int .i64 0, .int .i64 0, .string ⟨#[]⟩, .slice none 0 0, .string ⟨#[]⟩, .slice none 0 0], .int .i64 22]) ∧ Kp [] w w' := by
  have HH : Hid (∀ V, Kp [] w V → Calls Tryz.prog 46 #[.pointer (some ⟨b, 0, none⟩), .int .i64 z] V fun e w' => e = .returned (.bool false) ∧ w' = V) := fun V kV => by
    have := has_any (h.kept kV) (by omega) z
    rw [← there_dec, hz] at this
    exact this
  have k1 : Hid (Kp [] w (w.alloc (.cells #[.int .i64 0, .int .i64 0, .string ⟨#[]⟩, .slice none 0 0, .string ⟨#[]⟩, .slice none 0 0] 38))) := (Kp.refl _ _).alloc _
  clear h hz
  go_enter Tryz.func12, Tryz.ntmps12
  go_wp2_with (go_at_call 46; refine (HH.out _ k1.out).mono ?_; rintro e w9 ⟨rfl, hw⟩; have hw2 := hw.symm; clear hw; subst hw2)
  refine bodyPost_ret (v := .tuple #[.agg #[.int .i64 0, .int .i64 0, .string ⟨#[]⟩, .slice none 0 0, .string ⟨#[]⟩, .slice none 0 0], .int .i64 22]) (by simp [results, go_sem]) rfl ⟨rfl, k1.out⟩

set_option maxRecDepth 100000 in
set_option maxHeartbeats 2000000 in
theorem pure_any (h : Rw tag w b g o c q A.n A.raw pl) (ok : A.Ok) (hn : A.n < 40000) (x0 : Nat) (hx0 : x0 < A.n) (hat : ∀ x, (A.lb x).attrs.length ≤ 20000 ∧ fits (A.lb x).attrs ∧ (A.lb x).name.size ≤ 1000000) :
    Calls Tryz.prog 12 #[.pointer (some ⟨b, 0, none⟩), .int .i64 (x0 : Int)] w fun e w' => ∃ p, e = .returned (.tuple #[wv (A.lb x0) p, .int .i64 0]) ∧ Kp [] w w' ∧ Nd (fun y => w.heap.size ≤ y) w' (A.lb x0) (A.below x0) p := by
  have hth : A.there (x0 : Int) = true := by unfold Ar.there; exact decide_eq_true (by omega)
  have HH : Hid (∀ V, Kp [] w V → Calls Tryz.prog 46 #[.pointer (some ⟨b, 0, none⟩), .int .i64 (x0 : Int)] V fun e w' => e = .returned (.bool true) ∧ w' = V) := fun V kV => by
    have := has_any (h.kept kV) (by omega) (x0 : Int)
    rw [← there_dec, hth] at this
    exact this
  have HBr : Hid (∀ (V : World) (x : Nat), Kp [] w V → x < A.n → Calls Tryz.prog 47 #[.pointer (some ⟨b, 0, none⟩), .int .i64 (x : Int)] V fun e w' => ∃ p : Option Addr × Nat × Nat, e = .returned (wv (A.lb x) (p, (none, 0, 0))) ∧ Kp [] V w' ∧ Rk (fun y => V.heap.size ≤ y) 2 w' p.1 p.2.1 p.2.2 (cs (A.lb x).attrs)) := fun V x kV hx => bare_any (h.kept kV) (by omega) hx ⟨(hat x).1, (hat x).2.1⟩ (hat x).2.2
  have HKi : Hid (∀ (V : World) (x : Nat), Kp [] w V → x < A.n → Calls Tryz.prog 45 #[.pointer (some ⟨b, 0, none⟩), .int .i64 (x : Int)] V fun e w' => ∃ ao n' c', e = .returned (.slice ao n' c') ∧ Made V w' 3 ao n' c' (iv (A.kids x))) := fun V x kV hx => by
    have := kids_any (h.kept kV) ok (by omega) (x : Int)
    rw [show A.kidF (x : Int) = A.kids x by unfold Ar.kidF Ar.there; rw [if_pos (decide_eq_true (by omega)), Int.toNat_natCast]] at this
    exact this
  clear h hat hth
  obtain ⟨W1, hW1⟩ : ∃ W, W = w.alloc (.cells #[.int .i64 0, .int .i64 0, .string ⟨#[]⟩, .slice none 0 0, .string ⟨#[]⟩, .slice none 0 0] 38) := ⟨_, rfl⟩
  have k1 : Kp [] w W1 := by rw [hW1]; exact (Kp.refl _ _).alloc _
  have A1 : At W1 w.heap.size #[.int .i64 0, .int .i64 0, .string ⟨#[]⟩, .slice none 0 0, .string ⟨#[]⟩, .slice none 0 0] 38 := by rw [hW1]; exact At.new _ _ _
  have HW : Hid (w.alloc (.cells #[.int .i64 0, .int .i64 0, .string ⟨#[]⟩, .slice none 0 0, .string ⟨#[]⟩, .slice none 0 0] 38) = W1) := hW1.symm
  have HH1 := HH.out W1 k1
  have HB1 := HBr.out W1 x0 k1 hx0
  clear hW1 HH
  go_enter Tryz.func12, Tryz.ntmps12
  go_upto_region 1 with fail
  rw [HW.out]
  clear HW
  go_wp2_with (first | (go_at_call 46; refine (HH1).mono ?_; rintro e w9 ⟨rfl, hw⟩; have hw2 := hw.symm; clear hw; subst hw2) | (go_at_call 47; refine HB1.mono ?_; rintro e W2 ⟨pa, rfl, k2, r2⟩; refine Hid.out ?_))
  unfold Hid wv
  obtain ⟨gT, hgT⟩ : ∃ g, W2.heap.size = g := ⟨_, rfl⟩
  obtain ⟨τ0, pm0⟩ := pm_start hx0 k1 A1 k2 r2
  have hw2s : w.heap.size < gT := by rw [← hgT]; have := A1.lt; have := k2.size; omega
  rw [hgT] at pm0
  obtain ⟨X4, hX4⟩ : ∃ X, X = ((W2.alloc (.cells #[.int .i64 (A.lb x0).kind, .int .i64 (A.lb x0).ns, .string (A.lb x0).name, .slice pa.1 pa.2.1 pa.2.2, .string (A.lb x0).text, .slice none 0 0] 38)).alloc (.cells #[.slice none 0 0] 128)) := ⟨_, rfl⟩
  rw [← hX4] at pm0
  have HNw : Calls Tryz.prog 48 #[] (W2.alloc (.cells #[.int .i64 (A.lb x0).kind, .int .i64 (A.lb x0).ns, .string (A.lb x0).name, .slice pa.1 pa.2.1 pa.2.2, .string (A.lb x0).text, .slice none 0 0] 38)) fun e w' => e = .returned (.pointer (some ⟨gT + 1, 0, none⟩)) ∧ w' = X4 := by
    have := cp_new (W2.alloc (.cells #[.int .i64 (A.lb x0).kind, .int .i64 (A.lb x0).ns, .string (A.lb x0).name, .slice pa.1 pa.2.1 pa.2.2, .string (A.lb x0).text, .slice none 0 0] 38))
    rw [show (W2.alloc (.cells #[.int .i64 (A.lb x0).kind, .int .i64 (A.lb x0).ns, .string (A.lb x0).name, .slice pa.1 pa.2.1 pa.2.2, .string (A.lb x0).text, .slice none 0 0] 38)).heap.size = gT + 1 by rw [← hgT]; simp, ← hX4] at this
    exact this
  have eab : A.abk x0 gT (fun _ => 0) x0 = gT ∧ A.aof x0 x0 = 0 := by unfold Ar.abk Ar.aof; rw [if_pos rfl, if_pos rfl]; exact ⟨rfl, rfl⟩
  have epx : px A x0 gT (fun _ => 0) [x0] = pcc ⟨gT, 0, none⟩ (x0 : Int) := by unfold px; rw [List.flatMap_cons, List.flatMap_nil, eab.1, eab.2, List.append_nil]
  have HPu : Calls Tryz.prog 49 #[.pointer (some ⟨gT + 1, 0, none⟩), .agg #[.int .i64 (x0 : Int), .pointer (some ⟨gT, 0, none⟩)]] X4 fun e w' => e = .returned (.tuple #[]) ∧ ∃ v τ, Pm A w w' x0 gT w.heap.size (gT + 1) τ (fun _ => 0) (A.Mof x0 []) (A.Kof []) v [x0] := by
    refine (cp_push X4 (gT + 1) (.slice none 0 0) 0 [] ⟨gT, 0, none⟩ (x0 : Int) pm0.pk (by omega)).mono ?_
    rintro e w5 ⟨rfl, t5⟩
    rw [List.nil_append, ← epx] at t5
    obtain ⟨v5, τ5, pm5, _⟩ := pm0.pile (S' := [x0]) t5 rfl
    exact ⟨rfl, v5, τ5, pm5⟩
  clear HH1 HB1 k1 A1 k2 r2 pm0 hX4
  go_wp2_with (first | (go_at_call 48; refine (HNw).mono ?_; rintro e w9 ⟨rfl, hw⟩; have hw2 := hw.symm; clear hw; subst hw2) | (go_at_call 49; refine HPu.mono ?_; rintro e W5 ⟨rfl, v5, τ5, pm5⟩; refine Hid.out ?_))
  unfold Hid
  have HPo : Calls Tryz.prog 50 #[.pointer (some ⟨gT + 1, 0, none⟩)] W5 fun e w' => e = .returned (.tuple #[.agg #[.int .i64 (x0 : Int), .pointer (some ⟨gT, 0, none⟩)], .bool true]) ∧ RPure A w x0 gT w.heap.size (gT + 1) (.pointer (some ⟨w'.heap.size, 0, none⟩), .bool true, w'.alloc (.cells #[.int .i64 (x0 : Int), .pointer (some ⟨gT, 0, none⟩)] 95)) A.n := by
    have hpk := pm5.pk
    rw [epx] at hpk
    refine (cp_pop W5 (gT + 1) v5 0 [] ⟨gT, 0, none⟩ (x0 : Int) hpk (by omega)).mono ?_
    rintro e w6 ⟨rfl, t6⟩
    exact ⟨rfl, head_some pm5 hx0 t6 rfl⟩
  clear HNw HPu pm5 epx eab
  go_wp2_with (go_at_call 50; refine HPo.mono ?_; rintro e W6 ⟨rfl, R6⟩)
  clear HPo
  obtain ⟨μ, hμ⟩ := least_of (RPure A w x0 gT w.heap.size (gT + 1))
  go_loopw [8, 9, 10, 11, 12] (fun x8 x9 _ _ _ wr => ∃ n, RPure A w x0 gT w.heap.size (gT + 1) (x8, x9, wr) n) (fun x8 x9 _ _ _ wr => μ (x8, x9, wr))
  case atStart => exact ⟨_, R6⟩
  case round =>
    clear R6 hgT
    obtain ⟨n0, hrel⟩ := hrel
    obtain ⟨gA, D, S, cu, τ, BB, VV, c0, c1, h8, h9, hlen, pm, pw, hcu, hex, hat, hcy, hcn⟩ := (hμ _ _ hrel).1
    simp only at h8 h9 pm hex hat
    subst h8 h9
    have HM : Hid (∀ a n, RPure A w x0 gT w.heap.size (gT + 1) a n → μ a ≤ n) := fun a n hn => (hμ a n hn).2
    have kw : Kp [] w wr := pm.cs.kp
    cases cu with
    | nil =>
      obtain rfl := hcn rfl
      rw [List.append_nil] at pw
      obtain ⟨p, d1, d2⟩ := pm.cs.nd ok (fun x hx => (pw.dw x (pw.all hx)).1) (fun x hx hk => by unfold Ar.Kof; exact decide_eq_true ⟨pw.all hx, hk⟩) (fun x hk => by unfold Ar.Kof; exact decide_eq_false (fun hh => hh.2 hk)) hx0
      have rs := pm.rs
      have k9 : Kp [w.heap.size] wr (putZ wr w.heap.size (.int .i64 (A.lb x0).kind) (.int .i64 (A.lb x0).ns) (.string (A.lb x0).name) (.slice p.1.1 p.1.2.1 p.1.2.2) (.string (A.lb x0).text) (.slice p.2.1 p.2.2.1 p.2.2.2)) := (Kp.refl _ _).putZ (Or.inl (by simp)) _ _ _ _ _ _
      have nd9 := (d2.keep (k9.sms (fun x hq hs => by rw [List.mem_singleton.1 hs] at hq; exact hq.2 pm.rn.2))).mono (R := fun y => w.heap.size ≤ y) (fun x _ hx => hx.1)
      have D9 : Hid (_ ∧ _ ∧ _) := ⟨(rs.putZ (.int .i64 (A.lb x0).kind) (.int .i64 (A.lb x0).ns) (.string (A.lb x0).name) (.slice p.1.1 p.1.2.1 p.1.2.2) (.string (A.lb x0).text) (.slice p.2.1 p.2.2.1 p.2.2.2)).six, kw.trans k9 (fun x hx => Or.inr (by rw [List.mem_singleton.1 hx]; exact Nat.le_refl _)), nd9⟩
      unfold putZ at D9
      obtain ⟨y0, y1, y2, y3, y4, y5⟩ := d1.cells
      rw [Nat.zero_add] at y1 y2 y3 y4 y5
      obtain ⟨z0, z1, z2, z3, z4, z5⟩ := rs.six
      have fr := rs.free
      clear hrel hμ hlen pm pw hcu hex hat hcy hcn HM rs k9 nd9 d1 d2 kw HBr HKi
      rw [show decide (([] : List Nat) ≠ []) = false from rfl]
      go_wp2
      obtain ⟨⟨x0', x1, x2, x3, x4, x5⟩, kD, R9⟩ := D9.out
      refine bodyPost_ret (v := .tuple #[.agg #[.int .i64 (A.lb x0).kind, .int .i64 (A.lb x0).ns, .string (A.lb x0).name, .slice p.1.1 p.1.2.1 p.1.2.2, .string (A.lb x0).text, .slice p.2.1 p.2.2.1 p.2.2.2], .int .i64 0]) (by simp [results, go_sem, x0', x1, x2, x3, x4, x5]) rfl ⟨p, rfl, kD, R9⟩
    | cons y rest =>
      obtain rfl : rest = [] := List.eq_nil_of_length_eq_zero (by simp only [List.length_cons] at hcu; omega)
      obtain ⟨rfl, rfl⟩ := hcy y (by simp)
      have hyL := pw.lw y (by simp)
      have hyn : y < A.n := hyL.2.2.2
      have HS : Hid (A.n - (y :: D).length < μ (.pointer (some ⟨gA, 0, none⟩), .bool (decide ([y] ≠ [])), wr)) := by
        have := pw.lenDy (y := y) (by simp)
        show A.n - (y :: D).length < _
        rw [← hlen]
        simp
        omega
      have HK := HKi.out wr y kw hyn
      have hlk : (A.kids y).length ≤ A.n := Ar.pig _ _ (ok.one y) (fun z hz => (ok.kid_lt hz).1)
      rw [show decide ([y] ≠ []) = true from rfl] at HS ⊢
      obtain ⟨ay, hay⟩ : ∃ a, A.abk x0 gT BB y = a := ⟨_, rfl⟩
      obtain ⟨oy, hoy⟩ : ∃ a, A.aof x0 y = a := ⟨_, rfl⟩
      rw [hay, hoy] at hat
      have g0 := hat.cell 0
      have g1 := hat.cell 1
      have hgl := hat.lt
      clear hrel hμ hlen hcu hcn hcy
      go_wp2_with (go_at_call 45; refine HK.mono ?_; rintro e w1 ⟨kao, kn, kc, rfl, M1⟩; refine Hid.out ?_)
      unfold Hid
      have hkn : kn = (A.kids y).length := by have := M1.rb.len; rwa [iv_len] at this
      have hat1 := hat.kept M1.2.1 (by simp)
      have pm1 := pm.kept M1.2.1
      clear HK g0 g1
      by_cases hk0 : A.kids y = []
      · obtain ⟨pm2, pw2⟩ := pm1.leaf ok pw hk0
        rw [hk0] at hkn
        obtain rfl : kn = 0 := hkn
        have g0 := hat1.cell 0
        have g1 := hat1.cell 1
        clear pm pw pm1 hat hat1 M1 hex kw HBr HKi hay hoy hk0
        rcases List.eq_nil_or_concat (S) with eS | ⟨S2, y2, eS⟩
        · have pz := pm2
          have pq := pw2
          rw [eS] at pz pq
          have HP := cp_pop_none (w1.alloc (.cells #[.int .i64 (y : Int), .pointer (some ⟨ay, oy, none⟩)] 95)) (gT + 1) _ _ (pz.pk.keep ((Kp.refl [] w1).alloc _) (by simp) (fun _ _ => by simp))
          unfold zpc at HP
          have XR : Hid (∀ w2, Kp [] (w1.alloc (.cells #[.int .i64 (y : Int), .pointer (some ⟨ay, oy, none⟩)] 95)) w2 → RPure A w x0 gT w.heap.size (gT + 1) (.pointer (some ⟨w1.heap.size, 0, none⟩), .bool false, (w2.setCell ⟨w1.heap.size, 0, none⟩ (.int .i64 0)).setCell ⟨w1.heap.size, 1, none⟩ (.pointer none)) (A.n - (y :: D).length)) := fun w2 k => tail_none pz pq _ _ k
          have AX : Hid (∀ w2, Kp [] (w1.alloc (.cells #[.int .i64 (y : Int), .pointer (some ⟨ay, oy, none⟩)] 95)) w2 → w2.cell? ⟨w1.heap.size, 0, none⟩ = some (.int .i64 (y : Int)) ∧ w2.cell? ⟨w1.heap.size, 1, none⟩ = some (.pointer (some ⟨ay, oy, none⟩)) ∧ (∀ j, w2.frozen? ⟨w1.heap.size, j, none⟩ = false)) := fun w2 k => ⟨((At.new w1 _ _).kept k (by simp)).cell 0, ((At.new w1 _ _).kept k (by simp)).cell 1, ((At.new w1 _ _).kept k (by simp)).free⟩
          clear pm2 pw2 pz pq eS
          go_wp2_with (go_at_call 50; refine HP.mono ?_; rintro e w2 ⟨rfl, k2⟩; obtain ⟨e0, e1, f2⟩ := AX.out _ k2)
          go_roundw
          case rel => exact ⟨_, XR.out _ k2⟩
          case measure => exact Nat.lt_of_le_of_lt (HM.out _ _ (XR.out _ k2)) HS.out
        · have pz := pm2
          have pq := pw2
          rw [List.concat_eq_append] at eS
          rw [eS] at pz pq
          have hpk := pz.pk
          rw [px_app, List.length_append] at hpk
          have HP := cp_pop (w1.alloc (.cells #[.int .i64 (y : Int), .pointer (some ⟨ay, oy, none⟩)] 95)) (gT + 1) _ S2.length (px A x0 gT BB S2) ⟨A.abk x0 gT BB y2, A.aof x0 y2, none⟩ (y2 : Int) (hpk.keep ((Kp.refl [] w1).alloc _) (by simp) (fun _ _ => by simp)) (by have := pq.lenL; simp at this; omega)
          unfold pvc at HP
          have XR : Hid (∀ w2, Tk 2 (w1.alloc (.cells #[.int .i64 (y : Int), .pointer (some ⟨ay, oy, none⟩)] 95)) w2 128 95 (gT + 1) VV S2.length (px A x0 gT BB S2) → RPure A w x0 gT w.heap.size (gT + 1) (.pointer (some ⟨w1.heap.size, 0, none⟩), .bool true, (w2.setCell ⟨w1.heap.size, 0, none⟩ (.int .i64 (y2 : Int))).setCell ⟨w1.heap.size, 1, none⟩ (.pointer (some ⟨A.abk x0 gT BB y2, A.aof x0 y2, none⟩))) (A.n - (y :: D).length)) := fun w2 t => tail_some pz pq _ _ t
          have hpl := pz.pk.lt
          have AX : Hid (∀ w2, Tk 2 (w1.alloc (.cells #[.int .i64 (y : Int), .pointer (some ⟨ay, oy, none⟩)] 95)) w2 128 95 (gT + 1) VV S2.length (px A x0 gT BB S2) → w2.cell? ⟨w1.heap.size, 0, none⟩ = some (.int .i64 (y : Int)) ∧ w2.cell? ⟨w1.heap.size, 1, none⟩ = some (.pointer (some ⟨ay, oy, none⟩)) ∧ (∀ j, w2.frozen? ⟨w1.heap.size, j, none⟩ = false)) := fun w2 t => by
            obtain ⟨_, _, k, _⟩ := t
            have hnm : w1.heap.size ∉ (gT + 1) :: blk VV := fun hx => by have := hpl _ (List.mem_cons.1 hx); omega
            exact ⟨((At.new w1 _ _).kept k hnm).cell 0, ((At.new w1 _ _).kept k hnm).cell 1, ((At.new w1 _ _).kept k hnm).free⟩
          clear pm2 pw2 pz pq eS hpk hpl
          generalize A.abk x0 gT BB y2 = ay2 at HP XR
          generalize A.aof x0 y2 = oy2 at HP XR
          go_wp2_with (go_at_call 50; refine HP.mono ?_; rintro e w2 ⟨rfl, t2⟩; obtain ⟨e0, e1, f2⟩ := AX.out _ t2)
          go_roundw
          case rel => exact ⟨_, XR.out _ t2⟩
          case measure => exact Nat.lt_of_le_of_lt (HM.out _ _ (XR.out _ t2)) HS.out
      · have t1 : (((A.kids y).length : Int) == 0) = false := beq_false_of_ne (by have := List.length_pos_iff.2 hk0; omega)
        have t1n : ((A.kids y).length == 0) = false := beq_false_of_ne (by have := List.length_pos_iff.2 hk0; omega)
        subst hkn
        obtain ⟨T1, hT1⟩ : ∃ T : Nat → Nat, T = fun b => if b < wr.heap.size then τ b else 0 := ⟨_, rfl⟩
        have T10 : ∀ x, x < wr.heap.size → T1 x = τ x := fun x hx => by rw [hT1]; simp only [if_pos hx]
        have pm1 : Pm A w w1 x0 gT w.heap.size (gT + 1) T1 BB (A.Mof x0 D) (A.Kof D) VV S := pm.keep M1.2.1 (fun x hx => by simp at hx) T10
        have hex1 : Ex w w1 w.heap.size (gT + 1) T1 VV gA := hex.step M1.2.1.size T10 (fun k hk => .inl hk)
        have hkl : ∀ kb, kb ∈ blk (.slice kao (A.kids y).length kc) → Ex w w1 w.heap.size (gT + 1) T1 VV kb := fun kb hk => by
          have h1 := M1.2.2 kb hk
          have h2 := M1.1.lt kb hk
          have h3 := pm.cs.kp.size
          have h4 := pm.pk.lt
          have h5 := pm.rs.lt
          exact ⟨by omega, h2, by rw [hT1]; simp only [if_neg (show ¬ kb < wr.heap.size by omega)], fun e => by have := h4 _ (.inl rfl); omega, fun hx => by have := h4 _ (.inr hx); omega, fun e => by omega⟩
        obtain ⟨w2, cur2, hmk, hc2, hsz2, k2⟩ := make_trees (World.drew w1) (A.kids y).length (by omega)
        replace hmk : (Instr.makeSlice 36 (.int .i64 ((A.kids y).length : Int)) (.int .i64 ((A.kids y).length : Int))).run Tryz.prog (World.drew w1) = .ok (.slice (some ⟨w1.heap.size, 0, none⟩) (A.kids y).length (A.kids y).length) w2 := hmk
        have k12 : Kp [] w1 w2 := ((Kp.refl [] w1).drew).trans k2 (fun x hx => Or.inl hx)
        obtain ⟨τ3, pm3, T3, k5, y2, eab⟩ := pm1.room ok pw w1.heap.size (Nat.le_refl _) k12 hc2 hsz2
        have hS11 : (World.drew w1).cell? ⟨gA, 1, none⟩ = some (.pointer (some ⟨ay, oy, none⟩)) := hat1.cell 1
        have hS11b : w2.cell? ⟨gA, 1, none⟩ = some (.pointer (some ⟨ay, oy, none⟩)) := (hat1.kept k12 (by simp)).cell 1
        have kc5 := (pm1.kept k12).cs.kidCell (y := y) hyL.1
        rw [kdv_y pw, hay, hoy] at kc5
        obtain ⟨q5, fz5⟩ := kc5
        have hs13 : w1.heap.size ≤ (w2.setCell ⟨ay, oy + 5, none⟩ (.slice (some ⟨w1.heap.size, 0, none⟩) (A.kids y).length (A.kids y).length)).heap.size := by rw [hay, hoy] at k5; exact Nat.le_trans k12.size k5.size
        obtain ⟨B3, hB3⟩ : ∃ B3, B3 = fun p => if p = y then w1.heap.size else BB p := ⟨_, rfl⟩
        have hB3y : B3 y = w1.heap.size := by rw [hB3]; simp only [if_pos]
        rw [← hB3, hay] at eab
        rw [← hB3] at pm3
        rw [hay] at y2
        rw [hay, hoy] at k5 pm3
        have I0 : Hid (Inn A w (w2.setCell ⟨ay, oy + 5, none⟩ (.slice (some ⟨w1.heap.size, 0, none⟩) (A.kids y).length (A.kids y).length)) x0 gT w.heap.size (gT + 1) B3 D S y 0 0 gA ay oy (.slice kao (A.kids y).length kc)) := by
          refine ⟨τ3, VV, by rw [List.take_zero, List.append_nil]; exact pm3, hex1.step hs13 T3 (fun k hk => .inl hk), (hat1.kept k12 (by simp)).kept k5 (by simpa using hex1.no2 y2), fun kb hk => (hkl kb hk).step hs13 T3 (fun k hk => .inl hk), (M1.1.keep k12 (fun _ _ => by simp)).keep k5 (fun x hx => by simpa using (hkl x hx).no2 y2), eab, hoy⟩
        have PW : Hid (A.Pw x0 D (S ++ [y])) := pw
        have hgw : gA < w1.heap.size := hat1.lt
        clear pm pw pm1 hat hat1 M1 hex kw hay hoy pm3 k5 k12 k2 hc2 hsz2 T3 hT1 T10 hex1 hkl y2 eab hs13 hB3
        go_wp2_with fail
        refine wp_region_g (S := fun V => V.cell? ⟨gA, 1, none⟩ = some (.pointer (some ⟨ay, oy, none⟩))) (T := [7]) (by kernel_rfl) hS11 (fun hHeld => ?_)
        refine g_pure 0 (oi := ⟨some 44, .fieldAddr 95 (.tmp 8) 1, 0, "read.go:80", #[], none⟩) (v := ?_) (Or.inl ⟨by rfl, ?_⟩) ?_
        rotate_left
        · (intro w; go_simp; try with_reducible rfl)
        simp only [Act.put, pu1, pu2, pu3]
        refine g_take 1 (oi := ⟨some 45, .load 81 (.tmp 44), 81, "read.go:80", #[⟨0, .data⟩], none⟩) (v := ?_) (Or.inl ⟨by rfl, ?_⟩) ?_
        rotate_left
        · (intro w hSw; (have q1 := hSw); go_simp; try with_reducible rfl)
        simp only [Act.put, pu1, pu2, pu3]
        refine g_pure 2 (oi := ⟨some 46, .move (.tmp 10), 57, "read.go:80", #[], none⟩) (v := ?_) (Or.inl ⟨by rfl, ?_⟩) ?_
        rotate_left
        · (intro w; go_simp; try with_reducible rfl)
        simp only [Act.put, pu1, pu2, pu3]
        refine g_pure 3 (oi := ⟨some 47, .call { callee := .builtin .len, args := #[.tmp 46], argTypes := #[57] }, 3, "read.go:80", #[⟨2, .data⟩], none⟩) (v := ?_) (Or.inl ⟨by rfl, ?_⟩) ?_
        rotate_left
        · (intro w; go_simp; try with_reducible rfl)
        simp only [Act.put, pu1, pu2, pu3]
        refine wpAnyG_ready (rs := [4]) (by kernel_rfl) (by simp) ?_
        refine AllReadyG.cons (o := ⟨some 48, .makeSlice 36 (.tmp 47) (.tmp 47), 36, "read.go:80", #[⟨3, .data⟩, ⟨3, .data⟩], none⟩) rfl (fun K hK => ?_) AllReadyG.nil
        go_simp
        refine hK.out _ _ hS11b (fun hHeld1 => ?_)
        clear hK K hHeld
        try simp only [Act.put, pu1, pu2, pu3]
        refine g_pure 5 (oi := ⟨some 49, .nilCheck (.tmp 45), 0, "read.go:80", #[⟨1, .data⟩, ⟨0, .phase⟩, ⟨1, .phase⟩, ⟨2, .phase⟩, ⟨3, .phase⟩, ⟨4, .phase⟩], none⟩) (v := ?_) (Or.inl ⟨by rfl, ?_⟩) ?_
        rotate_left
        · (intro w; go_simp; try with_reducible rfl)
        simp only [Act.put, pu1, pu2, pu3]
        refine g_pure 6 (oi := ⟨some 50, .fieldAddr 38 (.tmp 49) 5, 0, "read.go:80", #[⟨5, .data⟩, ⟨0, .phase⟩, ⟨1, .phase⟩, ⟨2, .phase⟩, ⟨3, .phase⟩, ⟨4, .phase⟩], none⟩) (v := ?_) (Or.inl ⟨by rfl, ?_⟩) ?_
        rotate_left
        · (intro w; go_simp; try with_reducible rfl)
        simp only [Act.put, pu1, pu2, pu3]
        refine wpAnyG_free (by kernel_rfl) ?_
        refine wpAny_ready (rs := [7]) (by kernel_rfl) (by simp) ?_
        refine AllReady.cons (o := ⟨none, .store 36 (.tmp 50) (.tmp 48), 0, "read.go:80", #[⟨6, .data⟩, ⟨4, .data⟩, ⟨0, .phase⟩, ⟨1, .phase⟩, ⟨2, .phase⟩, ⟨3, .phase⟩, ⟨4, .phase⟩], none⟩) rfl (fun K hK => ?_) AllReady.nil
        go_simp
        refine hK _ _ ?_
        clear hK K
        try simp only [Act.put, pu1, pu2, pu3]
        refine wpAny_done (by kernel_rfl) ?_ _
        generalize w2.setCell ⟨ay, oy + 5, none⟩ (.slice (some ⟨w1.heap.size, 0, none⟩) (A.kids y).length (A.kids y).length) = w3 at I0 ⊢
        clear hmk hS11 hS11b q5 fz5
        go_wp2_with fail
        obtain ⟨wr0, rfl⟩ : ∃ x, x = wr := ⟨_, rfl⟩
        go_loopw [11, 12, 53] (fun _ _ i wr => ∃ j : Nat, j ≤ (A.kids y).length ∧ i = .int .i64 (j : Int) ∧ Inn A w wr x0 gT w.heap.size (gT + 1) B3 D S y j j gA ay oy (.slice kao (A.kids y).length kc)) (fun _ _ i _ => (A.kids y).length - (intOf i).toNat)
        case atStart => exact ⟨0, Nat.zero_le _, rfl, I0.out⟩
        case round =>
          obtain ⟨j, hj, rfl, inn⟩ := hrel
          clear I0
          by_cases hlt : j < (A.kids y).length
          · have ho : Own wr 3 (.slice kao (A.kids y).length kc) (iv (A.kids y)) := by
              obtain ⟨_, _, _, _, _, _, ho, _⟩ := inn
              exact ho
            obtain ⟨b1, o1, rfl, h3⟩ := (Rb.of_own ho).iv_at j hlt
            obtain ⟨q1, q2, kV, cur, ac, hcs⟩ := inn.cells ok PW.out
            obtain ⟨z, hz⟩ : ∃ z, (A.kids y)[j] = z := ⟨_, rfl⟩
            have hzn : z < A.n := by rw [← hz]; exact (ok.kid_lt (List.getElem_mem hlt)).1
            rw [hz] at h3
            have hk1 : (j : Int) < ((A.kids y).length : Int) := by omega
            have hk0 : (0 : Int) ≤ (j : Int) := by omega
            have HB := HBr.out (World.drew wr) z (kV.drew) hzn
            unfold wv at HB
            obtain ⟨gK, hgK⟩ : ∃ g, B3 y = g := ⟨_, rfl⟩
            rw [hgK] at q2 ac
            have hS15 : (World.drew wr).cell? ⟨gA, 1, none⟩ = some (.pointer (some ⟨ay, oy, none⟩)) ∧ (World.drew wr).cell? ⟨ay, oy + 5, none⟩ = some (.slice (some ⟨gK, 0, none⟩) (A.kids y).length (A.kids y).length) := ⟨q1, q2⟩
            have HI : Hid (Inn A w wr x0 gT w.heap.size (gT + 1) B3 D S y j j gA ay oy (.slice (some ⟨b1, o1, none⟩) (A.kids y).length kc)) := inn
            have HA : Hid (At wr gK cur 38) := ac
            have HgK : Hid (B3 y = gK) := hgK
            have HZ : Hid ((A.kids y)[j] = z) := hz
            have hga := block_lt_of_cell q1
            have hgy := block_lt_of_cell q2
            clear inn ho ac hgK hz hB3y
            go_wp2_with fail
            refine wp_region_g (S := fun V => V.cell? ⟨gA, 1, none⟩ = some (.pointer (some ⟨ay, oy, none⟩)) ∧ V.cell? ⟨ay, oy + 5, none⟩ = some (.slice (some ⟨gK, 0, none⟩) (A.kids y).length (A.kids y).length)) (T := [10]) (by kernel_rfl) hS15 (fun hHeld => ?_)
            refine g_pure 0 (oi := ⟨some 58, .fieldAddr 95 (.tmp 8) 1, 0, "read.go:82", #[], none⟩) (v := ?_) (Or.inl ⟨by rfl, ?_⟩) ?_
            rotate_left
            · (intro w; go_simp; try with_reducible rfl)
            simp only [Act.put, pu1, pu2, pu3]
            refine g_take 1 (oi := ⟨some 59, .load 81 (.tmp 58), 81, "read.go:82", #[⟨0, .data⟩], none⟩) (v := ?_) (Or.inl ⟨by rfl, ?_⟩) ?_
            rotate_left
            · (intro w hSw; (obtain ⟨q1, q2⟩ := hSw); go_simp; try with_reducible rfl)
            simp only [Act.put, pu1, pu2, pu3]
            refine g_pure 2 (oi := ⟨some 60, .nilCheck (.tmp 59), 0, "read.go:82", #[⟨1, .data⟩], none⟩) (v := ?_) (Or.inl ⟨by rfl, ?_⟩) ?_
            rotate_left
            · (intro w; go_simp; try with_reducible rfl)
            simp only [Act.put, pu1, pu2, pu3]
            refine g_pure 3 (oi := ⟨some 61, .fieldAddr 38 (.tmp 60) 5, 0, "read.go:82", #[⟨2, .data⟩], none⟩) (v := ?_) (Or.inl ⟨by rfl, ?_⟩) ?_
            rotate_left
            · (intro w; go_simp; try with_reducible rfl)
            simp only [Act.put, pu1, pu2, pu3]
            refine g_take 4 (oi := ⟨some 62, .load 36 (.tmp 61), 36, "read.go:82", #[⟨3, .data⟩], none⟩) (v := ?_) (Or.inl ⟨by rfl, ?_⟩) ?_
            rotate_left
            · (intro w hSw; (obtain ⟨q1, q2⟩ := hSw); go_simp; try with_reducible rfl)
            simp only [Act.put, pu1, pu2, pu3]
            refine g_pure 5 (oi := ⟨some 63, .move (.tmp 11), 3, "read.go:82", #[], none⟩) (v := ?_) (Or.inl ⟨by rfl, ?_⟩) ?_
            rotate_left
            · (intro w; go_simp; try with_reducible rfl)
            simp only [Act.put, pu1, pu2, pu3]
            refine g_pure 6 (oi := ⟨some 64, .move (.tmp 0), 22, "read.go:82", #[], none⟩) (v := ?_) (Or.inl ⟨by rfl, ?_⟩) ?_
            rotate_left
            · (intro w; go_simp; try with_reducible rfl)
            simp only [Act.put, pu1, pu2, pu3]
            refine g_pure 7 (oi := ⟨some 65, .move (.tmp 12), 3, "read.go:82", #[], none⟩) (v := ?_) (Or.inl ⟨by rfl, ?_⟩) ?_
            rotate_left
            · (intro w; go_simp; try with_reducible rfl)
            simp only [Act.put, pu1, pu2, pu3]
            refine wpAnyG_ready (rs := [8]) (by kernel_rfl) (by simp) ?_
            refine AllReadyG.cons (o := ⟨some 66, .call { callee := .value (.func 47), args := #[.tmp 64, .tmp 65], argTypes := #[22, 3] }, 38, "read.go:82", #[⟨6, .data⟩, ⟨7, .data⟩], none⟩) rfl (fun K hK => ?_) AllReadyG.nil
            go_simp
            go_at_call 47
            refine HB.mono ?_
            rintro e W8 ⟨pa, rfl, k8, r8⟩
            go_wp2_with fail
            have a8 := (HA.out.kept (Kp.refl [] wr).drew (by simp)).kept k8 (by simp)
            have s8 : W8.cell? ⟨gA, 1, none⟩ = some (.pointer (some ⟨ay, oy, none⟩)) ∧ W8.cell? ⟨ay, oy + 5, none⟩ = some (.slice (some ⟨gK, 0, none⟩) (A.kids y).length (A.kids y).length) := ⟨by rw [k8.cell (a := ⟨gA, 1, none⟩) hga (by simp)]; exact q1, by rw [k8.cell (a := ⟨ay, oy + 5, none⟩) hgy (by simp)]; exact q2⟩
            refine hK.out _ _ s8 (fun hHeld1 => ?_)
            clear hK K hHeld
            try simp only [Act.put, pu1, pu2, pu3]
            refine g_pure 9 (oi := ⟨some 67, .indexAddr 36 (.tmp 62) (.tmp 63), 0, "read.go:82", #[⟨4, .data⟩, ⟨5, .data⟩, ⟨0, .phase⟩, ⟨1, .phase⟩, ⟨2, .phase⟩, ⟨3, .phase⟩, ⟨4, .phase⟩, ⟨5, .phase⟩, ⟨6, .phase⟩, ⟨7, .phase⟩, ⟨8, .phase⟩], none⟩) (v := ?_) (Or.inl ⟨by rfl, ?_⟩) ?_
            rotate_left
            · (intro w; go_simp; try with_reducible rfl)
            simp only [Act.put, pu1, pu2, pu3]
            refine wpAnyG_free (by kernel_rfl) ?_
            refine wpAny_ready (rs := [10]) (by kernel_rfl) (by simp) ?_
            refine AllReady.cons (o := ⟨none, .store 38 (.tmp 67) (.tmp 66), 0, "read.go:82", #[⟨9, .data⟩, ⟨8, .data⟩, ⟨8, .chain⟩, ⟨0, .phase⟩, ⟨1, .phase⟩, ⟨2, .phase⟩, ⟨3, .phase⟩, ⟨4, .phase⟩, ⟨5, .phase⟩, ⟨6, .phase⟩, ⟨7, .phase⟩, ⟨8, .phase⟩], none⟩) rfl (fun K hK => ?_) AllReady.nil
            have d20 := (a8.cell (j * 6)).trans (Array.getElem?_eq_getElem (by omega))
            have d21 := (a8.cell (j * 6 + 1)).trans (Array.getElem?_eq_getElem (by omega))
            have d22 := (a8.cell (j * 6 + 2)).trans (Array.getElem?_eq_getElem (by omega))
            have d23 := (a8.cell (j * 6 + 3)).trans (Array.getElem?_eq_getElem (by omega))
            have d24 := (a8.cell (j * 6 + 4)).trans (Array.getElem?_eq_getElem (by omega))
            have d25 := (a8.cell (j * 6 + 5)).trans (Array.getElem?_eq_getElem (by omega))
            have fr2 := fun i => a8.free i
            go_simp
            refine hK _ _ ?_
            clear hK K
            try simp only [Act.put, pu1, pu2, pu3]
            refine wpAny_done (by kernel_rfl) ?_ _
            obtain ⟨W9, hW9⟩ : ∃ V, V = put6 W8 gK (j * 6) (.int .i64 (A.lb z).kind) (.int .i64 (A.lb z).ns) (.string (A.lb z).name) (.slice pa.1 pa.2.1 pa.2.2) (.string (A.lb z).text) (.slice none 0 0) := ⟨_, rfl⟩
            have hWu := hW9
            unfold put6 at hWu
            rw [← hWu]
            have i9 : Inn A w W9 x0 gT w.heap.size (gT + 1) B3 D S y (j + 1) j gA ay oy (.slice (some ⟨b1, o1, none⟩) (A.kids y).length kc) := by
              rw [hW9, ← HgK.out]
              exact HI.out.kid ok PW.out hlt HZ.out (((Kp.refl [] wr).drew).trans k8 (fun x hx => Or.inl hx)) r8
            have HPu := i9.push (w2 := W9) ok PW.out hlt HZ.out hn
            obtain ⟨c1, c2, _⟩ := i9.cells ok PW.out
            rw [HgK.out] at c2 HPu
            clear hWu hW9 i9 d20 d21 d22 d23 d24 d25 fr2 a8 k8 r8 q1 q2 h3 s8 hHeld1 hS15 HB HI HA
            go_wp2_with (go_at_call 49; refine HPu.mono ?_; rintro e W10 ⟨rfl, i10⟩)
            go_roundw
            case rel => exact ⟨j + 1, by omega, by go_num, i10⟩
            case measure => simp [intOf]; omega
          · obtain rfl : j = (A.kids y).length := by omega
            obtain ⟨w9, rfl⟩ : ∃ x, x = wr := ⟨_, rfl⟩
            obtain ⟨τ9, v9, pm8, ex9, ha9, _, _, _, _⟩ := inn
            rw [List.take_length] at pm8
            obtain ⟨pm9, pw9⟩ := pm8.done ok PW.out hk0
            have g0 := ha9.cell 0
            have g1 := ha9.cell 1
            clear pm8 ex9 ha9 HBr HKi hk0
            rcases List.eq_nil_or_concat (S ++ A.kids y) with eS | ⟨S2, y2, eS⟩
            · have pz := pm9
              have pq := pw9
              rw [eS] at pz pq
              have HP := cp_pop_none (w9.alloc (.cells #[.int .i64 (y : Int), .pointer (some ⟨ay, oy, none⟩)] 95)) (gT + 1) _ _ (pz.pk.keep ((Kp.refl [] w9).alloc _) (by simp) (fun _ _ => by simp))
              unfold zpc at HP
              have XR : Hid (∀ w2, Kp [] (w9.alloc (.cells #[.int .i64 (y : Int), .pointer (some ⟨ay, oy, none⟩)] 95)) w2 → RPure A w x0 gT w.heap.size (gT + 1) (.pointer (some ⟨w9.heap.size, 0, none⟩), .bool false, (w2.setCell ⟨w9.heap.size, 0, none⟩ (.int .i64 0)).setCell ⟨w9.heap.size, 1, none⟩ (.pointer none)) (A.n - (y :: D).length)) := fun w2 k => tail_none pz pq _ _ k
              have AX : Hid (∀ w2, Kp [] (w9.alloc (.cells #[.int .i64 (y : Int), .pointer (some ⟨ay, oy, none⟩)] 95)) w2 → w2.cell? ⟨w9.heap.size, 0, none⟩ = some (.int .i64 (y : Int)) ∧ w2.cell? ⟨w9.heap.size, 1, none⟩ = some (.pointer (some ⟨ay, oy, none⟩)) ∧ (∀ j, w2.frozen? ⟨w9.heap.size, j, none⟩ = false)) := fun w2 k => ⟨((At.new w9 _ _).kept k (by simp)).cell 0, ((At.new w9 _ _).kept k (by simp)).cell 1, ((At.new w9 _ _).kept k (by simp)).free⟩
              clear pm9 pw9 pz pq eS
              go_wp2_with (go_at_call 50; refine HP.mono ?_; rintro e w2 ⟨rfl, k2⟩; obtain ⟨e0, e1, f2⟩ := AX.out _ k2)
              go_roundw
              case rel => exact ⟨_, XR.out _ k2⟩
              case measure => exact Nat.lt_of_le_of_lt (HM.out _ _ (XR.out _ k2)) HS.out
            · have pz := pm9
              have pq := pw9
              rw [List.concat_eq_append] at eS
              rw [eS] at pz pq
              have hpk := pz.pk
              rw [px_app, List.length_append] at hpk
              have HP := cp_pop (w9.alloc (.cells #[.int .i64 (y : Int), .pointer (some ⟨ay, oy, none⟩)] 95)) (gT + 1) _ S2.length (px A x0 gT B3 S2) ⟨A.abk x0 gT B3 y2, A.aof x0 y2, none⟩ (y2 : Int) (hpk.keep ((Kp.refl [] w9).alloc _) (by simp) (fun _ _ => by simp)) (by have := pq.lenL; simp at this; omega)
              unfold pvc at HP
              have XR : Hid (∀ w2, Tk 2 (w9.alloc (.cells #[.int .i64 (y : Int), .pointer (some ⟨ay, oy, none⟩)] 95)) w2 128 95 (gT + 1) v9 S2.length (px A x0 gT B3 S2) → RPure A w x0 gT w.heap.size (gT + 1) (.pointer (some ⟨w9.heap.size, 0, none⟩), .bool true, (w2.setCell ⟨w9.heap.size, 0, none⟩ (.int .i64 (y2 : Int))).setCell ⟨w9.heap.size, 1, none⟩ (.pointer (some ⟨A.abk x0 gT B3 y2, A.aof x0 y2, none⟩))) (A.n - (y :: D).length)) := fun w2 t => tail_some pz pq _ _ t
              have hpl := pz.pk.lt
              have AX : Hid (∀ w2, Tk 2 (w9.alloc (.cells #[.int .i64 (y : Int), .pointer (some ⟨ay, oy, none⟩)] 95)) w2 128 95 (gT + 1) v9 S2.length (px A x0 gT B3 S2) → w2.cell? ⟨w9.heap.size, 0, none⟩ = some (.int .i64 (y : Int)) ∧ w2.cell? ⟨w9.heap.size, 1, none⟩ = some (.pointer (some ⟨ay, oy, none⟩)) ∧ (∀ j, w2.frozen? ⟨w9.heap.size, j, none⟩ = false)) := fun w2 t => by
                obtain ⟨_, _, k, _⟩ := t
                have hnm : w9.heap.size ∉ (gT + 1) :: blk v9 := fun hx => by have := hpl _ (List.mem_cons.1 hx); omega
                exact ⟨((At.new w9 _ _).kept k hnm).cell 0, ((At.new w9 _ _).kept k hnm).cell 1, ((At.new w9 _ _).kept k hnm).free⟩
              clear pm9 pw9 pz pq eS hpk hpl
              generalize A.abk x0 gT B3 y2 = ay2 at HP XR
              generalize A.aof x0 y2 = oy2 at HP XR
              go_wp2_with (go_at_call 50; refine HP.mono ?_; rintro e w2 ⟨rfl, t2⟩; obtain ⟨e0, e1, f2⟩ := AX.out _ t2)
              go_roundw
              case rel => exact ⟨_, XR.out _ t2⟩
              case measure => exact Nat.lt_of_le_of_lt (HM.out _ _ (XR.out _ t2)) HS.out

end

end Go.Proofs.YtgjkfpmhgidpaaaGreat

/-
  The program's arena: each call once more, with the sizes that a row of calls may reach; Node.
-/
namespace Go.Proofs.YtgjkfpmhgidpaaaGreat
open Go.RowKit Go.Maps Utf
set_option linter.unusedVariables false
set_option linter.unusedSimpArgs false

namespace Ar
theorem appF_n (a : Ar) (p x : Int) : (a.appF p x).1.n = a.n := by
  unfold appF
  repeat' split
  all_goals rfl
theorem befF_n (a : Ar) (p x : Int) : (a.befF p x).1.n = a.n := by
  unfold befF
  repeat' split
  all_goals rfl
theorem detF_n (a : Ar) (x : Int) : (a.detF x).1.n = a.n := by
  unfold detF
  repeat' split
  all_goals rfl
theorem movs_n (t : Nat) : ∀ (xs : List Nat) (a : Ar), (a.movs t xs).n = a.n
  | [], a => rfl
  | x :: xs, a => by
    unfold movs
    split
    · exact movs_n t xs a
    · exact (movs_n t xs _).trans rfl
theorem movF_n (a : Ar) (f t : Int) : (a.movF f t).1.n = a.n := by
  unfold movF
  repeat' split
  all_goals first | rfl | exact movs_n _ _ _
end Ar

/-- The program's arena behind k calls. -/
structure Ps (tag : Nat → Nat) (w : World) (b : Nat) (q : Bool) (A : Ar) (k : Nat) : Prop where
  pa : Pa tag w b q A.n A.raw
  ful : A.Ful
  sz : A.Sz k
  hk : k ≤ 3000

section
variable {tag : Nat → Nat} {w : World} {b k : Nat} {q : Bool} {A : Ar}

theorem Ps.n_lt (h : Ps tag w b q A k) : A.n < 40000 := by have := h.sz.n; have := h.hk; omega
theorem Ps.txt (h : Ps tag w b q A k) (x : Nat) : (A.lb x).text.size ≤ 900000 := by have := (h.sz.lbs x).2.1; have := h.hk; omega
theorem Ps.att (h : Ps tag w b q A k) (x : Nat) : (A.lb x).attrs.length ≤ 20000 ∧ fits (A.lb x).attrs := by
  obtain ⟨_, _, t⟩ := h.sz.lbs x
  exact ⟨by have := t.len; have := h.hk; omega, t.fits⟩
theorem Ps.nm (h : Ps tag w b q A k) (x : Nat) : (A.lb x).name.size ≤ 1000000 := by have := (h.sz.lbs x).1; omega

theorem Ps.kept {w' : World} (h : Ps tag w b q A k) (kp : Kp [] w w') : Ps tag w' b q A k := ⟨h.pa.mv kp (fun _ _ => rfl), h.ful, h.sz, h.hk⟩
theorem Ps.lt (h : Ps tag w b q A k) : b < w.heap.size := by obtain ⟨_, _, _, _, r⟩ := h.pa; exact r.lt.1

theorem Ps.new (w : World) (tag : Nat → Nat) : Calls Tryz.prog 5 #[] w fun e w' => ∃ b tag', e = .returned (.pointer (some ⟨b, 0, none⟩)) ∧ Ps tag' w' b false Ar.first 0 ∧ Mv tag w tag' w' ∧ w.heap.size ≤ b := by
  refine (new_any w tag).mono ?_
  rintro e w' ⟨b, tag', rfl, pa, kp, hb, ht⟩
  exact ⟨b, tag', rfl, ⟨pa, Ar.first_ful, Ar.Sz.first, by omega⟩, Mv.of_kp kp (fun x hx => by simp at hx) ht, hb⟩

theorem Ps.mk' (h : Ps tag w b q A k) (hk : k < 3000) (kind ns : Int) (name text : ByteArray) (l : List Att) (ao : Option Addr) (n' c' : Nat) (hr : Rp w ao n' c' l) (hl : l.length ≤ 6) (hs : ∀ a, a ∈ l → a.1.size ≤ 20 ∧ a.2.size ≤ 30) (h1 : name.size ≤ 9) (h2 : text.size ≤ 9) :
    Calls Tryz.prog 20 #[.pointer (some ⟨b, 0, none⟩), .int .i64 kind, .int .i64 ns, .string name, .slice ao n' c', .string text] w fun e w' => e = .returned (.tuple #[.int .i64 (A.mkF kind ns name (uniq l) text).2.1, .int .i64 (A.mkF kind ns name (uniq l) text).2.2]) ∧ ∃ tag', Ps tag' w' b q (A.mkF kind ns name (uniq l) text).1 (k + 1) ∧ Mv tag w tag' w' := by
  obtain ⟨g, o, c, pl, r⟩ := h.pa
  have hl' := hr.len
  refine (mk_arena r h.ful.toOk h.n_lt kind ns name text l ao n' c' hr (by omega) (fun a ha => by have := hs a ha; omega) (by omega) (by omega)).mono ?_
  rintro e w' ⟨rfl, tag', pa, mv⟩
  exact ⟨rfl, tag', ⟨pa, h.ful.mkF _ _ _ _ _, h.sz.mkF _ _ h1 h2 (Ar.Tiny.uniq hl hs), hk⟩, mv⟩

theorem Ps.app (h : Ps tag w b q A k) (p x : Int) :
    Calls Tryz.prog 22 #[.pointer (some ⟨b, 0, none⟩), .int .i64 p, .int .i64 x] w fun e w' => e = .returned (.int .i64 (A.appF p x).2) ∧ Ps tag w' b q (A.appF p x).1 k ∧ Mv tag w tag w' := by
  obtain ⟨g, o, c, pl, r⟩ := h.pa
  refine (app_arena r h.ful (by have := h.n_lt; omega) p x).mono ?_
  rintro e w' ⟨rfl, rz⟩
  exact ⟨rfl, ⟨⟨g, o, c, pl, by rw [Ar.appF_n]; exact rz.1⟩, h.ful.appF _ _, h.sz.appF _ _, h.hk⟩, rz.mv⟩

theorem Ps.bef (h : Ps tag w b q A k) (p x : Int) :
    Calls Tryz.prog 24 #[.pointer (some ⟨b, 0, none⟩), .int .i64 p, .int .i64 x] w fun e w' => e = .returned (.int .i64 (A.befF p x).2) ∧ Ps tag w' b q (A.befF p x).1 k ∧ Mv tag w tag w' := by
  obtain ⟨g, o, c, pl, r⟩ := h.pa
  refine (bef_arena r h.ful (by have := h.n_lt; omega) p x).mono ?_
  rintro e w' ⟨rfl, rz⟩
  exact ⟨rfl, ⟨⟨g, o, c, pl, by rw [Ar.befF_n]; exact rz.1⟩, h.ful.befF _ _, h.sz.befF _ _, h.hk⟩, rz.mv⟩

theorem Ps.det (h : Ps tag w b q A k) (x : Int) :
    Calls Tryz.prog 26 #[.pointer (some ⟨b, 0, none⟩), .int .i64 x] w fun e w' => e = .returned (.int .i64 (A.detF x).2) ∧ Ps tag w' b q (A.detF x).1 k ∧ Mv tag w tag w' := by
  obtain ⟨g, o, c, pl, r⟩ := h.pa
  refine (det_arena r h.ful (by have := h.n_lt; omega) x).mono ?_
  rintro e w' ⟨rfl, rz⟩
  exact ⟨rfl, ⟨⟨g, o, c, pl, by rw [Ar.detF_n]; exact rz.1⟩, h.ful.detF _, h.sz.detF _, h.hk⟩, rz.mv⟩

theorem Ps.mov (h : Ps tag w b q A k) (f t : Int) :
    Calls Tryz.prog 28 #[.pointer (some ⟨b, 0, none⟩), .int .i64 f, .int .i64 t] w fun e w' => e = .returned (.int .i64 (A.movF f t).2) ∧ Ps tag w' b q (A.movF f t).1 k ∧ Mv tag w tag w' := by
  obtain ⟨g, o, c, pl, r⟩ := h.pa
  refine (mov_arena r h.ful (by have := h.n_lt; omega) f t).mono ?_
  rintro e w' ⟨rfl, rz⟩
  exact ⟨rfl, ⟨⟨g, o, c, pl, by rw [Ar.movF_n]; exact rz.1⟩, h.ful.movF _ _, h.sz.movF h.ful _ _, h.hk⟩, rz.mv⟩

theorem Ps.wr (h : Ps tag w b q A k) (hk : k < 3000) (z : Int) (s : ByteArray) (hs : s.size ≤ 9) :
    Calls Tryz.prog 30 #[.pointer (some ⟨b, 0, none⟩), .int .i64 z, .string s] w fun e w' => e = .returned (.int .i64 (A.wrF z s).2) ∧ ∃ tag', Ps tag' w' b q (A.wrF z s).1 (k + 1) ∧ Mv tag w tag' w' := by
  obtain ⟨g, o, c, pl, r⟩ := h.pa
  refine (wr_arena r h.ful.toOk h.n_lt z s (by omega) h.txt).mono ?_
  rintro e w' ⟨rfl, tag', pa, mv⟩
  exact ⟨rfl, tag', ⟨pa, h.ful.wrF _ _, h.sz.wrF _ hs, hk⟩, mv⟩

theorem Ps.wb (h : Ps tag w b q A k) (hk : k < 3000) (z : Int) (s : ByteArray) (hs : s.size ≤ 9) :
    Calls Tryz.prog 32 #[.pointer (some ⟨b, 0, none⟩), .int .i64 z, .string s] w fun e w' => e = .returned (.int .i64 (A.wbF z s).2) ∧ ∃ tag', Ps tag' w' b q (A.wbF z s).1 (k + 1) ∧ Mv tag w tag' w' := by
  obtain ⟨g, o, c, pl, r⟩ := h.pa
  refine (wb_arena r h.ful.toOk h.n_lt z s (by omega) h.txt).mono ?_
  rintro e w' ⟨rfl, tag', pa, mv⟩
  exact ⟨rfl, tag', ⟨pa, h.ful.wbF _ _, h.sz.wbF _ hs, hk⟩, mv⟩

theorem Ps.mor (h : Ps tag w b q A k) (hk : k < 3000) (z : Int) (l : List Att) (ao : Option Addr) (n' c' : Nat) (hr : Rk (Qp tag) 2 w ao n' c' (cs l)) (hl : l.length ≤ 6) (hs : ∀ a, a ∈ l → a.1.size ≤ 20 ∧ a.2.size ≤ 30) :
    Calls Tryz.prog 34 #[.pointer (some ⟨b, 0, none⟩), .int .i64 z, .slice ao n' c'] w fun e w' => e = .returned (.int .i64 (A.morF z (fun x => more x l)).2) ∧ ∃ tag', Ps tag' w' b q (A.morF z (fun x => more x l)).1 (k + 1) ∧ Mv tag w tag' w' := by
  obtain ⟨g, o, c, pl, r⟩ := h.pa
  have hl' := hr.len
  rw [cs_len] at hl'
  refine (mor_arena r h.n_lt z l ao n' c' hr (by omega) (fun a ha => by have := hs a ha; omega) h.att).mono ?_
  rintro e w' ⟨rfl, tag', pa, mv⟩
  exact ⟨rfl, tag', ⟨pa, h.ful.morF _ _, h.sz.morF _ hl hs, hk⟩, mv⟩

theorem Ps.quirks (h : Ps tag w b q A k) (q' : Bool) :
    Calls Tryz.prog 36 #[.pointer (some ⟨b, 0, none⟩), .bool q'] w fun e w' => e = .returned (.tuple #[]) ∧ Ps tag w' b q' A k ∧ Mv tag w tag w' := by
  obtain ⟨g, o, c, pl, r⟩ := h.pa
  refine (quirks_any r q').mono ?_
  rintro e w' ⟨rfl, r2, kp⟩
  exact ⟨rfl, ⟨⟨g, o, c, pl, r2⟩, h.ful, h.sz, h.hk⟩, Mv.of_kp kp (fun x hx _ => by rw [List.mem_singleton.1 hx]; exact .inl r.tb) (fun _ _ => rfl)⟩

theorem Ps.par (h : Ps tag w b q A k) (z : Int) :
    Calls Tryz.prog 74 #[.pointer (some ⟨b, 0, none⟩), .int .i64 z] w fun e w' => e = .returned (.tuple #[.int .i64 (A.parF z).1, .bool (A.parF z).2]) ∧ w' = w := by
  obtain ⟨g, o, c, pl, r⟩ := h.pa
  exact par_any r (by have := h.n_lt; omega) z

theorem Ps.con (h : Ps tag w b q A k) (z : Int) :
    Calls Tryz.prog 75 #[.pointer (some ⟨b, 0, none⟩), .int .i64 z] w fun e w' => e = .returned (.tuple #[.int .i64 (A.conF z).1, .bool (A.conF z).2]) ∧ w' = w := by
  obtain ⟨g, o, c, pl, r⟩ := h.pa
  exact con_any r (by have := h.n_lt; omega) z

theorem Ps.len (h : Ps tag w b q A k) :
    Calls Tryz.prog 15 #[.pointer (some ⟨b, 0, none⟩)] w fun e w' => e = .returned (.int .i64 (A.n : Int)) ∧ w' = w := by
  obtain ⟨g, o, c, pl, r⟩ := h.pa
  exact len_any r

theorem Ps.quirky (h : Ps tag w b q A k) :
    Calls Tryz.prog 37 #[.pointer (some ⟨b, 0, none⟩)] w fun e w' => e = .returned (.bool q) ∧ w' = w := by
  obtain ⟨g, o, c, pl, r⟩ := h.pa
  exact quirky_any r

theorem Ps.kids (h : Ps tag w b q A k) (z : Int) :
    Calls Tryz.prog 45 #[.pointer (some ⟨b, 0, none⟩), .int .i64 z] w fun e w' => ∃ ao n' c', e = .returned (.slice ao n' c') ∧ Made w w' 3 ao n' c' (iv (A.kidF z)) := by
  obtain ⟨g, o, c, pl, r⟩ := h.pa
  exact kids_any r h.ful.toOk (by have := h.n_lt; omega) z

theorem Ps.pure (h : Ps tag w b q A k) (x : Nat) (hx : x < A.n) :
    Calls Tryz.prog 12 #[.pointer (some ⟨b, 0, none⟩), .int .i64 (x : Int)] w fun e w' => ∃ p, e = .returned (.tuple #[wv (A.lb x) p, .int .i64 0]) ∧ Kp [] w w' ∧ Nd (fun y => w.heap.size ≤ y) w' (A.lb x) (A.below x) p := by
  obtain ⟨g, o, c, pl, r⟩ := h.pa
  exact pure_any r h.ful.toOk h.n_lt x hx (fun y => ⟨(h.att y).1, (h.att y).2, h.nm y⟩)

theorem Ps.pure0 (h : Ps tag w b q A k) (z : Int) (hz : A.there z = false) :
    Calls Tryz.prog 12 #[.pointer (some ⟨b, 0, none⟩), .int .i64 z] w fun e w' => e = .returned (.tuple #[.agg #[.int .i64 0, .int .i64 0, .string ⟨#[]⟩, .slice none 0 0, .string ⟨#[]⟩, .slice none 0 0], .int .i64 22]) ∧ Kp [] w w' := by
  obtain ⟨g, o, c, pl, r⟩ := h.pa
  exact pure_none r h.n_lt z hz

set_option maxRecDepth 100000 in
set_option maxHeartbeats 1000000 in
theorem Ps.node0 (h : Ps tag w b q A k) (z : Int) (hz : A.there z = false) :
    Calls Tryz.prog 76 #[.pointer (some ⟨b, 0, none⟩), .int .i64 z] w fun e w' => e = .returned (.tuple #[.agg #[.int .i64 0, .int .i64 0, .string ⟨#[]⟩, .slice none 0 0, .string ⟨#[]⟩, .slice none 0 0], .bool false]) ∧ Kp [] w w' := by
  obtain ⟨g, o, c, pl, r⟩ := h.pa
  have hn := h.n_lt
  have HH : Hid (∀ V, Kp [] w V → Calls Tryz.prog 46 #[.pointer (some ⟨b, 0, none⟩), .int .i64 z] V fun e w' => e = .returned (.bool false) ∧ w' = V) := fun V kV => by
    have := has_any (r.kept kV) (by omega) z
    rw [← there_dec, hz] at this
    exact this
  have k1 : Hid (Kp [] w (w.alloc (.cells #[.int .i64 0, .int .i64 0, .string ⟨#[]⟩, .slice none 0 0, .string ⟨#[]⟩, .slice none 0 0] 38))) := (Kp.refl _ _).alloc _
  clear h hz r
  go_enter Tryz.func76, Tryz.ntmps76
  go_wp2_with (go_at_call 46; refine (HH.out _ k1.out).mono ?_; rintro e w9 ⟨rfl, hw⟩; have hw2 := hw.symm; clear hw; subst hw2)
  refine bodyPost_ret (v := .tuple #[.agg #[.int .i64 0, .int .i64 0, .string ⟨#[]⟩, .slice none 0 0, .string ⟨#[]⟩, .slice none 0 0], .bool false]) (by simp [results, go_sem]) rfl ⟨rfl, k1.out⟩

set_option maxRecDepth 100000 in
set_option maxHeartbeats 1000000 in
theorem Ps.node (h : Ps tag w b q A k) (x : Nat) (hx : x < A.n) :
    Calls Tryz.prog 76 #[.pointer (some ⟨b, 0, none⟩), .int .i64 (x : Int)] w fun e w' => ∃ p : Option Addr × Nat × Nat, e = .returned (.tuple #[wv (A.lb x) (p, (none, 0, 0)), .bool true]) ∧ Kp [] w w' ∧ Rk (fun y => w.heap.size ≤ y) 2 w' p.1 p.2.1 p.2.2 (cs (A.lb x).attrs) := by
  obtain ⟨g, o, c, pl, r⟩ := h.pa
  have hn := h.n_lt
  have hth : A.there (x : Int) = true := by unfold Ar.there; exact decide_eq_true (by omega)
  obtain ⟨W1, hW1⟩ : ∃ W, W = w.alloc (.cells #[.int .i64 0, .int .i64 0, .string ⟨#[]⟩, .slice none 0 0, .string ⟨#[]⟩, .slice none 0 0] 38) := ⟨_, rfl⟩
  have k1 : Kp [] w W1 := by rw [hW1]; exact (Kp.refl _ _).alloc _
  have A1 : At W1 w.heap.size #[.int .i64 0, .int .i64 0, .string ⟨#[]⟩, .slice none 0 0, .string ⟨#[]⟩, .slice none 0 0] 38 := by rw [hW1]; exact At.new _ _ _
  have HW : Hid (w.alloc (.cells #[.int .i64 0, .int .i64 0, .string ⟨#[]⟩, .slice none 0 0, .string ⟨#[]⟩, .slice none 0 0] 38) = W1) := hW1.symm
  have HH : Calls Tryz.prog 46 #[.pointer (some ⟨b, 0, none⟩), .int .i64 (x : Int)] W1 fun e w' => e = .returned (.bool true) ∧ w' = W1 := by
    have := has_any (r.kept k1) (by omega) (x : Int)
    rw [← there_dec, hth] at this
    exact this
  have HB := bare_any (i := x) (r.kept k1) (by omega) hx (h.att x) (h.nm x)
  rw [show (A.raw x).lb = A.lb x from rfl] at HB
  have hsz := A1.lt
  have H9 : Hid (∀ (W : World) (p : Option Addr × Nat × Nat), Kp [] W1 W → Rk (fun y => W1.heap.size ≤ y) 2 W p.1 p.2.1 p.2.2 (cs (A.lb x).attrs) → At W w.heap.size #[.int .i64 0, .int .i64 0, .string ⟨#[]⟩, .slice none 0 0, .string ⟨#[]⟩, .slice none 0 0] 38 ∧ Kp [] w (putZ W w.heap.size (.int .i64 (A.lb x).kind) (.int .i64 (A.lb x).ns) (.string (A.lb x).name) (.slice p.1 p.2.1 p.2.2) (.string (A.lb x).text) (.slice none 0 0)) ∧ Rk (fun y => w.heap.size ≤ y) 2 (putZ W w.heap.size (.int .i64 (A.lb x).kind) (.int .i64 (A.lb x).ns) (.string (A.lb x).name) (.slice p.1 p.2.1 p.2.2) (.string (A.lb x).text) (.slice none 0 0)) p.1 p.2.1 p.2.2 (cs (A.lb x).attrs)) := fun W p kW rW => by
    have aW := A1.kept kW (by simp)
    refine ⟨aW, (k1.trans kW (fun x hx => Or.inl hx)).putZ (Or.inr (Nat.le_refl _)) _ _ _ _ _ _, ?_⟩
    exact (rW.keep (((Kp.refl [w.heap.size] W).putZ (Or.inl (by simp)) _ _ _ _ _ _).sms (fun z hz hs => by rw [List.mem_singleton.1 hs] at hz; omega))).mono (fun z _ hz => by omega)
  clear h r hth hW1
  unfold wv at HB ⊢
  go_enter Tryz.func76, Tryz.ntmps76
  go_upto_region 1 with fail
  rw [HW.out]
  clear HW A1 k1
  go_wp2_with (first | (go_at_call 46; refine (HH).mono ?_; rintro e w9 ⟨rfl, hw⟩; have hw2 := hw.symm; clear hw; subst hw2) | (go_at_call 47; refine HB.mono ?_; rintro e W2 ⟨pa, rfl, k2, r2⟩; obtain ⟨a2, k9, r9⟩ := H9.out W2 pa k2 r2; obtain ⟨d20, d21, d22, d23, d24, d25⟩ := a2.six; have fr2 := fun j => a2.free j; have X9 := a2.putZ (.int .i64 (A.lb x).kind) (.int .i64 (A.lb x).ns) (.string (A.lb x).name) (.slice pa.1 pa.2.1 pa.2.2) (.string (A.lb x).text) (.slice none 0 0); have Y9 : Hid (_ ∧ _ ∧ _) := ⟨X9.six, k9, r9⟩; clear X9 k9 r9 a2 k2 r2 H9))
  unfold putZ at Y9
  obtain ⟨⟨x0', x1, x2, x3, x4, x5⟩, kD, R9⟩ := Y9.out
  refine bodyPost_ret (v := .tuple #[.agg #[.int .i64 (A.lb x).kind, .int .i64 (A.lb x).ns, .string (A.lb x).name, .slice pa.1 pa.2.1 pa.2.2, .string (A.lb x).text, .slice none 0 0], .bool true]) (by simp [results, go_sem, x0', x1, x2, x3, x4, x5]) rfl ⟨pa, rfl, kD, R9⟩

end

end Go.Proofs.YtgjkfpmhgidpaaaGreat

/-
  known of the law: chapter 15's run.
-/
namespace Go.Proofs.YtgjkfpmhgidpaaaGreat
open Go.RowKit Go.Maps Utf
set_option linter.unusedVariables false
set_option linter.unusedSimpArgs false

theorem Mv.kp {tag tag' : Nat → Nat} {w w' : World} (m : Mv tag w tag' w') (h : ∀ x, x < w.heap.size → tag x = 0) : Kp [] w w' :=
  ⟨m.os, m.tape, m.output, m.size, fun x hx _ => m.block x hx (by rw [h x hx]; unfold isP; omega)⟩

theorem Rp.nil (w : World) : Rp w none 0 0 [] := Rp.of_own (e := 0) (m := 0) ⟨rfl, Or.inl ⟨rfl, rfl⟩⟩

namespace Ar
def K1 : Ar := (first.mkF 3 1 ⟨#[112]⟩ (_root_.Go.Proofs.YtgjkfpmhgidpaaaGreat.uniq []) ⟨#[]⟩).1
def K2 : Ar := (K1.appF 0 1).1
def K3 : Ar := (K2.wrF 1 ⟨#[97]⟩).1
def K4 : Ar := (K3.wrF 1 ⟨#[98]⟩).1
theorem k1a : (first.mkF 3 1 ⟨#[112]⟩ (_root_.Go.Proofs.YtgjkfpmhgidpaaaGreat.uniq []) ⟨#[]⟩).2 = (1, 0) := by kernel_rfl
theorem k2a : (K1.appF 0 1).2 = 0 := by kernel_rfl
theorem k3a : (K2.wrF 1 ⟨#[97]⟩).2 = 0 := by kernel_rfl
theorem k4a : (K3.wrF 1 ⟨#[98]⟩).2 = 0 := by kernel_rfl
theorem k4b : K4.n = 3 := by kernel_rfl
theorem k4c : (K4.kidF 1).length = 1 := by kernel_rfl
theorem k4d : (K4.appF 1 1).2 = 24 := by kernel_rfl
end Ar

set_option maxRecDepth 100000 in
set_option maxHeartbeats 1000000 in
theorem known_any (w : World) : Calls Tryz.prog 10 #[] w fun e w' => e = .returned (.bool true) ∧ Kp [] w w' := by
  have HN := Ps.new w (fun _ => 0)
  have HM : Hid (∀ V b tag, Ps tag V b false Ar.first 0 → Calls Tryz.prog 20 #[.pointer (some ⟨b, 0, none⟩), .int .i64 3, .int .i64 1, .string ⟨#[112]⟩, .slice none 0 0, .string ⟨#[]⟩] V fun e w' => e = .returned (.tuple #[.int .i64 1, .int .i64 0]) ∧ ∃ tag', Ps tag' w' b false Ar.K1 1 ∧ Mv tag V tag' w') := fun V b tag h => by
    have := h.mk' (by omega) 3 1 ⟨#[112]⟩ ⟨#[]⟩ [] none 0 0 (Rp.nil V) (by simp) (fun a ha => by cases ha) (by decide) (by decide)
    rw [Ar.k1a] at this
    exact this
  have HA : Hid (∀ V b tag, Ps tag V b false Ar.K1 1 → Calls Tryz.prog 22 #[.pointer (some ⟨b, 0, none⟩), .int .i64 0, .int .i64 1] V fun e w' => e = .returned (.int .i64 0) ∧ Ps tag w' b false Ar.K2 1 ∧ Mv tag V tag w') := fun V b tag h => by
    have := h.app 0 1
    rw [Ar.k2a] at this
    exact this
  have HW : Hid (∀ V b tag, Ps tag V b false Ar.K2 1 → Calls Tryz.prog 30 #[.pointer (some ⟨b, 0, none⟩), .int .i64 1, .string ⟨#[97]⟩] V fun e w' => e = .returned (.int .i64 0) ∧ ∃ tag', Ps tag' w' b false Ar.K3 2 ∧ Mv tag V tag' w') := fun V b tag h => by
    have := h.wr (by omega) 1 ⟨#[97]⟩ (by decide)
    rw [Ar.k3a] at this
    exact this
  have HX : Hid (∀ V b tag, Ps tag V b false Ar.K3 2 → Calls Tryz.prog 30 #[.pointer (some ⟨b, 0, none⟩), .int .i64 1, .string ⟨#[98]⟩] V fun e w' => e = .returned (.int .i64 0) ∧ ∃ tag', Ps tag' w' b false Ar.K4 3 ∧ Mv tag V tag' w') := fun V b tag h => by
    have := h.wr (by omega) 1 ⟨#[98]⟩ (by decide)
    rw [Ar.k4a] at this
    exact this
  have HK : Hid (∀ V b tag, Ps tag V b false Ar.K4 3 → Calls Tryz.prog 45 #[.pointer (some ⟨b, 0, none⟩), .int .i64 1] V fun e w' => ∃ ao c', e = .returned (.slice ao 1 c') ∧ Kp [] V w') := fun V b tag h => by
    refine (h.kids 1).mono ?_
    rintro e w' ⟨ao, n', c', rfl, M⟩
    have hl := M.rb.len
    rw [iv_len, Ar.k4c] at hl
    subst hl
    exact ⟨ao, c', rfl, M.2.1⟩
  have HL : Hid (∀ V b tag, Ps tag V b false Ar.K4 3 → Calls Tryz.prog 15 #[.pointer (some ⟨b, 0, none⟩)] V fun e w' => e = .returned (.int .i64 3) ∧ w' = V) := fun V b tag h => by
    have := h.len
    rw [Ar.k4b] at this
    exact this
  have HP : Hid (∀ V b tag, Ps tag V b false Ar.K4 3 → Calls Tryz.prog 22 #[.pointer (some ⟨b, 0, none⟩), .int .i64 1, .int .i64 1] V fun e w' => e = .returned (.int .i64 24) ∧ Mv tag V tag w') := fun V b tag h => by
    have := h.app 1 1
    rw [Ar.k4d] at this
    exact this.mono (fun e w' ⟨h1, _, h3⟩ => ⟨h1, h3⟩)
  go_enter Tryz.func10, Tryz.ntmps10
  go_wp2_with (first | (go_at_call 5; refine HN.mono ?_; rintro e w1 ⟨b, tag1, rfl, p1, m1, hb⟩) | (go_at_call 20; refine (HM.out _ _ _ p1).mono ?_; rintro e w2 ⟨rfl, tag2, p2, m2⟩) | (go_at_call 22; refine (HP.out _ _ _ p6).mono ?_; rintro e w7 ⟨rfl, m7⟩) | (go_at_call 22; refine (HA.out _ _ _ p2).mono ?_; rintro e w3 ⟨rfl, p3, m3⟩) | (go_at_call 30; refine (HX.out _ _ _ p4).mono ?_; rintro e w5 ⟨rfl, tag5, p5, m5⟩) | (go_at_call 30; refine (HW.out _ _ _ p3).mono ?_; rintro e w4 ⟨rfl, tag4, p4, m4⟩) | (go_at_call 45; refine (HK.out _ _ _ p5).mono ?_; rintro e w6 ⟨ao, c', rfl, k6⟩; have p6 := p5.kept k6) | (go_at_call 15; refine (HL.out _ _ _ p6).mono ?_; rintro e w9 ⟨rfl, hw⟩; have hw2 := hw.symm; clear hw; subst hw2))
  go_ret
  have m6 := Mv.of_kp (tag := tag5) (tag' := tag5) k6 (fun x hx => by simp at hx) (fun _ _ => rfl)
  exact ⟨rfl, ((((((m1.trans m2).trans m3).trans m4).trans m5).trans m6).trans m7).kp (fun _ _ => rfl)⟩

end Go.Proofs.YtgjkfpmhgidpaaaGreat
