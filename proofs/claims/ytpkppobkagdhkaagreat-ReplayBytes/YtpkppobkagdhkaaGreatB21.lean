/-
 PrL.
-/
import Derived.Test.YtpkppobkagdhkaaGreatB20
set_option linter.unusedVariables false
set_option linter.unusedSimpArgs false
set_option maxRecDepth 100000
set_option maxHeartbeats 1000000
namespace Go.Proofs.YtpkppobkagdhkaaGreat
open Go.RowKit Go.Maps Utf
structure Bl (w wr : World) (gt s : Nat) (l : Lb) (k : Nat) (ao : Option Addr) (n c : Nat) : Prop where
 kp : Kp [] w wr
 tt : At wr gt #[.int .i64 l.kind,.int .i64 l.ns,.string l.name,.slice ao n c,.string l.text,.slice none 0 0] 40
 ow : OwnK 2 wr 102 (.slice ao n c) n (cs (l.attrs.take k))
 bk : ∀ x,x ∈ blk (.slice ao n c) → w.heap.size ≤ x ∧ x ≠ gt ∧ x ≠ s
 rs : At wr s #[.int .i64 0,.int .i64 0,.string ⟨#[]⟩,.slice none 0 0,.string ⟨#[]⟩,.slice none 0 0] 40
 gs : gt ≠ s ∧ w.heap.size ≤ gt ∧ w.heap.size ≤ s
theorem Bl.kept {w wr V : World} {gt s : Nat} {l : Lb} {k : Nat} {ao : Option Addr} {n c : Nat} (h : Bl w wr gt s l k ao n c) (kV : Kp [] wr V) : Bl w V gt s l k ao n c :=
 ⟨h.kp.trans kV (fun x hx => Or.inl hx),h.tt.kept kV (by simp),h.ow.keep kV (fun _ _ => by simp),h.bk,h.rs.kept kV (by simp),h.gs⟩
theorem Bl.len {w wr : World} {gt s : Nat} {l : Lb} {k : Nat} {ao : Option Addr} {n c : Nat} (h : Bl w wr gt s l k ao n c) : n = (l.attrs.take k).length := by
 have := h.ow.1
 rw [cs_len] at this
 omega
theorem Bl.one {w V : World} {gt s ga : Nat} {l : Lb} {k : Nat} {ao : Option Addr} {n c : Nat} (h : Bl w V gt s l k ao n c) (hk : k < l.attrs.length) (hl : l.attrs.length ≤ 100000) (hga : At V ga #[.string l.attrs[k].1,.string l.attrs[k].2] 102) (hgb : ga ∉ blk (.slice ao n c)) :
  ∃ ao' n' c' w4,(∀ ty,(Builtin.append_ #[22,22] ty #[.slice ao n c,.slice (some ⟨V.heap.size,0,none⟩) 1 1]).run Tryz.prog (V.alloc (.cells #[.string l.attrs[k].1,.string l.attrs[k].2] 102)) = .ok (.slice ao' n' c') w4) ∧ (w4.cell? ⟨gt,3,none⟩ = some (.slice ao n c) ∧ w4.cell? ⟨ga,0,none⟩ = some (.string l.attrs[k].1) ∧ w4.cell? ⟨ga,1,none⟩ = some (.string l.attrs[k].2)) ∧ w4.frozen? ⟨gt,3,none⟩ = false ∧
    Bl w (w4.setCell ⟨gt,3,none⟩ (.slice ao' n' c')) gt s l (k + 1) ao' n' c' := by
 have hn := h.len
 have hr := (rp_lit V #[.string l.attrs[k].1,.string l.attrs[k].2] [l.attrs[k]] 1 rfl rfl (by omega)).rp
 have ka : Kp [] V (V.alloc (.cells #[.string l.attrs[k].1,.string l.attrs[k].2] 102)) := (Kp.refl _ _).alloc _
 obtain ⟨v',w4,hrun,o4,k4,b4,a4,c4,rfl⟩ := appK Tryz.underlying22 info23 rfl (by decide) _ _ _ _ (h.ow.keep ka (fun _ _ => by simp)) _ 1 (cs [l.attrs[k]]) (hr.src Tryz.underlying22) (fun _ => by omega) (by rw [List.length_take] at hn; omega)
 have hgt : gt ∉ blk (.slice ao n c) := fun hx => (h.bk gt hx).2.1 rfl
 have hs : s ∉ blk (.slice ao n c) := fun hx => (h.bk s hx).2.2 rfl
 have t4 := (h.tt.kept ka (by simp)).kept k4 hgt
 have g4 := (hga.kept ka (by simp)).kept k4 hgb
 have s4 := (h.rs.kept ka (by simp)).kept k4 hs
 have k5 : Kp [gt] w4 (w4.setCell ⟨gt,3,none⟩ (.slice (some a4) (n + 1) c4)) := (Kp.refl _ _).setCell (Or.inl (by simp)) _
 have hb : ∀ x,x ∈ blk (Value.slice (some a4) (n + 1) c4) → w.heap.size ≤ x ∧ x ≠ gt ∧ x ≠ s := fun x hx => by
  rcases b4 x hx with h5 | h5
  ·exact h.bk x h5
  ·have h6 := h.kp.size
   have h7 := h.tt.lt
   have h8 := h.rs.lt
   rw [h5]
   simp
   omega
 refine ⟨_,_,_,w4,hrun,⟨t4.cell 3,g4.cell 0,g4.cell 1⟩,t4.free 3,⟨?_,t4.set 3 _,?_,hb,s4.kept k5 (by simp; exact Ne.symm h.gs.1),h.gs⟩⟩
 ·refine ((h.kp.trans ka (fun x hx => Or.inl hx)).trans k4 (fun x hx => Or.inr (h.bk x hx).1)).trans k5 (fun x hx => Or.inr (by rw [List.mem_singleton.1 hx]; exact h.gs.2.1))
 ·rw [take_snoc hk,cs_append]
  exact o4.keep k5 (fun x hx hs => by rw [List.mem_singleton.1 hs] at hx; exact (hb gt hx).2.1 rfl)
theorem make_atts (w : World) (n : Nat) (h1 : n ≤ 100000) :
  ∃ w1,(Instr.makeSlice 22 (.int .i64 0) (.int .i64 (n : Int))).run Tryz.prog w = .ok (.slice (some ⟨w.heap.size,0,none⟩) 0 n) w1 ∧ Mp w w1 (some ⟨w.heap.size,0,none⟩) 0 n [] := by
 obtain ⟨i,hi0,hi1,hi2,hi3⟩ := info_parts info23
 have hr := run_make (P := Tryz.prog) w 22 102 i _ Tryz.underlying22 hi0 hi1 .i64 .i64 0 (n : Int) (Int.le_refl _) (by omega) (by rw [hi3]; omega) (by omega)
 rw [show ((n : Int)).toNat = n by omega] at hr
 refine ⟨_,hr,ownK_new 2 w 102 _ [] 0 n rfl (by omega) (by unfold maxLen; omega) (by rw [size_madeCells,hi2]; exact Nat.le_refl _) (fun j hj => by omega),(Kp.refl _ _).alloc _,fun k hk => by simp [blk] at hk; omega⟩
section
variable {tag : Nat → Nat} {w : World} {b g o c : Nat} {q : Bool} {n : Nat} {N : Nat → Pn} {pl : Nat → Np}
set_option maxHeartbeats 2000000 in
theorem bare_any (h : Rw tag w b g o c q n N pl) (hn : n < 100000) {i : Nat} (hi : i < n) (hat : (N i).lb.attrs.length ≤ 20000 ∧ fits (N i).lb.attrs) (hnm : (N i).lb.name.size ≤ 1000000) :
  Calls Tryz.prog 34 #[.pointer (some ⟨b,0,none⟩),.int .i64 (i : Int)] w fun e w' => ∃ p : Option Addr × Nat × Nat,e = .returned (wv (N i).lb (p,(none,0,0))) ∧ Kp [] w w' ∧ Rk (fun x => w.heap.size ≤ x) 2 w' p.1 p.2.1 p.2.2 (cs (N i).lb.attrs) := by
 have hi0 : (0 : Int) ≤ (i : Int) := by omega
 have hi1 : (i : Int) < (n : Int) := by omega
 have sd := h.side i hi
 have hal := sd.alen
 have HC : Hid (∀ V,Kp [] w V → (V.cell? ⟨b,0,none⟩ = some (.slice (some ⟨g,o,none⟩) n c)) ∧ (V.cell? ⟨g,o + i * 11,none⟩ = some (.int .i64 (N i).lb.kind) ∧ V.cell? ⟨g,o + i * 11 + 1,none⟩ = some (.int .i64 (N i).lb.ns) ∧ V.cell? ⟨g,o + i * 11 + 2,none⟩ = some (.string (N i).lb.name) ∧ V.cell? ⟨g,o + i * 11 + 5,none⟩ = some (.slice (pl i).to (pl i).tn (pl i).tc) ∧ (convert 49 9 (.slice (pl i).to (pl i).tn (pl i).tc)).run Tryz.prog V = .ok (.string (N i).lb.text) V) ∧ V.cell? ⟨g,o + i * 11 + 3,none⟩ = some (.slice (pl i).ao (pl i).an (pl i).ac) ∧ Rp V (pl i).ao (pl i).an (pl i).ac (N i).lb.attrs) := fun V kV => by
  have hV := h.kept kV
  obtain ⟨g1,g2,g3,g4,_,g6⟩ := hV.fields hi
  have sV := hV.side i hi
  have cv := conv_rb sV.tx.rb
  rw [strs_bytes] at cv
  exact ⟨hV.head.1,⟨g1,g2,g3,g6,cv⟩,g4,Rp.of_own sV.at'⟩
 have HN : Hid (∀ W,Calls Tryz.prog 61 #[.string (N i).lb.name] W fun e w' => e = .returned (.string (N i).lb.name) ∧ Kp [] W w') := fun W => clone_any W _ (by omega)
 obtain ⟨hat1,hat2⟩ := hat
 clear h sd hnm
 obtain ⟨L,hL⟩ : ∃ L,(N i).lb = L := ⟨_,rfl⟩
 rw [hL] at HC HN hat1 hat2 hal ⊢
 clear hL
 generalize (pl i).to = xo at HC
 generalize (pl i).tn = xn at HC
 generalize (pl i).tc = xc at HC
 generalize (pl i).ao = yo at HC
 generalize (pl i).an = yn at HC hal
 generalize (pl i).ac = yc at HC
 subst hal
 obtain ⟨B,hB⟩ : ∃ B,B = w.alloc (.cells #[.int .i64 0,.int .i64 0,.string ⟨#[]⟩,.slice none 0 0,.string ⟨#[]⟩,.slice none 0 0] 40) := ⟨_,rfl⟩
 have kB : Kp [] w B := by rw [hB]; exact (Kp.refl _ _).alloc _
 have A0 : At B w.heap.size #[.int .i64 0,.int .i64 0,.string ⟨#[]⟩,.slice none 0 0,.string ⟨#[]⟩,.slice none 0 0] 40 := by rw [hB]; exact At.new _ _ _
 have HB : Hid (w.alloc (.cells #[.int .i64 0,.int .i64 0,.string ⟨#[]⟩,.slice none 0 0,.string ⟨#[]⟩,.slice none 0 0] 40) = B) := hB.symm
 have KB : Hid (Kp [] w B) := kB
 have SB : Hid (w.heap.size < B.heap.size) := A0.lt
 have c0 := (HC.out B kB).1
 have c00 := (HC.out w (Kp.refl _ _)).1
 have AB : Hid (At B w.heap.size #[.int .i64 0,.int .i64 0,.string ⟨#[]⟩,.slice none 0 0,.string ⟨#[]⟩,.slice none 0 0] 40) := A0
 clear hB kB A0
 go_enter Tryz.func34,Tryz.ntmps34
 go_upto_region 1 with fail
 rw [HB.out]
 clear HB c00
 go_wp2_with fail
 clear c0
 go_cut [6] from 15 to 33 (fun x6 wc => ∃ g3,x6 = .pointer (some ⟨g3,0,none⟩) ∧ At wc g3 #[.int .i64 L.kind,.int .i64 L.ns,.string L.name,.slice none 0 0,.string L.text,.slice none 0 0] 40 ∧ Kp [] B wc ∧ B.heap.size ≤ g3)
 case first =>
  have CL : Hid (∀ V,Kp [] B V → V.cell? ⟨g,o + i * 11,none⟩ = some (.int .i64 L.kind) ∧ V.cell? ⟨g,o + i * 11 + 1,none⟩ = some (.int .i64 L.ns) ∧ V.cell? ⟨g,o + i * 11 + 2,none⟩ = some (.string L.name) ∧ V.cell? ⟨g,o + i * 11 + 5,none⟩ = some (.slice xo xn xc) ∧ (convert 49 9 (.slice xo xn xc)).run Tryz.prog V = .ok (.string L.text) V) := fun V kV => (HC.out V (KB.out.trans kV (fun x hx => Or.inl hx))).2.1
  obtain ⟨U0,hU0⟩ : ∃ V,V = B.drew := ⟨_,rfl⟩
  have k0 : Kp [] B U0 := by rw [hU0]; exact (Kp.refl _ _).drew
  refine wp_region_g (S := fun V => V.cell? ⟨g,o + i * 11,none⟩ = some (.int .i64 L.kind) ∧ V.cell? ⟨g,o + i * 11 + 1,none⟩ = some (.int .i64 L.ns) ∧ V.cell? ⟨g,o + i * 11 + 2,none⟩ = some (.string L.name) ∧ V.cell? ⟨g,o + i * 11 + 5,none⟩ = some (.slice xo xn xc) ∧ (convert 49 9 (.slice xo xn xc)).run Tryz.prog V = .ok (.string L.text) V) (T := [20]) (by kernel_rfl) (CL.out _ (Kp.refl [] B).drew) (fun hHeld => ?_)
  rw [← hU0] at hHeld ⊢
  clear hU0
  refine g_pure 0 (some 15) (.move (.tmp 5)) ?_
  refine g_pure 1 (some 16) (.nilCheck (.tmp 15)) ?_
  refine g_pure 2 (some 17) (.fieldAddr 109 (.tmp 16) 0) ?_
  refine g_take 3 (some 18) (.load 3 (.tmp 17)) (by intro w hSw; (obtain ⟨c0,c1,c2,c5,cv⟩ := hSw); go_simp; try with_reducible rfl) ?_
  refine g_pure 4 (some 19) (.move (.tmp 5)) ?_
  refine g_pure 5 (some 20) (.nilCheck (.tmp 19)) ?_
  refine g_pure 6 (some 21) (.fieldAddr 109 (.tmp 20) 1) ?_
  refine g_take 7 (some 22) (.load 3 (.tmp 21)) (by intro w hSw; (obtain ⟨c0,c1,c2,c5,cv⟩ := hSw); go_simp; try with_reducible rfl) ?_
  refine g_pure 8 (some 23) (.move (.tmp 5)) ?_
  refine g_pure 9 (some 24) (.nilCheck (.tmp 23)) ?_
  refine g_pure 10 (some 25) (.fieldAddr 109 (.tmp 24) 2) ?_
  refine g_take 11 (some 26) (.load 9 (.tmp 25)) (by intro w hSw; (obtain ⟨c0,c1,c2,c5,cv⟩ := hSw); go_simp; try with_reducible rfl) ?_
  refine g_pure 13 (some 28) (.move (.tmp 5)) ?_
  refine g_pure 14 (some 29) (.nilCheck (.tmp 28)) ?_
  refine g_pure 15 (some 30) (.fieldAddr 109 (.tmp 29) 5) ?_
  refine g_take 16 (some 31) (.load 49 (.tmp 30)) (by intro w hSw; (obtain ⟨c0,c1,c2,c5,cv⟩ := hSw); go_simp; try with_reducible rfl) ?_
  refine g_take 17 (some 32) (.convert 49 9 (.tmp 31)) (by intro w hSw; (obtain ⟨c0,c1,c2,c5,cv⟩ := hSw); go_simp; try with_reducible rfl) ?_
  refine wpAnyG_ready (rs := [12,19]) (by kernel_rfl) (by simp) ?_
  refine AllReadyG.cons (o := ⟨some 27,.call { callee := .value (.func 61),args := #[.tmp 26],argTypes := #[9] },9,_,_,none⟩) rfl (fun K hK => ?_) ?_
  ·go_simp
   go_at_call 61
   refine (HN.out _).mono ?_
   rintro e U1 ⟨rfl,u1⟩
   go_wp2_with fail
   have k1 : Kp [] B U1 := k0.trans u1 (fun z hz => by simp at hz)
   refine hK.out _ _ (CL.out _ k1) (fun hHeld1 => ?_)
   clear hK K hHeld
   try simp only [Act.put,pu1,pu2,pu3]
   refine g_pure 18 (some 33) (.build 40 #[(0,.tmp 18),(1,.tmp 22),(2,.tmp 27),(4,.tmp 32)]) ?_
   refine wpAnyG_ready (rs := [19]) (by kernel_rfl) (by simp) ?_
   refine AllReadyG.cons (o := ⟨some 6,.alloc 40,0,_,_,none⟩) rfl (fun K hK => ?_) AllReadyG.nil
   go_simp
   obtain ⟨U2,hU⟩ : ∃ V,V = World.alloc U1 (.cells #[.int .i64 0,.int .i64 0,.string ⟨#[]⟩,.slice none 0 0,.string ⟨#[]⟩,.slice none 0 0] 40) := ⟨_,rfl⟩
   rw [← hU]
   have u2 : Kp [] U1 U2 := by rw [hU]; exact (Kp.refl _ _).alloc _
   have k2 : Kp [] B U2 := k1.trans u2 (fun z hz => by simp at hz)
   have T3 : At U2 U1.heap.size #[.int .i64 0,.int .i64 0,.string ⟨#[]⟩,.slice none 0 0,.string ⟨#[]⟩,.slice none 0 0] 40 := by rw [hU]; exact At.new _ _ _
   have n3 := k1.size
   obtain ⟨g3,hg3⟩ : ∃ g,U1.heap.size = g := ⟨_,rfl⟩
   rw [hg3] at T3 ⊢
   clear hU
   refine hK.out _ _ (CL.out _ k2) (fun hHeld2 => ?_)
   clear hK K hHeld1
   try simp only [Act.put,pu1,pu2,pu3]
   refine wpAnyG_free (by kernel_rfl) ?_
   refine wpAny_ready (rs := [20]) (by kernel_rfl) (by simp) ?_
   refine AllReady.cons (o := ⟨none,.store 40 (.tmp 6) (.tmp 33),0,_,_,none⟩) rfl (fun K hK => ?_) AllReady.nil
   obtain ⟨d20,d21,d22,d23,d24,d25⟩ := T3.six
   have fr2 := fun j => T3.free j
   go_simp
   refine hK _ _ ?_
   clear hK K
   try simp only [Act.put,pu1,pu2,pu3]
   refine wpAny_done (by kernel_rfl) ?_ _
   clear d20 d21 d22 d23 d24 d25 fr2
   obtain ⟨W,hW⟩ : ∃ F,F = putZ U2 g3 (.int .i64 L.kind) (.int .i64 L.ns) (.string L.name) (.slice none 0 0) (.string L.text) (.slice none 0 0) := ⟨_,rfl⟩
   have hWu := hW
   unfold putZ at hWu
   rw [← hWu]
   clear hWu
   have v3 : Kp [g3] U2 W := by rw [hW]; exact (Kp.refl _ _).putZ (g := g3) (Or.inl (by simp)) (.int .i64 L.kind) (.int .i64 L.ns) (.string L.name) (.slice none 0 0) (.string L.text) (.slice none 0 0)
   have T3 : At W g3 #[.int .i64 L.kind,.int .i64 L.ns,.string L.name,.slice none 0 0,.string L.text,.slice none 0 0] 40 := by rw [hW]; exact T3.putZ (.int .i64 L.kind) (.int .i64 L.ns) (.string L.name) (.slice none 0 0) (.string L.text) (.slice none 0 0)
   clear hW
   have kW : Kp [] B W := k2.trans v3 (fun z hz => Or.inr (by simp at hz; omega))
   go_wp2_with fail
   go_meet
   case rel => exact ⟨g3,rfl,T3,kW,by omega⟩
  refine AllReadyG.cons (o := ⟨some 6,.alloc 40,0,_,_,none⟩) rfl (fun K hK => ?_) AllReadyG.nil
  go_simp
  obtain ⟨U1,hU⟩ : ∃ V,V = World.alloc U0 (.cells #[.int .i64 0,.int .i64 0,.string ⟨#[]⟩,.slice none 0 0,.string ⟨#[]⟩,.slice none 0 0] 40) := ⟨_,rfl⟩
  rw [← hU]
  have u1 : Kp [] U0 U1 := by rw [hU]; exact (Kp.refl _ _).alloc _
  have k1 : Kp [] B U1 := k0.trans u1 (fun z hz => by simp at hz)
  have T3 : At U1 U0.heap.size #[.int .i64 0,.int .i64 0,.string ⟨#[]⟩,.slice none 0 0,.string ⟨#[]⟩,.slice none 0 0] 40 := by rw [hU]; exact At.new _ _ _
  have n3 := k0.size
  obtain ⟨g3,hg3⟩ : ∃ g,U0.heap.size = g := ⟨_,rfl⟩
  rw [hg3] at T3 ⊢
  clear hU
  refine hK.out _ _ (CL.out _ k1) (fun hHeld1 => ?_)
  clear hK K hHeld
  try simp only [Act.put,pu1,pu2,pu3]
  refine wpAnyG_ready (rs := [12]) (by kernel_rfl) (by simp) ?_
  refine AllReadyG.cons (o := ⟨some 27,.call { callee := .value (.func 61),args := #[.tmp 26],argTypes := #[9] },9,_,_,none⟩) rfl (fun K hK => ?_) AllReadyG.nil
  go_simp
  go_at_call 61
  refine (HN.out _).mono ?_
  rintro e U2 ⟨rfl,u2⟩
  go_wp2_with fail
  have k2 : Kp [] B U2 := k1.trans u2 (fun z hz => by simp at hz)
  have T3 := T3.kept u2 (by simp)
  refine hK.out _ _ (CL.out _ k2) (fun hHeld2 => ?_)
  clear hK K hHeld1
  try simp only [Act.put,pu1,pu2,pu3]
  refine g_pure 18 (some 33) (.build 40 #[(0,.tmp 18),(1,.tmp 22),(2,.tmp 27),(4,.tmp 32)]) ?_
  refine wpAnyG_free (by kernel_rfl) ?_
  refine wpAny_ready (rs := [20]) (by kernel_rfl) (by simp) ?_
  refine AllReady.cons (o := ⟨none,.store 40 (.tmp 6) (.tmp 33),0,_,_,none⟩) rfl (fun K hK => ?_) AllReady.nil
  obtain ⟨d20,d21,d22,d23,d24,d25⟩ := T3.six
  have fr2 := fun j => T3.free j
  go_simp
  refine hK _ _ ?_
  clear hK K
  try simp only [Act.put,pu1,pu2,pu3]
  refine wpAny_done (by kernel_rfl) ?_ _
  clear d20 d21 d22 d23 d24 d25 fr2
  obtain ⟨W,hW⟩ : ∃ F,F = putZ U2 g3 (.int .i64 L.kind) (.int .i64 L.ns) (.string L.name) (.slice none 0 0) (.string L.text) (.slice none 0 0) := ⟨_,rfl⟩
  have hWu := hW
  unfold putZ at hWu
  rw [← hWu]
  clear hWu
  have v3 : Kp [g3] U2 W := by rw [hW]; exact (Kp.refl _ _).putZ (g := g3) (Or.inl (by simp)) (.int .i64 L.kind) (.int .i64 L.ns) (.string L.name) (.slice none 0 0) (.string L.text) (.slice none 0 0)
  have T3 : At W g3 #[.int .i64 L.kind,.int .i64 L.ns,.string L.name,.slice none 0 0,.string L.text,.slice none 0 0] 40 := by rw [hW]; exact T3.putZ (.int .i64 L.kind) (.int .i64 L.ns) (.string L.name) (.slice none 0 0) (.string L.text) (.slice none 0 0)
  clear hW
  have kW : Kp [] B W := k2.trans v3 (fun z hz => Or.inr (by simp at hz; omega))
  go_wp2_with fail
  go_meet
  case rel => exact ⟨g3,rfl,T3,kW,by omega⟩
 obtain ⟨g3,rfl,T3,kc,hg3⟩ := hcut
 have bl0 : Bl w wc g3 w.heap.size L 0 none 0 0 := ⟨KB.out.trans kc (fun x hx => Or.inl hx),T3,⟨rfl,Or.inl ⟨rfl,rfl⟩⟩,fun x hx => by simp [blk] at hx,AB.out.kept kc (by simp),by have := SB.out; omega,by have := SB.out; omega,Nat.le_refl _⟩
 have bl0' : Hid (Bl w wc g3 w.heap.size L 0 none 0 0) := bl0
 have hfl : ∀ a,a ∈ L.attrs → a.1.size ≤ 281474976710656 ∧ a.2.size ≤ 281474976710656 := fun a ha => by have := hat2 a ha; omega
 clear HN KB SB AB T3 kc bl0 hat2
 have bl0 := bl0'.out
 have ca := (HC.out wc bl0.kp).2.2.1
 by_cases hl0 : L.attrs.length = 0
 ·rw [hl0] at ca
  have hte : L.attrs.take 0 = L.attrs := by rw [List.take_zero]; exact (List.eq_nil_of_length_eq_zero hl0).symm
  clear bl0 hl0
  go_wp2_with fail
  go_loopw [8,52] (fun _ kk wr => kk = .int .i64 0 ∧ wr = wc) (fun _ _ _ => 0)
  case atStart => exact ⟨rfl,rfl⟩
  case round =>
   obtain ⟨rfl,hw⟩ := hrel
   have hw2 := hw.symm
   clear hw
   subst hw2
   have bl := bl0'.out
   have D := (bl.rs.putZ (.int .i64 L.kind) (.int .i64 L.ns) (.string L.name) (.slice none 0 0) (.string L.text) (.slice none 0 0)).six
   have kD : Kp [] w (putZ wc w.heap.size (.int .i64 L.kind) (.int .i64 L.ns) (.string L.name) (.slice none 0 0) (.string L.text) (.slice none 0 0)) := bl.kp.putZ (Or.inr (Nat.le_refl _)) _ _ _ _ _ _
   have kD2 : Kp [w.heap.size] wc (putZ wc w.heap.size (.int .i64 L.kind) (.int .i64 L.ns) (.string L.name) (.slice none 0 0) (.string L.text) (.slice none 0 0)) := (Kp.refl _ _).putZ (Or.inl (by simp)) _ _ _ _ _ _
   have R9 : Rk (fun x => w.heap.size ≤ x) 2 (putZ wc w.heap.size (.int .i64 L.kind) (.int .i64 L.ns) (.string L.name) (.slice none 0 0) (.string L.text) (.slice none 0 0)) none 0 0 (cs L.attrs) := by
    have e := bl.ow
    rw [hte] at e
    exact Rk.of_own (e.keep kD2 (fun x hx hs => by rw [List.mem_singleton.1 hs] at hx; exact (bl.bk _ hx).2.2 rfl)) rfl (fun x hx => (bl.bk x hx).1)
   have D9 : Hid (_ ∧ _ ∧ _) := ⟨D,kD,R9⟩
   unfold putZ at D9
   obtain ⟨y0,y1,y2,y3,y4,y5⟩ := bl.tt.six
   obtain ⟨z0,z1,z2,z3,z4,z5⟩ := bl.rs.six
   have fr := bl.rs.free
   have hgs := bl.gs
   clear bl D kD kD2 R9 HC
   go_wp2
   obtain ⟨⟨x0,x1,x2,x3,x4,x5⟩,kD,R9⟩ := D9.out
   refine bodyPost_ret (v := .agg #[.int .i64 L.kind,.int .i64 L.ns,.string L.name,.slice none 0 0,.string L.text,.slice none 0 0]) (by simp [results,go_sem,x0,x1,x2,x3,x4,x5]) rfl ⟨(none,0,0),rfl,kD,R9⟩
 ·have t0 : decide ((L.attrs.length : Int) > 0) = true := decide_eq_true (by omega)
  obtain ⟨w1,hmk,M1⟩ := make_atts wc L.attrs.length (by omega)
  have bl1 := bl0.kept M1.kp
  have hw3 := bl0.tt.lt
  have hws := bl0.rs.lt
  have hk0 := bl0.kp.size
  have k5 : Kp [g3] w1 (w1.setCell ⟨g3,3,none⟩ (.slice (some ⟨wc.heap.size,0,none⟩) 0 L.attrs.length)) := (Kp.refl _ _).setCell (Or.inl (by simp)) _
  obtain ⟨wd,hwd⟩ : ∃ wd,wd = w1.setCell ⟨g3,3,none⟩ (.slice (some ⟨wc.heap.size,0,none⟩) 0 L.attrs.length) := ⟨_,rfl⟩
  have B0 : Hid (Bl w wd g3 w.heap.size L 0 (some ⟨wc.heap.size,0,none⟩) 0 L.attrs.length) := by
   rw [hwd]
   exact ⟨bl1.kp.trans k5 (fun x hx => Or.inr (by rw [List.mem_singleton.1 hx]; exact bl1.gs.2.1)),bl1.tt.set 3 _,M1.1.keep k5 (fun x hx hs => by simp [blk] at hx; rw [List.mem_singleton.1 hs] at hx; omega),fun x hx => by simp [blk] at hx; omega,bl1.rs.kept k5 (by simp; exact Ne.symm bl1.gs.1),bl1.gs⟩
  have d3 := bl1.tt.cell 3
  have f3 := bl1.tt.free 3
  have ca1 := (HC.out w1 bl1.kp).2.2.1
  have HD : Hid (w1.setCell ⟨g3,3,none⟩ (.slice (some ⟨wc.heap.size,0,none⟩) 0 L.attrs.length) = wd) := hwd.symm
  clear bl0 bl0' bl1 M1 k5 hwd
  go_upto_region 5 with fail
  rw [HD.out]
  clear HD hmk d3 f3 ca ca1 t0
  have ca := (HC.out wd B0.out.kp).2.2.1
  go_wp2_with fail
  rw [show decide (0 < L.attrs.length) = true from decide_eq_true (by omega)]
  go_loopw [8,52] (fun _ kk wr => ∃ (k : Nat) (ao : Option Addr) (n c : Nat),k ≤ L.attrs.length ∧ kk = .int .i64 (k : Int) ∧ Bl w wr g3 w.heap.size L k ao n c) (fun _ kk _ => L.attrs.length - (intOf kk).toNat)
  case atStart => exact ⟨0,_,_,_,Nat.zero_le _,rfl,B0.out⟩
  case round =>
   obtain ⟨k,ao,nn,cc,hk,rfl,bl⟩ := hrel
   clear B0 ca
   by_cases hlt : k < L.attrs.length
   ·obtain ⟨b1,o1,rfl,g1,g2⟩ := (HC.out wr bl.kp).2.2.2.get k hlt
    have hk0 : (0 : Int) ≤ (k : Int) := by omega
    have hk1 : (k : Int) < (L.attrs.length : Int) := by omega
    have hb1 : b1 < wr.heap.size := block_lt_of_cell g1
    have hfk := hfl _ (List.getElem_mem hlt)
    obtain ⟨Y,hY⟩ : ∃ Y,Y = wr.alloc (.cells #[.string L.attrs[k].1,.string L.attrs[k].2] 102) := ⟨_,rfl⟩
    have kY : Kp [] wr Y := by rw [hY]; exact (Kp.refl _ _).alloc _
    have AY : At Y wr.heap.size #[.string L.attrs[k].1,.string L.attrs[k].2] 102 := by rw [hY]; exact At.new _ _ _
    have hgb : wr.heap.size ∉ blk (.slice ao nn cc) := fun hx => by have := bl.ow.lt _ hx; omega
    have HO : Hid (∀ V,Kp [] Y V → ∃ ao' n' c' w4,(∀ ty,(Builtin.append_ #[22,22] ty #[.slice ao nn cc,.slice (some ⟨V.heap.size,0,none⟩) 1 1]).run Tryz.prog (V.alloc (.cells #[.string L.attrs[k].1,.string L.attrs[k].2] 102)) = .ok (.slice ao' n' c') w4) ∧ (w4.cell? ⟨g3,3,none⟩ = some (.slice ao nn cc) ∧ w4.cell? ⟨wr.heap.size,0,none⟩ = some (.string L.attrs[k].1) ∧ w4.cell? ⟨wr.heap.size,1,none⟩ = some (.string L.attrs[k].2)) ∧ w4.frozen? ⟨g3,3,none⟩ = false ∧ Hid (Bl w (w4.setCell ⟨g3,3,none⟩ (.slice ao' n' c')) g3 w.heap.size L (k + 1) ao' n' c')) := fun V kV =>
     ((bl.kept kY).kept kV).one hlt (by omega) (AY.kept kV (by simp)) hgb
    have HS : Hid (∀ V,Kp [] Y V → V.cell? ⟨g3,3,none⟩ = some (.slice ao nn cc) ∧ V.cell? ⟨wr.heap.size,0,none⟩ = some (.string L.attrs[k].1) ∧ V.cell? ⟨wr.heap.size,1,none⟩ = some (.string L.attrs[k].2)) := fun V kV => ⟨(((bl.kept kY).kept kV).tt).cell 3,(AY.kept kV (by simp)).cell 0,(AY.kept kV (by simp)).cell 1⟩
    have HY : Hid (wr.alloc (.cells #[.string L.attrs[k].1,.string L.attrs[k].2] 102) = Y) := hY.symm
    have H1 : Hid (∀ W,Calls Tryz.prog 61 #[.string L.attrs[k].1] W fun e w' => e = .returned (.string L.attrs[k].1) ∧ Kp [] W w') := fun W => clone_any W _ hfk.1
    have H2 : Hid (∀ W,Calls Tryz.prog 61 #[.string L.attrs[k].2] W fun e w' => e = .returned (.string L.attrs[k].2) ∧ Kp [] W w') := fun W => clone_any W _ hfk.2
    clear bl hY kY AY hgb HC hfk hfl
    generalize L.attrs[k] = a at g1 g2 HO HS HY H1 H2
    go_upto_region 8 with fail
    rw [HY.out]
    clear HY g1 g2
    obtain ⟨U0,hU0⟩ : ∃ V,V = Y.drew := ⟨_,rfl⟩
    have k0 : Kp [] Y U0 := by rw [hU0]; exact (Kp.refl _ _).drew
    refine wp_region_g (S := fun V => V.cell? ⟨g3,3,none⟩ = some (.slice ao nn cc) ∧ V.cell? ⟨wr.heap.size,0,none⟩ = some (.string a.1) ∧ V.cell? ⟨wr.heap.size,1,none⟩ = some (.string a.2)) (T := [12]) (by kernel_rfl) (HS.out _ (Kp.refl [] Y).drew) (fun hHeld => ?_)
    rw [← hU0] at hHeld ⊢
    clear hU0
    refine g_pure 0 (some 56) (.fieldAddr 40 (.tmp 6) 3) ?_
    refine g_take 1 (some 57) (.load 22 (.tmp 56)) (by intro w hSw; (obtain ⟨q0,q1,q2⟩ := hSw); go_simp; try with_reducible rfl) ?_
    refine g_pure 2 (some 58) (.fieldAddr 102 (.tmp 8) 0) ?_
    refine g_take 3 (some 59) (.load 9 (.tmp 58)) (by intro w hSw; (obtain ⟨q0,q1,q2⟩ := hSw); go_simp; try with_reducible rfl) ?_
    refine g_pure 5 (some 61) (.fieldAddr 102 (.tmp 8) 1) ?_
    refine g_take 6 (some 62) (.load 9 (.tmp 61)) (by intro w hSw; (obtain ⟨q0,q1,q2⟩ := hSw); go_simp; try with_reducible rfl) ?_
    refine wpAnyG_ready (rs := [4]) (by kernel_rfl) (by simp) ?_
    refine AllReadyG.cons (o := ⟨some 60,.call { callee := .value (.func 61),args := #[.tmp 59],argTypes := #[9] },9,_,_,none⟩) rfl (fun K hK => ?_) AllReadyG.nil
    go_simp
    go_at_call 61
    refine (H1.out _).mono ?_
    rintro e U1 ⟨rfl,u1⟩
    go_wp2_with fail
    have k1 : Kp [] Y U1 := k0.trans u1 (fun z hz => by simp at hz)
    refine hK.out _ _ (HS.out _ k1) (fun hHeld1 => ?_)
    clear hK K hHeld
    try simp only [Act.put,pu1,pu2,pu3]
    refine wpAnyG_ready (rs := [7]) (by kernel_rfl) (by simp) ?_
    refine AllReadyG.cons (o := ⟨some 63,.call { callee := .value (.func 61),args := #[.tmp 62],argTypes := #[9] },9,_,_,none⟩) rfl (fun K hK => ?_) AllReadyG.nil
    go_simp
    go_at_call 61
    refine (H2.out _).mono ?_
    rintro e U2 ⟨rfl,u2⟩
    go_wp2_with fail
    have k2 : Kp [] Y U2 := k1.trans u2 (fun z hz => by simp at hz)
    refine hK.out _ _ (HS.out _ k2) (fun hHeld2 => ?_)
    clear hK K hHeld1
    try simp only [Act.put,pu1,pu2,pu3]
    refine g_pure 8 (some 64) (.build 102 #[(0,.tmp 60),(1,.tmp 63)]) ?_
    refine wpAnyG_ready (rs := [9]) (by kernel_rfl) (by simp) ?_
    refine AllReadyG.cons (o := ⟨some 65,.buildSlice 22 1 #[(0,.tmp 64)],22,_,_,none⟩) rfl (fun K hK => ?_) AllReadyG.nil
    obtain ⟨ao4,n4,c4,w4,hrun4,hS4,hf4,X4⟩ := HO.out _ k2
    go_simp
    refine hK.out _ _ (HS.out _ (k2.alloc _)) (fun hHeld3 => ?_)
    clear hK K hHeld2
    try simp only [Act.put,pu1,pu2,pu3]
    refine wpAnyG_ready (rs := [10]) (by kernel_rfl) (by simp) ?_
    refine AllReadyG.cons (o := ⟨some 66,.call { callee := .builtin .append,args := #[.tmp 57,.tmp 65],argTypes := #[22,22] },22,_,_,none⟩) rfl (fun K hK => ?_) AllReadyG.nil
    refine step_app2 (by rfl) _ _ 22 22 (by rfl) _ _ (by rfl) (by rfl) hrun4 ?_
    refine hK.out _ _ hS4 (fun hHeld4 => ?_)
    clear hK K hHeld3
    try simp only [Act.put,pu1,pu2,pu3]
    refine g_pure 11 (some 67) (.fieldAddr 40 (.tmp 6) 3) ?_
    refine wpAnyG_free (by kernel_rfl) ?_
    refine wpAny_ready (rs := [12]) (by kernel_rfl) (by simp) ?_
    refine AllReady.cons (o := ⟨none,.store 22 (.tmp 67) (.tmp 66),0,_,_,none⟩) rfl (fun K hK => ?_) AllReady.nil
    obtain ⟨q0,q1,q2⟩ := hS4
    go_simp
    refine hK _ _ ?_
    clear hK K
    try simp only [Act.put,pu1,pu2,pu3]
    refine wpAny_done (by kernel_rfl) ?_ _
    go_wp2
    go_roundw
    case rel => exact ⟨k + 1,_,_,_,by omega,by go_num,X4.out⟩
    case measure => simp [intOf]; omega
   ·obtain rfl : k = L.attrs.length := by omega
    have D := (bl.rs.putZ (.int .i64 L.kind) (.int .i64 L.ns) (.string L.name) (.slice ao nn cc) (.string L.text) (.slice none 0 0)).six
    have kD : Kp [] w (putZ wr w.heap.size (.int .i64 L.kind) (.int .i64 L.ns) (.string L.name) (.slice ao nn cc) (.string L.text) (.slice none 0 0)) := bl.kp.putZ (Or.inr (Nat.le_refl _)) _ _ _ _ _ _
    have kD2 : Kp [w.heap.size] wr (putZ wr w.heap.size (.int .i64 L.kind) (.int .i64 L.ns) (.string L.name) (.slice ao nn cc) (.string L.text) (.slice none 0 0)) := (Kp.refl _ _).putZ (Or.inl (by simp)) _ _ _ _ _ _
    have R9 : Rk (fun x => w.heap.size ≤ x) 2 (putZ wr w.heap.size (.int .i64 L.kind) (.int .i64 L.ns) (.string L.name) (.slice ao nn cc) (.string L.text) (.slice none 0 0)) ao nn cc (cs L.attrs) := by
     have e := bl.ow
     rw [List.take_length] at e
     exact Rk.of_own (e.keep kD2 (fun x hx hs => by rw [List.mem_singleton.1 hs] at hx; exact (bl.bk _ hx).2.2 rfl)) rfl (fun x hx => (bl.bk x hx).1)
    have D9 : Hid (_ ∧ _ ∧ _) := ⟨D,kD,R9⟩
    unfold putZ at D9
    obtain ⟨y0,y1,y2,y3,y4,y5⟩ := bl.tt.six
    obtain ⟨z0,z1,z2,z3,z4,z5⟩ := bl.rs.six
    have fr := bl.rs.free
    have hgs := bl.gs
    clear bl D kD kD2 R9 HC
    go_wp2
    obtain ⟨⟨x0,x1,x2,x3,x4,x5⟩,kD,R9⟩ := D9.out
    refine bodyPost_ret (v := .agg #[.int .i64 L.kind,.int .i64 L.ns,.string L.name,.slice ao nn cc,.string L.text,.slice none 0 0]) (by simp [results,go_sem,x0,x1,x2,x3,x4,x5]) rfl ⟨(ao,nn,cc),rfl,kD,R9⟩
end
end Go.Proofs.YtpkppobkagdhkaaGreat
