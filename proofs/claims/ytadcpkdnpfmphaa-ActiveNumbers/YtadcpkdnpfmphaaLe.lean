/-
  Mark, Push and Clear of the program.
-/
import Derived.Test.YtadcpkdnpfmphaaLd
import Derived.Deep.RegionHeld3
namespace Go.Proofs.Ytadcpkdnpfmphaa.Ints
open Go.RowKit
set_option linter.unusedSimpArgs false

/-- A new entry on top. -/
theorem Lx.top {w0 w w' : World} {q p : Nat} {B : List Nat} {v : Value} {bs : List (Option Addr)} {zs : List Ent} (h : Lx w0 w q p v bs zs) (hB : ∀ g, some ⟨g, 0, none⟩ ∈ bs → g ∈ B) (hB2 : ∀ k, k ∈ B → k < w.heap.size) (g0 : Nat) (x : Ent) (hb : Bx w (some ⟨g0, 0, none⟩) x) (hg0 : w0.heap.size ≤ g0) (hg1 : g0 ∉ B)
    (t : TX w w' p v (bs ++ [some ⟨g0, 0, none⟩])) : Li w0 w' q (B ++ [g0]) (zs ++ [x]) ∧ Ev w0 [] w w' := by
  have hlen := h.len
  have R := h.put hB hB2 zs.length (Nat.le_refl _) g0 x hb hg0 (fun hm => hg1 (hB g0 hm)) (by rw [List.take_of_length_le (by omega), List.drop_eq_nil_of_le (by omega)]; exact t)
  rw [List.take_of_length_le (Nat.le_refl _), List.drop_eq_nil_of_le (Nat.le_refl _)] at R
  exact R

/-- Push, of the pile in a list, of an entry that is new since w. -/
theorem push_pile (w0 w w2 : World) (q p : Nat) (B : List Nat) (v : Value) (bs : List (Option Addr)) (zs : List Ent) (h : Lx w0 w q p v bs zs) (hB : ∀ g, some ⟨g, 0, none⟩ ∈ bs → g ∈ B) (hB2 : ∀ k, k ∈ B → k < w.heap.size) (k : Kp [] w w2) (g0 : Nat) (x : Ent) (hb : Bx w2 (some ⟨g0, 0, none⟩) x) (hg0 : w.heap.size ≤ g0) (hl : zs.length < 90000) :
    Calls Try.prog 35 #[.pointer (some ⟨p, 0, none⟩), .pointer (some ⟨g0, 0, none⟩)] w2 fun e w' => e = .returned (.tuple #[]) ∧ Nx w0 w q B (zs ++ [x]) w' ∧ w'.cell? ⟨q, 0, none⟩ = some (.pointer (some ⟨p, 0, none⟩)) := by
  have h2 := h.kept k
  have hlen := h.len
  have hw0 : w0.heap.size ≤ w.heap.size := by
    have := (Array.getElem?_eq_some_iff.1 h.px.1).1
    have := h.new1
    omega
  refine (push_any w2 p v bs (some ⟨g0, 0, none⟩) h2.px (by omega)).mono ?_
  rintro e w' ⟨rfl, t⟩
  obtain ⟨r1, r2⟩ := h2.top hB (fun x hx => Nat.lt_of_lt_of_le (hB2 x hx) k.size) g0 x hb (by omega) (fun hm => by have := hB2 g0 hm; omega) t
  refine ⟨rfl, ⟨⟨B ++ [g0], r1, fun y hy => ?_⟩, Ev.ahead k r2.wide⟩, ?_⟩
  · rcases List.mem_append.1 hy with h4 | h4
    · exact Or.inl h4
    · simp at h4; subst h4; exact Or.inr hg0
  · exact cell_of (r2.cells _ _ _ h2.head not_pil_list (fun e => absurd e list_item)) 0

/-- Cut, of the pile in a list. -/
theorem cut_pile (w0 w : World) (q p : Nat) (B : List Nat) (v : Value) (bs : List (Option Addr)) (zs : List Ent) (k : Int) (h : Lx w0 w q p v bs zs) (hB : ∀ g, some ⟨g, 0, none⟩ ∈ bs → g ∈ B) (hB2 : ∀ k, k ∈ B → k < w.heap.size) (h1 : -1 ≤ k) (h2 : k < zs.length) (hl : zs.length < 90000) :
    Calls Try.prog 38 #[.pointer (some ⟨p, 0, none⟩), .int .i64 k] w fun e w' => ∃ b, e = .returned (.tuple #[.pointer b, .bool (decide (0 ≤ k))]) ∧ Li w0 w' q B (rmv zs k) ∧ Ev w0 [] w w' ∧ w'.cell? ⟨q, 0, none⟩ = some (.pointer (some ⟨p, 0, none⟩)) := by
  have hlen := h.len
  by_cases h0 : 0 ≤ k
  · have hk : k.toNat < bs.length := by omega
    refine (cut_in w p v bs k h.px h0 (by omega) (by omega) bs[k.toNat] (List.getElem?_eq_getElem hk)).mono ?_
    rintro e w2 ⟨rfl, t⟩
    obtain ⟨r1, r2⟩ := h.cut hB hB2 k.toNat (by omega) t
    refine ⟨_, by rw [decide_eq_true h0], ?_, r2, cell_of (r2.cells _ _ _ h.head not_pil_list (fun e => absurd e list_item)) 0⟩
    rw [rmv, if_pos h0]
    exact r1
  · refine (cut_out w p v bs k h.px (by omega)).mono ?_
    rintro e w2 ⟨rfl, rfl⟩
    refine ⟨_, by rw [decide_eq_false h0], ?_, Ev.refl _ _ _, h.cell⟩
    rw [rmv, if_neg h0]
    exact ⟨⟨p, v, bs, h, hB⟩, hB2⟩

theorem Li.cut_nx {w0 w w' : World} {q : Nat} {B : List Nat} {zs : List Ent} (h : Li w0 w' q B zs) (e : Ev w0 [] w w') : Nx w0 w q B zs w' := ⟨⟨B, h, fun _ hx => Or.inl hx⟩, e.wide⟩

set_option maxHeartbeats 1000000 in
theorem mark_list (w0 w : World) (q : Nat) (B : List Nat) (zs : List Ent) (h : Li w0 w q B zs) (hl : zs.length < 90000) :
    Calls Try.prog 10 #[.pointer (some ⟨q, 0, none⟩)] w fun e w' => e = .returned (.tuple #[]) ∧ Nx w0 w q B (zs ++ [emk]) w' := by
  obtain ⟨⟨p, v, bs, h, hB⟩, hB2⟩ := h
  have k1 : Kp [] w (w.alloc (.cells (rc (true, 0, ⟨#[]⟩, none, 0, 0)) 40)) := (Kp.refl _ _).alloc _
  have H := push_pile w0 w _ q p B v bs zs h hB hB2 k1 w.heap.size emk ⟨_, _, rfl, heap_new _ _, sm_mark _⟩ (Nat.le_refl _) hl
  have hc := h.cell
  clear h k1
  simp only [rc] at H
  go_enter Try.func10, Try.ntmps10
  go_wp2_with fail
  refine H.mono ?_
  rintro e w2 ⟨rfl, R, _⟩
  clear H
  go_wp2
  go_end0
  exact ⟨rfl, R⟩

set_option maxHeartbeats 2000000 in
theorem push_list (w0 w : World) (q : Nat) (B : List Nat) (zs : List Ent) (hd : Int) (s : ByteArray) (a : List Att) (ao : Option Addr) (n c : Nat) (hL : Li w0 w q B zs) (hr : Rz w ao n c a) (hn : n ≤ 6) (hf : fits a) (hl : zs.length < 80000) :
    Calls Try.prog 12 #[.pointer (some ⟨q, 0, none⟩), .int .i64 hd, .string s, .slice ao n c] w fun e w' => e = .returned (.tuple #[]) ∧ Nx w0 w q B (psh zs hd s a) w' := by
  have H1 := alike_list w0 w q B zs s a ao n c hL hr.rp (by omega) hf (by omega)
  have hrg := scn_range (alk s a) zs.reverse 0 0
  have HF : Hid (∀ W, (if 3 ≤ (scn (alk s a) zs.reverse 0 0).2 then Nx w0 w q B (rmv zs (scn (alk s a) zs.reverse 0 0).1 ++ [(false, hd, s, a)]) W else Nx w0 w q B (zs ++ [(false, hd, s, a)]) W) → Nx w0 w q B (psh zs hd s a) W) := fun W h => by
    unfold psh
    split
    · rename_i h1; rw [if_pos h1] at h; exact h
    · rename_i h1; rw [if_neg h1] at h; exact h
  generalize scn (alk s a) zs.reverse 0 0 = A at H1 HF hrg
  obtain ⟨f, m⟩ := A
  simp only [List.length_reverse] at H1 HF hrg
  -- what is left to do: the entry, and the pile's Push
  have HT : Hid (∀ W ys B' p v bs, Nx w0 w q B ys W → Lx w0 W q p v bs ys → (∀ g, some ⟨g, 0, none⟩ ∈ bs → g ∈ B') → (∀ k, k ∈ B' → k < W.heap.size) → (∀ k, k ∈ B' → k ∈ B ∨ w.heap.size ≤ k) → ys.length < 90000 →
      (∀ V, Kp [] W V → V.cell? ⟨q, 0, none⟩ = some (.pointer (some ⟨p, 0, none⟩))) ∧
      (∀ V, Kp [] W V → Calls Try.prog 39 #[.int .i64 hd, .string s, .slice ao n c] V fun e w' => ∃ g, e = .returned (.pointer (some ⟨g, 0, none⟩)) ∧ V.heap.size ≤ g ∧ Kp [] V w' ∧ Bx w' (some ⟨g, 0, none⟩) (false, hd, s, a)) ∧
      (∀ V g, Kp [] W V → W.heap.size ≤ g → Bx V (some ⟨g, 0, none⟩) (false, hd, s, a) → Calls Try.prog 35 #[.pointer (some ⟨p, 0, none⟩), .pointer (some ⟨g, 0, none⟩)] V fun e w' => e = .returned (.tuple #[]) ∧ Nx w0 w q B (ys ++ [(false, hd, s, a)]) w' ∧ w'.cell? ⟨q, 0, none⟩ = some (.pointer (some ⟨p, 0, none⟩)))) := fun W ys B' p v bs hN hx hB hB2 hB3 hy => by
    refine ⟨fun V k => (hx.kept k).cell, fun V k => entry_any V hd s a ao n c ((hr.ev hN.2).kept k) hn hf, fun V g k hg hb => (push_pile w0 W V q p B' v bs ys hx hB hB2 k g _ hb hg hy).mono ?_⟩
    rintro e w' ⟨rfl, r1, r2⟩
    refine ⟨rfl, ?_, r2⟩
    obtain ⟨⟨B2, g1, g2⟩, g3⟩ := r1
    refine ⟨⟨B2, g1, fun x hx => ?_⟩, hN.2.trans g3 hB3⟩
    rcases g2 x hx with h4 | h4
    · exact hB3 x h4
    · exact Or.inr (Nat.le_trans hN.2.size h4)
  by_cases h3 : 3 ≤ m
  · rw [show (∀ W, (if 3 ≤ m then Nx w0 w q B (rmv zs f ++ [(false, hd, s, a)]) W else Nx w0 w q B (zs ++ [(false, hd, s, a)]) W) → Nx w0 w q B (psh zs hd s a) W) ↔ (∀ W, Nx w0 w q B (rmv zs f ++ [(false, hd, s, a)]) W → Nx w0 w q B (psh zs hd s a) W) by simp only [if_pos h3]] at HF
    obtain ⟨b1, b2⟩ := hrg.2.2.2 (by omega)
    have HC : Hid (∀ W, Kp [] w W → ∃ p v, W.cell? ⟨q, 0, none⟩ = some (.pointer (some ⟨p, 0, none⟩)) ∧ Calls Try.prog 38 #[.pointer (some ⟨p, 0, none⟩), .int .i64 f] W fun e w' => ∃ b, e = .returned (.tuple #[.pointer b, .bool true]) ∧ Nx w0 w q B (rmv zs f) w' ∧ ∃ v' bs', Lx w0 w' q p v' bs' (rmv zs f) ∧ (∀ g, some ⟨g, 0, none⟩ ∈ bs' → g ∈ B) ∧ (∀ k, k ∈ B → k < w'.heap.size)) := fun W k => by
      obtain ⟨⟨p, v, bs, hx, hB⟩, hB2⟩ := hL.kept k
      refine ⟨p, v, hx.cell, (cut_pile w0 W q p B v bs zs f hx hB hB2 (by omega) (by omega) (by omega)).mono ?_⟩
      rintro e w' ⟨b, rfl, r1, r2, r3⟩
      refine ⟨b, by rw [decide_eq_true b1], Nx.ahead k (r1.cut_nx r2), ?_⟩
      obtain ⟨⟨p', v', bs', hx', hB'⟩, hB2'⟩ := r1
      have e1 := hx'.cell
      rw [r3] at e1
      simp only [Option.some.injEq, Value.pointer.injEq, Addr.mk.injEq, and_true] at e1
      subst e1
      exact ⟨v', bs', hx', hB', hB2'⟩
    have hrl := rmv_len zs f (by omega)
    have h3d : decide ((3 : Int) ≤ (m : Int)) = true := decide_eq_true (by omega)
    clear hrg hL hr
    go_enter Try.func12, Try.ntmps12
    go_wp2_with fail
    refine H1.mono ?_
    rintro e w1 ⟨rfl, k1⟩
    obtain ⟨p, v, hc, HC2⟩ := HC.out w1 k1
    clear H1 HC k1
    go_wp2_with fail
    refine HC2.mono ?_
    rintro e w2 ⟨b, rfl, hN, v', bs', hx, hB, hB2⟩
    clear HC2 hc
    obtain ⟨T1, T2, T3⟩ := HT.out w2 _ B p v' bs' hN hx hB hB2 (fun _ hx => Or.inl hx) (by omega)
    have CC : Hid _ := T1
    have HE : Hid _ := T2
    have HP : Hid _ := T3
    have hc := CC.out w2 (Kp.refl _ _)
    clear T1 T2 T3 HT hx hB hB2 hN
    go_wp2_with fail
    go_region_held3 (fun V => V.cell? ⟨q, 0, none⟩ = some (.pointer (some ⟨p, 0, none⟩)))
      (first | with_reducible exact c2 | with_reducible exact CC.out _ S1.out.1 | exact CC.out _ (Kp.refl [] w2).drew)
      (first
        | (have D1 := S1.out; go_at_call 35; refine (HP.out _ _ D1.1 D1.2.1 D1.2.2).mono ?_; rintro e v2 ⟨rfl, r1, c2⟩; have S2 : Hid (Nx w0 w q B (rmv zs f ++ [(false, hd, s, a)]) v2) := r1; clear r1)
        | (go_at_call 39; refine (HE.out _ (Kp.refl [] w2).drew).mono ?_; rintro e v1 ⟨g, rfl, hg, kk, hb⟩; have S1 : Hid (Kp [] w2 v1 ∧ w2.heap.size ≤ g ∧ Bx v1 (some ⟨g, 0, none⟩) (false, hd, s, a)) := ⟨kt (Kp.refl [] w2).drew kk, hg, hb⟩; clear kk hg hb))
    all_goals (have R := HF.out _ S2.out; clear S1 S2 CC HE HP c2)
    all_goals go_wp2
    all_goals go_end0
    all_goals exact ⟨rfl, R⟩
  · rw [show (∀ W, (if 3 ≤ m then Nx w0 w q B (rmv zs f ++ [(false, hd, s, a)]) W else Nx w0 w q B (zs ++ [(false, hd, s, a)]) W) → Nx w0 w q B (psh zs hd s a) W) ↔ (∀ W, Nx w0 w q B (zs ++ [(false, hd, s, a)]) W → Nx w0 w q B (psh zs hd s a) W) by simp only [if_neg h3]] at HF
    have h3d : decide ((3 : Int) ≤ (m : Int)) = false := decide_eq_false (by omega)
    have HL : Hid (∀ W, Kp [] w W → ∃ p v bs, Nx w0 w q B zs W ∧ Lx w0 W q p v bs zs ∧ (∀ g, some ⟨g, 0, none⟩ ∈ bs → g ∈ B) ∧ (∀ k, k ∈ B → k < W.heap.size)) := fun W k => by
      obtain ⟨⟨p, v, bs, hx, hB⟩, hB2⟩ := hL.kept k
      exact ⟨p, v, bs, hL.nx k, hx, hB, hB2⟩
    clear hrg hL hr
    go_enter Try.func12, Try.ntmps12
    go_wp2_with fail
    refine H1.mono ?_
    rintro e w2 ⟨rfl, k1⟩
    obtain ⟨p, v', bs', hN, hx, hB, hB2⟩ := HL.out w2 k1
    obtain ⟨T1, T2, T3⟩ := HT.out w2 _ B p v' bs' hN hx hB hB2 (fun _ hx => Or.inl hx) (by omega)
    have CC : Hid _ := T1
    have HE : Hid _ := T2
    have HP : Hid _ := T3
    have hc := CC.out w2 (Kp.refl _ _)
    clear T1 T2 T3 HT hx hB hB2 hN H1 k1 HL
    go_wp2_with fail
    go_region_held3 (fun V => V.cell? ⟨q, 0, none⟩ = some (.pointer (some ⟨p, 0, none⟩)))
      (first | with_reducible exact c2 | with_reducible exact CC.out _ S1.out.1 | exact CC.out _ (Kp.refl [] w2).drew)
      (first
        | (have D1 := S1.out; go_at_call 35; refine (HP.out _ _ D1.1 D1.2.1 D1.2.2).mono ?_; rintro e v2 ⟨rfl, r1, c2⟩; have S2 : Hid (Nx w0 w q B (zs ++ [(false, hd, s, a)]) v2) := r1; clear r1)
        | (go_at_call 39; refine (HE.out _ (Kp.refl [] w2).drew).mono ?_; rintro e v1 ⟨g, rfl, hg, kk, hb⟩; have S1 : Hid (Kp [] w2 v1 ∧ w2.heap.size ≤ g ∧ Bx v1 (some ⟨g, 0, none⟩) (false, hd, s, a)) := ⟨kt (Kp.refl [] w2).drew kk, hg, hb⟩; clear kk hg hb))
    all_goals (have R := HF.out _ S2.out; clear S1 S2 CC HE HP c2)
    all_goals go_wp2
    all_goals go_end0
    all_goals exact ⟨rfl, R⟩

/-- How long the list in block q is, read off the memory. -/
def lenOf (q : Nat) (w : World) : Nat :=
  match w.cell? ⟨q, 0, none⟩ with
  | some (.pointer (some a)) => (match w.cell? a with
    | some v => slen v
    | _ => 0)
  | _ => 0

theorem lenOf_is {w0 w : World} {q : Nat} {B : List Nat} {zs : List Ent} (h : Li w0 w q B zs) : lenOf q w = zs.length := by
  obtain ⟨⟨p, v, bs, h, _⟩, _⟩ := h
  obtain ⟨ao, c, hv, hc, _⟩ := h.px.out
  unfold lenOf
  rw [h.cell]
  simp only [hc]
  rw [← h.len]
  rfl

set_option maxHeartbeats 1000000 in
theorem clear_list (w0 w : World) (q : Nat) (B : List Nat) (zs : List Ent) (hL : Li w0 w q B zs) (hl : zs.length < 90000) :
    Calls Try.prog 11 #[.pointer (some ⟨q, 0, none⟩)] w fun e w' => e = .returned (.tuple #[]) ∧ Nx w0 w q B (clr zs) w' := by
  obtain ⟨A, hA⟩ : ∃ A, clr zs = A := ⟨_, rfl⟩
  rw [hA]
  have hw9 : w.heap.size ≤ w.heap.size := Nat.le_refl _
  go_enter Try.func11, Try.ntmps11
  go_wp2
  go_loopw [] (fun wr => ∃ ys, ys.length < 90000 ∧ Li w0 wr q B ys ∧ Ev w0 [] w wr ∧ clr ys = A) (fun wr => lenOf q wr)
  case atStart => exact ⟨zs, hl, hL, Ev.refl _ _ _, hA⟩
  case round =>
    obtain ⟨ys, hy, hr, er, hp⟩ := hrel
    have HM : Hid (lenOf q wr = ys.length) := lenOf_is hr
    clear hA hL hl
    obtain ⟨⟨pp, v, bs, hx, hB⟩, hB2⟩ := hr
    have hc := hx.cell
    rcases snoc_or ys with rfl | ⟨r, x, rfl⟩
    · have e0 : bs = [] := List.eq_nil_of_length_eq_zero (by rw [hx.len]; rfl)
      have HT := pop_out wr pp v (by rw [← e0]; exact hx.px)
      have HF : Hid (Nx w0 w q B A wr) := by
        rw [clr_nil] at hp
        subst hp
        exact Li.cut_nx ⟨⟨pp, v, bs, hx, hB⟩, hB2⟩ er
      clear hx e0 hp HM
      go_wp2_with (first | (go_at_call 36; refine (HT).mono ?_; rintro e w9 ⟨rfl, hw⟩; have hw2 := hw.symm; clear hw; subst hw2))
      (try simp only [Exit.inBlock, Exit.then]); refine bodyPost_ret (results_none rfl _ _ _) rfl ?_
      exact ⟨rfl, HF.out⟩
    · have hlen := hx.len
      simp only [List.length_append, List.length_cons, List.length_nil] at hlen hy
      obtain ⟨b, hb1, hb2⟩ := hx.get r.length (by simp)
      rw [List.getElem_append_right (Nat.le_refl _)] at hb2
      simp only [Nat.sub_self, List.getElem_singleton] at hb2
      have HT := pop_in wr pp v bs hx.px (by omega) b (by rw [show bs.length - 1 = r.length by omega]; exact hb1)
      have HP : Hid (∀ w2, TX wr w2 pp v (bs.take (bs.length - 1)) → Li w0 w2 q B r ∧ Ev w0 [] w w2 ∧ Bx w2 b x) := fun w2 t => by
        obtain ⟨r1, r2⟩ := hx.cut hB hB2 r.length (by simp) (by rw [show bs.drop (r.length + 1) = [] from List.drop_eq_nil_of_le (by omega), List.append_nil, show r.length = bs.length - 1 by omega]; exact t)
        rw [List.take_left' rfl, List.drop_eq_nil_of_le (by simp), List.append_nil] at r1
        exact ⟨r1, er.trans r2 (fun x hx => by simp at hx), hb2.ev r2 (fun _ _ => by simp)⟩
      rw [clr_snoc] at hp
      clear hx hb1 hb2 hlen hB hB2 er
      go_wp2_with fail
      refine HT.mono ?_
      rintro e w2 ⟨rfl, t⟩
      obtain ⟨r1, r2, hb⟩ := HP.out w2 t
      obtain ⟨g, ao, n, c, rfl, c0, _⟩ := hb.out
      have HQ : Hid (Li w0 w2 q B r ∧ Ev w0 [] w w2) := ⟨r1, r2⟩
      clear HT HP t r1 r2 hb
      obtain ⟨mk, hh, nm, l⟩ := x
      simp only at c0 hp
      cases mk
      · simp only [Bool.false_eq_true, if_false] at hp
        go_wp2
        go_roundw
        case rel => exact ⟨r, by omega, HQ.out.1, HQ.out.2, hp⟩
        case measure =>
          rw [HM.out, lenOf_is HQ.out.1]
          simp
      · simp only [if_true] at hp
        subst hp
        go_wp2
        (try simp only [Exit.inBlock, Exit.then]); refine bodyPost_ret (results_none rfl _ _ _) rfl ?_
        exact ⟨rfl, Li.cut_nx HQ.out.1 HQ.out.2⟩

end Go.Proofs.Ytadcpkdnpfmphaa.Ints
