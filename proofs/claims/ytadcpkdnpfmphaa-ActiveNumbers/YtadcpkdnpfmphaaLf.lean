/-
  Remove, Replace and Put of the program.
-/
import Derived.Test.YtadcpkdnpfmphaaLe
namespace Go.Proofs.Ytadcpkdnpfmphaa.Ints
open Go.RowKit
set_option linter.unusedSimpArgs false

set_option maxHeartbeats 1000000 in
theorem remove_list (w0 w : World) (q : Nat) (B : List Nat) (zs : List Ent) (h : Int) (hL : Li w0 w q B zs) (hl : zs.length < 90000) :
    Calls Try.prog 29 #[.pointer (some ⟨q, 0, none⟩), .int .i64 h] w fun e w' => e = .returned (.bool (decide (0 ≤ plc2 h zs))) ∧ Nx w0 w q B (rmv zs (plc2 h zs)) w' := by
  have hr := plc2_range h zs
  have hP : Hid (∀ W, Kp [] w W → Calls Try.prog 49 #[.pointer (some ⟨q, 0, none⟩), .int .i64 h] W fun e w' => e = .returned (.int .i64 (plc2 h zs)) ∧ Kp [] W w') := fun W k => place_list w0 W q B zs h (hL.kept k) (by omega)
  obtain ⟨⟨p, v, bs, hx, hB⟩, hB2⟩ := hL
  obtain ⟨K, hK⟩ : ∃ K, plc2 h zs = K := ⟨_, rfl⟩
  rw [hK] at hP hr ⊢
  have hC : Hid (∀ W, Kp [] w W → Calls Try.prog 38 #[.pointer (some ⟨p, 0, none⟩), .int .i64 K] W fun e w' => ∃ b, e = .returned (.tuple #[.pointer b, .bool (decide (0 ≤ K))]) ∧ Nx w0 w q B (rmv zs K) w' ∧ w'.cell? ⟨q, 0, none⟩ = some (.pointer (some ⟨p, 0, none⟩))) := fun W k =>
    (cut_pile w0 W q p B v bs zs K (hx.kept k) hB (fun x hx => Nat.lt_of_lt_of_le (hB2 x hx) k.size) hr.1 hr.2 hl).mono (fun e w' ⟨b, e1, e2, e3, e4⟩ => ⟨b, e1, Nx.ahead k (e2.cut_nx e3), e4⟩)
  have CC : Hid (∀ W, Kp [] w W → W.cell? ⟨q, 0, none⟩ = some (.pointer (some ⟨p, 0, none⟩))) := fun W k => (hx.kept k).cell
  generalize hB : decide (0 ≤ K) = D at hC ⊢
  clear hx hr hK hB
  have hc := CC.out w (Kp.refl _ _)
  go_enter Try.func29, Try.ntmps29
  go_wp2_with fail
  go_region_held3 (fun V => V.cell? ⟨q, 0, none⟩ = some (.pointer (some ⟨p, 0, none⟩)))
    (first | with_reducible exact c2 | with_reducible exact CC.out _ S1.out | exact CC.out _ (Kp.refl [] w).drew)
    (first
      | (have D1 := S1.out; go_at_call 38; refine (hC.out _ D1).mono ?_; rintro e v2 ⟨b, rfl, r1, c2⟩; have S2 : Hid (Nx w0 w q B (rmv zs K) v2) := r1; clear r1)
      | (go_at_call 49; refine (hP.out _ (Kp.refl [] w).drew).mono ?_; rintro e v1 ⟨rfl, kk⟩; have S1 : Hid (Kp [] w v1) := (Kp.refl [] w).drew.trans kk (fun x hx => by simp at hx); clear kk))
  all_goals (have R := S2.out; clear S1 S2 CC hC hP c2)
  all_goals go_wp2
  all_goals go_ret
  all_goals exact ⟨rfl, R⟩

theorem rpl_no (zs : List Ent) (K h : Int) (hk : ¬ 0 ≤ K) : rpl zs K h = zs := by unfold rpl; rw [if_neg hk]

set_option maxHeartbeats 1000000 in
theorem replace_list (w0 w : World) (q : Nat) (B : List Nat) (zs : List Ent) (h u : Int) (hL : Li w0 w q B zs) (hl : zs.length < 90000) :
    Calls Try.prog 30 #[.pointer (some ⟨q, 0, none⟩), .int .i64 h, .int .i64 u] w fun e w' => e = .returned (.bool (decide (0 ≤ plc2 h zs))) ∧ Nx w0 w q B (rpl zs (plc2 h zs) u) w' := by
  have hr := plc2_range h zs
  have hP : Hid (∀ W, Kp [] w W → Calls Try.prog 49 #[.pointer (some ⟨q, 0, none⟩), .int .i64 h] W fun e w' => e = .returned (.int .i64 (plc2 h zs)) ∧ Kp [] W w') := fun W k => place_list w0 W q B zs h (hL.kept k) (by omega)
  have hN : Hid (∀ W, Kp [] w W → Nx w0 w q B zs W) := fun W k => hL.nx k
  obtain ⟨⟨p, v, bs, hx, hB⟩, hB2⟩ := hL
  obtain ⟨K, hK⟩ : ∃ K, plc2 h zs = K := ⟨_, rfl⟩
  rw [hK] at hP hr ⊢
  have CC : Hid (∀ W, Kp [] w W → W.cell? ⟨q, 0, none⟩ = some (.pointer (some ⟨p, 0, none⟩))) := fun W k => (hx.kept k).cell
  have hlen := hx.len
  have hc := CC.out w (Kp.refl _ _)
  by_cases h0 : 0 ≤ K
  · have hk : K.toNat < zs.length := by omega
    obtain ⟨g, hg⟩ : ∃ g, bs[K.toNat]? = some (some ⟨g, 0, none⟩) := by
      obtain ⟨b, b1, b2⟩ := hx.get K.toNat hk
      obtain ⟨g, r, rfl, _⟩ := b2
      exact ⟨g, b1⟩
    have hC : Hid (∀ W, Kp [] w W → Calls Try.prog 44 #[.pointer (some ⟨p, 0, none⟩), .int .i64 K] W fun e w' => e = .returned (.tuple #[.pointer (some ⟨g, 0, none⟩), .bool true]) ∧ w' = W) := fun W k =>
      at_in W p v bs K (hx.kept k).px h0 (by omega) _ hg
    have HF : Hid (∀ W, Kp [] w W → W.cell? ⟨g, 1, none⟩ = some (.int .i64 (zs[K.toNat]).2.1) ∧ W.frozen? ⟨g, 1, none⟩ = false ∧ Nx w0 w q B (rpl zs K u) (W.setCell ⟨g, 1, none⟩ (.int .i64 u))) := fun W k => by
      obtain ⟨r1, r2⟩ := (hx.kept k).wrote hB (fun x hx => Nat.lt_of_lt_of_le (hB2 x hx) k.size) K.toNat hk g hg u
      obtain ⟨b, b1, b2⟩ := (hx.kept k).get K.toNat hk
      rw [hg] at b1
      simp only [Option.some.injEq] at b1
      subst b1
      obtain ⟨g', _, _, _, e1, _, e2, _, _, e3, _⟩ := b2.out
      simp only [Option.some.injEq, Addr.mk.injEq, and_true] at e1
      subst e1
      refine ⟨e2, e3, Nx.ahead k ⟨⟨B, ?_, fun _ hx => Or.inl hx⟩, r2⟩⟩
      unfold rpl
      rw [if_pos h0]
      exact r1
    rw [decide_eq_true h0]
    clear hx hr hK hB hB2 hg hN
    generalize (zs[K.toNat]).2.1 = ov at HF
    go_enter Try.func30, Try.ntmps30
    go_wp2_with fail
    go_region_held3 (fun V => V.cell? ⟨q, 0, none⟩ = some (.pointer (some ⟨p, 0, none⟩)))
      (first | with_reducible exact CC.out _ S1.out | exact CC.out _ (Kp.refl [] w).drew)
      (first
        | (have D1 := S1.out; go_at_call 44; refine (hC.out _ D1).mono ?_; rintro e v2 ⟨rfl, hv⟩; have hv2 := hv.symm; clear hv; subst hv2)
        | (go_at_call 49; refine (hP.out _ (Kp.refl [] w).drew).mono ?_; rintro e v1 ⟨rfl, kk⟩; have S1 : Hid (Kp [] w v1) := (Kp.refl [] w).drew.trans kk (fun x hx => by simp at hx); clear kk))
    all_goals (obtain ⟨d1, d2, R⟩ := HF.out _ S1.out; have R2 : Hid _ := R; clear S1 CC hC hP HF R)
    all_goals go_wp2
    all_goals go_ret
    all_goals exact ⟨rfl, R2.out⟩
  · have hC : Hid (∀ W, Kp [] w W → Calls Try.prog 44 #[.pointer (some ⟨p, 0, none⟩), .int .i64 K] W fun e w' => e = .returned (.tuple #[.pointer none, .bool false]) ∧ w' = W) := fun W k =>
      at_out W p v bs K (hx.kept k).px (by omega)
    rw [decide_eq_false h0, rpl_no zs K u h0]
    clear hx hr hK hB hB2
    go_enter Try.func30, Try.ntmps30
    go_wp2_with fail
    go_region_held3 (fun V => V.cell? ⟨q, 0, none⟩ = some (.pointer (some ⟨p, 0, none⟩)))
      (first | with_reducible exact CC.out _ S1.out | exact CC.out _ (Kp.refl [] w).drew)
      (first
        | (have D1 := S1.out; go_at_call 44; refine (hC.out _ D1).mono ?_; rintro e v2 ⟨rfl, hv⟩; have hv2 := hv.symm; clear hv; subst hv2)
        | (go_at_call 49; refine (hP.out _ (Kp.refl [] w).drew).mono ?_; rintro e v1 ⟨rfl, kk⟩; have S1 : Hid (Kp [] w v1) := (Kp.refl [] w).drew.trans kk (fun x hx => by simp at hx); clear kk))
    all_goals (have R := hN.out _ S1.out; clear S1 CC hC hP hN)
    all_goals go_wp2
    all_goals go_ret
    all_goals exact ⟨rfl, R⟩

set_option maxHeartbeats 1000000 in
theorem put_list (w0 w : World) (q : Nat) (B : List Nat) (zs : List Ent) (i hd : Int) (s : ByteArray) (a : List Att) (ao : Option Addr) (n c : Nat) (hL : Li w0 w q B zs) (hr : Rz w ao n c a) (hn : n ≤ 6) (hf : fits a) (hl : zs.length < 80000) :
    Calls Try.prog 31 #[.pointer (some ⟨q, 0, none⟩), .int .i64 i, .int .i64 hd, .string s, .slice ao n c] w fun e w' => e = .returned (.tuple #[]) ∧ Nx w0 w q B (ins zs i (false, hd, s, a)) w' := by
  have hLn : Hid (∀ W, Kp [] w W → Calls Try.prog 15 #[.pointer (some ⟨q, 0, none⟩)] W fun e w' => e = .returned (.int .i64 zs.length) ∧ w' = W) := fun W k => len_list w0 W q B zs (hL.kept k)
  have hE : Hid (∀ V, Kp [] w V → Calls Try.prog 39 #[.int .i64 hd, .string s, .slice ao n c] V fun e w' => ∃ g, e = .returned (.pointer (some ⟨g, 0, none⟩)) ∧ V.heap.size ≤ g ∧ Kp [] V w' ∧ Bx w' (some ⟨g, 0, none⟩) (false, hd, s, a)) := fun V k => entry_any V hd s a ao n c (hr.kept k) hn hf
  obtain ⟨⟨p, v, bs, hx, hB⟩, hB2⟩ := hL
  have CC : Hid (∀ W, Kp [] w W → W.cell? ⟨q, 0, none⟩ = some (.pointer (some ⟨p, 0, none⟩))) := fun W k => (hx.kept k).cell
  have hlen := hx.len
  have hc := CC.out w (Kp.refl _ _)
  have hw0 : w0.heap.size ≤ w.heap.size := by
    have := (Array.getElem?_eq_some_iff.1 hx.px.1).1
    have := hx.new1
    omega
  have hM : (min (max i 0) (zs.length : Int)) = ((clp zs.length i : Nat) : Int) := by unfold clp; omega
  have hcl := clp_le zs.length i
  have hP : Hid (∀ W g, Kp [] w W → w.heap.size ≤ g → Bx W (some ⟨g, 0, none⟩) (false, hd, s, a) → Calls Try.prog 50 #[.pointer (some ⟨p, 0, none⟩), .int .i64 (min (max i 0) (zs.length : Int)), .pointer (some ⟨g, 0, none⟩)] W fun e w' => e = .returned (.bool true) ∧ Nx w0 w q B (ins zs i (false, hd, s, a)) w' ∧ w'.cell? ⟨q, 0, none⟩ = some (.pointer (some ⟨p, 0, none⟩))) := fun W g k hg hb => by
    rw [hM]
    have h2 := hx.kept k
    refine (put_in W p v bs _ (some ⟨g, 0, none⟩) h2.px (by omega) (by omega) (by omega)).mono ?_
    rintro e w' ⟨rfl, t⟩
    obtain ⟨r1, r2⟩ := h2.put hB (fun x hx => Nat.lt_of_lt_of_le (hB2 x hx) k.size) (clp zs.length i) hcl g _ hb (by omega) (fun hm => by have := hB2 g (hB g hm); omega) t
    refine ⟨rfl, ⟨⟨B ++ [g], r1, fun y hy => ?_⟩, Ev.ahead k r2.wide⟩, cell_of (r2.cells _ _ _ h2.head not_pil_list (fun e => absurd e list_item)) 0⟩
    rcases List.mem_append.1 hy with h4 | h4
    · exact Or.inl h4
    · simp at h4; subst h4; exact Or.inr hg
  clear hx hB hB2 hr hw0 hM hcl
  go_enter Try.func31, Try.ntmps31
  go_wp2_with fail
  go_region_held3 (fun V => V.cell? ⟨q, 0, none⟩ = some (.pointer (some ⟨p, 0, none⟩)))
    (first | with_reducible exact c2 | with_reducible exact CC.out _ S1.out.1 | exact CC.out _ (Kp.refl [] w).drew)
    (first
      | (have D1 := S1.out; go_at_call 50; refine (hP.out _ _ D1.1 D1.2.1 D1.2.2).mono ?_; rintro e v2 ⟨rfl, r1, c2⟩; have S2 : Hid (Nx w0 w q B (ins zs i (false, hd, s, a)) v2) := r1; clear r1)
      | (go_at_call 39; refine (hE.out _ (Kp.refl [] w).drew).mono ?_; rintro e v1 ⟨g, rfl, hg, kk, hb⟩; have S1 : Hid (Kp [] w v1 ∧ w.heap.size ≤ g ∧ Bx v1 (some ⟨g, 0, none⟩) (false, hd, s, a)) := ⟨kt (Kp.refl [] w).drew kk, hg, hb⟩; clear kk hg hb)
      | (go_at_call 15; refine (hLn.out _ (Kp.refl [] w).drew).mono ?_; rintro e v0 ⟨rfl, hv⟩; have hv2 := hv.symm; clear hv; subst hv2))
  all_goals (have R := S2.out; clear S1 S2 CC hE hP hLn c2)
  all_goals go_wp2
  all_goals go_end0
  all_goals exact ⟨rfl, R⟩

end Go.Proofs.Ytadcpkdnpfmphaa.Ints
