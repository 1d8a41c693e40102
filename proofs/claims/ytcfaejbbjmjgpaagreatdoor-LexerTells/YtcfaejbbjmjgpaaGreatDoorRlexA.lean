/-
  The document's lexer: its block; New, Set, ends and marks.
-/
import Derived.Test.YtcfaejbbjmjgpaaGreatDoorLexE
import Derived.Test.YtcfaejbbjmjgpaaGreatDoorGroundI
import Derived.Test.YtcfaejbbjmjgpaaGreatDoorMarkC
namespace Go.Proofs.YtcfaejbbjmjgpaaGreatDoor
open Go.RowKit Utf
set_option linter.unusedVariables false

/-- The document's lexer that lies in block b. -/
def Ly (w : World) (b : Nat) (s : ByteArray) (p : Nat) (md : Int) (fg : Bool) (last : ByteArray) : Prop := At w b #[.string s, .int .i64 (p : Int), .int .i64 md, .string last, .bool fg] 40

theorem Ly.kept {w w' : World} {b : Nat} {s : ByteArray} {p : Nat} {md : Int} {fg : Bool} {last : ByteArray} {S : List Nat} (h : Ly w b s p md fg last) (k : Kp S w w') (hb : b ∉ S) : Ly w' b s p md fg last := At.kept h k hb
theorem Ly.lt {w : World} {b : Nat} {s : ByteArray} {p : Nat} {md : Int} {fg : Bool} {last : ByteArray} (h : Ly w b s p md fg last) : b < w.heap.size := At.lt h
theorem Ly.new (w : World) (s : ByteArray) (p : Nat) (md : Int) (fg : Bool) (last : ByteArray) : Ly (w.alloc (.cells #[.string s, .int .i64 (p : Int), .int .i64 md, .string last, .bool fg] 40)) w.heap.size s p md fg last := At.new _ _ _
theorem Ly.setAt {w : World} {b : Nat} {s : ByteArray} {p : Nat} {md : Int} {fg : Bool} {last : ByteArray} (h : Ly w b s p md fg last) (q : Nat) : Ly (w.setCell ⟨b, 1, none⟩ (.int .i64 (q : Int))) b s q md fg last := At.set h 1 _
theorem Ly.setMode {w : World} {b : Nat} {s : ByteArray} {p : Nat} {md : Int} {fg : Bool} {last : ByteArray} (h : Ly w b s p md fg last) (m : Int) : Ly (w.setCell ⟨b, 2, none⟩ (.int .i64 m)) b s p m fg last := At.set h 2 _
theorem Ly.setForeign {w : World} {b : Nat} {s : ByteArray} {p : Nat} {md : Int} {fg : Bool} {last : ByteArray} (h : Ly w b s p md fg last) (f : Bool) : Ly (w.setCell ⟨b, 4, none⟩ (.bool f)) b s p md f last := At.set h 4 _
theorem Ly.setLast {w : World} {b : Nat} {s : ByteArray} {p : Nat} {md : Int} {fg : Bool} {last : ByteArray} (h : Ly w b s p md fg last) (x : ByteArray) : Ly (w.setCell ⟨b, 3, none⟩ (.string x)) b s p md fg x := At.set h 3 _
/-- What is read and written there. -/
theorem Ly.facts {w : World} {b : Nat} {s : ByteArray} {p : Nat} {md : Int} {fg : Bool} {last : ByteArray} (h : Ly w b s p md fg last) :
    (w.cell? ⟨b, 0, none⟩ = some (.string s) ∧ w.cell? ⟨b, 1, none⟩ = some (.int .i64 (p : Int)) ∧ w.cell? ⟨b, 2, none⟩ = some (.int .i64 md) ∧ w.cell? ⟨b, 3, none⟩ = some (.string last) ∧ w.cell? ⟨b, 4, none⟩ = some (.bool fg)) ∧ ∀ j, w.frozen? ⟨b, j, none⟩ = false :=
  ⟨⟨At.cell h 0, At.cell h 1, At.cell h 2, At.cell h 3, At.cell h 4⟩, fun j => At.free h j⟩
theorem Ly.place {w : World} {b : Nat} {s : ByteArray} {p : Nat} {md : Int} {fg : Bool} {last : ByteArray} (h : Ly w b s p md fg last) : placeOf b w = p := by
  obtain ⟨⟨c0, c1, c2, c3, c4⟩, hf⟩ := h.facts
  unfold placeOf
  rw [c1]
  simp [intOf]

theorem rnew_any (w : World) (s : ByteArray) : Calls Tryz.prog 11 #[.string s] w fun e w' => e = .returned (.pointer (some ⟨w.heap.size, 0, none⟩)) ∧ w' = w.alloc (.cells #[.string s, .int .i64 ((0 : Nat) : Int), .int .i64 1, .string ⟨#[]⟩, .bool false] 40) := by
  go_enter Tryz.func11, Tryz.ntmps11
  go_wp2
  go_ret
  exact ⟨rfl, rfl⟩

theorem rset_any (w : World) (b : Nat) (s : ByteArray) (p : Nat) (md : Int) (fg : Bool) (last : ByteArray) (h : Ly w b s p md fg last) (m : Int) : Calls Tryz.prog 13 #[.pointer (some ⟨b, 0, none⟩), .int .i64 m] w fun e w' => e = .returned (.tuple #[]) ∧ Kp [b] w w' ∧ Ly w' b s p (modeF m) fg last := by
  obtain ⟨⟨c0, c1, c2, c3, c4⟩, hf⟩ := h.facts
  have L1 := h.setMode m
  have k1 : Kp [b] w (w.setCell ⟨b, 2, none⟩ (.int .i64 m)) := (Kp.refl _ _).setCell (Or.inl (by simp)) _
  obtain ⟨⟨d0, d1, d2, d3, d4⟩, df⟩ := L1.facts
  by_cases h1 : m < 1
  · have e1 : modeF m = 1 := by unfold modeF; rw [if_neg (by omega)]
    rw [e1]
    have L2 := L1.setMode 1
    have k2 := k1.setCell (p := ⟨b, 2, none⟩) (Or.inl (by simp)) (.int .i64 1)
    have b1 : decide (m < 1) = true := decide_eq_true h1
    clear h L1 k1
    go_enter Tryz.func13, Tryz.ntmps13
    go_wp2
    go_end0
    exact ⟨rfl, k2, L2⟩
  by_cases h4 : 4 < m
  · have e1 : modeF m = 1 := by unfold modeF; rw [if_neg (by omega)]
    rw [e1]
    have L2 := L1.setMode 1
    have k2 := k1.setCell (p := ⟨b, 2, none⟩) (Or.inl (by simp)) (.int .i64 1)
    have b1 : decide (m < 1) = false := decide_eq_false h1
    have b2 : decide (4 < m) = true := decide_eq_true h4
    clear h L1 k1
    go_enter Tryz.func13, Tryz.ntmps13
    go_wp2
    go_end0
    exact ⟨rfl, k2, L2⟩
  rw [modeF_id ⟨by omega, by omega⟩]
  have b1 : decide (m < 1) = false := decide_eq_false h1
  have b2 : decide (4 < m) = false := decide_eq_false h4
  clear h
  go_enter Tryz.func13, Tryz.ntmps13
  go_wp2
  go_end0
  exact ⟨rfl, k1, L1⟩

/-- The document's tag.Read and mark.Read say whether something begins there. -/
theorem bgs_parts (s : ByteArray) (p : Nat) (hp : p < s.size) : ∃ (T : Tok) (r : Nat) (ok : Bool), tagF s (p : Int) = (T, (r : Int), ok) ∧ (ok || ((r : Int) != (p : Int))) = decide (¬ (begF s (p : Int)).1 = 0) := by
  by_cases h : (begF s (p : Int)).1 = 0
  · refine ⟨zt, p, false, by unfold tagF; rw [if_pos h], ?_⟩
    rw [h]
    simp
  · rw [decide_eq_true h]
    rcases tag_facts h with g | ⟨e, g1, _⟩
    · exact ⟨_, _, _, g, by simp; omega⟩
    · exact ⟨(tagF s (p : Int)).1, e, true, Prod.ext rfl g1, by simp⟩

set_option maxHeartbeats 1000000 in
set_option maxRecDepth 100000 in
theorem marks_any (w : World) (b : Nat) (s : ByteArray) (q : Nat) (md : Int) (fg : Bool) (last : ByteArray) (h : Ly w b s q md fg last) (p : Nat) (hp : p < s.size) (hs : s.size ≤ 4000) :
    Calls Tryz.prog 29 #[.pointer (some ⟨b, 0, none⟩), .int .i64 (p : Int)] w fun e w' => e = .returned (.bool (bgs s p)) ∧ Kp [] w w' := by
  obtain ⟨⟨c0, c1, c2, c3, c4⟩, hf⟩ := h.facts
  obtain ⟨⟨tk, tx', tl, tb, ty⟩, r, ok, e1, e2⟩ := bgs_parts s p hp
  have H1 := ref_tread_any w s (p : Int) hs
  rw [e1] at H1
  have H2 := fun W => mk_ref_read_any W s (p : Int) fg (by omega)
  have e3 : ∃ (R : Mt) (r : Int), mkF s (p : Int) fg = (R, r, begM s p) := by
    cases hx : begM s p with
    | true => exact ⟨_, _, mk_yes hx fg⟩
    | false => exact ⟨_, _, mk_no hx fg⟩
  obtain ⟨⟨rk, rx, ry⟩, r2, e3⟩ := e3
  rw [e3] at H2
  unfold bgs
  rw [← e2]
  unfold rdv tv at H1
  unfold rv mv at H2
  simp only [] at H1 H2
  generalize begM s p = B at H2 ⊢
  clear e1 e2 e3
  go_enter Tryz.func29, Tryz.ntmps29
  go_wp2_with fail
  refine H1.mono ?_
  rintro e w1 ⟨ao, n1, c, rfl, M1⟩
  clear H1
  have k1 := M1.kp.alloc (.cells #[.int .i64 tk, .string tx', .slice ao n1 c, .bool tb, .string ty] 44)
  have LU := h.kept k1 (by simp)
  clear M1 h c0 c1 c2 c3 c4 hf
  obtain ⟨⟨c0, c1, c2, c3, c4⟩, hf⟩ := LU.facts
  go_wp2_with fail
  clear c0 c1 c2 c3 c4 hf
  generalize w1.alloc (.cells #[.int .i64 tk, .string tx', .slice ao n1 c, .bool tb, .string ty] 44) = U at k1 LU ⊢
  have CC : Hid (∀ W, Kp [] U W → W.cell? ⟨b, 0, none⟩ = some (.string s) ∧ W.cell? ⟨b, 4, none⟩ = some (.bool fg)) := fun W kW => by
    obtain ⟨⟨d0, _, _, _, d4⟩, _⟩ := (LU.kept kW (by simp)).facts
    exact ⟨d0, d4⟩
  have hltb := LU.lt
  have C5 : Hid (∀ (W : World) (u0 u1 u2 u3 u4 : Value), Kp [] U W → (((((W.setCell ⟨U.heap.size, 0, none⟩ u0).setCell ⟨U.heap.size, 1, none⟩ u1).setCell ⟨U.heap.size, 2, none⟩ u2).setCell ⟨U.heap.size, 3, none⟩ u3).setCell ⟨U.heap.size, 4, none⟩ u4).cell? ⟨b, 0, none⟩ = some (.string s) ∧ (((((W.setCell ⟨U.heap.size, 0, none⟩ u0).setCell ⟨U.heap.size, 1, none⟩ u1).setCell ⟨U.heap.size, 2, none⟩ u2).setCell ⟨U.heap.size, 3, none⟩ u3).setCell ⟨U.heap.size, 4, none⟩ u4).cell? ⟨b, 4, none⟩ = some (.bool fg)) := fun W u0 u1 u2 u3 u4 kW => by
    have L5 : Ly (put5 W U.heap.size u0 u1 u2 u3 u4) b s q md fg last := past5 (LU.kept kW (by simp)) (by omega) _ _ _ _ _
    obtain ⟨⟨d0, _, _, _, d4⟩, _⟩ := L5.facts
    exact ⟨d0, d4⟩
  have K3 : Hid (∀ o, Kp [] U (U.alloc o).drew) := fun o => ((Kp.refl [] U).alloc o).drew
  have FA : Hid (∀ v, Kp [] U.drew v → Kp [] w (v.alloc (.cells #[.int .i64 rk, .string rx, .slice none 0 0, .bool false, .string ry] 44))) := fun v M => (k1.trans ((Kp.refl [] U).drew.trans M (fun z hz => by simp at hz)) (fun z hz => by simp at hz)).alloc _
  have FB : Hid (∀ v, Kp [] (U.alloc (.cells ZT 44)).drew v → Kp [] w (put5 v U.heap.size (.int .i64 rk) (.string rx) (.slice none 0 0) (.bool false) (.string ry))) := fun v M => (k1.trans (((Kp.refl [] U).alloc (.cells ZT 44)).drew.trans M (fun z hz => by simp at hz)) (fun z hz => by simp at hz)).put5 (Or.inr k1.size) _ _ _ _ _
  obtain ⟨⟨d0, d1, d2, d3, d4⟩, df⟩ := LU.facts
  go_region_held3 (fun w' => w'.cell? ⟨b, 0, none⟩ = some (.string s) ∧ w'.cell? ⟨b, 4, none⟩ = some (.bool fg))
    (first | with_reducible exact CC.out _ S1.out | with_reducible exact CC.out _ (S1.out.alloc _) | with_reducible exact C5.out _ _ _ _ _ _ S1.out | with_reducible exact CC.out _ (Kp.refl [] U).drew | exact CC.out _ (K3.out _))
    (first
      | (go_at_call 31; refine (H2 _).mono ?_; rintro e v2 ⟨rfl, N2⟩; have S1 : Hid (Kp [] U v2) := (Kp.refl [] U).drew.trans N2 (fun z hz => by simp at hz); have PZ : Hid _ := FA.out _ N2; clear N2)
      | (go_at_call 31; refine (H2 _).mono ?_; rintro e v2 ⟨rfl, N2⟩; have S1 : Hid (Kp [] U v2) := (K3.out _).trans N2 (fun z hz => by simp at hz); have PZ : Hid _ := FB.out _ N2; obtain ⟨⟨x0, x1, x2, x3, x4⟩, xf⟩ := fresh_b (Mp.none N2); clear N2))
  all_goals
    have P := PZ.out
    try unfold put5 at P
    try clear x0 x1 x2 x3 x4 xf
    clear PZ S1 FA FB CC C5 K3 H2 d0 d1 d2 d3 d4 df LU
    cases ok with
    | true =>
      go_wp2
      go_ret
      exact ⟨by simp, P⟩
    | false =>
      by_cases hr : (r : Int) = (p : Int)
      · have b1 : ((r : Int) != (p : Int)) = false := by simp [hr]
        have b3 : ((r : Int) == (p : Int)) = true := by simp [hr]
        clear hr
        cases B
        all_goals
          go_wp2
          go_ret
          exact ⟨by rw [b1]; rfl, P⟩
      · have b1 : ((r : Int) != (p : Int)) = true := by simpa using hr
        have b3 : ((r : Int) == (p : Int)) = false := by simpa using hr
        clear hr
        go_wp2
        go_ret
        exact ⟨by rw [b1]; rfl, P⟩

end Go.Proofs.YtcfaejbbjmjgpaaGreatDoor
