/-
  The document's lexer: tag.
-/
import Derived.Test.YtcfaejbbjmjgpaaGreatDoorRlexB
import Derived.Test.YtcfaejbbjmjgpaaGreatDoorLexF
namespace Go.Proofs.YtcfaejbbjmjgpaaGreatDoor
open Go.RowKit Utf
set_option linter.unusedVariables false


/-- What a call of the document's lexer leaves. -/
structure Nyt (w w' : World) (b : Nat) (ao : Option Addr) (n c : Nat) (l : List Att) (s : ByteArray) (p : Nat) (md : Int) (fg : Bool) (last : ByteArray) : Prop where
  kp : Kp [b] w w'
  ly : Ly w' b s p md fg last
  own : OwnK 2 w' 73 (.slice ao n c) n (cs l)
  nw : ∀ z, z ∈ blk (.slice ao n c) → w.heap.size ≤ z

theorem nyt_none {w w' : World} {b : Nat} {s : ByteArray} {p : Nat} {md : Int} {fg : Bool} {last : ByteArray} (k : Kp [b] w w') (L : Ly w' b s p md fg last) : Nyt w w' b none 0 0 [] s p md fg last := ⟨k, L, own_none _, fun z hz => by simp [blk] at hz⟩

/-- The lexer, the result's block, the token's block, and its attributes. -/
structure Ty (w V : World) (b g0 g : Nat) (s : ByteArray) (p : Nat) (md : Int) (fg : Bool) (last : ByteArray) (k : Int) (x : ByteArray) (ao : Option Addr) (n c : Nat) (bl : Bool) (y : ByteArray) (l : List Att) : Prop where
  kp : Kp [b] w V
  ly : Ly V b s p md fg last
  r : At V g0 ZT 44
  t : At V g #[.int .i64 k, .string x, .slice ao n c, .bool bl, .string y] 44
  own : OwnK 2 V 73 (.slice ao n c) n (cs l)
  nw : ∀ z, z ∈ blk (.slice ao n c) → w.heap.size ≤ z
  n0 : w.heap.size ≤ g0
  ng : w.heap.size ≤ g
  ne : g0 ≠ g
  nb : b < w.heap.size
  na : ∀ z, z ∈ blk (.slice ao n c) → z ≠ g0

theorem Ty.way_a {w W0 v : World} {b g0 : Nat} {s : ByteArray} {p : Nat} {md : Int} {fg : Bool} {last : ByteArray} {k : Int} {x : ByteArray} {ao : Option Addr} {n c : Nat} {bl : Bool} {y : ByteArray} {l : List Att} (kp : Kp [b] w W0) (L : Ly W0 b s p md fg last) (A : At W0 g0 ZT 44) (n0 : w.heap.size ≤ g0) (nb : b < w.heap.size) (M : Mp W0.drew v ao n c l) :
    Hid (Ty w (v.alloc (.cells #[.int .i64 k, .string x, .slice ao n c, .bool bl, .string y] 44)) b g0 v.heap.size s p md fg last k x ao n c bl y l) := by
  have k1 : Kp [] W0 v := (Kp.refl [] W0).drew.trans M.kp (fun z hz => by simp at hz)
  have k2 : Kp [] W0 (v.alloc (.cells #[.int .i64 k, .string x, .slice ao n c, .bool bl, .string y] 44)) := k1.alloc _
  have z0 := kp.size
  have z1 := k1.size
  have z2 := At.lt A
  exact ⟨kp.trans k2 (fun z hz => by simp at hz), L.kept k2 (by simp), A.kept k2 (by simp), At.new _ _ _, M.1.keep ((Kp.refl [] v).alloc _) (fun _ _ => by simp), fun z hz => Nat.le_trans z0 (M.2.2 z hz), n0, by omega, by omega, nb, fun z hz => by have : W0.heap.size ≤ z := M.2.2 z hz; omega⟩

theorem Ty.way_b {w W0 v : World} {b g0 : Nat} {s : ByteArray} {p : Nat} {md : Int} {fg : Bool} {last : ByteArray} {k : Int} {x : ByteArray} {ao : Option Addr} {n c : Nat} {bl : Bool} {y : ByteArray} {l : List Att} (kp : Kp [b] w W0) (L : Ly W0 b s p md fg last) (A : At W0 g0 ZT 44) (n0 : w.heap.size ≤ g0) (nb : b < w.heap.size) (M : Mp (W0.alloc (.cells ZT 44)).drew v ao n c l) :
    Hid (Ty w (put5 v W0.heap.size (.int .i64 k) (.string x) (.slice ao n c) (.bool bl) (.string y)) b g0 W0.heap.size s p md fg last k x ao n c bl y l) := by
  have k0 : Kp [] W0 (W0.alloc (.cells ZT 44)).drew := ((Kp.refl [] W0).alloc _).drew
  have k1 : Kp [] W0 v := k0.trans M.kp (fun z hz => by simp at hz)
  have z0 := kp.size
  have z2 := At.lt A
  have zb := L.lt
  have B0 : At (W0.alloc (.cells ZT 44)).drew W0.heap.size ZT 44 := (At.new W0 ZT 44).kept (Kp.refl [] _).drew (by simp)
  have B1 := B0.kept M.kp (by simp)
  have zs : (W0.alloc (.cells ZT 44)).drew.heap.size = W0.heap.size + 1 := by show (W0.alloc (.cells ZT 44)).heap.size = _; simp
  refine ⟨?_, past5 (L.kept k1 (by simp)) (by omega) _ _ _ _ _, past5 (A.kept k1 (by simp)) (by omega) _ _ _ _ _, B1.put5 _ _ _ _ _, M.1.keep ((Kp.refl [W0.heap.size] v).put5 (Or.inl (by simp)) _ _ _ _ _) (fun z hz => ?_), fun z hz => ?_, n0, by omega, by omega, nb, fun z hz => ?_⟩
  · exact (kp.trans k1 (fun z hz => by simp at hz)).put5 (Or.inr z0) _ _ _ _ _
  · have := M.2.2 z hz
    rw [zs] at this
    simp
    omega
  · have := M.2.2 z hz
    rw [zs] at this
    omega
  · have := M.2.2 z hz
    rw [zs] at this
    omega

theorem Ty.setAt {w V : World} {b g0 g : Nat} {s : ByteArray} {p : Nat} {md : Int} {fg : Bool} {last : ByteArray} {k : Int} {x : ByteArray} {ao : Option Addr} {n c : Nat} {bl : Bool} {y : ByteArray} {l : List Att} (h : Ty w V b g0 g s p md fg last k x ao n c bl y l) (q : Nat) : Ty w (V.setCell ⟨b, 1, none⟩ (.int .i64 (q : Int))) b g0 g s q md fg last k x ao n c bl y l := by
  have := h.nb
  have h0 := h.n0
  have h1 := h.ng
  exact ⟨h.kp.setCell (Or.inl (by simp)) _, h.ly.setAt q, h.r.other (by omega) _ _, h.t.other (by omega) _ _, h.own.keep ((Kp.refl [b] V).setCell (Or.inl (by simp)) _) (fun z hz => by have := h.nw z hz; simp; omega), h.nw, h.n0, h.ng, h.ne, h.nb, h.na⟩
theorem Ty.setLast {w V : World} {b g0 g : Nat} {s : ByteArray} {p : Nat} {md : Int} {fg : Bool} {last : ByteArray} {k : Int} {x : ByteArray} {ao : Option Addr} {n c : Nat} {bl : Bool} {y : ByteArray} {l : List Att} (h : Ty w V b g0 g s p md fg last k x ao n c bl y l) (m : ByteArray) : Ty w (V.setCell ⟨b, 3, none⟩ (.string m)) b g0 g s p md fg m k x ao n c bl y l := by
  have := h.nb
  have h0 := h.n0
  have h1 := h.ng
  exact ⟨h.kp.setCell (Or.inl (by simp)) _, h.ly.setLast m, h.r.other (by omega) _ _, h.t.other (by omega) _ _, h.own.keep ((Kp.refl [b] V).setCell (Or.inl (by simp)) _) (fun z hz => by have := h.nw z hz; simp; omega), h.nw, h.n0, h.ng, h.ne, h.nb, h.na⟩

/-- Once the result is laid. -/
theorem Ty.fin {w V : World} {b g0 g : Nat} {s : ByteArray} {p : Nat} {md : Int} {fg : Bool} {last : ByteArray} {k : Int} {x : ByteArray} {ao : Option Addr} {n c : Nat} {bl : Bool} {y : ByteArray} {l : List Att} (h : Ty w V b g0 g s p md fg last k x ao n c bl y l) (v0 v1 v2 v3 v4 : Value) :
    (put5 V g0 v0 v1 v2 v3 v4).cell? ⟨g0, 0, none⟩ = some v0 ∧ (put5 V g0 v0 v1 v2 v3 v4).cell? ⟨g0, 1, none⟩ = some v1 ∧ (put5 V g0 v0 v1 v2 v3 v4).cell? ⟨g0, 2, none⟩ = some v2 ∧ (put5 V g0 v0 v1 v2 v3 v4).cell? ⟨g0, 3, none⟩ = some v3 ∧ (put5 V g0 v0 v1 v2 v3 v4).cell? ⟨g0, 4, none⟩ = some v4 ∧ Nyt w (put5 V g0 v0 v1 v2 v3 v4) b ao n c l s p md fg last := by
  have := h.nb
  have h0 := h.n0
  exact ⟨(h.r.put5 v0 v1 v2 v3 v4).cell 0, (h.r.put5 v0 v1 v2 v3 v4).cell 1, (h.r.put5 v0 v1 v2 v3 v4).cell 2, (h.r.put5 v0 v1 v2 v3 v4).cell 3, (h.r.put5 v0 v1 v2 v3 v4).cell 4,
    ⟨h.kp.put5 (Or.inr h.n0) _ _ _ _ _, past5 h.ly (by omega) _ _ _ _ _, h.own.keep ((Kp.refl [g0] V).put5 (Or.inl (by simp)) _ _ _ _ _) (fun z hz => by have := h.na z hz; simpa using this), h.nw⟩⟩

/-- What is read and written there. -/
theorem Ty.facts {w V : World} {b g0 g : Nat} {s : ByteArray} {p : Nat} {md : Int} {fg : Bool} {last : ByteArray} {k : Int} {x : ByteArray} {ao : Option Addr} {n c : Nat} {bl : Bool} {y : ByteArray} {l : List Att} (h : Ty w V b g0 g s p md fg last k x ao n c bl y l) :
    ((V.cell? ⟨b, 0, none⟩ = some (.string s) ∧ V.cell? ⟨b, 1, none⟩ = some (.int .i64 (p : Int)) ∧ V.cell? ⟨b, 2, none⟩ = some (.int .i64 md) ∧ V.cell? ⟨b, 3, none⟩ = some (.string last) ∧ V.cell? ⟨b, 4, none⟩ = some (.bool fg)) ∧ ∀ j, V.frozen? ⟨b, j, none⟩ = false) ∧
    ((V.cell? ⟨g, 0, none⟩ = some (.int .i64 k) ∧ V.cell? ⟨g, 1, none⟩ = some (.string x) ∧ V.cell? ⟨g, 2, none⟩ = some (.slice ao n c) ∧ V.cell? ⟨g, 3, none⟩ = some (.bool bl) ∧ V.cell? ⟨g, 4, none⟩ = some (.string y)) ∧ ∀ j, V.frozen? ⟨g, j, none⟩ = false) ∧
    ((V.cell? ⟨g0, 0, none⟩ = some (.int .i64 0) ∧ V.cell? ⟨g0, 1, none⟩ = some (.string ⟨#[]⟩) ∧ V.cell? ⟨g0, 2, none⟩ = some (.slice none 0 0) ∧ V.cell? ⟨g0, 3, none⟩ = some (.bool false) ∧ V.cell? ⟨g0, 4, none⟩ = some (.string ⟨#[]⟩)) ∧ ∀ j, V.frozen? ⟨g0, j, none⟩ = false) :=
  ⟨h.ly.facts, ⟨h.t.cells5, fun j => h.t.free j⟩, ⟨h.r.cells5, fun j => h.r.free j⟩⟩


set_option maxHeartbeats 4000000 in
set_option maxRecDepth 100000 in
theorem rtag_any (w : World) (b : Nat) (s : ByteArray) (p : Nat) (md : Int) (fg : Bool) (last : ByteArray) (h : Ly w b s p md fg last) (hp : p < s.size) (hs : s.size ≤ 4000) (hb : ¬ (begF s (p : Int)).1 = 0) :
    Calls Tryz.prog 32 #[.pointer (some ⟨b, 0, none⟩)] w fun e w' => ∃ ao n c, e = .returned (tv (tgF s last p).1.1 (tgF s last p).1.2.1 ao n c (tgF s last p).1.2.2.2.1 (tgF s last p).1.2.2.2.2) ∧ Nyt w w' b ao n c (tgF s last p).1.2.2.1 s (tgF s last p).2.1 md fg (tgF s last p).2.2 := by
  obtain ⟨W0, hW⟩ : ∃ W0, w.alloc (.cells ZT 44) = W0 := ⟨_, rfl⟩
  obtain ⟨g0, hg0⟩ : ∃ g0, w.heap.size = g0 := ⟨_, rfl⟩
  have k0 : Kp [b] w W0 := by rw [← hW]; exact (Kp.refl _ _).alloc _
  have kn : Kp [] w W0 := by rw [← hW]; exact (Kp.refl _ _).alloc _
  have A0 : At W0 g0 ZT 44 := by rw [← hW, ← hg0]; exact At.new w ZT 44
  have L0 := h.kept kn (by simp)
  have hlt := h.lt
  have HT := fun W => ref_tread_any W s (p : Int) hs
  obtain ⟨⟨tk, tx', tl, tb, ty⟩, r, ok, e1, e2⟩ := ltF_parts s last p hp
  rw [ltF_yes hb] at e2
  rw [e1] at HT
  obtain ⟨V, hV⟩ : ∃ V, tgF s last p = V := ⟨_, rfl⟩
  have e2 : Hid ((ok = false ∧ r = s.size ∧ V = (eofT, r, last)) ∨ (ok = true ∧ tk = 2 ∧ V = ((tk, tx', tl, tb, ty), r, tx')) ∨ (ok = true ∧ tk = 3 ∧ V = ((tk, tx', tl, tb, ty), r, last))) := by
    rw [hV] at e2
    rcases e2 with ⟨_, _, _, q4⟩ | ⟨_, q2, _, q4⟩ | ⟨_, q2, q3, q4⟩ | ⟨_, q2, q3, q4⟩
    · simp at q4
    · simp only [Prod.mk.injEq, true_and] at q4
      refine Or.inl ⟨q2, ?_, Prod.ext q4.1 (Prod.ext q4.2.1 q4.2.2)⟩
      rcases tag_facts hb with g | ⟨e, g1, _⟩
      · rw [g] at e1
        simp only [Prod.mk.injEq] at e1
        omega
      · rw [e1] at g1
        simp only [Prod.mk.injEq] at g1
        rw [q2] at g1
        exact absurd g1.2 (by simp)
    · simp only [Prod.mk.injEq, true_and] at q4
      exact Or.inr (Or.inl ⟨q2, q3, Prod.ext q4.1 (Prod.ext q4.2.1 q4.2.2)⟩)
    · simp only [Prod.mk.injEq, true_and] at q4
      exact Or.inr (Or.inr ⟨q2, q3, Prod.ext q4.1 (Prod.ext q4.2.1 q4.2.2)⟩)
  rw [hV]
  unfold rdv at HT
  unfold tv at HT ⊢
  simp only [] at HT
  have D3 : Hid (∀ o, Kp [] w (W0.alloc o).drew) := fun o => (kn.alloc o).drew
  have D4 : Hid (Kp [] w W0.drew) := kn.drew
  have FA : Hid (∀ v ao n c, Mp W0.drew v ao n c tl → Hid (Ty w (v.alloc (.cells #[.int .i64 tk, .string tx', .slice ao n c, .bool tb, .string ty] 44)) b g0 v.heap.size s p md fg last tk tx' ao n c tb ty tl)) := fun v ao n c M => Ty.way_a k0 L0 A0 (by omega) hlt M
  have FB : Hid (∀ v ao n c, Mp (W0.alloc (.cells ZT 44)).drew v ao n c tl → Hid (Ty w (put5 v W0.heap.size (.int .i64 tk) (.string tx') (.slice ao n c) (.bool tb) (.string ty)) b g0 W0.heap.size s p md fg last tk tx' ao n c tb ty tl)) := fun v ao n c M => Ty.way_b k0 L0 A0 (by omega) hlt M
  have CC : Hid (∀ W, Kp [] W0 W → W.cell? ⟨b, 0, none⟩ = some (.string s) ∧ W.cell? ⟨b, 1, none⟩ = some (.int .i64 (p : Int))) := fun W kW => by
    obtain ⟨⟨d0, d1, _, _, _⟩, _⟩ := (L0.kept kW (by simp)).facts
    exact ⟨d0, d1⟩
  have zb := L0.lt
  have C5 : Hid (∀ (W : World) (u0 u1 u2 u3 u4 : Value), Kp [] W0 W → (((((W.setCell ⟨W0.heap.size, 0, none⟩ u0).setCell ⟨W0.heap.size, 1, none⟩ u1).setCell ⟨W0.heap.size, 2, none⟩ u2).setCell ⟨W0.heap.size, 3, none⟩ u3).setCell ⟨W0.heap.size, 4, none⟩ u4).cell? ⟨b, 0, none⟩ = some (.string s) ∧ (((((W.setCell ⟨W0.heap.size, 0, none⟩ u0).setCell ⟨W0.heap.size, 1, none⟩ u1).setCell ⟨W0.heap.size, 2, none⟩ u2).setCell ⟨W0.heap.size, 3, none⟩ u3).setCell ⟨W0.heap.size, 4, none⟩ u4).cell? ⟨b, 1, none⟩ = some (.int .i64 (p : Int))) := fun W u0 u1 u2 u3 u4 kW => by
    have L5 : Ly (put5 W W0.heap.size u0 u1 u2 u3 u4) b s p md fg last := past5 (L0.kept kW (by simp)) (by omega) _ _ _ _ _
    obtain ⟨⟨d0, d1, _, _, _⟩, _⟩ := L5.facts
    exact ⟨d0, d1⟩
  have K3 : Hid (∀ o, Kp [] W0 (W0.alloc o).drew) := fun o => ((Kp.refl [] W0).alloc o).drew
  obtain ⟨⟨c0, c1, c2, c3, c4⟩, hf⟩ := L0.facts
  clear h k0 kn A0 L0 hV
  go_enter Tryz.func32, Tryz.ntmps32
  go_wp2_with fail
  try rw [hW]
  clear hW
  go_region_held3 (fun w' => w'.cell? ⟨b, 0, none⟩ = some (.string s) ∧ w'.cell? ⟨b, 1, none⟩ = some (.int .i64 (p : Int)))
    (first | with_reducible exact CC.out _ S1.out | with_reducible exact CC.out _ (S1.out.alloc _) | with_reducible exact C5.out _ _ _ _ _ _ S1.out | with_reducible exact CC.out _ (Kp.refl [] W0).drew | exact CC.out _ (K3.out _))
    (first
      | (go_at_call 44; refine (HT _).mono ?_; rintro e v2 ⟨ao, n, c, rfl, N2⟩; have S1 : Hid (Kp [] W0 v2) := (Kp.refl [] W0).drew.trans N2.kp (fun z hz => by simp at hz); have PZ := FA.out _ _ _ _ N2; clear N2)
      | (go_at_call 44; refine (HT _).mono ?_; rintro e v2 ⟨ao, n, c, rfl, N2⟩; have S1 : Hid (Kp [] W0 v2) := (K3.out _).trans N2.kp (fun z hz => by simp at hz); have PZ := FB.out _ _ _ _ N2; obtain ⟨⟨x0, x1, x2, x3, x4⟩, xf⟩ := fresh_b N2; clear N2))
  all_goals
    have P := PZ.out
    try unfold put5 at P
    try clear x0 x1 x2 x3 x4 xf
    clear PZ S1 FA FB D3 D4 K3 CC C5 HT c0 c1 c2 c3 c4 hf
    obtain ⟨⟨⟨c0, c1, c2, c3, c4⟩, hf⟩, ⟨⟨t0, t1, t2, t3, t4⟩, tf⟩, ⟨⟨r0, r1, r2, r3, r4⟩, rf'⟩⟩ := P.facts
    rcases e2.out with ⟨q2, q3, q4⟩ | ⟨q2, q3, q4⟩ | ⟨q2, q3, q4⟩
    · subst q2
      subst q3
      subst q4
      have P1 := P.setAt s.size
      obtain ⟨⟨⟨i0, i1, i2, i3, i4⟩, jf⟩, _, _⟩ := P1.facts
      have P2 := P1.setAt s.size
      obtain ⟨_, _, ⟨⟨s0, s1, s2, s3, s4⟩, sf⟩⟩ := P2.facts
      have D : Hid _ := P2.fin (.int .i64 6) (.string ⟨#[]⟩) (.slice none 0 0) (.bool false) (.string ⟨#[]⟩)
      clear P P1 P2 e2
      go_wp2
      obtain ⟨d0, d1, d2, d3, d4, N⟩ := D.out
      unfold put5 at d0 d1 d2 d3 d4 N
      refine bodyPost_ret (v := .agg #[.int .i64 6, .string ⟨#[]⟩, .slice none 0 0, .bool false, .string ⟨#[]⟩]) (by simp [results, go_sem, d0, d1, d2, d3, d4]) rfl ⟨none, 0, 0, rfl, nyt_none N.kp N.ly⟩
    · subst q2
      subst q4
      try simp only at q3
      subst q3
      have P1 := P.setAt r
      obtain ⟨⟨⟨i0, i1, i2, i3, i4⟩, jf⟩, ⟨⟨u0, u1, u2, u3, u4⟩, uf⟩, _⟩ := P1.facts
      have P2 := P1.setLast tx'
      obtain ⟨_, ⟨⟨o0, o1, o2, o3, o4⟩, of'⟩, ⟨⟨s0, s1, s2, s3, s4⟩, sf⟩⟩ := P2.facts
      have D : Hid _ := P2.fin (.int .i64 2) (.string tx') (.slice ao n c) (.bool tb) (.string ty)
      clear P P1 P2 e2
      go_wp2
      obtain ⟨d0, d1, d2, d3, d4, N⟩ := D.out
      unfold put5 at d0 d1 d2 d3 d4 N
      refine bodyPost_ret (v := .agg #[.int .i64 2, .string tx', .slice ao n c, .bool tb, .string ty]) (by simp [results, go_sem, d0, d1, d2, d3, d4]) rfl ⟨ao, n, c, rfl, N⟩
    · subst q2
      subst q4
      try simp only at q3
      subst q3
      have P1 := P.setAt r
      obtain ⟨⟨⟨i0, i1, i2, i3, i4⟩, jf⟩, ⟨⟨u0, u1, u2, u3, u4⟩, uf⟩, ⟨⟨s0, s1, s2, s3, s4⟩, sf⟩⟩ := P1.facts
      have D : Hid _ := P1.fin (.int .i64 3) (.string tx') (.slice ao n c) (.bool tb) (.string ty)
      clear P P1 e2
      go_wp2
      obtain ⟨d0, d1, d2, d3, d4, N⟩ := D.out
      unfold put5 at d0 d1 d2 d3 d4 N
      refine bodyPost_ret (v := .agg #[.int .i64 3, .string tx', .slice ao n c, .bool tb, .string ty]) (by simp [results, go_sem, d0, d1, d2, d3, d4]) rfl ⟨ao, n, c, rfl, N⟩

end Go.Proofs.YtcfaejbbjmjgpaaGreatDoor
