/-
  The program's reader: op.
-/
import Derived.Test.YtpjkpobdkmcedaaDoorDecB
namespace Go.Proofs.YtpjkpobdkmcedaaDoor
open Go.RowKit Utf
set_option linter.unusedVariables false
set_option linter.unusedSimpArgs false

/-- Nine cells of a block are written, from its head on. -/
def put9 (w : World) (g : Nat) (v0 v1 v2 v3 v4 v5 v6 v7 v8 : Value) : World := ((((((((w.setCell ⟨g, 0, none⟩ v0).setCell ⟨g, 1, none⟩ v1).setCell ⟨g, 2, none⟩ v2).setCell ⟨g, 3, none⟩ v3).setCell ⟨g, 4, none⟩ v4).setCell ⟨g, 5, none⟩ v5).setCell ⟨g, 6, none⟩ v6).setCell ⟨g, 7, none⟩ v7).setCell ⟨g, 8, none⟩ v8

theorem Kp.put9 {S : List Nat} {a w : World} (h : Kp S a w) {g : Nat} (hg : g ∈ S ∨ a.heap.size ≤ g) (v0 v1 v2 v3 v4 v5 v6 v7 v8 : Value) : Kp S a (put9 w g v0 v1 v2 v3 v4 v5 v6 v7 v8) :=
  ((((((((h.setCell hg v0).setCell hg v1).setCell hg v2).setCell hg v3).setCell hg v4).setCell hg v5).setCell hg v6).setCell hg v7).setCell hg v8

theorem at9 {w : World} {g : Nat} {e : TypeId} {u0 u1 u2 u3 u4 u5 u6 u7 u8 : Value} (h : w.heap[g]? = some (.cells #[u0, u1, u2, u3, u4, u5, u6, u7, u8] e (0, 0))) (v0 v1 v2 v3 v4 v5 v6 v7 v8 : Value) : (put9 w g v0 v1 v2 v3 v4 v5 v6 v7 v8).heap[g]? = some (.cells #[v0, v1, v2, v3, v4, v5, v6, v7, v8] e (0, 0)) := by
  have h0 : (w.setCell ⟨g, 0, none⟩ v0).heap[g]? = some (.cells #[v0, u1, u2, u3, u4, u5, u6, u7, u8] e (0, 0)) := setCell_block h 0 v0
  have h1 : ((w.setCell ⟨g, 0, none⟩ v0).setCell ⟨g, 1, none⟩ v1).heap[g]? = some (.cells #[v0, v1, u2, u3, u4, u5, u6, u7, u8] e (0, 0)) := setCell_block h0 1 v1
  unfold put9
  generalize (w.setCell ⟨g, 0, none⟩ v0).setCell ⟨g, 1, none⟩ v1 = w1 at h1 ⊢
  have h2 : (w1.setCell ⟨g, 2, none⟩ v2).heap[g]? = some (.cells #[v0, v1, v2, u3, u4, u5, u6, u7, u8] e (0, 0)) := setCell_block h1 2 v2
  generalize w1.setCell ⟨g, 2, none⟩ v2 = w2 at h2 ⊢
  have h3 : (w2.setCell ⟨g, 3, none⟩ v3).heap[g]? = some (.cells #[v0, v1, v2, v3, u4, u5, u6, u7, u8] e (0, 0)) := setCell_block h2 3 v3
  generalize w2.setCell ⟨g, 3, none⟩ v3 = w3 at h3 ⊢
  have h4 : (w3.setCell ⟨g, 4, none⟩ v4).heap[g]? = some (.cells #[v0, v1, v2, v3, v4, u5, u6, u7, u8] e (0, 0)) := setCell_block h3 4 v4
  generalize w3.setCell ⟨g, 4, none⟩ v4 = w4 at h4 ⊢
  have h5 : (w4.setCell ⟨g, 5, none⟩ v5).heap[g]? = some (.cells #[v0, v1, v2, v3, v4, v5, u6, u7, u8] e (0, 0)) := setCell_block h4 5 v5
  generalize w4.setCell ⟨g, 5, none⟩ v5 = w5 at h5 ⊢
  have h6 : (w5.setCell ⟨g, 6, none⟩ v6).heap[g]? = some (.cells #[v0, v1, v2, v3, v4, v5, v6, u7, u8] e (0, 0)) := setCell_block h5 6 v6
  generalize w5.setCell ⟨g, 6, none⟩ v6 = w6 at h6 ⊢
  have h7 : (w6.setCell ⟨g, 7, none⟩ v7).heap[g]? = some (.cells #[v0, v1, v2, v3, v4, v5, v6, v7, u8] e (0, 0)) := setCell_block h6 7 v7
  generalize w6.setCell ⟨g, 7, none⟩ v7 = w7 at h7 ⊢
  exact setCell_block h7 8 v8

/-- Nothing, as cells. -/
def z9 : Array Value := #[.int .i64 0, .int .i64 0, .int .i64 0, .int .i64 0, .int .i64 0, .int .i64 0, .string ⟨#[]⟩, .slice none 0 0, .string ⟨#[]⟩]

/-- An operation while it is read: its block, g, holds these cells; the result's block, r, nothing. -/
structure So (w W : World) (b B r g : Nat) (cur : Array Value) (st : St) : Prop where
  hg : W.heap[g]? = some (.cells cur 24 (0, 0))
  hr : W.heap[r]? = some (.cells z9 24 (0, 0))
  kp : Kp [b] w W
  rr : Rr W b B st
  bt : byt st.1
  ln : st.1.length ≤ 100000
  rs : r = w.heap.size
  gs : g = w.heap.size + 1
  bs : b < w.heap.size
  Bs : B ≤ w.heap.size

theorem So.call {w W W' : World} {b B r g : Nat} {cur : Array Value} {st st' : St} (h : So w W b B r g cur st) (k : Kp [b] W W') (R : Rr W' b B st') (hb : byt st'.1) (hl : st'.1.length ≤ st.1.length) : So w W' b B r g cur st' := by
  have h1 := h.rs
  have h2 := h.gs
  have h3 := h.bs
  exact ⟨(k.block g (lt_of h.hg) (by simp; omega)).trans h.hg, (k.block r (lt_of h.hr) (by simp; omega)).trans h.hr, kp_one h.kp k, R, hb, Nat.le_trans hl h.ln, h1, h2, h3, h.Bs⟩

theorem So.put {w W : World} {b B r g : Nat} {cur : Array Value} {st : St} (h : So w W b B r g cur st) (i : Nat) (v : Value) : So w (W.setCell ⟨g, i, none⟩ v) b B r g (cur.setIfInBounds i v) st := by
  have h1 := h.rs
  have h2 := h.gs
  have h3 := h.bs
  have h4 := h.Bs
  have k : Kp [g] W (W.setCell ⟨g, i, none⟩ v) := (Kp.refl _ _).setCell (p := ⟨g, i, none⟩) (Or.inl (by simp)) _
  exact ⟨setCell_block h.hg i v, (k.block r (lt_of h.hr) (by simp; omega)).trans h.hr, h.kp.setCell (p := ⟨g, i, none⟩) (Or.inr (by show w.heap.size ≤ g; omega)) _, h.rr.kept k (by simp; omega) (fun x hx => by simp at hx; omega), h.bt, h.ln, h1, h2, h3, h4⟩

theorem so_new {w : World} {b B : Nat} {s : St} (h : Rr w b B s) (hB : B ≤ w.heap.size) (hs : s.1.length ≤ 100000) (hb : byt s.1) : So w ((w.alloc (.cells z9 24)).alloc (.cells z9 24)) b B w.heap.size (w.heap.size + 1) z9 s := by
  have hbw : b < w.heap.size := by
    obtain ⟨_, _, _, h1, _⟩ := h
    exact lt_of h1
  have k : Kp [] w ((w.alloc (.cells z9 24)).alloc (.cells z9 24)) := ((Kp.refl _ _).alloc _).alloc _
  exact ⟨heap_new' _ _ _ (by simp), by rw [Below.heap_alloc _ _ _ (by simp)]; exact heap_new w _, k.mono (fun x hx => by simp at hx), h.kept k (by simp) (fun x hx => by simp at hx), hb, hs, rfl, rfl, hbw, hB⟩

/-- The attributes' slice: in blocks of its own, behind g. -/
structure Sx (w W : World) (ao : Option Addr) (n c : Nat) (L : List Att) : Prop where
  ow : OwnK 2 W 26 (.slice ao n c) n (cs L)
  nw : ∀ k, k ∈ blk (.slice ao n c) → w.heap.size + 2 ≤ k

theorem Sx.keep {w W W' : World} {ao : Option Addr} {n c : Nat} {L : List Att} (h : Sx w W ao n c L) {S : List Nat} (k : Kp S W W') (hS : ∀ x, x ∈ S → x < w.heap.size + 2) : Sx w W' ao n c L :=
  ⟨h.ow.keep k (fun x hx hs => by have := h.nw x hx; have := hS x hs; omega), h.nw⟩

theorem rdA_len : ∀ (c : Nat) (s : St), byt s.1 → (rdA c s).2.1.length ≤ s.1.length
  | 0, s, _ => Nat.le_refl _
  | c + 1, s, hb => by
    unfold rdA
    split
    · exact Nat.le_refl _
    · obtain ⟨p1, p2, p3⟩ := rdT_st hb
      obtain ⟨q1, q2, q3⟩ := rdT_st p1
      have := rdA_len c _ q1
      show (rdA c (rdT (rdT s).2).2).2.1.length ≤ _
      omega

theorem rdAs_len (s : St) (hb : byt s.1) : (rdAs s).2.1.length ≤ s.1.length := by
  obtain ⟨h1, h2⟩ := rdN_st (n := 2) hb
  have := rdA_len (rdN 2 s).1.toNat _ h1
  unfold rdAs
  omega

set_option maxRecDepth 100000 in
set_option maxHeartbeats 2000000 in
theorem rop_any (w : World) (b B : Nat) (s : St) (h : Rr w b B s) (hB : B ≤ w.heap.size) (hs : s.1.length ≤ 100000) (hb : byt s.1) :
    Calls Tryd.prog 38 #[.pointer (some ⟨b, 0, none⟩)] w fun e w' => ∃ p : Sl, e = .returned (ov (rdO s) p) ∧ Ar w' (rdO s, p) ∧ (∀ k, k ∈ blk (.slice p.1 p.2.1 p.2.2) → w.heap.size + 2 ≤ k) ∧ Rr w' b B (s9 s) ∧ byt (s9 s).1 ∧ (s9 s).1.length ≤ s.1.length ∧ Kp [b] w w' := by
  have S0 := so_new h hB hs hb
  obtain ⟨V, hV⟩ : ∃ V, rdO s = V := ⟨_, rfl⟩
  have HV : Hid (V = ⟨(rdN 1 s).1, (rdN 4 (s1 s)).1, (rdN 4 (s2 s)).1, (rdN 4 (s3 s)).1, (rdN 1 (s4 s)).1, (rdN 1 (s5 s)).1, (rdT (s6 s)).1, (rdAs (s7 s)).1, (rdT (s8 s)).1⟩) := (by rw [← hV]; unfold rdO; rfl : V = ⟨(rdN 1 s).1, (rdN 4 (s1 s)).1, (rdN 4 (s2 s)).1, (rdN 4 (s3 s)).1, (rdN 1 (s4 s)).1, (rdN 1 (s5 s)).1, (rdT (s6 s)).1, (rdAs (s7 s)).1, (rdT (s8 s)).1⟩)
  rw [hV]
  clear hV
  have d1 : (rdN 1 s).2 = s1 s := by unfold s1; rfl
  have d2 : (rdN 4 (s1 s)).2 = s2 s := by unfold s2; rfl
  have d3 : (rdN 4 (s2 s)).2 = s3 s := by unfold s3; rfl
  have d4 : (rdN 4 (s3 s)).2 = s4 s := by unfold s4; rfl
  have d5 : (rdN 1 (s4 s)).2 = s5 s := by unfold s5; rfl
  have d6 : (rdN 1 (s5 s)).2 = s6 s := by unfold s6; rfl
  have d7 : (rdT (s6 s)).2 = s7 s := by unfold s7; rfl
  have d8 : (rdAs (s7 s)).2 = s8 s := by unfold s8; rfl
  have d9 : (rdT (s8 s)).2 = s9 s := by unfold s9; rfl
  generalize s9 s = t9 at d9 ⊢
  generalize s8 s = t8 at d9 d8 HV
  generalize s7 s = t7 at d8 d7 HV
  generalize s6 s = t6 at d7 d6 HV
  generalize s5 s = t5 at d6 d5 HV
  generalize s4 s = t4 at d5 d4 HV
  generalize s3 s = t3 at d4 d3 HV
  generalize s2 s = t2 at d3 d2 HV
  generalize s1 s = t1 at d2 d1 HV
  have D1 : Hid ((rdN 1 s).2 = t1) := d1
  have D2 : Hid ((rdN 4 t1).2 = t2) := d2
  have D3 : Hid ((rdN 4 t2).2 = t3) := d3
  have D4 : Hid ((rdN 4 t3).2 = t4) := d4
  have D5 : Hid ((rdN 1 t4).2 = t5) := d5
  have D6 : Hid ((rdN 1 t5).2 = t6) := d6
  have D7 : Hid ((rdT t6).2 = t7) := d7
  have D8 : Hid ((rdAs t7).2 = t8) := d8
  have D9 : Hid ((rdT t8).2 = t9) := d9
  clear d1 d2 d3 d4 d5 d6 d7 d8 d9 h hb
  have S := S0
  have L0 : Hid (s.1.length ≤ s.1.length) := Nat.le_refl _
  clear S0
  simp only [z9] at S
  go_enter Tryd.func38, Tryd.ntmps38
  have C := number1 _ b B s S.rr S.ln S.bt
  have Q := rdN_st (n := 1) S.bt
  rw [D1.out] at C Q
  generalize (rdN 1 s).1 = x0 at HV C
  go_wp2_with fail
  refine C.mono ?_
  rintro e w1 ⟨rfl, R, k⟩
  replace S := S.call k R Q.1 Q.2
  have L1 : Hid (t1.1.length ≤ s.1.length) := (Nat.le_trans Q.2 L0.out : t1.1.length ≤ s.1.length)
  clear C Q R k
  have c0 := cell_of S.hg 0
  have f0 := frozen_of S.hg 0
  simp only [List.getElem?_toArray, List.getElem?_cons_succ, List.getElem?_cons_zero] at c0
  replace S : So w (w1.setCell ⟨w.heap.size + 1, 0, none⟩ (.int .i64 x0)) b B w.heap.size (w.heap.size + 1) #[.int .i64 x0, .int .i64 0, .int .i64 0, .int .i64 0, .int .i64 0, .int .i64 0, .string ⟨#[]⟩, .slice none 0 0, .string ⟨#[]⟩] t1 := S.put 0 _
  have C := number4 _ b B t1 S.rr S.ln S.bt
  have Q := rdN_st (n := 4) S.bt
  rw [D2.out] at C Q
  generalize (rdN 4 t1).1 = x1 at HV C
  go_wp2_with fail
  refine C.mono ?_
  rintro e w2 ⟨rfl, R, k⟩
  replace S := S.call k R Q.1 Q.2
  have L2 : Hid (t2.1.length ≤ s.1.length) := (Nat.le_trans Q.2 L1.out : t2.1.length ≤ s.1.length)
  clear C Q R k
  clear c0 f0
  have c1 := cell_of S.hg 1
  have f1 := frozen_of S.hg 1
  simp only [List.getElem?_toArray, List.getElem?_cons_succ, List.getElem?_cons_zero] at c1
  replace S : So w (w2.setCell ⟨w.heap.size + 1, 1, none⟩ (.int .i64 x1)) b B w.heap.size (w.heap.size + 1) #[.int .i64 x0, .int .i64 x1, .int .i64 0, .int .i64 0, .int .i64 0, .int .i64 0, .string ⟨#[]⟩, .slice none 0 0, .string ⟨#[]⟩] t2 := S.put 1 _
  have C := number4 _ b B t2 S.rr S.ln S.bt
  have Q := rdN_st (n := 4) S.bt
  rw [D3.out] at C Q
  generalize (rdN 4 t2).1 = x2 at HV C
  go_wp2_with fail
  refine C.mono ?_
  rintro e w3 ⟨rfl, R, k⟩
  replace S := S.call k R Q.1 Q.2
  have L3 : Hid (t3.1.length ≤ s.1.length) := (Nat.le_trans Q.2 L2.out : t3.1.length ≤ s.1.length)
  clear C Q R k
  clear c1 f1
  have c2 := cell_of S.hg 2
  have f2 := frozen_of S.hg 2
  simp only [List.getElem?_toArray, List.getElem?_cons_succ, List.getElem?_cons_zero] at c2
  replace S : So w (w3.setCell ⟨w.heap.size + 1, 2, none⟩ (.int .i64 x2)) b B w.heap.size (w.heap.size + 1) #[.int .i64 x0, .int .i64 x1, .int .i64 x2, .int .i64 0, .int .i64 0, .int .i64 0, .string ⟨#[]⟩, .slice none 0 0, .string ⟨#[]⟩] t3 := S.put 2 _
  have C := number4 _ b B t3 S.rr S.ln S.bt
  have Q := rdN_st (n := 4) S.bt
  rw [D4.out] at C Q
  generalize (rdN 4 t3).1 = x3 at HV C
  go_wp2_with fail
  refine C.mono ?_
  rintro e w4 ⟨rfl, R, k⟩
  replace S := S.call k R Q.1 Q.2
  have L4 : Hid (t4.1.length ≤ s.1.length) := (Nat.le_trans Q.2 L3.out : t4.1.length ≤ s.1.length)
  clear C Q R k
  clear c2 f2
  have c3 := cell_of S.hg 3
  have f3 := frozen_of S.hg 3
  simp only [List.getElem?_toArray, List.getElem?_cons_succ, List.getElem?_cons_zero] at c3
  replace S : So w (w4.setCell ⟨w.heap.size + 1, 3, none⟩ (.int .i64 x3)) b B w.heap.size (w.heap.size + 1) #[.int .i64 x0, .int .i64 x1, .int .i64 x2, .int .i64 x3, .int .i64 0, .int .i64 0, .string ⟨#[]⟩, .slice none 0 0, .string ⟨#[]⟩] t4 := S.put 3 _
  have C := number1 _ b B t4 S.rr S.ln S.bt
  have Q := rdN_st (n := 1) S.bt
  rw [D5.out] at C Q
  generalize (rdN 1 t4).1 = x4 at HV C
  go_wp2_with fail
  refine C.mono ?_
  rintro e w5 ⟨rfl, R, k⟩
  replace S := S.call k R Q.1 Q.2
  have L5 : Hid (t5.1.length ≤ s.1.length) := (Nat.le_trans Q.2 L4.out : t5.1.length ≤ s.1.length)
  clear C Q R k
  clear c3 f3
  have c4 := cell_of S.hg 4
  have f4 := frozen_of S.hg 4
  simp only [List.getElem?_toArray, List.getElem?_cons_succ, List.getElem?_cons_zero] at c4
  replace S : So w (w5.setCell ⟨w.heap.size + 1, 4, none⟩ (.int .i64 x4)) b B w.heap.size (w.heap.size + 1) #[.int .i64 x0, .int .i64 x1, .int .i64 x2, .int .i64 x3, .int .i64 x4, .int .i64 0, .string ⟨#[]⟩, .slice none 0 0, .string ⟨#[]⟩] t5 := S.put 4 _
  have C := number1 _ b B t5 S.rr S.ln S.bt
  have Q := rdN_st (n := 1) S.bt
  rw [D6.out] at C Q
  generalize (rdN 1 t5).1 = x5 at HV C
  go_wp2_with fail
  refine C.mono ?_
  rintro e w6 ⟨rfl, R, k⟩
  replace S := S.call k R Q.1 Q.2
  have L6 : Hid (t6.1.length ≤ s.1.length) := (Nat.le_trans Q.2 L5.out : t6.1.length ≤ s.1.length)
  clear C Q R k
  clear c4 f4
  have c5 := cell_of S.hg 5
  have f5 := frozen_of S.hg 5
  simp only [List.getElem?_toArray, List.getElem?_cons_succ, List.getElem?_cons_zero] at c5
  replace S : So w (w6.setCell ⟨w.heap.size + 1, 5, none⟩ (.int .i64 x5)) b B w.heap.size (w.heap.size + 1) #[.int .i64 x0, .int .i64 x1, .int .i64 x2, .int .i64 x3, .int .i64 x4, .int .i64 x5, .string ⟨#[]⟩, .slice none 0 0, .string ⟨#[]⟩] t6 := S.put 5 _
  have C := rtext_any _ b B t6 S.rr S.ln S.bt
  have Q0 := rdT_st S.bt
  have Q := (⟨Q0.1, Q0.2.1⟩ : byt (rdT t6).2.1 ∧ (rdT t6).2.1.length ≤ t6.1.length)
  clear Q0
  rw [D7.out] at C Q
  generalize (rdT t6).1 = x6 at HV C
  go_wp2_with fail
  refine C.mono ?_
  rintro e w7 ⟨rfl, R, k⟩
  replace S := S.call k R Q.1 Q.2
  have L7 : Hid (t7.1.length ≤ s.1.length) := (Nat.le_trans Q.2 L6.out : t7.1.length ≤ s.1.length)
  clear C Q R k
  clear c5 f5
  have c6 := cell_of S.hg 6
  have f6 := frozen_of S.hg 6
  simp only [List.getElem?_toArray, List.getElem?_cons_succ, List.getElem?_cons_zero] at c6
  replace S : So w (w7.setCell ⟨w.heap.size + 1, 6, none⟩ (.string x6)) b B w.heap.size (w.heap.size + 1) #[.int .i64 x0, .int .i64 x1, .int .i64 x2, .int .i64 x3, .int .i64 x4, .int .i64 x5, .string x6, .slice none 0 0, .string ⟨#[]⟩] t7 := S.put 6 _
  have C := attrs_any _ b B t7 S.rr (Nat.le_trans S.Bs S.kp.size) S.ln S.bt
  have Q : Hid ((rdAs t7).2.1.length ≤ t7.1.length) := rdAs_len t7 S.bt
  rw [D8.out] at C Q
  generalize (rdAs t7).1 = x7 at HV C
  go_wp2_with fail
  refine C.mono ?_
  rintro e w8 ⟨ao, n, c, rfl, SA⟩
  have X : Sx w w8 ao n c x7 := ⟨SA.ow, fun z hz => by have := SA.nw z hz; have h1 := lt_of S.hg; have h2 := S.gs; omega⟩
  have hn7 := SA.len
  replace S := S.call SA.kp SA.rr SA.bt Q.out
  have L8 : Hid (t8.1.length ≤ s.1.length) := (Nat.le_trans Q.out L7.out : t8.1.length ≤ s.1.length)
  have HN7 : Hid (n = x7.length) := hn7
  clear C Q SA hn7
  clear c6 f6
  have c7 := cell_of S.hg 7
  have f7 := frozen_of S.hg 7
  simp only [List.getElem?_toArray, List.getElem?_cons_succ, List.getElem?_cons_zero] at c7
  replace X := X.keep (S := [w.heap.size + 1]) ((Kp.refl _ _).setCell (p := ⟨w.heap.size + 1, 7, none⟩) (Or.inl (by simp)) (.slice ao n c)) (fun z hz => by simp at hz; omega)
  replace S : So w (w8.setCell ⟨w.heap.size + 1, 7, none⟩ (.slice ao n c)) b B w.heap.size (w.heap.size + 1) #[.int .i64 x0, .int .i64 x1, .int .i64 x2, .int .i64 x3, .int .i64 x4, .int .i64 x5, .string x6, .slice ao n c, .string ⟨#[]⟩] t8 := S.put 7 _
  have C := rtext_any _ b B t8 S.rr S.ln S.bt
  have Q0 := rdT_st S.bt
  have Q := (⟨Q0.1, Q0.2.1⟩ : byt (rdT t8).2.1 ∧ (rdT t8).2.1.length ≤ t8.1.length)
  clear Q0
  rw [D9.out] at C Q
  generalize (rdT t8).1 = x8 at HV C
  go_wp2_with fail
  refine C.mono ?_
  rintro e w9 ⟨rfl, R, k⟩
  replace X := X.keep k (fun z hz => by have := S.bs; simp at hz; omega)
  replace S := S.call k R Q.1 Q.2
  have L9 : Hid (t9.1.length ≤ s.1.length) := (Nat.le_trans Q.2 L8.out : t9.1.length ≤ s.1.length)
  clear C Q R k
  clear c7 f7
  have c8 := cell_of S.hg 8
  have f8 := frozen_of S.hg 8
  simp only [List.getElem?_toArray, List.getElem?_cons_succ, List.getElem?_cons_zero] at c8
  replace S : So w (w9.setCell ⟨w.heap.size + 1, 8, none⟩ (.string x8)) b B w.heap.size (w.heap.size + 1) #[.int .i64 x0, .int .i64 x1, .int .i64 x2, .int .i64 x3, .int .i64 x4, .int .i64 x5, .string x6, .slice ao n c, .string x8] t9 := S.put 8 _
  replace X := X.keep (S := [w.heap.size + 1]) ((Kp.refl _ _).setCell (p := ⟨w.heap.size + 1, 8, none⟩) (Or.inl (by simp)) (.string x8)) (fun z hz => by simp at hz; omega)
  go_upto_region 11 with fail
  clear c8 f8
  generalize w9.setCell ⟨w.heap.size + 1, 8, none⟩ (.string x8) = W9 at S X ⊢
  have e0 := cell_of S.hg 0
  have e1 := cell_of S.hg 1
  have e2 := cell_of S.hg 2
  have e3 := cell_of S.hg 3
  have e4 := cell_of S.hg 4
  have e5 := cell_of S.hg 5
  have e6 := cell_of S.hg 6
  have e7 := cell_of S.hg 7
  have e8 := cell_of S.hg 8
  have hr := S.hr
  simp only [z9] at hr
  have z0 := cell_of hr 0
  have z1 := cell_of hr 1
  have z2 := cell_of hr 2
  have z3 := cell_of hr 3
  have z4 := cell_of hr 4
  have z5 := cell_of hr 5
  have z6 := cell_of hr 6
  have z7 := cell_of hr 7
  have z8 := cell_of hr 8
  have fz := fun i => frozen_of hr i
  simp only [List.getElem?_toArray, List.getElem?_cons_succ, List.getElem?_cons_zero] at e0 e1 e2 e3 e4 e5 e6 e7 e8 z0 z1 z2 z3 z4 z5 z6 z7 z8
  have D := at9 hr (.int .i64 x0) (.int .i64 x1) (.int .i64 x2) (.int .i64 x3) (.int .i64 x4) (.int .i64 x5) (.string x6) (.slice ao n c) (.string x8)
  have kr : Kp [w.heap.size] W9 (put9 W9 w.heap.size (.int .i64 x0) (.int .i64 x1) (.int .i64 x2) (.int .i64 x3) (.int .i64 x4) (.int .i64 x5) (.string x6) (.slice ao n c) (.string x8)) := (Kp.refl _ _).put9 (Or.inl (by simp)) _ _ _ _ _ _ _ _ _
  have kz : Kp [b] w (put9 W9 w.heap.size (.int .i64 x0) (.int .i64 x1) (.int .i64 x2) (.int .i64 x3) (.int .i64 x4) (.int .i64 x5) (.string x6) (.slice ao n c) (.string x8)) := S.kp.put9 (Or.inr (Nat.le_refl _)) _ _ _ _ _ _ _ _ _
  have RZ := S.rr.kept kr (by have := S.bs; simp; omega) (fun z hz => by have := S.Bs; simp at hz; omega)
  have XZ := X.keep kr (fun z hz => by simp at hz; omega)
  have hbt := S.bt
  have HZ : Hid (Nine (put9 W9 w.heap.size (.int .i64 x0) (.int .i64 x1) (.int .i64 x2) (.int .i64 x3) (.int .i64 x4) (.int .i64 x5) (.string x6) (.slice ao n c) (.string x8)) w.heap.size 0 V (ao, n, c) ∧ Ar (put9 W9 w.heap.size (.int .i64 x0) (.int .i64 x1) (.int .i64 x2) (.int .i64 x3) (.int .i64 x4) (.int .i64 x5) (.string x6) (.slice ao n c) (.string x8)) (V, ao, n, c) ∧ (∀ k, k ∈ blk (.slice ao n c) → w.heap.size + 2 ≤ k) ∧ Rr (put9 W9 w.heap.size (.int .i64 x0) (.int .i64 x1) (.int .i64 x2) (.int .i64 x3) (.int .i64 x4) (.int .i64 x5) (.string x6) (.slice ao n c) (.string x8)) b B t9 ∧ byt t9.1 ∧ t9.1.length ≤ s.1.length ∧ Kp [b] w (put9 W9 w.heap.size (.int .i64 x0) (.int .i64 x1) (.int .i64 x2) (.int .i64 x3) (.int .i64 x4) (.int .i64 x5) (.string x6) (.slice ao n c) (.string x8))) := ⟨by rw [HV.out]; exact nine_of D, by unfold Ar; rw [HV.out]; exact XZ.ow, X.nw, RZ, hbt, L9.out, kz⟩
  clear D kr kz RZ XZ hbt S X hr
  unfold put9 at HZ
  go_wp2
  obtain ⟨⟨n0, n1, n2, n3, n4, n5, n6, n7, n8⟩, HZ2⟩ := HZ.out
  simp only [Nat.zero_add] at n0 n1 n2 n3 n4 n5 n6 n7 n8
  rw [HV.out] at n0 n1 n2 n3 n4 n5 n6 n8
  simp only at n0 n1 n2 n3 n4 n5 n6 n8
  refine bodyPost_ret (v := .agg #[.int .i64 x0, .int .i64 x1, .int .i64 x2, .int .i64 x3, .int .i64 x4, .int .i64 x5, .string x6, .slice ao n c, .string x8]) (by simp [results, go_sem, n0, n1, n2, n3, n4, n5, n6, n7, n8]) rfl ⟨(ao, n, c), ?_, HZ2⟩
  rw [HV.out]
  rfl

end Go.Proofs.YtpjkpobdkmcedaaDoor
