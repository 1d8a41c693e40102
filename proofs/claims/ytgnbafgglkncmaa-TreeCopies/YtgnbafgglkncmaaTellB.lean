/-
  Depth and Text of the program.
-/
import Derived.Test.YtgnbafgglkncmaaTell
import Derived.Test.YtgnbafgglkncmaaBu
namespace Go.Proofs.Ytgnbafgglkncmaa
open Go.RowKit
set_option linter.unusedVariables false

theorem least_nat {P : Nat → Prop} : ∀ n, P n → ∃ m, P m ∧ ∀ j, P j → m ≤ j := by
  intro n
  induction n using Nat.strongRecOn with
  | ind n ih =>
    intro h
    by_cases hx : ∃ m, m < n ∧ P m
    · obtain ⟨m, h1, h2⟩ := hx
      exact ih m h1 h2
    · exact ⟨n, h, fun j hj => Nat.le_of_not_lt (fun hlt => hx ⟨j, hlt, hj⟩)⟩

/-- How many rounds there are at most: a number for each state, out of what is known of it. -/
theorem least_of {α : Type} (R : α → Nat → Prop) : ∃ μ : α → Nat, ∀ a n, R a n → R a (μ a) ∧ μ a ≤ n := by
  classical
  refine ⟨fun a => if h : ∃ n, R a n then (least_nat h.choose h.choose_spec).choose else 0, fun a n hn => ?_⟩
  have h : ∃ n, R a n := ⟨n, hn⟩
  have hs := (least_nat h.choose h.choose_spec).choose_spec
  simp only [dif_pos h]
  exact ⟨hs.1, hs.2 n hn⟩

/-- The loop of Depth. -/
def RDepth (W : World) (s : Ws) (l : Lb) (k : Fo) (p : Pl) (N : Nat) (a : Value × Value × Value × World) (n : Nat) : Prop :=
  ∃ (m : Nat) (S : List Vt) (v : Value) (ao : Option Addr) (d : Int) (y : Bool), a.1 = .int .i64 m ∧ a.2.1 = .int .i64 d ∧ a.2.2.1 = .bool y ∧ deepV m S = N ∧ S.length = n ∧ Wl W a.2.2.2 (s.at v) S.tail l k p ∧ Come W a.2.2.2 (s.at v) S ao d y

theorem deepV_ge (S : List Vt) : ∀ m, m ≤ deepV m S := by
  induction S with
  | nil => exact fun m => Nat.le_refl _
  | cons v S ih => exact fun m => Nat.le_trans (Nat.le_max_left _ _) (ih _)

set_option maxHeartbeats 1000000 in
theorem depth_any (w : World) (l : Lb) (k : Fo) (p : Pl) (h : Nd Any w l k p) (hn : k.cnt ≤ 20000) :
    Calls Try.prog 19 #[wv l p] w fun e w' => e = .returned (.int .i64 (depthT l k : Nat)) ∧ Kp [] w w' := by
  obtain ⟨W, hW⟩ : ∃ W, W = w.alloc (.cells (six l p).toArray 25) := ⟨_, rfl⟩
  have k1 : Kp [] w W := by rw [hW]; exact (Kp.refl _ _).alloc _
  have HB := begin_c W W l k p (Kp.refl _ _) (h.kept k1) hn
  have hdeep : Hid (deepV 0 ((Fo.cons l k .nil).vis 0) = depthT l k) := by
    show deepV 0 ((Fo.cons l k .nil).vis 0) = depthT l k
    rw [deep_vis, if_neg (by simp), Fo.dep_cons, Fo.dep_nil]
    simp [depthT]
  have hct : depthT l k ≤ 20001 := by
    have := Fo.dep_le_cnt k
    unfold depthT; omega
  generalize depthT l k = N at hct hdeep ⊢
  clear h hn
  have HB' : Hid (∀ V, V = W → Calls Try.prog 32 #[wv l p] V fun e w' => ∃ s, e = .returned (.pointer (some ⟨s.P, 0, none⟩)) ∧ Wl W w' s ((Fo.cons l k .nil).vis 0) l k p ∧ Kp [] W w' ∧ ∀ x, x ∈ s.own → W.heap.size ≤ x) := fun V hV => by rw [hV]; exact HB
  have HW : Hid (w.alloc (.cells #[.int .i64 l.kind, .int .i64 l.ns, .string l.name, .slice p.1.1 p.1.2.1 p.1.2.2, .string l.text, .slice p.2.1 p.2.2.1 p.2.2.2] 25) = W) := hW.symm
  have KB : Hid (Kp [] w W) := k1
  clear HB k1 hW
  simp only [wv] at HB' ⊢
  go_enter Try.func19, Try.ntmps19
  go_wp2_with (first
    | (go_at_call 32; refine (HB'.out _ HW.out).mono ?_; rintro e w1 ⟨s, rfl, L1, _, _⟩)
    | (go_at_call 33; refine (next_c _ _ _ _ _ _ _ L1).mono ?_; rintro e w2 ⟨ao, d, y, v1, rfl, L2, N2, C2⟩))
  obtain ⟨μ, hμ⟩ := least_of (RDepth W s l k p N)
  go_loopw [3, 6, 7] (fun x3 x6 x7 wr => ∃ n, RDepth W s l k p N (x3, x6, x7, wr) n) (fun x3 x6 x7 wr => μ (x3, x6, x7, wr))
  case atStart => exact ⟨_, 0, _, v1, ao, d, y, rfl, rfl, rfl, hdeep.out, rfl, L2, C2⟩
  case round =>
    clear L2 N2 C2 L1 HB' hdeep
    obtain ⟨n0, hrel⟩ := hrel
    obtain ⟨m, S, v, ao, d, y, h3, h6, h7, hN, hS, L, C⟩ := (hμ _ _ hrel).1
    simp only at h3 h6 h7
    subst h3 h6 h7
    have KF : Hid (Kp [] w wr) := KB.out.trans L.kp (fun x hx => Or.inl hx)
    have HM : Hid (∀ a n, RDepth W s l k p N a n → μ a ≤ n) := fun a n hn => (hμ a n hn).2
    have HS : Hid (S.length = μ (.int .i64 m, .int .i64 d, .bool y, wr)) := hS
    clear hrel hμ hS
    cases S with
    | nil =>
      obtain ⟨rfl, rfl, rfl⟩ := C
      obtain rfl : m = N := hN
      clear L HM HS
      go_wp2
      go_ret
      exact ⟨rfl, KF.out⟩
    | cons u S =>
      obtain ⟨b, off, rfl, rfl, rfl, _⟩ := C
      have HN := next_c _ _ _ _ _ _ _ L
      simp only [List.tail_cons] at HN
      have hN2 : deepV (max m (u.1 + 1)) S = N := hN
      have hb1 := deepV_ge S (max m (u.1 + 1))
      have hb : u.1 < 20001 := by omega
      have hm : m < 20002 := by omega
      have HX : Hid (deepV (max m (u.1 + 1)) S = N) := hN2
      clear L hN hN2 hb1
      by_cases hc : m ≤ u.1 + 1
      · have e1 : max m (u.1 + 1) = u.1 + 1 := by omega
        rw [e1] at HX
        clear e1
        go_wp2_with (go_at_call 33; refine HN.mono ?_; rintro e w3 ⟨ao3, d3, y3, v3, rfl, L3, N3, C3⟩)
        go_roundw
        case rel => exact ⟨_, u.1 + 1, S, v3, ao3, d3, y3, by go_num, rfl, rfl, HX.out, rfl, L3, C3⟩
        case measure =>
          refine Nat.lt_of_le_of_lt (HM.out _ S.length ⟨u.1 + 1, S, v3, ao3, d3, y3, by go_num, rfl, rfl, HX.out, rfl, L3, C3⟩) ?_
          rw [← HS.out]; simp
      · have e1 : max m (u.1 + 1) = m := by omega
        rw [e1] at HX
        clear e1
        go_wp2_with (go_at_call 33; refine HN.mono ?_; rintro e w3 ⟨ao3, d3, y3, v3, rfl, L3, N3, C3⟩)
        go_roundw
        case rel => exact ⟨_, m, S, v3, ao3, d3, y3, by go_num, rfl, rfl, HX.out, rfl, L3, C3⟩
        case measure =>
          refine Nat.lt_of_le_of_lt (HM.out _ S.length ⟨m, S, v3, ao3, d3, y3, by go_num, rfl, rfl, HX.out, rfl, L3, C3⟩) ?_
          rw [← HS.out]; simp

/-- The loop of Text: the builder in block b holds what was told. -/
def RText (W : World) (s : Ws) (l : Lb) (k : Fo) (p : Pl) (b : Nat) (T : ByteArray) (a : Value × Value × World) (n : Nat) : Prop :=
  ∃ (S : List Vt) (v bv : Value) (t : ByteArray) (ao : Option Addr) (d : Int) (y : Bool), a.1 = .pointer ao ∧ a.2.1 = .bool y ∧ foldV textF t S = T ∧ S.length = n ∧ Wl W a.2.2 (s.at v) S.tail l k p ∧ Come W a.2.2 (s.at v) S ao d y ∧ Bu a.2.2 b bv t ∧ (∀ x, x ∈ b :: blk bv → W.heap.size ≤ x ∧ x ∉ (s.at v).own)

theorem foldV_ge (g : Lb → ByteArray) (S : List Vt) : ∀ t, t.size ≤ (foldV g t S).size := by
  induction S with
  | nil => exact fun t => Nat.le_refl _
  | cons v S ih => exact fun t => Nat.le_trans (by rw [ByteArray.size_append]; omega) (ih (t ++ g v.2.1))

/-- What next keeps of others' blocks. -/
theorem Nx.apart {W w w' : World} {s : Ws} {v' : Value} (n : Nx w w' s v') {b : Nat} {bv : Value} {t : ByteArray} (hb : Bu w b bv t) (hd : ∀ x, x ∈ b :: blk bv → W.heap.size ≤ x ∧ x ∉ s.own) : Bu w' b bv t ∧ ∀ x, x ∈ b :: blk bv → W.heap.size ≤ x ∧ x ∉ (s.at v').own := by
  have hlt : ∀ x, x ∈ b :: blk bv → x < w.heap.size := fun x hx => by
    rcases List.mem_cons.1 hx with rfl | h
    · obtain ⟨⟨q, _, h2⟩, _⟩ := hb
      exact (Array.getElem?_eq_some_iff.1 h2).1
    · exact hb.2.1.lt x h
  refine ⟨hb.keep n.kp (hd b (by simp)).2 (fun x hx => (hd x (by simp [hx])).2), fun x hx => ⟨(hd x hx).1, fun h => ?_⟩⟩
  rcases n.own x h with h1 | h1
  · exact (hd x hx).2 h1
  · have := hlt x hx; omega

/-- What the builder's calls keep of the walk. -/
theorem Bt.apart {W w w' : World} {s : Ws} {S : List Vt} {l : Lb} {k : Fo} {p : Pl} {b : Nat} {bv : Value} {t : ByteArray} (h : Bt w w' b bv t) (L : Wl W w s S l k p) (hd : ∀ x, x ∈ b :: blk bv → W.heap.size ≤ x ∧ x ∉ s.own) : Wl W w' s S l k p ∧ ∃ bv', Bu w' b bv' t ∧ (∀ x, x ∈ b :: blk bv' → W.heap.size ≤ x ∧ x ∉ s.own) ∧ Kp (b :: blk bv) w w' := by
  obtain ⟨bv', h1, h2, h3⟩ := h
  have hz := L.kp.size
  refine ⟨L.other h2 (fun x hx => (hd x hx).1) (fun x hx h => (hd x h).2 hx), bv', h1, fun x hx => ?_, h2⟩
  rcases List.mem_cons.1 hx with rfl | h
  · exact hd _ (by simp)
  · rcases h3 x h with h4 | h4
    · exact hd x (by simp [h4])
    · exact ⟨by omega, fun h5 => by have := L.lt x h5; omega⟩

set_option maxHeartbeats 1000000 in
theorem text_any (w : World) (l : Lb) (k : Fo) (p : Pl) (h : Nd Any w l k p) (hn : k.cnt ≤ 20000) (hs : (textT l k).size ≤ 1000000) :
    Calls Try.prog 20 #[wv l p] w fun e w' => e = .returned (.string (textT l k)) ∧ Kp [] w w' := by
  obtain ⟨W, hW⟩ : ∃ W, W = w.alloc (.cells (six l p).toArray 25) := ⟨_, rfl⟩
  have k1 : Kp [] w W := by rw [hW]; exact (Kp.refl _ _).alloc _
  have k2 : Kp [] W (W.alloc (.cells #[.pointer none, .slice none 0 0] 69)) := (Kp.refl _ _).alloc _
  have HB := begin_c W _ l k p k2 (h.kept k1) hn
  have hfold : Hid (foldV textF ⟨#[]⟩ ((Fo.cons l k .nil).vis 0) = textT l k) := by
    show foldV textF ⟨#[]⟩ ((Fo.cons l k .nil).vis 0) = textT l k
    rw [fold_vis, Fo.fold_cons, Fo.fold_nil, Fo.none_cat, Fo.cat_none]
    rfl
  have HU : Hid (Bu (W.alloc (.cells #[.pointer none, .slice none 0 0] 69)) W.heap.size (.slice none 0 0) ⟨#[]⟩) := bu_new W
  generalize textT l k = T at hs hfold ⊢
  have HB' : Hid (∀ V, V = W → Calls Try.prog 32 #[wv l p] (V.alloc (.cells #[.pointer none, .slice none 0 0] 69)) fun e w' => ∃ s, e = .returned (.pointer (some ⟨s.P, 0, none⟩)) ∧ Wl W w' s ((Fo.cons l k .nil).vis 0) l k p ∧ Kp [] (W.alloc (.cells #[.pointer none, .slice none 0 0] 69)) w' ∧ ∀ x, x ∈ s.own → (W.alloc (.cells #[.pointer none, .slice none 0 0] 69)).heap.size ≤ x) := fun V hV => by rw [hV]; exact HB
  have HW : Hid (w.alloc (.cells #[.int .i64 l.kind, .int .i64 l.ns, .string l.name, .slice p.1.1 p.1.2.1 p.1.2.2, .string l.text, .slice p.2.1 p.2.2.1 p.2.2.2] 25) = W) := hW.symm
  have KB : Hid (Kp [] w W) := k1
  have hWs : w.heap.size + 1 = W.heap.size := by rw [hW]; simp
  clear HB k1 hW h hn k2
  simp only [wv] at HB' ⊢
  go_enter Try.func20, Try.ntmps20
  go_wp2_with (first
    | (go_at_call 32; refine (HB'.out _ HW.out).mono ?_; rintro e w1 ⟨s, rfl, L1, K1, O1⟩; have B1 : Hid (Bu w1 W.heap.size (.slice none 0 0) ⟨#[]⟩ ∧ ∀ x, x ∈ W.heap.size :: blk (.slice none 0 0) → W.heap.size ≤ x ∧ x ∉ s.own) := ⟨HU.out.keep K1 (by simp) (fun _ _ => by simp), fun x hx => by simp [blk] at hx; subst hx; exact ⟨Nat.le_refl _, fun h => by have := O1 _ h; simp at this; omega⟩⟩)
    | (go_at_call 33; refine (next_c _ _ _ _ _ _ _ L1).mono ?_; rintro e w2 ⟨ao, d, y, v1, rfl, L2, N2, C2⟩))
  have B2 : Hid _ := N2.apart B1.out.1 B1.out.2
  obtain ⟨μ, hμ⟩ := least_of (RText W s l k p W.heap.size T)
  clear hWs
  go_loopw [5, 7] (fun x5 x7 wr => ∃ n, RText W s l k p W.heap.size T (x5, x7, wr) n) (fun x5 x7 wr => μ (x5, x7, wr))
  case atStart => exact ⟨_, _, v1, _, _, ao, d, y, rfl, rfl, hfold.out, rfl, L2, C2, B2.out.1, B2.out.2⟩
  case round =>
    clear L2 N2 C2 L1 HB' hfold B1 B2 K1 O1 HU
    obtain ⟨n0, hrel⟩ := hrel
    obtain ⟨S, v, bv, t, ao, d, y, h5, h7, hN, hS, L, C, hb, hd⟩ := (hμ _ _ hrel).1
    simp only at h5 h7
    subst h5 h7
    have KF : Hid (Kp [] w wr) := KB.out.trans L.kp (fun x hx => Or.inl hx)
    have HM : Hid (∀ a n, RText W s l k p W.heap.size T a n → μ a ≤ n) := fun a n hn => (hμ a n hn).2
    have HS : Hid (S.length = μ (.pointer ao, .bool y, wr)) := hS
    clear hrel hμ hS
    cases S with
    | nil =>
      obtain ⟨rfl, rfl, rfl⟩ := C
      obtain rfl : t = T := hN
      have HST := bu_string W wr W.heap.size bv t hb L.kp (Nat.le_refl _) (fun x hx => (hd x (by simp [hx])).1)
      clear L HM HS hb hd
      go_wp2_with (go_at_call 45; refine HST.mono ?_; rintro e w4 ⟨rfl, k4⟩)
      go_ret
      exact ⟨rfl, KB.out.trans k4 (fun x hx => Or.inl hx)⟩
    | cons u S =>
      obtain ⟨b, off, rfl, rfl, rfl, p', hc, _, _⟩ := C
      obtain ⟨c0, c1, c2, c3, c4, c5⟩ := hc.cells
      clear hc c1 c2 c3 c5
      simp only [List.tail_cons] at L
      have hN2 : foldV textF (t ++ textF u.2.1) S = T := hN
      have hle := foldV_ge textF S (t ++ textF u.2.1)
      rw [hN2, ByteArray.size_append] at hle
      have HX : Hid (foldV textF (t ++ textF u.2.1) S = T) := hN2
      clear hN hN2
      by_cases hc : u.2.1.kind = 4
      · have e1 : textF u.2.1 = u.2.1.text := by unfold textF; rw [if_pos hc]
        rw [e1] at HX hle
        have q1 : ((u.2.1.kind : Int) == 4) = true := by simpa using hc
        have HWR := bu_write wr W.heap.size bv t u.2.1.text hb (by omega)
        have HL : Hid (∀ w3, Bt wr w3 W.heap.size bv (t ++ u.2.1.text) → Wl W w3 (s.at v) S l k p ∧ ∃ bv', Bu w3 W.heap.size bv' (t ++ u.2.1.text) ∧ (∀ x, x ∈ W.heap.size :: blk bv' → W.heap.size ≤ x ∧ x ∉ (s.at v).own) ∧ Kp (W.heap.size :: blk bv) wr w3) := fun w3 h3 => h3.apart L hd
        clear L hb hd hc e1 hle
        go_wp2_with (first
          | (go_at_call 42; refine HWR.mono ?_; rintro e w3 ⟨rfl, B3⟩; obtain ⟨L3, bv', b3, d3, _⟩ := HL.out _ B3)
          | (go_at_call 33; refine (next_c _ _ _ _ _ _ _ L3).mono ?_; rintro e w4 ⟨ao4, d4, y4, v4, rfl, L4, N4, C4⟩))
        have B4 : Hid _ := N4.apart b3 d3
        go_roundw
        case rel => exact ⟨_, S, v4, _, _, ao4, d4, y4, rfl, rfl, HX.out, rfl, L4, C4, B4.out.1, B4.out.2⟩
        case measure =>
          refine Nat.lt_of_le_of_lt (HM.out _ S.length ⟨S, v4, _, _, ao4, d4, y4, rfl, rfl, HX.out, rfl, L4, C4, B4.out.1, B4.out.2⟩) ?_
          rw [← HS.out]; simp
      · have e1 : textF u.2.1 = ⟨#[]⟩ := by unfold textF; rw [if_neg hc]; rfl
        rw [e1, Fo.cat_none] at HX
        have q1 : ((u.2.1.kind : Int) == 4) = false := by simpa using hc
        have HN := next_c _ _ _ _ _ _ _ L
        have HD : Hid (Bu wr W.heap.size bv t ∧ ∀ x, x ∈ W.heap.size :: blk bv → W.heap.size ≤ x ∧ x ∉ (s.at v).own) := ⟨hb, hd⟩
        clear L hb hd hc e1 hle
        go_wp2_with (go_at_call 33; refine HN.mono ?_; rintro e w4 ⟨ao4, d4, y4, v4, rfl, L4, N4, C4⟩)
        have B4 : Hid _ := N4.apart HD.out.1 HD.out.2
        go_roundw
        case rel => exact ⟨_, S, v4, _, _, ao4, d4, y4, rfl, rfl, HX.out, rfl, L4, C4, B4.out.1, B4.out.2⟩
        case measure =>
          refine Nat.lt_of_le_of_lt (HM.out _ S.length ⟨S, v4, _, _, ao4, d4, y4, rfl, rfl, HX.out, rfl, L4, C4, B4.out.1, B4.out.2⟩) ?_
          rw [← HS.out]; simp

end Go.Proofs.Ytgnbafgglkncmaa
