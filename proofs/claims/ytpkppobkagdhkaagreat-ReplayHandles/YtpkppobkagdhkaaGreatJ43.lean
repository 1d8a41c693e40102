/-
  Joined: Rph Sam Kno.
-/
import Derived.Test.YtpkppobkagdhkaaGreatJ40
import Derived.Test.YtpkppobkagdhkaaGreatJ37
import Derived.Test.YtpkppobkagdhkaaGreatJ38

/-
  The document's Play.
-/
namespace Go.Proofs.YtpkppobkagdhkaaGreat
open Go.RowKit Go.Maps Utf
set_option linter.unusedVariables false
set_option linter.unusedSimpArgs false

/-- What Play tells. -/
def Du (w' : World) (q : List Oq) (ptr : Option Addr) (j ec : Int) : Prop :=
  (Py.playF Py.first (os q)).2 = (j.toNat, ec) ∧ 0 ≤ j ∧ ((ec = 0 ∧ ∃ a tag, ptr = some ⟨a, 0, none⟩ ∧ Dn tag w' a (Py.playF Py.first (os q)).1.q (Py.playF Py.first (os q)).1.A ∧ (Py.playF Py.first (os q)).1.Fit q.length) ∨ (ec ≠ 0 ∧ ptr = none))

set_option maxRecDepth 100000 in
set_option maxHeartbeats 1000000 in
theorem rplay_any (w : World) (ao : Option Addr) (n c : Nat) (q : List Oq) (hz : Ry w ao n c q) (hn : n ≤ 1300) :
    Calls Tryz.prog 27 #[.slice ao n c] w fun e w' => ∃ ptr j ec, e = .returned (.tuple #[.pointer ptr, .int .i64 j, .int .i64 ec]) ∧ Du w' q ptr j ec ∧ Kp [] w w' := by
  have HN := rplayer_any w (fun _ => 0)
  have hlen := hz.rq.len
  have HD : Hid (∀ i (hi : i < q.length), ∃ b0 off, ao = some ⟨b0, off, none⟩ ∧ ∀ tag V s b d l1 l2, Pd tag V b d l1 l2 s i → Qv (fun _ => 0) w tag V → Nine V b0 (off + i * 9) q[i].1 q[i].2 ∧ ∀ U, Kp [] V U → Calls Tryz.prog 31 #[.pointer (some ⟨b, 0, none⟩), ov q[i].1 q[i].2] U fun e w' => e = .returned (.int .i64 (s.doF q[i].1).2) ∧ ∃ tag' l1' l2', Pd tag' w' b d l1' l2' (s.doF q[i].1).1 (i + 1) ∧ Qv (fun _ => 0) w tag' w') := fun i hi => by
    obtain ⟨b0, off, e0, _⟩ := hz.rq.get i hi
    refine ⟨b0, off, e0, fun tag V s b d l1 l2 P v => ⟨?_, fun U kU => ?_⟩⟩
    · obtain ⟨b1, off1, e1, n1⟩ := (hz.rq.kept (v.kp (fun _ _ => rfl))).get i hi
      rw [e0] at e1
      simp only [Option.some.injEq, Addr.mk.injEq] at e1
      obtain ⟨rfl, rfl, _⟩ := e1
      exact n1
    · have hm : q[i] ∈ q := List.getElem_mem hi
      have r0 : R0 (fun _ => 0) w q[i].2 q[i].1.al := (hz.at' _ hm).mono (fun _ _ _ => rfl)
      refine (rdo_any (P.kept kU) (by omega) (hz.ti _ hm) ((r0.qv v).kept kU)).mono ?_
      rintro e w' ⟨rfl, tag', l1', l2', p', v'⟩
      exact ⟨rfl, tag', l1', l2', p', v.trans ((Qv.of_kp0 kU).trans v')⟩
  clear hz
  obtain ⟨R, hR⟩ : ∃ R, Py.playF Py.first (os q) = R := ⟨_, rfl⟩
  unfold Du
  rw [hR]
  have HR : Hid (Py.playF Py.first (os q) = R) := hR
  subst hlen
  go_enter Tryz.func27, Tryz.ntmps27
  go_wp2_with (go_at_call 30; refine HN.mono ?_; rintro e W1 ⟨b, d, l1, l2, tag1, rfl, p1, v1⟩)
  have H0 : Hid (Pd tag1 W1 b d l1 l2 Py.first 0 ∧ Qv (fun _ => 0) w tag1 W1) := ⟨p1, v1⟩
  clear HN p1 v1 hR
  go_loopw [6] (fun v wr => ∃ (i : Nat) (tag : Nat → Nat) (s : Py) (j : Nat) (l1 l2 : Sl), v = .int .i64 (i : Int) ∧ i ≤ q.length ∧ Pd tag wr b d l1 l2 s i ∧ Qv (fun _ => 0) w tag wr ∧ Py.playF s ((os q).drop i) = (R.1, j, R.2.2) ∧ i + j = R.2.1) (fun v _ => q.length - (intOf v).toNat)
  case atStart => exact ⟨0, tag1, Py.first, R.2.1, l1, l2, rfl, Nat.zero_le _, H0.out.1, H0.out.2, HR.out, Nat.zero_add _⟩
  case round =>
    obtain ⟨i, tag, s, j, k1, k2, rfl, hi, P, v, hp, hj⟩ := hrel
    clear H0 HR
    by_cases hlt : i < q.length
    · obtain ⟨b0, off, rfl, HD2⟩ := HD.out i hlt
      obtain ⟨N9, HDo⟩ := HD2 tag wr s b d k1 k2 P v
      obtain ⟨f0, f1, f2, f3, f4, f5, f6, f7, f8⟩ := N9
      have HDo := HDo _ (Kp.refl _ _)
      have hs := Py.play_step (s := s) (l := os q) (i := i) (by simpa using hlt) rfl
      rw [os_get hlt, hp] at hs
      have j0 : (0 : Int) ≤ (i : Int) := by omega
      have j1 : (i : Int) < (q.length : Int) := by omega
      clear HD HD2
      unfold ov at HDo
      generalize q[i] = x at *
      by_cases hc : (s.doF x.1).2 = 0
      · rw [hc] at HDo
        rw [if_pos hc] at hs
        have HS : Hid (Py.playF (s.doF x.1).1 ((os q).drop (i + 1)) = (R.1, j - 1, R.2.2) ∧ i + 1 + (j - 1) = R.2.1) := by
          obtain ⟨e1, e2, e3⟩ : R.1 = (Py.playF (s.doF x.1).1 ((os q).drop (i + 1))).1 ∧ j = (Py.playF (s.doF x.1).1 ((os q).drop (i + 1))).2.1 + 1 ∧ R.2.2 = (Py.playF (s.doF x.1).1 ((os q).drop (i + 1))).2.2 := by simpa using hs
          refine ⟨?_, by omega⟩
          rw [e1, e2, e3]
          simp
        clear hs hp hj P v hc
        go_wp2_with (go_at_call 31; refine HDo.mono ?_; rintro e W2 ⟨rfl, tag2, k3, k4, p2, v2⟩)
        go_roundw
        case rel => exact ⟨i + 1, tag2, _, j - 1, k3, k4, by go_num, by omega, p2, v2, HS.out⟩
        case measure => simp [intOf]; omega
      · rw [if_neg hc] at hs
        obtain ⟨e1, e2, e3⟩ : R.1 = s ∧ j = 0 ∧ R.2.2 = (s.doF x.1).2 := by simpa using hs
        have hc2 : ((s.doF x.1).2 != 0) = true := by simpa using hc
        have HE : Hid (R.2 = (((i : Int)).toNat, (s.doF x.1).2)) := by
          rw [← e3]
          have : R.2.1 = i := by omega
          rw [Int.toNat_natCast, ← this]
          exact rfl
        clear hs hp hj P v e1 e2 e3
        go_wp2_with (go_at_call 31; refine HDo.mono ?_; rintro e W2 ⟨rfl, tag2, k3, k4, p2, v2⟩)
        go_ret3
        exact ⟨none, _, _, rfl, ⟨HE.out, by omega, .inr ⟨hc, rfl⟩⟩, v2.kp (fun _ _ => rfl)⟩
    · obtain rfl : i = q.length := by omega
      rw [List.drop_eq_nil_of_le (by simp)] at hp
      obtain ⟨e1, e2, e3⟩ : s = R.1 ∧ 0 = j ∧ 0 = R.2.2 := by simpa [Py.playF] using hp
      obtain ⟨c0, _⟩ := P.head
      have HE : Hid (R.2 = (((q.length : Int)).toNat, 0) ∧ Dn tag wr d R.1.q R.1.A ∧ R.1.Fit q.length) := by
        refine ⟨?_, by rw [← e1]; exact ⟨P.dn, P.fit⟩⟩
        have : R.2.1 = q.length := by omega
        rw [Int.toNat_natCast, ← this, e3]
      have hK : Hid (Kp [] w wr) := v.kp (fun _ _ => rfl)
      clear HD P v hp e1 e2 e3 hj hlt hi
      go_wp2
      go_ret3
      exact ⟨_, _, _, rfl, ⟨HE.out.1, by omega, .inl ⟨rfl, _, _, rfl, HE.out.2⟩⟩, hK.out⟩

end Go.Proofs.YtpkppobkagdhkaaGreat

/-
  same of the law: operations are done as the document says.
-/
namespace Go.Proofs.YtpkppobkagdhkaaGreat
open Go.RowKit Go.Maps Utf
set_option linter.unusedVariables false
set_option linter.unusedSimpArgs false

/-- Trees held against each other. -/
theorem ktree_any (w : World) (l l' : Lb) (k k' : Fo) (p p' : Pl) (h : Nd Any w l k p) (h' : Nd Any w l' k' p') (ho : okT l k) (ho' : okT l' k') :
    Calls Tryz.prog 17 #[wv l p, wv l' p'] w fun e w' => e = .returned (.bool (sameT l k l' k')) ∧ Kp [] w w' := by
  obtain ⟨W2, hW2⟩ : ∃ W, W = (w.alloc (.cells (six l p).toArray 40)).alloc (.cells (six l' p').toArray 40) := ⟨_, rfl⟩
  have k2 : Kp [] w W2 := by rw [hW2]; exact ((Kp.refl _ _).alloc _).alloc _
  have H := ref_tsame_any l k W2 p l' k' p' (h.kept k2) (h'.kept k2) ho ho'
  have HW : Hid ((w.alloc (.cells (six l p).toArray 40)).alloc (.cells (six l' p').toArray 40) = W2) := hW2.symm
  clear h h' ho ho' hW2
  generalize sameT l k l' k' = r at *
  rw [six_arr, six_arr] at HW
  unfold wv at *
  go_enter Tryz.func17, Tryz.ntmps17
  go_wp2_with fail
  rw [HW.out]
  refine H.mono ?_
  rintro e w2 ⟨rfl, k3⟩
  go_wp2
  go_ret
  exact ⟨rfl, k2.trans k3 (fun x hx => Or.inl hx)⟩

theorem Py.Fit.okT {s : Py} {k : Nat} (h : s.Fit k) (x : Nat) : okT (s.A.lb x) (s.A.below x) := by
  have hk := h.hk
  refine h.ful.toOk.okT (by have := h.sz.n; omega) (fun y => ?_) x
  obtain ⟨_, _, t⟩ := h.sz.lbs y
  exact ⟨by have := t.len; omega, t.fits⟩

/-- Trees of one node, wherever they lie, are the same. -/
theorem same_tree {s : Py} {k : Nat} (h : s.Fit k) (w : World) (x : Nat) (p p' : Pl) (n1 : Nd Any w (s.A.lb x) (s.A.below x) p) (n2 : Nd Any w (s.A.lb x) (s.A.below x) p') :
    Calls Tryz.prog 17 #[wv (s.A.lb x) p, wv (s.A.lb x) p'] w fun e w' => e = .returned (.bool true) ∧ Kp [] w w' := by
  have := ktree_any w _ _ _ _ p p' n1 n2 (h.okT x) (h.okT x)
  rw [(sameT_iff _ _ _ _).2 ⟨rfl, rfl⟩] at this
  exact this

section
variable {w : World} {ao : Option Addr} {n c : Nat} {q : List Oq}

/-- The player that Done leaves. -/
abbrev fin (q : List Oq) : Py := Py.aft Py.first (os q)

theorem replay_ok (hz : Ry w ao n c q) (hn : n ≤ 1300) (hd : Py.Done Py.first (os q)) :
    Calls Tryz.prog 18 #[.slice ao n c] w fun e w' => ∃ a tag, e = .returned (.tuple #[.pointer (some ⟨a, 0, none⟩), .int .i64 (n : Int), .int .i64 0]) ∧ Ps tag w' a (fin q).q (fin q).A n ∧ Kp [] w w' := by
  have hl := hz.rq.len
  refine (replay_any w ao n c q hz hn).mono ?_
  rintro e w' ⟨ptr, j, ec, rfl, ⟨h1, h2, h3⟩, k1⟩
  rw [hd.play] at h1 h3
  obtain ⟨e1, rfl⟩ : (os q).length = j.toNat ∧ 0 = ec := by simpa using h1
  rw [List.length_map, ← hl] at e1
  obtain rfl : j = (n : Int) := by omega
  rcases h3 with ⟨_, a, tag, rfl, P⟩ | ⟨h3, _⟩
  · exact ⟨a, tag, rfl, by rw [hl]; exact P, k1⟩
  · exact absurd rfl h3

theorem rplay_ok (hz : Ry w ao n c q) (hn : n ≤ 1300) (hd : Py.Done Py.first (os q)) :
    Calls Tryz.prog 27 #[.slice ao n c] w fun e w' => ∃ d tag, e = .returned (.tuple #[.pointer (some ⟨d, 0, none⟩), .int .i64 (n : Int), .int .i64 0]) ∧ Dn tag w' d (fin q).q (fin q).A ∧ (fin q).Fit n ∧ Kp [] w w' := by
  have hl := hz.rq.len
  refine (rplay_any w ao n c q hz hn).mono ?_
  rintro e w' ⟨ptr, j, ec, rfl, ⟨h1, h2, h3⟩, k1⟩
  rw [hd.play] at h1 h3
  obtain ⟨e1, rfl⟩ : (os q).length = j.toNat ∧ 0 = ec := by simpa using h1
  rw [List.length_map, ← hl] at e1
  obtain rfl : j = (n : Int) := by omega
  rcases h3 with ⟨_, a, tag, rfl, P, f⟩ | ⟨h3, _⟩
  · exact ⟨a, tag, rfl, P, by rw [hl]; exact f, k1⟩
  · exact absurd rfl h3

theorem replay_no (hz : Ry w ao n c q) (hn : n ≤ 1300) (hd : (Py.playF Py.first (os q)).2.2 ≠ 0) :
    Calls Tryz.prog 18 #[.slice ao n c] w fun e w' => e = .returned (.tuple #[.pointer none, .int .i64 ((Py.playF Py.first (os q)).2.1 : Int), .int .i64 (Py.playF Py.first (os q)).2.2]) ∧ Kp [] w w' := by
  refine (replay_any w ao n c q hz hn).mono ?_
  rintro e w' ⟨ptr, j, ec, rfl, ⟨h1, h2, h3⟩, k1⟩
  rw [h1] at hd ⊢
  rcases h3 with ⟨h3, _⟩ | ⟨h3, rfl⟩
  · exact absurd h3 hd
  · exact ⟨by rw [show ((j.toNat : Nat) : Int) = j by omega], k1⟩

theorem rplay_no (hz : Ry w ao n c q) (hn : n ≤ 1300) (hd : (Py.playF Py.first (os q)).2.2 ≠ 0) :
    Calls Tryz.prog 27 #[.slice ao n c] w fun e w' => e = .returned (.tuple #[.pointer none, .int .i64 ((Py.playF Py.first (os q)).2.1 : Int), .int .i64 (Py.playF Py.first (os q)).2.2]) ∧ Kp [] w w' := by
  refine (rplay_any w ao n c q hz hn).mono ?_
  rintro e w' ⟨ptr, j, ec, rfl, ⟨h1, h2, h3⟩, k1⟩
  rw [h1] at hd ⊢
  rcases h3 with ⟨h3, _⟩ | ⟨h3, rfl⟩
  · exact absurd h3 hd
  · exact ⟨by rw [show ((j.toNat : Nat) : Int) = j by omega], k1⟩

set_option maxRecDepth 100000 in
set_option maxHeartbeats 1000000 in
theorem same_no (hz : Ry w ao n c q) (hn : n ≤ 1300) (hd : (Py.playF Py.first (os q)).2.2 ≠ 0) :
    Calls Tryz.prog 9 #[.slice ao n c] w fun e w' => e = .returned (.bool true) ∧ Kp [] w w' := by
  have H1 := replay_no hz hn hd
  have H2 : Hid (∀ V, Kp [] w V → Calls Tryz.prog 27 #[.slice ao n c] V fun e w' => e = .returned (.tuple #[.pointer none, .int .i64 ((Py.playF Py.first (os q)).2.1 : Int), .int .i64 (Py.playF Py.first (os q)).2.2]) ∧ Kp [] V w') := fun V kV => rplay_no (hz.kept kV) hn hd
  have H3 : Hid (∀ V, Kp [] w V → Calls Tryz.prog 24 #[.slice ao n c] V fun e w' => e = .returned (.int .i64 (Py.playF Py.first (os q)).2.2) ∧ Kp [] V w') := fun V kV => check_any V ao n c q (hz.kept kV) hn
  clear hz
  generalize (Py.playF Py.first (os q)).2.1 = j at *
  generalize (Py.playF Py.first (os q)).2.2 = ec at *
  have t1 : (ec == 0) = false := by simpa using hd
  have t2 : (ec != ec) = false := by simp
  have t3 : ((j : Int) != (j : Int)) = false := by simp
  go_enter Tryz.func9, Tryz.ntmps9
  go_wp2_with (first | (go_at_call 18; refine H1.mono ?_; rintro e W1 ⟨rfl, k1⟩) | (go_at_call 27; refine (H2.out _ k1).mono ?_; rintro e W2 ⟨rfl, k2⟩; have k2 := k1.trans k2 (fun x hx => Or.inl hx)) | (go_at_call 24; refine (H3.out _ k2).mono ?_; rintro e W3 ⟨rfl, k3⟩; have k3 := k2.trans k3 (fun x hx => Or.inl hx)))
  go_ret
  exact ⟨rfl, k3⟩

set_option maxRecDepth 100000 in
set_option maxHeartbeats 1000000 in
theorem same_ok (hz : Ry w ao n c q) (hn : n ≤ 1300) (hd : Py.Done Py.first (os q)) :
    Calls Tryz.prog 9 #[.slice ao n c] w fun e w' => e = .returned (.bool true) ∧ Kp [] w w' := by
  have H1 := replay_ok hz hn hd
  have H2 : Hid (∀ V, Kp [] w V → Calls Tryz.prog 27 #[.slice ao n c] V fun e w' => ∃ d tag, e = .returned (.tuple #[.pointer (some ⟨d, 0, none⟩), .int .i64 (n : Int), .int .i64 0]) ∧ Dn tag w' d (fin q).q (fin q).A ∧ (fin q).Fit n ∧ Kp [] V w') := fun V kV => rplay_ok (hz.kept kV) hn hd
  have H3 : Hid (∀ V, Kp [] w V → Calls Tryz.prog 24 #[.slice ao n c] V fun e w' => e = .returned (.int .i64 0) ∧ Kp [] V w') := fun V kV => by
    have := check_any V ao n c q (hz.kept kV) hn
    rw [hd.play] at this
    exact this
  clear hz hd
  generalize fin q = s at *
  have t3 : ((n : Int) != (n : Int)) = false := by simp
  go_enter Tryz.func9, Tryz.ntmps9
  go_upto_region 7 with (first | (go_at_call 18; refine H1.mono ?_; rintro e W1 ⟨a, tag, rfl, P1, k1⟩) | (go_at_call 27; refine (H2.out _ k1).mono ?_; rintro e W2 ⟨d, tag2, rfl, D2, fit, k12⟩; have k2 := k1.trans k12 (fun x hx => Or.inl hx)) | (go_at_call 24; refine (H3.out _ k2).mono ?_; rintro e W3 ⟨rfl, k23⟩; have k3 := k2.trans k23 (fun x hx => Or.inl hx)))
  have P3 := (P1.kept k12).kept k23
  have D3 := D2.kept k23
  obtain ⟨g, o, cc, pl, D⟩ := D3
  have HP : Calls Tryz.prog 14 #[.pointer (some ⟨a, 0, none⟩), .int .i64 0] W3 fun e w' => ∃ p, e = .returned (.tuple #[wv (s.A.lb 0) p, .int .i64 0]) ∧ Kp [] W3 w' ∧ Nd Any w' (s.A.lb 0) (s.A.below 0) p := by
    refine (P3.pure 0 fit.pos).mono ?_
    rintro e w' ⟨p, rfl, k1, n1⟩
    exact ⟨p, rfl, k1, n1.any⟩
  have HR : Hid (∀ V, Kp [] W3 V → Calls Tryz.prog 28 #[.pointer (some ⟨d, 0, none⟩), .int .i64 0] V fun e w' => ∃ p, e = .returned (wv (s.A.lb 0) p) ∧ Kp [] V w' ∧ Nd Any w' (s.A.lb 0) (s.A.below 0) p) := fun V kV => by
    refine (rpure_any (D.kept kV) fit.ful.toOk (by have := fit.bnd.1; omega) 0 fit.pos).mono ?_
    rintro e w' ⟨p, rfl, k1, n1⟩
    exact ⟨p, rfl, k1, n1.any⟩
  have HT : Hid (∀ V p p', Nd Any V (s.A.lb 0) (s.A.below 0) p → Nd Any V (s.A.lb 0) (s.A.below 0) p' → Calls Tryz.prog 17 #[wv (s.A.lb 0) p, wv (s.A.lb 0) p'] V fun e w' => e = .returned (.bool true) ∧ Kp [] V w') := fun V p p' n1 n2 => same_tree fit V 0 p p' n1 n2
  have HL : Hid (∀ V, Kp [] W3 V → Calls Tryz.prog 15 #[.pointer (some ⟨a, 0, none⟩)] V fun e w' => e = .returned (.int .i64 (s.A.n : Int)) ∧ w' = V) := fun V kV => (P3.kept kV).len
  have HQ : Hid (∀ V, Kp [] W3 V → Calls Tryz.prog 19 #[.pointer (some ⟨a, 0, none⟩)] V fun e w' => e = .returned (.bool s.q) ∧ w' = V) := fun V kV => (P3.kept kV).quirky
  have HC : Hid (∀ V, Kp [] W3 V → V.cell? ⟨d, 0, none⟩ = some (.slice (some ⟨g, o, none⟩) s.A.n cc) ∧ V.cell? ⟨d, 1, none⟩ = some (.bool s.q)) := fun V kV => (D.kept kV).head
  have k39 : Hid (Kp [] w W3) := k3
  clear P1 P3 D2 D k1 k12 k23 k2 k3 fit H1 H2 H3 t3
  unfold wv at HP HR HT
  go_upto_region 8 with (go_at_call 14; refine HP.mono ?_; rintro e W4 ⟨p, rfl, k4, n4⟩)
  obtain ⟨W5, hW5⟩ : ∃ W, W = W4.alloc (.cells #[.int .i64 (s.A.lb 0).kind, .int .i64 (s.A.lb 0).ns, .string (s.A.lb 0).name, .slice p.1.1 p.1.2.1 p.1.2.2, .string (s.A.lb 0).text, .slice p.2.1 p.2.2.1 p.2.2.2] 40) := ⟨_, rfl⟩
  have k45 : Kp [] W4 W5 := by rw [hW5]; exact (Kp.refl _ _).alloc _
  have a6 : At W5 W4.heap.size #[.int .i64 (s.A.lb 0).kind, .int .i64 (s.A.lb 0).ns, .string (s.A.lb 0).name, .slice p.1.1 p.1.2.1 p.1.2.2, .string (s.A.lb 0).text, .slice p.2.1 p.2.2.1 p.2.2.2] 40 := by rw [hW5]; exact At.new _ _ _
  rw [← hW5]
  clear hW5
  generalize W4.heap.size = g6 at *
  have n5 := n4.kept k45
  have k35 := k4.trans k45 (fun x hx => Or.inl hx)
  have HF : Hid (∀ V, Kp [] W5 V → (V.cell? ⟨g6, 0, none⟩ = some (.int .i64 (s.A.lb 0).kind) ∧ V.cell? ⟨g6, 1, none⟩ = some (.int .i64 (s.A.lb 0).ns) ∧ V.cell? ⟨g6, 2, none⟩ = some (.string (s.A.lb 0).name) ∧ V.cell? ⟨g6, 3, none⟩ = some (.slice p.1.1 p.1.2.1 p.1.2.2) ∧ V.cell? ⟨g6, 4, none⟩ = some (.string (s.A.lb 0).text) ∧ V.cell? ⟨g6, 5, none⟩ = some (.slice p.2.1 p.2.2.1 p.2.2.2)) ∧ V.cell? ⟨d, 0, none⟩ = some (.slice (some ⟨g, o, none⟩) s.A.n cc) ∧ V.cell? ⟨d, 1, none⟩ = some (.bool s.q)) := fun V kV => ⟨(a6.kept kV (by simp)).six, HC.out _ (k35.trans kV (fun x hx => Or.inl hx))⟩
  clear a6 HP n4 k4 k45 HC
  obtain ⟨U5, hU5⟩ : ∃ V, V = W5.drew := ⟨_, rfl⟩
  have k5 : Kp [] W5 U5 := by rw [hU5]; exact (Kp.refl _ _).drew
  refine wp_region_g (S := fun V => (V.cell? ⟨g6, 0, none⟩ = some (.int .i64 (s.A.lb 0).kind) ∧ V.cell? ⟨g6, 1, none⟩ = some (.int .i64 (s.A.lb 0).ns) ∧ V.cell? ⟨g6, 2, none⟩ = some (.string (s.A.lb 0).name) ∧ V.cell? ⟨g6, 3, none⟩ = some (.slice p.1.1 p.1.2.1 p.1.2.2) ∧ V.cell? ⟨g6, 4, none⟩ = some (.string (s.A.lb 0).text) ∧ V.cell? ⟨g6, 5, none⟩ = some (.slice p.2.1 p.2.2.1 p.2.2.2)) ∧ V.cell? ⟨d, 0, none⟩ = some (.slice (some ⟨g, o, none⟩) s.A.n cc) ∧ V.cell? ⟨d, 1, none⟩ = some (.bool s.q)) (T := []) (by kernel_rfl) (HF.out _ (Kp.refl _ _).drew) (fun hHeld => ?_)
  rw [← hU5] at hHeld ⊢
  clear hU5
  refine g_pure 0 (some 51) (.move (.tmp 10)) ?_
  refine g_pure 1 (some 52) (.binOp .eql 41 (.tmp 51) (.const (.int .i64 0)) 41) ?_
  refine g_pure 2 (some 53) (.move (.tmp 52)) ?_
  refine g_take 3 (some 54) (.load 40 (.tmp 9)) (by intro w hSw; (obtain ⟨⟨q0, q1, q2, q3, q4, q5⟩, q6, q7⟩ := hSw); go_simp; try with_reducible rfl) ?_
  refine g_pure 4 (some 55) (.move (.tmp 6)) ?_
  refine wpAnyG_ready (rs := [5]) (by kernel_rfl) (by simp) ?_
  refine AllReadyG.cons (o := ⟨some 56, .call { callee := .value (.func 28), args := #[.tmp 55, .const (.int .i64 0)], argTypes := #[63, 3] }, 40, _, _, some (2, true)⟩) rfl (fun K hK => ?_) AllReadyG.nil
  go_simp
  go_at_call 28
  refine (HR.out _ (k35.trans k5 (fun z hz => Or.inl hz))).mono ?_
  rintro e U6 ⟨p6, rfl, u6, n6⟩
  go_wp2_with fail
  have k6 : Kp [] W5 U6 := k5.trans u6 (fun z hz => Or.inl hz)
  refine hK.out _ _ (HF.out _ k6) (fun hHeld1 => ?_)
  clear hK K hHeld
  try simp only [Act.put, pu1, pu2, pu3]
  refine wpAnyG_ready (rs := [6]) (by kernel_rfl) (by simp) ?_
  refine AllReadyG.cons (o := ⟨some 57, .call { callee := .value (.func 17), args := #[.tmp 54, .tmp 56], argTypes := #[40, 40] }, 4, _, _, some (2, true)⟩) rfl (fun K hK => ?_) AllReadyG.nil
  go_simp
  go_at_call 17
  refine (HT.out _ p p6 (n5.kept k6) n6).mono ?_
  rintro e U7 ⟨rfl, u7⟩
  go_wp2_with fail
  have k7 : Kp [] W5 U7 := k6.trans u7 (fun z hz => Or.inl hz)
  refine hK.out _ _ (HF.out _ k7) (fun hHeld2 => ?_)
  clear hK K hHeld1
  try simp only [Act.put, pu1, pu2, pu3]
  refine g_pure 7 (some 58) (.pick (.tmp 53) (.tmp 57) (.const (.bool false))) ?_
  refine g_pure 8 (some 59) (.move (.tmp 58)) ?_
  refine g_pure 9 (some 60) (.move (.tmp 3)) ?_
  refine g_pure 11 (some 62) (.move (.tmp 6)) ?_
  refine g_pure 12 (some 63) (.nilCheck (.tmp 62)) ?_
  refine g_pure 13 (some 64) (.fieldAddr 69 (.tmp 63) 0) ?_
  refine g_take 14 (some 65) (.load 67 (.tmp 64)) (by intro w hSw; (obtain ⟨⟨q0, q1, q2, q3, q4, q5⟩, q6, q7⟩ := hSw); go_simp; try with_reducible rfl) ?_
  refine g_pure 15 (some 66) (.call { callee := .builtin .len, args := #[.tmp 65], argTypes := #[67] }) ?_
  refine wpAnyG_ready (rs := [10]) (by kernel_rfl) (by simp) ?_
  refine AllReadyG.cons (o := ⟨some 61, .call { callee := .value (.func 15), args := #[.tmp 60], argTypes := #[36] }, 3, _, _, some (8, true)⟩) rfl (fun K hK => ?_) AllReadyG.nil
  go_simp
  go_at_call 15
  refine (HL.out _ (k35.trans k7 (fun z hz => Or.inl hz))).mono ?_
  rintro e w9 ⟨rfl, hw⟩
  have hw2 := hw.symm
  clear hw
  subst hw2
  go_wp2_with fail
  refine hK.out _ _ (HF.out _ k7) (fun hHeld3 => ?_)
  clear hK K hHeld2
  try simp only [Act.put, pu1, pu2, pu3]
  refine g_pure 16 (some 67) (.binOp .eql 3 (.tmp 61) (.tmp 66) 3) ?_
  refine g_pure 17 (some 68) (.pick (.tmp 59) (.tmp 67) (.const (.bool false))) ?_
  refine g_pure 18 (some 69) (.move (.tmp 68)) ?_
  refine g_pure 19 (some 70) (.move (.tmp 3)) ?_
  refine g_pure 21 (some 72) (.move (.tmp 6)) ?_
  refine g_pure 22 (some 73) (.nilCheck (.tmp 72)) ?_
  refine g_pure 23 (some 74) (.fieldAddr 69 (.tmp 73) 1) ?_
  refine g_take 24 (some 75) (.load 4 (.tmp 74)) (by intro w hSw; (obtain ⟨⟨q0, q1, q2, q3, q4, q5⟩, q6, q7⟩ := hSw); go_simp; try with_reducible rfl) ?_
  refine wpAnyG_ready (rs := [20]) (by kernel_rfl) (by simp) ?_
  refine AllReadyG.cons (o := ⟨some 71, .call { callee := .value (.func 19), args := #[.tmp 70], argTypes := #[36] }, 4, _, _, some (18, true)⟩) rfl (fun K hK => ?_) AllReadyG.nil
  go_simp
  go_at_call 19
  refine (HQ.out _ (k35.trans k7 (fun z hz => Or.inl hz))).mono ?_
  rintro e w9 ⟨rfl, hw⟩
  have hw2 := hw.symm
  clear hw
  subst hw2
  go_wp2_with fail
  refine hK.out _ _ (HF.out _ k7) (fun hHeld4 => ?_)
  clear hK K hHeld3
  try simp only [Act.put, pu1, pu2, pu3]
  refine g_pure 25 (some 76) (.binOp .eql 4 (.tmp 71) (.tmp 75) 4) ?_
  refine g_pure 26 (some 77) (.pick (.tmp 69) (.tmp 76) (.const (.bool false))) ?_
  refine g_pure 27 (some 2) (.assign (.tmp 77)) ?_
  refine wpAnyG_free (by kernel_rfl) ?_
  refine wpAny_done (by kernel_rfl) ?_ _
  have k9 : Hid (Kp [] w U7) := (k39.out.trans k35 (fun z hz => Or.inl hz)).trans k7 (fun z hz => Or.inl hz)
  clear HR HT HL HQ HF k7 k6 k5 k35 u6 u7 n5 n6 k39
  go_wp2
  go_ret
  exact ⟨by simp, k9.out⟩

theorem sames_any (hz : Ry w ao n c q) (hn : n ≤ 1300) : Calls Tryz.prog 9 #[.slice ao n c] w fun e w' => e = .returned (.bool true) ∧ Kp [] w w' := by
  by_cases hd : (Py.playF Py.first (os q)).2.2 = 0
  · exact same_ok hz hn hd
  · exact same_no hz hn hd

end

end Go.Proofs.YtpkppobkagdhkaaGreat

/-
  Operations that are written out; known of the law: chapter 17's runs.
-/
namespace Go.Proofs.YtpkppobkagdhkaaGreat
open Go.RowKit Go.Maps Utf
set_option linter.unusedVariables false
set_option linter.unusedSimpArgs false

/-- A literal of operations. -/
theorem rq_lit (w : World) (q : List Oq) : Rq (w.alloc (.cells (qs q).toArray 24)) (some ⟨w.heap.size, 0, none⟩) q.length q.length q :=
  ⟨rfl, Nat.le_refl _, fun j hj => ⟨w.heap.size, 0, rfl, by
    rw [cell_of (heap_new w _), Nat.zero_add, List.getElem?_toArray]⟩⟩

/-- An operation without attributes. -/
def oq (o : Ot) : Oq := (o, none, 0, 0)

/-- .. of those that have no attributes. -/
theorem ry_lit (w : World) (l : List Ot) (h : ∀ o, o ∈ l → tinyO o ∧ o.al = []) : Ry (w.alloc (.cells (qs (l.map oq)).toArray 24)) (some ⟨w.heap.size, 0, none⟩) l.length l.length (l.map oq) := by
  have := rq_lit w (l.map oq)
  rw [List.length_map] at this
  refine ⟨this, fun p hp => ?_, fun p hp => ?_⟩
  · obtain ⟨o, ho, rfl⟩ := List.mem_map.1 hp
    show Rk Any 2 _ none 0 0 (cs o.al)
    rw [(h o ho).2]
    exact Rk.nil _ _ _ _ _
  · obtain ⟨o, ho, rfl⟩ := List.mem_map.1 hp
    exact (h o ho).1

theorem os_oq (l : List Ot) : os (l.map oq) = l := by
  simp only [os, List.map_map]
  exact List.map_id l

def kA : Ot := ⟨1, 1, 0, 0, 3, 1, ⟨#[112]⟩, [], ⟨#[]⟩⟩
def kB : Ot := ⟨2, 1, 0, 0, 0, 0, ⟨#[]⟩, [], ⟨#[]⟩⟩

theorem tiny_no {o : Ot} (h1 : o.nm.size ≤ 10) (h2 : o.tt.size ≤ 10) (h3 : o.al = []) : tinyO o := ⟨h1, h2, by rw [h3]; exact Nat.zero_le _, fun a ha => by rw [h3] at ha; cases ha⟩

theorem kno1 : (Py.playF Py.first [kA, kB]).2 = (2, 0) ∧ (Py.playF Py.first [kA, kB]).1.A.kidF 0 = [1] := by
  constructor
  · kernel_rfl
  · kernel_rfl
theorem kno2 : (Py.playF Py.first [kB]).2 = (0, 22) := by kernel_rfl

set_option maxRecDepth 100000 in
set_option maxHeartbeats 1000000 in
theorem known_any (w : World) : Calls Tryz.prog 10 #[] w fun e w' => e = .returned (.bool true) ∧ Kp [] w w' := by
  have tA : ∀ o, o ∈ [kA, kB] → tinyO o ∧ o.al = [] := fun o ho => by
    simp only [List.mem_cons, List.not_mem_nil, or_false] at ho
    rcases ho with rfl | rfl
    · exact ⟨tiny_no (by decide) (by decide) rfl, rfl⟩
    · exact ⟨tiny_no (by decide) (by decide) rfl, rfl⟩
  have H1 : Hid (∃ W, w.alloc (.cells (qs ([kA, kB].map oq)).toArray 24) = W ∧ Kp [] w W ∧ Calls Tryz.prog 18 #[.slice (some ⟨w.heap.size, 0, none⟩) 2 2] W fun e w' => ∃ a tag, e = .returned (.tuple #[.pointer (some ⟨a, 0, none⟩), .int .i64 2, .int .i64 0]) ∧ Ps tag w' a (Py.playF Py.first [kA, kB]).1.q (Py.playF Py.first [kA, kB]).1.A 2 ∧ Kp [] w w') := by
    have k0 : Kp [] w (w.alloc (.cells (qs ([kA, kB].map oq)).toArray 24)) := (Kp.refl _ _).alloc _
    refine ⟨_, rfl, k0, (replay_any _ _ _ _ _ (ry_lit w [kA, kB] tA) (by show 2 ≤ 1300; omega)).mono ?_⟩
    rintro e W2 ⟨ptr, j, ec, rfl, ⟨hd, h0, hc⟩, k2⟩
    rw [os_oq] at hd hc
    rw [kno1.1] at hd
    obtain ⟨hj, rfl⟩ : 2 = j.toNat ∧ 0 = ec := by simpa using hd
    obtain rfl : j = 2 := by omega
    rcases hc with ⟨_, a, tag, rfl, P⟩ | ⟨hc, _⟩
    · exact ⟨a, tag, rfl, P, k0.trans k2 (fun x hx => Or.inl hx)⟩
    · exact absurd rfl hc
  have H2 : Hid (∀ V, ∃ W, V.alloc (.cells (qs ([kB].map oq)).toArray 24) = W ∧ Kp [] V W ∧ Calls Tryz.prog 18 #[.slice (some ⟨V.heap.size, 0, none⟩) 1 1] W fun e w' => e = .returned (.tuple #[.pointer none, .int .i64 0, .int .i64 22]) ∧ Kp [] V w') := fun V => by
    have k0 : Kp [] V (V.alloc (.cells (qs ([kB].map oq)).toArray 24)) := (Kp.refl _ _).alloc _
    refine ⟨_, rfl, k0, (replay_any _ _ _ _ _ (ry_lit V [kB] (fun o ho => tA o (List.mem_cons_of_mem _ ho))) (by show 1 ≤ 1300; omega)).mono ?_⟩
    rintro e W2 ⟨ptr, j, ec, rfl, ⟨hd, h0, hc⟩, k2⟩
    rw [os_oq] at hd hc
    rw [kno2] at hd
    obtain ⟨hj, rfl⟩ : 0 = j.toNat ∧ 22 = ec := by simpa using hd
    obtain rfl : j = 0 := by omega
    rcases hc with ⟨hc, _⟩ | ⟨_, rfl⟩
    · exact absurd hc (by decide)
    · exact ⟨rfl, k0.trans k2 (fun x hx => Or.inl hx)⟩
  have HK : Hid (∀ V tag a, Ps tag V a (Py.playF Py.first [kA, kB]).1.q (Py.playF Py.first [kA, kB]).1.A 2 → Calls Tryz.prog 29 #[.pointer (some ⟨a, 0, none⟩), .int .i64 0] V fun e w' => ∃ ao c', e = .returned (.slice ao 1 c') ∧ Kp [] V w') := fun V tag a P => by
    refine (P.kids 0).mono ?_
    rintro e w' ⟨ao, n', c', rfl, M⟩
    rw [kno1.2] at M
    obtain rfl : n' = 1 := M.rb.len
    exact ⟨ao, c', rfl, M.2.1⟩
  clear tA
  obtain ⟨W1, hW1, k1, HD1⟩ := H1.out
  have HW1 : Hid (_ = W1) := hW1
  simp only [List.map_cons, List.map_nil, qs, oq, kA, kB] at HW1 H2
  clear hW1 H1
  generalize Py.playF Py.first [kA, kB] = R at *
  go_enter Tryz.func10, Tryz.ntmps10
  go_wp2_with (first | (go_at_call 18; rw [HW1.out]; refine HD1.mono ?_; rintro e W2 ⟨a, tag, rfl, P2, k2⟩; obtain ⟨W3, hW3, k3, HD3⟩ := H2.out W2; have HW3 : Hid (_ = W3) := hW3; clear hW3) | (go_at_call 18; rw [HW3.out]; refine HD3.mono ?_; rintro e W4 ⟨rfl, k4⟩; have HK4 := HK.out _ _ _ (P2.kept k4)) | (go_at_call 29; refine HK4.mono ?_; rintro e W5 ⟨ao5, c5, rfl, k5⟩))
  go_ret
  exact ⟨rfl, (k2.trans k4 (fun x hx => Or.inl hx)).trans k5 (fun x hx => Or.inl hx)⟩

end Go.Proofs.YtpkppobkagdhkaaGreat
