/-
  Joined: PlyW.
-/
import Derived.Test.YtpkppobkagdhkaaGreatJ42
import Derived.Test.YtpkppobkagdhkaaGreatJTelW
import Derived.Test.YtpkppobkagdhkaaGreatJ44

/-
  ReplayPlays: done one by one the same comes of it; what is refused changes nothing.
-/
namespace Go.Proofs.YtpkppobkagdhkaaGreat
open Go.RowKit Go.Maps Utf
set_option linter.unusedVariables false
set_option linter.unusedSimpArgs false

theorem take_os {q : List Oq} {i : Nat} (hi : i < q.length) : (os q).take (i + 1) = (os q).take i ++ [q[i].1] := by
  rw [List.take_succ_eq_append_getElem (by simpa using hi), os_get hi]

theorem At.over {W : World} {g : Nat} {cur : Array Value} {e : TypeId} (h : At W g cur e) (ob : Obj) : At (W.alloc ob) g cur e := h.kept ((Kp.refl [] _).alloc _) (by simp)

/-- A tree's cells. -/
abbrev t6 (l : Lb) (p : Pl) : Array Value := #[.int .i64 l.kind, .int .i64 l.ns, .string l.name, .slice p.1.1 p.1.2.1 p.1.2.2, .string l.text, .slice p.2.1 p.2.2.1 p.2.2.2]

set_option maxRecDepth 100000 in
set_option maxHeartbeats 2000000 in
theorem plays_walk (w : World) (ao : Option Addr) (n c : Nat) (F : Nat → Rx) (hin : Xin w ao n c F) :
    Calls Tryz.prog 5 #[.slice ao n c] w fun e w' => e = .returned (.bool true) ∧ Kp [] w w' := by
  have H1 := some_any w ao n c F hin false
  clear hin
  go_enter Tryz.func5, Tryz.ntmps5
  go_upto_region 2 with (go_at_call 11; refine H1.mono ?_; rintro e W1 ⟨a1, n1, c1, q, rfl, m1, e1⟩)
  obtain ⟨ry1, hn1⟩ := m1.ry e1 (Nat.min_le_right _ _)
  have k01 : Hid (Kp [] w W1) := m1.kp
  have hlen := ry1.rq.len
  have HA : Hid (∀ p, p ∈ q → Ao W1 p) := m1.ar
  have HN := player_any W1 (fun _ => 0)
  have HI : Hid (∀ i (hi : i < q.length), ∃ b0 off, a1 = some ⟨b0, off, none⟩ ∧ ∀ V, Kp [] W1 V → Nine V b0 (off + i * 9) q[i].1 q[i].2) := fun i hi => by
    obtain ⟨b0, off, e0, _⟩ := ry1.rq.get i hi
    refine ⟨b0, off, e0, fun V kV => ?_⟩
    obtain ⟨b2, off2, e2, n2⟩ := (ry1.rq.kept kV).get i hi
    rw [e0] at e2
    simp only [Option.some.injEq, Addr.mk.injEq] at e2
    obtain ⟨rfl, rfl, _⟩ := e2
    exact n2
  have HT : Hid (∀ p, p ∈ q → tinyO p.1 ∧ Rk Any 2 W1 p.2.1 p.2.2.1 p.2.2.2 (cs p.1.al)) := fun p hp => ⟨ry1.ti p hp, ry1.at' p hp⟩
  subst hlen
  clear H1 m1 e1 ry1
  go_wp2_with (go_at_call 12; refine HN.mono ?_; rintro e W2 ⟨b, a, m, tag2, rfl, p2, v2⟩)
  have H0 : Hid (Pp tag2 W2 b a m Py.first 0 ∧ Ou tag2 W1 W2 none 0 0 []) := ⟨p2, Ou.nil W1 tag2 (v2.kp (fun _ _ => rfl)) (fun x hx => v2.tg x hx)⟩
  clear HN p2 v2
  go_loopw [5, 6] (fun v5 v6 wr => ∃ (i : Nat) (tag : Nat → Nat) (a5 : Option Addr) (n5 c5 : Nat) (q5 : List Oq), v6 = .int .i64 (i : Int) ∧ v5 = .slice a5 n5 c5 ∧ i ≤ q.length ∧ n5 ≤ i ∧ Pp tag wr b a m (Py.aft Py.first ((os q).take i)) i ∧ Ou tag W1 wr a5 n5 c5 q5 ∧ os q5 = Py.fil Py.first ((os q).take i) ∧ ∀ p, p ∈ q5 → p ∈ q) (fun _ v6 _ => q.length - (intOf v6).toNat)
  case atStart => exact ⟨0, tag2, none, 0, 0, [], rfl, rfl, Nat.zero_le _, Nat.zero_le _, H0.out.1, H0.out.2, rfl, fun p hp => by cases hp⟩
  case round =>
    obtain ⟨i, tag, a5, n5, c5, q5, rfl, rfl, hi, hn5, P, O, hq5, hm5⟩ := hrel
    clear H0
    by_cases hlt : i < q.length
    · obtain ⟨b0, off, rfl, HI2⟩ := HI.out i hlt
      have hmem : q[i] ∈ q := List.getElem_mem hlt
      obtain ⟨hti, hrk⟩ := HT.out _ hmem
      have hAo := HA.out _ hmem
      have htk := take_os hlt
      have haft : Hid (Py.aft Py.first ((os q).take (i + 1)) = ((Py.aft Py.first ((os q).take i)).doF q[i].1).1) := by rw [htk, Py.aft_snoc]; exact rfl
      have hfil : Hid (Py.fil Py.first ((os q).take (i + 1)) = if ((Py.aft Py.first ((os q).take i)).doF q[i].1).2 = 0 then os q5 ++ [q[i].1] else os q5) := by rw [htk, Py.fil_snoc, hq5]; exact rfl
      have hm5' : Hid (∀ p, p ∈ q5 ++ [q[i]] → p ∈ q) := fun p hp => by
        rcases List.mem_append.1 hp with e | e
        · exact hm5 p e
        · rw [List.mem_singleton.1 e]; exact hmem
      have hm5 : Hid (∀ p, p ∈ q5 → p ∈ q) := hm5
      have j0 : (0 : Int) ≤ (i : Int) := by omega
      have j1 : (i : Int) < (q.length : Int) := by omega
      clear htk hq5 hmem HI HT HA
      generalize Py.aft Py.first ((os q).take i) = s at *
      generalize q[i] = x at *
      have HAr : Hid (∀ tag V, Pp tag V b a m s i → Calls Tryz.prog 13 #[.pointer (some ⟨b, 0, none⟩)] V fun e w' => e = .returned (.pointer (some ⟨a, 0, none⟩)) ∧ w' = V) := fun tag V P => arena_any P
      have HP1 := P.tree O
      have HLn : Hid (∀ tag V, Pp tag V b a m s i → Calls Tryz.prog 15 #[.pointer (some ⟨a, 0, none⟩)] V fun e w' => e = .returned (.int .i64 (s.A.n : Int)) ∧ w' = V) := fun tag V P => P.ps.len
      have HDo : Hid (∀ tag V, Pp tag V b a m s i → Ou tag W1 V a5 n5 c5 q5 → Calls Tryz.prog 16 #[.pointer (some ⟨b, 0, none⟩), .agg #[.int .i64 x.1.kd, .int .i64 x.1.nd, .int .i64 x.1.pa, .int .i64 x.1.rf, .int .i64 x.1.ty, .int .i64 x.1.ns, .string x.1.nm, .slice x.2.1 x.2.2.1 x.2.2.2, .string x.1.tt]] V fun e w' => e = .returned (.int .i64 (s.doF x.1).2) ∧ ∃ tag', Pp tag' w' b a m (s.doF x.1).1 (i + 1) ∧ Pv tag V tag' w') := fun tag V P O => pdo_any P (by omega) hti (O.r0 hrk)
      have HA1 := HAr.out _ _ P
      have fit := P.fit
      have kW : Hid (Kp [] W1 wr) := O.kp
      by_cases hok : (s.doF x.1).2 = 0
      · have hq6 : Hid (Py.fil Py.first ((os q).take (i + 1)) = os (q5 ++ [x])) := by rw [hfil.out, if_pos hok]; simp only [os, List.map_append]; exact rfl
        have HAp : Hid (∀ tag V, Pp tag V b a m (s.doF x.1).1 (i + 1) → Ou tag W1 V a5 n5 c5 q5 → ∃ ao' n' c' U2 tag3, (∀ ty, (Builtin.append_ #[25, 25] ty #[.slice a5 n5 c5, .slice (some ⟨V.heap.size, 0, none⟩) 1 1]).run Tryz.prog (V.alloc (.cells #[.int .i64 x.1.kd, .int .i64 x.1.nd, .int .i64 x.1.pa, .int .i64 x.1.rf, .int .i64 x.1.ty, .int .i64 x.1.ns, .string x.1.nm, .slice x.2.1 x.2.2.1 x.2.2.2, .string x.1.tt] 24)) = .ok (.slice ao' n' c') U2) ∧ n' ≤ i + 1 ∧ Ou tag3 W1 U2 ao' n' c' (q5 ++ [x]) ∧ Pp tag3 U2 b a m (s.doF x.1).1 (i + 1)) := fun tag V P2 O2 => by
          obtain ⟨A2, T2⟩ := O2.lent hAo
          obtain ⟨ao', n', c', U2, tag3, hr, O3, P3⟩ := O2.appP P2 x A2 T2 (by omega)
          refine ⟨ao', n', c', U2, tag3, hr, ?_, O3, P3⟩
          have h1 := O3.mq.len
          have h2 := O2.mq.len
          rw [List.length_append] at h1
          simp at h1
          omega
        rw [hok] at HDo
        clear P O hfil hok hAo hrk hti
        go_wp2_with (first | (at_builtin; refine Lib.wpList_append_run _ rfl _ _ _ _ rfl _ _ rfl rfl _ _ (hrun _) ?_) | (go_at_call 16; refine HDo1.mono ?_; rintro e W5 ⟨rfl, tag5, P5, v5⟩; have O5 := O4.pv v5; obtain ⟨f0, f1, f2, f3, f4, f5, f6, f7, f8⟩ := HI2 _ O5.kp; obtain ⟨a6, n6, c6, U6, tag6, hrun, hn6, O6, P6⟩ := HAp.out _ _ P5 O5; have Y9 : Hid (_ ∧ _ ∧ _) := ⟨hn6, O6, P6⟩; clear O4 P4 v5 O5 P5 hn6 O6 P6 HDo1) | (go_at_call 15; refine (HL4).mono ?_; rintro e w9 ⟨rfl, hw⟩; have hw2 := hw.symm; clear hw; subst hw2) | (go_at_call 14; refine HP1.mono ?_; rintro e W4 ⟨p, rfl, tag4, P4, O4, n4, t4, k4⟩; have HL4 := HLn.out _ _ P4; have HDo1 := HDo.out _ _ P4 O4; obtain ⟨f0, f1, f2, f3, f4, f5, f6, f7, f8⟩ := HI2 _ O4.kp; clear n4 t4 k4) | (go_at_call 13; refine (HA1).mono ?_; rintro e w9 ⟨rfl, hw⟩; have hw2 := hw.symm; clear hw; subst hw2))
        go_roundw
        case rel =>
          obtain ⟨h6, O6, P6⟩ := Y9.out
          exact ⟨i + 1, tag6, a6, n6, c6, q5 ++ [x], by go_num, rfl, by omega, h6, by rw [haft.out]; exact P6, O6, hq6.out.symm, hm5'.out⟩
        case measure => simp [intOf]; omega
      · have hs9 := Py.doF_no hok
        have hq6 : Hid (os q5 = Py.fil Py.first ((os q).take (i + 1))) := by rw [hfil.out, if_neg hok]; exact rfl
        have t1 : ((s.doF x.1).2 == 0) = false := by simpa using hok
        have t2 : ((s.A.n : Int) != (s.A.n : Int)) = false := by simp
        rw [hs9] at HDo haft
        have HTr : Hid (∀ tag V, Pp tag V b a m s (i + 1) → Ou tag W1 V a5 n5 c5 q5 → _) := fun tag V P O => P.tree O
        have HAr2 : Hid (∀ tag V, Pp tag V b a m s (i + 1) → Calls Tryz.prog 13 #[.pointer (some ⟨b, 0, none⟩)] V fun e w' => e = .returned (.pointer (some ⟨a, 0, none⟩)) ∧ w' = V) := fun tag V P => arena_any P
        have HLn2 : Hid (∀ tag V, Pp tag V b a m s (i + 1) → Calls Tryz.prog 15 #[.pointer (some ⟨a, 0, none⟩)] V fun e w' => e = .returned (.int .i64 (s.A.n : Int)) ∧ w' = V) := fun tag V P => P.ps.len
        have HTt : Hid (∀ V p p', Nd Any V (s.A.lb 0) (s.A.below 0) p → Nd Any V (s.A.lb 0) (s.A.below 0) p' → Calls Tryz.prog 17 #[.agg (t6 (s.A.lb 0) p), .agg (t6 (s.A.lb 0) p')] V fun e w' => e = .returned (.bool true) ∧ Kp [] V w') := fun V p p' n1 n2 => same_tree fit V 0 p p' n1 n2
        generalize (s.doF x.1).2 = ec at *
        clear P O hfil hok hAo hrk hti hs9 fit
        have HW : Hid (∀ (W4 : World) (p : Pl) tag4 V5 tag5, tag4 W4.heap.size = 0 → Nd (fun y => tag4 y = 0) (W4.alloc (.cells (t6 (s.A.lb 0) p) 40)) (s.A.lb 0) (s.A.below 0) p → Pv tag4 (W4.alloc (.cells (t6 (s.A.lb 0) p) 40)) tag5 V5 → At V5 W4.heap.size (t6 (s.A.lb 0) p) 40 ∧ Nd Any V5 (s.A.lb 0) (s.A.below 0) p) := fun W4 p tag4 V5 tag5 h0 n v => ⟨(At.new W4 _ _).pv h0 v, n.pv v⟩
        go_wp2_with (first | (go_at_call 15; refine (HL7).mono ?_; rintro e w9 ⟨rfl, hw⟩; have hw2 := hw.symm; clear hw; subst hw2) | (go_at_call 17; refine HT6.mono ?_; rintro e W7 ⟨rfl, k7⟩; have P7 := P6.kept k7; have O7 := O6.re k7 (fun _ _ => rfl); have HL7 := HLn2.out _ _ P7; have Y9 : Hid (_ ∧ _) := ⟨O7, P7⟩; clear P6 O6 n6 A6 B6 P7 O7) | (go_at_call 14; refine HP5.mono ?_; rintro e W6 ⟨p6, rfl, tag6, P6, O6, n6, _, k6⟩; have A6 := (A5.kept k6 (by simp)).over (.cells (t6 (s.A.lb 0) p6) 40); have B6 := At.new W6 (t6 (s.A.lb 0) p6) 40; obtain ⟨x0, x1, x2, x3, x4, x5⟩ := A6.six; obtain ⟨y0, y1, y2, y3, y4, y5⟩ := B6.six; have HT6 := HTt.out _ p p6 ((n5'.kept k6).kept ((Kp.refl [] _).alloc _)) n6.any; clear A5 n5' k6) | (go_at_call 13; refine (HA5).mono ?_; rintro e w9 ⟨rfl, hw⟩; have hw2 := hw.symm; clear hw; subst hw2) | (go_at_call 16; refine HDo1.mono ?_; rintro e W5 ⟨rfl, tag5, P5, v5⟩; obtain ⟨A5, n5'⟩ := HW.out _ _ _ _ _ t4 n4 v5; have O5 := O4.pv v5; have HA5 := HAr2.out _ _ P5; have HP5 := HTr.out _ _ P5 O5; clear O4 P4 v5 O5 P5 HDo1 n4 t4) | (go_at_call 15; refine (HL4).mono ?_; rintro e w9 ⟨rfl, hw⟩; have hw2 := hw.symm; clear hw; subst hw2) | (go_at_call 14; refine HP1.mono ?_; rintro e W4 ⟨p, rfl, tag4, P4, O4, n4, t4, k4⟩; have HL4 := HLn.out _ _ P4; have HDo1 := HDo.out _ _ P4 O4; obtain ⟨f0, f1, f2, f3, f4, f5, f6, f7, f8⟩ := HI2 _ O4.kp; clear k4) | (go_at_call 13; refine (HA1).mono ?_; rintro e w9 ⟨rfl, hw⟩; have hw2 := hw.symm; clear hw; subst hw2))
        go_roundw
        case rel => exact ⟨i + 1, tag6, a5, n5, c5, q5, by go_num, rfl, by omega, by omega, by rw [haft.out]; exact Y9.out.2, Y9.out.1, hq6.out, hm5.out⟩
        case measure => simp [intOf]; omega
    · obtain rfl : i = q.length := by omega
      rw [List.take_of_length_le (by simp)] at P hq5
      have hti : ∀ p, p ∈ q5 → tinyO p.1 := fun p hp => (HT.out p (hm5 p hp)).1
      have hd : Py.Done Py.first (os q5) := by rw [hq5]; exact Py.done_fil _ _
      have hf : fin q5 = Py.aft Py.first (os q) := by show Py.aft Py.first (os q5) = _; rw [hq5]; exact Py.aft_fil _ _
      have HD := replay_ok (O.ry hti) (by omega) hd
      rw [hf] at HD
      have fit := P.fit
      have kB : Hid (Kp [] w wr) := k01.out.trans O.kp (fun z hz => Or.inl hz)
      have HAr : Hid (∀ V, Kp [] wr V → Calls Tryz.prog 13 #[.pointer (some ⟨b, 0, none⟩)] V fun e w' => e = .returned (.pointer (some ⟨a, 0, none⟩)) ∧ w' = V) := fun V kV => arena_any (P.kept kV)
      generalize Py.aft Py.first (os q) = s at *
      have HPu : Hid (∀ V tag a k, Ps tag V a s.q s.A k → Calls Tryz.prog 14 #[.pointer (some ⟨a, 0, none⟩), .int .i64 0] V fun e W => ∃ p : Pl, e = .returned (.tuple #[.agg (t6 (s.A.lb 0) p), .int .i64 0]) ∧ Kp [] V W ∧ Nd Any W (s.A.lb 0) (s.A.below 0) p) := fun V tag a k P => by
        refine (P.pure 0 fit.pos).mono ?_
        rintro e W ⟨p, rfl, k1, n1⟩
        exact ⟨p, rfl, k1, n1.any⟩
      have HTt : Hid (∀ V p p', Nd Any V (s.A.lb 0) (s.A.below 0) p → Nd Any V (s.A.lb 0) (s.A.below 0) p' → Calls Tryz.prog 17 #[.agg (t6 (s.A.lb 0) p), .agg (t6 (s.A.lb 0) p')] V fun e w' => e = .returned (.bool true) ∧ Kp [] V w') := fun V p p' n1 n2 => same_tree fit V 0 p p' n1 n2
      have HQ : Hid (∀ V tag a k, Ps tag V a s.q s.A k → Calls Tryz.prog 19 #[.pointer (some ⟨a, 0, none⟩)] V fun e w' => e = .returned (.bool s.q) ∧ w' = V) := fun V tag a k P => P.quirky
      have PB : Hid (∀ V, Kp [] wr V → Ps tag V a s.q s.A q.length) := fun V kV => (P.kept kV).ps
      have t2 : ((n5 : Int) != (n5 : Int)) = false := by simp
      clear P O hti hd hf hq5 hm5 HI HT HA fit hlt hi
      go_wp2_with (first | (go_at_call 10; refine (known_any _).mono ?_; rintro e W9 ⟨rfl, k9⟩) | (go_at_call 19; refine (HQ8).mono ?_; rintro e w9 ⟨rfl, hw⟩; have hw2 := hw.symm; clear hw; subst hw2) | (go_at_call 19; refine (HQ7).mono ?_; rintro e w9 ⟨rfl, hw⟩; have hw2 := hw.symm; clear hw; subst hw2) | (go_at_call 17; refine HT6.mono ?_; rintro e W7 ⟨rfl, k7⟩; have K7 := K6.trans k7 (fun z hz => Or.inl hz); have HQ7 := HQ.out _ _ _ _ (((PR.kept k45).kept k46).kept k7); have HQ8 := HQ.out _ _ _ _ (PB.out _ K7)) | (go_at_call 14; refine HP5.mono ?_; rintro e W6 ⟨p6, rfl, k6, n6⟩; have A6 := (A5.kept k6 (by simp)).over (.cells (t6 (s.A.lb 0) p6) 40); have B6 := At.new W6 (t6 (s.A.lb 0) p6) 40; obtain ⟨x0, x1, x2, x3, x4, x5⟩ := A6.six; obtain ⟨y0, y1, y2, y3, y4, y5⟩ := B6.six; have k46 := k6.alloc (.cells (t6 (s.A.lb 0) p6) 40); have HT6 := HTt.out _ p p6 (n4'.kept k46) (n6.kept ((Kp.refl [] _).alloc _)).any; have K6 := K5.trans k46 (fun z hz => Or.inl hz); clear A5 n4' n6 k6) | (go_at_call 14; refine HP4.mono ?_; rintro e W4 ⟨p, rfl, k4, n4⟩; have k45 := k4.alloc (.cells (t6 (s.A.lb 0) p) 40); have A5 := At.new W4 (t6 (s.A.lb 0) p) 40; have n4' := n4.kept ((Kp.refl [] _).alloc (.cells (t6 (s.A.lb 0) p) 40)); have K5 := K3.trans k45 (fun z hz => Or.inl hz); have HP5 := HPu.out _ _ _ _ (PB.out _ K5); clear k4 n4) | (go_at_call 13; refine (HA3).mono ?_; rintro e w9 ⟨rfl, hw⟩; have hw2 := hw.symm; clear hw; subst hw2) | (go_at_call 18; refine HD.mono ?_; rintro e W3 ⟨a3, tag3, rfl, PR, K3⟩; have HA3 := HAr.out _ K3; have HP4 := HPu.out _ _ _ _ PR))
      go_ret
      exact ⟨by simp, (kB.out.trans K7 (fun z hz => Or.inl hz)).trans k9 (fun z hz => Or.inl hz)⟩

end Go.Proofs.YtpkppobkagdhkaaGreat
