/-
  Joined: Smw.
-/
import Derived.Test.YtpkppobkagdhkaaGreatJ41

/-
  some of the law: the walk.
-/
namespace Go.Proofs.YtpkppobkagdhkaaGreat
open Go.RowKit Go.Maps Utf
set_option linter.unusedVariables false
set_option linter.unusedSimpArgs false

section
variable {tag tag' : Nat → Nat} {w U U' : World} {b d k : Nat} {l1 l2 : Sl} {s : Py} {q : List Oq} {ao : Option Addr} {n c : Nat}

/-- An operation that was made, in a variable of its own. -/
structure Vr (tag : Nat → Nat) (U : World) (g : Nat) (o : Ot) (p : Sl) : Prop where
  at' : At U g (oc o p) 24
  tg : tag g = 0
  ar : Ao U (o, p)
  ta : ∀ x, x ∈ blk (.slice p.1 p.2.1 p.2.2) → tag x = 0

theorem Vr.qv {g : Nat} {o : Ot} {p : Sl} (h : Vr tag U g o p) (v : Qv tag U tag' U') : Vr tag' U' g o p := by
  obtain ⟨S, kp, hS⟩ := v.kps
  have hl := Ao.lt h.ar
  exact ⟨h.at'.qv h.tg v, by rw [v.tg g h.at'.lt]; exact h.tg, h.ar.keep kp (fun x hx hs => hS x hs (hl x hx) (h.ta x hx)), fun x hx => by rw [v.tg x (hl x hx)]; exact h.ta x hx⟩

theorem Vr.r0 {g : Nat} {o : Ot} {p : Sl} (h : Vr tag U g o p) : R0 tag U p o.al := Rk.of_own h.ar rfl h.ta

/-- From made to the variable. -/
theorem Vr.new (hP : Pd tag U b d l1 l2 s k) (hO : Ou tag w U ao n c q) {W : World} {o : Ot} {p : Sl} (hA : Ao W (o, p)) (hn : ∀ x, x ∈ blk (.slice p.1 p.2.1 p.2.2) → U.heap.size ≤ x) (kp : Kp [] U W) :
    ∃ tag1, Pd tag1 (W.alloc (.cells (oc o p) 24)) b d l1 l2 s k ∧ Ou tag1 w (W.alloc (.cells (oc o p) 24)) ao n c q ∧ Vr tag1 (W.alloc (.cells (oc o p) 24)) W.heap.size o p := by
  have k1 : Kp [] U (W.alloc (.cells (oc o p) 24)) := kp.alloc _
  have hg : ∀ x, x < U.heap.size → (fun x => if x < U.heap.size then tag x else 0) x = tag x := fun x hx => if_pos hx
  have hs := kp.size
  exact ⟨_, hP.re k1 hg, hO.re k1 hg, ⟨At.new _ _ _, if_neg (by omega), hA.keep ((Kp.refl [] _).alloc _) (fun _ _ => by simp), fun x hx => if_neg (by have := hn x hx; omega)⟩⟩

end

set_option maxRecDepth 100000 in
set_option maxHeartbeats 2000000 in
theorem some_any (w : World) (ao : Option Addr) (n c : Nat) (F : Nat → Rx) (hin : Xin w ao n c F) (fine : Bool) :
    Calls Tryz.prog 11 #[.slice ao n c, .bool fine] w fun e w' => ∃ ao' n' c' q, e = .returned (.slice ao' n' c') ∧ Mq w w' ao' n' c' q ∧ os q = somF F (min n 50) fine := by
  have HN := rplayer_any w (fun _ => 0)
  have hmx := hin.max
  have HI : Hid (∀ i, i < n → ∃ b0 off p, ao = some ⟨b0, off, none⟩ ∧ ∀ V, Kp [] w V → (V.cell? ⟨b0, off + i * 9, none⟩ = some (.int .i64 (F i).kd) ∧ V.cell? ⟨b0, off + i * 9 + 1, none⟩ = some (.int .i64 (F i).a) ∧ V.cell? ⟨b0, off + i * 9 + 2, none⟩ = some (.int .i64 (F i).b) ∧ V.cell? ⟨b0, off + i * 9 + 3, none⟩ = some (.int .i64 (F i).c) ∧ V.cell? ⟨b0, off + i * 9 + 4, none⟩ = some (.int .i64 (F i).ty) ∧ V.cell? ⟨b0, off + i * 9 + 5, none⟩ = some (.int .i64 (F i).ns) ∧ V.cell? ⟨b0, off + i * 9 + 6, none⟩ = some (.string (F i).nm) ∧ V.cell? ⟨b0, off + i * 9 + 7, none⟩ = some (.string (F i).tt) ∧ V.cell? ⟨b0, off + i * 9 + 8, none⟩ = some (.slice p.1 p.2.1 p.2.2)) ∧ Calls Tryz.prog 8 #[rxv (F i) p] V fun e w' => Ma V w' (madF (F i)) e) := fun i hi => by
    obtain ⟨b0, off, p, e, hc, hr, hl⟩ := hin.at' i hi
    refine ⟨b0, off, p, e, fun V kV => ⟨?_, made_any V (F i) p (hr.kept kV) hl⟩⟩
    have hb : b0 < w.heap.size := block_lt_of_cell (a := ⟨b0, off + i * 9 + 0, none⟩) (hc 0 (by omega))
    have f : ∀ j, j < 9 → ∀ u, (rxc (F i) p)[j]? = some u → V.cell? ⟨b0, off + i * 9 + j, none⟩ = some u := fun j hj u hu => by rw [kV.cell hb (by simp)]; exact (hc j hj).trans hu
    exact ⟨f 0 (by omega) _ rfl, f 1 (by omega) _ rfl, f 2 (by omega) _ rfl, f 3 (by omega) _ rfl, f 4 (by omega) _ rfl, f 5 (by omega) _ rfl, f 6 (by omega) _ rfl, f 7 (by omega) _ rfl, f 8 (by omega) _ rfl⟩
  clear hin
  go_enter Tryz.func11, Tryz.ntmps11
  go_wp2_with (go_at_call 30; refine HN.mono ?_; rintro e W1 ⟨b, d, l1, l2, tag1, rfl, p1, v1⟩)
  have H0 : Hid (Pd tag1 W1 b d l1 l2 Py.first 0 ∧ Ou tag1 w W1 none 0 0 []) := ⟨p1, Ou.nil w tag1 (v1.kp (fun _ _ => rfl)) (fun x hx => v1.tg x hx)⟩
  clear HN p1 v1
  go_loopw [5, 7] (fun v5 v7 wr => ∃ (i : Nat) (tag : Nat → Nat) (l1 l2 : Sl) (ao : Option Addr) (n' c : Nat) (q : List Oq), v7 = .int .i64 (i : Int) ∧ v5 = .slice ao n' c ∧ i ≤ n ∧ i ≤ 50 ∧ n' ≤ i ∧ Pd tag wr b d l1 l2 (Py.aft Py.first (lis F i)) i ∧ Ou tag w wr ao n' c q ∧ os q = somF F i fine) (fun _ v7 _ => 50 - (intOf v7).toNat)
  case atStart =>
    refine ⟨0, tag1, l1, l2, none, 0, 0, [], rfl, rfl, Nat.zero_le _, Nat.zero_le _, Nat.zero_le _, H0.out.1, H0.out.2, ?_⟩
    unfold somF
    cases fine <;> rfl
  case round =>
    obtain ⟨i, tag, m1, m2, a5, n5, c5, q, rfl, rfl, hi, h50, hn5, P, O, hq⟩ := hrel
    clear H0
    by_cases hlt : i < n ∧ i < 50
    · obtain ⟨hin, hi5⟩ := hlt
      obtain ⟨b0, off, p, rfl, HI2⟩ := HI.out i hin
      obtain ⟨⟨f0, f1, f2, f3, f4, f5, f6, f7, f8⟩, HM⟩ := HI2 wr O.kp
      have j0 : (0 : Int) ≤ (i : Int) := by omega
      have j1 : (i : Int) < (n : Int) := by omega
      have j2 : (i : Int) < 50 := by omega
      have hsm := somF_succ F i fine
      have hls := lis_succ F i
      have haft : Hid (Py.aft Py.first (lis F (i + 1)) = ((Py.aft Py.first (lis F i)).doF (madF (F i))).1) := by rw [hls, Py.aft_snoc]; exact rfl
      have hti := madF_tiny (F i)
      rw [← hq] at hsm
      clear hls HI HI2
      generalize Py.aft Py.first (lis F i) = s at *
      have HV : Hid (∀ W po, Ma wr W (madF (F i)) (.returned (ov (madF (F i)) po)) → ∃ tag1, Pd tag1 (W.alloc (.cells #[.int .i64 (madF (F i)).kd, .int .i64 (madF (F i)).nd, .int .i64 (madF (F i)).pa, .int .i64 (madF (F i)).rf, .int .i64 (madF (F i)).ty, .int .i64 (madF (F i)).ns, .string (madF (F i)).nm, .slice po.1 po.2.1 po.2.2, .string (madF (F i)).tt] 24)) b d m1 m2 s i ∧ Ou tag1 w (W.alloc (.cells #[.int .i64 (madF (F i)).kd, .int .i64 (madF (F i)).nd, .int .i64 (madF (F i)).pa, .int .i64 (madF (F i)).rf, .int .i64 (madF (F i)).ty, .int .i64 (madF (F i)).ns, .string (madF (F i)).nm, .slice po.1 po.2.1 po.2.2, .string (madF (F i)).tt] 24)) a5 n5 c5 q ∧ Vr tag1 (W.alloc (.cells #[.int .i64 (madF (F i)).kd, .int .i64 (madF (F i)).nd, .int .i64 (madF (F i)).pa, .int .i64 (madF (F i)).rf, .int .i64 (madF (F i)).ty, .int .i64 (madF (F i)).ns, .string (madF (F i)).nm, .slice po.1 po.2.1 po.2.2, .string (madF (F i)).tt] 24)) W.heap.size (madF (F i)) po) := fun W po hM => by
        obtain ⟨p2, e2, hA, hn, kp⟩ := hM
        have e3 : po = p2 := by
          simp only [ov, Ending.returned.injEq, Value.agg.injEq] at e2
          have e4 := congrArg (fun a : Array Value => a[7]?) e2
          simp at e4
          obtain ⟨x1, x2, x3⟩ := e4
          exact Prod.ext x1 (Prod.ext x2 x3)
        subst e3
        exact Vr.new P O hA hn kp
      have hP : Hid (Pd tag wr b d m1 m2 s i) := P
      clear P O hP
      generalize madF (F i) = o at *
      have HM2 : Calls Tryz.prog 8 #[rxv (F i) p] wr fun e W => ∃ po : Sl, e = .returned (.agg #[.int .i64 o.kd, .int .i64 o.nd, .int .i64 o.pa, .int .i64 o.rf, .int .i64 o.ty, .int .i64 o.ns, .string o.nm, .slice po.1 po.2.1 po.2.2, .string o.tt]) ∧ ∃ tag1, Pd tag1 (W.alloc (.cells #[.int .i64 o.kd, .int .i64 o.nd, .int .i64 o.pa, .int .i64 o.rf, .int .i64 o.ty, .int .i64 o.ns, .string o.nm, .slice po.1 po.2.1 po.2.2, .string o.tt] 24)) b d m1 m2 s i ∧ Ou tag1 w (W.alloc (.cells #[.int .i64 o.kd, .int .i64 o.nd, .int .i64 o.pa, .int .i64 o.rf, .int .i64 o.ty, .int .i64 o.ns, .string o.nm, .slice po.1 po.2.1 po.2.2, .string o.tt] 24)) a5 n5 c5 q ∧ Vr tag1 (W.alloc (.cells #[.int .i64 o.kd, .int .i64 o.nd, .int .i64 o.pa, .int .i64 o.rf, .int .i64 o.ty, .int .i64 o.ns, .string o.nm, .slice po.1 po.2.1 po.2.2, .string o.tt] 24)) W.heap.size o po := by
        refine HM.mono ?_
        rintro e W ⟨po, rfl, r2⟩
        exact ⟨po, rfl, HV.out W po ⟨po, rfl, r2⟩⟩
      have HD : Hid (∀ tag1 V po g, Pd tag1 V b d m1 m2 s i → Vr tag1 V g o po → Calls Tryz.prog 31 #[.pointer (some ⟨b, 0, none⟩), .agg #[.int .i64 o.kd, .int .i64 o.nd, .int .i64 o.pa, .int .i64 o.rf, .int .i64 o.ty, .int .i64 o.ns, .string o.nm, .slice po.1 po.2.1 po.2.2, .string o.tt]] V fun e w' => e = .returned (.int .i64 (s.doF o).2) ∧ ∃ tag2 k1 k2, Pd tag2 w' b d k1 k2 (s.doF o).1 (i + 1) ∧ Qv tag1 V tag2 w') := fun tag1 V po g P V1 => rdo_any P (by omega) hti V1.r0
      clear HM HV
      unfold rxv at HM2
      by_cases hok : ((s.doF o).2 == 0 || !fine) = true
      · rw [if_pos hok] at hsm
        have HA : Hid (∀ tag2 V po k1 k2 g, Pd tag2 V b d k1 k2 (s.doF o).1 (i + 1) → Ou tag2 w V a5 n5 c5 q → Vr tag2 V g o po → ∃ ao' n' c' U2 tag3, (∀ ty, (Builtin.append_ #[25, 25] ty #[.slice a5 n5 c5, .slice (some ⟨V.heap.size, 0, none⟩) 1 1]).run Tryz.prog (V.alloc (.cells #[.int .i64 o.kd, .int .i64 o.nd, .int .i64 o.pa, .int .i64 o.rf, .int .i64 o.ty, .int .i64 o.ns, .string o.nm, .slice po.1 po.2.1 po.2.2, .string o.tt] 24)) = .ok (.slice ao' n' c') U2) ∧ n' ≤ i + 1 ∧ Ou tag3 w U2 ao' n' c' (q ++ [(o, po)]) ∧ Pd tag3 U2 b d k1 k2 (s.doF o).1 (i + 1) ∧ os (q ++ [(o, po)]) = somF F (i + 1) fine) := fun tag2 V po k1 k2 g P2 O2 V2 => by
          obtain ⟨ao', n', c', U2, tag3, hr, O3, P3⟩ := O2.app P2 (o, po) V2.ar V2.ta (by omega)
          refine ⟨ao', n', c', U2, tag3, hr, ?_, O3, P3, ?_⟩
          · have h1 := O3.mq.len
            have h2 := O2.mq.len
            rw [List.length_append] at h1
            simp at h1
            omega
          · rw [hsm]
            simp [os]
        clear hsm hq
        by_cases hc : (s.doF o).2 = 0
        · have t1 : ((s.doF o).2 == 0) = true := by simpa using hc
          generalize (s.doF o).2 = ec at *
          subst hc
          clear hok
          go_wp2_with (first | (go_at_call 8; refine HM2.mono ?_; rintro e W2 ⟨po, rfl, tag1, P1, O1, V1⟩) | (go_at_call 31; refine (HD.out _ _ _ _ P1 V1).mono ?_; rintro e W4 ⟨rfl, tag2, k1, k2, P2, v2⟩; obtain ⟨r0, r1, r2, r3, r4, r5, r6, r7, r8⟩ := nine_at (V1.qv v2).at'; obtain ⟨a6, n6, c6, U2, tag3, hrun, hn6, O3, P3, hq3⟩ := HA.out _ _ _ _ _ _ P2 (O1.qv v2) (V1.qv v2); have Y9 : Hid (_ ∧ _ ∧ _ ∧ _) := ⟨hn6, O3, P3, hq3⟩; clear O1 V1 P1 P2 v2 hn6 O3 P3 hq3 HA HD) | (at_builtin; refine Lib.wpList_append_run _ rfl _ _ _ _ rfl _ _ rfl rfl _ _ (hrun _) ?_))
          go_roundw
          case rel =>
            obtain ⟨h6, O3, P3, hq3⟩ := Y9.out
            exact ⟨i + 1, tag3, k1, k2, a6, n6, c6, _, by go_num, rfl, by omega, by omega, h6, by rw [haft.out]; exact P3, O3, hq3⟩
          case measure => simp [intOf]; omega
        · have t1 : ((s.doF o).2 == 0) = false := by simpa using hc
          obtain rfl : fine = false := by rw [t1] at hok; simpa using hok
          generalize (s.doF o).2 = ec at *
          clear hok hc
          go_wp2_with (first | (go_at_call 8; refine HM2.mono ?_; rintro e W2 ⟨po, rfl, tag1, P1, O1, V1⟩) | (go_at_call 31; refine (HD.out _ _ _ _ P1 V1).mono ?_; rintro e W4 ⟨rfl, tag2, k1, k2, P2, v2⟩; obtain ⟨r0, r1, r2, r3, r4, r5, r6, r7, r8⟩ := nine_at (V1.qv v2).at'; obtain ⟨a6, n6, c6, U2, tag3, hrun, hn6, O3, P3, hq3⟩ := HA.out _ _ _ _ _ _ P2 (O1.qv v2) (V1.qv v2); have Y9 : Hid (_ ∧ _ ∧ _ ∧ _) := ⟨hn6, O3, P3, hq3⟩; clear O1 V1 P1 P2 v2 hn6 O3 P3 hq3 HA HD) | (at_builtin; refine Lib.wpList_append_run _ rfl _ _ _ _ rfl _ _ rfl rfl _ _ (hrun _) ?_))
          go_roundw
          case rel =>
            obtain ⟨h6, O3, P3, hq3⟩ := Y9.out
            exact ⟨i + 1, tag3, k1, k2, a6, n6, c6, _, by go_num, rfl, by omega, by omega, h6, by rw [haft.out]; exact P3, O3, hq3⟩
          case measure => simp [intOf]; omega
      · rw [if_neg hok] at hsm
        have t1 : ((s.doF o).2 == 0) = false := by
          cases h : ((s.doF o).2 == 0) with
          | false => rfl
          | true => rw [h] at hok; simp at hok
        obtain rfl : fine = true := by
          cases fine with
          | true => rfl
          | false => rw [t1] at hok; simp at hok
        have hq3 : Hid (os q = somF F (i + 1) true) := hsm.symm
        generalize (s.doF o).2 = ec at *
        clear hok hsm hq
        go_wp2_with (first | (go_at_call 8; refine HM2.mono ?_; rintro e W2 ⟨po, rfl, tag1, P1, O1, V1⟩) | (go_at_call 31; refine (HD.out _ _ _ _ P1 V1).mono ?_; rintro e W4 ⟨rfl, tag2, k1, k2, P2, v2⟩; have O2 := O1.qv v2; have Y9 : Hid (_ ∧ _) := ⟨O2, P2⟩; clear O1 V1 P1 P2 v2 O2 HD))
        go_roundw
        case rel => exact ⟨i + 1, tag2, k1, k2, a5, n5, c5, q, by go_num, rfl, by omega, by omega, by omega, by rw [haft.out]; exact Y9.out.2, Y9.out.1, hq3.out⟩
        case measure => simp [intOf]; omega
    · have hm : min n 50 = i := by omega
      have H9 : Hid (Mq w wr a5 n5 c5 q ∧ os q = somF F (min n 50) fine) := ⟨O.mq, by rw [hm]; exact hq⟩
      clear HI P O hq
      by_cases hi1 : i < n
      · obtain rfl : i = 50 := by omega
        have j1 : (50 : Int) < (n : Int) := by omega
        clear hlt hi1 hi h50 hm
        rw [show ((50 : Nat) : Int) = 50 from rfl]
        go_wp2
        go_ret
        exact ⟨_, _, _, _, rfl, H9.out⟩
      · have j1 : (n : Int) ≤ (i : Int) := by omega
        clear hlt hi1 hm
        go_wp2
        go_ret
        exact ⟨_, _, _, _, rfl, H9.out⟩

end Go.Proofs.YtpkppobkagdhkaaGreat
