/-
  Joined: Ple Kno.
-/
import Derived.Test.YtpkppobkagdhkaaJ46

/-
  The program's Do and Check.
-/
namespace Go.Proofs.Ytpkppobkagdhkaa
open Go.RowKit Go.Maps Utf
set_option linter.unusedVariables false
set_option linter.unusedSimpArgs false

/-- Operations that are read, with their attributes, all of them small. -/
structure Ry (w : World) (ao : Option Addr) (n c : Nat) (q : List Oq) : Prop where
  rq : Rq w ao n c q
  at' : ∀ p, p ∈ q → Rk Any 2 w p.2.1 p.2.2.1 p.2.2.2 (cs p.1.al)
  ti : ∀ p, p ∈ q → tinyO p.1

theorem Ry.kept {w w' : World} {ao : Option Addr} {n c : Nat} {q : List Oq} (h : Ry w ao n c q) (k : Kp [] w w') : Ry w' ao n c q := ⟨h.rq.kept k, fun p hp => (h.at' p hp).kept k, h.ti⟩

/-- The operations by themselves. -/
abbrev os (q : List Oq) : List Ot := q.map (·.1)

theorem os_get {q : List Oq} {i : Nat} (hi : i < q.length) : (os q)[i]'(by simpa using hi) = q[i].1 := by simp [os]

/-- What Do tells. -/
def Dt (w' : World) (q : List Oq) (ptr : Option Addr) (j ec : Int) : Prop :=
  (Py.playF Py.first (os q)).2 = (j.toNat, ec) ∧ 0 ≤ j ∧ ((ec = 0 ∧ ∃ a tag, ptr = some ⟨a, 0, none⟩ ∧ Ps tag w' a (Py.playF Py.first (os q)).1.q (Py.playF Py.first (os q)).1.A q.length) ∨ (ec ≠ 0 ∧ ptr = none))

set_option maxRecDepth 100000 in
set_option maxHeartbeats 1000000 in
theorem replay_any (w : World) (ao : Option Addr) (n c : Nat) (q : List Oq) (hz : Ry w ao n c q) (hn : n ≤ 1300) :
    Calls Try.prog 5 #[.slice ao n c] w fun e w' => ∃ ptr j ec, e = .returned (.tuple #[.pointer ptr, .int .i64 j, .int .i64 ec]) ∧ Dt w' q ptr j ec ∧ Kp [] w w' := by
  have HN := player_any w (fun _ => 0)
  have hlen := hz.rq.len
  have HD : Hid (∀ i (hi : i < q.length), ∃ b0 off, ao = some ⟨b0, off, none⟩ ∧ ∀ tag V s b a m, Pp tag V b a m s i → Pv (fun _ => 0) w tag V → Nine V b0 (off + i * 9) q[i].1 q[i].2 ∧ ∀ U, Kp [] V U → Calls Try.prog 9 #[.pointer (some ⟨b, 0, none⟩), ov q[i].1 q[i].2] U fun e w' => e = .returned (.int .i64 (s.doF q[i].1).2) ∧ ∃ tag', Pp tag' w' b a m (s.doF q[i].1).1 (i + 1) ∧ Pv (fun _ => 0) w tag' w') := fun i hi => by
    obtain ⟨b0, off, e0, _⟩ := hz.rq.get i hi
    refine ⟨b0, off, e0, fun tag V s b a m P v => ⟨?_, fun U kU => ?_⟩⟩
    · obtain ⟨b1, off1, e1, n1⟩ := (hz.rq.kept (v.kp (fun _ _ => rfl))).get i hi
      rw [e0] at e1
      simp only [Option.some.injEq, Addr.mk.injEq] at e1
      obtain ⟨rfl, rfl, _⟩ := e1
      exact n1
    · have hm : q[i] ∈ q := List.getElem_mem hi
      have r0 : R0 (fun _ => 0) w q[i].2 q[i].1.al := (hz.at' _ hm).mono (fun _ _ _ => rfl)
      refine (pdo_any (P.kept kU) (by omega) (hz.ti _ hm) ((r0.pv v).kept kU)).mono ?_
      rintro e w' ⟨rfl, tag', p', v'⟩
      exact ⟨rfl, tag', p', v.trans ((Pv.of_kp0 kU).trans v')⟩
  clear hz
  obtain ⟨R, hR⟩ : ∃ R, Py.playF Py.first (os q) = R := ⟨_, rfl⟩
  unfold Dt
  rw [hR]
  have HR : Hid (Py.playF Py.first (os q) = R) := hR
  subst hlen
  go_enter Try.func5, Try.ntmps5
  go_wp2_with (go_at_call 8; refine HN.mono ?_; rintro e W1 ⟨b, a, m, tag1, rfl, p1, v1⟩)
  have H0 : Hid (Pp tag1 W1 b a m Py.first 0 ∧ Pv (fun _ => 0) w tag1 W1) := ⟨p1, v1⟩
  clear HN p1 v1 hR
  go_loopw [12] (fun v wr => ∃ (i : Nat) (tag : Nat → Nat) (s : Py) (j : Nat), v = .int .i64 (i : Int) ∧ i ≤ q.length ∧ Pp tag wr b a m s i ∧ Pv (fun _ => 0) w tag wr ∧ Py.playF s ((os q).drop i) = (R.1, j, R.2.2) ∧ i + j = R.2.1) (fun v _ => q.length - (intOf v).toNat)
  case atStart => exact ⟨0, tag1, Py.first, R.2.1, rfl, Nat.zero_le _, H0.out.1, H0.out.2, HR.out, Nat.zero_add _⟩
  case round =>
    obtain ⟨i, tag, s, j, rfl, hi, P, v, hp, hj⟩ := hrel
    clear H0 HR
    by_cases hlt : i < q.length
    · obtain ⟨b0, off, rfl, HD2⟩ := HD.out i hlt
      obtain ⟨N9, HDo⟩ := HD2 tag wr s b a m P v
      obtain ⟨f0, f1, f2, f3, f4, f5, f6, f7, f8⟩ := N9
      have kU : Kp [] wr (wr.alloc (.cells #[.int .i64 q[i].1.kd, .int .i64 q[i].1.nd, .int .i64 q[i].1.pa, .int .i64 q[i].1.rf, .int .i64 q[i].1.ty, .int .i64 q[i].1.ns, .string q[i].1.nm, .slice q[i].2.1 q[i].2.2.1 q[i].2.2.2, .string q[i].1.tt] 25)) := (Kp.refl _ _).alloc _
      have HDo := HDo _ kU
      have hs := Py.play_step (s := s) (l := os q) (i := i) (by simpa using hlt) rfl
      rw [os_get hlt, hp] at hs
      have j0 : (0 : Int) ≤ (i : Int) := by omega
      have j1 : (i : Int) < (q.length : Int) := by omega
      clear HD HD2 kU
      unfold ov at HDo
      generalize q[i] = x at *
      by_cases hc : (s.doF x.1).2 = 0
      · rw [hc] at HDo
        rw [if_pos hc] at hs
        have HS : Hid (Py.playF (s.doF x.1).1 ((os q).drop (i + 1)) = (R.1, j - 1, R.2.2) ∧ i + 1 + (j - 1) = R.2.1) := by
          obtain ⟨e1, e2, e3⟩ : R.1 = (Py.playF (s.doF x.1).1 ((os q).drop (i + 1))).1 ∧ j = (Py.playF (s.doF x.1).1 ((os q).drop (i + 1))).2.1 + 1 ∧ R.2.2 = (Py.playF (s.doF x.1).1 ((os q).drop (i + 1))).2.2 := by simpa using hs
          refine ⟨?_, by omega⟩
          rw [e1, e2, e3]
          simp
        clear hs hp hj P v hc
        go_wp2_with (go_at_call 9; refine HDo.mono ?_; rintro e W2 ⟨rfl, tag2, p2, v2⟩)
        go_roundw
        case rel => exact ⟨i + 1, tag2, _, j - 1, by go_num, by omega, p2, v2, HS.out⟩
        case measure => simp [intOf]; omega
      · rw [if_neg hc] at hs
        obtain ⟨e1, e2, e3⟩ : R.1 = s ∧ j = 0 ∧ R.2.2 = (s.doF x.1).2 := by simpa using hs
        have hc2 : ((s.doF x.1).2 != 0) = true := by simpa using hc
        have HE : Hid (R.2 = (((i : Int)).toNat, (s.doF x.1).2)) := by
          rw [← e3]
          have : R.2.1 = i := by omega
          rw [Int.toNat_natCast, ← this]
          exact rfl
        clear hs hp hj P v e1 e2 e3
        go_wp2_with (go_at_call 9; refine HDo.mono ?_; rintro e W2 ⟨rfl, tag2, p2, v2⟩)
        go_ret3
        exact ⟨none, _, _, rfl, ⟨HE.out, by omega, .inr ⟨hc, rfl⟩⟩, v2.kp (fun _ _ => rfl)⟩
    · obtain rfl : i = q.length := by omega
      rw [List.drop_eq_nil_of_le (by simp)] at hp
      obtain ⟨e1, e2, e3⟩ : s = R.1 ∧ 0 = j ∧ 0 = R.2.2 := by simpa [Py.playF] using hp
      obtain ⟨c0, _⟩ := P.head
      have HE : Hid (R.2 = (((q.length : Int)).toNat, 0) ∧ Ps tag wr a R.1.q R.1.A q.length) := by
        refine ⟨?_, by rw [← e1]; exact P.ps⟩
        have : R.2.1 = q.length := by omega
        rw [Int.toNat_natCast, ← this, e3]
      have hK : Hid (Kp [] w wr) := v.kp (fun _ _ => rfl)
      clear HD P v hp e1 e2 e3 hj hlt hi
      go_wp2
      go_ret3
      exact ⟨_, _, _, rfl, ⟨HE.out.1, by omega, .inl ⟨rfl, _, _, rfl, HE.out.2⟩⟩, hK.out⟩


end Go.Proofs.Ytpkppobkagdhkaa

/-
  Operations that are written out; known of the law: chapter 17's runs.
-/
namespace Go.Proofs.Ytpkppobkagdhkaa
open Go.RowKit Go.Maps Utf
set_option linter.unusedVariables false
set_option linter.unusedSimpArgs false

/-- A literal of operations. -/
theorem rq_lit (w : World) (q : List Oq) : Rq (w.alloc (.cells (qs q).toArray 25)) (some ⟨w.heap.size, 0, none⟩) q.length q.length q :=
  ⟨rfl, Nat.le_refl _, fun j hj => ⟨w.heap.size, 0, rfl, by
    rw [cell_of (heap_new w _), Nat.zero_add, List.getElem?_toArray]⟩⟩

/-- An operation without attributes. -/
def oq (o : Ot) : Oq := (o, none, 0, 0)

/-- .. of those that have no attributes. -/
theorem ry_lit (w : World) (l : List Ot) (h : ∀ o, o ∈ l → tinyO o ∧ o.al = []) : Ry (w.alloc (.cells (qs (l.map oq)).toArray 25)) (some ⟨w.heap.size, 0, none⟩) l.length l.length (l.map oq) := by
  have := rq_lit w (l.map oq)
  rw [List.length_map] at this
  refine ⟨this, fun p hp => ?_, fun p hp => ?_⟩
  · obtain ⟨o, ho, rfl⟩ := List.mem_map.1 hp
    show Rk Any 2 _ none 0 0 (cs o.al)
    rw [(h o ho).2]
    exact Rk.nil _ _ _ _ _
  · obtain ⟨o, ho, rfl⟩ := List.mem_map.1 hp
    exact (h o ho).1

theorem os_oq (l : List Ot) : os (l.map oq) = l := by
  simp only [os, List.map_map]
  exact List.map_id l

def kA : Ot := ⟨1, 1, 0, 0, 3, 1, ⟨#[112]⟩, [], ⟨#[]⟩⟩
def kB : Ot := ⟨2, 1, 0, 0, 0, 0, ⟨#[]⟩, [], ⟨#[]⟩⟩

theorem tiny_no {o : Ot} (h1 : o.nm.size ≤ 10) (h2 : o.tt.size ≤ 10) (h3 : o.al = []) : tinyO o := ⟨h1, h2, by rw [h3]; exact Nat.zero_le _, fun a ha => by rw [h3] at ha; cases ha⟩

theorem kno1 : (Py.playF Py.first [kA, kB]).2 = (2, 0) ∧ (Py.playF Py.first [kA, kB]).1.A.kidF 0 = [1] := by
  constructor
  · kernel_rfl
  · kernel_rfl
theorem kno2 : (Py.playF Py.first [kB]).2 = (0, 22) := by kernel_rfl

set_option maxRecDepth 100000 in
set_option maxHeartbeats 1000000 in
theorem known_any (w : World) : Calls Try.prog 7 #[] w fun e w' => e = .returned (.bool true) ∧ Kp [] w w' := by
  have tA : ∀ o, o ∈ [kA, kB] → tinyO o ∧ o.al = [] := fun o ho => by
    simp only [List.mem_cons, List.not_mem_nil, or_false] at ho
    rcases ho with rfl | rfl
    · exact ⟨tiny_no (by decide) (by decide) rfl, rfl⟩
    · exact ⟨tiny_no (by decide) (by decide) rfl, rfl⟩
  have H1 : Hid (∃ W, w.alloc (.cells (qs ([kA, kB].map oq)).toArray 25) = W ∧ Kp [] w W ∧ Calls Try.prog 5 #[.slice (some ⟨w.heap.size, 0, none⟩) 2 2] W fun e w' => ∃ a tag, e = .returned (.tuple #[.pointer (some ⟨a, 0, none⟩), .int .i64 2, .int .i64 0]) ∧ Ps tag w' a (Py.playF Py.first [kA, kB]).1.q (Py.playF Py.first [kA, kB]).1.A 2 ∧ Kp [] w w') := by
    have k0 : Kp [] w (w.alloc (.cells (qs ([kA, kB].map oq)).toArray 25)) := (Kp.refl _ _).alloc _
    refine ⟨_, rfl, k0, (replay_any _ _ _ _ _ (ry_lit w [kA, kB] tA) (by show 2 ≤ 1300; omega)).mono ?_⟩
    rintro e W2 ⟨ptr, j, ec, rfl, ⟨hd, h0, hc⟩, k2⟩
    rw [os_oq] at hd hc
    rw [kno1.1] at hd
    obtain ⟨hj, rfl⟩ : 2 = j.toNat ∧ 0 = ec := by simpa using hd
    obtain rfl : j = 2 := by omega
    rcases hc with ⟨_, a, tag, rfl, P⟩ | ⟨hc, _⟩
    · exact ⟨a, tag, rfl, P, k0.trans k2 (fun x hx => Or.inl hx)⟩
    · exact absurd rfl hc
  have H2 : Hid (∀ V, ∃ W, V.alloc (.cells (qs ([kB].map oq)).toArray 25) = W ∧ Kp [] V W ∧ Calls Try.prog 5 #[.slice (some ⟨V.heap.size, 0, none⟩) 1 1] W fun e w' => e = .returned (.tuple #[.pointer none, .int .i64 0, .int .i64 22]) ∧ Kp [] V w') := fun V => by
    have k0 : Kp [] V (V.alloc (.cells (qs ([kB].map oq)).toArray 25)) := (Kp.refl _ _).alloc _
    refine ⟨_, rfl, k0, (replay_any _ _ _ _ _ (ry_lit V [kB] (fun o ho => tA o (List.mem_cons_of_mem _ ho))) (by show 1 ≤ 1300; omega)).mono ?_⟩
    rintro e W2 ⟨ptr, j, ec, rfl, ⟨hd, h0, hc⟩, k2⟩
    rw [os_oq] at hd hc
    rw [kno2] at hd
    obtain ⟨hj, rfl⟩ : 0 = j.toNat ∧ 22 = ec := by simpa using hd
    obtain rfl : j = 0 := by omega
    rcases hc with ⟨hc, _⟩ | ⟨_, rfl⟩
    · exact absurd hc (by decide)
    · exact ⟨rfl, k0.trans k2 (fun x hx => Or.inl hx)⟩
  have HK : Hid (∀ V tag a, Ps tag V a (Py.playF Py.first [kA, kB]).1.q (Py.playF Py.first [kA, kB]).1.A 2 → Calls Try.prog 15 #[.pointer (some ⟨a, 0, none⟩), .int .i64 0] V fun e w' => ∃ ao c', e = .returned (.slice ao 1 c') ∧ Kp [] V w') := fun V tag a P => by
    refine (P.kids 0).mono ?_
    rintro e w' ⟨ao, n', c', rfl, M⟩
    rw [kno1.2] at M
    obtain rfl : n' = 1 := M.rb.len
    exact ⟨ao, c', rfl, M.2.1⟩
  clear tA
  obtain ⟨W1, hW1, k1, HD1⟩ := H1.out
  have HW1 : Hid (_ = W1) := hW1
  simp only [List.map_cons, List.map_nil, qs, oq, kA, kB] at HW1 H2
  clear hW1 H1
  generalize Py.playF Py.first [kA, kB] = R at *
  go_enter Try.func7, Try.ntmps7
  go_wp2_with (first | (go_at_call 5; rw [HW1.out]; refine HD1.mono ?_; rintro e W2 ⟨a, tag, rfl, P2, k2⟩; obtain ⟨W3, hW3, k3, HD3⟩ := H2.out W2; have HW3 : Hid (_ = W3) := hW3; clear hW3) | (go_at_call 5; rw [HW3.out]; refine HD3.mono ?_; rintro e W4 ⟨rfl, k4⟩; have HK4 := HK.out _ _ _ (P2.kept k4)) | (go_at_call 15; refine HK4.mono ?_; rintro e W5 ⟨ao5, c5, rfl, k5⟩))
  go_ret
  exact ⟨rfl, (k2.trans k4 (fun x hx => Or.inl hx)).trans k5 (fun x hx => Or.inl hx)⟩

end Go.Proofs.Ytpkppobkagdhkaa
