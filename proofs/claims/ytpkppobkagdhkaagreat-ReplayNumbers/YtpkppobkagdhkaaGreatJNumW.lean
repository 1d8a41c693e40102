/-
  Joined: NumW.
-/
import Derived.Test.YtpkppobkagdhkaaGreatJ33
import Derived.Test.YtpkppobkagdhkaaGreatJ43

/-
  ReplayNumbers: chapter 17's runs, each Kind with handles that are known and not.
-/
namespace Go.Proofs.YtpkppobkagdhkaaGreat
open Go.RowKit Go.Maps Utf
set_option linter.unusedVariables false
set_option linter.unusedSimpArgs false

/-- What is read from the second operation on. -/
theorem Rq.tail {w : World} {g off n c : Nat} {p : Oq} {q : List Oq} (h : Rq w (some ⟨g, off, none⟩) (n + 1) c (p :: q)) : Rq w (some ⟨g, off + 9, none⟩) n (c - 1) q := by
  have hl := h.len
  simp only [List.length_cons] at hl
  refine ⟨by omega, by have := h.cap; omega, fun j hj => ⟨g, off + 9, rfl, ?_⟩⟩
  obtain ⟨b, o, e, h2⟩ := h.at' (j + 9) (by omega)
  simp only [Option.some.injEq, Addr.mk.injEq] at e
  obtain ⟨rfl, rfl, _⟩ := e
  rw [show off + 9 + j = off + (j + 9) by omega, h2]
  rfl

def nB : List Ot := [⟨1, 1, 0, 0, 3, 1, ⟨#[116, 101, 109, 112, 108, 97, 116, 101]⟩, [], ⟨#[]⟩⟩, ⟨1, 2, 0, 0, 3, 1, ⟨#[116, 97, 98, 108, 101]⟩, [], ⟨#[]⟩⟩, ⟨2, 2, 0, 0, 0, 0, ⟨#[]⟩, [], ⟨#[]⟩⟩, ⟨1, 3, 0, 0, 3, 1, ⟨#[112]⟩, [], ⟨#[]⟩⟩, ⟨9, 4, 0, 1, 0, 0, ⟨#[]⟩, [], ⟨#[]⟩⟩, ⟨1, 5, 0, 0, 5, 0, ⟨#[]⟩, [], ⟨#[99]⟩⟩]
def nX : Ot := ⟨5, 0, 2, 0, 0, 0, ⟨#[]⟩, [], ⟨#[120]⟩⟩

theorem nB_tiny : ∀ o, o ∈ nB → tinyO o ∧ o.al = [] := fun o ho => by
  simp only [nB, List.mem_cons, List.not_mem_nil, or_false] at ho
  rcases ho with rfl | rfl | rfl | rfl | rfl | rfl
  all_goals exact ⟨tiny_no (by decide) (by decide) rfl, rfl⟩

/-- Operations that are read may be appended. -/
theorem Rq.src {w : World} {g off n c : Nat} {q : List Oq} (h : Rq w (some ⟨g, off, none⟩) n c q) : Src Tryz.prog 9 25 (.slice (some ⟨g, off, none⟩) n c) n (qs q) w := by
  refine Src.ofSlice w Tryz.underlying25 ⟨g, off, none⟩ n c (qs q) (by rw [qs_len, h.len]) (fun j u hj => ?_) (qs_one q)
  have hjl := (List.getElem?_eq_some_iff.1 hj).1
  rw [qs_len] at hjl
  obtain ⟨b, o, e, h2⟩ := h.at' j (by have := h.len; omega)
  simp only [Option.some.injEq, Addr.mk.injEq] at e
  obtain ⟨rfl, rfl, _⟩ := e
  rw [Addr.add_lit, h2]
  exact hj

/-- append of several, onto what a call made. -/
theorem Mq.many {w w1 : World} {ao : Option Addr} {n c : Nat} {q : List Oq} (h : Mq w w1 ao n c q) {v : Value} {m : Nat} {r : List Oq} (hs : Src Tryz.prog 9 25 v m (qs r) w1) (hm : 0 < m) (hr : ∀ p, p ∈ r → Ao w1 p) (hlen : n + m ≤ 1000000) :
    ∃ g o c' w2, (∀ ty, (Builtin.append_ #[25, 25] ty #[.slice ao n c, v]).run Tryz.prog w1 = .ok (.slice (some ⟨g, o, none⟩) (n + m) c') w2) ∧ Mq w w2 (some ⟨g, o, none⟩) (n + m) c' (q ++ r) := by
  obtain ⟨h1, h2, h3, h4⟩ := h
  obtain ⟨v', w2, hrun, o2, k2, b2, a2, c2, rfl⟩ := appK Tryz.underlying25 infoOp rfl (by decide) _ _ _ _ h1 v m (qs r) hs (fun _ => hm) hlen
  obtain ⟨g, o, e⟩ : ∃ g o, a2 = ⟨g, o, none⟩ := by
    obtain ⟨_, hh⟩ := o2
    rcases hh with ⟨e, _⟩ | ⟨g, o, cap, cur, e, _⟩
    · cases e
    · simp only [Value.slice.injEq, Option.some.injEq] at e
      exact ⟨g, o, e.1⟩
  subst e
  refine ⟨g, o, c2, w2, hrun, by rw [qs_append]; exact o2, h2.trans k2 (fun x hx => Or.inr (h3 x hx)), fun x hx => ?_, fun p hp => ?_⟩
  · rcases b2 x hx with e | e
    · exact h3 x e
    · have := h2.size
      omega
  · have hx := (List.mem_append.1 hp).elim (h4 p) (hr p)
    exact hx.keep k2 (hx.apart h1)

theorem Mq.empty (w : World) : Mq w (w.alloc (.cells #[] 24)) (some ⟨w.heap.size, 0, none⟩) 0 0 [] :=
  ⟨⟨rfl, Or.inr ⟨w.heap.size, 0, 0, #[], rfl, heap_new w _, Nat.le_refl _, by unfold maxLen; omega, by simp, fun j hj => by simp at hj⟩⟩, (Kp.refl _ _).alloc _, fun x hx => by simp [blk] at hx; omega, fun p hp => by cases hp⟩

/-- What is done of a row of a Kind. -/
def nR (kd a b : Int) : Rx := ⟨kd, a, b, 3, 0, 0, ⟨#[]⟩, ⟨#[116]⟩, []⟩

theorem Mq.ryn {w w' : World} {g o c : Nat} {r : Rx} {p : Sl} (h : Mq w w' (some ⟨g, o, none⟩) 8 c (nB.map oq ++ [(madF r, p), oq nX])) : Ry w' (some ⟨g, o, none⟩) 8 c (nB.map oq ++ [(madF r, p), oq nX]) ∧ Ry w' (some ⟨g, o + 9, none⟩) 7 (c - 1) ((nB.map oq ++ [(madF r, p), oq nX]).tail) := by
  have h1 : Ry w' (some ⟨g, o, none⟩) 8 c (nB.map oq ++ [(madF r, p), oq nX]) := by
    refine ⟨h.rq, fun x hx => Rk.of_own (h.ar x hx) rfl (fun _ _ => trivial), fun x hx => ?_⟩
    rcases List.mem_append.1 hx with e | e
    · obtain ⟨y, hy, rfl⟩ := List.mem_map.1 e
      exact (nB_tiny y hy).1
    · simp only [List.mem_cons, List.not_mem_nil, or_false] at e
      rcases e with rfl | rfl
      · exact madF_tiny r
      · exact tiny_no (by decide) (by decide) rfl
  refine ⟨h1, ⟨Rq.tail (n := 7) h1.rq, fun x hx => h1.at' x (List.mem_of_mem_tail hx), fun x hx => h1.ti x (List.mem_of_mem_tail hx)⟩⟩

set_option maxRecDepth 100000 in
set_option maxHeartbeats 2000000 in
theorem numbers_walk (w : World) : Calls Tryz.prog 3 #[] w fun e w' => e = .returned (.bool true) ∧ Kp [] w w' := by
  obtain ⟨W0, hW0⟩ : ∃ W, w.alloc (.cells (qs (nB.map oq)).toArray 24) = W := ⟨_, rfl⟩
  have HW0 : Hid (_ = W0) := hW0
  have rqB : Rq W0 (some ⟨w.heap.size, 0, none⟩) 6 6 (nB.map oq) := by
    have := rq_lit w (nB.map oq)
    rw [hW0] at this
    exact this
  have k0 : Kp [] w W0 := by rw [← hW0]; exact (Kp.refl _ _).alloc _
  simp only [nB, List.map_cons, List.map_nil, qs, oq] at HW0
  obtain ⟨g, hg⟩ : ∃ g, w.heap.size = g := ⟨_, rfl⟩
  rw [hg] at rqB
  have HB : Hid (∀ V, Kp [] W0 V → ∃ g1 o1 c1 V2, (∀ ty, (Builtin.append_ #[25, 25] ty #[.slice (some ⟨V.heap.size, 0, none⟩) 0 0, .slice (some ⟨g, 0, none⟩) 6 6]).run Tryz.prog (V.alloc (.cells #[] 24)) = .ok (.slice (some ⟨g1, o1, none⟩) 6 c1) V2) ∧ Mq V V2 (some ⟨g1, o1, none⟩) 6 c1 (nB.map oq)) := fun V kV => by
    have kv := kV.trans (Mq.empty V).kp (fun z hz => Or.inl hz)
    exact (Mq.empty V).many (rqB.kept kv).src (by omega) (fun p hp => by
      obtain ⟨y, hy, rfl⟩ := List.mem_map.1 hp
      exact ar_nil _ _ (nB_tiny y hy).2) (by omega)
  have HM : Hid (∀ (V V2 : World) g1 o1 c1 kd a b, Mq V V2 (some ⟨g1, o1, none⟩) 6 c1 (nB.map oq) → Calls Tryz.prog 8 #[.agg #[.int .i64 kd, .int .i64 a, .int .i64 b, .int .i64 3, .int .i64 0, .int .i64 0, .string ⟨#[]⟩, .string ⟨#[116]⟩, .slice none 0 0]] V2 fun e V3 => ∃ p : Sl, e = .returned (.agg #[.int .i64 (madF (nR kd a b)).kd, .int .i64 (madF (nR kd a b)).nd, .int .i64 (madF (nR kd a b)).pa, .int .i64 (madF (nR kd a b)).rf, .int .i64 (madF (nR kd a b)).ty, .int .i64 (madF (nR kd a b)).ns, .string (madF (nR kd a b)).nm, .slice p.1 p.2.1 p.2.2, .string (madF (nR kd a b)).tt]) ∧
      ∃ g2 o2 c2 V5, (∀ ty, (Builtin.append_ #[25, 25] ty #[.slice (some ⟨g1, o1, none⟩) 6 c1, .slice (some ⟨V3.heap.size, 0, none⟩) 2 2]).run Tryz.prog (V3.alloc (.cells #[.int .i64 (madF (nR kd a b)).kd, .int .i64 (madF (nR kd a b)).nd, .int .i64 (madF (nR kd a b)).pa, .int .i64 (madF (nR kd a b)).rf, .int .i64 (madF (nR kd a b)).ty, .int .i64 (madF (nR kd a b)).ns, .string (madF (nR kd a b)).nm, .slice p.1 p.2.1 p.2.2, .string (madF (nR kd a b)).tt, .int .i64 5, .int .i64 0, .int .i64 2, .int .i64 0, .int .i64 0, .int .i64 0, .string ⟨#[]⟩, .slice none 0 0, .string ⟨#[120]⟩] 24)) = .ok (.slice (some ⟨g2, o2, none⟩) 8 c2) V5) ∧ Mq V V5 (some ⟨g2, o2, none⟩) 8 c2 (nB.map oq ++ [(madF (nR kd a b), p), oq nX])) := fun V V2 g1 o1 c1 kd a b M => by
    refine (made_any V2 (nR kd a b) (none, 0, 0) (Rk.nil Any 2 V2 none 0).rp (Nat.zero_le _)).mono ?_
    rintro e V3 ⟨p, rfl, hA, _, k3⟩
    have M3 := M.kept (k3.alloc (.cells (qs [(madF (nR kd a b), p), oq nX]).toArray 24))
    have rq2 := rq_lit V3 [(madF (nR kd a b), p), oq nX]
    obtain ⟨g2, o2, c2, V5, hr, M5⟩ := M3.many rq2.src (by simp) (fun x hx => by
      simp only [List.mem_cons, List.not_mem_nil, or_false] at hx
      rcases hx with rfl | rfl
      · exact hA.kept ((Kp.refl [] _).alloc _)
      · exact ar_nil _ _ rfl) (by simp)
    exact ⟨p, rfl, g2, o2, c2, V5, hr, M5⟩
  have HS : Hid (∀ (V V5 : World) g2 o2 c2 r p, Kp [] W0 V → Mq V V5 (some ⟨g2, o2, none⟩) 8 c2 (nB.map oq ++ [(madF r, p), oq nX]) → 8 ≤ c2 ∧ Kp [] W0 V5 ∧ (∀ U, Kp [] V5 U → Calls Tryz.prog 9 #[.slice (some ⟨g2, o2, none⟩) 8 c2] U fun e w' => e = .returned (.bool true) ∧ Kp [] U w') ∧ ∀ U, Kp [] V5 U → Calls Tryz.prog 9 #[.slice (some ⟨g2, o2 + 9, none⟩) 7 (c2 - 1)] U fun e w' => e = .returned (.bool true) ∧ Kp [] U w') := fun V V5 g2 o2 c2 r p kV M => by
    obtain ⟨r1, r2⟩ := M.ryn
    exact ⟨r1.rq.cap, kV.trans M.kp (fun z hz => Or.inl hz), fun U kU => sames_any (r1.kept kU) (by omega), fun U kU => sames_any (r2.kept kU) (by omega)⟩
  clear hW0 rqB
  go_enter Tryz.func3, Tryz.ntmps3
  go_wp2_with fail
  rw [HW0.out]
  clear HW0
  go_loopw [2] (fun v wr => ∃ i : Nat, v = .int .i64 (i : Int) ∧ i ≤ 13 ∧ Kp [] W0 wr) (fun v _ => 13 - (intOf v).toNat)
  case atStart => exact ⟨0, rfl, by omega, Kp.refl _ _⟩
  case round =>
    obtain ⟨i, rfl, hi, kr⟩ := hrel
    by_cases hlt : i < 13
    · have j1 : (i : Int) < 13 := by omega
      go_wp2_with fail
      obtain ⟨wa, hwa⟩ : ∃ x, x = wr := ⟨_, rfl⟩
      rw [← hwa] at kr
      have kr : Hid (Kp [] W0 wa) := kr
      try rw [show decide ((i : Int) < 13) = true from decide_eq_true j1]
      go_loopw [3] (fun v wr => ∃ a : Nat, v = .int .i64 (a : Int) ∧ a ≤ 7 ∧ Kp [] W0 wr) (fun v _ => 7 - (intOf v).toNat)
      case atStart => exact ⟨0, rfl, by omega, by rw [hwa] at kr; exact kr.out⟩
      case round =>
        obtain ⟨a, rfl, ha, kr2⟩ := hrel
        clear hwa kr
        by_cases hat : a < 7
        · have j2 : (a : Int) < 7 := by omega
          go_wp2_with fail
          obtain ⟨wb, hwb⟩ : ∃ x, x = wr := ⟨_, rfl⟩
          rw [← hwb] at kr2
          have kr2 : Hid (Kp [] W0 wb) := kr2
          try rw [show decide ((a : Int) < 7) = true from decide_eq_true j2]
          go_loopw [4] (fun v wr => ∃ b : Nat, v = .int .i64 ((2 * b : Nat) : Int) ∧ b ≤ 4 ∧ Kp [] W0 wr) (fun v _ => 8 - (intOf v).toNat)
          case atStart => exact ⟨0, rfl, by omega, by rw [hwb] at kr2; exact kr2.out⟩
          case round =>
            obtain ⟨b, rfl, hb, kr3⟩ := hrel
            clear hwb kr2
            obtain ⟨b2, hb2⟩ : ∃ x, 2 * b = x := ⟨_, rfl⟩
            rw [hb2]
            by_cases hbt : b2 < 7
            · have j3 : (b2 : Int) < 7 := by omega
              obtain ⟨g1, o1, c1, V2, hrun1, M2⟩ := HB.out _ kr3
              have HM1 := HM.out _ _ _ _ _ (i : Int) (a : Int) (b2 : Int) M2
              have kr3 : Hid (Kp [] W0 wr) := kr3
              have hb3 : Hid (2 * b = b2) := hb2
              clear M2 hb2 HB HM
              go_wp2_with (first | (go_at_call 9; refine HS2.mono ?_; rintro e W7 ⟨rfl, k7⟩) | (go_at_call 9; refine HS1.mono ?_; rintro e W6 ⟨rfl, k6⟩; have HS2 := HS5 _ k6) | (at_builtin; refine Lib.wpList_append_run _ rfl _ _ _ _ rfl _ _ rfl rfl _ _ (hrun2 _) ?_; clear hrun2) | (go_at_call 8; refine HM1.mono ?_; rintro e V3 ⟨p, rfl, g2, o2, c2, V5, hrun2, M5⟩; obtain ⟨c8, k5, HS4, HS5⟩ := HS.out _ _ _ _ _ _ _ kr3.out M5; have HS1 := HS4 _ (Kp.refl _ _); have u1 : (1 : Int) ≤ (c2 : Int) := (by omega); clear HS4 M5) | (at_builtin; refine Lib.wpList_append_run _ rfl _ _ _ _ rfl _ _ rfl rfl _ _ (hrun1 _) ?_; clear hrun1))
              have K9 : Hid (Kp [] W0 W7) := (k5.trans k6 (fun z hz => Or.inl hz)).trans k7 (fun z hz => Or.inl hz)
              clear k5 k6 k7 HS1 HS2 HS5 kr3 c8 u1
              go_wp2
              go_roundw
              case rel => exact ⟨b + 1, by have e : 2 * b = b2 := hb3.out; subst e; go_num, by have e : 2 * b = b2 := hb3.out; omega, K9.out⟩
              case measure => simp [intOf]; omega
            · have j3 : ¬ (b2 : Int) < 7 := by omega
              have j4 : decide ((b2 : Int) < 7) = false := decide_eq_false j3
              have kr3 : Hid (Kp [] W0 wr) := kr3
              clear hbt hb2 hb HB HM HS j3
              go_wp2
              go_roundw
              case rel => exact ⟨a + 1, by go_num, by omega, kr3.out⟩
              case measure => simp [intOf]; omega
        · have j2 : decide ((a : Int) < 7) = false := decide_eq_false (by omega)
          have kr2 : Hid (Kp [] W0 wr) := kr2
          clear hat ha HB HM HS
          go_wp2
          go_roundw
          case rel => exact ⟨i + 1, by go_num, by omega, kr2.out⟩
          case measure => simp [intOf]; omega
    · have j1 : decide ((i : Int) < 13) = false := decide_eq_false (by omega)
      have kr : Hid (Kp [] w wr) := k0.trans kr (fun z hz => Or.inl hz)
      have S0 : Calls Tryz.prog 9 #[.slice none 0 0] wr fun e w' => e = .returned (.bool true) ∧ Kp [] wr w' := sames_any (q := []) ⟨⟨rfl, Nat.le_refl _, fun j hj => by omega⟩, fun p hp => (by cases hp), fun p hp => (by cases hp)⟩ (by omega)
      have S1 : Hid (∀ V : World, ∃ W, V.alloc (.cells #[.int .i64 0, .int .i64 0, .int .i64 0, .int .i64 0, .int .i64 0, .int .i64 0, .string ⟨#[]⟩, .slice none 0 0, .string ⟨#[]⟩] 24) = W ∧ Calls Tryz.prog 9 #[.slice (some ⟨V.heap.size, 0, none⟩) 1 1] W fun e w' => e = .returned (.bool true) ∧ Kp [] V w') := fun V => by
        refine ⟨_, rfl, (sames_any (ry_lit V [⟨0, 0, 0, 0, 0, 0, ⟨#[]⟩, [], ⟨#[]⟩⟩] (fun o ho => ?_)) (by show 1 ≤ 1300; omega)).mono ?_⟩
        · rw [List.mem_singleton.1 ho]
          exact ⟨tiny_no (by decide) (by decide) rfl, rfl⟩
        · rintro e w' ⟨rfl, k1⟩
          exact ⟨rfl, ((Kp.refl [] V).alloc _).trans k1 (fun z hz => Or.inl hz)⟩
      have S2 : Hid (∀ V : World, ∃ W, V.alloc (.cells #[.int .i64 1, .int .i64 0, .int .i64 0, .int .i64 0, .int .i64 0, .int .i64 0, .string ⟨#[]⟩, .slice none 0 0, .string ⟨#[]⟩] 24) = W ∧ Calls Tryz.prog 9 #[.slice (some ⟨V.heap.size, 0, none⟩) 1 1] W fun e w' => e = .returned (.bool true) ∧ Kp [] V w') := fun V => by
        refine ⟨_, rfl, (sames_any (ry_lit V [⟨1, 0, 0, 0, 0, 0, ⟨#[]⟩, [], ⟨#[]⟩⟩] (fun o ho => ?_)) (by show 1 ≤ 1300; omega)).mono ?_⟩
        · rw [List.mem_singleton.1 ho]
          exact ⟨tiny_no (by decide) (by decide) rfl, rfl⟩
        · rintro e w' ⟨rfl, k1⟩
          exact ⟨rfl, ((Kp.refl [] V).alloc _).trans k1 (fun z hz => Or.inl hz)⟩
      clear hlt hi HB HM HS k0
      go_wp2_with (first | (go_at_call 10; refine (known_any _).mono ?_; rintro e W9 ⟨rfl, k9⟩) | (go_at_call 9; rw [hw3.out]; refine C3.mono ?_; rintro e W4 ⟨rfl, k4⟩) | (go_at_call 9; rw [hw2.out]; refine C2.mono ?_; rintro e W3 ⟨rfl, k3⟩; obtain ⟨X3, h3, C3⟩ := S2.out W3; have hw3 : Hid (_ = X3) := h3; clear h3) | (go_at_call 9; refine S0.mono ?_; rintro e W2 ⟨rfl, k2⟩; obtain ⟨X2, h2, C2⟩ := S1.out W2; have hw2 : Hid (_ = X2) := h2; clear h2))
      go_ret
      exact ⟨rfl, (((kr.out.trans k2 (fun z hz => Or.inl hz)).trans k3 (fun z hz => Or.inl hz)).trans k4 (fun z hz => Or.inl hz)).trans k9 (fun z hz => Or.inl hz)⟩

end Go.Proofs.YtpkppobkagdhkaaGreat
