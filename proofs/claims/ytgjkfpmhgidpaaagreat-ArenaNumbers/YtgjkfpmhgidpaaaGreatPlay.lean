/-
  A row of calls that came in; do, played of the law; ArenaPlays.
-/
import Derived.Test.YtgjkfpmhgidpaaaGreatDoB
namespace Go.Proofs.YtgjkfpmhgidpaaaGreat
open Go.RowKit Go.Maps Utf
set_option linter.unusedVariables false
set_option linter.unusedSimpArgs false

/-- A call. -/
structure Aq where
  kd : Int
  za : Int
  zb : Int
  ty : Int
  ns : Int
  nm : ByteArray
  tx : ByteArray
  l : List Att
  fl : Bool

def aqc (x : Aq) (p : Option Addr × Nat × Nat) : List Value := [.int .i64 x.kd, .int .i64 x.za, .int .i64 x.zb, .int .i64 x.ty, .int .i64 x.ns, .string x.nm, .string x.tx, .slice p.1 p.2.1 p.2.2, .bool x.fl]

/-- A slice of calls that came in. -/
structure Ain (w : World) (ao : Option Addr) (n c : Nat) (F : Nat → Aq) : Prop where
  cap : n ≤ c
  max : n ≤ 140737488355328
  at' : ∀ i, i < n → ∃ b off p, ao = some ⟨b, off, none⟩ ∧ (∀ j, j < 9 → w.cell? ⟨b, off + i * 9 + j, none⟩ = (aqc (F i) p)[j]?) ∧ Rp w p.1 p.2.1 p.2.2 (F i).l ∧ p.2.1 ≤ 140737488355328

theorem cell_kept {w w' : World} (k : Kp [] w w') {a : Addr} {v : Value} (h : w.cell? a = some v) : w'.cell? a = some v := by
  obtain ⟨b, off, sp⟩ := a
  have hl : b < w.heap.size := by
    rcases Nat.lt_or_ge b w.heap.size with h1 | h1
    · exact h1
    · simp [World.cell?, Array.getElem?_eq_none h1] at h
  have e := k.block b hl (by simp)
  simp only [World.cell?, e] at h ⊢
  exact h

theorem Ain.kept {w w' : World} {ao : Option Addr} {n c : Nat} {F : Nat → Aq} (h : Ain w ao n c F) (k : Kp [] w w') : Ain w' ao n c F := by
  refine ⟨h.cap, h.max, fun i hi => ?_⟩
  obtain ⟨b, off, p, e, hc, hr, hl⟩ := h.at' i hi
  refine ⟨b, off, p, e, fun j hj => ?_, hr.kept k, hl⟩
  have := hc j hj
  have hj2 : j < (aqc (F i) p).length := hj
  rw [List.getElem?_eq_getElem hj2] at this ⊢
  exact cell_kept k this

section
variable {tag : Nat → Nat} {w : World} {b d k : Nat} {q : Bool} {A : Ar}

theorem do_any (B : Bo tag w b d q A k) (hk : k < 1300) (x : Aq) (p : Option Addr × Nat × Nat) (hr : Rp w p.1 p.2.1 p.2.2 x.l) (hl : p.2.1 ≤ 140737488355328) :
    Calls Tryz.prog 7 #[.pointer (some ⟨b, 0, none⟩), .pointer (some ⟨d, 0, none⟩), .agg #[.int .i64 x.kd, .int .i64 x.za, .int .i64 x.zb, .int .i64 x.ty, .int .i64 x.ns, .string x.nm, .string x.tx, .slice p.1 p.2.1 p.2.2, .bool x.fl]] w fun e w' => e = .returned (.bool true) ∧ ∃ tag' q' A', Bo tag' w' b d q' A' (k + 1) ∧ Bv tag w tag' w' := by
  exact do_all B hk x.kd x.za x.zb x.ty x.ns x.nm x.tx x.l x.fl p.1 p.2.1 p.2.2 hr hl

end

/-- Both new ones. -/
theorem new2 (w : World) :
    Hid (Calls Tryz.prog 5 #[] w fun e w' => ∃ b tag', e = .returned (.pointer (some ⟨b, 0, none⟩)) ∧ Ps tag' w' b false Ar.first 0 ∧ Mv (fun _ => 0) w tag' w') ∧
    Hid (∀ b tag1 w1, Ps tag1 w1 b false Ar.first 0 → Mv (fun _ => 0) w tag1 w1 → Calls Tryz.prog 6 #[] w1 fun e w' => ∃ d tag', e = .returned (.pointer (some ⟨d, 0, none⟩)) ∧ Bo tag' w' b d false Ar.first 0 ∧ Bv (fun _ => 0) w tag' w') := by
  refine ⟨(Ps.new w (fun _ => 0)).mono ?_, fun b tag1 w1 p1 m1 => (rnew_any w1 tag1).mono ?_⟩
  · rintro e w' ⟨b, tag', rfl, p, m, _⟩
    exact ⟨b, tag', rfl, p, m⟩
  · rintro e w' ⟨d, tag', rfl, dn, dv, _⟩
    exact ⟨d, tag', rfl, ⟨p1.dv dv, dn, by omega⟩, m1.bv.trans dv.bv⟩

/-- The calls one by one, from a world where they can be read. -/
theorem do_at {w : World} {ao : Option Addr} {n c : Nat} {F : Nat → Aq} (hin : Ain w ao n c F) :
    Hid (∀ i, i < n → ∃ (b0 off : Nat) (p : Option Addr × Nat × Nat), ao = some ⟨b0, off, none⟩ ∧ ∀ (tag : Nat → Nat) (V : World) (b d : Nat) (q : Bool) (A : Ar) (k : Nat), Bo tag V b d q A k → Bv (fun _ => 0) w tag V → k < 1300 → (∀ U, Kp [] V U → U.cell? ⟨b0, off + i * 9, none⟩ = some (.int .i64 (F i).kd) ∧ U.cell? ⟨b0, off + i * 9 + 1, none⟩ = some (.int .i64 (F i).za) ∧ U.cell? ⟨b0, off + i * 9 + 2, none⟩ = some (.int .i64 (F i).zb) ∧ U.cell? ⟨b0, off + i * 9 + 3, none⟩ = some (.int .i64 (F i).ty) ∧ U.cell? ⟨b0, off + i * 9 + 4, none⟩ = some (.int .i64 (F i).ns) ∧ U.cell? ⟨b0, off + i * 9 + 5, none⟩ = some (.string (F i).nm) ∧ U.cell? ⟨b0, off + i * 9 + 6, none⟩ = some (.string (F i).tx) ∧ U.cell? ⟨b0, off + i * 9 + 7, none⟩ = some (.slice p.1 p.2.1 p.2.2) ∧ U.cell? ⟨b0, off + i * 9 + 8, none⟩ = some (.bool (F i).fl)) ∧
      Calls Tryz.prog 7 #[.pointer (some ⟨b, 0, none⟩), .pointer (some ⟨d, 0, none⟩), .agg #[.int .i64 (F i).kd, .int .i64 (F i).za, .int .i64 (F i).zb, .int .i64 (F i).ty, .int .i64 (F i).ns, .string (F i).nm, .string (F i).tx, .slice p.1 p.2.1 p.2.2, .bool (F i).fl]] V fun e w' => e = .returned (.bool true) ∧ ∃ tag' q' A', Bo tag' w' b d q' A' (k + 1) ∧ Bv (fun _ => 0) w tag' w') := fun i hi => by
  obtain ⟨b0, off, p, e, hc, hr, hl⟩ := hin.at' i hi
  refine ⟨b0, off, p, e, fun tag V b d q A k B v hk => ⟨fun U kU => ?_, ?_⟩⟩
  · have kV := (v.kp (fun _ _ => rfl)).trans kU (fun x hx => Or.inl hx)
    have f : ∀ j, j < 9 → ∀ u, (aqc (F i) p)[j]? = some u → U.cell? ⟨b0, off + i * 9 + j, none⟩ = some u := fun j hj u hu => cell_kept kV ((hc j hj).trans hu)
    exact ⟨f 0 (by omega) _ rfl, f 1 (by omega) _ rfl, f 2 (by omega) _ rfl, f 3 (by omega) _ rfl, f 4 (by omega) _ rfl, f 5 (by omega) _ rfl, f 6 (by omega) _ rfl, f 7 (by omega) _ rfl, f 8 (by omega) _ rfl⟩
  · refine (do_any B hk (F i) p (hr.kept (v.kp (fun _ _ => rfl))) hl).mono ?_
    rintro e w' ⟨rfl, tag', q', A', h1, h2⟩
    exact ⟨rfl, tag', q', A', h1, v.trans h2⟩

set_option maxRecDepth 100000 in
set_option maxHeartbeats 1000000 in
theorem played_any (w : World) (ao : Option Addr) (n c : Nat) (F : Nat → Aq) (hin : Ain w ao n c F) :
    Calls Tryz.prog 11 #[.slice ao n c] w fun e w' => ∃ b d tag q A k, e = .returned (.pointer (some ⟨b, 0, none⟩)) ∧ Bo tag w' b d q A k ∧ k ≤ 50 ∧ Bv (fun _ => 0) w tag w' := by
  obtain ⟨HN, HR⟩ := new2 w
  have HN := HN.out
  have HD := do_at hin
  have hmx := hin.max
  clear hin
  go_enter Tryz.func11, Tryz.ntmps11
  go_wp2_with (first | (go_at_call 5; refine HN.mono ?_; rintro e w1 ⟨b, tag1, rfl, p1, m1⟩) | (go_at_call 6; refine (HR.out _ _ _ p1 m1).mono ?_; rintro e w2 ⟨d, tag2, rfl, B2, v2⟩))
  have H0 : Hid (Bo tag2 w2 b d false Ar.first 0 ∧ Bv (fun _ => 0) w tag2 w2) := ⟨B2, v2⟩
  clear HN HR p1 m1 B2 v2
  go_loopw [5] (fun v wr => ∃ (i : Nat) (tag : Nat → Nat) (q : Bool) (A : Ar), v = .int .i64 (i : Int) ∧ i ≤ 50 ∧ i ≤ n ∧ Bo tag wr b d q A i ∧ Bv (fun _ => 0) w tag wr) (fun v _ => 50 - (intOf v).toNat)
  case atStart => exact ⟨0, tag2, false, Ar.first, rfl, by omega, by omega, H0.out.1, H0.out.2⟩
  case round =>
    obtain ⟨i, tag, q, A, rfl, h5, hn, B, v⟩ := hrel
    clear H0
    by_cases hi : i < n ∧ i < 50
    · obtain ⟨hin, hi5⟩ := hi
      obtain ⟨b0, off, p, rfl, HD2⟩ := HD.out i hin
      obtain ⟨HC, HDo⟩ := HD2 tag wr b d q A i B v (by omega)
      obtain ⟨f0, f1, f2, f3, f4, f5, f6, f7, f8⟩ := HC wr (Kp.refl _ _)
      have j0 : (0 : Int) ≤ (i : Int) := by omega
      have j1 : (i : Int) < (n : Int) := by omega
      have j2 : (i : Int) < 50 := by omega
      clear HD HD2 HC B v
      generalize F i = x at *
      go_wp2_with (go_at_call 7; refine HDo.mono ?_; rintro e w3 ⟨rfl, tag3, q3, A3, B3, v3⟩)
      go_roundw
      case rel => exact ⟨i + 1, tag3, q3, A3, by go_num, by omega, by omega, B3, v3⟩
      case measure => simp [intOf]; omega
    · have H9 : Hid (∃ b' d tag q A k, (some ⟨b, 0, none⟩ : Option Addr) = some ⟨b', 0, none⟩ ∧ Bo tag wr b' d q A k ∧ k ≤ 50 ∧ Bv (fun _ => 0) w tag wr) := ⟨b, d, tag, q, A, i, rfl, B, h5, v⟩
      clear HD B v
      by_cases hi1 : i < n
      · have hi2 : ¬ i < 50 := fun h => hi ⟨hi1, h⟩
        obtain rfl : i = 50 := by omega
        have j1 : (50 : Int) < (n : Int) := by omega
        clear hi hi1 hi2 hn h5
        rw [show ((50 : Nat) : Int) = 50 from rfl]
        go_wp2
        go_ret
        obtain ⟨b', d', tag', q', A', k', e, r9⟩ := H9.out
        cases e
        exact ⟨_, d', tag', q', A', k', rfl, r9⟩
      · have j1 : (n : Int) ≤ (i : Int) := by omega
        clear hi hi1
        go_wp2
        go_ret
        obtain ⟨b', d', tag', q', A', k', e, r9⟩ := H9.out
        cases e
        exact ⟨_, d', tag', q', A', k', rfl, r9⟩

end Go.Proofs.YtgjkfpmhgidpaaaGreat
