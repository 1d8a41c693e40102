/-
  OpNumbers: what a round holds.
-/
import Derived.Test.YtpjkpobdkmcedaaDoorTelA
namespace Go.Proofs.YtpjkpobdkmcedaaDoor
open Go.RowKit Utf
set_option linter.unusedVariables false
set_option linter.unusedSimpArgs false

/-- What a round makes. -/
def Nu (o : Ot) : Prop := smallO o ∧ (-1 ≤ o.kd ∧ o.kd ≤ 13) ∧ (-1 ≤ o.nd ∧ o.nd ≤ 2147483648) ∧ (-1 ≤ o.pa ∧ o.pa ≤ 2147483648) ∧ (-1 ≤ o.rf ∧ o.rf ≤ 2147483648) ∧ (-1 ≤ o.ty ∧ o.ty ≤ 2147483648) ∧ (-1 ≤ o.ns ∧ o.ns ≤ 2147483648)

theorem Nu.in64 {o : Ot} (h : Nu o) : in64 o := by
  obtain ⟨_, h1, h2, h3, h4, h5, h6⟩ := h
  unfold Go.Proofs.YtpjkpobdkmcedaaDoor.in64 i64
  omega

theorem Nu.ln {o : Ot} (h : Nu o) : lnO dgt o = lnO itb o := by
  obtain ⟨_, h1, h2, h3, h4, h5, h6⟩ := h
  exact ln_same (by omega) (by omega) (by omega) (by omega) (by omega) (by omega)

/-- Of the Kind 20. -/
def o20 : Ot := ⟨20, 0, 0, 0, 0, 0, ⟨#[]⟩, [], ⟨#[]⟩⟩

theorem Nu.ne {o : Ot} (h : Nu o) : sameO o o20 = false := by
  cases hs : sameO o o20 with
  | false => rfl
  | true =>
    have h1 := sameO_iff.1 hs
    have h2 := h.2.1.2
    rw [h1] at h2
    simp [o20] at h2

theorem nu_of {o : Ot} (h0 : smallO o) (h1 : -1 ≤ o.kd ∧ o.kd ≤ 13) (h2 : -1 ≤ o.nd ∧ o.nd ≤ 2147483648) (h3 : -1 ≤ o.pa ∧ o.pa ≤ 2147483648) (h4 : -1 ≤ o.rf ∧ o.rf ≤ 2147483648) (h5 : -1 ≤ o.ty ∧ o.ty ≤ 2147483648) (h6 : -1 ≤ o.ns ∧ o.ns ≤ 2147483648) : Nu o := ⟨h0, h1, h2, h3, h4, h5, h6⟩

theorem nu_m {k n p r t s : Int} {nm tt : ByteArray} {al : List Att} (hs : nm.size ≤ 1 ∧ tt.size ≤ 1 ∧ al.length ≤ 1 ∧ ∀ a, a ∈ al → a.1.size ≤ 1 ∧ a.2.size ≤ 1) (h1 : -1 ≤ k ∧ k < 14) (h2 : -1 ≤ n ∧ n ≤ 2147483648) (h3 : -1 ≤ p ∧ p ≤ 2147483648) (h4 : -1 ≤ r ∧ r ≤ 2147483648) (h5 : -1 ≤ t ∧ t ≤ 2147483648) (h6 : -1 ≤ s ∧ s ≤ 2147483648) : Nu ⟨k, n, p, r, t, s, nm, al, tt⟩ := by
  obtain ⟨a1, a2, a3, a4⟩ := hs
  refine nu_of ⟨by simp only; omega, by simp only; omega, by simp only; omega, fun a ha => ?_⟩ ?_ h2 h3 h4 h5 h6
  · have := a4 a ha
    omega
  · simp only
    omega

theorem sz_nil : (⟨#[]⟩ : ByteArray).size ≤ 1 := by decide
theorem sz_1 (x : UInt8) : (⟨#[x]⟩ : ByteArray).size ≤ 1 := Nat.le_refl _
theorem no_al : ([] : List Att).length ≤ 1 ∧ ∀ a, a ∈ ([] : List Att) → a.1.size ≤ 1 ∧ a.2.size ≤ 1 := ⟨by simp, fun a ha => by simp at ha⟩
theorem one_al (x y : UInt8) : ([(⟨#[x]⟩, ⟨#[y]⟩)] : List Att).length ≤ 1 ∧ ∀ a, a ∈ ([(⟨#[x]⟩, ⟨#[y]⟩)] : List Att) → a.1.size ≤ 1 ∧ a.2.size ≤ 1 := ⟨by simp, fun a ha => by rw [List.mem_singleton.1 ha]; exact ⟨Nat.le_refl _, Nat.le_refl _⟩⟩

/-- An operation in a block of its own. -/
structure Nk (wr wd : World) (g : Nat) (O : Ot) (p : Sl) : Prop where
  kp : Kp [] wr wd
  blk : wd.heap[g]? = some (.cells (oc O p) 24 (0, 0))
  ar : Ar wd (O, p)
  nu : Nu O

theorem mk_nil (wr : World) (O : Ot) (hal : O.al = []) (hN : Nu O) : Nk wr (wr.alloc (.cells (oc O (none, 0, 0)) 24)) wr.heap.size O (none, 0, 0) :=
  ⟨(Kp.refl _ _).alloc _, heap_new wr _, ar_nil _ _ hal, hN⟩

theorem mk_one (V : World) (o : Ot) (x y : ByteArray) (hl : o.al = [(x, y)]) (hN : Nu o) : Nk V ((V.alloc (.cells (oc o (some ⟨V.heap.size + 1, 0, none⟩, 1, 1)) 24)).alloc (.cells #[.string x, .string y] 26)) V.heap.size o (some ⟨V.heap.size + 1, 0, none⟩, 1, 1) := by
  have h1 : ((V.alloc (.cells (oc o (some ⟨V.heap.size + 1, 0, none⟩, 1, 1)) 24)).alloc (.cells #[.string x, .string y] 26)).heap[V.heap.size]? = some (.cells (oc o (some ⟨V.heap.size + 1, 0, none⟩, 1, 1)) 24 (0, 0)) := by
    rw [Below.heap_alloc _ _ _ (by simp)]
    exact heap_new V _
  have h2 : ((V.alloc (.cells (oc o (some ⟨V.heap.size + 1, 0, none⟩, 1, 1)) 24)).alloc (.cells #[.string x, .string y] 26)).heap[V.heap.size + 1]? = some (.cells #[.string x, .string y] 26 (0, 0)) := heap_new' _ _ _ (by simp)
  refine ⟨((Kp.refl _ _).alloc _).alloc _, h1, ?_, hN⟩
  unfold Ar
  simp only [hl]
  refine ⟨rfl, Or.inr ⟨V.heap.size + 1, 0, 1, _, rfl, h2, Nat.le_refl _, by unfold maxLen; omega, Nat.le_refl _, fun j hj => ?_⟩⟩
  match j, hj with
  | 0, _ => rfl
  | 1, _ => rfl

/-- Encode of one. -/
theorem enc_one (W : World) (O : Ot) (p : Sl) (hA : Ar W (O, p)) (hN : Nu O) :
    Calls Tryd.prog 7 #[.slice (some ⟨W.heap.size, 0, none⟩) 1 1] (W.alloc (.cells (oc O p) 24)) fun e w' => ∃ (a : Option Addr) (n c : Nat) (er : Int), e = .returned (.tuple #[.slice a n c, .int .i64 er]) ∧ Kp [] W w' ∧ ((rightO O = true ∧ er = 0 ∧ Rb w' a n c (b8 (ob O))) ∨ (rightO O = false ∧ er = 12 ∧ n = 0)) := by
  have ka : Kp [] W (W.alloc (.cells (oc O p) 24)) := (Kp.refl _ _).alloc _
  have hG : Given (W.alloc (.cells (oc O p) 24)) (some ⟨W.heap.size, 0, none⟩) 1 1 [(O, p)] := ⟨rq_one W (O, p), fun q hq => by
    rw [List.mem_singleton.1 hq]
    exact small_at hN.1 (hA.kept ka), by omega⟩
  cases hr : rightO O with
  | true =>
    refine (encode_ok _ _ _ _ _ hG (fun q hq => by rw [List.mem_singleton.1 hq]; exact small_ok hN.1 hr) (by have := small_ob hN.1; simp only [os, obs, List.append_nil]; omega)).mono ?_
    rintro e w' ⟨a, n, c, rfl, m⟩
    have hb := m.1.rb
    simp only [os, obs, List.append_nil] at hb
    exact ⟨a, n, c, 0, rfl, ka.trans m.2.1 (fun z hz => Or.inl hz), Or.inl ⟨rfl, rfl, hb⟩⟩
  | false =>
    refine (encode_no _ _ _ _ _ hG (by simp [not_ok hr])).mono ?_
    rintro e w' ⟨rfl, k⟩
    exact ⟨none, 0, 0, 12, rfl, ka.trans k (fun z hz => Or.inl hz), Or.inr ⟨rfl, rfl, rfl⟩⟩

theorem cs_zero : ∀ n, cs (List.replicate n ((⟨#[]⟩, ⟨#[]⟩) : Att)) = List.replicate (n * 2) (Value.string ⟨#[]⟩)
  | 0 => rfl
  | n + 1 => by
    rw [List.replicate_succ, show (n + 1) * 2 = n * 2 + 1 + 1 by omega, List.replicate_succ, List.replicate_succ, ← cs_zero n]
    rfl

theorem made_zero (m j : Nat) (hj : j < m) : (madeCells #[Value.string ⟨#[]⟩, Value.string ⟨#[]⟩] m)[j]? = some (Value.string ⟨#[]⟩) := by
  unfold madeCells
  rw [Array.getElem?_map, Array.getElem?_range, if_pos hj]
  rcases Nat.mod_two_eq_zero_or_one j with h | h
  · simp [h]
  · simp [h]

/-- make, of as many. -/
theorem make_many (w : World) (n : Nat) (h1 : n ≤ 100000) :
    ∃ w1, (Instr.makeSlice 22 (.int .i64 (n : Int)) (.int .i64 (n : Int))).run Tryd.prog w = .ok (.slice (some ⟨w.heap.size, 0, none⟩) n n) w1 ∧ Kp [] w w1 ∧ Rp w1 (some ⟨w.heap.size, 0, none⟩) n n (List.replicate n ((⟨#[]⟩, ⟨#[]⟩) : Att)) := by
  obtain ⟨i, hi0, hi1, hi2, hi3⟩ := info_parts info23
  have hr := run_make (P := Tryd.prog) w 22 26 i _ Tryd.underlying22 hi0 hi1 .i64 .i64 (n : Int) (n : Int) (by omega) (by omega) (by rw [hi3]; omega) (by omega)
  rw [show ((n : Int)).toNat = n by omega] at hr
  refine ⟨_, hr, (Kp.refl _ _).alloc _, by simp, Nat.le_refl _, fun j hj => ⟨w.heap.size, 0, rfl, ?_⟩⟩
  rw [cell_of (heap_new w _), cs_zero, Nat.zero_add, List.getElem?_replicate, if_pos hj, hi2]
  exact made_zero _ _ hj

/-- Encode of one with too many attributes. -/
theorem enc_many (W : World) (O : Ot) (p : Sl) (hA : At W (O, p)) (h1 : 65535 < O.al.length) (h2 : p.2.1 ≤ 100000) :
    Calls Tryd.prog 7 #[.slice (some ⟨W.heap.size, 0, none⟩) 1 1] (W.alloc (.cells (oc O p) 24)) fun e w' => e = .returned (.tuple #[.slice none 0 0, .int .i64 12]) ∧ Kp [] W w' := by
  have ka : Kp [] W (W.alloc (.cells (oc O p) 24)) := (Kp.refl _ _).alloc _
  have hG : Given (W.alloc (.cells (oc O p) 24)) (some ⟨W.heap.size, 0, none⟩) 1 1 [(O, p)] := ⟨rq_one W (O, p), fun q hq => by
    rw [List.mem_singleton.1 hq]
    exact ⟨hA.kept ka, h2⟩, by omega⟩
  have hno : okO O = false := by
    cases hx : okO O with
    | false => rfl
    | true => have := (ok_parts hx).2.2.2.1; omega
  refine (encode_no _ _ _ _ _ hG (by simp [hno])).mono ?_
  rintro e w' ⟨rfl, k⟩
  exact ⟨rfl, ka.trans k (fun z hz => Or.inl hz)⟩

end Go.Proofs.YtpjkpobdkmcedaaDoor
