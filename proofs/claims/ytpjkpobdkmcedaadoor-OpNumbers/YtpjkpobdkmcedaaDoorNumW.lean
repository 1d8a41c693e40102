/-
  OpNumbers: the walk.
-/
import Derived.Test.YtpjkpobdkmcedaaDoorTelA
import Derived.Deep.CutBlock
namespace Go.Proofs.YtpjkpobdkmcedaaDoor
open Go.RowKit Utf
set_option linter.unusedVariables false
set_option linter.unusedSimpArgs false

/-- What a round makes. -/
def Nu (o : Ot) : Prop := smallO o ∧ (-1 ≤ o.kd ∧ o.kd ≤ 13) ∧ (-1 ≤ o.nd ∧ o.nd ≤ 2147483648) ∧ (-1 ≤ o.pa ∧ o.pa ≤ 2147483648) ∧ (-1 ≤ o.rf ∧ o.rf ≤ 2147483648) ∧ (-1 ≤ o.ty ∧ o.ty ≤ 2147483648) ∧ (-1 ≤ o.ns ∧ o.ns ≤ 2147483648)

theorem Nu.in64 {o : Ot} (h : Nu o) : in64 o := by
  obtain ⟨_, h1, h2, h3, h4, h5, h6⟩ := h
  unfold Go.Proofs.YtpjkpobdkmcedaaDoor.in64 i64
  omega

theorem Nu.ln {o : Ot} (h : Nu o) : lnO dgt o = lnO itb o := by
  obtain ⟨_, h1, h2, h3, h4, h5, h6⟩ := h
  exact ln_same (by omega) (by omega) (by omega) (by omega) (by omega) (by omega)

/-- Of the Kind 20. -/
def o20 : Ot := ⟨20, 0, 0, 0, 0, 0, ⟨#[]⟩, [], ⟨#[]⟩⟩

theorem Nu.ne {o : Ot} (h : Nu o) : sameO o o20 = false := by
  cases hs : sameO o o20 with
  | false => rfl
  | true =>
    have h1 := sameO_iff.1 hs
    have h2 := h.2.1.2
    rw [h1] at h2
    simp [o20] at h2

theorem nu_of {o : Ot} (h0 : smallO o) (h1 : -1 ≤ o.kd ∧ o.kd ≤ 13) (h2 : -1 ≤ o.nd ∧ o.nd ≤ 2147483648) (h3 : -1 ≤ o.pa ∧ o.pa ≤ 2147483648) (h4 : -1 ≤ o.rf ∧ o.rf ≤ 2147483648) (h5 : -1 ≤ o.ty ∧ o.ty ≤ 2147483648) (h6 : -1 ≤ o.ns ∧ o.ns ≤ 2147483648) : Nu o := ⟨h0, h1, h2, h3, h4, h5, h6⟩

theorem nu_m {k n p r t s : Int} {nm tt : ByteArray} {al : List Att} (hs : nm.size ≤ 1 ∧ tt.size ≤ 1 ∧ al.length ≤ 1 ∧ ∀ a, a ∈ al → a.1.size ≤ 1 ∧ a.2.size ≤ 1) (h1 : -1 ≤ k ∧ k < 14) (h2 : -1 ≤ n ∧ n ≤ 2147483648) (h3 : -1 ≤ p ∧ p ≤ 2147483648) (h4 : -1 ≤ r ∧ r ≤ 2147483648) (h5 : -1 ≤ t ∧ t ≤ 2147483648) (h6 : -1 ≤ s ∧ s ≤ 2147483648) : Nu ⟨k, n, p, r, t, s, nm, al, tt⟩ := by
  obtain ⟨a1, a2, a3, a4⟩ := hs
  refine nu_of ⟨by simp only; omega, by simp only; omega, by simp only; omega, fun a ha => ?_⟩ ?_ h2 h3 h4 h5 h6
  · have := a4 a ha
    omega
  · simp only
    omega

theorem sz_nil : (⟨#[]⟩ : ByteArray).size ≤ 1 := by decide
theorem sz_1 (x : UInt8) : (⟨#[x]⟩ : ByteArray).size ≤ 1 := Nat.le_refl _
theorem no_al : ([] : List Att).length ≤ 1 ∧ ∀ a, a ∈ ([] : List Att) → a.1.size ≤ 1 ∧ a.2.size ≤ 1 := ⟨by simp, fun a ha => by simp at ha⟩
theorem one_al (x y : UInt8) : ([(⟨#[x]⟩, ⟨#[y]⟩)] : List Att).length ≤ 1 ∧ ∀ a, a ∈ ([(⟨#[x]⟩, ⟨#[y]⟩)] : List Att) → a.1.size ≤ 1 ∧ a.2.size ≤ 1 := ⟨by simp, fun a ha => by rw [List.mem_singleton.1 ha]; exact ⟨Nat.le_refl _, Nat.le_refl _⟩⟩

/-- An operation in a block of its own. -/
structure Nk (wr wd : World) (g : Nat) (O : Ot) (p : Sl) : Prop where
  kp : Kp [] wr wd
  blk : wd.heap[g]? = some (.cells (oc O p) 24 (0, 0))
  ar : Ar wd (O, p)
  nu : Nu O

theorem mk_nil (wr : World) (O : Ot) (hal : O.al = []) (hN : Nu O) : Nk wr (wr.alloc (.cells (oc O (none, 0, 0)) 24)) wr.heap.size O (none, 0, 0) :=
  ⟨(Kp.refl _ _).alloc _, heap_new wr _, ar_nil _ _ hal, hN⟩

theorem mk_one (V : World) (o : Ot) (x y : ByteArray) (hl : o.al = [(x, y)]) (hN : Nu o) : Nk V ((V.alloc (.cells (oc o (some ⟨V.heap.size + 1, 0, none⟩, 1, 1)) 24)).alloc (.cells #[.string x, .string y] 26)) V.heap.size o (some ⟨V.heap.size + 1, 0, none⟩, 1, 1) := by
  have h1 : ((V.alloc (.cells (oc o (some ⟨V.heap.size + 1, 0, none⟩, 1, 1)) 24)).alloc (.cells #[.string x, .string y] 26)).heap[V.heap.size]? = some (.cells (oc o (some ⟨V.heap.size + 1, 0, none⟩, 1, 1)) 24 (0, 0)) := by
    rw [Below.heap_alloc _ _ _ (by simp)]
    exact heap_new V _
  have h2 : ((V.alloc (.cells (oc o (some ⟨V.heap.size + 1, 0, none⟩, 1, 1)) 24)).alloc (.cells #[.string x, .string y] 26)).heap[V.heap.size + 1]? = some (.cells #[.string x, .string y] 26 (0, 0)) := heap_new' _ _ _ (by simp)
  refine ⟨((Kp.refl _ _).alloc _).alloc _, h1, ?_, hN⟩
  unfold Ar
  simp only [hl]
  refine ⟨rfl, Or.inr ⟨V.heap.size + 1, 0, 1, _, rfl, h2, Nat.le_refl _, by unfold maxLen; omega, Nat.le_refl _, fun j hj => ?_⟩⟩
  match j, hj with
  | 0, _ => rfl
  | 1, _ => rfl

/-- Encode of one. -/
theorem enc_one (W : World) (O : Ot) (p : Sl) (hA : Ar W (O, p)) (hN : Nu O) :
    Calls Tryd.prog 7 #[.slice (some ⟨W.heap.size, 0, none⟩) 1 1] (W.alloc (.cells (oc O p) 24)) fun e w' => ∃ (a : Option Addr) (n c : Nat) (er : Int), e = .returned (.tuple #[.slice a n c, .int .i64 er]) ∧ Kp [] W w' ∧ ((rightO O = true ∧ er = 0 ∧ Rb w' a n c (b8 (ob O))) ∨ (rightO O = false ∧ er = 12 ∧ n = 0)) := by
  have ka : Kp [] W (W.alloc (.cells (oc O p) 24)) := (Kp.refl _ _).alloc _
  have hG : Given (W.alloc (.cells (oc O p) 24)) (some ⟨W.heap.size, 0, none⟩) 1 1 [(O, p)] := ⟨rq_one W (O, p), fun q hq => by
    rw [List.mem_singleton.1 hq]
    exact small_at hN.1 (hA.kept ka), by omega⟩
  cases hr : rightO O with
  | true =>
    refine (encode_ok _ _ _ _ _ hG (fun q hq => by rw [List.mem_singleton.1 hq]; exact small_ok hN.1 hr) (by have := small_ob hN.1; simp only [os, obs, List.append_nil]; omega)).mono ?_
    rintro e w' ⟨a, n, c, rfl, m⟩
    have hb := m.1.rb
    simp only [os, obs, List.append_nil] at hb
    exact ⟨a, n, c, 0, rfl, ka.trans m.2.1 (fun z hz => Or.inl hz), Or.inl ⟨rfl, rfl, hb⟩⟩
  | false =>
    refine (encode_no _ _ _ _ _ hG (by simp [not_ok hr])).mono ?_
    rintro e w' ⟨rfl, k⟩
    exact ⟨none, 0, 0, 12, rfl, ka.trans k (fun z hz => Or.inl hz), Or.inr ⟨rfl, rfl, rfl⟩⟩

theorem cs_zero : ∀ n, cs (List.replicate n ((⟨#[]⟩, ⟨#[]⟩) : Att)) = List.replicate (n * 2) (Value.string ⟨#[]⟩)
  | 0 => rfl
  | n + 1 => by
    rw [List.replicate_succ, show (n + 1) * 2 = n * 2 + 1 + 1 by omega, List.replicate_succ, List.replicate_succ, ← cs_zero n]
    rfl

theorem made_zero (m j : Nat) (hj : j < m) : (madeCells #[Value.string ⟨#[]⟩, Value.string ⟨#[]⟩] m)[j]? = some (Value.string ⟨#[]⟩) := by
  unfold madeCells
  rw [Array.getElem?_map, Array.getElem?_range, if_pos hj]
  rcases Nat.mod_two_eq_zero_or_one j with h | h
  · simp [h]
  · simp [h]

/-- make, of as many. -/
theorem make_many (w : World) (n : Nat) (h1 : n ≤ 100000) :
    ∃ w1, (Instr.makeSlice 22 (.int .i64 (n : Int)) (.int .i64 (n : Int))).run Tryd.prog w = .ok (.slice (some ⟨w.heap.size, 0, none⟩) n n) w1 ∧ Kp [] w w1 ∧ Rp w1 (some ⟨w.heap.size, 0, none⟩) n n (List.replicate n ((⟨#[]⟩, ⟨#[]⟩) : Att)) := by
  obtain ⟨i, hi0, hi1, hi2, hi3⟩ := info_parts info23
  have hr := run_make (P := Tryd.prog) w 22 26 i _ Tryd.underlying22 hi0 hi1 .i64 .i64 (n : Int) (n : Int) (by omega) (by omega) (by rw [hi3]; omega) (by omega)
  rw [show ((n : Int)).toNat = n by omega] at hr
  refine ⟨_, hr, (Kp.refl _ _).alloc _, by simp, Nat.le_refl _, fun j hj => ⟨w.heap.size, 0, rfl, ?_⟩⟩
  rw [cell_of (heap_new w _), cs_zero, Nat.zero_add, List.getElem?_replicate, if_pos hj, hi2]
  exact made_zero _ _ hj

/-- Encode of one with too many attributes. -/
theorem enc_many (W : World) (O : Ot) (p : Sl) (hA : At W (O, p)) (h1 : 65535 < O.al.length) (h2 : p.2.1 ≤ 100000) :
    Calls Tryd.prog 7 #[.slice (some ⟨W.heap.size, 0, none⟩) 1 1] (W.alloc (.cells (oc O p) 24)) fun e w' => e = .returned (.tuple #[.slice none 0 0, .int .i64 12]) ∧ Kp [] W w' := by
  have ka : Kp [] W (W.alloc (.cells (oc O p) 24)) := (Kp.refl _ _).alloc _
  have hG : Given (W.alloc (.cells (oc O p) 24)) (some ⟨W.heap.size, 0, none⟩) 1 1 [(O, p)] := ⟨rq_one W (O, p), fun q hq => by
    rw [List.mem_singleton.1 hq]
    exact ⟨hA.kept ka, h2⟩, by omega⟩
  have hno : okO O = false := by
    cases hx : okO O with
    | false => rfl
    | true => have := (ok_parts hx).2.2.2.1; omega
  refine (encode_no _ _ _ _ _ hG (by simp [hno])).mono ?_
  rintro e w' ⟨rfl, k⟩
  exact ⟨rfl, ka.trans k (fun z hz => Or.inl hz)⟩

set_option maxRecDepth 100000 in
set_option maxHeartbeats 4000000 in
theorem numbers_walk (w : World) (hT : Tb w) :
    Calls Tryd.prog 3 #[] w fun e w' => e = .returned (.bool true) ∧ Kp [] w w' := by
  have HTb : Hid (∀ V, Kp [] w V → Tb V) := fun V k => hT.kept k
  clear hT
  go_enter Tryd.func3, Tryd.ntmps3
  go_wp2_with fail
  go_loopw [1] (fun i wr => ∃ z : Int, -1 ≤ z ∧ z ≤ 14 ∧ i = .int .i64 z ∧ Kp [] w wr) (fun i _ => (14 - intOf i).toNat)
  case atStart => exact ⟨-1, by omega, by omega, rfl, Kp.refl _ _⟩
  case round =>
    obtain ⟨z, hz1, hz2, rfl, kw⟩ := hrel
    by_cases hlt : z < 14
    · obtain ⟨wo, hwo⟩ : ∃ V, V = wr := ⟨_, rfl⟩
      rw [← hwo] at kw ⊢
      clear hwo
      go_wp2_with fail
      go_loopw [2] (fun i wr => ∃ y : Int, 0 ≤ y ∧ y ≤ 14 ∧ i = .int .i64 y ∧ Kp [] w wr) (fun i _ => (14 - intOf i).toNat)
      case atStart => exact ⟨0, by omega, by omega, rfl, kw⟩
      case round =>
        obtain ⟨y, hy1, hy2, rfl, kr⟩ := hrel
        by_cases hly : y < 14
        · go_upto_if 19 with fail
          go_cut [3, 19] from 20 to 119 (fun x3 x19 wc => x3 = .pointer (some ⟨wr.heap.size, 0, none⟩) ∧ ∃ ty : Int, 0 ≤ ty ∧ ty ≤ 3 ∧ wc = wr.alloc (.cells #[.int .i64 z, .int .i64 0, .int .i64 0, .int .i64 0, .int .i64 ty, .int .i64 0, .string ⟨#[]⟩, .slice none 0 0, .string ⟨#[]⟩] 24))
          case first =>
            clear HTb kr kw
            by_cases h1 : z = 1
            · subst h1
              go_wp2_with fail
              go_meet
              case rel => exact ⟨rfl, 3, by omega, by omega, rfl⟩
            · go_wp2_with fail
              go_meet
              case rel => exact ⟨rfl, 0, by omega, by omega, rfl⟩
          case rest =>
            obtain ⟨rfl, ty, hty1, hty2, rfl⟩ := hcut
            go_upto_block 4 with fail
            go_cut [3, 21] from 22 to 119 (fun x3 x21 wd => x3 = .pointer (some ⟨wr.heap.size, 0, none⟩) ∧ ∃ (O : Ot) (p : Sl), Nk wr wd wr.heap.size O p)
            case first =>
              clear HTb kr kw
              obtain rfl | rfl | rfl | rfl | rfl | rfl | rfl | rfl | rfl | rfl | rfl | rfl | rfl | rfl : y = 0 ∨ y = 1 ∨ y = 2 ∨ y = 3 ∨ y = 4 ∨ y = 5 ∨ y = 6 ∨ y = 7 ∨ y = 8 ∨ y = 9 ∨ y = 10 ∨ y = 11 ∨ y = 12 ∨ y = 13 := by omega
              · go_wp2_with fail
                go_meet
                case rel => exact ⟨rfl, _, _, mk_nil wr ⟨z, 0, 0, 0, ty, 0, ⟨#[]⟩, [], ⟨#[]⟩⟩ rfl (nu_m ⟨sz_nil, sz_nil, no_al⟩ ⟨hz1, hlt⟩ (by omega) (by omega) (by omega) (by omega) (by omega))⟩
              · go_wp2_with fail
                go_meet
                case rel => exact ⟨rfl, _, _, mk_nil wr ⟨z, 1, 0, 0, ty, 0, ⟨#[]⟩, [], ⟨#[]⟩⟩ rfl (nu_m ⟨sz_nil, sz_nil, no_al⟩ ⟨hz1, hlt⟩ (by omega) (by omega) (by omega) (by omega) (by omega))⟩
              · go_wp2_with fail
                go_meet
                case rel => exact ⟨rfl, _, _, mk_nil wr ⟨z, 0, 1, 0, ty, 0, ⟨#[]⟩, [], ⟨#[]⟩⟩ rfl (nu_m ⟨sz_nil, sz_nil, no_al⟩ ⟨hz1, hlt⟩ (by omega) (by omega) (by omega) (by omega) (by omega))⟩
              · go_wp2_with fail
                go_meet
                case rel => exact ⟨rfl, _, _, mk_nil wr ⟨z, 0, 0, 1, ty, 0, ⟨#[]⟩, [], ⟨#[]⟩⟩ rfl (nu_m ⟨sz_nil, sz_nil, no_al⟩ ⟨hz1, hlt⟩ (by omega) (by omega) (by omega) (by omega) (by omega))⟩
              · go_wp2_with fail
                go_meet
                case rel => exact ⟨rfl, _, _, mk_nil wr ⟨z, 0, 0, 0, 2, 0, ⟨#[]⟩, [], ⟨#[]⟩⟩ rfl (nu_m ⟨sz_nil, sz_nil, no_al⟩ ⟨hz1, hlt⟩ (by omega) (by omega) (by omega) (by omega) (by omega))⟩
              · go_wp2_with fail
                go_meet
                case rel => exact ⟨rfl, _, _, mk_nil wr ⟨z, 0, 0, 0, 4, 0, ⟨#[]⟩, [], ⟨#[]⟩⟩ rfl (nu_m ⟨sz_nil, sz_nil, no_al⟩ ⟨hz1, hlt⟩ (by omega) (by omega) (by omega) (by omega) (by omega))⟩
              · go_wp2_with fail
                go_meet
                case rel => exact ⟨rfl, _, _, mk_nil wr ⟨z, 0, 0, 0, ty, 2, ⟨#[]⟩, [], ⟨#[]⟩⟩ rfl (nu_m ⟨sz_nil, sz_nil, no_al⟩ ⟨hz1, hlt⟩ (by omega) (by omega) (by omega) (by omega) (by omega))⟩
              · go_wp2_with fail
                go_meet
                case rel => exact ⟨rfl, _, _, mk_nil wr ⟨z, 0, 0, 0, ty, 3, ⟨#[]⟩, [], ⟨#[]⟩⟩ rfl (nu_m ⟨sz_nil, sz_nil, no_al⟩ ⟨hz1, hlt⟩ (by omega) (by omega) (by omega) (by omega) (by omega))⟩
              · go_wp2_with fail
                go_meet
                case rel => exact ⟨rfl, _, _, mk_nil wr ⟨z, 0, 0, 0, ty, 0, ⟨#[110]⟩, [], ⟨#[]⟩⟩ rfl (nu_m ⟨(sz_1 _), sz_nil, no_al⟩ ⟨hz1, hlt⟩ (by omega) (by omega) (by omega) (by omega) (by omega))⟩
              · go_wp2_with fail
                go_meet
                case rel => exact ⟨rfl, _, _, mk_one wr ⟨z, 0, 0, 0, ty, 0, ⟨#[]⟩, [(⟨#[97]⟩, ⟨#[118]⟩)], ⟨#[]⟩⟩ _ _ rfl (nu_m ⟨sz_nil, sz_nil, one_al _ _⟩ ⟨hz1, hlt⟩ (by omega) (by omega) (by omega) (by omega) (by omega))⟩
              · go_wp2_with fail
                go_meet
                case rel => exact ⟨rfl, _, _, mk_nil wr ⟨z, 0, 0, 0, ty, 0, ⟨#[]⟩, [], ⟨#[116]⟩⟩ rfl (nu_m ⟨sz_nil, (sz_1 _), no_al⟩ ⟨hz1, hlt⟩ (by omega) (by omega) (by omega) (by omega) (by omega))⟩
              · go_wp2_with fail
                go_meet
                case rel => exact ⟨rfl, _, _, mk_nil wr ⟨z, 2147483647, 0, 0, ty, 0, ⟨#[]⟩, [], ⟨#[]⟩⟩ rfl (nu_m ⟨sz_nil, sz_nil, no_al⟩ ⟨hz1, hlt⟩ (by omega) (by omega) (by omega) (by omega) (by omega))⟩
              · go_wp2_with fail
                go_meet
                case rel => exact ⟨rfl, _, _, mk_nil wr ⟨z, 2147483648, 0, 0, ty, 0, ⟨#[]⟩, [], ⟨#[]⟩⟩ rfl (nu_m ⟨sz_nil, sz_nil, no_al⟩ ⟨hz1, hlt⟩ (by omega) (by omega) (by omega) (by omega) (by omega))⟩
              · go_wp2_with fail
                go_meet
                case rel => exact ⟨rfl, _, _, mk_nil wr ⟨z, 0, 0, -1, ty, 0, ⟨#[]⟩, [], ⟨#[]⟩⟩ rfl (nu_m ⟨sz_nil, sz_nil, no_al⟩ ⟨hz1, hlt⟩ (by omega) (by omega) (by omega) (by omega) (by omega))⟩
            case rest =>
              obtain ⟨rfl, O, ⟨q1, q2, q3⟩, M⟩ := hcut
              obtain ⟨W, hW⟩ : ∃ V, V = wc := ⟨_, rfl⟩
              rw [← hW] at M ⊢
              clear hW
              generalize wr.heap.size = g at M ⊢
              have kW : Kp [] w W := kr.trans M.kp (fun z hz => Or.inl hz)
              have HM : Hid (Kp [] w W ∧ W.heap[g]? = some (.cells (oc O (q1, q2, q3)) 24 (0, 0)) ∧ Ar W (O, q1, q2, q3) ∧ Nu O) := ⟨kW, M.blk, M.ar, M.nu⟩
              have hq6 : q2 ≤ 100000 := by
                have e1 := Rp.len M.ar.rp
                have e2 := M.nu.1.2.2.1
                simp only at e1
                omega
              clear M kr kw kW hty1 hty2
              obtain ⟨R1, R2, R3, R4, R5, R6, R7, R8, R9⟩ := O
              obtain ⟨f0, f1, f2, f3, f4, f5, f6, f7, f8⟩ := nine_of HM.out.2.1
              simp only [Nat.zero_add] at f0 f1 f2 f3 f4 f5 f6 f7 f8
              have HE : Hid (∀ _ : True, Calls Tryd.prog 7 #[.slice (some ⟨W.heap.size, 0, none⟩) 1 1] (W.alloc (.cells #[.int .i64 R1, .int .i64 R2, .int .i64 R3, .int .i64 R4, .int .i64 R5, .int .i64 R6, .string R7, .slice q1 q2 q3, .string R9] 24)) fun e w' => ∃ (a : Option Addr) (n c : Nat) (er : Int), e = .returned (.tuple #[.slice a n c, .int .i64 er]) ∧ Kp [] W w' ∧ ((rightO ⟨R1, R2, R3, R4, R5, R6, R7, R8, R9⟩ = true ∧ er = 0 ∧ Rb w' a n c (b8 (ob ⟨R1, R2, R3, R4, R5, R6, R7, R8, R9⟩))) ∨ (rightO ⟨R1, R2, R3, R4, R5, R6, R7, R8, R9⟩ = false ∧ er = 12 ∧ n = 0))) := fun _ => enc_one W ⟨R1, R2, R3, R4, R5, R6, R7, R8, R9⟩ (q1, q2, q3) HM.out.2.2.1 HM.out.2.2.2
              go_upto_region 38 with (go_at_call 7; refine (HE.out trivial).mono ?_; rintro e w2 ⟨a, n, c, er, rfl, k2, hd⟩)
              clear HE f0 f1 f2 f3 f4 f5 f6 f7 f8
              have HN : Hid (∀ V, Kp [] W V → Nine V g 0 ⟨R1, R2, R3, R4, R5, R6, R7, R8, R9⟩ (q1, q2, q3)) := fun V k => nine_of ((k.block _ (lt_of HM.out.2.1) (by simp)).trans HM.out.2.1)
              have HA : Hid (∀ V, Kp [] W V → At V (⟨R1, R2, R3, R4, R5, R6, R7, R8, R9⟩, q1, q2, q3)) := fun V k => (HM.out.2.2.1.kept k).rp
              have HRr : Hid (∀ V, Kp [] W V → Calls Tryd.prog 9 #[ov ⟨R1, R2, R3, R4, R5, R6, R7, R8, R9⟩ (q1, q2, q3)] V fun e w' => e = .returned (.bool (rightO ⟨R1, R2, R3, R4, R5, R6, R7, R8, R9⟩)) ∧ Kp [] V w') := fun V k => rref_any V _ _ (HA.out V k) hq6
              simp only [Nine, Nat.zero_add] at HN
              go_cut [3, 4, 5, 91] from 20 to 90 (fun x3 x4 x5 x91 wc => x3 = .pointer (some ⟨g, 0, none⟩) ∧ x4 = .slice a n c ∧ x5 = .int .i64 er ∧ x91 = .bool false ∧ Kp [] w2 wc)
              case first =>
                have HRt : Hid (∀ V, Kp [] W V → Calls Tryd.prog 8 #[ov ⟨R1, R2, R3, R4, R5, R6, R7, R8, R9⟩ (q1, q2, q3)] V fun e w' => e = .returned (.bool (rightO ⟨R1, R2, R3, R4, R5, R6, R7, R8, R9⟩)) ∧ Kp [] V w') := fun V k => right_any V _ _ (HA.out V k) hq6
                have hlen2 : Hid (R7.size + R9.size + (ab R8).length ≤ 800000) := by
                  have h1 := small_ab HM.out.2.2.2.1
                  have h2 := HM.out.2.2.2.1.1
                  have h3 := HM.out.2.2.2.1.2.1
                  simp only at h1 h2 h3
                  have : R7.size + R9.size + (ab R8).length ≤ 800000 := by omega
                  exact this
                have HTx : Hid (∀ V, Kp [] W V → Calls Tryd.prog 10 #[ov ⟨R1, R2, R3, R4, R5, R6, R7, R8, R9⟩ (q1, q2, q3)] V fun e w' => e = .returned (.string (lnO itb ⟨R1, R2, R3, R4, R5, R6, R7, R8, R9⟩)) ∧ Kp [] V w') := fun V k => text_any V (HTb.out V (HM.out.1.trans k (fun z hz => Or.inl hz))) ⟨R1, R2, R3, R4, R5, R6, R7, R8, R9⟩ (q1, q2, q3) (HA.out V k) HM.out.2.2.2.in64 hlen2.out
                have HLi : Hid (∀ V, Kp [] W V → Calls Tryd.prog 11 #[ov ⟨R1, R2, R3, R4, R5, R6, R7, R8, R9⟩ (q1, q2, q3)] V fun e w' => e = .returned (.string (lnO itb ⟨R1, R2, R3, R4, R5, R6, R7, R8, R9⟩)) ∧ Kp [] V w') := fun V k => by
                  rw [← HM.out.2.2.2.ln]
                  exact line_any V ⟨R1, R2, R3, R4, R5, R6, R7, R8, R9⟩ (q1, q2, q3) (HA.out V k) HM.out.2.2.2.in64 hlen2.out
                have HS1 : Hid (∀ V, Kp [] W V → Calls Tryd.prog 12 #[ov ⟨R1, R2, R3, R4, R5, R6, R7, R8, R9⟩ (q1, q2, q3), ov ⟨R1, R2, R3, R4, R5, R6, R7, R8, R9⟩ (q1, q2, q3)] V fun e w' => e = .returned (.bool true) ∧ Kp [] V w') := fun V k => by
                  have h := osame_any V ⟨R1, R2, R3, R4, R5, R6, R7, R8, R9⟩ ⟨R1, R2, R3, R4, R5, R6, R7, R8, R9⟩ (q1, q2, q3) (q1, q2, q3) (HA.out V k) (HA.out V k) hq6 hq6
                  rw [sameO_refl] at h
                  exact h
                have HS2 : Hid (∀ V, Kp [] W V → Calls Tryd.prog 12 #[ov ⟨R1, R2, R3, R4, R5, R6, R7, R8, R9⟩ (q1, q2, q3), ov o20 (none, 0, 0)] V fun e w' => e = .returned (.bool false) ∧ Kp [] V w') := fun V k => by
                  have h := osame_any V ⟨R1, R2, R3, R4, R5, R6, R7, R8, R9⟩ o20 (q1, q2, q3) (none, 0, 0) (HA.out V k) (at_nil V _ rfl) hq6 (by simp)
                  rw [HM.out.2.2.2.ne] at h
                  exact h
                simp only [ov] at HRt HTx HLi HS1 HS2 HRr
                simp only [o20] at HS2
                generalize lnO itb ⟨R1, R2, R3, R4, R5, R6, R7, R8, R9⟩ = TU at HTx HLi
                generalize rightO ⟨R1, R2, R3, R4, R5, R6, R7, R8, R9⟩ = rb at HRt HRr
                have HK2 : Hid (Kp [] W w2) := k2
                clear HM HA hlen2 HTb hd
                obtain ⟨U0, hU0⟩ : ∃ U, U = w2.drew := ⟨_, rfl⟩
                have k0 : Kp [] w2 U0 := by rw [hU0]; exact (Kp.refl _ _).drew
                refine wp_region_g (S := fun U => U.cell? ⟨g, 0, none⟩ = some (.int .i64 R1) ∧ U.cell? ⟨g, 1, none⟩ = some (.int .i64 R2) ∧ U.cell? ⟨g, 2, none⟩ = some (.int .i64 R3) ∧ U.cell? ⟨g, 3, none⟩ = some (.int .i64 R4) ∧ U.cell? ⟨g, 4, none⟩ = some (.int .i64 R5) ∧ U.cell? ⟨g, 5, none⟩ = some (.int .i64 R6) ∧ U.cell? ⟨g, 6, none⟩ = some (.string R7) ∧ U.cell? ⟨g, 7, none⟩ = some (.slice q1 q2 q3) ∧ U.cell? ⟨g, 8, none⟩ = some (.string R9)) (T := []) (by kernel_rfl) (by rw [← hU0]; exact HN.out _ (HK2.out.trans k0 (fun z hz => Or.inl hz))) (fun hHeld => ?_)
                rw [← hU0] at hHeld ⊢
                clear hU0
                refine wpAnyG_take (i := 0) (oi := { dst := some 69, op := Go.Op.load 24 (Go.Operand.tmp 3), type := 24, pos := "law.go:138", after := #[], guard := none }) (v := ?_) rfl (by kernel_rfl) (by kernel_rfl) (by kernel_rfl) (by kernel_rfl) (fun _ _ _ h => h) (Or.inl ⟨by rfl, ?_⟩) (by assumption) ?_
                rotate_left
                · (intro w hSw; (obtain ⟨y0, y1, y2, y3, y4, y5, y6, y7, y8⟩ := hSw); go_simp; try with_reducible rfl)
                simp only [Act.put, List.setIfInBounds_toArray, List.set_cons_zero, List.set_cons_succ]
                refine wpAnyG_take (i := 2) (oi := { dst := some 71, op := Go.Op.load 24 (Go.Operand.tmp 3), type := 24, pos := "law.go:138", after := #[], guard := none }) (v := ?_) rfl (by kernel_rfl) (by kernel_rfl) (by kernel_rfl) (by kernel_rfl) (fun _ _ _ h => h) (Or.inl ⟨by rfl, ?_⟩) (by assumption) ?_
                rotate_left
                · (intro w hSw; (obtain ⟨y0, y1, y2, y3, y4, y5, y6, y7, y8⟩ := hSw); go_simp; try with_reducible rfl)
                simp only [Act.put, List.setIfInBounds_toArray, List.set_cons_zero, List.set_cons_succ]
                refine wpAnyG_ready (rs := [1]) (by kernel_rfl) (by simp) ?_
                refine AllReadyG.cons (o := { dst := some 70, op := Go.Op.call { callee := Go.Callee.value (Go.Operand.func 8), args := #[Go.Operand.tmp 69], argTypes := #[24] }, type := 4, pos := "law.go:138", after := #[{ on := 0, ground := Go.Ground.data }], guard := none }) rfl (fun K hK => ?_) AllReadyG.nil
                go_simp
                go_at_call 8
                refine (HRt.out _ (HK2.out.trans k0 (fun z hz => Or.inl hz))).mono ?_
                rintro e U1 ⟨rfl, v1⟩
                have k1 : Kp [] w2 U1 := k0.trans v1 (fun z hz => Or.inl hz)
                go_wp2_with fail
                refine hK.out _ _ (HN.out _ (HK2.out.trans k1 (fun z hz => Or.inl hz))) (fun hHeld1 => ?_)
                clear hK K hHeld
                try simp only [Act.put, List.setIfInBounds_toArray, List.set_cons_zero, List.set_cons_succ]
                refine wpAnyG_ready (rs := [3]) (by kernel_rfl) (by simp) ?_
                refine AllReadyG.cons (o := { dst := some 72, op := Go.Op.call { callee := Go.Callee.value (Go.Operand.func 9), args := #[Go.Operand.tmp 71], argTypes := #[24] }, type := 4, pos := "law.go:138", after := #[{ on := 2, ground := Go.Ground.data }, { on := 1, ground := Go.Ground.chain }], guard := none }) rfl (fun K hK => ?_) AllReadyG.nil
                go_simp
                go_at_call 9
                refine (HRr.out _ (HK2.out.trans k1 (fun z hz => Or.inl hz))).mono ?_
                rintro e U2 ⟨rfl, v2⟩
                have k2 : Kp [] w2 U2 := k1.trans v2 (fun z hz => Or.inl hz)
                go_wp2_with fail
                refine hK.out _ _ (HN.out _ (HK2.out.trans k2 (fun z hz => Or.inl hz))) (fun hHeld2 => ?_)
                clear hK K hHeld1
                try simp only [Act.put, List.setIfInBounds_toArray, List.set_cons_zero, List.set_cons_succ]
                refine wpAnyG_pure (i := 4) (oi := { dst := some 73, op := Go.Op.binOp Go.BinOp.neq 4 (Go.Operand.tmp 70) (Go.Operand.tmp 72) 4, type := 4, pos := "law.go:138", after := #[{ on := 1, ground := Go.Ground.data }, { on := 3, ground := Go.Ground.data }], guard := none }) (v := ?_) rfl (by kernel_rfl) (by kernel_rfl) (by kernel_rfl) (by kernel_rfl) (fun _ _ _ h => h) (Or.inl ⟨by rfl, ?_⟩) (by assumption) ?_
                rotate_left
                · (intro w; go_simp; try with_reducible rfl)
                simp only [Act.put, List.setIfInBounds_toArray, List.set_cons_zero, List.set_cons_succ]
                refine wpAnyG_pure (i := 5) (oi := { dst := some 74, op := Go.Op.move (Go.Operand.tmp 73), type := 4, pos := "law.go:138", after := #[{ on := 4, ground := Go.Ground.data }, { on := 3, ground := Go.Ground.chain }], guard := none }) (v := ?_) rfl (by kernel_rfl) (by kernel_rfl) (by kernel_rfl) (by kernel_rfl) (fun _ _ _ h => h) (Or.inl ⟨by rfl, ?_⟩) (by assumption) ?_
                rotate_left
                · (intro w; go_simp; try with_reducible rfl)
                simp only [Act.put, List.setIfInBounds_toArray, List.set_cons_zero, List.set_cons_succ]
                refine wpAnyG_take (i := 6) (oi := { dst := some 75, op := Go.Op.load 24 (Go.Operand.tmp 3), type := 24, pos := "law.go:138", after := #[{ on := 5, ground := Go.Ground.guard }], guard := some (5, false) }) (v := ?_) rfl (by kernel_rfl) (by kernel_rfl) (by kernel_rfl) (by kernel_rfl) (fun _ _ _ h => h) (Or.inl ⟨by rfl, ?_⟩) (by assumption) ?_
                rotate_left
                · (intro w hSw; (obtain ⟨y0, y1, y2, y3, y4, y5, y6, y7, y8⟩ := hSw); go_simp; try with_reducible rfl)
                simp only [Act.put, List.setIfInBounds_toArray, List.set_cons_zero, List.set_cons_succ]
                refine wpAnyG_take (i := 8) (oi := { dst := some 77, op := Go.Op.load 24 (Go.Operand.tmp 3), type := 24, pos := "law.go:138", after := #[{ on := 5, ground := Go.Ground.guard }], guard := some (5, false) }) (v := ?_) rfl (by kernel_rfl) (by kernel_rfl) (by kernel_rfl) (by kernel_rfl) (fun _ _ _ h => h) (Or.inl ⟨by rfl, ?_⟩) (by assumption) ?_
                rotate_left
                · (intro w hSw; (obtain ⟨y0, y1, y2, y3, y4, y5, y6, y7, y8⟩ := hSw); go_simp; try with_reducible rfl)
                simp only [Act.put, List.setIfInBounds_toArray, List.set_cons_zero, List.set_cons_succ]
                refine wpAnyG_ready (rs := [7]) (by kernel_rfl) (by simp) ?_
                refine AllReadyG.cons (o := { dst := some 76, op := Go.Op.call { callee := Go.Callee.value (Go.Operand.func 10), args := #[Go.Operand.tmp 75], argTypes := #[24] }, type := 9, pos := "law.go:138", after := #[{ on := 6, ground := Go.Ground.data }, { on := 5, ground := Go.Ground.chain }, { on := 5, ground := Go.Ground.guard }], guard := some (5, false) }) rfl (fun K hK => ?_) AllReadyG.nil
                go_simp
                go_at_call 10
                refine (HTx.out _ (HK2.out.trans k2 (fun z hz => Or.inl hz))).mono ?_
                rintro e U3 ⟨rfl, v3⟩
                have k3 : Kp [] w2 U3 := k2.trans v3 (fun z hz => Or.inl hz)
                go_wp2_with fail
                refine hK.out _ _ (HN.out _ (HK2.out.trans k3 (fun z hz => Or.inl hz))) (fun hHeld3 => ?_)
                clear hK K hHeld2
                try simp only [Act.put, List.setIfInBounds_toArray, List.set_cons_zero, List.set_cons_succ]
                refine wpAnyG_ready (rs := [9]) (by kernel_rfl) (by simp) ?_
                refine AllReadyG.cons (o := { dst := some 78, op := Go.Op.call { callee := Go.Callee.value (Go.Operand.func 11), args := #[Go.Operand.tmp 77], argTypes := #[24] }, type := 9, pos := "law.go:138", after := #[{ on := 8, ground := Go.Ground.data }, { on := 7, ground := Go.Ground.chain }, { on := 5, ground := Go.Ground.guard }], guard := some (5, false) }) rfl (fun K hK => ?_) AllReadyG.nil
                go_simp
                go_at_call 11
                refine (HLi.out _ (HK2.out.trans k3 (fun z hz => Or.inl hz))).mono ?_
                rintro e U4 ⟨rfl, v4⟩
                have k4 : Kp [] w2 U4 := k3.trans v4 (fun z hz => Or.inl hz)
                go_wp2_with fail
                refine hK.out _ _ (HN.out _ (HK2.out.trans k4 (fun z hz => Or.inl hz))) (fun hHeld4 => ?_)
                clear hK K hHeld3
                try simp only [Act.put, List.setIfInBounds_toArray, List.set_cons_zero, List.set_cons_succ]
                refine wpAnyG_pure (i := 10) (oi := { dst := some 79, op := Go.Op.binOp Go.BinOp.neq 9 (Go.Operand.tmp 76) (Go.Operand.tmp 78) 9, type := 4, pos := "law.go:138", after := #[{ on := 7, ground := Go.Ground.data }, { on := 9, ground := Go.Ground.data }, { on := 5, ground := Go.Ground.guard }], guard := some (5, false) }) (v := ?_) rfl (by kernel_rfl) (by kernel_rfl) (by kernel_rfl) (by kernel_rfl) (fun _ _ _ h => h) (Or.inl ⟨by rfl, ?_⟩) (by assumption) ?_
                rotate_left
                · (intro w; go_simp; try with_reducible rfl)
                simp only [Act.put, List.setIfInBounds_toArray, List.set_cons_zero, List.set_cons_succ]
                refine wpAnyG_pure (i := 11) (oi := { dst := some 80, op := Go.Op.pick (Go.Operand.tmp 74) (Go.Operand.const (Go.Value.bool true)) (Go.Operand.tmp 79), type := 4, pos := "law.go:138", after := #[{ on := 5, ground := Go.Ground.data }, { on := 10, ground := Go.Ground.data }], guard := none }) (v := ?_) rfl (by kernel_rfl) (by kernel_rfl) (by kernel_rfl) (by kernel_rfl) (fun _ _ _ h => h) (Or.inl ⟨by rfl, ?_⟩) (by assumption) ?_
                rotate_left
                · (intro w; go_simp; try with_reducible rfl)
                simp only [Act.put, List.setIfInBounds_toArray, List.set_cons_zero, List.set_cons_succ]
                refine wpAnyG_pure (i := 12) (oi := { dst := some 81, op := Go.Op.move (Go.Operand.tmp 80), type := 4, pos := "law.go:138", after := #[{ on := 11, ground := Go.Ground.data }, { on := 9, ground := Go.Ground.chain }], guard := none }) (v := ?_) rfl (by kernel_rfl) (by kernel_rfl) (by kernel_rfl) (by kernel_rfl) (fun _ _ _ h => h) (Or.inl ⟨by rfl, ?_⟩) (by assumption) ?_
                rotate_left
                · (intro w; go_simp; try with_reducible rfl)
                simp only [Act.put, List.setIfInBounds_toArray, List.set_cons_zero, List.set_cons_succ]
                refine wpAnyG_take (i := 13) (oi := { dst := some 82, op := Go.Op.load 24 (Go.Operand.tmp 3), type := 24, pos := "law.go:138", after := #[{ on := 12, ground := Go.Ground.guard }], guard := some (12, false) }) (v := ?_) rfl (by kernel_rfl) (by kernel_rfl) (by kernel_rfl) (by kernel_rfl) (fun _ _ _ h => h) (Or.inl ⟨by rfl, ?_⟩) (by assumption) ?_
                rotate_left
                · (intro w hSw; (obtain ⟨y0, y1, y2, y3, y4, y5, y6, y7, y8⟩ := hSw); go_simp; try with_reducible rfl)
                simp only [Act.put, List.setIfInBounds_toArray, List.set_cons_zero, List.set_cons_succ]
                refine wpAnyG_take (i := 14) (oi := { dst := some 83, op := Go.Op.load 24 (Go.Operand.tmp 3), type := 24, pos := "law.go:138", after := #[{ on := 12, ground := Go.Ground.guard }], guard := some (12, false) }) (v := ?_) rfl (by kernel_rfl) (by kernel_rfl) (by kernel_rfl) (by kernel_rfl) (fun _ _ _ h => h) (Or.inl ⟨by rfl, ?_⟩) (by assumption) ?_
                rotate_left
                · (intro w hSw; (obtain ⟨y0, y1, y2, y3, y4, y5, y6, y7, y8⟩ := hSw); go_simp; try with_reducible rfl)
                simp only [Act.put, List.setIfInBounds_toArray, List.set_cons_zero, List.set_cons_succ]
                refine wpAnyG_ready (rs := [15]) (by kernel_rfl) (by simp) ?_
                refine AllReadyG.cons (o := { dst := some 84, op := Go.Op.call { callee := Go.Callee.value (Go.Operand.func 12), args := #[Go.Operand.tmp 82, Go.Operand.tmp 83], argTypes := #[24, 24] }, type := 4, pos := "law.go:138", after := #[{ on := 13, ground := Go.Ground.data }, { on := 14, ground := Go.Ground.data }, { on := 12, ground := Go.Ground.chain }, { on := 12, ground := Go.Ground.guard }], guard := some (12, false) }) rfl (fun K hK => ?_) AllReadyG.nil
                go_simp
                go_at_call 12
                refine (HS1.out _ (HK2.out.trans k4 (fun z hz => Or.inl hz))).mono ?_
                rintro e U5 ⟨rfl, v5⟩
                have k5 : Kp [] w2 U5 := k4.trans v5 (fun z hz => Or.inl hz)
                go_wp2_with fail
                refine hK.out _ _ (HN.out _ (HK2.out.trans k5 (fun z hz => Or.inl hz))) (fun hHeld5 => ?_)
                clear hK K hHeld4
                try simp only [Act.put, List.setIfInBounds_toArray, List.set_cons_zero, List.set_cons_succ]
                refine wpAnyG_pure (i := 16) (oi := { dst := some 85, op := Go.Op.unOp Go.UnOp.not 4 (Go.Operand.tmp 84), type := 4, pos := "law.go:138", after := #[{ on := 15, ground := Go.Ground.data }, { on := 12, ground := Go.Ground.guard }], guard := some (12, false) }) (v := ?_) rfl (by kernel_rfl) (by kernel_rfl) (by kernel_rfl) (by kernel_rfl) (fun _ _ _ h => h) (Or.inl ⟨by rfl, ?_⟩) (by assumption) ?_
                rotate_left
                · (intro w; go_simp; try with_reducible rfl)
                simp only [Act.put, List.setIfInBounds_toArray, List.set_cons_zero, List.set_cons_succ]
                refine wpAnyG_pure (i := 17) (oi := { dst := some 86, op := Go.Op.pick (Go.Operand.tmp 81) (Go.Operand.const (Go.Value.bool true)) (Go.Operand.tmp 85), type := 4, pos := "law.go:138", after := #[{ on := 12, ground := Go.Ground.data }, { on := 16, ground := Go.Ground.data }], guard := none }) (v := ?_) rfl (by kernel_rfl) (by kernel_rfl) (by kernel_rfl) (by kernel_rfl) (fun _ _ _ h => h) (Or.inl ⟨by rfl, ?_⟩) (by assumption) ?_
                rotate_left
                · (intro w; go_simp; try with_reducible rfl)
                simp only [Act.put, List.setIfInBounds_toArray, List.set_cons_zero, List.set_cons_succ]
                refine wpAnyG_pure (i := 18) (oi := { dst := some 87, op := Go.Op.move (Go.Operand.tmp 86), type := 4, pos := "law.go:138", after := #[{ on := 17, ground := Go.Ground.data }, { on := 15, ground := Go.Ground.chain }], guard := none }) (v := ?_) rfl (by kernel_rfl) (by kernel_rfl) (by kernel_rfl) (by kernel_rfl) (fun _ _ _ h => h) (Or.inl ⟨by rfl, ?_⟩) (by assumption) ?_
                rotate_left
                · (intro w; go_simp; try with_reducible rfl)
                simp only [Act.put, List.setIfInBounds_toArray, List.set_cons_zero, List.set_cons_succ]
                refine wpAnyG_take (i := 19) (oi := { dst := some 88, op := Go.Op.load 24 (Go.Operand.tmp 3), type := 24, pos := "law.go:138", after := #[{ on := 18, ground := Go.Ground.guard }], guard := some (18, false) }) (v := ?_) rfl (by kernel_rfl) (by kernel_rfl) (by kernel_rfl) (by kernel_rfl) (fun _ _ _ h => h) (Or.inl ⟨by rfl, ?_⟩) (by assumption) ?_
                rotate_left
                · (intro w hSw; (obtain ⟨y0, y1, y2, y3, y4, y5, y6, y7, y8⟩ := hSw); go_simp; try with_reducible rfl)
                simp only [Act.put, List.setIfInBounds_toArray, List.set_cons_zero, List.set_cons_succ]
                refine wpAnyG_pure (i := 20) (oi := { dst := some 89, op := Go.Op.build 24 #[(0, Go.Operand.const (Go.Value.int Go.IntKind.i64 20))], type := 24, pos := "law.go:138", after := #[{ on := 18, ground := Go.Ground.guard }], guard := some (18, false) }) (v := ?_) rfl (by kernel_rfl) (by kernel_rfl) (by kernel_rfl) (by kernel_rfl) (fun _ _ _ h => h) (Or.inl ⟨by rfl, ?_⟩) (by assumption) ?_
                rotate_left
                · (intro w; go_simp; try with_reducible rfl)
                simp only [Act.put, List.setIfInBounds_toArray, List.set_cons_zero, List.set_cons_succ]
                refine wpAnyG_ready (rs := [21]) (by kernel_rfl) (by simp) ?_
                refine AllReadyG.cons (o := { dst := some 90, op := Go.Op.call { callee := Go.Callee.value (Go.Operand.func 12), args := #[Go.Operand.tmp 88, Go.Operand.tmp 89], argTypes := #[24, 24] }, type := 4, pos := "law.go:138", after := #[{ on := 19, ground := Go.Ground.data }, { on := 20, ground := Go.Ground.data }, { on := 18, ground := Go.Ground.chain }, { on := 18, ground := Go.Ground.guard }], guard := some (18, false) }) rfl (fun K hK => ?_) AllReadyG.nil
                go_simp
                go_at_call 12
                refine (HS2.out _ (HK2.out.trans k5 (fun z hz => Or.inl hz))).mono ?_
                rintro e U6 ⟨rfl, v6⟩
                have k6 : Kp [] w2 U6 := k5.trans v6 (fun z hz => Or.inl hz)
                go_wp2_with fail
                refine hK.out _ _ (HN.out _ (HK2.out.trans k6 (fun z hz => Or.inl hz))) (fun hHeld6 => ?_)
                clear hK K hHeld5
                try simp only [Act.put, List.setIfInBounds_toArray, List.set_cons_zero, List.set_cons_succ]
                refine wpAnyG_pure (i := 22) (oi := { dst := some 91, op := Go.Op.pick (Go.Operand.tmp 87) (Go.Operand.const (Go.Value.bool true)) (Go.Operand.tmp 90), type := 4, pos := "law.go:138", after := #[{ on := 18, ground := Go.Ground.data }, { on := 21, ground := Go.Ground.data }], guard := none }) (v := ?_) rfl (by kernel_rfl) (by kernel_rfl) (by kernel_rfl) (by kernel_rfl) (fun _ _ _ h => h) (Or.inl ⟨by rfl, ?_⟩) (by assumption) ?_
                rotate_left
                · (intro w; go_simp; try with_reducible rfl)
                simp only [Act.put, List.setIfInBounds_toArray, List.set_cons_zero, List.set_cons_succ]
                refine wpAnyG_free (by kernel_rfl) ?_
                refine wpAny_done (by kernel_rfl) ?_ _
                go_wp2_with fail
                go_meet
                case rel => exact ⟨rfl, rfl, rfl, rfl, k6⟩
              case rest =>
                obtain ⟨rfl, rfl, rfl, rfl, kc⟩ := hcut
                go_upto_region 40 with fail
                have HKz : Hid (∀ V, Kp [] wc V → Kp [] w V ∧ Kp [] W V) := fun V k => ⟨((HM.out.1.trans k2 (fun z hz => Or.inl hz)).trans kc (fun z hz => Or.inl hz)).trans k (fun z hz => Or.inl hz), (k2.trans kc (fun z hz => Or.inl hz)).trans k (fun z hz => Or.inl hz)⟩
                simp only [ov] at HRr
                rcases hd with ⟨hr, rfl, hb⟩ | ⟨hr, rfl, rfl⟩
                · have HS : Hid (∀ V, Kp [] wc V → (convert 27 9 (.slice a n c)).run Tryd.prog V = .ok (.string (strOfNums (ob ⟨R1, R2, R3, R4, R5, R6, R7, R8, R9⟩))) V) := fun V k => conv_rb (hb.kept (kc.trans k (fun z hz => Or.inl hz)))
                  have HB : Hid (∀ V, Kp [] wc V → Calls Tryd.prog 13 #[ov ⟨R1, R2, R3, R4, R5, R6, R7, R8, R9⟩ (q1, q2, q3)] V fun e w' => ∃ a' n' c', e = .returned (.slice a' n' c') ∧ Kp [] V w' ∧ (convert 27 9 (.slice a' n' c')).run Tryd.prog w' = .ok (.string (strOfNums (ob ⟨R1, R2, R3, R4, R5, R6, R7, R8, R9⟩))) w') := fun V k => (bytes_any V ⟨R1, R2, R3, R4, R5, R6, R7, R8, R9⟩ (q1, q2, q3) (HA.out V (HKz.out V k).2) hr (small_fit HM.out.2.2.2.1) (by have := small_ob HM.out.2.2.2.1; omega)).mono (fun e w' h => by
                    obtain ⟨a', n', c', rfl, m⟩ := h
                    exact ⟨a', n', c', rfl, m.2.1, conv_rb m.1.rb⟩)
                  rw [hr] at HRr
                  simp only [ov] at HB
                  generalize strOfNums (ob ⟨R1, R2, R3, R4, R5, R6, R7, R8, R9⟩) = bs at HS HB
                  clear HM HA HTb k2 kc hr hb
                  obtain ⟨U0, hU0⟩ : ∃ U, U = wc.drew := ⟨_, rfl⟩
                  have k0 : Kp [] wc U0 := by rw [hU0]; exact (Kp.refl _ _).drew
                  refine wp_region_g (S := fun U => (U.cell? ⟨g, 0, none⟩ = some (.int .i64 R1) ∧ U.cell? ⟨g, 1, none⟩ = some (.int .i64 R2) ∧ U.cell? ⟨g, 2, none⟩ = some (.int .i64 R3) ∧ U.cell? ⟨g, 3, none⟩ = some (.int .i64 R4) ∧ U.cell? ⟨g, 4, none⟩ = some (.int .i64 R5) ∧ U.cell? ⟨g, 5, none⟩ = some (.int .i64 R6) ∧ U.cell? ⟨g, 6, none⟩ = some (.string R7) ∧ U.cell? ⟨g, 7, none⟩ = some (.slice q1 q2 q3) ∧ U.cell? ⟨g, 8, none⟩ = some (.string R9)) ∧ (convert 27 9 (.slice a n c)).run Tryd.prog U = .ok (.string bs) U) (T := []) (by kernel_rfl) (by rw [← hU0]; exact ⟨HN.out _ (HKz.out _ k0).2, HS.out _ k0⟩) (fun hHeld => ?_)
                  rw [← hU0] at hHeld ⊢
                  clear hU0
                  refine wpAnyG_take (i := 0) (oi := { dst := some 92, op := Go.Op.load 24 (Go.Operand.tmp 3), type := 24, pos := "law.go:141", after := #[], guard := none }) (v := ?_) rfl (by kernel_rfl) (by kernel_rfl) (by kernel_rfl) (by kernel_rfl) (fun _ _ _ h => h) (Or.inl ⟨by rfl, ?_⟩) (by assumption) ?_
                  rotate_left
                  · (intro w hSw; (obtain ⟨⟨y0, y1, y2, y3, y4, y5, y6, y7, y8⟩, y9⟩ := hSw); go_simp; try with_reducible rfl)
                  simp only [Act.put, List.setIfInBounds_toArray, List.set_cons_zero, List.set_cons_succ]
                  refine wpAnyG_ready (rs := [1]) (by kernel_rfl) (by simp) ?_
                  refine AllReadyG.cons (o := { dst := some 93, op := Go.Op.call { callee := Go.Callee.value (Go.Operand.func 9), args := #[Go.Operand.tmp 92], argTypes := #[24] }, type := 4, pos := "law.go:141", after := #[{ on := 0, ground := Go.Ground.data }], guard := none }) rfl (fun K hK => ?_) AllReadyG.nil
                  go_simp
                  go_at_call 9
                  refine (HRr.out _ (HKz.out _ k0).2).mono ?_
                  rintro e U1 ⟨rfl, v1⟩
                  have k1 : Kp [] wc U1 := k0.trans v1 (fun z hz => Or.inl hz)
                  go_wp2_with fail
                  refine hK.out _ _ ⟨HN.out _ (HKz.out _ k1).2, HS.out _ k1⟩ (fun hHeld1 => ?_)
                  clear hK K hHeld
                  try simp only [Act.put, List.setIfInBounds_toArray, List.set_cons_zero, List.set_cons_succ]
                  refine wpAnyG_pure (i := 2) (oi := { dst := some 94, op := Go.Op.move (Go.Operand.tmp 93), type := 4, pos := "law.go:141", after := #[{ on := 1, ground := Go.Ground.data }, { on := 1, ground := Go.Ground.chain }], guard := none }) (v := ?_) rfl (by kernel_rfl) (by kernel_rfl) (by kernel_rfl) (by kernel_rfl) (fun _ _ _ h => h) (Or.inl ⟨by rfl, ?_⟩) (by assumption) ?_
                  rotate_left
                  · (intro w; go_simp; try with_reducible rfl)
                  simp only [Act.put, List.setIfInBounds_toArray, List.set_cons_zero, List.set_cons_succ]
                  refine wpAnyG_pure (i := 3) (oi := { dst := some 95, op := Go.Op.move (Go.Operand.tmp 5), type := 28, pos := "law.go:141", after := #[{ on := 2, ground := Go.Ground.guard }], guard := some (2, true) }) (v := ?_) rfl (by kernel_rfl) (by kernel_rfl) (by kernel_rfl) (by kernel_rfl) (fun _ _ _ h => h) (Or.inl ⟨by rfl, ?_⟩) (by assumption) ?_
                  rotate_left
                  · (intro w; go_simp; try with_reducible rfl)
                  simp only [Act.put, List.setIfInBounds_toArray, List.set_cons_zero, List.set_cons_succ]
                  refine wpAnyG_pure (i := 4) (oi := { dst := some 96, op := Go.Op.binOp Go.BinOp.neq 28 (Go.Operand.tmp 95) (Go.Operand.const (Go.Value.int Go.IntKind.i64 0)) 28, type := 4, pos := "law.go:141", after := #[{ on := 3, ground := Go.Ground.data }, { on := 2, ground := Go.Ground.guard }], guard := some (2, true) }) (v := ?_) rfl (by kernel_rfl) (by kernel_rfl) (by kernel_rfl) (by kernel_rfl) (fun _ _ _ h => h) (Or.inl ⟨by rfl, ?_⟩) (by assumption) ?_
                  rotate_left
                  · (intro w; go_simp; try with_reducible rfl)
                  simp only [Act.put, List.setIfInBounds_toArray, List.set_cons_zero, List.set_cons_succ]
                  refine wpAnyG_pure (i := 5) (oi := { dst := some 97, op := Go.Op.move (Go.Operand.tmp 96), type := 4, pos := "law.go:141", after := #[{ on := 4, ground := Go.Ground.data }, { on := 2, ground := Go.Ground.chain }, { on := 2, ground := Go.Ground.guard }], guard := some (2, true) }) (v := ?_) rfl (by kernel_rfl) (by kernel_rfl) (by kernel_rfl) (by kernel_rfl) (fun _ _ _ h => h) (Or.inl ⟨by rfl, ?_⟩) (by assumption) ?_
                  rotate_left
                  · (intro w; go_simp; try with_reducible rfl)
                  simp only [Act.put, List.setIfInBounds_toArray, List.set_cons_zero, List.set_cons_succ]
                  refine wpAnyG_pure (i := 6) (oi := { dst := some 98, op := Go.Op.move (Go.Operand.tmp 4), type := 27, pos := "law.go:141", after := #[{ on := 5, ground := Go.Ground.guard }], guard := some (5, false) }) (v := ?_) rfl (by kernel_rfl) (by kernel_rfl) (by kernel_rfl) (by kernel_rfl) (fun _ _ _ h => h) (Or.inl ⟨by rfl, ?_⟩) (by assumption) ?_
                  rotate_left
                  · (intro w; go_simp; try with_reducible rfl)
                  simp only [Act.put, List.setIfInBounds_toArray, List.set_cons_zero, List.set_cons_succ]
                  refine wpAnyG_take (i := 7) (oi := { dst := some 99, op := Go.Op.convert 27 9 (Go.Operand.tmp 98), type := 9, pos := "law.go:141", after := #[{ on := 6, ground := Go.Ground.data }, { on := 5, ground := Go.Ground.guard }], guard := some (5, false) }) (v := ?_) rfl (by kernel_rfl) (by kernel_rfl) (by kernel_rfl) (by kernel_rfl) (fun _ _ _ h => h) (Or.inl ⟨by rfl, ?_⟩) (by assumption) ?_
                  rotate_left
                  · (intro w hSw; (obtain ⟨⟨y0, y1, y2, y3, y4, y5, y6, y7, y8⟩, y9⟩ := hSw); go_simp; try with_reducible rfl)
                  simp only [Act.put, List.setIfInBounds_toArray, List.set_cons_zero, List.set_cons_succ]
                  refine wpAnyG_take (i := 8) (oi := { dst := some 100, op := Go.Op.load 24 (Go.Operand.tmp 3), type := 24, pos := "law.go:141", after := #[{ on := 5, ground := Go.Ground.guard }], guard := some (5, false) }) (v := ?_) rfl (by kernel_rfl) (by kernel_rfl) (by kernel_rfl) (by kernel_rfl) (fun _ _ _ h => h) (Or.inl ⟨by rfl, ?_⟩) (by assumption) ?_
                  rotate_left
                  · (intro w hSw; (obtain ⟨⟨y0, y1, y2, y3, y4, y5, y6, y7, y8⟩, y9⟩ := hSw); go_simp; try with_reducible rfl)
                  simp only [Act.put, List.setIfInBounds_toArray, List.set_cons_zero, List.set_cons_succ]
                  refine wpAnyG_ready (rs := [9]) (by kernel_rfl) (by simp) ?_
                  refine AllReadyG.cons (o := { dst := some 101, op := Go.Op.call { callee := Go.Callee.value (Go.Operand.func 13), args := #[Go.Operand.tmp 100], argTypes := #[24] }, type := 27, pos := "law.go:141", after := #[{ on := 8, ground := Go.Ground.data }, { on := 5, ground := Go.Ground.chain }, { on := 5, ground := Go.Ground.guard }], guard := some (5, false) }) rfl (fun K hK => ?_) AllReadyG.nil
                  go_simp
                  go_at_call 13
                  refine (HB.out _ k1).mono ?_
                  rintro e U2 ⟨a', n', c', rfl, v2, vb⟩
                  have k2 : Kp [] wc U2 := k1.trans v2 (fun z hz => Or.inl hz)
                  go_wp2_with fail
                  refine hK.out _ _ ⟨HN.out _ (HKz.out _ k2).2, HS.out _ k2⟩ (fun hHeld2 => ?_)
                  clear hK K hHeld1
                  try simp only [Act.put, List.setIfInBounds_toArray, List.set_cons_zero, List.set_cons_succ]
                  refine wpAnyG_ready (rs := [10]) (by kernel_rfl) (by simp) ?_
                  refine AllReadyG.cons (o := { dst := some 102, op := Go.Op.convert 27 9 (Go.Operand.tmp 101), type := 9, pos := "law.go:141", after := #[{ on := 9, ground := Go.Ground.data }, { on := 5, ground := Go.Ground.guard }], guard := some (5, false) }) rfl (fun K hK => ?_) AllReadyG.nil
                  go_simp
                  refine hK.out _ _ ⟨HN.out _ (HKz.out _ k2).2, HS.out _ k2⟩ (fun hHeld3 => ?_)
                  clear hK K hHeld2
                  try simp only [Act.put, List.setIfInBounds_toArray, List.set_cons_zero, List.set_cons_succ]
                  refine wpAnyG_pure (i := 11) (oi := { dst := some 103, op := Go.Op.binOp Go.BinOp.neq 9 (Go.Operand.tmp 99) (Go.Operand.tmp 102) 9, type := 4, pos := "law.go:141", after := #[{ on := 7, ground := Go.Ground.data }, { on := 10, ground := Go.Ground.data }, { on := 5, ground := Go.Ground.guard }], guard := some (5, false) }) (v := ?_) rfl (by kernel_rfl) (by kernel_rfl) (by kernel_rfl) (by kernel_rfl) (fun _ _ _ h => h) (Or.inl ⟨by rfl, ?_⟩) (by assumption) ?_
                  rotate_left
                  · (intro w; go_simp; try with_reducible rfl)
                  simp only [Act.put, List.setIfInBounds_toArray, List.set_cons_zero, List.set_cons_succ]
                  refine wpAnyG_pure (i := 12) (oi := { dst := some 104, op := Go.Op.pick (Go.Operand.tmp 97) (Go.Operand.const (Go.Value.bool true)) (Go.Operand.tmp 103), type := 4, pos := "law.go:141", after := #[{ on := 5, ground := Go.Ground.data }, { on := 11, ground := Go.Ground.data }, { on := 2, ground := Go.Ground.guard }], guard := some (2, true) }) (v := ?_) rfl (by kernel_rfl) (by kernel_rfl) (by kernel_rfl) (by kernel_rfl) (fun _ _ _ h => h) (Or.inl ⟨by rfl, ?_⟩) (by assumption) ?_
                  rotate_left
                  · (intro w; go_simp; try with_reducible rfl)
                  simp only [Act.put, List.setIfInBounds_toArray, List.set_cons_zero, List.set_cons_succ]
                  refine wpAnyG_pure (i := 13) (oi := { dst := some 105, op := Go.Op.pick (Go.Operand.tmp 94) (Go.Operand.tmp 104) (Go.Operand.const (Go.Value.bool false)), type := 4, pos := "law.go:141", after := #[{ on := 2, ground := Go.Ground.data }, { on := 12, ground := Go.Ground.data }], guard := none }) (v := ?_) rfl (by kernel_rfl) (by kernel_rfl) (by kernel_rfl) (by kernel_rfl) (fun _ _ _ h => h) (Or.inl ⟨by rfl, ?_⟩) (by assumption) ?_
                  rotate_left
                  · (intro w; go_simp; try with_reducible rfl)
                  simp only [Act.put, List.setIfInBounds_toArray, List.set_cons_zero, List.set_cons_succ]
                  refine wpAnyG_pure (i := 14) (oi := { dst := some 106, op := Go.Op.move (Go.Operand.tmp 105), type := 4, pos := "law.go:141", after := #[{ on := 13, ground := Go.Ground.data }, { on := 9, ground := Go.Ground.chain }], guard := none }) (v := ?_) rfl (by kernel_rfl) (by kernel_rfl) (by kernel_rfl) (by kernel_rfl) (fun _ _ _ h => h) (Or.inl ⟨by rfl, ?_⟩) (by assumption) ?_
                  rotate_left
                  · (intro w; go_simp; try with_reducible rfl)
                  simp only [Act.put, List.setIfInBounds_toArray, List.set_cons_zero, List.set_cons_succ]
                  refine wpAnyG_take (i := 15) (oi := { dst := some 107, op := Go.Op.load 24 (Go.Operand.tmp 3), type := 24, pos := "law.go:141", after := #[{ on := 14, ground := Go.Ground.guard }], guard := some (14, false) }) (v := ?_) rfl (by kernel_rfl) (by kernel_rfl) (by kernel_rfl) (by kernel_rfl) (fun _ _ _ h => h) (Or.inl ⟨by rfl, ?_⟩) (by assumption) ?_
                  rotate_left
                  · (intro w hSw; (obtain ⟨⟨y0, y1, y2, y3, y4, y5, y6, y7, y8⟩, y9⟩ := hSw); go_simp; try with_reducible rfl)
                  simp only [Act.put, List.setIfInBounds_toArray, List.set_cons_zero, List.set_cons_succ]
                  refine wpAnyG_ready (rs := [16]) (by kernel_rfl) (by simp) ?_
                  refine AllReadyG.cons (o := { dst := some 108, op := Go.Op.call { callee := Go.Callee.value (Go.Operand.func 9), args := #[Go.Operand.tmp 107], argTypes := #[24] }, type := 4, pos := "law.go:141", after := #[{ on := 15, ground := Go.Ground.data }, { on := 14, ground := Go.Ground.chain }, { on := 14, ground := Go.Ground.guard }], guard := some (14, false) }) rfl (fun K hK => ?_) AllReadyG.nil
                  go_simp
                  go_at_call 9
                  refine (HRr.out _ (HKz.out _ k2).2).mono ?_
                  rintro e U3 ⟨rfl, v3⟩
                  have k3 : Kp [] wc U3 := k2.trans v3 (fun z hz => Or.inl hz)
                  go_wp2_with fail
                  refine hK.out _ _ ⟨HN.out _ (HKz.out _ k3).2, HS.out _ k3⟩ (fun hHeld4 => ?_)
                  clear hK K hHeld3
                  try simp only [Act.put, List.setIfInBounds_toArray, List.set_cons_zero, List.set_cons_succ]
                  refine wpAnyG_pure (i := 17) (oi := { dst := some 109, op := Go.Op.unOp Go.UnOp.not 4 (Go.Operand.tmp 108), type := 4, pos := "law.go:141", after := #[{ on := 16, ground := Go.Ground.data }, { on := 14, ground := Go.Ground.guard }], guard := some (14, false) }) (v := ?_) rfl (by kernel_rfl) (by kernel_rfl) (by kernel_rfl) (by kernel_rfl) (fun _ _ _ h => h) (Or.inl ⟨by rfl, ?_⟩) (by assumption) ?_
                  rotate_left
                  · (intro w; go_simp; try with_reducible rfl)
                  simp only [Act.put, List.setIfInBounds_toArray, List.set_cons_zero, List.set_cons_succ]
                  refine wpAnyG_pure (i := 18) (oi := { dst := some 110, op := Go.Op.move (Go.Operand.tmp 109), type := 4, pos := "law.go:141", after := #[{ on := 17, ground := Go.Ground.data }, { on := 16, ground := Go.Ground.chain }, { on := 14, ground := Go.Ground.guard }], guard := some (14, false) }) (v := ?_) rfl (by kernel_rfl) (by kernel_rfl) (by kernel_rfl) (by kernel_rfl) (fun _ _ _ h => h) (Or.inl ⟨by rfl, ?_⟩) (by assumption) ?_
                  rotate_left
                  · (intro w; go_simp; try with_reducible rfl)
                  simp only [Act.put, List.setIfInBounds_toArray, List.set_cons_zero, List.set_cons_succ]
                  refine wpAnyG_pure (i := 19) (oi := { dst := some 111, op := Go.Op.move (Go.Operand.tmp 5), type := 28, pos := "law.go:141", after := #[{ on := 18, ground := Go.Ground.guard }], guard := some (18, true) }) (v := undef) rfl (by kernel_rfl) (by kernel_rfl) (by kernel_rfl) (by kernel_rfl) (fun _ _ _ h => h) (Or.inr ⟨by rfl, rfl⟩) (by assumption) ?_
                  simp only [Act.put, List.setIfInBounds_toArray, List.set_cons_zero, List.set_cons_succ]
                  refine wpAnyG_pure (i := 20) (oi := { dst := some 112, op := Go.Op.binOp Go.BinOp.neq 28 (Go.Operand.tmp 111) (Go.Operand.const (Go.Value.int Go.IntKind.i64 12)) 28, type := 4, pos := "law.go:141", after := #[{ on := 19, ground := Go.Ground.data }, { on := 18, ground := Go.Ground.guard }], guard := some (18, true) }) (v := undef) rfl (by kernel_rfl) (by kernel_rfl) (by kernel_rfl) (by kernel_rfl) (fun _ _ _ h => h) (Or.inr ⟨by rfl, rfl⟩) (by assumption) ?_
                  simp only [Act.put, List.setIfInBounds_toArray, List.set_cons_zero, List.set_cons_succ]
                  refine wpAnyG_pure (i := 21) (oi := { dst := some 113, op := Go.Op.move (Go.Operand.tmp 112), type := 4, pos := "law.go:141", after := #[{ on := 20, ground := Go.Ground.data }, { on := 18, ground := Go.Ground.chain }, { on := 18, ground := Go.Ground.guard }], guard := some (18, true) }) (v := undef) rfl (by kernel_rfl) (by kernel_rfl) (by kernel_rfl) (by kernel_rfl) (fun _ _ _ h => h) (Or.inr ⟨by rfl, rfl⟩) (by assumption) ?_
                  simp only [Act.put, List.setIfInBounds_toArray, List.set_cons_zero, List.set_cons_succ]
                  refine wpAnyG_pure (i := 22) (oi := { dst := some 114, op := Go.Op.move (Go.Operand.tmp 4), type := 27, pos := "law.go:141", after := #[{ on := 21, ground := Go.Ground.guard }], guard := some (21, false) }) (v := undef) rfl (by kernel_rfl) (by kernel_rfl) (by kernel_rfl) (by kernel_rfl) (fun _ _ _ h => h) (Or.inr ⟨by rfl, rfl⟩) (by assumption) ?_
                  simp only [Act.put, List.setIfInBounds_toArray, List.set_cons_zero, List.set_cons_succ]
                  refine wpAnyG_pure (i := 23) (oi := { dst := some 115, op := Go.Op.call { callee := Go.Callee.builtin Go.Builtin.len, args := #[Go.Operand.tmp 114], argTypes := #[27] }, type := 3, pos := "law.go:141", after := #[{ on := 22, ground := Go.Ground.data }, { on := 21, ground := Go.Ground.guard }], guard := some (21, false) }) (v := undef) rfl (by kernel_rfl) (by kernel_rfl) (by kernel_rfl) (by kernel_rfl) (fun _ _ _ h => h) (Or.inr ⟨by rfl, rfl⟩) (by assumption) ?_
                  simp only [Act.put, List.setIfInBounds_toArray, List.set_cons_zero, List.set_cons_succ]
                  refine wpAnyG_pure (i := 24) (oi := { dst := some 116, op := Go.Op.binOp Go.BinOp.gtr 3 (Go.Operand.tmp 115) (Go.Operand.const (Go.Value.int Go.IntKind.i64 0)) 3, type := 4, pos := "law.go:141", after := #[{ on := 23, ground := Go.Ground.data }, { on := 21, ground := Go.Ground.guard }], guard := some (21, false) }) (v := undef) rfl (by kernel_rfl) (by kernel_rfl) (by kernel_rfl) (by kernel_rfl) (fun _ _ _ h => h) (Or.inr ⟨by rfl, rfl⟩) (by assumption) ?_
                  simp only [Act.put, List.setIfInBounds_toArray, List.set_cons_zero, List.set_cons_succ]
                  refine wpAnyG_pure (i := 25) (oi := { dst := some 117, op := Go.Op.pick (Go.Operand.tmp 113) (Go.Operand.const (Go.Value.bool true)) (Go.Operand.tmp 116), type := 4, pos := "law.go:141", after := #[{ on := 21, ground := Go.Ground.data }, { on := 24, ground := Go.Ground.data }, { on := 18, ground := Go.Ground.guard }], guard := some (18, true) }) (v := undef) rfl (by kernel_rfl) (by kernel_rfl) (by kernel_rfl) (by kernel_rfl) (fun _ _ _ h => h) (Or.inr ⟨by rfl, rfl⟩) (by assumption) ?_
                  simp only [Act.put, List.setIfInBounds_toArray, List.set_cons_zero, List.set_cons_succ]
                  refine wpAnyG_pure (i := 26) (oi := { dst := some 118, op := Go.Op.pick (Go.Operand.tmp 110) (Go.Operand.tmp 117) (Go.Operand.const (Go.Value.bool false)), type := 4, pos := "law.go:141", after := #[{ on := 18, ground := Go.Ground.data }, { on := 25, ground := Go.Ground.data }, { on := 14, ground := Go.Ground.guard }], guard := some (14, false) }) (v := ?_) rfl (by kernel_rfl) (by kernel_rfl) (by kernel_rfl) (by kernel_rfl) (fun _ _ _ h => h) (Or.inl ⟨by rfl, ?_⟩) (by assumption) ?_
                  rotate_left
                  · (intro w; go_simp; try with_reducible rfl)
                  simp only [Act.put, List.setIfInBounds_toArray, List.set_cons_zero, List.set_cons_succ]
                  refine wpAnyG_pure (i := 27) (oi := { dst := some 119, op := Go.Op.pick (Go.Operand.tmp 106) (Go.Operand.const (Go.Value.bool true)) (Go.Operand.tmp 118), type := 4, pos := "law.go:141", after := #[{ on := 14, ground := Go.Ground.data }, { on := 26, ground := Go.Ground.data }], guard := none }) (v := ?_) rfl (by kernel_rfl) (by kernel_rfl) (by kernel_rfl) (by kernel_rfl) (fun _ _ _ h => h) (Or.inl ⟨by rfl, ?_⟩) (by assumption) ?_
                  rotate_left
                  · (intro w; go_simp; try with_reducible rfl)
                  simp only [Act.put, List.setIfInBounds_toArray, List.set_cons_zero, List.set_cons_succ]
                  refine wpAnyG_free (by kernel_rfl) ?_
                  refine wpAny_done (by kernel_rfl) ?_ _
                  have kz := (HKz.out _ k3).1
                  clear HN HKz HS
                  go_wp2_with fail
                  go_roundw
                  case rel => exact ⟨y + 1, by omega, by omega, by go_num, kz⟩
                  case measure => simp [intOf]; omega
                · rw [hr] at HRr
                  clear HM HA HTb k2 kc hr
                  obtain ⟨U0, hU0⟩ : ∃ U, U = wc.drew := ⟨_, rfl⟩
                  have k0 : Kp [] wc U0 := by rw [hU0]; exact (Kp.refl _ _).drew
                  refine wp_region_g (S := fun U => U.cell? ⟨g, 0, none⟩ = some (.int .i64 R1) ∧ U.cell? ⟨g, 1, none⟩ = some (.int .i64 R2) ∧ U.cell? ⟨g, 2, none⟩ = some (.int .i64 R3) ∧ U.cell? ⟨g, 3, none⟩ = some (.int .i64 R4) ∧ U.cell? ⟨g, 4, none⟩ = some (.int .i64 R5) ∧ U.cell? ⟨g, 5, none⟩ = some (.int .i64 R6) ∧ U.cell? ⟨g, 6, none⟩ = some (.string R7) ∧ U.cell? ⟨g, 7, none⟩ = some (.slice q1 q2 q3) ∧ U.cell? ⟨g, 8, none⟩ = some (.string R9)) (T := []) (by kernel_rfl) (by rw [← hU0]; exact HN.out _ (HKz.out _ k0).2) (fun hHeld => ?_)
                  rw [← hU0] at hHeld ⊢
                  clear hU0
                  refine wpAnyG_take (i := 0) (oi := { dst := some 92, op := Go.Op.load 24 (Go.Operand.tmp 3), type := 24, pos := "law.go:141", after := #[], guard := none }) (v := ?_) rfl (by kernel_rfl) (by kernel_rfl) (by kernel_rfl) (by kernel_rfl) (fun _ _ _ h => h) (Or.inl ⟨by rfl, ?_⟩) (by assumption) ?_
                  rotate_left
                  · (intro w hSw; (obtain ⟨y0, y1, y2, y3, y4, y5, y6, y7, y8⟩ := hSw); go_simp; try with_reducible rfl)
                  simp only [Act.put, List.setIfInBounds_toArray, List.set_cons_zero, List.set_cons_succ]
                  refine wpAnyG_ready (rs := [1]) (by kernel_rfl) (by simp) ?_
                  refine AllReadyG.cons (o := { dst := some 93, op := Go.Op.call { callee := Go.Callee.value (Go.Operand.func 9), args := #[Go.Operand.tmp 92], argTypes := #[24] }, type := 4, pos := "law.go:141", after := #[{ on := 0, ground := Go.Ground.data }], guard := none }) rfl (fun K hK => ?_) AllReadyG.nil
                  go_simp
                  go_at_call 9
                  refine (HRr.out _ (HKz.out _ k0).2).mono ?_
                  rintro e U1 ⟨rfl, v1⟩
                  have k1 : Kp [] wc U1 := k0.trans v1 (fun z hz => Or.inl hz)
                  go_wp2_with fail
                  refine hK.out _ _ (HN.out _ (HKz.out _ k1).2) (fun hHeld1 => ?_)
                  clear hK K hHeld
                  try simp only [Act.put, List.setIfInBounds_toArray, List.set_cons_zero, List.set_cons_succ]
                  refine wpAnyG_pure (i := 2) (oi := { dst := some 94, op := Go.Op.move (Go.Operand.tmp 93), type := 4, pos := "law.go:141", after := #[{ on := 1, ground := Go.Ground.data }, { on := 1, ground := Go.Ground.chain }], guard := none }) (v := ?_) rfl (by kernel_rfl) (by kernel_rfl) (by kernel_rfl) (by kernel_rfl) (fun _ _ _ h => h) (Or.inl ⟨by rfl, ?_⟩) (by assumption) ?_
                  rotate_left
                  · (intro w; go_simp; try with_reducible rfl)
                  simp only [Act.put, List.setIfInBounds_toArray, List.set_cons_zero, List.set_cons_succ]
                  refine wpAnyG_pure (i := 3) (oi := { dst := some 95, op := Go.Op.move (Go.Operand.tmp 5), type := 28, pos := "law.go:141", after := #[{ on := 2, ground := Go.Ground.guard }], guard := some (2, true) }) (v := undef) rfl (by kernel_rfl) (by kernel_rfl) (by kernel_rfl) (by kernel_rfl) (fun _ _ _ h => h) (Or.inr ⟨by rfl, rfl⟩) (by assumption) ?_
                  simp only [Act.put, List.setIfInBounds_toArray, List.set_cons_zero, List.set_cons_succ]
                  refine wpAnyG_pure (i := 4) (oi := { dst := some 96, op := Go.Op.binOp Go.BinOp.neq 28 (Go.Operand.tmp 95) (Go.Operand.const (Go.Value.int Go.IntKind.i64 0)) 28, type := 4, pos := "law.go:141", after := #[{ on := 3, ground := Go.Ground.data }, { on := 2, ground := Go.Ground.guard }], guard := some (2, true) }) (v := undef) rfl (by kernel_rfl) (by kernel_rfl) (by kernel_rfl) (by kernel_rfl) (fun _ _ _ h => h) (Or.inr ⟨by rfl, rfl⟩) (by assumption) ?_
                  simp only [Act.put, List.setIfInBounds_toArray, List.set_cons_zero, List.set_cons_succ]
                  refine wpAnyG_pure (i := 5) (oi := { dst := some 97, op := Go.Op.move (Go.Operand.tmp 96), type := 4, pos := "law.go:141", after := #[{ on := 4, ground := Go.Ground.data }, { on := 2, ground := Go.Ground.chain }, { on := 2, ground := Go.Ground.guard }], guard := some (2, true) }) (v := undef) rfl (by kernel_rfl) (by kernel_rfl) (by kernel_rfl) (by kernel_rfl) (fun _ _ _ h => h) (Or.inr ⟨by rfl, rfl⟩) (by assumption) ?_
                  simp only [Act.put, List.setIfInBounds_toArray, List.set_cons_zero, List.set_cons_succ]
                  refine wpAnyG_pure (i := 6) (oi := { dst := some 98, op := Go.Op.move (Go.Operand.tmp 4), type := 27, pos := "law.go:141", after := #[{ on := 5, ground := Go.Ground.guard }], guard := some (5, false) }) (v := undef) rfl (by kernel_rfl) (by kernel_rfl) (by kernel_rfl) (by kernel_rfl) (fun _ _ _ h => h) (Or.inr ⟨by rfl, rfl⟩) (by assumption) ?_
                  simp only [Act.put, List.setIfInBounds_toArray, List.set_cons_zero, List.set_cons_succ]
                  refine wpAnyG_take (i := 7) (oi := { dst := some 99, op := Go.Op.convert 27 9 (Go.Operand.tmp 98), type := 9, pos := "law.go:141", after := #[{ on := 6, ground := Go.Ground.data }, { on := 5, ground := Go.Ground.guard }], guard := some (5, false) }) (v := undef) rfl (by kernel_rfl) (by kernel_rfl) (by kernel_rfl) (by kernel_rfl) (fun _ _ _ h => h) (Or.inr ⟨by rfl, rfl⟩) (by assumption) ?_
                  simp only [Act.put, List.setIfInBounds_toArray, List.set_cons_zero, List.set_cons_succ]
                  refine wpAnyG_take (i := 8) (oi := { dst := some 100, op := Go.Op.load 24 (Go.Operand.tmp 3), type := 24, pos := "law.go:141", after := #[{ on := 5, ground := Go.Ground.guard }], guard := some (5, false) }) (v := undef) rfl (by kernel_rfl) (by kernel_rfl) (by kernel_rfl) (by kernel_rfl) (fun _ _ _ h => h) (Or.inr ⟨by rfl, rfl⟩) (by assumption) ?_
                  simp only [Act.put, List.setIfInBounds_toArray, List.set_cons_zero, List.set_cons_succ]
                  refine wpAnyG_pure (i := 9) (oi := { dst := some 101, op := Go.Op.call { callee := Go.Callee.value (Go.Operand.func 13), args := #[Go.Operand.tmp 100], argTypes := #[24] }, type := 27, pos := "law.go:141", after := #[{ on := 8, ground := Go.Ground.data }, { on := 5, ground := Go.Ground.chain }, { on := 5, ground := Go.Ground.guard }], guard := some (5, false) }) (v := undef) rfl (by kernel_rfl) (by kernel_rfl) (by kernel_rfl) (by kernel_rfl) (fun _ _ _ h => h) (Or.inr ⟨by rfl, rfl⟩) (by assumption) ?_
                  simp only [Act.put, List.setIfInBounds_toArray, List.set_cons_zero, List.set_cons_succ]
                  refine wpAnyG_take (i := 10) (oi := { dst := some 102, op := Go.Op.convert 27 9 (Go.Operand.tmp 101), type := 9, pos := "law.go:141", after := #[{ on := 9, ground := Go.Ground.data }, { on := 5, ground := Go.Ground.guard }], guard := some (5, false) }) (v := undef) rfl (by kernel_rfl) (by kernel_rfl) (by kernel_rfl) (by kernel_rfl) (fun _ _ _ h => h) (Or.inr ⟨by rfl, rfl⟩) (by assumption) ?_
                  simp only [Act.put, List.setIfInBounds_toArray, List.set_cons_zero, List.set_cons_succ]
                  refine wpAnyG_pure (i := 11) (oi := { dst := some 103, op := Go.Op.binOp Go.BinOp.neq 9 (Go.Operand.tmp 99) (Go.Operand.tmp 102) 9, type := 4, pos := "law.go:141", after := #[{ on := 7, ground := Go.Ground.data }, { on := 10, ground := Go.Ground.data }, { on := 5, ground := Go.Ground.guard }], guard := some (5, false) }) (v := undef) rfl (by kernel_rfl) (by kernel_rfl) (by kernel_rfl) (by kernel_rfl) (fun _ _ _ h => h) (Or.inr ⟨by rfl, rfl⟩) (by assumption) ?_
                  simp only [Act.put, List.setIfInBounds_toArray, List.set_cons_zero, List.set_cons_succ]
                  refine wpAnyG_pure (i := 12) (oi := { dst := some 104, op := Go.Op.pick (Go.Operand.tmp 97) (Go.Operand.const (Go.Value.bool true)) (Go.Operand.tmp 103), type := 4, pos := "law.go:141", after := #[{ on := 5, ground := Go.Ground.data }, { on := 11, ground := Go.Ground.data }, { on := 2, ground := Go.Ground.guard }], guard := some (2, true) }) (v := undef) rfl (by kernel_rfl) (by kernel_rfl) (by kernel_rfl) (by kernel_rfl) (fun _ _ _ h => h) (Or.inr ⟨by rfl, rfl⟩) (by assumption) ?_
                  simp only [Act.put, List.setIfInBounds_toArray, List.set_cons_zero, List.set_cons_succ]
                  refine wpAnyG_pure (i := 13) (oi := { dst := some 105, op := Go.Op.pick (Go.Operand.tmp 94) (Go.Operand.tmp 104) (Go.Operand.const (Go.Value.bool false)), type := 4, pos := "law.go:141", after := #[{ on := 2, ground := Go.Ground.data }, { on := 12, ground := Go.Ground.data }], guard := none }) (v := ?_) rfl (by kernel_rfl) (by kernel_rfl) (by kernel_rfl) (by kernel_rfl) (fun _ _ _ h => h) (Or.inl ⟨by rfl, ?_⟩) (by assumption) ?_
                  rotate_left
                  · (intro w; go_simp; try with_reducible rfl)
                  simp only [Act.put, List.setIfInBounds_toArray, List.set_cons_zero, List.set_cons_succ]
                  refine wpAnyG_pure (i := 14) (oi := { dst := some 106, op := Go.Op.move (Go.Operand.tmp 105), type := 4, pos := "law.go:141", after := #[{ on := 13, ground := Go.Ground.data }, { on := 9, ground := Go.Ground.chain }], guard := none }) (v := ?_) rfl (by kernel_rfl) (by kernel_rfl) (by kernel_rfl) (by kernel_rfl) (fun _ _ _ h => h) (Or.inl ⟨by rfl, ?_⟩) (by assumption) ?_
                  rotate_left
                  · (intro w; go_simp; try with_reducible rfl)
                  simp only [Act.put, List.setIfInBounds_toArray, List.set_cons_zero, List.set_cons_succ]
                  refine wpAnyG_take (i := 15) (oi := { dst := some 107, op := Go.Op.load 24 (Go.Operand.tmp 3), type := 24, pos := "law.go:141", after := #[{ on := 14, ground := Go.Ground.guard }], guard := some (14, false) }) (v := ?_) rfl (by kernel_rfl) (by kernel_rfl) (by kernel_rfl) (by kernel_rfl) (fun _ _ _ h => h) (Or.inl ⟨by rfl, ?_⟩) (by assumption) ?_
                  rotate_left
                  · (intro w hSw; (obtain ⟨y0, y1, y2, y3, y4, y5, y6, y7, y8⟩ := hSw); go_simp; try with_reducible rfl)
                  simp only [Act.put, List.setIfInBounds_toArray, List.set_cons_zero, List.set_cons_succ]
                  refine wpAnyG_ready (rs := [16]) (by kernel_rfl) (by simp) ?_
                  refine AllReadyG.cons (o := { dst := some 108, op := Go.Op.call { callee := Go.Callee.value (Go.Operand.func 9), args := #[Go.Operand.tmp 107], argTypes := #[24] }, type := 4, pos := "law.go:141", after := #[{ on := 15, ground := Go.Ground.data }, { on := 14, ground := Go.Ground.chain }, { on := 14, ground := Go.Ground.guard }], guard := some (14, false) }) rfl (fun K hK => ?_) AllReadyG.nil
                  go_simp
                  go_at_call 9
                  refine (HRr.out _ (HKz.out _ k1).2).mono ?_
                  rintro e U2 ⟨rfl, v2⟩
                  have k2 : Kp [] wc U2 := k1.trans v2 (fun z hz => Or.inl hz)
                  go_wp2_with fail
                  refine hK.out _ _ (HN.out _ (HKz.out _ k2).2) (fun hHeld2 => ?_)
                  clear hK K hHeld1
                  try simp only [Act.put, List.setIfInBounds_toArray, List.set_cons_zero, List.set_cons_succ]
                  refine wpAnyG_pure (i := 17) (oi := { dst := some 109, op := Go.Op.unOp Go.UnOp.not 4 (Go.Operand.tmp 108), type := 4, pos := "law.go:141", after := #[{ on := 16, ground := Go.Ground.data }, { on := 14, ground := Go.Ground.guard }], guard := some (14, false) }) (v := ?_) rfl (by kernel_rfl) (by kernel_rfl) (by kernel_rfl) (by kernel_rfl) (fun _ _ _ h => h) (Or.inl ⟨by rfl, ?_⟩) (by assumption) ?_
                  rotate_left
                  · (intro w; go_simp; try with_reducible rfl)
                  simp only [Act.put, List.setIfInBounds_toArray, List.set_cons_zero, List.set_cons_succ]
                  refine wpAnyG_pure (i := 18) (oi := { dst := some 110, op := Go.Op.move (Go.Operand.tmp 109), type := 4, pos := "law.go:141", after := #[{ on := 17, ground := Go.Ground.data }, { on := 16, ground := Go.Ground.chain }, { on := 14, ground := Go.Ground.guard }], guard := some (14, false) }) (v := ?_) rfl (by kernel_rfl) (by kernel_rfl) (by kernel_rfl) (by kernel_rfl) (fun _ _ _ h => h) (Or.inl ⟨by rfl, ?_⟩) (by assumption) ?_
                  rotate_left
                  · (intro w; go_simp; try with_reducible rfl)
                  simp only [Act.put, List.setIfInBounds_toArray, List.set_cons_zero, List.set_cons_succ]
                  refine wpAnyG_pure (i := 19) (oi := { dst := some 111, op := Go.Op.move (Go.Operand.tmp 5), type := 28, pos := "law.go:141", after := #[{ on := 18, ground := Go.Ground.guard }], guard := some (18, true) }) (v := ?_) rfl (by kernel_rfl) (by kernel_rfl) (by kernel_rfl) (by kernel_rfl) (fun _ _ _ h => h) (Or.inl ⟨by rfl, ?_⟩) (by assumption) ?_
                  rotate_left
                  · (intro w; go_simp; try with_reducible rfl)
                  simp only [Act.put, List.setIfInBounds_toArray, List.set_cons_zero, List.set_cons_succ]
                  refine wpAnyG_pure (i := 20) (oi := { dst := some 112, op := Go.Op.binOp Go.BinOp.neq 28 (Go.Operand.tmp 111) (Go.Operand.const (Go.Value.int Go.IntKind.i64 12)) 28, type := 4, pos := "law.go:141", after := #[{ on := 19, ground := Go.Ground.data }, { on := 18, ground := Go.Ground.guard }], guard := some (18, true) }) (v := ?_) rfl (by kernel_rfl) (by kernel_rfl) (by kernel_rfl) (by kernel_rfl) (fun _ _ _ h => h) (Or.inl ⟨by rfl, ?_⟩) (by assumption) ?_
                  rotate_left
                  · (intro w; go_simp; try with_reducible rfl)
                  simp only [Act.put, List.setIfInBounds_toArray, List.set_cons_zero, List.set_cons_succ]
                  refine wpAnyG_pure (i := 21) (oi := { dst := some 113, op := Go.Op.move (Go.Operand.tmp 112), type := 4, pos := "law.go:141", after := #[{ on := 20, ground := Go.Ground.data }, { on := 18, ground := Go.Ground.chain }, { on := 18, ground := Go.Ground.guard }], guard := some (18, true) }) (v := ?_) rfl (by kernel_rfl) (by kernel_rfl) (by kernel_rfl) (by kernel_rfl) (fun _ _ _ h => h) (Or.inl ⟨by rfl, ?_⟩) (by assumption) ?_
                  rotate_left
                  · (intro w; go_simp; try with_reducible rfl)
                  simp only [Act.put, List.setIfInBounds_toArray, List.set_cons_zero, List.set_cons_succ]
                  refine wpAnyG_pure (i := 22) (oi := { dst := some 114, op := Go.Op.move (Go.Operand.tmp 4), type := 27, pos := "law.go:141", after := #[{ on := 21, ground := Go.Ground.guard }], guard := some (21, false) }) (v := ?_) rfl (by kernel_rfl) (by kernel_rfl) (by kernel_rfl) (by kernel_rfl) (fun _ _ _ h => h) (Or.inl ⟨by rfl, ?_⟩) (by assumption) ?_
                  rotate_left
                  · (intro w; go_simp; try with_reducible rfl)
                  simp only [Act.put, List.setIfInBounds_toArray, List.set_cons_zero, List.set_cons_succ]
                  refine wpAnyG_pure (i := 23) (oi := { dst := some 115, op := Go.Op.call { callee := Go.Callee.builtin Go.Builtin.len, args := #[Go.Operand.tmp 114], argTypes := #[27] }, type := 3, pos := "law.go:141", after := #[{ on := 22, ground := Go.Ground.data }, { on := 21, ground := Go.Ground.guard }], guard := some (21, false) }) (v := ?_) rfl (by kernel_rfl) (by kernel_rfl) (by kernel_rfl) (by kernel_rfl) (fun _ _ _ h => h) (Or.inl ⟨by rfl, ?_⟩) (by assumption) ?_
                  rotate_left
                  · (intro w; go_simp; try with_reducible rfl)
                  simp only [Act.put, List.setIfInBounds_toArray, List.set_cons_zero, List.set_cons_succ]
                  refine wpAnyG_pure (i := 24) (oi := { dst := some 116, op := Go.Op.binOp Go.BinOp.gtr 3 (Go.Operand.tmp 115) (Go.Operand.const (Go.Value.int Go.IntKind.i64 0)) 3, type := 4, pos := "law.go:141", after := #[{ on := 23, ground := Go.Ground.data }, { on := 21, ground := Go.Ground.guard }], guard := some (21, false) }) (v := ?_) rfl (by kernel_rfl) (by kernel_rfl) (by kernel_rfl) (by kernel_rfl) (fun _ _ _ h => h) (Or.inl ⟨by rfl, ?_⟩) (by assumption) ?_
                  rotate_left
                  · (intro w; go_simp; try with_reducible rfl)
                  simp only [Act.put, List.setIfInBounds_toArray, List.set_cons_zero, List.set_cons_succ]
                  refine wpAnyG_pure (i := 25) (oi := { dst := some 117, op := Go.Op.pick (Go.Operand.tmp 113) (Go.Operand.const (Go.Value.bool true)) (Go.Operand.tmp 116), type := 4, pos := "law.go:141", after := #[{ on := 21, ground := Go.Ground.data }, { on := 24, ground := Go.Ground.data }, { on := 18, ground := Go.Ground.guard }], guard := some (18, true) }) (v := ?_) rfl (by kernel_rfl) (by kernel_rfl) (by kernel_rfl) (by kernel_rfl) (fun _ _ _ h => h) (Or.inl ⟨by rfl, ?_⟩) (by assumption) ?_
                  rotate_left
                  · (intro w; go_simp; try with_reducible rfl)
                  simp only [Act.put, List.setIfInBounds_toArray, List.set_cons_zero, List.set_cons_succ]
                  refine wpAnyG_pure (i := 26) (oi := { dst := some 118, op := Go.Op.pick (Go.Operand.tmp 110) (Go.Operand.tmp 117) (Go.Operand.const (Go.Value.bool false)), type := 4, pos := "law.go:141", after := #[{ on := 18, ground := Go.Ground.data }, { on := 25, ground := Go.Ground.data }, { on := 14, ground := Go.Ground.guard }], guard := some (14, false) }) (v := ?_) rfl (by kernel_rfl) (by kernel_rfl) (by kernel_rfl) (by kernel_rfl) (fun _ _ _ h => h) (Or.inl ⟨by rfl, ?_⟩) (by assumption) ?_
                  rotate_left
                  · (intro w; go_simp; try with_reducible rfl)
                  simp only [Act.put, List.setIfInBounds_toArray, List.set_cons_zero, List.set_cons_succ]
                  refine wpAnyG_pure (i := 27) (oi := { dst := some 119, op := Go.Op.pick (Go.Operand.tmp 106) (Go.Operand.const (Go.Value.bool true)) (Go.Operand.tmp 118), type := 4, pos := "law.go:141", after := #[{ on := 14, ground := Go.Ground.data }, { on := 26, ground := Go.Ground.data }], guard := none }) (v := ?_) rfl (by kernel_rfl) (by kernel_rfl) (by kernel_rfl) (by kernel_rfl) (fun _ _ _ h => h) (Or.inl ⟨by rfl, ?_⟩) (by assumption) ?_
                  rotate_left
                  · (intro w; go_simp; try with_reducible rfl)
                  simp only [Act.put, List.setIfInBounds_toArray, List.set_cons_zero, List.set_cons_succ]
                  refine wpAnyG_free (by kernel_rfl) ?_
                  refine wpAny_done (by kernel_rfl) ?_ _
                  have kz := (HKz.out _ k2).1
                  clear HN HKz
                  go_wp2_with fail
                  go_roundw
                  case rel => exact ⟨y + 1, by omega, by omega, by go_num, kz⟩
                  case measure => simp [intOf]; omega
        · obtain rfl : y = 14 := by omega
          go_wp2_with fail
          go_roundw
          case rel => exact ⟨z + 1, by omega, by omega, by go_num, kr⟩
          case measure => simp [intOf]; omega
    · obtain rfl : z = 14 := by omega
      have HKN : Hid (∀ V, Kp [] w V → Calls Tryd.prog 14 #[] V fun e w' => e = .returned (.bool true) ∧ Kp [] V w') := fun V kV => known_any V (HTb.out V kV)
      obtain ⟨w1, hmk0, k1, r1⟩ := make_many wr 65536 (by omega)
      have hmk : (Instr.makeSlice 22 (.int .i64 65536) (.int .i64 65536)).run Tryd.prog wr = .ok (.slice (some ⟨wr.heap.size, 0, none⟩) 65536 65536) w1 := hmk0
      clear hmk0
      generalize hbig : List.replicate 65536 ((⟨#[]⟩, ⟨#[]⟩) : Att) = big at r1
      have hl : 65535 < big.length := by rw [← hbig, List.length_replicate]; omega
      clear hbig
      have HE : Hid (∀ _ : True, Calls Tryd.prog 7 #[.slice (some ⟨w1.heap.size, 0, none⟩) 1 1] (w1.alloc (.cells #[.int .i64 10, .int .i64 0, .int .i64 0, .int .i64 0, .int .i64 0, .int .i64 0, .string ⟨#[]⟩, .slice (some ⟨wr.heap.size, 0, none⟩) 65536 65536, .string ⟨#[]⟩] 24)) fun e w' => e = .returned (.tuple #[.slice none 0 0, .int .i64 12]) ∧ Kp [] w1 w') := fun _ => enc_many w1 ⟨10, 0, 0, 0, 0, 0, ⟨#[]⟩, big, ⟨#[]⟩⟩ (some ⟨wr.heap.size, 0, none⟩, 65536, 65536) r1 hl (by simp)
      have kw1 : Kp [] w w1 := kw.trans k1 (fun z hz => Or.inl hz)
      clear r1 hl k1 kw HTb
      go_upto_region 43 with (go_at_call 7; refine (HE.out trivial).mono ?_; rintro e w2 ⟨rfl, k2⟩)
      have kw2 : Kp [] w w2 := kw1.trans k2 (fun z hz => Or.inl hz)
      clear HE hmk kw1 k2
      go_wp2_with (go_at_call 14; refine (HKN.out _ kw2).mono ?_; rintro e w3 ⟨rfl, k3⟩)
      have kf := kw2.trans k3 (fun z hz => Or.inl hz)
      go_ret
      exact ⟨rfl, kf⟩

end Go.Proofs.YtpjkpobdkmcedaaDoor
