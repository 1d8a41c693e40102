/-
  blanks and Grow of the program's Show.
-/
import Derived.Test.YtgnbafgglkncmaaTellB
namespace Go.Proofs.Ytgnbafgglkncmaa
open Go.RowKit
set_option linter.unusedVariables false

/-- The loop of blanks. -/
def RBlank (W : World) (s : Ws) (l : Lb) (k : Fo) (p : Pl) (N : Nat) (a : Value × Value × Value × World) (n : Nat) : Prop :=
  ∃ (m : Nat) (S : List Vt) (v : Value) (ao : Option Addr) (d : Int) (y : Bool), a.1 = .int .i64 m ∧ a.2.1 = .int .i64 d ∧ a.2.2.1 = .bool y ∧ padV m S = N ∧ S.length = n ∧ Wl W a.2.2.2 (s.at v) S.tail l k p ∧ Come W a.2.2.2 (s.at v) S ao d y

theorem padV_ge (S : List Vt) : ∀ m, m ≤ padV m S := by
  induction S with
  | nil => exact fun m => Nat.le_refl _
  | cons v S ih => exact fun m => Nat.le_trans (Nat.le_add_right _ _) (ih _)

/-- How many blanks. -/
def padT (l : Lb) (k : Fo) : Nat := padV 0 ((Fo.cons l k .nil).vis 0)

set_option maxHeartbeats 1000000 in
theorem blanks_any (w : World) (l : Lb) (k : Fo) (p : Pl) (h : Nd Any w l k p) (hn : k.cnt ≤ 20000) (hp : padT l k ≤ 1000000) :
    Calls Try.prog 40 #[wv l p] w fun e w' => e = .returned (.tuple #[.int .i64 (padT l k : Nat), .bool true]) ∧ Kp [] w w' := by
  obtain ⟨W, hW⟩ : ∃ W, W = w.alloc (.cells (six l p).toArray 25) := ⟨_, rfl⟩
  have k1 : Kp [] w W := by rw [hW]; exact (Kp.refl _ _).alloc _
  have HB := begin_c W W l k p (Kp.refl _ _) (h.kept k1) hn
  have hpad : Hid (padV 0 ((Fo.cons l k .nil).vis 0) = padT l k) := rfl
  generalize padT l k = N at hp hpad ⊢
  clear h hn
  have HB' : Hid (∀ V, V = W → Calls Try.prog 32 #[wv l p] V fun e w' => ∃ s, e = .returned (.pointer (some ⟨s.P, 0, none⟩)) ∧ Wl W w' s ((Fo.cons l k .nil).vis 0) l k p ∧ Kp [] W w' ∧ ∀ x, x ∈ s.own → W.heap.size ≤ x) := fun V hV => by rw [hV]; exact HB
  have HW : Hid (w.alloc (.cells #[.int .i64 l.kind, .int .i64 l.ns, .string l.name, .slice p.1.1 p.1.2.1 p.1.2.2, .string l.text, .slice p.2.1 p.2.2.1 p.2.2.2] 25) = W) := hW.symm
  have KB : Hid (Kp [] w W) := k1
  clear HB k1 hW
  simp only [wv] at HB' ⊢
  go_enter Try.func40, Try.ntmps40
  go_wp2_with (first
    | (go_at_call 32; refine (HB'.out _ HW.out).mono ?_; rintro e w1 ⟨s, rfl, L1, _, _⟩)
    | (go_at_call 33; refine (next_c _ _ _ _ _ _ _ L1).mono ?_; rintro e w2 ⟨ao, d, y, v1, rfl, L2, N2, C2⟩))
  obtain ⟨μ, hμ⟩ := least_of (RBlank W s l k p N)
  go_loopw [4, 7, 8] (fun x3 x6 x7 wr => ∃ n, RBlank W s l k p N (x3, x6, x7, wr) n) (fun x3 x6 x7 wr => μ (x3, x6, x7, wr))
  case atStart => exact ⟨_, 0, _, v1, ao, d, y, rfl, rfl, rfl, hpad.out, rfl, L2, C2⟩
  case round =>
    clear L2 N2 C2 L1 HB' hpad
    obtain ⟨n0, hrel⟩ := hrel
    obtain ⟨m, S, v, ao, d, y, h3, h6, h7, hN, hS, L, C⟩ := (hμ _ _ hrel).1
    simp only at h3 h6 h7
    subst h3 h6 h7
    have KF : Hid (Kp [] w wr) := KB.out.trans L.kp (fun x hx => Or.inl hx)
    have HM : Hid (∀ a n, RBlank W s l k p N a n → μ a ≤ n) := fun a n hn => (hμ a n hn).2
    have HS : Hid (S.length = μ (.int .i64 m, .int .i64 d, .bool y, wr)) := hS
    clear hrel hμ hS
    cases S with
    | nil =>
      obtain ⟨rfl, rfl, rfl⟩ := C
      obtain rfl : m = N := hN
      clear L HM HS
      go_wp2
      go_ret2
      exact ⟨rfl, KF.out⟩
    | cons u S =>
      obtain ⟨b, off, rfl, rfl, rfl, _⟩ := C
      have HN := next_c _ _ _ _ _ _ _ L
      simp only [List.tail_cons] at HN
      obtain ⟨⟨e, hu⟩, _⟩ : (∃ e, u.1 = e) ∧ True := ⟨⟨_, rfl⟩, trivial⟩
      have hN2 : padV (m + 2 * (e - 1)) S = N := by rw [← hu]; exact hN
      rw [hu] at HS ⊢
      clear L hN hu
      cases e with
      | zero =>
        have HX : Hid (padV m S = N) := hN2
        clear hN2
        rw [show ((0 : Nat) : Int) = 0 from rfl] at HS ⊢
        go_wp2_with (go_at_call 33; refine HN.mono ?_; rintro e w3 ⟨ao3, d3, y3, v3, rfl, L3, N3, C3⟩)
        have RR : RBlank W s l k p N (.int .i64 m, .int .i64 d3, .bool y3, w3) S.length := ⟨m, S, v3, ao3, d3, y3, rfl, rfl, rfl, HX.out, rfl, L3, C3⟩
        go_roundw
        case rel => exact ⟨_, RR⟩
        case measure =>
          refine Nat.lt_of_le_of_lt (HM.out _ _ RR) ?_
          rw [← HS.out]; simp
      | succ e =>
        have HX : Hid (padV (m + 2 * e) S = N) := hN2
        have hge := padV_ge S (m + 2 * e)
        have hb : m + 2 * e ≤ 1000000 := by have := HX.out; omega
        clear hN2 hge
        rw [show ((e + 1 : Nat) : Int) = (e : Int) + 1 from rfl] at HS ⊢
        have q1 : (((e : Int) + 1) == 0) = false := by simp; omega
        have j1 : (e : Int) ≤ 500000 := by omega
        have j2 : (m : Int) ≤ 1000000 := by omega
        have j3 : (m : Int) + 2 * (e : Int) ≤ 1000000 := by omega
        go_wp2_with (go_at_call 33; refine HN.mono ?_; rintro e w3 ⟨ao3, d3, y3, v3, rfl, L3, N3, C3⟩)
        have RR : RBlank W s l k p N (.int .i64 ((m : Int) + 2 * (e : Int)), .int .i64 d3, .bool y3, w3) S.length := ⟨m + 2 * e, S, v3, ao3, d3, y3, (by show Value.int .i64 _ = Value.int .i64 _; rw [show ((m + 2 * e : Nat) : Int) = (m : Int) + 2 * (e : Int) by omega]), rfl, rfl, HX.out, rfl, L3, C3⟩
        refine ⟨⟨_, RR⟩, Nat.lt_of_le_of_lt (HM.out _ _ RR) ?_⟩
        rw [← HS.out]; simp

theorem Bt.trans0 {w w1 w2 : World} {b : Nat} {v : Value} {s2 : ByteArray} (k : Kp (b :: blk v) w w1) (h : Bt w1 w2 b v s2) : Bt w w2 b v s2 := by
  obtain ⟨v2, h1, h2, h3⟩ := h
  refine ⟨v2, h1, k.trans h2 (fun x hx => Or.inl hx), fun x hx => ?_⟩
  rcases h3 x hx with h4 | h4
  · exact Or.inl h4
  · have := k.size; exact Or.inr (by omega)

set_option maxHeartbeats 1000000 in
set_option maxRecDepth 100000 in
/-- grow, of a builder that is new. -/
theorem grow_new (w : World) (b n : Nat) (hbk : w.heap[b]? = some (.cells #[.pointer (some ⟨b, 0, none⟩), .slice none 0 0] 69 (0, 0))) (hn : n ≤ 1000000) :
    Calls Try.prog 61 #[.pointer (some ⟨b, 0, none⟩), .int .i64 n] w fun e w' => e = .returned (.tuple #[]) ∧ Bt w w' b (.slice none 0 0) ⟨#[]⟩ := by
  obtain ⟨cs, hrun, hle, hmax⟩ := Lib.run_makeNoZero (P := Try.prog) w.drew #[3] 67 5 Try.underlying67 n (by omega)
  have hw : IntKind.i64.wrap (IntKind.i64.wrap 0 + (n : Int)) = n := by
    rw [IntKind.wrap_i64, IntKind.wrap_i64]
    omega
  have hcall : (callFunc 74 #[.int .i64 (n : Int)]).run Try.prog w.drew = .ok (.value (.slice (some ⟨w.heap.size, 0, none⟩) n cs.size)) (w.drew.drew.drew.alloc (.cells cs 5)) := by
    rw [run_callFunc_extern Try.func74 (by kernel_rfl) (by kernel_rfl) (by kernel_rfl) (e := Extern.BytealgMakeNoZero.makeNoZero #[3] #[67]) (by kernel_rfl), hrun]
    rfl
  have hlt : b < w.heap.size := (Array.getElem?_eq_some_iff.1 hbk).1
  have c1 : w.cell? ⟨b, 1, none⟩ = some (.slice none 0 0) := cell_of hbk 1
  have hb2 : (w.alloc (.cells cs 5)).heap[b]? = some (.cells #[.pointer (some ⟨b, 0, none⟩), .slice none 0 0] 69 (0, 0)) := (Below.heap_alloc _ _ _ hlt).trans hbk
  have c2 : (w.alloc (.cells cs 5)).cell? ⟨b, 1, none⟩ = some (.slice none 0 0) := cell_of hb2 1
  have f2 : (w.alloc (.cells cs 5)).frozen? ⟨b, 1, none⟩ = false := frozen_of hb2 1
  have hcopy : ∀ W : World, (Builtin.copy_ #[67, 67] 3 #[.slice (some ⟨w.heap.size, 0, none⟩) 0 cs.size, .slice none 0 0]).run Try.prog W = .ok (goInt 0) W :=
    fun W => run_copy_none W 67 67 3 5 _ _ 0 cs.size 0 0 Try.underlying67 (by kernel_rfl) rfl
  have HF : Hid (Bt w ((w.setCell ⟨b, 1, none⟩ (.slice (some ⟨w.heap.size, 0, none⟩) 0 cs.size)).alloc (.cells cs 5)).drew.drew.drew b (.slice none 0 0) ⟨#[]⟩) := by
    have hsz : (w.setCell ⟨b, 1, none⟩ (.slice (some ⟨w.heap.size, 0, none⟩) 0 cs.size)).heap.size = w.heap.size := by simp [World.setCell]
    have hg3 : ((w.setCell ⟨b, 1, none⟩ (.slice (some ⟨w.heap.size, 0, none⟩) 0 cs.size)).alloc (.cells cs 5)).heap[w.heap.size]? = some (.cells cs 5 (0, 0)) := heap_new' _ _ _ hsz.symm
    have hb3 : ((w.setCell ⟨b, 1, none⟩ (.slice (some ⟨w.heap.size, 0, none⟩) 0 cs.size)).alloc (.cells cs 5)).heap[b]? = some (.cells #[.pointer (some ⟨b, 0, none⟩), .slice (some ⟨w.heap.size, 0, none⟩) 0 cs.size] 69 (0, 0)) := by
      rw [Below.heap_alloc _ _ _ (by rw [hsz]; exact hlt), setCell_block hbk]; rfl
    exact ⟨_, ⟨⟨_, Or.inr rfl, hb3⟩, Or.inr ⟨w.heap.size, cs.size, cs, rfl, hg3, Nat.zero_le _, hmax (by unfold maxLen; omega), rfl, fun j hj => by simp [byteCells] at hj⟩, by simp [blk]; omega⟩, (((Kp.refl _ _).setCell (Or.inl (by simp)) _).alloc _).drew.drew.drew, fun x hx => Or.inr (by simp [blk] at hx; omega)⟩
  clear hb2 hbk hmax hrun
  have j1 : (n : Int) ≤ 1000000 := by omega
  go_enter Try.func61, Try.ntmps61
  go_wp2_with fail
  go_region
  all_goals (go_wp2; go_end0; exact ⟨rfl, HF.out⟩)

set_option maxHeartbeats 1000000 in
set_option maxRecDepth 100000 in
/-- Grow, of a builder that is new. -/
theorem bu_grow (w : World) (b n : Nat) (h : Bu w b (.slice none 0 0) ⟨#[]⟩) (hn : n ≤ 1000000) :
    Calls Try.prog 41 #[.pointer (some ⟨b, 0, none⟩), .int .i64 n] w fun e w' => e = .returned (.tuple #[]) ∧ Bt w w' b (.slice none 0 0) ⟨#[]⟩ := by
  have HC := bu_check w b _ _ h
  have j1 : (n : Int) ≤ 1000000 := by omega
  have j2 : (0 : Int) ≤ (n : Int) := by omega
  clear h
  go_enter Try.func41, Try.ntmps41
  go_wp2_with fail
  refine HC.mono ?_
  rintro e w1 ⟨rfl, h1, k1⟩
  clear HC
  have c1 : w1.cell? ⟨b, 1, none⟩ = some (.slice none 0 0) := cell_of h1 1
  have HG : Hid (∀ W, Kp [] w1 W → Calls Try.prog 61 #[.pointer (some ⟨b, 0, none⟩), .int .i64 n] W fun e w' => e = .returned (.tuple #[]) ∧ Bt w w' b (.slice none 0 0) ⟨#[]⟩) := fun W kW => by
    refine (grow_new W b n ((kW.block b (Array.getElem?_eq_some_iff.1 h1).1 (by simp)).trans h1) hn).mono ?_
    rintro e w' ⟨rfl, B⟩
    refine ⟨rfl, Bt.trans0 ?_ B⟩
    exact (k1.mono (fun x hx => Or.inl (by simp at hx; simp [hx]))).trans kW (fun x hx => by simp at hx)
  have HZ : Hid (∀ W, Kp [] w1 W → Bt w W b (.slice none 0 0) ⟨#[]⟩) := fun W kW =>
    ⟨_, ⟨⟨_, Or.inr rfl, (kW.block b (Array.getElem?_eq_some_iff.1 h1).1 (by simp)).trans h1⟩, Or.inl ⟨rfl, rfl⟩, by simp [blk]⟩, (k1.mono (fun x hx => Or.inl (by simp at hx; simp [hx]))).trans kW (fun x hx => by simp at hx), fun x hx => Or.inl hx⟩
  clear h1 k1
  by_cases h0 : n = 0
  · subst h0
    rw [show ((0 : Nat) : Int) = 0 from rfl]
    clear HG
    go_wp2_with fail
    go_quiet (fail)
    go_wp2
    go_end0
    exact ⟨rfl, HZ.out _ ((Kp.refl _ _).drewN nq)⟩
  · have j3 : (0 : Int) < (n : Int) := by omega
    have j4 : decide ((0 : Int) < (n : Int)) = true := decide_eq_true j3
    clear HZ
    go_wp2_with fail
    go_quiet (fail)
    go_wp2_with (go_at_call 61; refine (HG.out _ ((Kp.refl _ _).drewN nq)).mono ?_; rintro e w2 ⟨rfl, B2⟩)
    go_end0
    exact ⟨rfl, B2⟩

end Go.Proofs.Ytgnbafgglkncmaa
