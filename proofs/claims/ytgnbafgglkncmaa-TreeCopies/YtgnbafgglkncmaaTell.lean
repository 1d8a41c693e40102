/-
  A walk told by what is still to come; Count and Depth of the program.
-/
import Derived.Test.YtgnbafgglkncmaaNext
namespace Go.Proofs.Ytgnbafgglkncmaa
open Go.RowKit
set_option linter.unusedVariables false

/-- The walk is to come to S. -/
def Wl (w0 w : World) (s : Ws) (S : List Vt) (l : Lb) (k : Fo) (p : Pl) : Prop := ∃ fs, Wk w0 w s fs l k p ∧ toC fs = S

/-- What next told: a node, or the end. -/
def Come (w0 w : World) (s : Ws) : List Vt → Option Addr → Int → Bool → Prop
  | [], ao, d, y => ao = none ∧ d = 0 ∧ y = false
  | v :: _, ao, d, y => ∃ b off, ao = some ⟨b, off, none⟩ ∧ d = v.1 ∧ y = true ∧ Told6 w0 w s b off v.2.1 v.2.2

theorem Wl.kp {w0 w : World} {s : Ws} {S : List Vt} {l : Lb} {k : Fo} {p : Pl} (h : Wl w0 w s S l k p) : Kp [] w0 w := by
  obtain ⟨fs, h, _⟩ := h
  exact h.b.kp
theorem Wl.new {w0 w : World} {s : Ws} {S : List Vt} {l : Lb} {k : Fo} {p : Pl} (h : Wl w0 w s S l k p) : ∀ x, x ∈ s.own → w0.heap.size ≤ x := by
  obtain ⟨fs, h, _⟩ := h
  exact h.b.new
theorem Wl.lt {w0 w : World} {s : Ws} {S : List Vt} {l : Lb} {k : Fo} {p : Pl} (h : Wl w0 w s S l k p) : ∀ x, x ∈ s.own → x < w.heap.size := by
  obtain ⟨fs, h, _⟩ := h
  exact h.b.lt
theorem Wl.other {w0 w w' : World} {s : Ws} {S : List Vt} {l : Lb} {k : Fo} {p : Pl} (h : Wl w0 w s S l k p) {D : List Nat} (hk : Kp D w w') (h1 : ∀ x, x ∈ D → w0.heap.size ≤ x) (h2 : ∀ x, x ∈ s.own → x ∉ D) : Wl w0 w' s S l k p := by
  obtain ⟨fs, h, h3⟩ := h
  exact ⟨fs, h.other hk h1 h2, h3⟩
theorem Wl.kept {w0 w w' : World} {s : Ws} {S : List Vt} {l : Lb} {k : Fo} {p : Pl} (h : Wl w0 w s S l k p) (hk : Kp [] w w') : Wl w0 w' s S l k p := h.other hk (fun x hx => by simp at hx) (fun x hx => by simp)

/-- The walk's blocks that a step may turn. -/
theorem Nx.kp {w w' : World} {s : Ws} {v' : Value} (h : Nx w w' s v') : Kp s.own w w' := h.1.mono (fun x hx => Or.inl (by
  simp only [List.mem_cons] at hx
  rcases hx with rfl | rfl | hx
  · simp [Ws.own]
  · simp [Ws.own]
  · simp [Ws.own, hx]))
theorem Nx.own {w w' : World} {s : Ws} {v' : Value} (h : Nx w w' s v') : ∀ x, x ∈ (s.at v').own → x ∈ s.own ∨ w.heap.size ≤ x := fun x hx => by
  simp only [Ws.own, Ws.at, List.mem_cons] at hx ⊢
  rcases hx with h1 | h1 | h1 | h1 | h1 | h1
  · exact Or.inl (by simp [h1])
  · exact Or.inl (by simp [h1])
  · exact Or.inl (by simp [h1])
  · exact Or.inl (by simp [h1])
  · exact Or.inl (by simp [h1])
  · rcases h.2 x h1 with h2 | h2
    · exact Or.inl (by simp [h2])
    · exact Or.inr h2

theorem next_c (w0 w : World) (s : Ws) (S : List Vt) (l : Lb) (k : Fo) (p : Pl) (h : Wl w0 w s S l k p) :
    Calls Try.prog 33 #[.pointer (some ⟨s.P, 0, none⟩)] w fun e w' => ∃ ao d y v', e = .returned (.tuple #[.pointer ao, .int .i64 d, .bool y]) ∧ Wl w0 w' (s.at v') S.tail l k p ∧ Nx w w' s v' ∧ Come w0 w' (s.at v') S ao d y := by
  obtain ⟨fs, h, rfl⟩ := h
  refine (next_any w0 w s fs l k p h).mono ?_
  rintro e w' (⟨h1, rfl, v', h2, h3⟩ | ⟨d, l', k', S, b, off, h1, rfl, h2, v', fs', h3, h4, h5⟩)
  · rw [h1]
    exact ⟨_, _, _, v', rfl, ⟨[], h2, rfl⟩, h3, rfl, rfl, rfl⟩
  · rw [h1]
    exact ⟨_, _, _, v', rfl, ⟨fs', h3, h5⟩, h4, b, off, rfl, rfl, rfl, h2⟩

theorem begin_c (w0 w : World) (l : Lb) (k : Fo) (p : Pl) (k0 : Kp [] w0 w) (h : Nd Any w0 l k p) (hn : k.cnt ≤ 20000) :
    Calls Try.prog 32 #[wv l p] w fun e w' => ∃ s, e = .returned (.pointer (some ⟨s.P, 0, none⟩)) ∧ Wl w0 w' s ((Fo.cons l k .nil).vis 0) l k p ∧ Kp [] w w' ∧ ∀ x, x ∈ s.own → w.heap.size ≤ x := by
  refine (begin_any w0 w l k p k0 h hn).mono ?_
  rintro e w' ⟨s, fs, rfl, h1, h2, h3, h4⟩
  exact ⟨s, rfl, ⟨fs, h1, h2⟩, h3, h4⟩

/-- Is there one? -/
def yes (S : List Vt) : Bool := !S.isEmpty
theorem Come.yes {w0 w : World} {s : Ws} {S : List Vt} {ao : Option Addr} {d : Int} {y : Bool} (h : Come w0 w s S ao d y) : y = Go.Proofs.Ytgnbafgglkncmaa.yes S := by
  cases S with
  | nil => exact h.2.2
  | cons v S => obtain ⟨_, _, _, _, h, _⟩ := h; exact h

set_option maxHeartbeats 1000000 in
theorem count_any (w : World) (l : Lb) (k : Fo) (p : Pl) (h : Nd Any w l k p) (hn : k.cnt ≤ 20000) :
    Calls Try.prog 15 #[wv l p] w fun e w' => e = .returned (.int .i64 (countT l k : Nat)) ∧ Kp [] w w' := by
  have k1 : Kp [] w (w.alloc (.cells (six l p).toArray 25)) := (Kp.refl _ _).alloc _
  have HB := begin_c _ _ l k p (Kp.refl _ _) (h.kept k1) hn
  have KB : Hid (Kp [] w (w.alloc (.cells (six l p).toArray 25))) := k1
  have hlen : Hid (((Fo.cons l k .nil).vis 0).length = countT l k) := by rw [vis_len]; rfl
  have hct : countT l k ≤ 20001 := by unfold countT; omega
  generalize countT l k = N at hct hlen ⊢
  clear h k1 hn
  simp only [six, wv] at HB KB ⊢
  go_enter Try.func15, Try.ntmps15
  go_wp2_with (first
    | (go_at_call 32; refine HB.mono ?_; rintro e w1 ⟨s, rfl, L1, _, _⟩)
    | (go_at_call 33; refine (next_c _ _ _ _ _ _ _ L1).mono ?_; rintro e w2 ⟨ao, d, y, v1, rfl, L2, N2, C2⟩))
  have hy := C2.yes
  go_loopw [3, 7] (fun x3 x7 wr => ∃ (n : Nat) (S : List Vt) (v : Value), x3 = .int .i64 n ∧ x7 = .bool (yes S) ∧ n + S.length = N ∧ Wl (w.alloc (.cells (six l p).toArray 25)) wr (s.at v) S.tail l k p) (fun x3 x7 wr => 20002 - (intOf x3).toNat)
  case atStart => exact ⟨0, _, v1, rfl, by rw [hy], by rw [Nat.zero_add]; exact hlen.out, L2⟩
  case round =>
    clear L2 N2 C2 hy L1 HB hlen
    obtain ⟨n, S, v, rfl, rfl, hN, L⟩ := hrel
    have HN := next_c _ _ _ _ _ _ _ L
    have KF : Hid (Kp [] w wr) := KB.out.trans L.kp (fun x hx => Or.inl hx)
    clear L
    cases S with
    | nil =>
      simp only [yes, List.isEmpty_nil, Bool.not_true, List.length_nil, Nat.add_zero] at hN ⊢
      subst hN
      go_wp2
      go_ret
      exact ⟨rfl, KF.out⟩
    | cons u S =>
      simp only [yes, List.isEmpty_cons, Bool.not_false, List.length_cons, List.tail_cons] at hN HN ⊢
      have hn : n < 20002 := by omega
      go_wp2_with (go_at_call 33; refine HN.mono ?_; rintro e w3 ⟨ao3, d3, y3, v3, rfl, L3, N3, C3⟩)
      have hy3 := C3.yes
      go_roundw
      case rel => exact ⟨n + 1, S, v3, by go_num, by rw [hy3]; rfl, by omega, L3⟩
      case measure => simp [intOf]; omega

end Go.Proofs.Ytgnbafgglkncmaa
