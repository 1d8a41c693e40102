/-
  Joined: Rpa Rpb Ple Cnt.
-/
import Derived.Test.YtpkppobkagdhkaaGreatJ32
import Derived.Test.YtpkppobkagdhkaaGreatJ36
import Derived.Test.YtpkppobkagdhkaaGreatJ28
import Derived.Test.YtpkppobkagdhkaaGreatJ9

/-
  The document's player in memory: its own block, its two lists (mark 7), the arena; node, New, asked.
-/
namespace Go.Proofs.YtpkppobkagdhkaaGreat
open Go.RowKit Go.Maps Utf
set_option linter.unusedVariables false
set_option linter.unusedSimpArgs false

/-- The handles, and the numbers, as values. -/
def hha (M : List (Int × Nat)) : List Value := M.map fun p => .int .i64 p.1
def hnu (M : List (Int × Nat)) : List Value := M.map fun p => .int .i64 (p.2 : Int)
theorem hha_len (M : List (Int × Nat)) : (hha M).length = M.length := by simp [hha]
theorem hnu_len (M : List (Int × Nat)) : (hnu M).length = M.length := by simp [hnu]
theorem hha_snoc (M : List (Int × Nat)) (x : Int) (n : Nat) : hha (M ++ [(x, n)]) = hha M ++ [.int .i64 x] := by simp [hha]
theorem hnu_snoc (M : List (Int × Nat)) (x : Int) (n : Nat) : hnu (M ++ [(x, n)]) = hnu M ++ [.int .i64 (n : Int)] := by simp [hnu]

/-- The number of a handle; -1, where it has none. -/
def ni (M : List (Int × Nat)) (h : Int) : Int := match num M h with | some n => (n : Int) | none => -1

theorem num_at : ∀ {M : List (Int × Nat)} {h : Int} {i : Nat} (hi : i < M.length), (∀ j (hj : j < M.length), j < i → M[j].1 ≠ h) → M[i].1 = h → num M h = some M[i].2
  | p :: l, h, 0, _, _, e => by simp only [num]; exact if_pos e
  | p :: l, h, i + 1, hi, hn, e => by
    simp only [num]
    rw [if_neg (show ¬ p.1 = h from hn 0 (by simp) (by omega))]
    exact num_at (by simpa using hi) (fun j hj hji => hn (j + 1) (by simpa using hj) (by omega)) e
theorem num_not : ∀ {M : List (Int × Nat)} {h : Int}, (∀ j (hj : j < M.length), M[j].1 ≠ h) → num M h = none
  | [], _, _ => rfl
  | p :: l, h, hn => by
    simp only [num]
    rw [if_neg (show ¬ p.1 = h from hn 0 (by simp))]
    exact num_not (fun j hj => hn (j + 1) (by simpa using hj))

/-- The player in block b, its arena in block d, its lists l1 and l2. -/
structure Pd (tag : Nat → Nat) (w : World) (b d : Nat) (l1 l2 : Sl) (s : Py) (k : Nat) : Prop where
  hd : At w b #[.pointer (some ⟨d, 0, none⟩), .slice l1.1 l1.2.1 l1.2.2, .slice l2.1 l2.2.1 l2.2.2] 104
  tb : tag b = 7
  dn : Dn tag w d s.q s.A
  o1 : Own w 3 (.slice l1.1 l1.2.1 l1.2.2) (hha s.M)
  t1 : ∀ x, x ∈ blk (.slice l1.1 l1.2.1 l1.2.2) → tag x = 7
  o2 : Own w 3 (.slice l2.1 l2.2.1 l2.2.2) (hnu s.M)
  t2 : ∀ x, x ∈ blk (.slice l2.1 l2.2.1 l2.2.2) → tag x = 7
  dj : ∀ x, x ∈ blk (.slice l1.1 l1.2.1 l1.2.2) → x ∉ blk (.slice l2.1 l2.2.1 l2.2.2)
  b1 : b ∉ blk (.slice l1.1 l1.2.1 l1.2.2)
  b2 : b ∉ blk (.slice l2.1 l2.2.1 l2.2.2)
  fit : s.Fit k

/-- Blocks of a player alone have turned; new ones have come. -/
structure Qv (tag : Nat → Nat) (w : World) (tag' : Nat → Nat) (w' : World) : Prop where
  os : w'.os = w.os
  tape : w'.tape = w.tape
  output : w'.output = w.output
  size : w.heap.size ≤ w'.heap.size
  block : ∀ k, k < w.heap.size → tag k ≠ 3 → tag k ≠ 4 → tag k ≠ 7 → w'.heap[k]? = w.heap[k]?
  tg : ∀ k, k < w.heap.size → tag' k = tag k

section
variable {tag tag' tag'' : Nat → Nat} {w w' w'' : World} {b d k : Nat} {l1 l2 : Sl} {s : Py} {o : Ot} {p : Sl}

theorem Qv.refl (tag : Nat → Nat) (w : World) : Qv tag w tag w := ⟨rfl, rfl, rfl, Nat.le_refl _, fun _ _ _ _ _ => rfl, fun _ _ => rfl⟩
theorem Qv.trans (h : Qv tag w tag' w') (g : Qv tag' w' tag'' w'') : Qv tag w tag'' w'' :=
  ⟨g.os.trans h.os, g.tape.trans h.tape, g.output.trans h.output, Nat.le_trans h.size g.size, fun x hx h3 h4 h7 => (g.block x (Nat.lt_of_lt_of_le hx h.size) (by rw [h.tg x hx]; exact h3) (by rw [h.tg x hx]; exact h4) (by rw [h.tg x hx]; exact h7)).trans (h.block x hx h3 h4 h7), fun x hx => (g.tg x (Nat.lt_of_lt_of_le hx h.size)).trans (h.tg x hx)⟩
theorem Dv.qv (h : Dv tag w tag' w') : Qv tag w tag' w' := ⟨h.os, h.tape, h.output, h.size, fun x hx h3 h4 _ => h.block x hx h3 h4, h.tg⟩
theorem Qv.of_kp {S : List Nat} (k : Kp S w w') (hS : ∀ x, x ∈ S → x < w.heap.size → tag x = 3 ∨ tag x = 4 ∨ tag x = 7) (ht : ∀ x, x < w.heap.size → tag' x = tag x) : Qv tag w tag' w' := ⟨k.os, k.tape, k.output, k.size, fun x hx h3 h4 h7 => k.block x hx (fun hs => by rcases hS x hs hx with e | e | e <;> omega), ht⟩
theorem Qv.of_kp0 (k : Kp [] w w') : Qv tag w tag w' := Qv.of_kp k (fun x hx => by simp at hx) (fun _ _ => rfl)
theorem Qv.kp (h : Qv tag w tag' w') (h0 : ∀ x, x < w.heap.size → tag x = 0) : Kp [] w w' := ⟨h.os, h.tape, h.output, h.size, fun x hx _ => h.block x hx (by rw [h0 x hx]; omega) (by rw [h0 x hx]; omega) (by rw [h0 x hx]; omega)⟩

theorem Dn.sm (h : Dn tag w d s.q s.A) (hb : ∀ x, x < w.heap.size → tag x = 3 ∨ tag x = 4 ∨ tag x = 5 → w'.heap[x]? = w.heap[x]?) (ht : ∀ x, x < w.heap.size → tag' x = tag x) : Dn tag' w' d s.q s.A := by
  obtain ⟨g, o, c, pl, h⟩ := h
  exact ⟨g, o, c, pl, h.sm hb ht⟩

theorem Pd.re (h : Pd tag w b d l1 l2 s k) (kp : Kp [] w w') (hg : ∀ x, x < w.heap.size → tag' x = tag x) : Pd tag' w' b d l1 l2 s k :=
  ⟨h.hd.kept kp (by simp), by rw [hg b h.hd.lt]; exact h.tb, h.dn.sm (fun x hx _ => kp.block x hx (by simp)) hg, h.o1.keep kp (fun _ _ => by simp), fun x hx => by rw [hg x (h.o1.lt x hx)]; exact h.t1 x hx, h.o2.keep kp (fun _ _ => by simp), fun x hx => by rw [hg x (h.o2.lt x hx)]; exact h.t2 x hx, h.dj, h.b1, h.b2, h.fit⟩
theorem Pd.kept (h : Pd tag w b d l1 l2 s k) (kp : Kp [] w w') : Pd tag w' b d l1 l2 s k := h.re kp (fun _ _ => rfl)
theorem Pd.up (h : Pd tag w b d l1 l2 s k) (hk : k < 1300) : Pd tag w b d l1 l2 s (k + 1) := ⟨h.hd, h.tb, h.dn, h.o1, h.t1, h.o2, h.t2, h.dj, h.b1, h.b2, h.fit.succ hk⟩

/-- The arena has turned. -/
theorem Pd.dv (h : Pd tag w b d l1 l2 s k) (m : Dv tag w tag' w') {q : Bool} {A : Ar} {j : Nat} (p : Dn tag' w' d q A) (f : (Py.mk A q s.M).Fit j) : Pd tag' w' b d l1 l2 ⟨A, q, s.M⟩ j := by
  classical
  have kp : Kp ((List.range w.heap.size).filter fun x => decide (tag x = 3 ∨ tag x = 4)) w w' := ⟨m.os, m.tape, m.output, m.size, fun x hx hn => by
    simp only [List.mem_filter, List.mem_range, decide_eq_true_eq, not_and, not_or] at hn
    exact m.block x hx (hn hx).1 (hn hx).2⟩
  have n7 : ∀ x, tag x = 7 → x ∉ (List.range w.heap.size).filter fun x => decide (tag x = 3 ∨ tag x = 4) := fun x e hm => by
    simp only [List.mem_filter, decide_eq_true_eq] at hm
    omega
  exact ⟨h.hd.kept kp (n7 b h.tb), by rw [m.tg b h.hd.lt]; exact h.tb, p, h.o1.keep kp (fun x hx => n7 x (h.t1 x hx)), fun x hx => by rw [m.tg x (h.o1.lt x hx)]; exact h.t1 x hx, h.o2.keep kp (fun x hx => n7 x (h.t2 x hx)), fun x hx => by rw [m.tg x (h.o2.lt x hx)]; exact h.t2 x hx, h.dj, h.b1, h.b2, f⟩

theorem Pd.head (h : Pd tag w b d l1 l2 s k) : w.cell? ⟨b, 0, none⟩ = some (.pointer (some ⟨d, 0, none⟩)) ∧ w.cell? ⟨b, 1, none⟩ = some (.slice l1.1 l1.2.1 l1.2.2) ∧ w.cell? ⟨b, 2, none⟩ = some (.slice l2.1 l2.2.1 l2.2.2) := ⟨h.hd.cell 0, h.hd.cell 1, h.hd.cell 2⟩

theorem Pd.lens (h : Pd tag w b d l1 l2 s k) : l1.2.1 = s.M.length ∧ l2.2.1 = s.M.length := by
  have h1 := (Rb.of_own h.o1).len
  have h2 := (Rb.of_own h.o2).len
  rw [hha_len] at h1
  rw [hnu_len] at h2
  exact ⟨h1, h2⟩

set_option maxHeartbeats 1000000 in
theorem node_any (h : Pd tag w b d l1 l2 s k) (x : Int) :
    Calls Tryz.prog 49 #[.pointer (some ⟨b, 0, none⟩), .int .i64 x] w fun e w' => e = .returned (.int .i64 (ni s.M x)) ∧ w' = w := by
  obtain ⟨_, c1, c2⟩ := h.head
  obtain ⟨e1, e2⟩ := h.lens
  have hl := h.fit.len
  have hk := h.fit.hk
  have HC : Hid (∀ i (hi : i < s.M.length), (∃ b7 o7, l1.1 = some ⟨b7, o7, none⟩ ∧ w.cell? ⟨b7, o7 + i, none⟩ = some (.int .i64 s.M[i].1)) ∧ ∃ b8 o8, l2.1 = some ⟨b8, o8, none⟩ ∧ w.cell? ⟨b8, o8 + i, none⟩ = some (.int .i64 (s.M[i].2 : Int))) := fun i hi => by
    obtain ⟨b7, o7, f1, f2⟩ := (Rb.of_own h.o1).at' i (by rw [e1]; exact hi)
    obtain ⟨b8, o8, f3, f4⟩ := (Rb.of_own h.o2).at' i (by rw [e2]; exact hi)
    exact ⟨⟨b7, o7, f1, by rw [f2]; simp [hha, hi]⟩, b8, o8, f3, by rw [f4]; simp [hnu, hi]⟩
  clear h
  rw [e1] at c1
  rw [e2] at c2
  obtain ⟨a1, n1, z1⟩ := l1
  obtain ⟨a2, n2, z2⟩ := l2
  simp only at c1 c2 HC e1 e2
  clear e1 e2
  generalize s.M = M at *
  obtain ⟨R, hR⟩ : ∃ R, ni M x = R := ⟨_, rfl⟩
  rw [hR]
  have HR : Hid (ni M x = R) := hR
  clear hR
  go_enter Tryz.func49, Tryz.ntmps49
  go_wp2_with fail
  go_loopw [5] (fun v wr => ∃ i : Nat, v = .int .i64 (i : Int) ∧ i ≤ M.length ∧ wr = w ∧ ∀ j (hj : j < M.length), j < i → M[j].1 ≠ x) (fun v _ => M.length - (intOf v).toNat)
  case atStart => exact ⟨0, rfl, Nat.zero_le _, rfl, fun j _ hj => by omega⟩
  case round =>
    obtain ⟨i, rfl, hi, rfl, hn⟩ := hrel
    by_cases hlt : i < M.length
    · obtain ⟨⟨b7, o7, rfl, f1⟩, b8, o8, rfl, f2⟩ := HC.out i hlt
      have j0 : (0 : Int) ≤ (i : Int) := by omega
      have j1 : (i : Int) < (M.length : Int) := by omega
      by_cases he : M[i].1 = x
      · have hR2 := HR.out
        unfold ni at hR2
        rw [num_at hlt hn he] at hR2
        simp only at hR2
        rw [hR2] at f2
        have t1 : (M[i].1 == x) = true := by simpa using he
        clear HC HR hn he hR2
        generalize M[i].1 = y at *
        go_wp2
        go_ret
        exact ⟨rfl, rfl⟩
      · have t1 : (M[i].1 == x) = false := by simpa using he
        have hn2 : Hid (∀ j (hj : j < M.length), j < i + 1 → M[j].1 ≠ x) := fun j hj hji => by
          by_cases e : j = i
          · subst e; exact he
          · exact hn j hj (by omega)
        clear hn he f2
        generalize M[i].1 = y at f1 t1
        go_wp2
        go_roundw
        case rel => exact ⟨i + 1, by go_num, by omega, by trivial, hn2.out⟩
        case measure => simp [intOf]; omega
    · obtain rfl : i = M.length := by omega
      have hR2 : R = -1 := by
        rw [← HR.out]
        unfold ni
        rw [num_not (fun j hj => hn j hj hj)]
      subst hR2
      clear HC HR hn hlt hi
      go_wp2
      go_ret
      exact ⟨rfl, rfl⟩

set_option maxRecDepth 100000 in
set_option maxHeartbeats 1000000 in
theorem rplayer_any (w : World) (tag : Nat → Nat) :
    Calls Tryz.prog 30 #[] w fun e w' => ∃ b d l1 l2 tag', e = .returned (.pointer (some ⟨b, 0, none⟩)) ∧ Pd tag' w' b d l1 l2 Py.first 0 ∧ Qv tag w tag' w' := by
  have HN := rnew_any w tag
  have HF : Hid (∀ d tag1 W1, Dn tag1 W1 d false Ar.first → Dv tag w tag1 W1 → ∃ b' d' l1 l2 tag', (some ⟨W1.heap.size + 2, 0, none⟩ : Option Addr) = some ⟨b', 0, none⟩ ∧ Pd tag' (((W1.alloc (.cells #[.int .i64 0] 3)).alloc (.cells #[.int .i64 0] 3)).alloc (.cells #[.pointer (some ⟨d, 0, none⟩), .slice (some ⟨W1.heap.size, 0, none⟩) 1 1, .slice (some ⟨W1.heap.size + 1, 0, none⟩) 1 1] 104)) b' d' l1 l2 Py.first 0 ∧ Qv tag w tag' (((W1.alloc (.cells #[.int .i64 0] 3)).alloc (.cells #[.int .i64 0] 3)).alloc (.cells #[.pointer (some ⟨d, 0, none⟩), .slice (some ⟨W1.heap.size, 0, none⟩) 1 1, .slice (some ⟨W1.heap.size + 1, 0, none⟩) 1 1] 104))) := fun d tag1 W1 d1 v1 => by
    have s2 : (W1.alloc (.cells #[.int .i64 0] 3)).heap.size = W1.heap.size + 1 := by simp
    have s3 : ((W1.alloc (.cells #[.int .i64 0] 3)).alloc (.cells #[.int .i64 0] 3)).heap.size = W1.heap.size + 2 := by simp
    have k13 : Kp [] W1 (((W1.alloc (.cells #[.int .i64 0] 3)).alloc (.cells #[.int .i64 0] 3)).alloc (.cells #[.pointer (some ⟨d, 0, none⟩), .slice (some ⟨W1.heap.size, 0, none⟩) 1 1, .slice (some ⟨W1.heap.size + 1, 0, none⟩) 1 1] 104)) := (((Kp.refl _ _).alloc _).alloc _).alloc _
    have hg : ∀ x, x < W1.heap.size → (fun x => if x < W1.heap.size then tag1 x else 7) x = tag1 x := fun x hx => if_pos hx
    have hd := At.new ((W1.alloc (.cells #[.int .i64 0] 3)).alloc (.cells #[.int .i64 0] 3)) #[.pointer (some ⟨d, 0, none⟩), .slice (some ⟨W1.heap.size, 0, none⟩) 1 1, .slice (some ⟨W1.heap.size + 1, 0, none⟩) 1 1] 104
    rw [s3] at hd
    have o1 : Own (W1.alloc (.cells #[.int .i64 0] 3)) 3 (.slice (some ⟨W1.heap.size, 0, none⟩) 1 1) [.int .i64 0] := own_new W1 3 _ [.int .i64 0] 1 (by simp) (by unfold maxLen; omega) (by simp) (fun j hj => by simp) 1 rfl
    have o2 : Own ((W1.alloc (.cells #[.int .i64 0] 3)).alloc (.cells #[.int .i64 0] 3)) 3 (.slice (some ⟨W1.heap.size + 1, 0, none⟩) 1 1) [.int .i64 0] := by
      have := own_new (W1.alloc (.cells #[.int .i64 0] 3)) 3 #[.int .i64 0] [.int .i64 0] 1 (by simp) (by unfold maxLen; omega) (by simp) (fun j hj => by simp) 1 rfl
      rw [s2] at this
      exact this
    refine ⟨W1.heap.size + 2, d, (some ⟨W1.heap.size, 0, none⟩, 1, 1), (some ⟨W1.heap.size + 1, 0, none⟩, 1, 1), fun x => if x < W1.heap.size then tag1 x else 7, rfl, ⟨hd, if_neg (by omega), ?_, ?_, ?_, ?_, ?_, ?_, ?_, ?_, Py.first_fit⟩, ?_⟩
    · obtain ⟨g, o, c, pl, h⟩ := d1
      exact ⟨g, o, c, pl, h.sm (fun x hx _ => k13.block x hx (by simp)) hg⟩
    · exact (o1.keep ((Kp.refl [] _).alloc _) (fun _ _ => by simp)).keep ((Kp.refl [] _).alloc _) (fun _ _ => by simp)
    · intro x hx
      simp [blk] at hx
      subst hx
      exact if_neg (by omega)
    · exact o2.keep ((Kp.refl [] _).alloc _) (fun _ _ => by simp)
    · intro x hx
      simp [blk] at hx
      subst hx
      exact if_neg (by omega)
    · intro x hx
      simp [blk] at hx ⊢
      omega
    · simp [blk]
    · simp [blk]
    · exact v1.qv.trans (Qv.of_kp k13 (fun x hx => by simp at hx) hg)
  go_enter Tryz.func30, Tryz.ntmps30
  go_wp2_with (go_at_call 47; refine HN.mono ?_; rintro e W1 ⟨d, tag1, rfl, d1, v1, _⟩; have X9 := HF.out d tag1 W1 d1 v1; have X9 : Hid _ := X9)
  go_ret
  obtain ⟨b', d', l1, l2, tag', e, r⟩ := X9.out
  cases e
  exact ⟨_, d', l1, l2, tag', rfl, r⟩

end

end Go.Proofs.YtpkppobkagdhkaaGreat

/-
  The document's player: asked; two lists that grow.
-/
namespace Go.Proofs.YtpkppobkagdhkaaGreat
open Go.RowKit Go.Maps Utf
set_option linter.unusedVariables false
set_option linter.unusedSimpArgs false

/-- The handles that an operation names, but for one that it makes. -/
def askF (o : Ot) : List Int :=
  if o.kd = 2 then [o.nd, o.pa]
  else if o.kd = 3 then [o.nd, o.rf]
  else if o.kd = 4 then [o.nd, o.rf, o.pa]
  else if o.kd = 5 then [o.pa]
  else if o.kd = 6 ∨ o.kd = 8 then [o.rf, o.pa]
  else if o.kd = 9 then [o.rf]
  else if o.kd = 7 ∨ o.kd = 10 then [o.nd]
  else []

theorem askF_len (o : Ot) : (askF o).length ≤ 3 := by
  unfold askF
  repeat' split
  all_goals simp

/-- All are known just if the three are, where 0 is. -/
theorem ask_all {o : Ot} (h : rightO o = true) (kn : Int → Bool) (h0 : kn 0 = true) : (askF o).all kn = !(((!Py.isN o.kd && !kn o.nd) || !kn o.pa) || !kn o.rf) := by
  obtain ⟨_, _, _, h1, h2⟩ := right_of h
  unfold rightO at h
  simp only [Bool.and_eq_true] at h
  obtain ⟨_, _, hk⟩ := h
  obtain ⟨kd, nd, pa, rf, ty, ns, nm, al, tt⟩ := o
  simp only at h1 h2 hk ⊢
  obtain rfl | rfl | rfl | rfl | rfl | rfl | rfl | rfl | rfl | rfl | rfl : kd = 1 ∨ kd = 2 ∨ kd = 3 ∨ kd = 4 ∨ kd = 5 ∨ kd = 6 ∨ kd = 7 ∨ kd = 8 ∨ kd = 9 ∨ kd = 10 ∨ kd = 11 := by omega
  all_goals
    simp [rightK, zr] at hk
    simp [askF, Py.isN]
    try simp [hk, h0]
  · cases kn nd <;> cases kn rf <;> cases kn pa <;> rfl
  · cases kn rf <;> cases kn pa <;> rfl
  · cases kn rf <;> cases kn pa <;> rfl

theorem rb_lit2 (w : World) (ob : Obj) (e : TypeId) (cur : Array Value) (xs : List Value) (n : Nat) (h : cur = xs.toArray) (hn : n = xs.length) (hm : n ≤ 100000) : Rb ((w.alloc ob).alloc (.cells cur e)) (some ⟨w.heap.size + 1, 0, none⟩) n n xs := by
  have := rb_lit (w.alloc ob) e cur xs n h hn hm
  rw [show (w.alloc ob).heap.size = w.heap.size + 1 by simp] at this
  exact this

section
variable {tag tag' : Nat → Nat} {w w' : World} {b d k : Nat} {l1 l2 : Sl} {s : Py} {o : Ot} {p : Sl}

set_option maxRecDepth 100000 in
set_option maxHeartbeats 2000000 in
theorem asked_any (w : World) (o : Ot) (p : Sl) (h1 : 1 ≤ o.kd) (h2 : o.kd ≤ 11) :
    Calls Tryz.prog 50 #[ov o p] w fun e w' => ∃ ao n c, e = .returned (.slice ao n c) ∧ Rb w' ao n c (iz (askF o)) ∧ Kp [] w w' := by
  obtain ⟨kd, nd, pa, rf, ty, ns, nm, al, tt⟩ := o
  simp only at h1 h2
  unfold ov
  simp only
  obtain rfl | rfl | rfl | rfl | rfl | rfl | rfl | rfl | rfl | rfl | rfl : kd = 1 ∨ kd = 2 ∨ kd = 3 ∨ kd = 4 ∨ kd = 5 ∨ kd = 6 ∨ kd = 7 ∨ kd = 8 ∨ kd = 9 ∨ kd = 10 ∨ kd = 11 := by omega
  all_goals
    go_enter Tryz.func50, Tryz.ntmps50
    go_wp2
    go_ret
    first
      | (refine ⟨_, _, _, rfl, ?_, ((Kp.refl _ _).alloc _).alloc _⟩; exact rb_lit2 _ _ _ _ _ _ rfl rfl (by decide))
      | exact ⟨none, 0, 0, rfl, ⟨rfl, Nat.le_refl _, fun j hj => absurd hj (Nat.not_lt_zero _)⟩, (Kp.refl _ _).alloc _⟩

end

end Go.Proofs.YtpkppobkagdhkaaGreat

/-
  The program's Do and Check.
-/
namespace Go.Proofs.YtpkppobkagdhkaaGreat
open Go.RowKit Go.Maps Utf
set_option linter.unusedVariables false
set_option linter.unusedSimpArgs false

/-- Operations that are read, with their attributes, all of them small. -/
structure Ry (w : World) (ao : Option Addr) (n c : Nat) (q : List Oq) : Prop where
  rq : Rq w ao n c q
  at' : ∀ p, p ∈ q → Rk Any 2 w p.2.1 p.2.2.1 p.2.2.2 (cs p.1.al)
  ti : ∀ p, p ∈ q → tinyO p.1

theorem Ry.kept {w w' : World} {ao : Option Addr} {n c : Nat} {q : List Oq} (h : Ry w ao n c q) (k : Kp [] w w') : Ry w' ao n c q := ⟨h.rq.kept k, fun p hp => (h.at' p hp).kept k, h.ti⟩

/-- The operations by themselves. -/
abbrev os (q : List Oq) : List Ot := q.map (·.1)

theorem os_get {q : List Oq} {i : Nat} (hi : i < q.length) : (os q)[i]'(by simpa using hi) = q[i].1 := by simp [os]

/-- What Do tells. -/
def Dt (w' : World) (q : List Oq) (ptr : Option Addr) (j ec : Int) : Prop :=
  (Py.playF Py.first (os q)).2 = (j.toNat, ec) ∧ 0 ≤ j ∧ ((ec = 0 ∧ ∃ a tag, ptr = some ⟨a, 0, none⟩ ∧ Ps tag w' a (Py.playF Py.first (os q)).1.q (Py.playF Py.first (os q)).1.A q.length) ∨ (ec ≠ 0 ∧ ptr = none))

set_option maxRecDepth 100000 in
set_option maxHeartbeats 1000000 in
theorem replay_any (w : World) (ao : Option Addr) (n c : Nat) (q : List Oq) (hz : Ry w ao n c q) (hn : n ≤ 1300) :
    Calls Tryz.prog 18 #[.slice ao n c] w fun e w' => ∃ ptr j ec, e = .returned (.tuple #[.pointer ptr, .int .i64 j, .int .i64 ec]) ∧ Dt w' q ptr j ec ∧ Kp [] w w' := by
  have HN := player_any w (fun _ => 0)
  have hlen := hz.rq.len
  have HD : Hid (∀ i (hi : i < q.length), ∃ b0 off, ao = some ⟨b0, off, none⟩ ∧ ∀ tag V s b a m, Pp tag V b a m s i → Pv (fun _ => 0) w tag V → Nine V b0 (off + i * 9) q[i].1 q[i].2 ∧ ∀ U, Kp [] V U → Calls Tryz.prog 16 #[.pointer (some ⟨b, 0, none⟩), ov q[i].1 q[i].2] U fun e w' => e = .returned (.int .i64 (s.doF q[i].1).2) ∧ ∃ tag', Pp tag' w' b a m (s.doF q[i].1).1 (i + 1) ∧ Pv (fun _ => 0) w tag' w') := fun i hi => by
    obtain ⟨b0, off, e0, _⟩ := hz.rq.get i hi
    refine ⟨b0, off, e0, fun tag V s b a m P v => ⟨?_, fun U kU => ?_⟩⟩
    · obtain ⟨b1, off1, e1, n1⟩ := (hz.rq.kept (v.kp (fun _ _ => rfl))).get i hi
      rw [e0] at e1
      simp only [Option.some.injEq, Addr.mk.injEq] at e1
      obtain ⟨rfl, rfl, _⟩ := e1
      exact n1
    · have hm : q[i] ∈ q := List.getElem_mem hi
      have r0 : R0 (fun _ => 0) w q[i].2 q[i].1.al := (hz.at' _ hm).mono (fun _ _ _ => rfl)
      refine (pdo_any (P.kept kU) (by omega) (hz.ti _ hm) ((r0.pv v).kept kU)).mono ?_
      rintro e w' ⟨rfl, tag', p', v'⟩
      exact ⟨rfl, tag', p', v.trans ((Pv.of_kp0 kU).trans v')⟩
  clear hz
  obtain ⟨R, hR⟩ : ∃ R, Py.playF Py.first (os q) = R := ⟨_, rfl⟩
  unfold Dt
  rw [hR]
  have HR : Hid (Py.playF Py.first (os q) = R) := hR
  subst hlen
  go_enter Tryz.func18, Tryz.ntmps18
  go_wp2_with (go_at_call 12; refine HN.mono ?_; rintro e W1 ⟨b, a, m, tag1, rfl, p1, v1⟩)
  have H0 : Hid (Pp tag1 W1 b a m Py.first 0 ∧ Pv (fun _ => 0) w tag1 W1) := ⟨p1, v1⟩
  clear HN p1 v1 hR
  go_loopw [12] (fun v wr => ∃ (i : Nat) (tag : Nat → Nat) (s : Py) (j : Nat), v = .int .i64 (i : Int) ∧ i ≤ q.length ∧ Pp tag wr b a m s i ∧ Pv (fun _ => 0) w tag wr ∧ Py.playF s ((os q).drop i) = (R.1, j, R.2.2) ∧ i + j = R.2.1) (fun v _ => q.length - (intOf v).toNat)
  case atStart => exact ⟨0, tag1, Py.first, R.2.1, rfl, Nat.zero_le _, H0.out.1, H0.out.2, HR.out, Nat.zero_add _⟩
  case round =>
    obtain ⟨i, tag, s, j, rfl, hi, P, v, hp, hj⟩ := hrel
    clear H0 HR
    by_cases hlt : i < q.length
    · obtain ⟨b0, off, rfl, HD2⟩ := HD.out i hlt
      obtain ⟨N9, HDo⟩ := HD2 tag wr s b a m P v
      obtain ⟨f0, f1, f2, f3, f4, f5, f6, f7, f8⟩ := N9
      have kU : Kp [] wr (wr.alloc (.cells #[.int .i64 q[i].1.kd, .int .i64 q[i].1.nd, .int .i64 q[i].1.pa, .int .i64 q[i].1.rf, .int .i64 q[i].1.ty, .int .i64 q[i].1.ns, .string q[i].1.nm, .slice q[i].2.1 q[i].2.2.1 q[i].2.2.2, .string q[i].1.tt] 24)) := (Kp.refl _ _).alloc _
      have HDo := HDo _ kU
      have hs := Py.play_step (s := s) (l := os q) (i := i) (by simpa using hlt) rfl
      rw [os_get hlt, hp] at hs
      have j0 : (0 : Int) ≤ (i : Int) := by omega
      have j1 : (i : Int) < (q.length : Int) := by omega
      clear HD HD2 kU
      unfold ov at HDo
      generalize q[i] = x at *
      by_cases hc : (s.doF x.1).2 = 0
      · rw [hc] at HDo
        rw [if_pos hc] at hs
        have HS : Hid (Py.playF (s.doF x.1).1 ((os q).drop (i + 1)) = (R.1, j - 1, R.2.2) ∧ i + 1 + (j - 1) = R.2.1) := by
          obtain ⟨e1, e2, e3⟩ : R.1 = (Py.playF (s.doF x.1).1 ((os q).drop (i + 1))).1 ∧ j = (Py.playF (s.doF x.1).1 ((os q).drop (i + 1))).2.1 + 1 ∧ R.2.2 = (Py.playF (s.doF x.1).1 ((os q).drop (i + 1))).2.2 := by simpa using hs
          refine ⟨?_, by omega⟩
          rw [e1, e2, e3]
          simp
        clear hs hp hj P v hc
        go_wp2_with (go_at_call 16; refine HDo.mono ?_; rintro e W2 ⟨rfl, tag2, p2, v2⟩)
        go_roundw
        case rel => exact ⟨i + 1, tag2, _, j - 1, by go_num, by omega, p2, v2, HS.out⟩
        case measure => simp [intOf]; omega
      · rw [if_neg hc] at hs
        obtain ⟨e1, e2, e3⟩ : R.1 = s ∧ j = 0 ∧ R.2.2 = (s.doF x.1).2 := by simpa using hs
        have hc2 : ((s.doF x.1).2 != 0) = true := by simpa using hc
        have HE : Hid (R.2 = (((i : Int)).toNat, (s.doF x.1).2)) := by
          rw [← e3]
          have : R.2.1 = i := by omega
          rw [Int.toNat_natCast, ← this]
          exact rfl
        clear hs hp hj P v e1 e2 e3
        go_wp2_with (go_at_call 16; refine HDo.mono ?_; rintro e W2 ⟨rfl, tag2, p2, v2⟩)
        go_ret3
        exact ⟨none, _, _, rfl, ⟨HE.out, by omega, .inr ⟨hc, rfl⟩⟩, v2.kp (fun _ _ => rfl)⟩
    · obtain rfl : i = q.length := by omega
      rw [List.drop_eq_nil_of_le (by simp)] at hp
      obtain ⟨e1, e2, e3⟩ : s = R.1 ∧ 0 = j ∧ 0 = R.2.2 := by simpa [Py.playF] using hp
      obtain ⟨c0, _⟩ := P.head
      have HE : Hid (R.2 = (((q.length : Int)).toNat, 0) ∧ Ps tag wr a R.1.q R.1.A q.length) := by
        refine ⟨?_, by rw [← e1]; exact P.ps⟩
        have : R.2.1 = q.length := by omega
        rw [Int.toNat_natCast, ← this, e3]
      have hK : Hid (Kp [] w wr) := v.kp (fun _ _ => rfl)
      clear HD P v hp e1 e2 e3 hj hlt hi
      go_wp2
      go_ret3
      exact ⟨_, _, _, rfl, ⟨HE.out.1, by omega, .inl ⟨rfl, _, _, rfl, HE.out.2⟩⟩, hK.out⟩

theorem check_any (w : World) (ao : Option Addr) (n c : Nat) (q : List Oq) (hz : Ry w ao n c q) (hn : n ≤ 1300) :
    Calls Tryz.prog 24 #[.slice ao n c] w fun e w' => e = .returned (.int .i64 (Py.playF Py.first (os q)).2.2) ∧ Kp [] w w' := by
  have HD := replay_any w ao n c q hz hn
  clear hz
  go_enter Tryz.func24, Tryz.ntmps24
  go_wp2_with (go_at_call 18; refine HD.mono ?_; rintro e W2 ⟨ptr, j, ec, rfl, ⟨hd, _⟩, k2⟩; have hd : Hid _ := hd)
  go_ret
  rw [hd.out]
  exact ⟨rfl, k2⟩

end Go.Proofs.YtpkppobkagdhkaaGreat

/-
  Arenas by themselves: below a node stand no more than there are. No program.
-/
namespace Go.Proofs.YtpkppobkagdhkaaGreat
set_option linter.unusedVariables false
set_option linter.unusedSimpArgs false

namespace Ar

/-- All below a node, so many steps down. -/
def dsc (a : Ar) : Nat → Nat → List Nat
  | 0, _ => []
  | f + 1, x => (a.kids x).flatMap fun c => c :: a.dsc f c

theorem dsc_wn {a : Ar} (h : a.Ok) : ∀ (f x y : Nat), y ∈ a.dsc f x → ∃ c, a.up c = some x ∧ a.Wn y c
  | 0, x, y, hy => by cases hy
  | f + 1, x, y, hy => by
    unfold dsc at hy
    obtain ⟨c, hc, hy⟩ := List.mem_flatMap.1 hy
    have hu := (h.link x c).1 hc
    rcases List.mem_cons.1 hy with rfl | hy
    · exact ⟨y, hu, Wn.refl a y⟩
    · obtain ⟨c', hu', hw⟩ := dsc_wn h f c y hy
      exact ⟨c, hu, hw.trans (Wn.step hu' (Wn.refl a c))⟩

theorem Wn.lin {a : Ar} {y c c' : Nat} (h : a.Wn y c) (g : a.Wn y c') : a.Wn c c' ∨ a.Wn c' c := by
  obtain ⟨k, e⟩ := h
  induction k generalizing y with
  | zero =>
    obtain rfl : y = c := by simpa [anc] using e
    exact .inl g
  | succ k ih =>
    cases hu : a.up y with
    | none => simp [anc, hu] at e
    | some p =>
      rcases (Wn.some hu).1 g with rfl | g
      · exact .inr ⟨k + 1, e⟩
      · exact ih g (by simpa [anc, hu] using e)

theorem Ok.sib {a : Ar} (h : a.Ok) {x c c' y : Nat} (hc : a.up c = some x) (hc' : a.up c' = some x) (hn : c ≠ c') (h1 : a.Wn y c) (h2 : a.Wn y c') : False := by
  rcases h1.lin h2 with g | g
  · rcases (Wn.some hc).1 g with e | g
    · exact hn e
    · exact h.not_up hc' g
  · rcases (Wn.some hc').1 g with e | g
    · exact hn e.symm
    · exact h.not_up hc g

theorem dsc_nodup {a : Ar} (h : a.Ok) : ∀ (f x : Nat), (a.dsc f x).Nodup
  | 0, _ => List.nodup_nil
  | f + 1, x => by
    have key : ∀ l : List Nat, l.Nodup → (∀ c ∈ l, a.up c = some x) → (l.flatMap fun c => c :: a.dsc f c).Nodup := fun l => by
      induction l with
      | nil => exact fun _ _ => List.nodup_nil
      | cons c cs ih =>
        intro hn hu
        have hn' := List.nodup_cons.1 hn
        rw [List.flatMap_cons, List.nodup_append]
        refine ⟨List.nodup_cons.2 ⟨fun hm => ?_, dsc_nodup h f c⟩, ih hn'.2 (fun z hz => hu z (List.mem_cons_of_mem _ hz)), fun y hy z hz e => ?_⟩
        · obtain ⟨c', hu', hw⟩ := dsc_wn h f c c hm
          exact h.not_up hu' hw
        · subst e
          have w1 : a.Wn y c := by
            rcases List.mem_cons.1 hy with rfl | hy
            · exact Wn.refl a y
            · obtain ⟨c', hu', hw⟩ := dsc_wn h f c y hy
              exact hw.trans (Wn.step hu' (Wn.refl a c))
          obtain ⟨c2, hc2, hz⟩ := List.mem_flatMap.1 hz
          have w2 : a.Wn y c2 := by
            rcases List.mem_cons.1 hz with rfl | hz
            · exact Wn.refl a y
            · obtain ⟨c', hu', hw⟩ := dsc_wn h f c2 y hz
              exact hw.trans (Wn.step hu' (Wn.refl a c2))
          exact h.sib (hu c (List.mem_cons_self ..)) (hu c2 (List.mem_cons_of_mem _ hc2)) (fun e => hn'.1 (e ▸ hc2)) w1 w2
    exact key _ (h.one x) (fun c hc => (h.link x c).1 hc)

theorem dsc_lt {a : Ar} (h : a.Ok) : ∀ (f x y : Nat), y ∈ a.dsc f x → y < a.n
  | 0, x, y, hy => by cases hy
  | f + 1, x, y, hy => by
    unfold dsc at hy
    obtain ⟨c, hc, hy⟩ := List.mem_flatMap.1 hy
    rcases List.mem_cons.1 hy with rfl | hy
    · exact (h.kid_lt hc).1
    · exact dsc_lt h f c y hy

theorem tr_cnt {a : Ar} : ∀ (f x : Nat) (r : Fo), (a.tr f x r).cnt = 1 + (a.dsc f x).length + r.cnt
  | 0, x, r => rfl
  | f + 1, x, r => by
    unfold tr dsc
    rw [Fo.cnt_cons]
    have key : ∀ l : List Nat, (l.foldr (a.tr f) Fo.nil).cnt = (l.flatMap fun c => c :: a.dsc f c).length := fun l => by
      induction l with
      | nil => rfl
      | cons c cs ih =>
        rw [List.foldr_cons, tr_cnt f c, ih, List.flatMap_cons, List.length_append, List.length_cons]
        omega
    rw [key]

theorem Ok.below_cnt {a : Ar} (h : a.Ok) (x : Nat) : (a.below x).cnt ≤ a.n := by
  have e : (a.tr (a.n + 1) x .nil).cnt = 1 + (a.below x).cnt := by
    show (Fo.cons (a.lb x) (a.below x) Fo.nil).cnt = _
    rw [Fo.cnt_cons, Fo.cnt_nil]; omega
  rw [tr_cnt, Fo.cnt_nil] at e
  have := pig a.n (a.dsc (a.n + 1) x) (dsc_nodup h _ x) (dsc_lt h _ x)
  omega

theorem tr_each {a : Ar} {P : Lb → Prop} (hp : ∀ x, P (a.lb x)) : ∀ (f x : Nat) (r : Fo), r.Each P → (a.tr f x r).Each P
  | 0, x, r, hr => (Fo.each_cons ..).2 ⟨hp x, Fo.each_nil P, hr⟩
  | f + 1, x, r, hr => by
    unfold tr
    refine (Fo.each_cons ..).2 ⟨hp x, ?_, hr⟩
    have key : ∀ l : List Nat, (l.foldr (a.tr f) Fo.nil).Each P := fun l => by
      induction l with
      | nil => exact Fo.each_nil P
      | cons c cs ih => exact tr_each hp f c _ ih
    exact key _

theorem below_each {a : Ar} {P : Lb → Prop} (hp : ∀ x, P (a.lb x)) (x : Nat) : (a.below x).Each P :=
  ((Fo.each_cons P (a.lb x) (a.below x) Fo.nil).1 (tr_each hp (a.n + 1) x .nil (Fo.each_nil P))).2.1

theorem Ok.okT {a : Ar} (h : a.Ok) (hn : a.n ≤ 20000) (hp : ∀ x, okL (a.lb x)) (x : Nat) : okT (a.lb x) (a.below x) :=
  ⟨(Fo.each_cons ..).2 ⟨hp x, below_each hp x, Fo.each_nil _⟩, Nat.le_trans (h.below_cnt x) hn⟩

end Ar
end Go.Proofs.YtpkppobkagdhkaaGreat
