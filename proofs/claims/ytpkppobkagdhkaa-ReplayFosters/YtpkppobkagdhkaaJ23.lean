/-
  Joined: PrB.
-/
import Derived.Test.YtpkppobkagdhkaaJ21
import Derived.Test.YtpkppobkagdhkaaJ22

/-
  The program's arena: isWithin.
-/
namespace Go.Proofs.Ytpkppobkagdhkaa
open Go.RowKit Go.Maps Utf
set_option linter.unusedVariables false
set_option linter.unusedSimpArgs false

theorem iv_app (s t : List Nat) : iv (s ++ t) = iv s ++ iv t := by simp [iv]

theorem push_any (w : World) (p : Nat) (v : Value) (S : List Nat) (m : Nat) (hm : m = S.length) (h : Pk 1 w 107 3 p v m (iv S)) (z : Int) (hz : z = -1 ∨ ∃ x : Nat, z = x) (hl : m < 100000) :
    Calls Try.prog 58 #[.pointer (some ⟨p, 0, none⟩), .int .i64 z] w fun e w' => e = .returned (.tuple #[]) ∧ Tk 1 w w' 107 3 p v (S ++ opt z).length (iv (S ++ opt z)) := by
  rcases hz with rfl | ⟨x, rfl⟩
  · have e : S ++ opt (-1) = S := by simp [opt]
    rw [e, ← hm]
    have HF : Hid (Tk 1 w w 107 3 p v m (iv S)) := ⟨v, h, Kp.refl _ _, fun k hk => Or.inl hk⟩
    clear h
    go_enter Try.func58, Try.ntmps58
    go_wp2
    go_end0
    exact ⟨rfl, HF.out⟩
  · have e : opt (x : Int) = [x] := by unfold opt; rw [if_neg (by omega), Int.toNat_natCast]
    have H := ip_push w p v m (iv S) (x : Int) h hl
    have e2 : Hid (iv S ++ [.int .i64 (x : Int)] = iv (S ++ opt (x : Int)) ∧ m + 1 = (S ++ opt (x : Int)).length) := ⟨by rw [e, iv_app]; rfl, by rw [e, List.length_append, hm]; rfl⟩
    have t1 : ((x : Int) != -1) = true := bne_iff_ne.2 (by omega)
    generalize S ++ opt (x : Int) = T at e2 ⊢
    clear e h hm
    go_enter Try.func58, Try.ntmps58
    go_wp2_with (go_at_call 63; refine H.mono ?_; rintro e w2 ⟨rfl, T2⟩)
    go_end0
    rw [e2.out.1, e2.out.2] at T2
    exact ⟨rfl, T2⟩

/-- The pile in block p, made since w. -/
def Pi (w wr : World) (p : Nat) (S : List Nat) : Prop := ∃ v, Pk 1 wr 107 3 p v S.length (iv S) ∧ Kp [] w wr ∧ w.heap.size ≤ p ∧ ∀ k, k ∈ blk v → w.heap.size ≤ k

theorem Pi.tk {w wr w2 : World} {p : Nat} {v : Value} {S : List Nat} (k0 : Kp [] w wr) (hp : w.heap.size ≤ p) (hv : ∀ k, k ∈ blk v → w.heap.size ≤ k) {m : Nat} (hm : m = S.length) (t : Tk 1 wr w2 107 3 p v m (iv S)) : Pi w w2 p S := by
  subst hm
  obtain ⟨v', h1, h2, h3⟩ := t
  refine ⟨v', h1, k0.trans h2 (fun x hx => Or.inr ?_), hp, fun k hk => ?_⟩
  · rcases List.mem_cons.1 hx with rfl | hx
    · exact hp
    · exact hv x hx
  · rcases h3 k hk with h4 | h4
    · exact hv k h4
    · exact Nat.le_trans k0.size h4

theorem pi_push {w wr : World} {p : Nat} {S : List Nat} (h : Pi w wr p S) (z : Int) (hz : z = -1 ∨ ∃ x : Nat, z = x) (hl : S.length < 100000) :
    Calls Try.prog 58 #[.pointer (some ⟨p, 0, none⟩), .int .i64 z] wr fun e w' => e = .returned (.tuple #[]) ∧ Pi w w' p (S ++ opt z) := by
  obtain ⟨v, h1, h2, h3, h4⟩ := h
  refine (push_any wr p v S _ rfl h1 z hz hl).mono ?_
  rintro e w2 ⟨rfl, t⟩
  exact ⟨rfl, Pi.tk h2 h3 h4 rfl t⟩

theorem pi_pop {w wr : World} {p : Nat} {S : List Nat} {x : Nat} (h : Pi w wr p (S ++ [x])) (hl : S.length < 100000) :
    Calls Try.prog 59 #[.pointer (some ⟨p, 0, none⟩)] wr fun e w' => e = .returned (.tuple #[.int .i64 x, .bool true]) ∧ Pi w w' p S := by
  obtain ⟨v, h1, h2, h3, h4⟩ := h
  rw [iv_app, List.length_append] at h1
  refine (ip_pop wr p v S.length (iv S) x h1 hl).mono ?_
  rintro e w2 ⟨rfl, t⟩
  exact ⟨rfl, Pi.tk h2 h3 h4 rfl t⟩

theorem pi_pop_none {w wr : World} {p : Nat} (h : Pi w wr p []) :
    Calls Try.prog 59 #[.pointer (some ⟨p, 0, none⟩)] wr fun e w' => e = .returned (.tuple #[.int .i64 0, .bool false]) ∧ Kp [] w w' := by
  obtain ⟨v, h1, h2, h3, h4⟩ := h
  refine (ip_pop_none wr p v _ h1).mono ?_
  rintro e w2 ⟨rfl, t⟩
  exact ⟨rfl, h2.trans t (fun x hx => Or.inl hx)⟩

theorem pi_new (w : World) : Calls Try.prog 57 #[] w fun e w' => e = .returned (.pointer (some ⟨w.heap.size, 0, none⟩)) ∧ Pi w w' w.heap.size [] := by
  refine (ip_new w).mono ?_
  rintro e w2 ⟨rfl, rfl⟩
  exact ⟨rfl, .slice none 0 0, ⟨heap_new w _, ⟨rfl, Or.inl ⟨rfl, rfl⟩⟩, by simp [blk]⟩, (Kp.refl _ _).alloc _, Nat.le_refl _, fun k hk => by simp [blk] at hk⟩

theorem upI_nn {A : Ar} (ok : A.Ok) (x : Nat) : Nn A.n (A.raw x).up := by
  show Nn A.n (Ar.upI (A.up x))
  cases h : A.up x with
  | none => exact .inl rfl
  | some p => exact .inr ⟨p, rfl, (ok.lt h).2⟩
theorem hdI_nn {n : Nat} {k : List Nat} (h : ∀ x, x ∈ k → x < n) : Nn n (hdI k) := by
  cases k with
  | nil => exact .inl rfl
  | cons x r => exact .inr ⟨x, rfl, h x (by simp)⟩
theorem laI_nn {n : Nat} {k : List Nat} (h : ∀ x, x ∈ k → x < n) : Nn n (laI k) := by
  cases k with
  | nil => exact .inl rfl
  | cons x r =>
    obtain ⟨z, h1, h2⟩ := laI_cons x r
    exact .inr ⟨z, h1, h z h2⟩
/-- The links of a chain are nodes, or none; no node is ahead of itself or behind itself. -/
theorem raw_nn {A : Ar} (ok : A.Ok) (x : Nat) : Nn A.n (A.raw x).up ∧ Nn A.n (A.raw x).fi ∧ Nn A.n (A.raw x).la ∧ Nn A.n (A.raw x).ah ∧ Nn A.n (A.raw x).be ∧ (A.raw x).ah ≠ x ∧ (A.raw x).be ≠ x := by
  have hk : ∀ p y, y ∈ A.kids p → y < A.n := fun p y hy => (ok.kid_lt hy).1
  refine ⟨upI_nn ok x, hdI_nn (hk x), laI_nn (hk x), ?_⟩
  cases h : A.up x with
  | none => rw [Ar.raw_ah_none h, Ar.raw_be_none h]; exact ⟨.inl rfl, .inl rfl, by omega, by omega⟩
  | some p =>
    obtain ⟨k1, k2, e, h1, h2, h3⟩ := ok.split h
    obtain ⟨e1, e2⟩ := ok.chain e
    rw [e1, e2]
    have hk' := hk p
    rw [e] at hk'
    exact ⟨laI_nn (fun y hy => hk' y (by simp [hy])), hdI_nn (fun y hy => hk' y (by simp [hy])), fun hh => h1 (laI_mem hh), fun hh => h2 (hdI_mem hh)⟩

theorem Nn.nat {n : Nat} {z : Int} (h : Nn n z) : z = -1 ∨ ∃ x : Nat, z = x := by
  rcases h with h | ⟨x, h, _⟩
  · exact .inl h
  · exact .inr ⟨x, h⟩

set_option maxRecDepth 100000 in
set_option maxHeartbeats 1000000 in
theorem iswn_any {tag : Nat → Nat} {w : World} {b g o c : Nat} {q : Bool} {A : Ar} {pl : Nat → Np} (h : Rw tag w b g o c q A.n A.raw pl) (ok : A.Ok) (hn : A.n < 50000) (x t : Nat) (hx : x < A.n) (ht : t < A.n) :
    Calls Try.prog 44 #[.pointer (some ⟨b, 0, none⟩), .int .i64 x, .int .i64 t] w fun e w' => e = .returned (.bool (A.wn x t)) ∧ Kp [] w w' := by
  obtain ⟨r, hr⟩ := ok.rank
  have HN := pi_new w
  have HC : Hid (∀ V, Kp [] w V → V.cell? ⟨b, 0, none⟩ = some (.slice (some ⟨g, o, none⟩) A.n c) ∧ ∀ i, i < A.n → V.cell? ⟨g, o + i * 11 + 6, none⟩ = some (.int .i64 (A.raw i).up) ∧ V.cell? ⟨g, o + i * 11 + 7, none⟩ = some (.int .i64 (A.raw i).fi) ∧ V.cell? ⟨g, o + i * 11 + 10, none⟩ = some (.int .i64 (A.raw i).be)) := fun V kV => by
    have hV := h.kept kV
    exact ⟨hV.head.1, fun i hi => ⟨(hV.links hi).1, (hV.links hi).2.1, (hV.links hi).2.2.2.2⟩⟩
  have hx0 : (0 : Int) ≤ (x : Int) := by omega
  have hx1 : (x : Int) < (A.n : Int) := by omega
  have ht0 : (0 : Int) ≤ (t : Int) := by omega
  have ht1 : (t : Int) < (A.n : Int) := by omega
  have I0 : Hid (A.Wi x t x [] [] (opt (A.raw t).fi)) := ok.wi_start hx
  obtain ⟨R, hR⟩ : ∃ R, A.wn x t = R := ⟨_, rfl⟩
  rw [hR]
  go_enter Try.func44, Try.ntmps44
  go_wp2_with fail
  refine HN.mono ?_
  rintro e w1 ⟨rfl, P1⟩
  have k1 : Kp [] w w1 := P1.choose_spec.2.1
  obtain ⟨c0, cs1⟩ := HC.out _ k1
  have c1 := (cs1 t ht).2.1
  have HP := pi_push P1 (A.raw t).fi (raw_nn ok t).2.1.nat (by simp)
  clear HN cs1 P1 h
  generalize (A.raw t).fi = ft at c1 HP I0
  go_wp2_with fail
  refine HP.mono ?_
  rintro e w2 ⟨rfl, P2⟩
  rw [List.nil_append] at P2
  clear HP c1 c0 k1
  go_wp2
  go_loopw [1, 8, 9] (fun i _ _ wr => ∃ (cur : Nat) (L P S : List Nat), i = .int .i64 (cur : Int) ∧ A.Wi x t cur L P S ∧ Pi w wr w.heap.size S ∧ S.length ≤ L.length + 1) (fun i _ _ _ => r (intOf i).toNat)
  case atStart => exact ⟨x, [], [], _, rfl, I0.out, P2, by simpa using opt_len ft⟩
  case round =>
    obtain ⟨cur, L, P, S, rfl, hi, hp, hs⟩ := hrel
    clear P2 I0
    have kr : Kp [] w wr := hp.choose_spec.2.1
    obtain ⟨c0, cs1⟩ := HC.out _ kr
    have hL : L.length < A.n := ok.anc_lt hx hi.anc'
    have hc := hi.lt
    have hc0 : (0 : Int) ≤ (cur : Int) := by omega
    have hc1 : (cur : Int) < (A.n : Int) := by omega
    by_cases hct : cur = t
    · subst hct
      obtain rfl : R = true := by rw [← hR]; exact (Ar.wn_iff ok hx).2 hi.top_yes
      have K : Hid (Kp [] w wr) := kr
      clear hi hp hs kr HC cs1 hL
      go_wp2
      go_ret
      exact ⟨rfl, K.out⟩
    · have t1 : ((cur : Int) != (t : Int)) = true := bne_iff_ne.2 (by omega)
      have d1 := (cs1 cur hc).1
      cases hu : A.up cur with
      | none =>
        obtain rfl : R = false := by
          rw [← hR]
          cases hw : A.wn x t with
          | false => rfl
          | true => exact absurd ((Ar.wn_iff ok hx).1 hw) (hi.none_no hct hu)
        have e1 : (A.raw cur).up = -1 := by show Ar.upI (A.up cur) = -1; rw [hu]; rfl
        rw [e1] at d1
        rcases List.eq_nil_or_concat S with rfl | ⟨S', y, rfl⟩
        · have HP := pi_pop_none hp
          clear hi hp hs kr HC cs1 hL e1 hct
          go_wp2_with (go_at_call 59; refine HP.mono ?_; rintro e w3 ⟨rfl, K3⟩)
          go_ret
          exact ⟨rfl, K3⟩
        · rw [List.concat_eq_append] at hp hs
          have HP := pi_pop hp (by simp at hs; omega)
          clear hi hp hs kr HC cs1 hL e1 hct
          go_wp2_with (go_at_call 59; refine HP.mono ?_; rintro e w3 ⟨rfl, P3⟩)
          go_ret
          exact ⟨rfl, P3.choose_spec.2.1⟩
      | some u =>
        have e1 : (A.raw cur).up = (u : Int) := by show Ar.upI (A.up cur) = _; rw [hu]; rfl
        rw [e1] at d1
        have t2 : ((u : Int) == -1) = false := beq_false_of_ne (by omega)
        rcases List.eq_nil_or_concat S with rfl | ⟨S', y, rfl⟩
        · obtain rfl : R = false := by
            rw [← hR]
            cases hw : A.wn x t with
            | false => rfl
            | true => exact absurd ((Ar.wn_iff ok hx).1 hw) (hi.empty_no hct)
          have HP := pi_pop_none hp
          clear hi hp hs kr HC cs1 hL e1 hct
          go_wp2_with (go_at_call 59; refine HP.mono ?_; rintro e w3 ⟨rfl, K3⟩)
          go_ret
          exact ⟨rfl, K3⟩
        · rw [List.concat_eq_append] at hp hs hi
          have hsl : S'.length + 1 ≤ L.length + 1 := by simpa using hs
          have HP := pi_pop hp (by omega)
          have hy := (hi.all y (by simp)).1
          have hy0 : (0 : Int) ≤ (y : Int) := by omega
          have hy1 : (y : Int) < (A.n : Int) := by omega
          have I2 : Hid (A.Wi x t u (cur :: L) (y :: P) (S' ++ opt (A.raw y).be ++ opt (A.raw y).fi)) := hi.step ok hct hu
          have hlt : Hid (r u < r cur) := hr cur u hu
          have hNb := (raw_nn ok y).2.2.2.2.1.nat
          have hNf := (raw_nn ok y).2.1.nat
          clear hi hp hs kr cs1 e1 hct hu
          go_wp2_with (go_at_call 59; refine HP.mono ?_; rintro e w3 ⟨rfl, P3⟩; refine Hid.out ?_)
          unfold Hid
          obtain ⟨c3, cs3⟩ := HC.out _ P3.choose_spec.2.1
          obtain ⟨_, d4, d3⟩ := cs3 y hy
          have HQ := pi_push P3 (A.raw y).be hNb (by omega)
          clear HP cs3 P3
          go_wp2_with fail
          refine HQ.mono ?_
          rintro e w4 ⟨rfl, P4⟩
          obtain ⟨c4, cs4⟩ := HC.out _ P4.choose_spec.2.1
          obtain ⟨_, d5, _⟩ := cs4 y hy
          have ob := opt_len (A.raw y).be
          have of' := opt_len (A.raw y).fi
          have HT := pi_push P4 (A.raw y).fi hNf (by simp; omega)
          clear HQ cs4 P4 d3 d4 c3
          go_wp2_with fail
          refine HT.mono ?_
          rintro e w5 ⟨rfl, P5⟩
          clear HT d5
          go_wp2
          go_roundw
          case rel => exact ⟨u, cur :: L, y :: P, _, rfl, I2.out, P5, by simp; omega⟩
          case measure => simpa [intOf] using hlt.out

end Go.Proofs.Ytpkppobkagdhkaa
