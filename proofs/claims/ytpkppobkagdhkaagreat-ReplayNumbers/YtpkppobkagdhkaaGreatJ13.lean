/-
  Joined: PrB PrC.
-/
import Derived.Test.YtpkppobkagdhkaaGreatJ12
import Derived.Test.YtpkppobkagdhkaaGreatJ11

/-
  The program's arena: isWithin.
-/
namespace Go.Proofs.YtpkppobkagdhkaaGreat
open Go.RowKit Go.Maps Utf
set_option linter.unusedVariables false
set_option linter.unusedSimpArgs false

theorem iv_app (s t : List Nat) : iv (s ++ t) = iv s ++ iv t := by simp [iv]

theorem push_any (w : World) (p : Nat) (v : Value) (S : List Nat) (m : Nat) (hm : m = S.length) (h : Pk 1 w 180 3 p v m (iv S)) (z : Int) (hz : z = -1 ∨ ∃ x : Nat, z = x) (hl : m < 100000) :
    Calls Tryz.prog 125 #[.pointer (some ⟨p, 0, none⟩), .int .i64 z] w fun e w' => e = .returned (.tuple #[]) ∧ Tk 1 w w' 180 3 p v (S ++ opt z).length (iv (S ++ opt z)) := by
  rcases hz with rfl | ⟨x, rfl⟩
  · have e : S ++ opt (-1) = S := by simp [opt]
    rw [e, ← hm]
    have HF : Hid (Tk 1 w w 180 3 p v m (iv S)) := ⟨v, h, Kp.refl _ _, fun k hk => Or.inl hk⟩
    clear h
    go_enter Tryz.func125, Tryz.ntmps125
    go_wp2
    go_end0
    exact ⟨rfl, HF.out⟩
  · have e : opt (x : Int) = [x] := by unfold opt; rw [if_neg (by omega), Int.toNat_natCast]
    have H := ip_push w p v m (iv S) (x : Int) h hl
    have e2 : Hid (iv S ++ [.int .i64 (x : Int)] = iv (S ++ opt (x : Int)) ∧ m + 1 = (S ++ opt (x : Int)).length) := ⟨by rw [e, iv_app]; rfl, by rw [e, List.length_append, hm]; rfl⟩
    have t1 : ((x : Int) != -1) = true := bne_iff_ne.2 (by omega)
    generalize S ++ opt (x : Int) = T at e2 ⊢
    clear e h hm
    go_enter Tryz.func125, Tryz.ntmps125
    go_wp2_with (go_at_call 133; refine H.mono ?_; rintro e w2 ⟨rfl, T2⟩)
    go_end0
    rw [e2.out.1, e2.out.2] at T2
    exact ⟨rfl, T2⟩

/-- The pile in block p, made since w. -/
def Pi (w wr : World) (p : Nat) (S : List Nat) : Prop := ∃ v, Pk 1 wr 180 3 p v S.length (iv S) ∧ Kp [] w wr ∧ w.heap.size ≤ p ∧ ∀ k, k ∈ blk v → w.heap.size ≤ k

theorem Pi.tk {w wr w2 : World} {p : Nat} {v : Value} {S : List Nat} (k0 : Kp [] w wr) (hp : w.heap.size ≤ p) (hv : ∀ k, k ∈ blk v → w.heap.size ≤ k) {m : Nat} (hm : m = S.length) (t : Tk 1 wr w2 180 3 p v m (iv S)) : Pi w w2 p S := by
  subst hm
  obtain ⟨v', h1, h2, h3⟩ := t
  refine ⟨v', h1, k0.trans h2 (fun x hx => Or.inr ?_), hp, fun k hk => ?_⟩
  · rcases List.mem_cons.1 hx with rfl | hx
    · exact hp
    · exact hv x hx
  · rcases h3 k hk with h4 | h4
    · exact hv k h4
    · exact Nat.le_trans k0.size h4

theorem pi_push {w wr : World} {p : Nat} {S : List Nat} (h : Pi w wr p S) (z : Int) (hz : z = -1 ∨ ∃ x : Nat, z = x) (hl : S.length < 100000) :
    Calls Tryz.prog 125 #[.pointer (some ⟨p, 0, none⟩), .int .i64 z] wr fun e w' => e = .returned (.tuple #[]) ∧ Pi w w' p (S ++ opt z) := by
  obtain ⟨v, h1, h2, h3, h4⟩ := h
  refine (push_any wr p v S _ rfl h1 z hz hl).mono ?_
  rintro e w2 ⟨rfl, t⟩
  exact ⟨rfl, Pi.tk h2 h3 h4 rfl t⟩

theorem pi_pop {w wr : World} {p : Nat} {S : List Nat} {x : Nat} (h : Pi w wr p (S ++ [x])) (hl : S.length < 100000) :
    Calls Tryz.prog 126 #[.pointer (some ⟨p, 0, none⟩)] wr fun e w' => e = .returned (.tuple #[.int .i64 x, .bool true]) ∧ Pi w w' p S := by
  obtain ⟨v, h1, h2, h3, h4⟩ := h
  rw [iv_app, List.length_append] at h1
  refine (ip_pop wr p v S.length (iv S) x h1 hl).mono ?_
  rintro e w2 ⟨rfl, t⟩
  exact ⟨rfl, Pi.tk h2 h3 h4 rfl t⟩

theorem pi_pop_none {w wr : World} {p : Nat} (h : Pi w wr p []) :
    Calls Tryz.prog 126 #[.pointer (some ⟨p, 0, none⟩)] wr fun e w' => e = .returned (.tuple #[.int .i64 0, .bool false]) ∧ Kp [] w w' := by
  obtain ⟨v, h1, h2, h3, h4⟩ := h
  refine (ip_pop_none wr p v _ h1).mono ?_
  rintro e w2 ⟨rfl, t⟩
  exact ⟨rfl, h2.trans t (fun x hx => Or.inl hx)⟩

theorem pi_new (w : World) : Calls Tryz.prog 124 #[] w fun e w' => e = .returned (.pointer (some ⟨w.heap.size, 0, none⟩)) ∧ Pi w w' w.heap.size [] := by
  refine (ip_new w).mono ?_
  rintro e w2 ⟨rfl, rfl⟩
  exact ⟨rfl, .slice none 0 0, ⟨heap_new w _, ⟨rfl, Or.inl ⟨rfl, rfl⟩⟩, by simp [blk]⟩, (Kp.refl _ _).alloc _, Nat.le_refl _, fun k hk => by simp [blk] at hk⟩

theorem upI_nn {A : Ar} (ok : A.Ok) (x : Nat) : Nn A.n (A.raw x).up := by
  show Nn A.n (Ar.upI (A.up x))
  cases h : A.up x with
  | none => exact .inl rfl
  | some p => exact .inr ⟨p, rfl, (ok.lt h).2⟩
theorem hdI_nn {n : Nat} {k : List Nat} (h : ∀ x, x ∈ k → x < n) : Nn n (hdI k) := by
  cases k with
  | nil => exact .inl rfl
  | cons x r => exact .inr ⟨x, rfl, h x (by simp)⟩
theorem laI_nn {n : Nat} {k : List Nat} (h : ∀ x, x ∈ k → x < n) : Nn n (laI k) := by
  cases k with
  | nil => exact .inl rfl
  | cons x r =>
    obtain ⟨z, h1, h2⟩ := laI_cons x r
    exact .inr ⟨z, h1, h z h2⟩
/-- The links of a chain are nodes, or none; no node is ahead of itself or behind itself. -/
theorem raw_nn {A : Ar} (ok : A.Ok) (x : Nat) : Nn A.n (A.raw x).up ∧ Nn A.n (A.raw x).fi ∧ Nn A.n (A.raw x).la ∧ Nn A.n (A.raw x).ah ∧ Nn A.n (A.raw x).be ∧ (A.raw x).ah ≠ x ∧ (A.raw x).be ≠ x := by
  have hk : ∀ p y, y ∈ A.kids p → y < A.n := fun p y hy => (ok.kid_lt hy).1
  refine ⟨upI_nn ok x, hdI_nn (hk x), laI_nn (hk x), ?_⟩
  cases h : A.up x with
  | none => rw [Ar.raw_ah_none h, Ar.raw_be_none h]; exact ⟨.inl rfl, .inl rfl, by omega, by omega⟩
  | some p =>
    obtain ⟨k1, k2, e, h1, h2, h3⟩ := ok.split h
    obtain ⟨e1, e2⟩ := ok.chain e
    rw [e1, e2]
    have hk' := hk p
    rw [e] at hk'
    exact ⟨laI_nn (fun y hy => hk' y (by simp [hy])), hdI_nn (fun y hy => hk' y (by simp [hy])), fun hh => h1 (laI_mem hh), fun hh => h2 (hdI_mem hh)⟩

theorem Nn.nat {n : Nat} {z : Int} (h : Nn n z) : z = -1 ∨ ∃ x : Nat, z = x := by
  rcases h with h | ⟨x, h, _⟩
  · exact .inl h
  · exact .inr ⟨x, h⟩

set_option maxRecDepth 100000 in
set_option maxHeartbeats 1000000 in
theorem iswn_any {tag : Nat → Nat} {w : World} {b g o c : Nat} {q : Bool} {A : Ar} {pl : Nat → Np} (h : Rw tag w b g o c q A.n A.raw pl) (ok : A.Ok) (hn : A.n < 50000) (x t : Nat) (hx : x < A.n) (ht : t < A.n) :
    Calls Tryz.prog 107 #[.pointer (some ⟨b, 0, none⟩), .int .i64 x, .int .i64 t] w fun e w' => e = .returned (.bool (A.wn x t)) ∧ Kp [] w w' := by
  obtain ⟨r, hr⟩ := ok.rank
  have HN := pi_new w
  have HC : Hid (∀ V, Kp [] w V → V.cell? ⟨b, 0, none⟩ = some (.slice (some ⟨g, o, none⟩) A.n c) ∧ ∀ i, i < A.n → V.cell? ⟨g, o + i * 11 + 6, none⟩ = some (.int .i64 (A.raw i).up) ∧ V.cell? ⟨g, o + i * 11 + 7, none⟩ = some (.int .i64 (A.raw i).fi) ∧ V.cell? ⟨g, o + i * 11 + 10, none⟩ = some (.int .i64 (A.raw i).be)) := fun V kV => by
    have hV := h.kept kV
    exact ⟨hV.head.1, fun i hi => ⟨(hV.links hi).1, (hV.links hi).2.1, (hV.links hi).2.2.2.2⟩⟩
  have hx0 : (0 : Int) ≤ (x : Int) := by omega
  have hx1 : (x : Int) < (A.n : Int) := by omega
  have ht0 : (0 : Int) ≤ (t : Int) := by omega
  have ht1 : (t : Int) < (A.n : Int) := by omega
  have I0 : Hid (A.Wi x t x [] [] (opt (A.raw t).fi)) := ok.wi_start hx
  obtain ⟨R, hR⟩ : ∃ R, A.wn x t = R := ⟨_, rfl⟩
  rw [hR]
  go_enter Tryz.func107, Tryz.ntmps107
  go_wp2_with fail
  refine HN.mono ?_
  rintro e w1 ⟨rfl, P1⟩
  have k1 : Kp [] w w1 := P1.choose_spec.2.1
  obtain ⟨c0, cs1⟩ := HC.out _ k1
  have c1 := (cs1 t ht).2.1
  have HP := pi_push P1 (A.raw t).fi (raw_nn ok t).2.1.nat (by simp)
  clear HN cs1 P1 h
  generalize (A.raw t).fi = ft at c1 HP I0
  go_wp2_with fail
  refine HP.mono ?_
  rintro e w2 ⟨rfl, P2⟩
  rw [List.nil_append] at P2
  clear HP c1 c0 k1
  go_wp2
  go_loopw [1, 8, 9] (fun i _ _ wr => ∃ (cur : Nat) (L P S : List Nat), i = .int .i64 (cur : Int) ∧ A.Wi x t cur L P S ∧ Pi w wr w.heap.size S ∧ S.length ≤ L.length + 1) (fun i _ _ _ => r (intOf i).toNat)
  case atStart => exact ⟨x, [], [], _, rfl, I0.out, P2, by simpa using opt_len ft⟩
  case round =>
    obtain ⟨cur, L, P, S, rfl, hi, hp, hs⟩ := hrel
    clear P2 I0
    have kr : Kp [] w wr := hp.choose_spec.2.1
    obtain ⟨c0, cs1⟩ := HC.out _ kr
    have hL : L.length < A.n := ok.anc_lt hx hi.anc'
    have hc := hi.lt
    have hc0 : (0 : Int) ≤ (cur : Int) := by omega
    have hc1 : (cur : Int) < (A.n : Int) := by omega
    by_cases hct : cur = t
    · subst hct
      obtain rfl : R = true := by rw [← hR]; exact (Ar.wn_iff ok hx).2 hi.top_yes
      have K : Hid (Kp [] w wr) := kr
      clear hi hp hs kr HC cs1 hL
      go_wp2
      go_ret
      exact ⟨rfl, K.out⟩
    · have t1 : ((cur : Int) != (t : Int)) = true := bne_iff_ne.2 (by omega)
      have d1 := (cs1 cur hc).1
      cases hu : A.up cur with
      | none =>
        obtain rfl : R = false := by
          rw [← hR]
          cases hw : A.wn x t with
          | false => rfl
          | true => exact absurd ((Ar.wn_iff ok hx).1 hw) (hi.none_no hct hu)
        have e1 : (A.raw cur).up = -1 := by show Ar.upI (A.up cur) = -1; rw [hu]; rfl
        rw [e1] at d1
        rcases List.eq_nil_or_concat S with rfl | ⟨S', y, rfl⟩
        · have HP := pi_pop_none hp
          clear hi hp hs kr HC cs1 hL e1 hct
          go_wp2_with (go_at_call 126; refine HP.mono ?_; rintro e w3 ⟨rfl, K3⟩)
          go_ret
          exact ⟨rfl, K3⟩
        · rw [List.concat_eq_append] at hp hs
          have HP := pi_pop hp (by simp at hs; omega)
          clear hi hp hs kr HC cs1 hL e1 hct
          go_wp2_with (go_at_call 126; refine HP.mono ?_; rintro e w3 ⟨rfl, P3⟩)
          go_ret
          exact ⟨rfl, P3.choose_spec.2.1⟩
      | some u =>
        have e1 : (A.raw cur).up = (u : Int) := by show Ar.upI (A.up cur) = _; rw [hu]; rfl
        rw [e1] at d1
        have t2 : ((u : Int) == -1) = false := beq_false_of_ne (by omega)
        rcases List.eq_nil_or_concat S with rfl | ⟨S', y, rfl⟩
        · obtain rfl : R = false := by
            rw [← hR]
            cases hw : A.wn x t with
            | false => rfl
            | true => exact absurd ((Ar.wn_iff ok hx).1 hw) (hi.empty_no hct)
          have HP := pi_pop_none hp
          clear hi hp hs kr HC cs1 hL e1 hct
          go_wp2_with (go_at_call 126; refine HP.mono ?_; rintro e w3 ⟨rfl, K3⟩)
          go_ret
          exact ⟨rfl, K3⟩
        · rw [List.concat_eq_append] at hp hs hi
          have hsl : S'.length + 1 ≤ L.length + 1 := by simpa using hs
          have HP := pi_pop hp (by omega)
          have hy := (hi.all y (by simp)).1
          have hy0 : (0 : Int) ≤ (y : Int) := by omega
          have hy1 : (y : Int) < (A.n : Int) := by omega
          have I2 : Hid (A.Wi x t u (cur :: L) (y :: P) (S' ++ opt (A.raw y).be ++ opt (A.raw y).fi)) := hi.step ok hct hu
          have hlt : Hid (r u < r cur) := hr cur u hu
          have hNb := (raw_nn ok y).2.2.2.2.1.nat
          have hNf := (raw_nn ok y).2.1.nat
          clear hi hp hs kr cs1 e1 hct hu
          go_wp2_with (go_at_call 126; refine HP.mono ?_; rintro e w3 ⟨rfl, P3⟩; refine Hid.out ?_)
          unfold Hid
          obtain ⟨c3, cs3⟩ := HC.out _ P3.choose_spec.2.1
          obtain ⟨_, d4, d3⟩ := cs3 y hy
          have HQ := pi_push P3 (A.raw y).be hNb (by omega)
          clear HP cs3 P3
          go_wp2_with fail
          refine HQ.mono ?_
          rintro e w4 ⟨rfl, P4⟩
          obtain ⟨c4, cs4⟩ := HC.out _ P4.choose_spec.2.1
          obtain ⟨_, d5, _⟩ := cs4 y hy
          have ob := opt_len (A.raw y).be
          have of' := opt_len (A.raw y).fi
          have HT := pi_push P4 (A.raw y).fi hNf (by simp; omega)
          clear HQ cs4 P4 d3 d4 c3
          go_wp2_with fail
          refine HT.mono ?_
          rintro e w5 ⟨rfl, P5⟩
          clear HT d5
          go_wp2
          go_roundw
          case rel => exact ⟨u, cur :: L, y :: P, _, rfl, I2.out, P5, by simp; omega⟩
          case measure => simpa [intOf] using hlt.out

end Go.Proofs.YtpkppobkagdhkaaGreat

/-
  The program's arena: Append, Before, Detach.
-/
namespace Go.Proofs.YtpkppobkagdhkaaGreat
open Go.RowKit Go.Maps Utf
set_option linter.unusedVariables false
set_option linter.unusedSimpArgs false

section
variable {tag : Nat → Nat} {w : World} {b g o c : Nat} {q : Bool} {A : Ar} {pl : Nat → Np}

theorem there_nat {z : Int} (h : A.there z = true) : ∃ y : Nat, z = (y : Int) ∧ y < A.n := by
  obtain ⟨h1, h2⟩ := Ar.there_lt h
  exact ⟨z.toNat, h2.symm, h1⟩

theorem there_dec (z : Int) : A.there z = decide (0 ≤ z ∧ z < A.n) := rfl

theorem hid_link (h : Rw tag w b g o c q A.n A.raw pl) (ok : A.Ok) (hn : A.n < 50000) {p x : Nat} (hp : p < A.n) (hx : x < A.n) (hu : A.up x = none) {k1 k2 : List Nat} (e : A.kids p = k1 ++ k2) (z : Int) (hz : z = hdI k2) :
    Hid (∀ V, Kp [] w V → Calls Tryz.prog 108 #[.pointer (some ⟨b, 0, none⟩), .int .i64 p, .int .i64 z, .int .i64 x] V fun e w' => e = .returned (.tuple #[]) ∧ Rz w tag w' b g o c q A.n (A.put p k1.length x).raw pl) := by
  intro V kV
  subst hz
  have hk : ∀ y, y ∈ k2 → y < A.n := fun y hy => (ok.kid_lt (p := p) (by rw [e]; simp [hy])).1
  refine (link_any (h.kept kV) (by omega) p hp (hdI k2) (hdI_nn hk) x hx (aheadF_nn (fun i _ => ⟨(raw_nn ok i).2.2.1, (raw_nn ok i).2.2.2.1⟩) hp (hdI_nn hk))).mono ?_
  rintro e2 w2 ⟨rfl, r2⟩
  rw [ok.link_raw e hu] at r2
  exact ⟨rfl, r2.1, (kV.mono (T := [g]) (fun x hx => by simp at hx)).trans r2.2 (fun x hx => Or.inl hx)⟩

theorem up_eq {x : Nat} (hu : A.up x = none) : (A.raw x).up = -1 := by show Ar.upI (A.up x) = -1; rw [hu]; rfl

theorem up_some {x p : Nat} (hu : A.up x = some p) : (A.raw x).up = (p : Int) := by show Ar.upI (A.up x) = _; rw [hu]; rfl

set_option maxHeartbeats 1000000 in
theorem app_arena (h : Rw tag w b g o c q A.n A.raw pl) (ful : A.Ful) (hn : A.n < 50000) (p x : Int) :
    Calls Tryz.prog 68 #[.pointer (some ⟨b, 0, none⟩), .int .i64 p, .int .i64 x] w fun e w' => e = .returned (.int .i64 (A.appF p x).2) ∧ Rz w tag w' b g o c q A.n (A.appF p x).1.raw pl := by
  have HH := fun z => has_any h (by omega) z
  have ok := ful.toOk
  obtain ⟨Z, hZ⟩ : ∃ Z, A.appF p x = Z := ⟨_, rfl⟩
  rw [hZ]
  unfold Ar.appF at hZ
  have z0 : Rz w tag w b g o c q A.n A.raw pl := Rz.mk h (Kp.refl _ _)
  by_cases hp : A.there p = true
  case neg =>
    have hp : A.there p = false := by simpa using hp
    rw [if_pos (.inl hp)] at hZ
    subst hZ
    rw [there_dec] at hp
    have z1 : Hid (Rz w tag w b g o c q A.n A.raw pl) := z0
    clear z0 h
    go_enter Tryz.func68, Tryz.ntmps68
    go_wp2_with (go_at_call 33; refine (HH _).mono ?_; rintro e w9 ⟨rfl, hw⟩; have hw2 := hw.symm; clear hw; subst hw2)
    go_ret
    exact ⟨rfl, z1.out⟩
  by_cases hx : A.there x = true
  case neg =>
    have hx : A.there x = false := by simpa using hx
    rw [if_pos (.inr hx)] at hZ
    subst hZ
    rw [there_dec] at hp hx
    have z1 : Hid (Rz w tag w b g o c q A.n A.raw pl) := z0
    clear z0 h
    go_enter Tryz.func68, Tryz.ntmps68
    go_wp2_with (go_at_call 33; refine (HH _).mono ?_; rintro e w9 ⟨rfl, hw⟩; have hw2 := hw.symm; clear hw; subst hw2)
    go_ret
    exact ⟨rfl, z1.out⟩
  rw [if_neg (by simp [hp, hx])] at hZ
  obtain ⟨p, rfl, hpn⟩ := there_nat hp
  obtain ⟨x, rfl, hxn⟩ := there_nat hx
  rw [Int.toNat_natCast, Int.toNat_natCast] at hZ
  rw [there_dec] at hp hx
  have HM := may_any h (by omega) p hpn
  have HF := fixed_any h (by omega) x hxn
  rw [show (A.raw p).lb = A.lb p from rfl] at HM
  rw [show (A.raw x).lb = A.lb x from rfl] at HF
  cases h1 : Ar.hld (A.lb p) with
  | false =>
    rw [h1] at HM
    rw [if_pos (.inl h1)] at hZ
    subst hZ
    have z1 : Hid (Rz w tag w b g o c q A.n A.raw pl) := z0
    clear z0 h HF
    go_enter Tryz.func68, Tryz.ntmps68
    go_wp2_with (first | (go_at_call 33; refine (HH _).mono ?_; rintro e w9 ⟨rfl, hw⟩; have hw2 := hw.symm; clear hw; subst hw2) | (go_at_call 105; refine (HM).mono ?_; rintro e w9 ⟨rfl, hw⟩; have hw2 := hw.symm; clear hw; subst hw2))
    go_ret
    exact ⟨rfl, z1.out⟩
  | true =>
  rw [h1] at HM
  cases h2 : Ar.fix (A.lb x) with
  | true =>
    rw [h2] at HF
    rw [if_pos (.inr h2)] at hZ
    subst hZ
    have z1 : Hid (Rz w tag w b g o c q A.n A.raw pl) := z0
    clear z0 h
    go_enter Tryz.func68, Tryz.ntmps68
    go_wp2_with (first | (go_at_call 33; refine (HH _).mono ?_; rintro e w9 ⟨rfl, hw⟩; have hw2 := hw.symm; clear hw; subst hw2) | (go_at_call 105; refine (HM).mono ?_; rintro e w9 ⟨rfl, hw⟩; have hw2 := hw.symm; clear hw; subst hw2) | (go_at_call 106; refine (HF).mono ?_; rintro e w9 ⟨rfl, hw⟩; have hw2 := hw.symm; clear hw; subst hw2))
    go_ret
    exact ⟨rfl, z1.out⟩
  | false =>
  rw [h2] at HF
  rw [if_neg (by simp [h1, h2])] at hZ
  obtain ⟨c0, _⟩ := h.head
  obtain ⟨l1, _⟩ := h.links hxn
  have hx0 : (0 : Int) ≤ (x : Int) := by omega
  have hx1 : (x : Int) < (A.n : Int) := by omega
  cases hu : A.up x with
  | some u =>
    rw [if_pos (by rw [hu]; simp)] at hZ
    subst hZ
    rw [up_some hu] at l1
    have t1 : ((u : Int) != -1) = true := bne_iff_ne.2 (by omega)
    have z1 : Hid (Rz w tag w b g o c q A.n A.raw pl) := z0
    clear z0 h
    go_enter Tryz.func68, Tryz.ntmps68
    go_wp2_with (first | (go_at_call 33; refine (HH _).mono ?_; rintro e w9 ⟨rfl, hw⟩; have hw2 := hw.symm; clear hw; subst hw2) | (go_at_call 105; refine (HM).mono ?_; rintro e w9 ⟨rfl, hw⟩; have hw2 := hw.symm; clear hw; subst hw2) | (go_at_call 106; refine (HF).mono ?_; rintro e w9 ⟨rfl, hw⟩; have hw2 := hw.symm; clear hw; subst hw2))
    go_ret
    exact ⟨rfl, z1.out⟩
  | none =>
  rw [if_neg (by rw [hu]; simp)] at hZ
  rw [up_eq hu] at l1
  have HW := iswn_any h ok hn p x hpn hxn
  cases hw : A.wn p x with
  | true =>
    rw [if_pos hw] at hZ
    subst hZ
    rw [hw] at HW
    have z1 : Hid (∀ V, Kp [] w V → Rz w tag V b g o c q A.n A.raw pl) := fun V kV => Rz.mk (h.kept kV) (kV.mono (fun x hx => by simp at hx))
    clear z0 h
    go_enter Tryz.func68, Tryz.ntmps68
    go_wp2_with (first | (go_at_call 33; refine (HH _).mono ?_; rintro e w9 ⟨rfl, hw⟩; have hw2 := hw.symm; clear hw; subst hw2) | (go_at_call 105; refine (HM).mono ?_; rintro e w9 ⟨rfl, hw⟩; have hw2 := hw.symm; clear hw; subst hw2) | (go_at_call 106; refine (HF).mono ?_; rintro e w9 ⟨rfl, hw⟩; have hw2 := hw.symm; clear hw; subst hw2) | (go_at_call 107; refine HW.mono ?_; rintro e w3 ⟨rfl, K3⟩))
    go_ret
    exact ⟨rfl, z1.out _ K3⟩
  | false =>
    rw [if_neg (by rw [hw]; simp)] at hZ
    subst hZ
    rw [hw] at HW
    have HL := hid_link h ok hn hpn hxn hu (k1 := A.kids p) (k2 := []) (by rw [List.append_nil]) (-1) rfl
    clear z0 h
    go_enter Tryz.func68, Tryz.ntmps68
    go_wp2_with (first | (go_at_call 33; refine (HH _).mono ?_; rintro e w9 ⟨rfl, hw⟩; have hw2 := hw.symm; clear hw; subst hw2) | (go_at_call 105; refine (HM).mono ?_; rintro e w9 ⟨rfl, hw⟩; have hw2 := hw.symm; clear hw; subst hw2) | (go_at_call 106; refine (HF).mono ?_; rintro e w9 ⟨rfl, hw⟩; have hw2 := hw.symm; clear hw; subst hw2) | (go_at_call 107; refine HW.mono ?_; rintro e w3 ⟨rfl, K3⟩) | (go_at_call 108; refine (HL.out _ K3).mono ?_; rintro e w4 ⟨rfl, Z4⟩))
    go_ret
    exact ⟨rfl, Z4⟩

set_option maxHeartbeats 1000000 in
theorem det_arena (h : Rw tag w b g o c q A.n A.raw pl) (ful : A.Ful) (hn : A.n < 50000) (x : Int) :
    Calls Tryz.prog 73 #[.pointer (some ⟨b, 0, none⟩), .int .i64 x] w fun e w' => e = .returned (.int .i64 (A.detF x).2) ∧ Rz w tag w' b g o c q A.n (A.detF x).1.raw pl := by
  have HH := fun z => has_any h (by omega) z
  have ok := ful.toOk
  obtain ⟨Z, hZ⟩ : ∃ Z, A.detF x = Z := ⟨_, rfl⟩
  rw [hZ]
  unfold Ar.detF at hZ
  have z0 : Rz w tag w b g o c q A.n A.raw pl := Rz.mk h (Kp.refl _ _)
  by_cases hx : A.there x = true
  case neg =>
    have hx : A.there x = false := by simpa using hx
    rw [if_pos hx] at hZ
    subst hZ
    rw [there_dec] at hx
    have z1 : Hid (Rz w tag w b g o c q A.n A.raw pl) := z0
    clear z0 h
    go_enter Tryz.func73, Tryz.ntmps73
    go_wp2_with (go_at_call 33; refine (HH _).mono ?_; rintro e w9 ⟨rfl, hw⟩; have hw2 := hw.symm; clear hw; subst hw2)
    go_ret
    exact ⟨rfl, z1.out⟩
  rw [if_neg (by simp [hx])] at hZ
  obtain ⟨x, rfl, hxn⟩ := there_nat hx
  rw [Int.toNat_natCast] at hZ
  rw [there_dec] at hx
  have HF := fixed_any h (by omega) x hxn
  rw [show (A.raw x).lb = A.lb x from rfl] at HF
  cases h2 : Ar.fix (A.lb x) with
  | true =>
    rw [h2] at HF
    rw [if_pos h2] at hZ
    subst hZ
    have z1 : Hid (Rz w tag w b g o c q A.n A.raw pl) := z0
    clear z0 h
    go_enter Tryz.func73, Tryz.ntmps73
    go_wp2_with (first | (go_at_call 33; refine (HH _).mono ?_; rintro e w9 ⟨rfl, hw⟩; have hw2 := hw.symm; clear hw; subst hw2) | (go_at_call 106; refine (HF).mono ?_; rintro e w9 ⟨rfl, hw⟩; have hw2 := hw.symm; clear hw; subst hw2))
    go_ret
    exact ⟨rfl, z1.out⟩
  | false =>
  rw [h2] at HF
  rw [if_neg (by simp [h2])] at hZ
  subst hZ
  obtain ⟨c0, _⟩ := h.head
  obtain ⟨l1, _⟩ := h.links hxn
  have hx0 : (0 : Int) ≤ (x : Int) := by omega
  have hx1 : (x : Int) < (A.n : Int) := by omega
  cases hu : A.up x with
  | none =>
    rw [up_eq hu] at l1
    have e1 : A.cut x = A := Ar.cut_none hu
    rw [e1]
    have z1 : Hid (Rz w tag w b g o c q A.n A.raw pl) := z0
    clear z0 h
    go_enter Tryz.func73, Tryz.ntmps73
    go_wp2_with (first | (go_at_call 33; refine (HH _).mono ?_; rintro e w9 ⟨rfl, hw⟩; have hw2 := hw.symm; clear hw; subst hw2) | (go_at_call 106; refine (HF).mono ?_; rintro e w9 ⟨rfl, hw⟩; have hw2 := hw.symm; clear hw; subst hw2))
    go_ret
    exact ⟨rfl, z1.out⟩
  | some u =>
    rw [up_some hu] at l1
    have t1 : ((u : Int) != -1) = true := bne_iff_ne.2 (by omega)
    obtain ⟨_, _, _, n1, n2, n3, n4⟩ := raw_nn ok x
    have HU := unlink_any h (by omega) u (ok.lt hu).2 x hxn (up_some hu) n1 n2 n3 n4
    rw [ok.unlink_raw hu] at HU
    clear z0 h
    go_enter Tryz.func73, Tryz.ntmps73
    go_wp2_with (first | (go_at_call 33; refine (HH _).mono ?_; rintro e w9 ⟨rfl, hw⟩; have hw2 := hw.symm; clear hw; subst hw2) | (go_at_call 106; refine (HF).mono ?_; rintro e w9 ⟨rfl, hw⟩; have hw2 := hw.symm; clear hw; subst hw2) | (go_at_call 113; refine HU.mono ?_; rintro e w3 ⟨rfl, Z3⟩))
    go_ret
    exact ⟨rfl, Z3⟩

set_option maxHeartbeats 1000000 in
theorem bef_arena (h : Rw tag w b g o c q A.n A.raw pl) (ful : A.Ful) (hn : A.n < 50000) (r x : Int) :
    Calls Tryz.prog 69 #[.pointer (some ⟨b, 0, none⟩), .int .i64 r, .int .i64 x] w fun e w' => e = .returned (.int .i64 (A.befF r x).2) ∧ Rz w tag w' b g o c q A.n (A.befF r x).1.raw pl := by
  have HH := fun z => has_any h (by omega) z
  have ok := ful.toOk
  obtain ⟨Z, hZ⟩ : ∃ Z, A.befF r x = Z := ⟨_, rfl⟩
  rw [hZ]
  unfold Ar.befF at hZ
  have z0 : Rz w tag w b g o c q A.n A.raw pl := Rz.mk h (Kp.refl _ _)
  by_cases hp : A.there r = true
  case neg =>
    have hp : A.there r = false := by simpa using hp
    rw [if_pos (.inl hp)] at hZ
    subst hZ
    rw [there_dec] at hp
    have z1 : Hid (Rz w tag w b g o c q A.n A.raw pl) := z0
    clear z0 h
    go_enter Tryz.func69, Tryz.ntmps69
    go_wp2_with (go_at_call 33; refine (HH _).mono ?_; rintro e w9 ⟨rfl, hw⟩; have hw2 := hw.symm; clear hw; subst hw2)
    go_ret
    exact ⟨rfl, z1.out⟩
  by_cases hx : A.there x = true
  case neg =>
    have hx : A.there x = false := by simpa using hx
    rw [if_pos (.inr hx)] at hZ
    subst hZ
    rw [there_dec] at hp hx
    have z1 : Hid (Rz w tag w b g o c q A.n A.raw pl) := z0
    clear z0 h
    go_enter Tryz.func69, Tryz.ntmps69
    go_wp2_with (go_at_call 33; refine (HH _).mono ?_; rintro e w9 ⟨rfl, hw⟩; have hw2 := hw.symm; clear hw; subst hw2)
    go_ret
    exact ⟨rfl, z1.out⟩
  rw [if_neg (by simp [hp, hx])] at hZ
  obtain ⟨r, rfl, hpn⟩ := there_nat hp
  obtain ⟨x, rfl, hxn⟩ := there_nat hx
  rw [Int.toNat_natCast, Int.toNat_natCast] at hZ
  rw [there_dec] at hp hx
  have HM := follow_any h (by omega) r hpn
  have HF := fixed_any h (by omega) x hxn
  rw [show (A.raw r).lb = A.lb r from rfl] at HM
  rw [show (A.raw x).lb = A.lb x from rfl] at HF
  cases hr : A.up r with
  | none =>
    rw [hr] at hZ
    rw [up_eq hr, show (!Ar.fix (A.lb r) && decide ((-1 : Int) ≠ -1)) = false by simp] at HM
    subst hZ
    have z1 : Hid (Rz w tag w b g o c q A.n A.raw pl) := z0
    clear z0 h HF
    go_enter Tryz.func69, Tryz.ntmps69
    go_wp2_with (first | (go_at_call 33; refine (HH _).mono ?_; rintro e w9 ⟨rfl, hw⟩; have hw2 := hw.symm; clear hw; subst hw2) | (go_at_call 109; refine (HM).mono ?_; rintro e w9 ⟨rfl, hw⟩; have hw2 := hw.symm; clear hw; subst hw2))
    go_ret
    exact ⟨rfl, z1.out⟩
  | some p =>
  rw [hr] at hZ
  replace hZ : (if Ar.fix (A.lb r) = true ∨ Ar.fix (A.lb x) = true then (A, 23) else if A.up x ≠ none then (A, 24) else if A.wn r x = true then (A, 26) else (A.put p (A.place p r) x, 0)) = Z := hZ
  cases h1 : Ar.fix (A.lb r) with
  | true =>
    rw [h1, show (!true && decide ((A.raw r).up ≠ -1)) = false from rfl] at HM
    rw [if_pos (.inl h1)] at hZ
    subst hZ
    have z1 : Hid (Rz w tag w b g o c q A.n A.raw pl) := z0
    clear z0 h HF
    go_enter Tryz.func69, Tryz.ntmps69
    go_wp2_with (first | (go_at_call 33; refine (HH _).mono ?_; rintro e w9 ⟨rfl, hw⟩; have hw2 := hw.symm; clear hw; subst hw2) | (go_at_call 109; refine (HM).mono ?_; rintro e w9 ⟨rfl, hw⟩; have hw2 := hw.symm; clear hw; subst hw2))
    go_ret
    exact ⟨rfl, z1.out⟩
  | false =>
  rw [h1, up_some hr, show (!false && decide ((p : Int) ≠ -1)) = true by simp] at HM
  cases h2 : Ar.fix (A.lb x) with
  | true =>
    rw [h2] at HF
    rw [if_pos (.inr h2)] at hZ
    subst hZ
    have z1 : Hid (Rz w tag w b g o c q A.n A.raw pl) := z0
    clear z0 h
    go_enter Tryz.func69, Tryz.ntmps69
    go_wp2_with (first | (go_at_call 33; refine (HH _).mono ?_; rintro e w9 ⟨rfl, hw⟩; have hw2 := hw.symm; clear hw; subst hw2) | (go_at_call 109; refine (HM).mono ?_; rintro e w9 ⟨rfl, hw⟩; have hw2 := hw.symm; clear hw; subst hw2) | (go_at_call 106; refine (HF).mono ?_; rintro e w9 ⟨rfl, hw⟩; have hw2 := hw.symm; clear hw; subst hw2))
    go_ret
    exact ⟨rfl, z1.out⟩
  | false =>
  rw [h2] at HF
  rw [if_neg (by simp [h1, h2])] at hZ
  obtain ⟨c0, _⟩ := h.head
  obtain ⟨l1, _⟩ := h.links hxn
  have hx0 : (0 : Int) ≤ (x : Int) := by omega
  have hx1 : (x : Int) < (A.n : Int) := by omega
  cases hu : A.up x with
  | some u =>
    rw [if_pos (by rw [hu]; simp)] at hZ
    subst hZ
    rw [up_some hu] at l1
    have t1 : ((u : Int) != -1) = true := bne_iff_ne.2 (by omega)
    have z1 : Hid (Rz w tag w b g o c q A.n A.raw pl) := z0
    clear z0 h
    go_enter Tryz.func69, Tryz.ntmps69
    go_wp2_with (first | (go_at_call 33; refine (HH _).mono ?_; rintro e w9 ⟨rfl, hw⟩; have hw2 := hw.symm; clear hw; subst hw2) | (go_at_call 109; refine (HM).mono ?_; rintro e w9 ⟨rfl, hw⟩; have hw2 := hw.symm; clear hw; subst hw2) | (go_at_call 106; refine (HF).mono ?_; rintro e w9 ⟨rfl, hw⟩; have hw2 := hw.symm; clear hw; subst hw2))
    go_ret
    exact ⟨rfl, z1.out⟩
  | none =>
  rw [if_neg (by rw [hu]; simp)] at hZ
  rw [up_eq hu] at l1
  have HW := iswn_any h ok hn r x hpn hxn
  cases hw : A.wn r x with
  | true =>
    rw [if_pos hw] at hZ
    subst hZ
    rw [hw] at HW
    have z1 : Hid (∀ V, Kp [] w V → Rz w tag V b g o c q A.n A.raw pl) := fun V kV => Rz.mk (h.kept kV) (kV.mono (fun x hx => by simp at hx))
    clear z0 h
    go_enter Tryz.func69, Tryz.ntmps69
    go_wp2_with (first | (go_at_call 33; refine (HH _).mono ?_; rintro e w9 ⟨rfl, hw⟩; have hw2 := hw.symm; clear hw; subst hw2) | (go_at_call 109; refine (HM).mono ?_; rintro e w9 ⟨rfl, hw⟩; have hw2 := hw.symm; clear hw; subst hw2) | (go_at_call 106; refine (HF).mono ?_; rintro e w9 ⟨rfl, hw⟩; have hw2 := hw.symm; clear hw; subst hw2) | (go_at_call 107; refine HW.mono ?_; rintro e w3 ⟨rfl, K3⟩))
    go_ret
    exact ⟨rfl, z1.out _ K3⟩
  | false =>
    rw [if_neg (by rw [hw]; simp)] at hZ
    subst hZ
    rw [hw] at HW
    obtain ⟨k1, k2, ek, ek1, _, _⟩ := ok.split hr
    have epl : A.place p r = k1.length := by
      unfold Ar.place
      rw [ek, List.idxOf_append, if_neg ek1, List.idxOf_cons_self]; simp
    rw [epl]
    have HL := hid_link h ok hn (ok.lt hr).2 hxn hu (k1 := k1) (k2 := r :: k2) ek (r : Int) rfl
    have C3 : Hid (∀ V, Kp [] w V → V.cell? ⟨b, 0, none⟩ = some (.slice (some ⟨g, o, none⟩) A.n c) ∧ V.cell? ⟨g, o + r * 11 + 6, none⟩ = some (.int .i64 (p : Int))) := fun V kV => ⟨(h.kept kV).head.1, by rw [((h.kept kV).links hpn).1, up_some hr]⟩
    have hr0 : (0 : Int) ≤ (r : Int) := by omega
    have hr1 : (r : Int) < (A.n : Int) := by omega
    clear z0 h ek ek1 epl
    go_enter Tryz.func69, Tryz.ntmps69
    go_wp2_with (first | (go_at_call 33; refine (HH _).mono ?_; rintro e w9 ⟨rfl, hw⟩; have hw2 := hw.symm; clear hw; subst hw2) | (go_at_call 109; refine (HM).mono ?_; rintro e w9 ⟨rfl, hw⟩; have hw2 := hw.symm; clear hw; subst hw2) | (go_at_call 106; refine (HF).mono ?_; rintro e w9 ⟨rfl, hw⟩; have hw2 := hw.symm; clear hw; subst hw2) | (go_at_call 107; refine HW.mono ?_; rintro e w3 ⟨rfl, K3⟩; obtain ⟨c3, d3⟩ := C3.out _ K3) | (go_at_call 108; refine (HL.out _ K3).mono ?_; rintro e w4 ⟨rfl, Z4⟩))
    go_ret
    exact ⟨rfl, Z4⟩

end

end Go.Proofs.YtpkppobkagdhkaaGreat
