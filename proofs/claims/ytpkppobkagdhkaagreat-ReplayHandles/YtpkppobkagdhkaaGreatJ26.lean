/-
  Joined: RdA RdB RdC RrefB RrefE.
-/
import Derived.Test.YtpkppobkagdhkaaGreatJ14
import Derived.Test.YtpkppobkagdhkaaGreatJ21
import Derived.Test.YtpkppobkagdhkaaGreatJ11

/-
  The document's arena in memory; what it reads: there, holds, fixed, within, place.
-/
namespace Go.Proofs.YtpkppobkagdhkaaGreat
open Go.RowKit Go.Maps Utf
set_option linter.unusedVariables false
set_option linter.unusedSimpArgs false

theorem six_arr (l : Lb) (p : Pl) : (six l p).toArray = #[.int .i64 l.kind, .int .i64 l.ns, .string l.name, .slice p.1.1 p.1.2.1 p.1.2.2, .string l.text, .slice p.2.1 p.2.2.1 p.2.2.2] := rfl

/-- Where a node's two lists lie: its attributes, its kids. -/
abbrev Dp := (Option Addr × Nat × Nat) × (Option Addr × Nat × Nat)

/-- A node's cells. -/
def dl (l : Lb) (up : Int) (p : Dp) : List Value := [.int .i64 l.kind, .int .i64 l.ns, .string l.name, .string l.text, .slice p.1.1 p.1.2.1 p.1.2.2, .slice p.2.1 p.2.2.1 p.2.2.2, .int .i64 up]
theorem dl_len (l : Lb) (up : Int) (p : Dp) : (dl l up p).length = 7 := rfl

abbrev Q5 (tag : Nat → Nat) : Nat → Prop := fun x => tag x = 5

/-- The document's arena: marks 3 (its struct), 4 (the list of nodes), 5 (lists that are never written again). -/
structure Dd (tag : Nat → Nat) (w : World) (d g o c : Nat) (q : Bool) (A : Ar) (pl : Nat → Dp) : Prop where
  hd : At w d #[.slice (some ⟨g, o, none⟩) A.n c, .bool q] 69
  td : tag d = 3
  cap : A.n ≤ c
  max : c ≤ maxLen
  body : ∃ cur, At w g cur 106 ∧ o + c * 7 ≤ cur.size ∧ ∀ i, i < A.n → ∀ k, k < 7 → cur[o + i * 7 + k]? = (dl (A.lb i) (Ar.upI (A.up i)) (pl i))[k]?
  tg : tag g = 4
  att : ∀ i, i < A.n → Rk (Q5 tag) 2 w (pl i).1.1 (pl i).1.2.1 (pl i).1.2.2 (cs (A.lb i).attrs)
  kid : ∀ i, i < A.n → Rk (Q5 tag) 1 w (pl i).2.1 (pl i).2.2.1 (pl i).2.2.2 (iv (A.kids i))
  kf : ∀ i, i < A.n → (pl i).2 = (none, 0, 0) ∨ ∃ b7 o7, (pl i).2.1 = some ⟨b7, o7, none⟩

section
variable {tag : Nat → Nat} {w : World} {d g o c : Nat} {q : Bool} {A : Ar} {pl : Nat → Dp}

theorem Dd.ne (h : Dd tag w d g o c q A pl) : d ≠ g := fun e => by
  have h1 := h.td
  rw [e, h.tg] at h1
  cases h1

theorem Dd.lt (h : Dd tag w d g o c q A pl) : d < w.heap.size ∧ g < w.heap.size := by
  obtain ⟨cur, h1, _⟩ := h.body
  exact ⟨h.hd.lt, h1.lt⟩

/-- Blocks of other marks have turned. -/
theorem Dd.sm {tag' : Nat → Nat} {w' : World} (h : Dd tag w d g o c q A pl) (hb : ∀ x, x < w.heap.size → tag x = 3 ∨ tag x = 4 ∨ tag x = 5 → w'.heap[x]? = w.heap[x]?) (ht : ∀ x, x < w.heap.size → tag' x = tag x) : Dd tag' w' d g o c q A pl := by
  obtain ⟨ld, lg⟩ := h.lt
  obtain ⟨cur, h1, h2, h3⟩ := h.body
  have hs : Sm (Q5 tag) w w' := fun x hq hx => hb x hx (.inr (.inr hq))
  have hm : ∀ {K ao n c xs}, Rk (Q5 tag) K w ao n c xs → Rk (Q5 tag') K w' ao n c xs := fun {K ao n c xs} r => by
    refine ⟨r.len, r.cap, fun hn => ?_⟩
    obtain ⟨b, off, cur, t, hq, e1, e2, e3⟩ := r.at' hn
    have hl := lt_of e2
    exact ⟨b, off, cur, t, (ht b hl).trans hq, e1, by rw [hs b hq hl]; exact e2, e3⟩
  refine ⟨?_, by rw [ht d ld]; exact h.td, h.cap, h.max, ⟨cur, ?_, h2, h3⟩, by rw [ht g lg]; exact h.tg, fun i hi => hm (h.att i hi), fun i hi => hm (h.kid i hi), h.kf⟩
  · unfold At; rw [hb d ld (.inl h.td)]; exact h.hd
  · unfold At; rw [hb g lg (.inr (.inl h.tg))]; exact h1

theorem Dd.kept {w' : World} (h : Dd tag w d g o c q A pl) (k : Kp [] w w') : Dd tag w' d g o c q A pl := h.sm (fun x hx _ => k.block x hx (by simp)) (fun _ _ => rfl)

theorem Dd.head (h : Dd tag w d g o c q A pl) : w.cell? ⟨d, 0, none⟩ = some (.slice (some ⟨g, o, none⟩) A.n c) ∧ w.cell? ⟨d, 1, none⟩ = some (.bool q) := ⟨h.hd.cell 0, h.hd.cell 1⟩

theorem Dd.at (h : Dd tag w d g o c q A pl) {i : Nat} (hi : i < A.n) {k : Nat} (hk : k < 7) : w.cell? ⟨g, o + i * 7 + k, none⟩ = (dl (A.lb i) (Ar.upI (A.up i)) (pl i))[k]? := by
  obtain ⟨cur, h1, h2, h3⟩ := h.body
  rw [h1.cell, h3 i hi k hk]

theorem Dd.seven (h : Dd tag w d g o c q A pl) {i : Nat} (hi : i < A.n) : w.cell? ⟨g, o + i * 7, none⟩ = some (.int .i64 (A.lb i).kind) ∧ w.cell? ⟨g, o + i * 7 + 1, none⟩ = some (.int .i64 (A.lb i).ns) ∧ w.cell? ⟨g, o + i * 7 + 2, none⟩ = some (.string (A.lb i).name) ∧ w.cell? ⟨g, o + i * 7 + 3, none⟩ = some (.string (A.lb i).text) ∧ w.cell? ⟨g, o + i * 7 + 4, none⟩ = some (.slice (pl i).1.1 (pl i).1.2.1 (pl i).1.2.2) ∧ w.cell? ⟨g, o + i * 7 + 5, none⟩ = some (.slice (pl i).2.1 (pl i).2.2.1 (pl i).2.2.2) ∧ w.cell? ⟨g, o + i * 7 + 6, none⟩ = some (.int .i64 (Ar.upI (A.up i))) :=
  ⟨h.at hi (k := 0) (by omega), h.at hi (k := 1) (by omega), h.at hi (k := 2) (by omega), h.at hi (k := 3) (by omega), h.at hi (k := 4) (by omega), h.at hi (k := 5) (by omega), h.at hi (k := 6) (by omega)⟩

theorem Dd.free (h : Dd tag w d g o c q A pl) (j : Nat) : w.frozen? ⟨g, j, none⟩ = false := by
  obtain ⟨cur, h1, h2, h3⟩ := h.body
  exact h1.free j

theorem Dd.klen (h : Dd tag w d g o c q A pl) {i : Nat} (hi : i < A.n) : (pl i).2.2.1 = (A.kids i).length := by
  have := (h.kid i hi).len
  rw [iv_len] at this
  omega

theorem Rk.iv_at {Q : Nat → Prop} {ao : Option Addr} {n c : Nat} {l : List Nat} (h : Rk Q 1 w ao n c (iv l)) (k : Nat) (hk : k < l.length) : ∃ b off, ao = some ⟨b, off, none⟩ ∧ w.cell? ⟨b, off + k, none⟩ = some (.int .i64 (l[k] : Int)) := by
  have hl := h.len
  rw [iv_len] at hl
  obtain ⟨b, off, cur, t, _, e1, e2, e3⟩ := h.at' (by omega)
  refine ⟨b, off, e1, ?_⟩
  rw [cell_of e2, e3 k (by omega)]
  simp [iv, hk]

theorem rthere_any (h : Dd tag w d g o c q A pl) (z : Int) :
    Calls Tryz.prog 92 #[.pointer (some ⟨d, 0, none⟩), .int .i64 z] w fun e w' => e = .returned (.bool (A.there z)) ∧ w' = w := by
  obtain ⟨c0, _⟩ := h.head
  clear h
  rw [there_dec]
  by_cases h1 : 0 ≤ z
  · by_cases h2 : z < A.n
    · rw [decide_eq_true ⟨h1, h2⟩]
      go_enter Tryz.func92, Tryz.ntmps92
      go_wp2
      go_ret
      exact ⟨rfl, rfl⟩
    · rw [decide_eq_false (fun e => h2 e.2)]
      go_enter Tryz.func92, Tryz.ntmps92
      go_wp2
      go_ret
      exact ⟨rfl, rfl⟩
  · rw [decide_eq_false (fun e => h1 e.1)]
    go_enter Tryz.func92, Tryz.ntmps92
    go_wp2
    go_ret
    exact ⟨rfl, rfl⟩

theorem rholds_any (h : Dd tag w d g o c q A pl) (x : Nat) (hx : x < A.n) :
    Calls Tryz.prog 93 #[.pointer (some ⟨d, 0, none⟩), .int .i64 (x : Int)] w fun e w' => e = .returned (.bool (Ar.hld (A.lb x))) ∧ w' = w := by
  obtain ⟨c0, _⟩ := h.head
  obtain ⟨s0, _⟩ := h.seven hx
  have j1 : (0 : Int) ≤ (x : Int) := by omega
  have j2 : (x : Int) < (A.n : Int) := by omega
  clear h
  unfold Ar.hld
  generalize (A.lb x).kind = kd at s0 ⊢
  by_cases e1 : kd = 1
  · subst e1
    go_enter Tryz.func93, Tryz.ntmps93
    go_wp2
    go_ret
    exact ⟨rfl, rfl⟩
  by_cases e3 : kd = 3
  · subst e3
    go_enter Tryz.func93, Tryz.ntmps93
    go_wp2
    go_ret
    exact ⟨rfl, rfl⟩
  by_cases e6 : kd = 6
  · subst e6
    go_enter Tryz.func93, Tryz.ntmps93
    go_wp2
    go_ret
    exact ⟨rfl, rfl⟩
  rw [decide_eq_false e1, decide_eq_false e3, decide_eq_false e6]
  have b1 : (kd == 1) = false := beq_false_of_ne e1
  have b3 : (kd == 3) = false := beq_false_of_ne e3
  have b6 : (kd == 6) = false := beq_false_of_ne e6
  go_enter Tryz.func93, Tryz.ntmps93
  go_wp2
  go_ret
  exact ⟨rfl, rfl⟩

theorem rfixed_any (h : Dd tag w d g o c q A pl) (x : Nat) (hx : x < A.n) :
    Calls Tryz.prog 94 #[.pointer (some ⟨d, 0, none⟩), .int .i64 (x : Int)] w fun e w' => e = .returned (.bool (Ar.fix (A.lb x))) ∧ w' = w := by
  obtain ⟨c0, _⟩ := h.head
  obtain ⟨s0, _⟩ := h.seven hx
  have j1 : (0 : Int) ≤ (x : Int) := by omega
  have j2 : (x : Int) < (A.n : Int) := by omega
  clear h
  unfold Ar.fix
  generalize (A.lb x).kind = kd at s0 ⊢
  by_cases e1 : kd = 1
  · subst e1
    go_enter Tryz.func94, Tryz.ntmps94
    go_wp2
    go_ret
    exact ⟨rfl, rfl⟩
  by_cases e6 : kd = 6
  · subst e6
    go_enter Tryz.func94, Tryz.ntmps94
    go_wp2
    go_ret
    exact ⟨rfl, rfl⟩
  rw [decide_eq_false e1, decide_eq_false e6]
  have b1 : (kd == 1) = false := beq_false_of_ne e1
  have b6 : (kd == 6) = false := beq_false_of_ne e6
  go_enter Tryz.func94, Tryz.ntmps94
  go_wp2
  go_ret
  exact ⟨rfl, rfl⟩

end

end Go.Proofs.YtpkppobkagdhkaaGreat

/-
  The document's arena: within, place.
-/
namespace Go.Proofs.YtpkppobkagdhkaaGreat
open Go.RowKit Go.Maps Utf
set_option linter.unusedVariables false
set_option linter.unusedSimpArgs false

section
variable {tag : Nat → Nat} {w : World} {d g o c : Nat} {q : Bool} {A : Ar} {pl : Nat → Dp}

set_option maxHeartbeats 1000000 in
theorem rwithin_any (h : Dd tag w d g o c q A pl) (ok : A.Ok) (x t : Nat) (hx : x < A.n) :
    Calls Tryz.prog 95 #[.pointer (some ⟨d, 0, none⟩), .int .i64 (x : Int), .int .i64 (t : Int)] w fun e w' => e = .returned (.bool (A.wn x t)) ∧ w' = w := by
  obtain ⟨c0, _⟩ := h.head
  obtain ⟨R, hR⟩ : ∃ R, A.wn x t = R := ⟨_, rfl⟩
  have HR : Hid (A.Wn x t ↔ R = true) := by rw [← hR]; exact (Ar.wn_iff ok hx).symm
  rw [hR]
  have HU : Hid (∀ i, i < A.n → w.cell? ⟨g, o + i * 7 + 6, none⟩ = some (.int .i64 (Ar.upI (A.up i)))) := fun i hi => (h.seven hi).2.2.2.2.2.2
  have ok' := ok
  obtain ⟨r, hr⟩ := ok'.rank
  obtain ⟨μ, hμ1, hμ2⟩ : ∃ μ : Int → Nat, μ (-1) = 0 ∧ ∀ k : Nat, μ (k : Int) = r k + 1 := ⟨fun z => if z < 0 then 0 else r z.toNat + 1, by simp, fun k => by simp only []; rw [if_neg (by omega), Int.toNat_natCast]⟩
  have HM1 : Hid (μ (-1) = 0) := hμ1
  have HM2 : Hid (∀ k : Nat, μ (k : Int) = r k + 1) := hμ2
  clear hμ1 hμ2
  clear h hR
  go_enter Tryz.func95, Tryz.ntmps95
  go_wp2_with fail
  go_loopw [1] (fun z wr => wr = w ∧ ((z = .int .i64 (-1) ∧ R = false) ∨ ∃ cur : Nat, z = .int .i64 (cur : Int) ∧ cur < A.n ∧ (R = true ↔ A.Wn cur t))) (fun z _ => μ (intOf z))
  case atStart => exact ⟨rfl, .inr ⟨x, rfl, hx, HR.out.symm⟩⟩
  case round =>
    obtain ⟨hw, hz⟩ := hrel
    obtain rfl : wr = w := hw
    rcases hz with ⟨rfl, rfl⟩ | ⟨cur, rfl, hc, hW⟩
    · clear HU HR
      go_wp2
      go_ret
      exact ⟨rfl, rfl⟩
    · have j1 : (0 : Int) ≤ (cur : Int) := by omega
      have j2 : (cur : Int) < (A.n : Int) := by omega
      by_cases hct : cur = t
      · subst hct
        obtain rfl : R = true := hW.2 (Ar.Wn.refl A cur)
        clear HU HR hW
        go_wp2
        go_ret
        exact ⟨rfl, rfl⟩
      · have t1 : ((cur : Int) == (t : Int)) = false := beq_false_of_ne (by omega)
        have d1 := HU.out cur hc
        cases hu : A.up cur with
        | none =>
          rw [hu, show Ar.upI none = -1 from rfl] at d1
          have hR0 : Hid (R = false) := by
            cases R with
            | false => rfl
            | true => exact absurd ((Ar.Wn.none hu).1 (hW.1 rfl)) hct
          clear HU HR hW hu
          go_wp2
          go_roundw
          case rel => exact ⟨trivial, .inl ⟨rfl, hR0.out⟩⟩
          case measure => show μ (-1) < μ (cur : Int); rw [HM1.out, HM2.out]; omega
        | some p =>
          rw [hu, show Ar.upI (some p) = (p : Int) from rfl] at d1
          have hW2 : Hid (R = true ↔ A.Wn p t) := hW.trans ((Ar.Wn.some hu).trans ⟨fun h => h.resolve_left hct, .inr⟩)
          have hrp : Hid (r p < r cur ∧ p < A.n) := ⟨hr cur p hu, (ok.lt hu).2⟩
          clear HU HR hW hu
          go_wp2
          go_roundw
          case rel => exact ⟨trivial, .inr ⟨p, rfl, hrp.out.2, hW2.out⟩⟩
          case measure => show μ (p : Int) < μ (cur : Int); rw [HM2.out, HM2.out]; have := hrp.out.1; omega

set_option maxRecDepth 100000 in
set_option maxHeartbeats 1000000 in
theorem rplace_any (h : Dd tag w d g o c q A pl) (ok : A.Ok) (hn : A.n < 50000) (x p : Nat) (hu : A.up x = some p) :
    Calls Tryz.prog 97 #[.pointer (some ⟨d, 0, none⟩), .int .i64 (x : Int)] w fun e w' => e = .returned (.int .i64 (A.place p x : Int)) ∧ Kp [] w w' := by
  obtain ⟨hx, hp⟩ := ok.lt hu
  obtain ⟨m1, m2⟩ := Ar.place_lt ok hu
  have kl := h.klen hp
  have hb : (A.kids p).length ≤ A.n := Ar.pig _ _ (ok.one p) (fun y hy => (ok.kid_lt hy).1)
  have HK : Hid (∀ i (hi : i < (A.kids p).length) V, Kp [] w V → ∃ b7 o7, (pl p).2.1 = some ⟨b7, o7, none⟩ ∧ V.cell? ⟨b7, o7 + i, none⟩ = some (.int .i64 ((A.kids p)[i] : Int))) := fun i hi V kV => ((h.kept kV).kid p hp).iv_at i hi
  have HPl : Hid (∀ i (hi : i < (A.kids p).length), (A.kids p)[i] = x → i = A.place p x) := fun i hi e => by rw [← e]; exact (Ar.place_at ok hi).symm
  have HPx : Hid ((A.kids p)[A.place p x]? = some x) := m2
  have hS1 : (World.drew w).cell? ⟨d, 0, none⟩ = some (.slice (some ⟨g, o, none⟩) A.n c) ∧ (World.drew w).cell? ⟨g, o + x * 7 + 6, none⟩ = some (.int .i64 (p : Int)) ∧ (World.drew w).cell? ⟨g, o + p * 7 + 5, none⟩ = some (.slice (pl p).2.1 (pl p).2.2.1 (pl p).2.2.2) := by
    have e6 := (h.seven hx).2.2.2.2.2.2
    rw [hu] at e6
    exact ⟨h.head.1, e6, (h.seven hp).2.2.2.2.2.1⟩
  have j1 : (0 : Int) ≤ (x : Int) := by omega
  have j2 : (x : Int) < (A.n : Int) := by omega
  have j3 : (0 : Int) ≤ (p : Int) := by omega
  have j4 : (p : Int) < (A.n : Int) := by omega
  rw [kl] at hS1
  generalize (pl p).2.1 = ko at HK hS1
  generalize (pl p).2.2.2 = kc at hS1
  clear h kl
  generalize A.place p x = m at *
  generalize A.kids p = ks at *
  go_enter Tryz.func97, Tryz.ntmps97
  go_wp2_with fail
  refine wp_region_g (S := fun V => V.cell? ⟨d, 0, none⟩ = some (.slice (some ⟨g, o, none⟩) A.n c) ∧ V.cell? ⟨g, o + x * 7 + 6, none⟩ = some (.int .i64 (p : Int)) ∧ V.cell? ⟨g, o + p * 7 + 5, none⟩ = some (.slice ko ks.length kc)) (T := []) (by kernel_rfl) hS1 (fun hHeld => ?_)
  refine g_pure 0 (some 7) (.move (.tmp 0)) ?_
  refine g_pure 1 (some 8) (.nilCheck (.tmp 7)) ?_
  refine g_pure 2 (some 9) (.fieldAddr 69 (.tmp 8) 0) ?_
  refine g_take 3 (some 10) (.load 67 (.tmp 9)) (by intro w hSw; (obtain ⟨q1, q2, q3⟩ := hSw); go_simp; try with_reducible rfl) ?_
  refine g_pure 4 (some 11) (.move (.tmp 0)) ?_
  refine g_pure 5 (some 12) (.nilCheck (.tmp 11)) ?_
  refine g_pure 6 (some 13) (.fieldAddr 69 (.tmp 12) 0) ?_
  refine g_take 7 (some 14) (.load 67 (.tmp 13)) (by intro w hSw; (obtain ⟨q1, q2, q3⟩ := hSw); go_simp; try with_reducible rfl) ?_
  refine g_pure 8 (some 15) (.move (.tmp 1)) ?_
  refine g_pure 9 (some 16) (.indexAddr 67 (.tmp 14) (.tmp 15)) ?_
  refine g_pure 10 (some 17) (.fieldAddr 106 (.tmp 16) 6) ?_
  refine g_take 11 (some 18) (.load 3 (.tmp 17)) (by intro w hSw; (obtain ⟨q1, q2, q3⟩ := hSw); go_simp; try with_reducible rfl) ?_
  refine g_pure 12 (some 19) (.indexAddr 67 (.tmp 10) (.tmp 18)) ?_
  refine g_pure 13 (some 20) (.fieldAddr 106 (.tmp 19) 5) ?_
  refine g_take 14 (some 21) (.load 61 (.tmp 20)) (by intro w hSw; (obtain ⟨q1, q2, q3⟩ := hSw); go_simp; try with_reducible rfl) ?_
  refine g_pure 15 (some 5) (.assign (.tmp 21)) ?_
  refine wpAnyG_free (by kernel_rfl) ?_
  refine wpAny_done (by kernel_rfl) ?_ _
  clear hS1
  go_wp2_with fail
  go_loopw [6] (fun z wr => ∃ i : Nat, z = .int .i64 (i : Int) ∧ i ≤ m ∧ Kp [] w wr) (fun z _ => m - (intOf z).toNat)
  case atStart => exact ⟨0, rfl, Nat.zero_le _, (Kp.refl _ _).drew⟩
  case round =>
    obtain ⟨i, rfl, hi, kr⟩ := hrel
    have hik : i < ks.length := by omega
    obtain ⟨b7, o7, rfl, hc7⟩ := HK.out i hik wr kr
    have i1 : (0 : Int) ≤ (i : Int) := by omega
    have i2 : (i : Int) < (ks.length : Int) := by omega
    have b1 : decide ((i : Int) < (ks.length : Int)) = true := decide_eq_true i2
    by_cases e : ks[i] = x
    · obtain rfl : i = m := HPl.out i hik e
      rw [e] at hc7
      clear HK HPl HPx
      go_wp2
      go_ret
      exact ⟨rfl, kr⟩
    · have him : i < m := by
        rcases Nat.lt_or_ge i m with h1 | h1
        · exact h1
        · obtain rfl : i = m := by omega
          have := HPx.out
          rw [List.getElem?_eq_getElem hik] at this
          exact absurd (Option.some.inj this) e
      have b2 : ((ks[i] : Int) == (x : Int)) = false := beq_false_of_ne (by omega)
      generalize ks[i] = y at hc7 b2 e
      clear HK HPl HPx
      go_wp2
      go_roundw
      case rel => exact ⟨i + 1, by go_num, by omega, kr⟩
      case measure => simp [intOf]; omega

end

end Go.Proofs.YtpkppobkagdhkaaGreat

/-
  The document's arena: put.
-/
namespace Go.Proofs.YtpkppobkagdhkaaGreat
open Go.RowKit Go.Maps Utf
set_option linter.unusedVariables false
set_option linter.unusedSimpArgs false

theorem Made.join {w w1 : World} {ao : Option Addr} {n c : Nat} {xs : List Value} (h : Made w w1 3 ao n c xs) (ha : ao ≠ none) (src : Value) (m : Nat) (news : List Value) (hs : Src Tryz.prog 1 61 src m news w1) (hlen : xs.length + m ≤ 1000000) :
    ∃ a' n' c' w2, (∀ ty, (Builtin.append_ #[61, 61] ty #[.slice ao n c, src]).run Tryz.prog w1 = .ok (.slice (some a') n' c') w2) ∧ Made w w2 3 (some a') n' c' (xs ++ news) ∧ Kp (blk (.slice ao n c)) w1 w2 ∧ ∀ k, k ∈ blk (.slice (some a') n' c') → k ∈ blk (.slice ao n c) ∨ k = w1.heap.size := by
  obtain ⟨h1, h2, h3⟩ := h
  obtain ⟨v', w2, hrun, o2, k2, b2, a2, c2, rfl⟩ := app_any Tryz.underlying61 infoI1 rfl (by decide) w1 _ _ h1 src m news hs (fun e => by cases e; exact absurd rfl ha) hlen
  refine ⟨_, _, _, w2, hrun, ⟨o2, h2.trans k2 (fun x hx => Or.inr (h3 x hx)), fun k hk => ?_⟩, k2, b2⟩
  rcases b2 k hk with h4 | h4
  · exact h3 k h4
  · have := h2.size
    omega

theorem Rk.drop1 {Q : Nat → Prop} {w : World} {b off n c : Nat} {xs : List Value} (h : Rk Q 1 w (some ⟨b, off, none⟩) n c xs) (k : Nat) (hk : k ≤ n) : Rk Q 1 w (some ⟨b, off + k, none⟩) (n - k) (c - k) (xs.drop k) := by
  refine ⟨by rw [List.length_drop, h.len]; omega, by have := h.cap; omega, fun hn => ?_⟩
  obtain ⟨b', off', cur, e, hq, e1, e2, e3⟩ := h.at' (by omega)
  simp only [Option.some.injEq, Addr.mk.injEq] at e1
  obtain ⟨rfl, rfl, _⟩ := e1
  refine ⟨b, off + k, cur, e, hq, rfl, e2, fun j hj => ?_⟩
  rw [Nat.add_assoc, e3 (k + j) (by omega), List.getElem?_drop]

theorem iv_one (l : List Nat) : ∀ u, u ∈ iv l → u.oneCell' = true := fun u hu => by
  obtain ⟨x, _, rfl⟩ := List.mem_map.1 hu
  rfl

theorem Rk.drop2 {Q : Nat → Prop} {w : World} {b off n c : Nat} {xs : List Value} (h : Rk Q 1 w (some ⟨b, off, none⟩) n c xs) (k : Nat) (hk : k ≤ n) : Rk Q 1 w (if c = k then some ⟨b, off, none⟩ else some ⟨b, off + k, none⟩) (n - k) (c - k) (xs.drop k) := by
  by_cases e : c = k
  · have hc := h.cap
    have hl := h.len
    have h0 : n - k = 0 := by omega
    rw [if_pos e, h0, show xs.drop k = [] from List.drop_eq_nil_of_le (by omega)]
    exact Rk.nil _ _ _ _ _
  · rw [if_neg e]; exact h.drop1 k hk

theorem rk_lit {U : World} {g : Nat} {u : Value} {e : TypeId} (h : At U g #[u] e) : Rk Any 1 U (some ⟨g, 0, none⟩) 1 1 [u] :=
  ⟨rfl, Nat.le_refl _, fun _ => ⟨g, 0, _, e, trivial, rfl, h, fun j hj => by have : j = 0 := (by omega); subst this; rfl⟩⟩

section
variable {tag : Nat → Nat} {w : World} {d g o c : Nat} {q : Bool} {A : Ar} {pl : Nat → Dp}

/-- A cell of a node is written. -/
theorem Dd.set {A' : Ar} {pl' : Nat → Dp} (h : Dd tag w d g o c q A pl) {i k : Nat} (hi : i < A.n) (hk : k < 7) (u : Value) (hA : A'.n = A.n) (he : dl (A'.lb i) (Ar.upI (A'.up i)) (pl' i) = (dl (A.lb i) (Ar.upI (A.up i)) (pl i)).set k u)
    (hN : ∀ j, j < A.n → j ≠ i → dl (A'.lb j) (Ar.upI (A'.up j)) (pl' j) = dl (A.lb j) (Ar.upI (A.up j)) (pl j))
    (hat : ∀ j, j < A.n → Rk (Q5 tag) 2 w (pl' j).1.1 (pl' j).1.2.1 (pl' j).1.2.2 (cs (A'.lb j).attrs)) (hki : ∀ j, j < A.n → Rk (Q5 tag) 1 w (pl' j).2.1 (pl' j).2.2.1 (pl' j).2.2.2 (iv (A'.kids j)))
    (hkf : ∀ j, j < A.n → (pl' j).2 = (none, 0, 0) ∨ ∃ b7 o7, (pl' j).2.1 = some ⟨b7, o7, none⟩) :
    Dd tag (w.setCell ⟨g, o + i * 7 + k, none⟩ u) d g o c q A' pl' := by
  have hne := h.ne
  obtain ⟨cur, h1, h2, h3⟩ := h.body
  have k1 : Kp [g] w (w.setCell ⟨g, o + i * 7 + k, none⟩ u) := (Kp.refl _ _).setCell (Or.inl (by simp)) _
  have hs : Sm (Q5 tag) w (w.setCell ⟨g, o + i * 7 + k, none⟩ u) := k1.sms (fun x hq hx => by rw [List.mem_singleton.1 hx] at hq; have := h.tg; omega)
  refine ⟨by rw [hA]; exact h.hd.kept k1 (by simpa using hne), h.td, by rw [hA]; exact h.cap, h.max, ⟨_, h1.set _ u, by simpa using h2, fun j hj l hl => ?_⟩, h.tg, fun j hj => (hat j (by omega)).keep hs, fun j hj => (hki j (by omega)).keep hs, fun j hj => hkf j (by omega)⟩
  rw [hA] at hj
  rw [Array.getElem?_setIfInBounds]
  have hcap := h.cap
  have hm : i * 7 + 7 ≤ c * 7 := by omega
  by_cases hjl : o + i * 7 + k = o + j * 7 + l
  · obtain ⟨rfl, rfl⟩ : i = j ∧ k = l := by omega
    rw [if_pos rfl, if_pos (by omega), he, List.getElem?_set_self (by rw [dl_len]; exact hk)]
  · rw [if_neg hjl]
    by_cases hji : j = i
    · subst hji
      rw [he, List.getElem?_set_ne (fun e => hjl (by rw [e])), h3 j hj l hl]
    · rw [hN j hj hji, h3 j hj l hl]

def tg5 (tag : Nat → Nat) (w : World) : Nat → Nat := fun b => if b < w.heap.size then tag b else 5
theorem tg5_lt {b : Nat} (hb : b < w.heap.size) : tg5 tag w b = tag b := if_pos hb

/-- New lists are read only, too. -/
theorem Dd.fresh {U : World} (h : Dd tag w d g o c q A pl) (k : Kp [] w U) : Dd (tg5 tag w) U d g o c q A pl := h.sm (fun x hx _ => k.block x hx (by simp)) (fun x hx => tg5_lt hx)

theorem Made.rk5 {U : World} {ao : Option Addr} {n c : Nat} {l : List Nat} (h : Made w U 3 ao n c (iv l)) : Rk (Q5 (tg5 tag w)) 1 U ao n c (iv l) := by
  have hl := h.rb.len
  have hc := h.rb.cap
  obtain ⟨h1, h2, h3⟩ := h
  refine ⟨by omega, hc, fun hn => ?_⟩
  rcases h1 with ⟨e1, e2⟩ | ⟨g', o', cap, cur, e1, e2, e3, e4, e5, e6⟩
  · cases e1; omega
  · cases e1
    exact ⟨g', o', cur, 3, if_neg (by have := h3 g' (by simp [blk]); omega), rfl, e2, fun j hj => e6 j (by omega)⟩

/-- The kids of p have turned, and x has another parent. -/
theorem Dd.kids {U : World} {a : Addr} {n' c' : Nat} {l : List Nat} (h : Dd tag w d g o c q A pl) (M : Made w U 3 (some a) n' c' (iv l)) {p x : Nat} (hp : p < A.n) (hx : x < A.n) (up : Option Nat) :
    ∃ pl', Dd (tg5 tag w) (U.setCell ⟨g, o + p * 7 + 5, none⟩ (.slice (some a) n' c')) d g o c q { A with kids := fun y => if y = p then l else A.kids y } pl' ∧ Dd (tg5 tag w) ((U.setCell ⟨g, o + p * 7 + 5, none⟩ (.slice (some a) n' c')).setCell ⟨g, o + x * 7 + 6, none⟩ (.int .i64 (Ar.upI up))) d g o c q { A with kids := fun y => if y = p then l else A.kids y, up := fun y => if y = x then up else A.up y } pl' := by
  have h1 := h.fresh M.2.1
  have hr := M.rk5 (tag := tag)
  have hsp : ∃ b7 o7, a = ⟨b7, o7, none⟩ := by
    rcases M.1 with ⟨e1, _⟩ | ⟨g', o', cap, cur, e1, _⟩
    · cases e1
    · cases e1; exact ⟨_, _, rfl⟩
  obtain ⟨P, hP⟩ : ∃ P : Nat → Dp, P = fun y => if y = p then ((pl p).1, (some a, n', c')) else pl y := ⟨_, rfl⟩
  have Pp : P p = ((pl p).1, (some a, n', c')) := by rw [hP]; simp
  have Pn : ∀ j, j ≠ p → P j = pl j := fun j hj => by rw [hP]; simp [hj]
  have e1 : ∀ j, (P j).1 = (pl j).1 := fun j => by
    by_cases e : j = p
    · rw [e, Pp]
    · rw [Pn j e]
  have h2 : Dd (tg5 tag w) (U.setCell ⟨g, o + p * 7 + 5, none⟩ (.slice (some a) n' c')) d g o c q { A with kids := fun y => if y = p then l else A.kids y } P := by
    refine h1.set (A' := { A with kids := fun y => if y = p then l else A.kids y }) hp (by omega) _ rfl ?_ (fun j hj hne => ?_) (fun j hj => ?_) (fun j hj => ?_) (fun j hj => ?_)
    · show dl (A.lb p) (Ar.upI (A.up p)) (P p) = _
      rw [Pp]; rfl
    · show dl (A.lb j) (Ar.upI (A.up j)) (P j) = _
      rw [Pn j hne]
    · rw [e1 j]; exact h1.att j hj
    · show Rk _ 1 _ _ _ _ (iv (if j = p then l else A.kids j))
      by_cases e : j = p
      · subst e; rw [Pp, if_pos rfl]; exact hr
      · rw [Pn j e, if_neg e]; exact h1.kid j hj
    · by_cases e : j = p
      · subst e
        obtain ⟨b7, o7, ha⟩ := hsp
        rw [Pp]; exact .inr ⟨b7, o7, by rw [ha]⟩
      · rw [Pn j e]; exact h1.kf j hj
  refine ⟨P, h2, h2.set (A' := { A with kids := fun y => if y = p then l else A.kids y, up := fun y => if y = x then up else A.up y }) hx (by omega) _ rfl ?_ (fun j hj hne => ?_) h2.att h2.kid h2.kf⟩
  · show dl (A.lb x) (Ar.upI (if x = x then up else A.up x)) (P x) = (dl (A.lb x) (Ar.upI (A.up x)) (P x)).set 6 _
    rw [if_pos rfl]; rfl
  · show dl (A.lb j) (Ar.upI (if j = x then up else A.up j)) (P j) = dl (A.lb j) (Ar.upI (A.up j)) (P j)
    rw [if_neg hne]
end

end Go.Proofs.YtpkppobkagdhkaaGreat

/-
  The document's Right.
-/
namespace Go.Proofs.YtpkppobkagdhkaaGreat
open Go.RowKit
set_option linter.unusedVariables false
set_option linter.unusedSimpArgs false

set_option maxRecDepth 100000 in
set_option maxHeartbeats 2000000 in
theorem rref_2 (w : World) (a2 a3 a4 a5 a6 : Int) (a7 : ByteArray) (a8 : List Att) (a9 : ByteArray) (p1 : Option Addr) (p2 p3 : Nat) (hq : p2 = a8.length) (hb : p2 ≤ 100000) :
    Calls Tryz.prog 48 #[ov ⟨2, a2, a3, a4, a5, a6, a7, a8, a9⟩ (p1, p2, p3)] w fun e w' => e = .returned (.bool (rightO ⟨2, a2, a3, a4, a5, a6, a7, a8, a9⟩)) ∧ Kp [] w w' := by
  obtain ⟨A, hA0⟩ : ∃ A, rightO ⟨2, a2, a3, a4, a5, a6, a7, a8, a9⟩ = A := ⟨_, rfl⟩
  rw [hA0]
  have hA : Hid (rightO ⟨2, a2, a3, a4, a5, a6, a7, a8, a9⟩ = A) := hA0
  clear hA0
  have hk : Kp [] w ((w.alloc (.cells #[.int .i64 2, .int .i64 a2, .int .i64 a3, .int .i64 a4, .int .i64 a5, .int .i64 a6, .string a7, .slice p1 p2 p3, .string a9] 24)).alloc (.cells #[.int .i64 a2, .int .i64 a3, .int .i64 a4] 3)) := ((Kp.refl _ _).alloc _).alloc _
  have R0 := rb_lit ((w.alloc (.cells #[.int .i64 2, .int .i64 a2, .int .i64 a3, .int .i64 a4, .int .i64 a5, .int .i64 a6, .string a7, .slice p1 p2 p3, .string a9] 24)).alloc (.cells #[.int .i64 a2, .int .i64 a3, .int .i64 a4] 3)) 3 _ (iz [a4, a5, a6]) 3 rfl rfl (by omega)
  rw [show ((w.alloc (.cells #[.int .i64 2, .int .i64 a2, .int .i64 a3, .int .i64 a4, .int .i64 a5, .int .i64 a6, .string a7, .slice p1 p2 p3, .string a9] 24)).alloc (.cells #[.int .i64 a2, .int .i64 a3, .int .i64 a4] 3)).heap.size = w.heap.size + 2 by simp] at R0
  have HZ := zero_any (((w.alloc (.cells #[.int .i64 2, .int .i64 a2, .int .i64 a3, .int .i64 a4, .int .i64 a5, .int .i64 a6, .string a7, .slice p1 p2 p3, .string a9] 24)).alloc (.cells #[.int .i64 a2, .int .i64 a3, .int .i64 a4] 3)).alloc (.cells #[.int .i64 a4, .int .i64 a5, .int .i64 a6] 3)) a7 a9 a8 [a4, a5, a6] p1 (some ⟨w.heap.size + 2, 0, none⟩) p2 p3 3 3 hq R0 hb (by omega)
  clear R0
  have hk2 : Kp [] w (((w.alloc (.cells #[.int .i64 2, .int .i64 a2, .int .i64 a3, .int .i64 a4, .int .i64 a5, .int .i64 a6, .string a7, .slice p1 p2 p3, .string a9] 24)).alloc (.cells #[.int .i64 a2, .int .i64 a3, .int .i64 a4] 3)).alloc (.cells #[.int .i64 a4, .int .i64 a5, .int .i64 a6] 3)) := hk.alloc _
  clear hq hb
  simp only [ov]
  go_enter Tryz.func48, Tryz.ntmps48
  go_wp2
  go_loopw [13] (fun i wr => ∃ k : Nat, k ≤ 3 ∧ i = .int .i64 k ∧ wr = ((w.alloc (.cells #[.int .i64 2, .int .i64 a2, .int .i64 a3, .int .i64 a4, .int .i64 a5, .int .i64 a6, .string a7, .slice p1 p2 p3, .string a9] 24)).alloc (.cells #[.int .i64 a2, .int .i64 a3, .int .i64 a4] 3)) ∧ inK a2 a3 a4 k) (fun i _ => 3 - (intOf i).toNat)
  case atStart => exact ⟨0, by omega, rfl, rfl, fun h => by omega, fun h => by omega, fun h => by omega⟩
  case round =>
    obtain ⟨k, hk3, rfl, rfl, i1, i2, i3⟩ := hrel
    obtain rfl | rfl | rfl | rfl : k = 0 ∨ k = 1 ∨ k = 2 ∨ k = 3 := by omega
    · cases c : inR a2
      · have hA2 := hA.out
        rw [show rightO ⟨2, a2, a3, a4, a5, a6, a7, a8, a9⟩ = false by simp [rightO, c]] at hA2
        subst hA2
        clear hA i1 i2 i3 HZ hk2
        rcases inR_no c with c1 | ⟨c1, c2⟩
        · clear c
          go_wp2
          go_ret
          exact ⟨rfl, hk⟩
        · clear c
          go_wp2
          go_ret
          exact ⟨rfl, hk⟩
      · have II : Hid (inK a2 a3 a4 1) := ⟨fun _ => c, fun _ => absurd ‹_› (by omega), fun _ => absurd ‹_› (by omega)⟩
        obtain ⟨c1, c2⟩ := inR_yes c
        clear c i1 i2 i3 hA HZ hk2 hk
        go_wp2
        go_roundw
        case rel => exact ⟨1, by omega, by first | rfl | go_num, by trivial, II.out⟩
        case measure => simp [intOf]
    · cases c : inR a3
      · have hA2 := hA.out
        rw [show rightO ⟨2, a2, a3, a4, a5, a6, a7, a8, a9⟩ = false by simp [rightO, c]] at hA2
        subst hA2
        clear hA i1 i2 i3 HZ hk2
        rcases inR_no c with c1 | ⟨c1, c2⟩
        · clear c
          go_wp2
          go_ret
          exact ⟨rfl, hk⟩
        · clear c
          go_wp2
          go_ret
          exact ⟨rfl, hk⟩
      · have II : Hid (inK a2 a3 a4 2) := ⟨fun _ => i1 (by omega), fun _ => c, fun _ => absurd ‹_› (by omega)⟩
        obtain ⟨c1, c2⟩ := inR_yes c
        clear c i1 i2 i3 hA HZ hk2 hk
        go_wp2
        go_roundw
        case rel => exact ⟨2, by omega, by first | rfl | go_num, by trivial, II.out⟩
        case measure => simp [intOf]
    · cases c : inR a4
      · have hA2 := hA.out
        rw [show rightO ⟨2, a2, a3, a4, a5, a6, a7, a8, a9⟩ = false by simp [rightO, c]] at hA2
        subst hA2
        clear hA i1 i2 i3 HZ hk2
        rcases inR_no c with c1 | ⟨c1, c2⟩
        · clear c
          go_wp2
          go_ret
          exact ⟨rfl, hk⟩
        · clear c
          go_wp2
          go_ret
          exact ⟨rfl, hk⟩
      · have II : Hid (inK a2 a3 a4 3) := ⟨fun _ => i1 (by omega), fun _ => i2 (by omega), fun _ => c⟩
        obtain ⟨c1, c2⟩ := inR_yes c
        clear c i1 i2 i3 hA HZ hk2 hk
        go_wp2
        go_roundw
        case rel => exact ⟨3, by omega, by first | rfl | go_num, by trivial, II.out⟩
        case measure => simp [intOf]
    · have q1 := i1 (by omega)
      have q2 := i2 (by omega)
      have q3 := i3 (by omega)
      clear i1 i2 i3
      by_cases s1 : 0 ≤ a6
      · by_cases s2 : a6 ≤ 2
        · have hA2 := hA.out
          rw [show rightO ⟨2, a2, a3, a4, a5, a6, a7, a8, a9⟩ = zr [a4, a5, a6] a7 a9 a8 by simp [rightO, rightK, q1, q2, q3, s1, s2]] at hA2
          subst hA2
          clear hA q1 q2 q3
          go_wp2_with (go_at_call 90; refine HZ.mono ?_; rintro e w9 ⟨rfl, hw⟩; have hw2 := hw.symm; clear hw; subst hw2)
          go_ret
          exact ⟨rfl, hk2⟩
        · have hA2 := hA.out
          rw [show rightO ⟨2, a2, a3, a4, a5, a6, a7, a8, a9⟩ = false by simp [rightO, s2]] at hA2
          subst hA2
          clear hA q1 q2 q3 HZ hk2
          go_wp2
          go_ret
          exact ⟨rfl, hk⟩
      · have hA2 := hA.out
        rw [show rightO ⟨2, a2, a3, a4, a5, a6, a7, a8, a9⟩ = false by simp [rightO, s1]] at hA2
        subst hA2
        clear hA q1 q2 q3 HZ hk2
        go_wp2
        go_ret
        exact ⟨rfl, hk⟩

set_option maxRecDepth 100000 in
set_option maxHeartbeats 2000000 in
theorem rref_3 (w : World) (a2 a3 a4 a5 a6 : Int) (a7 : ByteArray) (a8 : List Att) (a9 : ByteArray) (p1 : Option Addr) (p2 p3 : Nat) (hq : p2 = a8.length) (hb : p2 ≤ 100000) :
    Calls Tryz.prog 48 #[ov ⟨3, a2, a3, a4, a5, a6, a7, a8, a9⟩ (p1, p2, p3)] w fun e w' => e = .returned (.bool (rightO ⟨3, a2, a3, a4, a5, a6, a7, a8, a9⟩)) ∧ Kp [] w w' := by
  obtain ⟨A, hA0⟩ : ∃ A, rightO ⟨3, a2, a3, a4, a5, a6, a7, a8, a9⟩ = A := ⟨_, rfl⟩
  rw [hA0]
  have hA : Hid (rightO ⟨3, a2, a3, a4, a5, a6, a7, a8, a9⟩ = A) := hA0
  clear hA0
  have hk : Kp [] w ((w.alloc (.cells #[.int .i64 3, .int .i64 a2, .int .i64 a3, .int .i64 a4, .int .i64 a5, .int .i64 a6, .string a7, .slice p1 p2 p3, .string a9] 24)).alloc (.cells #[.int .i64 a2, .int .i64 a3, .int .i64 a4] 3)) := ((Kp.refl _ _).alloc _).alloc _
  have R0 := rb_lit ((w.alloc (.cells #[.int .i64 3, .int .i64 a2, .int .i64 a3, .int .i64 a4, .int .i64 a5, .int .i64 a6, .string a7, .slice p1 p2 p3, .string a9] 24)).alloc (.cells #[.int .i64 a2, .int .i64 a3, .int .i64 a4] 3)) 3 _ (iz [a3, a5, a6]) 3 rfl rfl (by omega)
  rw [show ((w.alloc (.cells #[.int .i64 3, .int .i64 a2, .int .i64 a3, .int .i64 a4, .int .i64 a5, .int .i64 a6, .string a7, .slice p1 p2 p3, .string a9] 24)).alloc (.cells #[.int .i64 a2, .int .i64 a3, .int .i64 a4] 3)).heap.size = w.heap.size + 2 by simp] at R0
  have HZ := zero_any (((w.alloc (.cells #[.int .i64 3, .int .i64 a2, .int .i64 a3, .int .i64 a4, .int .i64 a5, .int .i64 a6, .string a7, .slice p1 p2 p3, .string a9] 24)).alloc (.cells #[.int .i64 a2, .int .i64 a3, .int .i64 a4] 3)).alloc (.cells #[.int .i64 a3, .int .i64 a5, .int .i64 a6] 3)) a7 a9 a8 [a3, a5, a6] p1 (some ⟨w.heap.size + 2, 0, none⟩) p2 p3 3 3 hq R0 hb (by omega)
  clear R0
  have hk2 : Kp [] w (((w.alloc (.cells #[.int .i64 3, .int .i64 a2, .int .i64 a3, .int .i64 a4, .int .i64 a5, .int .i64 a6, .string a7, .slice p1 p2 p3, .string a9] 24)).alloc (.cells #[.int .i64 a2, .int .i64 a3, .int .i64 a4] 3)).alloc (.cells #[.int .i64 a3, .int .i64 a5, .int .i64 a6] 3)) := hk.alloc _
  clear hq hb
  simp only [ov]
  go_enter Tryz.func48, Tryz.ntmps48
  go_wp2
  go_loopw [13] (fun i wr => ∃ k : Nat, k ≤ 3 ∧ i = .int .i64 k ∧ wr = ((w.alloc (.cells #[.int .i64 3, .int .i64 a2, .int .i64 a3, .int .i64 a4, .int .i64 a5, .int .i64 a6, .string a7, .slice p1 p2 p3, .string a9] 24)).alloc (.cells #[.int .i64 a2, .int .i64 a3, .int .i64 a4] 3)) ∧ inK a2 a3 a4 k) (fun i _ => 3 - (intOf i).toNat)
  case atStart => exact ⟨0, by omega, rfl, rfl, fun h => by omega, fun h => by omega, fun h => by omega⟩
  case round =>
    obtain ⟨k, hk3, rfl, rfl, i1, i2, i3⟩ := hrel
    obtain rfl | rfl | rfl | rfl : k = 0 ∨ k = 1 ∨ k = 2 ∨ k = 3 := by omega
    · cases c : inR a2
      · have hA2 := hA.out
        rw [show rightO ⟨3, a2, a3, a4, a5, a6, a7, a8, a9⟩ = false by simp [rightO, c]] at hA2
        subst hA2
        clear hA i1 i2 i3 HZ hk2
        rcases inR_no c with c1 | ⟨c1, c2⟩
        · clear c
          go_wp2
          go_ret
          exact ⟨rfl, hk⟩
        · clear c
          go_wp2
          go_ret
          exact ⟨rfl, hk⟩
      · have II : Hid (inK a2 a3 a4 1) := ⟨fun _ => c, fun _ => absurd ‹_› (by omega), fun _ => absurd ‹_› (by omega)⟩
        obtain ⟨c1, c2⟩ := inR_yes c
        clear c i1 i2 i3 hA HZ hk2 hk
        go_wp2
        go_roundw
        case rel => exact ⟨1, by omega, by first | rfl | go_num, by trivial, II.out⟩
        case measure => simp [intOf]
    · cases c : inR a3
      · have hA2 := hA.out
        rw [show rightO ⟨3, a2, a3, a4, a5, a6, a7, a8, a9⟩ = false by simp [rightO, c]] at hA2
        subst hA2
        clear hA i1 i2 i3 HZ hk2
        rcases inR_no c with c1 | ⟨c1, c2⟩
        · clear c
          go_wp2
          go_ret
          exact ⟨rfl, hk⟩
        · clear c
          go_wp2
          go_ret
          exact ⟨rfl, hk⟩
      · have II : Hid (inK a2 a3 a4 2) := ⟨fun _ => i1 (by omega), fun _ => c, fun _ => absurd ‹_› (by omega)⟩
        obtain ⟨c1, c2⟩ := inR_yes c
        clear c i1 i2 i3 hA HZ hk2 hk
        go_wp2
        go_roundw
        case rel => exact ⟨2, by omega, by first | rfl | go_num, by trivial, II.out⟩
        case measure => simp [intOf]
    · cases c : inR a4
      · have hA2 := hA.out
        rw [show rightO ⟨3, a2, a3, a4, a5, a6, a7, a8, a9⟩ = false by simp [rightO, c]] at hA2
        subst hA2
        clear hA i1 i2 i3 HZ hk2
        rcases inR_no c with c1 | ⟨c1, c2⟩
        · clear c
          go_wp2
          go_ret
          exact ⟨rfl, hk⟩
        · clear c
          go_wp2
          go_ret
          exact ⟨rfl, hk⟩
      · have II : Hid (inK a2 a3 a4 3) := ⟨fun _ => i1 (by omega), fun _ => i2 (by omega), fun _ => c⟩
        obtain ⟨c1, c2⟩ := inR_yes c
        clear c i1 i2 i3 hA HZ hk2 hk
        go_wp2
        go_roundw
        case rel => exact ⟨3, by omega, by first | rfl | go_num, by trivial, II.out⟩
        case measure => simp [intOf]
    · have q1 := i1 (by omega)
      have q2 := i2 (by omega)
      have q3 := i3 (by omega)
      clear i1 i2 i3
      by_cases s1 : 0 ≤ a6
      · by_cases s2 : a6 ≤ 2
        · have hA2 := hA.out
          rw [show rightO ⟨3, a2, a3, a4, a5, a6, a7, a8, a9⟩ = zr [a3, a5, a6] a7 a9 a8 by simp [rightO, rightK, q1, q2, q3, s1, s2]] at hA2
          subst hA2
          clear hA q1 q2 q3
          go_wp2_with (go_at_call 90; refine HZ.mono ?_; rintro e w9 ⟨rfl, hw⟩; have hw2 := hw.symm; clear hw; subst hw2)
          go_ret
          exact ⟨rfl, hk2⟩
        · have hA2 := hA.out
          rw [show rightO ⟨3, a2, a3, a4, a5, a6, a7, a8, a9⟩ = false by simp [rightO, s2]] at hA2
          subst hA2
          clear hA q1 q2 q3 HZ hk2
          go_wp2
          go_ret
          exact ⟨rfl, hk⟩
      · have hA2 := hA.out
        rw [show rightO ⟨3, a2, a3, a4, a5, a6, a7, a8, a9⟩ = false by simp [rightO, s1]] at hA2
        subst hA2
        clear hA q1 q2 q3 HZ hk2
        go_wp2
        go_ret
        exact ⟨rfl, hk⟩

set_option maxRecDepth 100000 in
set_option maxHeartbeats 2000000 in
theorem rref_4 (w : World) (a2 a3 a4 a5 a6 : Int) (a7 : ByteArray) (a8 : List Att) (a9 : ByteArray) (p1 : Option Addr) (p2 p3 : Nat) (hq : p2 = a8.length) (hb : p2 ≤ 100000) :
    Calls Tryz.prog 48 #[ov ⟨4, a2, a3, a4, a5, a6, a7, a8, a9⟩ (p1, p2, p3)] w fun e w' => e = .returned (.bool (rightO ⟨4, a2, a3, a4, a5, a6, a7, a8, a9⟩)) ∧ Kp [] w w' := by
  obtain ⟨A, hA0⟩ : ∃ A, rightO ⟨4, a2, a3, a4, a5, a6, a7, a8, a9⟩ = A := ⟨_, rfl⟩
  rw [hA0]
  have hA : Hid (rightO ⟨4, a2, a3, a4, a5, a6, a7, a8, a9⟩ = A) := hA0
  clear hA0
  have hk : Kp [] w ((w.alloc (.cells #[.int .i64 4, .int .i64 a2, .int .i64 a3, .int .i64 a4, .int .i64 a5, .int .i64 a6, .string a7, .slice p1 p2 p3, .string a9] 24)).alloc (.cells #[.int .i64 a2, .int .i64 a3, .int .i64 a4] 3)) := ((Kp.refl _ _).alloc _).alloc _
  have R0 := rb_lit ((w.alloc (.cells #[.int .i64 4, .int .i64 a2, .int .i64 a3, .int .i64 a4, .int .i64 a5, .int .i64 a6, .string a7, .slice p1 p2 p3, .string a9] 24)).alloc (.cells #[.int .i64 a2, .int .i64 a3, .int .i64 a4] 3)) 3 _ (iz [a5, a6]) 2 rfl rfl (by omega)
  rw [show ((w.alloc (.cells #[.int .i64 4, .int .i64 a2, .int .i64 a3, .int .i64 a4, .int .i64 a5, .int .i64 a6, .string a7, .slice p1 p2 p3, .string a9] 24)).alloc (.cells #[.int .i64 a2, .int .i64 a3, .int .i64 a4] 3)).heap.size = w.heap.size + 2 by simp] at R0
  have HZ := zero_any (((w.alloc (.cells #[.int .i64 4, .int .i64 a2, .int .i64 a3, .int .i64 a4, .int .i64 a5, .int .i64 a6, .string a7, .slice p1 p2 p3, .string a9] 24)).alloc (.cells #[.int .i64 a2, .int .i64 a3, .int .i64 a4] 3)).alloc (.cells #[.int .i64 a5, .int .i64 a6] 3)) a7 a9 a8 [a5, a6] p1 (some ⟨w.heap.size + 2, 0, none⟩) p2 p3 2 2 hq R0 hb (by omega)
  clear R0
  have hk2 : Kp [] w (((w.alloc (.cells #[.int .i64 4, .int .i64 a2, .int .i64 a3, .int .i64 a4, .int .i64 a5, .int .i64 a6, .string a7, .slice p1 p2 p3, .string a9] 24)).alloc (.cells #[.int .i64 a2, .int .i64 a3, .int .i64 a4] 3)).alloc (.cells #[.int .i64 a5, .int .i64 a6] 3)) := hk.alloc _
  clear hq hb
  simp only [ov]
  go_enter Tryz.func48, Tryz.ntmps48
  go_wp2
  go_loopw [13] (fun i wr => ∃ k : Nat, k ≤ 3 ∧ i = .int .i64 k ∧ wr = ((w.alloc (.cells #[.int .i64 4, .int .i64 a2, .int .i64 a3, .int .i64 a4, .int .i64 a5, .int .i64 a6, .string a7, .slice p1 p2 p3, .string a9] 24)).alloc (.cells #[.int .i64 a2, .int .i64 a3, .int .i64 a4] 3)) ∧ inK a2 a3 a4 k) (fun i _ => 3 - (intOf i).toNat)
  case atStart => exact ⟨0, by omega, rfl, rfl, fun h => by omega, fun h => by omega, fun h => by omega⟩
  case round =>
    obtain ⟨k, hk3, rfl, rfl, i1, i2, i3⟩ := hrel
    obtain rfl | rfl | rfl | rfl : k = 0 ∨ k = 1 ∨ k = 2 ∨ k = 3 := by omega
    · cases c : inR a2
      · have hA2 := hA.out
        rw [show rightO ⟨4, a2, a3, a4, a5, a6, a7, a8, a9⟩ = false by simp [rightO, c]] at hA2
        subst hA2
        clear hA i1 i2 i3 HZ hk2
        rcases inR_no c with c1 | ⟨c1, c2⟩
        · clear c
          go_wp2
          go_ret
          exact ⟨rfl, hk⟩
        · clear c
          go_wp2
          go_ret
          exact ⟨rfl, hk⟩
      · have II : Hid (inK a2 a3 a4 1) := ⟨fun _ => c, fun _ => absurd ‹_› (by omega), fun _ => absurd ‹_› (by omega)⟩
        obtain ⟨c1, c2⟩ := inR_yes c
        clear c i1 i2 i3 hA HZ hk2 hk
        go_wp2
        go_roundw
        case rel => exact ⟨1, by omega, by first | rfl | go_num, by trivial, II.out⟩
        case measure => simp [intOf]
    · cases c : inR a3
      · have hA2 := hA.out
        rw [show rightO ⟨4, a2, a3, a4, a5, a6, a7, a8, a9⟩ = false by simp [rightO, c]] at hA2
        subst hA2
        clear hA i1 i2 i3 HZ hk2
        rcases inR_no c with c1 | ⟨c1, c2⟩
        · clear c
          go_wp2
          go_ret
          exact ⟨rfl, hk⟩
        · clear c
          go_wp2
          go_ret
          exact ⟨rfl, hk⟩
      · have II : Hid (inK a2 a3 a4 2) := ⟨fun _ => i1 (by omega), fun _ => c, fun _ => absurd ‹_› (by omega)⟩
        obtain ⟨c1, c2⟩ := inR_yes c
        clear c i1 i2 i3 hA HZ hk2 hk
        go_wp2
        go_roundw
        case rel => exact ⟨2, by omega, by first | rfl | go_num, by trivial, II.out⟩
        case measure => simp [intOf]
    · cases c : inR a4
      · have hA2 := hA.out
        rw [show rightO ⟨4, a2, a3, a4, a5, a6, a7, a8, a9⟩ = false by simp [rightO, c]] at hA2
        subst hA2
        clear hA i1 i2 i3 HZ hk2
        rcases inR_no c with c1 | ⟨c1, c2⟩
        · clear c
          go_wp2
          go_ret
          exact ⟨rfl, hk⟩
        · clear c
          go_wp2
          go_ret
          exact ⟨rfl, hk⟩
      · have II : Hid (inK a2 a3 a4 3) := ⟨fun _ => i1 (by omega), fun _ => i2 (by omega), fun _ => c⟩
        obtain ⟨c1, c2⟩ := inR_yes c
        clear c i1 i2 i3 hA HZ hk2 hk
        go_wp2
        go_roundw
        case rel => exact ⟨3, by omega, by first | rfl | go_num, by trivial, II.out⟩
        case measure => simp [intOf]
    · have q1 := i1 (by omega)
      have q2 := i2 (by omega)
      have q3 := i3 (by omega)
      clear i1 i2 i3
      by_cases s1 : 0 ≤ a6
      · by_cases s2 : a6 ≤ 2
        · have hA2 := hA.out
          rw [show rightO ⟨4, a2, a3, a4, a5, a6, a7, a8, a9⟩ = zr [a5, a6] a7 a9 a8 by simp [rightO, rightK, q1, q2, q3, s1, s2]] at hA2
          subst hA2
          clear hA q1 q2 q3
          go_wp2_with (go_at_call 90; refine HZ.mono ?_; rintro e w9 ⟨rfl, hw⟩; have hw2 := hw.symm; clear hw; subst hw2)
          go_ret
          exact ⟨rfl, hk2⟩
        · have hA2 := hA.out
          rw [show rightO ⟨4, a2, a3, a4, a5, a6, a7, a8, a9⟩ = false by simp [rightO, s2]] at hA2
          subst hA2
          clear hA q1 q2 q3 HZ hk2
          go_wp2
          go_ret
          exact ⟨rfl, hk⟩
      · have hA2 := hA.out
        rw [show rightO ⟨4, a2, a3, a4, a5, a6, a7, a8, a9⟩ = false by simp [rightO, s1]] at hA2
        subst hA2
        clear hA q1 q2 q3 HZ hk2
        go_wp2
        go_ret
        exact ⟨rfl, hk⟩

end Go.Proofs.YtpkppobkagdhkaaGreat

/-
  The document's Right.
-/
namespace Go.Proofs.YtpkppobkagdhkaaGreat
open Go.RowKit
set_option linter.unusedVariables false
set_option linter.unusedSimpArgs false

set_option maxRecDepth 100000 in
set_option maxHeartbeats 2000000 in
theorem rref_11 (w : World) (a2 a3 a4 a5 a6 : Int) (a7 : ByteArray) (a8 : List Att) (a9 : ByteArray) (p1 : Option Addr) (p2 p3 : Nat) (hq : p2 = a8.length) (hb : p2 ≤ 100000) :
    Calls Tryz.prog 48 #[ov ⟨11, a2, a3, a4, a5, a6, a7, a8, a9⟩ (p1, p2, p3)] w fun e w' => e = .returned (.bool (rightO ⟨11, a2, a3, a4, a5, a6, a7, a8, a9⟩)) ∧ Kp [] w w' := by
  obtain ⟨A, hA0⟩ : ∃ A, rightO ⟨11, a2, a3, a4, a5, a6, a7, a8, a9⟩ = A := ⟨_, rfl⟩
  rw [hA0]
  have hA : Hid (rightO ⟨11, a2, a3, a4, a5, a6, a7, a8, a9⟩ = A) := hA0
  clear hA0
  have hk : Kp [] w ((w.alloc (.cells #[.int .i64 11, .int .i64 a2, .int .i64 a3, .int .i64 a4, .int .i64 a5, .int .i64 a6, .string a7, .slice p1 p2 p3, .string a9] 24)).alloc (.cells #[.int .i64 a2, .int .i64 a3, .int .i64 a4] 3)) := ((Kp.refl _ _).alloc _).alloc _
  have R0 := rb_lit ((w.alloc (.cells #[.int .i64 11, .int .i64 a2, .int .i64 a3, .int .i64 a4, .int .i64 a5, .int .i64 a6, .string a7, .slice p1 p2 p3, .string a9] 24)).alloc (.cells #[.int .i64 a2, .int .i64 a3, .int .i64 a4] 3)) 3 _ (iz [a2, a3, a4, a5, a6]) 5 rfl rfl (by omega)
  rw [show ((w.alloc (.cells #[.int .i64 11, .int .i64 a2, .int .i64 a3, .int .i64 a4, .int .i64 a5, .int .i64 a6, .string a7, .slice p1 p2 p3, .string a9] 24)).alloc (.cells #[.int .i64 a2, .int .i64 a3, .int .i64 a4] 3)).heap.size = w.heap.size + 2 by simp] at R0
  have HZ := zero_any (((w.alloc (.cells #[.int .i64 11, .int .i64 a2, .int .i64 a3, .int .i64 a4, .int .i64 a5, .int .i64 a6, .string a7, .slice p1 p2 p3, .string a9] 24)).alloc (.cells #[.int .i64 a2, .int .i64 a3, .int .i64 a4] 3)).alloc (.cells #[.int .i64 a2, .int .i64 a3, .int .i64 a4, .int .i64 a5, .int .i64 a6] 3)) a7 a9 a8 [a2, a3, a4, a5, a6] p1 (some ⟨w.heap.size + 2, 0, none⟩) p2 p3 5 5 hq R0 hb (by omega)
  clear R0
  have hk2 : Kp [] w (((w.alloc (.cells #[.int .i64 11, .int .i64 a2, .int .i64 a3, .int .i64 a4, .int .i64 a5, .int .i64 a6, .string a7, .slice p1 p2 p3, .string a9] 24)).alloc (.cells #[.int .i64 a2, .int .i64 a3, .int .i64 a4] 3)).alloc (.cells #[.int .i64 a2, .int .i64 a3, .int .i64 a4, .int .i64 a5, .int .i64 a6] 3)) := hk.alloc _
  clear hq hb
  simp only [ov]
  go_enter Tryz.func48, Tryz.ntmps48
  go_wp2
  go_loopw [13] (fun i wr => ∃ k : Nat, k ≤ 3 ∧ i = .int .i64 k ∧ wr = ((w.alloc (.cells #[.int .i64 11, .int .i64 a2, .int .i64 a3, .int .i64 a4, .int .i64 a5, .int .i64 a6, .string a7, .slice p1 p2 p3, .string a9] 24)).alloc (.cells #[.int .i64 a2, .int .i64 a3, .int .i64 a4] 3)) ∧ inK a2 a3 a4 k) (fun i _ => 3 - (intOf i).toNat)
  case atStart => exact ⟨0, by omega, rfl, rfl, fun h => by omega, fun h => by omega, fun h => by omega⟩
  case round =>
    obtain ⟨k, hk3, rfl, rfl, i1, i2, i3⟩ := hrel
    obtain rfl | rfl | rfl | rfl : k = 0 ∨ k = 1 ∨ k = 2 ∨ k = 3 := by omega
    · cases c : inR a2
      · have hA2 := hA.out
        rw [show rightO ⟨11, a2, a3, a4, a5, a6, a7, a8, a9⟩ = false by simp [rightO, c]] at hA2
        subst hA2
        clear hA i1 i2 i3 HZ hk2
        rcases inR_no c with c1 | ⟨c1, c2⟩
        · clear c
          go_wp2
          go_ret
          exact ⟨rfl, hk⟩
        · clear c
          go_wp2
          go_ret
          exact ⟨rfl, hk⟩
      · have II : Hid (inK a2 a3 a4 1) := ⟨fun _ => c, fun _ => absurd ‹_› (by omega), fun _ => absurd ‹_› (by omega)⟩
        obtain ⟨c1, c2⟩ := inR_yes c
        clear c i1 i2 i3 hA HZ hk2 hk
        go_wp2
        go_roundw
        case rel => exact ⟨1, by omega, by first | rfl | go_num, by trivial, II.out⟩
        case measure => simp [intOf]
    · cases c : inR a3
      · have hA2 := hA.out
        rw [show rightO ⟨11, a2, a3, a4, a5, a6, a7, a8, a9⟩ = false by simp [rightO, c]] at hA2
        subst hA2
        clear hA i1 i2 i3 HZ hk2
        rcases inR_no c with c1 | ⟨c1, c2⟩
        · clear c
          go_wp2
          go_ret
          exact ⟨rfl, hk⟩
        · clear c
          go_wp2
          go_ret
          exact ⟨rfl, hk⟩
      · have II : Hid (inK a2 a3 a4 2) := ⟨fun _ => i1 (by omega), fun _ => c, fun _ => absurd ‹_› (by omega)⟩
        obtain ⟨c1, c2⟩ := inR_yes c
        clear c i1 i2 i3 hA HZ hk2 hk
        go_wp2
        go_roundw
        case rel => exact ⟨2, by omega, by first | rfl | go_num, by trivial, II.out⟩
        case measure => simp [intOf]
    · cases c : inR a4
      · have hA2 := hA.out
        rw [show rightO ⟨11, a2, a3, a4, a5, a6, a7, a8, a9⟩ = false by simp [rightO, c]] at hA2
        subst hA2
        clear hA i1 i2 i3 HZ hk2
        rcases inR_no c with c1 | ⟨c1, c2⟩
        · clear c
          go_wp2
          go_ret
          exact ⟨rfl, hk⟩
        · clear c
          go_wp2
          go_ret
          exact ⟨rfl, hk⟩
      · have II : Hid (inK a2 a3 a4 3) := ⟨fun _ => i1 (by omega), fun _ => i2 (by omega), fun _ => c⟩
        obtain ⟨c1, c2⟩ := inR_yes c
        clear c i1 i2 i3 hA HZ hk2 hk
        go_wp2
        go_roundw
        case rel => exact ⟨3, by omega, by first | rfl | go_num, by trivial, II.out⟩
        case measure => simp [intOf]
    · have q1 := i1 (by omega)
      have q2 := i2 (by omega)
      have q3 := i3 (by omega)
      clear i1 i2 i3
      by_cases s1 : 0 ≤ a6
      · by_cases s2 : a6 ≤ 2
        · have hA2 := hA.out
          rw [show rightO ⟨11, a2, a3, a4, a5, a6, a7, a8, a9⟩ = zr [a2, a3, a4, a5, a6] a7 a9 a8 by simp [rightO, rightK, q1, q2, q3, s1, s2]] at hA2
          subst hA2
          clear hA q1 q2 q3
          go_wp2_with (go_at_call 90; refine HZ.mono ?_; rintro e w9 ⟨rfl, hw⟩; have hw2 := hw.symm; clear hw; subst hw2)
          go_ret
          exact ⟨rfl, hk2⟩
        · have hA2 := hA.out
          rw [show rightO ⟨11, a2, a3, a4, a5, a6, a7, a8, a9⟩ = false by simp [rightO, s2]] at hA2
          subst hA2
          clear hA q1 q2 q3 HZ hk2
          go_wp2
          go_ret
          exact ⟨rfl, hk⟩
      · have hA2 := hA.out
        rw [show rightO ⟨11, a2, a3, a4, a5, a6, a7, a8, a9⟩ = false by simp [rightO, s1]] at hA2
        subst hA2
        clear hA q1 q2 q3 HZ hk2
        go_wp2
        go_ret
        exact ⟨rfl, hk⟩

set_option maxRecDepth 100000 in
set_option maxHeartbeats 2000000 in
theorem rref_no (w : World) (a1 : Int) (a2 a3 a4 a5 a6 : Int) (a7 : ByteArray) (a8 : List Att) (a9 : ByteArray) (p1 : Option Addr) (p2 p3 : Nat) (hq : p2 = a8.length) (hb : p2 ≤ 100000) (n1 : (a1 == 1) = false) (n2 : (a1 == 2) = false) (n3 : (a1 == 3) = false) (n4 : (a1 == 4) = false) (n5 : (a1 == 5) = false) (n6 : (a1 == 6) = false) (n7 : (a1 == 7) = false) (n8 : (a1 == 8) = false) (n9 : (a1 == 9) = false) (n10 : (a1 == 10) = false) (n11 : (a1 == 11) = false) :
    Calls Tryz.prog 48 #[ov ⟨a1, a2, a3, a4, a5, a6, a7, a8, a9⟩ (p1, p2, p3)] w fun e w' => e = .returned (.bool (rightO ⟨a1, a2, a3, a4, a5, a6, a7, a8, a9⟩)) ∧ Kp [] w w' := by
  obtain ⟨A, hA0⟩ : ∃ A, rightO ⟨a1, a2, a3, a4, a5, a6, a7, a8, a9⟩ = A := ⟨_, rfl⟩
  rw [hA0]
  have hA : Hid (rightO ⟨a1, a2, a3, a4, a5, a6, a7, a8, a9⟩ = A) := hA0
  clear hA0
  have hk : Kp [] w ((w.alloc (.cells #[.int .i64 a1, .int .i64 a2, .int .i64 a3, .int .i64 a4, .int .i64 a5, .int .i64 a6, .string a7, .slice p1 p2 p3, .string a9] 24)).alloc (.cells #[.int .i64 a2, .int .i64 a3, .int .i64 a4] 3)) := ((Kp.refl _ _).alloc _).alloc _
  clear hq hb
  simp only [ov]
  go_enter Tryz.func48, Tryz.ntmps48
  go_wp2
  go_loopw [13] (fun i wr => ∃ k : Nat, k ≤ 3 ∧ i = .int .i64 k ∧ wr = ((w.alloc (.cells #[.int .i64 a1, .int .i64 a2, .int .i64 a3, .int .i64 a4, .int .i64 a5, .int .i64 a6, .string a7, .slice p1 p2 p3, .string a9] 24)).alloc (.cells #[.int .i64 a2, .int .i64 a3, .int .i64 a4] 3)) ∧ inK a2 a3 a4 k) (fun i _ => 3 - (intOf i).toNat)
  case atStart => exact ⟨0, by omega, rfl, rfl, fun h => by omega, fun h => by omega, fun h => by omega⟩
  case round =>
    obtain ⟨k, hk3, rfl, rfl, i1, i2, i3⟩ := hrel
    obtain rfl | rfl | rfl | rfl : k = 0 ∨ k = 1 ∨ k = 2 ∨ k = 3 := by omega
    · cases c : inR a2
      · have hA2 := hA.out
        rw [show rightO ⟨a1, a2, a3, a4, a5, a6, a7, a8, a9⟩ = false by simp [rightO, c]] at hA2
        subst hA2
        clear hA i1 i2 i3
        rcases inR_no c with c1 | ⟨c1, c2⟩
        · clear c
          go_wp2
          go_ret
          exact ⟨rfl, hk⟩
        · clear c
          go_wp2
          go_ret
          exact ⟨rfl, hk⟩
      · have II : Hid (inK a2 a3 a4 1) := ⟨fun _ => c, fun _ => absurd ‹_› (by omega), fun _ => absurd ‹_› (by omega)⟩
        obtain ⟨c1, c2⟩ := inR_yes c
        clear c i1 i2 i3 hA hk
        go_wp2
        go_roundw
        case rel => exact ⟨1, by omega, by first | rfl | go_num, by trivial, II.out⟩
        case measure => simp [intOf]
    · cases c : inR a3
      · have hA2 := hA.out
        rw [show rightO ⟨a1, a2, a3, a4, a5, a6, a7, a8, a9⟩ = false by simp [rightO, c]] at hA2
        subst hA2
        clear hA i1 i2 i3
        rcases inR_no c with c1 | ⟨c1, c2⟩
        · clear c
          go_wp2
          go_ret
          exact ⟨rfl, hk⟩
        · clear c
          go_wp2
          go_ret
          exact ⟨rfl, hk⟩
      · have II : Hid (inK a2 a3 a4 2) := ⟨fun _ => i1 (by omega), fun _ => c, fun _ => absurd ‹_› (by omega)⟩
        obtain ⟨c1, c2⟩ := inR_yes c
        clear c i1 i2 i3 hA hk
        go_wp2
        go_roundw
        case rel => exact ⟨2, by omega, by first | rfl | go_num, by trivial, II.out⟩
        case measure => simp [intOf]
    · cases c : inR a4
      · have hA2 := hA.out
        rw [show rightO ⟨a1, a2, a3, a4, a5, a6, a7, a8, a9⟩ = false by simp [rightO, c]] at hA2
        subst hA2
        clear hA i1 i2 i3
        rcases inR_no c with c1 | ⟨c1, c2⟩
        · clear c
          go_wp2
          go_ret
          exact ⟨rfl, hk⟩
        · clear c
          go_wp2
          go_ret
          exact ⟨rfl, hk⟩
      · have II : Hid (inK a2 a3 a4 3) := ⟨fun _ => i1 (by omega), fun _ => i2 (by omega), fun _ => c⟩
        obtain ⟨c1, c2⟩ := inR_yes c
        clear c i1 i2 i3 hA hk
        go_wp2
        go_roundw
        case rel => exact ⟨3, by omega, by first | rfl | go_num, by trivial, II.out⟩
        case measure => simp [intOf]
    · have q1 := i1 (by omega)
      have q2 := i2 (by omega)
      have q3 := i3 (by omega)
      clear i1 i2 i3
      by_cases s1 : 0 ≤ a6
      · by_cases s2 : a6 ≤ 2
        · have hA2 := hA.out
          have hz : rightK ⟨a1, a2, a3, a4, a5, a6, a7, a8, a9⟩ = false := by
            simp only [beq_eq_false_iff_ne] at n1 n2 n3 n4 n5 n6 n7 n8 n9 n10 n11
            simp [rightK, n1, n2, n3, n4, n5, n6, n7, n8, n9, n10, n11]
          rw [show rightO ⟨a1, a2, a3, a4, a5, a6, a7, a8, a9⟩ = false by simp [rightO, hz]] at hA2
          subst hA2
          clear hA q1 q2 q3 hz
          go_wp2
          go_ret
          exact ⟨rfl, hk⟩
        · have hA2 := hA.out
          rw [show rightO ⟨a1, a2, a3, a4, a5, a6, a7, a8, a9⟩ = false by simp [rightO, s2]] at hA2
          subst hA2
          clear hA q1 q2 q3
          go_wp2
          go_ret
          exact ⟨rfl, hk⟩
      · have hA2 := hA.out
        rw [show rightO ⟨a1, a2, a3, a4, a5, a6, a7, a8, a9⟩ = false by simp [rightO, s1]] at hA2
        subst hA2
        clear hA q1 q2 q3
        go_wp2
        go_ret
        exact ⟨rfl, hk⟩

end Go.Proofs.YtpkppobkagdhkaaGreat
