/-
  Modes by name; what stands within an element; the lexer's mode; how many are open, and what is seen of each.
-/
import Derived.Test.YtfobbgmfbpoigaaApp
import Derived.Test.YtfobbgmfbpoigaaRawn
import Derived.Test.YtfobbgmfbpoigaaClone
namespace Go.Proofs.Ytfobbgmfbpoigaa.Ints
open Go.RowKit Utf
set_option linter.unusedSimpArgs false
set_option linter.unusedVariables false

def wTD : List UInt8 := [116, 100]
def wTH : List UInt8 := [116, 104]
def wHEAD : List UInt8 := [104, 101, 97, 100]
def wTR : List UInt8 := [116, 114]
def wTBODY : List UInt8 := [116, 98, 111, 100, 121]
def wTFOOT : List UInt8 := [116, 102, 111, 111, 116]
def wTHEAD : List UInt8 := [116, 104, 101, 97, 100]
def wTABLE : List UInt8 := [116, 97, 98, 108, 101]
def wBODY : List UInt8 := [98, 111, 100, 121]
def wTEMPLATE : List UInt8 := [116, 101, 109, 112, 108, 97, 116, 101]
def wHTML : List UInt8 := [104, 116, 109, 108]

/-- The mode within an element of that name (f: the first of all); 0: those below say it. -/
def wth (s : ByteArray) (f : Bool) : Int :=
  if s.toList == wTD || s.toList == wTH then (if f then 0 else 12) else if s.toList == wHEAD then (if f then 0 else 4) else if s.toList == wTR then 11
  else if s.toList == wTBODY || s.toList == wTFOOT || s.toList == wTHEAD then 10 else if s.toList == wTABLE then 8 else if s.toList == wBODY then 6 else 0

set_option maxHeartbeats 4000000 in
theorem wth_any (w : World) (s : ByteArray) (f : Bool) : Calls Try.prog 33 #[.string s, .bool f] w fun e w' => e = .returned (.int .i64 (wth s f)) ∧ w' = w := by
  cases f
  all_goals
    go_enter Try.func33, Try.ntmps33
    go_wp2
    all_goals go_ret
    all_goals refine ⟨?_, rfl⟩
    all_goals first
      | (rename_i h1 h2; exact absurd (h1.symm.trans h2) (by decide))
      | (simp [wth, wTD, wTH, wHEAD, wTR, wTBODY, wTFOOT, wTHEAD, wTABLE, wBODY, *]; done)
      | (exfalso; simp_all; done)

/-- The lexer's mode. -/
def lex (ns : Int) (s : ByteArray) (b : Bool) : Int := if ns == 1 then raw s b else 1

/-- A context, as a value. -/
def cv (ns : Int) (s : ByteArray) (ao : Option Addr) (n c : Nat) : Value := .agg #[.int .i64 ns, .string s, .slice ao n c]

set_option maxHeartbeats 1000000 in
theorem lexer_any (w : World) (ns : Int) (s : ByteArray) (ao : Option Addr) (n c : Nat) (b : Bool) : Calls Try.prog 16 #[cv ns s ao n c, .bool b] w fun e w' => e = .returned (.int .i64 (lex ns s b)) ∧ Kp [] w w' := by
  have H := fun W => raw_any W s b
  obtain ⟨A, hA⟩ : ∃ A, lex ns s b = A := ⟨_, rfl⟩
  rw [hA]
  unfold lex at hA
  generalize raw s b = R at H hA
  unfold cv
  go_enter Try.func16, Try.ntmps16
  cases hn : (ns == 1)
  · rw [hn] at hA
    simp only [Bool.false_eq_true, if_false] at hA
    subst hA
    go_wp2
    go_ret
    exact ⟨rfl, (Kp.refl _ _).alloc _⟩
  · rw [hn] at hA
    simp only [if_true] at hA
    subst hA
    go_wp2_with (go_at_call 26; refine (H _).mono ?_; rintro e w9 ⟨rfl, hw⟩; have hw2 := hw.symm; clear hw; subst hw2)
    go_ret
    exact ⟨rfl, (Kp.refl _ _).alloc _⟩

/-- A mode's name. -/
def mnm (i : Int) : ByteArray :=
  if i = 1 then txt [105, 110, 105, 116, 105, 97, 108] else if i = 2 then txt [98, 101, 102, 111, 114, 101, 104, 116, 109, 108] else if i = 3 then txt [98, 101, 102, 111, 114, 101, 104, 101, 97, 100]
  else if i = 4 then txt [105, 110, 104, 101, 97, 100] else if i = 5 then txt [97, 102, 116, 101, 114, 104, 101, 97, 100] else if i = 6 then txt [105, 110, 98, 111, 100, 121] else if i = 7 then txt [105, 110, 116, 101, 120, 116]
  else if i = 8 then txt [105, 110, 116, 97, 98, 108, 101] else if i = 9 then txt [105, 110, 116, 97, 98, 108, 101, 116, 101, 120, 116] else if i = 10 then txt [105, 110, 116, 97, 98, 108, 101, 98, 111, 100, 121] else if i = 11 then txt [105, 110, 114, 111, 119]
  else if i = 12 then txt [105, 110, 99, 101, 108, 108] else if i = 13 then txt [105, 110, 116, 101, 109, 112, 108, 97, 116, 101] else if i = 14 then txt [97, 102, 116, 101, 114, 98, 111, 100, 121] else if i = 15 then txt [97, 102, 116, 101, 114, 97, 102, 116, 101, 114, 98, 111, 100, 121] else txt []

set_option maxHeartbeats 4000000 in
theorem name_any (w : World) (i : Int) : Calls Try.prog 6 #[.int .i64 i] w fun e w' => e = .returned (.string (mnm i)) ∧ w' = w := by
  go_enter Try.func6, Try.ntmps6
  go_wp2
  all_goals go_ret
  all_goals refine ⟨?_, rfl⟩
  all_goals first
    | (simp_all [mnm, txt]; done)

/-- A pointer to a context, that may be nil: what NS and Name it tells. -/
def Cp (w : World) (co : Option Addr) (c : Option (Int × ByteArray)) : Prop :=
  (co = none ∧ c = none) ∨ ∃ b ns s v, co = some ⟨b, 0, none⟩ ∧ c = some (ns, s) ∧ w.heap[b]? = some (.cells #[.int .i64 ns, .string s, v] 26 (0, 0))

theorem Cp.ev {w0 w w' : World} {co : Option Addr} {c : Option (Int × ByteArray)} (h : Cp w co c) (k : Ev w0 w w') : Cp w' co c := by
  rcases h with h | ⟨b, ns, s, v, h1, h2, h3⟩
  · exact Or.inl h
  · exact Or.inr ⟨b, ns, s, v, h1, h2, k.cells _ _ _ h3 not_pil_ctx⟩

theorem Cp.kept {w w' : World} {co : Option Addr} {c : Option (Int × ByteArray)} (h : Cp w co c) (k : Kp [] w w') : Cp w' co c := h.ev (Ev.of_kp (w0 := w) k)

/-- NS and Name of each open element, or, of the first one, of the context that it stands for. -/
def vw (c : Option (Int × ByteArray)) (zs : List It) : List (Int × ByteArray) := match c with
  | none => zs.map (·.2)
  | some x => (zs.map (·.2)).set 0 x

theorem vw_len (c : Option (Int × ByteArray)) (zs : List It) : (vw c zs).length = zs.length := by
  unfold vw
  split <;> simp

theorem vw_none (zs : List It) (i : Nat) (h : i < (vw none zs).length) : (vw none zs)[i] = (zs[i]'(by rw [vw_len] at h; exact h)).2 := by simp [vw]

theorem vw_first (x : Int × ByteArray) (zs : List It) (h : 0 < (vw (some x) zs).length) : (vw (some x) zs)[0] = x := by simp [vw]

theorem vw_on (c : Option (Int × ByteArray)) (zs : List It) (i : Nat) (h0 : 0 < i) (h : i < (vw c zs).length) : (vw c zs)[i] = (zs[i]'(by rw [vw_len] at h; exact h)).2 := by
  cases c with
  | none => exact vw_none zs i h
  | some x => simp [vw, show ¬ 0 = i by omega]

theorem count_any (w0 w : World) (q : Nat) (zs : List It) (h : Li w0 w q zs) : Calls Try.prog 31 #[.pointer (some ⟨q, 0, none⟩)] w fun e w' => e = .returned (.int .i64 zs.length) ∧ w' = w := by
  have H := len_list w0 w q zs h
  clear h
  go_enter Try.func31, Try.ntmps31
  go_wp2_with fail
  refine H.mono ?_
  rintro e w2 ⟨rfl, rfl⟩
  go_wp2
  go_ret
  exact ⟨rfl, rfl⟩

theorem count_nil (w : World) : Calls Try.prog 31 #[.pointer none] w fun e w' => e = .returned (.int .i64 0) ∧ w' = w := by
  go_enter Try.func31, Try.ntmps31
  go_wp2
  go_ret
  exact ⟨rfl, rfl⟩

/-- What a call answers that tells NS and Name. -/
def nv (x : Int × ByteArray) : Value := .tuple #[.int .i64 x.1, .string x.2]

set_option maxHeartbeats 1000000 in
theorem seen_list (w0 w : World) (q : Nat) (zs : List It) (co : Option Addr) (i : Nat) (h : Li w0 w q zs) (hi : i < zs.length) (hl : zs.length ≤ 1000) (hc : i = 0 → co = none) :
    Calls Try.prog 32 #[.pointer (some ⟨q, 0, none⟩), .pointer co, .int .i64 (i : Int)] w fun e w' => e = .returned (nv zs[i].2) ∧ Kp [] w w' := by
  have H := at_list w0 w q zs i h hi
  generalize zs[i] = x at H
  obtain ⟨hh, ns, nm⟩ := x
  unfold iv at H
  unfold nv
  simp only at H ⊢
  clear h
  cases i with
  | zero =>
    obtain rfl := hc rfl
    simp only [Int.ofNat_zero, Int.cast_ofNat_Int] at H ⊢
    go_enter Try.func32, Try.ntmps32
    go_wp2_with fail
    refine H.mono ?_
    rintro e w2 ⟨rfl, k2⟩
    clear H
    go_wp2_with fail
    go_quiet (fail)
    go_wp2
    go_ret2
    exact ⟨rfl, (k2.alloc _).drewN _⟩
  | succ i =>
    have hz : (((i + 1 : Nat) : Int) == 0) = false := by simp; omega
    clear hc
    generalize ((i + 1 : Nat) : Int) = j at H hz ⊢
    go_enter Try.func32, Try.ntmps32
    go_wp2_with fail
    refine H.mono ?_
    rintro e w2 ⟨rfl, k2⟩
    clear H
    go_wp2_with fail
    go_quiet (fail)
    go_wp2
    go_ret2
    exact ⟨rfl, (k2.alloc _).drewN _⟩

set_option maxHeartbeats 1000000 in
theorem seen_first (w : World) (lo : Option Addr) (b : Nat) (ns : Int) (s : ByteArray) (v : Value) (hb : w.heap[b]? = some (.cells #[.int .i64 ns, .string s, v] 26 (0, 0))) :
    Calls Try.prog 32 #[.pointer lo, .pointer (some ⟨b, 0, none⟩), .int .i64 0] w fun e w' => e = .returned (nv (ns, s)) ∧ Kp [] w w' := by
  have c0 : w.cell? ⟨b, 0, none⟩ = some (.int .i64 ns) := cell_of hb 0
  have c1 : w.cell? ⟨b, 1, none⟩ = some (.string s) := cell_of hb 1
  clear hb
  unfold nv
  go_enter Try.func32, Try.ntmps32
  go_wp2_with fail
  go_quiet (fail)
  go_wp2
  go_ret2
  exact ⟨rfl, (Kp.refl _ _).drewN _⟩

theorem seen_any (w0 w : World) (q : Nat) (zs : List It) (co : Option Addr) (c : Option (Int × ByteArray)) (i : Nat) (h : Li w0 w q zs) (hc : Cp w co c) (hi : i < (vw c zs).length) (hl : zs.length ≤ 1000) :
    Calls Try.prog 32 #[.pointer (some ⟨q, 0, none⟩), .pointer co, .int .i64 (i : Int)] w fun e w' => e = .returned (nv (vw c zs)[i]) ∧ Kp [] w w' := by
  have hi2 : i < zs.length := by rw [vw_len] at hi; exact hi
  rcases hc with ⟨rfl, rfl⟩ | ⟨b, ns, s, v, rfl, rfl, hb⟩
  · rw [vw_none]
    exact seen_list w0 w q zs none i h hi2 hl (fun _ => rfl)
  · rcases Nat.eq_zero_or_pos i with rfl | h0
    · rw [vw_first]
      exact seen_first w _ b ns s v hb
    · rw [vw_on _ _ _ h0]
      exact seen_list w0 w q zs _ i h hi2 hl (fun e => by omega)

end Go.Proofs.Ytfobbgmfbpoigaa.Ints
