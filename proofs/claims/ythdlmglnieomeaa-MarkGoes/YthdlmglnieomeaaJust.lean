/-
  The program's Right, of any token that is not too long.
-/
import Derived.Test.YthdlmglnieomeaaEq
namespace Go.Proofs.Ythdlmglnieomeaa
open Go.RowKit

theorem empty_yes {y : ByteArray} (h : eqs y ⟨#[]⟩ = true) : y.toList.isEmpty = true := by
  rw [eqs_iff.1 h, ByteArray.toList_eq]
  rfl

theorem empty_no {y : ByteArray} (h : eqs y ⟨#[]⟩ = false) : y.toList.isEmpty = false := by
  cases hx : y.toList.isEmpty with
  | false => rfl
  | true =>
    rw [List.isEmpty_iff] at hx
    exfalso
    have : eqs y ⟨#[]⟩ = true := by
      unfold eqs
      rw [hx, ByteArray.toList_eq]
      rfl
    rw [h] at this
    cases this

theorem box_one (w : World) (k : Int) (x y : ByteArray) (v : Value) (b : Bool) (w1 : World) (kp : Kp [] (w.alloc (.cells #[.int .i64 k, .string x, v, .bool b, .string y] 32)) w1) : Box w1 w.heap.size k x v b y :=
  (box_of (heap_new w _)).kept kp (by simp)

set_option maxHeartbeats 1000000 in
theorem right1 (w : World) (x y : ByteArray) (l : List Att) (b : Bool) (ao : Option Addr) (n c : Nat) (hr : Rp w ao n c l) (hn : n ≤ 400)  (hx : x.size ≤ 100000) :
    Calls Try.prog 13 #[tv 1 x ao n c b y] w fun e w' => e = .returned (.bool (right (1, x, l, b, y))) ∧ Kp [] w w' := by
  have k0 : Kp [] w (w.alloc (.cells #[.int .i64 1, .string x, .slice ao n c, .bool b, .string y] 32)) := (Kp.refl _ _).alloc _
  have hn' : n ≤ 1000 := by omega
  have HL := islow_any (w.alloc (.cells #[.int .i64 1, .string x, .slice ao n c, .bool b, .string y] 32)) x hx
  have hA : right (1, x, l, b, y) = (decide (lower x = x) && decide (((1, x, l, b, y) : Tok) = (1, x, [], false, ⟨#[]⟩))) := rfl
  rw [hA]
  clear hA
  generalize decide (lower x = x) = D at HL
  have HS := fun W (kW : Kp [] w W) => tsame_any W 1 1 x x y ⟨#[]⟩ l [] b false ao none n c 0 0 (hr.kept kW) (rp_nil W) hn' (by omega)
  generalize decide (((1, x, l, b, y) : Tok) = (1, x, [], false, ⟨#[]⟩)) = F at HS
  clear hr hn hn' hx
  unfold tv at *
  cases D with
  | false =>
    go_enter Try.func13, Try.ntmps13
    go_wp2_with fail
    refine HL.mono ?_
    rintro e w1 ⟨rfl, k1⟩
    have k2 := k0.trans k1 (fun z hz => by simp at hz)
    clear HL HS k0 k1
    go_wp2
    go_ret
    exact ⟨rfl, k2⟩
  | true =>
    go_enter Try.func13, Try.ntmps13
    go_wp2_with fail
    refine HL.mono ?_
    rintro e w1 ⟨rfl, k1⟩
    have k2 := k0.trans k1 (fun z hz => by simp at hz)
    obtain ⟨c0, c1, c2, c3, c4⟩ := box_one w 1 x y _ b w1 k1
    have HS1 := HS w1 k2
    clear HL HS k0 k1
    go_wp2_with fail
    refine HS1.mono ?_
    rintro e w3 ⟨rfl, k3⟩
    have k4 := k2.trans k3 (fun z hz => by simp at hz)
    clear HS1 k2 k3
    go_wp2
    go_ret
    exact ⟨by cases F <;> rfl, k4⟩

set_option maxHeartbeats 1000000 in
theorem right3 (w : World) (x y : ByteArray) (l : List Att) (b : Bool) (ao : Option Addr) (n c : Nat) (hr : Rp w ao n c l) (hn : n ≤ 400)  (hx : x.size ≤ 100000) :
    Calls Try.prog 13 #[tv 3 x ao n c b y] w fun e w' => e = .returned (.bool (right (3, x, l, b, y))) ∧ Kp [] w w' := by
  have k0 : Kp [] w (w.alloc (.cells #[.int .i64 3, .string x, .slice ao n c, .bool b, .string y] 32)) := (Kp.refl _ _).alloc _
  have hn' : n ≤ 1000 := by omega
  have HL := istag_any (w.alloc (.cells #[.int .i64 3, .string x, .slice ao n c, .bool b, .string y] 32)) x hx
  have hA : right (3, x, l, b, y) = (tagName x && decide (((3, x, l, b, y) : Tok) = (3, x, [], false, ⟨#[]⟩))) := rfl
  rw [hA]
  clear hA
  generalize tagName x = D at HL
  have HS := fun W (kW : Kp [] w W) => tsame_any W 3 3 x x y ⟨#[]⟩ l [] b false ao none n c 0 0 (hr.kept kW) (rp_nil W) hn' (by omega)
  generalize decide (((3, x, l, b, y) : Tok) = (3, x, [], false, ⟨#[]⟩)) = F at HS
  clear hr hn hn' hx
  unfold tv at *
  cases D with
  | false =>
    go_enter Try.func13, Try.ntmps13
    go_wp2_with fail
    refine HL.mono ?_
    rintro e w1 ⟨rfl, k1⟩
    have k2 := k0.trans k1 (fun z hz => by simp at hz)
    clear HL HS k0 k1
    go_wp2
    go_ret
    exact ⟨rfl, k2⟩
  | true =>
    go_enter Try.func13, Try.ntmps13
    go_wp2_with fail
    refine HL.mono ?_
    rintro e w1 ⟨rfl, k1⟩
    have k2 := k0.trans k1 (fun z hz => by simp at hz)
    obtain ⟨c0, c1, c2, c3, c4⟩ := box_one w 3 x y _ b w1 k1
    have HS1 := HS w1 k2
    clear HL HS k0 k1
    go_wp2_with fail
    refine HS1.mono ?_
    rintro e w3 ⟨rfl, k3⟩
    have k4 := k2.trans k3 (fun z hz => by simp at hz)
    clear HS1 k2 k3
    go_wp2
    go_ret
    exact ⟨by cases F <;> rfl, k4⟩

set_option maxHeartbeats 1000000 in
theorem right2 (w : World) (x y : ByteArray) (l : List Att) (b : Bool) (ao : Option Addr) (n c : Nat) (hr : Rp w ao n c l) (hn : n ≤ 400) (hf : fits l) (hx : x.size ≤ 100000) :
    Calls Try.prog 13 #[tv 2 x ao n c b y] w fun e w' => e = .returned (.bool (right (2, x, l, b, y))) ∧ Kp [] w w' := by
  have k0 : Kp [] w (w.alloc (.cells #[.int .i64 2, .string x, .slice ao n c, .bool b, .string y] 32)) := (Kp.refl _ _).alloc _
  have hn' : n ≤ 1000 := by omega
  have HL := istag_any (w.alloc (.cells #[.int .i64 2, .string x, .slice ao n c, .bool b, .string y] 32)) x hx
  have hA : right (2, x, l, b, y) = (tagName x && areRight l && eqs y ⟨#[]⟩) := rfl
  rw [hA]
  clear hA
  generalize tagName x = D at HL
  have HS := fun W (kW : Kp [] w W) => areright_any W l ao n c (hr.kept kW) hn hf
  generalize areRight l = F at HS
  clear hr hn hn' hx hf
  unfold tv at *
  cases D with
  | false =>
    go_enter Try.func13, Try.ntmps13
    go_wp2_with fail
    refine HL.mono ?_
    rintro e w1 ⟨rfl, k1⟩
    have k2 := k0.trans k1 (fun z hz => by simp at hz)
    clear HL HS k0 k1
    go_wp2
    go_ret
    exact ⟨rfl, k2⟩
  | true =>
    cases F with
    | false =>
      go_enter Try.func13, Try.ntmps13
      go_wp2_with fail
      refine HL.mono ?_
      rintro e w1 ⟨rfl, k1⟩
      have k2 := k0.trans k1 (fun z hz => by simp at hz)
      obtain ⟨c0, c1, c2, c3, c4⟩ := box_one w 2 x y _ b w1 k1
      have HS1 := HS w1 k2
      clear HL HS k0 k1
      go_wp2_with fail
      refine HS1.mono ?_
      rintro e w3 ⟨rfl, k3⟩
      have k4 := k2.trans k3 (fun z hz => by simp at hz)
      clear HS1 k2 k3
      go_wp2
      go_ret
      exact ⟨rfl, k4⟩
    | true =>
      cases hy : eqs y ⟨#[]⟩
      all_goals
        first
          | have hy' := empty_no hy
          | have hy' := empty_yes hy
        go_enter Try.func13, Try.ntmps13
        go_wp2_with fail
        refine HL.mono ?_
        rintro e w1 ⟨rfl, k1⟩
        have k2 := k0.trans k1 (fun z hz => by simp at hz)
        obtain ⟨c0, c1, c2, c3, c4⟩ := box_one w 2 x y _ b w1 k1
        have HS1 := HS w1 k2
        have B := fun W (kW : Kp [] w1 W) => box_one w 2 x y (.slice ao n c) b W (k1.trans kW (fun z hz => by simp at hz))
        clear HL HS k0 k1
        go_wp2_with fail
        refine HS1.mono ?_
        rintro e w3 ⟨rfl, k3⟩
        have k4 := k2.trans k3 (fun z hz => by simp at hz)
        obtain ⟨d0, d1, d2, d3, d4⟩ := B w3 k3
        clear HS1 k2 k3 B
        go_wp2
        go_ret
        exact ⟨rfl, k4⟩

set_option maxHeartbeats 1000000 in
theorem right4 (w : World) (x y : ByteArray) (l : List Att) (b : Bool) (ao : Option Addr) (n c : Nat) (hr : Rp w ao n c l) (hn : n ≤ 400)  :
    Calls Try.prog 13 #[tv 4 x ao n c b y] w fun e w' => e = .returned (.bool (right (4, x, l, b, y))) ∧ Kp [] w w' := by
  have k0 : Kp [] w (w.alloc (.cells #[.int .i64 4, .string x, .slice ao n c, .bool b, .string y] 32)) := (Kp.refl _ _).alloc _
  have hn' : n ≤ 1000 := by omega
  have hA : right (4, x, l, b, y) = (!(eqs y ⟨#[]⟩) && decide (((4, x, l, b, y) : Tok) = (4, ⟨#[]⟩, [], false, y))) := rfl
  rw [hA]
  clear hA
  have HS := tsame_any _ 4 4 x ⟨#[]⟩ y y l [] b false ao none n c 0 0 (hr.kept k0) (rp_nil _) hn' (by omega)
  generalize decide (((4, x, l, b, y) : Tok) = (4, ⟨#[]⟩, [], false, y)) = F at HS
  clear hr hn hn'
  unfold tv at *
  cases hy : eqs y ⟨#[]⟩ with
  | true =>
    have hy' := empty_yes hy
    go_enter Try.func13, Try.ntmps13
    clear HS
    go_wp2
    go_ret
    exact ⟨rfl, k0⟩
  | false =>
    have hy' := empty_no hy
    go_enter Try.func13, Try.ntmps13
    go_wp2_with fail
    refine HS.mono ?_
    rintro e w3 ⟨rfl, k3⟩
    have k4 := k0.trans k3 (fun z hz => by simp at hz)
    clear HS k0 k3
    go_wp2
    go_ret
    exact ⟨by cases F <;> rfl, k4⟩

set_option maxHeartbeats 1000000 in
theorem right5 (w : World) (x y : ByteArray) (l : List Att) (b : Bool) (ao : Option Addr) (n c : Nat) (hr : Rp w ao n c l) (hn : n ≤ 400)  :
    Calls Try.prog 13 #[tv 5 x ao n c b y] w fun e w' => e = .returned (.bool (right (5, x, l, b, y))) ∧ Kp [] w w' := by
  have k0 : Kp [] w (w.alloc (.cells #[.int .i64 5, .string x, .slice ao n c, .bool b, .string y] 32)) := (Kp.refl _ _).alloc _
  have hn' : n ≤ 1000 := by omega
  have hA : right (5, x, l, b, y) = decide (((5, x, l, b, y) : Tok) = (5, ⟨#[]⟩, [], false, y)) := rfl
  rw [hA]
  clear hA
  have HS := tsame_any _ 5 5 x ⟨#[]⟩ y y l [] b false ao none n c 0 0 (hr.kept k0) (rp_nil _) hn' (by omega)
  generalize decide (((5, x, l, b, y) : Tok) = (5, ⟨#[]⟩, [], false, y)) = F at HS
  clear hr hn hn'
  unfold tv at *
  go_enter Try.func13, Try.ntmps13
  go_wp2_with fail
  refine HS.mono ?_
  rintro e w3 ⟨rfl, k3⟩
  have k4 := k0.trans k3 (fun z hz => by simp at hz)
  clear HS k0 k3
  go_wp2
  go_ret
  exact ⟨rfl, k4⟩

set_option maxHeartbeats 1000000 in
theorem right6 (w : World) (x y : ByteArray) (l : List Att) (b : Bool) (ao : Option Addr) (n c : Nat) (hr : Rp w ao n c l) (hn : n ≤ 400)  :
    Calls Try.prog 13 #[tv 6 x ao n c b y] w fun e w' => e = .returned (.bool (right (6, x, l, b, y))) ∧ Kp [] w w' := by
  have k0 : Kp [] w (w.alloc (.cells #[.int .i64 6, .string x, .slice ao n c, .bool b, .string y] 32)) := (Kp.refl _ _).alloc _
  have hn' : n ≤ 1000 := by omega
  have hA : right (6, x, l, b, y) = decide (((6, x, l, b, y) : Tok) = (6, ⟨#[]⟩, [], false, ⟨#[]⟩)) := rfl
  rw [hA]
  clear hA
  have HS := tsame_any _ 6 6 x ⟨#[]⟩ y ⟨#[]⟩ l [] b false ao none n c 0 0 (hr.kept k0) (rp_nil _) hn' (by omega)
  generalize decide (((6, x, l, b, y) : Tok) = (6, ⟨#[]⟩, [], false, ⟨#[]⟩)) = F at HS
  clear hr hn hn'
  unfold tv at *
  go_enter Try.func13, Try.ntmps13
  go_wp2_with fail
  refine HS.mono ?_
  rintro e w3 ⟨rfl, k3⟩
  have k4 := k0.trans k3 (fun z hz => by simp at hz)
  clear HS k0 k3
  go_wp2
  go_ret
  exact ⟨rfl, k4⟩

theorem right_any (w : World) (k : Int) (x y : ByteArray) (l : List Att) (b : Bool) (ao : Option Addr) (n c : Nat) (hr : Rp w ao n c l) (hn : n ≤ 400) (hf : fits l) (hx : x.size ≤ 100000) :
    Calls Try.prog 13 #[tv k x ao n c b y] w fun e w' => e = .returned (.bool (right (k, x, l, b, y))) ∧ Kp [] w w' := by
  by_cases h1 : k = 1
  · subst h1
    exact right1 w x y l b ao n c hr hn hx
  by_cases h2 : k = 2
  · subst h2
    exact right2 w x y l b ao n c hr hn hf hx
  by_cases h3 : k = 3
  · subst h3
    exact right3 w x y l b ao n c hr hn hx
  by_cases h4 : k = 4
  · subst h4
    exact right4 w x y l b ao n c hr hn
  by_cases h5 : k = 5
  · subst h5
    exact right5 w x y l b ao n c hr hn
  by_cases h6 : k = 6
  · subst h6
    exact right6 w x y l b ao n c hr hn
  have hA : right (k, x, l, b, y) = false := by simp [right, h1, h2, h3, h4, h5, h6]
  rw [hA]
  have k0 : Kp [] w (w.alloc (.cells #[.int .i64 k, .string x, .slice ao n c, .bool b, .string y] 32)) := (Kp.refl _ _).alloc _
  clear hA hr hn hf hx
  unfold tv
  go_enter Try.func13, Try.ntmps13
  go_wp2
  go_ret
  exact ⟨rfl, k0⟩

end Go.Proofs.Ythdlmglnieomeaa
