/-
  The lexer's block; New, At, Set, closes, begins, ends and meaning of the program.
-/
import Derived.Test.YtcfaejbbjmjgpaaGreatDoorLexs
import Derived.Test.YtcfaejbbjmjgpaaGreatDoorMarkB
import Derived.Test.YtcfaejbbjmjgpaaGreatDoorWhole
import Derived.Test.YtcfaejbbjmjgpaaGreatDoorRead
namespace Go.Proofs.YtcfaejbbjmjgpaaGreatDoor
open Go.RowKit Utf
set_option linter.unusedVariables false

/-- The lexer that lies in block b. -/
def Lx (w : World) (b : Nat) (s : ByteArray) (p : Nat) (md : Int) (fg : Bool) (last : ByteArray) : Prop := At w b #[.string s, .int .i64 (p : Int), .int .i64 md, .bool fg, .string last] 54

theorem Lx.kept {w w' : World} {b : Nat} {s : ByteArray} {p : Nat} {md : Int} {fg : Bool} {last : ByteArray} {S : List Nat} (h : Lx w b s p md fg last) (k : Kp S w w') (hb : b ∉ S) : Lx w' b s p md fg last := At.kept h k hb
theorem Lx.lt {w : World} {b : Nat} {s : ByteArray} {p : Nat} {md : Int} {fg : Bool} {last : ByteArray} (h : Lx w b s p md fg last) : b < w.heap.size := At.lt h
theorem Lx.new (w : World) (s : ByteArray) (p : Nat) (md : Int) (fg : Bool) (last : ByteArray) : Lx (w.alloc (.cells #[.string s, .int .i64 (p : Int), .int .i64 md, .bool fg, .string last] 54)) w.heap.size s p md fg last := At.new _ _ _
theorem Lx.setAt {w : World} {b : Nat} {s : ByteArray} {p : Nat} {md : Int} {fg : Bool} {last : ByteArray} (h : Lx w b s p md fg last) (q : Nat) : Lx (w.setCell ⟨b, 1, none⟩ (.int .i64 (q : Int))) b s q md fg last := At.set h 1 _
theorem Lx.setMode {w : World} {b : Nat} {s : ByteArray} {p : Nat} {md : Int} {fg : Bool} {last : ByteArray} (h : Lx w b s p md fg last) (m : Int) : Lx (w.setCell ⟨b, 2, none⟩ (.int .i64 m)) b s p m fg last := At.set h 2 _
theorem Lx.setForeign {w : World} {b : Nat} {s : ByteArray} {p : Nat} {md : Int} {fg : Bool} {last : ByteArray} (h : Lx w b s p md fg last) (f : Bool) : Lx (w.setCell ⟨b, 3, none⟩ (.bool f)) b s p md f last := At.set h 3 _
theorem Lx.setLast {w : World} {b : Nat} {s : ByteArray} {p : Nat} {md : Int} {fg : Bool} {last : ByteArray} (h : Lx w b s p md fg last) (x : ByteArray) : Lx (w.setCell ⟨b, 4, none⟩ (.string x)) b s p md fg x := At.set h 4 _
/-- What is read and written there. -/
theorem Lx.facts {w : World} {b : Nat} {s : ByteArray} {p : Nat} {md : Int} {fg : Bool} {last : ByteArray} (h : Lx w b s p md fg last) :
    (w.cell? ⟨b, 0, none⟩ = some (.string s) ∧ w.cell? ⟨b, 1, none⟩ = some (.int .i64 (p : Int)) ∧ w.cell? ⟨b, 2, none⟩ = some (.int .i64 md) ∧ w.cell? ⟨b, 3, none⟩ = some (.bool fg) ∧ w.cell? ⟨b, 4, none⟩ = some (.string last)) ∧ ∀ j, w.frozen? ⟨b, j, none⟩ = false :=
  ⟨⟨At.cell h 0, At.cell h 1, At.cell h 2, At.cell h 3, At.cell h 4⟩, fun j => At.free h j⟩

/-- The two tables lie where they lay at w0, and the lexer's block is younger. -/
structure Ev (w0 w : World) (b : Nat) : Prop where
  kp : Kp [] w0 w
  nw : w0.heap.size ≤ b
  nm : Nm w0
  inn : In w0
theorem Ev.step {w0 w W : World} {b : Nat} (h : Ev w0 w b) (k : Kp [b] w W) : Ev w0 W b :=
  ⟨h.kp.trans k (fun x hx => Or.inr (by have := h.nw; simp at hx; omega)), h.nw, h.nm, h.inn⟩
theorem Ev.more {w0 w W : World} {b : Nat} (h : Ev w0 w b) (k : Kp [] w W) : Ev w0 W b :=
  ⟨h.kp.trans k (fun x hx => by simp at hx), h.nw, h.nm, h.inn⟩
theorem Ev.names {w0 w : World} {b : Nat} (h : Ev w0 w b) : Nm w := h.nm.kept h.kp
theorem Ev.runes {w0 w : World} {b : Nat} (h : Ev w0 w b) : In w := h.inn.kept h.kp

theorem new_any (w : World) (s : ByteArray) : Calls Tryz.prog 10 #[.string s] w fun e w' => e = .returned (.pointer (some ⟨w.heap.size, 0, none⟩)) ∧ w' = w.alloc (.cells #[.string s, .int .i64 ((0 : Nat) : Int), .int .i64 1, .bool false, .string ⟨#[]⟩] 54) := by
  go_enter Tryz.func10, Tryz.ntmps10
  go_wp2
  go_ret
  exact ⟨rfl, rfl⟩

theorem at_any (w : World) (b : Nat) (s : ByteArray) (p : Nat) (md : Int) (fg : Bool) (last : ByteArray) (h : Lx w b s p md fg last) : Calls Tryz.prog 18 #[.pointer (some ⟨b, 0, none⟩)] w fun e w' => e = .returned (.int .i64 (p : Int)) ∧ w' = w := by
  obtain ⟨⟨c0, c1, c2, c3, c4⟩, hf⟩ := h.facts
  clear h
  go_enter Tryz.func18, Tryz.ntmps18
  go_wp2
  go_ret
  exact ⟨rfl, rfl⟩

/-- The mode that a number means. -/
def modeF (m : Int) : Int := if m = 2 ∨ m = 3 ∨ m = 4 then m else 1
theorem modeF_ok (m : Int) : mdOk (modeF m) := by
  unfold modeF
  split <;> omega
theorem modeF_id {m : Int} (h : mdOk m) : modeF m = m := by
  unfold modeF
  split <;> omega

theorem set_any (w : World) (b : Nat) (s : ByteArray) (p : Nat) (md : Int) (fg : Bool) (last : ByteArray) (h : Lx w b s p md fg last) (m : Int) : Calls Tryz.prog 12 #[.pointer (some ⟨b, 0, none⟩), .int .i64 m] w fun e w' => e = .returned (.tuple #[]) ∧ Kp [b] w w' ∧ Lx w' b s p (modeF m) fg last := by
  obtain ⟨⟨c0, c1, c2, c3, c4⟩, hf⟩ := h.facts
  have hM : Hid (∀ m', Kp [b] w (w.setCell ⟨b, 2, none⟩ (.int .i64 m')) ∧ Lx (w.setCell ⟨b, 2, none⟩ (.int .i64 m')) b s p m' fg last) := fun m' => ⟨(Kp.refl _ _).setCell (Or.inl (by simp)) _, h.setMode m'⟩
  clear h
  by_cases h2 : m = 2
  · subst h2
    go_enter Tryz.func12, Tryz.ntmps12
    go_wp2
    go_end0
    exact ⟨rfl, hM.out 2⟩
  by_cases h3 : m = 3
  · subst h3
    go_enter Tryz.func12, Tryz.ntmps12
    go_wp2
    go_end0
    exact ⟨rfl, hM.out 3⟩
  by_cases h4 : m = 4
  · subst h4
    go_enter Tryz.func12, Tryz.ntmps12
    go_wp2
    go_end0
    exact ⟨rfl, hM.out 4⟩
  have e1 : modeF m = 1 := by unfold modeF; rw [if_neg (by omega)]
  rw [e1]
  go_enter Tryz.func12, Tryz.ntmps12
  go_wp2
  go_end0
  exact ⟨rfl, hM.out 1⟩

end Go.Proofs.YtcfaejbbjmjgpaaGreatDoor
