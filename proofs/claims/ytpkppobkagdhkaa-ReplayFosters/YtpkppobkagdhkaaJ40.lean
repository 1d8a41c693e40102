/-
  Joined: Ply.
-/
import Derived.Test.YtpkppobkagdhkaaJ39
import Derived.Test.YtpkppobkagdhkaaJ12

/-
  Operations done, by themselves: what a player knows, what an operation makes of it, or why it is refused. No program.
-/
namespace Go.Proofs.Ytpkppobkagdhkaa
open Utf
set_option linter.unusedVariables false
set_option linter.unusedSimpArgs false

/-- What number a handle stands for. -/
def num : List (Int × Nat) → Int → Option Nat
  | [], _ => none
  | p :: l, h => if p.1 = h then some p.2 else num l h

theorem num_snoc (x : Int) (n : Nat) (h : Int) : ∀ l : List (Int × Nat), num (l ++ [(x, n)]) h = (match num l h with | some y => some y | none => if x = h then some n else none)
  | [] => rfl
  | p :: l => by
    simp only [List.cons_append, num]
    split
    · rfl
    · exact num_snoc x n h l

theorem num_new {l : List (Int × Nat)} {x : Int} {n : Nat} {h : Int} {y : Nat} (hn : num (l ++ [(x, n)]) h = some y) : num l h = some y ∨ (x = h ∧ n = y) := by
  rw [num_snoc] at hn
  cases e : num l h with
  | some z => rw [e] at hn; exact .inl hn
  | none =>
    rw [e] at hn
    simp only at hn
    split at hn
    · rename_i hx
      exact .inr ⟨hx, Option.some.inj hn⟩
    · cases hn

namespace Ar
theorem txt_n (a : Ar) (p i : Nat) (s : ByteArray) : a.n ≤ (a.txt p i s).n := by
  unfold txt
  split
  · exact Nat.le_refl _
  split
  · split
    · exact Nat.le_refl _
    · exact Nat.le_succ _
  · exact Nat.le_succ _
theorem wrF_n (a : Ar) (p : Int) (s : ByteArray) : a.n ≤ (a.wrF p s).1.n := by
  unfold wrF
  repeat' split
  all_goals first | exact Nat.le_refl _ | exact txt_n _ _ _ _
theorem wbF_n (a : Ar) (p : Int) (s : ByteArray) : a.n ≤ (a.wbF p s).1.n := by
  unfold wbF
  repeat' split
  all_goals first | exact Nat.le_refl _ | exact txt_n _ _ _ _
theorem morF_n (a : Ar) (x : Int) (g : List Att → List Att) : (a.morF x g).1.n = a.n := by
  unfold morF
  repeat' split
  all_goals rfl
theorem mkF_n (a : Ar) (kind ns : Int) (name : ByteArray) (u : List Att) (text : ByteArray) : a.n ≤ (a.mkF kind ns name u text).1.n ∧ ((a.mkF kind ns name u text).2.2 = 0 → (a.mkF kind ns name u text).2.1 = a.n ∧ a.n < (a.mkF kind ns name u text).1.n) := by
  unfold mkF
  repeat' split
  · exact ⟨Nat.le_refl _, fun h => by cases h⟩
  · exact ⟨Nat.le_refl _, fun h => by cases h⟩
  · exact ⟨by show a.n ≤ a.n + 1 + 1; omega, fun _ => ⟨rfl, by show a.n < a.n + 1 + 1; omega⟩⟩
  all_goals exact ⟨Nat.le_succ _, fun _ => ⟨rfl, Nat.lt_succ_self _⟩⟩
theorem conF_lt {a : Ar} (h : a.Ful) {z : Int} (ht : (a.conF z).2 = true) : ∃ c : Nat, (a.conF z).1 = (c : Int) ∧ c < a.n := by
  unfold conF at ht ⊢
  by_cases hz : a.there z = true ∧ tmplF (a.lb z.toNat) = true
  · rw [if_pos hz]
    obtain ⟨c, h1, h2⟩ := h.has z.toNat (there_lt hz.1).1 hz.2
    cases hk : a.kids z.toNat with
    | nil => rw [hk] at h1; cases h1
    | cons x xs => exact ⟨x, rfl, (h.toOk.kid_lt (p := z.toNat) (x := x) (by rw [hk]; exact List.mem_cons_self ..)).1⟩
  · rw [if_neg hz] at ht
    cases ht

end Ar

/-- What a player knows: the arena, whether it is quirky, the handles with their numbers. -/
structure Py where
  A : Ar
  q : Bool
  M : List (Int × Nat)

namespace Py

def first : Py := ⟨Ar.first, false, [(0, 0)]⟩

/-- The number of a handle; 0, where it has none. -/
def nz (s : Py) (h : Int) : Nat := (num s.M h).getD 0
/-- Is it known? -/
def kn (s : Py) (h : Int) : Bool := (num s.M h).isSome

/-- With another arena. -/
def upd (s : Py) (x : Ar × Int) : Py × Int := (⟨x.1, s.q, s.M⟩, x.2)

def bldF (s : Py) (o : Ot) : Py × Int :=
  if (s.A.mkF o.ty o.ns o.nm (uniq o.al) o.tt).2.2 = 0 then (⟨(s.A.mkF o.ty o.ns o.nm (uniq o.al) o.tt).1, s.q, s.M ++ [(o.nd, (s.A.mkF o.ty o.ns o.nm (uniq o.al) o.tt).2.1.toNat)]⟩, 0)
  else (s, (s.A.mkF o.ty o.ns o.nm (uniq o.al) o.tt).2.2)

def entF (s : Py) (h : Int) (r : Nat) : Py × Int :=
  if (s.A.conF r).2 = true then (⟨s.A, s.q, s.M ++ [(h, (s.A.conF r).1.toNat)]⟩, 0) else (s, 23)

def fosF (s : Py) (r p n : Nat) : Py × Int := s.upd (if (s.A.up r).isSome = true then s.A.befF r n else s.A.appF p n)
def pouF (s : Py) (r p : Nat) (t : ByteArray) : Py × Int := s.upd (if (s.A.up r).isSome = true then s.A.wbF r t else s.A.wrF p t)

/-- What an operation does, its handles being known. -/
def perF (s : Py) (o : Ot) (n p r : Nat) : Py × Int :=
  if o.kd = 1 then s.bldF o
  else if o.kd = 2 then s.upd (s.A.appF p n)
  else if o.kd = 3 then s.upd (s.A.befF r n)
  else if o.kd = 4 then s.fosF r p n
  else if o.kd = 5 then s.upd (s.A.wrF p o.tt)
  else if o.kd = 6 then s.pouF r p o.tt
  else if o.kd = 7 then s.upd (s.A.detF n)
  else if o.kd = 8 then s.upd (s.A.movF r p)
  else if o.kd = 9 then s.entF o.nd r
  else if o.kd = 10 then s.upd (s.A.morF n (fun x => more x o.al))
  else if o.kd = 11 then (⟨s.A, true, s.M⟩, 0)
  else (s, 0)

/-- Does it make a handle known? -/
def isN (k : Int) : Bool := k == 1 || k == 9

/-- What comes of an operation, and why it is refused (0: it is not). -/
def doF (s : Py) (o : Ot) : Py × Int :=
  if rightO o = false then (s, 12)
  else if (isN o.kd && s.kn o.nd) = true then (s, 24)
  else if (((!isN o.kd && !s.kn o.nd) || !s.kn o.pa) || !s.kn o.rf) = true then (s, 22)
  else s.perF o (s.nz o.nd) (s.nz o.pa) (s.nz o.rf)

end Py

/-- An operation that is small. -/
structure tinyO (o : Ot) : Prop where
  nm : o.nm.size ≤ 10
  tt : o.tt.size ≤ 10
  al : o.al.length ≤ 6
  each : ∀ a, a ∈ o.al → a.1.size ≤ 20 ∧ a.2.size ≤ 30

namespace Py

/-- What holds of a player behind k operations. -/
structure Fit (s : Py) (k : Nat) : Prop where
  ful : s.A.Ful
  sz : s.A.Sz k
  hk : k ≤ 1300
  z0 : num s.M 0 = some 0
  lt : ∀ h n, num s.M h = some n → n < s.A.n
  len : s.M.length ≤ k + 1

theorem first_fit : first.Fit 0 := by
  refine ⟨Ar.first_ful, Ar.Sz.first, by omega, rfl, fun h n e => ?_, Nat.le_refl _⟩
  simp only [first, num] at e
  split at e
  · have := Option.some.inj e
    subst this
    exact Nat.one_pos
  · cases e

theorem Fit.pos {s : Py} {k : Nat} (h : s.Fit k) : 0 < s.A.n := h.ful.toOk.pos
theorem Fit.nz_lt {s : Py} {k : Nat} (h : s.Fit k) (x : Int) : s.nz x < s.A.n := by
  unfold nz
  cases e : num s.M x with
  | none => exact h.pos
  | some n => exact h.lt x n e
theorem Fit.succ {s : Py} {k : Nat} (h : s.Fit k) (hk : k < 1300) : s.Fit (k + 1) := ⟨h.ful, h.sz.succ (Nat.le_succ _), hk, h.z0, h.lt, by have := h.len; omega⟩

theorem Fit.upd {s : Py} {k : Nat} (h : s.Fit k) (hk : k < 1300) {x : Ar × Int} (h1 : x.1.Ful) (h2 : x.1.Sz (k + 1)) (h3 : s.A.n ≤ x.1.n) : (s.upd x).1.Fit (k + 1) :=
  ⟨h1, h2, hk, h.z0, fun y n e => Nat.lt_of_lt_of_le (h.lt y n e) h3, by have := h.len; show s.M.length ≤ _; omega⟩

theorem Fit.snoc {s : Py} {k : Nat} (h : s.Fit k) (hk : k < 1300) {B : Ar} (q : Bool) (h1 : B.Ful) (h2 : B.Sz (k + 1)) (h3 : s.A.n ≤ B.n) (x : Int) (n : Nat) (hn : n < B.n) : (Py.mk B q (s.M ++ [(x, n)])).Fit (k + 1) :=
  ⟨h1, h2, hk, by show num (s.M ++ [(x, n)]) 0 = _; rw [num_snoc, h.z0], fun y m e => by
    rcases num_new e with e | ⟨_, rfl⟩
    · exact Nat.lt_of_lt_of_le (h.lt y m e) h3
    · exact hn, by have := h.len; show (s.M ++ [(x, n)]).length ≤ _; simp; omega⟩

theorem Fit.perF {s : Py} {k : Nat} (h : s.Fit k) (hk : k < 1300) {o : Ot} (ho : tinyO o) (n p r : Nat) : (s.perF o n p r).1.Fit (k + 1) := by
  have S1 : ∀ {a : Ar}, a.Sz k → a.Sz (k + 1) := fun h => h.succ (Nat.le_succ _)
  have hb : (s.upd (s.A.befF r n)).1.Fit (k + 1) := h.upd hk (h.ful.befF _ _) (S1 (h.sz.befF _ _)) (by rw [Ar.befF_n]; exact Nat.le_refl _)
  have ha : (s.upd (s.A.appF p n)).1.Fit (k + 1) := h.upd hk (h.ful.appF _ _) (S1 (h.sz.appF _ _)) (by rw [Ar.appF_n]; exact Nat.le_refl _)
  have hw : (s.upd (s.A.wrF p o.tt)).1.Fit (k + 1) := h.upd hk (h.ful.wrF _ _) (h.sz.wrF _ ho.tt) (Ar.wrF_n _ _ _)
  unfold Py.perF
  repeat' split
  · unfold bldF; split
    · rename_i _ h0
      obtain ⟨m1, m2⟩ := Ar.mkF_n s.A o.ty o.ns o.nm (uniq o.al) o.tt
      obtain ⟨m2, m3⟩ := m2 h0
      exact h.snoc hk s.q (h.ful.mkF _ _ _ _ _) (h.sz.mkF _ _ ho.nm ho.tt (Ar.Tiny.uniq ho.al ho.each)) m1 _ _ (by rw [m2, Int.toNat_natCast]; exact m3)
    · exact h.succ hk
  · exact ha
  · exact hb
  · unfold fosF; split
    · exact hb
    · exact ha
  · exact hw
  · unfold pouF; split
    · exact h.upd hk (h.ful.wbF _ _) (h.sz.wbF _ ho.tt) (Ar.wbF_n _ _ _)
    · exact hw
  · exact h.upd hk (h.ful.detF _) (S1 (h.sz.detF _)) (by rw [Ar.detF_n]; exact Nat.le_refl _)
  · exact h.upd hk (h.ful.movF _ _) (S1 (h.sz.movF h.ful _ _)) (by rw [Ar.movF_n]; exact Nat.le_refl _)
  · unfold entF; split
    · rename_i h0
      obtain ⟨c, e1, e2⟩ := Ar.conF_lt h.ful h0
      exact h.snoc hk s.q h.ful (S1 h.sz) (Nat.le_refl _) _ _ (by rw [e1, Int.toNat_natCast]; exact e2)
    · exact h.succ hk
  · exact h.upd hk (h.ful.morF _ _) (h.sz.morF _ ho.al ho.each) (by rw [Ar.morF_n]; exact Nat.le_refl _)
  · exact ⟨h.ful, S1 h.sz, hk, h.z0, h.lt, (h.succ hk).len⟩
  · exact h.succ hk

theorem Fit.doF {s : Py} {k : Nat} (h : s.Fit k) (hk : k < 1300) {o : Ot} (ho : tinyO o) : (s.doF o).1.Fit (k + 1) := by
  unfold Py.doF
  repeat' split
  all_goals first | exact h.succ hk | exact h.perF hk ho _ _ _

/-- Operations one behind the other, whatever is refused. -/
def aft : Py → List Ot → Py
  | s, [] => s
  | s, o :: l => aft (s.doF o).1 l

/-- .. up to the first that is refused: what came of it, how many were done, why. -/
def playF : Py → List Ot → Py × Nat × Int
  | s, [] => (s, 0, 0)
  | s, o :: l => if (s.doF o).2 = 0 then ((playF (s.doF o).1 l).1, (playF (s.doF o).1 l).2.1 + 1, (playF (s.doF o).1 l).2.2) else (s, 0, (s.doF o).2)

/-- All are done. -/
def Done (s : Py) (l : List Ot) : Prop := (playF s l).2.2 = 0

theorem done_cons {s : Py} {o : Ot} {l : List Ot} : Done s (o :: l) ↔ (s.doF o).2 = 0 ∧ Done (s.doF o).1 l := by
  unfold Done
  rw [playF]
  by_cases h : (s.doF o).2 = 0
  · rw [if_pos h]
    exact ⟨fun g => ⟨h, g⟩, fun g => g.2⟩
  · rw [if_neg h]
    exact ⟨fun g => absurd g h, fun g => absurd g.1 h⟩

theorem Done.take : ∀ {l : List Ot} {s : Py} (k : Nat), Done s l → Done s (l.take k)
  | l, s, 0, _ => rfl
  | [], s, k + 1, h => h
  | o :: l, s, k + 1, h => by
    obtain ⟨h1, h2⟩ := done_cons.1 h
    exact done_cons.2 ⟨h1, h2.take k⟩

/-- A row of operations under way: i of them were done. -/
theorem play_step {s : Py} {l : List Ot} {i : Nat} {r : Py × Nat × Int} (hi : i < l.length) (h : playF s (l.drop i) = r) : playF s (l.drop i) = (if (s.doF l[i]).2 = 0 then ((playF (s.doF l[i]).1 (l.drop (i + 1))).1, (playF (s.doF l[i]).1 (l.drop (i + 1))).2.1 + 1, (playF (s.doF l[i]).1 (l.drop (i + 1))).2.2) else (s, 0, (s.doF l[i]).2)) := by
  rw [List.drop_eq_getElem_cons hi, playF]

end Py

end Go.Proofs.Ytpkppobkagdhkaa
