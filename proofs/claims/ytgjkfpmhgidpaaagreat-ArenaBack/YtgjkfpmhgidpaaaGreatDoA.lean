/-
  do of the law: a call of both arenas, pair by pair.
-/
import Derived.Test.YtgjkfpmhgidpaaaGreatBO
namespace Go.Proofs.YtgjkfpmhgidpaaaGreat
open Go.RowKit Go.Maps Utf
set_option linter.unusedVariables false
set_option linter.unusedSimpArgs false

theorem cutB_size (s : ByteArray) (m : Nat) : (cutB s m).size ≤ m := by
  unfold cutB
  split
  · simp; omega
  · omega
theorem short_tiny (l : List Att) : ∀ a, a ∈ short l → a.1.size ≤ 20 ∧ a.2.size ≤ 30 := fun a ha => by
  unfold short at ha
  obtain ⟨x, _, rfl⟩ := List.mem_map.1 ha
  exact ⟨cutB_size _ _, cutB_size _ _⟩

section
variable {tag tag' : Nat → Nat} {w w' : World} {b d k : Nat} {q : Bool} {A : Ar}

theorem Ps.succ (h : Ps tag w b q A k) (hk : k < 3000) : Ps tag w b q A (k + 1) := ⟨h.pa, h.ful, h.sz.succ (by omega), hk⟩
theorem Bo.succ (h : Bo tag w b d q A k) (hk : k < 1300) : Bo tag w b d q A (k + 1) := ⟨h.ps.succ (by omega), h.dn, hk⟩

/-- What the program's call leaves, and the document's on top of it. -/
def Pc (tag : Nat → Nat) (w : World) (b : Nat) (q : Bool) (A' : Ar) (k : Nat) (F : Nat) (args : Array Value) (r : Value) : Prop :=
  Calls Tryz.prog F args w fun e w' => e = .returned r ∧ ∃ tag2, Ps tag2 w' b q A' (k + 1) ∧ Mv tag w tag2 w'
def Dc (tag : Nat → Nat) (w : World) (b d : Nat) (q : Bool) (A' : Ar) (k : Nat) (F : Nat) (args : Array Value) (r : Value) : Prop :=
  ∀ tag2 V, Ps tag2 V b q A' (k + 1) → Mv tag w tag2 V → Calls Tryz.prog F args V fun e w' => e = .returned r ∧ ∃ tag3, Bo tag3 w' b d q A' (k + 1) ∧ Bv tag w tag3 w'

theorem Dc.of {A' : Ar} {F : Nat} {args : Array Value} {r : Value} (hk : k < 1300) (H : ∀ tag2 V, Mv tag w tag2 V → Calls Tryz.prog F args V fun e w' => e = .returned r ∧ ∃ tag3, Dn tag3 w' d q A' ∧ Dv tag2 V tag3 w') : Dc tag w b d q A' k F args r := fun tag2 V ps mv => by
  refine (H tag2 V mv).mono ?_
  rintro e w' ⟨rfl, tag3, dn, dv⟩
  exact ⟨rfl, tag3, ⟨ps.dv dv, dn, hk⟩, mv.bv.trans dv.bv⟩

theorem Pc.of {A' : Ar} {F : Nat} {args : Array Value} {r : Value} (hk : k < 1300) (H : Calls Tryz.prog F args w fun e w' => e = .returned r ∧ Ps tag w' b q A' k ∧ Mv tag w tag w') : Pc tag w b q A' k F args r := by
  refine H.mono ?_
  rintro e w' ⟨rfl, ps, mv⟩
  exact ⟨rfl, tag, ps.succ (by omega), mv⟩


theorem Bo.app2 (B : Bo tag w b d q A k) (hk : k < 1300) (p x : Int) : Pc tag w b q (A.appF p x).1 k 22 #[.pointer (some ⟨b, 0, none⟩), .int .i64 p, .int .i64 x] (.int .i64 (A.appF p x).2) ∧ Dc tag w b d q (A.appF p x).1 k 23 #[.pointer (some ⟨d, 0, none⟩), .int .i64 p, .int .i64 x] (.int .i64 (A.appF p x).2) :=
  ⟨Pc.of hk (B.ps.app p x), Dc.of hk fun tag2 V mv => rapp_any (B.dn.mv mv) B.ps.ful (by have := B.n_lt; omega) p x⟩
theorem Bo.bef2 (B : Bo tag w b d q A k) (hk : k < 1300) (p x : Int) : Pc tag w b q (A.befF p x).1 k 24 #[.pointer (some ⟨b, 0, none⟩), .int .i64 p, .int .i64 x] (.int .i64 (A.befF p x).2) ∧ Dc tag w b d q (A.befF p x).1 k 25 #[.pointer (some ⟨d, 0, none⟩), .int .i64 p, .int .i64 x] (.int .i64 (A.befF p x).2) :=
  ⟨Pc.of hk (B.ps.bef p x), Dc.of hk fun tag2 V mv => rbef_any (B.dn.mv mv) B.ps.ful (by have := B.n_lt; omega) p x⟩
theorem Bo.det2 (B : Bo tag w b d q A k) (hk : k < 1300) (x : Int) : Pc tag w b q (A.detF x).1 k 26 #[.pointer (some ⟨b, 0, none⟩), .int .i64 x] (.int .i64 (A.detF x).2) ∧ Dc tag w b d q (A.detF x).1 k 27 #[.pointer (some ⟨d, 0, none⟩), .int .i64 x] (.int .i64 (A.detF x).2) :=
  ⟨Pc.of hk (B.ps.det x), Dc.of hk fun tag2 V mv => rdet_any (B.dn.mv mv) B.ps.ful (by have := B.n_lt; omega) x⟩
theorem Bo.mov2 (B : Bo tag w b d q A k) (hk : k < 1300) (p x : Int) : Pc tag w b q (A.movF p x).1 k 28 #[.pointer (some ⟨b, 0, none⟩), .int .i64 p, .int .i64 x] (.int .i64 (A.movF p x).2) ∧ Dc tag w b d q (A.movF p x).1 k 29 #[.pointer (some ⟨d, 0, none⟩), .int .i64 p, .int .i64 x] (.int .i64 (A.movF p x).2) :=
  ⟨Pc.of hk (B.ps.mov p x), Dc.of hk fun tag2 V mv => rmovF (B.dn.mv mv) B.ps.ful (by have := B.n_lt; omega) p x⟩
theorem Bo.wr2 (B : Bo tag w b d q A k) (hk : k < 1300) (p : Int) (s : ByteArray) (hs : s.size ≤ 9) : Pc tag w b q (A.wrF p s).1 k 30 #[.pointer (some ⟨b, 0, none⟩), .int .i64 p, .string s] (.int .i64 (A.wrF p s).2) ∧ Dc tag w b d q (A.wrF p s).1 k 31 #[.pointer (some ⟨d, 0, none⟩), .int .i64 p, .string s] (.int .i64 (A.wrF p s).2) :=
  ⟨B.ps.wr (by omega) p s hs, Dc.of hk fun tag2 V mv => rwrite_any (B.dn.mv mv) B.ps.ful B.ps.n_lt p s (by omega) B.ps.txt⟩
theorem Bo.wb2 (B : Bo tag w b d q A k) (hk : k < 1300) (p : Int) (s : ByteArray) (hs : s.size ≤ 9) : Pc tag w b q (A.wbF p s).1 k 32 #[.pointer (some ⟨b, 0, none⟩), .int .i64 p, .string s] (.int .i64 (A.wbF p s).2) ∧ Dc tag w b d q (A.wbF p s).1 k 33 #[.pointer (some ⟨d, 0, none⟩), .int .i64 p, .string s] (.int .i64 (A.wbF p s).2) :=
  ⟨B.ps.wb (by omega) p s hs, Dc.of hk fun tag2 V mv => rwbef_any (B.dn.mv mv) B.ps.ful B.ps.n_lt p s (by omega) B.ps.txt⟩
theorem Bo.mor2 (B : Bo tag w b d q A k) (hk : k < 1300) (p : Int) (l : List Att) (ao : Option Addr) (n' c' : Nat) (hr : Rk (fun x => Nq (tag x)) 2 w ao n' c' (cs l)) (hl : l.length ≤ 6) (hs : ∀ a, a ∈ l → a.1.size ≤ 20 ∧ a.2.size ≤ 30) : Pc tag w b q (A.morF p (fun x => more x l)).1 k 34 #[.pointer (some ⟨b, 0, none⟩), .int .i64 p, .slice ao n' c'] (.int .i64 (A.morF p (fun x => more x l)).2) ∧ Dc tag w b d q (A.morF p (fun x => more x l)).1 k 35 #[.pointer (some ⟨d, 0, none⟩), .int .i64 p, .slice ao n' c'] (.int .i64 (A.morF p (fun x => more x l)).2) := by
  have hl' := hr.rp.len
  exact ⟨B.ps.mor (by omega) p l ao n' c' (hr.mono (fun x _ hx => hx.1)) hl hs, Dc.of hk fun tag2 V mv => rmore_any (B.dn.mv mv) B.ps.n_lt p l ao n' c' (hr.bv mv.bv).rp (by omega) (fun x => by have := (B.att x).1; omega)⟩
theorem Bo.mk2 (B : Bo tag w b d q A k) (hk : k < 1300) (kind ns : Int) (name text : ByteArray) (l : List Att) (ao : Option Addr) (n' c' : Nat) (hr : Rk (fun x => Nq (tag x)) 2 w ao n' c' (cs l)) (hl : l.length ≤ 6) (hs : ∀ a, a ∈ l → a.1.size ≤ 20 ∧ a.2.size ≤ 30) (h1 : name.size ≤ 9) (h2 : text.size ≤ 9) :
    Pc tag w b q (A.mkF kind ns name (uniq l) text).1 k 20 #[.pointer (some ⟨b, 0, none⟩), .int .i64 kind, .int .i64 ns, .string name, .slice ao n' c', .string text] (.tuple #[.int .i64 (A.mkF kind ns name (uniq l) text).2.1, .int .i64 (A.mkF kind ns name (uniq l) text).2.2]) ∧ Dc tag w b d q (A.mkF kind ns name (uniq l) text).1 k 21 #[.pointer (some ⟨d, 0, none⟩), .int .i64 kind, .int .i64 ns, .string name, .slice ao n' c', .string text] (.tuple #[.int .i64 (A.mkF kind ns name (uniq l) text).2.1, .int .i64 (A.mkF kind ns name (uniq l) text).2.2]) := by
  have hl' := hr.rp.len
  exact ⟨B.ps.mk' (by omega) kind ns name text l ao n' c' hr.rp hl hs h1 h2, Dc.of hk fun tag2 V mv => rmake_any (B.dn.mv mv) B.ps.ful B.ps.n_lt kind ns name text l ao n' c' (hr.bv mv.bv).rp (by omega)⟩

end

end Go.Proofs.YtgjkfpmhgidpaaaGreat
