/-
  Joined: Cl.
-/
import Derived.Test.YtpkppobkagdhkaaJ38

/-
  The program's arena: each call once more, with the sizes that a row of calls may reach; Node.
-/
namespace Go.Proofs.Ytpkppobkagdhkaa
open Go.RowKit Go.Maps Utf
set_option linter.unusedVariables false
set_option linter.unusedSimpArgs false

namespace Ar
theorem appF_n (a : Ar) (p x : Int) : (a.appF p x).1.n = a.n := by
  unfold appF
  repeat' split
  all_goals rfl
theorem befF_n (a : Ar) (p x : Int) : (a.befF p x).1.n = a.n := by
  unfold befF
  repeat' split
  all_goals rfl
theorem detF_n (a : Ar) (x : Int) : (a.detF x).1.n = a.n := by
  unfold detF
  repeat' split
  all_goals rfl
theorem movs_n (t : Nat) : ∀ (xs : List Nat) (a : Ar), (a.movs t xs).n = a.n
  | [], a => rfl
  | x :: xs, a => by
    unfold movs
    split
    · exact movs_n t xs a
    · exact (movs_n t xs _).trans rfl
theorem movF_n (a : Ar) (f t : Int) : (a.movF f t).1.n = a.n := by
  unfold movF
  repeat' split
  all_goals first | rfl | exact movs_n _ _ _
end Ar

/-- The program's arena behind k calls. -/
structure Ps (tag : Nat → Nat) (w : World) (b : Nat) (q : Bool) (A : Ar) (k : Nat) : Prop where
  pa : Pa tag w b q A.n A.raw
  ful : A.Ful
  sz : A.Sz k
  hk : k ≤ 3000

section
variable {tag : Nat → Nat} {w : World} {b k : Nat} {q : Bool} {A : Ar}

theorem Ps.n_lt (h : Ps tag w b q A k) : A.n < 40000 := by have := h.sz.n; have := h.hk; omega
theorem Ps.txt (h : Ps tag w b q A k) (x : Nat) : (A.lb x).text.size ≤ 900000 := by have := (h.sz.lbs x).2.1; have := h.hk; omega
theorem Ps.att (h : Ps tag w b q A k) (x : Nat) : (A.lb x).attrs.length ≤ 20000 ∧ fits (A.lb x).attrs := by
  obtain ⟨_, _, t⟩ := h.sz.lbs x
  exact ⟨by have := t.len; have := h.hk; omega, t.fits⟩
theorem Ps.nm (h : Ps tag w b q A k) (x : Nat) : (A.lb x).name.size ≤ 1000000 := by have := (h.sz.lbs x).1; omega

theorem Ps.kept {w' : World} (h : Ps tag w b q A k) (kp : Kp [] w w') : Ps tag w' b q A k := ⟨h.pa.mv kp (fun _ _ => rfl), h.ful, h.sz, h.hk⟩
theorem Ps.lt (h : Ps tag w b q A k) : b < w.heap.size := by obtain ⟨_, _, _, _, r⟩ := h.pa; exact r.lt.1

theorem Ps.new (w : World) (tag : Nat → Nat) : Calls Try.prog 16 #[] w fun e w' => ∃ b tag', e = .returned (.pointer (some ⟨b, 0, none⟩)) ∧ Ps tag' w' b false Ar.first 0 ∧ Mv tag w tag' w' ∧ w.heap.size ≤ b := by
  refine (new_any w tag).mono ?_
  rintro e w' ⟨b, tag', rfl, pa, kp, hb, ht⟩
  exact ⟨b, tag', rfl, ⟨pa, Ar.first_ful, Ar.Sz.first, by omega⟩, Mv.of_kp kp (fun x hx => by simp at hx) ht, hb⟩

theorem Ps.mk' (h : Ps tag w b q A k) (hk : k < 3000) (kind ns : Int) (name text : ByteArray) (l : List Att) (ao : Option Addr) (n' c' : Nat) (hr : Rp w ao n' c' l) (hl : l.length ≤ 6) (hs : ∀ a, a ∈ l → a.1.size ≤ 20 ∧ a.2.size ≤ 30) (h1 : name.size ≤ 10) (h2 : text.size ≤ 10) :
    Calls Try.prog 41 #[.pointer (some ⟨b, 0, none⟩), .int .i64 kind, .int .i64 ns, .string name, .slice ao n' c', .string text] w fun e w' => e = .returned (.tuple #[.int .i64 (A.mkF kind ns name (uniq l) text).2.1, .int .i64 (A.mkF kind ns name (uniq l) text).2.2]) ∧ ∃ tag', Ps tag' w' b q (A.mkF kind ns name (uniq l) text).1 (k + 1) ∧ Mv tag w tag' w' := by
  obtain ⟨g, o, c, pl, r⟩ := h.pa
  have hl' := hr.len
  refine (mk_arena r h.ful.toOk h.n_lt kind ns name text l ao n' c' hr (by omega) (fun a ha => by have := hs a ha; omega) (by omega) (by omega)).mono ?_
  rintro e w' ⟨rfl, tag', pa, mv⟩
  exact ⟨rfl, tag', ⟨pa, h.ful.mkF _ _ _ _ _, h.sz.mkF _ _ h1 h2 (Ar.Tiny.uniq hl hs), hk⟩, mv⟩

theorem Ps.app (h : Ps tag w b q A k) (p x : Int) :
    Calls Try.prog 27 #[.pointer (some ⟨b, 0, none⟩), .int .i64 p, .int .i64 x] w fun e w' => e = .returned (.int .i64 (A.appF p x).2) ∧ Ps tag w' b q (A.appF p x).1 k ∧ Mv tag w tag w' := by
  obtain ⟨g, o, c, pl, r⟩ := h.pa
  refine (app_arena r h.ful (by have := h.n_lt; omega) p x).mono ?_
  rintro e w' ⟨rfl, rz⟩
  exact ⟨rfl, ⟨⟨g, o, c, pl, by rw [Ar.appF_n]; exact rz.1⟩, h.ful.appF _ _, h.sz.appF _ _, h.hk⟩, rz.mv⟩

theorem Ps.bef (h : Ps tag w b q A k) (p x : Int) :
    Calls Try.prog 28 #[.pointer (some ⟨b, 0, none⟩), .int .i64 p, .int .i64 x] w fun e w' => e = .returned (.int .i64 (A.befF p x).2) ∧ Ps tag w' b q (A.befF p x).1 k ∧ Mv tag w tag w' := by
  obtain ⟨g, o, c, pl, r⟩ := h.pa
  refine (bef_arena r h.ful (by have := h.n_lt; omega) p x).mono ?_
  rintro e w' ⟨rfl, rz⟩
  exact ⟨rfl, ⟨⟨g, o, c, pl, by rw [Ar.befF_n]; exact rz.1⟩, h.ful.befF _ _, h.sz.befF _ _, h.hk⟩, rz.mv⟩

theorem Ps.det (h : Ps tag w b q A k) (x : Int) :
    Calls Try.prog 32 #[.pointer (some ⟨b, 0, none⟩), .int .i64 x] w fun e w' => e = .returned (.int .i64 (A.detF x).2) ∧ Ps tag w' b q (A.detF x).1 k ∧ Mv tag w tag w' := by
  obtain ⟨g, o, c, pl, r⟩ := h.pa
  refine (det_arena r h.ful (by have := h.n_lt; omega) x).mono ?_
  rintro e w' ⟨rfl, rz⟩
  exact ⟨rfl, ⟨⟨g, o, c, pl, by rw [Ar.detF_n]; exact rz.1⟩, h.ful.detF _, h.sz.detF _, h.hk⟩, rz.mv⟩

theorem Ps.mov (h : Ps tag w b q A k) (f t : Int) :
    Calls Try.prog 33 #[.pointer (some ⟨b, 0, none⟩), .int .i64 f, .int .i64 t] w fun e w' => e = .returned (.int .i64 (A.movF f t).2) ∧ Ps tag w' b q (A.movF f t).1 k ∧ Mv tag w tag w' := by
  obtain ⟨g, o, c, pl, r⟩ := h.pa
  refine (mov_arena r h.ful (by have := h.n_lt; omega) f t).mono ?_
  rintro e w' ⟨rfl, rz⟩
  exact ⟨rfl, ⟨⟨g, o, c, pl, by rw [Ar.movF_n]; exact rz.1⟩, h.ful.movF _ _, h.sz.movF h.ful _ _, h.hk⟩, rz.mv⟩

theorem Ps.wr (h : Ps tag w b q A k) (hk : k < 3000) (z : Int) (s : ByteArray) (hs : s.size ≤ 10) :
    Calls Try.prog 30 #[.pointer (some ⟨b, 0, none⟩), .int .i64 z, .string s] w fun e w' => e = .returned (.int .i64 (A.wrF z s).2) ∧ ∃ tag', Ps tag' w' b q (A.wrF z s).1 (k + 1) ∧ Mv tag w tag' w' := by
  obtain ⟨g, o, c, pl, r⟩ := h.pa
  refine (wr_arena r h.ful.toOk h.n_lt z s (by omega) h.txt).mono ?_
  rintro e w' ⟨rfl, tag', pa, mv⟩
  exact ⟨rfl, tag', ⟨pa, h.ful.wrF _ _, h.sz.wrF _ hs, hk⟩, mv⟩

theorem Ps.wb (h : Ps tag w b q A k) (hk : k < 3000) (z : Int) (s : ByteArray) (hs : s.size ≤ 10) :
    Calls Try.prog 49 #[.pointer (some ⟨b, 0, none⟩), .int .i64 z, .string s] w fun e w' => e = .returned (.int .i64 (A.wbF z s).2) ∧ ∃ tag', Ps tag' w' b q (A.wbF z s).1 (k + 1) ∧ Mv tag w tag' w' := by
  obtain ⟨g, o, c, pl, r⟩ := h.pa
  refine (wb_arena r h.ful.toOk h.n_lt z s (by omega) h.txt).mono ?_
  rintro e w' ⟨rfl, tag', pa, mv⟩
  exact ⟨rfl, tag', ⟨pa, h.ful.wbF _ _, h.sz.wbF _ hs, hk⟩, mv⟩

theorem Ps.mor (h : Ps tag w b q A k) (hk : k < 3000) (z : Int) (l : List Att) (ao : Option Addr) (n' c' : Nat) (hr : Rk (Qp tag) 2 w ao n' c' (cs l)) (hl : l.length ≤ 6) (hs : ∀ a, a ∈ l → a.1.size ≤ 20 ∧ a.2.size ≤ 30) :
    Calls Try.prog 35 #[.pointer (some ⟨b, 0, none⟩), .int .i64 z, .slice ao n' c'] w fun e w' => e = .returned (.int .i64 (A.morF z (fun x => more x l)).2) ∧ ∃ tag', Ps tag' w' b q (A.morF z (fun x => more x l)).1 (k + 1) ∧ Mv tag w tag' w' := by
  obtain ⟨g, o, c, pl, r⟩ := h.pa
  have hl' := hr.len
  rw [cs_len] at hl'
  refine (mor_arena r h.n_lt z l ao n' c' hr (by omega) (fun a ha => by have := hs a ha; omega) h.att).mono ?_
  rintro e w' ⟨rfl, tag', pa, mv⟩
  exact ⟨rfl, tag', ⟨pa, h.ful.morF _ _, h.sz.morF _ hl hs, hk⟩, mv⟩

theorem Ps.quirks (h : Ps tag w b q A k) (q' : Bool) :
    Calls Try.prog 36 #[.pointer (some ⟨b, 0, none⟩), .bool q'] w fun e w' => e = .returned (.tuple #[]) ∧ Ps tag w' b q' A k ∧ Mv tag w tag w' := by
  obtain ⟨g, o, c, pl, r⟩ := h.pa
  refine (quirks_any r q').mono ?_
  rintro e w' ⟨rfl, r2, kp⟩
  exact ⟨rfl, ⟨⟨g, o, c, pl, r2⟩, h.ful, h.sz, h.hk⟩, Mv.of_kp kp (fun x hx _ => by rw [List.mem_singleton.1 hx]; exact .inl r.tb) (fun _ _ => rfl)⟩

theorem Ps.par (h : Ps tag w b q A k) (z : Int) :
    Calls Try.prog 47 #[.pointer (some ⟨b, 0, none⟩), .int .i64 z] w fun e w' => e = .returned (.tuple #[.int .i64 (A.parF z).1, .bool (A.parF z).2]) ∧ w' = w := by
  obtain ⟨g, o, c, pl, r⟩ := h.pa
  exact par_any r (by have := h.n_lt; omega) z

theorem Ps.con (h : Ps tag w b q A k) (z : Int) :
    Calls Try.prog 51 #[.pointer (some ⟨b, 0, none⟩), .int .i64 z] w fun e w' => e = .returned (.tuple #[.int .i64 (A.conF z).1, .bool (A.conF z).2]) ∧ w' = w := by
  obtain ⟨g, o, c, pl, r⟩ := h.pa
  exact con_any r (by have := h.n_lt; omega) z

theorem Ps.kids (h : Ps tag w b q A k) (z : Int) :
    Calls Try.prog 15 #[.pointer (some ⟨b, 0, none⟩), .int .i64 z] w fun e w' => ∃ ao n' c', e = .returned (.slice ao n' c') ∧ Made w w' 3 ao n' c' (iv (A.kidF z)) := by
  obtain ⟨g, o, c, pl, r⟩ := h.pa
  exact kids_any r h.ful.toOk (by have := h.n_lt; omega) z

theorem Ps.pure (h : Ps tag w b q A k) (x : Nat) (hx : x < A.n) :
    Calls Try.prog 6 #[.pointer (some ⟨b, 0, none⟩), .int .i64 (x : Int)] w fun e w' => ∃ p, e = .returned (.tuple #[wv (A.lb x) p, .int .i64 0]) ∧ Kp [] w w' ∧ Nd (fun y => w.heap.size ≤ y) w' (A.lb x) (A.below x) p := by
  obtain ⟨g, o, c, pl, r⟩ := h.pa
  exact pure_any r h.ful.toOk h.n_lt x hx (fun y => ⟨(h.att y).1, (h.att y).2, h.nm y⟩)

end

end Go.Proofs.Ytpkppobkagdhkaa
