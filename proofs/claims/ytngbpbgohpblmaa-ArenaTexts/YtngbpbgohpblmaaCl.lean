/-
  The program's arena: each call once more, with the sizes that a row of calls may reach; Node.
-/
import Derived.Test.YtngbpbgohpblmaaPrN
namespace Go.Proofs.Ytngbpbgohpblmaa
open Go.RowKit Go.Maps Utf
set_option linter.unusedVariables false
set_option linter.unusedSimpArgs false

namespace Ar
theorem appF_n (a : Ar) (p x : Int) : (a.appF p x).1.n = a.n := by
  unfold appF
  repeat' split
  all_goals rfl
theorem befF_n (a : Ar) (p x : Int) : (a.befF p x).1.n = a.n := by
  unfold befF
  repeat' split
  all_goals rfl
theorem detF_n (a : Ar) (x : Int) : (a.detF x).1.n = a.n := by
  unfold detF
  repeat' split
  all_goals rfl
theorem movs_n (t : Nat) : ∀ (xs : List Nat) (a : Ar), (a.movs t xs).n = a.n
  | [], a => rfl
  | x :: xs, a => by
    unfold movs
    split
    · exact movs_n t xs a
    · exact (movs_n t xs _).trans rfl
theorem movF_n (a : Ar) (f t : Int) : (a.movF f t).1.n = a.n := by
  unfold movF
  repeat' split
  all_goals first | rfl | exact movs_n _ _ _
end Ar

/-- The program's arena behind k calls. -/
structure Ps (tag : Nat → Nat) (w : World) (b : Nat) (q : Bool) (A : Ar) (k : Nat) : Prop where
  pa : Pa tag w b q A.n A.raw
  ful : A.Ful
  sz : A.Sz k
  hk : k ≤ 3000

section
variable {tag : Nat → Nat} {w : World} {b k : Nat} {q : Bool} {A : Ar}

theorem Ps.n_lt (h : Ps tag w b q A k) : A.n < 40000 := by have := h.sz.n; have := h.hk; omega
theorem Ps.txt (h : Ps tag w b q A k) (x : Nat) : (A.lb x).text.size ≤ 900000 := by have := (h.sz.lbs x).2.1; have := h.hk; omega
theorem Ps.att (h : Ps tag w b q A k) (x : Nat) : (A.lb x).attrs.length ≤ 20000 ∧ fits (A.lb x).attrs := by
  obtain ⟨_, _, t⟩ := h.sz.lbs x
  exact ⟨by have := t.len; have := h.hk; omega, t.fits⟩
theorem Ps.nm (h : Ps tag w b q A k) (x : Nat) : (A.lb x).name.size ≤ 1000000 := by have := (h.sz.lbs x).1; omega

theorem Ps.kept {w' : World} (h : Ps tag w b q A k) (kp : Kp [] w w') : Ps tag w' b q A k := ⟨h.pa.mv kp (fun _ _ => rfl), h.ful, h.sz, h.hk⟩
theorem Ps.lt (h : Ps tag w b q A k) : b < w.heap.size := by obtain ⟨_, _, _, _, r⟩ := h.pa; exact r.lt.1

theorem Ps.new (w : World) (tag : Nat → Nat) : Calls Try.prog 9 #[] w fun e w' => ∃ b tag', e = .returned (.pointer (some ⟨b, 0, none⟩)) ∧ Ps tag' w' b false Ar.first 0 ∧ Mv tag w tag' w' ∧ w.heap.size ≤ b := by
  refine (new_any w tag).mono ?_
  rintro e w' ⟨b, tag', rfl, pa, kp, hb, ht⟩
  exact ⟨b, tag', rfl, ⟨pa, Ar.first_ful, Ar.Sz.first, by omega⟩, Mv.of_kp kp (fun x hx => by simp at hx) ht, hb⟩

theorem Ps.mk' (h : Ps tag w b q A k) (hk : k < 3000) (kind ns : Int) (name text : ByteArray) (l : List Att) (ao : Option Addr) (n' c' : Nat) (hr : Rp w ao n' c' l) (hl : l.length ≤ 6) (hs : ∀ a, a ∈ l → a.1.size ≤ 20 ∧ a.2.size ≤ 30) (h1 : name.size ≤ 9) (h2 : text.size ≤ 9) :
    Calls Try.prog 24 #[.pointer (some ⟨b, 0, none⟩), .int .i64 kind, .int .i64 ns, .string name, .slice ao n' c', .string text] w fun e w' => e = .returned (.tuple #[.int .i64 (A.mkF kind ns name (uniq l) text).2.1, .int .i64 (A.mkF kind ns name (uniq l) text).2.2]) ∧ ∃ tag', Ps tag' w' b q (A.mkF kind ns name (uniq l) text).1 (k + 1) ∧ Mv tag w tag' w' := by
  obtain ⟨g, o, c, pl, r⟩ := h.pa
  have hl' := hr.len
  refine (mk_arena r h.ful.toOk h.n_lt kind ns name text l ao n' c' hr (by omega) (fun a ha => by have := hs a ha; omega) (by omega) (by omega)).mono ?_
  rintro e w' ⟨rfl, tag', pa, mv⟩
  exact ⟨rfl, tag', ⟨pa, h.ful.mkF _ _ _ _ _, h.sz.mkF _ _ h1 h2 (Ar.Tiny.uniq hl hs), hk⟩, mv⟩

theorem Ps.app (h : Ps tag w b q A k) (p x : Int) :
    Calls Try.prog 23 #[.pointer (some ⟨b, 0, none⟩), .int .i64 p, .int .i64 x] w fun e w' => e = .returned (.int .i64 (A.appF p x).2) ∧ Ps tag w' b q (A.appF p x).1 k ∧ Mv tag w tag w' := by
  obtain ⟨g, o, c, pl, r⟩ := h.pa
  refine (app_arena r h.ful (by have := h.n_lt; omega) p x).mono ?_
  rintro e w' ⟨rfl, rz⟩
  exact ⟨rfl, ⟨⟨g, o, c, pl, by rw [Ar.appF_n]; exact rz.1⟩, h.ful.appF _ _, h.sz.appF _ _, h.hk⟩, rz.mv⟩

theorem Ps.bef (h : Ps tag w b q A k) (p x : Int) :
    Calls Try.prog 28 #[.pointer (some ⟨b, 0, none⟩), .int .i64 p, .int .i64 x] w fun e w' => e = .returned (.int .i64 (A.befF p x).2) ∧ Ps tag w' b q (A.befF p x).1 k ∧ Mv tag w tag w' := by
  obtain ⟨g, o, c, pl, r⟩ := h.pa
  refine (bef_arena r h.ful (by have := h.n_lt; omega) p x).mono ?_
  rintro e w' ⟨rfl, rz⟩
  exact ⟨rfl, ⟨⟨g, o, c, pl, by rw [Ar.befF_n]; exact rz.1⟩, h.ful.befF _ _, h.sz.befF _ _, h.hk⟩, rz.mv⟩

theorem Ps.det (h : Ps tag w b q A k) (x : Int) :
    Calls Try.prog 21 #[.pointer (some ⟨b, 0, none⟩), .int .i64 x] w fun e w' => e = .returned (.int .i64 (A.detF x).2) ∧ Ps tag w' b q (A.detF x).1 k ∧ Mv tag w tag w' := by
  obtain ⟨g, o, c, pl, r⟩ := h.pa
  refine (det_arena r h.ful (by have := h.n_lt; omega) x).mono ?_
  rintro e w' ⟨rfl, rz⟩
  exact ⟨rfl, ⟨⟨g, o, c, pl, by rw [Ar.detF_n]; exact rz.1⟩, h.ful.detF _, h.sz.detF _, h.hk⟩, rz.mv⟩

theorem Ps.mov (h : Ps tag w b q A k) (f t : Int) :
    Calls Try.prog 30 #[.pointer (some ⟨b, 0, none⟩), .int .i64 f, .int .i64 t] w fun e w' => e = .returned (.int .i64 (A.movF f t).2) ∧ Ps tag w' b q (A.movF f t).1 k ∧ Mv tag w tag w' := by
  obtain ⟨g, o, c, pl, r⟩ := h.pa
  refine (mov_arena r h.ful (by have := h.n_lt; omega) f t).mono ?_
  rintro e w' ⟨rfl, rz⟩
  exact ⟨rfl, ⟨⟨g, o, c, pl, by rw [Ar.movF_n]; exact rz.1⟩, h.ful.movF _ _, h.sz.movF h.ful _ _, h.hk⟩, rz.mv⟩

theorem Ps.wr (h : Ps tag w b q A k) (hk : k < 3000) (z : Int) (s : ByteArray) (hs : s.size ≤ 9) :
    Calls Try.prog 26 #[.pointer (some ⟨b, 0, none⟩), .int .i64 z, .string s] w fun e w' => e = .returned (.int .i64 (A.wrF z s).2) ∧ ∃ tag', Ps tag' w' b q (A.wrF z s).1 (k + 1) ∧ Mv tag w tag' w' := by
  obtain ⟨g, o, c, pl, r⟩ := h.pa
  refine (wr_arena r h.ful.toOk h.n_lt z s (by omega) h.txt).mono ?_
  rintro e w' ⟨rfl, tag', pa, mv⟩
  exact ⟨rfl, tag', ⟨pa, h.ful.wrF _ _, h.sz.wrF _ hs, hk⟩, mv⟩

theorem Ps.wb (h : Ps tag w b q A k) (hk : k < 3000) (z : Int) (s : ByteArray) (hs : s.size ≤ 9) :
    Calls Try.prog 32 #[.pointer (some ⟨b, 0, none⟩), .int .i64 z, .string s] w fun e w' => e = .returned (.int .i64 (A.wbF z s).2) ∧ ∃ tag', Ps tag' w' b q (A.wbF z s).1 (k + 1) ∧ Mv tag w tag' w' := by
  obtain ⟨g, o, c, pl, r⟩ := h.pa
  refine (wb_arena r h.ful.toOk h.n_lt z s (by omega) h.txt).mono ?_
  rintro e w' ⟨rfl, tag', pa, mv⟩
  exact ⟨rfl, tag', ⟨pa, h.ful.wbF _ _, h.sz.wbF _ hs, hk⟩, mv⟩

theorem Ps.mor (h : Ps tag w b q A k) (hk : k < 3000) (z : Int) (l : List Att) (ao : Option Addr) (n' c' : Nat) (hr : Rk (Qp tag) 2 w ao n' c' (cs l)) (hl : l.length ≤ 6) (hs : ∀ a, a ∈ l → a.1.size ≤ 20 ∧ a.2.size ≤ 30) :
    Calls Try.prog 39 #[.pointer (some ⟨b, 0, none⟩), .int .i64 z, .slice ao n' c'] w fun e w' => e = .returned (.int .i64 (A.morF z (fun x => more x l)).2) ∧ ∃ tag', Ps tag' w' b q (A.morF z (fun x => more x l)).1 (k + 1) ∧ Mv tag w tag' w' := by
  obtain ⟨g, o, c, pl, r⟩ := h.pa
  have hl' := hr.len
  rw [cs_len] at hl'
  refine (mor_arena r h.n_lt z l ao n' c' hr (by omega) (fun a ha => by have := hs a ha; omega) h.att).mono ?_
  rintro e w' ⟨rfl, tag', pa, mv⟩
  exact ⟨rfl, tag', ⟨pa, h.ful.morF _ _, h.sz.morF _ hl hs, hk⟩, mv⟩

theorem Ps.quirks (h : Ps tag w b q A k) (q' : Bool) :
    Calls Try.prog 41 #[.pointer (some ⟨b, 0, none⟩), .bool q'] w fun e w' => e = .returned (.tuple #[]) ∧ Ps tag w' b q' A k ∧ Mv tag w tag w' := by
  obtain ⟨g, o, c, pl, r⟩ := h.pa
  refine (quirks_any r q').mono ?_
  rintro e w' ⟨rfl, r2, kp⟩
  exact ⟨rfl, ⟨⟨g, o, c, pl, r2⟩, h.ful, h.sz, h.hk⟩, Mv.of_kp kp (fun x hx _ => by rw [List.mem_singleton.1 hx]; exact .inl r.tb) (fun _ _ => rfl)⟩

theorem Ps.par (h : Ps tag w b q A k) (z : Int) :
    Calls Try.prog 17 #[.pointer (some ⟨b, 0, none⟩), .int .i64 z] w fun e w' => e = .returned (.tuple #[.int .i64 (A.parF z).1, .bool (A.parF z).2]) ∧ w' = w := by
  obtain ⟨g, o, c, pl, r⟩ := h.pa
  exact par_any r (by have := h.n_lt; omega) z

theorem Ps.con (h : Ps tag w b q A k) (z : Int) :
    Calls Try.prog 71 #[.pointer (some ⟨b, 0, none⟩), .int .i64 z] w fun e w' => e = .returned (.tuple #[.int .i64 (A.conF z).1, .bool (A.conF z).2]) ∧ w' = w := by
  obtain ⟨g, o, c, pl, r⟩ := h.pa
  exact con_any r (by have := h.n_lt; omega) z

theorem Ps.len (h : Ps tag w b q A k) :
    Calls Try.prog 15 #[.pointer (some ⟨b, 0, none⟩)] w fun e w' => e = .returned (.int .i64 (A.n : Int)) ∧ w' = w := by
  obtain ⟨g, o, c, pl, r⟩ := h.pa
  exact len_any r

theorem Ps.quirky (h : Ps tag w b q A k) :
    Calls Try.prog 42 #[.pointer (some ⟨b, 0, none⟩)] w fun e w' => e = .returned (.bool q) ∧ w' = w := by
  obtain ⟨g, o, c, pl, r⟩ := h.pa
  exact quirky_any r

theorem Ps.kids (h : Ps tag w b q A k) (z : Int) :
    Calls Try.prog 16 #[.pointer (some ⟨b, 0, none⟩), .int .i64 z] w fun e w' => ∃ ao n' c', e = .returned (.slice ao n' c') ∧ Made w w' 3 ao n' c' (iv (A.kidF z)) := by
  obtain ⟨g, o, c, pl, r⟩ := h.pa
  exact kids_any r h.ful.toOk (by have := h.n_lt; omega) z

theorem Ps.pure (h : Ps tag w b q A k) (x : Nat) (hx : x < A.n) :
    Calls Try.prog 20 #[.pointer (some ⟨b, 0, none⟩), .int .i64 (x : Int)] w fun e w' => ∃ p, e = .returned (.tuple #[wv (A.lb x) p, .int .i64 0]) ∧ Kp [] w w' ∧ Nd (fun y => w.heap.size ≤ y) w' (A.lb x) (A.below x) p := by
  obtain ⟨g, o, c, pl, r⟩ := h.pa
  exact pure_any r h.ful.toOk h.n_lt x hx (fun y => ⟨(h.att y).1, (h.att y).2, h.nm y⟩)

theorem Ps.pure0 (h : Ps tag w b q A k) (z : Int) (hz : A.there z = false) :
    Calls Try.prog 20 #[.pointer (some ⟨b, 0, none⟩), .int .i64 z] w fun e w' => e = .returned (.tuple #[.agg #[.int .i64 0, .int .i64 0, .string ⟨#[]⟩, .slice none 0 0, .string ⟨#[]⟩, .slice none 0 0], .int .i64 22]) ∧ Kp [] w w' := by
  obtain ⟨g, o, c, pl, r⟩ := h.pa
  exact pure_none r h.n_lt z hz

set_option maxRecDepth 100000 in
set_option maxHeartbeats 1000000 in
theorem Ps.node0 (h : Ps tag w b q A k) (z : Int) (hz : A.there z = false) :
    Calls Try.prog 18 #[.pointer (some ⟨b, 0, none⟩), .int .i64 z] w fun e w' => e = .returned (.tuple #[.agg #[.int .i64 0, .int .i64 0, .string ⟨#[]⟩, .slice none 0 0, .string ⟨#[]⟩, .slice none 0 0], .bool false]) ∧ Kp [] w w' := by
  obtain ⟨g, o, c, pl, r⟩ := h.pa
  have hn := h.n_lt
  have HH : Hid (∀ V, Kp [] w V → Calls Try.prog 45 #[.pointer (some ⟨b, 0, none⟩), .int .i64 z] V fun e w' => e = .returned (.bool false) ∧ w' = V) := fun V kV => by
    have := has_any (r.kept kV) (by omega) z
    rw [← there_dec, hz] at this
    exact this
  have k1 : Hid (Kp [] w (w.alloc (.cells #[.int .i64 0, .int .i64 0, .string ⟨#[]⟩, .slice none 0 0, .string ⟨#[]⟩, .slice none 0 0] 42))) := (Kp.refl _ _).alloc _
  clear h hz r
  go_enter Try.func18, Try.ntmps18
  go_wp2_with (go_at_call 45; refine (HH.out _ k1.out).mono ?_; rintro e w9 ⟨rfl, hw⟩; have hw2 := hw.symm; clear hw; subst hw2)
  refine bodyPost_ret (v := .tuple #[.agg #[.int .i64 0, .int .i64 0, .string ⟨#[]⟩, .slice none 0 0, .string ⟨#[]⟩, .slice none 0 0], .bool false]) (by simp [results, go_sem]) rfl ⟨rfl, k1.out⟩

set_option maxRecDepth 100000 in
set_option maxHeartbeats 1000000 in
theorem Ps.node (h : Ps tag w b q A k) (x : Nat) (hx : x < A.n) :
    Calls Try.prog 18 #[.pointer (some ⟨b, 0, none⟩), .int .i64 (x : Int)] w fun e w' => ∃ p : Option Addr × Nat × Nat, e = .returned (.tuple #[wv (A.lb x) (p, (none, 0, 0)), .bool true]) ∧ Kp [] w w' ∧ Rk (fun y => w.heap.size ≤ y) 2 w' p.1 p.2.1 p.2.2 (cs (A.lb x).attrs) := by
  obtain ⟨g, o, c, pl, r⟩ := h.pa
  have hn := h.n_lt
  have hth : A.there (x : Int) = true := by unfold Ar.there; exact decide_eq_true (by omega)
  obtain ⟨W1, hW1⟩ : ∃ W, W = w.alloc (.cells #[.int .i64 0, .int .i64 0, .string ⟨#[]⟩, .slice none 0 0, .string ⟨#[]⟩, .slice none 0 0] 42) := ⟨_, rfl⟩
  have k1 : Kp [] w W1 := by rw [hW1]; exact (Kp.refl _ _).alloc _
  have A1 : At W1 w.heap.size #[.int .i64 0, .int .i64 0, .string ⟨#[]⟩, .slice none 0 0, .string ⟨#[]⟩, .slice none 0 0] 42 := by rw [hW1]; exact At.new _ _ _
  have HW : Hid (w.alloc (.cells #[.int .i64 0, .int .i64 0, .string ⟨#[]⟩, .slice none 0 0, .string ⟨#[]⟩, .slice none 0 0] 42) = W1) := hW1.symm
  have HH : Calls Try.prog 45 #[.pointer (some ⟨b, 0, none⟩), .int .i64 (x : Int)] W1 fun e w' => e = .returned (.bool true) ∧ w' = W1 := by
    have := has_any (r.kept k1) (by omega) (x : Int)
    rw [← there_dec, hth] at this
    exact this
  have HB := bare_any (i := x) (r.kept k1) (by omega) hx (h.att x) (h.nm x)
  rw [show (A.raw x).lb = A.lb x from rfl] at HB
  have hsz := A1.lt
  have H9 : Hid (∀ (W : World) (p : Option Addr × Nat × Nat), Kp [] W1 W → Rk (fun y => W1.heap.size ≤ y) 2 W p.1 p.2.1 p.2.2 (cs (A.lb x).attrs) → At W w.heap.size #[.int .i64 0, .int .i64 0, .string ⟨#[]⟩, .slice none 0 0, .string ⟨#[]⟩, .slice none 0 0] 42 ∧ Kp [] w (putZ W w.heap.size (.int .i64 (A.lb x).kind) (.int .i64 (A.lb x).ns) (.string (A.lb x).name) (.slice p.1 p.2.1 p.2.2) (.string (A.lb x).text) (.slice none 0 0)) ∧ Rk (fun y => w.heap.size ≤ y) 2 (putZ W w.heap.size (.int .i64 (A.lb x).kind) (.int .i64 (A.lb x).ns) (.string (A.lb x).name) (.slice p.1 p.2.1 p.2.2) (.string (A.lb x).text) (.slice none 0 0)) p.1 p.2.1 p.2.2 (cs (A.lb x).attrs)) := fun W p kW rW => by
    have aW := A1.kept kW (by simp)
    refine ⟨aW, (k1.trans kW (fun x hx => Or.inl hx)).putZ (Or.inr (Nat.le_refl _)) _ _ _ _ _ _, ?_⟩
    exact (rW.keep (((Kp.refl [w.heap.size] W).putZ (Or.inl (by simp)) _ _ _ _ _ _).sms (fun z hz hs => by rw [List.mem_singleton.1 hs] at hz; omega))).mono (fun z _ hz => by omega)
  clear h r hth hW1
  unfold wv at HB ⊢
  go_enter Try.func18, Try.ntmps18
  go_upto_region 1 with fail
  rw [HW.out]
  clear HW A1 k1
  go_wp2_with (first | (go_at_call 45; refine (HH).mono ?_; rintro e w9 ⟨rfl, hw⟩; have hw2 := hw.symm; clear hw; subst hw2) | (go_at_call 46; refine HB.mono ?_; rintro e W2 ⟨pa, rfl, k2, r2⟩; obtain ⟨a2, k9, r9⟩ := H9.out W2 pa k2 r2; obtain ⟨d20, d21, d22, d23, d24, d25⟩ := a2.six; have fr2 := fun j => a2.free j; have X9 := a2.putZ (.int .i64 (A.lb x).kind) (.int .i64 (A.lb x).ns) (.string (A.lb x).name) (.slice pa.1 pa.2.1 pa.2.2) (.string (A.lb x).text) (.slice none 0 0); have Y9 : Hid (_ ∧ _ ∧ _) := ⟨X9.six, k9, r9⟩; clear X9 k9 r9 a2 k2 r2 H9))
  unfold putZ at Y9
  obtain ⟨⟨x0', x1, x2, x3, x4, x5⟩, kD, R9⟩ := Y9.out
  refine bodyPost_ret (v := .tuple #[.agg #[.int .i64 (A.lb x).kind, .int .i64 (A.lb x).ns, .string (A.lb x).name, .slice pa.1 pa.2.1 pa.2.2, .string (A.lb x).text, .slice none 0 0], .bool true]) (by simp [results, go_sem, x0', x1, x2, x3, x4, x5]) rfl ⟨pa, rfl, kD, R9⟩

end

end Go.Proofs.Ytngbpbgohpblmaa
