/-
  What New, Put and Take of a line of ints do to the world: each of the two asks its channel by a select with a default, in one goroutine.
-/
import Derived.Test.YtigpbkgcfnmdiaaRows
import Derived.Test.YtigpbkgcfnmdiaaKeep
import Derived.WalkLawsBesides
namespace Go.Proofs.Ytigpbkgcfnmdiaa.Ints
open Go.RowKit Go.Conc

theorem info : (Try.prog.info? 3).map (fun i => (i.zero, i.size, i.bytes)) = some (some (Value.int .i64 0), 1, 8) := by kernel_rfl

/-- A line that holds zs. -/
def LX (w : World) (p c room : Nat) (ks : List Nat) (zs : List Int) : Prop := Line w 54 3 p c room ks (zs.map (Value.int .i64))

theorem bytesQ : ∃ i, Try.prog.info? 55 = some i ∧ i.bytes = 8 := by
  have h : (Try.prog.info? 55).map (·.bytes) = some 8 := by kernel_rfl
  obtain ⟨i, hi, hb⟩ := Option.map_eq_some_iff.1 h
  exact ⟨i, hi, hb⟩

theorem mk (room : Nat) (hr : room ≤ 4096) (w : World) : (Instr.makeChan 52 (.int .i64 (room : Int))).run Try.prog w = .ok (.chan (some w.heap.size)) (w.alloc (.chan room #[] false 0 0 false)) := by
  obtain ⟨i, hi, hb⟩ := bytesQ
  exact run_makeChan (P := Try.prog) (w := w) Try.underlying52 hi .i64 room (by omega) (by rw [hb]; omega)

theorem new_any (w : World) (room : Nat) (h1 : 1 ≤ room) (h2 : room ≤ 4096) :
    Calls Try.prog 7 #[.int .i64 (room : Int)] w fun e w' => e = .returned (.tuple #[.pointer (some ⟨w.heap.size + 1, 0, none⟩), .int .i64 0]) ∧ LX w' (w.heap.size + 1) w.heap.size room [] [] ∧ Kp [] w w' := by
  have hmk := mk room h2
  go_enter Try.func7, Try.ntmps7
  go_wp2
  go_ret2
  refine ⟨?_, line_new w 54 3 room, ((Kp.refl _ _).alloc _).alloc _⟩
  simp

theorem new_out (w : World) (n : Int) (h : n < 1 ∨ 4096 < n) :
    Calls Try.prog 7 #[.int .i64 n] w fun e w' => e = .returned (.tuple #[.pointer none, .int .i64 1]) ∧ w' = w := by
  rcases h with h | h
  · go_enter Try.func7, Try.ntmps7
    go_wp2
    go_ret2
    exact ⟨rfl, rfl⟩
  · go_enter Try.func7, Try.ntmps7
    go_wp2
    go_ret2
    exact ⟨rfl, rfl⟩

set_option maxRecDepth 100000 in
/-- Put, where there is room. -/
theorem put_in (w : World) (p c room : Nat) (ks : List Nat) (zs : List Int) (x : Int) (h : LX w p c room ks zs) (hr : zs.length < room) :
    Calls Try.prog 12 #[.pointer (some ⟨p, 0, none⟩), Value.int .i64 x] w fun e w' => e = .returned (.bool true) ∧ LX w' p c room (ks ++ [w.heap.size]) (zs ++ [x]) ∧ Kp [c] w w' := by
  obtain ⟨l1, l2, l3⟩ := h.lt
  have hk1 : Kp [] w (w.alloc (.cells #[Value.int .i64 x] 3)) := (Kp.refl _ _).alloc _
  have h1 : Line (w.alloc (.cells #[Value.int .i64 x] 3)) 54 3 p c room ks (zs.map (Value.int .i64)) := Line.keep0 h hk1
  obtain ⟨s, r, hc⟩ := h1.chan
  have hcell : (w.alloc (.cells #[Value.int .i64 x] 3)).cell? ⟨p, 0, none⟩ = some (.chan (some c)) := by rw [cell_of h1.head]; rfl
  have hfin := h1.pushed (s' := s + 1) (r' := r) hc w.heap.size (Value.int .i64 x) (heap_new w _) (by simpa using hr)
  have hkp : Kp [c] w ((w.alloc (.cells #[Value.int .i64 x] 3)).setChan c room ((ks.map ptr).toArray.push (ptr w.heap.size)) false (s + 1) r false) := ((Kp.refl _ _).alloc _).setChan (Or.inl (by simp)) _ _ _ _ _ _
  have hsz : (ks.map ptr).toArray.size < room := by
    have := h1.size
    simp at this ⊢
    omega
  refine calls_of_loneTo fun cs => ?_
  have e : Frame.enter Try.prog 12 #[.pointer (some ⟨p, 0, none⟩), Value.int .i64 x] .normal = (base 12).at ⟨#[.pointer (some ⟨p, 0, none⟩), Value.int .i64 x, undef, undef, undef, undef, undef, undef, undef, undef, undef, undef], []⟩ [.code (Try.f12.body.getD .skip)] := by
    simp [Frame.enter, Frame.at, Try.func12, base, Try.f12]
  rw [e]
  clear h h1 hk1
  refine LoneTo.goes (n := 20) ?_
  simp only [Try.f12, Option.getD_some]
  s_c stepG_seq
  s_reg
  s_op
  s_op
  s_c stepG_region_end
  s_c stepG_seq
  s_reg
  s_op
  s_op
  s_op
  s_op
  s_c stepG_region_end
  s_c stepG_seq
  s_reg
  s_stop
  refine LoneTo.step (step_lone_select_send_room (c := c) (cap := room) (buf := (ks.map ptr).toArray) (s := s) (r := r) (tm := false) (stepG_comm (cases := #[scase c (ptr w.heap.size) (.pointer none)]) (blocking := false) (shape := .select) (w' := w.alloc (.cells #[Value.int .i64 x] 3)) rfl rfl (by decide) (by simp [go_sem, execOp, scase, Act.eval, ptr])) hc hsz) ?_
  rw [Frame.finish_at]
  generalize (w.alloc (.cells #[Value.int .i64 x] 3)).setChan c room ((ks.map ptr).toArray.push (ptr w.heap.size)) false (s + 1) r false = W at hfin hkp ⊢
  walk_nrm
  refine LoneTo.goes (n := 12) ?_
  s_op
  s_op
  s_c stepG_region_end
  s_c stepG_block
  s_cond true
  s_c stepG_seq
  s_reg
  s_op
  s_c stepG_region_end
  s_c stepG_ret'
  s_stop
  refine LoneTo.done ⟨.returned (.bool true), _, rfl, ⟨rfl, ?_, hkp⟩, rfl, rfl, rfl, rfl, _, Try.func12, by simp [results, Try.f12, Frame.at]⟩
  unfold LX
  rw [List.map_append]
  exact hfin

set_option maxRecDepth 100000 in
/-- Put, where there is none. -/
theorem put_out (w : World) (p c room : Nat) (ks : List Nat) (zs : List Int) (x : Int) (h : LX w p c room ks zs) (hr : room ≤ zs.length) :
    Calls Try.prog 12 #[.pointer (some ⟨p, 0, none⟩), Value.int .i64 x] w fun e w' => e = .returned (.bool false) ∧ LX w' p c room ks zs ∧ Kp [] w w' := by
  obtain ⟨l1, l2, l3⟩ := h.lt
  have hk1 : Kp [] w (w.alloc (.cells #[Value.int .i64 x] 3)) := (Kp.refl _ _).alloc _
  have h1 : Line (w.alloc (.cells #[Value.int .i64 x] 3)) 54 3 p c room ks (zs.map (Value.int .i64)) := Line.keep0 h hk1
  obtain ⟨s, r, hc⟩ := h1.chan
  have hcell : (w.alloc (.cells #[Value.int .i64 x] 3)).cell? ⟨p, 0, none⟩ = some (.chan (some c)) := by rw [cell_of h1.head]; rfl
  have hsz : room ≤ (ks.map ptr).toArray.size := by
    have := h1.size
    simp at this ⊢
    omega
  refine calls_of_loneTo fun cs => ?_
  have e : Frame.enter Try.prog 12 #[.pointer (some ⟨p, 0, none⟩), Value.int .i64 x] .normal = (base 12).at ⟨#[.pointer (some ⟨p, 0, none⟩), Value.int .i64 x, undef, undef, undef, undef, undef, undef, undef, undef, undef, undef], []⟩ [.code (Try.f12.body.getD .skip)] := by
    simp [Frame.enter, Frame.at, Try.func12, base, Try.f12]
  rw [e]
  clear h
  refine LoneTo.goes (n := 20) ?_
  simp only [Try.f12, Option.getD_some]
  s_c stepG_seq
  s_reg
  s_op
  s_op
  s_c stepG_region_end
  s_c stepG_seq
  s_reg
  s_op
  s_op
  s_op
  s_op
  s_c stepG_region_end
  s_c stepG_seq
  s_reg
  s_stop
  refine LoneTo.step (step_lone_select_send_full (c := c) (cap := room) (buf := (ks.map ptr).toArray) (s := s) (r := r) (tm := false) (stepG_comm (cases := #[scase c (ptr w.heap.size) (.pointer none)]) (blocking := false) (shape := .select) (w' := w.alloc (.cells #[Value.int .i64 x] 3)) rfl rfl (by decide) (by simp [go_sem, execOp, scase, Act.eval, ptr])) hc hsz) ?_
  rw [Frame.finish_at]
  walk_nrm
  refine LoneTo.goes (n := 12) ?_
  s_op
  s_op
  s_c stepG_region_end
  s_c stepG_block
  s_cond false
  s_c stepG_seq
  s_reg
  s_op
  s_c stepG_region_end
  s_c stepG_ret'
  s_stop
  exact LoneTo.done ⟨.returned (.bool false), _, rfl, ⟨rfl, h1, hk1⟩, rfl, rfl, rfl, rfl, _, Try.func12, by simp [results, Try.f12, Frame.at]⟩

set_option maxRecDepth 100000 in
/-- Take, of a line that holds something. -/
theorem take_in (w : World) (p c room : Nat) (k : Nat) (ks : List Nat) (x : Int) (zs : List Int) (h : LX w p c room (k :: ks) (x :: zs)) :
    Calls Try.prog 8 #[.pointer (some ⟨p, 0, none⟩)] w fun e w' => e = .returned (.tuple #[Value.int .i64 x, .bool true]) ∧ LX w' p c room ks zs ∧ Kp [c] w w' := by
  obtain ⟨l1, l2, l3⟩ := h.lt
  obtain ⟨n1, n2⟩ := h.ne
  obtain ⟨s, r, hc⟩ := h.chan
  have hcell : w.cell? ⟨p, 0, none⟩ = some (.chan (some c)) := by rw [cell_of h.head]; rfl
  have hext : ((k :: ks).map ptr).toArray.extract 1 ((k :: ks).map ptr).toArray.size = (ks.map ptr).toArray := by
    simp
    exact List.take_of_length_le (by simp)
  have hfin := Line.taken h s (r + 1) _ hext
  have hkp : Kp [c] w (w.setChan c room (((k :: ks).map ptr).toArray.extract 1 ((k :: ks).map ptr).toArray.size) false s (r + 1) false) := (Kp.refl _ _).setChan (Or.inl (by simp)) _ _ _ _ _ _
  have hx : (w.setChan c room (((k :: ks).map ptr).toArray.extract 1 ((k :: ks).map ptr).toArray.size) false s (r + 1) false).cell? ⟨k, 0, none⟩ = some (Value.int .i64 x) := by
    obtain ⟨y, h1, h2⟩ := h.cells 0 k rfl
    simp only [List.map_cons, List.getElem?_cons_zero, Option.some.injEq] at h1
    subst h1
    rw [hkp.cell (a := ⟨k, 0, none⟩) (lt_of h2) (by simp; intro e; exact n2 (by simp [e]))]
    rw [cell_of h2]
    rfl
  have hsz : 0 < ((k :: ks).map ptr).toArray.size := by simp
  have hget : ((k :: ks).map ptr).toArray.getD 0 undef = .pointer (some ⟨k, 0, none⟩) := by simp [ptr]
  refine calls_of_loneTo fun cs => ?_
  have e : Frame.enter Try.prog 8 #[.pointer (some ⟨p, 0, none⟩)] .normal = (base 8).at ⟨#[.pointer (some ⟨p, 0, none⟩), undef, undef, undef, undef, undef, undef, undef, undef, undef, undef, undef, undef, undef, undef, undef, undef, undef], []⟩ [.code (Try.f8.body.getD .skip)] := by
    simp [Frame.enter, Frame.at, Try.func8, base, Try.f8]
  rw [e]
  clear h
  refine LoneTo.goes (n := 20) ?_
  simp only [Try.f8, Option.getD_some]
  s_c stepG_seq
  s_reg
  s_op
  s_op
  s_c stepG_region_end
  s_c stepG_seq
  s_reg
  s_op
  s_op
  s_op
  s_op
  s_c stepG_region_end
  s_c stepG_seq
  s_reg
  s_stop
  refine LoneTo.step (step_lone_select_recv_buf (c := c) (z := .pointer none) (cap := room) (buf := ((k :: ks).map ptr).toArray) (closed := false) (s := s) (r := r) (tm := false) (stepG_comm (cases := #[rcase c (.pointer none)]) (blocking := false) (shape := .select) (w' := w) rfl rfl (by decide) (by simp [go_sem, execOp, rcase, Act.eval])) hc hsz) ?_
  rw [Frame.finish_at, hget]
  generalize w.setChan c room (((k :: ks).map ptr).toArray.extract 1 ((k :: ks).map ptr).toArray.size) false s (r + 1) false = W at hfin hkp hx ⊢
  walk_nrm
  refine LoneTo.goes (n := 20) ?_
  s_op
  s_op
  s_c stepG_region_end
  s_c stepG_block
  s_cond true
  s_c stepG_seq
  s_reg
  s_op
  s_op
  s_c stepG_region_end
  s_c stepG_seq
  s_reg
  s_op
  s_op
  s_op
  s_op
  s_op
  s_c stepG_region_end
  s_c stepG_ret'
  s_stop
  exact LoneTo.done ⟨.returned (.tuple #[Value.int .i64 x, .bool true]), _, rfl, ⟨rfl, hfin, hkp⟩, rfl, rfl, rfl, rfl, _, Try.func8, by simp [results, Try.f8, Frame.at]⟩

set_option maxRecDepth 100000 in
/-- Take, of an empty line. -/
theorem take_out (w : World) (p c room : Nat) (h : LX w p c room [] []) :
    Calls Try.prog 8 #[.pointer (some ⟨p, 0, none⟩)] w fun e w' => e = .returned (.tuple #[Value.int .i64 0, .bool false]) ∧ w' = w := by
  obtain ⟨s, r, hc⟩ := h.chan
  have hcell : w.cell? ⟨p, 0, none⟩ = some (.chan (some c)) := by rw [cell_of h.head]; rfl
  refine calls_of_loneTo fun cs => ?_
  have e : Frame.enter Try.prog 8 #[.pointer (some ⟨p, 0, none⟩)] .normal = (base 8).at ⟨#[.pointer (some ⟨p, 0, none⟩), undef, undef, undef, undef, undef, undef, undef, undef, undef, undef, undef, undef, undef, undef, undef, undef, undef], []⟩ [.code (Try.f8.body.getD .skip)] := by
    simp [Frame.enter, Frame.at, Try.func8, base, Try.f8]
  rw [e]
  clear h
  refine LoneTo.goes (n := 20) ?_
  simp only [Try.f8, Option.getD_some]
  s_c stepG_seq
  s_reg
  s_op
  s_op
  s_c stepG_region_end
  s_c stepG_seq
  s_reg
  s_op
  s_op
  s_op
  s_op
  s_c stepG_region_end
  s_c stepG_seq
  s_reg
  s_stop
  refine LoneTo.step (step_lone_select_default (c := c) (z := .pointer none) (cap := room) (s := s) (r := r) (tm := false) (stepG_comm (cases := #[rcase c (.pointer none)]) (blocking := false) (shape := .select) (w' := w) rfl rfl (by decide) (by simp [go_sem, execOp, rcase, Act.eval])) hc) ?_
  rw [Frame.finish_at]
  walk_nrm
  refine LoneTo.goes (n := 20) ?_
  s_op
  s_op
  s_c stepG_region_end
  s_c stepG_block
  s_cond false
  s_c stepG_seq
  s_reg
  s_op
  s_c stepG_region_end
  s_c stepG_seq
  s_reg
  s_op
  s_op
  s_op
  s_c stepG_region_end
  s_c stepG_ret'
  s_stop
  exact LoneTo.done ⟨.returned (.tuple #[Value.int .i64 0, .bool false]), _, rfl, ⟨rfl, rfl⟩, rfl, rfl, rfl, rfl, _, Try.func8, by simp [results, Try.f8, Frame.at]⟩

end Go.Proofs.Ytigpbkgcfnmdiaa.Ints
