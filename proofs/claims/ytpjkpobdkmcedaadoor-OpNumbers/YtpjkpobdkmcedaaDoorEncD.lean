/-
  The program's Encode.
-/
import Derived.Test.YtpjkpobdkmcedaaDoorEncC
import Derived.Test.YtpjkpobdkmcedaaDoorRtd
namespace Go.Proofs.YtpjkpobdkmcedaaDoor
open Go.RowKit Utf
set_option linter.unusedVariables false
set_option linter.unusedSimpArgs false

/-- The operations alone. -/
def os : List Q → List Ot
  | [] => []
  | q :: l => q.1 :: os l

theorem os_append : ∀ l m, os (l ++ m) = os l ++ os m
  | [], m => rfl
  | a :: l, m => by simp only [List.cons_append, os, os_append l m]

theorem os_len : ∀ l, (os l).length = l.length
  | [] => rfl
  | a :: l => by simp [os, os_len l]

/-- It may be written. -/
def okO (o : Ot) : Bool := rightO o && fitB o

theorem take_q {l : List Q} {k : Nat} (h : k < l.length) : l.take (k + 1) = l.take k ++ [l[k]] := by
  rw [List.take_succ_eq_append_getElem h]

theorem obs_at {l : List Q} {k : Nat} (h : k < l.length) : obs (os (l.take (k + 1))) = obs (os (l.take k)) ++ ob l[k].1 := by
  rw [take_q h, os_append, obs_append]
  simp [os, obs]

theorem obs_take_le (l : List Q) (k : Nat) : (obs (os (l.take k))).length ≤ (obs (os l)).length := by
  have : obs (os l) = obs (os (l.take k)) ++ obs (os (l.drop k)) := by rw [← obs_append, ← os_append, List.take_append_drop]
  rw [this, List.length_append]
  omega

/-- Bytes that a call made: they hold xs, in blocks that are new since w. -/
def Mb (w w' : World) (v : Value) (xs : List Int) : Prop := OwnB w' v (b8 xs) ∧ Kp [] w w' ∧ ∀ k, k ∈ blk v → w.heap.size ≤ k

theorem Mb.kept {w w1 w2 : World} {v : Value} {xs : List Int} (h : Mb w w1 v xs) (k : Kp [] w1 w2) : Mb w w2 v xs := ⟨h.1.keep k (fun _ _ => by simp), h.2.1.trans k (fun x hx => by simp at hx), h.2.2⟩

theorem Mb.ext {w w1 w2 : World} {v v' : Value} {xs ys : List Int} (h : Mb w w1 v xs) (g : Ext w1 w2 v v' ys) : Mb w w2 v' ys :=
  ⟨g.1, h.2.1.trans g.2.1 (fun x hx => Or.inr (h.2.2 x hx)), fun k hk => by
    rcases g.2.2 k hk with h1 | h1
    · exact h.2.2 k h1
    · exact Nat.le_trans h.2.1.size h1⟩

theorem Mb.shape {w w' : World} {v : Value} {xs : List Int} (h : Mb w w' v xs) : ∃ ao c, v = .slice ao xs.length c := (Ext.refl h.1).shape

theorem OwnB.rb {w : World} {ao : Option Addr} {n c : Nat} {xs : List Value} (h : OwnB w (.slice ao n c) xs) : Rb w ao n c xs := by
  rcases h with ⟨h1, rfl⟩ | ⟨g, cap, cur, hv, hg, h1, h2, h3, h4⟩
  · simp only [Value.slice.injEq] at h1
    obtain ⟨rfl, rfl, rfl⟩ := h1
    exact ⟨rfl, Nat.le_refl _, fun j hj => by omega⟩
  · simp only [Value.slice.injEq] at hv
    obtain ⟨rfl, rfl, rfl⟩ := hv
    exact ⟨rfl, h1, fun j hj => ⟨g, 0, rfl, by rw [Nat.zero_add, cell_of hg, h4 j hj]⟩⟩

/-- What is handed to Encode. -/
structure Given (w : World) (ao : Option Addr) (n c : Nat) (L : List Q) : Prop where
  rq : Rq w ao n c L
  at' : ∀ q, q ∈ L → At w q ∧ q.2.2.1 ≤ 100000
  few : n ≤ 100000

theorem Given.kept {w w' : World} {ao : Option Addr} {n c : Nat} {L : List Q} (h : Given w ao n c L) (k : Kp [] w w') : Given w' ao n c L :=
  ⟨h.rq.kept k, fun q hq => ⟨(h.at' q hq).1.kept k, (h.at' q hq).2⟩, h.few⟩

/-- A round of the first loop: the k-th one, copied, is asked. -/
structure Cop (w W : World) (b : Nat) (x : Q) : Prop where
  nine : Nine W b 0 x.1 x.2
  at' : At W x
  few : x.2.2.1 ≤ 100000
  kp : Kp [] w W

theorem Cop.kept {w W W' : World} {b : Nat} {x : Q} (h : Cop w W b x) (k : Kp [] W W') : Cop w W' b x :=
  ⟨h.nine.kept k (by simp), h.at'.kept k, h.few, h.kp.trans k (fun z hz => Or.inl hz)⟩

theorem cop_new {w wr : World} {x : Q} (k : Kp [] w wr) (ha : At w x ∧ x.2.2.1 ≤ 100000) : Cop w (wr.alloc (.cells (oc x.1 x.2) 24)) wr.heap.size x :=
  ⟨nine_of (heap_new wr _), (ha.1.kept k).kept ((Kp.refl _ _).alloc _), ha.2, k.alloc _⟩

set_option maxRecDepth 100000 in
set_option maxHeartbeats 2000000 in
/-- One that may not be written: all are refused. -/
theorem encode_no (w : World) (ao : Option Addr) (n c : Nat) (L : List Q) (h : Given w ao n c L) (hno : (L.all fun q => okO q.1) = false) :
    Calls Tryd.prog 7 #[.slice ao n c] w fun e w' => e = .returned (.tuple #[.slice none 0 0, .int .i64 12]) ∧ Kp [] w w' := by
  have hn := h.rq.len
  subst hn
  have HG : Hid (Given w ao L.length c L) := h
  have hno2 : Hid ((L.all fun q => okO q.1) = false) := hno
  have hfew := h.few
  clear h hno
  go_enter Tryd.func7, Tryd.ntmps7
  go_wp2
  go_loopw [11] (fun i wr => ∃ k : Nat, k ≤ L.length ∧ i = .int .i64 k ∧ Kp [] w wr ∧ ∀ j (hj : j < L.length), j < k → okO L[j].1 = true) (fun i _ => L.length - (intOf i).toNat)
  case atStart => exact ⟨0, Nat.zero_le _, rfl, Kp.refl _ _, fun j _ hj => by omega⟩
  case round =>
    obtain ⟨k, hk, rfl, kw, hp⟩ := hrel
    by_cases hlt : k < L.length
    · obtain ⟨b, off, rfl, N⟩ := (HG.out.rq.kept kw).get k hlt
      have hp2 : Hid (okO L[k].1 = true → ∀ j (hj : j < L.length), j < k + 1 → okO L[j].1 = true) := fun hz j hj hjk => by
        by_cases e : j = k
        · subst e; exact hz
        · exact hp j hj (by omega)
      have C0 := cop_new kw (HG.out.at' L[k] (List.getElem_mem hlt))
      clear hp HG hno2
      generalize L[k] = x at N hp2 C0
      obtain ⟨⟨o1, o2, o3, o4, o5, o6, o7, o8, o9⟩, p1, p2, p3⟩ := x
      obtain ⟨f0, f1, f2, f3, f4, f5, f6, f7, f8⟩ := N
      have C1 : Hid (Cop w (wr.alloc (.cells (oc ⟨o1, o2, o3, o4, o5, o6, o7, o8, o9⟩ (p1, p2, p3)) 24)) wr.heap.size (⟨o1, o2, o3, o4, o5, o6, o7, o8, o9⟩, p1, p2, p3)) := C0
      clear C0
      simp only [oc] at f0 f1 f2 f3 f4 f5 f6 f7 f8 C1
      have HR := right_any _ _ _ C1.out.at' C1.out.few
      simp only [ov] at HR
      go_wp2_with fail
      refine HR.mono ?_
      rintro e w1 ⟨rfl, k1⟩
      have C2 : Hid (Cop w w1 wr.heap.size (⟨o1, o2, o3, o4, o5, o6, o7, o8, o9⟩, p1, p2, p3)) := C1.out.kept k1
      clear HR C1 f0 f1 f2 f3 f4 f5 f6 f7 f8 k1
      obtain ⟨f0, f1, f2, f3, f4, f5, f6, f7, f8⟩ := C2.out.nine
      simp only [Nat.zero_add] at f0 f1 f2 f3 f4 f5 f6 f7 f8
      have HF := fits_any _ _ _ C2.out.at' C2.out.few
      simp only [ov] at HF
      cases z1 : rightO ⟨o1, o2, o3, o4, o5, o6, o7, o8, o9⟩
      · clear HF hp2
        have kz := C2.out.kp
        clear C2
        go_wp2
        go_ret2
        exact ⟨rfl, kz⟩
      · go_wp2_with fail
        refine HF.mono ?_
        rintro e w2 ⟨rfl, k2⟩
        have kz : Kp [] w w2 := C2.out.kp.trans k2 (fun z hz => Or.inl hz)
        clear HF C2 k2 f0 f1 f2 f3 f4 f5 f6 f7 f8
        cases z2 : fitB ⟨o1, o2, o3, o4, o5, o6, o7, o8, o9⟩
        · clear hp2
          go_wp2
          go_ret2
          exact ⟨rfl, kz⟩
        · have hp3 : Hid (∀ j (hj : j < L.length), j < k + 1 → okO L[j].1 = true) := hp2.out (by simp [okO, z1, z2])
          clear hp2
          go_wp2
          go_roundw
          case rel => exact ⟨k + 1, by omega, by go_num, kz, hp3.out⟩
          case measure => simp [intOf]; omega
    · exfalso
      have := hno2.out
      rw [List.all_eq_false] at this
      obtain ⟨q, hq, hz⟩ := this
      obtain ⟨j, hj, rfl⟩ := List.mem_iff_getElem.1 hq
      exact hz (hp j hj (by omega))

end Go.Proofs.YtpjkpobdkmcedaaDoor
