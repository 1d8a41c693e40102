/-
  The document's kinds: 'in', and each list that is built and gone through, of any name.
-/
import Derived.Test.YtpadnfpifldoaaaMore
import Derived.BigQuiet
import Derived.Great.BuildSlice
import Derived.Deep.Cut
import Derived.Deep.QuietTactic
namespace Go.Proofs.Ytpadnfpifldoaaa
open Go.RowKit

/-- A literal of texts. -/
theorem build_texts {P : Program} {ops : Array Oper} {rest : List Oper} {o : Oper} {a : Act} {w : World} {Q : Exit → Act → World → Prop} (hg : o.guard = none) (t e : TypeId) (len : Nat) (parts : Array (Nat × Operand)) (ho : o.op = .buildSlice t len parts)
    (zs : List ByteArray)
    (hu : P.underlying t = some (.slice e)) (hsz : (P.info? e).map (·.size) = some 1) (hz : ((P.info? e).bind (·.zero)).isSome = true)
    (hlen : len = zs.length) (hpos : 0 < len) (hsmall : len ≤ 2 ^ 24)
    (hparts : parts.toList = (zs.zipIdx 0).map fun x => (x.2, Operand.const (Value.string x.1)))
    (h : wpList P ops Q rest (a.put o.dst (.slice (some ⟨w.heap.size, 0, none⟩) len len)) (w.alloc (.cells (tx zs).toArray e))) : wpList P ops Q (o :: rest) a w := by
  cases hie : P.info? e with
  | none => simp [hie] at hsz
  | some ie =>
    simp only [hie, Option.map_some, Option.some.injEq, Option.bind_some] at hsz hz
    obtain ⟨z, hzz⟩ := Option.isSome_iff_exists.1 hz
    refine wpList_buildSlice hg t e len parts ho _ ie z hu hie hzz (by rw [hsz]; omega) (by rw [hsz]; omega) ?_ h
    have he : (parts.map fun (i, x) => (i, a.eval x)).toList = ((tx zs).zipIdx 0).map fun x => (x.2, x.1) := by
      rw [Array.toList_map, hparts, tx, List.zipIdx_map, List.map_map, List.map_map]
      rfl
    rw [he, hsz]
    exact Great.fill_flat _ _ (fun v hv => by obtain ⟨n, _, rfl⟩ := List.mem_map.1 hv; rfl) (by simp [hlen, tx])

set_option maxHeartbeats 1000000 in
/-- in: a text among some. -/
theorem in_any (zs : List ByteArray) (w : World) (s : ByteArray) (ao : Option Addr) (n c : Nat) (hr : Rb w ao n c (tx zs)) (hl : n ≤ 1000) :
    Calls Try.prog 67 #[.string s, .slice ao n c] w fun e w' => e = .returned (.bool (zs.any fun x => x.toList == s.toList)) ∧ Kp [] w w' := by
  obtain rfl : n = zs.length := by rw [hr.len, tx_len]
  obtain ⟨A, hA⟩ : ∃ A, (zs.any fun x => x.toList == s.toList) = A := ⟨_, rfl⟩
  rw [hA]
  go_enter Try.func67, Try.ntmps67
  go_wp2
  go_loopw [5] (fun i wr => ∃ k q : Nat, k ≤ zs.length ∧ i = .int .i64 k ∧ wr = w.drewN q ∧ ((zs.drop k).any fun x => x.toList == s.toList) = A) (fun i _ => zs.length - (intOf i).toNat)
  case atStart => exact ⟨0, 0, Nat.zero_le _, rfl, rfl, hA⟩
  case round =>
    obtain ⟨k, q, hk, rfl, rfl, hp⟩ := hrel
    clear hA
    by_cases hlt : k < zs.length
    · obtain ⟨b1, o1, rfl, h1⟩ := hr.tx_at k hlt
      rw [List.drop_eq_getElem_cons hlt, List.any_cons] at hp
      generalize zs[k] = x at h1 hp
      clear hr
      cases hx : (x.toList == s.toList)
      · rw [hx, Bool.false_or] at hp
        go_wp2
        go_roundw
        case rel => exact ⟨k + 1, _, by omega, by go_num, rfl, hp⟩
        case measure => simp [intOf]; omega
      · rw [hx, Bool.true_or] at hp
        subst hp
        go_wp2
        go_ret
        exact ⟨rfl, (Kp.refl _ _).drewN q⟩
    · rw [List.drop_eq_nil_of_le (by omega), List.any_nil] at hp
      subst hp
      go_wp2
      go_ret
      exact ⟨rfl, (Kp.refl _ _).drewN q⟩

theorem any_txt (L : List (List UInt8)) (s : ByteArray) : ((L.map txt).any fun x => x.toList == s.toList) = has L s := by
  rw [List.any_map, has]
  congr 1
  funext x
  show ((txt x).toList == s.toList) = (s.toList == x)
  rw [toList_txt]
  rw [Bool.eq_iff_iff, beq_iff_eq, beq_iff_eq]
  exact eq_comm

/-- What came of a call, seen from further back. -/
theorem from_back {f : FuncId} {args : Array Value} {E : Ending} {w0 w1 : World} (h : Calls Try.prog f args w1 fun e w' => e = E ∧ Kp [] w1 w') (k : Kp [] w0 w1) : Calls Try.prog f args w1 fun e w' => e = E ∧ Kp [] w0 w' :=
  h.mono fun _ _ x => ⟨x.1, k.trans x.2 (fun y hy => by simp at hy)⟩

/-- in, of a list that was just built. -/
theorem in_lit (L : List (List UInt8)) (s : ByteArray) (n : Nat) (cur : Array Value) (w0 w1 : World) (k : Kp [] w0 w1) (h : cur = (tx (L.map txt)).toArray) (hn : n = L.length) (hm : n ≤ 1000) :
    Calls Try.prog 67 #[.string s, .slice (some ⟨w1.heap.size, 0, none⟩) n n] (w1.alloc (.cells cur 9)) fun e w' => e = .returned (.bool (has L s)) ∧ Kp [] w0 w' := by
  have H := in_any (L.map txt) (w1.alloc (.cells cur 9)) s _ n n (rb_lit w1 9 cur _ n h (by rw [tx_len, List.length_map]; exact hn) hm) hm
  rw [any_txt] at H
  exact from_back H (k.alloc _)





set_option maxHeartbeats 1000000 in
theorem ref_impl_any (w : World) (s : ByteArray) : Calls Try.prog 32 #[.string s] w fun e w' => e = .returned (.bool (has IMPL s)) ∧ Kp [] w w' := by
  go_enter Try.func32, Try.ntmps32
  go_wp2_with fail
  refine (in_lit IMPL s 4 _ _ _ (Kp.refl [] w) (by kernel_rfl) (by kernel_rfl) (by omega)).mono ?_
  rintro e w2 ⟨rfl, k2⟩
  go_wp2
  go_ret
  exact ⟨rfl, k2⟩

set_option maxHeartbeats 4000000 in
theorem ref_thorough_any (w : World) (s : ByteArray) : Calls Try.prog 31 #[.string s] w fun e w' => e = .returned (.bool (thorough s)) ∧ Kp [] w w' := by
  have H := ref_impl_any w s
  unfold thorough
  cases hb : has IMPL s
  · rw [hb] at H
    rw [Bool.or_false]
    clear hb
    go_enter Try.func31, Try.ntmps31
    go_wp2_with fail
    refine H.mono ?_
    rintro e w1 ⟨rfl, k1⟩
    clear H
    go_wp2_with fail
    refine (in_lit PARTS s 6 _ _ _ k1 (by kernel_rfl) (by kernel_rfl) (by omega)).mono ?_
    rintro e w2 ⟨rfl, k2⟩
    go_wp2
    go_ret
    exact ⟨rfl, k2⟩
  · rw [hb] at H
    rw [Bool.or_true]
    clear hb
    go_enter Try.func31, Try.ntmps31
    go_wp2_with fail
    refine H.mono ?_
    rintro e w1 ⟨rfl, k1⟩
    clear H
    go_wp2
    go_ret
    exact ⟨rfl, k1⟩


set_option maxHeartbeats 4000000 in
theorem ref_point_any (w : World) (ns : Int) (s : ByteArray) : Calls Try.prog 82 #[.int .i64 ns, .string s] w fun e w' => e = .returned (.bool (point ns s)) ∧ Kp [] w w' := by
  by_cases hn : ns = 2
  · subst hn
    rw [show point 2 s = has POINT s from rfl]
    go_enter Try.func82, Try.ntmps82
    go_wp2_with fail
    refine (in_lit POINT s 3 _ _ _ (Kp.refl [] w) (by kernel_rfl) (by kernel_rfl) (by omega)).mono ?_
    rintro e w2 ⟨rfl, k2⟩
    go_wp2
    go_ret
    exact ⟨rfl, k2⟩
  · have h1 : (ns == 2) = false := by simpa using hn
    rw [show point ns s = false by simp [point, hn]]
    go_enter Try.func82, Try.ntmps82
    go_wp2
    go_ret
    exact ⟨rfl, Kp.refl _ _⟩

set_option maxHeartbeats 4000000 in
theorem ref_bound_any (w : World) (ns : Int) (s : ByteArray) : Calls Try.prog 75 #[.int .i64 ns, .string s] w fun e w' => e = .returned (.bool (bound ns s)) ∧ Kp [] w w' := by
  have H := ref_point_any w ns s
  by_cases hn : ns = 1
  · subst hn
    rw [show bound 1 s = has BOUND s from rfl]
    rw [show point 1 s = false by simp [point]] at H
    go_enter Try.func75, Try.ntmps75
    go_wp2_with fail
    refine H.mono ?_
    rintro e w1 ⟨rfl, k1⟩
    clear H
    go_wp2_with fail
    refine (in_lit BOUND s 8 _ _ _ k1 (by kernel_rfl) (by kernel_rfl) (by omega)).mono ?_
    rintro e w2 ⟨rfl, k2⟩
    go_wp2
    go_ret
    exact ⟨rfl, k2⟩
  · have h1 : (ns == 1) = false := by simpa using hn
    rw [show bound ns s = point ns s by simp [bound, hn]]
    generalize point ns s = p at H
    cases p
    all_goals
      go_enter Try.func75, Try.ntmps75
      go_wp2_with fail
      refine H.mono ?_
      rintro e w1 ⟨rfl, k1⟩
      clear H
      go_wp2
      go_ret
      exact ⟨rfl, k1⟩


theorem zip_len : (FROM.zip TO).length = 6 := by kernel_rfl
theorem from_len : FROM.length = 6 := by kernel_rfl
theorem to_len : TO.length = 6 := by kernel_rfl

theorem fixIn_step (s : ByteArray) (k : Nat) (hk : k < 6) :
    fixIn s ((FROM.zip TO).drop k) = if (s.toList == FROM[k]'(by rw [from_len]; exact hk)) then txt (TO[k]'(by rw [to_len]; exact hk)) else fixIn s ((FROM.zip TO).drop (k + 1)) := by
  rw [List.drop_eq_getElem_cons (by rw [zip_len]; exact hk), List.getElem_zip, fixIn]

end Go.Proofs.Ytpadnfpifldoaaa
