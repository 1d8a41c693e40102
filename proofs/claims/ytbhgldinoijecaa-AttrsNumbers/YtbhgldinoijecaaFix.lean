/-
  Fix of the program and of the document, of any name; Head and Within; what came of a call, seen from further back. (Carried over from stage 6.)
-/
import Derived.Test.YtbhgldinoijecaaClone
import Derived.Test.YtbhgldinoijecaaWords
import Derived.BigQuiet
import Derived.Great.BuildSlice
import Derived.Deep.Cut
import Derived.Deep.QuietTactic
namespace Go.Proofs.Ytbhgldinoijecaa
open Go.RowKit

set_option maxHeartbeats 4000000 in
theorem fix_any (w : World) (s : ByteArray) (hs : s.size ≤ 281474976710656) : Calls Try.prog 35 #[.string s] w fun e w' => e = .returned (.string (fix s)) ∧ Kp [] w w' := by
  have HC := clone_any w s hs
  clear hs
  go_enter Try.func35, Try.ntmps35
  go_wp2_with (go_at_call 34; refine HC.mono ?_; rintro e w2 ⟨rfl, k2⟩)
  all_goals go_ret
  all_goals first
    | exact ⟨by simp [fix, fixIn, FROM, TO, txt, *], Kp.refl _ _⟩
    | exact ⟨by simp [fix, fixIn, FROM, TO, *], k2⟩

/-- A literal of texts. -/
theorem build_texts {P : Program} {ops : Array Oper} {rest : List Oper} {o : Oper} {a : Act} {w : World} {Q : Exit → Act → World → Prop} (hg : o.guard = none) (t e : TypeId) (len : Nat) (parts : Array (Nat × Operand)) (ho : o.op = .buildSlice t len parts)
    (zs : List ByteArray)
    (hu : P.underlying t = some (.slice e)) (hsz : (P.info? e).map (·.size) = some 1) (hz : ((P.info? e).bind (·.zero)).isSome = true)
    (hlen : len = zs.length) (hpos : 0 < len) (hsmall : len ≤ 2 ^ 24)
    (hparts : parts.toList = (zs.zipIdx 0).map fun x => (x.2, Operand.const (Value.string x.1)))
    (h : wpList P ops Q rest (a.put o.dst (.slice (some ⟨w.heap.size, 0, none⟩) len len)) (w.alloc (.cells (tx zs).toArray e))) : wpList P ops Q (o :: rest) a w := by
  cases hie : P.info? e with
  | none => simp [hie] at hsz
  | some ie =>
    simp only [hie, Option.map_some, Option.some.injEq, Option.bind_some] at hsz hz
    obtain ⟨z, hzz⟩ := Option.isSome_iff_exists.1 hz
    refine wpList_buildSlice hg t e len parts ho _ ie z hu hie hzz (by rw [hsz]; omega) (by rw [hsz]; omega) ?_ h
    have he : (parts.map fun (i, x) => (i, a.eval x)).toList = ((tx zs).zipIdx 0).map fun x => (x.2, x.1) := by
      rw [Array.toList_map, hparts, tx, List.zipIdx_map, List.map_map, List.map_map]
      rfl
    rw [he, hsz]
    exact Great.fill_flat _ _ (fun v hv => by obtain ⟨n, _, rfl⟩ := List.mem_map.1 hv; rfl) (by simp [hlen, tx])

/-- What came of a call, seen from further back. -/
theorem from_back {f : FuncId} {args : Array Value} {E : Ending} {w0 w1 : World} (h : Calls Try.prog f args w1 fun e w' => e = E ∧ Kp [] w1 w') (k : Kp [] w0 w1) : Calls Try.prog f args w1 fun e w' => e = E ∧ Kp [] w0 w' :=
  h.mono fun _ _ x => ⟨x.1, k.trans x.2 (fun y hy => by simp at hy)⟩

theorem zip_len : (FROM.zip TO).length = 6 := by kernel_rfl
theorem from_len : FROM.length = 6 := by kernel_rfl
theorem to_len : TO.length = 6 := by kernel_rfl

theorem fixIn_step (s : ByteArray) (k : Nat) (hk : k < 6) :
    fixIn s ((FROM.zip TO).drop k) = if (s.toList == FROM[k]'(by rw [from_len]; exact hk)) then txt (TO[k]'(by rw [to_len]; exact hk)) else fixIn s ((FROM.zip TO).drop (k + 1)) := by
  rw [List.drop_eq_getElem_cons (by rw [zip_len]; exact hk), List.getElem_zip, fixIn]

set_option maxHeartbeats 1000000 in
theorem ref_fix_any (w : World) (s : ByteArray) : Calls Try.prog 36 #[.string s] w fun e w' => e = .returned (.string (fix s)) ∧ Kp [] w w' := by
  obtain ⟨A, hA⟩ : ∃ A, fixIn s ((FROM.zip TO).drop 0) = A := ⟨_, rfl⟩
  rw [show fix s = fixIn s ((FROM.zip TO).drop 0) from rfl, hA]
  have HF : Rb (w.alloc (.cells (tx (FROM.map txt)).toArray 9)) (some ⟨w.heap.size, 0, none⟩) 6 6 (tx (FROM.map txt)) := rb_lit w 9 _ _ 6 rfl (by kernel_rfl) (by omega)
  have K1 : Kp [] w (w.alloc (.cells (tx (FROM.map txt)).toArray 9)) := (Kp.refl _ _).alloc _
  go_enter Try.func36, Try.ntmps36
  go_upto_region 1 with fail
  refine wp_region_lit ?_
  refine build_texts rfl 46 9 6 _ rfl (FROM.map txt) Try.underlying46 (by kernel_rfl) (by kernel_rfl) (by kernel_rfl) (by omega) (by omega) (by kernel_rfl) ?_
  generalize w.alloc (.cells (tx (FROM.map txt)).toArray 9) = w1 at HF K1
  generalize some (⟨w.heap.size, 0, none⟩ : Addr) = a1 at HF
  go_upto_region 2 with fail
  refine wp_region_lit ?_
  have HT : Rb (w1.alloc (.cells (tx (TO.map txt)).toArray 9)) (some ⟨w1.heap.size, 0, none⟩) 6 6 (tx (TO.map txt)) := rb_lit w1 9 _ _ 6 rfl (by kernel_rfl) (by omega)
  have K2 : Kp [] w1 (w1.alloc (.cells (tx (TO.map txt)).toArray 9)) := (Kp.refl _ _).alloc _
  refine build_texts rfl 46 9 6 _ rfl (TO.map txt) Try.underlying46 (by kernel_rfl) (by kernel_rfl) (by kernel_rfl) (by omega) (by omega) (by kernel_rfl) ?_
  generalize w1.alloc (.cells (tx (TO.map txt)).toArray 9) = w2 at HT K2
  generalize some (⟨w1.heap.size, 0, none⟩ : Addr) = a2 at HT
  have hF := HF.kept K2
  have hK := K1.trans K2 (fun y hy => by simp at hy)
  clear HF K1 K2
  go_wp2
  go_loopw [5] (fun i wr => ∃ k q : Nat, k ≤ 6 ∧ i = .int .i64 k ∧ wr = w2.drewN q ∧ fixIn s ((FROM.zip TO).drop k) = A) (fun i _ => 6 - (intOf i).toNat)
  case atStart => exact ⟨0, 0, Nat.zero_le _, rfl, rfl, hA⟩
  case round =>
    obtain ⟨k, q, hk, rfl, rfl, hp⟩ := hrel
    clear hA
    by_cases hlt : k < 6
    · obtain ⟨b1, o1, rfl, h1⟩ := hF.tx_at k (by rw [List.length_map, from_len]; exact hlt)
      obtain ⟨b2, o2, rfl, h2⟩ := HT.tx_at k (by rw [List.length_map, to_len]; exact hlt)
      rw [List.getElem_map] at h1 h2
      rw [fixIn_step s k hlt] at hp
      have ht := toList_txt (FROM[k]'(by rw [from_len]; exact hlt))
      clear hF HT
      rw [← ht] at hp
      clear ht
      generalize txt (FROM[k]'(by rw [from_len]; exact hlt)) = x at h1 hp
      generalize txt (TO[k]'(by rw [to_len]; exact hlt)) = y at h2 hp
      have hc : (s.toList == x.toList) = (x.toList == s.toList) := by
        rw [Bool.eq_iff_iff, beq_iff_eq, beq_iff_eq]
        exact eq_comm
      rw [hc] at hp
      clear hc
      cases hx : (x.toList == s.toList)
      · rw [hx] at hp
        simp only [Bool.false_eq_true, if_false] at hp
        go_wp2
        go_roundw
        case rel => exact ⟨k + 1, _, by omega, by go_num, rfl, hp⟩
        case measure => simp [intOf]; omega
      · rw [hx] at hp
        simp only [if_true] at hp
        subst hp
        go_wp2
        go_ret
        exact ⟨rfl, hK.drewN q⟩
    · obtain rfl : k = 6 := by omega
      rw [List.drop_eq_nil_of_le (by rw [zip_len]; omega), fixIn] at hp
      subst hp
      go_wp2
      go_ret
      exact ⟨rfl, hK.drewN q⟩

/-- No more of a text than m bytes. -/
theorem cut_any (w : World) (s : ByteArray) (m : Nat) (hm : m ≤ 1000) : Calls Try.prog 29 #[.string s, .int .i64 (m : Int)] w fun e w' => e = .returned (.string (if m < s.size then s.extract 0 m else s)) ∧ w' = w := by
  by_cases h : m < s.size
  · rw [if_pos h]
    go_enter Try.func29, Try.ntmps29
    go_wp2
    go_ret
    exact ⟨rfl, rfl⟩
  · rw [if_neg h]
    go_enter Try.func29, Try.ntmps29
    go_wp2
    go_ret
    exact ⟨rfl, rfl⟩

theorem cut_size (s : ByteArray) (m : Nat) : (if m < s.size then s.extract 0 m else s).size ≤ m := by
  split
  · simp
    omega
  · omega

/-- A number brought into the range from 0 to m. -/
def wi (n : Int) (m : Nat) : Nat := (if n.tmod ((m : Int) + 1) < 0 then n.tmod ((m : Int) + 1) + ((m : Int) + 1) else n.tmod ((m : Int) + 1)).toNat

theorem wi_le (n : Int) (m : Nat) : wi n m ≤ m := by
  have t1 : n.tmod ((m : Int) + 1) < (m : Int) + 1 := Int.tmod_lt_of_pos n (by omega)
  have t2 : -((m : Int) + 1) < n.tmod ((m : Int) + 1) := Int.lt_tmod_of_pos n (by omega)
  unfold wi
  split <;> omega

theorem within_any (w : World) (n : Int) (m : Nat) (hm : m ≤ 2000000) : Calls Try.prog 16 #[.int .i64 n, .int .i64 0, .int .i64 (m : Int)] w fun e w' => e = .returned (.int .i64 (wi n m : Int)) ∧ w' = w := by
  have t1 : n.tmod ((m : Int) + 1) < (m : Int) + 1 := Int.tmod_lt_of_pos n (by omega)
  have t2 : -((m : Int) + 1) < n.tmod ((m : Int) + 1) := Int.lt_tmod_of_pos n (by omega)
  by_cases h : n.tmod ((m : Int) + 1) < 0
  · have hw : (wi n m : Int) = n.tmod ((m : Int) + 1) + ((m : Int) + 1) := by
      unfold wi
      rw [if_pos h]
      omega
    rw [hw]
    clear hw
    go_enter Try.func16, Try.ntmps16
    go_wp2
    go_ret
    refine ⟨?_, rfl⟩
    show Ending.returned (.int .i64 _) = _
    congr 2
    omega
  · have hw : (wi n m : Int) = n.tmod ((m : Int) + 1) := by
      unfold wi
      rw [if_neg h]
      omega
    rw [hw]
    clear hw
    go_enter Try.func16, Try.ntmps16
    go_wp2
    go_ret
    refine ⟨?_, rfl⟩
    show Ending.returned (.int .i64 _) = _
    congr 2

end Go.Proofs.Ytbhgldinoijecaa
