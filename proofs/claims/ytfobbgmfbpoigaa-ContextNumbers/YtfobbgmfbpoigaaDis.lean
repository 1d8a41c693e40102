/-
  Whether no two attributes are of one name: a set of names (distinct); whether a fragment can stand in a context (Right).
-/
import Derived.Test.YtfobbgmfbpoigaaKeys
import Derived.Test.YtfobbgmfbpoigaaLis
namespace Go.Proofs.Ytfobbgmfbpoigaa
open Go.RowKit Go.Maps
set_option linter.unusedSimpArgs false
set_option linter.unusedVariables false

/-- Block b is a set of l's names. -/
def Tab (w : World) (b : Nat) (l : List Att) (k : Nat) : Prop :=
  ∃ D : DataW Unit, w.ownsMap Try.prog 9 (unitElem (H := Unit)) b k D ∧ Maps.size D = (uniq l).length ∧ ∀ x, Maps.has D (kl x) = (idx l x).isSome

theorem tab_new (w : World) : Tab (w.alloc (.map #[] 0)) w.heap.size [] 0 :=
  ⟨.map [], World.ownsMap_made w Try.prog 9 _, rfl, fun x => rfl⟩

theorem hasN_uniq (l : List Att) (x : ByteArray) : hasN (uniq l) x = hasN l x := by unfold hasN; rw [getF_uniq]

theorem uniq_snoc (l : List Att) (a : Att) : uniq (l ++ [a]) = add (uniq l) a := more_snoc [] l a

theorem tab_put {w w' : World} {b : Nat} {l : List Att} {k : Nat} {D : DataW Unit} (h2 : Maps.size D = (uniq l).length) (h3 : ∀ x, Maps.has D (kl x) = (idx l x).isSome) (h0 : w.ownsMap Try.prog 9 (unitElem (H := Unit)) b k D)
    (a : Att) (h1 : w'.ownsMap Try.prog 9 (unitElem (H := Unit)) b (k + 1) (D.put (kl a.1) (.agg []))) : Tab w' b (l ++ [a]) (k + 1) := by
  have htd := h0.tidy law9
  refine ⟨_, h1, ?_, fun x => ?_⟩
  · rw [Maps.size_put htd, uniq_snoc, h3 a.1, idx_some]
    unfold add
    rw [hasN_uniq]
    cases hasN l a.1
    · simp [h2]
    · simp [h2]
  · rw [idx_snoc]
    cases he : eqs a.1 x
    · have hne : kl x ≠ kl a.1 := fun e => by rw [kl_inj e, eqs_refl] at he; cases he
      rw [Maps.has_put_other hne, h3 x]
      simp
    · obtain rfl := eqs_iff.1 he
      rw [Maps.has_put_same htd.isMap (kl_key a.1)]
      cases idx l a.1 <;> simp

theorem make_map (w : World) (n : Nat) : (Instr.makeMap 63 (some (.int .i64 (n : Int)))).run Try.prog w = .ok (.map (some w.heap.size)) (w.alloc (.map #[] 0)) := by
  simp [Instr.makeMap, run_underlying Try.underlying63, asInt, asIntOf, newObj]
  rfl

set_option maxHeartbeats 1000000 in
theorem distinct_any (w : World) (l : List Att) (ao : Option Addr) (n c : Nat) (hr : Rp w ao n c l) (hl : n ≤ 1000) (hf : fits l) :
    Calls Try.prog 28 #[.slice ao n c] w fun e w' => e = .returned (.bool ((uniq l).length == l.length)) ∧ Kp [] w w' := by
  obtain rfl := hr.len
  have hmk := make_map w l.length
  have k0 : Kp [] w (w.alloc (.map #[] 0)) := (Kp.refl _ _).alloc _
  have T0 := tab_new w
  have HEQ : Hid (∀ N : Nat, (((N : Nat) : Int) == ((l.length : Nat) : Int)) = (N == l.length)) := fun N => by
    rw [Bool.eq_iff_iff, beq_iff_eq, beq_iff_eq]
    omega
  go_enter Try.func28, Try.ntmps28
  go_wp2
  clear hmk
  go_loopw [11] (fun i wr => ∃ k : Nat, k ≤ l.length ∧ i = .int .i64 k ∧ Kp [] w wr ∧ Tab wr w.heap.size (l.take k) k) (fun i _ => l.length - (intOf i).toNat)
  case atStart => exact ⟨0, Nat.zero_le _, rfl, k0, T0⟩
  case round =>
    obtain ⟨k, hk, rfl, hkp, T⟩ := hrel
    clear T0 k0
    by_cases hlt : k < l.length
    · obtain ⟨b1, o1, rfl, h1, h2⟩ := (hr.kept hkp).get k hlt
      have hts := take_snoc hlt
      have hfa := (hf l[k] (List.getElem_mem hlt)).1
      generalize l[k] = a at h1 h2 hts hfa
      have hkey := key_of hfa
      clear hr hf hfa
      obtain ⟨D, hown, hsz, hx⟩ := T
      have hP : Hid (∀ w', w'.ownsMap Try.prog 9 (unitElem (H := Unit)) w.heap.size (k + 1) (D.put (kl a.1) (.agg [])) → Tab w' w.heap.size (l.take (k + 1)) (k + 1)) := fun w' h => by
        rw [hts]
        exact tab_put hsz hx hown a h
      have hsize := hown.lt
      clear hx hsz hts
      go_wp2_with (at_mapUpdate; refine wpList_mapUpdate_own _ rfl _ _ _ 63 rfl 9 64 law9 Try.underlying63 (unitElem (H := Unit)) w.heap.size k D rfl (hown.alloc _) (by unfold maxLen; omega) _ _ _ rfl rfl hkey _ [] unitElem_mk ?_; intro w1 hown1 hgrow1)
      go_roundw
      case rel => exact ⟨k + 1, by omega, by go_num, (hkp.alloc _).trans (kp_grown hgrow1) (fun z hz => by simp at hz; omega), hP.out _ hown1⟩
      case measure => simp [intOf]; omega
    · obtain rfl : k = l.length := by omega
      rw [List.take_length] at T
      obtain ⟨D, hown, hsz, hx⟩ := T
      clear hr hf hx
      go_wp2_with (at_len; refine wpList_len_own _ rfl _ 63 rfl 9 64 Try.underlying63 _ w.heap.size l.length D rfl hown ?_)
      go_ret
      exact ⟨by rw [← HEQ.out]; rfl, hkp⟩

/-- A fragment can stand in a context of this NS and Name, with these attributes. -/
def rgt (ns : Int) (s : ByteArray) (l : List Att) : Bool := ((ns == 1) || (ns == 2)) && (!(s.toList == [])) && ((uniq l).length == l.length)

set_option maxHeartbeats 1000000 in
theorem right_any (w : World) (ns : Int) (s : ByteArray) (l : List Att) (ao : Option Addr) (n c : Nat) (hr : Rp w ao n c l) (hl : n ≤ 1000) (hf : fits l) :
    Calls Try.prog 19 #[Ints.cv ns s ao n c] w fun e w' => e = .returned (.bool (rgt ns s l)) ∧ Kp [] w w' := by
  have k1 : Kp [] w (w.alloc (.cells #[.int .i64 ns, .string s, .slice ao n c] 26)) := (Kp.refl _ _).alloc _
  have H := distinct_any (w.alloc (.cells #[.int .i64 ns, .string s, .slice ao n c] 26)) l ao n c (hr.kept k1) hl hf
  have K1 : Hid (Kp [] w (w.alloc (.cells #[.int .i64 ns, .string s, .slice ao n c] 26))) := k1
  obtain ⟨A, hA⟩ : ∃ A, rgt ns s l = A := ⟨_, rfl⟩
  rw [hA]
  unfold rgt at hA
  generalize ((uniq l).length == l.length) = D at H hA
  clear hr hf k1
  unfold Ints.cv
  go_enter Try.func19, Try.ntmps19
  cases h1 : (ns == 1) <;> cases h2 : (ns == 2) <;> cases h3 : (s.toList == [])
  all_goals (rw [h1, h2, h3] at hA; simp only [Bool.or_self, Bool.or_true, Bool.true_or, Bool.or_false, Bool.false_or, Bool.not_true, Bool.not_false, Bool.true_and, Bool.and_true, Bool.false_and, Bool.and_false] at hA; subst hA)
  all_goals (go_wp2_with (go_at_call 28; refine H.mono ?_; rintro e w2 ⟨rfl, k2⟩))
  all_goals go_ret
  all_goals first
    | exact ⟨rfl, Ints.kt K1.out k2⟩
    | exact ⟨rfl, K1.out⟩

end Go.Proofs.Ytfobbgmfbpoigaa
