/-
  Where the first one of a name stands; Add, More and Unique of the document.
-/
import Derived.Test.YtfobbgmfbpoigaaLists
import Derived.Laws.MakeOwn
import Derived.Deep.RegionHeld3
namespace Go.Proofs.Ytfobbgmfbpoigaa
open Go.RowKit
set_option linter.unusedSimpArgs false

/-- A place, or -1. -/
def plcA : Option Nat → Int
  | some i => i
  | none => -1

set_option maxHeartbeats 1000000 in
theorem ref_has_any (w : World) (x : ByteArray) (l : List Att) (ao : Option Addr) (n c : Nat) (hr : Rp w ao n c l) (hl : n ≤ 1000) :
    Calls Try.prog 40 #[.slice ao n c, .string x] w fun e w' => e = .returned (.int .i64 (plcA (idx l x))) ∧ Kp [] w w' := by
  obtain rfl := hr.len
  obtain ⟨A, hA⟩ : ∃ A, plcA (idx l x) = A := ⟨_, rfl⟩
  rw [hA]
  go_enter Try.func40, Try.ntmps40
  go_wp2
  go_loopw [5] (fun i wr => ∃ k q : Nat, k ≤ l.length ∧ i = .int .i64 k ∧ wr = w.drewN q ∧ (∀ j (hj : j < k) (hl : j < l.length), eqs l[j].1 x = false)) (fun i _ => l.length - (intOf i).toNat)
  case atStart => exact ⟨0, 0, Nat.zero_le _, rfl, rfl, fun j hj => by omega⟩
  case round =>
    obtain ⟨k, q, hk, rfl, rfl, hp⟩ := hrel
    by_cases hlt : k < l.length
    · obtain ⟨b1, o1, rfl, h1, h2⟩ := hr.get k hlt
      have hh : ∀ b, eqs l[k].1 x = b → (l[k].1.toList == x.toList) = b := fun b h => h
      clear hr
      cases hx : eqs l[k].1 x
      · have hx' := hh _ hx
        go_wp2
        go_roundw
        case rel => exact ⟨k + 1, _, by omega, by go_num, rfl, fun j hj hl => by
          by_cases e : j < k
          · exact hp j e hl
          · obtain rfl : j = k := by omega
            exact hx⟩
        case measure => simp [intOf]; omega
      · have hx' := hh _ hx
        rw [idx_drop hlt (fun j hj => hp j hj (by omega)) hx] at hA
        subst hA
        go_wp2
        go_ret
        exact ⟨rfl, (Kp.refl _ _).drewN q⟩
    · rw [idx_end (fun j hj => hp j (by omega) hj)] at hA
      subst hA
      go_wp2
      go_ret
      exact ⟨rfl, (Kp.refl _ _).drewN q⟩

theorem take_snoc {l : List Att} {k : Nat} (h : k < l.length) : l.take (k + 1) = l.take k ++ [l[k]] := by
  rw [List.take_succ_eq_append_getElem h]

theorem fits_one {l : List Att} (h : fits l) {k : Nat} (hk : k < l.length) : fits [l[k]] := fun a ha => by
  simp only [List.mem_singleton] at ha
  rw [ha]
  exact h _ (List.getElem_mem hk)

/-- A literal of none. -/
theorem mp_none (w : World) : Mp w (w.alloc (.cells #[] 36)) (some ⟨w.heap.size, 0, none⟩) 0 0 [] := rp_lit w #[] [] 0 rfl rfl (by omega)

theorem has_idx (l : List Att) (x : ByteArray) : (∃ i, idx l x = some i ∧ hasN l x = true) ∨ (idx l x = none ∧ hasN l x = false) := by
  have := idx_some (l := l) (x := x)
  cases h : idx l x with
  | none => exact Or.inr ⟨rfl, by rw [h] at this; exact this.symm⟩
  | some i => exact Or.inl ⟨i, rfl, by rw [h] at this; exact this.symm⟩


set_option maxHeartbeats 1000000 in
theorem ref_add_any (w : World) (l : List Att) (a : Att) (ao : Option Addr) (n c : Nat) (hr : Rp w ao n c l) (hl : n ≤ 900) :
    Calls Try.prog 35 #[.slice ao n c, av a] w fun e w' => ∃ ao' n' c', e = .returned (.slice ao' n' c') ∧ Mp w w' ao' n' c' (add l a) := by
  have kb : Kp [] w (w.alloc (.cells #[.string a.1, .string a.2] 36)) := (Kp.refl _ _).alloc _
  have cb : (w.alloc (.cells #[.string a.1, .string a.2] 36)).heap[w.heap.size]? = some (.cells #[.string a.1, .string a.2] 36) := heap_new _ _
  have lb : w.heap.size < (w.alloc (.cells #[.string a.1, .string a.2] 36)).heap.size := by simp
  have e0 : (w.alloc (.cells #[.string a.1, .string a.2] 36)).heap.size = w.heap.size + 1 := by simp
  have M1 := mp_none (w.alloc (.cells #[.string a.1, .string a.2] 36))
  have hr1 := (hr.kept kb).kept M1.kp
  obtain ⟨a2, n2, c2, w2, hrun, M2⟩ := M1.app (hr1.src Try.underlying24) (fun h => by cases h) (by omega)
  rw [e0] at hrun
  have hr2 := (hr.kept kb).kept M2.kp
  have M2b := M2.back kb
  have cb2 : w2.heap[w.heap.size]? = some (.cells #[.string a.1, .string a.2] 36) := by rw [M2.kp.block _ lb (by simp)]; exact cb
  have g1 : w2.cell? ⟨w.heap.size, 0, none⟩ = some (.string a.1) := by rw [cell_of cb2]; rfl
  rw [List.nil_append] at M2b
  have HH := ref_has_any w2 a.1 l ao n c hr2 (by omega)
  have hn : n2 ≤ 1000 := by have := M2b.len; have := hr.len; omega
  clear M1 hr1 M2 kb cb lb e0 hr2
  unfold av
  go_enter Try.func35, Try.ntmps35
  go_wp2_with (first
    | (at_builtin; refine Lib.wpList_append_run _ rfl _ _ _ _ rfl _ _ rfl rfl _ _ (hrun _) ?_)
    | (go_at_call 40; refine Hid.out ?_))
  unfold Hid
  refine HH.mono ?_
  rintro e w3 ⟨rfl, k3⟩
  clear HH hrun
  have M3 := M2b.kept k3
  have cb3 : w3.heap[w.heap.size]? = some (.cells #[.string a.1, .string a.2] 36) := by rw [k3.block _ (lt_of cb2) (by simp)]; exact cb2
  have g2 : w3.cell? ⟨w.heap.size, 0, none⟩ = some (.string a.1) := by rw [cell_of cb3]; rfl
  have g3 : w3.cell? ⟨w.heap.size, 1, none⟩ = some (.string a.2) := by rw [cell_of cb3]; rfl
  clear g1 cb2 M2b k3 cb3
  rcases has_idx l a.1 with ⟨i, hi, hh⟩ | ⟨hi, hh⟩
  · rw [hi]
    have e1 : add l a = l := by unfold add; rw [hh]; rfl
    simp only [plcA]
    go_wp2
    go_ret
    exact ⟨_, _, _, rfl, by rw [e1]; exact M3⟩
  · rw [hi]
    have e1 : add l a = l ++ [a] := by unfold add; rw [hh]; rfl
    simp only [plcA]
    obtain ⟨a5, n5, c5, w5, hrun, M5⟩ := M3.one a (by omega)
    go_wp2_with (at_builtin; refine Lib.wpList_append_run _ rfl _ _ _ _ rfl _ _ rfl rfl _ _ (hrun _) ?_)
    go_ret
    exact ⟨_, _, _, rfl, by rw [e1]; exact M5⟩

set_option maxHeartbeats 1000000 in
theorem ref_more_any (w : World) (l m : List Att) (ao bo : Option Addr) (n c p d : Nat) (hr : Rp w ao n c l) (hs : Rp w bo p d m) (hl : n ≤ 400) (hm : p ≤ 400) :
    Calls Try.prog 27 #[.slice ao n c, .slice bo p d] w fun e w' => ∃ ao' n' c', e = .returned (.slice ao' n' c') ∧ Mp w w' ao' n' c' (more l m) := by
  have M1 := mp_none w
  obtain ⟨a2, n2, c2, w2, hrun, M2⟩ := M1.app ((hr.kept M1.kp).src Try.underlying24) (fun h => by cases h) (by omega)
  rw [List.nil_append] at M2
  have hln : l.length ≤ 400 := by have := hr.len; omega
  obtain rfl := hs.len
  clear M1 hr
  go_enter Try.func27, Try.ntmps27
  go_wp2_with (at_builtin; refine Lib.wpList_append_run _ rfl _ _ _ _ rfl _ _ rfl rfl _ _ (hrun _) ?_)
  clear hrun
  go_loopw [5, 6] (fun v i wr => ∃ (k : Nat) (ao' : Option Addr) (n' c' : Nat), k ≤ m.length ∧ i = .int .i64 k ∧ v = .slice ao' n' c' ∧ Mp w wr ao' n' c' (more l (m.take k))) (fun _ i _ => m.length - (intOf i).toNat)
  case atStart => exact ⟨0, _, _, _, Nat.zero_le _, rfl, rfl, M2⟩
  case round =>
    obtain ⟨k, ao', n', c', hk, rfl, rfl, M⟩ := hrel
    clear M2
    by_cases hlt : k < m.length
    · obtain ⟨b1, o1, rfl, h1, h2⟩ := (hs.kept M.kp).get k hlt
      have hts := take_snoc hlt
      have hn : n' ≤ 900 := by
        have e1 := M.len
        have e2 := more_len (m.take k) l
        simp at e2
        omega
      generalize m[k] = a at h1 h2 hts
      have HA := ref_add_any wr _ a ao' n' c' M.rp hn
      unfold av at HA
      clear hs
      go_wp2_with fail
      refine HA.mono ?_
      rintro e w3 ⟨a3, n3, c3, rfl, M3⟩
      clear HA
      have M4 := M3.back M.kp
      rw [← more_snoc, ← hts] at M4
      clear M M3 hts h1 h2
      go_wp2
      go_roundw
      case rel => exact ⟨k + 1, _, _, _, by omega, by go_num, rfl, M4⟩
      case measure => simp [intOf]; omega
    · obtain rfl : k = m.length := by omega
      rw [List.take_length] at M
      go_wp2
      go_ret
      exact ⟨_, _, _, rfl, M⟩

theorem rp_nil (w : World) : Rp w none 0 0 [] := ⟨rfl, Nat.le_refl _, fun j hj => by omega⟩

set_option maxHeartbeats 1000000 in
theorem ref_uniq_any (w : World) (m : List Att) (bo : Option Addr) (p d : Nat) (hs : Rp w bo p d m) (hm : p ≤ 400) :
    Calls Try.prog 17 #[.slice bo p d] w fun e w' => ∃ ao' n' c', e = .returned (.slice ao' n' c') ∧ Mp w w' ao' n' c' (uniq m) := by
  have H := ref_more_any w [] m none bo 0 0 p d (rp_nil w) hs (by omega) hm
  go_enter Try.func17, Try.ntmps17
  go_wp2_with fail
  refine H.mono ?_
  rintro e w3 ⟨a3, n3, c3, rfl, M3⟩
  clear H
  go_wp2
  go_ret
  exact ⟨_, _, _, rfl, M3⟩

end Go.Proofs.Ytfobbgmfbpoigaa
