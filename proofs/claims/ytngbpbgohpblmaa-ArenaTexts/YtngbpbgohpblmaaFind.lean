/-
  Where the first one of a name stands: the document's Has, the program's find and Get.
-/
import Derived.Test.YtngbpbgohpblmaaLists
import Derived.Deep.RegionHeld3
namespace Go.Proofs.Ytngbpbgohpblmaa
open Go.RowKit

/-- A place, or -1. -/
def plc : Option Nat → Int
  | some i => i
  | none => -1

set_option maxHeartbeats 1000000 in
theorem ref_has_any (w : World) (x : ByteArray) (l : List Att) (ao : Option Addr) (n c : Nat) (hr : Rp w ao n c l) (hl : n ≤ 100000) :
    Calls Try.prog 93 #[.slice ao n c, .string x] w fun e w' => e = .returned (.int .i64 (plc (idx l x))) ∧ Kp [] w w' := by
  obtain rfl := hr.len
  obtain ⟨A, hA⟩ : ∃ A, plc (idx l x) = A := ⟨_, rfl⟩
  rw [hA]
  go_enter Try.func93, Try.ntmps93
  go_wp2
  go_loopw [5] (fun i wr => ∃ k q : Nat, k ≤ l.length ∧ i = .int .i64 k ∧ wr = w.drewN q ∧ (∀ j (hj : j < k) (hl : j < l.length), eqs l[j].1 x = false)) (fun i _ => l.length - (intOf i).toNat)
  case atStart => exact ⟨0, 0, Nat.zero_le _, rfl, rfl, fun j hj => by omega⟩
  case round =>
    obtain ⟨k, q, hk, rfl, rfl, hp⟩ := hrel
    by_cases hlt : k < l.length
    · obtain ⟨b1, o1, rfl, h1, h2⟩ := hr.get k hlt
      have hh : ∀ b, eqs l[k].1 x = b → (l[k].1.toList == x.toList) = b := fun b h => h
      clear hr
      cases hx : eqs l[k].1 x
      · have hx' := hh _ hx
        go_wp2
        go_roundw
        case rel => exact ⟨k + 1, _, by omega, by go_num, rfl, fun j hj hl => by
          by_cases e : j < k
          · exact hp j e hl
          · obtain rfl : j = k := by omega
            exact hx⟩
        case measure => simp [intOf]; omega
      · have hx' := hh _ hx
        rw [idx_drop hlt (fun j hj => hp j hj (by omega)) hx] at hA
        subst hA
        go_wp2
        go_ret
        exact ⟨rfl, (Kp.refl _ _).drewN q⟩
    · rw [idx_end (fun j hj => hp j (by omega) hj)] at hA
      subst hA
      go_wp2
      go_ret
      exact ⟨rfl, (Kp.refl _ _).drewN q⟩

/-- What find answers. -/
def fnd : Option Nat → Value
  | some i => .tuple #[.int .i64 i, .bool true]
  | none => .tuple #[.int .i64 0, .bool false]


/-- What Get answers. -/
def gtn : Option Att → Value
  | some a => .tuple #[.string a.2, .bool true]
  | none => .tuple #[.string ⟨#[]⟩, .bool false]


set_option maxHeartbeats 1000000 in
set_option maxRecDepth 100000 in
theorem own_any (w : World) (a : Att) (hf : fits [a]) : Calls Try.prog 92 #[av a] w fun e w' => e = .returned (av a) ∧ Kp [] w w' := by
  have h1 := (hf a (by simp)).1
  have h2 := (hf a (by simp)).2
  obtain ⟨x, y⟩ := a
  simp only at h1 h2
  have HX := fun w => clone_any w x (by omega)
  have HY := fun w => clone_any w y (by omega)
  clear h1 h2 hf
  unfold av
  go_enter Try.func92, Try.ntmps92
  go_wp2_with fail
  have K0 : Kp [] w ((w.alloc (Obj.cells #[Value.string x, Value.string y] 98)).alloc (Obj.cells #[Value.string { data := #[] }, Value.string { data := #[] }] 98)) := ((Kp.refl _ _).alloc _).alloc _
  have C0 : ∀ v, Kp [w.heap.size + 1] ((w.alloc (Obj.cells #[Value.string x, Value.string y] 98)).alloc (Obj.cells #[Value.string { data := #[] }, Value.string { data := #[] }] 98)) v → v.heap[w.heap.size]? = some (.cells #[Value.string x, Value.string y] 98) := by
    intro v kv
    rw [kv.block _ (by simp; omega) (by simp), Below.heap_alloc _ _ _ (by simp)]
    exact heap_new w _
  have D0 : ∀ v, Kp [] ((w.alloc (Obj.cells #[Value.string x, Value.string y] 98)).alloc (Obj.cells #[Value.string { data := #[] }, Value.string { data := #[] }] 98)) v → v.heap[w.heap.size + 1]? = some (.cells #[Value.string { data := #[] }, Value.string { data := #[] }] 98) := by
    intro v kv
    rw [kv.block _ (by simp) (by simp)]
    exact heap_new' _ _ _ (by simp)
  generalize (w.alloc (Obj.cells #[Value.string x, Value.string y] 98)).alloc (Obj.cells #[Value.string { data := #[] }, Value.string { data := #[] }] 98) = W at K0 C0 D0
  have C1 : Hid (∀ v, Kp [w.heap.size + 1] W v → v.cell? ⟨w.heap.size, 0, none⟩ = some (.string x) ∧ v.cell? ⟨w.heap.size, 1, none⟩ = some (.string y)) := fun v kv => ⟨by rw [cell_of (C0 v kv)]; rfl, by rw [cell_of (C0 v kv)]; rfl⟩
  have C2 : Hid (∀ v, Kp [] W v → v.cell? ⟨w.heap.size + 1, 0, none⟩ = some (.string ⟨#[]⟩) ∧ v.cell? ⟨w.heap.size + 1, 1, none⟩ = some (.string ⟨#[]⟩) ∧ v.frozen? ⟨w.heap.size + 1, 0, none⟩ = false ∧ v.frozen? ⟨w.heap.size + 1, 1, none⟩ = false) := fun v kv => ⟨by rw [cell_of (D0 v kv)]; rfl, by rw [cell_of (D0 v kv)]; rfl, frozen_of (D0 v kv) _, frozen_of (D0 v kv) _⟩
  clear C0 D0
  have U : Hid (∀ v, Kp [] W v → Kp [w.heap.size + 1] W v) := fun v kv => kv.mono (fun x hx => by simp at hx)
  have V : Hid (∀ v p q, Kp [] W v → Kp [w.heap.size + 1] W ((v.setCell ⟨w.heap.size + 1, 0, none⟩ p).setCell ⟨w.heap.size + 1, 1, none⟩ q)) := fun v p q kv => ((U.out v kv).setCell (Or.inl (by simp)) _).setCell (Or.inl (by simp)) _
  obtain ⟨e0, e1⟩ := C1.out W (Kp.refl _ _)
  go_region_held3 (fun w' => Kp [w.heap.size + 1] W w' ∧ w'.cell? ⟨w.heap.size, 0, none⟩ = some (.string x) ∧ w'.cell? ⟨w.heap.size, 1, none⟩ = some (.string y))
    (first
      | exact ⟨V.out _ _ _ S2.out, C1.out _ (V.out _ _ _ S2.out)⟩
      | exact ⟨U.out _ S2.out, C1.out _ (U.out _ S2.out)⟩
      | exact ⟨U.out _ S1.out, C1.out _ (U.out _ S1.out)⟩
      | exact ⟨(Kp.refl _ W).drew, C1.out _ (Kp.refl _ W).drew⟩)
    (first
      | (go_at_call 75; refine (HY _).mono ?_; rintro e v2 ⟨rfl, kk⟩; have S2 : Hid (Kp [] W v2) := S1.out.trans kk (fun x hx => by simp at hx); clear kk; obtain ⟨g0, g1, g2, g3⟩ := C2.out _ S2.out)
      | (go_at_call 75; refine (HX _).mono ?_; rintro e v1 ⟨rfl, kk⟩; have S1 : Hid (Kp [] W v1) := (Kp.refl [] W).drew.trans kk (fun x hx => by simp at hx); clear kk))
  have KZ : Kp [] w ((v2.setCell ⟨w.heap.size + 1, 0, none⟩ (.string x)).setCell ⟨w.heap.size + 1, 1, none⟩ (.string y)) := K0.trans (V.out _ _ _ S2.out) (fun z hz => by simp at hz; omega)
  have Z0 : ((v2.setCell ⟨w.heap.size + 1, 0, none⟩ (.string x)).setCell ⟨w.heap.size + 1, 1, none⟩ (.string y)).cell? ⟨w.heap.size + 1, 0, none⟩ = some (.string x) := by
    rw [World.cell?_setCell_other _ _ _ _ (fun e => by simp at e), World.cell?_setCell_same _ _ _ (by rw [g0])]
  have Z1 : ((v2.setCell ⟨w.heap.size + 1, 0, none⟩ (.string x)).setCell ⟨w.heap.size + 1, 1, none⟩ (.string y)).cell? ⟨w.heap.size + 1, 1, none⟩ = some (.string y) := by
    rw [World.cell?_setCell_same _ _ _ (by rw [World.cell?_setCell_other _ _ _ _ (fun e => by simp at e), g1])]
  generalize (v2.setCell ⟨w.heap.size + 1, 0, none⟩ (.string x)).setCell ⟨w.heap.size + 1, 1, none⟩ (.string y) = Z at KZ Z0 Z1
  clear C1 C2 U V e0 e1 S1 S2 g0 g1 g2 g3 HX HY
  go_wp2
  refine bodyPost_ret (v := .agg #[.string x, .string y]) (by simp [results, go_sem, Z0, Z1]) rfl ⟨rfl, KZ⟩

end Go.Proofs.Ytngbpbgohpblmaa
