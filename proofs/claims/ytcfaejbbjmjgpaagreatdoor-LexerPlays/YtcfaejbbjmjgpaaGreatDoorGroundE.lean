/-
  Joined: Find Copy More Same Tok Tag Eq Just.
-/
import Derived.Test.YtcfaejbbjmjgpaaGreatDoorGroundD
import Derived.Deep.RegionHeld3
import Derived.Laws.MakeOwn
import Derived.Maps.OwnSet
import Derived.Maps.OwnOps
import Derived.Test.YtcfaejbbjmjgpaaGreatDoorGroundA
import Derived.Test.YtcfaejbbjmjgpaaGreatDoorGroundC

/-
  Where the first one of a name stands: the document's Has, the program's find and Get.
-/
namespace Go.Proofs.YtcfaejbbjmjgpaaGreatDoor
open Go.RowKit

/-- A place, or -1. -/
def plc : Option Nat → Int
  | some i => i
  | none => -1

set_option maxHeartbeats 1000000 in
theorem ref_has_any (w : World) (x : ByteArray) (l : List Att) (ao : Option Addr) (n c : Nat) (hr : Rp w ao n c l) (hl : n ≤ 100000) :
    Calls Tryz.prog 93 #[.slice ao n c, .string x] w fun e w' => e = .returned (.int .i64 (plc (idx l x))) ∧ Kp [] w w' := by
  obtain rfl := hr.len
  obtain ⟨A, hA⟩ : ∃ A, plc (idx l x) = A := ⟨_, rfl⟩
  rw [hA]
  go_enter Tryz.func93, Tryz.ntmps93
  go_wp2
  go_loopw [5] (fun i wr => ∃ k q : Nat, k ≤ l.length ∧ i = .int .i64 k ∧ wr = w.drewN q ∧ (∀ j (hj : j < k) (hl : j < l.length), eqs l[j].1 x = false)) (fun i _ => l.length - (intOf i).toNat)
  case atStart => exact ⟨0, 0, Nat.zero_le _, rfl, rfl, fun j hj => by omega⟩
  case round =>
    obtain ⟨k, q, hk, rfl, rfl, hp⟩ := hrel
    by_cases hlt : k < l.length
    · obtain ⟨b1, o1, rfl, h1, h2⟩ := hr.get k hlt
      have hh : ∀ b, eqs l[k].1 x = b → (l[k].1.toList == x.toList) = b := fun b h => h
      clear hr
      cases hx : eqs l[k].1 x
      · have hx' := hh _ hx
        go_wp2
        go_roundw
        case rel => exact ⟨k + 1, _, by omega, by go_num, rfl, fun j hj hl => by
          by_cases e : j < k
          · exact hp j e hl
          · obtain rfl : j = k := by omega
            exact hx⟩
        case measure => simp [intOf]; omega
      · have hx' := hh _ hx
        rw [idx_drop hlt (fun j hj => hp j hj (by omega)) hx] at hA
        subst hA
        go_wp2
        go_ret
        exact ⟨rfl, (Kp.refl _ _).drewN q⟩
    · rw [idx_end (fun j hj => hp j (by omega) hj)] at hA
      subst hA
      go_wp2
      go_ret
      exact ⟨rfl, (Kp.refl _ _).drewN q⟩

/-- What find answers. -/
def fnd : Option Nat → Value
  | some i => .tuple #[.int .i64 i, .bool true]
  | none => .tuple #[.int .i64 0, .bool false]


/-- What Get answers. -/
def gtn : Option Att → Value
  | some a => .tuple #[.string a.2, .bool true]
  | none => .tuple #[.string ⟨#[]⟩, .bool false]


set_option maxHeartbeats 1000000 in
set_option maxRecDepth 100000 in
theorem own_any (w : World) (a : Att) (hf : fits [a]) : Calls Tryz.prog 108 #[av a] w fun e w' => e = .returned (av a) ∧ Kp [] w w' := by
  have h1 := (hf a (by simp)).1
  have h2 := (hf a (by simp)).2
  obtain ⟨x, y⟩ := a
  simp only at h1 h2
  have HX := fun w => clone_any w x (by omega)
  have HY := fun w => clone_any w y (by omega)
  clear h1 h2 hf
  unfold av
  go_enter Tryz.func108, Tryz.ntmps108
  go_wp2_with fail
  have K0 : Kp [] w ((w.alloc (Obj.cells #[Value.string x, Value.string y] 73)).alloc (Obj.cells #[Value.string { data := #[] }, Value.string { data := #[] }] 73)) := ((Kp.refl _ _).alloc _).alloc _
  have C0 : ∀ v, Kp [w.heap.size + 1] ((w.alloc (Obj.cells #[Value.string x, Value.string y] 73)).alloc (Obj.cells #[Value.string { data := #[] }, Value.string { data := #[] }] 73)) v → v.heap[w.heap.size]? = some (.cells #[Value.string x, Value.string y] 73) := by
    intro v kv
    rw [kv.block _ (by simp; omega) (by simp), Below.heap_alloc _ _ _ (by simp)]
    exact heap_new w _
  have D0 : ∀ v, Kp [] ((w.alloc (Obj.cells #[Value.string x, Value.string y] 73)).alloc (Obj.cells #[Value.string { data := #[] }, Value.string { data := #[] }] 73)) v → v.heap[w.heap.size + 1]? = some (.cells #[Value.string { data := #[] }, Value.string { data := #[] }] 73) := by
    intro v kv
    rw [kv.block _ (by simp) (by simp)]
    exact heap_new' _ _ _ (by simp)
  generalize (w.alloc (Obj.cells #[Value.string x, Value.string y] 73)).alloc (Obj.cells #[Value.string { data := #[] }, Value.string { data := #[] }] 73) = W at K0 C0 D0
  have C1 : Hid (∀ v, Kp [w.heap.size + 1] W v → v.cell? ⟨w.heap.size, 0, none⟩ = some (.string x) ∧ v.cell? ⟨w.heap.size, 1, none⟩ = some (.string y)) := fun v kv => ⟨by rw [cell_of (C0 v kv)]; rfl, by rw [cell_of (C0 v kv)]; rfl⟩
  have C2 : Hid (∀ v, Kp [] W v → v.cell? ⟨w.heap.size + 1, 0, none⟩ = some (.string ⟨#[]⟩) ∧ v.cell? ⟨w.heap.size + 1, 1, none⟩ = some (.string ⟨#[]⟩) ∧ v.frozen? ⟨w.heap.size + 1, 0, none⟩ = false ∧ v.frozen? ⟨w.heap.size + 1, 1, none⟩ = false) := fun v kv => ⟨by rw [cell_of (D0 v kv)]; rfl, by rw [cell_of (D0 v kv)]; rfl, frozen_of (D0 v kv) _, frozen_of (D0 v kv) _⟩
  clear C0 D0
  have U : Hid (∀ v, Kp [] W v → Kp [w.heap.size + 1] W v) := fun v kv => kv.mono (fun x hx => by simp at hx)
  have V : Hid (∀ v p q, Kp [] W v → Kp [w.heap.size + 1] W ((v.setCell ⟨w.heap.size + 1, 0, none⟩ p).setCell ⟨w.heap.size + 1, 1, none⟩ q)) := fun v p q kv => ((U.out v kv).setCell (Or.inl (by simp)) _).setCell (Or.inl (by simp)) _
  obtain ⟨e0, e1⟩ := C1.out W (Kp.refl _ _)
  go_region_held3 (fun w' => Kp [w.heap.size + 1] W w' ∧ w'.cell? ⟨w.heap.size, 0, none⟩ = some (.string x) ∧ w'.cell? ⟨w.heap.size, 1, none⟩ = some (.string y))
    (first
      | exact ⟨V.out _ _ _ S2.out, C1.out _ (V.out _ _ _ S2.out)⟩
      | exact ⟨U.out _ S2.out, C1.out _ (U.out _ S2.out)⟩
      | exact ⟨U.out _ S1.out, C1.out _ (U.out _ S1.out)⟩
      | exact ⟨(Kp.refl _ W).drew, C1.out _ (Kp.refl _ W).drew⟩)
    (first
      | (go_at_call 63; refine (HY _).mono ?_; rintro e v2 ⟨rfl, kk⟩; have S2 : Hid (Kp [] W v2) := S1.out.trans kk (fun x hx => by simp at hx); clear kk; obtain ⟨g0, g1, g2, g3⟩ := C2.out _ S2.out)
      | (go_at_call 63; refine (HX _).mono ?_; rintro e v1 ⟨rfl, kk⟩; have S1 : Hid (Kp [] W v1) := (Kp.refl [] W).drew.trans kk (fun x hx => by simp at hx); clear kk))
  have KZ : Kp [] w ((v2.setCell ⟨w.heap.size + 1, 0, none⟩ (.string x)).setCell ⟨w.heap.size + 1, 1, none⟩ (.string y)) := K0.trans (V.out _ _ _ S2.out) (fun z hz => by simp at hz; omega)
  have Z0 : ((v2.setCell ⟨w.heap.size + 1, 0, none⟩ (.string x)).setCell ⟨w.heap.size + 1, 1, none⟩ (.string y)).cell? ⟨w.heap.size + 1, 0, none⟩ = some (.string x) := by
    rw [World.cell?_setCell_other _ _ _ _ (fun e => by simp at e), World.cell?_setCell_same _ _ _ (by rw [g0])]
  have Z1 : ((v2.setCell ⟨w.heap.size + 1, 0, none⟩ (.string x)).setCell ⟨w.heap.size + 1, 1, none⟩ (.string y)).cell? ⟨w.heap.size + 1, 1, none⟩ = some (.string y) := by
    rw [World.cell?_setCell_same _ _ _ (by rw [World.cell?_setCell_other _ _ _ _ (fun e => by simp at e), g1])]
  generalize (v2.setCell ⟨w.heap.size + 1, 0, none⟩ (.string x)).setCell ⟨w.heap.size + 1, 1, none⟩ (.string y) = Z at KZ Z0 Z1
  clear C1 C2 U V e0 e1 S1 S2 g0 g1 g2 g3 HX HY
  go_wp2
  refine bodyPost_ret (v := .agg #[.string x, .string y]) (by simp [results, go_sem, Z0, Z1]) rfl ⟨rfl, KZ⟩

end Go.Proofs.YtcfaejbbjmjgpaaGreatDoor

/-
  The program's copyOf, Add; the document's Add, More, Unique.
-/
namespace Go.Proofs.YtcfaejbbjmjgpaaGreatDoor
open Go.RowKit

theorem take_snoc {l : List Att} {k : Nat} (h : k < l.length) : l.take (k + 1) = l.take k ++ [l[k]] := by
  rw [List.take_succ_eq_append_getElem h]

theorem fits_one {l : List Att} (h : fits l) {k : Nat} (hk : k < l.length) : fits [l[k]] := fun a ha => by
  simp only [List.mem_singleton] at ha
  rw [ha]
  exact h _ (List.getElem_mem hk)

/-- make, of none, with room. -/
theorem make_room (w : World) (n m : Nat) (h1 : n ≤ 100000) (h2 : m ≤ 100000) :
    ∃ w1, (Instr.makeSlice 42 (.int .i64 0) (.int .i64 ((n : Int) + (m : Int)))).run Tryz.prog w = .ok (.slice (some ⟨w.heap.size, 0, none⟩) 0 (n + m)) w1 ∧ Mp w w1 (some ⟨w.heap.size, 0, none⟩) 0 (n + m) [] := by
  obtain ⟨i, hi0, hi1, hi2, hi3⟩ := info_parts info23
  have hr := run_make (P := Tryz.prog) w 42 73 i _ Tryz.underlying42 hi0 hi1 .i64 .i64 0 ((n : Int) + (m : Int)) (Int.le_refl _) (by omega) (by rw [hi3]; omega) (by omega)
  rw [show ((n : Int) + (m : Int)).toNat = n + m by omega] at hr
  refine ⟨_, hr, ownK_new 2 w 73 _ [] 0 (n + m) rfl (by omega) (by unfold maxLen; omega) (by rw [size_madeCells, hi2]; exact Nat.le_refl _) (fun j hj => by omega), (Kp.refl _ _).alloc _, fun k hk => by simp [blk] at hk; omega⟩

set_option maxHeartbeats 1000000 in
theorem copy_any (w : World) (l : List Att) (ao : Option Addr) (n c m : Nat) (hr : Rp w ao n c l) (hl : n ≤ 100000) (hm : m ≤ 100000) (hf : fits l) :
    Calls Tryz.prog 107 #[.slice ao n c, .int .i64 (m : Int)] w fun e w' => ∃ ao' n' c', e = .returned (.slice ao' n' c') ∧ Mp w w' ao' n' c' l := by
  obtain rfl := hr.len
  obtain ⟨w1, hmk, M1⟩ := make_room w l.length m hl hm
  go_enter Tryz.func107, Tryz.ntmps107
  go_wp2
  clear hmk
  generalize some (⟨w.heap.size, 0, none⟩ : Addr) = ao0 at M1
  generalize l.length + m = c0 at M1
  go_loopw [5, 15] (fun v i wr => ∃ (k : Nat) (ao' : Option Addr) (n' c' : Nat), k ≤ l.length ∧ i = .int .i64 k ∧ v = .slice ao' n' c' ∧ Mp w wr ao' n' c' (l.take k)) (fun _ i _ => l.length - (intOf i).toNat)
  case atStart => exact ⟨0, _, _, _, Nat.zero_le _, rfl, rfl, M1⟩
  case round =>
    obtain ⟨k, ao', n', c', hk, rfl, rfl, M⟩ := hrel
    clear M1
    by_cases hlt : k < l.length
    · obtain ⟨b1, o1, rfl, h1, h2⟩ := (hr.kept M.kp).get k hlt
      have hs := take_snoc hlt
      have hf1 := fits_one hf hlt
      have hn : n' ≤ 100000 := by have := M.len; simp at this; omega
      generalize l[k] = a at h1 h2 hs hf1
      clear hr hf
      have HO := own_any (wr.alloc (.cells #[.string a.1, .string a.2] 73)) a hf1
      clear hf1
      unfold av at HO
      go_wp2_with fail
      refine HO.mono ?_
      rintro e w3 ⟨rfl, k3⟩
      clear HO
      have M3 := (M.kept ((Kp.refl _ _).alloc (.cells #[.string a.1, .string a.2] 73))).kept k3
      obtain ⟨a4, n4, c4, w4, hrun, M4⟩ := M3.one a (by omega)
      rw [← hs] at M4
      clear M M3 k3 hs h1 h2
      go_wp2_with (at_builtin; refine Lib.wpList_append_run _ rfl _ _ _ _ rfl _ _ rfl rfl _ _ (hrun _) ?_)
      go_roundw
      case rel => exact ⟨k + 1, _, _, _, by omega, by go_num, rfl, M4⟩
      case measure => simp [intOf]; omega
    · obtain rfl : k = l.length := by omega
      rw [List.take_length] at M
      go_wp2
      go_ret
      exact ⟨_, _, _, rfl, M⟩

/-- A literal of none. -/
theorem mp_none (w : World) : Mp w (w.alloc (.cells #[] 73)) (some ⟨w.heap.size, 0, none⟩) 0 0 [] := rp_lit w #[] [] 0 rfl rfl (by omega)

theorem has_idx (l : List Att) (x : ByteArray) : (∃ i, idx l x = some i ∧ hasN l x = true) ∨ (idx l x = none ∧ hasN l x = false) := by
  have := idx_some (l := l) (x := x)
  cases h : idx l x with
  | none => exact Or.inr ⟨rfl, by rw [h] at this; exact this.symm⟩
  | some i => exact Or.inl ⟨i, rfl, by rw [h] at this; exact this.symm⟩


set_option maxHeartbeats 1000000 in
theorem ref_add_any (w : World) (l : List Att) (a : Att) (ao : Option Addr) (n c : Nat) (hr : Rp w ao n c l) (hl : n ≤ 90000) :
    Calls Tryz.prog 68 #[.slice ao n c, av a] w fun e w' => ∃ ao' n' c', e = .returned (.slice ao' n' c') ∧ Mp w w' ao' n' c' (add l a) := by
  have kb : Kp [] w (w.alloc (.cells #[.string a.1, .string a.2] 73)) := (Kp.refl _ _).alloc _
  have cb : (w.alloc (.cells #[.string a.1, .string a.2] 73)).heap[w.heap.size]? = some (.cells #[.string a.1, .string a.2] 73) := heap_new _ _
  have lb : w.heap.size < (w.alloc (.cells #[.string a.1, .string a.2] 73)).heap.size := by simp
  have e0 : (w.alloc (.cells #[.string a.1, .string a.2] 73)).heap.size = w.heap.size + 1 := by simp
  have M1 := mp_none (w.alloc (.cells #[.string a.1, .string a.2] 73))
  have hr1 := (hr.kept kb).kept M1.kp
  obtain ⟨a2, n2, c2, w2, hrun, M2⟩ := M1.app (hr1.src Tryz.underlying42) (fun h => by cases h) (by omega)
  rw [e0] at hrun
  have hr2 := (hr.kept kb).kept M2.kp
  have M2b := M2.back kb
  have cb2 : w2.heap[w.heap.size]? = some (.cells #[.string a.1, .string a.2] 73) := by rw [M2.kp.block _ lb (by simp)]; exact cb
  have g1 : w2.cell? ⟨w.heap.size, 0, none⟩ = some (.string a.1) := by rw [cell_of cb2]; rfl
  rw [List.nil_append] at M2b
  have HH := ref_has_any w2 a.1 l ao n c hr2 (by omega)
  have hn : n2 ≤ 100000 := by have := M2b.len; have := hr.len; omega
  clear M1 hr1 M2 kb cb lb e0 hr2
  unfold av
  go_enter Tryz.func68, Tryz.ntmps68
  go_wp2_with (first
    | (at_builtin; refine Lib.wpList_append_run _ rfl _ _ _ _ rfl _ _ rfl rfl _ _ (hrun _) ?_)
    | (go_at_call 93; refine Hid.out ?_))
  unfold Hid
  refine HH.mono ?_
  rintro e w3 ⟨rfl, k3⟩
  clear HH hrun
  have M3 := M2b.kept k3
  have cb3 : w3.heap[w.heap.size]? = some (.cells #[.string a.1, .string a.2] 73) := by rw [k3.block _ (lt_of cb2) (by simp)]; exact cb2
  have g2 : w3.cell? ⟨w.heap.size, 0, none⟩ = some (.string a.1) := by rw [cell_of cb3]; rfl
  have g3 : w3.cell? ⟨w.heap.size, 1, none⟩ = some (.string a.2) := by rw [cell_of cb3]; rfl
  clear g1 cb2 M2b k3 cb3
  rcases has_idx l a.1 with ⟨i, hi, hh⟩ | ⟨hi, hh⟩
  · rw [hi]
    have e1 : add l a = l := by unfold add; rw [hh]; rfl
    simp only [plc]
    go_wp2
    go_ret
    exact ⟨_, _, _, rfl, by rw [e1]; exact M3⟩
  · rw [hi]
    have e1 : add l a = l ++ [a] := by unfold add; rw [hh]; rfl
    simp only [plc]
    obtain ⟨a5, n5, c5, w5, hrun, M5⟩ := M3.one a (by omega)
    go_wp2_with (at_builtin; refine Lib.wpList_append_run _ rfl _ _ _ _ rfl _ _ rfl rfl _ _ (hrun _) ?_)
    go_ret
    exact ⟨_, _, _, rfl, by rw [e1]; exact M5⟩

end Go.Proofs.YtcfaejbbjmjgpaaGreatDoor

/-
  More and Unique, of the document and of the program; the program's table of first places.
-/
namespace Go.Proofs.YtcfaejbbjmjgpaaGreatDoor
open Go.RowKit Go.Maps


theorem rp_nil (w : World) : Rp w none 0 0 [] := ⟨rfl, Nat.le_refl _, fun j hj => by omega⟩


/-- How a key reads. -/
def kl (x : ByteArray) : Lit := .string x.data.toList

theorem law9 : Keyed Tryz.prog 9 := string_keyed Tryz.underlying9
theorem zero3 (w : World) : (zeroValue 3).run Tryz.prog w = .ok (.int .i64 0) w := by kernel_rfl

/-- Block b is a table of the first places of l's names. -/
def Tab (w : World) (b : Nat) (l : List Att) (k : Nat) : Prop :=
  ∃ D : DataW Unit, w.ownsMap Tryz.prog 9 (plainElem Tryz.prog 3) b k D ∧ Maps.size D = (uniq l).length ∧
    ∀ x, Maps.has D (kl x) = (idx l x).isSome ∧ ∀ i, idx l x = some i → D.atKey (kl x) (.lit (.int .i64 0)) = .lit (.int .i64 i)

theorem kp_grown {w w' : World} {b : Nat} (h : w.grownBy w' (some b)) : Kp [b] w w' :=
  ⟨h.os, h.tape, h.output, h.size, fun k hk hn => h.block k hk (fun e => by simp at e; exact hn (by simp [e]))⟩

theorem key_of {x : ByteArray} (h : x.size ≤ 140737488355328) : keyOf Tryz.prog 9 (.string x) = some (kl x) := WideMaps.keyOf_string_mk Tryz.underlying9 (by unfold maxLen; omega)

theorem kl_key (x : ByteArray) : WideAt.IsKeyLit (kl x) := trivial

theorem kl_inj {x y : ByteArray} (h : kl x = kl y) : x = y := by
  unfold kl at h
  simp only [Lit.string.injEq] at h
  exact ByteArray.ext (Array.ext' h)

theorem Tab.lt {w : World} {b : Nat} {l : List Att} {k : Nat} (h : Tab w b l k) : b < w.heap.size := by
  obtain ⟨D, h, _⟩ := h
  exact h.lt

theorem Tab.keep {w w' : World} {S : List Nat} {b : Nat} {l : List Att} {k : Nat} (h : Tab w b l k) (hk : Kp S w w') (hn : b ∉ S) : Tab w' b l k := by
  have hl := h.lt
  obtain ⟨D, ⟨es, clock, hb, r⟩, r2⟩ := h
  exact ⟨D, ⟨es, clock, by rw [hk.block b hl hn]; exact hb, r⟩, r2⟩

theorem Tab.same {w w' : World} {b : Nat} {l : List Att} {k : Nat} (h : Tab w b l k) (hb : w'.heap[b]? = w.heap[b]?) : Tab w' b l k := by
  obtain ⟨D, ⟨es, clock, h1, r⟩, r2⟩ := h
  exact ⟨D, ⟨es, clock, by rw [hb]; exact h1, r⟩, r2⟩

theorem Tab.mono {w : World} {b : Nat} {l : List Att} {k k' : Nat} (h : Tab w b l k) (hk : k ≤ k') : Tab w b l k' := by
  obtain ⟨D, h1, r⟩ := h
  exact ⟨D, h1.mono hk, r⟩

theorem tab_new (w : World) : Tab (w.alloc (.map #[] 0)) w.heap.size [] 0 :=
  ⟨.map [], World.ownsMap_made w Tryz.prog 9 _, rfl, fun x => ⟨rfl, fun i h => by cases h⟩⟩

theorem hasN_uniq (l : List Att) (x : ByteArray) : hasN (uniq l) x = hasN l x := by unfold hasN; rw [getF_uniq]

theorem uniq_snoc (l : List Att) (a : Att) : uniq (l ++ [a]) = add (uniq l) a := more_snoc [] l a

/-- A name that is there already. -/
theorem Tab.old {w : World} {b : Nat} {l : List Att} {k : Nat} (h : Tab w b l k) (a : Att) (hi : (idx l a.1).isSome = true) : Tab w b (l ++ [a]) (k + 1) := by
  obtain ⟨D, h1, h2, h3⟩ := h
  refine ⟨D, h1.mono (by omega), ?_, fun x => ?_⟩
  · rw [uniq_snoc]
    unfold add
    rw [hasN_uniq, ← idx_some, hi, if_pos rfl]
    exact h2
  · have : idx (l ++ [a]) x = idx l x := by
      rw [idx_snoc]
      cases hx : idx l x with
      | some i => rfl
      | none =>
        have : eqs a.1 x = false := by
          cases he : eqs a.1 x
          · rfl
          · rw [eqs_iff.1 he, hx] at hi; cases hi
        rw [this]
        rfl
    rw [this]
    exact h3 x

/-- One that is new. -/
theorem tab_put {w w' : World} {b : Nat} {l : List Att} {k : Nat} {D : DataW Unit} (h2 : Maps.size D = (uniq l).length) (h3 : ∀ x, Maps.has D (kl x) = (idx l x).isSome ∧ ∀ i, idx l x = some i → D.atKey (kl x) (.lit (.int .i64 0)) = .lit (.int .i64 i)) (h0 : w.ownsMap Tryz.prog 9 (plainElem Tryz.prog 3) b k D)
    (a : Att) (hi : idx l a.1 = none) (h1 : w'.ownsMap Tryz.prog 9 (plainElem Tryz.prog 3) b (k + 1) (D.put (kl a.1) (.lit (.int .i64 (l.length : Int))))) : Tab w' b (l ++ [a]) (k + 1) := by
  have hh : Maps.has D (kl a.1) = false := by rw [(h3 a.1).1, hi]; rfl
  have htd := h0.tidy law9
  refine ⟨_, h1, ?_, fun x => ?_⟩
  · rw [Maps.size_put htd, hh, uniq_snoc]
    unfold add
    rw [hasN_uniq, ← idx_some, hi]
    simp [h2]
  · rw [idx_snoc]
    cases he : eqs a.1 x
    · have hne : kl x ≠ kl a.1 := fun e => by rw [kl_inj e, eqs_refl] at he; cases he
      rw [Maps.has_put_other hne]
      have : (idx l x).or (if false = true then some l.length else none) = idx l x := by simp
      rw [this]
      exact ⟨(h3 x).1, fun i hx => by rw [Maps.atKey_put_other hne]; exact (h3 x).2 i hx⟩
    · obtain rfl := eqs_iff.1 he
      rw [hi]
      exact ⟨by rw [Maps.has_put_same htd.isMap (kl_key a.1)]; rfl, fun i hx => by
        simp at hx
        subst hx
        rw [Maps.atKey_put_same htd.isMap (kl_key a.1)]⟩

theorem make_map (w : World) (n : Nat) : (Instr.makeMap 113 (some (.int .i64 (n : Int)))).run Tryz.prog w = .ok (.map (some w.heap.size)) (w.alloc (.map #[] 0)) := by
  simp [Instr.makeMap, run_underlying Tryz.underlying113, asInt, asIntOf, newObj]
  rfl

set_option maxHeartbeats 1000000 in
theorem firsts_any (w : World) (l : List Att) (ao : Option Addr) (n c : Nat) (hr : Rp w ao n c l) (hl : n ≤ 100000) (hf : fits l) :
    Calls Tryz.prog 106 #[.slice ao n c] w fun e w' => e = .returned (.map (some w.heap.size)) ∧ Kp [] w w' ∧ Tab w' w.heap.size l l.length := by
  obtain rfl := hr.len
  have hmk := make_map w l.length
  have k0 : Kp [] w (w.alloc (.map #[] 0)) := (Kp.refl _ _).alloc _
  have T0 := tab_new w
  go_enter Tryz.func106, Tryz.ntmps106
  go_wp2
  clear hmk
  go_loopw [13] (fun i wr => ∃ k : Nat, k ≤ l.length ∧ i = .int .i64 k ∧ Kp [] w wr ∧ Tab wr w.heap.size (l.take k) k) (fun i _ => l.length - (intOf i).toNat)
  case atStart => exact ⟨0, Nat.zero_le _, rfl, k0, T0⟩
  case round =>
    obtain ⟨k, hk, rfl, hkp, T⟩ := hrel
    clear T0 k0
    by_cases hlt : k < l.length
    · obtain ⟨b1, o1, rfl, h1, h2⟩ := (hr.kept hkp).get k hlt
      have hts := take_snoc hlt
      have hfa := (hf l[k] (List.getElem_mem hlt)).1
      generalize l[k] = a at h1 h2 hts hfa
      have hkey := key_of hfa
      clear hr hf hfa
      have T' := T
      obtain ⟨D, hown, hsz, hx⟩ := T
      have hh := (hx a.1).1
      have hsize := hown.lt
      rcases has_idx (l.take k) a.1 with ⟨i, hi, _⟩ | ⟨hi, _⟩
      · have T2 := (T'.keep ((Kp.refl [] wr).alloc (.cells #[.string a.1, .string a.2] 73)) (by simp)).old a (by rw [hi]; rfl)
        rw [← hts] at T2
        rw [hi] at hh
        simp only [Option.isSome_some] at hh
        clear T' hi hx hsz hts
        go_wp2_with (at_lookup; refine wpList_lookup_own_ok_int _ rfl _ _ 113 rfl 9 3 .i64 law9 Tryz.underlying113 Tryz.underlying3 (zero3 _) w.heap.size k D rfl (hown.alloc _) _ _ rfl hkey ?_; intro c1 hat hwc)
        go_roundw
        case rel => exact ⟨k + 1, by omega, by go_num, hkp.alloc _, T2⟩
        case measure => simp [intOf]; omega
      · have hP := fun w' h1 => tab_put (w' := w') hsz hx hown a hi h1
        rw [List.length_take, Nat.min_eq_left hk, ← hts] at hP
        rw [hi] at hh
        simp only [Option.isSome_none] at hh
        clear T' hi hx hsz hts
        go_wp2_with (first
          | (at_lookup; refine wpList_lookup_own_ok_int _ rfl _ _ 113 rfl 9 3 .i64 law9 Tryz.underlying113 Tryz.underlying3 (zero3 _) w.heap.size k D rfl (hown.alloc _) _ _ rfl hkey ?_; intro c1 hat hwc)
          | (at_mapUpdate; refine wpList_mapUpdate_own _ rfl _ _ _ 113 rfl 9 3 law9 Tryz.underlying113 _ w.heap.size k D rfl (hown.alloc _) (by unfold maxLen; omega) _ _ _ rfl rfl hkey _ [] (plainElem_int Tryz.underlying3 (WalkArith.wf_i64 (by omega))) ?_; intro w1 hown1 hgrow1))
        go_roundw
        case rel => exact ⟨k + 1, by omega, by go_num, (hkp.alloc _).trans (kp_grown hgrow1) (fun z hz => by simp at hz; omega), hP _ hown1⟩
        case measure => simp [intOf]; omega
    · obtain rfl : k = l.length := by omega
      rw [List.take_length] at T
      go_wp2
      go_ret
      exact ⟨rfl, hkp, T⟩

/-- A slice of attributes made since w, while the blocks of S may have been written. -/
def Ms (S : List Nat) (w w' : World) (ao : Option Addr) (n c : Nat) (l : List Att) : Prop := OwnK 2 w' 73 (.slice ao n c) n (cs l) ∧ Kp S w w' ∧ ∀ k, k ∈ blk (.slice ao n c) → w.heap.size ≤ k

theorem Ms.len {S : List Nat} {w w' : World} {ao : Option Addr} {n c : Nat} {l : List Att} (h : Ms S w w' ao n c l) : n = l.length := by
  have := h.1.1
  rw [cs_len] at this
  omega

theorem Ms.kept {S : List Nat} {w w1 w2 : World} {ao : Option Addr} {n c : Nat} {l : List Att} (h : Ms S w w1 ao n c l) (k : Kp S w1 w2) (hS : ∀ x, x ∈ S → x < w.heap.size) : Ms S w w2 ao n c l :=
  ⟨h.1.keep k (fun x hx hs => by have := h.2.2 x hx; have := hS x hs; omega), h.2.1.trans k (fun x hx => Or.inl hx), h.2.2⟩

theorem Ms.one {S : List Nat} {w w1 : World} {ao : Option Addr} {n c : Nat} {l : List Att} (h : Ms S w w1 ao n c l) (a : Att) (hlen : n + 1 ≤ 1000000) (hS : ∀ x, x ∈ S → x < w.heap.size) :
    ∃ ao' n' c' w2, (∀ ty, (Builtin.append_ #[42, 42] ty #[.slice ao n c, .slice (some ⟨w1.heap.size, 0, none⟩) 1 1]).run Tryz.prog (w1.alloc (.cells #[.string a.1, .string a.2] 73)) = .ok (.slice ao' n' c') w2) ∧ Ms S w w2 ao' n' c' (l ++ [a]) ∧ ∀ b, b < w.heap.size → b ∈ S → w2.heap[b]? = w1.heap[b]? := by
  have k1 : Kp S w1 (w1.alloc (.cells #[.string a.1, .string a.2] 73)) := (Kp.refl _ _).alloc _
  have hr := (rp_lit w1 #[.string a.1, .string a.2] [a] 1 rfl rfl (by omega)).rp
  obtain ⟨h1, h2, h3⟩ := h.kept k1 hS
  obtain ⟨v', w2, hrun, o2, k2, b2, a2, c2, rfl⟩ := appK Tryz.underlying42 info23 rfl (by decide) _ _ _ _ h1 _ 1 (cs [a]) (hr.src Tryz.underlying42) (fun _ => by omega) hlen
  refine ⟨_, _, _, w2, hrun, ⟨by rw [cs_append]; exact o2, h2.trans k2 (fun x hx => Or.inr (h3 x hx)), fun k hk => ?_⟩, fun b hb _ => ?_⟩
  · rcases b2 k hk with h4 | h4
    · exact h3 k h4
    · have := h2.size
      omega
  · rw [k2.block b (Nat.lt_of_lt_of_le hb h2.size) (fun hx => by have := h3 b hx; omega), Below.heap_alloc _ _ _ (Nat.lt_of_lt_of_le hb h.2.1.size)]

set_option maxHeartbeats 1000000 in
theorem more_any (w : World) (l m : List Att) (ao bo : Option Addr) (n c p d : Nat) (hr : Rp w ao n c l) (hs : Rp w bo p d m) (hl : n ≤ 40000) (hm : p ≤ 40000) (hfl : fits l) (hfm : fits m) :
    Calls Tryz.prog 98 #[.slice ao n c, .slice bo p d] w fun e w' => ∃ ao' n' c', e = .returned (.slice ao' n' c') ∧ Mp w w' ao' n' c' (more l m) := by
  have hln : l.length ≤ 40000 := by have := hr.len; omega
  have HF := firsts_any w l ao n c hr (by omega) hfl
  obtain rfl := hs.len
  go_enter Tryz.func98, Tryz.ntmps98
  go_wp2_with fail
  refine HF.mono ?_
  rintro e w1 ⟨rfl, k1, T1⟩
  clear HF
  have HC := copy_any w1 l ao n c m.length (hr.kept k1) (by omega) (by omega) hfl
  clear hr hfl
  go_wp2_with fail
  refine HC.mono ?_
  rintro e w2 ⟨a2, n2, c2, rfl, M2⟩
  clear HC
  have T2 := T1.keep M2.kp (by simp)
  have hb1 := T1.lt
  have S2 : Ms [w.heap.size] w1 w2 a2 n2 c2 l := ⟨M2.1, M2.2.1.mono (fun x hx => by simp at hx), M2.2.2⟩
  clear T1 M2
  go_wp2
  go_loopw [6, 19] (fun v i wr => ∃ (k : Nat) (ao' : Option Addr) (n' c' : Nat), k ≤ m.length ∧ i = .int .i64 k ∧ v = .slice ao' n' c' ∧ Ms [w.heap.size] w1 wr ao' n' c' (more l (m.take k)) ∧ Tab wr w.heap.size (more l (m.take k)) (l.length + k)) (fun _ i _ => m.length - (intOf i).toNat)
  case atStart => exact ⟨0, _, _, _, Nat.zero_le _, rfl, rfl, S2, T2⟩
  case round =>
    obtain ⟨k, ao', n', c', hk, rfl, rfl, M, T⟩ := hrel
    clear S2 T2
    have kw : Kp [] w wr := k1.trans M.2.1 (fun x hx => by simp at hx; omega)
    by_cases hlt : k < m.length
    · obtain ⟨b1, o1, rfl, h1, h2⟩ := (hs.kept kw).get k hlt
      have hts := take_snoc hlt
      have hfa := fits_one hfm hlt
      have hn : n' ≤ 90000 := by
        have e1 := M.len
        have e2 := more_len (m.take k) l
        simp at e2
        omega
      have hml := M.len
      generalize m[k] = a at h1 h2 hts hfa
      have hkey := key_of (hfa a (by simp)).1
      have hmore : more l (m.take (k + 1)) = add (more l (m.take k)) a := by rw [hts, more_snoc]
      clear hs hfm hts
      have T' := T
      obtain ⟨D, hown, hsz, hx⟩ := T
      have hh := (hx a.1).1
      have hsize := hown.lt
      rcases has_idx (more l (m.take k)) a.1 with ⟨i, hi, hN⟩ | ⟨hi, hN⟩
      · have hmore2 : Hid (more l (m.take (k + 1)) = more l (m.take k)) := by rw [hmore]; unfold add; rw [hN]; rfl
        have ka : Kp [w.heap.size] wr (wr.alloc (.cells #[.string a.1, .string a.2] 73)) := (Kp.refl _ _).alloc _
        have M3 := M.kept ka (fun x hx => by simp at hx; omega)
        have T3 : Tab (wr.alloc (.cells #[.string a.1, .string a.2] 73)) w.heap.size (more l (m.take k)) (l.length + (k + 1)) := (T'.keep ((Kp.refl [] wr).alloc _) (by simp)).mono (by omega)
        rw [hi] at hh
        simp only [Option.isSome_some] at hh
        clear T' hi hx hsz hmore hN M ka hml
        go_wp2_with (at_lookup; refine wpList_lookup_own_ok_int _ rfl _ _ 113 rfl 9 3 .i64 law9 Tryz.underlying113 Tryz.underlying3 (zero3 _) w.heap.size (l.length + k) D rfl (hown.alloc _) _ _ rfl hkey ?_; intro c1 hat hwc)
        go_roundw
        case rel => exact ⟨k + 1, _, _, _, by omega, by go_num, rfl, by rw [hmore2.out]; exact M3, by rw [hmore2.out]; exact T3⟩
        case measure => simp [intOf]; omega
      · have hmore2 : Hid (more l (m.take (k + 1)) = more l (m.take k) ++ [a]) := by rw [hmore]; unfold add; rw [hN]; rfl
        have hP : Hid (∀ w', w'.ownsMap Tryz.prog 9 (plainElem Tryz.prog 3) w.heap.size (l.length + k + 1) (D.put (kl a.1) (.lit (.int .i64 (n' : Int)))) → Tab w' w.heap.size (more l (m.take k) ++ [a]) (l.length + k + 1)) := by
          intro w' h1
          rw [hml] at h1
          exact tab_put hsz hx hown a hi h1
        rw [hi] at hh
        simp only [Option.isSome_none] at hh
        have ka : Kp [w.heap.size] wr (wr.alloc (.cells #[.string a.1, .string a.2] 73)) := (Kp.refl _ _).alloc _
        have hb3 : (wr.alloc (.cells #[.string a.1, .string a.2] 73)).heap[wr.heap.size]? = some (.cells #[.string a.1, .string a.2] 73) := heap_new _ _
        clear T' hi hx hsz hmore hN hml
        go_wp2_with (first
          | (at_lookup; refine wpList_lookup_own_ok_int _ rfl _ _ 113 rfl 9 3 .i64 law9 Tryz.underlying113 Tryz.underlying3 (zero3 _) w.heap.size (l.length + k) D rfl (hown.alloc _) _ _ rfl hkey ?_; intro c1 hat hwc)
          | (at_mapUpdate; refine wpList_mapUpdate_own _ rfl _ _ _ 113 rfl 9 3 law9 Tryz.underlying113 _ w.heap.size (l.length + k) D rfl (hown.alloc _) (by unfold maxLen; omega) _ _ _ rfl rfl hkey _ [] (plainElem_int Tryz.underlying3 (WalkArith.wf_i64 (by omega))) ?_; intro w3 hown3 hgrow3; refine Hid.out ?_))
        unfold Hid
        have k3 := kp_grown hgrow3
        have hb4 : w3.heap[wr.heap.size]? = some (.cells #[.string a.1, .string a.2] 73) := by rw [k3.block _ (by simp) (by simp; omega)]; exact hb3
        have g0 : w3.cell? ⟨wr.heap.size, 0, none⟩ = some (.string a.1) := by rw [cell_of hb4]; rfl
        have g1 : w3.cell? ⟨wr.heap.size, 1, none⟩ = some (.string a.2) := by rw [cell_of hb4]; rfl
        have M3 := (M.kept ka (fun x hx => by simp at hx; omega)).kept k3 (fun x hx => by simp at hx; omega)
        have T3 := hP.out _ hown3
        have HO := own_any w3 a hfa
        unfold av at HO
        clear hP hown3 hown hgrow3 hb3 hb4 ka k3 hat hwc hkey M hh hfa
        go_wp2_with fail
        refine HO.mono ?_
        rintro e w4 ⟨rfl, k4⟩
        clear HO
        have M4 := M3.kept (k4.mono (fun x hx => by simp at hx)) (fun x hx => by simp at hx; omega)
        have T4 := T3.keep k4 (by simp)
        obtain ⟨a5, n5, c5, w5, hrun, M5, hb5⟩ := M4.one a (by omega) (fun x hx => by simp at hx; omega)
        have T5 := T4.same (hb5 _ hb1 (by simp))
        clear M3 T3 M4 T4 k4 hb5 g0 g1
        go_wp2_with (at_builtin; refine Lib.wpList_append_run _ rfl _ _ _ _ rfl _ _ rfl rfl _ _ (hrun _) ?_)
        go_roundw
        case rel => exact ⟨k + 1, _, _, _, by omega, by go_num, rfl, by rw [hmore2.out]; exact M5, by rw [hmore2.out]; exact T5⟩
        case measure => simp [intOf]; omega
    · obtain rfl : k = m.length := by omega
      rw [List.take_length] at M
      go_wp2
      go_ret
      exact ⟨_, _, _, rfl, M.1, kw, fun x hx => Nat.le_trans k1.size (M.2.2 x hx)⟩

set_option maxHeartbeats 1000000 in
theorem uniq_any (w : World) (m : List Att) (bo : Option Addr) (p d : Nat) (hs : Rp w bo p d m) (hm : p ≤ 40000) (hf : fits m) :
    Calls Tryz.prog 78 #[.slice bo p d] w fun e w' => ∃ ao' n' c', e = .returned (.slice ao' n' c') ∧ Mp w w' ao' n' c' (uniq m) := by
  have H := more_any w [] m none bo 0 0 p d (rp_nil w) hs (by omega) hm (fun a ha => by simp at ha) hf
  go_enter Tryz.func78, Tryz.ntmps78
  go_wp2_with fail
  refine H.mono ?_
  rintro e w3 ⟨a3, n3, c3, rfl, M3⟩
  clear H
  go_wp2
  go_ret
  exact ⟨_, _, _, rfl, M3⟩

end Go.Proofs.YtcfaejbbjmjgpaaGreatDoor

/-
  Same, of the program, of the document and of the book.
-/
namespace Go.Proofs.YtcfaejbbjmjgpaaGreatDoor
open Go.RowKit

/-- Two attributes are the same, or parted by their names, or by their values. -/
theorem parted (x y : Att) : (x = y ∧ x.1.toList = y.1.toList ∧ x.2.toList = y.2.toList) ∨ (x ≠ y ∧ ¬ x.1.toList = y.1.toList) ∨ (x ≠ y ∧ x.1.toList = y.1.toList ∧ ¬ x.2.toList = y.2.toList) := by
  by_cases h1 : x.1 = y.1
  · by_cases h2 : x.2 = y.2
    · exact Or.inl ⟨Prod.ext h1 h2, by rw [h1], by rw [h2]⟩
    · refine Or.inr (Or.inr ⟨fun h => h2 (by rw [h]), by rw [h1], fun h => h2 (eqs_iff.1 ?_)⟩)
      unfold eqs
      rw [h]
      simp
  · refine Or.inr (Or.inl ⟨fun h => h1 (by rw [h]), fun h => h1 (eqs_iff.1 ?_)⟩)
    unfold eqs
    rw [h]
    simp

/-- The same, in order? -/
def same (l m : List Att) : Bool := decide (l = m)

theorem same_not {l m : List Att} (h : l ≠ m) : same l m = false := decide_eq_false h
theorem same_yes {l m : List Att} (h : l = m) : same l m = true := decide_eq_true h

theorem take_eq {l m : List Att} {k : Nat} (h1 : k < l.length) (h2 : k < m.length) (h : l.take k = m.take k) (e : l[k] = m[k]) : l.take (k + 1) = m.take (k + 1) := by
  rw [take_snoc h1, take_snoc h2, h, e]

set_option maxHeartbeats 1000000 in
theorem ref_same_any (w : World) (l m : List Att) (ao bo : Option Addr) (n c p d : Nat) (hr : Rp w ao n c l) (hs : Rp w bo p d m) (hl : n ≤ 100000) (hm : p ≤ 100000) :
    Calls Tryz.prog 36 #[.slice ao n c, .slice bo p d] w fun e w' => e = .returned (.bool (same l m)) ∧ Kp [] w w' := by
  obtain rfl := hr.len
  obtain rfl := hs.len
  by_cases hlen : l.length = m.length
  · have hne : ((l.length : Int) != (m.length : Int)) = false := by rw [hlen]; simp
    obtain ⟨A, hA⟩ : ∃ A, same l m = A := ⟨_, rfl⟩
    rw [hA]
    have hkm : ∀ k, k < l.length → k < m.length := fun k hk => by omega
    have hend : Hid (l.take l.length = m.take l.length → l = m) := fun h => by rw [List.take_length, hlen, List.take_length] at h; exact h
    clear hlen
    go_enter Tryz.func36, Tryz.ntmps36
    go_wp2
    go_loopw [5] (fun i wr => ∃ k q : Nat, k ≤ l.length ∧ i = .int .i64 k ∧ wr = w.drewN q ∧ l.take k = m.take k) (fun i _ => l.length - (intOf i).toNat)
    case atStart => exact ⟨0, 0, Nat.zero_le _, rfl, rfl, rfl⟩
    case round =>
      obtain ⟨k, q, hk, rfl, rfl, hp⟩ := hrel
      by_cases hlt : k < l.length
      · have hlt2 := hkm k hlt
        obtain ⟨b1, o1, rfl, h1, h2⟩ := hr.get k hlt
        obtain ⟨b2, o2, rfl, h3, h4⟩ := hs.get k hlt2
        have htk : Hid (l[k] = m[k] → l.take (k + 1) = m.take (k + 1)) := take_eq hlt hlt2 hp
        have hnt : Hid (l[k] ≠ m[k] → same l m = false) := fun h => same_not (fun e => h (by simp only [e]))
        clear hr hs hp hkm hend
        generalize l[k] = x at h1 h2 htk hnt
        generalize m[k] = y at h3 h4 htk hnt
        rcases parted x y with ⟨e0, e1, e2⟩ | ⟨e0, e1⟩ | ⟨e0, e1, e2⟩
        · subst e0
          have hp := htk.out rfl
          clear htk hnt
          go_wp2_with fail
          go_region
          go_wp2
          go_roundw
          case rel => exact ⟨k + 1, _, by omega, by go_num, rfl, hp⟩
          case measure => simp [intOf]; omega
        all_goals
          have hp := hnt.out e0
          rw [hA] at hp
          subst hp
          clear htk hnt e0 hA
          go_wp2_with fail
          go_region
          go_wp2
          go_ret
          exact ⟨rfl, (Kp.refl _ _).drewN _⟩
      · obtain rfl : k = l.length := by omega
        rw [same_yes (hend.out hp)] at hA
        subst hA
        go_wp2
        go_ret
        exact ⟨rfl, (Kp.refl _ _).drewN _⟩
  · have hne : ((l.length : Int) != (m.length : Int)) = true := by simp; omega
    rw [same_not (fun e => hlen (by rw [e]))]
    clear hlen
    go_enter Tryz.func36, Tryz.ntmps36
    go_wp2
    go_ret
    exact ⟨rfl, Kp.refl _ _⟩



theorem attrs_any (w : World) (l m : List Att) (ao bo : Option Addr) (n c p d : Nat) (hr : Rp w ao n c l) (hs : Rp w bo p d m) (hl : n ≤ 100000) (hm : p ≤ 100000) :
    Calls Tryz.prog 24 #[.slice ao n c, .slice bo p d] w fun e w' => e = .returned (.bool (same l m)) ∧ Kp [] w w' := by
  have H := ref_same_any w l m ao bo n c p d hr hs hl hm
  generalize same l m = A at H
  clear hr hs hl hm
  go_enter Tryz.func24, Tryz.ntmps24
  go_wp2_with fail
  refine H.mono ?_
  rintro e w1 ⟨rfl, k1⟩
  clear H
  go_wp2
  go_ret
  exact ⟨rfl, k1⟩

end Go.Proofs.YtcfaejbbjmjgpaaGreatDoor

/-
  Tokens by themselves: what Right, Text, Same and Join are. No program.
-/
namespace Go.Proofs.YtcfaejbbjmjgpaaGreatDoor
open Go.RowKit Utf

/-- A token: its Kind, Name, Attrs, Self and Text. -/
abbrev Tok := Int × ByteArray × List Att × Bool × ByteArray

/-- Nothing that would end a name. -/
def okB (c : Int) : Bool := !(isSp c) && !(c == 47) && !(c == 62)

theorem okB_high {x : Int} (h : 128 ≤ x) : okB x = true := by
  unfold okB
  rw [isSp_high h]
  simp
  omega

theorem isLet_high {x : Int} (h : 128 ≤ x) : isLet x = false := by
  simp [isLet]
  omega

/-- What a range tells of a rune is what its bytes are. -/
theorem decode_ok (s : ByteArray) (i : Nat) (h : i < s.size) :
    1 ≤ (Utf8.decode s i).2 ∧ i + (Utf8.decode s i).2 ≤ s.size ∧ isLet (bt s i) = isLet ((Utf8.decode s i).1 : Int) ∧ ∀ j, i ≤ j → j < i + (Utf8.decode s i).2 → okB (bt s j) = okB ((Utf8.decode s i).1 : Int) := by
  rcases decode_parts s i h with ⟨h1, h2⟩ | ⟨h1, h2, h3, h4, h5⟩
  · rw [h2]
    refine ⟨Nat.le_refl _, h, by rw [bt_at s i h], fun j a b => ?_⟩
    obtain rfl : j = i := by simp only [] at b; omega
    rw [bt_at s j h]
  · refine ⟨h3, h4, ?_, fun j a b => ?_⟩
    · rw [bt_at s i h, isLet_high (by omega), isLet_high (by omega)]
    · rw [bt_at s j (by omega), okB_high (by have := h5 j (by omega) a b; omega), okB_high (by omega)]

/-- May a tag have that name? -/
def tagName (x : ByteArray) : Bool := isLet (bt x 0) && (bytesOf x).all okB && decide (lower x = x)

theorem all_ok (x : ByteArray) : (bytesOf x).all okB = true ↔ ∀ j, j < x.size → okB (bt x j) = true := by
  rw [List.all_eq_true]
  constructor
  · intro h j hj
    rw [bt_at x j hj]
    exact h _ (by rw [← bytes_at x j hj (by rw [bytes_len]; exact hj)]; exact List.getElem_mem _)
  · intro h c hc
    obtain ⟨j, hj, rfl⟩ := List.getElem_of_mem hc
    rw [bytes_len] at hj
    rw [bytes_at x j hj, ← bt_at x j hj]
    exact h j hj

theorem tagName_not {x : ByteArray} {j : Nat} (hj : j < x.size) (h : okB (bt x j) = false) : tagName x = false := by
  unfold tagName
  cases ha : (bytesOf x).all okB with
  | false => simp
  | true =>
    rw [(all_ok x).1 ha j hj] at h
    cases h

theorem tagName_let {x : ByteArray} (h : isLet (bt x 0) = false) : tagName x = false := by
  unfold tagName
  rw [h]
  simp

theorem tagName_nil : tagName ⟨#[]⟩ = false := by decide

theorem tagName_low {x : ByteArray} (h0 : isLet (bt x 0) = true) (h : ∀ j, j < x.size → okB (bt x j) = true) : tagName x = decide (lower x = x) := by
  unfold tagName
  rw [h0, (all_ok x).2 h]
  simp

/-- All of them have names, no two of them one. -/
def areRight (l : List Att) : Bool := !(hasN l ⟨#[]⟩) && decide ((uniq l).length = l.length)

theorem uniq_len (l : List Att) : (uniq l).length ≤ l.length := by
  have := more_len l []
  unfold uniq
  simpa using this

theorem dist_of_len : ∀ (n : Nat) (l : List Att), l.length = n → (uniq l).length = l.length → Dist l
  | 0, l, h, _ => by
    obtain rfl := List.eq_nil_of_length_eq_zero h
    exact List.Pairwise.nil
  | n + 1, l, h, hu => by
    have hne : l ≠ [] := fun e => by rw [e] at h; simp at h
    obtain ⟨m, a, rfl⟩ : ∃ m a, l = m ++ [a] := ⟨l.dropLast, l.getLast hne, (List.dropLast_concat_getLast hne).symm⟩
    have hm : m.length = n := by simpa using h
    have e1 : uniq (m ++ [a]) = add (uniq m) a := more_snoc [] m a
    rw [e1] at hu
    have hum := uniq_len m
    have hal := add_len (uniq m) a
    rw [List.length_append, List.length_singleton] at hu
    have hd := dist_of_len n m hm (by omega)
    have hmu := uniq_dist hd
    rw [hmu] at hu
    have hn : hasN m a.1 = false := by
      cases hx : hasN m a.1 with
      | false => rfl
      | true =>
        exfalso
        unfold add at hu
        rw [hx] at hu
        simp at hu
    have := dist_add hd a
    unfold add at this
    rw [hn] at this
    exact this

/-- Each stands at the first place of its name. -/
theorem idx_dist {l : List Att} (h : Dist l) (k : Nat) (hk : k < l.length) : idx l l[k].1 = some k := by
  refine idx_drop hk (fun j hj => ?_) (eqs_refl _)
  unfold Dist at h
  rw [List.pairwise_iff_getElem] at h
  have := h j k (by omega) hk hj
  cases hx : eqs l[j].1 l[k].1 with
  | false => rfl
  | true => exact absurd (eqs_iff.1 hx) this

theorem dist_of_idx {l : List Att} (h : ∀ k (hk : k < l.length), idx l l[k].1 = some k) : Dist l := by
  unfold Dist
  rw [List.pairwise_iff_getElem]
  intro i j hi hj hij he
  have h1 := h i hi
  have h2 := h j hj
  rw [he, h2] at h1
  have := Option.some.inj h1
  omega

theorem areRight_all {l : List Att} (h1 : ∀ k (hk : k < l.length), eqs l[k].1 ⟨#[]⟩ = false) (h2 : ∀ k (hk : k < l.length), idx l l[k].1 = some k) : areRight l = true := by
  unfold areRight
  have hg : hasN l ⟨#[]⟩ = false := by
    rw [← idx_some, idx_end h1]
    rfl
  rw [hg, uniq_dist (dist_of_idx h2)]
  simp

theorem areRight_name {l : List Att} {k : Nat} (hk : k < l.length) (h : eqs l[k].1 ⟨#[]⟩ = true) : areRight l = false := by
  unfold areRight
  have hg : hasN l ⟨#[]⟩ = true := by
    unfold hasN
    cases hx : getF l ⟨#[]⟩ with
    | some y => rfl
    | none => exact absurd (eqs_iff.1 h) (getF_none hx l[k] (List.getElem_mem hk))
  rw [hg]
  rfl

theorem areRight_twice {l : List Att} {k : Nat} (hk : k < l.length) (h : idx l l[k].1 ≠ some k) : areRight l = false := by
  unfold areRight
  have hn : ¬ (uniq l).length = l.length := fun e => h (idx_dist (dist_of_len _ l rfl e) k hk)
  rw [decide_eq_false hn]
  simp

/-- Is it right? -/
def right (t : Tok) : Bool :=
  if t.1 = 1 then decide (lower t.2.1 = t.2.1) && decide (t = (1, t.2.1, [], false, ⟨#[]⟩))
  else if t.1 = 2 then tagName t.2.1 && areRight t.2.2.1 && eqs t.2.2.2.2 ⟨#[]⟩
  else if t.1 = 3 then tagName t.2.1 && decide (t = (3, t.2.1, [], false, ⟨#[]⟩))
  else if t.1 = 4 then !(eqs t.2.2.2.2 ⟨#[]⟩) && decide (t = (4, ⟨#[]⟩, [], false, t.2.2.2.2))
  else if t.1 = 5 then decide (t = (5, ⟨#[]⟩, [], false, t.2.2.2.2))
  else if t.1 = 6 then decide (t = (6, ⟨#[]⟩, [], false, ⟨#[]⟩))
  else false

/-- A start, with one attribute more. -/
def grow (s : ByteArray) (a : Att) : ByteArray := s ++ (((⟨#[32]⟩ ++ a.1) ++ ⟨#[61]⟩) ++ a.2)

/-- A start as text. -/
def startT (x : ByteArray) (l : List Att) (b : Bool) : ByteArray :=
  if b then l.foldl grow (⟨#[60]⟩ ++ x) ++ ⟨#[47]⟩ else l.foldl grow (⟨#[60]⟩ ++ x)

/-- As text. -/
def told (t : Tok) : ByteArray :=
  if t.1 = 1 then ⟨#[33]⟩ ++ t.2.1
  else if t.1 = 2 then startT t.2.1 t.2.2.1 t.2.2.2.1
  else if t.1 = 3 then ⟨#[47]⟩ ++ t.2.1
  else if t.1 = 4 then ⟨#[34]⟩ ++ t.2.2.2.2
  else if t.1 = 5 then ⟨#[45]⟩ ++ t.2.2.2.2
  else if t.1 = 6 then ⟨#[46]⟩
  else ⟨#[63]⟩

theorem grow_ref (s : ByteArray) (a : Att) : (((s ++ ⟨#[32]⟩) ++ a.1) ++ ⟨#[61]⟩) ++ a.2 = grow s a := by
  unfold grow
  simp only [cat_assoc]

/-- Texts of attributes that are not long. -/
def brief (l : List Att) : Prop := l.length ≤ 100 ∧ ∀ a, a ∈ l → a.1.size ≤ 1000 ∧ a.2.size ≤ 1000

theorem grow_size {s : ByteArray} {a : Att} (h : a.1.size ≤ 1000 ∧ a.2.size ≤ 1000) : (grow s a).size ≤ s.size + 2002 := by
  unfold grow
  simp only [cat_size]
  have e1 : (⟨#[32]⟩ : ByteArray).size = 1 := rfl
  have e2 : (⟨#[61]⟩ : ByteArray).size = 1 := rfl
  omega

theorem foldl_size (s : ByteArray) : ∀ (k : Nat) (l : List Att), k ≤ l.length → (∀ a, a ∈ l → a.1.size ≤ 1000 ∧ a.2.size ≤ 1000) → ((l.take k).foldl grow s).size ≤ s.size + k * 2002
  | 0, l, _, _ => by simp
  | k + 1, l, hk, h => by
    rw [take_snoc (by omega), List.foldl_append]
    have h1 := foldl_size s k l (by omega) h
    have h2 := grow_size (s := (l.take k).foldl grow s) (h l[k] (List.getElem_mem (by omega)))
    simp only [List.foldl_cons, List.foldl_nil]
    omega

theorem brief_fits {l : List Att} (h : brief l) : fits l := fun a ha => by
  have := h.2 a ha
  exact ⟨by omega, by omega⟩

end Go.Proofs.YtcfaejbbjmjgpaaGreatDoor

/-
  Names of tags, and attributes that are right: the program's isLow, isTagName and areRight.
-/
namespace Go.Proofs.YtcfaejbbjmjgpaaGreatDoor
open Go.RowKit Utf



end Go.Proofs.YtcfaejbbjmjgpaaGreatDoor

/-
  Same of tokens: of the program, of the document and of the book.
-/
namespace Go.Proofs.YtcfaejbbjmjgpaaGreatDoor
open Go.RowKit

theorem eqs_no {x y : ByteArray} (h : ¬ x = y) : (x.toList == y.toList) = false := by
  cases hx : eqs x y with
  | false => exact hx
  | true => exact absurd (eqs_iff.1 hx) h

theorem eqs_yes {x y : ByteArray} (h : x = y) : (x.toList == y.toList) = true := eqs_iff.2 h

/-- A token's five cells. -/
structure Box (w : World) (g : Nat) (k : Int) (x : ByteArray) (v : Value) (b : Bool) (y : ByteArray) : Prop where
  c0 : w.cell? ⟨g, 0, none⟩ = some (.int .i64 k)
  c1 : w.cell? ⟨g, 1, none⟩ = some (.string x)
  c2 : w.cell? ⟨g, 2, none⟩ = some v
  c3 : w.cell? ⟨g, 3, none⟩ = some (.bool b)
  c4 : w.cell? ⟨g, 4, none⟩ = some (.string y)

theorem box_of {w : World} {g : Nat} {k : Int} {x : ByteArray} {v : Value} {b : Bool} {y : ByteArray} {e : TypeId} (h : w.heap[g]? = some (.cells #[.int .i64 k, .string x, v, .bool b, .string y] e)) : Box w g k x v b y :=
  ⟨by rw [cell_of h]; rfl, by rw [cell_of h]; rfl, by rw [cell_of h]; rfl, by rw [cell_of h]; rfl, by rw [cell_of h]; rfl⟩

theorem Box.kept {w w' : World} {g : Nat} {k : Int} {x : ByteArray} {v : Value} {b : Bool} {y : ByteArray} {S : List Nat} (h : Box w g k x v b y) (kp : Kp S w w') (hg : g ∉ S) : Box w' g k x v b y := by
  have hl := block_lt_of_cell h.c0
  exact ⟨by rw [kp.cell (a := ⟨g, 0, none⟩) hl hg]; exact h.c0, by rw [kp.cell (a := ⟨g, 1, none⟩) hl hg]; exact h.c1, by rw [kp.cell (a := ⟨g, 2, none⟩) hl hg]; exact h.c2, by rw [kp.cell (a := ⟨g, 3, none⟩) hl hg]; exact h.c3, by rw [kp.cell (a := ⟨g, 4, none⟩) hl hg]; exact h.c4⟩

/-- Two that were laid one behind the other. -/
theorem box_two (w : World) (k k' : Int) (x x' y y' : ByteArray) (v v' : Value) (b b' : Bool) (w1 : World) (kp : Kp [] ((w.alloc (.cells #[.int .i64 k, .string x, v, .bool b, .string y] 44)).alloc (.cells #[.int .i64 k', .string x', v', .bool b', .string y'] 44)) w1) :
    Box w1 w.heap.size k x v b y ∧ Box w1 (w.heap.size + 1) k' x' v' b' y' := by
  constructor
  · refine (box_of (e := 44) ?_).kept kp (by simp)
    rw [Below.heap_alloc _ _ _ (by simp)]
    exact heap_new w _
  · exact (box_of (heap_new' _ _ _ (by simp))).kept kp (by simp)

/-- A token, as a value. -/
def tv (k : Int) (x : ByteArray) (ao : Option Addr) (n c : Nat) (b : Bool) (y : ByteArray) : Value := .agg #[.int .i64 k, .string x, .slice ao n c, .bool b, .string y]


set_option maxHeartbeats 1000000 in
theorem book_tsame_any (w : World) (k k' : Int) (x x' y y' : ByteArray) (l l' : List Att) (b b' : Bool) (ao bo : Option Addr) (n c p d : Nat) (hr : Rp w ao n c l) (hs : Rp w bo p d l') (hl : n ≤ 100000) (hm : p ≤ 100000) :
    Calls Tryz.prog 15 #[tv k x ao n c b y, tv k' x' bo p d b' y'] w fun e w' => e = .returned (.bool (decide (((k, x, l, b, y) : Tok) = (k', x', l', b', y')))) ∧ Kp [] w w' := by
  unfold tv
  obtain ⟨A, hA⟩ : ∃ A, decide (((k, x, l, b, y) : Tok) = (k', x', l', b', y')) = A := ⟨_, rfl⟩
  rw [hA]
  have k0 : Kp [] w ((w.alloc (.cells #[.int .i64 k, .string x, .slice ao n c, .bool b, .string y] 44)).alloc (.cells #[.int .i64 k', .string x', .slice bo p d, .bool b', .string y'] 44)) := ((Kp.refl _ _).alloc _).alloc _
  have HC := attrs_any _ l l' ao bo n c p d (hr.kept k0) (hs.kept k0) hl hm
  obtain ⟨C, hC⟩ : ∃ C, same l l' = C := ⟨_, rfl⟩
  rw [hC] at HC
  clear hr hs hl hm
  by_cases e1 : k = k'
  · have q1 : ((k : Int) == (k' : Int)) = true := by simp [e1]
    by_cases e2 : x = x'
    · have q2 : (x.toList == x'.toList) = true := eqs_yes e2
      cases C with
      | false =>
        have hne : ¬ l = l' := of_decide_eq_false hC
        obtain rfl : A = false := by rw [← hA]; simp [hne]
        clear hA hC hne e1 e2
        go_enter Tryz.func15, Tryz.ntmps15
        go_wp2_with fail
        refine HC.mono ?_
        rintro e w1 ⟨rfl, k1⟩
        have k2 := k0.trans k1 (fun z hz => by simp at hz)
        obtain ⟨B1, B2⟩ := box_two _ _ _ _ _ _ _ _ _ _ _ w1 k1
        obtain ⟨_, _, _, b3, b4⟩ := B1
        obtain ⟨_, _, _, d3, d4⟩ := B2
        clear HC k0 k1
        go_wp2
        go_ret
        exact ⟨rfl, k2⟩
      | true =>
        have heq : l = l' := of_decide_eq_true hC
        by_cases e3 : b = b'
        · have q3 : (b == b') = true := by simp [e3]
          by_cases e4 : y = y'
          · have q4 : (y.toList == y'.toList) = true := eqs_yes e4
            obtain rfl : A = true := by rw [← hA]; simp [e1, e2, heq, e3, e4]
            clear hA hC e1 e2 heq e3 e4
            go_enter Tryz.func15, Tryz.ntmps15
            go_wp2_with fail
            refine HC.mono ?_
            rintro e w1 ⟨rfl, k1⟩
            have k2 := k0.trans k1 (fun z hz => by simp at hz)
            obtain ⟨B1, B2⟩ := box_two _ _ _ _ _ _ _ _ _ _ _ w1 k1
            obtain ⟨_, _, _, b3, b4⟩ := B1
            obtain ⟨_, _, _, d3, d4⟩ := B2
            clear HC k0 k1
            go_wp2
            go_ret
            exact ⟨rfl, k2⟩
          · have q4 : (y.toList == y'.toList) = false := eqs_no e4
            obtain rfl : A = false := by rw [← hA]; simp [e4]
            clear hA hC e1 e2 heq e3 e4
            go_enter Tryz.func15, Tryz.ntmps15
            go_wp2_with fail
            refine HC.mono ?_
            rintro e w1 ⟨rfl, k1⟩
            have k2 := k0.trans k1 (fun z hz => by simp at hz)
            obtain ⟨B1, B2⟩ := box_two _ _ _ _ _ _ _ _ _ _ _ w1 k1
            obtain ⟨_, _, _, b3, b4⟩ := B1
            obtain ⟨_, _, _, d3, d4⟩ := B2
            clear HC k0 k1
            go_wp2
            go_ret
            exact ⟨rfl, k2⟩
        · have q3 : (b == b') = false := by simpa using e3
          obtain rfl : A = false := by rw [← hA]; simp [e3]
          clear hA hC e1 e2 heq e3
          go_enter Tryz.func15, Tryz.ntmps15
          go_wp2_with fail
          refine HC.mono ?_
          rintro e w1 ⟨rfl, k1⟩
          have k2 := k0.trans k1 (fun z hz => by simp at hz)
          obtain ⟨B1, B2⟩ := box_two _ _ _ _ _ _ _ _ _ _ _ w1 k1
          obtain ⟨_, _, _, b3, b4⟩ := B1
          obtain ⟨_, _, _, d3, d4⟩ := B2
          clear HC k0 k1
          go_wp2
          go_ret
          exact ⟨rfl, k2⟩
    · have q2 : (x.toList == x'.toList) = false := eqs_no e2
      obtain rfl : A = false := by rw [← hA]; simp [e2]
      clear hA hC e1 e2
      go_enter Tryz.func15, Tryz.ntmps15
      clear HC
      go_wp2
      go_ret
      exact ⟨rfl, k0⟩
  · have q1 : ((k : Int) == (k' : Int)) = false := by simpa using e1
    obtain rfl : A = false := by rw [← hA]; simp [e1]
    clear hA hC e1
    go_enter Tryz.func15, Tryz.ntmps15
    clear HC
    go_wp2
    go_ret
    exact ⟨rfl, k0⟩

end Go.Proofs.YtcfaejbbjmjgpaaGreatDoor

/-
  The program's Right, of any token that is not too long.
-/
namespace Go.Proofs.YtcfaejbbjmjgpaaGreatDoor
open Go.RowKit

theorem empty_yes {y : ByteArray} (h : eqs y ⟨#[]⟩ = true) : y.toList.isEmpty = true := by
  rw [eqs_iff.1 h, ByteArray.toList_eq]
  rfl

theorem empty_no {y : ByteArray} (h : eqs y ⟨#[]⟩ = false) : y.toList.isEmpty = false := by
  cases hx : y.toList.isEmpty with
  | false => rfl
  | true =>
    rw [List.isEmpty_iff] at hx
    exfalso
    have : eqs y ⟨#[]⟩ = true := by
      unfold eqs
      rw [hx, ByteArray.toList_eq]
      rfl
    rw [h] at this
    cases this

theorem box_one (w : World) (k : Int) (x y : ByteArray) (v : Value) (b : Bool) (w1 : World) (kp : Kp [] (w.alloc (.cells #[.int .i64 k, .string x, v, .bool b, .string y] 44)) w1) : Box w1 w.heap.size k x v b y :=
  (box_of (heap_new w _)).kept kp (by simp)







end Go.Proofs.YtcfaejbbjmjgpaaGreatDoor
