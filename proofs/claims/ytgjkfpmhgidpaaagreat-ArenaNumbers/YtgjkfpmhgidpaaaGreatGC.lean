/-
  Joined: Find Copy More Same Short RefU.
-/
import Derived.Test.YtgjkfpmhgidpaaaGreatGB
import Derived.Deep.RegionHeld3
import Derived.Laws.MakeOwn
import Derived.Maps.OwnSet
import Derived.Maps.OwnOps
import Derived.Test.YtgjkfpmhgidpaaaGreatGA

/-
  Where the first one of a name stands: the document's Has, the program's find and Get.
-/
namespace Go.Proofs.YtgjkfpmhgidpaaaGreat
open Go.RowKit

/-- A place, or -1. -/
def plc : Option Nat → Int
  | some i => i
  | none => -1

set_option maxHeartbeats 1000000 in
theorem ref_has_any (w : World) (x : ByteArray) (l : List Att) (ao : Option Addr) (n c : Nat) (hr : Rp w ao n c l) (hl : n ≤ 100000) :
    Calls Tryz.prog 113 #[.slice ao n c, .string x] w fun e w' => e = .returned (.int .i64 (plc (idx l x))) ∧ Kp [] w w' := by
  obtain rfl := hr.len
  obtain ⟨A, hA⟩ : ∃ A, plc (idx l x) = A := ⟨_, rfl⟩
  rw [hA]
  go_enter Tryz.func113, Tryz.ntmps113
  go_wp2
  go_loopw [5] (fun i wr => ∃ k q : Nat, k ≤ l.length ∧ i = .int .i64 k ∧ wr = w.drewN q ∧ (∀ j (hj : j < k) (hl : j < l.length), eqs l[j].1 x = false)) (fun i _ => l.length - (intOf i).toNat)
  case atStart => exact ⟨0, 0, Nat.zero_le _, rfl, rfl, fun j hj => by omega⟩
  case round =>
    obtain ⟨k, q, hk, rfl, rfl, hp⟩ := hrel
    by_cases hlt : k < l.length
    · obtain ⟨b1, o1, rfl, h1, h2⟩ := hr.get k hlt
      have hh : ∀ b, eqs l[k].1 x = b → (l[k].1.toList == x.toList) = b := fun b h => h
      clear hr
      cases hx : eqs l[k].1 x
      · have hx' := hh _ hx
        go_wp2
        go_roundw
        case rel => exact ⟨k + 1, _, by omega, by go_num, rfl, fun j hj hl => by
          by_cases e : j < k
          · exact hp j e hl
          · obtain rfl : j = k := by omega
            exact hx⟩
        case measure => simp [intOf]; omega
      · have hx' := hh _ hx
        rw [idx_drop hlt (fun j hj => hp j hj (by omega)) hx] at hA
        subst hA
        go_wp2
        go_ret
        exact ⟨rfl, (Kp.refl _ _).drewN q⟩
    · rw [idx_end (fun j hj => hp j (by omega) hj)] at hA
      subst hA
      go_wp2
      go_ret
      exact ⟨rfl, (Kp.refl _ _).drewN q⟩

/-- What find answers. -/
def fnd : Option Nat → Value
  | some i => .tuple #[.int .i64 i, .bool true]
  | none => .tuple #[.int .i64 0, .bool false]


/-- What Get answers. -/
def gtn : Option Att → Value
  | some a => .tuple #[.string a.2, .bool true]
  | none => .tuple #[.string ⟨#[]⟩, .bool false]


set_option maxHeartbeats 1000000 in
set_option maxRecDepth 100000 in
theorem own_any (w : World) (a : Att) (hf : fits [a]) : Calls Tryz.prog 112 #[av a] w fun e w' => e = .returned (av a) ∧ Kp [] w w' := by
  have h1 := (hf a (by simp)).1
  have h2 := (hf a (by simp)).2
  obtain ⟨x, y⟩ := a
  simp only at h1 h2
  have HX := fun w => clone_any w x (by omega)
  have HY := fun w => clone_any w y (by omega)
  clear h1 h2 hf
  unfold av
  go_enter Tryz.func112, Tryz.ntmps112
  go_wp2_with fail
  have K0 : Kp [] w ((w.alloc (Obj.cells #[Value.string x, Value.string y] 30)).alloc (Obj.cells #[Value.string { data := #[] }, Value.string { data := #[] }] 30)) := ((Kp.refl _ _).alloc _).alloc _
  have C0 : ∀ v, Kp [w.heap.size + 1] ((w.alloc (Obj.cells #[Value.string x, Value.string y] 30)).alloc (Obj.cells #[Value.string { data := #[] }, Value.string { data := #[] }] 30)) v → v.heap[w.heap.size]? = some (.cells #[Value.string x, Value.string y] 30) := by
    intro v kv
    rw [kv.block _ (by simp; omega) (by simp), Below.heap_alloc _ _ _ (by simp)]
    exact heap_new w _
  have D0 : ∀ v, Kp [] ((w.alloc (Obj.cells #[Value.string x, Value.string y] 30)).alloc (Obj.cells #[Value.string { data := #[] }, Value.string { data := #[] }] 30)) v → v.heap[w.heap.size + 1]? = some (.cells #[Value.string { data := #[] }, Value.string { data := #[] }] 30) := by
    intro v kv
    rw [kv.block _ (by simp) (by simp)]
    exact heap_new' _ _ _ (by simp)
  generalize (w.alloc (Obj.cells #[Value.string x, Value.string y] 30)).alloc (Obj.cells #[Value.string { data := #[] }, Value.string { data := #[] }] 30) = W at K0 C0 D0
  have C1 : Hid (∀ v, Kp [w.heap.size + 1] W v → v.cell? ⟨w.heap.size, 0, none⟩ = some (.string x) ∧ v.cell? ⟨w.heap.size, 1, none⟩ = some (.string y)) := fun v kv => ⟨by rw [cell_of (C0 v kv)]; rfl, by rw [cell_of (C0 v kv)]; rfl⟩
  have C2 : Hid (∀ v, Kp [] W v → v.cell? ⟨w.heap.size + 1, 0, none⟩ = some (.string ⟨#[]⟩) ∧ v.cell? ⟨w.heap.size + 1, 1, none⟩ = some (.string ⟨#[]⟩) ∧ v.frozen? ⟨w.heap.size + 1, 0, none⟩ = false ∧ v.frozen? ⟨w.heap.size + 1, 1, none⟩ = false) := fun v kv => ⟨by rw [cell_of (D0 v kv)]; rfl, by rw [cell_of (D0 v kv)]; rfl, frozen_of (D0 v kv) _, frozen_of (D0 v kv) _⟩
  clear C0 D0
  have U : Hid (∀ v, Kp [] W v → Kp [w.heap.size + 1] W v) := fun v kv => kv.mono (fun x hx => by simp at hx)
  have V : Hid (∀ v p q, Kp [] W v → Kp [w.heap.size + 1] W ((v.setCell ⟨w.heap.size + 1, 0, none⟩ p).setCell ⟨w.heap.size + 1, 1, none⟩ q)) := fun v p q kv => ((U.out v kv).setCell (Or.inl (by simp)) _).setCell (Or.inl (by simp)) _
  obtain ⟨e0, e1⟩ := C1.out W (Kp.refl _ _)
  go_region_held3 (fun w' => Kp [w.heap.size + 1] W w' ∧ w'.cell? ⟨w.heap.size, 0, none⟩ = some (.string x) ∧ w'.cell? ⟨w.heap.size, 1, none⟩ = some (.string y))
    (first
      | exact ⟨V.out _ _ _ S2.out, C1.out _ (V.out _ _ _ S2.out)⟩
      | exact ⟨U.out _ S2.out, C1.out _ (U.out _ S2.out)⟩
      | exact ⟨U.out _ S1.out, C1.out _ (U.out _ S1.out)⟩
      | exact ⟨(Kp.refl _ W).drew, C1.out _ (Kp.refl _ W).drew⟩)
    (first
      | (go_at_call 82; refine (HY _).mono ?_; rintro e v2 ⟨rfl, kk⟩; have S2 : Hid (Kp [] W v2) := S1.out.trans kk (fun x hx => by simp at hx); clear kk; obtain ⟨g0, g1, g2, g3⟩ := C2.out _ S2.out)
      | (go_at_call 82; refine (HX _).mono ?_; rintro e v1 ⟨rfl, kk⟩; have S1 : Hid (Kp [] W v1) := (Kp.refl [] W).drew.trans kk (fun x hx => by simp at hx); clear kk))
  have KZ : Kp [] w ((v2.setCell ⟨w.heap.size + 1, 0, none⟩ (.string x)).setCell ⟨w.heap.size + 1, 1, none⟩ (.string y)) := K0.trans (V.out _ _ _ S2.out) (fun z hz => by simp at hz; omega)
  have Z0 : ((v2.setCell ⟨w.heap.size + 1, 0, none⟩ (.string x)).setCell ⟨w.heap.size + 1, 1, none⟩ (.string y)).cell? ⟨w.heap.size + 1, 0, none⟩ = some (.string x) := by
    rw [World.cell?_setCell_other _ _ _ _ (fun e => by simp at e), World.cell?_setCell_same _ _ _ (by rw [g0])]
  have Z1 : ((v2.setCell ⟨w.heap.size + 1, 0, none⟩ (.string x)).setCell ⟨w.heap.size + 1, 1, none⟩ (.string y)).cell? ⟨w.heap.size + 1, 1, none⟩ = some (.string y) := by
    rw [World.cell?_setCell_same _ _ _ (by rw [World.cell?_setCell_other _ _ _ _ (fun e => by simp at e), g1])]
  generalize (v2.setCell ⟨w.heap.size + 1, 0, none⟩ (.string x)).setCell ⟨w.heap.size + 1, 1, none⟩ (.string y) = Z at KZ Z0 Z1
  clear C1 C2 U V e0 e1 S1 S2 g0 g1 g2 g3 HX HY
  go_wp2
  refine bodyPost_ret (v := .agg #[.string x, .string y]) (by simp [results, go_sem, Z0, Z1]) rfl ⟨rfl, KZ⟩

end Go.Proofs.YtgjkfpmhgidpaaaGreat

/-
  The program's copyOf, Add; the document's Add, More, Unique.
-/
namespace Go.Proofs.YtgjkfpmhgidpaaaGreat
open Go.RowKit

theorem take_snoc {l : List Att} {k : Nat} (h : k < l.length) : l.take (k + 1) = l.take k ++ [l[k]] := by
  rw [List.take_succ_eq_append_getElem h]

theorem fits_one {l : List Att} (h : fits l) {k : Nat} (hk : k < l.length) : fits [l[k]] := fun a ha => by
  simp only [List.mem_singleton] at ha
  rw [ha]
  exact h _ (List.getElem_mem hk)

/-- make, of none, with room. -/
theorem make_room (w : World) (n m : Nat) (h1 : n ≤ 100000) (h2 : m ≤ 100000) :
    ∃ w1, (Instr.makeSlice 26 (.int .i64 0) (.int .i64 ((n : Int) + (m : Int)))).run Tryz.prog w = .ok (.slice (some ⟨w.heap.size, 0, none⟩) 0 (n + m)) w1 ∧ Mp w w1 (some ⟨w.heap.size, 0, none⟩) 0 (n + m) [] := by
  obtain ⟨i, hi0, hi1, hi2, hi3⟩ := info_parts info23
  have hr := run_make (P := Tryz.prog) w 26 30 i _ Tryz.underlying26 hi0 hi1 .i64 .i64 0 ((n : Int) + (m : Int)) (Int.le_refl _) (by omega) (by rw [hi3]; omega) (by omega)
  rw [show ((n : Int) + (m : Int)).toNat = n + m by omega] at hr
  refine ⟨_, hr, ownK_new 2 w 30 _ [] 0 (n + m) rfl (by omega) (by unfold maxLen; omega) (by rw [size_madeCells, hi2]; exact Nat.le_refl _) (fun j hj => by omega), (Kp.refl _ _).alloc _, fun k hk => by simp [blk] at hk; omega⟩

set_option maxHeartbeats 1000000 in
theorem copy_any (w : World) (l : List Att) (ao : Option Addr) (n c m : Nat) (hr : Rp w ao n c l) (hl : n ≤ 100000) (hm : m ≤ 100000) (hf : fits l) :
    Calls Tryz.prog 111 #[.slice ao n c, .int .i64 (m : Int)] w fun e w' => ∃ ao' n' c', e = .returned (.slice ao' n' c') ∧ Mp w w' ao' n' c' l := by
  obtain rfl := hr.len
  obtain ⟨w1, hmk, M1⟩ := make_room w l.length m hl hm
  go_enter Tryz.func111, Tryz.ntmps111
  go_wp2
  clear hmk
  generalize some (⟨w.heap.size, 0, none⟩ : Addr) = ao0 at M1
  generalize l.length + m = c0 at M1
  go_loopw [5, 15] (fun v i wr => ∃ (k : Nat) (ao' : Option Addr) (n' c' : Nat), k ≤ l.length ∧ i = .int .i64 k ∧ v = .slice ao' n' c' ∧ Mp w wr ao' n' c' (l.take k)) (fun _ i _ => l.length - (intOf i).toNat)
  case atStart => exact ⟨0, _, _, _, Nat.zero_le _, rfl, rfl, M1⟩
  case round =>
    obtain ⟨k, ao', n', c', hk, rfl, rfl, M⟩ := hrel
    clear M1
    by_cases hlt : k < l.length
    · obtain ⟨b1, o1, rfl, h1, h2⟩ := (hr.kept M.kp).get k hlt
      have hs := take_snoc hlt
      have hf1 := fits_one hf hlt
      have hn : n' ≤ 100000 := by have := M.len; simp at this; omega
      generalize l[k] = a at h1 h2 hs hf1
      clear hr hf
      have HO := own_any (wr.alloc (.cells #[.string a.1, .string a.2] 30)) a hf1
      clear hf1
      unfold av at HO
      go_wp2_with fail
      refine HO.mono ?_
      rintro e w3 ⟨rfl, k3⟩
      clear HO
      have M3 := (M.kept ((Kp.refl _ _).alloc (.cells #[.string a.1, .string a.2] 30))).kept k3
      obtain ⟨a4, n4, c4, w4, hrun, M4⟩ := M3.one a (by omega)
      rw [← hs] at M4
      clear M M3 k3 hs h1 h2
      go_wp2_with (at_builtin; refine Lib.wpList_append_run _ rfl _ _ _ _ rfl _ _ rfl rfl _ _ (hrun _) ?_)
      go_roundw
      case rel => exact ⟨k + 1, _, _, _, by omega, by go_num, rfl, M4⟩
      case measure => simp [intOf]; omega
    · obtain rfl : k = l.length := by omega
      rw [List.take_length] at M
      go_wp2
      go_ret
      exact ⟨_, _, _, rfl, M⟩

/-- A literal of none. -/
theorem mp_none (w : World) : Mp w (w.alloc (.cells #[] 30)) (some ⟨w.heap.size, 0, none⟩) 0 0 [] := rp_lit w #[] [] 0 rfl rfl (by omega)

theorem has_idx (l : List Att) (x : ByteArray) : (∃ i, idx l x = some i ∧ hasN l x = true) ∨ (idx l x = none ∧ hasN l x = false) := by
  have := idx_some (l := l) (x := x)
  cases h : idx l x with
  | none => exact Or.inr ⟨rfl, by rw [h] at this; exact this.symm⟩
  | some i => exact Or.inl ⟨i, rfl, by rw [h] at this; exact this.symm⟩


set_option maxHeartbeats 1000000 in
theorem ref_add_any (w : World) (l : List Att) (a : Att) (ao : Option Addr) (n c : Nat) (hr : Rp w ao n c l) (hl : n ≤ 30000) :
    Calls Tryz.prog 99 #[.slice ao n c, av a] w fun e w' => ∃ ao' n' c', e = .returned (.slice ao' n' c') ∧ Mp w w' ao' n' c' (add l a) := by
  have kb : Kp [] w (w.alloc (.cells #[.string a.1, .string a.2] 30)) := (Kp.refl _ _).alloc _
  have cb : (w.alloc (.cells #[.string a.1, .string a.2] 30)).heap[w.heap.size]? = some (.cells #[.string a.1, .string a.2] 30) := heap_new _ _
  have lb : w.heap.size < (w.alloc (.cells #[.string a.1, .string a.2] 30)).heap.size := by simp
  have e0 : (w.alloc (.cells #[.string a.1, .string a.2] 30)).heap.size = w.heap.size + 1 := by simp
  have M1 := mp_none (w.alloc (.cells #[.string a.1, .string a.2] 30))
  have hr1 := (hr.kept kb).kept M1.kp
  obtain ⟨a2, n2, c2, w2, hrun, M2⟩ := M1.app (hr1.src Tryz.underlying26) (fun h => by cases h) (by omega)
  rw [e0] at hrun
  have hr2 := (hr.kept kb).kept M2.kp
  have M2b := M2.back kb
  have cb2 : w2.heap[w.heap.size]? = some (.cells #[.string a.1, .string a.2] 30) := by rw [M2.kp.block _ lb (by simp)]; exact cb
  have g1 : w2.cell? ⟨w.heap.size, 0, none⟩ = some (.string a.1) := by rw [cell_of cb2]; rfl
  rw [List.nil_append] at M2b
  have HH := ref_has_any w2 a.1 l ao n c hr2 (by omega)
  have hn : n2 ≤ 100000 := by have := M2b.len; have := hr.len; omega
  clear M1 hr1 M2 kb cb lb e0 hr2
  unfold av
  go_enter Tryz.func99, Tryz.ntmps99
  go_wp2_with (first
    | (at_builtin; refine Lib.wpList_append_run _ rfl _ _ _ _ rfl _ _ rfl rfl _ _ (hrun _) ?_)
    | (go_at_call 113; refine Hid.out ?_))
  unfold Hid
  refine HH.mono ?_
  rintro e w3 ⟨rfl, k3⟩
  clear HH hrun
  have M3 := M2b.kept k3
  have cb3 : w3.heap[w.heap.size]? = some (.cells #[.string a.1, .string a.2] 30) := by rw [k3.block _ (lt_of cb2) (by simp)]; exact cb2
  have g2 : w3.cell? ⟨w.heap.size, 0, none⟩ = some (.string a.1) := by rw [cell_of cb3]; rfl
  have g3 : w3.cell? ⟨w.heap.size, 1, none⟩ = some (.string a.2) := by rw [cell_of cb3]; rfl
  clear g1 cb2 M2b k3 cb3
  rcases has_idx l a.1 with ⟨i, hi, hh⟩ | ⟨hi, hh⟩
  · rw [hi]
    have e1 : add l a = l := by unfold add; rw [hh]; rfl
    simp only [plc]
    go_wp2
    go_ret
    exact ⟨_, _, _, rfl, by rw [e1]; exact M3⟩
  · rw [hi]
    have e1 : add l a = l ++ [a] := by unfold add; rw [hh]; rfl
    simp only [plc]
    obtain ⟨a5, n5, c5, w5, hrun, M5⟩ := M3.one a (by omega)
    go_wp2_with (at_builtin; refine Lib.wpList_append_run _ rfl _ _ _ _ rfl _ _ rfl rfl _ _ (hrun _) ?_)
    go_ret
    exact ⟨_, _, _, rfl, by rw [e1]; exact M5⟩

end Go.Proofs.YtgjkfpmhgidpaaaGreat

/-
  More and Unique, of the document and of the program; the program's table of first places.
-/
namespace Go.Proofs.YtgjkfpmhgidpaaaGreat
open Go.RowKit Go.Maps


theorem rp_nil (w : World) : Rp w none 0 0 [] := ⟨rfl, Nat.le_refl _, fun j hj => by omega⟩


/-- How a key reads. -/
def kl (x : ByteArray) : Lit := .string x.data.toList

theorem law9 : Keyed Tryz.prog 9 := string_keyed Tryz.underlying9
theorem zero3 (w : World) : (zeroValue 3).run Tryz.prog w = .ok (.int .i64 0) w := by kernel_rfl

/-- Block b is a table of the first places of l's names. -/
def Tab (w : World) (b : Nat) (l : List Att) (k : Nat) : Prop :=
  ∃ D : DataW Unit, w.ownsMap Tryz.prog 9 (plainElem Tryz.prog 3) b k D ∧ Maps.size D = (uniq l).length ∧
    ∀ x, Maps.has D (kl x) = (idx l x).isSome ∧ ∀ i, idx l x = some i → D.atKey (kl x) (.lit (.int .i64 0)) = .lit (.int .i64 i)

theorem kp_grown {w w' : World} {b : Nat} (h : w.grownBy w' (some b)) : Kp [b] w w' :=
  ⟨h.os, h.tape, h.output, h.size, fun k hk hn => h.block k hk (fun e => by simp at e; exact hn (by simp [e]))⟩

theorem key_of {x : ByteArray} (h : x.size ≤ 140737488355328) : keyOf Tryz.prog 9 (.string x) = some (kl x) := WideMaps.keyOf_string_mk Tryz.underlying9 (by unfold maxLen; omega)

theorem kl_key (x : ByteArray) : WideAt.IsKeyLit (kl x) := trivial

theorem kl_inj {x y : ByteArray} (h : kl x = kl y) : x = y := by
  unfold kl at h
  simp only [Lit.string.injEq] at h
  exact ByteArray.ext (Array.ext' h)

theorem Tab.lt {w : World} {b : Nat} {l : List Att} {k : Nat} (h : Tab w b l k) : b < w.heap.size := by
  obtain ⟨D, h, _⟩ := h
  exact h.lt

theorem Tab.keep {w w' : World} {S : List Nat} {b : Nat} {l : List Att} {k : Nat} (h : Tab w b l k) (hk : Kp S w w') (hn : b ∉ S) : Tab w' b l k := by
  have hl := h.lt
  obtain ⟨D, ⟨es, clock, hb, r⟩, r2⟩ := h
  exact ⟨D, ⟨es, clock, by rw [hk.block b hl hn]; exact hb, r⟩, r2⟩

theorem Tab.same {w w' : World} {b : Nat} {l : List Att} {k : Nat} (h : Tab w b l k) (hb : w'.heap[b]? = w.heap[b]?) : Tab w' b l k := by
  obtain ⟨D, ⟨es, clock, h1, r⟩, r2⟩ := h
  exact ⟨D, ⟨es, clock, by rw [hb]; exact h1, r⟩, r2⟩

theorem Tab.mono {w : World} {b : Nat} {l : List Att} {k k' : Nat} (h : Tab w b l k) (hk : k ≤ k') : Tab w b l k' := by
  obtain ⟨D, h1, r⟩ := h
  exact ⟨D, h1.mono hk, r⟩

theorem tab_new (w : World) : Tab (w.alloc (.map #[] 0)) w.heap.size [] 0 :=
  ⟨.map [], World.ownsMap_made w Tryz.prog 9 _, rfl, fun x => ⟨rfl, fun i h => by cases h⟩⟩

theorem hasN_uniq (l : List Att) (x : ByteArray) : hasN (uniq l) x = hasN l x := by unfold hasN; rw [getF_uniq]

theorem uniq_snoc (l : List Att) (a : Att) : uniq (l ++ [a]) = add (uniq l) a := more_snoc [] l a

/-- A name that is there already. -/
theorem Tab.old {w : World} {b : Nat} {l : List Att} {k : Nat} (h : Tab w b l k) (a : Att) (hi : (idx l a.1).isSome = true) : Tab w b (l ++ [a]) (k + 1) := by
  obtain ⟨D, h1, h2, h3⟩ := h
  refine ⟨D, h1.mono (by omega), ?_, fun x => ?_⟩
  · rw [uniq_snoc]
    unfold add
    rw [hasN_uniq, ← idx_some, hi, if_pos rfl]
    exact h2
  · have : idx (l ++ [a]) x = idx l x := by
      rw [idx_snoc]
      cases hx : idx l x with
      | some i => rfl
      | none =>
        have : eqs a.1 x = false := by
          cases he : eqs a.1 x
          · rfl
          · rw [eqs_iff.1 he, hx] at hi; cases hi
        rw [this]
        rfl
    rw [this]
    exact h3 x

/-- One that is new. -/
theorem tab_put {w w' : World} {b : Nat} {l : List Att} {k : Nat} {D : DataW Unit} (h2 : Maps.size D = (uniq l).length) (h3 : ∀ x, Maps.has D (kl x) = (idx l x).isSome ∧ ∀ i, idx l x = some i → D.atKey (kl x) (.lit (.int .i64 0)) = .lit (.int .i64 i)) (h0 : w.ownsMap Tryz.prog 9 (plainElem Tryz.prog 3) b k D)
    (a : Att) (hi : idx l a.1 = none) (h1 : w'.ownsMap Tryz.prog 9 (plainElem Tryz.prog 3) b (k + 1) (D.put (kl a.1) (.lit (.int .i64 (l.length : Int))))) : Tab w' b (l ++ [a]) (k + 1) := by
  have hh : Maps.has D (kl a.1) = false := by rw [(h3 a.1).1, hi]; rfl
  have htd := h0.tidy law9
  refine ⟨_, h1, ?_, fun x => ?_⟩
  · rw [Maps.size_put htd, hh, uniq_snoc]
    unfold add
    rw [hasN_uniq, ← idx_some, hi]
    simp [h2]
  · rw [idx_snoc]
    cases he : eqs a.1 x
    · have hne : kl x ≠ kl a.1 := fun e => by rw [kl_inj e, eqs_refl] at he; cases he
      rw [Maps.has_put_other hne]
      have : (idx l x).or (if false = true then some l.length else none) = idx l x := by simp
      rw [this]
      exact ⟨(h3 x).1, fun i hx => by rw [Maps.atKey_put_other hne]; exact (h3 x).2 i hx⟩
    · obtain rfl := eqs_iff.1 he
      rw [hi]
      exact ⟨by rw [Maps.has_put_same htd.isMap (kl_key a.1)]; rfl, fun i hx => by
        simp at hx
        subst hx
        rw [Maps.atKey_put_same htd.isMap (kl_key a.1)]⟩

theorem make_map (w : World) (n : Nat) : (Instr.makeMap 153 (some (.int .i64 (n : Int)))).run Tryz.prog w = .ok (.map (some w.heap.size)) (w.alloc (.map #[] 0)) := by
  simp [Instr.makeMap, run_underlying Tryz.underlying153, asInt, asIntOf, newObj]
  rfl

set_option maxHeartbeats 1000000 in
theorem firsts_any (w : World) (l : List Att) (ao : Option Addr) (n c : Nat) (hr : Rp w ao n c l) (hl : n ≤ 100000) (hf : fits l) :
    Calls Tryz.prog 110 #[.slice ao n c] w fun e w' => e = .returned (.map (some w.heap.size)) ∧ Kp [] w w' ∧ Tab w' w.heap.size l l.length := by
  obtain rfl := hr.len
  have hmk := make_map w l.length
  have k0 : Kp [] w (w.alloc (.map #[] 0)) := (Kp.refl _ _).alloc _
  have T0 := tab_new w
  go_enter Tryz.func110, Tryz.ntmps110
  go_wp2
  clear hmk
  go_loopw [13] (fun i wr => ∃ k : Nat, k ≤ l.length ∧ i = .int .i64 k ∧ Kp [] w wr ∧ Tab wr w.heap.size (l.take k) k) (fun i _ => l.length - (intOf i).toNat)
  case atStart => exact ⟨0, Nat.zero_le _, rfl, k0, T0⟩
  case round =>
    obtain ⟨k, hk, rfl, hkp, T⟩ := hrel
    clear T0 k0
    by_cases hlt : k < l.length
    · obtain ⟨b1, o1, rfl, h1, h2⟩ := (hr.kept hkp).get k hlt
      have hts := take_snoc hlt
      have hfa := (hf l[k] (List.getElem_mem hlt)).1
      generalize l[k] = a at h1 h2 hts hfa
      have hkey := key_of hfa
      clear hr hf hfa
      have T' := T
      obtain ⟨D, hown, hsz, hx⟩ := T
      have hh := (hx a.1).1
      have hsize := hown.lt
      rcases has_idx (l.take k) a.1 with ⟨i, hi, _⟩ | ⟨hi, _⟩
      · have T2 := (T'.keep ((Kp.refl [] wr).alloc (.cells #[.string a.1, .string a.2] 30)) (by simp)).old a (by rw [hi]; rfl)
        rw [← hts] at T2
        rw [hi] at hh
        simp only [Option.isSome_some] at hh
        clear T' hi hx hsz hts
        go_wp2_with (at_lookup; refine wpList_lookup_own_ok_int _ rfl _ _ 153 rfl 9 3 .i64 law9 Tryz.underlying153 Tryz.underlying3 (zero3 _) w.heap.size k D rfl (hown.alloc _) _ _ rfl hkey ?_; intro c1 hat hwc)
        go_roundw
        case rel => exact ⟨k + 1, by omega, by go_num, hkp.alloc _, T2⟩
        case measure => simp [intOf]; omega
      · have hP := fun w' h1 => tab_put (w' := w') hsz hx hown a hi h1
        rw [List.length_take, Nat.min_eq_left hk, ← hts] at hP
        rw [hi] at hh
        simp only [Option.isSome_none] at hh
        clear T' hi hx hsz hts
        go_wp2_with (first
          | (at_lookup; refine wpList_lookup_own_ok_int _ rfl _ _ 153 rfl 9 3 .i64 law9 Tryz.underlying153 Tryz.underlying3 (zero3 _) w.heap.size k D rfl (hown.alloc _) _ _ rfl hkey ?_; intro c1 hat hwc)
          | (at_mapUpdate; refine wpList_mapUpdate_own _ rfl _ _ _ 153 rfl 9 3 law9 Tryz.underlying153 _ w.heap.size k D rfl (hown.alloc _) (by unfold maxLen; omega) _ _ _ rfl rfl hkey _ [] (plainElem_int Tryz.underlying3 (WalkArith.wf_i64 (by omega))) ?_; intro w1 hown1 hgrow1))
        go_roundw
        case rel => exact ⟨k + 1, by omega, by go_num, (hkp.alloc _).trans (kp_grown hgrow1) (fun z hz => by simp at hz; omega), hP _ hown1⟩
        case measure => simp [intOf]; omega
    · obtain rfl : k = l.length := by omega
      rw [List.take_length] at T
      go_wp2
      go_ret
      exact ⟨rfl, hkp, T⟩

/-- A slice of attributes made since w, while the blocks of S may have been written. -/
def Ms (S : List Nat) (w w' : World) (ao : Option Addr) (n c : Nat) (l : List Att) : Prop := OwnK 2 w' 30 (.slice ao n c) n (cs l) ∧ Kp S w w' ∧ ∀ k, k ∈ blk (.slice ao n c) → w.heap.size ≤ k

theorem Ms.len {S : List Nat} {w w' : World} {ao : Option Addr} {n c : Nat} {l : List Att} (h : Ms S w w' ao n c l) : n = l.length := by
  have := h.1.1
  rw [cs_len] at this
  omega

theorem Ms.kept {S : List Nat} {w w1 w2 : World} {ao : Option Addr} {n c : Nat} {l : List Att} (h : Ms S w w1 ao n c l) (k : Kp S w1 w2) (hS : ∀ x, x ∈ S → x < w.heap.size) : Ms S w w2 ao n c l :=
  ⟨h.1.keep k (fun x hx hs => by have := h.2.2 x hx; have := hS x hs; omega), h.2.1.trans k (fun x hx => Or.inl hx), h.2.2⟩

theorem Ms.one {S : List Nat} {w w1 : World} {ao : Option Addr} {n c : Nat} {l : List Att} (h : Ms S w w1 ao n c l) (a : Att) (hlen : n + 1 ≤ 1000000) (hS : ∀ x, x ∈ S → x < w.heap.size) :
    ∃ ao' n' c' w2, (∀ ty, (Builtin.append_ #[26, 26] ty #[.slice ao n c, .slice (some ⟨w1.heap.size, 0, none⟩) 1 1]).run Tryz.prog (w1.alloc (.cells #[.string a.1, .string a.2] 30)) = .ok (.slice ao' n' c') w2) ∧ Ms S w w2 ao' n' c' (l ++ [a]) ∧ ∀ b, b < w.heap.size → b ∈ S → w2.heap[b]? = w1.heap[b]? := by
  have k1 : Kp S w1 (w1.alloc (.cells #[.string a.1, .string a.2] 30)) := (Kp.refl _ _).alloc _
  have hr := (rp_lit w1 #[.string a.1, .string a.2] [a] 1 rfl rfl (by omega)).rp
  obtain ⟨h1, h2, h3⟩ := h.kept k1 hS
  obtain ⟨v', w2, hrun, o2, k2, b2, a2, c2, rfl⟩ := appK Tryz.underlying26 info23 rfl (by decide) _ _ _ _ h1 _ 1 (cs [a]) (hr.src Tryz.underlying26) (fun _ => by omega) hlen
  refine ⟨_, _, _, w2, hrun, ⟨by rw [cs_append]; exact o2, h2.trans k2 (fun x hx => Or.inr (h3 x hx)), fun k hk => ?_⟩, fun b hb _ => ?_⟩
  · rcases b2 k hk with h4 | h4
    · exact h3 k h4
    · have := h2.size
      omega
  · rw [k2.block b (Nat.lt_of_lt_of_le hb h2.size) (fun hx => by have := h3 b hx; omega), Below.heap_alloc _ _ _ (Nat.lt_of_lt_of_le hb h.2.1.size)]

set_option maxHeartbeats 1000000 in
theorem more_any (w : World) (l m : List Att) (ao bo : Option Addr) (n c p d : Nat) (hr : Rp w ao n c l) (hs : Rp w bo p d m) (hl : n ≤ 10000) (hm : p ≤ 10000) (hfl : fits l) (hfm : fits m) :
    Calls Tryz.prog 98 #[.slice ao n c, .slice bo p d] w fun e w' => ∃ ao' n' c', e = .returned (.slice ao' n' c') ∧ Mp w w' ao' n' c' (more l m) := by
  have hln : l.length ≤ 10000 := by have := hr.len; omega
  have HF := firsts_any w l ao n c hr (by omega) hfl
  obtain rfl := hs.len
  go_enter Tryz.func98, Tryz.ntmps98
  go_wp2_with fail
  refine HF.mono ?_
  rintro e w1 ⟨rfl, k1, T1⟩
  clear HF
  have HC := copy_any w1 l ao n c m.length (hr.kept k1) (by omega) (by omega) hfl
  clear hr hfl
  go_wp2_with fail
  refine HC.mono ?_
  rintro e w2 ⟨a2, n2, c2, rfl, M2⟩
  clear HC
  have T2 := T1.keep M2.kp (by simp)
  have hb1 := T1.lt
  have S2 : Ms [w.heap.size] w1 w2 a2 n2 c2 l := ⟨M2.1, M2.2.1.mono (fun x hx => by simp at hx), M2.2.2⟩
  clear T1 M2
  go_wp2
  go_loopw [6, 19] (fun v i wr => ∃ (k : Nat) (ao' : Option Addr) (n' c' : Nat), k ≤ m.length ∧ i = .int .i64 k ∧ v = .slice ao' n' c' ∧ Ms [w.heap.size] w1 wr ao' n' c' (more l (m.take k)) ∧ Tab wr w.heap.size (more l (m.take k)) (l.length + k)) (fun _ i _ => m.length - (intOf i).toNat)
  case atStart => exact ⟨0, _, _, _, Nat.zero_le _, rfl, rfl, S2, T2⟩
  case round =>
    obtain ⟨k, ao', n', c', hk, rfl, rfl, M, T⟩ := hrel
    clear S2 T2
    have kw : Kp [] w wr := k1.trans M.2.1 (fun x hx => by simp at hx; omega)
    by_cases hlt : k < m.length
    · obtain ⟨b1, o1, rfl, h1, h2⟩ := (hs.kept kw).get k hlt
      have hts := take_snoc hlt
      have hfa := fits_one hfm hlt
      have hn : n' ≤ 30000 := by
        have e1 := M.len
        have e2 := more_len (m.take k) l
        simp at e2
        omega
      have hml := M.len
      generalize m[k] = a at h1 h2 hts hfa
      have hkey := key_of (hfa a (by simp)).1
      have hmore : more l (m.take (k + 1)) = add (more l (m.take k)) a := by rw [hts, more_snoc]
      clear hs hfm hts
      have T' := T
      obtain ⟨D, hown, hsz, hx⟩ := T
      have hh := (hx a.1).1
      have hsize := hown.lt
      rcases has_idx (more l (m.take k)) a.1 with ⟨i, hi, hN⟩ | ⟨hi, hN⟩
      · have hmore2 : Hid (more l (m.take (k + 1)) = more l (m.take k)) := by rw [hmore]; unfold add; rw [hN]; rfl
        have ka : Kp [w.heap.size] wr (wr.alloc (.cells #[.string a.1, .string a.2] 30)) := (Kp.refl _ _).alloc _
        have M3 := M.kept ka (fun x hx => by simp at hx; omega)
        have T3 : Tab (wr.alloc (.cells #[.string a.1, .string a.2] 30)) w.heap.size (more l (m.take k)) (l.length + (k + 1)) := (T'.keep ((Kp.refl [] wr).alloc _) (by simp)).mono (by omega)
        rw [hi] at hh
        simp only [Option.isSome_some] at hh
        clear T' hi hx hsz hmore hN M ka hml
        go_wp2_with (at_lookup; refine wpList_lookup_own_ok_int _ rfl _ _ 153 rfl 9 3 .i64 law9 Tryz.underlying153 Tryz.underlying3 (zero3 _) w.heap.size (l.length + k) D rfl (hown.alloc _) _ _ rfl hkey ?_; intro c1 hat hwc)
        go_roundw
        case rel => exact ⟨k + 1, _, _, _, by omega, by go_num, rfl, by rw [hmore2.out]; exact M3, by rw [hmore2.out]; exact T3⟩
        case measure => simp [intOf]; omega
      · have hmore2 : Hid (more l (m.take (k + 1)) = more l (m.take k) ++ [a]) := by rw [hmore]; unfold add; rw [hN]; rfl
        have hP : Hid (∀ w', w'.ownsMap Tryz.prog 9 (plainElem Tryz.prog 3) w.heap.size (l.length + k + 1) (D.put (kl a.1) (.lit (.int .i64 (n' : Int)))) → Tab w' w.heap.size (more l (m.take k) ++ [a]) (l.length + k + 1)) := by
          intro w' h1
          rw [hml] at h1
          exact tab_put hsz hx hown a hi h1
        rw [hi] at hh
        simp only [Option.isSome_none] at hh
        have ka : Kp [w.heap.size] wr (wr.alloc (.cells #[.string a.1, .string a.2] 30)) := (Kp.refl _ _).alloc _
        have hb3 : (wr.alloc (.cells #[.string a.1, .string a.2] 30)).heap[wr.heap.size]? = some (.cells #[.string a.1, .string a.2] 30) := heap_new _ _
        clear T' hi hx hsz hmore hN hml
        go_wp2_with (first
          | (at_lookup; refine wpList_lookup_own_ok_int _ rfl _ _ 153 rfl 9 3 .i64 law9 Tryz.underlying153 Tryz.underlying3 (zero3 _) w.heap.size (l.length + k) D rfl (hown.alloc _) _ _ rfl hkey ?_; intro c1 hat hwc)
          | (at_mapUpdate; refine wpList_mapUpdate_own _ rfl _ _ _ 153 rfl 9 3 law9 Tryz.underlying153 _ w.heap.size (l.length + k) D rfl (hown.alloc _) (by unfold maxLen; omega) _ _ _ rfl rfl hkey _ [] (plainElem_int Tryz.underlying3 (WalkArith.wf_i64 (by omega))) ?_; intro w3 hown3 hgrow3; refine Hid.out ?_))
        unfold Hid
        have k3 := kp_grown hgrow3
        have hb4 : w3.heap[wr.heap.size]? = some (.cells #[.string a.1, .string a.2] 30) := by rw [k3.block _ (by simp) (by simp; omega)]; exact hb3
        have g0 : w3.cell? ⟨wr.heap.size, 0, none⟩ = some (.string a.1) := by rw [cell_of hb4]; rfl
        have g1 : w3.cell? ⟨wr.heap.size, 1, none⟩ = some (.string a.2) := by rw [cell_of hb4]; rfl
        have M3 := (M.kept ka (fun x hx => by simp at hx; omega)).kept k3 (fun x hx => by simp at hx; omega)
        have T3 := hP.out _ hown3
        have HO := own_any w3 a hfa
        unfold av at HO
        clear hP hown3 hown hgrow3 hb3 hb4 ka k3 hat hwc hkey M hh hfa
        go_wp2_with fail
        refine HO.mono ?_
        rintro e w4 ⟨rfl, k4⟩
        clear HO
        have M4 := M3.kept (k4.mono (fun x hx => by simp at hx)) (fun x hx => by simp at hx; omega)
        have T4 := T3.keep k4 (by simp)
        obtain ⟨a5, n5, c5, w5, hrun, M5, hb5⟩ := M4.one a (by omega) (fun x hx => by simp at hx; omega)
        have T5 := T4.same (hb5 _ hb1 (by simp))
        clear M3 T3 M4 T4 k4 hb5 g0 g1
        go_wp2_with (at_builtin; refine Lib.wpList_append_run _ rfl _ _ _ _ rfl _ _ rfl rfl _ _ (hrun _) ?_)
        go_roundw
        case rel => exact ⟨k + 1, _, _, _, by omega, by go_num, rfl, by rw [hmore2.out]; exact M5, by rw [hmore2.out]; exact T5⟩
        case measure => simp [intOf]; omega
    · obtain rfl : k = m.length := by omega
      rw [List.take_length] at M
      go_wp2
      go_ret
      exact ⟨_, _, _, rfl, M.1, kw, fun x hx => Nat.le_trans k1.size (M.2.2 x hx)⟩

set_option maxHeartbeats 1000000 in
theorem uniq_any (w : World) (m : List Att) (bo : Option Addr) (p d : Nat) (hs : Rp w bo p d m) (hm : p ≤ 10000) (hf : fits m) :
    Calls Tryz.prog 72 #[.slice bo p d] w fun e w' => ∃ ao' n' c', e = .returned (.slice ao' n' c') ∧ Mp w w' ao' n' c' (uniq m) := by
  have H := more_any w [] m none bo 0 0 p d (rp_nil w) hs (by omega) hm (fun a ha => by simp at ha) hf
  go_enter Tryz.func72, Tryz.ntmps72
  go_wp2_with fail
  refine H.mono ?_
  rintro e w3 ⟨a3, n3, c3, rfl, M3⟩
  clear H
  go_wp2
  go_ret
  exact ⟨_, _, _, rfl, M3⟩

end Go.Proofs.YtgjkfpmhgidpaaaGreat

/-
  Same, of the program, of the document and of the book.
-/
namespace Go.Proofs.YtgjkfpmhgidpaaaGreat
open Go.RowKit

/-- Two attributes are the same, or parted by their names, or by their values. -/
theorem parted (x y : Att) : (x = y ∧ x.1.toList = y.1.toList ∧ x.2.toList = y.2.toList) ∨ (x ≠ y ∧ ¬ x.1.toList = y.1.toList) ∨ (x ≠ y ∧ x.1.toList = y.1.toList ∧ ¬ x.2.toList = y.2.toList) := by
  by_cases h1 : x.1 = y.1
  · by_cases h2 : x.2 = y.2
    · exact Or.inl ⟨Prod.ext h1 h2, by rw [h1], by rw [h2]⟩
    · refine Or.inr (Or.inr ⟨fun h => h2 (by rw [h]), by rw [h1], fun h => h2 (eqs_iff.1 ?_)⟩)
      unfold eqs
      rw [h]
      simp
  · refine Or.inr (Or.inl ⟨fun h => h1 (by rw [h]), fun h => h1 (eqs_iff.1 ?_)⟩)
    unfold eqs
    rw [h]
    simp

/-- The same, in order? -/
def same (l m : List Att) : Bool := decide (l = m)

theorem same_not {l m : List Att} (h : l ≠ m) : same l m = false := decide_eq_false h
theorem same_yes {l m : List Att} (h : l = m) : same l m = true := decide_eq_true h

theorem take_eq {l m : List Att} {k : Nat} (h1 : k < l.length) (h2 : k < m.length) (h : l.take k = m.take k) (e : l[k] = m[k]) : l.take (k + 1) = m.take (k + 1) := by
  rw [take_snoc h1, take_snoc h2, h, e]

set_option maxHeartbeats 1000000 in
theorem ref_same_any (w : World) (l m : List Att) (ao bo : Option Addr) (n c p d : Nat) (hr : Rp w ao n c l) (hs : Rp w bo p d m) (hl : n ≤ 100000) (hm : p ≤ 100000) :
    Calls Tryz.prog 100 #[.slice ao n c, .slice bo p d] w fun e w' => e = .returned (.bool (same l m)) ∧ Kp [] w w' := by
  obtain rfl := hr.len
  obtain rfl := hs.len
  by_cases hlen : l.length = m.length
  · have hne : ((l.length : Int) != (m.length : Int)) = false := by rw [hlen]; simp
    obtain ⟨A, hA⟩ : ∃ A, same l m = A := ⟨_, rfl⟩
    rw [hA]
    have hkm : ∀ k, k < l.length → k < m.length := fun k hk => by omega
    have hend : Hid (l.take l.length = m.take l.length → l = m) := fun h => by rw [List.take_length, hlen, List.take_length] at h; exact h
    clear hlen
    go_enter Tryz.func100, Tryz.ntmps100
    go_wp2
    go_loopw [5] (fun i wr => ∃ k q : Nat, k ≤ l.length ∧ i = .int .i64 k ∧ wr = w.drewN q ∧ l.take k = m.take k) (fun i _ => l.length - (intOf i).toNat)
    case atStart => exact ⟨0, 0, Nat.zero_le _, rfl, rfl, rfl⟩
    case round =>
      obtain ⟨k, q, hk, rfl, rfl, hp⟩ := hrel
      by_cases hlt : k < l.length
      · have hlt2 := hkm k hlt
        obtain ⟨b1, o1, rfl, h1, h2⟩ := hr.get k hlt
        obtain ⟨b2, o2, rfl, h3, h4⟩ := hs.get k hlt2
        have htk : Hid (l[k] = m[k] → l.take (k + 1) = m.take (k + 1)) := take_eq hlt hlt2 hp
        have hnt : Hid (l[k] ≠ m[k] → same l m = false) := fun h => same_not (fun e => h (by simp only [e]))
        clear hr hs hp hkm hend
        generalize l[k] = x at h1 h2 htk hnt
        generalize m[k] = y at h3 h4 htk hnt
        rcases parted x y with ⟨e0, e1, e2⟩ | ⟨e0, e1⟩ | ⟨e0, e1, e2⟩
        · subst e0
          have hp := htk.out rfl
          clear htk hnt
          go_wp2_with fail
          go_region
          go_wp2
          go_roundw
          case rel => exact ⟨k + 1, _, by omega, by go_num, rfl, hp⟩
          case measure => simp [intOf]; omega
        all_goals
          have hp := hnt.out e0
          rw [hA] at hp
          subst hp
          clear htk hnt e0 hA
          go_wp2_with fail
          go_region
          go_wp2
          go_ret
          exact ⟨rfl, (Kp.refl _ _).drewN _⟩
      · obtain rfl : k = l.length := by omega
        rw [same_yes (hend.out hp)] at hA
        subst hA
        go_wp2
        go_ret
        exact ⟨rfl, (Kp.refl _ _).drewN _⟩
  · have hne : ((l.length : Int) != (m.length : Int)) = true := by simp; omega
    rw [same_not (fun e => hlen (by rw [e]))]
    clear hlen
    go_enter Tryz.func100, Tryz.ntmps100
    go_wp2
    go_ret
    exact ⟨rfl, Kp.refl _ _⟩


set_option maxHeartbeats 1000000 in
theorem same_any (w : World) (l m : List Att) (ao bo : Option Addr) (n c p d : Nat) (hr : Rp w ao n c l) (hs : Rp w bo p d m) (hl : n ≤ 100000) (hm : p ≤ 100000) :
    Calls Tryz.prog 107 #[.slice ao n c, .slice bo p d] w fun e w' => e = .returned (.bool (same l m)) ∧ Kp [] w w' := by
  obtain rfl := hr.len
  obtain rfl := hs.len
  by_cases hlen : l.length = m.length
  · have hne : ((l.length : Int) != (m.length : Int)) = false := by rw [hlen]; simp
    obtain ⟨A, hA⟩ : ∃ A, same l m = A := ⟨_, rfl⟩
    rw [hA]
    have hkm : ∀ k, k < l.length → k < m.length := fun k hk => by omega
    have hend : Hid (l.take l.length = m.take l.length → l = m) := fun h => by rw [List.take_length, hlen, List.take_length] at h; exact h
    clear hlen
    go_enter Tryz.func107, Tryz.ntmps107
    go_wp2
    go_loopw [14] (fun i wr => ∃ k : Nat, k ≤ l.length ∧ i = .int .i64 k ∧ Kp [] w wr ∧ l.take k = m.take k) (fun i _ => l.length - (intOf i).toNat)
    case atStart => exact ⟨0, Nat.zero_le _, rfl, Kp.refl _ _, rfl⟩
    case round =>
      obtain ⟨k, hk, rfl, kw, hp⟩ := hrel
      by_cases hlt : k < l.length
      · have hlt2 := hkm k hlt
        obtain ⟨b1, o1, rfl, h1, h2⟩ := (hr.kept kw).get k hlt
        obtain ⟨b2, o2, rfl, h3, h4⟩ := (hs.kept kw).get k hlt2
        have htk : Hid (l[k] = m[k] → l.take (k + 1) = m.take (k + 1)) := take_eq hlt hlt2 hp
        have hnt : Hid (l[k] ≠ m[k] → same l m = false) := fun h => same_not (fun e => h (by simp only [e]))
        clear hr hs hp hkm hend
        generalize l[k] = x at h1 h2 htk hnt
        generalize m[k] = y at h3 h4 htk hnt
        have ka : Kp [] wr (wr.alloc (.cells #[.string x.1, .string x.2] 30)) := (Kp.refl _ _).alloc _
        have h5 : (wr.alloc (.cells #[.string x.1, .string x.2] 30)).cell? ⟨b2, o2 + k * 2, none⟩ = some (.string y.1) := by rw [ka.cell (block_lt_of_cell h3) (by simp)]; exact h3
        have h6 : (wr.alloc (.cells #[.string x.1, .string x.2] 30)).cell? ⟨b2, o2 + k * 2 + 1, none⟩ = some (.string y.2) := by rw [ka.cell (block_lt_of_cell h4) (by simp)]; exact h4
        have h7 : (wr.alloc (.cells #[.string x.1, .string x.2] 30)).cell? ⟨wr.heap.size, 0, none⟩ = some (.string x.1) := by rw [cell_of (heap_new _ _)]; rfl
        have h8 : (wr.alloc (.cells #[.string x.1, .string x.2] 30)).cell? ⟨wr.heap.size, 1, none⟩ = some (.string x.2) := by rw [cell_of (heap_new _ _)]; rfl
        rcases parted x y with ⟨e0, e1, e2⟩ | ⟨e0, e1⟩ | ⟨e0, e1, e2⟩
        · subst e0
          have hp := htk.out rfl
          clear htk hnt
          go_wp2_with fail
          have kz := kw.trans ka (fun z hz => by simp at hz)
          generalize wr.alloc (.cells #[.string _, .string _] 30) = W at ka h5 h6 h7 h8 kz ⊢
          go_region
          go_wp2
          go_roundw
          case rel => exact ⟨k + 1, by omega, by go_num, kz.drewN _, hp⟩
          case measure => simp [intOf]; omega
        all_goals
          have hp := hnt.out e0
          rw [hA] at hp
          subst hp
          clear htk hnt e0 hA
          go_wp2_with fail
          have kz := kw.trans ka (fun z hz => by simp at hz)
          generalize wr.alloc (.cells #[.string _, .string _] 30) = W at ka h5 h6 h7 h8 kz ⊢
          go_region
          go_wp2
          go_ret
          exact ⟨rfl, kz.drewN _⟩
      · obtain rfl : k = l.length := by omega
        rw [same_yes (hend.out hp)] at hA
        subst hA
        go_wp2
        go_ret
        exact ⟨rfl, kw⟩
  · have hne : ((l.length : Int) != (m.length : Int)) = true := by simp; omega
    rw [same_not (fun e => hlen (by rw [e]))]
    clear hlen
    go_enter Tryz.func107, Tryz.ntmps107
    go_wp2
    go_ret
    exact ⟨rfl, Kp.refl _ _⟩

end Go.Proofs.YtgjkfpmhgidpaaaGreat

/-
  Short: the first six attributes, none of them long.
-/
namespace Go.Proofs.YtgjkfpmhgidpaaaGreat
open Go.RowKit

/-- append of one, as a step of a region that draws its order. -/
theorem step_one {ops : Array Oper} {o : Oper} {a : Act} {w w1 : World} {K : Act → World → Prop} {Q : Exit → Act → World → Prop} {E : Prop}
    (hg : o.guard = none) (s x : Operand) (hop : o.op = Op.call { callee := Callee.builtin Builtin.append, args := #[s, x], argTypes := #[26, 26] })
    {ao : Option Addr} {n c q : Nat} {l : List Att} (hs : a.eval s = .slice ao n c) (hx : a.eval x = .slice (some ⟨q, 0, none⟩) 1 1) (hM : Mp w w1 ao n c l) (y : Att) (hq : w1.heap[q]? = some (.cells #[.string y.1, .string y.2] 30)) (hlen : n + 1 ≤ 1000000)
    (hK : ∀ ao' n' c' w', Mp w w' ao' n' c' (l ++ [y]) → K (a.put o.dst (.slice ao' n' c')) w') :
    if Region.wanted o (yielded ops a.tmps) = true then Oper.wp Tryz.prog o a w1 K Q else E := by
  have hw : Region.wanted o (yielded ops a.tmps) = true := by simp [Region.wanted, hg]
  rw [if_pos hw]
  have hr : Rp w1 (some ⟨q, 0, none⟩) 1 1 [y] := ⟨rfl, Nat.le_refl _, fun j hj => ⟨q, 0, rfl, by
    rw [cell_of hq]
    match j, hj with
    | 0, _ => rfl
    | 1, _ => rfl⟩⟩
  obtain ⟨a2, n2, c2, w2, hrun, M2⟩ := hM.app (hr.src Tryz.underlying26) (fun _ => by omega) hlen
  have hr2 := hrun o.type
  unfold Oper.wp
  simp [execOp, hop, resolve, invoke, builtin, hs, hx, hr2, Result.andThen]
  exact hK a2 n2 c2 w2 M2


/-- No more of a text than m bytes. -/
def cutB (s : ByteArray) (m : Nat) : ByteArray := if m < s.size then s.extract 0 m else s

/-- The first six, none of them long. -/
def short (l : List Att) : List Att := (l.take 6).map fun a => (cutB a.1 20, cutB a.2 30)

theorem short_len (l : List Att) : (short l).length ≤ 6 := by
  unfold short
  simp
  omega

theorem short_fits (l : List Att) : fits (short l) := by
  intro a ha
  unfold short at ha
  obtain ⟨x, _, rfl⟩ := List.mem_map.1 ha
  have h1 := cut_size x.1 20
  have h2 := cut_size x.2 30
  exact ⟨Nat.le_trans h1 (by omega), Nat.le_trans h2 (by omega)⟩

/-- The first k of them. -/
def shortTo (l : List Att) (k : Nat) : List Att := (l.take k).map fun a => (cutB a.1 20, cutB a.2 30)

theorem shortTo_snoc {l : List Att} {k : Nat} (h : k < l.length) : shortTo l (k + 1) = shortTo l k ++ [(cutB l[k].1 20, cutB l[k].2 30)] := by
  unfold shortTo
  rw [take_snoc h, List.map_append]
  rfl

theorem shortTo_len (l : List Att) (k : Nat) : (shortTo l k).length ≤ k := by
  unfold shortTo
  simp
  omega

set_option maxRecDepth 100000 in
set_option maxHeartbeats 1000000 in
theorem short_any (w : World) (l : List Att) (ao : Option Addr) (n c : Nat) (hr : Rp w ao n c l) (hl : n ≤ 140737488355328) :
    Calls Tryz.prog 19 #[.slice ao n c] w fun e w' => ∃ ao' n' c', e = .returned (.slice ao' n' c') ∧ Mp w w' ao' n' c' (short l) := by
  obtain rfl := hr.len
  go_enter Tryz.func19, Tryz.ntmps19
  go_wp2
  go_loopw [3, 4] (fun v i wr => ∃ (k : Nat) (ao' : Option Addr) (n' c' : Nat), k ≤ l.length ∧ k ≤ 6 ∧ i = .int .i64 k ∧ v = .slice ao' n' c' ∧ Mp w wr ao' n' c' (shortTo l k)) (fun _ i _ => 6 - (intOf i).toNat)
  case atStart => exact ⟨0, _, _, _, Nat.zero_le _, Nat.zero_le _, rfl, rfl, Mp.nil w⟩
  case round =>
    obtain ⟨k, ao', n', c', hk, hk6, rfl, rfl, M⟩ := hrel
    by_cases hlt : k < l.length
    · by_cases hlt6 : k < 6
      · obtain ⟨b1, o1, rfl, h1, h2⟩ := (hr.kept M.kp).get k hlt
        have hsn : Hid (shortTo l (k + 1) = shortTo l k ++ [(cutB l[k].1 20, cutB l[k].2 30)]) := shortTo_snoc hlt
        have hn : n' ≤ 1000 := by have := M.len; have := shortTo_len l k; omega
        have HX := fun w => cut_any w l[k].1 20 (by omega)
        have HY := fun w => cut_any w l[k].2 30 (by omega)
        have HC : ∀ v, Kp [] w v → v.cell? ⟨b1, o1 + k * 2, none⟩ = some (.string l[k].1) ∧ v.cell? ⟨b1, o1 + k * 2 + 1, none⟩ = some (.string l[k].2) := fun v kv => by
          obtain ⟨b2, o2, e, g1, g2⟩ := (hr.kept kv).get k hlt
          simp only [Option.some.injEq, Addr.mk.injEq, and_true] at e
          obtain ⟨rfl, rfl⟩ := e
          exact ⟨g1, g2⟩
        clear hr
        rw [show (if 20 < l[k].1.size then l[k].1.extract 0 20 else l[k].1) = cutB l[k].1 20 from rfl] at HX
        rw [show (if 30 < l[k].2.size then l[k].2.extract 0 30 else l[k].2) = cutB l[k].2 30 from rfl] at HY
        generalize l[k] = a at h1 h2 hsn HX HY HC
        generalize cutB a.1 20 = x at hsn HX
        generalize cutB a.2 30 = y at hsn HY
        have C1 : Hid (∀ v, Kp [] w v → v.cell? ⟨b1, o1 + k * 2, none⟩ = some (.string a.1) ∧ v.cell? ⟨b1, o1 + k * 2 + 1, none⟩ = some (.string a.2)) := HC
        clear HC
        have kp := M.kp
        go_wp2_with fail
        go_region_held3 (fun w' => w'.cell? ⟨b1, o1 + k * 2, none⟩ = some (.string a.1) ∧ w'.cell? ⟨b1, o1 + k * 2 + 1, none⟩ = some (.string a.2))
          (first
            | exact C1.out _ M4.kp
            | exact C1.out _ (kp.drew.alloc _)
            | exact C1.out _ kp.drew)
          (first
            | (go_at_call 18; have D2 := D1.out; refine (HY _).mono ?_; rintro e v1 ⟨rfl, rfl⟩)
            | (go_at_call 18; refine (HX _).mono ?_; rintro e v1 ⟨rfl, rfl⟩; have D1 : Hid True := trivial)
            | (refine step_one (by rfl) _ _ (by rfl) (by rfl) (by rfl) ((M.kept (Kp.refl _ _).drew).kept ((Kp.refl _ _).alloc _)) (x, y) (heap_new _ _) (by omega) ?_; intro a4 n4 c4 w4 M4))
        clear C1 HX HY h1 h2 M kp
        go_wp2
        go_roundw
        case rel => exact ⟨k + 1, _, _, _, by omega, by omega, by go_num, rfl, by rw [hsn.out]; exact M4⟩
        case measure => simp [intOf]; omega
      · obtain rfl : k = 6 := by omega
        go_wp2
        go_ret
        exact ⟨_, _, _, rfl, M⟩
    · obtain rfl : k = l.length := by omega
      have e1 : Hid (shortTo l l.length = short l) := by unfold shortTo short; rw [List.take_of_length_le (Nat.le_refl _), List.take_of_length_le hk6]; exact rfl
      go_wp2
      go_ret
      exact ⟨_, _, _, rfl, by rw [← e1.out]; exact M⟩

end Go.Proofs.YtgjkfpmhgidpaaaGreat

/-
  More and Unique of the document.
-/
namespace Go.Proofs.YtgjkfpmhgidpaaaGreat
open Go.RowKit
set_option linter.unusedVariables false

set_option maxHeartbeats 1000000 in
theorem ref_more_any (w : World) (l m : List Att) (ao bo : Option Addr) (n c p d : Nat) (hr : Rp w ao n c l) (hs : Rp w bo p d m) (hl : n ≤ 10000) (hm : p ≤ 10000) :
    Calls Tryz.prog 73 #[.slice ao n c, .slice bo p d] w fun e w' => ∃ ao' n' c', e = .returned (.slice ao' n' c') ∧ Mp w w' ao' n' c' (more l m) := by
  have M1 := mp_none w
  obtain ⟨a2, n2, c2, w2, hrun, M2⟩ := M1.app ((hr.kept M1.kp).src Tryz.underlying26) (fun h => by cases h) (by omega)
  rw [List.nil_append] at M2
  have hln : l.length ≤ 10000 := by have := hr.len; omega
  obtain rfl := hs.len
  clear M1 hr
  go_enter Tryz.func73, Tryz.ntmps73
  go_wp2_with (at_builtin; refine Lib.wpList_append_run _ rfl _ _ _ _ rfl _ _ rfl rfl _ _ (hrun _) ?_)
  clear hrun
  go_loopw [5, 6] (fun v i wr => ∃ (k : Nat) (ao' : Option Addr) (n' c' : Nat), k ≤ m.length ∧ i = .int .i64 k ∧ v = .slice ao' n' c' ∧ Mp w wr ao' n' c' (more l (m.take k))) (fun _ i _ => m.length - (intOf i).toNat)
  case atStart => exact ⟨0, _, _, _, Nat.zero_le _, rfl, rfl, M2⟩
  case round =>
    obtain ⟨k, ao', n', c', hk, rfl, rfl, M⟩ := hrel
    clear M2
    by_cases hlt : k < m.length
    · obtain ⟨b1, o1, rfl, h1, h2⟩ := (hs.kept M.kp).get k hlt
      have hts := take_snoc hlt
      have hn : n' ≤ 30000 := by
        have e1 := M.len
        have e2 := more_len (m.take k) l
        simp at e2
        omega
      generalize m[k] = a at h1 h2 hts
      have HA := ref_add_any wr _ a ao' n' c' M.rp hn
      unfold av at HA
      clear hs
      go_wp2_with (go_at_call 99; refine HA.mono ?_; rintro e w3 ⟨a3, n3, c3, rfl, M3⟩)
      have M4 := M3.back M.kp
      rw [← more_snoc, ← hts] at M4
      clear M M3 hts h1 h2 HA
      go_roundw
      case rel => exact ⟨k + 1, _, _, _, by omega, by go_num, rfl, M4⟩
      case measure => simp [intOf]; omega
    · obtain rfl : k = m.length := by omega
      rw [List.take_length] at M
      go_wp2
      go_ret
      exact ⟨_, _, _, rfl, M⟩

set_option maxHeartbeats 1000000 in
theorem ref_uniq_any (w : World) (m : List Att) (bo : Option Addr) (p d : Nat) (hs : Rp w bo p d m) (hm : p ≤ 10000) :
    Calls Tryz.prog 57 #[.slice bo p d] w fun e w' => ∃ ao' n' c', e = .returned (.slice ao' n' c') ∧ Mp w w' ao' n' c' (uniq m) := by
  have H := ref_more_any w [] m none bo 0 0 p d (rp_nil w) hs (by omega) hm
  go_enter Tryz.func57, Tryz.ntmps57
  go_wp2_with (go_at_call 73; refine H.mono ?_; rintro e w3 ⟨a3, n3, c3, rfl, M3⟩)
  go_ret
  exact ⟨_, _, _, rfl, M3⟩

end Go.Proofs.YtgjkfpmhgidpaaaGreat
