/-
  More and Unique, of the document and of the program; the program's table of first places.
-/
import Derived.Test.YtadcpkdnpfmphaaCopy
import Derived.Maps.OwnSet
import Derived.Maps.OwnOps
namespace Go.Proofs.Ytadcpkdnpfmphaa
open Go.RowKit Go.Maps

set_option maxHeartbeats 1000000 in
theorem ref_more_any (w : World) (l m : List Att) (ao bo : Option Addr) (n c p d : Nat) (hr : Rp w ao n c l) (hs : Rp w bo p d m) (hl : n ≤ 400) (hm : p ≤ 400) :
    Calls Try.prog 56 #[.slice ao n c, .slice bo p d] w fun e w' => ∃ ao' n' c', e = .returned (.slice ao' n' c') ∧ Mp w w' ao' n' c' (more l m) := by
  have M1 := mp_none w
  obtain ⟨a2, n2, c2, w2, hrun, M2⟩ := M1.app ((hr.kept M1.kp).src Try.underlying27) (fun h => by cases h) (by omega)
  rw [List.nil_append] at M2
  have hln : l.length ≤ 400 := by have := hr.len; omega
  obtain rfl := hs.len
  clear M1 hr
  go_enter Try.func56, Try.ntmps56
  go_wp2_with (at_builtin; refine Lib.wpList_append_run _ rfl _ _ _ _ rfl _ _ rfl rfl _ _ (hrun _) ?_)
  clear hrun
  go_loopw [5, 6] (fun v i wr => ∃ (k : Nat) (ao' : Option Addr) (n' c' : Nat), k ≤ m.length ∧ i = .int .i64 k ∧ v = .slice ao' n' c' ∧ Mp w wr ao' n' c' (more l (m.take k))) (fun _ i _ => m.length - (intOf i).toNat)
  case atStart => exact ⟨0, _, _, _, Nat.zero_le _, rfl, rfl, M2⟩
  case round =>
    obtain ⟨k, ao', n', c', hk, rfl, rfl, M⟩ := hrel
    clear M2
    by_cases hlt : k < m.length
    · obtain ⟨b1, o1, rfl, h1, h2⟩ := (hs.kept M.kp).get k hlt
      have hts := take_snoc hlt
      have hn : n' ≤ 900 := by
        have e1 := M.len
        have e2 := more_len (m.take k) l
        simp at e2
        omega
      generalize m[k] = a at h1 h2 hts
      have HA := ref_add_any wr _ a ao' n' c' M.rp hn
      unfold av at HA
      clear hs
      go_wp2_with fail
      refine HA.mono ?_
      rintro e w3 ⟨a3, n3, c3, rfl, M3⟩
      clear HA
      have M4 := M3.back M.kp
      rw [← more_snoc, ← hts] at M4
      clear M M3 hts h1 h2
      go_wp2
      go_roundw
      case rel => exact ⟨k + 1, _, _, _, by omega, by go_num, rfl, M4⟩
      case measure => simp [intOf]; omega
    · obtain rfl : k = m.length := by omega
      rw [List.take_length] at M
      go_wp2
      go_ret
      exact ⟨_, _, _, rfl, M⟩

theorem rp_nil (w : World) : Rp w none 0 0 [] := ⟨rfl, Nat.le_refl _, fun j hj => by omega⟩

set_option maxHeartbeats 1000000 in
theorem ref_uniq_any (w : World) (m : List Att) (bo : Option Addr) (p d : Nat) (hs : Rp w bo p d m) (hm : p ≤ 400) :
    Calls Try.prog 45 #[.slice bo p d] w fun e w' => ∃ ao' n' c', e = .returned (.slice ao' n' c') ∧ Mp w w' ao' n' c' (uniq m) := by
  have H := ref_more_any w [] m none bo 0 0 p d (rp_nil w) hs (by omega) hm
  go_enter Try.func45, Try.ntmps45
  go_wp2_with fail
  refine H.mono ?_
  rintro e w3 ⟨a3, n3, c3, rfl, M3⟩
  clear H
  go_wp2
  go_ret
  exact ⟨_, _, _, rfl, M3⟩

/-- How a key reads. -/
def kl (x : ByteArray) : Lit := .string x.data.toList

theorem law9 : Keyed Try.prog 9 := string_keyed Try.underlying9
theorem zero3 (w : World) : (zeroValue 3).run Try.prog w = .ok (.int .i64 0) w := by kernel_rfl

/-- Block b is a table of the first places of l's names. -/
def Tab (w : World) (b : Nat) (l : List Att) (k : Nat) : Prop :=
  ∃ D : DataW Unit, w.ownsMap Try.prog 9 (plainElem Try.prog 3) b k D ∧ Maps.size D = (uniq l).length ∧
    ∀ x, Maps.has D (kl x) = (idx l x).isSome ∧ ∀ i, idx l x = some i → D.atKey (kl x) (.lit (.int .i64 0)) = .lit (.int .i64 i)

theorem kp_grown {w w' : World} {b : Nat} (h : w.grownBy w' (some b)) : Kp [b] w w' :=
  ⟨h.os, h.tape, h.output, h.size, fun k hk hn => h.block k hk (fun e => by simp at e; exact hn (by simp [e]))⟩

theorem key_of {x : ByteArray} (h : x.size ≤ 140737488355328) : keyOf Try.prog 9 (.string x) = some (kl x) := WideMaps.keyOf_string_mk Try.underlying9 (by unfold maxLen; omega)

theorem kl_key (x : ByteArray) : WideAt.IsKeyLit (kl x) := trivial

theorem kl_inj {x y : ByteArray} (h : kl x = kl y) : x = y := by
  unfold kl at h
  simp only [Lit.string.injEq] at h
  exact ByteArray.ext (Array.ext' h)

theorem Tab.lt {w : World} {b : Nat} {l : List Att} {k : Nat} (h : Tab w b l k) : b < w.heap.size := by
  obtain ⟨D, h, _⟩ := h
  exact h.lt

theorem Tab.keep {w w' : World} {S : List Nat} {b : Nat} {l : List Att} {k : Nat} (h : Tab w b l k) (hk : Kp S w w') (hn : b ∉ S) : Tab w' b l k := by
  have hl := h.lt
  obtain ⟨D, ⟨es, clock, hb, r⟩, r2⟩ := h
  exact ⟨D, ⟨es, clock, by rw [hk.block b hl hn]; exact hb, r⟩, r2⟩

theorem Tab.same {w w' : World} {b : Nat} {l : List Att} {k : Nat} (h : Tab w b l k) (hb : w'.heap[b]? = w.heap[b]?) : Tab w' b l k := by
  obtain ⟨D, ⟨es, clock, h1, r⟩, r2⟩ := h
  exact ⟨D, ⟨es, clock, by rw [hb]; exact h1, r⟩, r2⟩

theorem Tab.mono {w : World} {b : Nat} {l : List Att} {k k' : Nat} (h : Tab w b l k) (hk : k ≤ k') : Tab w b l k' := by
  obtain ⟨D, h1, r⟩ := h
  exact ⟨D, h1.mono hk, r⟩

theorem tab_new (w : World) : Tab (w.alloc (.map #[] 0)) w.heap.size [] 0 :=
  ⟨.map [], World.ownsMap_made w Try.prog 9 _, rfl, fun x => ⟨rfl, fun i h => by cases h⟩⟩

theorem hasN_uniq (l : List Att) (x : ByteArray) : hasN (uniq l) x = hasN l x := by unfold hasN; rw [getF_uniq]

theorem uniq_snoc (l : List Att) (a : Att) : uniq (l ++ [a]) = add (uniq l) a := more_snoc [] l a

/-- A name that is there already. -/
theorem Tab.old {w : World} {b : Nat} {l : List Att} {k : Nat} (h : Tab w b l k) (a : Att) (hi : (idx l a.1).isSome = true) : Tab w b (l ++ [a]) (k + 1) := by
  obtain ⟨D, h1, h2, h3⟩ := h
  refine ⟨D, h1.mono (by omega), ?_, fun x => ?_⟩
  · rw [uniq_snoc]
    unfold add
    rw [hasN_uniq, ← idx_some, hi, if_pos rfl]
    exact h2
  · have : idx (l ++ [a]) x = idx l x := by
      rw [idx_snoc]
      cases hx : idx l x with
      | some i => rfl
      | none =>
        have : eqs a.1 x = false := by
          cases he : eqs a.1 x
          · rfl
          · rw [eqs_iff.1 he, hx] at hi; cases hi
        rw [this]
        rfl
    rw [this]
    exact h3 x

/-- One that is new. -/
theorem tab_put {w w' : World} {b : Nat} {l : List Att} {k : Nat} {D : DataW Unit} (h2 : Maps.size D = (uniq l).length) (h3 : ∀ x, Maps.has D (kl x) = (idx l x).isSome ∧ ∀ i, idx l x = some i → D.atKey (kl x) (.lit (.int .i64 0)) = .lit (.int .i64 i)) (h0 : w.ownsMap Try.prog 9 (plainElem Try.prog 3) b k D)
    (a : Att) (hi : idx l a.1 = none) (h1 : w'.ownsMap Try.prog 9 (plainElem Try.prog 3) b (k + 1) (D.put (kl a.1) (.lit (.int .i64 (l.length : Int))))) : Tab w' b (l ++ [a]) (k + 1) := by
  have hh : Maps.has D (kl a.1) = false := by rw [(h3 a.1).1, hi]; rfl
  have htd := h0.tidy law9
  refine ⟨_, h1, ?_, fun x => ?_⟩
  · rw [Maps.size_put htd, hh, uniq_snoc]
    unfold add
    rw [hasN_uniq, ← idx_some, hi]
    simp [h2]
  · rw [idx_snoc]
    cases he : eqs a.1 x
    · have hne : kl x ≠ kl a.1 := fun e => by rw [kl_inj e, eqs_refl] at he; cases he
      rw [Maps.has_put_other hne]
      have : (idx l x).or (if false = true then some l.length else none) = idx l x := by simp
      rw [this]
      exact ⟨(h3 x).1, fun i hx => by rw [Maps.atKey_put_other hne]; exact (h3 x).2 i hx⟩
    · obtain rfl := eqs_iff.1 he
      rw [hi]
      exact ⟨by rw [Maps.has_put_same htd.isMap (kl_key a.1)]; rfl, fun i hx => by
        simp at hx
        subst hx
        rw [Maps.atKey_put_same htd.isMap (kl_key a.1)]⟩

theorem make_map (w : World) (n : Nat) : (Instr.makeMap 81 (some (.int .i64 (n : Int)))).run Try.prog w = .ok (.map (some w.heap.size)) (w.alloc (.map #[] 0)) := by
  simp [Instr.makeMap, run_underlying Try.underlying81, asInt, asIntOf, newObj]
  rfl

set_option maxHeartbeats 1000000 in
theorem firsts_any (w : World) (l : List Att) (ao : Option Addr) (n c : Nat) (hr : Rp w ao n c l) (hl : n ≤ 1000) (hf : fits l) :
    Calls Try.prog 60 #[.slice ao n c] w fun e w' => e = .returned (.map (some w.heap.size)) ∧ Kp [] w w' ∧ Tab w' w.heap.size l l.length := by
  obtain rfl := hr.len
  have hmk := make_map w l.length
  have k0 : Kp [] w (w.alloc (.map #[] 0)) := (Kp.refl _ _).alloc _
  have T0 := tab_new w
  go_enter Try.func60, Try.ntmps60
  go_wp2
  clear hmk
  go_loopw [13] (fun i wr => ∃ k : Nat, k ≤ l.length ∧ i = .int .i64 k ∧ Kp [] w wr ∧ Tab wr w.heap.size (l.take k) k) (fun i _ => l.length - (intOf i).toNat)
  case atStart => exact ⟨0, Nat.zero_le _, rfl, k0, T0⟩
  case round =>
    obtain ⟨k, hk, rfl, hkp, T⟩ := hrel
    clear T0 k0
    by_cases hlt : k < l.length
    · obtain ⟨b1, o1, rfl, h1, h2⟩ := (hr.kept hkp).get k hlt
      have hts := take_snoc hlt
      have hfa := (hf l[k] (List.getElem_mem hlt)).1
      generalize l[k] = a at h1 h2 hts hfa
      have hkey := key_of hfa
      clear hr hf hfa
      have T' := T
      obtain ⟨D, hown, hsz, hx⟩ := T
      have hh := (hx a.1).1
      have hsize := hown.lt
      rcases has_idx (l.take k) a.1 with ⟨i, hi, _⟩ | ⟨hi, _⟩
      · have T2 := (T'.keep ((Kp.refl [] wr).alloc (.cells #[.string a.1, .string a.2] 31)) (by simp)).old a (by rw [hi]; rfl)
        rw [← hts] at T2
        rw [hi] at hh
        simp only [Option.isSome_some] at hh
        clear T' hi hx hsz hts
        go_wp2_with (at_lookup; refine wpList_lookup_own_ok_int _ rfl _ _ 81 rfl 9 3 .i64 law9 Try.underlying81 Try.underlying3 (zero3 _) w.heap.size k D rfl (hown.alloc _) _ _ rfl hkey ?_; intro c1 hat hwc)
        go_roundw
        case rel => exact ⟨k + 1, by omega, by go_num, hkp.alloc _, T2⟩
        case measure => simp [intOf]; omega
      · have hP := fun w' h1 => tab_put (w' := w') hsz hx hown a hi h1
        rw [List.length_take, Nat.min_eq_left hk, ← hts] at hP
        rw [hi] at hh
        simp only [Option.isSome_none] at hh
        clear T' hi hx hsz hts
        go_wp2_with (first
          | (at_lookup; refine wpList_lookup_own_ok_int _ rfl _ _ 81 rfl 9 3 .i64 law9 Try.underlying81 Try.underlying3 (zero3 _) w.heap.size k D rfl (hown.alloc _) _ _ rfl hkey ?_; intro c1 hat hwc)
          | (at_mapUpdate; refine wpList_mapUpdate_own _ rfl _ _ _ 81 rfl 9 3 law9 Try.underlying81 _ w.heap.size k D rfl (hown.alloc _) (by unfold maxLen; omega) _ _ _ rfl rfl hkey _ [] (plainElem_int Try.underlying3 (WalkArith.wf_i64 (by omega))) ?_; intro w1 hown1 hgrow1))
        go_roundw
        case rel => exact ⟨k + 1, by omega, by go_num, (hkp.alloc _).trans (kp_grown hgrow1) (fun z hz => by simp at hz; omega), hP _ hown1⟩
        case measure => simp [intOf]; omega
    · obtain rfl : k = l.length := by omega
      rw [List.take_length] at T
      go_wp2
      go_ret
      exact ⟨rfl, hkp, T⟩

/-- A slice of attributes made since w, while the blocks of S may have been written. -/
def Ms (S : List Nat) (w w' : World) (ao : Option Addr) (n c : Nat) (l : List Att) : Prop := OwnK 2 w' 31 (.slice ao n c) n (cs l) ∧ Kp S w w' ∧ ∀ k, k ∈ blk (.slice ao n c) → w.heap.size ≤ k

theorem Ms.len {S : List Nat} {w w' : World} {ao : Option Addr} {n c : Nat} {l : List Att} (h : Ms S w w' ao n c l) : n = l.length := by
  have := h.1.1
  rw [cs_len] at this
  omega

theorem Ms.kept {S : List Nat} {w w1 w2 : World} {ao : Option Addr} {n c : Nat} {l : List Att} (h : Ms S w w1 ao n c l) (k : Kp S w1 w2) (hS : ∀ x, x ∈ S → x < w.heap.size) : Ms S w w2 ao n c l :=
  ⟨h.1.keep k (fun x hx hs => by have := h.2.2 x hx; have := hS x hs; omega), h.2.1.trans k (fun x hx => Or.inl hx), h.2.2⟩

theorem Ms.one {S : List Nat} {w w1 : World} {ao : Option Addr} {n c : Nat} {l : List Att} (h : Ms S w w1 ao n c l) (a : Att) (hlen : n + 1 ≤ 1000000) (hS : ∀ x, x ∈ S → x < w.heap.size) :
    ∃ ao' n' c' w2, (∀ ty, (Builtin.append_ #[27, 27] ty #[.slice ao n c, .slice (some ⟨w1.heap.size, 0, none⟩) 1 1]).run Try.prog (w1.alloc (.cells #[.string a.1, .string a.2] 31)) = .ok (.slice ao' n' c') w2) ∧ Ms S w w2 ao' n' c' (l ++ [a]) ∧ ∀ b, b < w.heap.size → b ∈ S → w2.heap[b]? = w1.heap[b]? := by
  have k1 : Kp S w1 (w1.alloc (.cells #[.string a.1, .string a.2] 31)) := (Kp.refl _ _).alloc _
  have hr := (rp_lit w1 #[.string a.1, .string a.2] [a] 1 rfl rfl (by omega)).rp
  obtain ⟨h1, h2, h3⟩ := h.kept k1 hS
  obtain ⟨v', w2, hrun, o2, k2, b2, a2, c2, rfl⟩ := appK Try.underlying27 info23 rfl (by decide) _ _ _ _ h1 _ 1 (cs [a]) (hr.src Try.underlying27) (fun _ => by omega) hlen
  refine ⟨_, _, _, w2, hrun, ⟨by rw [cs_append]; exact o2, h2.trans k2 (fun x hx => Or.inr (h3 x hx)), fun k hk => ?_⟩, fun b hb _ => ?_⟩
  · rcases b2 k hk with h4 | h4
    · exact h3 k h4
    · have := h2.size
      omega
  · rw [k2.block b (Nat.lt_of_lt_of_le hb h2.size) (fun hx => by have := h3 b hx; omega), Below.heap_alloc _ _ _ (Nat.lt_of_lt_of_le hb h.2.1.size)]


end Go.Proofs.Ytadcpkdnpfmphaa
