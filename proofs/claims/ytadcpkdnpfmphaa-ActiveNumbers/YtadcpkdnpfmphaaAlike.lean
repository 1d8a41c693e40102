/-
  Alike, of the program and of the document.
-/
import Derived.Test.YtadcpkdnpfmphaaSame
namespace Go.Proofs.Ytadcpkdnpfmphaa
open Go.RowKit Go.Maps

theorem Tab.look {w : World} {b : Nat} {l : List Att} {k : Nat} (h : Tab w b l k) {x : ByteArray} (hs : x.size ≤ 140737488355328) {i : Nat} (hi : idx l x = some i) : (Instr.lookup 81 (.map (some b)) (.string x) false).run Try.prog w = .ok (.int .i64 (i : Int)) w := by
  obtain ⟨D, h1, h2, h3⟩ := h
  obtain ⟨c, hrun, hat, _⟩ := h1.lookup_int law9 Try.underlying81 Try.underlying3 (zero3 _) (key_of hs)
  rw [(h3 x).2 i hi] at hat
  simp only [DataW.lit.injEq, Lit.int.injEq, true_and] at hat
  rw [hrun, hat]

theorem Tab.look_ok {w : World} {b : Nat} {l : List Att} {k : Nat} (h : Tab w b l k) {x : ByteArray} (hs : x.size ≤ 140737488355328) {i : Nat} (hi : idx l x = some i) : (Instr.lookup 81 (.map (some b)) (.string x) true).run Try.prog w = .ok (.tuple #[.int .i64 (i : Int), .bool true]) w := by
  obtain ⟨D, h1, h2, h3⟩ := h
  obtain ⟨v, ps, hrun, hv⟩ := h1.look_ok law9 Try.underlying81 (zero3 _) (plainElem_int Try.underlying3 (by decide)) (key_of hs)
  obtain ⟨c, rfl, hc, _⟩ := plainElem_int_inv Try.underlying3 hv
  rw [(h3 x).2 i hi] at hc
  simp only [Prod.mk.injEq, DataW.lit.injEq, Lit.int.injEq, true_and] at hc
  rw [hrun, (h3 x).1, hi, hc.1]
  rfl

theorem Tab.look_no {w : World} {b : Nat} {l : List Att} {k : Nat} (h : Tab w b l k) {x : ByteArray} (hs : x.size ≤ 140737488355328) (hi : idx l x = none) : ∃ c, (Instr.lookup 81 (.map (some b)) (.string x) true).run Try.prog w = .ok (.tuple #[.int .i64 c, .bool false]) w := by
  obtain ⟨D, h1, h2, h3⟩ := h
  obtain ⟨v, ps, hrun, hv⟩ := h1.look_ok law9 Try.underlying81 (zero3 _) (plainElem_int Try.underlying3 (by decide)) (key_of hs)
  obtain ⟨c, rfl, hc, _⟩ := plainElem_int_inv Try.underlying3 hv
  exact ⟨c, by rw [hrun, (h3 x).1, hi]; rfl⟩

theorem Tab.length {w : World} {b : Nat} {l : List Att} {k : Nat} (h : Tab w b l k) (ty : TypeId) : (Builtin.len_ #[81] ty #[.map (some b)]).run Try.prog w = .ok (.int .i64 ((uniq l).length : Int)) w := by
  obtain ⟨D, h1, h2, h3⟩ := h
  rw [h1.len Try.underlying81 ty, h2]

/-- Each has a first one of its name. -/
theorem idx_self (l : List Att) (k : Nat) (hk : k < l.length) : ∃ i, idx l l[k].1 = some i := by
  cases h : idx l l[k].1 with
  | some i => exact ⟨i, rfl⟩
  | none => exact absurd rfl (getF_none (idx_none.1 h) _ (List.getElem_mem hk))

theorem idx_lt {l : List Att} {x : ByteArray} {i : Nat} (h : idx l x = some i) : i < l.length := (idx_get h).1

set_option maxHeartbeats 1000000 in
theorem alike_any (w : World) (a b : List Att) (ao bo : Option Addr) (n c p d : Nat) (hr : Rp w ao n c a) (hs : Rp w bo p d b) (hl : n ≤ 400) (hm : p ≤ 400) (hfa : fits a) (hfb : fits b) :
    Calls Try.prog 52 #[.slice ao n c, .slice bo p d] w fun e w' => e = .returned (.bool (alike a b)) ∧ Kp [] w w' := by
  have HA := firsts_any w a ao n c hr (by omega) hfa
  obtain ⟨A, hA⟩ : ∃ A, alike a b = A := ⟨_, rfl⟩
  rw [hA]
  obtain rfl := hr.len
  obtain rfl := hs.len
  go_enter Try.func52, Try.ntmps52
  go_wp2_with fail
  refine HA.mono ?_
  rintro e w1 ⟨rfl, k1, T1⟩
  clear HA
  have HB := firsts_any w1 b bo b.length d (hs.kept k1) (by omega) hfb
  generalize w.heap.size = B1 at T1
  go_wp2_with fail
  refine HB.mono ?_
  rintro e w2 ⟨rfl, k2, T2⟩
  clear HB
  generalize w1.heap.size = B2 at T2
  have T1' := T1.keep k2 (by simp)
  have k12 := k1.trans k2 (fun z hz => by simp at hz)
  clear T1 k1 k2
  have hL1 := T1'.length
  have hL2 := T2.length
  by_cases hlen : (uniq a).length = (uniq b).length
  · have hne : (((uniq a).length : Int) != ((uniq b).length : Int)) = false := by rw [hlen]; simp
    have hlen' : Hid ((uniq a).length = (uniq b).length) := hlen
    clear hlen
    go_wp2
    clear hL1 hL2 hne
    go_loopw [22] (fun i wr => ∃ k : Nat, k ≤ a.length ∧ i = .int .i64 k ∧ Kp [] w2 wr ∧ (∀ i (hi : i < a.length), i < k → idx a a[i].1 = some i → okIn b a[i] = true)) (fun i _ => a.length - (intOf i).toNat)
    case atStart => exact ⟨0, Nat.zero_le _, rfl, Kp.refl _ _, fun i _ h => by omega⟩
    case round =>
      obtain ⟨k, hk, rfl, kw, hp⟩ := hrel
      by_cases hlt : k < a.length
      · obtain ⟨b1, o1, rfl, h1, h2⟩ := ((hr.kept k12).kept kw).get k hlt
        have hsb := (hs.kept k12).kept kw
        obtain ⟨i, hi⟩ := idx_self a k hlt
        have hil := idx_lt hi
        have hfx := hfa a[k] (List.getElem_mem hlt)
        have hp' : Hid ((i = k → okIn b a[k] = true) → ∀ j (hj : j < a.length), j < k + 1 → idx a a[j].1 = some j → okIn b a[j] = true) := by
          intro hik j hj hjk hjj
          by_cases e : j < k
          · exact hp j hj e hjj
          · obtain rfl : j = k := by omega
            rw [hi] at hjj
            exact hik (by simpa using hjj)
        have hno : Hid (i = k → okIn b a[k] = false → alike a b = false) := fun e1 e2 => alike_not k hlt (by rw [hi, e1]) e2
        have hok : Hid (∀ j (hj : j < b.length), idx b a[k].1 = some j → okIn b a[k] = eqs b[j].2 a[k].2) := by
          intro j hj hb
          obtain ⟨_, hg⟩ := idx_get hb
          unfold okIn
          rw [hg]
          rfl
        have hon : Hid (idx b a[k].1 = none → okIn b a[k] = false) := by
          intro hb
          unfold okIn
          rw [idx_none.1 hb]
          rfl
        clear hp hr hs
        generalize a[k] = x at h1 h2 hi hfx hp' hno hok hon
        have ka : Kp [] wr (wr.alloc (.cells #[.string x.1, .string x.2] 31)) := (Kp.refl _ _).alloc _
        have hq1 := ((T1'.keep kw (by simp)).keep ka (by simp)).look hfx.1 hi
        have Tb := (T2.keep kw (by simp)).keep ka (by simp)
        clear hi T1' T2
        by_cases hik : i = k
        · subst hik
          cases hj : idx b x.1 with
          | none =>
            have hno2 := hno.out rfl (hon.out hj)
            rw [hA] at hno2
            subst hno2
            obtain ⟨c1, hq2⟩ := Tb.look_no hfx.1 hj
            clear hp' hno hok hon hj hA hlen' Tb hfx hsb
            have kz := (k12.trans kw (fun z hz => by simp at hz)).trans ka (fun z hz => by simp at hz)
            go_wp2
            go_region
            go_wp2
            go_ret
            exact ⟨rfl, kz.drewN _⟩
          | some j =>
            have hjl := idx_lt hj
            have hq2 := Tb.look_ok hfx.1 hj
            have hok2 := hok.out j hjl hj
            obtain ⟨b2, o2, rfl, h3, h4⟩ := hsb.get j hjl
            have h5 : (wr.alloc (.cells #[.string x.1, .string x.2] 31)).cell? ⟨b2, o2 + j * 2 + 1, none⟩ = some (.string b[j].2) := by rw [ka.cell (block_lt_of_cell h4) (by simp)]; exact h4
            have h6 : (wr.alloc (.cells #[.string x.1, .string x.2] 31)).cell? ⟨wr.heap.size, 1, none⟩ = some (.string x.2) := by rw [cell_of (heap_new _ _)]; rfl
            have kz := (k12.trans kw (fun z hz => by simp at hz)).trans ka (fun z hz => by simp at hz)
            have ky := kw.trans ka (fun z hz => by simp at hz)
            cases he : eqs b[j].2 x.2
            · rw [he] at hok2
              have hno2 := hno.out rfl hok2
              rw [hA] at hno2
              subst hno2
              have he' : (b[j].2.toList == x.2.toList) = false := he
              generalize b[j].2 = v at h4 h5 he'
              clear hp' hno hok hon hj hA hlen' Tb hfx hsb he hok2
              go_wp2
              go_region
              go_wp2
              go_ret
              exact ⟨rfl, kz.drewN _⟩
            · rw [he] at hok2
              have hp2 := hp'.out (fun _ => hok2)
              have he' : (b[j].2.toList == x.2.toList) = true := he
              generalize b[j].2 = v at h4 h5 he'
              clear hp' hno hok hon hj hlen' Tb hfx hsb he hok2
              go_wp2
              go_region
              go_wp2
              go_roundw
              case rel => exact ⟨i + 1, by omega, by go_num, ky.drewN _, fun i hi h1 h2 => hp2 i hi h1 h2⟩
              case measure => simp [intOf]; omega
        · have hne : ((i : Int) != (k : Int)) = true := by simp; omega
          have hp2 := hp'.out (fun e => absurd e hik)
          clear hp' hno hok hon hik Tb
          go_wp2
          go_roundw
          case rel => exact ⟨k + 1, by omega, by go_num, kw.trans ka (fun z hz => by simp at hz), fun i hi h1 h2 => hp2 i hi h1 h2⟩
          case measure => simp [intOf]; omega
      · obtain rfl : k = a.length := by omega
        rw [alike_all hlen'.out (fun i hi => hp i hi hi)] at hA
        subst hA
        go_wp2
        go_ret
        exact ⟨rfl, k12.trans kw (fun z hz => by simp at hz)⟩
  · have hne : (((uniq a).length : Int) != ((uniq b).length : Int)) = true := by simp; omega
    have : alike a b = false := by
      unfold alike
      rw [Bool.and_eq_false_iff]
      exact Or.inr (by simpa using hlen)
    rw [this] at hA
    subst hA
    clear hlen this
    go_wp2
    go_ret
    exact ⟨rfl, k12⟩

theorem alike_end {a b : List Att} (h : ∀ i (hi : i < (uniq a).length), okIn b (uniq a)[i] = true) : alike a b = ((uniq a).length == (uniq b).length) := by
  unfold alike
  rw [List.all_eq_true.2 (fun x hx => by obtain ⟨i, hi, rfl⟩ := List.getElem_of_mem hx; exact h i hi), Bool.true_and]

theorem alike_fails {a b : List Att} (i : Nat) (hi : i < (uniq a).length) (h : okIn b (uniq a)[i] = false) : alike a b = false := by
  unfold alike
  rw [Bool.and_eq_false_iff]
  exact Or.inl (List.all_eq_false.2 ⟨_, List.getElem_mem hi, by rw [h]; simp⟩)

set_option maxHeartbeats 1000000 in
theorem ref_alike_any (w : World) (a b : List Att) (ao bo : Option Addr) (n c p d : Nat) (hr : Rp w ao n c a) (hs : Rp w bo p d b) (hl : n ≤ 400) (hm : p ≤ 400) :
    Calls Try.prog 17 #[.slice ao n c, .slice bo p d] w fun e w' => e = .returned (.bool (alike a b)) ∧ Kp [] w w' := by
  have HA := ref_uniq_any w a ao n c hr hl
  obtain ⟨A, hA⟩ : ∃ A, alike a b = A := ⟨_, rfl⟩
  rw [hA]
  have hua : (uniq a).length ≤ 400 := by have := more_len a []; have := hr.len; unfold uniq; simp at *; omega
  have hub : (uniq b).length ≤ 400 := by have := more_len b []; have := hs.len; unfold uniq; simp at *; omega
  have hgb : ∀ x, getF (uniq b) x = getF b x := getF_uniq b
  have hAE : Hid ((∀ i (hi : i < (uniq a).length), okIn b (uniq a)[i] = true) → alike a b = ((uniq a).length == (uniq b).length)) := alike_end
  have hAF : Hid (∀ (i : Nat) (hi : i < (uniq a).length), okIn b (uniq a)[i] = false → alike a b = false) := alike_fails
  have HB0 := fun w1 (k1 : Kp [] w w1) => ref_uniq_any w1 b bo p d (hs.kept k1) hm
  generalize uniq a = X at HA hua hAE hAF
  generalize uniq b = Y at hgb hub hAE HB0
  go_enter Try.func17, Try.ntmps17
  go_wp2_with fail
  refine HA.mono ?_
  rintro e w1 ⟨a1, n1, c1, rfl, M1⟩
  clear HA
  have HB := HB0 w1 M1.kp
  go_wp2_with fail
  refine HB.mono ?_
  rintro e w2 ⟨a2, n2, c2, rfl, M2⟩
  clear HB
  have R1 := M1.rp.kept M2.kp
  have R2 := M2.rp
  have k12 := M1.kp.trans M2.kp (fun z hz => by simp at hz)
  obtain rfl := R1.len
  obtain rfl := R2.len
  clear M1 M2 hr hs
  go_wp2
  go_loopw [7] (fun i wr => ∃ k : Nat, k ≤ X.length ∧ i = .int .i64 k ∧ Kp [] w2 wr ∧ (∀ i (hi : i < X.length), i < k → okIn b X[i] = true)) (fun i _ => X.length - (intOf i).toNat)
  case atStart => exact ⟨0, Nat.zero_le _, rfl, Kp.refl _ _, fun i _ h => by omega⟩
  case round =>
    obtain ⟨k, hk, rfl, kw, hp⟩ := hrel
    by_cases hlt : k < X.length
    · obtain ⟨b1, o1, rfl, h1, h2⟩ := (R1.kept kw).get k hlt
      have hp' : Hid (okIn b X[k] = true → ∀ j (hj : j < X.length), j < k + 1 → okIn b X[j] = true) := by
        intro hik j hj hjk
        by_cases e : j < k
        · exact hp j hj e
        · obtain rfl : j = k := by omega
          exact hik
      have hno : Hid (okIn b X[k] = false → alike a b = false) := hAF.out k hlt
      have hok : Hid (∀ j (hj : j < Y.length), idx Y X[k].1 = some j → okIn b X[k] = eqs Y[j].2 X[k].2) := by
        intro j hj hb
        obtain ⟨_, hg⟩ := idx_get hb
        rw [hgb] at hg
        unfold okIn
        rw [hg]
        rfl
      have hon : Hid (idx Y X[k].1 = none → okIn b X[k] = false) := by
        intro hb
        have := idx_none.1 hb
        rw [hgb] at this
        unfold okIn
        rw [this]
        rfl
      have RB := R2.kept kw
      have HH := ref_has_any wr X[k].1 Y a2 Y.length c2 RB (by omega)
      clear hp R1 R2
      generalize X[k] = x at h1 h2 hp' hno hok hon HH
      go_wp2_with fail
      refine HH.mono ?_
      rintro e w3 ⟨rfl, k3⟩
      clear HH
      have ky := kw.trans k3 (fun z hz => by simp at hz)
      have kz := k12.trans ky (fun z hz => by simp at hz)
      have h2' : w3.cell? ⟨b1, o1 + k * 2 + 1, none⟩ = some (.string x.2) := by rw [k3.cell (block_lt_of_cell h2) (by simp)]; exact h2
      clear h1 h2
      cases hj : idx Y x.1 with
      | none =>
        have hno2 := hno.out (hon.out hj)
        rw [hA] at hno2
        subst hno2
        clear hp' hno hok hon hj hA RB
        simp only [plc]
        go_wp2
        go_region
        go_wp2
        go_ret
        exact ⟨rfl, kz.drewN _⟩
      | some j =>
        have hjl := idx_lt hj
        have hok2 := hok.out j hjl hj
        obtain ⟨b2, o2, rfl, h3, h4⟩ := (RB.kept k3).get j hjl
        cases he : eqs Y[j].2 x.2
        · rw [he] at hok2
          have hno2 := hno.out hok2
          rw [hA] at hno2
          subst hno2
          have he' : (Y[j].2.toList == x.2.toList) = false := he
          generalize Y[j].2 = v at h4 he'
          clear hp' hno hok hon hj hA RB he hok2 h3
          simp only [plc]
          have hd : decide ((j : Int) < 0) = false := by simp
          go_wp2
          go_quiet (fail)
          go_wp2
          go_ret
          exact ⟨rfl, kz.drewN _⟩
        · rw [he] at hok2
          have hp2 := hp'.out hok2
          have he' : (Y[j].2.toList == x.2.toList) = true := he
          generalize Y[j].2 = v at h4 he'
          clear hp' hno hok hon hj RB he hok2 h3
          simp only [plc]
          have hd : decide ((j : Int) < 0) = false := by simp
          go_wp2
          go_quiet (fail)
          go_wp2
          go_roundw
          case rel => exact ⟨k + 1, by omega, by go_num, ky.drewN _, fun i hi h1 => hp2 i hi h1⟩
          case measure => simp [intOf]; omega
    · obtain rfl : k = X.length := by omega
      rw [hAE.out (fun i hi => hp i hi hi)] at hA
      have hq : ((X.length : Int) == (Y.length : Int)) = A := by rw [← hA]; rw [Bool.eq_iff_iff]; simp; omega
      go_wp2
      go_ret
      exact ⟨by first | rfl | simp [*], k12.trans kw (fun z hz => by simp at hz)⟩

end Go.Proofs.Ytadcpkdnpfmphaa
