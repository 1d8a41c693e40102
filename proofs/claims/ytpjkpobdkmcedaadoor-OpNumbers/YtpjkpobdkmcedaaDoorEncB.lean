/-
  The program's putText, fits.
-/
import Derived.Test.YtpjkpobdkmcedaaDoorEncA
import Derived.Test.YtpjkpobdkmcedaaDoorOlist
namespace Go.Proofs.YtpjkpobdkmcedaaDoor
open Go.RowKit Utf
set_option linter.unusedVariables false
set_option linter.unusedSimpArgs false

theorem pnum1 (w : World) (v : Value) (xs : List Int) (h : OwnB w v (b8 xs)) (n : Int) (hn : 0 ≤ n ∧ n ≤ 4294967295) (hlen : xs.length ≤ 900000) :
    Calls Tryd.prog 40 #[v, .int .i64 n, .int .i64 1] w fun e w' => ∃ v', e = .returned v' ∧ Ext w w' v v' (xs ++ nb n 1) := pnum_any w v xs h n 1 (by omega) hn hlen
theorem pnum2 (w : World) (v : Value) (xs : List Int) (h : OwnB w v (b8 xs)) (n : Int) (hn : 0 ≤ n ∧ n ≤ 4294967295) (hlen : xs.length ≤ 900000) :
    Calls Tryd.prog 40 #[v, .int .i64 n, .int .i64 2] w fun e w' => ∃ v', e = .returned v' ∧ Ext w w' v v' (xs ++ nb n 2) := pnum_any w v xs h n 2 (by omega) hn hlen
theorem pnum3 (w : World) (v : Value) (xs : List Int) (h : OwnB w v (b8 xs)) (n : Int) (hn : 0 ≤ n ∧ n ≤ 4294967295) (hlen : xs.length ≤ 900000) :
    Calls Tryd.prog 40 #[v, .int .i64 n, .int .i64 3] w fun e w' => ∃ v', e = .returned v' ∧ Ext w w' v v' (xs ++ nb n 3) := pnum_any w v xs h n 3 (by omega) hn hlen
theorem pnum4 (w : World) (v : Value) (xs : List Int) (h : OwnB w v (b8 xs)) (n : Int) (hn : 0 ≤ n ∧ n ≤ 4294967295) (hlen : xs.length ≤ 900000) :
    Calls Tryd.prog 40 #[v, .int .i64 n, .int .i64 4] w fun e w' => ∃ v', e = .returned v' ∧ Ext w w' v v' (xs ++ nb n 4) := pnum_any w v xs h n 4 (by omega) hn hlen

set_option maxRecDepth 100000 in
set_option maxHeartbeats 400000 in
theorem ptext_any (w : World) (v : Value) (xs : List Int) (h : OwnB w v (b8 xs)) (s : ByteArray) (hs : s.size ≤ 16777215) (hlen : xs.length + s.size ≤ 900000) :
    Calls Tryd.prog 41 #[v, .string s] w fun e w' => ∃ v', e = .returned v' ∧ Ext w w' v v' (xs ++ tb s) := by
  have HP := pnum3 w v xs h s.size (by omega) (by omega)
  obtain ⟨ao, c, hv⟩ := (Ext.refl h).shape
  subst hv
  clear h
  go_enter Tryd.func41, Tryd.ntmps41
  go_wp2_with fail
  refine HP.mono ?_
  rintro e w1 ⟨v1, rfl, X1⟩
  obtain ⟨a1, c1, hv⟩ := X1.shape
  subst hv
  obtain ⟨a2, c2, w2, hrun, X2⟩ := ext_str X1 s (by rw [List.length_append, nb_len]; omega)
  have XX : Hid (Ext w w2 (.slice ao xs.length c) (.slice a2 ((xs ++ nb s.size 3).length + s.size) c2) (xs ++ nb s.size 3 ++ bytesOf s)) := X2
  clear X1 X2 HP
  generalize (xs ++ nb s.size 3).length = m at hrun XX
  go_wp2_with (at_builtin; refine Lib.wpList_append_run _ rfl _ _ _ _ rfl _ _ rfl rfl _ _ (hrun _) ?_)
  go_ret
  exact ⟨_, rfl, by have := XX.out; rw [List.append_assoc] at this; exact this⟩

/-- Can its lengths be written? -/
def fitB (o : Ot) : Bool := decide (o.nm.size ≤ 16777215) && (decide (o.tt.size ≤ 16777215) && (decide (o.al.length ≤ 65535) && o.al.all fun a => decide (a.1.size ≤ 16777215) && decide (a.2.size ≤ 16777215)))

theorem fitB_iff {o : Ot} : fitB o = true ↔ fitO o := by
  unfold fitB fitO fitA
  simp [List.all_eq_true]

theorem fit_not {l : List Att} {k : Nat} (hk : k < l.length) (h : ¬ (l[k].1.size ≤ 16777215 ∧ l[k].2.size ≤ 16777215)) : (l.all fun a => decide (a.1.size ≤ 16777215) && decide (a.2.size ≤ 16777215)) = false := by
  rw [List.all_eq_false]
  exact ⟨l[k], List.getElem_mem hk, by simpa using h⟩

theorem fit_all {l : List Att} (h : ∀ j (hj : j < l.length), l[j].1.size ≤ 16777215 ∧ l[j].2.size ≤ 16777215) : (l.all fun a => decide (a.1.size ≤ 16777215) && decide (a.2.size ≤ 16777215)) = true := by
  rw [List.all_eq_true]
  intro a ha
  obtain ⟨j, hj, rfl⟩ := List.mem_iff_getElem.1 ha
  simpa using h j hj

set_option maxRecDepth 100000 in
set_option maxHeartbeats 1000000 in
theorem fits_any (w : World) (o : Ot) (p : Sl) (h : At w (o, p)) (hl : p.2.1 ≤ 100000) :
    Calls Tryd.prog 23 #[ov o p] w fun e w' => e = .returned (.bool (fitB o)) ∧ Kp [] w w' := by
  have hq : p.2.1 = o.al.length := Rp.len h
  obtain ⟨a1, a2, a3, a4, a5, a6, a7, l, a9⟩ := o
  obtain ⟨p1, p2, p3⟩ := p
  simp only at hq hl
  subst hq
  unfold At at h
  simp only at h
  obtain ⟨A, hA0⟩ : ∃ A, fitB ⟨a1, a2, a3, a4, a5, a6, a7, l, a9⟩ = A := ⟨_, rfl⟩
  rw [hA0]
  have hA : Hid (fitB ⟨a1, a2, a3, a4, a5, a6, a7, l, a9⟩ = A) := hA0
  clear hA0
  have k0 : Kp [] w (w.alloc (.cells (oc ⟨a1, a2, a3, a4, a5, a6, a7, l, a9⟩ (p1, l.length, p3)) 24)) := (Kp.refl _ _).alloc _
  simp only [oc, ov] at k0 ⊢
  by_cases c1 : a7.size ≤ 16777215
  · by_cases c2 : a9.size ≤ 16777215
    · by_cases c3 : l.length ≤ 65535
      · have hA2 : Hid ((l.all fun a => decide (a.1.size ≤ 16777215) && decide (a.2.size ≤ 16777215)) = A) := (by have := hA.out; simpa [fitB, c1, c2, c3] using this : (l.all fun a => decide (a.1.size ≤ 16777215) && decide (a.2.size ≤ 16777215)) = A)
        clear hA
        go_enter Tryd.func23, Tryd.ntmps23
        go_wp2
        go_loopw [24] (fun i wr => ∃ k : Nat, k ≤ l.length ∧ i = .int .i64 k ∧ Kp [] w wr ∧ ∀ j (hj : j < l.length), j < k → l[j].1.size ≤ 16777215 ∧ l[j].2.size ≤ 16777215) (fun i _ => l.length - (intOf i).toNat)
        case atStart => exact ⟨0, Nat.zero_le _, rfl, k0, fun j _ hj => by omega⟩
        case round =>
          obtain ⟨k, hk, rfl, kw, hp⟩ := hrel
          clear k0
          by_cases hlt : k < l.length
          · obtain ⟨b, off, rfl, h1, h2⟩ := (Rp.kept h kw).get k hlt
            have hp2 : Hid (l[k].1.size ≤ 16777215 ∧ l[k].2.size ≤ 16777215 → ∀ j (hj : j < l.length), j < k + 1 → l[j].1.size ≤ 16777215 ∧ l[j].2.size ≤ 16777215) := fun hz j hj hjk => by
              by_cases e : j = k
              · subst e; exact hz
              · exact hp j hj (by omega)
            have hno : Hid (¬ (l[k].1.size ≤ 16777215 ∧ l[k].2.size ≤ 16777215) → A = false) := fun hz => by rw [← hA2.out]; exact fit_not hlt hz
            clear hp h hA2
            generalize l[k] = x at h1 h2 hp2 hno
            by_cases z1 : x.1.size ≤ 16777215
            · by_cases z2 : x.2.size ≤ 16777215
              · have hp3 : Hid (∀ j (hj : j < l.length), j < k + 1 → l[j].1.size ≤ 16777215 ∧ l[j].2.size ≤ 16777215) := hp2.out ⟨z1, z2⟩
                clear hp2 hno
                go_wp2
                go_roundw
                case rel => exact ⟨k + 1, by omega, by go_num, kw.alloc _, hp3.out⟩
                case measure => simp [intOf]; omega
              · obtain rfl := hno.out (fun e => z2 e.2)
                clear hp2 hno
                go_wp2
                go_ret
                exact ⟨rfl, kw.alloc _⟩
            · obtain rfl := hno.out (fun e => z1 e.1)
              clear hp2 hno
              go_wp2
              go_ret
              exact ⟨rfl, kw.alloc _⟩
          · obtain rfl : k = l.length := by omega
            have hA3 := hA2.out
            rw [fit_all (fun j hj => hp j hj hj)] at hA3
            subst hA3
            clear hA2 hp h
            go_wp2
            go_ret
            exact ⟨rfl, kw⟩
      · obtain rfl : A = false := by rw [← hA.out]; simp [fitB, c3]
        clear hA h
        go_enter Tryd.func23, Tryd.ntmps23
        go_wp2
        go_ret
        exact ⟨rfl, k0⟩
    · obtain rfl : A = false := by rw [← hA.out]; simp [fitB, c2]
      clear hA h
      go_enter Tryd.func23, Tryd.ntmps23
      go_wp2
      go_ret
      exact ⟨rfl, k0⟩
  · obtain rfl : A = false := by rw [← hA.out]; simp [fitB, c1]
    clear hA h
    go_enter Tryd.func23, Tryd.ntmps23
    go_wp2
    go_ret
    exact ⟨rfl, k0⟩

end Go.Proofs.YtpjkpobdkmcedaaDoor
