/-
  The document's Right of a Start.
-/
import Derived.Test.YtgeebmlincddkaaJudgeD
import Derived.Deep.RegionWith
namespace Go.Proofs.Ytgeebmlincddkaa
open Go.RowKit Utf

set_option maxRecDepth 100000 in
set_option maxHeartbeats 4000000 in
theorem judge2W (w : World) (x y : ByteArray) (b : Bool) (ao : Option Addr) (n c : Nat) (hx : x.size ≤ 100000) (hY : y.toList.isEmpty = true) (hX : x.toList.isEmpty = false) (h0 : 0 < x.size) (hL : isLet (bt x 0) = true) (hD : ((lower x).toList == x.toList) = false) :
    Calls Try.prog 16 #[tv 2 x ao n c b y] w fun e w' => e = .returned (.bool false) ∧ Kp [] w w' := by
  obtain ⟨W, hW⟩ : ∃ W, W = w.alloc (.cells #[.int .i64 2, .string x, .slice ao n c, .bool b, .string y] 24) := ⟨_, rfl⟩
  have k0 : Kp [] w W := by rw [hW]; exact (Kp.refl _ _).alloc _
  have C1 : Hid (Laid5 W w.heap.size 2 x (.slice ao n c) b y) := by rw [hW]; exact laid5 w 2 x _ b y
  obtain ⟨c0, c1, c2, c3, c4⟩ := C1.out W (Kp.refl _ _)
  have ix := index_at x 0 0 rfl h0
  rw [bt_at x 0 h0] at hL
  have l1 : 0 ≤ ((x[0]'h0).toNat : Int) ∧ ((x[0]'h0).toNat : Int) < 256 := by have := (x[0]'h0).toNat_lt; omega
  generalize ((x[0]'h0).toNat : Int) = a at ix l1 hL
  obtain ⟨l1, l2⟩ := l1
  have hw : IntKind.i32.wrap a = a := by rw [IntKind.wrap_i32]; omega
  have HT := fun v => ref_letter_any v a
  simp only [hL] at HT
  have HL := fun v => ref_lower_any v x hx
  clear hL h0
  unfold tv
  go_enter Try.func16, Try.ntmps16
  go_wp2_with fail
  rw [← hW]
  clear hW
  have hun : undef = Value.tuple #[] := rfl
  first | (go_region_with (first
    | (go_at_call 30; refine (HT _).mono ?_; rintro e v0 ⟨rfl, rfl⟩)
    | (go_at_call 29; refine (HL _).mono ?_; rintro e v1 ⟨rfl, kk⟩; have S1 : Hid (Kp [] W v1) := (Kp.refl [] W).drew.trans kk (fun x hx => by simp at hx); clear kk; obtain ⟨d0, d1, d2, d3, d4⟩ := C1.out _ S1.out))) | fail
  all_goals
    clear hun
    have kz := k0.trans S1.out (fun x hx => by simp at hx)
    clear HL HT C1 c0 c1 c2 c3 c4 d0 d1 d2 d3 d4 S1 k0
    go_wp2
    go_ret
    exact ⟨rfl, kz⟩

set_option maxRecDepth 100000 in
set_option maxHeartbeats 4000000 in
theorem judge2G (w : World) (x y : ByteArray) (b : Bool) (ao : Option Addr) (n c : Nat) (hx : x.size ≤ 100000) (hY : y.toList.isEmpty = true) (hX : x.toList.isEmpty = false) (h0 : 0 < x.size) (hL : isLet (bt x 0) = true) (hD : ((lower x).toList == x.toList) = true) (l : List Att) (hr : Rp w ao n c l) (hn : n ≤ 1000) :
    Calls Try.prog 16 #[tv 2 x ao n c b y] w fun e w' => e = .returned (.bool ((bytesOf x).all okB && areRight l)) ∧ Kp [] w w' := by
  obtain ⟨A, hA⟩ : ∃ A, ((bytesOf x).all okB && areRight l) = A := ⟨_, rfl⟩
  rw [hA]
  obtain rfl := hr.len
  obtain ⟨W, hW⟩ : ∃ W, W = w.alloc (.cells #[.int .i64 2, .string x, .slice ao l.length c, .bool b, .string y] 24) := ⟨_, rfl⟩
  have k0 : Kp [] w W := by rw [hW]; exact (Kp.refl _ _).alloc _
  have C1 : Hid (Laid5 W w.heap.size 2 x (.slice ao l.length c) b y) := by rw [hW]; exact laid5 w 2 x _ b y
  obtain ⟨c0, c1, c2, c3, c4⟩ := C1.out W (Kp.refl _ _)
  have ix := index_at x 0 0 rfl h0
  rw [bt_at x 0 h0] at hL
  have l1 : 0 ≤ ((x[0]'h0).toNat : Int) ∧ ((x[0]'h0).toNat : Int) < 256 := by have := (x[0]'h0).toNat_lt; omega
  generalize ((x[0]'h0).toNat : Int) = a at ix l1 hL
  obtain ⟨l1, l2⟩ := l1
  have hw : IntKind.i32.wrap a = a := by rw [IntKind.wrap_i32]; omega
  have HT := fun v => ref_letter_any v a
  simp only [hL] at HT
  have HL := fun v => ref_lower_any v x hx
  clear hL h0
  unfold tv
  go_enter Try.func16, Try.ntmps16
  go_wp2_with fail
  rw [← hW]
  clear hW
  have hun : undef = Value.tuple #[] := rfl
  first | (go_region_with (first
    | (go_at_call 30; refine (HT _).mono ?_; rintro e v0 ⟨rfl, rfl⟩)
    | (go_at_call 29; refine (HL _).mono ?_; rintro e v1 ⟨rfl, kk⟩; have S1 : Hid (Kp [] W v1) := (Kp.refl [] W).drew.trans kk (fun x hx => by simp at hx); clear kk; obtain ⟨d0, d1, d2, d3, d4⟩ := C1.out _ S1.out))) | fail
  all_goals
    clear hun
    have kv : Kp [] w v1 := k0.trans S1.out (fun x hx => by simp at hx)
    have hrv := hr.kept kv
    have D1 : Hid (Laid5 v1 w.heap.size 2 x (.slice ao l.length c) b y) := fun V kV => C1.out V (S1.out.trans kV (fun z hz => by simp at hz))
    clear HL HT C1 c0 c1 c2 c3 c4 S1 k0 hr ix l1 l2 hw hD hX
    go_wp2
    go_loopw [3] (fun i wr => ∃ k : Nat, i = .int .i64 k ∧ v1 = wr ∧ k ≤ x.size ∧ Hid (∀ j, j < k → okB (bt x j) = true)) (fun i _ => x.size - (intOf i).toNat)
    case atStart => exact ⟨0, rfl, rfl, Nat.zero_le _, fun j hj => by omega⟩
    case round =>
      obtain ⟨k, rfl, rfl, hk, hok⟩ := hrel
      by_cases hlt : k < x.size
      · have hb := bt_at x k hlt
        have ub := (x[k]'hlt).toNat_lt
        have HS := fun v => ref_space_any v ((x[k]'hlt).toNat : Int)
        obtain ⟨u, hu⟩ : ∃ u : Nat, (x[k]'hlt).toNat = u := ⟨_, rfl⟩
        rw [hu] at hb HS ub
        cases hs : isSp (u : Int) with
        | true =>
          rw [all_not hlt (by rw [hb]; unfold okB; rw [hs]; rfl), Bool.false_and] at hA
          subst hA
          simp only [hs] at HS
          clear hs hb D1 hrv hok
          go_wp2_with fail
          refine (HS _).mono ?_
          rintro e w1 ⟨rfl, rfl⟩
          clear HS
          go_wp2
          go_ret
          exact ⟨rfl, kv⟩
        | false =>
          simp only [hs] at HS
          by_cases e1 : u = 47
          · rw [all_not hlt (by rw [hb, e1]; rfl), Bool.false_and] at hA
            subst hA
            subst e1
            clear hs hb D1 hrv hok
            go_wp2_with fail
            refine (HS _).mono ?_
            rintro e w1 ⟨rfl, rfl⟩
            clear HS
            go_wp2
            go_ret
            exact ⟨rfl, kv⟩
          · by_cases e2 : u = 62
            · rw [all_not hlt (by rw [hb, e2]; rfl), Bool.false_and] at hA
              subst hA
              subst e2
              clear hs hb D1 hrv hok
              go_wp2_with fail
              refine (HS _).mono ?_
              rintro e w1 ⟨rfl, rfl⟩
              clear HS
              go_wp2
              go_ret
              exact ⟨rfl, kv⟩
            · have hnew : Hid (okB (bt x k) = true) := by
                show _ = _
                rw [hb]
                unfold okB
                rw [hs]
                simp
                omega
              have e3 : ((u : Int) == 47) = false := by simp; omega
              have e4 : ((u : Int) == 62) = false := by simp; omega
              have e5 : (u == 47) = false := by simpa using e1
              have e6 : (u == 62) = false := by simpa using e2
              clear hs hb e1 e2
              go_wp2_with fail
              refine (HS _).mono ?_
              rintro e w1 ⟨rfl, rfl⟩
              clear HS
              go_wp2
              go_roundw
              case rel =>
                refine ⟨k + 1, by go_num, by first | trivial | rfl, hlt, fun j hj => ?_⟩
                by_cases hjp : j < k
                · exact hok.out j hjp
                · obtain rfl : j = k := by omega
                  exact hnew.out
              case measure => simp [intOf]; omega
      · rw [(all_ok x).2 (fun j hj => hok.out j (by omega)), Bool.true_and] at hA
        clear hok
        go_wp2
        go_loopw [4] (fun i wr => ∃ k : Nat, i = .int .i64 k ∧ Kp [] v1 wr ∧ k ≤ l.length ∧ Hid (∀ j (_ : j < k) (hl : j < l.length), eqs l[j].1 ⟨#[]⟩ = false ∧ idx l l[j].1 = some j)) (fun i _ => l.length - (intOf i).toNat)
        case atStart => exact ⟨0, rfl, Kp.refl _ _, Nat.zero_le _, fun j hj => by omega⟩
        case round =>
          obtain ⟨q, rfl, kw, hq, hp⟩ := hrel
          have kz := kv.trans kw (fun z hz => by simp at hz)
          obtain ⟨f0, f1, f2, f3, f4⟩ := D1.out _ kw
          by_cases hlt2 : q < l.length
          · have hrq := hrv.kept kw
            obtain ⟨b1, o1, rfl, h1, h2⟩ := hrq.get q hlt2
            have i1 : (0 : Int) ≤ (q : Int) := by omega
            have i2 : (q : Int) < (l.length : Int) := by omega
            cases he : eqs l[q].1 ⟨#[]⟩ with
            | true =>
              have he' := empty_yes he
              rw [areRight_name hlt2 he] at hA
              subst hA
              generalize l[q].1 = s at h1 he'
              clear hp D1 hrv hrq he h2
              go_wp2_with fail
              go_quiet (fail)
              have ky := kz.drewN nq
              clear kz kw f0 f1 f2 f3 f4 h1
              go_wp2
              go_ret
              exact ⟨rfl, ky⟩
            | false =>
              have he' := empty_no he
              have HH := fun V (kV : Kp [] wr V) => ref_has_any V l[q].1 l (some ⟨b1, o1, none⟩) l.length c (hrq.kept kV) hn
              have C2 : Hid (∀ V, Kp [] wr V → V.cell? ⟨w.heap.size, 2, none⟩ = some (.slice (some ⟨b1, o1, none⟩) l.length c) ∧ V.cell? ⟨b1, o1 + q * 2, none⟩ = some (.string l[q].1)) := fun V kV => ⟨(D1.out V (kw.trans kV (fun z hz => by simp at hz))).2.2.1, by rw [kV.cell (block_lt_of_cell h1) (by simp)]; exact h1⟩
              by_cases hi : idx l l[q].1 = some q
              · have hg : (plc (idx l l[q].1) != (q : Int)) = false := by rw [hi]; simp [plc]
                have hnew : Hid (eqs l[q].1 ⟨#[]⟩ = false ∧ idx l l[q].1 = some q) := ⟨he, hi⟩
                have HQ : Hid (∀ j (_ : j < q + 1) (hl : j < l.length), eqs l[j].1 ⟨#[]⟩ = false ∧ idx l l[j].1 = some j) := fun j hj hl => by
                  by_cases e : j < q
                  · exact hp.out j e hl
                  · obtain rfl : j = q := by omega
                    exact hnew.out
                generalize plc (idx l l[q].1) = P at HH hg
                generalize l[q].1 = s at h1 he' HH C2
                clear hi he hnew hp hrq h2
                go_wp2_with fail
                go_region_held3 (fun w' => w'.cell? ⟨w.heap.size, 2, none⟩ = some (.slice (some ⟨b1, o1, none⟩) l.length c) ∧ w'.cell? ⟨b1, o1 + q * 2, none⟩ = some (.string s))
                  (first
                    | exact C2.out _ S2.out
                    | exact C2.out _ (Kp.refl [] wr).drew)
                  (first
                    | (go_at_call 32; refine (HH _ (Kp.refl [] wr).drew).mono ?_; rintro e v2 ⟨rfl, kk⟩; have S2 : Hid (Kp [] wr v2) := (Kp.refl [] wr).drew.trans kk (fun x hx => by simp at hx); clear kk))
                have ky := kw.trans S2.out (fun z hz => by simp at hz)
                clear HH C2 S2 kz kw f0 f1 f2 f3 f4 h1
                go_wp2
                go_roundw
                case rel => exact ⟨q + 1, by go_num, ky, by omega, HQ.out⟩
                case measure => simp [intOf]; omega
              · have hg : (plc (idx l l[q].1) != (q : Int)) = true := by
                  cases hx : idx l l[q].1 with
                  | none => simp [plc]
                  | some r =>
                    rw [hx] at hi
                    simp [plc]
                    intro e
                    exact hi (by rw [show r = q by omega])
                rw [areRight_twice hlt2 hi] at hA
                subst hA
                generalize plc (idx l l[q].1) = P at HH hg
                generalize l[q].1 = s at h1 he' HH C2
                clear hi he hp hrq h2
                go_wp2_with fail
                go_region_held3 (fun w' => w'.cell? ⟨w.heap.size, 2, none⟩ = some (.slice (some ⟨b1, o1, none⟩) l.length c) ∧ w'.cell? ⟨b1, o1 + q * 2, none⟩ = some (.string s))
                  (first
                    | exact C2.out _ S2.out
                    | exact C2.out _ (Kp.refl [] wr).drew)
                  (first
                    | (go_at_call 32; refine (HH _ (Kp.refl [] wr).drew).mono ?_; rintro e v2 ⟨rfl, kk⟩; have S2 : Hid (Kp [] wr v2) := (Kp.refl [] wr).drew.trans kk (fun x hx => by simp at hx); clear kk))
                have ky := kz.trans S2.out (fun z hz => by simp at hz)
                clear HH C2 S2 kz kw f0 f1 f2 f3 f4 h1
                go_wp2
                go_ret
                exact ⟨rfl, ky⟩
          · rw [areRight_all (fun j hj => (hp.out j (by omega) hj).1) (fun j hj => (hp.out j (by omega) hj).2)] at hA
            subst hA
            clear hp D1 hrv
            go_wp2
            go_ret
            exact ⟨rfl, kz⟩

end Go.Proofs.Ytgeebmlincddkaa
