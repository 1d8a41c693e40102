/-
  AttrsNumbers, walked.
-/
import Derived.Test.YtbhgldinoijecaaMany
namespace Go.Proofs.Ytbhgldinoijecaa
open Go.RowKit

/-- The few attributes. -/
def ONE : List Att := [(⟨#[97]⟩, ⟨#[49]⟩), (⟨#[97]⟩, ⟨#[50]⟩), (⟨#[98]⟩, ⟨#[49]⟩), (⟨#[118, 105, 101, 119, 98, 111, 120]⟩, ⟨#[120]⟩), (⟨#[]⟩, ⟨#[]⟩)]

theorem one_len : ONE.length = 5 := rfl
theorem one_fits : fits ONE := fits_small (by decide)

theorem fits_list {l : List Att} (h : ∀ a, a ∈ l → a ∈ ONE) : fits l := fun a ha => one_fits a (h a ha)

theorem heap3a (V : World) (A B C : Obj) : (((V.alloc A).alloc B).alloc C).heap[V.heap.size]? = some A := by
  rw [Below.heap_alloc _ _ _ (by simp; omega), Below.heap_alloc _ _ _ (by simp)]
  exact heap_new V A
theorem heap3b (V : World) (A B C : Obj) : (((V.alloc A).alloc B).alloc C).heap[V.heap.size + 1]? = some B := by
  rw [Below.heap_alloc _ _ _ (by simp)]
  exact heap_new' _ _ _ (by simp)
theorem heap3c (V : World) (A B C : Obj) : (((V.alloc A).alloc B).alloc C).heap[V.heap.size + 1 + 1]? = some C := heap_new' _ _ _ (by simp)

set_option maxRecDepth 100000 in
set_option maxHeartbeats 4000000 in
theorem numbers_any (w : World) : Calls Try.prog 3 #[] w fun e w' => e = .returned (.bool true) ∧ Kp [] w w' := by
  have M0 := rp_lit w (cs ONE).toArray ONE 5 rfl rfl (by omega)
  have HM : Hid (∀ v, Kp [] (w.alloc (.cells (cs ONE).toArray 23)) v → Rp v (some ⟨w.heap.size, 0, none⟩) 5 5 ONE) := fun v kv => M0.rp.kept kv
  have k0 : Kp [] w (w.alloc (.cells (cs ONE).toArray 23)) := M0.kp
  clear M0
  go_enter Try.func3, Try.ntmps3
  go_wp2
  rw [show w.alloc (.cells #[.string ⟨#[97]⟩, .string ⟨#[49]⟩, .string ⟨#[97]⟩, .string ⟨#[50]⟩, .string ⟨#[98]⟩, .string ⟨#[49]⟩, .string ⟨#[118, 105, 101, 119, 98, 111, 120]⟩, .string ⟨#[120]⟩, .string ⟨#[]⟩, .string ⟨#[]⟩] 23) = w.alloc (.cells (cs ONE).toArray 23) from rfl]
  generalize w.alloc (.cells (cs ONE).toArray 23) = w1 at HM k0
  generalize w.heap.size = b1 at HM
  have C : Hid (∀ v, Kp [] w1 v → ∀ k (h : k < 5), v.cell? ⟨b1, k * 2, none⟩ = some (.string (ONE[k]'(by rw [one_len]; exact h)).1) ∧ v.cell? ⟨b1, k * 2 + 1, none⟩ = some (.string (ONE[k]'(by rw [one_len]; exact h)).2)) := fun v kv k h => by
    obtain ⟨b, o, e, h1, h2⟩ := (HM.out v kv).get k (by rw [one_len]; exact h)
    simp only [Option.some.injEq, Addr.mk.injEq, and_true] at e
    obtain ⟨rfl, rfl⟩ := e
    rw [Nat.zero_add] at h1 h2
    exact ⟨h1, h2⟩
  go_loopw [2, 3] (fun v i wr => ∃ (k : Nat) (ao : Option Addr) (n c : Nat) (xs : List Value), k ≤ 5 ∧ i = .int .i64 k ∧ v = .slice ao n c ∧ Lv w1 wr ao n c xs ∧ xs.length ≤ 11 * k) (fun _ i _ => 5 - (intOf i).toNat)
  case atStart => exact ⟨0, _, _, _, _, Nat.zero_le _, rfl, rfl, Lv.nil w1, by simp⟩
  case round =>
    obtain ⟨k, ao, n, c, xs, hk, rfl, rfl, L, hxs⟩ := hrel
    by_cases hlt : k < 5
    · obtain ⟨h1, h2⟩ := C.out wr L.kp k hlt
      have hin : Hid (ONE[k]'(by rw [one_len]; exact hlt) ∈ ONE) := List.getElem_mem _
      generalize ONE[k]'(by rw [one_len]; exact hlt) = a at h1 h2 hin
      have G1 := gd_new wr #[.string a.1, .string a.2] [a] 1 rfl rfl (by omega) (fits_list (by simpa using hin.out))
      have ka : Kp [] wr (wr.alloc (.cells #[.string a.1, .string a.2] 23)) := (Kp.refl _ _).alloc _
      have e0 : (wr.alloc (.cells #[.string a.1, .string a.2] 23)).heap.size = wr.heap.size + 1 := by simp
      have G2 : ∀ x, x ∈ [Value.slice (some ⟨wr.heap.size, 0, none⟩) 1 1] → Gd ((wr.alloc (.cells #[.string a.1, .string a.2] 23)).alloc (.cells #[Value.slice (some ⟨wr.heap.size, 0, none⟩) 1 1] 24)) x := fun x hx => by
        simp only [List.mem_singleton] at hx
        subst hx
        exact G1.keep ((Kp.refl [] _).alloc _) (fun _ _ => by simp)
      obtain ⟨a2, n2, c2, w2, hrun, L2⟩ := ((L.kept ka).kept ((Kp.refl [] _).alloc (.cells #[Value.slice (some ⟨wr.heap.size, 0, none⟩) 1 1] 24))).app (src_lists (q := wr.heap.size + 1) (n := 1) (heap_new' _ _ _ e0.symm) rfl G2) G2 (by omega) (by omega)
      have hxs2 : (xs ++ [Value.slice (some ⟨wr.heap.size, 0, none⟩) 1 1]).length ≤ 11 * k + 1 := by simp; omega
      generalize xs ++ [Value.slice (some ⟨wr.heap.size, 0, none⟩) 1 1] = ys at L2 hxs2
      clear G1 G2 ka e0 L hxs
      go_wp2_with (at_builtin; refine Lib.wpList_append_run _ rfl _ _ _ _ rfl _ _ rfl rfl _ _ (hrun _) ?_)
      clear hrun h1 h2
      go_loopw [2, 4] (fun v i wv => ∃ (j : Nat) (ao : Option Addr) (n c : Nat) (xs : List Value), j ≤ 5 ∧ i = .int .i64 j ∧ v = .slice ao n c ∧ Lv w1 wv ao n c xs ∧ xs.length ≤ 11 * k + 1 + 2 * j) (fun _ i _ => 5 - (intOf i).toNat)
      case atStart => exact ⟨0, _, _, _, _, Nat.zero_le _, rfl, rfl, L2, by omega⟩
      case round =>
        obtain ⟨j, ao3, n3, c3, zs, hj, rfl, rfl, L3, hzs⟩ := hrel
        clear L2 hxs2
        by_cases hlj : j < 5
        · have kp := L3.kp
          have E : Hid (∃ x y o : Att, fits [x, y] ∧ fits [y, x, o] ∧ ∀ v, Kp [] w1 v → v.cell? ⟨b1, k * 2, none⟩ = some (.string x.1) ∧ v.cell? ⟨b1, k * 2 + 1, none⟩ = some (.string x.2) ∧ v.cell? ⟨b1, j * 2, none⟩ = some (.string y.1) ∧ v.cell? ⟨b1, j * 2 + 1, none⟩ = some (.string y.2) ∧ v.cell? ⟨b1, 0, none⟩ = some (.string o.1) ∧ v.cell? ⟨b1, 1, none⟩ = some (.string o.2)) := by
            refine ⟨ONE[k]'(by rw [one_len]; exact hlt), ONE[j]'(by rw [one_len]; exact hlj), ONE[0]'(by rw [one_len]; omega), fits_list (fun z hz => ?_), fits_list (fun z hz => ?_), fun v kv => ?_⟩
            · simp only [List.mem_cons, List.not_mem_nil, or_false] at hz
              rcases hz with rfl | rfl <;> exact List.getElem_mem _
            · simp only [List.mem_cons, List.not_mem_nil, or_false] at hz
              rcases hz with rfl | rfl | rfl <;> exact List.getElem_mem _
            · obtain ⟨g1, g2⟩ := C.out v kv k hlt
              obtain ⟨g3, g4⟩ := C.out v kv j hlj
              obtain ⟨g5, g6⟩ := C.out v kv 0 (by omega)
              exact ⟨g1, g2, g3, g4, g5, g6⟩
          obtain ⟨x, y, o, hxy, hyxo, hc0⟩ := E.out
          have CC : Hid (∀ v, Kp [] w1 v → v.cell? ⟨b1, k * 2, none⟩ = some (.string x.1) ∧ v.cell? ⟨b1, k * 2 + 1, none⟩ = some (.string x.2) ∧ v.cell? ⟨b1, j * 2, none⟩ = some (.string y.1) ∧ v.cell? ⟨b1, j * 2 + 1, none⟩ = some (.string y.2) ∧ v.cell? ⟨b1, 0, none⟩ = some (.string o.1) ∧ v.cell? ⟨b1, 1, none⟩ = some (.string o.2)) := hc0
          have hxy' : Hid (fits [x, y]) := hxy
          have hyxo' : Hid (fits [y, x, o]) := hyxo
          obtain ⟨g1, g2, g3, g4, g5, g6⟩ := CC.out wr kp
          have i1 : (0 : Int) ≤ (k : Int) := by omega
          have i2 : (k : Int) < 5 := by omega
          have i3 : (0 : Int) ≤ (j : Int) := by omega
          have i4 : (j : Int) < 5 := by omega
          clear hc0 E hxy hyxo
          go_wp2_with fail
          go_region_held3 (fun w' => w'.cell? ⟨b1, k * 2, none⟩ = some (.string x.1) ∧ w'.cell? ⟨b1, k * 2 + 1, none⟩ = some (.string x.2) ∧ w'.cell? ⟨b1, j * 2, none⟩ = some (.string y.1) ∧ w'.cell? ⟨b1, j * 2 + 1, none⟩ = some (.string y.2) ∧ w'.cell? ⟨b1, 0, none⟩ = some (.string o.1) ∧ w'.cell? ⟨b1, 1, none⟩ = some (.string o.2))
            (first
              | exact CC.out _ N4.kp
              | exact CC.out _ kp.drew
              | exact CC.out _ (kp.drew.alloc _)
              | exact CC.out _ ((kp.drew.alloc _).alloc _)
              | exact CC.out _ (((kp.drew.alloc _).alloc _).alloc _))
            (first
              | (refine step_lists (by rfl) _ _ (by rfl) (by rfl) (by rfl) ((((L3.kept (Kp.refl _ _).drew).kept ((Kp.refl _ _).alloc _)).kept ((Kp.refl _ _).alloc _)).kept ((Kp.refl _ _).alloc _)) _ (heap3c wr.drew _ _ _) rfl (fun z hz => by
                  simp only [List.mem_cons, List.not_mem_nil, or_false] at hz
                  rcases hz with rfl | rfl
                  · exact gd_at _ _ _ [x, y] 2 (by first | exact heap3a wr.drew _ _ _ | exact heap3b wr.drew _ _ _) rfl rfl (by omega) hxy'.out
                  · exact gd_at _ _ _ [y, x, o] 3 (by first | exact heap3a wr.drew _ _ _ | exact heap3b wr.drew _ _ _) rfl rfl (by omega) hyxo'.out) (by simp) (by simp; omega) ?_; intro a4 n4 c4 w4 N4))
          all_goals
            clear CC g1 g2 g3 g4 g5 g6 L3 kp i1 i2 i3 i4 hxy' hyxo'
            go_wp2
            go_roundw
            case rel => exact ⟨j + 1, _, _, _, _, by omega, by go_num, rfl, N4, by simp; omega⟩
            case measure => simp [intOf]; omega
        · obtain rfl : j = 5 := by omega
          go_wp2
          go_roundw
          case rel => exact ⟨k + 1, _, _, _, _, by omega, by go_num, rfl, L3, by omega⟩
          case measure => simp [intOf]; omega
    · obtain rfl : k = 5 := by omega
      have ka : Kp [] wr (wr.alloc (.cells #[Value.slice none 0 0] 24)) := (Kp.refl _ _).alloc _
      have G2 : ∀ x, x ∈ [Value.slice none 0 0] → Gd (wr.alloc (.cells #[Value.slice none 0 0] 24)) x := fun x hx => by
        simp only [List.mem_singleton] at hx
        subst hx
        exact gd_nil _
      obtain ⟨a2, n2, c2, w2, hrun, L2⟩ := (L.kept ka).app (src_lists (q := wr.heap.size) (n := 1) (heap_new _ _) rfl G2) G2 (by omega) (by omega)
      have hxs2 : (xs ++ [Value.slice none 0 0]).length ≤ 56 := by simp; omega
      generalize xs ++ [Value.slice none 0 0] = ys at L2 hxs2
      obtain rfl := L2.1.rb.len
      clear G2 ka L hxs
      go_wp2_with (at_builtin; refine Lib.wpList_append_run _ rfl _ _ _ _ rfl _ _ rfl rfl _ _ (hrun _) ?_)
      clear hrun
      go_loopw [5] (fun v wv => ∃ i : Nat, i ≤ ys.length ∧ v = .int .i64 i ∧ Lv w1 wv a2 ys.length c2 ys) (fun v _ => ys.length - (intOf v).toNat)
      case atStart => exact ⟨0, Nat.zero_le _, rfl, L2⟩
      case round =>
        obtain ⟨i, hi, rfl, L3⟩ := hrel
        clear L2
        by_cases hil : i < ys.length
        · go_wp2
          go_loopw [6] (fun v wv => ∃ k : Nat, k ≤ ys.length ∧ v = .int .i64 k ∧ Lv w1 wv a2 ys.length c2 ys) (fun v _ => ys.length - (intOf v).toNat)
          case atStart => exact ⟨0, Nat.zero_le _, rfl, L3⟩
          case round =>
            obtain ⟨k, hk, rfl, L4⟩ := hrel
            clear L3
            by_cases hkl : k < ys.length
            · obtain ⟨b2, o2, a5, n5, c5, l5, rfl, g1, R5, hn5, hf5⟩ := L4.get i hil
              obtain ⟨b3, o3, a6, n6, c6, l6, e3, g2, R6, hn6, hf6⟩ := L4.get k hkl
              simp only [Option.some.injEq, Addr.mk.injEq, and_true] at e3
              obtain ⟨rfl, rfl⟩ := e3
              obtain ⟨r, i8, i9, hr5⟩ : ∃ r : Nat, ((i : Int) + (k : Int)).tmod 5 = (r : Int) ∧ ((i : Int) + (k : Int)) % 5 = (r : Int) ∧ r < 5 := ⟨(i + k) % 5, by rw [← Int.natCast_add]; rfl, by omega, Nat.mod_lt _ (by omega)⟩
              obtain ⟨g3, g4⟩ := C.out wr L4.kp r hr5
              have hfo : Hid (fits [ONE[r]'(by rw [one_len]; exact hr5)]) := fits_list (fun z hz => by
                simp only [List.mem_singleton] at hz
                rw [hz]
                exact List.getElem_mem _)
              generalize ONE[r]'(by rw [one_len]; exact hr5) = x at g3 g4 hfo
              have CC : Hid (∀ v, Kp [] wr v → v.cell? ⟨b2, o2 + i, none⟩ = some (.slice a5 n5 c5) ∧ v.cell? ⟨b2, o2 + k, none⟩ = some (.slice a6 n6 c6) ∧ v.cell? ⟨b1, r * 2, none⟩ = some (.string x.1) ∧ v.cell? ⟨b1, r * 2 + 1, none⟩ = some (.string x.2)) := fun v kv =>
                ⟨by rw [kv.cell (block_lt_of_cell g1) (by simp)]; exact g1, by rw [kv.cell (block_lt_of_cell g2) (by simp)]; exact g2, by rw [kv.cell (block_lt_of_cell g3) (by simp)]; exact g3, by rw [kv.cell (block_lt_of_cell g4) (by simp)]; exact g4⟩
              have HB : Hid (∀ v, Kp [] wr v → Calls Try.prog 7 #[.slice a5 n5 c5, .slice a6 n6 c6, .agg #[.string x.1, .string x.2]] v fun e w' => e = .returned (.bool true) ∧ Kp [] v w') := fun v kv => both_any v l5 l6 x a5 a6 n5 c5 n6 c6 (R5.kept kv) (R6.kept kv) hn5 hn6 hf5 hf6 hfo.out
              have i1 : (0 : Int) ≤ (i : Int) := by omega
              have i2 : (i : Int) < (ys.length : Int) := by omega
              have i3 : (0 : Int) ≤ (k : Int) := by omega
              have i4 : (k : Int) < (ys.length : Int) := by omega
              have i5 : IntKind.i64.wrap ((i : Int) + (k : Int)) = (i : Int) + (k : Int) := by rw [IntKind.wrap_i64]; omega
              have i6 : (0 : Int) ≤ (r : Int) := by omega
              have i7 : (r : Int) < 5 := by omega
              clear R5 R6 hfo
              go_wp2_with fail
              go_region_held3 (fun w' => w'.cell? ⟨b2, o2 + i, none⟩ = some (.slice a5 n5 c5) ∧ w'.cell? ⟨b2, o2 + k, none⟩ = some (.slice a6 n6 c6) ∧ w'.cell? ⟨b1, r * 2, none⟩ = some (.string x.1) ∧ w'.cell? ⟨b1, r * 2 + 1, none⟩ = some (.string x.2))
                (first
                  | exact CC.out _ S1.out
                  | exact CC.out _ (Kp.refl [] wr).drew)
                (first
                  | (go_at_call 7; refine (HB.out _ (Kp.refl [] wr).drew).mono ?_; rintro e v1 ⟨rfl, kk⟩; have S1 : Hid (Kp [] wr v1) := (Kp.refl [] wr).drew.trans kk (fun x hx => by simp at hx); clear kk))
              have L5 := L4.kept S1.out
              clear CC HB g1 g2 g3 g4 i1 i2 i3 i4 i5 i6 i7 i8 i9 S1 L4
              go_wp2
              go_roundw
              case rel => exact ⟨k + 1, by omega, by go_num, L5⟩
              case measure => simp [intOf]; omega
            · obtain rfl : k = ys.length := by omega
              go_wp2
              go_roundw
              case rel => exact ⟨i + 1, by omega, by go_num, L4⟩
              case measure => simp [intOf]; omega
        · obtain rfl : i = ys.length := by omega
          have HK := from_back (known_any wr) (k0.trans L3.kp (fun x hx => by simp at hx))
          go_wp2_with fail
          refine HK.mono ?_
          rintro e w9 ⟨rfl, k9⟩
          clear HK
          go_wp2
          go_ret
          exact ⟨rfl, k9⟩

end Go.Proofs.Ytbhgldinoijecaa
