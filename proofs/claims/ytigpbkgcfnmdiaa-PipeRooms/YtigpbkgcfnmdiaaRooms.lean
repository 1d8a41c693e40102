/-
  The walk of PipeRooms: whatever room and list of ints it is given, it answers true, and leaves what was there as it was.
-/
import Derived.Test.YtigpbkgcfnmdiaaIntsC
import Derived.Test.YtigpbkgcfnmdiaaKnown
namespace Go.Proofs.Ytigpbkgcfnmdiaa
open Go.RowKit Ints

set_option maxHeartbeats 2000000 in
set_option maxRecDepth 100000 in
theorem rooms_any (w : World) (n : Int) (ao : Option Addr) (cap : Nat) (ys : List Int) (hr : Rd w (.slice ao ys.length cap) (ys.map (Value.int .i64))) (hb : ys.length ≤ 9223372036854775807) :
    Calls Try.prog 6 #[.int .i64 n, .slice ao ys.length cap] w fun e w' => e = .returned (.bool true) ∧ Kp [] w w' := by
  go_enter Try.func6, Try.ntmps6
  go_wp2_with fail
  refine (within_any w n 60 (by omega) (by omega)).mono ?_
  rintro e w1 ⟨⟨r, h1, h2, rfl⟩, rfl⟩
  go_wp2_with fail
  refine (new_any w1 r h1 (by omega)).mono ?_
  rintro e w2 ⟨rfl, l1, k1⟩
  have i1 : Inv w1 w2 (w1.heap.size + 1) w1.heap.size r [] [] := ⟨l1, k1, Nat.le_refl _⟩
  clear l1 k1
  generalize w1.heap.size + 1 = p at i1 ⊢
  generalize w1.heap.size = c at i1 ⊢
  have HF := fill_any _ _ _ _ _ _ i1.1 ao cap ys (hr.kept i1.2.1) hb
  rcases Nat.lt_or_ge ys.length r with hlt | hge
  · have hmin : min (r - ([] : List Int).length) ys.length = ys.length := by simp; omega
    rw [hmin, List.take_length, List.nil_append] at HF
    clear hmin
    go_wp2_with fail
    refine HF.mono ?_
    rintro e w3 ⟨rfl, k3, ks, l3, _⟩
    have i3 := i1.step l3 k3
    clear HF i1 l3 k3 hr
    go_wp2_with fail
    refine (len_any _ _ _ _ _ _ i3.1).mono ?_
    rintro e w4 ⟨rfl, rfl⟩
    go_wp2_with fail
    refine (room_any _ _ _ _ _ _ i3.1 (by omega)).mono ?_
    rintro e w5 ⟨rfl, l5, k5⟩
    have i5 := i3.kept k5
    clear i3 l5 k5
    go_wp2_with fail
    refine (drain_any _ _ _ _ _ _ i5.1 (by omega)).mono ?_
    rintro e w6 ⟨a, cp, rfl, _, l6, k6, _⟩
    have i6 := i5.step l6 k6
    clear i5 l6 k6
    go_wp2_with fail
    refine (len_any _ _ _ _ _ _ i6.1).mono ?_
    rintro e w7 ⟨rfl, rfl⟩
    go_wp2_with fail
    refine (room_any _ _ _ _ _ _ i6.1 (by omega)).mono ?_
    rintro e w8 ⟨rfl, l8, k8⟩
    have i8 := i6.kept k8
    clear i6 l8 k8
    go_wp2_with fail
    refine (known_any _).mono ?_
    rintro e w9 ⟨rfl, k9⟩
    have hk := i8.2.1.trans k9 (fun x hx => by simp at hx)
    clear i8 k9
    go_wp2
    go_ret
    exact ⟨rfl, hk⟩
  · have hmin : min (r - ([] : List Int).length) ys.length = r := by simp; omega
    rw [hmin, List.nil_append] at HF
    obtain ⟨y, rest, hrest, hlen, hy⟩ : ∃ y rest, ys.take r = y :: rest ∧ rest.length + 1 = r ∧ ys[0]? = some y := by
      obtain ⟨r', rfl⟩ : ∃ r', r = r' + 1 := ⟨r - 1, by omega⟩
      rcases ys with _ | ⟨y, ys'⟩
      · simp at hge
      · refine ⟨y, ys'.take r', by simp, ?_, rfl⟩
        simp only [List.length_cons] at hge
        simp
        omega
    rw [hrest] at HF
    obtain ⟨b, off, rfl, hcell⟩ := rd_at hr 0 (by omega)
    rw [Nat.add_zero, (List.getElem_eq_iff (h := by omega)).2 hy] at hcell
    clear hy
    clear hmin hrest
    rcases Nat.lt_or_ge r ys.length with hx | hx
    all_goals
      have HL : Hid ((y :: rest).length = r) := hlen
      go_wp2_with fail
      refine HF.mono ?_
      rintro e w3 ⟨rfl, k3, ks, l3, _⟩
      have i3 := i1.step l3 k3
      clear HF i1 l3 k3 hr
      have H4 := len_any _ _ _ _ _ _ i3.1
      have H5 := room_any _ _ _ _ _ _ i3.1 (by omega)
      rw [HL.out] at H4 H5
      go_wp2_with fail
      refine H4.mono ?_
      rintro e w4 ⟨rfl, rfl⟩
      clear H4
      go_wp2_with fail
      refine H5.mono ?_
      rintro e w5 ⟨rfl, l5, k5⟩
      have i5 := i3.kept k5
      clear i3 l5 k5 H5
      go_wp2_with fail
      refine (put_out _ _ _ _ _ _ 7 i5.1 (by rw [HL.out]; exact Nat.le_refl _)).mono ?_
      rintro e w6 ⟨rfl, l6, k6⟩
      have i6 := i5.kept k6
      clear i5 l6 k6
      obtain ⟨k, ks3, rfl⟩ : ∃ k ks3, ks = k :: ks3 := by
        rcases ks with _ | ⟨k, ks3⟩
        · have := i6.1.size
          simp at this
        · exact ⟨k, ks3, rfl⟩
      go_wp2_with fail
      refine (take_in _ _ _ _ _ _ _ _ i6.1).mono ?_
      rintro e w7 ⟨rfl, l7, k7⟩
      have i7 := i6.step l7 k7
      clear i6 l7 k7
      have hcell7 : w7.cell? ⟨b, off, none⟩ = some (.int .i64 y) := by
        rw [i7.2.1.cell (a := ⟨b, off, none⟩) (block_lt_of_cell hcell) (by simp)]
        exact hcell
      go_wp2_with fail
      refine (put_in _ _ _ _ _ _ 7 i7.1 (by omega)).mono ?_
      rintro e w8 ⟨rfl, l8, k8⟩
      have i8 := i7.step l8 k8
      clear i7 l8 k8 hcell7
      have H9 := drain_any _ _ _ _ _ _ i8.1 (by omega)
      have hl9 : (rest ++ [(7 : Int)]).length = r := by simp; omega
      rw [hl9] at H9
      clear hl9
      go_wp2_with fail
      refine H9.mono ?_
      rintro e w9 ⟨a, cp, rfl, _, l9, k9, _⟩
      have i9 := i8.step l9 k9
      clear i8 l9 k9 H9
      go_wp2_with fail
      refine (len_any _ _ _ _ _ _ i9.1).mono ?_
      rintro e w10 ⟨rfl, rfl⟩
      go_wp2_with fail
      refine (room_any _ _ _ _ _ _ i9.1 (by omega)).mono ?_
      rintro e w11 ⟨rfl, l11, k11⟩
      have i11 := i9.kept k11
      clear i9 l11 k11
      go_wp2_with fail
      refine (known_any _).mono ?_
      rintro e w12 ⟨rfl, k12⟩
      have hk := i11.2.1.trans k12 (fun x hx => by simp at hx)
      clear i11 k12
      go_wp2
      go_ret
      exact ⟨rfl, hk⟩

end Go.Proofs.Ytigpbkgcfnmdiaa
