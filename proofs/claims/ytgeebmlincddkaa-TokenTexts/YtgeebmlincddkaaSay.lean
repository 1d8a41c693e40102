/-
  Text of tokens: of the program (startText, Text) and of the document.
-/
import Derived.Test.YtgeebmlincddkaaBuild
import Derived.Test.YtgeebmlincddkaaJust
import Derived.BigQuiet
namespace Go.Proofs.Ytgeebmlincddkaa
open Go.RowKit

theorem fold_snoc {l : List Att} {k : Nat} (h : k < l.length) (s : ByteArray) : (l.take (k + 1)).foldl grow s = (l.take k).foldl grow s ++ (((⟨#[32]⟩ ++ l[k].1) ++ ⟨#[61]⟩) ++ l[k].2) := by
  rw [take_snoc h, List.foldl_append]
  rfl

set_option maxHeartbeats 1000000 in
theorem start_any (w : World) (x y : ByteArray) (l : List Att) (b : Bool) (ao : Option Addr) (n c : Nat) (hr : Rp w ao n c l) (hl : brief l) (hx : x.size ≤ 1000) :
    Calls Try.prog 24 #[tv 2 x ao n c b y] w fun e w' => e = .returned (.string (startT x l b)) ∧ Kp [] w w' := by
  obtain rfl := hr.len
  obtain ⟨hl1, hl2⟩ := hl
  obtain ⟨w0, hw0⟩ : ∃ w0, w0 = w.alloc (.cells #[.int .i64 2, .string x, .slice ao l.length c, .bool b, .string y] 24) := ⟨_, rfl⟩
  have k0 : Kp [] w w0 := by rw [hw0]; exact (Kp.refl _ _).alloc _
  have C1 : Hid (∀ V, Kp [] w0 V → Box V w.heap.size 2 x (.slice ao l.length c) b y) := by rw [hw0]; exact fun V kV => box_one w 2 x y _ b V kV
  have hb0 : w0.heap.size = w.heap.size + 1 := by rw [hw0]; simp
  have B0 := bd_new w0
  have HW := fun V acc s (hB : Bd w0 V w0.heap.size acc) (hs : acc.size + s.size ≤ 1000000) => write_any w0 V w0.heap.size acc s hB hs
  have HS := fun V acc (hB : Bd w0 V w0.heap.size acc) => string_any w0 V w0.heap.size acc hB
  rw [hb0] at B0 HW HS
  have e0 : (⟨#[]⟩ : ByteArray) ++ (⟨#[60]⟩ ++ x) = ⟨#[60]⟩ ++ x := by apply ByteArray.ext; simp
  have e1 : (⟨#[60]⟩ ++ x).size = x.size + 1 := by rw [cat_size]; show 1 + x.size = _; omega
  have HW0 := HW _ _ (⟨#[60]⟩ ++ x) B0 (by rw [e1]; show 0 + _ ≤ _; omega)
  rw [e0, hw0] at HW0
  obtain ⟨c0, c1, c2, c3, c4⟩ := C1.out _ B0.kp
  rw [hw0] at c1 c2
  obtain ⟨A, hA⟩ : ∃ A, startT x l b = A := ⟨_, rfl⟩
  rw [hA]
  have i7 : ¬ 9223372036854775807 < 1 + x.size := by omega
  unfold tv
  go_enter Try.func24, Try.ntmps24
  go_wp2_with fail
  refine HW0.mono ?_
  rintro e w1 ⟨rfl, B1⟩
  rw [← hw0] at B1
  clear hw0
  have kp1 := B1.kp
  obtain ⟨d0, d1, d2, d3, d4⟩ := C1.out _ kp1
  clear HW0 B0 c0 c1 c2 c3 c4 e0 i7
  have hstep : Hid (∀ k (hk : k < l.length), (l.take (k + 1)).foldl grow (⟨#[60]⟩ ++ x) = (l.take k).foldl grow (⟨#[60]⟩ ++ x) ++ (((⟨#[32]⟩ ++ l[k].1) ++ ⟨#[61]⟩) ++ l[k].2)) := fun k hk => fold_snoc hk _
  have hsz : Hid (∀ k, k ≤ l.length → ((l.take k).foldl grow (⟨#[60]⟩ ++ x)).size ≤ 300000) := fun k hk => by
    have := foldl_size (⟨#[60]⟩ ++ x) k l hk hl2
    omega
  have hend : Hid (startT x l b = if b then (l.take l.length).foldl grow (⟨#[60]⟩ ++ x) ++ ⟨#[47]⟩ else (l.take l.length).foldl grow (⟨#[60]⟩ ++ x)) := by rw [List.take_length]; exact rfl
  have hst : (l.take 0).foldl grow (⟨#[60]⟩ ++ x) = ⟨#[60]⟩ ++ x := rfl
  rw [← hst] at B1
  clear hst e1
  generalize ⟨#[60]⟩ ++ x = s0 at B1 hstep hsz hend
  go_wp2
  go_loopw [13] (fun i wr => ∃ k : Nat, k ≤ l.length ∧ i = .int .i64 k ∧ Bd w0 wr (w.heap.size + 1) ((l.take k).foldl grow s0)) (fun i _ => l.length - (intOf i).toNat)
  case atStart => exact ⟨0, Nat.zero_le _, rfl, B1⟩
  case round =>
    obtain ⟨k, hk, rfl, B⟩ := hrel
    clear B1 d0 d1 d2 d3 d4 kp1
    have kp := B.kp
    have hs := hsz.out k hk
    by_cases hlt : k < l.length
    · obtain ⟨b1, o1, rfl, h1, h2⟩ := ((hr.kept k0).kept kp).get k hlt
      have hst := hstep.out k hlt
      obtain ⟨g1, g2⟩ := hl2 l[k] (List.getElem_mem hlt)
      have ka : Kp [] wr (wr.alloc (.cells #[.string l[k].1, .string l[k].2] 26)) := (Kp.refl _ _).alloc _
      have s1 : ((⟨#[32]⟩ : ByteArray) ++ l[k].1).size = 1 + l[k].1.size := cat_size _ _
      have s2 : (((⟨#[32]⟩ : ByteArray) ++ l[k].1) ++ ⟨#[61]⟩).size = 1 + l[k].1.size + 1 := by rw [cat_size, s1]; rfl
      have s3 : ((((⟨#[32]⟩ : ByteArray) ++ l[k].1) ++ ⟨#[61]⟩) ++ l[k].2).size = 1 + l[k].1.size + 1 + l[k].2.size := by rw [cat_size, s2]
      have HW1 := HW _ _ ((((⟨#[32]⟩ : ByteArray) ++ l[k].1) ++ ⟨#[61]⟩) ++ l[k].2) (B.kept ka) (by rw [s3]; omega)
      rw [← hst] at HW1
      clear hst hr ka s3
      generalize l[k] = a at h1 h2 g1 g2 HW1 s1 s2
      clear B
      go_wp2_with fail
      refine HW1.mono ?_
      rintro e w2 ⟨rfl, B2⟩
      clear HW1
      go_wp2
      go_roundw
      case rel => exact ⟨k + 1, by omega, by go_num, B2⟩
      case measure => simp [intOf]; omega
    · obtain rfl : k = l.length := by omega
      obtain ⟨d0, d1, d2, d3, d4⟩ := C1.out _ kp
      rw [hA] at hend
      clear hstep hsz hr
      generalize (l.take l.length).foldl grow s0 = s at B hs hend
      cases b with
      | false =>
        have HE := HS _ _ B
        go_wp2_with fail
        refine HE.mono ?_
        rintro e w2 ⟨rfl, k2⟩
        clear HE HS HW
        go_wp2
        go_ret
        exact ⟨by rw [hend.out]; rfl, k0.trans k2 (fun z hz => by simp at hz)⟩
      | true =>
        have HE := HW _ _ ⟨#[47]⟩ B (by show s.size + 1 ≤ _; omega)
        go_wp2_with fail
        refine HE.mono ?_
        rintro e w2 ⟨rfl, B2⟩
        clear HE HW
        have HE := HS _ _ B2
        go_wp2_with fail
        refine HE.mono ?_
        rintro e w3 ⟨rfl, k3⟩
        clear HE HS
        go_wp2
        go_ret
        exact ⟨by rw [hend.out]; rfl, k0.trans k3 (fun z hz => by simp at hz)⟩

theorem text_any (w : World) (k : Int) (x y : ByteArray) (l : List Att) (b : Bool) (ao : Option Addr) (n c : Nat) (hr : Rp w ao n c l) (hl : brief l) (hx : x.size ≤ 1000) (hy : y.size ≤ 100000) :
    Calls Try.prog 13 #[tv k x ao n c b y] w fun e w' => e = .returned (.string (told (k, x, l, b, y))) ∧ Kp [] w w' := by
  have k0 : Kp [] w (w.alloc (.cells #[.int .i64 k, .string x, .slice ao n c, .bool b, .string y] 24)) := (Kp.refl _ _).alloc _
  have i7 : ¬ 9223372036854775807 < 1 + x.size := by omega
  have i8 : ¬ 9223372036854775807 < 1 + y.size := by omega
  by_cases h2 : k = 2
  · subst h2
    have HS := start_any _ x y l b ao n c (hr.kept k0) hl hx
    have hA : told (2, x, l, b, y) = startT x l b := rfl
    rw [hA]
    clear hr hl hA
    generalize startT x l b = A at HS
    unfold tv at *
    go_enter Try.func13, Try.ntmps13
    go_wp2_with fail
    refine HS.mono ?_
    rintro e w1 ⟨rfl, k1⟩
    clear HS
    go_wp2
    go_ret
    exact ⟨rfl, k0.trans k1 (fun z hz => by simp at hz)⟩
  clear hr hl
  unfold tv
  by_cases h1 : k = 1
  · subst h1
    have hA : told (1, x, l, b, y) = ⟨#[33]⟩ ++ x := rfl
    rw [hA]
    clear hA h2
    go_enter Try.func13, Try.ntmps13
    go_wp2
    go_ret
    exact ⟨rfl, k0⟩
  by_cases h3 : k = 3
  · subst h3
    have hA : told (3, x, l, b, y) = ⟨#[47]⟩ ++ x := rfl
    rw [hA]
    clear hA h2
    go_enter Try.func13, Try.ntmps13
    go_wp2
    go_ret
    exact ⟨rfl, k0⟩
  by_cases h4 : k = 4
  · subst h4
    have hA : told (4, x, l, b, y) = ⟨#[34]⟩ ++ y := rfl
    rw [hA]
    clear hA h2
    go_enter Try.func13, Try.ntmps13
    go_wp2
    go_ret
    exact ⟨rfl, k0⟩
  by_cases h5 : k = 5
  · subst h5
    have hA : told (5, x, l, b, y) = ⟨#[45]⟩ ++ y := rfl
    rw [hA]
    clear hA h2
    go_enter Try.func13, Try.ntmps13
    go_wp2
    go_ret
    exact ⟨rfl, k0⟩
  by_cases h6 : k = 6
  · subst h6
    have hA : told (6, x, l, b, y) = ⟨#[46]⟩ := rfl
    rw [hA]
    clear hA h2
    go_enter Try.func13, Try.ntmps13
    go_wp2
    go_ret
    exact ⟨rfl, k0⟩
  · have hA : told (k, x, l, b, y) = ⟨#[63]⟩ := by simp [told, h1, h2, h3, h4, h5, h6]
    rw [hA]
    clear hA
    go_enter Try.func13, Try.ntmps13
    go_wp2
    go_ret
    exact ⟨rfl, k0⟩

end Go.Proofs.Ytgeebmlincddkaa
