/-
  Text of tokens, of the document.
-/
import Derived.Test.YtgeebmlincddkaaSay
namespace Go.Proofs.Ytgeebmlincddkaa
open Go.RowKit

set_option maxRecDepth 100000 in
set_option maxHeartbeats 1000000 in
theorem ref_start_any (w : World) (x y : ByteArray) (l : List Att) (b : Bool) (ao : Option Addr) (n c : Nat) (hr : Rp w ao n c l) (hl : brief l) (hx : x.size ≤ 1000) :
    Calls Try.prog 17 #[tv 2 x ao n c b y] w fun e w' => e = .returned (.string (startT x l b)) ∧ Kp [] w w' := by
  obtain rfl := hr.len
  obtain ⟨hl1, hl2⟩ := hl
  obtain ⟨w0, hw0⟩ : ∃ w0, w0 = w.alloc (.cells #[.int .i64 2, .string x, .slice ao l.length c, .bool b, .string y] 24) := ⟨_, rfl⟩
  have k0 : Kp [] w w0 := by rw [hw0]; exact (Kp.refl _ _).alloc _
  have C1 : Hid (∀ V, Kp [] w0 V → Box V w.heap.size 2 x (.slice ao l.length c) b y) := by rw [hw0]; exact fun V kV => box_one w 2 x y _ b V kV
  have e1 : (⟨#[60]⟩ ++ x).size = x.size + 1 := by rw [cat_size]; show 1 + x.size = _; omega
  obtain ⟨A, hA⟩ : ∃ A, startT x l b = A := ⟨_, rfl⟩
  rw [hA]
  have i7 : ¬ 9223372036854775807 < 1 + x.size := by omega
  obtain ⟨d0, d1, d2, d3, d4⟩ := C1.out _ (Kp.refl _ _)
  have hstep : Hid (∀ k (hk : k < l.length), (l.take (k + 1)).foldl grow (⟨#[60]⟩ ++ x) = grow ((l.take k).foldl grow (⟨#[60]⟩ ++ x)) l[k]) := fun k hk => by rw [take_snoc hk, List.foldl_append]; exact rfl
  have hsz : Hid (∀ k, k ≤ l.length → ((l.take k).foldl grow (⟨#[60]⟩ ++ x)).size ≤ 300000) := fun k hk => by
    have := foldl_size (⟨#[60]⟩ ++ x) k l hk hl2
    omega
  have hend : Hid (startT x l b = if b then (l.take l.length).foldl grow (⟨#[60]⟩ ++ x) ++ ⟨#[47]⟩ else (l.take l.length).foldl grow (⟨#[60]⟩ ++ x)) := by rw [List.take_length]; exact rfl
  have hst : Hid ((l.take 0).foldl grow (⟨#[60]⟩ ++ x) = ⟨#[60]⟩ ++ x) := rfl
  clear e1
  unfold tv
  go_enter Try.func17, Try.ntmps17
  go_wp2
  rw [← hw0]
  clear hw0 i7
  generalize ⟨#[60]⟩ ++ x = s0 at hst hstep hsz hend ⊢
  go_loopw [3, 4] (fun v i wr => ∃ k : Nat, k ≤ l.length ∧ i = .int .i64 k ∧ v = .string ((l.take k).foldl grow s0) ∧ Kp [] w0 wr) (fun _ i _ => l.length - (intOf i).toNat)
  case atStart => exact ⟨0, Nat.zero_le _, rfl, by rw [hst.out], Kp.refl _ _⟩
  case round =>
    obtain ⟨k, hk, rfl, rfl, kp⟩ := hrel
    clear d0 d1 d2 d3 d4
    obtain ⟨d0, d1, d2, d3, d4⟩ := C1.out _ kp
    have hs := hsz.out k hk
    by_cases hlt : k < l.length
    · obtain ⟨b1, o1, rfl, h1, h2⟩ := ((hr.kept k0).kept kp).get k hlt
      obtain ⟨g1, g2⟩ := hl2 l[k] (List.getElem_mem hlt)
      have hst := hstep.out k hlt
      rw [← grow_ref] at hst
      generalize (l.take k).foldl grow s0 = s at hst hs
      generalize l[k] = a at h1 h2 g1 g2 hst
      have hst' : Hid _ := hst
      have i1 : (0 : Int) ≤ (k : Int) := by omega
      have i2 : (k : Int) < (l.length : Int) := by omega
      have s1 : (s ++ ⟨#[32]⟩).size = s.size + 1 := cat_size _ _
      have s2 : (s ++ ⟨#[32]⟩ ++ a.1).size = s.size + 1 + a.1.size := by rw [cat_size, s1]
      have s3 : (s ++ ⟨#[32]⟩ ++ a.1 ++ ⟨#[61]⟩).size = s.size + 1 + a.1.size + 1 := by rw [cat_size, s2]; rfl
      clear hst hr hstep hsz hend hl2 C1
      go_wp2_with fail
      have j1 : ¬ 9223372036854775807 < s.size + 1 := by omega
      have j2 : ¬ 9223372036854775807 < s.size + 1 + a.1.size := by omega
      have j3 : ¬ 9223372036854775807 < s.size + 1 + a.1.size + 1 := by omega
      have j4 : ¬ 9223372036854775807 < s.size + 1 + a.1.size + 1 + a.2.size := by omega
      go_quiet (fail)
      have kq := kp.drewN nq
      go_wp2
      go_roundw
      case rel => exact ⟨k + 1, by omega, by go_num, by rw [hst'.out], kq⟩
      case measure => simp [intOf]; omega
    · obtain rfl : k = l.length := by omega
      rw [hA] at hend
      clear hstep hsz hr hst C1
      have kz := k0.trans kp (fun z hz => by simp at hz)
      generalize (l.take l.length).foldl grow s0 = s at hs hend
      have j1 : ¬ 9223372036854775807 < s.size + 1 := by omega
      cases b with
      | false =>
        go_wp2
        go_ret
        exact ⟨by rw [hend.out]; rfl, kz⟩
      | true =>
        go_wp2
        go_ret
        exact ⟨by rw [hend.out]; rfl, kz⟩

theorem ref_text_any (w : World) (k : Int) (x y : ByteArray) (l : List Att) (b : Bool) (ao : Option Addr) (n c : Nat) (hr : Rp w ao n c l) (hl : brief l) (hx : x.size ≤ 1000) (hy : y.size ≤ 100000) :
    Calls Try.prog 17 #[tv k x ao n c b y] w fun e w' => e = .returned (.string (told (k, x, l, b, y))) ∧ Kp [] w w' := by
  have k0 : Kp [] w (w.alloc (.cells #[.int .i64 k, .string x, .slice ao n c, .bool b, .string y] 24)) := (Kp.refl _ _).alloc _
  have i7 : ¬ 9223372036854775807 < 1 + x.size := by omega
  have i8 : ¬ 9223372036854775807 < 1 + y.size := by omega
  by_cases h2 : k = 2
  · subst h2
    exact ref_start_any w x y l b ao n c hr hl hx
  clear hr hl
  unfold tv
  by_cases h1 : k = 1
  · subst h1
    have hA : told (1, x, l, b, y) = ⟨#[33]⟩ ++ x := rfl
    rw [hA]
    clear hA h2
    go_enter Try.func17, Try.ntmps17
    go_wp2
    go_ret
    exact ⟨rfl, k0⟩
  by_cases h3 : k = 3
  · subst h3
    have hA : told (3, x, l, b, y) = ⟨#[47]⟩ ++ x := rfl
    rw [hA]
    clear hA h2
    go_enter Try.func17, Try.ntmps17
    go_wp2
    go_ret
    exact ⟨rfl, k0⟩
  by_cases h4 : k = 4
  · subst h4
    have hA : told (4, x, l, b, y) = ⟨#[34]⟩ ++ y := rfl
    rw [hA]
    clear hA h2
    go_enter Try.func17, Try.ntmps17
    go_wp2
    go_ret
    exact ⟨rfl, k0⟩
  by_cases h5 : k = 5
  · subst h5
    have hA : told (5, x, l, b, y) = ⟨#[45]⟩ ++ y := rfl
    rw [hA]
    clear hA h2
    go_enter Try.func17, Try.ntmps17
    go_wp2
    go_ret
    exact ⟨rfl, k0⟩
  by_cases h6 : k = 6
  · subst h6
    have hA : told (6, x, l, b, y) = ⟨#[46]⟩ := rfl
    rw [hA]
    clear hA h2
    go_enter Try.func17, Try.ntmps17
    go_wp2
    go_ret
    exact ⟨rfl, k0⟩
  · have hA : told (k, x, l, b, y) = ⟨#[63]⟩ := by simp [told, h1, h2, h3, h4, h5, h6]
    rw [hA]
    clear hA
    go_enter Try.func17, Try.ntmps17
    go_wp2
    go_ret
    exact ⟨rfl, k0⟩

end Go.Proofs.Ytgeebmlincddkaa
