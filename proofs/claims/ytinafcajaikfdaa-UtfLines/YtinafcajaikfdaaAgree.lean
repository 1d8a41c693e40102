/-
  The program and the document agree on any bytes (same), and on the chapter's runs (known).
-/
import Derived.Test.YtinafcajaikfdaaRoomy
import Derived.Test.YtinafcajaikfdaaRefPrep
namespace Go.Proofs.Ytinafcajaikfdaa
open Go.RowKit Utf

set_option maxHeartbeats 4000000 in
set_option maxRecDepth 100000 in
theorem same_any (w : World) (ao : Option Addr) (n c : Nat) (bs : List Int) (h : Rb w ao n c (b8 bs)) (hb : byt bs) (hl : n ≤ 1000) :
    Calls Try.prog 8 #[.slice ao n c] w fun e w' => e = .returned (.bool true) ∧ Kp [] w w' := by
  have hln := h.len
  rw [b8_len] at hln
  have HL : Hid (n = bs.length) := hln
  clear hln
  go_enter Try.func8, Try.ntmps8
  go_wp2_with fail
  refine (roomy_any w ao n c bs h hl).mono ?_
  rintro e w1 ⟨a, rfl, o1, k1, _⟩
  have f1 := Rb.of_own o1
  have t1 := f1.take n (by omega)
  rw [b8_take, HL.out, roomy_take, ← HL.out] at t1
  have h1 := h.kept k1
  clear o1 h
  have HD := decode_any w1 _ _ _ bs t1 hb (by omega)
  go_wp2_with fail
  refine HD.mono ?_
  rintro e w2 ⟨ao2, n2, c2, rfl, m2⟩
  have hn2 : n2 ≤ 1000 := by
    have e1 := m2.rb.len
    rw [r32_len] at e1
    have e2 := dec_len _ bs (Nat.le_refl _)
    have := HL.out
    omega
  have k2 := k1.trans m2.2.1 (fun x hx => by simp at hx)
  have f2 := f1.kept m2.2.1
  have t2 := t1.kept m2.2.1
  have h2 := h1.kept m2.2.1
  have l2 := m2.rb
  clear HD f1 t1 h1 k1 m2
  have HR := ref_decode_any w2 _ _ _ bs h2 hb (by omega)
  go_wp2_with fail
  refine HR.mono ?_
  rintro e w3 ⟨ao3, n3, c3, rfl, m3⟩
  have k3 := k2.trans m3.2.1 (fun x hx => by simp at hx)
  have f3 := f2.kept m3.2.1
  have t3 := t2.kept m3.2.1
  have h3 := h2.kept m3.2.1
  have l3 := l2.kept m3.2.1
  have HS := same_runes w3 _ _ _ _ _ _ (dec bs) l3 m3.rb (by omega)
  clear HR f2 t2 h2 l2 k2 m3
  go_wp2_with fail
  refine HS.mono ?_
  rintro e w4 ⟨rfl, kk⟩
  have k4 := k3.trans kk (fun x hx => by simp at hx)
  have f4 := f3.kept kk
  have t4 := t3.kept kk
  have h4 := h3.kept kk
  have l4 := l3.kept kk
  clear HS f3 t3 h3 l3 k3 kk
  have HP := prepare_any w4 _ _ _ bs t4 hb (by omega)
  go_wp2_with fail
  refine HP.mono ?_
  rintro e w5 ⟨rfl, kk⟩
  have k5 := k4.trans kk (fun x hx => by simp at hx)
  have f5 := f4.kept kk
  have h5 := h4.kept kk
  have l5 := l4.kept kk
  clear HP f4 t4 h4 l4 k4 kk
  have HQ := ref_prepare_any w5 _ _ _ bs h5 hb (by omega)
  go_wp2_with fail
  refine HQ.mono ?_
  rintro e w6 ⟨rfl, kk⟩
  have k6 := k5.trans kk (fun x hx => by simp at hx)
  have f6 := f5.kept kk
  have h6 := h5.kept kk
  have l6 := l5.kept kk
  clear HQ f5 h5 l5 k5 kk
  have HE := encode_any w6 _ _ _ (dec bs) l6 (dec_int hb) (by omega)
  go_wp2_with fail
  refine HE.mono ?_
  rintro e w7 ⟨rfl, kk⟩
  have k7 := k6.trans kk (fun x hx => by simp at hx)
  have f7 := f6.kept kk
  have h7 := h6.kept kk
  have l7 := l6.kept kk
  clear HE f6 h6 l6 k6 kk
  have HF := ref_encode_any w7 _ _ _ (dec bs) l7 (by omega)
  go_wp2_with fail
  refine HF.mono ?_
  rintro e w8 ⟨rfl, rfl⟩
  clear HF l7
  have HI := intact_any _ _ _ _ _ _ _ bs f7 h7 hl
  go_wp2_with fail
  refine HI.mono ?_
  rintro e w9 ⟨rfl, kk⟩
  have k9 := k7.trans kk (fun x hx => by simp at hx)
  clear HI f7 h7 k7 kk
  go_wp2
  go_ret
  exact ⟨rfl, k9⟩

/-- What a literal of bytes reads as. -/
theorem rb_lit (w : World) (e : TypeId) (cur : Array Value) (xs : List Value) (n : Nat) (h : cur = xs.toArray) (hn : n = xs.length) (hm : n ≤ 1000) : Rb (w.alloc (.cells cur e)) (some ⟨w.heap.size, 0, none⟩) n n xs := by
  subst h
  exact Rb.of_own (own_new w e _ xs n (by omega) (by unfold maxLen; omega) (by simp [hn]) (fun j hj => by simp) n hn)

theorem known_dec : dec [240, 159, 65] = [65533, 65] := by
  have e1 : Utf.step 240 [159, 65] = (65533, [65]) := by decide
  have e2 : Utf.step 65 [] = (65, []) := by decide
  rw [dec_cons, e1, dec_cons, e2, dec_nil]

theorem known_prep : encs (prep [13, 13, 10]) = [10, 10] := by
  have h : prep [13, 13, 10] = [10, 10] := by
    have e1 : Utf.step 13 [13, 10] = (13, [13, 10]) := by decide
    have e2 : Utf.step 13 [10] = (13, [10]) := by decide
    have e3 : Utf.step 10 [] = (10, []) := by decide
    unfold prep
    rw [strip_low (by decide), dec_cons, e1, dec_cons, e2, dec_cons, e3, dec_nil]
    decide
  rw [h, encs_low (by decide) (by decide), encs_low (by decide) (by decide)]
  rfl

set_option maxHeartbeats 4000000 in
set_option maxRecDepth 100000 in
theorem known_any (w : World) : Calls Try.prog 9 #[] w fun e w' => e = .returned (.bool true) ∧ Kp [] w w' := by
  have k1 : Kp [] w (w.alloc (.cells #[.int .u8 240, .int .u8 159, .int .u8 65] 5)) := (Kp.refl _ _).alloc _
  have HD := decode_any _ _ _ _ [240, 159, 65] (rb_lit w 5 #[.int .u8 240, .int .u8 159, .int .u8 65] (b8 [240, 159, 65]) 3 rfl rfl (by omega)) (fun x hx => by simp at hx; omega) (by omega)
  rw [known_dec] at HD
  go_enter Try.func9, Try.ntmps9
  go_wp2_with fail
  refine HD.mono ?_
  rintro e w1 ⟨ao1, n1, c1, rfl, m1⟩
  have k2 := k1.trans m1.2.1 (fun x hx => by simp at hx)
  have ka : Kp [] w1 (w1.alloc (.cells #[.int .i32 65533, .int .i32 65] 21)) := (Kp.refl _ _).alloc _
  have k3 := k2.trans ka (fun x hx => by simp at hx)
  have hn1 : n1 ≤ 1000000 := by
    have := m1.rb.len
    rw [r32_len] at this
    simp at this
    omega
  have HS := same_runes _ _ _ n1 c1 2 2 [65533, 65] (m1.rb.kept ka) (rb_lit w1 21 #[.int .i32 65533, .int .i32 65] (r32 [65533, 65]) 2 rfl rfl (by omega)) hn1
  clear HD m1 k1 k2 ka hn1
  go_wp2_with fail
  refine HS.mono ?_
  rintro e w2 ⟨rfl, kk⟩
  have k4 := k3.trans kk (fun x hx => by simp at hx)
  have ka : Kp [] w2 (w2.alloc (.cells #[.int .u8 13, .int .u8 13, .int .u8 10] 5)) := (Kp.refl _ _).alloc _
  have k5 := k4.trans ka (fun x hx => by simp at hx)
  have HP := prepare_any _ _ _ _ [13, 13, 10] (rb_lit w2 5 #[.int .u8 13, .int .u8 13, .int .u8 10] (b8 [13, 13, 10]) 3 rfl rfl (by omega)) (fun x hx => by simp at hx; omega) (by omega)
  rw [known_prep] at HP
  clear HS k3 kk k4 ka
  go_wp2_with fail
  refine HP.mono ?_
  rintro e w3 ⟨rfl, kk⟩
  have k6 := k5.trans kk (fun x hx => by simp at hx)
  have hs : strOfNums [10, 10] = ⟨#[10, 10]⟩ := rfl
  rw [hs]
  clear HP k5 kk hs
  go_wp2
  go_ret
  exact ⟨rfl, k6⟩

end Go.Proofs.Ytinafcajaikfdaa
