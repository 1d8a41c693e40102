/-
  Bytes, made ready: the program's Prepare, and the document's.
-/
import Derived.Test.YtinafcajaikfdaaTrim
import Derived.Test.YtinafcajaikfdaaClean
import Derived.Test.YtinafcajaikfdaaRefDec
import Derived.Lib.SlBytesConst
namespace Go.Proofs.Ytinafcajaikfdaa
open Go.RowKit Utf

theorem good_int {r : Int} (h : good r) : int32 r := by
  unfold good at h
  unfold int32
  omega

theorem strip_len (bs : List Int) : (strip bs).length ≤ bs.length := by
  unfold strip
  split
  · simp only [List.length_cons]
    omega
  · exact Nat.le_refl _

theorem lines_len : ∀ (l : List Int), (lines l).length ≤ l.length
  | [] => Nat.le_refl _
  | r :: l => by
    have ih := lines_len l
    rw [lines_cons]
    split
    · split
      · simp only [List.length_cons]; omega
      · simp only [List.length_cons]; omega
    · split
      · simp only [List.length_cons]; omega
      · simp only [List.length_cons]; omega

theorem prep_len (bs : List Int) : (prep bs).length ≤ bs.length :=
  Nat.le_trans (lines_len _) (Nat.le_trans (dec_len _ _ (Nat.le_refl _)) (strip_len bs))

theorem dec_int {bs : List Int} (hb : byt bs) : ∀ r, r ∈ dec bs → int32 r := fun r hr => good_int (dec_good _ bs (Nat.le_refl _) (byt_of hb) r hr)
theorem prep_int {bs : List Int} (hb : byt bs) : ∀ r, r ∈ prep bs → int32 r := fun r hr => good_int (prep_good bs (byt_of hb) r hr).1
theorem byt_strip {bs : List Int} (hb : byt bs) : byt (strip bs) := fun x hx => hb x (strip_mem bs x hx)

theorem Made.rb {w w' : World} {e : TypeId} {ao : Option Addr} {n c : Nat} {xs : List Value} (h : Made w w' e ao n c xs) : Rb w' ao n c xs := Rb.of_own h.1

set_option maxHeartbeats 4000000 in
set_option maxRecDepth 100000 in
theorem prepare_any (w : World) (ao : Option Addr) (n c : Nat) (bs : List Int) (h : Rb w ao n c (b8 bs)) (hb : byt bs) (hl : n ≤ 100000) :
    Calls Try.prog 13 #[.slice ao n c] w fun e w' => e = .returned (.string (strOfNums (encs (prep bs)))) ∧ Kp [] w w' := by
  have HL : Hid (n = bs.length) := by show _ = _; rw [h.len, b8_len]
  have k1 : Kp [] w (w.alloc (.cells #[.int .u8 239, .int .u8 187, .int .u8 191] 5 (3, 4))) := (Kp.refl _ _).alloc _
  have r1 : Rb (w.alloc (.cells #[.int .u8 239, .int .u8 187, .int .u8 191] 5 (3, 4))) (some ⟨w.heap.size, 0, none⟩) 3 3 (b8 mark) := by
    refine ⟨rfl, Nat.le_refl _, fun j hj => ⟨w.heap.size, 0, rfl, ?_⟩⟩
    rw [World.cell?, heap_new]
    match j, hj with
    | 0, _ => rfl
    | 1, _ => rfl
    | 2, _ => rfl
  have kc : (convert 23 23 (.slice (some ⟨w.heap.size, 0, none⟩) 3 3)).run Try.prog (w.alloc (.cells #[.int .u8 239, .int .u8 187, .int .u8 191] 5)) = .ok (.slice (some ⟨w.heap.size, 0, none⟩) 3 3) (w.alloc (.cells #[.int .u8 239, .int .u8 187, .int .u8 191] 5 (3, 4))) :=
    Lib.run_convert_bytes_const (P := Try.prog) w 23 5 #[.int .u8 239, .int .u8 187, .int .u8 191] 3 3 Try.underlying23 Try.underlying5
  have HT := trim_any _ ao _ n c 3 bs (h.kept k1) r1 hb
  clear r1 h
  go_enter Try.func13, Try.ntmps13
  go_wp2_with fail
  clear kc
  generalize w.alloc (.cells #[.int .u8 239, .int .u8 187, .int .u8 191] 5 (3, 4)) = w1 at k1 HT ⊢
  refine HT.mono ?_
  rintro e w2 ⟨⟨ao2, n2, c2, rfl, hn2, r2⟩, rfl⟩
  clear HT
  have HD := decode_any _ ao2 n2 c2 _ r2 (byt_strip hb) (by omega)
  clear r2
  go_wp2_with fail
  refine HD.mono ?_
  rintro e w3 ⟨ao3, n3, c3, rfl, hm3⟩
  clear HD
  have hn3 : n3 ≤ 100000 := by
    have h1 := hm3.rb.len
    rw [r32_len] at h1
    have h2 := dec_len _ (strip bs) (Nat.le_refl _)
    have h3 := strip_len bs
    have h4 := HL.out
    omega
  have HC := clean_any _ ao3 n3 c3 _ hm3.1 hn3
  go_wp2_with fail
  refine HC.mono ?_
  rintro e w4 ⟨m4, rfl, hm4, o4, k4⟩
  have k5 : Kp [] w w4 := (k1.trans hm3.2.1 (fun x hx => by simp at hx)).trans k4 (fun x hx => Or.inr (by
    have := hm3.2.2 x hx
    have := k1.size
    omega))
  have HE := encode_any _ ao3 m4 c3 (prep bs) (Rb.of_own o4) (prep_int hb) (by omega)
  clear HC hm3 o4 k4 k1
  go_wp2_with fail
  refine HE.mono ?_
  rintro e w5 ⟨rfl, k6⟩
  have k7 := k5.trans k6 (fun x hx => by simp at hx)
  clear HE k5 k6
  go_wp2
  go_ret
  exact ⟨rfl, k7⟩

end Go.Proofs.Ytinafcajaikfdaa
