/-
  The walk of MarkComments: whatever it is given, it answers true, and leaves what was there as it was.
-/
import Derived.Test.YthdlmglnieomeaaWrote
import Derived.Test.YthdlmglnieomeaaKnows
import Derived.Test.YthdlmglnieomeaaJust
import Derived.Laws.Cover4
namespace Go.Proofs.Ythdlmglnieomeaa
open Go.RowKit Utf
set_option linter.unusedVariables false

set_option maxHeartbeats 1000000 in
set_option maxRecDepth 100000 in
theorem comments_any (w : World) (s0 m0 : ByteArray) : Calls Try.prog 5 #[.string s0, .string m0] w fun e w' => e = .returned (.bool true) ∧ Kp [] w w' := by
  have hsz := cut_size s0 60
  have HS := fun W => cut_any W s0 60 (by omega)
  generalize (if 60 < s0.size then s0.extract 0 60 else s0) = s at HS hsz
  have hmz := cut_size m0 30
  have HM := fun W => cut_any W m0 30 (by omega)
  generalize (if 30 < m0.size then m0.extract 0 30 else m0) = mr at HM hmz
  go_enter Try.func5, Try.ntmps5
  go_wp2_with fail
  refine (HS _).mono ?_
  rintro e w' ⟨rfl, rfl⟩
  clear HS
  rename World => w
  go_wp2
  go_loopw [5] (fun xv wq => ∃ (pos : Nat) (x : ByteArray), xv = .string x ∧ wq = w.iter s pos ∧ pos ≤ s.size ∧ x.size ≤ 4 * pos ∧ Hid (Pure x)) (fun _ wq => s.size - wq.iterPos w.heap.size)
  case atStart => exact ⟨0, ⟨#[]⟩, rfl, rfl, Nat.zero_le _, Nat.le_refl _, pure_nil⟩
  case round =>
    obtain ⟨pos, x, rfl, rfl, hps, hxs, hx⟩ := hrel
    by_cases hp : pos < s.size
    · have hnx := fun ty => run_next_any (P := Try.prog) w s pos ty hp
      obtain ⟨d1, d2, _⟩ := decode_kind s pos hp
      have hg := range_good s pos
      obtain ⟨r, hr⟩ : ∃ r : Int, r = ((Utf8.decode s pos).1 : Int) := ⟨_, rfl⟩
      rw [← hr] at hnx hg
      generalize (Utf8.decode s pos).2 = sz at hnx d1 d2
      clear hr
      by_cases r1 : r = 45
      · have b1 : (r != 45) = false := by simp [r1]
        have b1' : (r == 45) = true := by simp [r1]
        clear r1 hg
        go_wp2
        go_roundw
        case rel => exact ⟨pos + sz, x, rfl, rfl, d2, by omega, hx⟩
        case measure => simp; omega
      have b1 : (r != 45) = true := by simpa using r1
      have b1' : (r == 45) = false := by simpa using r1
      by_cases r2 : r = 62
      · have b2 : (r != 62) = false := by simp [r2]
        have b2' : (r == 62) = true := by simp [r2]
        clear r1 r2 hg
        go_wp2
        go_roundw
        case rel => exact ⟨pos + sz, x, rfl, rfl, d2, by omega, hx⟩
        case measure => simp; omega
      have b2 : (r != 62) = true := by simpa using r2
      have b2' : (r == 62) = false := by simpa using r2
      by_cases r3 : r = 33
      · have b3 : (r != 33) = false := by simp [r3]
        have b3' : (r == 33) = true := by simp [r3]
        clear r1 r2 r3 hg
        go_wp2
        go_roundw
        case rel => exact ⟨pos + sz, x, rfl, rfl, d2, by omega, hx⟩
        case measure => simp; omega
      have b3 : (r != 33) = true := by simpa using r3
      have b3' : (r == 33) = false := by simpa using r3
      have hx2 : Hid (Pure (x ++ Utf8.encode r)) := hx.out.cat (pure_rune hg r1 r2)
      have i7 : ∀ i, ¬ 9223372036854775807 < x.size + (Utf8.encode i).size := fun i => by have := encode_size_le i; omega
      have hz2 : (x ++ Utf8.encode r).size ≤ x.size + 4 := by rw [cat_size]; have := encode_size_le r; omega
      clear r1 r2 r3 hg
      go_wp2
      go_roundw
      case rel => exact ⟨pos + sz, x ++ Utf8.encode r, rfl, rfl, d2, by omega, hx2⟩
      case measure => simp; omega
    · have hnx := fun ty => run_next_end (P := Try.prog) w s pos ty hp
      have hR := wr_read x mr hx.out
      have hz := wr_size x mr
      have H1 := fun W => read_any W (wr x mr) 0 false (by omega)
      rw [hR] at H1
      have H2 := fun W => read_any W ⟨#[60, 33, 100, 111, 99, 116, 121, 112, 101, 32, 104, 116, 109, 108, 62]⟩ 0 true (by decide)
      rw [html_read] at H2
      have H3 := fun W => right5 W ⟨#[]⟩ x [] false none 0 0 (rp_none W) (by omega)
      rw [show right (5, ⟨#[]⟩, [], false, x) = true from decide_eq_true rfl] at H3
      have H6 := fun W => known_any W
      unfold rv mv at H1 H2
      unfold tv at H3
      simp only [] at H1 H2
      unfold wr COM E1 at H1
      have i1 : ¬ 9223372036854775807 < 4 + x.size := by omega
      have i2 : ¬ 9223372036854775807 < (⟨#[60, 33, 45, 45]⟩ ++ x : ByteArray).size + 3 := by rw [cat_size, show ByteArray.size ⟨#[60, 33, 45, 45]⟩ = 4 from rfl]; omega
      have i3 : ¬ 9223372036854775807 < ((⟨#[60, 33, 45, 45]⟩ ++ x : ByteArray) ++ ⟨#[45, 45, 62]⟩ : ByteArray).size + mr.size := by rw [cat_size, cat_size, show ByteArray.size ⟨#[60, 33, 45, 45]⟩ = 4 from rfl, show ByteArray.size ⟨#[45, 45, 62]⟩ = 3 from rfl]; omega
      have k0 : Kp [] w (w.iter s pos) := iter_kp (Kp.refl [] (w.iter s pos))
      have hx4 : x.size ≤ 240 := by omega
      have hq : (x.toList == x.toList) = true := by simp
      clear hR hz hx hxs
      go_wp2_with fail
      refine (HM _).mono ?_
      rintro e w1 ⟨rfl, rfl⟩
      clear HM hnx
      go_wp2_with fail
      refine (H1 _).mono ?_
      rintro e w1 ⟨rfl, k1⟩
      clear H1 i1 i2 i3
      have k2 := (k0.trans k1 (fun z hz => by simp at hz)).alloc (.cells #[.int .i64 5, .string ⟨#[]⟩, .slice none 0 0, .bool false, .string x] 32)
      have A2 := At.new w1 #[.int .i64 5, .string ⟨#[]⟩, .slice none 0 0, .bool false, .string x] 32
      clear k0 k1
      go_wp2_with fail
      generalize w1.alloc (.cells #[.int .i64 5, .string ⟨#[]⟩, .slice none 0 0, .bool false, .string x] 32) = W at A2 k2 ⊢
      generalize w1.heap.size = g at A2 ⊢
      refine (H2 _).mono ?_
      rintro e w2 ⟨rfl, k3⟩
      clear H2
      have k4 := (k2.trans k3 (fun z hz => by simp at hz)).alloc (.cells #[.int .i64 1, .string ⟨#[104, 116, 109, 108]⟩, .slice none 0 0, .bool false, .string ⟨#[]⟩] 32)
      have A4 := (A2.kept k3 (by simp)).kept ((Kp.refl [] w2).alloc (.cells #[.int .i64 1, .string ⟨#[104, 116, 109, 108]⟩, .slice none 0 0, .bool false, .string ⟨#[]⟩] 32)) (by simp)
      obtain ⟨x0, x1, x2, x3, x4⟩ := A4.cells5
      clear A2 A4 k2 k3
      go_wp2_with fail
      refine (from_back (H3 _) k4).mono ?_
      rintro e w5 ⟨rfl, k5⟩
      clear H3 x0 x1 x2 x3 x4
      go_wp2_with fail
      refine (from_back (H6 _) k5).mono ?_
      rintro e w6 ⟨rfl, k6⟩
      clear H6 k5
      go_wp2
      go_ret
      exact ⟨rfl, k6⟩

end Go.Proofs.Ythdlmglnieomeaa
