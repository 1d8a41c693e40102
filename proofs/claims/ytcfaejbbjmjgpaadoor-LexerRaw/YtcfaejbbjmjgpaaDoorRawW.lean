/-
  The walk of LexerRaw: whatever it is given, it answers true, and leaves what was there as it was.
-/
import Derived.Test.YtcfaejbbjmjgpaaDoorKnown
import Derived.Test.YtcfaejbbjmjgpaaDoorRaws
import Derived.Laws.Cover4
namespace Go.Proofs.YtcfaejbbjmjgpaaDoor
open Go.RowKit Utf
set_option linter.unusedVariables false

def SCR : ByteArray := ⟨#[115, 99, 114, 105, 112, 116]⟩
def STY : ByteArray := ⟨#[115, 116, 121, 108, 101]⟩
def XMP : ByteArray := ⟨#[120, 109, 112]⟩
def RAWS : List ByteArray := [SCR, STY, XMP]

/-- The text, as it is laid together. -/
def rawt (nm x : ByteArray) : ByteArray := (((((⟨#[60]⟩ ++ nm) ++ ⟨#[62]⟩) ++ x) ++ ⟨#[60, 98, 62, 38, 108, 116, 59, 60, 47]⟩) ++ nm) ++ ⟨#[32, 62, 121]⟩

theorem rawt_is (nm x : ByteArray) : rawt nm x = ((⟨#[60]⟩ ++ nm) ++ ⟨#[62]⟩) ++ ((x ++ MID) ++ (CLO ++ (nm ++ TAIL))) := by
  unfold rawt
  rw [show (⟨#[60, 98, 62, 38, 108, 116, 59, 60, 47]⟩ : ByteArray) = MID ++ CLO from rfl, show (⟨#[32, 62, 121]⟩ : ByteArray) = TAIL from rfl]
  simp only [cat_assoc]

theorem mid_bare : Bare MID := by
  intro j hj
  have : j < 7 := hj
  rcases (show j = 0 ∨ j = 1 ∨ j = 2 ∨ j = 3 ∨ j = 4 ∨ j = 5 ∨ j = 6 by omega) with rfl | rfl | rfl | rfl | rfl | rfl | rfl <;> decide

theorem raw_facts : ∀ nm, nm ∈ RAWS → nm.size ≤ 6 ∧ tagName nm = true ∧ raw nm false = 3 ∧ tagF ((⟨#[60]⟩ ++ nm) ++ ⟨#[62]⟩) 0 = ((2, nm, [], false, ⟨#[]⟩), ((((⟨#[60]⟩ ++ nm) ++ ⟨#[62]⟩ : ByteArray).size : Nat) : Int), true) ∧ begF ((⟨#[60]⟩ ++ nm) ++ ⟨#[62]⟩) 0 = (2, 1) := by
  intro nm h
  simp only [RAWS, List.mem_cons, List.mem_nil_iff, or_false] at h
  rcases h with rfl | rfl | rfl
  · exact ⟨by decide, by decide +kernel, by decide +kernel, by decide +kernel, by decide +kernel⟩
  · exact ⟨by decide, by decide +kernel, by decide +kernel, by decide +kernel, by decide +kernel⟩
  · exact ⟨by decide, by decide +kernel, by decide +kernel, by decide +kernel, by decide +kernel⟩

theorem rawt_all {nm x : ByteArray} (h : nm ∈ RAWS) (hx : Bare x) : allT (rawt nm x) = [(2, nm, [], false, ⟨#[]⟩), txT (x ++ MID), (3, nm, [], false, ⟨#[]⟩), txT ⟨#[121]⟩, eofT] := by
  obtain ⟨_, h2, h3, h4, h5⟩ := raw_facts nm h
  rw [rawt_is]
  have hR := rw_is ((⟨#[60]⟩ ++ nm) ++ ⟨#[62]⟩) (x ++ MID) nm (hx.cat mid_bare)
  exact hR.all (by rw [cat_size, show MID.size = 7 from rfl]; omega) h2 h3 (start_next h4 h5 (agr_left _ _))

def KT : ByteArray := ⟨#[60, 116, 105, 116, 108, 101, 62, 38, 108, 116, 59, 98, 62, 60, 47, 116, 105, 116, 108, 101, 62]⟩
theorem kt_all : allT KT = [(2, TITLE, [], false, ⟨#[]⟩), txT ⟨#[60, 98, 62]⟩, (3, TITLE, [], false, ⟨#[]⟩), eofT] := by decide +kernel

set_option maxHeartbeats 1000000 in
set_option maxRecDepth 100000 in
theorem rawlaw_any (w : World) (hn : Nm w) (hi : In w) (s0 : ByteArray) (which : Int) : Calls Tryd.prog 5 #[.string s0, .int .i64 which] w fun e w' => e = .returned (.bool true) ∧ Kp [] w w' := by
  have hsz := cut_size s0 40
  have HS := fun W => cut_any W s0 40 (by omega)
  generalize (if 40 < s0.size then s0.extract 0 40 else s0) = s at HS hsz
  have hj := wi_le which 2
  have HW := fun W => within_zero W which 2 (by omega)
  generalize wi which 2 = wk at hj HW
  have HK := fun W (kk : Kp [] w W) => known_any W (hn.kept kk) (hi.kept kk)
  have HA := fun W (kk : Kp [] w W) y (hy : y.size ≤ 4000) => lall_any W (hn.kept kk) (hi.kept kk) y hy
  clear hn hi
  go_enter Tryd.func5, Tryd.ntmps5
  go_wp2_with fail
  refine (HS _).mono ?_
  rintro e w' ⟨rfl, rfl⟩
  clear HS
  rename World => w
  go_wp2
  go_loopw [5] (fun xv wq => ∃ (pos : Nat) (x : ByteArray), xv = .string x ∧ wq = w.iter s pos ∧ pos ≤ s.size ∧ x.size ≤ 4 * pos ∧ Hid (Bare x)) (fun _ wq => s.size - wq.iterPos w.heap.size)
  case atStart => exact ⟨0, ⟨#[]⟩, rfl, rfl, Nat.zero_le _, Nat.le_refl _, bare_nil⟩
  case round =>
    obtain ⟨pos, x, rfl, rfl, hps, hxs, hx⟩ := hrel
    by_cases hp : pos < s.size
    · have hnx := fun ty => run_next_any (P := Tryd.prog) w s pos ty hp
      obtain ⟨d1, d2, _⟩ := decode_kind s pos hp
      have hg := range_good s pos
      obtain ⟨r, hr⟩ : ∃ r : Int, r = ((Utf8.decode s pos).1 : Int) := ⟨_, rfl⟩
      rw [← hr] at hnx hg
      generalize (Utf8.decode s pos).2 = sz at hnx d1 d2
      clear hr HA HK HW
      by_cases r1 : r = 47
      · have b1 : (r != 47) = false := by simp [r1]
        have b1' : (r == 47) = true := by simp [r1]
        clear r1 hg
        go_wp2
        go_roundw
        case rel => exact ⟨pos + sz, x, rfl, rfl, d2, by omega, hx⟩
        case measure => simp; omega
      have b1 : (r != 47) = true := by simpa using r1
      have b1' : (r == 47) = false := by simpa using r1
      have hx2 : Hid (Bare (x ++ Utf8.encode r)) := hx.out.cat (bare_rune hg r1)
      have i7 : ∀ i, ¬ 9223372036854775807 < x.size + (Utf8.encode i).size := fun i => by have := encode_size_le i; omega
      have hz2 : (x ++ Utf8.encode r).size ≤ x.size + 4 := by rw [cat_size]; have := encode_size_le r; omega
      clear r1 hg
      go_wp2
      go_roundw
      case rel => exact ⟨pos + sz, x ++ Utf8.encode r, rfl, rfl, d2, by omega, hx2⟩
      case measure => simp; omega
    · have hnx := fun ty => run_next_end (P := Tryd.prog) w s pos ty hp
      have k0 : Kp [] w (w.iter s pos) := iter_kp (Kp.refl [] (w.iter s pos))
      have hxb := hx.out
      have hx4 : x.size ≤ 160 := by omega
      clear hx hxs
      generalize w.iter s pos = W0 at hnx k0 ⊢
      have HR : Rb (W0.alloc (.cells (tx RAWS).toArray 9)) (some ⟨W0.heap.size, 0, none⟩) 3 3 (tx RAWS) := rb_lit W0 9 _ (tx RAWS) 3 rfl (by kernel_rfl) (by omega)
      have k1 := k0.alloc (.cells (tx RAWS).toArray 9)
      go_wp2_with fail
      rw [show #[Value.string { data := #[115, 99, 114, 105, 112, 116] }, Value.string { data := #[115, 116, 121, 108, 101] }, Value.string { data := #[120, 109, 112] }] = (tx RAWS).toArray from rfl]
      generalize W0.alloc (.cells (tx RAWS).toArray 9) = W1 at HR k1 ⊢
      generalize some (⟨W0.heap.size, 0, none⟩ : Addr) = ta at HR ⊢
      refine (HW _).mono ?_
      rintro e w' ⟨rfl, rfl⟩
      clear HW hnx k0
      obtain ⟨b1, o1, rfl, h1⟩ := HR.tx_at wk (by show wk < 3; omega)
      have hmem : RAWS[wk]'(by show wk < 3; omega) ∈ RAWS := List.getElem_mem _
      generalize RAWS[wk]'(by show wk < 3; omega) = nm at h1 hmem
      obtain ⟨hnz, _⟩ := raw_facts nm hmem
      have hall := rawt_all hmem hxb
      have z1 : (⟨#[60]⟩ ++ nm : ByteArray).size = 1 + nm.size := by rw [cat_size]; rfl
      have z2 : ((⟨#[60]⟩ ++ nm) ++ ⟨#[62]⟩ : ByteArray).size = 1 + nm.size + 1 := by rw [cat_size, z1]; rfl
      have z3 : (((⟨#[60]⟩ ++ nm) ++ ⟨#[62]⟩) ++ x : ByteArray).size = 1 + nm.size + 1 + x.size := by rw [cat_size, z2]
      have z4 : ((((⟨#[60]⟩ ++ nm) ++ ⟨#[62]⟩) ++ x) ++ ⟨#[60, 98, 62, 38, 108, 116, 59, 60, 47]⟩ : ByteArray).size = 1 + nm.size + 1 + x.size + 9 := by rw [cat_size, z3]; rfl
      have z5 : (((((⟨#[60]⟩ ++ nm) ++ ⟨#[62]⟩) ++ x) ++ ⟨#[60, 98, 62, 38, 108, 116, 59, 60, 47]⟩) ++ nm : ByteArray).size = 1 + nm.size + 1 + x.size + 9 + nm.size := by rw [cat_size, z4]
      have z6 : (rawt nm x).size = 1 + nm.size + 1 + x.size + 9 + nm.size + 3 := by unfold rawt; rw [cat_size, z5]; rfl
      have j1 : ¬ 9223372036854775807 < 1 + nm.size := by omega
      have j2 : ¬ 9223372036854775807 < (⟨#[60]⟩ ++ nm : ByteArray).size + 1 := by omega
      have j3 : ¬ 9223372036854775807 < ((⟨#[60]⟩ ++ nm) ++ ⟨#[62]⟩ : ByteArray).size + x.size := by omega
      have j4 : ¬ 9223372036854775807 < (((⟨#[60]⟩ ++ nm) ++ ⟨#[62]⟩) ++ x : ByteArray).size + 9 := by omega
      have j5 : ¬ 9223372036854775807 < ((((⟨#[60]⟩ ++ nm) ++ ⟨#[62]⟩) ++ x) ++ ⟨#[60, 98, 62, 38, 108, 116, 59, 60, 47]⟩ : ByteArray).size + nm.size := by omega
      have j6 : ¬ 9223372036854775807 < (((((⟨#[60]⟩ ++ nm) ++ ⟨#[62]⟩) ++ x) ++ ⟨#[60, 98, 62, 38, 108, 116, 59, 60, 47]⟩) ++ nm : ByteArray).size + 3 := by omega
      have H1 := HA _ k1 (rawt nm x) (by omega)
      rw [hall] at H1
      unfold rawt at H1
      have H2 := fun W kk => HA W kk KT (by decide)
      rw [kt_all] at H2
      unfold KT at H2
      clear HA hall z1 z2 z3 z4 z5 z6 hmem hxb HR
      go_wp2_with fail
      refine H1.mono ?_
      rintro e w1 ⟨ao, n, c, q, rfl, M, hq⟩
      clear H1 j1 j2 j3 j4 j5 j6 h1
      have kM := k1.trans M.kp (fun z hz => by simp at hz)
      go_wp2_with fail
      refine (H2 _ kM).mono ?_
      rintro e w2 ⟨bo, m, d, r, rfl, M2, hr2⟩
      clear H2
      have hl := M.count hq
      simp only [List.length_cons, List.length_nil] at hl
      subst hl
      have hl := M2.count hr2
      simp only [List.length_cons, List.length_nil] at hl
      subst hl
      have Mk := M.kept M2.kp
      obtain ⟨b, off, rfl, a0, a1, a4⟩ := Mk.rq.told hq 0 (by simp)
      obtain ⟨b', off', e1, b0, b1', b4⟩ := Mk.rq.told hq 1 (by simp)
      obtain ⟨rfl, rfl⟩ : b = b' ∧ off = off' := by simpa using e1
      obtain ⟨b', off', e2, c0, c1, c4⟩ := Mk.rq.told hq 2 (by simp)
      obtain ⟨rfl, rfl⟩ : b = b' ∧ off = off' := by simpa using e2
      obtain ⟨b', off', e3, d0, d1, d4⟩ := Mk.rq.told hq 3 (by simp)
      obtain ⟨rfl, rfl⟩ : b = b' ∧ off = off' := by simpa using e3
      obtain ⟨f, of', rfl, f0, f1, f4⟩ := M2.rq.told hr2 1 (by simp)
      have kz := kM.trans M2.kp (fun z hz => by simp at hz)
      have HK := HK _ kz
      clear M M2 Mk hq hr2 kM k1 e1 e2 e3
      simp [txT, TITLE, eofT, MID] at a0 a1 a4 b0 b1' b4 c0 c1 c4 d0 d1 d4 f0 f1 f4
      have j7 : ¬ 9223372036854775807 < x.size + 7 := by omega
      have q1 : (nm.toList == nm.toList) = true := by simp
      have q2 : ((x ++ ⟨#[60, 98, 62, 38, 108, 116, 59]⟩ : ByteArray).toList == (x ++ ⟨#[60, 98, 62, 38, 108, 116, 59]⟩ : ByteArray).toList) = true := by simp
      have q3 : (nm.toList != nm.toList) = false := by simp
      have q4 : ((x ++ ⟨#[60, 98, 62, 38, 108, 116, 59]⟩ : ByteArray).toList != (x ++ ⟨#[60, 98, 62, 38, 108, 116, 59]⟩ : ByteArray).toList) = false := by simp
      go_wp2_with fail
      refine (from_back HK kz).mono ?_
      rintro e w6 ⟨rfl, k6⟩
      clear HK
      go_wp2
      go_ret
      exact ⟨rfl, k6⟩

end Go.Proofs.YtcfaejbbjmjgpaaDoor
