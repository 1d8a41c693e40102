/-
  Names of tags, and attributes that are right: the program's isLow, isTagName and areRight.
-/
import Derived.Test.YthdlmglnieomeaaTok
namespace Go.Proofs.Ythdlmglnieomeaa
open Go.RowKit Utf

theorem islow_any (w : World) (s : ByteArray) (hl : s.size ≤ 100000) : Calls Try.prog 18 #[.string s] w fun e w' => e = .returned (.bool (decide (lower s = s))) ∧ Kp [] w w' := by
  have HS := lower_any w s hl
  go_enter Try.func18, Try.ntmps18
  go_wp2_with fail
  refine HS.mono ?_
  rintro e w1 ⟨rfl, k1⟩
  clear HS
  go_wp2
  go_ret
  exact ⟨by rw [← list_eq]; rfl, k1⟩

theorem areright_any (w : World) (l : List Att) (ao : Option Addr) (n c : Nat) (hr : Rp w ao n c l) (hl : n ≤ 400) (hf : fits l) :
    Calls Try.prog 21 #[.slice ao n c] w fun e w' => e = .returned (.bool (areRight l)) ∧ Kp [] w w' := by
  have HG := get_any w ⟨#[]⟩ l ao n c hr (by omega) hf
  obtain ⟨A, hA⟩ : ∃ A, areRight l = A := ⟨_, rfl⟩
  rw [hA]
  unfold areRight hasN at hA
  cases hg : getF l ⟨#[]⟩ with
  | some a =>
    rw [hg] at HG hA
    simp only [gtn] at HG
    simp only [Option.isSome_some, Bool.not_true, Bool.false_and] at hA
    subst hA
    clear hg hr
    go_enter Try.func21, Try.ntmps21
    go_wp2_with fail
    refine HG.mono ?_
    rintro e w1 ⟨rfl, k1⟩
    clear HG
    go_wp2
    go_ret
    exact ⟨rfl, k1⟩
  | none =>
    rw [hg] at HG hA
    simp only [gtn] at HG
    simp only [Option.isSome_none, Bool.not_false, Bool.true_and] at hA
    clear hg
    go_enter Try.func21, Try.ntmps21
    go_wp2_with fail
    refine HG.mono ?_
    rintro e w1 ⟨rfl, k1⟩
    clear HG
    have HU := uniq_any w1 l ao n c (hr.kept k1) hl hf
    go_wp2_with fail
    refine HU.mono ?_
    rintro e w2 ⟨a2, n2, c2, rfl, M2⟩
    clear HU
    have hn := hr.len
    have hn2 := M2.len
    rw [← hn, ← hn2] at hA
    have hA' : ((n2 : Int) == (n : Int)) = A := by
      rw [← hA]
      by_cases e : n2 = n
      · simp [e]
      · have : ¬ (n2 : Int) = (n : Int) := by omega
        simp [e, this]
    have k3 := k1.trans M2.kp (fun x hx => by simp at hx)
    clear M2 hr hf hA hn hn2 k1
    go_wp2
    go_ret
    exact ⟨by rw [← hA']; rfl, k3⟩

set_option maxHeartbeats 1000000 in
set_option maxRecDepth 100000 in
theorem istag_any (w : World) (s : ByteArray) (hl : s.size ≤ 100000) : Calls Try.prog 20 #[.string s] w fun e w' => e = .returned (.bool (tagName s)) ∧ Kp [] w w' := by
  go_enter Try.func20, Try.ntmps20
  go_wp2
  go_loopw [] (fun wq => ∃ pos : Nat, wq = w.iter s pos ∧ pos ≤ s.size ∧ Hid (∀ j, j < pos → okB (bt s j) = true) ∧ Hid (0 < pos → isLet (bt s 0) = true)) (fun wq => s.size - wq.iterPos w.heap.size)
  case atStart => exact ⟨0, rfl, Nat.zero_le _, fun j hj => by omega, fun h => by omega⟩
  case round =>
    obtain ⟨pos, rfl, hps, hk, hb0⟩ := hrel
    by_cases hp : pos < s.size
    · have hnx := fun ty => run_next_any (P := Try.prog) w s pos ty hp
      obtain ⟨d1, d2, d4, d3⟩ := decode_ok s pos hp
      obtain ⟨x, hx⟩ : ∃ x : Int, x = ((Utf8.decode s pos).1 : Int) := ⟨_, rfl⟩
      rw [← hx] at hnx d3 d4
      generalize (Utf8.decode s pos).2 = sz at hnx d1 d2 d3
      clear hx
      have D3 : Hid (∀ j, pos ≤ j → j < pos + sz → okB (bt s j) = okB x) := d3
      have D4 : Hid (isLet (bt s pos) = isLet x) := d4
      clear d3 d4
      have HS := space_any (w.iter s (pos + sz)) x
      have HL := letter_any (w.iter s (pos + sz)) x
      by_cases hz : pos = 0
      · have hz' : ((pos : Int) == 0) = true := by simp [hz]
        cases hb : isLet x with
        | false =>
          have hno : Hid (tagName s = false) := tagName_let (by rw [← hb, ← D4.out, hz])
          rw [hb] at HL
          clear hb D3 D4 HS hz
          go_wp2_with fail
          refine HL.mono ?_
          rintro e w1 ⟨rfl, rfl⟩
          clear HL hnx
          go_wp2
          go_ret
          exact ⟨by rw [hno.out]; rfl, (Kp.refl _ _).alloc _⟩
        | true =>
          have hsp : isSp x = false := by
            simp [isLet] at hb
            simp [isSp]
            omega
          have h1 : (x == 47) = false := by simp [isLet] at hb; simp; omega
          have h2 : (x == 62) = false := by simp [isLet] at hb; simp; omega
          have hok : Hid (okB x = true) := by unfold okB; rw [hsp, h1, h2]; exact rfl
          have hst : Hid (isLet (bt s 0) = true) := by rw [← hb, ← D4.out, hz]; exact rfl
          rw [hb] at HL
          rw [hsp] at HS
          clear hb hsp D4 hz
          go_wp2_with fail
          refine HL.mono ?_
          rintro e w1 ⟨rfl, rfl⟩
          clear HL hnx
          go_wp2_with fail
          refine HS.mono ?_
          rintro e w1 ⟨rfl, rfl⟩
          clear HS
          go_wp2
          go_roundw
          case rel =>
            refine ⟨pos + sz, rfl, d2, fun j hj => ?_, fun _ => hst.out⟩
            by_cases hjp : j < pos
            · exact hk.out j hjp
            · exact (D3.out j (by omega) hj).trans hok.out
          case measure => simp; omega
      · have hz' : ((pos : Int) == 0) = false := by simp; omega
        have hst : Hid (isLet (bt s 0) = true) := hb0.out (by omega)
        clear HL D4 hz
        cases hb : isSp x with
        | true =>
          have hno : Hid (tagName s = false) := tagName_not hp ((D3.out pos (Nat.le_refl _) (by omega)).trans (by unfold okB; rw [hb]; rfl))
          rw [hb] at HS
          clear hb D3
          go_wp2_with fail
          refine HS.mono ?_
          rintro e w1 ⟨rfl, rfl⟩
          clear HS hnx
          go_wp2
          go_ret
          exact ⟨by rw [hno.out]; rfl, (Kp.refl _ _).alloc _⟩
        | false =>
          rw [hb] at HS
          by_cases e1 : x = 47
          · have hno : Hid (tagName s = false) := tagName_not hp ((D3.out pos (Nat.le_refl _) (by omega)).trans (by rw [e1]; rfl))
            have e1' : (x == 47) = true := by simp [e1]
            clear hb D3 e1
            go_wp2_with fail
            refine HS.mono ?_
            rintro e w1 ⟨rfl, rfl⟩
            clear HS hnx
            go_wp2
            go_ret
            exact ⟨by rw [hno.out]; rfl, (Kp.refl _ _).alloc _⟩
          · have e1' : (x == 47) = false := by simpa using e1
            by_cases e2 : x = 62
            · have hno : Hid (tagName s = false) := tagName_not hp ((D3.out pos (Nat.le_refl _) (by omega)).trans (by rw [e2]; rfl))
              have e2' : (x == 62) = true := by simp [e2]
              clear hb D3 e1 e2
              go_wp2_with fail
              refine HS.mono ?_
              rintro e w1 ⟨rfl, rfl⟩
              clear HS hnx
              go_wp2
              go_ret
              exact ⟨by rw [hno.out]; rfl, (Kp.refl _ _).alloc _⟩
            · have e2' : (x == 62) = false := by simpa using e2
              have hok : Hid (okB x = true) := by unfold okB; rw [hb, e1', e2']; exact rfl
              clear hb
              go_wp2_with fail
              refine HS.mono ?_
              rintro e w1 ⟨rfl, rfl⟩
              clear HS hnx
              go_wp2
              go_roundw
              case rel =>
                refine ⟨pos + sz, rfl, d2, fun j hj => ?_, fun _ => hst.out⟩
                by_cases hjp : j < pos
                · exact hk.out j hjp
                · exact (D3.out j (by omega) hj).trans hok.out
              case measure => simp; omega
    · have hnx := fun ty => run_next_end (P := Try.prog) w s pos ty hp
      have hall : Hid (∀ j, j < s.size → okB (bt s j) = true) := fun j hj => hk.out j (by omega)
      have HLo := fun W => islow_any W s hl
      by_cases h0 : s.size = 0
      · have hs : s = ⟨#[]⟩ := ByteArray.ext (Array.eq_empty_of_size_eq_zero h0)
        subst hs
        have hno : Hid (tagName ⟨#[]⟩ = false) := tagName_nil
        clear hk hb0 hall HLo h0
        go_wp2
        go_ret
        exact ⟨by rw [hno.out]; rfl, (Kp.refl _ _).alloc _⟩
      · have hyes : Hid (tagName s = decide (lower s = s)) := tagName_low (hb0.out (by omega)) hall.out
        have hne : s.toList.isEmpty = false := by
          rw [ByteArray.toList_eq, List.isEmpty_eq_false_iff]
          intro e
          apply h0
          show s.data.size = 0
          rw [← Array.length_toList, e]
          rfl
        clear hk hb0 hall h0
        go_wp2_with fail
        refine (HLo _).mono ?_
        rintro e w1 ⟨rfl, k1⟩
        clear HLo hnx
        go_wp2
        go_ret
        exact ⟨by rw [hyes.out]; rfl, ((Kp.refl _ _).alloc _).trans k1 (fun x hx => by simp at hx)⟩

end Go.Proofs.Ythdlmglnieomeaa
