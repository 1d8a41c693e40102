/-
  OpBack: the walk.
-/
import Derived.Test.YtpjkpobdkmcedaaDoorBacA
import Derived.Test.YtpjkpobdkmcedaaDoorBacB
import Derived.Test.YtpjkpobdkmcedaaDoorKn
import Derived.Test.YtpjkpobdkmcedaaDoorDecE
import Derived.Test.YtpjkpobdkmcedaaDoorRoomy
import Derived.Deep.CutBlock
namespace Go.Proofs.YtpjkpobdkmcedaaDoor
open Go.RowKit Utf
set_option linter.unusedVariables false
set_option linter.unusedSimpArgs false

/-- The operations that were made so far. -/
structure Bk (w W : World) (ao : Option Addr) (n c : Nat) (L : List Q) : Prop where
  mq : Mq w W ao n c L
  small : ∀ q, q ∈ L → smallO q.1
  ok : ∀ q, q ∈ L → okO q.1 = true

theorem Bk.nil (w : World) : Bk w w none 0 0 [] := ⟨Mq.nil w, fun q hq => by simp at hq, fun q hq => by simp at hq⟩

theorem Bk.kept {w W V : World} {ao : Option Addr} {n c : Nat} {L : List Q} (h : Bk w W ao n c L) (k : Kp [] W V) : Bk w V ao n c L := ⟨h.mq.kept k, h.small, h.ok⟩

theorem Bk.given {w W : World} {ao : Option Addr} {n c : Nat} {L : List Q} (h : Bk w W ao n c L) (hl : L.length ≤ 1000) : Given W ao n c L :=
  ⟨h.mq.rq, fun q hq => small_at (h.small q hq) (h.mq.ar q hq), by have := h.mq.len; omega⟩

theorem Bk.one {w W : World} {ao : Option Addr} {n c : Nat} {L : List Q} (h : Bk w W ao n c L) (p : Q) (hp : Ar W p) (hs : smallO p.1) (ho : okO p.1 = true) (hl : L.length ≤ 1000) :
    ∃ ao' n' c' w2, (∀ ty, (Builtin.append_ #[31, 31] ty #[.slice ao n c, .slice (some ⟨W.heap.size, 0, none⟩) 1 1]).run Tryd.prog (W.alloc (.cells (oc p.1 p.2) 24)) = .ok (.slice ao' n' c') w2) ∧ Bk w w2 ao' n' c' (L ++ [p]) := by
  obtain ⟨a', n', c', w2, hrun, M⟩ := h.mq.one p hp (by have := h.mq.len; omega)
  refine ⟨a', n', c', w2, hrun, M, fun q hq => ?_, fun q hq => ?_⟩
  · rcases List.mem_append.1 hq with h1 | h1
    · exact h.small q h1
    · rw [List.mem_singleton.1 h1]; exact hs
  · rcases List.mem_append.1 hq with h1 | h1
    · exact h.ok q h1
    · rw [List.mem_singleton.1 h1]; exact ho

/-- Both lists, place by place: the same operation stands in both. -/
def Pair (V : World) (a : Option Addr) (am : Option Addr) (m : Nat) : Prop := ∀ j, j < m → ∃ (o : Ot) (p q : Sl) (b1 off1 b2 off2 : Nat), a = some ⟨b1, off1, none⟩ ∧ am = some ⟨b2, off2, none⟩ ∧ Nine V b1 (off1 + j * 9) o p ∧ Nine V b2 (off2 + j * 9) o q ∧ At V (o, p) ∧ At V (o, q) ∧ p.2.1 ≤ 100000 ∧ q.2.1 ≤ 100000

theorem Pair.kept {V V' : World} {a am : Option Addr} {m : Nat} (h : Pair V a am m) (k : Kp [] V V') : Pair V' a am m := fun j hj => by
  obtain ⟨o, p, q, b1, off1, b2, off2, e1, e2, n1, n2, a1, a2, l1, l2⟩ := h j hj
  exact ⟨o, p, q, b1, off1, b2, off2, e1, e2, n1.kept k (by simp), n2.kept k (by simp), a1.kept k, a2.kept k, l1, l2⟩

theorem os_at : ∀ (L : List Q) (j : Nat) (h : j < L.length), (os L)[j]'(by rw [os_len]; exact h) = L[j].1
  | q :: L, 0, _ => rfl
  | q :: L, j + 1, h => os_at L j (by simpa using h)

theorem pair_of {V : World} {a am : Option Addr} {n c nm cm : Nat} {L M : List Q} (hL : Rq V a n c L) (hM : Rq V am nm cm M) (he : os L = os M) (hs : ∀ q, q ∈ L → At V q ∧ q.2.2.1 ≤ 100000) (hm : ∀ q, q ∈ M → At V q ∧ q.2.2.1 ≤ 100000) : Pair V a am L.length := fun j hj => by
  have hl : L.length = M.length := by have := congrArg List.length he; rw [os_len, os_len] at this; exact this
  obtain ⟨b1, off1, e1, n1⟩ := hL.get j hj
  obtain ⟨b2, off2, e2, n2⟩ := hM.get j (by omega)
  have ho : M[j].1 = L[j].1 := by
    rw [← os_at L j hj, ← os_at M j (by omega)]
    simp only [he]
  have h1 := hs L[j] (List.getElem_mem hj)
  have h2 := hm M[j] (List.getElem_mem (by omega))
  refine ⟨L[j].1, L[j].2, M[j].2, b1, off1, b2, off2, e1, e2, n1, by rw [← ho]; exact n2, h1.1, ?_, h1.2, h2.2⟩
  rw [← ho]
  exact h2.1

set_option maxRecDepth 100000 in
set_option maxHeartbeats 4000000 in
theorem back_walk (w : World) (hT : Tb w) (ao : Option Addr) (len cap : Nat) (F : Nat → Rw) (hW : Win w ao len cap F) (at_ : Int) (hat : i64 at_) (tn : Int) (htn : 0 ≤ tn ∧ tn ≤ 255) (cut : Bool) (xo : Option Addr) (xn xc : Nat) (xs : List Int) (hx : Rb w xo xn xc (b8 xs)) (hxb : byt xs) (hxn : xn ≤ 140737488355328) :
    Calls Tryd.prog 5 #[.slice ao len cap, .int .i64 at_, .int .u8 tn, .bool cut, .slice xo xn xc] w fun e w' => e = .returned (.bool true) ∧ Kp [] w w' := by
  have hlen : len ≤ 140737488355328 := hW.2.1
  have HWn : Hid (Win w ao len cap F) := hW
  have HTb : Hid (∀ V, Kp [] w V → Tb V) := fun V k => hT.kept k
  have HX : Hid (Rb w xo xn xc (b8 xs) ∧ byt xs) := ⟨hx, hxb⟩
  clear hW hT hx hxb
  go_enter Tryd.func5, Tryd.ntmps5
  go_upto_block 0 with fail
  go_cut [11, 12, 13] from 27 to 46 (fun x11 x12 x13 wc => ∃ (L : List Q) (a : Option Addr) (n c : Nat), L.length ≤ 20 ∧ x11 = .slice a n c ∧ Bk w wc a n c L)
  case first =>
    go_wp2
    go_loopw [11, 12] (fun sv i wr => ∃ (L : List Q) (a : Option Addr) (n c : Nat), L.length ≤ len ∧ L.length ≤ 20 ∧ sv = .slice a n c ∧ i = .int .i64 L.length ∧ Bk w wr a n c L) (fun _ i _ => 20 - (intOf i).toNat)
    case atStart => exact ⟨[], none, 0, 0, Nat.zero_le _, Nat.zero_le _, rfl, rfl, Bk.nil w⟩
    case round =>
      obtain ⟨L, a, n, c, hk, hk20, rfl, rfl, T⟩ := hrel
      by_cases hgo : L.length < len ∧ L.length < 20
      · obtain ⟨h1, h2⟩ := hgo
        obtain ⟨b, off, ⟨p1, p2, p3⟩, rfl, hc, hA, hp, hr⟩ := (HWn.out.kept T.mq.kp).2.2 L.length h1
        generalize hRx : F L.length = Rx at hc hA hp hr
        clear hRx
        obtain ⟨⟨o1, o2, o3, o4, o5, o6, o7, o8, o9⟩, t, kk⟩ := Rx
        have c0 : wr.cell? ⟨b, off + L.length * 11, none⟩ = some (.int .i64 o1) := hc 0 (by omega)
        have c1 : wr.cell? ⟨b, off + L.length * 11 + 1, none⟩ = some (.int .i64 o2) := hc 1 (by omega)
        have c2 : wr.cell? ⟨b, off + L.length * 11 + 2, none⟩ = some (.int .i64 o3) := hc 2 (by omega)
        have c3 : wr.cell? ⟨b, off + L.length * 11 + 3, none⟩ = some (.int .i64 o4) := hc 3 (by omega)
        have c4 : wr.cell? ⟨b, off + L.length * 11 + 4, none⟩ = some (.int .i64 o5) := hc 4 (by omega)
        have c5 : wr.cell? ⟨b, off + L.length * 11 + 5, none⟩ = some (.int .i64 o6) := hc 5 (by omega)
        have c6 : wr.cell? ⟨b, off + L.length * 11 + 6, none⟩ = some (.string o7) := hc 6 (by omega)
        have c7 : wr.cell? ⟨b, off + L.length * 11 + 7, none⟩ = some (.slice p1 p2 p3) := hc 7 (by omega)
        have c8 : wr.cell? ⟨b, off + L.length * 11 + 8, none⟩ = some (.string o9) := hc 8 (by omega)
        have c9 : wr.cell? ⟨b, off + L.length * 11 + 9, none⟩ = some (.bool t) := hc 9 (by omega)
        have c10 : wr.cell? ⟨b, off + L.length * 11 + 10, none⟩ = some (.int .i64 kk) := hc 10 (by omega)
        have ka : Kp [] wr (wr.alloc (.cells (rcs ⟨o1, o2, o3, o4, o5, o6, o7, o8, o9⟩ (p1, p2, p3) true kk) 40)) := (Kp.refl _ _).alloc _
        have HM := made_any (wr.alloc (.cells (rcs ⟨o1, o2, o3, o4, o5, o6, o7, o8, o9⟩ (p1, p2, p3) true kk) 40)) ⟨o1, o2, o3, o4, o5, o6, o7, o8, o9⟩ (p1, p2, p3) true kk (hA.kept ka) hp
        have hok := tame_ok ⟨o1, o2, o3, o4, o5, o6, o7, o8, o9⟩ kk
        have hsm := madeO_small ⟨o1, o2, o3, o4, o5, o6, o7, o8, o9⟩ true kk
        generalize madeO ⟨o1, o2, o3, o4, o5, o6, o7, o8, o9⟩ true kk = R at HM hok hsm
        have HT0 : Hid (Bk w (wr.alloc (.cells (rcs ⟨o1, o2, o3, o4, o5, o6, o7, o8, o9⟩ (p1, p2, p3) true kk) 40)) a n c L) := T.kept ka
        have HR : Hid (okO R = true ∧ smallO R) := ⟨hok, hsm⟩
        simp only [rv, rcs] at HM HT0
        clear hc hA hp hr T hok hsm ka
        go_wp2_with fail
        refine HM.mono ?_
        rintro e w1 ⟨⟨q1, q2, q3⟩, rfl, A1, qn, k1⟩
        clear HM qn c0 c1 c2 c3 c4 c5 c6 c7 c8 c9 c10
        have T1 := HT0.out.kept k1
        obtain ⟨a2, n2, c2, w2, hrun, B2⟩ := T1.one (R, q1, q2, q3) A1 HR.out.2 HR.out.1 (by omega)
        have HE2 : Hid (Bk w w2 a2 n2 c2 (L ++ [(R, q1, q2, q3)])) := B2
        have HL2 : Hid (L.length + 1 ≤ len ∧ L.length + 1 ≤ 20) := ⟨h1, h2⟩
        have HLn : Hid ((L ++ [((R : Ot), (q1, q2, q3))]).length = L.length + 1) := (by simp : (L ++ [((R : Ot), (q1, q2, q3))]).length = L.length + 1)
        clear HT0 k1 A1 T1 HR B2
        obtain ⟨R1, R2, R3, R4, R5, R6, R7, R8, R9⟩ := R
        simp only [ov, oc] at hrun ⊢
        go_wp2_with (at_builtin; refine Lib.wpList_append_run _ rfl _ _ _ _ rfl _ _ rfl rfl _ _ (hrun _) ?_)
        go_roundw
        case rel => exact ⟨L ++ [(⟨R1, R2, R3, R4, R5, R6, R7, R8, R9⟩, q1, q2, q3)], a2, n2, c2, by rw [HLn.out]; exact HL2.out.1, by rw [HLn.out]; exact HL2.out.2, rfl, by rw [HLn.out]; go_num, HE2.out⟩
        case measure => simp [intOf]; omega
      · have HE2 : Hid (Bk w wr a n c L) := T
        clear HWn HTb HX T
        rcases (by omega : (L.length < len ∧ 20 ≤ L.length) ∨ len ≤ L.length) with ⟨g1, g2⟩ | g1
        · go_wp2_with fail
          go_meet
          case rel => exact ⟨L, a, n, c, hk20, rfl, HE2.out⟩
        · go_wp2_with fail
          go_meet
          case rel => exact ⟨L, a, n, c, hk20, rfl, HE2.out⟩
  case rest =>
    obtain ⟨L, a, n, c, hk20, rfl, T⟩ := hcut
    have hlen2 : (obs (os L)).length ≤ 8180 := by have := obs_small L T.small; omega
    have HG := T.given (by omega)
    have HT0 : Hid (Bk w wc a n c L) := T
    have HKw : Hid (Kp [] w wc) := T.mq.kp
    have HCE : Hid (∀ _ : True, Calls Tryd.prog 7 #[.slice a n c] wc fun e w' => ∃ a' n' c', e = .returned (.tuple #[.slice a' n' c', .int .i64 0]) ∧ Mb wc w' (.slice a' n' c') (obs (os L))) := fun _ => encode_ok wc a n c L HG T.ok (by omega)
    clear T HG HWn
    go_upto_region 9 with (go_at_call 7; refine (HCE.out trivial).mono ?_; rintro e w2 ⟨bo, bn, bc, rfl, m2⟩)
    have HM2 : Hid (Mb wc w2 (.slice bo bn bc) (obs (os L))) := m2
    have hbn : bn ≤ 8180 := by have := m2.1.rb.len; rw [b8_len] at this; omega
    have hokL : ∀ o, o ∈ os L → okO o = true := fun o ho => by
      obtain ⟨q, h1, h2⟩ := mem_os ho
      rw [← h2]
      exact HT0.out.ok q h1
    have HCD : Hid (∀ _ : True, Calls Tryd.prog 17 #[.slice bo bn bc] w2 fun e w' => ∃ (M : List Q) (am : Option Addr) (nm cm : Nat), e = .returned (.tuple #[.slice am nm cm, .int .i64 0]) ∧ Mq w2 w' am nm cm M ∧ os L = os M) := fun _ => (decode_any w2 bo bn bc _ m2.1.rb (obs_byt _) (by omega)).mono (fun e w' hd => by
      rcases hd with ⟨M, am, nm, cm, rfl, hM, hx, hok⟩ | ⟨_, _, hno⟩
      · exact ⟨M, am, nm, cm, rfl, hM, obs_inj hokL (fun o ho => by
          obtain ⟨q, h1, h2⟩ := mem_os ho
          rw [← h2]
          exact hok q h1) hx⟩
      · exact absurd rfl (hno (os L) hokL))
    have HT2 : Hid (Bk w w2 a n c L) := HT0.out.kept m2.2.1
    clear m2 HCE HT0 hokL
    go_upto_region 10 with (go_at_call 17; refine (HCD.out trivial).mono ?_; rintro e w3 ⟨M, am, nm, cm, rfl, hM, hos⟩)
    have hML : M.length = L.length := by have := congrArg List.length hos; rw [os_len, os_len] at this; exact this.symm
    obtain rfl : nm = n := by have h1 := hM.len; have h2 := HT2.out.mq.len; omega
    have hsmM : ∀ q, q ∈ M → At w3 q ∧ q.2.2.1 ≤ 100000 := fun q hq => by
      have hA := hM.ar q hq
      have hmem : q.1 ∈ os L := by
        rw [hos]
        obtain ⟨j, hj, rfl⟩ := List.getElem_of_mem hq
        rw [← os_at M j hj]
        exact List.getElem_mem _
      obtain ⟨q', h1, h2⟩ := mem_os hmem
      have hs := HT2.out.small q' h1
      rw [h2] at hs
      exact small_at hs hA
    have T3 := HT2.out.kept hM.kp
    have HP : Hid (Pair w3 a am L.length) := pair_of T3.mq.rq hM.rq hos (T3.given (by omega)).at' hsmM
    have HM3 : Hid (Mb wc w3 (.slice bo bn bc) (obs (os L)) ∧ Kp [] w w3 ∧ Kp [] w wc) := ⟨HM2.out.kept hM.kp, T3.mq.kp, HKw.out⟩
    have hnL : Hid (nm = L.length) := T3.mq.len
    have hnLx : nm ≤ L.length := by have := hnL.out; omega
    have hn20 : nm ≤ 20 := by have := hnL.out; omega
    clear T3 hsmM hM HT2 HM2 HCD hML hos
    go_upto_block 2 with fail
    obtain ⟨wB, hwB⟩ : ∃ x, x = wc := ⟨_, rfl⟩
    rw [← hwB] at HM3
    clear hwB
    go_cut [18] from 70 to 97 (fun x18 wd => Kp [] w3 wd)
    case first =>
      clear HTb HX HM3 hnL
      have hnL2 : Hid (nm ≤ L.length) := hnLx
      go_wp2_with fail
      go_loopw [18] (fun i wr => ∃ k : Nat, k ≤ nm ∧ i = .int .i64 k ∧ Kp [] w3 wr) (fun i _ => nm - (intOf i).toNat)
      case atStart => exact ⟨0, Nat.zero_le _, rfl, Kp.refl _ _⟩
      case round =>
        obtain ⟨k, hk, rfl, kw⟩ := hrel
        by_cases hlt : k < nm
        · obtain ⟨⟨o1, o2, o3, o4, o5, o6, o7, o8, o9⟩, ⟨p1, p2, p3⟩, ⟨q1, q2, q3⟩, b1, off1, b2, off2, rfl, rfl, N1, N2, A1, A2, l1, l2⟩ := (HP.out.kept kw) k (by have := hnL2.out; omega)
          have HK : Hid (∀ V, Kp [] wr V → Calls Tryd.prog 16 #[ov ⟨o1, o2, o3, o4, o5, o6, o7, o8, o9⟩ (q1, q2, q3), ov ⟨o1, o2, o3, o4, o5, o6, o7, o8, o9⟩ (p1, p2, p3)] V fun e w' => e = .returned (.bool true) ∧ Kp [] V w') := fun V kV => by
            have h := kop_any V ⟨o1, o2, o3, o4, o5, o6, o7, o8, o9⟩ ⟨o1, o2, o3, o4, o5, o6, o7, o8, o9⟩ (q1, q2, q3) (p1, p2, p3) (A2.kept kV) (A1.kept kV) l2 l1
            rw [sameO_refl] at h
            exact h
          have HS : Hid (∀ V, Kp [] wr V → Calls Tryd.prog 12 #[ov ⟨o1, o2, o3, o4, o5, o6, o7, o8, o9⟩ (q1, q2, q3), ov ⟨o1, o2, o3, o4, o5, o6, o7, o8, o9⟩ (p1, p2, p3)] V fun e w' => e = .returned (.bool true) ∧ Kp [] V w') := fun V kV => by
            have h := osame_any V ⟨o1, o2, o3, o4, o5, o6, o7, o8, o9⟩ ⟨o1, o2, o3, o4, o5, o6, o7, o8, o9⟩ (q1, q2, q3) (p1, p2, p3) (A2.kept kV) (A1.kept kV) l2 l1
            rw [sameO_refl] at h
            exact h
          have HN1 : Hid (∀ V, Kp [] wr V → Nine V b1 (off1 + k * 9) ⟨o1, o2, o3, o4, o5, o6, o7, o8, o9⟩ (p1, p2, p3)) := fun V kV => N1.kept kV (by simp)
          have HN2 : Hid (∀ V, Kp [] wr V → Nine V b2 (off2 + k * 9) ⟨o1, o2, o3, o4, o5, o6, o7, o8, o9⟩ (q1, q2, q3)) := fun V kV => N2.kept kV (by simp)
          simp only [Nine] at HN1 HN2
          simp only [ov] at HK HS
          have HN : Hid (∀ V, Kp [] wr V → _ ∧ _) := fun V kV => ⟨HN1.out V kV, HN2.out V kV⟩
          clear HN1 HN2 N1 N2 A1 A2 l1 l2 HP hnL2
          go_upto_region 15 with fail
          obtain ⟨U0, hU0⟩ : ∃ U, U = wr.drew := ⟨_, rfl⟩
          have k0 : Kp [] wr U0 := by rw [hU0]; exact (Kp.refl _ _).drew
          refine wp_region_g (S := fun U => (U.cell? ⟨b1, off1 + k * 9, none⟩ = some (.int .i64 o1) ∧ U.cell? ⟨b1, off1 + k * 9 + 1, none⟩ = some (.int .i64 o2) ∧ U.cell? ⟨b1, off1 + k * 9 + 2, none⟩ = some (.int .i64 o3) ∧ U.cell? ⟨b1, off1 + k * 9 + 3, none⟩ = some (.int .i64 o4) ∧ U.cell? ⟨b1, off1 + k * 9 + 4, none⟩ = some (.int .i64 o5) ∧ U.cell? ⟨b1, off1 + k * 9 + 5, none⟩ = some (.int .i64 o6) ∧ U.cell? ⟨b1, off1 + k * 9 + 6, none⟩ = some (.string o7) ∧ U.cell? ⟨b1, off1 + k * 9 + 7, none⟩ = some (.slice p1 p2 p3) ∧ U.cell? ⟨b1, off1 + k * 9 + 8, none⟩ = some (.string o9)) ∧ U.cell? ⟨b2, off2 + k * 9, none⟩ = some (.int .i64 o1) ∧ U.cell? ⟨b2, off2 + k * 9 + 1, none⟩ = some (.int .i64 o2) ∧ U.cell? ⟨b2, off2 + k * 9 + 2, none⟩ = some (.int .i64 o3) ∧ U.cell? ⟨b2, off2 + k * 9 + 3, none⟩ = some (.int .i64 o4) ∧ U.cell? ⟨b2, off2 + k * 9 + 4, none⟩ = some (.int .i64 o5) ∧ U.cell? ⟨b2, off2 + k * 9 + 5, none⟩ = some (.int .i64 o6) ∧ U.cell? ⟨b2, off2 + k * 9 + 6, none⟩ = some (.string o7) ∧ U.cell? ⟨b2, off2 + k * 9 + 7, none⟩ = some (.slice q1 q2 q3) ∧ U.cell? ⟨b2, off2 + k * 9 + 8, none⟩ = some (.string o9)) (T := []) (by kernel_rfl) (by rw [← hU0]; exact HN.out _ k0) (fun hHeld => ?_)
          rw [← hU0] at hHeld ⊢
          clear hU0
          refine wpAnyG_pure (i := 0) (oi := { dst := some 76, op := Go.Op.move (Go.Operand.tmp 16), type := 31, pos := "law.go:190", after := #[], guard := none }) (v := ?_) rfl (by kernel_rfl) (by kernel_rfl) (by kernel_rfl) (by kernel_rfl) (fun _ _ _ h => h) (Or.inl ⟨by rfl, ?_⟩) (by assumption) ?_
          rotate_left
          · (intro w; go_simp; try with_reducible rfl)
          simp only [Act.put, List.setIfInBounds_toArray, List.set_cons_zero, List.set_cons_succ]
          refine wpAnyG_pure (i := 1) (oi := { dst := some 77, op := Go.Op.move (Go.Operand.tmp 18), type := 3, pos := "law.go:190", after := #[], guard := none }) (v := ?_) rfl (by kernel_rfl) (by kernel_rfl) (by kernel_rfl) (by kernel_rfl) (fun _ _ _ h => h) (Or.inl ⟨by rfl, ?_⟩) (by assumption) ?_
          rotate_left
          · (intro w; go_simp; try with_reducible rfl)
          simp only [Act.put, List.setIfInBounds_toArray, List.set_cons_zero, List.set_cons_succ]
          refine wpAnyG_pure (i := 2) (oi := { dst := some 78, op := Go.Op.indexAddr 31 (Go.Operand.tmp 76) (Go.Operand.tmp 77), type := 0, pos := "law.go:190", after := #[{ on := 0, ground := Go.Ground.data }, { on := 1, ground := Go.Ground.data }], guard := none }) (v := ?_) rfl (by kernel_rfl) (by kernel_rfl) (by kernel_rfl) (by kernel_rfl) (fun _ _ _ h => h) (Or.inl ⟨by rfl, ?_⟩) (by assumption) ?_
          rotate_left
          · (intro w; go_simp; try with_reducible rfl)
          simp only [Act.put, List.setIfInBounds_toArray, List.set_cons_zero, List.set_cons_succ]
          refine wpAnyG_take (i := 3) (oi := { dst := some 79, op := Go.Op.load 24 (Go.Operand.tmp 78), type := 24, pos := "law.go:190", after := #[{ on := 2, ground := Go.Ground.data }], guard := none }) (v := ?_) rfl (by kernel_rfl) (by kernel_rfl) (by kernel_rfl) (by kernel_rfl) (fun _ _ _ h => h) (Or.inl ⟨by rfl, ?_⟩) (by assumption) ?_
          rotate_left
          · (intro w hSw; (obtain ⟨⟨y0, y1, y2, y3, y4, y5, y6, y7, y8⟩, v0, v1, v2, v3, v4, v5, v6, v7, v8⟩ := hSw); go_simp; try with_reducible rfl)
          simp only [Act.put, List.setIfInBounds_toArray, List.set_cons_zero, List.set_cons_succ]
          refine wpAnyG_pure (i := 4) (oi := { dst := some 80, op := Go.Op.move (Go.Operand.tmp 11), type := 31, pos := "law.go:190", after := #[], guard := none }) (v := ?_) rfl (by kernel_rfl) (by kernel_rfl) (by kernel_rfl) (by kernel_rfl) (fun _ _ _ h => h) (Or.inl ⟨by rfl, ?_⟩) (by assumption) ?_
          rotate_left
          · (intro w; go_simp; try with_reducible rfl)
          simp only [Act.put, List.setIfInBounds_toArray, List.set_cons_zero, List.set_cons_succ]
          refine wpAnyG_pure (i := 5) (oi := { dst := some 81, op := Go.Op.move (Go.Operand.tmp 18), type := 3, pos := "law.go:190", after := #[], guard := none }) (v := ?_) rfl (by kernel_rfl) (by kernel_rfl) (by kernel_rfl) (by kernel_rfl) (fun _ _ _ h => h) (Or.inl ⟨by rfl, ?_⟩) (by assumption) ?_
          rotate_left
          · (intro w; go_simp; try with_reducible rfl)
          simp only [Act.put, List.setIfInBounds_toArray, List.set_cons_zero, List.set_cons_succ]
          refine wpAnyG_pure (i := 6) (oi := { dst := some 82, op := Go.Op.indexAddr 31 (Go.Operand.tmp 80) (Go.Operand.tmp 81), type := 0, pos := "law.go:190", after := #[{ on := 4, ground := Go.Ground.data }, { on := 5, ground := Go.Ground.data }], guard := none }) (v := ?_) rfl (by kernel_rfl) (by kernel_rfl) (by kernel_rfl) (by kernel_rfl) (fun _ _ _ h => h) (Or.inl ⟨by rfl, ?_⟩) (by assumption) ?_
          rotate_left
          · (intro w; go_simp; try with_reducible rfl)
          simp only [Act.put, List.setIfInBounds_toArray, List.set_cons_zero, List.set_cons_succ]
          refine wpAnyG_take (i := 7) (oi := { dst := some 83, op := Go.Op.load 24 (Go.Operand.tmp 82), type := 24, pos := "law.go:190", after := #[{ on := 6, ground := Go.Ground.data }], guard := none }) (v := ?_) rfl (by kernel_rfl) (by kernel_rfl) (by kernel_rfl) (by kernel_rfl) (fun _ _ _ h => h) (Or.inl ⟨by rfl, ?_⟩) (by assumption) ?_
          rotate_left
          · (intro w hSw; (obtain ⟨⟨y0, y1, y2, y3, y4, y5, y6, y7, y8⟩, v0, v1, v2, v3, v4, v5, v6, v7, v8⟩ := hSw); go_simp; try with_reducible rfl)
          simp only [Act.put, List.setIfInBounds_toArray, List.set_cons_zero, List.set_cons_succ]
          refine wpAnyG_ready (rs := [8]) (by kernel_rfl) (by simp) ?_
          refine AllReadyG.cons (o := { dst := some 84, op := Go.Op.call { callee := Go.Callee.value (Go.Operand.func 16), args := #[Go.Operand.tmp 79, Go.Operand.tmp 83], argTypes := #[24, 24] }, type := 4, pos := "law.go:190", after := #[{ on := 3, ground := Go.Ground.data }, { on := 7, ground := Go.Ground.data }], guard := none }) rfl (fun K hK => ?_) AllReadyG.nil
          go_simp
          go_at_call 16
          refine (HK.out _ k0).mono ?_
          rintro e U1 ⟨rfl, v1⟩
          have k1 : Kp [] wr U1 := k0.trans v1 (fun z hz => Or.inl hz)
          go_wp2_with fail
          refine hK.out _ _ (HN.out _ k1) (fun hHeld1 => ?_)
          clear hK K hHeld
          try simp only [Act.put, List.setIfInBounds_toArray, List.set_cons_zero, List.set_cons_succ]
          refine wpAnyG_pure (i := 9) (oi := { dst := some 85, op := Go.Op.unOp Go.UnOp.not 4 (Go.Operand.tmp 84), type := 4, pos := "law.go:190", after := #[{ on := 8, ground := Go.Ground.data }], guard := none }) (v := ?_) rfl (by kernel_rfl) (by kernel_rfl) (by kernel_rfl) (by kernel_rfl) (fun _ _ _ h => h) (Or.inl ⟨by rfl, ?_⟩) (by assumption) ?_
          rotate_left
          · (intro w; go_simp; try with_reducible rfl)
          simp only [Act.put, List.setIfInBounds_toArray, List.set_cons_zero, List.set_cons_succ]
          refine wpAnyG_pure (i := 10) (oi := { dst := some 86, op := Go.Op.move (Go.Operand.tmp 85), type := 4, pos := "law.go:190", after := #[{ on := 9, ground := Go.Ground.data }, { on := 8, ground := Go.Ground.chain }], guard := none }) (v := ?_) rfl (by kernel_rfl) (by kernel_rfl) (by kernel_rfl) (by kernel_rfl) (fun _ _ _ h => h) (Or.inl ⟨by rfl, ?_⟩) (by assumption) ?_
          rotate_left
          · (intro w; go_simp; try with_reducible rfl)
          simp only [Act.put, List.setIfInBounds_toArray, List.set_cons_zero, List.set_cons_succ]
          refine wpAnyG_pure (i := 11) (oi := { dst := some 87, op := Go.Op.move (Go.Operand.tmp 16), type := 31, pos := "law.go:190", after := #[{ on := 10, ground := Go.Ground.guard }], guard := some (10, false) }) (v := ?_) rfl (by kernel_rfl) (by kernel_rfl) (by kernel_rfl) (by kernel_rfl) (fun _ _ _ h => h) (Or.inl ⟨by rfl, ?_⟩) (by assumption) ?_
          rotate_left
          · (intro w; go_simp; try with_reducible rfl)
          simp only [Act.put, List.setIfInBounds_toArray, List.set_cons_zero, List.set_cons_succ]
          refine wpAnyG_pure (i := 12) (oi := { dst := some 88, op := Go.Op.move (Go.Operand.tmp 18), type := 3, pos := "law.go:190", after := #[{ on := 10, ground := Go.Ground.guard }], guard := some (10, false) }) (v := ?_) rfl (by kernel_rfl) (by kernel_rfl) (by kernel_rfl) (by kernel_rfl) (fun _ _ _ h => h) (Or.inl ⟨by rfl, ?_⟩) (by assumption) ?_
          rotate_left
          · (intro w; go_simp; try with_reducible rfl)
          simp only [Act.put, List.setIfInBounds_toArray, List.set_cons_zero, List.set_cons_succ]
          refine wpAnyG_pure (i := 13) (oi := { dst := some 89, op := Go.Op.indexAddr 31 (Go.Operand.tmp 87) (Go.Operand.tmp 88), type := 0, pos := "law.go:190", after := #[{ on := 11, ground := Go.Ground.data }, { on := 12, ground := Go.Ground.data }, { on := 10, ground := Go.Ground.guard }], guard := some (10, false) }) (v := ?_) rfl (by kernel_rfl) (by kernel_rfl) (by kernel_rfl) (by kernel_rfl) (fun _ _ _ h => h) (Or.inl ⟨by rfl, ?_⟩) (by assumption) ?_
          rotate_left
          · (intro w; go_simp; try with_reducible rfl)
          simp only [Act.put, List.setIfInBounds_toArray, List.set_cons_zero, List.set_cons_succ]
          refine wpAnyG_take (i := 14) (oi := { dst := some 90, op := Go.Op.load 24 (Go.Operand.tmp 89), type := 24, pos := "law.go:190", after := #[{ on := 13, ground := Go.Ground.data }, { on := 10, ground := Go.Ground.guard }], guard := some (10, false) }) (v := ?_) rfl (by kernel_rfl) (by kernel_rfl) (by kernel_rfl) (by kernel_rfl) (fun _ _ _ h => h) (Or.inl ⟨by rfl, ?_⟩) (by assumption) ?_
          rotate_left
          · (intro w hSw; (obtain ⟨⟨y0, y1, y2, y3, y4, y5, y6, y7, y8⟩, v0, v1, v2, v3, v4, v5, v6, v7, v8⟩ := hSw); go_simp; try with_reducible rfl)
          simp only [Act.put, List.setIfInBounds_toArray, List.set_cons_zero, List.set_cons_succ]
          refine wpAnyG_pure (i := 15) (oi := { dst := some 91, op := Go.Op.move (Go.Operand.tmp 11), type := 31, pos := "law.go:190", after := #[{ on := 10, ground := Go.Ground.guard }], guard := some (10, false) }) (v := ?_) rfl (by kernel_rfl) (by kernel_rfl) (by kernel_rfl) (by kernel_rfl) (fun _ _ _ h => h) (Or.inl ⟨by rfl, ?_⟩) (by assumption) ?_
          rotate_left
          · (intro w; go_simp; try with_reducible rfl)
          simp only [Act.put, List.setIfInBounds_toArray, List.set_cons_zero, List.set_cons_succ]
          refine wpAnyG_pure (i := 16) (oi := { dst := some 92, op := Go.Op.move (Go.Operand.tmp 18), type := 3, pos := "law.go:190", after := #[{ on := 10, ground := Go.Ground.guard }], guard := some (10, false) }) (v := ?_) rfl (by kernel_rfl) (by kernel_rfl) (by kernel_rfl) (by kernel_rfl) (fun _ _ _ h => h) (Or.inl ⟨by rfl, ?_⟩) (by assumption) ?_
          rotate_left
          · (intro w; go_simp; try with_reducible rfl)
          simp only [Act.put, List.setIfInBounds_toArray, List.set_cons_zero, List.set_cons_succ]
          refine wpAnyG_pure (i := 17) (oi := { dst := some 93, op := Go.Op.indexAddr 31 (Go.Operand.tmp 91) (Go.Operand.tmp 92), type := 0, pos := "law.go:190", after := #[{ on := 15, ground := Go.Ground.data }, { on := 16, ground := Go.Ground.data }, { on := 10, ground := Go.Ground.guard }], guard := some (10, false) }) (v := ?_) rfl (by kernel_rfl) (by kernel_rfl) (by kernel_rfl) (by kernel_rfl) (fun _ _ _ h => h) (Or.inl ⟨by rfl, ?_⟩) (by assumption) ?_
          rotate_left
          · (intro w; go_simp; try with_reducible rfl)
          simp only [Act.put, List.setIfInBounds_toArray, List.set_cons_zero, List.set_cons_succ]
          refine wpAnyG_take (i := 18) (oi := { dst := some 94, op := Go.Op.load 24 (Go.Operand.tmp 93), type := 24, pos := "law.go:190", after := #[{ on := 17, ground := Go.Ground.data }, { on := 10, ground := Go.Ground.guard }], guard := some (10, false) }) (v := ?_) rfl (by kernel_rfl) (by kernel_rfl) (by kernel_rfl) (by kernel_rfl) (fun _ _ _ h => h) (Or.inl ⟨by rfl, ?_⟩) (by assumption) ?_
          rotate_left
          · (intro w hSw; (obtain ⟨⟨y0, y1, y2, y3, y4, y5, y6, y7, y8⟩, v0, v1, v2, v3, v4, v5, v6, v7, v8⟩ := hSw); go_simp; try with_reducible rfl)
          simp only [Act.put, List.setIfInBounds_toArray, List.set_cons_zero, List.set_cons_succ]
          refine wpAnyG_ready (rs := [19]) (by kernel_rfl) (by simp) ?_
          refine AllReadyG.cons (o := { dst := some 95, op := Go.Op.call { callee := Go.Callee.value (Go.Operand.func 12), args := #[Go.Operand.tmp 90, Go.Operand.tmp 94], argTypes := #[24, 24] }, type := 4, pos := "law.go:190", after := #[{ on := 14, ground := Go.Ground.data }, { on := 18, ground := Go.Ground.data }, { on := 10, ground := Go.Ground.chain }, { on := 10, ground := Go.Ground.guard }], guard := some (10, false) }) rfl (fun K hK => ?_) AllReadyG.nil
          go_simp
          go_at_call 12
          refine (HS.out _ k1).mono ?_
          rintro e U2 ⟨rfl, v2⟩
          have k2 : Kp [] wr U2 := k1.trans v2 (fun z hz => Or.inl hz)
          go_wp2_with fail
          refine hK.out _ _ (HN.out _ k2) (fun hHeld2 => ?_)
          clear hK K hHeld1
          try simp only [Act.put, List.setIfInBounds_toArray, List.set_cons_zero, List.set_cons_succ]
          refine wpAnyG_pure (i := 20) (oi := { dst := some 96, op := Go.Op.unOp Go.UnOp.not 4 (Go.Operand.tmp 95), type := 4, pos := "law.go:190", after := #[{ on := 19, ground := Go.Ground.data }, { on := 10, ground := Go.Ground.guard }], guard := some (10, false) }) (v := ?_) rfl (by kernel_rfl) (by kernel_rfl) (by kernel_rfl) (by kernel_rfl) (fun _ _ _ h => h) (Or.inl ⟨by rfl, ?_⟩) (by assumption) ?_
          rotate_left
          · (intro w; go_simp; try with_reducible rfl)
          simp only [Act.put, List.setIfInBounds_toArray, List.set_cons_zero, List.set_cons_succ]
          refine wpAnyG_pure (i := 21) (oi := { dst := some 97, op := Go.Op.pick (Go.Operand.tmp 86) (Go.Operand.const (Go.Value.bool true)) (Go.Operand.tmp 96), type := 4, pos := "law.go:190", after := #[{ on := 10, ground := Go.Ground.data }, { on := 20, ground := Go.Ground.data }], guard := none }) (v := ?_) rfl (by kernel_rfl) (by kernel_rfl) (by kernel_rfl) (by kernel_rfl) (fun _ _ _ h => h) (Or.inl ⟨by rfl, ?_⟩) (by assumption) ?_
          rotate_left
          · (intro w; go_simp; try with_reducible rfl)
          simp only [Act.put, List.setIfInBounds_toArray, List.set_cons_zero, List.set_cons_succ]
          refine wpAnyG_free (by kernel_rfl) ?_
          refine wpAny_done (by kernel_rfl) ?_ _
          have kz := kw.trans k2 (fun z hz => Or.inl hz)
          go_wp2_with fail
          go_roundw
          case rel => exact ⟨k + 1, by omega, by go_num, kz⟩
          case measure => simp [intOf]; omega
        · obtain rfl : k = nm := by omega
          clear HP hnL2
          go_wp2_with fail
          go_meet
          case rel => exact kw
    case rest =>
      have HM4 : Hid (Mb wB wc (.slice bo bn bc) (obs (os L)) ∧ Kp [] w wc ∧ Kp [] w wB) := ⟨HM3.out.1.kept hcut, HM3.out.2.1.trans hcut (fun z hz => Or.inl hz), HM3.out.2.2⟩
      clear HM3 HP hnL hcut
      have hys : byt (obs (os L)) := obs_byt _
      have hbl : bn = (obs (os L)).length := by rw [HM4.out.1.1.rb.len, b8_len]
      generalize obs (os L) = ys at HM4 hys hlen2 hbl
      have HY : Hid (byt ys ∧ ys.length ≤ 8180 ∧ bn = ys.length) := ⟨hys, hlen2, hbl⟩
      clear hys hlen2 hbl
      go_upto_if 100 with fail
      go_cut [14, 19] from 101 to 116 (fun x14 x19 wd => ∃ (bo2 : Option Addr) (bn2 bc2 : Nat) (zs : List Int), x14 = .slice bo2 bn2 bc2 ∧ Rb wd bo2 bn2 bc2 (b8 zs) ∧ byt zs ∧ zs.length ≤ 8180 ∧ Kp [] w wd)
      case first =>
        by_cases h0 : bn = 0
        · subst h0
          have HF : Hid (Rb wc bo 0 bc (b8 ys) ∧ byt ys ∧ ys.length ≤ 8180 ∧ Kp [] w wc) := ⟨HM4.out.1.1.rb, HY.out.1, HY.out.2.1, HM4.out.2.1⟩
          clear HM4 HY HTb HX
          go_wp2_with fail
          go_meet
          case rel => exact ⟨bo, 0, bc, ys, rfl, HF.out⟩
        · obtain ⟨m, rfl⟩ : ∃ m, bn = m + 1 := ⟨bn - 1, by omega⟩
          have hwr : IntKind.i64.wrap (m : Int) = m := by rw [IntKind.wrap_i64]; omega
          have HWi : Hid (∀ V, Calls Tryd.prog 18 #[.int .i64 at_, .int .i64 0, .int .i64 (m : Int)] V fun e w' => ∃ k : Nat, k < m + 1 ∧ e = .returned (.int .i64 k) ∧ w' = V) := fun V => (within_any V at_ 0 m (Nat.zero_le _) (by omega)).mono (fun e w' h => ⟨_, by have := wi_le at_ (m - 0); omega, h.1, h.2⟩)
          clear h0 HTb HX
          go_upto_region 19 with (go_at_call 18; refine (HWi.out _).mono ?_; rintro e w9 ⟨k, hk, rfl, hw⟩; have hw2 := hw.symm; clear hw; subst hw2)
          obtain ⟨g, rfl, t1, t2, t3, t4⟩ := turn_b HM4.out.1 k (by have := HY.out.2.2; omega)
          have HT4 : Hid (∀ v, OwnB (wc.setCell ⟨g, k, none⟩ (.int .u8 v)) (.slice (some ⟨g, 0, none⟩) (m + 1) bc) (b8 (ys.set k v))) := t4
          clear t4
          generalize ys[k]'(by have := HY.out.2.2; omega) = yk at t1
          go_upto_region 20 with fail
          have hv := xor_byte yk tn
          generalize bits BinOp.xor IntKind.u8 yk tn = v at hv ⊢
          have O5 := HT4.out v
          have K5 : Kp [] w (wc.setCell ⟨g, k, none⟩ (.int .u8 v)) := HM4.out.2.1.setCell (p := ⟨g, k, none⟩) (Or.inr (Nat.le_trans HM4.out.2.2.size t3)) _
          generalize wc.setCell ⟨g, k, none⟩ (.int .u8 v) = W5 at O5 K5 ⊢
          have hmc : m + 1 ≤ bc := O5.rb.cap
          have hZ : byt (ys.set k v) := set_byt HY.out.1 k v hv
          have hzl : (ys.set k v).length = m + 1 := by rw [List.length_set]; exact HY.out.2.2.symm
          have hz8 : (ys.set k v).length ≤ 8180 := by rw [List.length_set]; exact HY.out.2.1
          generalize ys.set k v = zs at O5 hZ hzl hz8
          have HF : Hid (Rb W5 (some ⟨g, 0, none⟩) (m + 1) bc (b8 zs) ∧ byt zs ∧ zs.length ≤ 8180 ∧ Kp [] w W5) := ⟨O5.rb, hZ, hz8, K5⟩
          have HF2 : Hid (Rb W5 (some ⟨g, 0, none⟩) k bc (b8 (zs.take k)) ∧ byt (zs.take k) ∧ (zs.take k).length ≤ 8180 ∧ Kp [] w W5) := by
            have r := O5.rb
            have hg : Rb W5 (some ⟨g, 0, none⟩) k bc (b8 (zs.take k)) := ⟨by rw [b8_len, List.length_take]; omega, by omega, fun j hj => by
              obtain ⟨b', off', e1, e2⟩ := r.at' j (by omega)
              refine ⟨b', off', e1, ?_⟩
              rw [e2]
              simp [b8, hj]⟩
            have hl2 : (zs.take k).length ≤ 8180 := by rw [List.length_take]; omega
            have hf : Rb W5 (some ⟨g, 0, none⟩) k bc (b8 (zs.take k)) ∧ byt (zs.take k) ∧ (zs.take k).length ≤ 8180 ∧ Kp [] w W5 := ⟨hg, byt_takeB hZ k, hl2, K5⟩
            exact hf
          clear O5 K5 hZ hzl hz8 hv HM4 HY HT4 HWi t1 t2 t3 hwr
          cases cut with
          | false =>
            go_wp2_with fail
            go_meet
            case rel => exact ⟨_, _, _, zs, rfl, HF.out⟩
          | true =>
            go_wp2_with fail
            go_meet
            case rel => exact ⟨_, _, _, zs.take k, rfl, HF2.out⟩
      case rest =>
        obtain ⟨bo2, bn2, bc2, zs, rfl, r1, r2, r3, r4⟩ := hcut
        have hbn2 : bn2 ≤ 8180 := by have := r1.len; rw [b8_len] at this; omega
        have HC : Hid (∀ _ : True, Calls Tryd.prog 19 #[.slice xo xn xc, .int .i64 100] wc fun e w' => ∃ m, e = .returned (.slice xo m xc) ∧ Rb wc xo m xc (b8 (xs.take 100)) ∧ m ≤ 100 ∧ w' = wc) := fun _ => cut100 wc xo xn xc xs (HX.out.1.kept r4) hxn
        have HF : Hid (Rb wc bo2 bn2 bc2 (b8 zs) ∧ byt zs ∧ zs.length ≤ 8180 ∧ Kp [] w wc) := ⟨r1, r2, r3, r4⟩
        clear r1 r2 r3 r4 HM4 HY
        go_wp2_with (go_at_call 19; refine (HC.out trivial).mono ?_; rintro e w9 ⟨m, rfl, rx, hm, hw⟩; have hw2 := hw.symm; clear hw; subst hw2)
        have HW0 : Hid (∀ k, k < 2 → ∃ (yo : Option Addr) (yn yc : Nat) (vs : List Int), byt vs ∧ vs.length ≤ 8180 ∧ ∀ V, Kp [] (wc.alloc (.cells #[.slice bo2 bn2 bc2, .slice xo m xc] 27)) V → V.cell? ⟨wc.heap.size, k, none⟩ = some (.slice yo yn yc) ∧ Rb V yo yn yc (b8 vs)) := fun k hk => by
          have ka : Kp [] wc (wc.alloc (.cells #[.slice bo2 bn2 bc2, .slice xo m xc] 27)) := (Kp.refl _ _).alloc _
          have hb : ∀ V, Kp [] (wc.alloc (.cells #[.slice bo2 bn2 bc2, .slice xo m xc] 27)) V → V.heap[wc.heap.size]? = some (.cells #[.slice bo2 bn2 bc2, .slice xo m xc] 27 (0, 0)) := fun V kV => (kV.block _ (by simp) (by simp)).trans (heap_new wc _)
          obtain rfl | rfl : k = 0 ∨ k = 1 := by omega
          · exact ⟨bo2, bn2, bc2, zs, HF.out.2.1, HF.out.2.2.1, fun V kV => ⟨cell_of (hb V kV) 0, (HF.out.1.kept ka).kept kV⟩⟩
          · exact ⟨xo, m, xc, xs.take 100, byt_takeB HX.out.2 100, by rw [List.length_take]; omega, fun V kV => ⟨cell_of (hb V kV) 1, (rx.kept ka).kept kV⟩⟩
        have HKZ : Hid (∀ V, Kp [] (wc.alloc (.cells #[.slice bo2 bn2 bc2, .slice xo m xc] 27)) V → Kp [] w V) := fun V kV => (HF.out.2.2.2.alloc _).trans kV (fun z hz => Or.inl hz)
        generalize wc.alloc (.cells #[.slice bo2 bn2 bc2, .slice xo m xc] 27) = W0 at HW0 HKZ ⊢
        generalize wc.heap.size = g0 at HW0 ⊢
        clear HF HC HX rx hm hbn2
        go_loopw [122] (fun i wr => ∃ k : Nat, k ≤ 2 ∧ i = .int .i64 k ∧ Kp [] W0 wr) (fun i _ => 2 - (intOf i).toNat)
        case atStart => exact ⟨0, by omega, rfl, Kp.refl _ _⟩
        case round =>
          obtain ⟨k, hk, rfl, kw⟩ := hrel
          by_cases hlt : k < 2
          · obtain ⟨yo, yn, yc, vs, hvb, hvl, hV⟩ := HW0.out k hlt
            obtain ⟨y1, y2⟩ := hV wr kw
            have hyn : yn = vs.length := by rw [y2.len, b8_len]
            have CR := roomy_any wr yo yn yc vs y2 (by omega)
            have HV : Hid (∀ V, Kp [] wr V → Rb V yo yn yc (b8 vs)) := fun V kV => y2.kept kV
            have HVs : Hid (byt vs ∧ vs.length ≤ 8180 ∧ yn = vs.length) := ⟨hvb, hvl, hyn⟩
            have hyb : yn ≤ 8180 := by omega
            clear hvb hvl hV hyn HW0 y2
            go_wp2_with fail
            refine CR.mono ?_
            rintro e w1 ⟨ad, rfl, own1, k1, _⟩
            have HFu : Hid (∀ V, Kp [] w1 V → Rb V (some ad) (yn + 80) (yn + 80) (b8 (roomy vs)) ∧ Rb V yo yn yc (b8 vs)) := fun V kV => ⟨(Rb.of_own own1).kept kV, HV.out V (k1.trans kV (fun z hz => Or.inl hz))⟩
            have HK1 : Hid (∀ V, Kp [] w1 V → Kp [] W0 V) := fun V kV => (kw.trans k1 (fun z hz => Or.inl hz)).trans kV (fun z hz => Or.inl hz)
            have HD : Hid (∀ _ : True, Calls Tryd.prog 17 #[.slice (some ad) yn (yn + 80)] w1 fun e w' => ∃ (a2 : Option Addr) (n2 c2 : Nat) (g : Int), e = .returned (.tuple #[.slice a2 n2 c2, .int .i64 g]) ∧ Kp [] w1 w' ∧ ((g = 0 ∧ ∃ M2, Mq w1 w' a2 n2 c2 M2 ∧ vs = obs (os M2) ∧ ∀ q, q ∈ M2 → okO q.1 = true) ∨ (g = 12 ∧ n2 = 0))) := fun _ => (decode_any w1 (some ad) yn (yn + 80) vs (full_take HVs.out.2.2 (Rb.of_own own1)) HVs.out.1 (by omega)).mono (fun e w' hd => by
              rcases hd with ⟨M2, a2, n2, c2, rfl, hM, hx, hok⟩ | ⟨rfl, kd, _⟩
              · exact ⟨a2, n2, c2, 0, rfl, hM.kp, Or.inl ⟨rfl, M2, hM, hx, hok⟩⟩
              · exact ⟨none, 0, 0, 12, rfl, kd, Or.inr ⟨rfl, rfl⟩⟩)
            clear CR own1 k1 HV y1 kw
            go_upto_region 27 with (go_at_call 17; refine (HD.out trivial).mono ?_; rintro e w2 ⟨a2, n2, c2, g, rfl, kd, hd⟩)
            clear HD
            have HI : Hid (∀ _ : True, Calls Tryd.prog 21 #[.slice (some ad) (yn + 80) (yn + 80), .slice yo yn yc, .int .u8 165] w2 fun e w' => e = .returned (.bool true) ∧ Kp [] w2 w') := fun _ => intact_any w2 (some ad) yo (yn + 80) (yn + 80) yn yc vs (HFu.out w2 kd).1 (HFu.out w2 kd).2 (by omega)
            rcases hd with ⟨rfl, M2, hM, hx, hok⟩ | ⟨rfl, rfl⟩
            · have HMq : Hid (Mq w1 w2 a2 n2 c2 M2 ∧ vs = obs (os M2) ∧ ∀ q, q ∈ M2 → okO q.1 = true) := ⟨hM, hx, hok⟩
              have hn2 : n2 ≤ 50000 := by
                have h1 := hM.len
                have h2 := obs_len_ge (os M2)
                rw [os_len, ← hx] at h2
                have h3 := HVs.out.2.1
                omega
              clear hM hx hok
              go_upto_region 30 with (go_at_call 21; refine (HI.out trivial).mono ?_; rintro e w3 ⟨rfl, k3⟩)
              have hM3 := HMq.out.1.kept k3
              have hlM : (obs (os M2)).length ≤ 8180 := by rw [← HMq.out.2.1]; exact HVs.out.2.1
              have HE : Hid (∀ _ : True, Calls Tryd.prog 7 #[.slice a2 n2 c2] w3 fun e w' => ∃ a' n' c', e = .returned (.tuple #[.slice a' n' c', .int .i64 0]) ∧ Mb w3 w' (.slice a' n' c') (obs (os M2))) := fun _ => encode_ok w3 a2 n2 c2 M2 (given_of hM3 HMq.out.2.2 (by omega)) HMq.out.2.2 (by omega)
              have HK3 : Hid (Kp [] w1 w3) := kd.trans k3 (fun z hz => Or.inl hz)
              clear hM3 hlM k3 kd HI
              go_upto_region 31 with (go_at_call 7; refine (HE.out trivial).mono ?_; rintro e w4 ⟨a4, n4, c4, rfl, m4⟩)
              have kz : Kp [] w1 w4 := HK3.out.trans m4.2.1 (fun z hz => Or.inl hz)
              have v1 := conv_rb m4.1.rb
              rw [← HMq.out.2.1] at v1
              have v2 := conv_rb (HFu.out w4 kz).2
              have kw := HK1.out _ kz
              clear m4 HE HMq HFu HK1 HK3 kz
              go_wp2_with (first | rw [v1] | rw [v2])
              go_roundw
              case rel => exact ⟨k + 1, by omega, by go_num, kw⟩
              case measure => simp [intOf]; omega
            · go_wp2_with (go_at_call 21; refine (HI.out trivial).mono ?_; rintro e w3 ⟨rfl, k3⟩)
              have kw := HK1.out _ (kd.trans k3 (fun z hz => Or.inl hz))
              go_roundw
              case rel => exact ⟨k + 1, by omega, by go_num, kw⟩
              case measure => simp [intOf]; omega
          · obtain rfl : k = 2 := by omega
            have HKN := known_any wr (HTb.out _ (HKZ.out _ kw))
            have kz := HKZ.out _ kw
            clear HW0 HKZ HTb
            go_wp2_with fail
            refine HKN.mono ?_
            rintro e w7 ⟨rfl, k7⟩
            have kf := kz.trans k7 (fun z hz => Or.inl hz)
            go_wp2
            go_ret
            exact ⟨rfl, kf⟩

end Go.Proofs.YtpjkpobdkmcedaaDoor
