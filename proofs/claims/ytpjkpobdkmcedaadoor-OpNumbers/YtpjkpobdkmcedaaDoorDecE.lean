/-
  The program's Decode: the walk.
-/
import Derived.Test.YtpjkpobdkmcedaaDoorDecD
namespace Go.Proofs.YtpjkpobdkmcedaaDoor
open Go.RowKit Utf
set_option linter.unusedVariables false
set_option linter.unusedSimpArgs false

/-- What Decode tells: operations whose bytes these are, or a refusal where there are none. -/
def Dcd (w w' : World) (xs : List Int) (e : Ending) : Prop :=
  (∃ (L : List Q) (ao : Option Addr) (n c : Nat), e = .returned (.tuple #[.slice ao n c, .int .i64 0]) ∧ Mq w w' ao n c L ∧ xs = obs (os L) ∧ ∀ q, q ∈ L → okO q.1 = true) ∨
  (e = .returned (.tuple #[.slice none 0 0, .int .i64 12]) ∧ Kp [] w w' ∧ ∀ m : List Ot, (∀ o, o ∈ m → okO o = true) → xs ≠ obs m)

theorem mem_os {L : List Q} {o : Ot} (h : o ∈ os L) : ∃ q, q ∈ L ∧ q.1 = o := by
  induction L with
  | nil => simp [os] at h
  | cons a l ih =>
    simp only [os, List.mem_cons] at h
    rcases h with rfl | h
    · exact ⟨a, by simp, rfl⟩
    · obtain ⟨q, h1, h2⟩ := ih h
      exact ⟨q, by simp [h1], h2⟩

theorem obs_len_ge : ∀ l : List Ot, l.length ≤ (obs l).length
  | [] => Nat.le_refl _
  | o :: l => by
    have := obs_len_ge l
    have h2 := ob_len o
    simp only [obs, List.length_append, List.length_cons]
    omega

set_option maxRecDepth 100000 in
set_option maxHeartbeats 2000000 in
theorem decode_any (w : World) (ao : Option Addr) (n c : Nat) (xs : List Int) (hr : Rb w ao n c (b8 xs)) (hb : byt xs) (hl : n ≤ 50000) :
    Calls Tryd.prog 17 #[.slice ao n c] w fun e w' => Dcd w w' xs e := by
  have hn : n = xs.length := by rw [hr.len, b8_len]
  subst hn
  by_cases hx : xs = []
  · subst hx
    have HZ : Hid (Mq w (w.alloc (.cells #[.slice ao 0 c, .bool false] 72)) none 0 0 []) := (Mq.nil w).kept ((Kp.refl _ _).alloc _)
    clear hr hb hl
    simp only [List.length_nil]
    go_enter Tryd.func17, Tryd.ntmps17
    go_wp2
    go_loopw [4] (fun lv wr => lv = .slice none 0 0 ∧ wr = w.alloc (.cells #[.slice ao 0 c, .bool false] 72)) (fun _ _ => 0)
    case atStart => exact ⟨rfl, rfl⟩
    case round =>
      obtain ⟨rfl, rfl⟩ := hrel
      go_wp2
      go_ret2
      exact Or.inl ⟨[], none, 0, 0, rfl, HZ.out, rfl, fun q hq => by simp at hq⟩
  · have hpos : 0 < xs.length := by
      cases xs with
      | nil => exact absurd rfl hx
      | cons a l => simp
    have ho : Off ao w.heap.size w.heap.size := fun a ha => by
      obtain ⟨b1, o1, h1, h2⟩ := hr.b8_at 0 hpos
      rw [h1] at ha
      obtain rfl := Option.some.inj ha
      have := block_lt_of_cell h2
      simp only at this ⊢
      omega
    have R0 : Rr (w.alloc (.cells #[.slice ao xs.length c, .bool false] 72)) w.heap.size w.heap.size (xs, false) := ⟨ao, xs.length, c, heap_new w _, hr.kept ((Kp.refl _ _).alloc _), ho⟩
    have D0 : Dl (w.alloc (.cells #[.slice ao xs.length c, .bool false] 72)) (w.alloc (.cells #[.slice ao xs.length c, .bool false] 72)) w.heap.size none 0 0 [] := ⟨⟨rfl, Or.inl ⟨rfl, rfl⟩⟩, fun k hk => by simp [blk] at hk, fun p hp => by simp at hp, Kp.refl _ _⟩
    have HMQ : Hid (∀ wr a n' c' L, Dl (w.alloc (.cells #[.slice ao xs.length c, .bool false] 72)) wr w.heap.size a n' c' L → Mq w wr a n' c' L) := fun wr a n' c' L h => h.mq
    have HSZ : Hid ((w.alloc (.cells #[.slice ao xs.length c, .bool false] 72)).heap.size = w.heap.size + 1) := (by simp : (w.alloc (.cells #[.slice ao xs.length c, .bool false] 72)).heap.size = w.heap.size + 1)
    have HX : Hid (byt xs ∧ xs.length ≤ 50000) := ⟨hb, hl⟩
    clear hr ho hx hb
    go_enter Tryd.func17, Tryd.ntmps17
    go_wp2
    generalize w.alloc (.cells #[.slice ao xs.length c, .bool false] 72) = W0 at R0 D0 HMQ HSZ ⊢
    have HB : Hid (w.heap.size < W0.heap.size ∧ w.heap.size ≤ W0.heap.size) := (by have := HSZ.out; omega : w.heap.size < W0.heap.size ∧ w.heap.size ≤ W0.heap.size)
    go_loopw [4] (fun lv wr => ∃ (L : List Q) (st : St) (a' : Option Addr) (n' c' : Nat), lv = .slice a' n' c' ∧ Dl W0 wr w.heap.size a' n' c' L ∧ Rr wr w.heap.size w.heap.size st ∧ st.2 = false ∧ byt st.1 ∧ xs = obs (os L) ++ st.1 ∧ ∀ q, q ∈ L → okO q.1 = true) (fun lv _ => xs.length - slen lv)
    case atStart => exact ⟨[], (xs, false), none, 0, 0, rfl, D0, R0, rfl, HX.out.1, rfl, fun q hq => by simp at hq⟩
    case round =>
      obtain ⟨L, st, a', n', c', rfl, D, R, hcf, hbt, hxs, hok⟩ := hrel
      clear R0 D0
      have hlen := congrArg List.length hxs
      rw [List.length_append] at hlen
      have hge := obs_len_ge (os L)
      rw [os_len] at hge
      have hnl := D.len
      obtain ⟨ra, rn, rc, h1, h2, h3⟩ := R
      have hrn : rn = st.1.length := by rw [h2.len, b8_len]
      have c0 : wr.cell? ⟨w.heap.size, 0, none⟩ = some (.slice ra rn rc) := cell_of h1 0
      have R : Rr wr w.heap.size w.heap.size st := ⟨ra, rn, rc, h1, h2, h3⟩
      by_cases hse : st.1 = []
      · have hr0 : rn = 0 := by rw [hrn, hse]; rfl
        subst hr0
        rw [hse, List.append_nil] at hxs
        have HZ : Hid (Mq w wr a' n' c' L ∧ xs = obs (os L) ∧ ∀ q, q ∈ L → okO q.1 = true) := ⟨HMQ.out _ _ _ _ _ D, hxs, hok⟩
        clear D R h1 h2 h3 hxs hok hlen hge hnl hrn
        go_wp2
        go_ret2
        exact Or.inl ⟨L, _, _, _, rfl, HZ.out.1, HZ.out.2.1, HZ.out.2.2⟩
      · have hrp : 0 < rn := by
          rw [hrn]
          cases hst : st.1 with
          | nil => exact absurd hst hse
          | cons a l => simp
        have hst1 : st.1.length ≤ 50000 := by have := HX.out.2; omega
        have hLx : L.length < xs.length := by omega
        have hokL : ∀ o, o ∈ os L → okO o = true := fun o ho => by
          obtain ⟨q, q1, q2⟩ := mem_os ho
          rw [← q2]
          exact hok q q1
        have HNO : Hid ((s9 st).2 = true ∨ rightO (rdO st) = false → ∀ m : List Ot, (∀ o, o ∈ m → okO o = true) → xs ≠ obs m) := fun hbad m hm => no_more hxs hokL hcf hse hbad m hm
        have HNX : Hid ((s9 st).2 = false → xs = (obs (os L) ++ ob (rdO st)) ++ (s9 st).1 ∧ fitO (rdO st)) := fun hc => by
          obtain ⟨_, z2, z3, _⟩ := rdO_no hc hbt
          exact ⟨by rw [List.append_assoc, ← z2]; exact hxs, z3⟩
        have C := rop_any wr w.heap.size w.heap.size st R (Nat.le_trans HB.out.2 D.kp.size) (by omega) hbt
        have HD : Hid (Dl W0 wr w.heap.size a' n' c' L) := D
        have HO : Hid (∀ q, q ∈ L → okO q.1 = true) := hok
        have HN : Hid (n' = L.length ∧ L.length < xs.length ∧ xs.length ≤ 50000 ∧ st.1.length ≤ 50000) := ⟨hnl, hLx, HX.out.2, hst1⟩
        clear D R h1 h2 h3 hok hokL hxs hlen hge hnl hrn hst1 hLx hbt hse hcf
        generalize rdO st = V at C HNO HNX
        generalize s9 st = st' at C HNO HNX
        go_wp2_with fail
        refine C.mono ?_
        rintro e w1 ⟨p, rfl, A1, pn, R1, hb1, hl1, k1⟩
        have D1 : Dl W0 w1 w.heap.size a' n' c' L := HD.out.call HB.out.1 k1
        have hpn : ∀ k, k ∈ blk (.slice p.1 p.2.1 p.2.2) → W0.heap.size ≤ k := fun k hk => by
          have q1 := pn k hk
          have q2 := HD.out.kp.size
          omega
        obtain ⟨V1, V2, V3, V4, V5, V6, V7, V8, V9⟩ := V
        obtain ⟨p1, p2, p3⟩ := p
        simp only [ov]
        clear C HD k1 c0 pn
        -- the copy
        have ka : Kp [] w1 (w1.alloc (.cells (oc ⟨V1, V2, V3, V4, V5, V6, V7, V8, V9⟩ (p1, p2, p3)) 24)) := (Kp.refl _ _).alloc _
        have A2 := A1.kept ka
        have D2 := D1.call HB.out.1 (ka.mono (fun x hx => by simp at hx))
        have R2 := R1.kept ka (by simp) (fun x hx => by simp at hx)
        have N2 := nine_of (heap_new w1 (.cells (oc ⟨V1, V2, V3, V4, V5, V6, V7, V8, V9⟩ (p1, p2, p3)) 24))
        clear A1 D1 R1 ka
        simp only [oc] at A2 D2 R2 N2
        obtain ⟨ra2, rn2, rc2, h1, h2, h3⟩ := R2
        have c1 : (w1.alloc (.cells #[.int .i64 V1, .int .i64 V2, .int .i64 V3, .int .i64 V4, .int .i64 V5, .int .i64 V6, .string V7, .slice p1 p2 p3, .string V9] 24)).cell? ⟨w.heap.size, 1, none⟩ = some (.bool st'.2) := cell_of h1 1
        have R2 : Rr (w1.alloc (.cells #[.int .i64 V1, .int .i64 V2, .int .i64 V3, .int .i64 V4, .int .i64 V5, .int .i64 V6, .string V7, .slice p1 p2 p3, .string V9] 24)) w.heap.size w.heap.size st' := ⟨ra2, rn2, rc2, h1, h2, h3⟩
        clear h1 h2 h3
        cases hcut : st'.2 with
        | true =>
          rw [hcut] at c1
          have HZ : Hid (Kp [] w (w1.alloc (.cells #[.int .i64 V1, .int .i64 V2, .int .i64 V3, .int .i64 V4, .int .i64 V5, .int .i64 V6, .string V7, .slice p1 p2 p3, .string V9] 24)) ∧ ∀ m : List Ot, (∀ o, o ∈ m → okO o = true) → xs ≠ obs m) := ⟨(HMQ.out _ _ _ _ _ D2).kp, HNO.out (Or.inl hcut)⟩
          clear D2 A2 R2 N2 HNO HNX HMQ
          go_wp2
          go_ret2
          exact Or.inr ⟨rfl, HZ.out⟩
        | false =>
          rw [hcut] at c1
          obtain ⟨hx2, hf2⟩ := HNX.out hcut
          have hp2 : p2 = V8.length := by
            have := A2.rp.len
            exact this
          have CR := right_any _ ⟨V1, V2, V3, V4, V5, V6, V7, V8, V9⟩ (p1, p2, p3) A2.rp (by have := hf2.2.2.1; simp only at this ⊢; omega)
          simp only [ov] at CR
          obtain ⟨f0, f1, f2, f3, f4, f5, f6, f7, f8⟩ := N2
          simp only [Nat.zero_add] at f0 f1 f2 f3 f4 f5 f6 f7 f8
          have HA2 : Hid (Ar (w1.alloc (.cells #[.int .i64 V1, .int .i64 V2, .int .i64 V3, .int .i64 V4, .int .i64 V5, .int .i64 V6, .string V7, .slice p1 p2 p3, .string V9] 24)) (⟨V1, V2, V3, V4, V5, V6, V7, V8, V9⟩, p1, p2, p3)) := A2
          have HD2 : Hid (Dl W0 (w1.alloc (.cells #[.int .i64 V1, .int .i64 V2, .int .i64 V3, .int .i64 V4, .int .i64 V5, .int .i64 V6, .string V7, .slice p1 p2 p3, .string V9] 24)) w.heap.size a' n' c' L) := D2
          have HN2 : Hid (Nine (w1.alloc (.cells #[.int .i64 V1, .int .i64 V2, .int .i64 V3, .int .i64 V4, .int .i64 V5, .int .i64 V6, .string V7, .slice p1 p2 p3, .string V9] 24)) w1.heap.size 0 ⟨V1, V2, V3, V4, V5, V6, V7, V8, V9⟩ (p1, p2, p3)) := ⟨f0, f1, f2, f3, f4, f5, f6, f7, f8⟩
          have HX2 : Hid (xs = (obs (os L) ++ ob ⟨V1, V2, V3, V4, V5, V6, V7, V8, V9⟩) ++ st'.1 ∧ fitO ⟨V1, V2, V3, V4, V5, V6, V7, V8, V9⟩ ∧ st'.2 = false ∧ byt st'.1) := ⟨hx2, hf2, hcut, hb1⟩
          have HR2 : Hid (Rr (w1.alloc (.cells #[.int .i64 V1, .int .i64 V2, .int .i64 V3, .int .i64 V4, .int .i64 V5, .int .i64 V6, .string V7, .slice p1 p2 p3, .string V9] 24)) w.heap.size w.heap.size st') := R2
          clear A2 D2 R2 hx2 hf2 hp2 HNX hcut hb1 hl1
          go_wp2_with fail
          refine CR.mono ?_
          rintro e w3 ⟨rfl, k3⟩
          have A3 := HA2.out.kept k3
          have D3 := HD2.out.call HB.out.1 (k3.mono (fun x hx => by simp at hx))
          have R3 := HR2.out.kept k3 (by simp) (fun x hx => by simp at hx)
          have N3 := HN2.out.kept k3 (by simp)
          clear CR HA2 HD2 HR2 HN2 k3 f0 f1 f2 f3 f4 f5 f6 f7 f8 c1
          cases hri : rightO ⟨V1, V2, V3, V4, V5, V6, V7, V8, V9⟩ with
          | false =>
            have HZ : Hid (Kp [] w w3 ∧ ∀ m : List Ot, (∀ o, o ∈ m → okO o = true) → xs ≠ obs m) := ⟨(HMQ.out _ _ _ _ _ D3).kp, HNO.out (Or.inr hri)⟩
            clear A3 D3 R3 N3 HNO HMQ
            go_wp2
            go_ret2
            exact Or.inr ⟨rfl, HZ.out⟩
          | true =>
            obtain ⟨f0, f1, f2, f3, f4, f5, f6, f7, f8⟩ := N3
            simp only [Nat.zero_add] at f0 f1 f2 f3 f4 f5 f6 f7 f8
            obtain ⟨a6, n6, c6, w6, hrun, D6, hold⟩ := D3.one HB.out.1 (⟨V1, V2, V3, V4, V5, V6, V7, V8, V9⟩, p1, p2, p3) A3 hpn (by have := HN.out; omega)
            have R6 : Rr w6 w.heap.size w.heap.size st' := by
              obtain ⟨ra, rn, rc, h1, h2, h3⟩ := R3
              refine ⟨ra, rn, rc, (hold _ HB.out.1).trans h1, ⟨h2.len, h2.cap, fun j hj => ?_⟩, h3⟩
              obtain ⟨b', off, e1, e2⟩ := h2.at' j hj
              refine ⟨b', off, e1, ?_⟩
              rw [← e2]
              have := (h3 _ e1).2
              simp only at this
              exact World.cell?_of_block (hold b' (by have := HB.out; omega))
            have hokV : okO ⟨V1, V2, V3, V4, V5, V6, V7, V8, V9⟩ = true := by
              unfold okO
              rw [hri, fitB_iff.2 HX2.out.2.1]
              rfl
            have HZ : Hid (Dl W0 w6 w.heap.size a6 n6 c6 (L ++ [(⟨V1, V2, V3, V4, V5, V6, V7, V8, V9⟩, p1, p2, p3)]) ∧ Rr w6 w.heap.size w.heap.size st' ∧ st'.2 = false ∧ byt st'.1 ∧ xs = obs (os (L ++ [(⟨V1, V2, V3, V4, V5, V6, V7, V8, V9⟩, p1, p2, p3)])) ++ st'.1 ∧ ∀ q, q ∈ L ++ [(⟨V1, V2, V3, V4, V5, V6, V7, V8, V9⟩, p1, p2, p3)] → okO q.1 = true) := by
              refine ⟨D6, R6, HX2.out.2.2.1, HX2.out.2.2.2, ?_, fun q hq => ?_⟩
              · rw [os_append, obs_append]
                simp only [os, obs, List.append_nil]
                exact HX2.out.1
              · rcases List.mem_append.1 hq with h4 | h4
                · exact HO.out q h4
                · rw [List.mem_singleton.1 h4]
                  exact hokV
            have hn6 : n6 = L.length + 1 := by have := D6.len; simpa using this
            have HM : Hid (xs.length - n6 < xs.length - n') := (by have := HN.out; omega : xs.length - n6 < xs.length - n')
            clear A3 D3 R3 D6 R6 hokV hold HNO HO HX2 hri hn6
            simp only [oc] at hrun
            go_wp2_with (at_builtin; refine Lib.wpList_append_run _ rfl _ _ _ _ rfl _ _ rfl rfl _ _ (hrun _) ?_)
            go_roundw
            case rel => exact ⟨_, st', _, _, _, rfl, HZ.out⟩
            case measure => exact HM.out

end Go.Proofs.YtpjkpobdkmcedaaDoor
