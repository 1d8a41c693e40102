/-
  Show of the program.
-/
import Derived.Test.YtgnbafgglkncmaaBlanks
import Derived.Test.YtgnbafgglkncmaaWrites
import Derived.Test.YtgnbafgglkncmaaSames
namespace Go.Proofs.Ytgnbafgglkncmaa
open Go.RowKit
set_option linter.unusedVariables false

theorem blk2_size (n : Nat) : (blk2 n).size = 2 * n := by
  show (List.replicate (2 * n) (32 : UInt8)).toArray.size = 2 * n
  simp

theorem blk2_twice (n : Nat) : blk2 n ++ blk2 n = blk2 (2 * n) := by
  unfold blk2
  apply ByteArray.ext
  rw [ByteArray.data_append]
  simp only [List.append_toArray, List.replicate_append_replicate]
  rw [show 2 * n + 2 * n = 2 * (2 * n) by omega]

theorem blk2_cut {m n : Nat} (h : m ≤ n) : (blk2 n).extract 0 (2 * m) = blk2 m := by
  unfold blk2
  apply ByteArray.ext
  rw [ByteArray.data_extract]
  simp
  omega

theorem showV_ge (g : Lb → ByteArray) (S : List Vt) : ∀ t, t.size ≤ (showV g t S).size := by
  induction S with
  | nil => exact fun t => Nat.le_refl _
  | cons v S ih =>
    intro t
    show t.size ≤ (showV g (if v.1 = 0 then t else t ++ blk2 (v.1 - 1) ++ g v.2.1 ++ ⟨#[10]⟩) S).size
    refine Nat.le_trans ?_ (ih _)
    split
    · exact Nat.le_refl _
    · simp only [ByteArray.size_append]; omega

def strLen : Value → Nat
  | .string s => s.size
  | _ => 0

/-- The loop of Show: the builder in block b holds what was told; pad is so many blanks. -/
def RShow (W : World) (s : Ws) (l : Lb) (k : Fo) (p : Pl) (b : Nat) (T : ByteArray) (a : Value × Value × Value × Value × World) (n : Nat) : Prop :=
  ∃ (S : List Vt) (v bv : Value) (t : ByteArray) (ao : Option Addr) (d : Int) (y : Bool) (m : Nat), a.1 = .string (blk2 m) ∧ a.2.1 = .pointer ao ∧ a.2.2.1 = .int .i64 d ∧ a.2.2.2.1 = .bool y ∧ showV lineF t S = T ∧ S.length = n ∧ Wl W a.2.2.2.2 (s.at v) S.tail l k p ∧ Come W a.2.2.2.2 (s.at v) S ao d y ∧ Bu a.2.2.2.2 b bv t ∧ (∀ x, x ∈ b :: blk bv → W.heap.size ≤ x ∧ x ∉ (s.at v).own) ∧ (∀ v, v ∈ S → okL v.2.1) ∧ 1 ≤ m ∧ m ≤ 1000000

set_option maxRecDepth 100000 in
set_option maxHeartbeats 2000000 in
theorem show_any (w : World) (l : Lb) (k : Fo) (p : Pl) (h : Nd Any w l k p) (ho : okT l k) (hp : padT l k ≤ 1000000) (hs : (showT l k).size ≤ 1000000) :
    Calls Try.prog 16 #[wv l p] w fun e w' => e = .returned (.string (showT l k)) ∧ Kp [] w w' := by
  obtain ⟨W0, hW⟩ : ∃ W, W = w.alloc (.cells (six l p).toArray 25) := ⟨_, rfl⟩
  have k1 : Kp [] w W0 := by rw [hW]; exact (Kp.refl _ _).alloc _
  have HBL := blanks_any W0 l k p (h.kept k1) ho.2 hp
  have HBOX : Hid (∀ V, Kp [] W0 V → Cl V w.heap.size 0 l p) := fun V kV => Cl.keep ⟨_, _, by rw [hW]; exact heap_new w _, fun i hi => by simp⟩ kV (by simp)
  have HB : Hid (∀ W V, Kp [] W0 W → Kp [] W V → Calls Try.prog 32 #[wv l p] V fun e w' => ∃ s, e = .returned (.pointer (some ⟨s.P, 0, none⟩)) ∧ Wl W w' s ((Fo.cons l k .nil).vis 0) l k p ∧ Kp [] V w' ∧ ∀ x, x ∈ s.own → V.heap.size ≤ x) := fun W V kW kV => begin_c W V l k p kV ((h.kept k1).kept kW) ho.2
  have HO : Hid (∀ v, v ∈ (Fo.cons l k .nil).vis 0 → okL v.2.1) := vis_each _ 0 ho.1
  have hshow : Hid (showV lineF ⟨#[]⟩ ((Fo.cons l k .nil).vis 0) = showT l k) := by
    show showV lineF ⟨#[]⟩ ((Fo.cons l k .nil).vis 0) = showT l k
    rw [vis_cons, vis_nil, List.append_nil]
    have := show_vis lineF k 0 ⟨#[]⟩
    rw [Fo.none_cat] at this
    exact this
  generalize showT l k = T at hs hshow ⊢
  generalize padT l k = PT at hp HBL
  have HW : Hid (w.alloc (.cells #[.int .i64 l.kind, .int .i64 l.ns, .string l.name, .slice p.1.1 p.1.2.1 p.1.2.2, .string l.text, .slice p.2.1 p.2.2.1 p.2.2.2] 25) = W0) := hW.symm
  have KB : Hid (Kp [] w W0) := k1
  have HBL' : Hid (∀ V, V = W0 → Calls Try.prog 40 #[wv l p] V fun e w' => e = .returned (.tuple #[.int .i64 (PT : Nat), .bool true]) ∧ Kp [] W0 w') := fun V hV => by rw [hV]; exact HBL
  clear h ho k1 hW HBL
  simp only [wv] at HBL' HB ⊢
  go_enter Try.func16, Try.ntmps16
  go_wp2_with (first
    | (go_at_call 40; refine (HBL'.out _ HW.out).mono ?_; rintro e W ⟨rfl, kW⟩; have KW : Hid (Kp [] W0 W) := kW; have B0 : Hid (Bu (W.alloc (.cells #[.pointer none, .slice none 0 0] 69)) W.heap.size (.slice none 0 0) ⟨#[]⟩) := bu_new W; clear kW)
    | (go_at_call 41; refine (bu_grow _ _ PT B0.out hp).mono ?_; rintro e w2 ⟨rfl, bv, b2, kb2, sb2⟩; have K2 : Hid (Kp [] W w2) := ((Kp.refl [] W).alloc _).trans kb2 (fun x hx => Or.inr (by simp [blk] at hx; omega)); have B2 : Hid (Bu w2 W.heap.size bv ⟨#[]⟩ ∧ (∀ x, x ∈ blk bv → W.heap.size ≤ x)) := ⟨b2, fun x hx => (sb2 x hx).elim (fun h => by simp [blk] at h) (fun h => by simp at h; omega)⟩; obtain ⟨x0, x1, x2, x3, x4, x5⟩ := (HBOX.out _ (KW.out.trans K2.out (fun x hx => Or.inl hx))).cells; clear b2 kb2 sb2)
    | (go_at_call 32; refine (HB.out W w2 KW.out K2.out).mono ?_; rintro e w3 ⟨s, rfl, L3, K3, O3⟩)
    | (go_at_call 33; refine (next_c _ _ _ _ _ _ _ L3).mono ?_; rintro e w4 ⟨ao, d, y, v1, rfl, L4, N4, C4⟩))
  have hb3 : Bu w3 W.heap.size bv ⟨#[]⟩ := B2.out.1.keep K3 (by simp) (fun _ _ => by simp)
  have hd3 : ∀ x, x ∈ W.heap.size :: blk bv → W.heap.size ≤ x ∧ x ∉ s.own := fun x hx => by
    have hlt : x < w2.heap.size := by
      rcases List.mem_cons.1 hx with rfl | h
      · obtain ⟨⟨q, _, h2⟩, _⟩ := B2.out.1
        exact (Array.getElem?_eq_some_iff.1 h2).1
      · exact B2.out.1.2.1.lt x h
    refine ⟨?_, fun h => by have := O3 x h; omega⟩
    rcases List.mem_cons.1 hx with rfl | h
    · exact Nat.le_refl _
    · exact B2.out.2 x h
  have B4 : Hid _ := N4.apart hb3 hd3
  clear hb3 hd3 O3 K3
  obtain ⟨μ, hμ⟩ := least_of (RShow W s l k p W.heap.size T)
  go_loopw [6, 8, 9, 10] (fun x6 x8 x9 x10 wr => ∃ n, RShow W s l k p W.heap.size T (x6, x8, x9, x10, wr) n) (fun x6 x8 x9 x10 wr => μ (x6, x8, x9, x10, wr))
  case atStart => exact ⟨_, _, v1, _, _, ao, d, y, 1, rfl, rfl, rfl, rfl, hshow.out, rfl, L4, C4, B4.out.1, B4.out.2, HO.out, Nat.le_refl _, by omega⟩
  case round =>
    clear L4 N4 C4 L3 hshow B4 B2 B0 HB HBL' HO x0 x1 x2 x3 x4 x5
    obtain ⟨n0, hrel⟩ := hrel
    obtain ⟨S, v, bv, t, ao, d, y, m, h6, h8, h9, h10, hN, hS, L, C, hb, hd, hO, hm1, hm2⟩ := (hμ _ _ hrel).1
    simp only at h6 h8 h9 h10
    subst h6 h8 h9 h10
    have KF : Hid (Kp [] w wr) := (KB.out.trans KW.out (fun x hx => Or.inl hx)).trans L.kp (fun x hx => Or.inl hx)
    have HM : Hid (∀ a n, RShow W s l k p W.heap.size T a n → μ a ≤ n) := fun a n hn => (hμ a n hn).2
    have HS : Hid (S.length = μ (.string (blk2 m), .pointer ao, .int .i64 d, .bool y, wr)) := hS
    clear hrel hμ hS
    cases S with
    | nil =>
      obtain ⟨rfl, rfl, rfl⟩ := C
      obtain rfl : t = T := hN
      have HST := bu_string W wr W.heap.size bv t hb L.kp (Nat.le_refl _) (fun x hx => (hd x (by simp [hx])).1)
      have KX : Hid (Kp [] w W) := KB.out.trans KW.out (fun x hx => Or.inl hx)
      clear L HM HS hb hd hO
      go_wp2_with (go_at_call 45; refine HST.mono ?_; rintro e w4 ⟨rfl, k4⟩)
      go_ret
      exact ⟨rfl, KX.out.trans k4 (fun x hx => Or.inl hx)⟩
    | cons u S =>
      obtain ⟨nb, off, rfl, rfl, rfl, p', hc0, nd, hnb⟩ := C
      have hc : Cl wr nb off u.2.1 p' := hc0
      clear hc0
      simp only [List.tail_cons] at L
      have HO2 : Hid (∀ v, v ∈ S → okL v.2.1) := fun v hv => hO v (by simp [hv])
      have hu := hO u (by simp)
      obtain ⟨e, he⟩ : ∃ e, u.1 = e := ⟨_, rfl⟩
      rw [he] at HS ⊢
      cases e with
      | zero =>
        have HX : Hid (showV lineF t S = T) := by
          have : showV lineF (if u.1 = 0 then t else t ++ blk2 (u.1 - 1) ++ lineF u.2.1 ++ ⟨#[10]⟩) S = T := hN
          rw [if_pos he] at this
          exact this
        have HN := next_c _ _ _ _ _ _ _ L
        have HD : Hid (Bu wr W.heap.size bv t ∧ ∀ x, x ∈ W.heap.size :: blk bv → W.heap.size ≤ x ∧ x ∉ (s.at v).own) := ⟨hb, hd⟩
        clear L hb hd hN hc nd hnb hu hO he
        rw [show ((0 : Nat) : Int) = 0 from rfl] at HS ⊢
        go_wp2_with (go_at_call 33; refine HN.mono ?_; rintro e w9 ⟨ao9, d9, y9, v9, rfl, L9, N9, C9⟩)
        have B9 : Hid _ := N9.apart HD.out.1 HD.out.2
        have RR : RShow W s l k p W.heap.size T (.string (blk2 m), .pointer ao9, .int .i64 d9, .bool y9, w9) S.length := ⟨S, v9, _, _, ao9, d9, y9, m, rfl, rfl, rfl, rfl, HX.out, rfl, L9, C9, B9.out.1, B9.out.2, HO2.out, hm1, hm2⟩
        go_roundw
        case rel => exact ⟨_, RR⟩
        case measure =>
          refine Nat.lt_of_le_of_lt (HM.out _ _ RR) ?_
          rw [← HS.out]; simp
      | succ e =>
        have hN2 : showV lineF (t ++ blk2 e ++ lineF u.2.1 ++ ⟨#[10]⟩) S = T := by
          have : showV lineF (if u.1 = 0 then t else t ++ blk2 (u.1 - 1) ++ lineF u.2.1 ++ ⟨#[10]⟩) S = T := hN
          rw [if_neg (by omega), he, Nat.add_sub_cancel] at this
          exact this
        have hge := showV_ge lineF S (t ++ blk2 e ++ lineF u.2.1 ++ ⟨#[10]⟩)
        rw [hN2] at hge
        simp only [ByteArray.size_append, blk2_size] at hge
        rw [show (⟨#[10]⟩ : ByteArray).size = 1 from rfl] at hge
        have HX : Hid (showV lineF (t ++ blk2 e ++ lineF u.2.1 ++ ⟨#[10]⟩) S = T) := hN2
        have z0 : t.size + 2 * e + (lineF u.2.1).size + 1 ≤ 1000000 := by omega
        clear hN hN2 hge
        rw [show ((e + 1 : Nat) : Int) = (e : Int) + 1 from rfl] at HS ⊢
        have q1 : (((e : Int) + 1) == 0) = false := by simp; omega
        have j1 : (e : Int) ≤ 500000 := by omega
        -- three writes
        have HW1 : Hid (Calls Try.prog 42 #[.pointer (some ⟨W.heap.size, 0, none⟩), .string (blk2 e)] wr fun e' w' => e' = .returned (.tuple #[.int .i64 (blk2 e).size, .nilIface]) ∧ Bt wr w' W.heap.size bv (t ++ blk2 e)) := bu_write wr W.heap.size bv t (blk2 e) hb (by rw [blk2_size]; omega)
        have hnb' : nb ∉ W.heap.size :: blk bv := fun hx => by
          rcases hnb with h1 | h1
          · have := (hd nb hx).1; omega
          · exact (hd nb hx).2 (by rw [h1]; simp [Ws.own, Ws.at])
        have HW2 : Hid (∀ w5, Bt wr w5 W.heap.size bv (t ++ blk2 e) → Calls Try.prog 43 #[.pointer (some ⟨W.heap.size, 0, none⟩), .pointer (some ⟨nb, off, none⟩)] w5 fun e' w' => e' = .returned (.tuple #[]) ∧ Bt wr w' W.heap.size bv (t ++ blk2 e ++ lineF u.2.1)) := fun w5 B5 => by
          have hcl := B5.cl hc hnb'
          obtain ⟨bv5, b5, k5, s5⟩ := B5
          have hz := L.kp.size
          refine (wnode W w5 W.heap.size bv5 _ b5 (L.kp.trans k5 (fun x hx => Or.inr (hd x hx).1)) (fun x hx => ?_) nb off u.2.1 p' hcl (fun hx => ?_) nd.at'.rp hu.1 (by simp only [ByteArray.size_append, blk2_size]; omega)).mono ?_
          · rcases List.mem_cons.1 hx with rfl | h
            · exact Nat.le_refl _
            · rcases s5 x h with h | h
              · exact (hd x (by simp [h])).1
              · omega
          · rcases List.mem_cons.1 hx with h | h
            · exact hnb' (by simp [h])
            · rcases s5 nb h with h | h
              · exact hnb' (by simp [h])
              · have := hc.lt; omega
          · rintro e' w' ⟨rfl, B⟩
            exact ⟨rfl, Bt.trans (s1 := t ++ blk2 e) k5 s5 B⟩
        have HW3 : Hid (∀ w6, Bt wr w6 W.heap.size bv (t ++ blk2 e ++ lineF u.2.1) → Calls Try.prog 44 #[.pointer (some ⟨W.heap.size, 0, none⟩), .int .u8 10] w6 fun e' w' => e' = .returned .nilIface ∧ Bt wr w' W.heap.size bv (t ++ blk2 e ++ lineF u.2.1 ++ ⟨#[10]⟩)) := fun w6 ⟨bv6, b6, k6, s6⟩ => by
          refine (bu_byte w6 W.heap.size bv6 _ b6 (by simp only [ByteArray.size_append, blk2_size]; omega)).mono ?_
          rintro e' w' ⟨rfl, B⟩
          exact ⟨rfl, Bt.trans (s1 := t ++ blk2 e ++ lineF u.2.1) k6 s6 B⟩
        have HAP : Hid (∀ w7, Bt wr w7 W.heap.size bv (t ++ blk2 e ++ lineF u.2.1 ++ ⟨#[10]⟩) → Wl W w7 (s.at v) S l k p ∧ ∃ bv', Bu w7 W.heap.size bv' (t ++ blk2 e ++ lineF u.2.1 ++ ⟨#[10]⟩) ∧ (∀ x, x ∈ W.heap.size :: blk bv' → W.heap.size ≤ x ∧ x ∉ (s.at v).own) ∧ Kp (W.heap.size :: blk bv) wr w7) := fun w7 B7 => B7.apart L hd
        clear hb hc nd hnb hnb' hu hO he L hd
        go_wp2
        go_loopw [6] (fun x w' => ∃ m' : Nat, x = .string (blk2 m') ∧ 1 ≤ m' ∧ m' ≤ 1000000 ∧ w' = wr) (fun x w' => 2 * e - strLen x)
        case atStart => exact ⟨m, rfl, hm1, hm2, rfl⟩
        case round =>
          obtain ⟨m', rfl, hm1', hm2', rfl⟩ := hrel
          by_cases hlt : m' < e
          · have q2 : decide (((blk2 m').size : Int) < 2 * (e : Int)) = true := decide_eq_true (by rw [blk2_size]; omega)
            have q3 : ¬ 9223372036854775807 < (blk2 m').size + (blk2 m').size := by rw [blk2_size]; omega
            go_wp2
            go_roundw
            case rel => exact ⟨2 * m', by rw [blk2_twice], by omega, by omega, trivial⟩
            case measure => simp [strLen, blk2_size]; omega
          · have q2 : decide (((blk2 m').size : Int) < 2 * (e : Int)) = false := decide_eq_false (by rw [blk2_size]; omega)
            have q3 : (0 : Int) ≤ 2 * (e : Int) := by omega
            have q4 : 2 * (e : Int) ≤ ((blk2 m').size : Int) := by rw [blk2_size]; omega
            have HW1' : Calls Try.prog 42 #[.pointer (some ⟨W.heap.size, 0, none⟩), .string ((blk2 m').extract 0 (2 * e))] wr fun e' w' => e' = .returned (.tuple #[.int .i64 (blk2 e).size, .nilIface]) ∧ Bt wr w' W.heap.size bv (t ++ blk2 e) := by
              rw [blk2_cut (by omega)]; exact HW1.out
            go_wp2_with (first
              | (go_at_call 42; refine HW1'.mono ?_; rintro e' w5 ⟨rfl, B5⟩)
              | (go_at_call 43; refine (HW2.out _ B5).mono ?_; rintro e' w6 ⟨rfl, B6⟩)
              | (go_at_call 44; refine (HW3.out _ B6).mono ?_; rintro e' w7 ⟨rfl, B7⟩; obtain ⟨L7, bv7, b7, d7, _⟩ := HAP.out _ B7)
              | (go_at_call 33; refine (next_c _ _ _ _ _ _ _ L7).mono ?_; rintro e' w9 ⟨ao9, d9, y9, v9, rfl, L9, N9, C9⟩))
            have B9 : Hid _ := N9.apart b7 d7
            have RR : RShow W s l k p W.heap.size T (.string (blk2 m'), .pointer ao9, .int .i64 d9, .bool y9, w9) S.length := ⟨S, v9, _, _, ao9, d9, y9, m', rfl, rfl, rfl, rfl, HX.out, rfl, L9, C9, B9.out.1, B9.out.2, HO2.out, hm1', hm2'⟩
            go_roundw
            case rel => exact ⟨_, RR⟩
            case measure =>
              refine Nat.lt_of_le_of_lt (HM.out _ _ RR) ?_
              rw [← HS.out]; simp

end Go.Proofs.Ytgnbafgglkncmaa
