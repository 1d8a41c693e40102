/-
  Depth and Text of the document.
-/
import Derived.Test.YtgnbafgglkncmaaRefA
namespace Go.Proofs.Ytgnbafgglkncmaa
open Go.RowKit
set_option linter.unusedVariables false

theorem take_fold_le (g : Lb → ByteArray) (k : Fo) (i : Nat) : ((k.take i).fold g).size ≤ (k.fold g).size := by
  have := congrArg (Fo.fold g) (Fo.take_drop i k)
  rw [Fo.fold_app] at this
  rw [← this, ByteArray.size_append]
  omega

def CDepth (l : Lb) (k : Fo) : Prop := ∀ (w : World) (p : Pl), Nd Any w l k p → k.cnt ≤ 20000 → Calls Try.prog 25 #[wv l p] w fun e w' => e = .returned (.int .i64 (depthT l k : Nat)) ∧ Kp [] w w'

set_option maxHeartbeats 1000000 in
theorem ref_depth_any (l : Lb) (k : Fo) : CDepth l k := by
  refine Fo.up (C := CDepth) (fun l k hall => ?_) l k
  intro w p h hn
  have k0 : Kp [] w (w.alloc (.cells (six l p).toArray 25)) := (Kp.refl _ _).alloc _
  have g0 := heap_new w (.cells (six l p).toArray 25)
  have hkl := h.klen
  obtain ⟨⟨pa, pn, pcap⟩, bo, m, d⟩ := p
  simp only at hkl
  have HK : Hid (∀ W (i : Nat), Kp [] w W → i < m → ∃ l' k' p' b off, bo = some ⟨b, off, none⟩ ∧ Cl W b (off + i * 6) l' p' ∧ (∀ n : Nat, n = (k.take i).dep → (k.take (i + 1)).dep = max n (depthT l' k') ∧ n ≤ 20000 ∧ depthT l' k' ≤ 20001) ∧ Calls Try.prog 25 #[wv l' p'] W fun e w' => e = .returned (.int .i64 (depthT l' k' : Nat)) ∧ Kp [] W w') := fun W i kW hi => by
    obtain ⟨l', k', e⟩ := Fo.at_lt (show i < k.len by omega)
    obtain ⟨p', b, off, h1, h2, h3⟩ := h.kid kW e
    have hc := take_dep e
    have hle := take_dep_le k i
    have hd1 := Fo.dep_le_cnt k
    have hd2 := Fo.dep_le_cnt k'
    have hd3 := kid_cnt e
    exact ⟨l', k', p', b, off, h1, h3, fun n hnn => by unfold depthT; rw [hnn]; exact ⟨hc, by omega, by omega⟩, all_at hall e W p' h2 (by have := kid_cnt e; omega)⟩
  have HX : Hid (∀ W, Kp [] (w.alloc (.cells (six l ((pa, pn, pcap), (bo, m, d))).toArray 25)) W → W.cell? ⟨w.heap.size, 5, none⟩ = some (.slice bo m d)) := fun W kW => (cell_of ((kW.block _ (by simp) (by simp)).trans g0) 5)
  have HE : Hid (∀ i, m ≤ i → (k.take i).dep + 1 = depthT l k) := fun i hi => by rw [take_all (by omega)]; rfl
  have hm : m ≤ 20000 := by have := Fo.len_le_cnt k; omega
  have K0 : Hid (Kp [] w (w.alloc (.cells (six l ((pa, pn, pcap), (bo, m, d))).toArray 25))) := k0
  have HT : Hid ((k.take 0).dep = 0) := by show (k.take 0).dep = 0; rw [Fo.take_zero]; rfl
  have hN : k.dep + 1 ≤ 20001 := by have := Fo.dep_le_cnt k; omega
  have HNB : Hid (depthT l k ≤ 20001) := hN
  generalize depthT l k = N at HE HNB ⊢
  clear h k0 g0 hall hkl hn hN
  simp only [six, wv] at HX K0 ⊢
  go_enter Try.func25, Try.ntmps25
  go_wp2
  go_loopw [3, 4] (fun x3 x4 wr => ∃ n i : Nat, x3 = .int .i64 n ∧ x4 = .int .i64 i ∧ i ≤ m ∧ n = (k.take i).dep ∧ Kp [] (w.alloc (.cells #[.int .i64 l.kind, .int .i64 l.ns, .string l.name, .slice pa pn pcap, .string l.text, .slice bo m d] 25)) wr) (fun x3 x4 wr => m - (intOf x4).toNat)
  case atStart => exact ⟨0, 0, rfl, rfl, Nat.zero_le _, HT.out.symm, Kp.refl _ _⟩
  case round =>
    obtain ⟨n, i, rfl, rfl, hi, hnn, kr⟩ := hrel
    have c5 := HX.out _ kr
    have KR : Hid (Kp [] w wr) := K0.out.trans kr (fun x hx => Or.inl hx)
    by_cases hlt : i < m
    · obtain ⟨l', k', p', b, off, rfl, cl, hcnt, HC⟩ := HK.out _ i KR.out hlt
      obtain ⟨x0, x1, x2, x3, x4, x5⟩ := cl.cells
      have HN : Hid ((k.take (i + 1)).dep = max n (depthT l' k')) := (hcnt n hnn).1
      have hb1 := (hcnt n hnn).2.1
      have hb2 := (hcnt n hnn).2.2
      have KZ : Hid (Kp [] (w.alloc (.cells #[.int .i64 l.kind, .int .i64 l.ns, .string l.name, .slice pa pn pcap, .string l.text, .slice (some ⟨b, off, none⟩) m d] 25)) wr) := kr
      generalize depthT l' k' = N' at HC HN hb2
      have j1 : (0 : Int) ≤ (i : Int) := by omega
      have j2 : (i : Int) < (m : Int) := by omega
      simp only [wv] at HC
      clear hcnt hnn cl kr HK HE HX HT K0 HNB
      by_cases hc : n < N'
      · have e1 : max n N' = N' := by omega
        rw [e1] at HN
        have q1 : decide ((n : Int) < (N' : Int)) = true := decide_eq_true (by omega)
        have q2 : decide (n < N') = true := decide_eq_true hc
        clear e1
        go_wp2_with (go_at_call 25; refine HC.mono ?_; rintro e w2 ⟨rfl, k2⟩)
        go_roundw
        case rel => exact ⟨N', i + 1, by go_num, by go_num, by omega, HN.out.symm, KZ.out.trans k2 (fun x hx => Or.inl hx)⟩
        case measure => simp [intOf]; omega
      · have e1 : max n N' = n := by omega
        rw [e1] at HN
        have q1 : decide ((n : Int) < (N' : Int)) = false := decide_eq_false (by omega)
        have q2 : decide (n < N') = false := decide_eq_false hc
        clear e1 hc
        go_wp2_with (go_at_call 25; refine HC.mono ?_; rintro e w2 ⟨rfl, k2⟩)
        go_roundw
        case rel => exact ⟨n, i + 1, by go_num, by go_num, by omega, HN.out.symm, KZ.out.trans k2 (fun x hx => Or.inl hx)⟩
        case measure => simp [intOf]; omega
    · obtain rfl : i = m := by omega
      have HNN : Hid (n + 1 = N) := by show n + 1 = N; rw [hnn]; exact HE.out i (Nat.le_refl _)
      have hb : n + 1 ≤ 20001 := by have := HNN.out; have := HNB.out; omega
      clear hnn kr HK HX HT K0 HE HNB
      go_wp2
      go_ret
      exact ⟨by rw [← HNN.out]; rfl, KR.out⟩


def CText (l : Lb) (k : Fo) : Prop := ∀ (w : World) (p : Pl), Nd Any w l k p → k.cnt ≤ 20000 → (textT l k).size ≤ 1000000 → Calls Try.prog 26 #[wv l p] w fun e w' => e = .returned (.string (textT l k)) ∧ Kp [] w w'

set_option maxHeartbeats 1000000 in
theorem ref_text_any (l : Lb) (k : Fo) : CText l k := by
  refine Fo.up (C := CText) (fun l k hall => ?_) l k
  intro w p h hn hs
  have k0 : Kp [] w (w.alloc (.cells (six l p).toArray 25)) := (Kp.refl _ _).alloc _
  have g0 := heap_new w (.cells (six l p).toArray 25)
  have hkl := h.klen
  obtain ⟨⟨pa, pn, pcap⟩, bo, m, d⟩ := p
  simp only at hkl
  have HK : Hid (∀ W (i : Nat), Kp [] w W → i < m → ∃ l' k' p' b off, bo = some ⟨b, off, none⟩ ∧ Cl W b (off + i * 6) l' p' ∧ (textF l ++ (k.take (i + 1)).fold textF = textF l ++ (k.take i).fold textF ++ textT l' k' ∧ (textF l ++ (k.take i).fold textF).size + (textT l' k').size ≤ 1000000) ∧ Calls Try.prog 26 #[wv l' p'] W fun e w' => e = .returned (.string (textT l' k')) ∧ Kp [] W w') := fun W i kW hi => by
    obtain ⟨l', k', e⟩ := Fo.at_lt (show i < k.len by omega)
    obtain ⟨p', b, off, h1, h2, h3⟩ := h.kid kW e
    have hc : textF l ++ (k.take (i + 1)).fold textF = textF l ++ (k.take i).fold textF ++ textT l' k' := by rw [take_fold e, ByteArray.append_assoc]; rfl
    have hle := take_fold_le textF k (i + 1)
    have hz : (textF l ++ (k.take i).fold textF).size + (textT l' k').size ≤ 1000000 := by
      have h1 := congrArg ByteArray.size hc
      have h2 : (textT l k).size = (textF l).size + (k.fold textF).size := ByteArray.size_append ..
      rw [ByteArray.size_append, ByteArray.size_append] at h1
      omega
    exact ⟨l', k', p', b, off, h1, h3, ⟨hc, hz⟩, all_at hall e W p' h2 (by have := kid_cnt e; omega) (by omega)⟩
  have HX : Hid (∀ W, Kp [] (w.alloc (.cells (six l ((pa, pn, pcap), (bo, m, d))).toArray 25)) W → W.cell? ⟨w.heap.size, 5, none⟩ = some (.slice bo m d)) := fun W kW => (cell_of ((kW.block _ (by simp) (by simp)).trans g0) 5)
  have HE : Hid (∀ i, m ≤ i → textF l ++ (k.take i).fold textF = textT l k) := fun i hi => by rw [take_all (by omega)]; rfl
  have hm : m ≤ 20000 := by have := Fo.len_le_cnt k; omega
  have K0 : Hid (Kp [] w (w.alloc (.cells (six l ((pa, pn, pcap), (bo, m, d))).toArray 25))) := k0
  have HT : Hid (textF l ++ (k.take 0).fold textF = textF l) := by show textF l ++ (k.take 0).fold textF = textF l; rw [Fo.take_zero, Fo.fold_nil, Fo.cat_none]
  generalize textT l k = N at HE ⊢
  clear h k0 g0 hall hkl hn hs
  simp only [six, wv] at HX K0 ⊢
  by_cases e1 : l.kind = 4
  · have r1 : ((l.kind : Int) == 4) = true := by simpa using e1
    have HQ : Hid (textF l = l.text) := by show textF l = l.text; unfold textF; rw [if_pos e1]
    clear e1
    go_enter Try.func26, Try.ntmps26
    go_wp2
    go_loopw [3, 4] (fun x3 x4 wr => ∃ (n : ByteArray) (i : Nat), x3 = .string n ∧ x4 = .int .i64 i ∧ i ≤ m ∧ n = textF l ++ (k.take i).fold textF ∧ Kp [] (w.alloc (.cells #[.int .i64 l.kind, .int .i64 l.ns, .string l.name, .slice pa pn pcap, .string l.text, .slice bo m d] 25)) wr) (fun x3 x4 wr => m - (intOf x4).toNat)
    case atStart => exact ⟨_, 0, rfl, rfl, Nat.zero_le _, by rw [HT.out]; exact HQ.out.symm, Kp.refl _ _⟩
    case round =>
      obtain ⟨n, i, rfl, rfl, hi, hnn, kr⟩ := hrel
      have c5 := HX.out _ kr
      have KR : Hid (Kp [] w wr) := K0.out.trans kr (fun x hx => Or.inl hx)
      by_cases hlt : i < m
      · obtain ⟨l', k', p', b, off, rfl, cl, hcnt, HC⟩ := HK.out _ i KR.out hlt
        obtain ⟨x0, x1, x2, x3, x4, x5⟩ := cl.cells
        rw [← hnn] at hcnt
        have HN : Hid (textF l ++ (k.take (i + 1)).fold textF = n ++ textT l' k') := hcnt.1
        have hb := hcnt.2
        have KZ : Hid (Kp [] (w.alloc (.cells #[.int .i64 l.kind, .int .i64 l.ns, .string l.name, .slice pa pn pcap, .string l.text, .slice (some ⟨b, off, none⟩) m d] 25)) wr) := kr
        generalize textT l' k' = N' at HC HN hb
        have q9 : ¬ 9223372036854775807 < n.size + N'.size := by omega
        have j1 : (0 : Int) ≤ (i : Int) := by omega
        have j2 : (i : Int) < (m : Int) := by omega
        simp only [wv] at HC
        clear hcnt hnn hb cl kr HK HE HX HT K0
        go_wp2_with (go_at_call 26; refine HC.mono ?_; rintro e w2 ⟨rfl, k2⟩)
        go_roundw
        case rel => exact ⟨n ++ N', i + 1, rfl, by go_num, by omega, HN.out.symm, KZ.out.trans k2 (fun x hx => Or.inl hx)⟩
        case measure => simp [intOf]; omega
      · obtain rfl : i = m := by omega
        obtain rfl : n = N := hnn.trans (HE.out i (Nat.le_refl _))
        clear hnn kr HK HX HT K0 HE
        go_wp2
        go_ret
        exact ⟨rfl, KR.out⟩

  · have r1 : ((l.kind : Int) == 4) = false := by simpa using e1
    have HQ : Hid (textF l = ⟨#[]⟩) := by show textF l = ⟨#[]⟩; unfold textF; rw [if_neg e1]; rfl
    clear e1
    go_enter Try.func26, Try.ntmps26
    go_wp2
    go_loopw [3, 4] (fun x3 x4 wr => ∃ (n : ByteArray) (i : Nat), x3 = .string n ∧ x4 = .int .i64 i ∧ i ≤ m ∧ n = textF l ++ (k.take i).fold textF ∧ Kp [] (w.alloc (.cells #[.int .i64 l.kind, .int .i64 l.ns, .string l.name, .slice pa pn pcap, .string l.text, .slice bo m d] 25)) wr) (fun x3 x4 wr => m - (intOf x4).toNat)
    case atStart => exact ⟨_, 0, rfl, rfl, Nat.zero_le _, by rw [HT.out]; exact HQ.out.symm, Kp.refl _ _⟩
    case round =>
      obtain ⟨n, i, rfl, rfl, hi, hnn, kr⟩ := hrel
      have c5 := HX.out _ kr
      have KR : Hid (Kp [] w wr) := K0.out.trans kr (fun x hx => Or.inl hx)
      by_cases hlt : i < m
      · obtain ⟨l', k', p', b, off, rfl, cl, hcnt, HC⟩ := HK.out _ i KR.out hlt
        obtain ⟨x0, x1, x2, x3, x4, x5⟩ := cl.cells
        rw [← hnn] at hcnt
        have HN : Hid (textF l ++ (k.take (i + 1)).fold textF = n ++ textT l' k') := hcnt.1
        have hb := hcnt.2
        have KZ : Hid (Kp [] (w.alloc (.cells #[.int .i64 l.kind, .int .i64 l.ns, .string l.name, .slice pa pn pcap, .string l.text, .slice (some ⟨b, off, none⟩) m d] 25)) wr) := kr
        generalize textT l' k' = N' at HC HN hb
        have q9 : ¬ 9223372036854775807 < n.size + N'.size := by omega
        have j1 : (0 : Int) ≤ (i : Int) := by omega
        have j2 : (i : Int) < (m : Int) := by omega
        simp only [wv] at HC
        clear hcnt hnn hb cl kr HK HE HX HT K0
        go_wp2_with (go_at_call 26; refine HC.mono ?_; rintro e w2 ⟨rfl, k2⟩)
        go_roundw
        case rel => exact ⟨n ++ N', i + 1, rfl, by go_num, by omega, HN.out.symm, KZ.out.trans k2 (fun x hx => Or.inl hx)⟩
        case measure => simp [intOf]; omega
      · obtain rfl : i = m := by omega
        obtain rfl : n = N := hnn.trans (HE.out i (Nat.le_refl _))
        clear hnn kr HK HX HT K0 HE
        go_wp2
        go_ret
        exact ⟨rfl, KR.out⟩

end Go.Proofs.Ytgnbafgglkncmaa
