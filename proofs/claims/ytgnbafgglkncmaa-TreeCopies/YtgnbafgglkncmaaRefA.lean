/-
  Count, Depth and Text of the document: they call themselves.
-/
import Derived.Test.YtgnbafgglkncmaaWoods
import Derived.Test.YtgnbafgglkncmaaGrown
import Derived.Test.YtgnbafgglkncmaaLabel
namespace Go.Proofs.Ytgnbafgglkncmaa
open Go.RowKit
set_option linter.unusedVariables false

theorem all_at {C : Lb → Fo → Prop} {k : Fo} (h : k.All C) {i : Nat} {l' : Lb} {k' r : Fo} (e : k.drop i = .cons l' k' r) : C l' k' := by
  have := Fo.all_drop i h
  rw [e] at this
  exact ((Fo.all_cons ..).1 this).1

theorem take_cnt {k : Fo} {i : Nat} {l' : Lb} {k' : Fo} (e : k.drop i = .cons l' k' (k.drop (i + 1))) : (k.take (i + 1)).cnt = (k.take i).cnt + (1 + k'.cnt) := by
  rw [Fo.take_succ e, Fo.cnt_app, Fo.cnt_cons, Fo.cnt_nil]; rfl
theorem take_dep {k : Fo} {i : Nat} {l' : Lb} {k' : Fo} (e : k.drop i = .cons l' k' (k.drop (i + 1))) : (k.take (i + 1)).dep = max (k.take i).dep (k'.dep + 1) := by
  rw [Fo.take_succ e, Fo.dep_app, Fo.dep_cons, Fo.dep_nil]; omega
theorem take_fold {g : Lb → ByteArray} {k : Fo} {i : Nat} {l' : Lb} {k' : Fo} (e : k.drop i = .cons l' k' (k.drop (i + 1))) : (k.take (i + 1)).fold g = (k.take i).fold g ++ (g l' ++ k'.fold g) := by
  rw [Fo.take_succ e, Fo.fold_app, Fo.fold_cons, Fo.fold_nil, Fo.cat_none]
theorem take_all {k : Fo} {i : Nat} (h : k.len ≤ i) : k.take i = k := by
  have h1 := Fo.take_drop i k
  have h2 : k.drop i = .nil := Fo.len_zero.1 (by rw [Fo.len_drop]; omega)
  rw [h2, Fo.app_nil'] at h1
  exact h1
theorem take_cnt_le (k : Fo) (i : Nat) : (k.take i).cnt ≤ k.cnt := by
  have := congrArg Fo.cnt (Fo.take_drop i k)
  rw [Fo.cnt_app] at this
  omega
theorem take_dep_le (k : Fo) (i : Nat) : (k.take i).dep ≤ k.dep := by
  have := congrArg Fo.dep (Fo.take_drop i k)
  rw [Fo.dep_app] at this
  omega
theorem kid_cnt {k : Fo} {i : Nat} {l' : Lb} {k' r : Fo} (e : k.drop i = .cons l' k' r) : k'.cnt < k.cnt := by
  have h := congrArg Fo.cnt (Fo.take_drop i k)
  rw [Fo.cnt_app, e, Fo.cnt_cons] at h
  omega

/-- A kid, as it lies in a later world. -/
theorem Nd.kid {w W : World} {l : Lb} {k : Fo} {p : Pl} (h : Nd Any w l k p) (kW : Kp [] w W) {i : Nat} {l' : Lb} {k' : Fo} (e : k.drop i = .cons l' k' (k.drop (i + 1))) : ∃ p' b off, p.2.1 = some ⟨b, off, none⟩ ∧ Nd Any W l' k' p' ∧ Cl W b (off + i * 6) l' p' := by
  obtain ⟨p', b, off, _, h1, h2, h3⟩ := h.kids.at e
  exact ⟨p', b, off, h1, h2.kept kW, h3.keep kW (by simp)⟩

def CCount (l : Lb) (k : Fo) : Prop := ∀ (w : World) (p : Pl), Nd Any w l k p → k.cnt ≤ 20000 → Calls Try.prog 24 #[wv l p] w fun e w' => e = .returned (.int .i64 (countT l k : Nat)) ∧ Kp [] w w'

set_option maxHeartbeats 1000000 in
theorem ref_count_any (l : Lb) (k : Fo) : CCount l k := by
  refine Fo.up (C := CCount) (fun l k hall => ?_) l k
  intro w p h hn
  have k0 : Kp [] w (w.alloc (.cells (six l p).toArray 25)) := (Kp.refl _ _).alloc _
  have g0 := heap_new w (.cells (six l p).toArray 25)
  have hkl := h.klen
  obtain ⟨⟨pa, pn, pcap⟩, bo, m, d⟩ := p
  simp only at hkl
  have HK : Hid (∀ W (i : Nat), Kp [] w W → i < m → ∃ l' k' p' b off, bo = some ⟨b, off, none⟩ ∧ Cl W b (off + i * 6) l' p' ∧ (∀ n : Nat, n = 1 + (k.take i).cnt → 1 + (k.take (i + 1)).cnt = n + countT l' k' ∧ n + countT l' k' ≤ 20001) ∧ Calls Try.prog 24 #[wv l' p'] W fun e w' => e = .returned (.int .i64 (countT l' k' : Nat)) ∧ Kp [] W w') := fun W i kW hi => by
    obtain ⟨l', k', e⟩ := Fo.at_lt (show i < k.len by omega)
    obtain ⟨p', b, off, h1, h2, h3⟩ := h.kid kW e
    have hc := take_cnt e
    have hle := take_cnt_le k (i + 1)
    exact ⟨l', k', p', b, off, h1, h3, fun n hnn => by unfold countT; omega, all_at hall e W p' h2 (by have := kid_cnt e; omega)⟩
  have HX : Hid (∀ W, Kp [] (w.alloc (.cells (six l ((pa, pn, pcap), (bo, m, d))).toArray 25)) W → W.cell? ⟨w.heap.size, 5, none⟩ = some (.slice bo m d)) := fun W kW => (cell_of ((kW.block _ (by simp) (by simp)).trans g0) 5)
  have HE : Hid (∀ i, m ≤ i → 1 + (k.take i).cnt = countT l k) := fun i hi => by rw [take_all (by omega)]; rfl
  have hm : m ≤ 20000 := by have := Fo.len_le_cnt k; omega
  have K0 : Hid (Kp [] w (w.alloc (.cells (six l ((pa, pn, pcap), (bo, m, d))).toArray 25))) := k0
  have HT : Hid (1 + (k.take 0).cnt = 1) := by show 1 + (k.take 0).cnt = 1; rw [Fo.take_zero]; rfl
  generalize countT l k = N at HE ⊢
  clear h k0 g0 hall hkl hn
  simp only [six, wv] at HX K0 ⊢
  go_enter Try.func24, Try.ntmps24
  go_wp2
  go_loopw [3, 4] (fun x3 x4 wr => ∃ n i : Nat, x3 = .int .i64 n ∧ x4 = .int .i64 i ∧ i ≤ m ∧ n = 1 + (k.take i).cnt ∧ Kp [] (w.alloc (.cells #[.int .i64 l.kind, .int .i64 l.ns, .string l.name, .slice pa pn pcap, .string l.text, .slice bo m d] 25)) wr) (fun x3 x4 wr => m - (intOf x4).toNat)
  case atStart => exact ⟨1, 0, rfl, rfl, Nat.zero_le _, HT.out.symm, Kp.refl _ _⟩
  case round =>
    obtain ⟨n, i, rfl, rfl, hi, hnn, kr⟩ := hrel
    have c5 := HX.out _ kr
    have KR : Hid (Kp [] w wr) := K0.out.trans kr (fun x hx => Or.inl hx)
    by_cases hlt : i < m
    · obtain ⟨l', k', p', b, off, rfl, cl, hcnt, HC⟩ := HK.out _ i KR.out hlt
      obtain ⟨x0, x1, x2, x3, x4, x5⟩ := cl.cells
      have HN : Hid (1 + (k.take (i + 1)).cnt = n + countT l' k') := (hcnt n hnn).1
      have hb := (hcnt n hnn).2
      have KZ : Hid (Kp [] (w.alloc (.cells #[.int .i64 l.kind, .int .i64 l.ns, .string l.name, .slice pa pn pcap, .string l.text, .slice (some ⟨b, off, none⟩) m d] 25)) wr) := kr
      generalize countT l' k' = N' at HC HN hb
      have j1 : (0 : Int) ≤ (i : Int) := by omega
      have j2 : (i : Int) < (m : Int) := by omega
      simp only [wv] at HC
      clear hcnt hnn cl kr HK HE HX HT K0
      go_wp2_with (go_at_call 24; refine HC.mono ?_; rintro e w2 ⟨rfl, k2⟩)
      go_roundw
      case rel => exact ⟨n + N', i + 1, by go_num, by go_num, by omega, HN.out.symm, KZ.out.trans k2 (fun x hx => Or.inl hx)⟩
      case measure => simp [intOf]; omega
    · obtain rfl : i = m := by omega
      obtain rfl : n = N := hnn.trans (HE.out i (Nat.le_refl _))
      clear hnn kr HK HX HT K0 HE
      go_wp2
      go_ret
      exact ⟨rfl, KR.out⟩

end Go.Proofs.Ytgnbafgglkncmaa
