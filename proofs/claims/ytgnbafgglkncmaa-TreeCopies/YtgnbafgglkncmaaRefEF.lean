/-
  Joined: RefE RefF.
-/
import Derived.Test.YtgnbafgglkncmaaRefD
import Derived.Test.YtgnbafgglkncmaaWrites

/-
  line of the document.
-/
namespace Go.Proofs.Ytgnbafgglkncmaa
open Go.RowKit
set_option linter.unusedVariables false
set_option linter.unusedSimpArgs false

set_option maxRecDepth 100000 in
set_option maxHeartbeats 1500000 in
theorem ref_line_any (w : World) (l : Lb) (p : Pl) (hr : Rp w p.1.1 p.1.2.1 p.1.2.2 l.attrs) (hl : l.attrs.length ≤ 300) (hs : (lineF l).size ≤ 1000000) :
    Calls Try.prog 58 #[wv l p] w fun e w' => e = .returned (.string (lineF l)) ∧ Kp [] w w' := by
  obtain ⟨A, hA⟩ : ∃ A, lineF l = A := ⟨_, rfl⟩
  rw [hA] at hs ⊢
  have KL : Hid (Kp [] w (w.alloc (.cells #[.int .i64 l.kind, .int .i64 l.ns, .string l.name, .slice p.1.1 p.1.2.1 p.1.2.2, .string l.text, .slice p.2.1 p.2.2.1 p.2.2.2] 25))) := (Kp.refl _ _).alloc _
  have g0 := heap_new w (.cells #[.int .i64 l.kind, .int .i64 l.ns, .string l.name, .slice p.1.1 p.1.2.1 p.1.2.2, .string l.text, .slice p.2.1 p.2.2.1 p.2.2.2] 25)
  have HX : Hid (∀ W, Kp [] (w.alloc (.cells #[.int .i64 l.kind, .int .i64 l.ns, .string l.name, .slice p.1.1 p.1.2.1 p.1.2.2, .string l.text, .slice p.2.1 p.2.2.1 p.2.2.2] 25)) W → W.cell? ⟨w.heap.size, 3, none⟩ = some (.slice p.1.1 p.1.2.1 p.1.2.2)) := fun W kW => (cell_of ((kW.block _ (by simp) (by simp)).trans g0) 3)
  have HR : Hid (∀ W, Kp [] w W → Rp W p.1.1 p.1.2.1 p.1.2.2 l.attrs) := fun W kW => hr.kept kW
  have HPL : Hid (p.1.2.1 = l.attrs.length) := hr.len
  have hpn : p.1.2.1 ≤ 300 := by have := hr.len; omega
  unfold lineF at hA
  clear hr hl g0
  simp only [wv]
  by_cases h2 : l.kind = 2
  · have r2k : ((l.kind : Int) == 2) = true := int_eq_yes h2
    rw [if_pos h2] at hA
    clear h2
    have hz := congrArg ByteArray.size hA
    rw [ByteArray.size_append, ByteArray.size_append] at hz
    have e1 : (⟨#[60, 33]⟩ : ByteArray).size = 2 := rfl
    have e2 : (⟨#[62]⟩ : ByteArray).size = 1 := rfl
    have q1 : ¬ 9223372036854775807 < 2 + l.name.size := by omega
    have q2 : ¬ 9223372036854775807 < 2 + l.name.size + 1 := by omega
    clear HX HR HPL hz hs e1 e2
    go_enter Try.func58, Try.ntmps58
    go_wp2
    go_ret
    exact ⟨by rw [← hA]; rfl, KL.out⟩
  · have r2k : ((l.kind : Int) == 2) = false := int_eq_no h2
    by_cases h4 : l.kind = 4
    · have r4k : ((l.kind : Int) == 4) = true := int_eq_yes h4
      rw [if_neg h2, if_pos h4] at hA
      clear h2 h4
      have hz := congrArg ByteArray.size hA
      rw [ByteArray.size_append, ByteArray.size_append] at hz
      have e1 : (⟨#[34]⟩ : ByteArray).size = 1 := rfl
      have e2 : (⟨#[34]⟩ : ByteArray).size = 1 := rfl
      have q1 : ¬ 9223372036854775807 < 1 + l.text.size := by omega
      have q2 : ¬ 9223372036854775807 < 1 + l.text.size + 1 := by omega
      clear HX HR HPL hz hs e1 e2
      go_enter Try.func58, Try.ntmps58
      go_wp2
      go_ret
      exact ⟨by rw [← hA]; rfl, KL.out⟩
    · have r4k : ((l.kind : Int) == 4) = false := int_eq_no h4
      by_cases h5 : l.kind = 5
      · have r5k : ((l.kind : Int) == 5) = true := int_eq_yes h5
        rw [if_neg h2, if_neg h4, if_pos h5] at hA
        clear h2 h4 h5
        have hz := congrArg ByteArray.size hA
        rw [ByteArray.size_append, ByteArray.size_append] at hz
        have e1 : (⟨#[60, 33, 45, 45, 32]⟩ : ByteArray).size = 5 := rfl
        have e2 : (⟨#[32, 45, 45, 62]⟩ : ByteArray).size = 4 := rfl
        have q1 : ¬ 9223372036854775807 < 5 + l.text.size := by omega
        have q2 : ¬ 9223372036854775807 < 5 + l.text.size + 4 := by omega
        clear HX HR HPL hz hs e1 e2
        go_enter Try.func58, Try.ntmps58
        go_wp2
        go_ret
        exact ⟨by rw [← hA]; rfl, KL.out⟩
      · have r5k : ((l.kind : Int) == 5) = false := int_eq_no h5
        by_cases h6 : l.kind = 6
        · have r6k : ((l.kind : Int) == 6) = true := int_eq_yes h6
          rw [if_neg h2, if_neg h4, if_neg h5, if_pos h6] at hA
          clear h2 h4 h5 h6
          subst hA
          clear HX HR HPL hs
          go_enter Try.func58, Try.ntmps58
          go_wp2
          go_ret
          exact ⟨rfl, KL.out⟩
        · have r6k : ((l.kind : Int) == 6) = false := int_eq_no h6
          by_cases h3 : l.kind = 3
          · have r3k : ((l.kind : Int) == 3) = true := int_eq_yes h3
            rw [if_neg h2, if_neg h4, if_neg h5, if_neg h6, if_pos h3] at hA
            clear h2 h4 h5 h6 h3
            by_cases e2 : l.ns = 2
            · have r2 : ((l.ns : Int) == 2) = true := int_eq_yes e2
              rw [if_pos e2] at hA
              clear e2
              have HZ : Hid ((lineA l.attrs (⟨#[60, 115, 118, 103, 58]⟩ ++ l.name)).size + 1 ≤ 1000000) := by
                show (lineA l.attrs (⟨#[60, 115, 118, 103, 58]⟩ ++ l.name)).size + 1 ≤ 1000000
                have := congrArg ByteArray.size hA
                rw [ByteArray.size_append] at this
                have e : (⟨#[62]⟩ : ByteArray).size = 1 := rfl
                omega
              have q1 : ¬ 9223372036854775807 <  5 + l.name.size := by
                have h1 := HZ.out
                have h2 := lineA_ge l.attrs (⟨#[60, 115, 118, 103, 58]⟩ ++ l.name)
                rw [ByteArray.size_append] at h2
                have e : (⟨#[60, 115, 118, 103, 58]⟩ : ByteArray).size = 5 := rfl
                omega
              have HA : Hid (lineA l.attrs (⟨#[60, 115, 118, 103, 58]⟩ ++ l.name) ++ ⟨#[62]⟩ = A) := hA
              clear hA hs
              go_enter Try.func58, Try.ntmps58
              go_wp2
              go_loopw [3, 4] (fun x3 x4 wr => ∃ (i : Nat), x3 = .string (lineA (l.attrs.take i) (⟨#[60, 115, 118, 103, 58]⟩ ++ l.name)) ∧ x4 = .int .i64 i ∧ i ≤ p.1.2.1 ∧ Kp [] (w.alloc (.cells #[.int .i64 l.kind, .int .i64 l.ns, .string l.name, .slice p.1.1 p.1.2.1 p.1.2.2, .string l.text, .slice p.2.1 p.2.2.1 p.2.2.2] 25)) wr) (fun x3 x4 wr => p.1.2.1 - (intOf x4).toNat)
              case atStart => exact ⟨0, rfl, rfl, Nat.zero_le _, Kp.refl _ _⟩
              case round =>
                obtain ⟨i, rfl, rfl, hi, kr⟩ := hrel
                have c3 := HX.out _ kr
                have KR : Hid (Kp [] w wr) := KL.out.trans kr (fun x hx => Or.inl hx)
                by_cases hlt : i < p.1.2.1
                · have hlt2 : i < l.attrs.length := by have := HPL.out; omega
                  obtain ⟨b, off, e1, c1, c2⟩ := (HR.out _ KR.out).get i hlt2
                  have HT : Hid (lineA (l.attrs.take (i + 1)) (⟨#[60, 115, 118, 103, 58]⟩ ++ l.name) = lineA (l.attrs.take i) (⟨#[60, 115, 118, 103, 58]⟩ ++ l.name) ++ ⟨#[32]⟩ ++ l.attrs[i].1 ++ ⟨#[61, 34]⟩ ++ l.attrs[i].2 ++ ⟨#[34]⟩) := by
                    show lineA (l.attrs.take (i + 1)) _ = _
                    rw [take_snoc hlt2, lineA_snoc]
                  have hz := lineA_take l.attrs (i + 1) (⟨#[60, 115, 118, 103, 58]⟩ ++ l.name)
                  rw [HT.out] at hz
                  have hz2 := HZ.out
                  generalize l.attrs[i] = a at c1 c2 HT hz
                  generalize lineA (l.attrs.take i) (⟨#[60, 115, 118, 103, 58]⟩ ++ l.name) = s at HT hz ⊢
                  simp only [ByteArray.size_append] at hz
                  have e2 : (⟨#[32]⟩ : ByteArray).size = 1 := rfl
                  have e3 : (⟨#[61, 34]⟩ : ByteArray).size = 2 := rfl
                  have e4 : (⟨#[34]⟩ : ByteArray).size = 1 := rfl
                  have f1 : ¬ 9223372036854775807 <  s.size + 1 := by omega
                  have f2 : ¬ 9223372036854775807 <  s.size + 1 + a.1.size := by omega
                  have f3 : ¬ 9223372036854775807 <  s.size + 1 + a.1.size + 2 := by omega
                  have f4 : ¬ 9223372036854775807 <  s.size + 1 + a.1.size + 2 + a.2.size := by omega
                  have f5 : ¬ 9223372036854775807 <  s.size + 1 + a.1.size + 2 + a.2.size + 1 := by omega
                  have j1 : (0 : Int) ≤ (i : Int) := by omega
                  have j2 : (i : Int) < (p.1.2.1 : Int) := by omega
                  have KZ : Hid (Kp [] (w.alloc (.cells #[.int .i64 l.kind, .int .i64 l.ns, .string l.name, .slice p.1.1 p.1.2.1 p.1.2.2, .string l.text, .slice p.2.1 p.2.2.1 p.2.2.2] 25)) wr) := kr
                  rw [e1] at c3
                  clear hz hz2 kr HX HZ HA HR e2 e3 e4 q1 HPL hlt2
                  go_wp2_with fail
                  go_quiet (fail)
                  go_wp2
                  go_roundw
                  case rel => exact ⟨i + 1, by rw [HT.out], by go_num, by omega, KZ.out.drewN nq⟩
                  case measure => simp [intOf]; omega
                · obtain rfl : i = p.1.2.1 := by omega
                  have HE : Hid (l.attrs.take p.1.2.1 = l.attrs) := by show l.attrs.take p.1.2.1 = l.attrs; rw [HPL.out, List.take_length]
                  rw [HE.out]
                  have q3 : ¬ 9223372036854775807 <  (lineA l.attrs (⟨#[60, 115, 118, 103, 58]⟩ ++ l.name)).size + 1 := by have := HZ.out; omega
                  generalize lineA l.attrs (⟨#[60, 115, 118, 103, 58]⟩ ++ l.name) = s at HA q3 ⊢
                  clear kr HX HZ HR HPL HE q1
                  go_wp2
                  go_ret
                  exact ⟨by rw [← HA.out]; rfl, KR.out⟩
            · have r2 : ((l.ns : Int) == 2) = false := int_eq_no e2
              rw [if_neg e2] at hA
              clear e2
              have HZ : Hid ((lineA l.attrs (⟨#[60]⟩ ++ l.name)).size + 1 ≤ 1000000) := by
                show (lineA l.attrs (⟨#[60]⟩ ++ l.name)).size + 1 ≤ 1000000
                have := congrArg ByteArray.size hA
                rw [ByteArray.size_append] at this
                have e : (⟨#[62]⟩ : ByteArray).size = 1 := rfl
                omega
              have q1 : ¬ 9223372036854775807 <  1 + l.name.size := by
                have h1 := HZ.out
                have h2 := lineA_ge l.attrs (⟨#[60]⟩ ++ l.name)
                rw [ByteArray.size_append] at h2
                have e : (⟨#[60]⟩ : ByteArray).size = 1 := rfl
                omega
              have HA : Hid (lineA l.attrs (⟨#[60]⟩ ++ l.name) ++ ⟨#[62]⟩ = A) := hA
              clear hA hs
              go_enter Try.func58, Try.ntmps58
              go_wp2
              go_loopw [3, 4] (fun x3 x4 wr => ∃ (i : Nat), x3 = .string (lineA (l.attrs.take i) (⟨#[60]⟩ ++ l.name)) ∧ x4 = .int .i64 i ∧ i ≤ p.1.2.1 ∧ Kp [] (w.alloc (.cells #[.int .i64 l.kind, .int .i64 l.ns, .string l.name, .slice p.1.1 p.1.2.1 p.1.2.2, .string l.text, .slice p.2.1 p.2.2.1 p.2.2.2] 25)) wr) (fun x3 x4 wr => p.1.2.1 - (intOf x4).toNat)
              case atStart => exact ⟨0, rfl, rfl, Nat.zero_le _, Kp.refl _ _⟩
              case round =>
                obtain ⟨i, rfl, rfl, hi, kr⟩ := hrel
                have c3 := HX.out _ kr
                have KR : Hid (Kp [] w wr) := KL.out.trans kr (fun x hx => Or.inl hx)
                by_cases hlt : i < p.1.2.1
                · have hlt2 : i < l.attrs.length := by have := HPL.out; omega
                  obtain ⟨b, off, e1, c1, c2⟩ := (HR.out _ KR.out).get i hlt2
                  have HT : Hid (lineA (l.attrs.take (i + 1)) (⟨#[60]⟩ ++ l.name) = lineA (l.attrs.take i) (⟨#[60]⟩ ++ l.name) ++ ⟨#[32]⟩ ++ l.attrs[i].1 ++ ⟨#[61, 34]⟩ ++ l.attrs[i].2 ++ ⟨#[34]⟩) := by
                    show lineA (l.attrs.take (i + 1)) _ = _
                    rw [take_snoc hlt2, lineA_snoc]
                  have hz := lineA_take l.attrs (i + 1) (⟨#[60]⟩ ++ l.name)
                  rw [HT.out] at hz
                  have hz2 := HZ.out
                  generalize l.attrs[i] = a at c1 c2 HT hz
                  generalize lineA (l.attrs.take i) (⟨#[60]⟩ ++ l.name) = s at HT hz ⊢
                  simp only [ByteArray.size_append] at hz
                  have e2 : (⟨#[32]⟩ : ByteArray).size = 1 := rfl
                  have e3 : (⟨#[61, 34]⟩ : ByteArray).size = 2 := rfl
                  have e4 : (⟨#[34]⟩ : ByteArray).size = 1 := rfl
                  have f1 : ¬ 9223372036854775807 <  s.size + 1 := by omega
                  have f2 : ¬ 9223372036854775807 <  s.size + 1 + a.1.size := by omega
                  have f3 : ¬ 9223372036854775807 <  s.size + 1 + a.1.size + 2 := by omega
                  have f4 : ¬ 9223372036854775807 <  s.size + 1 + a.1.size + 2 + a.2.size := by omega
                  have f5 : ¬ 9223372036854775807 <  s.size + 1 + a.1.size + 2 + a.2.size + 1 := by omega
                  have j1 : (0 : Int) ≤ (i : Int) := by omega
                  have j2 : (i : Int) < (p.1.2.1 : Int) := by omega
                  have KZ : Hid (Kp [] (w.alloc (.cells #[.int .i64 l.kind, .int .i64 l.ns, .string l.name, .slice p.1.1 p.1.2.1 p.1.2.2, .string l.text, .slice p.2.1 p.2.2.1 p.2.2.2] 25)) wr) := kr
                  rw [e1] at c3
                  clear hz hz2 kr HX HZ HA HR e2 e3 e4 q1 HPL hlt2
                  go_wp2_with fail
                  go_quiet (fail)
                  go_wp2
                  go_roundw
                  case rel => exact ⟨i + 1, by rw [HT.out], by go_num, by omega, KZ.out.drewN nq⟩
                  case measure => simp [intOf]; omega
                · obtain rfl : i = p.1.2.1 := by omega
                  have HE : Hid (l.attrs.take p.1.2.1 = l.attrs) := by show l.attrs.take p.1.2.1 = l.attrs; rw [HPL.out, List.take_length]
                  rw [HE.out]
                  have q3 : ¬ 9223372036854775807 <  (lineA l.attrs (⟨#[60]⟩ ++ l.name)).size + 1 := by have := HZ.out; omega
                  generalize lineA l.attrs (⟨#[60]⟩ ++ l.name) = s at HA q3 ⊢
                  clear kr HX HZ HR HPL HE q1
                  go_wp2
                  go_ret
                  exact ⟨by rw [← HA.out]; rfl, KR.out⟩
          · have r3k : ((l.kind : Int) == 3) = false := int_eq_no h3
            rw [if_neg h2, if_neg h4, if_neg h5, if_neg h6, if_neg h3] at hA
            subst hA
            clear HX HR HPL hs h2 h4 h5 h6 h3
            go_enter Try.func58, Try.ntmps58
            go_wp2
            go_ret
            exact ⟨rfl, KL.out⟩

end Go.Proofs.Ytgnbafgglkncmaa

/-
  Show of the document.
-/
namespace Go.Proofs.Ytgnbafgglkncmaa
open Go.RowKit
set_option linter.unusedVariables false

theorem take_show (g : Lb → ByteArray) (a : ByteArray) {k : Fo} {i : Nat} {l' : Lb} {k' : Fo} (e : k.drop i = .cons l' k' (k.drop (i + 1))) : (k.take (i + 1)).show_ g a = (k.take i).show_ g a ++ a ++ g l' ++ ⟨#[10]⟩ ++ k'.show_ g (a ++ ⟨#[32, 32]⟩) := by
  rw [Fo.take_succ e, Fo.show_app, Fo.show_cons, Fo.show_nil]
  rw [show (⟨#[]⟩ : ByteArray) = ByteArray.empty from rfl, ByteArray.append_empty]
  simp only [ByteArray.append_assoc]

theorem take_show_le (g : Lb → ByteArray) (a : ByteArray) (k : Fo) (i : Nat) : ((k.take i).show_ g a).size ≤ (k.show_ g a).size := by
  have := congrArg (fun f : Fo => (f.show_ g a).size) (Fo.take_drop i k)
  simp only [Fo.show_app, ByteArray.size_append] at this
  omega

def CShow (l : Lb) (k : Fo) : Prop := ∀ (w : World) (p : Pl) (a : ByteArray), Nd Any w l k p → okT l k → a.size ≤ 1000002 → (k.show_ lineF a).size ≤ 1000000 → Calls Try.prog 38 #[wv l p, .string a] w fun e w' => e = .returned (.string (k.show_ lineF a)) ∧ Kp [] w w'

set_option maxRecDepth 100000 in
set_option maxHeartbeats 1500000 in
theorem ref_shows_any (l : Lb) (k : Fo) : CShow l k := by
  refine Fo.up (C := CShow) (fun l k hall => ?_) l k
  intro w p a h ho ha hs
  obtain ⟨B, hB⟩ : ∃ B, B = w.alloc (.cells (six l p).toArray 25) := ⟨_, rfl⟩
  have k0 : Kp [] w B := by rw [hB]; exact (Kp.refl _ _).alloc _
  have g1 : B.heap[w.heap.size]? = some (.cells (six l p).toArray 25 (0, 0)) := by rw [hB]; exact heap_new _ _
  have sB : B.heap.size = w.heap.size + 1 := by rw [hB]; simp
  have HW : Hid (w.alloc (.cells #[.int .i64 l.kind, .int .i64 l.ns, .string l.name, .slice p.1.1 p.1.2.1 p.1.2.2, .string l.text, .slice p.2.1 p.2.2.1 p.2.2.2] 25) = B) := hB.symm
  have hkl := h.klen
  have hm : p.2.2.1 ≤ 20000 := by have := Fo.len_le_cnt k; have := ho.2; omega
  have HK : Hid (∀ (i : Nat), i < p.2.2.1 → ∃ (l1 : Lb) (p1 : Pl) (b1 off1 : Nat) (L S : ByteArray), p.2.1 = some ⟨b1, off1, none⟩ ∧ (∀ V, Kp [] w V → Cl V b1 (off1 + i * 6) l1 p1) ∧ (k.take (i + 1)).show_ lineF a = (k.take i).show_ lineF a ++ a ++ L ++ ⟨#[10]⟩ ++ S ∧ ((k.take i).show_ lineF a).size + a.size + L.size + 1 + S.size ≤ 1000000 ∧ (∀ V, Kp [] w V → Calls Try.prog 58 #[wv l1 p1] V fun e w' => e = .returned (.string L) ∧ Kp [] V w') ∧ ∀ V, Kp [] w V → Calls Try.prog 38 #[wv l1 p1, .string (a ++ ⟨#[32, 32]⟩)] V fun e w' => e = .returned (.string S) ∧ Kp [] V w') := fun i hi => by
    obtain ⟨l1, k1, e1⟩ := Fo.at_lt (show i < k.len by omega)
    obtain ⟨p1, b1, off1, a1, a2, a3⟩ := h.kid (Kp.refl _ _) e1
    have ht := take_show lineF a e1
    have hz := take_show_le lineF a k (i + 1)
    rw [ht] at hz
    simp only [ByteArray.size_append] at hz
    have e10 : (⟨#[10]⟩ : ByteArray).size = 1 := rfl
    have e2 : (a ++ (⟨#[32, 32]⟩ : ByteArray)).size = a.size + 2 := by rw [ByteArray.size_append]; rfl
    refine ⟨l1, p1, b1, off1, lineF l1, k1.show_ lineF (a ++ ⟨#[32, 32]⟩), a1, fun V kV => a3.keep kV (by simp), ht, by omega, fun V kV => ?_, fun V kV => ?_⟩
    · have ok := ((Fo.each_cons ..).1 (ho.kid e1).1).1
      exact ref_line_any V l1 p1 (a2.kept kV).at'.rp ok.1 (by omega)
    · exact all_at hall e1 V p1 _ (a2.kept kV) (ho.kid e1) (by omega) (by omega)
  have HX : Hid (∀ W, Kp [] B W → W.cell? ⟨w.heap.size, 5, none⟩ = some (.slice p.2.1 p.2.2.1 p.2.2.2)) := fun W kW => cell_of ((kW.block _ (by omega) (by simp)).trans g1) 5
  have HE : Hid (k.take p.2.2.1 = k) := take_all (by omega)
  have HT : Hid ((k.take 0).show_ lineF a = ⟨#[]⟩) := by show (k.take 0).show_ lineF a = ⟨#[]⟩; rw [Fo.take_zero, Fo.show_nil]
  have KB : Hid (Kp [] w B) := k0
  clear h ho hall g1 hB k0 hkl sB hs
  obtain ⟨⟨pa, pn, pcap⟩, bo, m, d⟩ := p
  simp only [wv] at HW HX HK HE hm ⊢
  go_enter Try.func38, Try.ntmps38
  go_wp2_with fail
  rw [HW.out]
  go_loopw [5, 6] (fun x5 x6 wr => ∃ (i : Nat) (s : ByteArray), x5 = .string s ∧ x6 = .int .i64 i ∧ i ≤ m ∧ (k.take i).show_ lineF a = s ∧ Kp [] B wr) (fun x5 x6 wr => m - (intOf x6).toNat)
  case atStart => exact ⟨0, _, rfl, rfl, Nat.zero_le _, HT.out, Kp.refl _ _⟩
  case round =>
    obtain ⟨i, s, rfl, rfl, hi, htk, kr⟩ := hrel
    have c5 := HX.out _ kr
    have KR : Hid (Kp [] w wr) := KB.out.trans kr (fun x hx => Or.inl hx)
    by_cases hlt : i < m
    · obtain ⟨l1, p1, b1, off1, L, S, rfl, hcl, ht, hz, HC1, HC2⟩ := HK.out i hlt
      rw [htk] at ht hz
      have KZ : Hid (Kp [] B wr) := kr
      have HD : Hid ((k.take (i + 1)).show_ lineF a = s ++ a ++ L ++ ⟨#[10]⟩ ++ S) := ht
      have HCL : Hid (∀ V, Kp [] w V → Cl V b1 (off1 + i * 6) l1 p1) := hcl
      have HL : Hid (∀ V, Kp [] w V → Calls Try.prog 58 _ V fun e w' => e = .returned (.string L) ∧ Kp [] V w') := HC1
      have HS : Hid (∀ V, Kp [] w V → Calls Try.prog 38 _ V fun e w' => e = .returned (.string S) ∧ Kp [] V w') := HC2
      have j1 : (0 : Int) ≤ (i : Int) := by omega
      have j2 : (i : Int) < (m : Int) := by omega
      have f1 : ¬ 9223372036854775807 < s.size + a.size := by omega
      have f2 : ¬ 9223372036854775807 < s.size + a.size + L.size := by omega
      have f3 : ¬ 9223372036854775807 < s.size + a.size + L.size + 1 := by omega
      have f4 : ¬ 9223372036854775807 < s.size + a.size + L.size + 1 + S.size := by omega
      have f5 : ¬ 9223372036854775807 < a.size + 2 := by omega
      clear hcl ht hz htk HK HE HT HC1 HC2 kr
      go_wp2_with fail
      go_region_held3 (fun V => V.cell? ⟨w.heap.size, 5, none⟩ = some (.slice (some ⟨b1, off1, none⟩) m d) ∧ (V.cell? ⟨b1, off1 + i * 6, none⟩ = some (.int .i64 l1.kind) ∧ V.cell? ⟨b1, off1 + i * 6 + 1, none⟩ = some (.int .i64 l1.ns) ∧ V.cell? ⟨b1, off1 + i * 6 + 2, none⟩ = some (.string l1.name) ∧ V.cell? ⟨b1, off1 + i * 6 + 3, none⟩ = some (.slice p1.1.1 p1.1.2.1 p1.1.2.2) ∧ V.cell? ⟨b1, off1 + i * 6 + 4, none⟩ = some (.string l1.text) ∧ V.cell? ⟨b1, off1 + i * 6 + 5, none⟩ = some (.slice p1.2.1 p1.2.2.1 p1.2.2.2)))
        (first
          | exact ⟨HX.out _ (KZ.out.trans Q2.out (fun x hx => Or.inl hx)), (HCL.out _ (KR.out.trans Q2.out (fun x hx => Or.inl hx))).cells⟩
          | exact ⟨HX.out _ (KZ.out.trans Q1.out (fun x hx => Or.inl hx)), (HCL.out _ (KR.out.trans Q1.out (fun x hx => Or.inl hx))).cells⟩
          | exact ⟨HX.out _ KZ.out.drew, (HCL.out _ KR.out.drew).cells⟩)
        (first
          | (go_at_call 38; refine (HS.out _ (KR.out.trans Q1.out (fun x hx => Or.inl hx))).mono ?_; rintro e w2 ⟨rfl, K2⟩; have Q2 : Hid (Kp [] wr w2) := Q1.out.trans K2 (fun x hx => Or.inl hx))
          | (go_at_call 58; refine (HL.out _ KR.out.drew).mono ?_; rintro e w1 ⟨rfl, K1⟩; have Q1 : Hid (Kp [] wr w1) := (Kp.refl _ _).drew.trans K1 (fun x hx => Or.inl hx)))
      go_wp2
      go_roundw
      case rel => exact ⟨i + 1, _, rfl, by go_num, by omega, HD.out, KZ.out.trans Q2.out (fun x hx => Or.inl hx)⟩
      case measure => simp [intOf]; omega
    · obtain rfl : i = m := by omega
      rw [HE.out] at htk
      clear HK HX HT HE kr
      go_wp2
      go_ret
      exact ⟨by rw [htk]; rfl, KR.out⟩

theorem ref_show_any (w : World) (l : Lb) (k : Fo) (p : Pl) (h : Nd Any w l k p) (ho : okT l k) (hs : (showT l k).size ≤ 1000000) :
    Calls Try.prog 13 #[wv l p] w fun e w' => e = .returned (.string (showT l k)) ∧ Kp [] w w' := by
  have k0 : Kp [] w (w.alloc (.cells (six l p).toArray 25)) := (Kp.refl _ _).alloc _
  have HC := ref_shows_any l k _ p NON (h.kept k0) ho (by decide) hs
  clear h
  simp only [six, wv, NON] at HC k0 ⊢
  go_enter Try.func13, Try.ntmps13
  go_wp2_with (go_at_call 38; refine HC.mono ?_; rintro e w1 ⟨rfl, k1⟩)
  go_ret
  exact ⟨rfl, k0.trans k1 (fun x hx => Or.inl hx)⟩

end Go.Proofs.Ytgnbafgglkncmaa
