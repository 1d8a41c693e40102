/-
  TreeDeep.
-/
import Derived.Test.YtgnbafgglkncmaaCopyE
import Derived.Test.YtgnbafgglkncmaaSames
import Derived.Test.YtgnbafgglkncmaaRights
import Derived.Test.YtgnbafgglkncmaaKnows
import Derived.Test.YtgnbafgglkncmaaGrow
namespace Go.Proofs.Ytgnbafgglkncmaa
open Go.RowKit
set_option linter.unusedVariables false
set_option linter.unusedSimpArgs false

theorem Rt.one' {Q : Nat → Prop} {w : World} {g : Nat} {l : Lb} {k : Fo} {p : Pl} {cur : Array Value} {e : TypeId} (hg : At w g cur e) (hc : cur = (six l p).toArray) (hq : Q g) (h : Nd Q w l k p) : Rt Q w (some ⟨g, 0, none⟩) 1 1 (.cons l k .nil) := Rt.one hg hc hq h

theorem three' (V : World) (o1 o2 o3 : Obj) (n : Nat) (hn : V.heap.size = n) : ∃ F, ((V.alloc o1).alloc o2).alloc o3 = F ∧ F.heap[n]? = some o1 ∧ F.heap[n + 1]? = some o2 ∧ F.heap[n + 1 + 1]? = some o3 ∧ Kp [] V F := by
  subst hn
  refine ⟨_, rfl, ?_, ?_, heap_new' _ _ _ (by simp), (((Kp.refl _ _).alloc _).alloc _).alloc _⟩
  · have k : Kp [] (V.alloc o1) (((V.alloc o1).alloc o2).alloc o3) := ((Kp.refl _ _).alloc _).alloc _
    rw [k.block _ (by simp) (by simp)]; exact heap_new _ _
  · have k : Kp [] ((V.alloc o1).alloc o2) (((V.alloc o1).alloc o2).alloc o3) := (Kp.refl _ _).alloc _
    rw [k.block _ (by simp) (by simp)]; exact heap_new' _ _ _ (by simp)

theorem fo_inj {l l' : Lb} {k k' r r' : Fo} (h : Fo.cons l k r = Fo.cons l' k' r') : l = l' ∧ k = k' ∧ r = r' := by
  unfold Fo.cons at h
  simp only [Fo.mk.injEq, heq_eq_eq, true_and] at h
  exact ⟨congrFun h.1 rfl, congrFun h.2.1 rfl, congrFun h.2.2 rfl⟩

/-- The chain's element, its first one, and the text within. -/
def lB : Lb := (3, 1, ⟨#[98]⟩, [], ⟨#[]⟩)
def lQ : Lb := (3, 1, ⟨#[112]⟩, [], ⟨#[]⟩)
def lT (t : ByteArray) : Lb := (4, 0, ⟨#[]⟩, [], t)
def chT (t : ByteArray) (n : Nat) : Fo := chainF lB (.cons (lT t) .nil .nil) n
def deepK (t : ByteArray) (n : Nat) : Fo := .cons lQ (chT t n) .nil

theorem chT_zero (t : ByteArray) : chT t 0 = .cons (lT t) .nil .nil := rfl
theorem chT_succ (t : ByteArray) (n : Nat) : chT t (n + 1) = .cons lB (chT t n) .nil := rfl

theorem deep_cnt (t : ByteArray) (n : Nat) : (deepK t n).cnt = n + 2 := by
  unfold deepK chT
  rw [Fo.cnt_cons, chain_cnt, Fo.cnt_cons, Fo.cnt_nil]
  simp; omega

theorem deep_dep (t : ByteArray) (n : Nat) : (deepK t n).dep = n + 2 := by
  unfold deepK chT
  rw [Fo.dep_cons, chain_dep, Fo.dep_cons, Fo.dep_nil]
  simp

theorem deep_text (t : ByteArray) (n : Nat) : textT lD (deepK t n) = t := by
  unfold deepK chT textT
  rw [Fo.fold_cons, chain_fold (by rfl), Fo.fold_cons]
  have e1 : textF lD = ⟨#[]⟩ := rfl
  have e2 : textF lQ = ⟨#[]⟩ := rfl
  have e3 : textF (lT t) = t := rfl
  rw [e1, e2, e3]
  simp only [Fo.fold_nil, Fo.cat_none, Fo.none_cat]

theorem deep_right (t : ByteArray) (ht : ¬ t = NON) (n : Nat) : rightF lD (deepK t n) = true := by
  have k0 : ∀ p : Lb, p.kind = 3 → tmplF p = false → kidsF (.cons (lT t) .nil .nil) p true false = true := fun p h3 h4 => by
    rw [kids_cons, kids_nil, kids_nil]
    have s1 : selfF (lT t) Fo.nil.len = true := by simp [selfF, aloneF, tmplF, lT, Lb.kind, Lb.ns, Lb.name, Lb.attrs, Lb.text, NON] at *; exact ht
    have s2 : hereF p true false (lT t) = true := by simp [hereF, lT, Lb.kind, h3, h4] at *
    rw [s1, s2]; rfl
  have h1 := (chain_kids (p := lQ) (l := lB) (f := .cons (lT t) .nil .nil) (by decide) (by decide) (fun n hn => by
    simp [selfF, aloneF, tmplF, lB, Lb.kind, Lb.ns, Lb.name, Lb.attrs, Lb.text, uniq, NON, TMPL]
    decide) rfl (k0 lB rfl (by decide)) (k0 lQ rfl (by decide)) n).1
  unfold rightF belowF deepK
  rw [kids_cons, kids_nil]
  have s1 : selfF lD (Fo.cons lQ (chT t n) .nil).len = true := by show selfF lD 1 = true; decide
  have s2 : selfF lQ (chT t n).len = true := by
    rw [show (chT t n).len = 1 from chain_len rfl n]; decide
  have s3 : hereF lD true false lQ = true := by decide
  unfold chT at s2 ⊢
  rw [s2, s3, h1]
  rfl

theorem chain_each {P : Lb → Prop} {l : Lb} {f : Fo} (hl : P l) (hf : f.Each P) : ∀ n, (chainF l f n).Each P
  | 0 => hf
  | n + 1 => ⟨hl, chain_each hl hf n, trivial⟩

theorem deep_each {P : Lb → Prop} (t : ByteArray) (n : Nat) (h1 : P lB) (h2 : P lQ) (h3 : P (lT t)) : (deepK t n).Each P := ⟨h2, chain_each (f := .cons (lT t) .nil .nil) h1 ((Fo.each_cons ..).2 ⟨h3, trivial, trivial⟩) n, trivial⟩

theorem bareL_of {k s : Int} {x y : ByteArray} (h1 : x.size ≤ 1000000) (h2 : y.size ≤ 1000000) : bareL (k, s, x, [], y) := ⟨rfl, h1, h2⟩

set_option maxRecDepth 100000 in
set_option maxHeartbeats 4000000 in
theorem deep_any (w : World) (n0 : Int) (st : ByteArray) :
    Calls Try.prog 6 #[.int .i64 n0, .string st] w fun e w' => e = .returned (.bool true) ∧ Kp [] w w' := by
  have HWI : Hid (∀ W : World, Calls Try.prog 17 #[.int .i64 n0, .int .i64 0, .int .i64 3000] W fun e w' => e = .returned (.int .i64 (wi n0 3000 : Nat)) ∧ w' = W) := fun W => by
    have := within_any W n0 0 3000 (by omega) (by omega)
    simpa using this
  have hn := wi_le n0 3000
  generalize wi n0 3000 = n at HWI hn
  have hcb := cutB_le st 9
  have HHD : Hid (∀ W, Calls Try.prog 18 #[.string st, .int .i64 9] W fun e w' => e = .returned (.string (cutB st 9)) ∧ Kp [] W w') := fun W => hd_any W st
  generalize cutB st 9 = cst at hcb HHD
  have f0 : ¬ 9223372036854775807 < 1 + cst.size := by omega
  obtain ⟨tx, htx⟩ : ∃ t, t = (⟨#[116]⟩ : ByteArray) ++ cst := ⟨_, rfl⟩
  have htl : tx.size ≤ 20 := by rw [htx, ByteArray.size_append]; have : (⟨#[116]⟩ : ByteArray).size = 1 := rfl; omega
  have htn : ¬ tx = NON := fun e => by
    have h1 : tx.size = 1 + cst.size := by rw [htx, ByteArray.size_append]; rfl
    have h2 : NON.size = 0 := rfl
    rw [e, h2] at h1
    omega
  have HTX : Hid ((⟨#[116]⟩ : ByteArray) ++ cst = tx) := htx.symm
  go_enter Try.func6, Try.ntmps6
  go_upto_region 3 with (first
    | (go_at_call 17; refine (HWI.out _).mono ?_; rintro e w1 ⟨rfl, hw1⟩; have hw2 := hw1.symm; clear hw1; subst hw2)
    | (go_at_call 18; refine (HHD.out _).mono ?_; rintro e w2 ⟨rfl, k2⟩))
  rw [HTX.out]
  obtain ⟨V, hV⟩ : ∃ V, V = w2.alloc (.cells #[.int .i64 4, .int .i64 0, .string ⟨#[]⟩, .slice none 0 0, .string tx, .slice none 0 0] 25) := ⟨_, rfl⟩
  rw [← hV]
  have T5 : At V w2.heap.size #[.int .i64 4, .int .i64 0, .string ⟨#[]⟩, .slice none 0 0, .string tx, .slice none 0 0] 25 := by rw [hV]; exact At.new _ _ _
  have kV : Kp [] w2 V := by rw [hV]; exact (Kp.refl _ _).alloc _
  have hg5n := k2.size
  obtain ⟨g5, hg5⟩ : ∃ g, w2.heap.size = g := ⟨_, rfl⟩
  rw [hg5] at T5 hg5n ⊢
  have KV : Hid (Kp [] w V) := k2.trans kV (fun z hz => by simp at hz)
  clear hV kV k2 hg5 htx
  have R0 : Hid (∃ (X : Lb) (KX : Fo) (p : Pl), At V g5 #[.int .i64 X.kind, .int .i64 X.ns, .string X.name, .slice p.1.1 p.1.2.1 p.1.2.2, .string X.text, .slice p.2.1 p.2.2.1 p.2.2.2] 25 ∧ Nd (fun z => z ≠ g5) V X KX p ∧ Fo.cons X KX .nil = chT tx 0 ∧ Kp [] w V) := ⟨lT tx, .nil, ((none, 0, 0), (none, 0, 0)), T5, Nd.bare _ _ _ _ _ _ (Rt.nil _ _ none 0), rfl, KV.out⟩
  clear T5 KV
  go_wp2_with fail
  go_loopw [6] (fun x6 wr => ∃ i : Nat, x6 = .int .i64 i ∧ i ≤ n ∧ ∃ (X : Lb) (KX : Fo) (p : Pl), At wr g5 #[.int .i64 X.kind, .int .i64 X.ns, .string X.name, .slice p.1.1 p.1.2.1 p.1.2.2, .string X.text, .slice p.2.1 p.2.2.1 p.2.2.2] 25 ∧ Nd (fun z => z ≠ g5) wr X KX p ∧ Fo.cons X KX .nil = chT tx i ∧ Kp [] w wr) (fun x6 wr => n - (intOf x6).toNat)
  case atStart => exact ⟨0, rfl, Nat.zero_le _, R0.out⟩
  case round =>
    clear R0
    obtain ⟨i, rfl, hi, X, KX, p, T5, NX, hX, kw⟩ := hrel
    by_cases hlt : i < n
    · obtain ⟨c0, c1, c2, c3, c4, c5⟩ := T5.six
      obtain ⟨m, hm⟩ : ∃ m, wr.heap.size = m := ⟨_, rfl⟩
      obtain ⟨Z, hZ⟩ : ∃ Z, Z = putZ wr g5 (.int .i64 3) (.int .i64 1) (.string ⟨#[98]⟩) (.slice none 0 0) (.string ⟨#[]⟩) (.slice (some ⟨m, 0, none⟩) 1 1) := ⟨_, rfl⟩
      have vz : Kp [g5] wr Z := by rw [hZ]; exact (Kp.refl _ _).putZ (g := g5) (Or.inl (by simp)) (.int .i64 3) (.int .i64 1) (.string ⟨#[98]⟩) (.slice none 0 0) (.string ⟨#[]⟩) (.slice (some ⟨m, 0, none⟩) 1 1)
      have sz : Z.heap.size = m := by rw [hZ, ← hm]; unfold putZ; simp [World.setCell]
      have T5z : At Z g5 #[.int .i64 3, .int .i64 1, .string ⟨#[98]⟩, .slice none 0 0, .string ⟨#[]⟩, .slice (some ⟨m, 0, none⟩) 1 1] 25 := by rw [hZ]; exact T5.putZ (.int .i64 3) (.int .i64 1) (.string ⟨#[98]⟩) (.slice none 0 0) (.string ⟨#[]⟩) (.slice (some ⟨m, 0, none⟩) 1 1)
      have hgw := T5.lt
      rw [hm] at hgw
      have NXz := NX.keep (vz.sms (fun z hz => by simp; exact hz))
      obtain ⟨V1, hV1⟩ : ∃ V, V = Z.alloc (.cells #[.int .i64 X.kind, .int .i64 X.ns, .string X.name, .slice p.1.1 p.1.2.1 p.1.2.2, .string X.text, .slice p.2.1 p.2.2.1 p.2.2.2] 25) := ⟨_, rfl⟩
      have k1 : Kp [] Z V1 := by rw [hV1]; exact (Kp.refl _ _).alloc _
      have E1 : At V1 m #[.int .i64 X.kind, .int .i64 X.ns, .string X.name, .slice p.1.1 p.1.2.1 p.1.2.2, .string X.text, .slice p.2.1 p.2.2.1 p.2.2.2] 25 := by rw [hV1]; exact At.new' _ _ _ _ sz.symm
      have HR : Hid (∃ (X : Lb) (KX : Fo) (p : Pl), At V1 g5 #[.int .i64 X.kind, .int .i64 X.ns, .string X.name, .slice p.1.1 p.1.2.1 p.1.2.2, .string X.text, .slice p.2.1 p.2.2.1 p.2.2.2] 25 ∧ Nd (fun z => z ≠ g5) V1 X KX p ∧ Fo.cons X KX .nil = chT tx (i + 1) ∧ Kp [] w V1) := ⟨lB, .cons X KX .nil, ((none, 0, 0), (some ⟨m, 0, none⟩, 1, 1)), T5z.kept k1 (by simp), Nd.bare _ _ _ _ _ _ (Rt.one' (p := p) E1 rfl (by omega) (NXz.kept k1)), by rw [chT_succ, hX], (kw.trans vz (fun z hz => Or.inr (by simp at hz; omega))).trans k1 (fun z hz => by simp at hz)⟩
      have fr := fun j => T5.free j
      rw [hV1, hZ] at HR
      unfold putZ at HR
      clear T5 NX k1 E1 vz T5z NXz hX kw hV1 hZ sz
      go_wp2
      go_roundw
      case measure => simp [intOf]; omega
      case rel => exact ⟨i + 1, by go_num, by omega, HR.out⟩
    · obtain rfl : i = n := by omega
      obtain ⟨c0, c1, c2, c3, c4, c5⟩ := T5.six
      obtain ⟨m, hm⟩ : ∃ m, wr.heap.size = m := ⟨_, rfl⟩
      go_upto_region 8 with fail
      clear c0 c1 c2 c3 c4 c5
      obtain ⟨F, hF, f1, f2, f3, kF⟩ := three' wr (.cells #[.int .i64 X.kind, .int .i64 X.ns, .string X.name, .slice p.1.1 p.1.2.1 p.1.2.2, .string X.text, .slice p.2.1 p.2.2.1 p.2.2.2] 25) (.cells #[.int .i64 3, .int .i64 1, .string ⟨#[112]⟩, .slice none 0 0, .string ⟨#[]⟩, .slice (some ⟨m, 0, none⟩) 1 1] 25) (.cells #[.int .i64 1, .int .i64 0, .string ⟨#[]⟩, .slice none 0 0, .string ⟨#[]⟩, .slice (some ⟨m + 1, 0, none⟩) 1 1] 25) m hm
      rw [hF]
      clear hF
      have NX := (NX.kept kF).any
      have T5 := T5.kept kF (by simp)
      have ND : Nd Any F lD (deepK tx i) ((none, 0, 0), (some ⟨m + 1, 0, none⟩, 1, 1)) := by
        unfold deepK
        rw [← hX]
        exact Nd.bare _ _ _ _ _ _ (Rt.one' (p := ((none, 0, 0), (some ⟨m, 0, none⟩, 1, 1))) f2 rfl trivial (Nd.bare _ _ _ _ _ _ (Rt.one' (p := p) f1 rfl trivial NX)))
      have hle : ∀ t : ByteArray, okL (4, 0, ⟨#[]⟩, [], t) := fun t => okL_bare _ _ _ _
      have okD : okT lD (deepK tx i) := ⟨⟨okL_bare _ _ _ _, deep_each tx i (okL_bare _ _ _ _) (okL_bare _ _ _ _) (hle tx), trivial⟩, by rw [deep_cnt]; omega⟩
      have hXo : okT X KX := by
        have h1 : (Fo.cons X KX .nil).Each okL := by rw [hX]; exact chain_each (f := .cons (lT tx) .nil .nil) (okL_bare _ _ _ _) ((Fo.each_cons ..).2 ⟨hle tx, trivial, trivial⟩) i
        have h2 : (Fo.cons X KX .nil).cnt = i + 1 := by rw [hX]; unfold chT; rw [chain_cnt]; simp
        rw [Fo.cnt_cons, Fo.cnt_nil] at h2
        exact ⟨h1, by omega⟩
      have hne : sameT lD (deepK tx i) X KX = false := by
        cases hs : sameT lD (deepK tx i) X KX with
        | false => rfl
        | true =>
          have h1 := ((sameT_iff ..).1 hs).1
          have h2 : X = lT tx ∨ X = lB := by
            cases i with
            | zero =>
              rw [chT_zero] at hX
              exact Or.inl (fo_inj hX).1
            | succ i =>
              rw [chT_succ] at hX
              exact Or.inr (fo_inj hX).1
          rcases h2 with e | e
          · rw [e] at h1; exact absurd (congrArg Lb.kind h1) (by show ¬ (1 : Int) = 4; omega)
          · rw [e] at h1; exact absurd (congrArg Lb.kind h1) (by show ¬ (1 : Int) = 3; omega)
      have hbl : (Fo.cons lD (deepK tx i) .nil).Each bareL := ⟨bareL_of (by decide) (by decide), deep_each tx i (bareL_of (by decide) (by decide)) (bareL_of (by decide) (by decide)) (bareL_of (by decide) (by omega)), trivial⟩
      have hdc := deep_cnt tx i
      have H15 : Hid (∀ W, Kp [] F W → Calls Try.prog 15 #[wv lD ((none, 0, 0), (some ⟨m + 1, 0, none⟩, 1, 1))] W fun e w' => e = .returned (.int .i64 ((i + 3 : Nat) : Int)) ∧ Kp [] W w') := fun W kW => by
        have := count_any W lD (deepK tx i) _ (ND.kept kW) okD.2
        rwa [show countT lD (deepK tx i) = i + 3 by unfold countT; omega] at this
      have H19 : Hid (∀ W, Kp [] F W → Calls Try.prog 19 #[wv lD ((none, 0, 0), (some ⟨m + 1, 0, none⟩, 1, 1))] W fun e w' => e = .returned (.int .i64 ((i + 3 : Nat) : Int)) ∧ Kp [] W w') := fun W kW => by
        have := depth_any W lD (deepK tx i) _ (ND.kept kW) okD.2
        rwa [show depthT lD (deepK tx i) = i + 3 by unfold depthT; rw [deep_dep]] at this
      have H20 : Hid (∀ W, Kp [] F W → Calls Try.prog 20 #[wv lD ((none, 0, 0), (some ⟨m + 1, 0, none⟩, 1, 1))] W fun e w' => e = .returned (.string tx) ∧ Kp [] W w') := fun W kW => by
        have := text_any W lD (deepK tx i) _ (ND.kept kW) okD.2 (by rw [deep_text]; omega)
        rwa [deep_text] at this
      have H21 : Hid (∀ W, Kp [] F W → Calls Try.prog 21 #[wv lD ((none, 0, 0), (some ⟨m + 1, 0, none⟩, 1, 1))] W fun e w' => e = .returned (.bool true) ∧ Kp [] W w') := fun W kW => by
        have := right_any W lD (deepK tx i) _ (ND.kept kW) okD
        rwa [deep_right tx htn] at this
      have H12 : Hid (∀ W, Kp [] F W → Calls Try.prog 12 #[wv lD ((none, 0, 0), (some ⟨m + 1, 0, none⟩, 1, 1))] W fun e w' => ∃ q, e = .returned (wv lD q) ∧ Nd Any w' lD (deepK tx i) q ∧ Kp [] W w') := fun W kW => by
        refine (copy_tree W lD (deepK tx i) _ (ND.kept kW) hbl okD.2).mono ?_
        rintro e w' ⟨q, h1, h2, h3⟩
        exact ⟨q, h1, h2.any, h3⟩
      have H14 : Hid (∀ W q, Kp [] F W → Nd Any W lD (deepK tx i) q → Calls Try.prog 14 #[wv lD ((none, 0, 0), (some ⟨m + 1, 0, none⟩, 1, 1)), wv lD q] W fun e w' => e = .returned (.bool true) ∧ Kp [] W w') := fun W q kW hq => by
        have := tsame_any W lD (deepK tx i) _ lD (deepK tx i) q (ND.kept kW) hq okD okD
        rwa [(sameT_iff ..).2 ⟨rfl, rfl⟩] at this
      have H14b : Hid (∀ W, Kp [] F W → Calls Try.prog 14 #[wv lD ((none, 0, 0), (some ⟨m + 1, 0, none⟩, 1, 1)), wv X p] W fun e w' => e = .returned (.bool false) ∧ Kp [] W w') := fun W kW => by
        have := tsame_any W lD (deepK tx i) _ X KX p (ND.kept kW) (NX.kept kW) okD hXo
        rwa [hne] at this
      have T7 : At F (m + 1 + 1) #[.int .i64 1, .int .i64 0, .string ⟨#[]⟩, .slice none 0 0, .string ⟨#[]⟩, .slice (some ⟨m + 1, 0, none⟩) 1 1] 25 := f3
      have KF : Hid (Kp [] w F) := kw.trans kF (fun z hz => by simp at hz)
      simp only [wv, lD] at H15 H19 H20 H21 H12 H14 H14b
      clear NX ND okD hXo hne hbl hdc hX f1 f2 f3 kF kw hle htn hm
      have htx2 := HTX.out
      have ji : IntKind.i64.wrap ((i : Int) + 3) = (i : Int) + 3 := by rw [IntKind.wrap_i64]; omega
      obtain ⟨U0, hU0⟩ : ∃ V, V = F.drew := ⟨_, rfl⟩
      have k0 : Kp [] F U0 := by rw [hU0]; exact (Kp.refl _ _).drew
      refine wp_region_g (S := fun V => At V (m + 1 + 1) #[.int .i64 1, .int .i64 0, .string ⟨#[]⟩, .slice none 0 0, .string ⟨#[]⟩, .slice (some ⟨m + 1, 0, none⟩) 1 1] 25 ∧ At V g5 #[.int .i64 X.kind, .int .i64 X.ns, .string X.name, .slice p.1.1 p.1.2.1 p.1.2.2, .string X.text, .slice p.2.1 p.2.2.1 p.2.2.2] 25) (T := []) (by kernel_rfl) ⟨T7.kept (Kp.refl [] F).drew (by simp), T5.kept (Kp.refl [] F).drew (by simp)⟩ (fun hHeld => ?_)
      rw [← hU0] at hHeld ⊢
      clear hU0
      refine wpAnyG_take (i := 0) (oi := { dst := some 27, op := Go.Op.load 25 (Go.Operand.tmp 7), type := 25, pos := "law.go:148", after := #[], guard := none }) (v := ?_) rfl (by kernel_rfl) (by kernel_rfl) (by kernel_rfl) (by kernel_rfl) (fun _ _ _ h => h) (Or.inl ⟨by rfl, ?_⟩) (by assumption) ?_
      rotate_left
      · (intro w hSw; (obtain ⟨⟨c0, c1, c2, c3, c4, c5⟩, e0, e1, e2, e3, e4, e5⟩ := And.intro hSw.1.six hSw.2.six); go_simp; try with_reducible rfl)
      simp only [Act.put, List.setIfInBounds_toArray, List.set_cons_zero, List.set_cons_succ]
      refine wpAnyG_pure (i := 2) (oi := { dst := some 29, op := Go.Op.move (Go.Operand.tmp 0), type := 3, pos := "law.go:148", after := #[], guard := none }) (v := ?_) rfl (by kernel_rfl) (by kernel_rfl) (by kernel_rfl) (by kernel_rfl) (fun _ _ _ h => h) (Or.inl ⟨by rfl, ?_⟩) (by assumption) ?_
      rotate_left
      · (intro w; go_simp; try with_reducible rfl)
      simp only [Act.put, List.setIfInBounds_toArray, List.set_cons_zero, List.set_cons_succ]
      refine wpAnyG_pure (i := 3) (oi := { dst := some 30, op := Go.Op.binOp Go.BinOp.add 3 (Go.Operand.tmp 29) (Go.Operand.const (Go.Value.int Go.IntKind.i64 3)) 3, type := 3, pos := "law.go:148", after := #[{ on := 2, ground := Go.Ground.data }], guard := none }) (v := ?_) rfl (by kernel_rfl) (by kernel_rfl) (by kernel_rfl) (by kernel_rfl) (fun _ _ _ h => h) (Or.inl ⟨by rfl, ?_⟩) (by assumption) ?_
      rotate_left
      · (intro w; go_simp; try with_reducible rfl)
      simp only [Act.put, List.setIfInBounds_toArray, List.set_cons_zero, List.set_cons_succ]
      refine wpAnyG_ready (rs := [1]) (by kernel_rfl) (by simp) ?_
      refine AllReadyG.cons (o := { dst := some 28, op := Go.Op.call { callee := Go.Callee.value (Go.Operand.func 15), args := #[Go.Operand.tmp 27], argTypes := #[25] }, type := 3, pos := "law.go:148", after := #[{ on := 0, ground := Go.Ground.data }], guard := none }) rfl (fun K hK => ?_) AllReadyG.nil
      go_simp
      go_at_call 15
      refine (H15.out _ k0).mono ?_
      rintro e U1 ⟨rfl, u1⟩
      go_wp2_with fail
      have k1 : Kp [] F U1 := k0.trans u1 (fun z hz => by simp at hz)
      refine hK.out _ _ ⟨At.kept hHeld.1 u1 (by simp), At.kept hHeld.2 u1 (by simp)⟩ (fun hHeld1 => ?_)
      clear hK K hHeld
      try simp only [Act.put, List.setIfInBounds_toArray, List.set_cons_zero, List.set_cons_succ]
      refine wpAnyG_pure (i := 4) (oi := { dst := some 31, op := Go.Op.binOp Go.BinOp.eql 3 (Go.Operand.tmp 28) (Go.Operand.tmp 30) 3, type := 4, pos := "law.go:148", after := #[{ on := 1, ground := Go.Ground.data }, { on := 3, ground := Go.Ground.data }], guard := none }) (v := ?_) rfl (by kernel_rfl) (by kernel_rfl) (by kernel_rfl) (by kernel_rfl) (fun _ _ _ h => h) (Or.inl ⟨by rfl, ?_⟩) (by assumption) ?_
      rotate_left
      · (intro w; go_simp; try with_reducible rfl)
      simp only [Act.put, List.setIfInBounds_toArray, List.set_cons_zero, List.set_cons_succ]
      refine wpAnyG_pure (i := 5) (oi := { dst := some 32, op := Go.Op.move (Go.Operand.tmp 31), type := 4, pos := "law.go:148", after := #[{ on := 4, ground := Go.Ground.data }, { on := 1, ground := Go.Ground.chain }], guard := none }) (v := ?_) rfl (by kernel_rfl) (by kernel_rfl) (by kernel_rfl) (by kernel_rfl) (fun _ _ _ h => h) (Or.inl ⟨by rfl, ?_⟩) (by assumption) ?_
      rotate_left
      · (intro w; go_simp; try with_reducible rfl)
      simp only [Act.put, List.setIfInBounds_toArray, List.set_cons_zero, List.set_cons_succ]
      refine wpAnyG_take (i := 6) (oi := { dst := some 33, op := Go.Op.load 25 (Go.Operand.tmp 7), type := 25, pos := "law.go:148", after := #[{ on := 5, ground := Go.Ground.guard }], guard := some (5, true) }) (v := ?_) rfl (by kernel_rfl) (by kernel_rfl) (by kernel_rfl) (by kernel_rfl) (fun _ _ _ h => h) (Or.inl ⟨by rfl, ?_⟩) (by assumption) ?_
      rotate_left
      · (intro w hSw; (obtain ⟨⟨c0, c1, c2, c3, c4, c5⟩, e0, e1, e2, e3, e4, e5⟩ := And.intro hSw.1.six hSw.2.six); go_simp; try with_reducible rfl)
      simp only [Act.put, List.setIfInBounds_toArray, List.set_cons_zero, List.set_cons_succ]
      refine wpAnyG_pure (i := 8) (oi := { dst := some 35, op := Go.Op.move (Go.Operand.tmp 0), type := 3, pos := "law.go:148", after := #[{ on := 5, ground := Go.Ground.guard }], guard := some (5, true) }) (v := ?_) rfl (by kernel_rfl) (by kernel_rfl) (by kernel_rfl) (by kernel_rfl) (fun _ _ _ h => h) (Or.inl ⟨by rfl, ?_⟩) (by assumption) ?_
      rotate_left
      · (intro w; go_simp; try with_reducible rfl)
      simp only [Act.put, List.setIfInBounds_toArray, List.set_cons_zero, List.set_cons_succ]
      refine wpAnyG_pure (i := 9) (oi := { dst := some 36, op := Go.Op.binOp Go.BinOp.add 3 (Go.Operand.tmp 35) (Go.Operand.const (Go.Value.int Go.IntKind.i64 3)) 3, type := 3, pos := "law.go:148", after := #[{ on := 8, ground := Go.Ground.data }, { on := 5, ground := Go.Ground.guard }], guard := some (5, true) }) (v := ?_) rfl (by kernel_rfl) (by kernel_rfl) (by kernel_rfl) (by kernel_rfl) (fun _ _ _ h => h) (Or.inl ⟨by rfl, ?_⟩) (by assumption) ?_
      rotate_left
      · (intro w; go_simp; try with_reducible rfl)
      simp only [Act.put, List.setIfInBounds_toArray, List.set_cons_zero, List.set_cons_succ]
      refine wpAnyG_ready (rs := [7]) (by kernel_rfl) (by simp) ?_
      refine AllReadyG.cons (o := { dst := some 34, op := Go.Op.call { callee := Go.Callee.value (Go.Operand.func 19), args := #[Go.Operand.tmp 33], argTypes := #[25] }, type := 3, pos := "law.go:148", after := #[{ on := 6, ground := Go.Ground.data }, { on := 5, ground := Go.Ground.chain }, { on := 5, ground := Go.Ground.guard }], guard := some (5, true) }) rfl (fun K hK => ?_) AllReadyG.nil
      go_simp
      go_at_call 19
      refine (H19.out _ k1).mono ?_
      rintro e U2 ⟨rfl, u2⟩
      go_wp2_with fail
      have k2 : Kp [] F U2 := k1.trans u2 (fun z hz => by simp at hz)
      refine hK.out _ _ ⟨At.kept hHeld1.1 u2 (by simp), At.kept hHeld1.2 u2 (by simp)⟩ (fun hHeld2 => ?_)
      clear hK K hHeld1
      try simp only [Act.put, List.setIfInBounds_toArray, List.set_cons_zero, List.set_cons_succ]
      refine wpAnyG_pure (i := 10) (oi := { dst := some 37, op := Go.Op.binOp Go.BinOp.eql 3 (Go.Operand.tmp 34) (Go.Operand.tmp 36) 3, type := 4, pos := "law.go:148", after := #[{ on := 7, ground := Go.Ground.data }, { on := 9, ground := Go.Ground.data }, { on := 5, ground := Go.Ground.guard }], guard := some (5, true) }) (v := ?_) rfl (by kernel_rfl) (by kernel_rfl) (by kernel_rfl) (by kernel_rfl) (fun _ _ _ h => h) (Or.inl ⟨by rfl, ?_⟩) (by assumption) ?_
      rotate_left
      · (intro w; go_simp; try with_reducible rfl)
      simp only [Act.put, List.setIfInBounds_toArray, List.set_cons_zero, List.set_cons_succ]
      refine wpAnyG_pure (i := 11) (oi := { dst := some 38, op := Go.Op.pick (Go.Operand.tmp 32) (Go.Operand.tmp 37) (Go.Operand.const (Go.Value.bool false)), type := 4, pos := "law.go:148", after := #[{ on := 5, ground := Go.Ground.data }, { on := 10, ground := Go.Ground.data }], guard := none }) (v := ?_) rfl (by kernel_rfl) (by kernel_rfl) (by kernel_rfl) (by kernel_rfl) (fun _ _ _ h => h) (Or.inl ⟨by rfl, ?_⟩) (by assumption) ?_
      rotate_left
      · (intro w; go_simp; try with_reducible rfl)
      simp only [Act.put, List.setIfInBounds_toArray, List.set_cons_zero, List.set_cons_succ]
      refine wpAnyG_pure (i := 12) (oi := { dst := some 39, op := Go.Op.move (Go.Operand.tmp 38), type := 4, pos := "law.go:148", after := #[{ on := 11, ground := Go.Ground.data }, { on := 7, ground := Go.Ground.chain }], guard := none }) (v := ?_) rfl (by kernel_rfl) (by kernel_rfl) (by kernel_rfl) (by kernel_rfl) (fun _ _ _ h => h) (Or.inl ⟨by rfl, ?_⟩) (by assumption) ?_
      rotate_left
      · (intro w; go_simp; try with_reducible rfl)
      simp only [Act.put, List.setIfInBounds_toArray, List.set_cons_zero, List.set_cons_succ]
      refine wpAnyG_take (i := 13) (oi := { dst := some 40, op := Go.Op.load 25 (Go.Operand.tmp 7), type := 25, pos := "law.go:148", after := #[{ on := 12, ground := Go.Ground.guard }], guard := some (12, true) }) (v := ?_) rfl (by kernel_rfl) (by kernel_rfl) (by kernel_rfl) (by kernel_rfl) (fun _ _ _ h => h) (Or.inl ⟨by rfl, ?_⟩) (by assumption) ?_
      rotate_left
      · (intro w hSw; (obtain ⟨⟨c0, c1, c2, c3, c4, c5⟩, e0, e1, e2, e3, e4, e5⟩ := And.intro hSw.1.six hSw.2.six); go_simp; try with_reducible rfl)
      simp only [Act.put, List.setIfInBounds_toArray, List.set_cons_zero, List.set_cons_succ]
      refine wpAnyG_pure (i := 15) (oi := { dst := some 42, op := Go.Op.move (Go.Operand.tmp 1), type := 9, pos := "law.go:148", after := #[{ on := 12, ground := Go.Ground.guard }], guard := some (12, true) }) (v := ?_) rfl (by kernel_rfl) (by kernel_rfl) (by kernel_rfl) (by kernel_rfl) (fun _ _ _ h => h) (Or.inl ⟨by rfl, ?_⟩) (by assumption) ?_
      rotate_left
      · (intro w; go_simp; try with_reducible rfl)
      simp only [Act.put, List.setIfInBounds_toArray, List.set_cons_zero, List.set_cons_succ]
      refine wpAnyG_ready (rs := [14]) (by kernel_rfl) (by simp) ?_
      refine AllReadyG.cons (o := { dst := some 41, op := Go.Op.call { callee := Go.Callee.value (Go.Operand.func 20), args := #[Go.Operand.tmp 40], argTypes := #[25] }, type := 9, pos := "law.go:148", after := #[{ on := 13, ground := Go.Ground.data }, { on := 12, ground := Go.Ground.chain }, { on := 12, ground := Go.Ground.guard }], guard := some (12, true) }) rfl (fun K hK => ?_) AllReadyG.nil
      go_simp
      go_at_call 20
      refine (H20.out _ k2).mono ?_
      rintro e U3 ⟨rfl, u3⟩
      go_wp2_with fail
      have k3 : Kp [] F U3 := k2.trans u3 (fun z hz => by simp at hz)
      refine hK.out _ _ ⟨At.kept hHeld2.1 u3 (by simp), At.kept hHeld2.2 u3 (by simp)⟩ (fun hHeld3 => ?_)
      clear hK K hHeld2
      try simp only [Act.put, List.setIfInBounds_toArray, List.set_cons_zero, List.set_cons_succ]
      refine wpAnyG_ready (rs := [16]) (by kernel_rfl) (by simp) ?_
      refine AllReadyG.cons (o := { dst := some 43, op := Go.Op.call { callee := Go.Callee.value (Go.Operand.func 18), args := #[Go.Operand.tmp 42, Go.Operand.const (Go.Value.int Go.IntKind.i64 9)], argTypes := #[9, 3] }, type := 9, pos := "law.go:148", after := #[{ on := 15, ground := Go.Ground.data }, { on := 14, ground := Go.Ground.chain }, { on := 12, ground := Go.Ground.guard }], guard := some (12, true) }) rfl (fun K hK => ?_) AllReadyG.nil
      go_simp
      go_at_call 18
      refine (HHD.out _).mono ?_
      rintro e U4 ⟨rfl, u4⟩
      go_wp2_with fail
      have k4 : Kp [] F U4 := k3.trans u4 (fun z hz => by simp at hz)
      refine hK.out _ _ ⟨At.kept hHeld3.1 u4 (by simp), At.kept hHeld3.2 u4 (by simp)⟩ (fun hHeld4 => ?_)
      clear hK K hHeld3
      try simp only [Act.put, List.setIfInBounds_toArray, List.set_cons_zero, List.set_cons_succ]
      refine wpAnyG_pure (i := 17) (oi := { dst := some 44, op := Go.Op.binOp Go.BinOp.add 9 (Go.Operand.const (Go.Value.string { data := #[116] })) (Go.Operand.tmp 43) 9, type := 9, pos := "law.go:148", after := #[{ on := 16, ground := Go.Ground.data }, { on := 12, ground := Go.Ground.guard }], guard := some (12, true) }) (v := ?_) rfl (by kernel_rfl) (by kernel_rfl) (by kernel_rfl) (by kernel_rfl) (fun _ _ _ h => h) (Or.inl ⟨by rfl, ?_⟩) (by assumption) ?_
      rotate_left
      · (intro w; go_simp; try with_reducible rfl)
      simp only [Act.put, List.setIfInBounds_toArray, List.set_cons_zero, List.set_cons_succ]
      refine wpAnyG_pure (i := 18) (oi := { dst := some 45, op := Go.Op.binOp Go.BinOp.eql 9 (Go.Operand.tmp 41) (Go.Operand.tmp 44) 9, type := 4, pos := "law.go:148", after := #[{ on := 14, ground := Go.Ground.data }, { on := 17, ground := Go.Ground.data }, { on := 12, ground := Go.Ground.guard }], guard := some (12, true) }) (v := ?_) rfl (by kernel_rfl) (by kernel_rfl) (by kernel_rfl) (by kernel_rfl) (fun _ _ _ h => h) (Or.inl ⟨by rfl, ?_⟩) (by assumption) ?_
      rotate_left
      · (intro w; go_simp; try with_reducible rfl)
      simp only [Act.put, List.setIfInBounds_toArray, List.set_cons_zero, List.set_cons_succ]
      refine wpAnyG_pure (i := 19) (oi := { dst := some 46, op := Go.Op.pick (Go.Operand.tmp 39) (Go.Operand.tmp 45) (Go.Operand.const (Go.Value.bool false)), type := 4, pos := "law.go:148", after := #[{ on := 12, ground := Go.Ground.data }, { on := 18, ground := Go.Ground.data }], guard := none }) (v := ?_) rfl (by kernel_rfl) (by kernel_rfl) (by kernel_rfl) (by kernel_rfl) (fun _ _ _ h => h) (Or.inl ⟨by rfl, ?_⟩) (by assumption) ?_
      rotate_left
      · (intro w; go_simp; try with_reducible rfl)
      simp only [Act.put, List.setIfInBounds_toArray, List.set_cons_zero, List.set_cons_succ]
      refine wpAnyG_pure (i := 20) (oi := { dst := some 47, op := Go.Op.move (Go.Operand.tmp 46), type := 4, pos := "law.go:148", after := #[{ on := 19, ground := Go.Ground.data }, { on := 16, ground := Go.Ground.chain }], guard := none }) (v := ?_) rfl (by kernel_rfl) (by kernel_rfl) (by kernel_rfl) (by kernel_rfl) (fun _ _ _ h => h) (Or.inl ⟨by rfl, ?_⟩) (by assumption) ?_
      rotate_left
      · (intro w; go_simp; try with_reducible rfl)
      simp only [Act.put, List.setIfInBounds_toArray, List.set_cons_zero, List.set_cons_succ]
      refine wpAnyG_take (i := 21) (oi := { dst := some 48, op := Go.Op.load 25 (Go.Operand.tmp 7), type := 25, pos := "law.go:148", after := #[{ on := 20, ground := Go.Ground.guard }], guard := some (20, true) }) (v := ?_) rfl (by kernel_rfl) (by kernel_rfl) (by kernel_rfl) (by kernel_rfl) (fun _ _ _ h => h) (Or.inl ⟨by rfl, ?_⟩) (by assumption) ?_
      rotate_left
      · (intro w hSw; (obtain ⟨⟨c0, c1, c2, c3, c4, c5⟩, e0, e1, e2, e3, e4, e5⟩ := And.intro hSw.1.six hSw.2.six); go_simp; try with_reducible rfl)
      simp only [Act.put, List.setIfInBounds_toArray, List.set_cons_zero, List.set_cons_succ]
      refine wpAnyG_ready (rs := [22]) (by kernel_rfl) (by simp) ?_
      refine AllReadyG.cons (o := { dst := some 49, op := Go.Op.call { callee := Go.Callee.value (Go.Operand.func 21), args := #[Go.Operand.tmp 48], argTypes := #[25] }, type := 4, pos := "law.go:148", after := #[{ on := 21, ground := Go.Ground.data }, { on := 20, ground := Go.Ground.chain }, { on := 20, ground := Go.Ground.guard }], guard := some (20, true) }) rfl (fun K hK => ?_) AllReadyG.nil
      go_simp
      go_at_call 21
      refine (H21.out _ k4).mono ?_
      rintro e U5 ⟨rfl, u5⟩
      go_wp2_with fail
      have k5 : Kp [] F U5 := k4.trans u5 (fun z hz => by simp at hz)
      refine hK.out _ _ ⟨At.kept hHeld4.1 u5 (by simp), At.kept hHeld4.2 u5 (by simp)⟩ (fun hHeld5 => ?_)
      clear hK K hHeld4
      try simp only [Act.put, List.setIfInBounds_toArray, List.set_cons_zero, List.set_cons_succ]
      refine wpAnyG_pure (i := 23) (oi := { dst := some 50, op := Go.Op.pick (Go.Operand.tmp 47) (Go.Operand.tmp 49) (Go.Operand.const (Go.Value.bool false)), type := 4, pos := "law.go:148", after := #[{ on := 20, ground := Go.Ground.data }, { on := 22, ground := Go.Ground.data }], guard := none }) (v := ?_) rfl (by kernel_rfl) (by kernel_rfl) (by kernel_rfl) (by kernel_rfl) (fun _ _ _ h => h) (Or.inl ⟨by rfl, ?_⟩) (by assumption) ?_
      rotate_left
      · (intro w; go_simp; try with_reducible rfl)
      simp only [Act.put, List.setIfInBounds_toArray, List.set_cons_zero, List.set_cons_succ]
      refine wpAnyG_pure (i := 24) (oi := { dst := some 51, op := Go.Op.move (Go.Operand.tmp 50), type := 4, pos := "law.go:148", after := #[{ on := 23, ground := Go.Ground.data }, { on := 22, ground := Go.Ground.chain }], guard := none }) (v := ?_) rfl (by kernel_rfl) (by kernel_rfl) (by kernel_rfl) (by kernel_rfl) (fun _ _ _ h => h) (Or.inl ⟨by rfl, ?_⟩) (by assumption) ?_
      rotate_left
      · (intro w; go_simp; try with_reducible rfl)
      simp only [Act.put, List.setIfInBounds_toArray, List.set_cons_zero, List.set_cons_succ]
      refine wpAnyG_take (i := 25) (oi := { dst := some 52, op := Go.Op.load 25 (Go.Operand.tmp 7), type := 25, pos := "law.go:148", after := #[{ on := 24, ground := Go.Ground.guard }], guard := some (24, true) }) (v := ?_) rfl (by kernel_rfl) (by kernel_rfl) (by kernel_rfl) (by kernel_rfl) (fun _ _ _ h => h) (Or.inl ⟨by rfl, ?_⟩) (by assumption) ?_
      rotate_left
      · (intro w hSw; (obtain ⟨⟨c0, c1, c2, c3, c4, c5⟩, e0, e1, e2, e3, e4, e5⟩ := And.intro hSw.1.six hSw.2.six); go_simp; try with_reducible rfl)
      simp only [Act.put, List.setIfInBounds_toArray, List.set_cons_zero, List.set_cons_succ]
      refine wpAnyG_take (i := 26) (oi := { dst := some 53, op := Go.Op.load 25 (Go.Operand.tmp 7), type := 25, pos := "law.go:148", after := #[{ on := 24, ground := Go.Ground.guard }], guard := some (24, true) }) (v := ?_) rfl (by kernel_rfl) (by kernel_rfl) (by kernel_rfl) (by kernel_rfl) (fun _ _ _ h => h) (Or.inl ⟨by rfl, ?_⟩) (by assumption) ?_
      rotate_left
      · (intro w hSw; (obtain ⟨⟨c0, c1, c2, c3, c4, c5⟩, e0, e1, e2, e3, e4, e5⟩ := And.intro hSw.1.six hSw.2.six); go_simp; try with_reducible rfl)
      simp only [Act.put, List.setIfInBounds_toArray, List.set_cons_zero, List.set_cons_succ]
      refine wpAnyG_ready (rs := [27]) (by kernel_rfl) (by simp) ?_
      refine AllReadyG.cons (o := { dst := some 54, op := Go.Op.call { callee := Go.Callee.value (Go.Operand.func 12), args := #[Go.Operand.tmp 53], argTypes := #[25] }, type := 25, pos := "law.go:148", after := #[{ on := 26, ground := Go.Ground.data }, { on := 24, ground := Go.Ground.chain }, { on := 24, ground := Go.Ground.guard }], guard := some (24, true) }) rfl (fun K hK => ?_) AllReadyG.nil
      go_simp
      go_at_call 12
      refine (H12.out _ k5).mono ?_
      rintro e U6 ⟨q, rfl, NQ, u6⟩
      go_wp2_with fail
      have k6 : Kp [] F U6 := k5.trans u6 (fun z hz => by simp at hz)
      refine hK.out _ _ ⟨At.kept hHeld5.1 u6 (by simp), At.kept hHeld5.2 u6 (by simp)⟩ (fun hHeld6 => ?_)
      clear hK K hHeld5
      try simp only [Act.put, List.setIfInBounds_toArray, List.set_cons_zero, List.set_cons_succ]
      refine wpAnyG_ready (rs := [28]) (by kernel_rfl) (by simp) ?_
      refine AllReadyG.cons (o := { dst := some 55, op := Go.Op.call { callee := Go.Callee.value (Go.Operand.func 14), args := #[Go.Operand.tmp 52, Go.Operand.tmp 54], argTypes := #[25, 25] }, type := 4, pos := "law.go:148", after := #[{ on := 25, ground := Go.Ground.data }, { on := 27, ground := Go.Ground.data }, { on := 27, ground := Go.Ground.chain }, { on := 24, ground := Go.Ground.guard }], guard := some (24, true) }) rfl (fun K hK => ?_) AllReadyG.nil
      go_simp
      go_at_call 14
      refine (H14.out _ q k6 NQ).mono ?_
      rintro e U7 ⟨rfl, u7⟩
      go_wp2_with fail
      have k7 : Kp [] F U7 := k6.trans u7 (fun z hz => by simp at hz)
      refine hK.out _ _ ⟨At.kept hHeld6.1 u7 (by simp), At.kept hHeld6.2 u7 (by simp)⟩ (fun hHeld7 => ?_)
      clear hK K hHeld6
      try simp only [Act.put, List.setIfInBounds_toArray, List.set_cons_zero, List.set_cons_succ]
      refine wpAnyG_pure (i := 29) (oi := { dst := some 56, op := Go.Op.pick (Go.Operand.tmp 51) (Go.Operand.tmp 55) (Go.Operand.const (Go.Value.bool false)), type := 4, pos := "law.go:148", after := #[{ on := 24, ground := Go.Ground.data }, { on := 28, ground := Go.Ground.data }], guard := none }) (v := ?_) rfl (by kernel_rfl) (by kernel_rfl) (by kernel_rfl) (by kernel_rfl) (fun _ _ _ h => h) (Or.inl ⟨by rfl, ?_⟩) (by assumption) ?_
      rotate_left
      · (intro w; go_simp; try with_reducible rfl)
      simp only [Act.put, List.setIfInBounds_toArray, List.set_cons_zero, List.set_cons_succ]
      refine wpAnyG_pure (i := 30) (oi := { dst := some 57, op := Go.Op.move (Go.Operand.tmp 56), type := 4, pos := "law.go:148", after := #[{ on := 29, ground := Go.Ground.data }, { on := 28, ground := Go.Ground.chain }], guard := none }) (v := ?_) rfl (by kernel_rfl) (by kernel_rfl) (by kernel_rfl) (by kernel_rfl) (fun _ _ _ h => h) (Or.inl ⟨by rfl, ?_⟩) (by assumption) ?_
      rotate_left
      · (intro w; go_simp; try with_reducible rfl)
      simp only [Act.put, List.setIfInBounds_toArray, List.set_cons_zero, List.set_cons_succ]
      refine wpAnyG_take (i := 31) (oi := { dst := some 58, op := Go.Op.load 25 (Go.Operand.tmp 7), type := 25, pos := "law.go:148", after := #[{ on := 30, ground := Go.Ground.guard }], guard := some (30, true) }) (v := ?_) rfl (by kernel_rfl) (by kernel_rfl) (by kernel_rfl) (by kernel_rfl) (fun _ _ _ h => h) (Or.inl ⟨by rfl, ?_⟩) (by assumption) ?_
      rotate_left
      · (intro w hSw; (obtain ⟨⟨c0, c1, c2, c3, c4, c5⟩, e0, e1, e2, e3, e4, e5⟩ := And.intro hSw.1.six hSw.2.six); go_simp; try with_reducible rfl)
      simp only [Act.put, List.setIfInBounds_toArray, List.set_cons_zero, List.set_cons_succ]
      refine wpAnyG_take (i := 32) (oi := { dst := some 59, op := Go.Op.load 25 (Go.Operand.tmp 5), type := 25, pos := "law.go:148", after := #[{ on := 30, ground := Go.Ground.guard }], guard := some (30, true) }) (v := ?_) rfl (by kernel_rfl) (by kernel_rfl) (by kernel_rfl) (by kernel_rfl) (fun _ _ _ h => h) (Or.inl ⟨by rfl, ?_⟩) (by assumption) ?_
      rotate_left
      · (intro w hSw; (obtain ⟨⟨c0, c1, c2, c3, c4, c5⟩, e0, e1, e2, e3, e4, e5⟩ := And.intro hSw.1.six hSw.2.six); go_simp; try with_reducible rfl)
      simp only [Act.put, List.setIfInBounds_toArray, List.set_cons_zero, List.set_cons_succ]
      refine wpAnyG_ready (rs := [33]) (by kernel_rfl) (by simp) ?_
      refine AllReadyG.cons (o := { dst := some 60, op := Go.Op.call { callee := Go.Callee.value (Go.Operand.func 14), args := #[Go.Operand.tmp 58, Go.Operand.tmp 59], argTypes := #[25, 25] }, type := 4, pos := "law.go:148", after := #[{ on := 31, ground := Go.Ground.data }, { on := 32, ground := Go.Ground.data }, { on := 30, ground := Go.Ground.chain }, { on := 30, ground := Go.Ground.guard }], guard := some (30, true) }) rfl (fun K hK => ?_) AllReadyG.nil
      go_simp
      go_at_call 14
      refine (H14b.out _ k7).mono ?_
      rintro e U8 ⟨rfl, u8⟩
      go_wp2_with fail
      have k8 : Kp [] F U8 := k7.trans u8 (fun z hz => by simp at hz)
      refine hK.out _ _ ⟨At.kept hHeld7.1 u8 (by simp), At.kept hHeld7.2 u8 (by simp)⟩ (fun hHeld8 => ?_)
      clear hK K hHeld7
      try simp only [Act.put, List.setIfInBounds_toArray, List.set_cons_zero, List.set_cons_succ]
      refine wpAnyG_pure (i := 34) (oi := { dst := some 61, op := Go.Op.unOp Go.UnOp.not 4 (Go.Operand.tmp 60), type := 4, pos := "law.go:148", after := #[{ on := 33, ground := Go.Ground.data }, { on := 30, ground := Go.Ground.guard }], guard := some (30, true) }) (v := ?_) rfl (by kernel_rfl) (by kernel_rfl) (by kernel_rfl) (by kernel_rfl) (fun _ _ _ h => h) (Or.inl ⟨by rfl, ?_⟩) (by assumption) ?_
      rotate_left
      · (intro w; go_simp; try with_reducible rfl)
      simp only [Act.put, List.setIfInBounds_toArray, List.set_cons_zero, List.set_cons_succ]
      refine wpAnyG_pure (i := 35) (oi := { dst := some 62, op := Go.Op.pick (Go.Operand.tmp 57) (Go.Operand.tmp 61) (Go.Operand.const (Go.Value.bool false)), type := 4, pos := "law.go:148", after := #[{ on := 30, ground := Go.Ground.data }, { on := 34, ground := Go.Ground.data }], guard := none }) (v := ?_) rfl (by kernel_rfl) (by kernel_rfl) (by kernel_rfl) (by kernel_rfl) (fun _ _ _ h => h) (Or.inl ⟨by rfl, ?_⟩) (by assumption) ?_
      rotate_left
      · (intro w; go_simp; try with_reducible rfl)
      simp only [Act.put, List.setIfInBounds_toArray, List.set_cons_zero, List.set_cons_succ]
      refine wpAnyG_pure (i := 36) (oi := { dst := some 63, op := Go.Op.move (Go.Operand.tmp 62), type := 4, pos := "law.go:148", after := #[{ on := 35, ground := Go.Ground.data }, { on := 33, ground := Go.Ground.chain }], guard := none }) (v := ?_) rfl (by kernel_rfl) (by kernel_rfl) (by kernel_rfl) (by kernel_rfl) (fun _ _ _ h => h) (Or.inl ⟨by rfl, ?_⟩) (by assumption) ?_
      rotate_left
      · (intro w; go_simp; try with_reducible rfl)
      simp only [Act.put, List.setIfInBounds_toArray, List.set_cons_zero, List.set_cons_succ]
      refine wpAnyG_ready (rs := [37]) (by kernel_rfl) (by simp) ?_
      refine AllReadyG.cons (o := { dst := some 64, op := Go.Op.call { callee := Go.Callee.value (Go.Operand.func 10), args := #[], argTypes := #[] }, type := 4, pos := "law.go:148", after := #[{ on := 36, ground := Go.Ground.chain }, { on := 36, ground := Go.Ground.guard }], guard := some (36, true) }) rfl (fun K hK => ?_) AllReadyG.nil
      go_simp
      go_at_call 10
      refine (known_any _).mono ?_
      rintro e U9 ⟨rfl, u9⟩
      go_wp2_with fail
      have k9 : Kp [] F U9 := k8.trans u9 (fun z hz => by simp at hz)
      refine hK.out _ _ ⟨At.kept hHeld8.1 u9 (by simp), At.kept hHeld8.2 u9 (by simp)⟩ (fun hHeld9 => ?_)
      clear hK K hHeld8
      try simp only [Act.put, List.setIfInBounds_toArray, List.set_cons_zero, List.set_cons_succ]
      refine wpAnyG_pure (i := 38) (oi := { dst := some 65, op := Go.Op.pick (Go.Operand.tmp 63) (Go.Operand.tmp 64) (Go.Operand.const (Go.Value.bool false)), type := 4, pos := "law.go:148", after := #[{ on := 36, ground := Go.Ground.data }, { on := 37, ground := Go.Ground.data }], guard := none }) (v := ?_) rfl (by kernel_rfl) (by kernel_rfl) (by kernel_rfl) (by kernel_rfl) (fun _ _ _ h => h) (Or.inl ⟨by rfl, ?_⟩) (by assumption) ?_
      rotate_left
      · (intro w; go_simp; try with_reducible rfl)
      simp only [Act.put, List.setIfInBounds_toArray, List.set_cons_zero, List.set_cons_succ]
      refine wpAnyG_pure (i := 39) (oi := { dst := some 4, op := Go.Op.assign (Go.Operand.tmp 65), type := 4, pos := "law.go:148", after := #[{ on := 38, ground := Go.Ground.data }, { on := 37, ground := Go.Ground.chain }, { on := 0, ground := Go.Ground.phase }, { on := 1, ground := Go.Ground.phase }, { on := 2, ground := Go.Ground.phase }, { on := 3, ground := Go.Ground.phase }, { on := 4, ground := Go.Ground.phase }, { on := 5, ground := Go.Ground.phase }, { on := 6, ground := Go.Ground.phase }, { on := 7, ground := Go.Ground.phase }, { on := 8, ground := Go.Ground.phase }, { on := 9, ground := Go.Ground.phase }, { on := 10, ground := Go.Ground.phase }, { on := 11, ground := Go.Ground.phase }, { on := 12, ground := Go.Ground.phase }, { on := 13, ground := Go.Ground.phase }, { on := 14, ground := Go.Ground.phase }, { on := 15, ground := Go.Ground.phase }, { on := 16, ground := Go.Ground.phase }, { on := 17, ground := Go.Ground.phase }, { on := 18, ground := Go.Ground.phase }, { on := 19, ground := Go.Ground.phase }, { on := 20, ground := Go.Ground.phase }, { on := 21, ground := Go.Ground.phase }, { on := 22, ground := Go.Ground.phase }, { on := 23, ground := Go.Ground.phase }, { on := 24, ground := Go.Ground.phase }, { on := 25, ground := Go.Ground.phase }, { on := 26, ground := Go.Ground.phase }, { on := 27, ground := Go.Ground.phase }, { on := 28, ground := Go.Ground.phase }, { on := 29, ground := Go.Ground.phase }, { on := 30, ground := Go.Ground.phase }, { on := 31, ground := Go.Ground.phase }, { on := 32, ground := Go.Ground.phase }, { on := 33, ground := Go.Ground.phase }, { on := 34, ground := Go.Ground.phase }, { on := 35, ground := Go.Ground.phase }, { on := 36, ground := Go.Ground.phase }, { on := 37, ground := Go.Ground.phase }, { on := 38, ground := Go.Ground.phase }], guard := none }) (v := ?_) rfl (by kernel_rfl) (by kernel_rfl) (by kernel_rfl) (by kernel_rfl) (fun _ _ _ h => h) (Or.inl ⟨by rfl, ?_⟩) (by assumption) ?_
      rotate_left
      · (intro w; go_simp; try with_reducible rfl)
      simp only [Act.put, List.setIfInBounds_toArray, List.set_cons_zero, List.set_cons_succ]
      refine wpAnyG_free (by kernel_rfl) ?_
      refine wpAny_done (by kernel_rfl) ?_ _
      go_wp2
      go_ret
      exact ⟨rfl, KF.out.trans k9 (fun z hz => by simp at hz)⟩

end Go.Proofs.Ytgnbafgglkncmaa
