/-
  Joined: Label RefA RefC.
-/
import Derived.Test.YtgjkfpmhgidpaaaGreatGT
import Derived.Deep.RegionHeld3
import Derived.BigQuiet
import Derived.Deep.RegionWith
import Derived.Test.YtgjkfpmhgidpaaaGreatGP

/-
  Labels held against each other: isLabelled of the program, Label of the document.
-/
namespace Go.Proofs.YtgjkfpmhgidpaaaGreat
open Go.RowKit
set_option linter.unusedVariables false

theorem eqs_no {x y : ByteArray} (h : ¬ x = y) : (x.toList == y.toList) = false := by
  cases hx : eqs x y with
  | false => exact hx
  | true => exact absurd (eqs_iff.1 hx) h
theorem eqs_yes {x y : ByteArray} (h : x = y) : (x.toList == y.toList) = true := eqs_iff.2 h

set_option maxRecDepth 100000 in
set_option maxHeartbeats 1000000 in
theorem label_any (w : World) (b off : Nat) (l m : Lb) (p q : Pl) (hc : Cl w b off l p) (h1 : Rp w p.1.1 p.1.2.1 p.1.2.2 l.attrs) (h2 : Rp w q.1.1 q.1.2.1 q.1.2.2 m.attrs) (hl : p.1.2.1 ≤ 100000) (hm : q.1.2.1 ≤ 100000) :
    Calls Tryz.prog 91 #[.pointer (some ⟨b, off, none⟩), wv m q] w fun e w' => e = .returned (.bool (sameL l m)) ∧ Kp [] w w' := by
  obtain ⟨A, hA⟩ : ∃ A, sameL l m = A := ⟨_, rfl⟩
  rw [hA]
  have hbl := hc.lt
  have k0 : Kp [] w (w.alloc (.cells (six m q).toArray 38)) := (Kp.refl _ _).alloc _
  have HC : Hid (∀ W, Kp [] w W → Calls Tryz.prog 107 #[.slice p.1.1 p.1.2.1 p.1.2.2, .slice q.1.1 q.1.2.1 q.1.2.2] W fun e w' => e = .returned (.bool (same l.attrs m.attrs)) ∧ Kp [] W w') := fun W k => same_any W _ _ _ _ _ _ _ _ (h1.kept k) (h2.kept k) hl hm
  have hn := heap_new w (.cells (six m q).toArray 38)
  have HS : Hid (∀ W, Kp [] (w.alloc (.cells (six m q).toArray 38)) W → (W.cell? ⟨b, off, none⟩ = some (.int .i64 l.kind) ∧ W.cell? ⟨b, off + 1, none⟩ = some (.int .i64 l.ns) ∧ W.cell? ⟨b, off + 2, none⟩ = some (.string l.name) ∧ W.cell? ⟨b, off + 3, none⟩ = some (.slice p.1.1 p.1.2.1 p.1.2.2) ∧ W.cell? ⟨b, off + 4, none⟩ = some (.string l.text)) ∧ (W.cell? ⟨w.heap.size, 0, none⟩ = some (.int .i64 m.kind) ∧ W.cell? ⟨w.heap.size, 1, none⟩ = some (.int .i64 m.ns) ∧ W.cell? ⟨w.heap.size, 2, none⟩ = some (.string m.name) ∧ W.cell? ⟨w.heap.size, 3, none⟩ = some (.slice q.1.1 q.1.2.1 q.1.2.2) ∧ W.cell? ⟨w.heap.size, 4, none⟩ = some (.string m.text))) := fun W k => by
    have c1 := ((hc.keep k0 (by simp)).keep k (by simp)).cells
    have c2 : W.heap[w.heap.size]? = some (.cells (six m q).toArray 38 (0, 0)) := (k.block _ (by simp) (by simp)).trans hn
    exact ⟨⟨c1.1, c1.2.1, c1.2.2.1, c1.2.2.2.1, c1.2.2.2.2.1⟩, cell_of c2 0, cell_of c2 1, cell_of c2 2, cell_of c2 3, cell_of c2 4⟩
  have K0 : Hid (Kp [] w (w.alloc (.cells (six m q).toArray 38))) := k0
  clear hn k0 h1 h2
  obtain ⟨c0, c1, c2, c3, c4, _⟩ := hc.cells
  clear hc
  simp only [six, wv] at HS K0 ⊢
  by_cases e1 : l.kind = m.kind
  · have q1 : ((l.kind : Int) == (m.kind : Int)) = true := by simpa using e1
    by_cases e2 : l.ns = m.ns
    · have q2 : ((l.ns : Int) == (m.ns : Int)) = true := by simpa using e2
      by_cases e3 : l.name = m.name
      · have q3 : (l.name.toList == m.name.toList) = true := eqs_yes e3
        by_cases e4 : l.text = m.text
        · have q4 : (l.text.toList == m.text.toList) = true := eqs_yes e4
          obtain rfl : A = same l.attrs m.attrs := by
            rw [← hA]
            unfold sameL same
            exact decide_eq_decide.2 ⟨fun h => by rw [h], fun h => Prod.ext e1 (Prod.ext e2 (Prod.ext e3 (Prod.ext h e4)))⟩
          clear hA
          go_enter Tryz.func91, Tryz.ntmps91
          go_wp2_with fail
          go_region_held3 (fun w' => (w'.cell? ⟨b, off, none⟩ = some (.int .i64 l.kind) ∧ w'.cell? ⟨b, off + 1, none⟩ = some (.int .i64 l.ns) ∧ w'.cell? ⟨b, off + 2, none⟩ = some (.string l.name) ∧ w'.cell? ⟨b, off + 3, none⟩ = some (.slice p.1.1 p.1.2.1 p.1.2.2) ∧ w'.cell? ⟨b, off + 4, none⟩ = some (.string l.text)) ∧ (w'.cell? ⟨w.heap.size, 0, none⟩ = some (.int .i64 m.kind) ∧ w'.cell? ⟨w.heap.size, 1, none⟩ = some (.int .i64 m.ns) ∧ w'.cell? ⟨w.heap.size, 2, none⟩ = some (.string m.name) ∧ w'.cell? ⟨w.heap.size, 3, none⟩ = some (.slice q.1.1 q.1.2.1 q.1.2.2) ∧ w'.cell? ⟨w.heap.size, 4, none⟩ = some (.string m.text)))
            (first
              | exact HS.out _ K1.out
              | exact HS.out _ (Kp.refl _ _).drew)
            (first | (go_at_call 107; refine (HC.out _ K0.out.drew).mono ?_; rintro e w1 ⟨rfl, k1⟩; have K1 : Hid (Kp [] (w.alloc (.cells #[.int .i64 m.kind, .int .i64 m.ns, .string m.name, .slice q.1.1 q.1.2.1 q.1.2.2, .string m.text, .slice q.2.1 q.2.2.1 q.2.2.2] 38)) w1) := (Kp.refl _ _).drew.trans k1 (fun x hx => Or.inl hx)))
          go_wp2
          go_ret
          exact ⟨rfl, K0.out.trans K1.out (fun x hx => Or.inl hx)⟩
        · have q4 : (l.text.toList == m.text.toList) = false := eqs_no e4
          obtain rfl : A = false := by rw [← hA]; exact decide_eq_false (fun h => e4 (by rw [h]))
          clear e1 e2 e3 e4
          clear HC HS hA
          go_enter Tryz.func91, Tryz.ntmps91
          go_wp2_with fail
          go_quiet (fail)
          go_wp2
          go_ret
          exact ⟨rfl, K0.out.drewN nq⟩
      · have q3 : (l.name.toList == m.name.toList) = false := eqs_no e3
        obtain rfl : A = false := by rw [← hA]; exact decide_eq_false (fun h => e3 (by rw [h]))
        clear e1 e2 e3
        clear HC HS hA
        go_enter Tryz.func91, Tryz.ntmps91
        go_wp2_with fail
        go_quiet (fail)
        go_wp2
        go_ret
        exact ⟨rfl, K0.out.drewN nq⟩
    · have q2 : ((l.ns : Int) == (m.ns : Int)) = false := by simpa using e2
      obtain rfl : A = false := by rw [← hA]; exact decide_eq_false (fun h => e2 (by rw [h]))
      clear e1 e2
      clear HC HS hA
      go_enter Tryz.func91, Tryz.ntmps91
      go_wp2_with fail
      go_quiet (fail)
      go_wp2
      go_ret
      exact ⟨rfl, K0.out.drewN nq⟩
  · have q1 : ((l.kind : Int) == (m.kind : Int)) = false := by simpa using e1
    obtain rfl : A = false := by rw [← hA]; exact decide_eq_false (fun h => e1 (by rw [h]))
    clear e1
    clear HC HS hA
    go_enter Tryz.func91, Tryz.ntmps91
    go_wp2_with fail
    go_quiet (fail)
    go_wp2
    go_ret
    exact ⟨rfl, K0.out.drewN nq⟩

set_option maxRecDepth 100000 in
set_option maxHeartbeats 1000000 in
theorem ref_label_any (w : World) (l m : Lb) (p q : Pl) (h1 : Rp w p.1.1 p.1.2.1 p.1.2.2 l.attrs) (h2 : Rp w q.1.1 q.1.2.1 q.1.2.2 m.attrs) (hl : p.1.2.1 ≤ 100000) (hm : q.1.2.1 ≤ 100000) :
    Calls Tryz.prog 78 #[wv l p, wv m q] w fun e w' => e = .returned (.bool (sameL l m)) ∧ Kp [] w w' := by
  obtain ⟨A, hA⟩ : ∃ A, sameL l m = A := ⟨_, rfl⟩
  rw [hA]
  have k0 : Kp [] w ((w.alloc (.cells (six l p).toArray 38)).alloc (.cells (six m q).toArray 38)) := ((Kp.refl _ _).alloc _).alloc _
  have HC := ref_same_any _ _ _ _ _ _ _ _ _ (h1.kept k0) (h2.kept k0) hl hm
  clear h1 h2
  simp only [six, wv] at HC k0 ⊢
  by_cases e1 : l.kind = m.kind
  · have q1 : ((l.kind : Int) == (m.kind : Int)) = true := by simpa using e1
    by_cases e2 : l.ns = m.ns
    · have q2 : ((l.ns : Int) == (m.ns : Int)) = true := by simpa using e2
      by_cases e3 : l.name = m.name
      · have q3 : (l.name.toList == m.name.toList) = true := eqs_yes e3
        by_cases e4 : l.text = m.text
        · have q4 : (l.text.toList == m.text.toList) = true := eqs_yes e4
          obtain rfl : A = same l.attrs m.attrs := by
            rw [← hA]
            unfold sameL same
            exact decide_eq_decide.2 ⟨fun h => by rw [h], fun h => Prod.ext e1 (Prod.ext e2 (Prod.ext e3 (Prod.ext h e4)))⟩
          clear hA e1 e2 e3 e4
          go_enter Tryz.func78, Tryz.ntmps78
          go_wp2_with (go_at_call 100; refine HC.mono ?_; rintro e w1 ⟨rfl, k1⟩)
          go_ret
          exact ⟨rfl, k0.trans k1 (fun x hx => Or.inl hx)⟩
        · have q4 : (l.text.toList == m.text.toList) = false := eqs_no e4
          obtain rfl : A = false := by rw [← hA]; exact decide_eq_false (fun h => e4 (by rw [h]))
          clear e1 e2 e3 e4
          clear HC hA
          go_enter Tryz.func78, Tryz.ntmps78
          go_wp2
          go_ret
          exact ⟨rfl, k0⟩
      · have q3 : (l.name.toList == m.name.toList) = false := eqs_no e3
        obtain rfl : A = false := by rw [← hA]; exact decide_eq_false (fun h => e3 (by rw [h]))
        clear e1 e2 e3
        clear HC hA
        go_enter Tryz.func78, Tryz.ntmps78
        go_wp2
        go_ret
        exact ⟨rfl, k0⟩
    · have q2 : ((l.ns : Int) == (m.ns : Int)) = false := by simpa using e2
      obtain rfl : A = false := by rw [← hA]; exact decide_eq_false (fun h => e2 (by rw [h]))
      clear e1 e2
      clear HC hA
      go_enter Tryz.func78, Tryz.ntmps78
      go_wp2
      go_ret
      exact ⟨rfl, k0⟩
  · have q1 : ((l.kind : Int) == (m.kind : Int)) = false := by simpa using e1
    obtain rfl : A = false := by rw [← hA]; exact decide_eq_false (fun h => e1 (by rw [h]))
    clear e1
    clear HC hA
    go_enter Tryz.func78, Tryz.ntmps78
    go_wp2
    go_ret
    exact ⟨rfl, k0⟩

end Go.Proofs.YtgjkfpmhgidpaaaGreat

/-
  Count, Depth and Text of the document: they call themselves.
-/
namespace Go.Proofs.YtgjkfpmhgidpaaaGreat
open Go.RowKit
set_option linter.unusedVariables false

theorem all_at {C : Lb → Fo → Prop} {k : Fo} (h : k.All C) {i : Nat} {l' : Lb} {k' r : Fo} (e : k.drop i = .cons l' k' r) : C l' k' := by
  have := Fo.all_drop i h
  rw [e] at this
  exact ((Fo.all_cons ..).1 this).1

theorem take_cnt {k : Fo} {i : Nat} {l' : Lb} {k' : Fo} (e : k.drop i = .cons l' k' (k.drop (i + 1))) : (k.take (i + 1)).cnt = (k.take i).cnt + (1 + k'.cnt) := by
  rw [Fo.take_succ e, Fo.cnt_app, Fo.cnt_cons, Fo.cnt_nil]; rfl
theorem take_dep {k : Fo} {i : Nat} {l' : Lb} {k' : Fo} (e : k.drop i = .cons l' k' (k.drop (i + 1))) : (k.take (i + 1)).dep = max (k.take i).dep (k'.dep + 1) := by
  rw [Fo.take_succ e, Fo.dep_app, Fo.dep_cons, Fo.dep_nil]; omega
theorem take_fold {g : Lb → ByteArray} {k : Fo} {i : Nat} {l' : Lb} {k' : Fo} (e : k.drop i = .cons l' k' (k.drop (i + 1))) : (k.take (i + 1)).fold g = (k.take i).fold g ++ (g l' ++ k'.fold g) := by
  rw [Fo.take_succ e, Fo.fold_app, Fo.fold_cons, Fo.fold_nil, Fo.cat_none]
theorem take_all {k : Fo} {i : Nat} (h : k.len ≤ i) : k.take i = k := by
  have h1 := Fo.take_drop i k
  have h2 : k.drop i = .nil := Fo.len_zero.1 (by rw [Fo.len_drop]; omega)
  rw [h2, Fo.app_nil'] at h1
  exact h1
theorem take_cnt_le (k : Fo) (i : Nat) : (k.take i).cnt ≤ k.cnt := by
  have := congrArg Fo.cnt (Fo.take_drop i k)
  rw [Fo.cnt_app] at this
  omega
theorem take_dep_le (k : Fo) (i : Nat) : (k.take i).dep ≤ k.dep := by
  have := congrArg Fo.dep (Fo.take_drop i k)
  rw [Fo.dep_app] at this
  omega
theorem kid_cnt {k : Fo} {i : Nat} {l' : Lb} {k' r : Fo} (e : k.drop i = .cons l' k' r) : k'.cnt < k.cnt := by
  have h := congrArg Fo.cnt (Fo.take_drop i k)
  rw [Fo.cnt_app, e, Fo.cnt_cons] at h
  omega

/-- A kid, as it lies in a later world. -/
theorem Nd.kid {w W : World} {l : Lb} {k : Fo} {p : Pl} (h : Nd Any w l k p) (kW : Kp [] w W) {i : Nat} {l' : Lb} {k' : Fo} (e : k.drop i = .cons l' k' (k.drop (i + 1))) : ∃ p' b off, p.2.1 = some ⟨b, off, none⟩ ∧ Nd Any W l' k' p' ∧ Cl W b (off + i * 6) l' p' := by
  obtain ⟨p', b, off, _, h1, h2, h3⟩ := h.kids.at e
  exact ⟨p', b, off, h1, h2.kept kW, h3.keep kW (by simp)⟩


end Go.Proofs.YtgjkfpmhgidpaaaGreat

/-
  Same of the document.
-/
namespace Go.Proofs.YtgjkfpmhgidpaaaGreat
open Go.RowKit
set_option linter.unusedVariables false

theorem each_drop {P : Lb → Prop} (n : Nat) {f : Fo} (h : f.Each P) : (f.drop n).Each P := by
  have := Fo.ind (P := fun f => f.Each P → ∀ n, (f.drop n).Each P) (fun _ n => by rw [show Fo.nil.drop n = .nil from Fo.len_zero.1 (by rw [Fo.len_drop]; simp)]; trivial) (fun l k r _ hr h n => by
    cases n with
    | zero => simpa using h
    | succ n => exact hr h.2.2 n) f
  exact this h n

theorem kid_each {P : Lb → Prop} {k : Fo} (h : k.Each P) {i : Nat} {l' : Lb} {k' r : Fo} (e : k.drop i = .cons l' k' r) : P l' ∧ k'.Each P := by
  have := each_drop i h
  rw [e] at this
  exact ⟨this.1, this.2.1⟩

/-- A kid of a tree that is not too great. -/
theorem okT.kid {l : Lb} {k : Fo} (h : okT l k) {i : Nat} {l' : Lb} {k' r : Fo} (e : k.drop i = .cons l' k' r) : okT l' k' := by
  have h1 := kid_each h.1.2.1 e
  have h2 := kid_cnt e
  exact ⟨⟨h1.1, h1.2, trivial⟩, by have := h.2; omega⟩

def CTsame (l : Lb) (k : Fo) : Prop := ∀ (w : World) (p : Pl) (l' : Lb) (k' : Fo) (p' : Pl), Nd Any w l k p → Nd Any w l' k' p' → okT l k → okT l' k' → Calls Tryz.prog 55 #[wv l p, wv l' p'] w fun e w' => e = .returned (.bool (sameT l k l' k')) ∧ Kp [] w w'

set_option maxRecDepth 100000 in
set_option maxHeartbeats 1500000 in
theorem ref_tsame_any (l : Lb) (k : Fo) : CTsame l k := by
  refine Fo.up (C := CTsame) (fun l k hall => ?_) l k
  intro w p l' k' p' h h' ho ho'
  obtain ⟨B, hB⟩ : ∃ B, B = (w.alloc (.cells (six l p).toArray 38)).alloc (.cells (six l' p').toArray 38) := ⟨_, rfl⟩
  have k0 : Kp [] w B := by rw [hB]; exact ((Kp.refl _ _).alloc _).alloc _
  have g1 : B.heap[w.heap.size]? = some (.cells (six l p).toArray 38 (0, 0)) := by rw [hB, Below.heap_alloc _ _ _ (by simp)]; exact heap_new _ _
  have g2 : B.heap[w.heap.size + 1]? = some (.cells (six l' p').toArray 38 (0, 0)) := by rw [hB]; exact heap_new' _ _ _ (by simp)
  have HW : Hid ((w.alloc (.cells #[.int .i64 l.kind, .int .i64 l.ns, .string l.name, .slice p.1.1 p.1.2.1 p.1.2.2, .string l.text, .slice p.2.1 p.2.2.1 p.2.2.2] 38)).alloc (.cells #[.int .i64 l'.kind, .int .i64 l'.ns, .string l'.name, .slice p'.1.1 p'.1.2.1 p'.1.2.2, .string l'.text, .slice p'.2.1 p'.2.2.1 p'.2.2.2] 38) = B) := hB.symm
  have HL : Hid (∀ V, Kp [] w V → Calls Tryz.prog 78 #[wv l p, wv l' p'] V fun e w' => e = .returned (.bool (sameL l l')) ∧ Kp [] V w') := fun V kV => ref_label_any V l l' p p' (h.kept kV).at'.rp (h'.kept kV).at'.rp (by have := ((Fo.each_cons ..).1 ho.1).1.1; have := h.alen; omega) (by have := ((Fo.each_cons ..).1 ho'.1).1.1; have := h'.alen; omega)
  have hkl := h.klen
  have hkl' := h'.klen
  have hm : p.2.2.1 ≤ 20000 := by have := Fo.len_le_cnt k; have := ho.2; omega
  have hm' : p'.2.2.1 ≤ 20000 := by have := Fo.len_le_cnt k'; have := ho'.2; omega
  have HK : Hid (∀ (i : Nat), i < p.2.2.1 → i < p'.2.2.1 → ∃ l1 k1 p1 b1 off1 l2 k2 p2 b2 off2, p.2.1 = some ⟨b1, off1, none⟩ ∧ p'.2.1 = some ⟨b2, off2, none⟩ ∧ (∀ V, Kp [] w V → Cl V b1 (off1 + i * 6) l1 p1 ∧ Cl V b2 (off2 + i * 6) l2 p2) ∧ (sameT l1 k1 l2 k2 = true → k.take i = k'.take i → k.take (i + 1) = k'.take (i + 1)) ∧ (sameT l1 k1 l2 k2 = false → k ≠ k') ∧ ∀ V, Kp [] w V → Calls Tryz.prog 55 #[wv l1 p1, wv l2 p2] V fun e w' => e = .returned (.bool (sameT l1 k1 l2 k2)) ∧ Kp [] V w') := fun i hi hi' => by
    obtain ⟨l1, k1, e1⟩ := Fo.at_lt (show i < k.len by omega)
    obtain ⟨p1, b1, off1, a1, a2, a3⟩ := h.kid (Kp.refl _ _) e1
    obtain ⟨l2, k2, e2⟩ := Fo.at_lt (show i < k'.len by omega)
    obtain ⟨p2, b2, off2, c1, c2, c3⟩ := h'.kid (Kp.refl _ _) e2
    refine ⟨l1, k1, p1, b1, off1, l2, k2, p2, b2, off2, a1, c1, fun V kV => ⟨a3.keep kV (by simp), c3.keep kV (by simp)⟩, fun hs ht => ?_, fun hs hk => ?_, fun V kV => ?_⟩
    · obtain ⟨rfl, rfl⟩ := (sameT_iff ..).1 hs
      rw [Fo.take_succ e1, Fo.take_succ e2, ht]
    · rw [hk, e2] at e1
      have z := congrArg (fun f : Fo => f.same sameL (.cons l1 k1 (k'.drop (i + 1)))) e1
      have z2 : (Fo.cons l1 k1 (k'.drop (i + 1))).same sameL (.cons l1 k1 (k'.drop (i + 1))) = true := (Fo.same_eq (q := sameL) (fun a b => by simp [sameL]) _).2 rfl
      simp only [z2] at z
      rw [Fo.same_cons, Bool.and_eq_true, Bool.and_eq_true] at z
      have z3 : sameT l2 k2 l1 k1 = true := by unfold sameT; rw [z.1.1, z.1.2]; rfl
      rw [sameT_comm, z3] at hs
      exact absurd hs (by simp)
    · exact all_at hall e1 V p1 l2 k2 p2 (a2.kept kV) (c2.kept kV) (ho.kid e1) (ho'.kid e2)
  have sB : B.heap.size = w.heap.size + 1 + 1 := by rw [hB]; simp
  have HX : Hid (∀ W, Kp [] B W → W.cell? ⟨w.heap.size, 5, none⟩ = some (.slice p.2.1 p.2.2.1 p.2.2.2) ∧ W.cell? ⟨w.heap.size + 1, 5, none⟩ = some (.slice p'.2.1 p'.2.2.1 p'.2.2.2)) := fun W kW => ⟨cell_of ((kW.block _ (by omega) (by simp)).trans g1) 5, cell_of ((kW.block _ (by omega) (by simp)).trans g2) 5⟩
  have HE : Hid (p.2.2.1 = p'.2.2.1 → k.take p.2.2.1 = k'.take p.2.2.1 → k = k') := fun e1 e2 => by
    rw [take_all (by omega), take_all (by omega)] at e2; exact e2
  have HF : Hid (p.2.2.1 ≠ p'.2.2.1 → k ≠ k') := fun e1 e2 => e1 (by rw [hkl, hkl', e2])
  have HT : Hid (k.take 0 = k'.take 0) := by show k.take 0 = k'.take 0; rw [Fo.take_zero, Fo.take_zero]
  have KB : Hid (Kp [] w B) := k0
  have HA : Hid (sameL l l' = true → k = k' → sameT l k l' k' = true) := fun h1 h2 => (sameT_iff ..).2 ⟨(of_decide_eq_true h1), h2⟩
  have HN : Hid ((sameL l l' = false ∨ k ≠ k') → sameT l k l' k' = false) := fun h1 => by
    cases hb : sameT l k l' k' with
    | false => rfl
    | true =>
      obtain ⟨rfl, rfl⟩ := (sameT_iff ..).1 hb
      rcases h1 with h1 | h1
      · exact absurd rfl (of_decide_eq_false h1)
      · exact absurd rfl h1
  generalize sameT l k l' k' = A at HA HN ⊢
  clear h h' ho ho' hall g1 g2 hB sB k0 hkl hkl'
  obtain ⟨⟨pa, pn, pcap⟩, bo, m, d⟩ := p
  obtain ⟨⟨pa', pn', pcap'⟩, bo', m', d'⟩ := p'
  simp only [wv] at HL HW HX HK HE HF hm hm' ⊢
  have HL0 := HL.out _ KB.out
  have HX0 := (HX.out _ (Kp.refl _ _))
  rw [← HW.out] at HL0
  cases hL : sameL l l' with
  | false =>
    have hA := HN.out (Or.inl hL)
    rw [hL] at HL0
    clear HK HE HF HT HA HN HX HX0 HL hL
    go_enter Tryz.func55, Tryz.ntmps55
    go_wp2_with (go_at_call 78; refine HL0.mono ?_; rintro e w1 ⟨rfl, K1⟩; rw [HW.out] at K1)
    go_ret
    exact ⟨by subst hA; rfl, KB.out.trans K1 (fun x hx => Or.inl hx)⟩
  | true =>
    rw [hL] at HL0 HA
    by_cases hmm : m = m'
    · subst hmm
      have q1 : ((m : Int) == (m : Int)) = true := by simp
      clear HF HL
      go_enter Tryz.func55, Tryz.ntmps55
      go_wp2_with (go_at_call 78; refine HL0.mono ?_; rintro e w1 ⟨rfl, K1⟩; rw [HW.out] at K1; obtain ⟨z1, z2⟩ := HX.out _ K1)
      clear HL0 HX0 z1 z2
      go_loopw [5] (fun x5 wr => ∃ i : Nat, x5 = .int .i64 i ∧ i ≤ m ∧ k.take i = k'.take i ∧ Kp [] B wr) (fun x5 wr => m - (intOf x5).toNat)
      case atStart => exact ⟨0, rfl, Nat.zero_le _, HT.out, K1⟩
      case round =>
        obtain ⟨i, rfl, hi, htk, kr⟩ := hrel
        obtain ⟨c5, c6⟩ := HX.out _ kr
        have KR : Hid (Kp [] w wr) := KB.out.trans kr (fun x hx => Or.inl hx)
        by_cases hlt : i < m
        · obtain ⟨l1, k1, p1, b1, off1, l2, k2, p2, b2, off2, rfl, rfl, hcl, hy, hn, HC⟩ := HK.out i hlt hlt
          have KZ : Hid (Kp [] B wr) := kr
          have HY : Hid (sameT l1 k1 l2 k2 = true → k.take (i + 1) = k'.take (i + 1)) := fun h => hy h htk
          have HZ : Hid (sameT l1 k1 l2 k2 = false → A = false) := fun h => HN.out (Or.inr (hn h))
          have HCL : Hid (∀ V, Kp [] w V → Cl V b1 (off1 + i * 6) l1 p1 ∧ Cl V b2 (off2 + i * 6) l2 p2) := hcl
          have HCC := HC _ KR.out.drew
          have j1 : (0 : Int) ≤ (i : Int) := by omega
          have j2 : (i : Int) < (m : Int) := by omega
          generalize sameT l1 k1 l2 k2 = N' at HC HCC HY HZ hy hn
          clear hcl hy hn htk HK HE HT HA HN HC kr
          cases N' with
          | true =>
            have HD := HY.out rfl
            clear HY HZ
            go_wp2_with fail
            go_region_held3 (fun V => (V.cell? ⟨w.heap.size, 5, none⟩ = some (.slice (some ⟨b1, off1, none⟩) m d) ∧ V.cell? ⟨w.heap.size + 1, 5, none⟩ = some (.slice (some ⟨b2, off2, none⟩) m d')) ∧ (V.cell? ⟨b1, off1 + i * 6, none⟩ = some (.int .i64 l1.kind) ∧ V.cell? ⟨b1, off1 + i * 6 + 1, none⟩ = some (.int .i64 l1.ns) ∧ V.cell? ⟨b1, off1 + i * 6 + 2, none⟩ = some (.string l1.name) ∧ V.cell? ⟨b1, off1 + i * 6 + 3, none⟩ = some (.slice p1.1.1 p1.1.2.1 p1.1.2.2) ∧ V.cell? ⟨b1, off1 + i * 6 + 4, none⟩ = some (.string l1.text) ∧ V.cell? ⟨b1, off1 + i * 6 + 5, none⟩ = some (.slice p1.2.1 p1.2.2.1 p1.2.2.2)) ∧ (V.cell? ⟨b2, off2 + i * 6, none⟩ = some (.int .i64 l2.kind) ∧ V.cell? ⟨b2, off2 + i * 6 + 1, none⟩ = some (.int .i64 l2.ns) ∧ V.cell? ⟨b2, off2 + i * 6 + 2, none⟩ = some (.string l2.name) ∧ V.cell? ⟨b2, off2 + i * 6 + 3, none⟩ = some (.slice p2.1.1 p2.1.2.1 p2.1.2.2) ∧ V.cell? ⟨b2, off2 + i * 6 + 4, none⟩ = some (.string l2.text) ∧ V.cell? ⟨b2, off2 + i * 6 + 5, none⟩ = some (.slice p2.2.1 p2.2.2.1 p2.2.2.2)))
              (first
                | exact ⟨HX.out _ (KZ.out.trans Q1.out (fun x hx => Or.inl hx)), (HCL.out _ (KR.out.trans Q1.out (fun x hx => Or.inl hx))).1.cells, (HCL.out _ (KR.out.trans Q1.out (fun x hx => Or.inl hx))).2.cells⟩
                | exact ⟨HX.out _ KZ.out.drew, (HCL.out _ KR.out.drew).1.cells, (HCL.out _ KR.out.drew).2.cells⟩)
              (first
                | (go_at_call 55; refine HCC.mono ?_; rintro e w1 ⟨rfl, K1⟩; have Q1 : Hid (Kp [] wr w1) := (Kp.refl _ _).drew.trans K1 (fun x hx => Or.inl hx)))
            go_wp2
            go_roundw
            case rel => exact ⟨i + 1, by go_num, by omega, HD, KZ.out.trans Q1.out (fun x hx => Or.inl hx)⟩
            case measure => simp [intOf]; omega
          | false =>
            have HD := HZ.out rfl
            clear HY HZ
            go_wp2_with fail
            go_region_held3 (fun V => (V.cell? ⟨w.heap.size, 5, none⟩ = some (.slice (some ⟨b1, off1, none⟩) m d) ∧ V.cell? ⟨w.heap.size + 1, 5, none⟩ = some (.slice (some ⟨b2, off2, none⟩) m d')) ∧ (V.cell? ⟨b1, off1 + i * 6, none⟩ = some (.int .i64 l1.kind) ∧ V.cell? ⟨b1, off1 + i * 6 + 1, none⟩ = some (.int .i64 l1.ns) ∧ V.cell? ⟨b1, off1 + i * 6 + 2, none⟩ = some (.string l1.name) ∧ V.cell? ⟨b1, off1 + i * 6 + 3, none⟩ = some (.slice p1.1.1 p1.1.2.1 p1.1.2.2) ∧ V.cell? ⟨b1, off1 + i * 6 + 4, none⟩ = some (.string l1.text) ∧ V.cell? ⟨b1, off1 + i * 6 + 5, none⟩ = some (.slice p1.2.1 p1.2.2.1 p1.2.2.2)) ∧ (V.cell? ⟨b2, off2 + i * 6, none⟩ = some (.int .i64 l2.kind) ∧ V.cell? ⟨b2, off2 + i * 6 + 1, none⟩ = some (.int .i64 l2.ns) ∧ V.cell? ⟨b2, off2 + i * 6 + 2, none⟩ = some (.string l2.name) ∧ V.cell? ⟨b2, off2 + i * 6 + 3, none⟩ = some (.slice p2.1.1 p2.1.2.1 p2.1.2.2) ∧ V.cell? ⟨b2, off2 + i * 6 + 4, none⟩ = some (.string l2.text) ∧ V.cell? ⟨b2, off2 + i * 6 + 5, none⟩ = some (.slice p2.2.1 p2.2.2.1 p2.2.2.2)))
              (first
                | exact ⟨HX.out _ (KZ.out.trans Q1.out (fun x hx => Or.inl hx)), (HCL.out _ (KR.out.trans Q1.out (fun x hx => Or.inl hx))).1.cells, (HCL.out _ (KR.out.trans Q1.out (fun x hx => Or.inl hx))).2.cells⟩
                | exact ⟨HX.out _ KZ.out.drew, (HCL.out _ KR.out.drew).1.cells, (HCL.out _ KR.out.drew).2.cells⟩)
              (first
                | (go_at_call 55; refine HCC.mono ?_; rintro e w1 ⟨rfl, K1⟩; have Q1 : Hid (Kp [] wr w1) := (Kp.refl _ _).drew.trans K1 (fun x hx => Or.inl hx)))
            go_wp2
            go_ret
            exact ⟨by subst HD; rfl, KR.out.trans Q1.out (fun x hx => Or.inl hx)⟩
        · obtain rfl : i = m := by omega
          obtain rfl : A = true := HA.out (by trivial) (HE.out (by trivial) htk)
          clear HK HX HT HE HN HA htk kr
          go_wp2
          go_ret
          exact ⟨rfl, KR.out⟩
    · have hA := HN.out (Or.inr (HF.out hmm))
      have q1 : ((m : Int) == (m' : Int)) = false := by simp only [beq_eq_false_iff_ne]; omega
      clear HK HE HF HT HA HN HX0 HL hL hmm
      go_enter Tryz.func55, Tryz.ntmps55
      go_wp2_with (go_at_call 78; refine HL0.mono ?_; rintro e w1 ⟨rfl, K1⟩; rw [HW.out] at K1; obtain ⟨z1, z2⟩ := HX.out _ K1)
      go_ret
      exact ⟨by subst hA; rfl, KB.out.trans K1 (fun x hx => Or.inl hx)⟩

end Go.Proofs.YtgjkfpmhgidpaaaGreat
