/-
  Right of the program.
-/
import Derived.Test.YtgnbafgglkncmaaSames
import Derived.Test.YtgnbafgglkncmaaRightD
namespace Go.Proofs.Ytgnbafgglkncmaa
open Go.RowKit
set_option linter.unusedVariables false

theorem vis_cnt (f : Fo) : ∀ d v, v ∈ f.vis d → v.2.2.cnt < f.cnt := by
  refine Fo.ind (P := fun f => ∀ d v, v ∈ f.vis d → v.2.2.cnt < f.cnt) (fun d v h => by simp [vis_nil] at h) (fun l k r hk hr d v h => ?_) f
  rw [vis_cons, List.mem_cons, List.mem_append] at h
  rw [Fo.cnt_cons]
  rcases h with rfl | h | h
  · simp only; omega
  · have := hk _ _ h; omega
  · have := hr _ _ h; omega

/-- The loop of Right. -/
def RRight (W : World) (s : Ws) (l : Lb) (k : Fo) (p : Pl) (A : Bool) (a : Value × Value × World) (n : Nat) : Prop :=
  ∃ (S : List Vt) (v : Value) (ao : Option Addr) (d : Int) (y : Bool), a.1 = .pointer ao ∧ a.2.1 = .bool y ∧ okV S = A ∧ S.length = n ∧ Wl W a.2.2 (s.at v) S.tail l k p ∧ Come W a.2.2 (s.at v) S ao d y ∧ (∀ v, v ∈ S → okL v.2.1 ∧ v.2.2.len ≤ 20000)

theorem okV_cons (v : Vt) (S : List Vt) : okV (v :: S) = (nodeF v.2.1 v.2.2 && okV S) := rfl

set_option maxHeartbeats 1000000 in
theorem right_any (w : World) (l : Lb) (k : Fo) (p : Pl) (h : Nd Any w l k p) (ho : okT l k) :
    Calls Try.prog 21 #[wv l p] w fun e w' => e = .returned (.bool (rightF l k)) ∧ Kp [] w w' := by
  obtain ⟨W, hW⟩ : ∃ W, W = w.alloc (.cells (six l p).toArray 25) := ⟨_, rfl⟩
  have k1 : Kp [] w W := by rw [hW]; exact (Kp.refl _ _).alloc _
  have HB := begin_c W W l k p (Kp.refl _ _) (h.kept k1) ho.2
  have HO : Hid (∀ v, v ∈ (Fo.cons l k .nil).vis 0 → okL v.2.1 ∧ v.2.2.len ≤ 20000) := fun v hv => ⟨vis_each _ 0 ho.1 v hv, by
    have h1 := vis_cnt _ 0 v hv
    have h2 := Fo.len_le_cnt v.2.2
    have h3 := ho.2
    rw [Fo.cnt_cons, Fo.cnt_nil] at h1
    omega⟩
  have HB' : Hid (∀ V, V = W → Calls Try.prog 32 #[wv l p] V fun e w' => ∃ s, e = .returned (.pointer (some ⟨s.P, 0, none⟩)) ∧ Wl W w' s ((Fo.cons l k .nil).vis 0) l k p ∧ Kp [] W w' ∧ ∀ x, x ∈ s.own → W.heap.size ≤ x) := fun V hV => by rw [hV]; exact HB
  have HW : Hid (w.alloc (.cells #[.int .i64 l.kind, .int .i64 l.ns, .string l.name, .slice p.1.1 p.1.2.1 p.1.2.2, .string l.text, .slice p.2.1 p.2.2.1 p.2.2.2] 25) = W) := hW.symm
  have KB : Hid (Kp [] w W) := k1
  obtain ⟨A, hA⟩ : ∃ A, rightF l k = A := ⟨_, rfl⟩
  rw [hA]
  rw [right_vis] at hA
  clear HB k1 h ho
  simp only [wv] at HB' ⊢
  by_cases e1 : l.kind = 1
  · have hA2 : Hid (okV ((Fo.cons l k .nil).vis 0) = A) := by
      show okV ((Fo.cons l k .nil).vis 0) = A
      rw [← hA, decide_eq_true e1]; rfl
    have r1 : ((l.kind : Int) != 1) = false := by simp [bne, e1]
    clear hA e1 hW
    go_enter Try.func21, Try.ntmps21
    go_wp2_with (first
      | (go_at_call 32; refine (HB'.out _ HW.out).mono ?_; rintro e w1 ⟨s, rfl, L1, _, _⟩)
      | (go_at_call 33; refine (next_c _ _ _ _ _ _ _ L1).mono ?_; rintro e w2 ⟨ao, d, y, v1, rfl, L2, N2, C2⟩))
    obtain ⟨μ, hμ⟩ := least_of (RRight W s l k p A)
    go_loopw [4, 6] (fun x4 x6 wr => ∃ n, RRight W s l k p A (x4, x6, wr) n) (fun x4 x6 wr => μ (x4, x6, wr))
    case atStart => exact ⟨_, _, v1, ao, d, y, rfl, rfl, hA2.out, rfl, L2, C2, HO.out⟩
    case round =>
      clear L2 N2 C2 L1 HB' hA2 HO
      obtain ⟨n0, hrel⟩ := hrel
      obtain ⟨S, v, ao, d, y, h4, h6, hN, hS, L, C, hO⟩ := (hμ _ _ hrel).1
      simp only at h4 h6
      subst h4 h6
      have KF : Hid (Kp [] w wr) := KB.out.trans L.kp (fun x hx => Or.inl hx)
      have HM : Hid (∀ a n, RRight W s l k p A a n → μ a ≤ n) := fun a n hn => (hμ a n hn).2
      have HS : Hid (S.length = μ (.pointer ao, .bool y, wr)) := hS
      clear hrel hμ hS
      cases S with
      | nil =>
        obtain ⟨rfl, rfl, rfl⟩ := C
        obtain rfl : true = A := hN
        have hend : wr.cell? ⟨s.P, 2, none⟩ = some (.bool false) := by
          obtain ⟨fs, L, _⟩ := L
          exact cell_of L.b.walk 2
        clear L HM HS hO
        go_wp2
        go_ret
        exact ⟨rfl, KF.out⟩
      | cons u S =>
        obtain ⟨b, off, rfl, rfl, rfl, p', hc, nd, _⟩ := C
        simp only [List.tail_cons] at L
        have ndr := nd.kept L.kp
        have hu := hO u (by simp)
        have HFD := fields_any wr b off u.2.1 p' hc ndr.at'.rp hu.1.1 hu.1.2
        have HKD : Hid (∀ V, Kp [] wr V → Calls Try.prog 47 #[.pointer (some ⟨b, off, none⟩)] V fun e w' => e = .returned (.bool (kidsOkF u.2.1 u.2.2)) ∧ w' = V) := fun V kV => kids_any V b off u.2.1 u.2.2 p' (hc.keep kV (by simp)) (ndr.kids.kept kV) hu.2
        rw [okV_cons, node_split] at hN
        have HO2 : Hid (∀ v, v ∈ S → okL v.2.1 ∧ v.2.2.len ≤ 20000) := fun v hv => hO v (by simp [hv])
        have HL : Hid (Wl W wr (s.at v) S l k p) := L
        clear L nd ndr hu hO hc
        generalize fieldsF u.2.1 = F1 at hN HFD
        generalize kidsOkF u.2.1 u.2.2 = F2 at hN HKD
        cases F1 with
        | false =>
          obtain rfl : false = A := by rw [← hN]; simp
          clear hN HKD
          go_wp2_with (go_at_call 46; refine HFD.mono ?_; rintro e w3 ⟨rfl, k3⟩)
          go_ret
          exact ⟨rfl, KF.out.trans k3 (fun x hx => Or.inl hx)⟩
        | true =>
          cases F2 with
          | false =>
            obtain rfl : false = A := by rw [← hN]; simp
            clear hN
            go_wp2_with (first
              | (go_at_call 46; refine HFD.mono ?_; rintro e w3 ⟨rfl, k3⟩)
              | (go_at_call 47; refine (HKD.out _ k3).mono ?_; rintro e w4 ⟨rfl, rfl⟩))
            go_ret
            exact ⟨rfl, KF.out.trans k3 (fun x hx => Or.inl hx)⟩
          | true =>
            have HX : Hid (okV S = A) := by
              show okV S = A
              rw [← hN]; simp
            clear hN
            go_wp2_with (first
              | (go_at_call 46; refine HFD.mono ?_; rintro e w3 ⟨rfl, k3⟩)
              | (go_at_call 47; refine (HKD.out _ k3).mono ?_; rintro e w4 ⟨rfl, rfl⟩)
              | (go_at_call 33; refine (next_c _ _ _ _ _ _ _ (HL.out.kept k3)).mono ?_; rintro e w5 ⟨ao5, d5, y5, v5, rfl, L5, N5, C5⟩))
            have RR : RRight W s l k p A (.pointer ao5, .bool y5, w5) S.length := ⟨S, v5, ao5, d5, y5, rfl, rfl, HX.out, rfl, L5, C5, HO2.out⟩
            go_roundw
            case rel => exact ⟨_, RR⟩
            case measure =>
              refine Nat.lt_of_le_of_lt (HM.out _ _ RR) ?_
              rw [← HS.out]; simp
  · obtain rfl : false = A := by rw [← hA, decide_eq_false e1]; rfl
    have r1 : ((l.kind : Int) != 1) = true := by simp [bne, e1]
    have K2 : Hid (Kp [] w (w.alloc (.cells #[.int .i64 l.kind, .int .i64 l.ns, .string l.name, .slice p.1.1 p.1.2.1 p.1.2.2, .string l.text, .slice p.2.1 p.2.2.1 p.2.2.2] 25))) := (Kp.refl _ _).alloc _
    clear hA e1 HB' HW HO KB hW
    go_enter Try.func21, Try.ntmps21
    go_wp2
    go_ret
    exact ⟨rfl, K2.out⟩

end Go.Proofs.Ytgnbafgglkncmaa
