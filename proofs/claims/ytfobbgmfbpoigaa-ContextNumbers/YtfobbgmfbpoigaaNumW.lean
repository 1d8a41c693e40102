/-
  ContextNumbers.
-/
import Derived.Test.YtfobbgmfbpoigaaKn
namespace Go.Proofs.Ytfobbgmfbpoigaa
open Go.RowKit Ints
set_option linter.unusedSimpArgs false
set_option linter.unusedVariables false

/-- The names that the law lists. -/
def MDS : List (List UInt8) := [[], [105, 110, 105, 116, 105, 97, 108], [98, 101, 102, 111, 114, 101, 104, 116, 109, 108], [98, 101, 102, 111, 114, 101, 104, 101, 97, 100], [105, 110, 104, 101, 97, 100], [97, 102, 116, 101, 114, 104, 101, 97, 100], [105, 110, 98, 111, 100, 121], [105, 110, 116, 101, 120, 116], [105, 110, 116, 97, 98, 108, 101], [105, 110, 116, 97, 98, 108, 101, 116, 101, 120, 116], [105, 110, 116, 97, 98, 108, 101, 98, 111, 100, 121], [105, 110, 114, 111, 119], [105, 110, 99, 101, 108, 108], [105, 110, 116, 101, 109, 112, 108, 97, 116, 101], [97, 102, 116, 101, 114, 98, 111, 100, 121], [97, 102, 116, 101, 114, 97, 102, 116, 101, 114, 98, 111, 100, 121], []]

theorem mnm_at : ∀ (k : Nat) (h : k < 17), mnm (k : Int) = (MDS.map txt)[k]'h
  | 0, _ => rfl
  | 1, _ => rfl
  | 2, _ => rfl
  | 3, _ => rfl
  | 4, _ => rfl
  | 5, _ => rfl
  | 6, _ => rfl
  | 7, _ => rfl
  | 8, _ => rfl
  | 9, _ => rfl
  | 10, _ => rfl
  | 11, _ => rfl
  | 12, _ => rfl
  | 13, _ => rfl
  | 14, _ => rfl
  | 15, _ => rfl
  | 16, _ => rfl
  | k + 17, h => by omega

/-- Elements, cell by cell. -/
def ce : List (Int × Bool) → List Value
  | [] => []
  | x :: l => .int .i64 x.1 :: .bool x.2 :: ce l

theorem ce_len : ∀ l : List (Int × Bool), (ce l).length = l.length * 2
  | [] => rfl
  | x :: l => by
    simp only [ce, List.length_cons, ce_len l]
    omega

theorem ce_at : ∀ (l : List (Int × Bool)) (j : Nat) (h : j < l.length), (ce l)[j * 2]? = some (.int .i64 l[j].1) ∧ (ce l)[j * 2 + 1]? = some (.bool l[j].2)
  | x :: l, 0, _ => ⟨rfl, rfl⟩
  | x :: l, j + 1, h => by
    have := ce_at l j (by simpa using h)
    rw [show (j + 1) * 2 = j * 2 + 1 + 1 by omega]
    simp only [ce, List.getElem?_cons_succ, List.getElem_cons_succ]
    exact this

/-- What a slice in a block of its own reads as. -/
theorem Es.of_own {w : World} {ao : Option Addr} {n c m : Nat} {l : List (Int × Bool)} (h : OwnK 2 w 28 (.slice ao n c) m (ce l)) : Es w ao n c (fun i => l[i]?.getD (0, false)) := by
  obtain ⟨h0, h⟩ := h
  rw [ce_len] at h0
  rcases h with ⟨h1, h2⟩ | ⟨g, o, cap, cur, hv, hg, h1, h2, h3, h4⟩
  · simp only [Value.slice.injEq] at h1
    obtain ⟨rfl, rfl, rfl⟩ := h1
    exact ⟨Nat.le_refl _, fun j hj => by omega⟩
  · simp only [Value.slice.injEq] at hv
    obtain ⟨rfl, rfl, rfl⟩ := hv
    refine ⟨h1, fun j hj => ?_⟩
    have hl : j < l.length := by omega
    obtain ⟨a0, a1⟩ := ce_at l j hl
    simp only [List.getElem?_eq_getElem hl, Option.getD_some]
    exact ⟨g, o, rfl, by rw [cell_of hg, h4 _ (by omega), a0], by rw [cell_of hg, Nat.add_assoc, h4 _ (by omega), a1]⟩

theorem infoE : (Try.prog.info? 28).map (fun i => (i.zero, i.size, i.bytes)) = some (some (.agg #[.int .i64 0, .bool false]), 2, 16) := by kernel_rfl

/-- A literal of one. -/
theorem own_one (w : World) (x : Int × Bool) : OwnK 2 (w.alloc (.cells #[.int .i64 x.1, .bool x.2] 28)) 28 (.slice (some ⟨w.heap.size, 0, none⟩) 1 1) 1 (ce [x]) :=
  ownK_new 2 w 28 _ (ce [x]) 1 1 rfl (Nat.le_refl _) (by unfold maxLen; omega) (by simp) (fun j hj => by simp [ce])

theorem src_el {w : World} {g : Nat} {x : Int × Bool} (h : w.heap[g]? = some (.cells #[.int .i64 x.1, .bool x.2] 28 (0, 0))) : Src Try.prog 2 29 (.slice (some ⟨g, 0, none⟩) 1 1) 1 (ce [x]) w :=
  Src.ofSlice w Try.underlying29 ⟨g, 0, none⟩ 1 1 (ce [x]) rfl (fun j u hj => by
    match j, hj with
    | 0, hj => simp [ce] at hj; subst hj; rw [Addr.add_lit, cell_of h]; rfl
    | 1, hj => simp [ce] at hj; subst hj; rw [Addr.add_lit, cell_of h]; rfl) (fun u hu => by simp [ce] at hu; rcases hu with rfl | rfl <;> rfl)

theorem es_one {w : World} {g : Nat} {x : Int × Bool} (h : w.heap[g]? = some (.cells #[.int .i64 x.1, .bool x.2] 28 (0, 0))) : Es w (some ⟨g, 0, none⟩) 1 1 (fun _ => x) :=
  ⟨Nat.le_refl _, fun i hi => by
    obtain rfl : i = 0 := by omega
    exact ⟨g, 0, rfl, by rw [cell_of h]; rfl, by rw [cell_of h]; rfl⟩⟩

theorem own_el {w : World} {g : Nat} {x : Int × Bool} (h : w.heap[g]? = some (.cells #[.int .i64 x.1, .bool x.2] 28 (0, 0))) : OwnK 2 w 28 (.slice (some ⟨g, 0, none⟩) 1 1) 1 (ce [x]) :=
  ⟨rfl, Or.inr ⟨g, 0, 1, _, rfl, h, Nat.le_refl _, by unfold maxLen; omega, by simp, fun j hj => by
    rcases (show j = 0 ∨ j = 1 by omega) with rfl | rfl <;> simp [ce]⟩⟩

/-- append, of one element, onto a slice of one. -/
theorem app_el (W : World) (v : Value) (x : Int × Bool) (h : OwnK 2 W 28 v 1 (ce [x])) (src : Value) (y : Int × Bool) (hs : Src Try.prog 2 29 src 1 (ce [y]) W) :
    ∃ a c w', (∀ ty, (Builtin.append_ #[29, 29] ty #[v, src]).run Try.prog W = .ok (.slice (some a) 2 c) w') ∧ Es w' (some a) 2 c (fun i => [x, y][i]?.getD (0, false)) ∧ Kp (blk v) W w' := by
  obtain ⟨v', w', hrun, o2, k2, _, a, c, rfl⟩ := appK Try.underlying29 infoE rfl (by decide) W _ _ _ h src 1 (ce [y]) hs (fun _ => by omega) (by omega)
  exact ⟨a, c, w', hrun, Es.of_own (l := [x, y]) o2, k2⟩

/-- append, whose run is known, behind a guard that says yes. -/
theorem app_want {P : Program} (w : World) {ops : Array Oper} {rest : List Oper} {o : Oper} {a : Act} {Q : Exit → Act → World → Prop} (hw : Region.wanted o (yielded ops a.tmps) = true) (s x : Operand) (t tn : TypeId)
    (ho : o.op = .call { callee := .builtin .append, args := #[s, x], argTypes := #[t, tn] }) (vs vx : Value) (hs : a.eval s = vs) (hx : a.eval x = vx)
    (v' : Value) (w' : World) (hr : (Builtin.append_ #[t, tn] o.type #[vs, vx]).run P w = .ok v' w') (h : wpList P ops Q rest (a.put o.dst v') w') : wpList P ops Q (o :: rest) a w :=
  BigFrame.wpList_want hw fun _ hK => Lib.wp_append_run w s x t tn ho vs vx hs hx v' w' hr (hK _ _ h)

set_option maxRecDepth 100000 in
set_option maxHeartbeats 4000000 in
theorem numbers_walk (w : World) : Calls Try.prog 3 #[] w fun e w' => e = .returned (.bool true) ∧ Kp [] w w' := by
  have HR : Rb (w.alloc (.cells (tx (MDS.map txt)).toArray 9)) (some ⟨w.heap.size, 0, none⟩) 17 17 (tx (MDS.map txt)) := rb_lit w 9 _ _ 17 rfl (by kernel_rfl) (by omega)
  have k1 : Kp [] w (w.alloc (.cells (tx (MDS.map txt)).toArray 9)) := (Kp.refl _ _).alloc _
  have HK := known_any
  go_enter Try.func3, Try.ntmps3
  go_upto_region 1 with fail
  refine wp_region_lit ?_
  refine build_texts rfl 22 9 17 _ rfl (MDS.map txt) Try.underlying22 (by kernel_rfl) (by kernel_rfl) (by kernel_rfl) (by omega) (by omega) (by kernel_rfl) ?_
  generalize w.alloc (.cells (tx (MDS.map txt)).toArray 9) = W1 at HR k1 ⊢
  generalize some (⟨w.heap.size, 0, none⟩ : Addr) = a1 at HR ⊢
  have K1 : Hid (Kp [] w W1) := k1
  clear k1
  go_wp2
  go_loopw [2] (fun i wr => ∃ k : Nat, k ≤ 17 ∧ i = .int .i64 (k : Int) ∧ Kp [] W1 wr) (fun i _ => 17 - (intOf i).toNat)
  case atStart => exact ⟨0, by omega, rfl, Kp.refl _ _⟩
  case round =>
    obtain ⟨k, hk, rfl, kr⟩ := hrel
    by_cases hkl : k < 17
    · obtain ⟨b1, o1, rfl, h1⟩ := HR.tx_at k hkl
      have HN := fun W => name_any W (k : Int)
      have e1 : mnm (k : Int) = (MDS.map txt)[k]'hkl := mnm_at k hkl
      rw [e1] at HN
      generalize (MDS.map txt)[k]'hkl = X at HN h1
      have hki : (k : Int) < 17 := by omega
      have CC : Hid (∀ W, Kp [] W1 W → W.cell? ⟨b1, o1 + k, none⟩ = some (.string X)) := fun W kW => by rw [kW.cell (a := ⟨b1, o1 + k, none⟩) (block_lt_of_cell h1) (by simp)]; exact h1
      have KR : Hid (Kp [] W1 wr) := kr
      have KD : Hid (Kp [] W1 wr.drew) := kr.drew
      clear HR e1 h1 kr
      go_upto_region 5 with fail
      go_region_held3 (fun V => V.cell? ⟨b1, o1 + k, none⟩ = some (.string X))
        (first | with_reducible exact CC.out _ KD.out | with_reducible exact CC.out _ KR.out)
        (first | (go_at_call 6; refine (HN _).mono ?_; rintro e w9 ⟨rfl, hw⟩; have hw2 := hw.symm; clear hw; subst hw2))
      all_goals go_wp2
      all_goals go_roundw
      case rel => exact ⟨k + 1, by omega, by go_num, KD.out⟩
      case measure => simp [intOf]; omega
    · obtain rfl : k = 17 := by omega
      have KR : Hid (Kp [] w wr) := kt K1.out kr
      clear HR hk hkl kr K1
      rw [show ((17 : Nat) : Int) = 17 from rfl]
      go_wp2
      go_loopw [3] (fun i wr => ∃ k : Nat, k ≤ 48 ∧ i = .int .i64 (k : Int) ∧ Kp [] w wr) (fun i _ => 48 - (intOf i).toNat)
      case atStart => exact ⟨0, by omega, rfl, KR.out⟩
      case round =>
        obtain ⟨n, hn, rfl, kr⟩ := hrel
        have KN : Hid (Kp [] w wr) := kr
        clear kr KR
        by_cases hnl : n < 48
        · have hni : (n : Int) < 48 := by omega
          go_wp2
          go_loopw [4] (fun i wr => ∃ k : Nat, k ≤ 8 ∧ i = .int .i64 (k : Int) ∧ Kp [] w wr) (fun i _ => 8 - (intOf i).toNat)
          case atStart => exact ⟨0, by omega, rfl, KN.out⟩
          case round =>
            obtain ⟨k, hk, rfl, kr⟩ := hrel
            have KH : Hid (Kp [] w wr) := kr
            clear kr KN
            by_cases hkl : k < 8
            · have hki : (k : Int) < 8 := by omega
              have HN := fun W => names_any W (n : Int)
              have hns := nm_size (n : Int)
              generalize nm (n : Int) = X at HN hns
              go_wp2_with fail
              refine (HN _).mono ?_
              rintro e W2 ⟨rfl, k2⟩
              have K2 : Hid (Kp [] w W2) := kt KH.out k2
              clear HN k2 KH
              generalize 1 + (k : Int) % 2 = NS
              go_upto_region 15 with fail
              have k3 : Kp [] W2 ((W2.alloc (.cells #[.int .i64 NS, .string X, .slice none 0 0] 26)).alloc (.cells #[.int .i64 (n : Int), .bool (decide (4 ≤ (k : Int)))] 28)) := ((Kp.refl _ _).alloc _).alloc _
              have hc : ((W2.alloc (.cells #[.int .i64 NS, .string X, .slice none 0 0] 26)).alloc (.cells #[.int .i64 (n : Int), .bool (decide (4 ≤ (k : Int)))] 28)).heap[W2.heap.size]? = some (.cells #[.int .i64 NS, .string X, .slice none 0 0] 26 (0, 0)) := by
                rw [Below.heap_alloc _ _ _ (by simp)]
                exact heap_new _ _
              have hl : ((W2.alloc (.cells #[.int .i64 NS, .string X, .slice none 0 0] 26)).alloc (.cells #[.int .i64 (n : Int), .bool (decide (4 ≤ (k : Int)))] 28)).heap[W2.heap.size + 1]? = some (.cells #[.int .i64 (n : Int), .bool (decide (4 ≤ (k : Int)))] 28 (0, 0)) := heap_new' _ _ _ (by simp)
              generalize (W2.alloc (.cells #[.int .i64 NS, .string X, .slice none 0 0] 26)).alloc (.cells #[.int .i64 (n : Int), .bool (decide (4 ≤ (k : Int)))] 28) = W3 at k3 hc hl ⊢
              generalize decide (4 ≤ (k : Int)) = B at hl ⊢
              have hgl : w.heap.size ≤ W2.heap.size + 1 := by have := K2.out.size; omega
              have hne : W2.heap.size ≠ W2.heap.size + 1 := by omega
              generalize W2.heap.size + 1 = gl at hl hgl hne ⊢
              generalize W2.heap.size = gc at hc hne ⊢
              have K3 : Hid (Kp [] w W3) := kt K2.out k3
              clear k3 K2
              have HC : Hid (∀ W, Kp [gl] W3 W → W.heap[gc]? = some (.cells #[.int .i64 NS, .string X, .slice none 0 0] 26 (0, 0))) := fun W k => by rw [k.block _ (lt_of hc) (by simp; exact hne)]; exact hc
              have HLl : Hid (∀ W, Kp [] W3 W → W.heap[gl]? = some (.cells #[.int .i64 (n : Int), .bool B] 28 (0, 0))) := fun W k => by rw [k.block _ (lt_of hl) (by simp)]; exact hl
              have HO : Hid (∀ W, Calls Try.prog 8 #[.agg #[.int .i64 NS, .string X, .slice none 0 0]] W fun e w' => e = .returned (.bool true) ∧ Kp [] W w') := fun W => one_any W NS X [] none 0 0 (rp_nil W) (by omega) (fun a ha => by simp at ha)
              have HSn : Hid (∀ W t hd, Kp [] W3 W → Calls Try.prog 9 #[.slice (some ⟨gl, 0, none⟩) 1 1, .pointer none, .int .i64 t, .bool hd] W fun e w' => e = .returned (.bool true) ∧ Kp [] W w') := fun W t hd k => same_any W _ 1 1 _ none none t hd (es_one (x := ((n : Int), B)) (HLl.out W k)) (Or.inl ⟨rfl, rfl⟩) (fun x h => by cases h)
              have HSc : Hid (∀ W ao n d F t hd, Kp [gl] W3 W → Es W ao n d F → Calls Try.prog 9 #[.slice ao n d, .pointer (some ⟨gc, 0, none⟩), .int .i64 t, .bool hd] W fun e w' => e = .returned (.bool true) ∧ Kp [] W w') := fun W ao n d F t hd k hE => same_any W ao n d F _ (some (NS, X)) t hd hE (Or.inr ⟨gc, NS, X, _, rfl, rfl, HC.out W k⟩) (fun x h => by simp only [Option.some.injEq] at h; subst h; simp only; omega)
              have up : Hid (∀ W, Kp [] W3 W → Kp [gl] W3 W) := fun W k => k.mono (fun x hx => by simp at hx)
              have d0 : W3.cell? ⟨gc, 0, none⟩ = some (.int .i64 NS) := cell_of hc 0
              have d1 : W3.cell? ⟨gc, 1, none⟩ = some (.string X) := cell_of hc 1
              have d2 : W3.cell? ⟨gc, 2, none⟩ = some (.slice none 0 0) := cell_of hc 2
              clear hc hl hns HC
              go_wp2_with fail
              refine (HO.out W3).mono ?_
              rintro e W4 ⟨rfl, k4⟩
              have K4 : Hid (Kp [] W3 W4) := k4
              clear HO k4 d0 d1 d2
              go_wp2_with fail
              refine (HSn.out W4 _ _ K4.out).mono ?_
              rintro e W5 ⟨rfl, k5⟩
              have K5 : Hid (Kp [] W3 W5) := kt K4.out k5
              clear HSn k5 K4
              go_wp2_with fail
              refine (HSc.out W5 _ _ _ _ _ _ (up.out _ K5.out) (es_one (x := ((n : Int), B)) (HLl.out W5 K5.out))).mono ?_
              rintro e W6 ⟨rfl, k6⟩
              have K6 : Hid (Kp [] W3 W6) := kt K5.out k6
              clear k6 K5
              obtain ⟨a7, c7, W7, hrun, E7, k7⟩ := app_el _ _ _ (own_one W6 (28, false)) (.slice (some ⟨gl, 0, none⟩) 1 1) ((n : Int), B) (src_el (HLl.out _ (K6.out.alloc _)))
              have K7 : Hid (Kp [] W3 W7) := (K6.out.alloc _).trans k7 (fun y hy => Or.inr (by simp [blk] at hy; have := K6.out.size; omega))
              have H7 := HSc.out W7 _ _ _ _ 9 ((k : Int) % 3 == 0) (up.out _ K7.out) E7
              simp only at hrun
              clear k7 K6 E7
              go_wp2_with (first
                | (at_builtin; refine app_want _ (by rfl) _ _ _ _ rfl _ _ rfl rfl _ _ (hrun _) ?_)
                | (go_at_call 9; refine Hid.out ?_))
              unfold Hid
              refine H7.mono ?_
              rintro e W8 ⟨rfl, k8⟩
              have K8 : Hid (Kp [] W3 W8) := kt K7.out k8
              clear H7 k8 K7 hrun
              obtain ⟨a9, c9, W9, hrun, E9, k9⟩ := app_el (W8.alloc (.cells #[.int .i64 0, .bool false] 28)) (.slice (some ⟨gl, 0, none⟩) 1 1) ((n : Int), B) (own_el (HLl.out _ (K8.out.alloc _))) (.slice (some ⟨W8.heap.size, 0, none⟩) 1 1) (0, false) (src_el (heap_new _ _))
              have K9 : Hid (Kp [gl] W3 W9) := (up.out _ (K8.out.alloc _)).trans k9 (fun y hy => Or.inl (by simpa [blk] using hy))
              have H9 := HSc.out W9 _ _ _ _ 9 true K9.out E9
              clear k9 K8 E9 HSc HLl
              go_wp2_with (first
                | (at_builtin; refine app_want _ (by rfl) _ _ _ _ rfl _ _ rfl rfl _ _ (hrun _) ?_)
                | (go_at_call 9; refine Hid.out ?_))
              unfold Hid
              refine H9.mono ?_
              rintro e W10 ⟨rfl, k10⟩
              have K10 : Hid (Kp [] w W10) := K3.out.trans (K9.out.trans (k10.mono (T := [gl]) (fun x hx => by simp at hx)) (fun y hy => Or.inl hy)) (fun y hy => Or.inr (by simp at hy; omega))
              clear H9 k10 K9 hrun up K3
              go_wp2
              go_roundw
              case rel => exact ⟨k + 1, by omega, by go_num, K10.out⟩
              case measure => simp [intOf]; omega
            · obtain rfl : k = 8 := by omega
              go_wp2
              go_roundw
              case rel => exact ⟨n + 1, by omega, by go_num, KH.out⟩
              case measure => simp [intOf]; omega
        · obtain rfl : n = 48 := by omega
          clear hn hnl
          have HA := adj_all wr none none (0, ⟨#[]⟩) (by decide) (current_nil wr none)
          unfold nv at HA
          go_wp2_with fail
          refine HA.mono ?_
          rintro e W2 ⟨rfl, k2⟩
          have K2 : Hid (Kp [] w W2) := kt KN.out k2
          clear HA k2 KN
          have H1 := fun W => one_any W 0 ⟨#[]⟩ [] none 0 0 (rp_nil W) (by omega) (fun a ha => by simp at ha)
          have H2 := fun W => one_any W 3 ⟨#[120]⟩ [] none 0 0 (rp_nil W) (by omega) (fun a ha => by simp at ha)
          have H3 := fun W => one_any (W.alloc (.cells #[.string ⟨#[97]⟩, .string ⟨#[]⟩, .string ⟨#[97]⟩, .string ⟨#[]⟩] 36)) 1 ⟨#[120]⟩ [(⟨#[97]⟩, ⟨#[]⟩), (⟨#[97]⟩, ⟨#[]⟩)] (some ⟨W.heap.size, 0, none⟩) 2 2 ((rp_lit W _ [(⟨#[97]⟩, ⟨#[]⟩), (⟨#[97]⟩, ⟨#[]⟩)] 2 rfl rfl (by omega)).rp) (by omega) (fun a ha => by simp at ha; subst ha; exact ⟨by decide, by decide⟩)
          have H4 := fun W => same_any W none 0 0 (fun _ => (0, false)) none none 3 true (Es.nil W _) (Or.inl ⟨rfl, rfl⟩) (fun x h => by cases h)
          unfold cv at H1 H2 H3
          go_wp2_with fail
          refine (H1 W2).mono ?_
          rintro e W3 ⟨rfl, kk⟩
          have K3 : Hid (Kp [] w W3) := kt K2.out kk
          clear kk
          go_wp2_with fail
          refine (H2 W3).mono ?_
          rintro e W4 ⟨rfl, kk⟩
          have K4 : Hid (Kp [] w W4) := kt K3.out kk
          clear kk
          go_wp2_with fail
          refine (H3 W4).mono ?_
          rintro e W5 ⟨rfl, kk⟩
          have K5 : Hid (Kp [] w W5) := kt (K4.out.alloc _) kk
          clear kk H1 H2 H3 K2 K3 K4
          go_wp2_with fail
          refine (H4 W5).mono ?_
          rintro e W6 ⟨rfl, kk⟩
          have K6 : Hid (Kp [] w W6) := kt K5.out kk
          clear kk
          go_wp2_with fail
          refine (HK W6).mono ?_
          rintro e W7 ⟨rfl, kk⟩
          have K7 : Hid (Kp [] w W7) := kt K6.out kk
          clear kk
          go_wp2
          go_ret
          exact ⟨rfl, K7.out⟩

end Go.Proofs.Ytfobbgmfbpoigaa
