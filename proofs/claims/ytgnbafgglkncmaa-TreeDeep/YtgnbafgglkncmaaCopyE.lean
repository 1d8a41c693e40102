/-
  Copy.
-/
import Derived.Test.YtgnbafgglkncmaaCopyD
import Derived.Test.YtgnbafgglkncmaaTellB
import Derived.Test.YtgnbafgglkncmaaSames
namespace Go.Proofs.Ytgnbafgglkncmaa
open Go.RowKit
set_option linter.unusedVariables false
set_option linter.unusedSimpArgs false

theorem whole_cnt_le : ∀ {f : Fq} {r : List Fq} (d : Fo), d.cnt + f.rest.cnt ≤ (whole f r d).cnt
  | f, [], d => by simp only [whole, Fo.cnt_app]; omega
  | f, g :: r, d => by
    have := whole_cnt_le (f := g) (r := r) (g.done.app (.cons f.l (d.app f.rest) .nil))
    simp only [Fo.cnt_app, Fo.cnt_cons, Fo.cnt_nil] at this
    simp only [whole]
    omega

theorem whole_cnt {f : Fq} {r : List Fq} {l : Lb} {k s : Fo} (h : f.rest = .cons l k s) : k.cnt < (whole f r f.done).cnt := by
  have h1 := whole_cnt_le (f := f) (r := r) f.done
  rw [h, Fo.cnt_cons] at h1
  omega

set_option maxRecDepth 100000 in
set_option maxHeartbeats 4000000 in
theorem copy_tree (w : World) (l : Lb) (k : Fo) (p : Pl) (h : Nd Any w l k p) (hl : (Fo.cons l k .nil).Each bareL) (hn : k.cnt ≤ 20000) :
    Calls Try.prog 12 #[wv l p] w fun e w' => ∃ q, e = .returned (wv l q) ∧ Nd (fun z => w.heap.size ≤ z) w' l k q ∧ Kp [] w w' := by
  obtain ⟨s0, hs⟩ : ∃ s, w.heap.size = s := ⟨_, rfl⟩
  obtain ⟨B, hB⟩ : ∃ B, B = (w.alloc (.cells (six l p).toArray 25)).alloc (.cells #[.int .i64 0, .int .i64 0, .string ⟨#[]⟩, .slice none 0 0, .string ⟨#[]⟩, .slice none 0 0] 25) := ⟨_, rfl⟩
  have kB : Kp [] w B := by rw [hB]; exact ((Kp.refl _ _).alloc _).alloc _
  have A1 : At B s0 (six l p).toArray 25 := by
    rw [hB, ← hs]; exact (At.new _ _ _).kept ((Kp.refl [] _).alloc _) (by simp)
  have A2 : At B (s0 + 1) #[.int .i64 0, .int .i64 0, .string ⟨#[]⟩, .slice none 0 0, .string ⟨#[]⟩, .slice none 0 0] 25 := by
    rw [hB, ← hs]; exact At.new' _ _ _ _ (by simp)
  have HW : Hid ((w.alloc (.cells #[.int .i64 l.kind, .int .i64 l.ns, .string l.name, .slice p.1.1 p.1.2.1 p.1.2.2, .string l.text, .slice p.2.1 p.2.2.1 p.2.2.2] 25)).alloc (.cells #[.int .i64 0, .int .i64 0, .string ⟨#[]⟩, .slice none 0 0, .string ⟨#[]⟩, .slice none 0 0] 25) = B) := hB.symm
  have SB : Hid (B.heap.size = s0 + 2) := by show B.heap.size = s0 + 2; rw [hB, ← hs]; simp
  have KB : Hid (Kp [] w B) := kB
  have HS : Hid (w.heap.size = s0) := hs
  have HV : Hid (∀ u, u ∈ (Fo.cons l k .nil).vis 0 → bareL u.2.1 ∧ u.1 ≤ 20001) := fun u hu => by
    refine ⟨vis_each _ 0 hl u hu, ?_⟩
    have h1 := vis_deep _ 0 u hu
    have h2 := Fo.dep_le_cnt (.cons l k .nil)
    rw [Fo.cnt_cons, Fo.cnt_nil] at h2
    omega
  have HBG : Hid (∀ V, Kp [] B V → Calls Try.prog 32 #[wv l p] V fun e w' => ∃ s, e = .returned (.pointer (some ⟨s.P, 0, none⟩)) ∧ Wl B w' s ((Fo.cons l k .nil).vis 0) l k p ∧ Kp [] V w' ∧ ∀ x, x ∈ s.own → V.heap.size ≤ x) := fun V kV => begin_c B V l k p kV (h.kept kB) hn
  simp only [six] at A1
  clear h hl hn hB kB
  simp only [wv] at HBG ⊢
  go_enter Try.func12, Try.ntmps12
  go_upto_region 1 with fail
  rw [HW.out]
  clear HW
  obtain ⟨w1, hmk, O1, K1⟩ := make_kids B 1 (by omega) (by omega)
  have hmk1 : (Instr.makeSlice 23 (.int .i64 0) (.int .i64 1)).run Try.prog B = .ok (.slice (some ⟨B.heap.size, 0, none⟩) 0 1) w1 := hmk
  clear hmk
  go_upto_region 2 with fail
  clear hmk1
  obtain ⟨W2, hW2⟩ : ∃ W, W = w1.alloc (.cells #[.int .i64 0, .int .i64 0, .string ⟨#[]⟩, .slice none 0 0, .string ⟨#[]⟩, .slice (some ⟨B.heap.size, 0, none⟩) 0 1] 25) := ⟨_, rfl⟩
  rw [← hW2]
  have k12 : Kp [] w1 W2 := by rw [hW2]; exact (Kp.refl _ _).alloc _
  have TA : At W2 w1.heap.size #[.int .i64 0, .int .i64 0, .string ⟨#[]⟩, .slice none 0 0, .string ⟨#[]⟩, .slice (some ⟨B.heap.size, 0, none⟩) 0 1] 25 := by rw [hW2]; exact At.new _ _ _
  have O2 := O1.keep k12 (fun _ _ => by simp)
  have zA : B.heap.size < w1.heap.size := by
    have := O1.lt B.heap.size (by simp [ko, blk])
    exact this
  have zA2 : w1.heap.size < W2.heap.size := TA.lt
  have kB2 : Kp [] B W2 := K1.trans k12 (fun z hz => by simp at hz)
  obtain ⟨A, hA⟩ : ∃ A, w1.heap.size = A := ⟨_, rfl⟩
  obtain ⟨gA, hgA⟩ : ∃ g, B.heap.size = g := ⟨_, rfl⟩
  rw [hA] at TA zA zA2 ⊢
  rw [hgA] at TA zA O2
  clear hW2 k12 K1 O1
  go_upto_region 3 with (go_at_call 30; refine (pt_new _).mono ?_; rintro e W3 ⟨rfl, hW3⟩)
  try rw [← hW3]
  have k23 : Kp [] W2 W3 := by rw [hW3]; exact (Kp.refl _ _).alloc _
  obtain ⟨P, hP⟩ : ∃ P, W2.heap.size = P := ⟨_, rfl⟩
  have PK : Pk 1 W3 85 52 P (.slice none 0 0) 0 [] := ⟨by rw [hW3, ← hP]; exact heap_new _ _, ⟨rfl, Or.inl ⟨rfl, rfl⟩⟩, by simp [blk]⟩
  have zP : P < W3.heap.size := (Array.getElem?_eq_some_iff.1 PK.1).1
  rw [hP] at zA2 ⊢
  have HPU := pt_push W3 P _ 0 [] ⟨A, 0, none⟩ PK (by omega)
  clear hW3
  go_upto_region 4 with fail
  refine HPU.mono ?_
  rintro e W4 ⟨rfl, pv0, PK4, k34, hb4⟩
  go_upto_region 4 with fail
  clear HPU PK
  have kB4 : Kp [] B W4 := (kB2.trans k23 (fun z hz => by simp at hz)).trans k34 (fun z hz => Or.inr (by simp [blk] at hz; have := kB2.size; omega))
  have k24 : Kp [P] W2 W4 := (k23.mono (T := [P]) (fun z hz => by simp at hz)).trans k34 (fun z hz => Or.inl (by simpa [blk] using hz))
  have C4 : Cq B W4 P pv0 [] ⟨A, 0, (0, 0, ⟨#[]⟩, [], ⟨#[]⟩), gA, 0, 1, .nil, .cons l k .nil⟩ [] [] := by
    have hs4 := k34.size
    have hbl : ∀ x, x ∈ blk pv0 → P < x ∧ x < W4.heap.size := fun x hx => by
      refine ⟨?_, PK4.2.1.lt x hx⟩
      rcases hb4 x hx with h1 | h1
      · simp [blk] at h1
      · omega
    have hlv : ∀ x, x ∈ live (⟨A, 0, (0, 0, ⟨#[]⟩, [], ⟨#[]⟩), gA, 0, 1, .nil, .cons l k .nil⟩ : Fq) [] [] → x = A ∨ x = gA := fun x hx => by
      simpa [live, bot, opn, Fq.sl, ko, blk] using hx
    refine ⟨⟨[], O2.keep k24 (fun x hx => by simp [ko, blk] at hx; simp; omega), rfl, rfl⟩, ⟨TA.kept k24 (by simp; omega), rfl⟩, PK4, ?_, fun x hx => ?_, fun x hx => ⟨fun hx' => ?_, by simp⟩, fun x hx => ?_⟩
    · simp [live, bot, opn, Fq.sl, ko, blk]; omega
    · rcases hlv x hx with e | e <;> omega
    · rcases List.mem_cons.1 hx' with e | e
      · rcases hlv x hx with e' | e' <;> omega
      · have := hbl x e
        rcases hlv x hx with e' | e' <;> omega
    · refine ⟨?_, ?_, by simp⟩
      · rcases List.mem_cons.1 hx with e | e
        · omega
        · have := hbl x e; omega
      · rcases List.mem_cons.1 hx with e | e
        · omega
        · exact (hbl x e).2
  have A1' := A1.kept kB4 (by simp)
  obtain ⟨c0, c1, c2, c3, c4, c5⟩ := A1'.six
  have GA : Hid (B.heap.size = gA) := hgA
  clear PK4 k34 hb4 k24 k23 O2 TA kB2 A1' A1 hgA hA hP zA zA2 zP
  go_upto_region 5 with (go_at_call 32; refine (HBG.out _ kB4).mono ?_; rintro e W5 ⟨s, rfl, L5, k45, hso⟩)
  clear c0 c1 c2 c3 c4 c5 HBG
  have C5 : Cq B W5 P pv0 s.own _ [] [] := C4.other k45 (fun _ _ => by simp) (fun _ _ => by simp) (fun x hx => Or.inr (hso x hx))
  clear C4 k45 hso kB4
  go_wp2_with (go_at_call 33; refine (next_c _ _ _ _ _ _ _ L5).mono ?_; rintro e W6 ⟨ao, d, y, v1, rfl, L6, N6, C6⟩)
  have Q6 := C5.next N6
  obtain ⟨μ, hμ⟩ := least_of (RCopy B s P A l k p)
  go_loopw [6, 7, 8] (fun x6 x7 x8 wr => ∃ n, RCopy B s P A l k p (x6, x7, x8, wr) n) (fun x6 x7 x8 wr => μ (x6, x7, x8, wr))
  case atStart => exact ⟨_, _, v1, pv0, ao, d, y, _, [], [], rfl, rfl, rfl, rfl, L6, C6, Q6, rfl, rfl, rfl, HV.out, by simp⟩
  case round =>
    clear L6 N6 C6 Q6 C5 L5 HV
    obtain ⟨n0, hrel⟩ := hrel
    obtain ⟨S, v, pv, ao, d, y, f, r, Kd, h1, h2, h3, hS, L, C, Q, ht, hw, hbot, hbare, hrl⟩ := (hμ _ _ hrel).1
    simp only at h1 h2 h3
    subst h1 h2 h3
    have HM : Hid (∀ a n, RCopy B s P A l k p a n → μ a ≤ n) := fun a n hn => (hμ a n hn).2
    have HS2 : Hid (S.length = μ (.pointer ao, .int .i64 d, .bool y, wr)) := hS
    clear hrel hμ hS
    cases S with
    | nil =>
      obtain ⟨rfl, rfl, rfl⟩ := C
      clear HM HS2 hbare
      have hsz := L.kp.size
      have sB := SB.out
      obtain ⟨f0, e1, ⟨zs, e2, e2', e2''⟩, e3, e4, e5⟩ := Lq.end (R := fun z => B.heap.size ≤ z) (Q.lq.mono (fun x _ hx => (Q.new x (live_k hx)).1)) (Q.un.mono (fun x _ hx => (Q.new x (live_k hx)).1)) ht (fun x hx => (Q.new x (live_opn hx)).1)
      rw [hw] at e3
      rw [e3] at e2'
      obtain ⟨q, ys, rfl, ND, hys⟩ := Lf.cons_iff.1 e2'
      rw [Lf.nil_iff.1 hys, List.append_nil, List.append_nil] at e2
      have hn1 : f0.n = 1 := by have := e2.1; rw [six_len] at this; omega
      have hc1 : f0.c = 1 := by rw [e5, Fo.len_nil] at e2''; omega
      have hb0 : f0.b = A := by rw [← e1, hbot]
      unfold Fq.sl at e2
      rw [hn1, hc1] at e2
      obtain ⟨cur, T0, _, _, _, a4⟩ := e2.cells (by omega)
      have c5 := e4.cell 5
      have key : ∀ j, j < 6 → wr.cell? ⟨f0.g, j, none⟩ = (six l q)[j]? := fun j hj => by rw [T0.cell]; exact a4 j (by omega)
      have t0 : wr.cell? ⟨f0.g, 0, none⟩ = some (.int .i64 l.kind) := key 0 (by omega)
      have t1 : wr.cell? ⟨f0.g, 1, none⟩ = some (.int .i64 l.ns) := key 1 (by omega)
      have t2 : wr.cell? ⟨f0.g, 2, none⟩ = some (.string l.name) := key 2 (by omega)
      have t3 : wr.cell? ⟨f0.g, 3, none⟩ = some (.slice q.1.1 q.1.2.1 q.1.2.2) := key 3 (by omega)
      have t4 : wr.cell? ⟨f0.g, 4, none⟩ = some (.string l.text) := key 4 (by omega)
      have t5 : wr.cell? ⟨f0.g, 5, none⟩ = some (.slice q.2.1 q.2.2.1 q.2.2.2) := key 5 (by omega)
      have cA : wr.cell? ⟨A, 5, none⟩ = some (.slice (some ⟨f0.g, 0, none⟩) 1 1) := by
        rw [← hb0]
        refine c5.trans ?_
        simp only [Fq.six, Fq.pl, six, hn1, hc1]
        rfl
      have A2w := A2.kept L.kp (by simp)
      obtain ⟨x0, x1, x2, x3, x4, x5⟩ := A2w.six
      have fr := fun j => A2w.free j
      have D : Hid _ := (A2w.putZ (.int .i64 l.kind) (.int .i64 l.ns) (.string l.name) (.slice q.1.1 q.1.2.1 q.1.2.2) (.string l.text) (.slice q.2.1 q.2.2.1 q.2.2.2)).six
      have kz : Kp [s0 + 1] wr (putZ wr (s0 + 1) (.int .i64 l.kind) (.int .i64 l.ns) (.string l.name) (.slice q.1.1 q.1.2.1 q.1.2.2) (.string l.text) (.slice q.2.1 q.2.2.1 q.2.2.2)) := (Kp.refl _ _).putZ (g := s0 + 1) (Or.inl (by simp)) _ _ _ _ _ _
      have KZ : Hid (Kp [] w (putZ wr (s0 + 1) (.int .i64 l.kind) (.int .i64 l.ns) (.string l.name) (.slice q.1.1 q.1.2.1 q.1.2.2) (.string l.text) (.slice q.2.1 q.2.2.1 q.2.2.2))) := (KB.out.trans L.kp (fun z hz => by simp at hz)).trans kz (fun z hz => Or.inr (by simp at hz; have := HS.out; omega))
      have NZ : Hid (Nd (fun z => w.heap.size ≤ z) (putZ wr (s0 + 1) (.int .i64 l.kind) (.int .i64 l.ns) (.string l.name) (.slice q.1.1 q.1.2.1 q.1.2.2) (.string l.text) (.slice q.2.1 q.2.2.1 q.2.2.2)) l k q) := (ND.keep (kz.sms (fun z hz => by simp; omega))).mono (fun z _ hz => by have := HS.out; omega)
      unfold putZ at D KZ NZ
      clear Q L ht hw e1 e2 e2' e3 e4 T0 a4 c5 key ND kz A2w hys hs
      go_wp2
      obtain ⟨d0, d1, d2, d3, d4, d5⟩ := D.out
      exact bodyPost_ret (v := .agg #[.int .i64 l.kind, .int .i64 l.ns, .string l.name, .slice q.1.1 q.1.2.1 q.1.2.2, .string l.text, .slice q.2.1 q.2.2.1 q.2.2.2]) (by simp [results, go_sem, d0, d1, d2, d3, d4, d5]) rfl ⟨q.1.1, q.1.2.1, q.1.2.2, q.2.1, q.2.2.1, q.2.2.2, rfl, NZ.out, KZ.out⟩
    | cons u S =>
      obtain ⟨b, off, rfl, rfl, rfl, T⟩ := C
      simp only [List.tail_cons] at L
      obtain ⟨⟨ub1, ub2, ub3⟩, hu1⟩ := hbare u (by simp)
      have HBR : Hid (∀ u, u ∈ S → bareL u.2.1 ∧ u.1 ≤ 20001) := fun u hu => hbare u (by simp [hu])
      clear hbare
      have HP0 : Hid (RPop B s P A l k p v u S b off wr r.length) := ⟨pv, f, r, Kd, L, T, Q, ht, hw, hbot, rfl, hrl⟩
      clear L T Q ht hw hbot hrl
      obtain ⟨ν, hν⟩ := least_of (RPop B s P A l k p v u S b off)
      obtain ⟨wr0, rfl⟩ : ∃ x, x = wr := ⟨_, rfl⟩
      go_wp2_with fail
      go_loopw [31] (fun x31 wr => ∃ n, RPop B s P A l k p v u S b off wr n) (fun x31 wr => ν wr)
      case atStart => exact ⟨_, HP0.out⟩
      case round =>
        clear HP0
        obtain ⟨n0, hrel⟩ := hrel
        obtain ⟨pv, f, r, Kd, L, T, Q, ht, hw, hbot, hrn, hrl⟩ := (hν _ _ hrel).1
        have HN : Hid (∀ a n, RPop B s P A l k p v u S b off a n → ν a ≤ n) := fun a n hn => (hν a n hn).2
        have HR2 : Hid (r.length = ν wr) := hrn
        clear hrel hν hrn
        have hdeep := (tC_deep ht).1
        have HLN := pt_len wr P pv (r.length + 1) _ Q.pile
        by_cases hgt : u.1 < r.length
        · obtain ⟨g, r', rfl⟩ : ∃ g r', r = g :: r' := by
            cases r with
            | nil => simp at hgt
            | cons g r' => exact ⟨g, r', rfl⟩
          have HPO := pt_pop wr P pv (r'.length + 1) (ptC g r') ⟨f.b, f.off, none⟩ Q.pile (by simp at hrl; omega)
          simp only [List.length_cons] at hgt hrl hdeep HLN HR2
          have HNX : Hid (∀ w' pv', Pk 1 w' 85 52 P pv' (r'.length + 1) (ptC g r') → Kp (P :: blk pv) wr w' → (∀ x, x ∈ blk pv' → x ∈ blk pv ∨ wr.heap.size ≤ x) → RPop B s P A l k p v u S b off w' r'.length) := fun w' pv' a1 a2 a3 => RPop.pop L T Q ht hw hbot hgt (by omega) a1 a2 a3
          have jg : decide ((r'.length : Int) + 1 + 1 > (u.1 : Int) + 1) = true := decide_eq_true (by omega)
          clear L T Q ht hw hbot hdeep
          generalize r'.length = rl at hgt hrl HLN HR2 HPO HNX jg
          go_wp2_with (first
            | (go_at_call 34; refine HLN.mono ?_; rintro e w2 ⟨rfl, hw2⟩; have hw3 := hw2.symm; clear hw2; subst hw3)
            | (go_at_call 35; refine HPO.mono ?_; rintro e w3 ⟨rfl, pv3, a1, a2, a3⟩))
          go_roundw
          case rel => exact ⟨_, HNX.out _ _ a1 a2 a3⟩
          case measure =>
            refine Nat.lt_of_le_of_lt (HN.out _ _ (HNX.out _ _ a1 a2 a3)) ?_
            rw [← HR2.out]; omega
        · have hrl2 : r.length = u.1 := by omega
          clear HN HR2 hgt hdeep
          obtain ⟨rs, hrest, HT2⟩ := tC_top ht hrl2.symm
          obtain ⟨pn, hcl, hnd, hbo⟩ := T
          have hpl := hnd.klen
          have hpa := hnd.alen
          rw [ub1, List.length_nil] at hpa
          have hcnd : u.2.2.len ≤ 100000 := by
            have h1 := Fo.len_le_cnt u.2.2
            obtain ⟨fs, hk2, _⟩ := L
            have h2 := hk2.b.few
            have h3 : u.2.2.cnt < (Fo.cons l k .nil).cnt := by
              rw [← hw]
              exact whole_cnt hrest
            rw [Fo.cnt_cons, Fo.cnt_nil] at h3
            omega
          have HOW : Hid (∀ W, Kp [] wr W → Calls Try.prog 37 #[.pointer (some ⟨b, off, none⟩)] W fun e w' => ∃ g, e = .returned (.agg #[.int .i64 u.2.1.kind, .int .i64 u.2.1.ns, .string u.2.1.name, .slice none 0 0, .string u.2.1.text, .slice (ko g u.2.2.len) 0 u.2.2.len]) ∧ Kp [] W w' ∧ OwnK 6 w' 25 (.slice (ko g u.2.2.len) 0 u.2.2.len) 0 [] ∧ ∀ x, x ∈ blk (.slice (ko g u.2.2.len) 0 u.2.2.len) → W.heap.size ≤ x) := fun W kW => by
            have := own_node W b off u.2.1 pn (hcl.keep kW (by simp)) hpa (by omega) ub2 ub3
            rwa [hpl] at this
          have hfc : f.n + f.rest.len = f.c := by obtain ⟨zs, _, _, h3⟩ := Q.lq; exact h3
          rw [hrest, Fo.len_cons] at hfc
          have hfn : f.n < f.c := by omega
          have hko : ko f.g f.c = some ⟨f.g, 0, none⟩ := by unfold ko; rw [if_neg (by omega)]
          have hmx : f.c ≤ maxLen := by
            obtain ⟨zs, z1, _, _⟩ := Q.lq
            obtain ⟨_, _, _, a2, _⟩ := OwnK.cells z1 (by omega)
            exact a2
          have hmx2 : f.c ≤ 9223372036854775807 := by unfold maxLen at hmx; omega
          obtain ⟨xs, hxs⟩ := ptC_top f r
          have HTP := pt_top wr P pv r.length xs ⟨f.b, f.off, none⟩ (by rw [← hxs]; exact Q.pile) (by omega)
          obtain ⟨q1, q2, q3, q4, q5, q6, q7, q8, q9⟩ := Q.apart (by omega)
          have HQ : Hid (Cq B wr P pv (s.at v).own f r Kd) := Q
          have HL : Hid (Wl B wr (s.at v) S l k p) := L
          have HWH : Hid (whole f r f.done = .cons l k .nil) := hw
          have HAP : Hid (∀ x, x ∈ [f.g, f.b] → B.heap.size ≤ x ∧ x ∉ P :: blk pv ∧ x ∉ (s.at v).own) := fun x hx => by
            simp only [List.mem_cons, List.not_mem_nil, or_false] at hx
            rcases hx with rfl | rfl
            · exact ⟨(Q.new _ q2).1, (Q.ap _ q2).1, (Q.ap _ q2).2⟩
            · exact ⟨(Q.new _ q1).1, (Q.ap _ q1).1, (Q.ap _ q1).2⟩
          have HC0 : Hid (∀ W, Kp [] wr W → W.cell? ⟨f.b, f.off + 5, none⟩ = some (.slice (some ⟨f.g, 0, none⟩) f.n f.c)) := fun W kW => by
            have h1 := ((Q.kept kW).un.cell).1
            unfold Fq.sl at h1
            rwa [hko] at h1
          have jg : decide ((r.length : Int) + 1 > (u.1 : Int) + 1) = false := decide_eq_false (by omega)
          have HFB : Hid (f.b ∈ live f r Kd) := q1
          have HGN : Hid (f.g ∈ live f r Kd) := q2
          clear L Q ht hw hcl hnd hbo hpl hpa q1 q2 q3 q4 q5 q6 q7 q8 q9 hxs hfc hmx hcnd
          have hrb : r.length < 100000 := by omega
          have hgn : ¬ u.1 < r.length := by omega
          generalize hrle : r.length = rl at HLN HTP jg hgn
          clear hrle
          go_upto_region 11 with (first
            | (go_at_call 34; refine HLN.mono ?_; rintro e w2 ⟨rfl, hw2⟩; have hw3 := hw2.symm; clear hw2; subst hw3)
            | (go_at_call 36; refine HTP.mono ?_; rintro e w2 ⟨rfl, hw2⟩; have hw3 := hw2.symm; clear hw2; subst hw3))
          clear HLN HTP jg
          go_cut [9] from 24 to 67 (fun x9 wc => x9 = .pointer (some ⟨f.b, f.off, none⟩) ∧ ∃ g2 w2, Kp [] wr w2 ∧ OwnK 6 w2 25 (.slice (ko g2 u.2.2.len) 0 u.2.2.len) 0 [] ∧ (∀ x, x ∈ blk (.slice (ko g2 u.2.2.len) 0 u.2.2.len) → wr.heap.size ≤ x) ∧ (∀ zs, OwnK 6 w2 25 (.slice (ko f.g f.c) f.n f.c) f.n zs → OwnK 6 wc 25 (.slice (ko f.g f.c) (f.n + 1) f.c) (f.n + 1) (zs ++ six u.2.1 ((none, 0, 0), (ko g2 u.2.2.len, 0, u.2.2.len)))) ∧ Un (· ∈ Kd) wc { f with n := f.n + 1, done := f.done, rest := rs } r ∧ Kp [f.g, f.b] w2 wc)
          case first =>
            have j1 : (0 : Int) ≤ (f.n : Int) := by omega
            have j2 : (f.n : Int) < (f.n : Int) + 1 := by omega
            obtain ⟨U0, hU0⟩ : ∃ V, V = wr.drew := ⟨_, rfl⟩
            have k0 : Kp [] wr U0 := by rw [hU0]; exact (Kp.refl _ _).drew
            refine wp_region_g (S := fun V => V.cell? ⟨f.b, f.off + 5, none⟩ = some (.slice (some ⟨f.g, 0, none⟩) f.n f.c)) (T := [8, 9, 10, 11, 12, 13]) (by kernel_rfl) (HC0.out _ (Kp.refl [] wr).drew) (fun hHeld => ?_)
            rw [← hU0] at hHeld ⊢
            clear hU0
            refine wpAnyG_pure (i := 0) (oi := { dst := some 43, op := Go.Op.move (Go.Operand.tmp 9), type := 52, pos := "tree.go:78", after := #[], guard := none }) (v := ?_) rfl (by kernel_rfl) (by kernel_rfl) (by kernel_rfl) (by kernel_rfl) (fun _ _ _ h => h) (Or.inl ⟨by rfl, ?_⟩) (by assumption) ?_
            rotate_left
            · (intro w; go_simp; try with_reducible rfl)
            simp only [Act.put, List.setIfInBounds_toArray, List.set_cons_zero, List.set_cons_succ]
            refine wpAnyG_pure (i := 1) (oi := { dst := some 44, op := Go.Op.nilCheck (Go.Operand.tmp 43), type := 0, pos := "tree.go:78", after := #[{ on := 0, ground := Go.Ground.data }], guard := none }) (v := ?_) rfl (by kernel_rfl) (by kernel_rfl) (by kernel_rfl) (by kernel_rfl) (fun _ _ _ h => h) (Or.inl ⟨by rfl, ?_⟩) (by assumption) ?_
            rotate_left
            · (intro w; go_simp; try with_reducible rfl)
            simp only [Act.put, List.setIfInBounds_toArray, List.set_cons_zero, List.set_cons_succ]
            refine wpAnyG_pure (i := 2) (oi := { dst := some 45, op := Go.Op.fieldAddr 25 (Go.Operand.tmp 44) 5, type := 0, pos := "tree.go:78", after := #[{ on := 1, ground := Go.Ground.data }], guard := none }) (v := ?_) rfl (by kernel_rfl) (by kernel_rfl) (by kernel_rfl) (by kernel_rfl) (fun _ _ _ h => h) (Or.inl ⟨by rfl, ?_⟩) (by assumption) ?_
            rotate_left
            · (intro w; go_simp; try with_reducible rfl)
            simp only [Act.put, List.setIfInBounds_toArray, List.set_cons_zero, List.set_cons_succ]
            refine wpAnyG_take (i := 3) (oi := { dst := some 46, op := Go.Op.load 23 (Go.Operand.tmp 45), type := 23, pos := "tree.go:78", after := #[{ on := 2, ground := Go.Ground.data }], guard := none }) (v := ?_) rfl (by kernel_rfl) (by kernel_rfl) (by kernel_rfl) (by kernel_rfl) (fun _ _ _ h => h) (Or.inl ⟨by rfl, ?_⟩) (by assumption) ?_
            rotate_left
            · (intro w hSw; (try dsimp only at hSw); go_simp; try with_reducible rfl)
            simp only [Act.put, List.setIfInBounds_toArray, List.set_cons_zero, List.set_cons_succ]
            refine wpAnyG_pure (i := 4) (oi := { dst := some 47, op := Go.Op.move (Go.Operand.tmp 6), type := 52, pos := "tree.go:78", after := #[], guard := none }) (v := ?_) rfl (by kernel_rfl) (by kernel_rfl) (by kernel_rfl) (by kernel_rfl) (fun _ _ _ h => h) (Or.inl ⟨by rfl, ?_⟩) (by assumption) ?_
            rotate_left
            · (intro w; go_simp; try with_reducible rfl)
            simp only [Act.put, List.setIfInBounds_toArray, List.set_cons_zero, List.set_cons_succ]
            refine wpAnyG_pure (i := 6) (oi := { dst := some 49, op := Go.Op.call { callee := Go.Callee.builtin Go.Builtin.len, args := #[Go.Operand.tmp 46], argTypes := #[23] }, type := 3, pos := "tree.go:78", after := #[{ on := 3, ground := Go.Ground.data }], guard := none }) (v := ?_) rfl (by kernel_rfl) (by kernel_rfl) (by kernel_rfl) (by kernel_rfl) (fun _ _ _ h => h) (Or.inl ⟨by rfl, ?_⟩) (by assumption) ?_
            rotate_left
            · (intro w; go_simp; try with_reducible rfl)
            simp only [Act.put, List.setIfInBounds_toArray, List.set_cons_zero, List.set_cons_succ]
            refine wpAnyG_ready (rs := [5, 7]) (by kernel_rfl) (by simp) ?_
            refine AllReadyG.cons (o := { dst := some 48, op := Go.Op.call { callee := Go.Callee.value (Go.Operand.func 37), args := #[Go.Operand.tmp 47], argTypes := #[52] }, type := 25, pos := "tree.go:78", after := #[{ on := 4, ground := Go.Ground.data }], guard := none }) rfl (fun K hK => ?_) ?_
            · go_simp
              go_at_call 37
              refine (HOW.out _ k0).mono ?_
              rintro e U1 ⟨g2, rfl, u1, OW, NW⟩
              go_wp2_with fail
              have k1 : Kp [] wr U1 := k0.trans u1 (fun z hz => by simp at hz)
              have nz := k0.size
              have NW : ∀ x, x ∈ blk (.slice (ko g2 u.2.2.len) 0 u.2.2.len) → wr.heap.size ≤ x := fun x hx => by have := NW x hx; omega
              refine hK.out _ _ (HC0.out _ k1) (fun hHeld1 => ?_)
              clear hK K hHeld
              try simp only [Act.put, List.setIfInBounds_toArray, List.set_cons_zero, List.set_cons_succ]
              refine wpAnyG_ready (rs := [7]) (by kernel_rfl) (by simp) ?_
              refine AllReadyG.cons (o := { dst := some 50, op := Go.Op.buildSlice 23 1 #[(0, Go.Operand.const (Go.Value.agg #[Go.Value.int Go.IntKind.i64 0, Go.Value.int Go.IntKind.i64 0, Go.Value.string { data := #[] }, Go.Value.slice none 0 0, Go.Value.string { data := #[] }, Go.Value.slice none 0 0]))], type := 23, pos := "tree.go:78", after := #[], guard := none }) rfl (fun K hK => ?_) AllReadyG.nil
              go_simp
              obtain ⟨U2, hU⟩ : ∃ V, V = World.alloc U1 (.cells #[.int .i64 0, .int .i64 0, .string ⟨#[]⟩, .slice none 0 0, .string ⟨#[]⟩, .slice none 0 0] 25) := ⟨_, rfl⟩
              rw [← hU]
              have u2 : Kp [] U1 U2 := by rw [hU]; exact (Kp.refl _ _).alloc _
              have k2 : Kp [] wr U2 := k1.trans u2 (fun z hz => by simp at hz)
              have TZ : At U2 U1.heap.size #[.int .i64 0, .int .i64 0, .string ⟨#[]⟩, .slice none 0 0, .string ⟨#[]⟩, .slice none 0 0] 25 := by rw [hU]; exact At.new _ _ _
              obtain ⟨gz, hgz⟩ : ∃ g, U1.heap.size = g := ⟨_, rfl⟩
              rw [hgz] at TZ ⊢
              clear hU hgz
              have OW := OW.keep u2 (fun _ _ => by simp)
              refine hK.out _ _ (HC0.out _ k2) (fun hHeld2 => ?_)
              clear hK K hHeld1
              try simp only [Act.put, List.setIfInBounds_toArray, List.set_cons_zero, List.set_cons_succ]
              refine wpAnyG_free (by kernel_rfl) ?_
              refine wpAny_ready (rs := [8]) (by kernel_rfl) (by simp) ?_
              refine AllReady.cons (o := { dst := some 51, op := Go.Op.call { callee := Go.Callee.builtin Go.Builtin.append, args := #[Go.Operand.tmp 46, Go.Operand.tmp 50], argTypes := #[23, 23] }, type := 23, pos := "tree.go:78", after := #[{ on := 3, ground := Go.Ground.data }, { on := 7, ground := Go.Ground.data }, { on := 5, ground := Go.Ground.chain }, { on := 0, ground := Go.Ground.phase }, { on := 1, ground := Go.Ground.phase }, { on := 2, ground := Go.Ground.phase }, { on := 3, ground := Go.Ground.phase }, { on := 4, ground := Go.Ground.phase }, { on := 5, ground := Go.Ground.phase }, { on := 6, ground := Go.Ground.phase }, { on := 7, ground := Go.Ground.phase }], guard := none }) rfl (fun K hK => ?_) AllReady.nil
              have CU := HQ.out.kept k2
              obtain ⟨zs, z1, _, _⟩ := CU.lq
              rw [List.append_nil] at z1
              unfold Fq.sl at z1
              refine step_appR (by rfl) _ _ 23 (by rfl) _ _ (by rfl) (by rfl) (room_run z1 hfn TZ [Value.int .i64 0, .int .i64 0, .string ⟨#[]⟩, .slice none 0 0, .string ⟨#[]⟩, .slice none 0 0] rfl rfl (fun u hu => by simp only [List.mem_cons, List.not_mem_nil, or_false] at hu; rcases hu with rfl | rfl | rfl | rfl | rfl | rfl <;> rfl)) ?_
              have z2 := z1.room (ys := [Value.int .i64 0, .int .i64 0, .string ⟨#[]⟩, .slice none 0 0, .string ⟨#[]⟩, .slice none 0 0]) hfn rfl
              have F5 : Hid _ := CU.five hfn (six u.2.1 ((none, 0, 0), (ko g2 u.2.2.len, 0, u.2.2.len))) rfl [Value.int .i64 0, .int .i64 0, .string ⟨#[]⟩, .slice none 0 0, .string ⟨#[]⟩, .slice none 0 0] rfl rs
              have UX : Un (· ∈ Kd) (U2.setCells f.g (f.n * 6) [Value.int .i64 0, .int .i64 0, .string ⟨#[]⟩, .slice none 0 0, .string ⟨#[]⟩, .slice none 0 0]) f r := CU.un.keep (Kp.setCells f.g (Or.inl (by simp)) _ _ _ (Kp.refl [f.g] _)) ((Kp.setCells f.g (Or.inl (by simp)) _ _ _ (Kp.refl [f.g] _)).sms (fun x hx => by simp; intro e; subst e; exact (CU.apart (by omega)).2.2.2.2.1 hx)) (fun x hx => by simp; intro e; subst e; exact (CU.apart (by omega)).2.2.2.2.2.1 hx) (by simp; exact (CU.apart (by omega)).2.2.2.2.2.2.1)
              have hbg := (CU.apart (by omega)).2.2.1
              have cX := UX.cell
              unfold Fq.sl at cX
              rw [hko] at cX
              obtain ⟨cX1, cX2⟩ := cX
              obtain ⟨⟨l0, l1, l2, l3, l4, l5⟩, lf⟩ := last_cells z2 hfn
              obtain ⟨X, hX⟩ : ∃ X, X = U2.setCells f.g (f.n * 6) [Value.int .i64 0, .int .i64 0, .string ⟨#[]⟩, .slice none 0 0, .string ⟨#[]⟩, .slice none 0 0] := ⟨_, rfl⟩
              rw [← hX] at cX1 cX2 l0 l1 l2 l3 l4 l5 lf F5 ⊢
              clear hX UX z1 z2 CU
              refine hK _ _ ?_
              clear hK K
              try simp only [Act.put, List.setIfInBounds_toArray, List.set_cons_zero, List.set_cons_succ]
              refine wpAny_take (i := 9) (oi := { dst := some 52, op := Go.Op.indexAddr 23 (Go.Operand.tmp 51) (Go.Operand.tmp 49), type := 0, pos := "tree.go:78", after := #[{ on := 8, ground := Go.Ground.data }, { on := 6, ground := Go.Ground.data }, { on := 0, ground := Go.Ground.phase }, { on := 1, ground := Go.Ground.phase }, { on := 2, ground := Go.Ground.phase }, { on := 3, ground := Go.Ground.phase }, { on := 4, ground := Go.Ground.phase }, { on := 5, ground := Go.Ground.phase }, { on := 6, ground := Go.Ground.phase }, { on := 7, ground := Go.Ground.phase }, { on := 8, ground := Go.Ground.phase }, { on := 13, ground := Go.Ground.gcOnly Go.Departure.appendInPlace }], guard := none }) (v := ?_) rfl (by kernel_rfl) (by kernel_rfl) (by kernel_rfl) (fun _ _ _ h => h) (Or.inl ⟨by rfl, ?_⟩) ?_
              rotate_left
              · (intro w; go_simp; try with_reducible rfl)
              simp only [Act.put, List.setIfInBounds_toArray, List.set_cons_zero, List.set_cons_succ]
              refine wpAny_take (i := 11) (oi := { dst := some 53, op := Go.Op.nilCheck (Go.Operand.tmp 43), type := 0, pos := "tree.go:78", after := #[{ on := 0, ground := Go.Ground.data }, { on := 0, ground := Go.Ground.phase }, { on := 1, ground := Go.Ground.phase }, { on := 2, ground := Go.Ground.phase }, { on := 3, ground := Go.Ground.phase }, { on := 4, ground := Go.Ground.phase }, { on := 5, ground := Go.Ground.phase }, { on := 6, ground := Go.Ground.phase }, { on := 7, ground := Go.Ground.phase }, { on := 8, ground := Go.Ground.phase }, { on := 9, ground := Go.Ground.textOnly Go.Departure.appendInPlace }, { on := 10, ground := Go.Ground.textOnly Go.Departure.appendInPlace }], guard := none }) (v := ?_) rfl (by kernel_rfl) (by kernel_rfl) (by kernel_rfl) (fun _ _ _ h => h) (Or.inl ⟨by rfl, ?_⟩) ?_
              rotate_left
              · (intro w; go_simp; try with_reducible rfl)
              simp only [Act.put, List.setIfInBounds_toArray, List.set_cons_zero, List.set_cons_succ]
              refine wpAny_take (i := 12) (oi := { dst := some 54, op := Go.Op.fieldAddr 25 (Go.Operand.tmp 53) 5, type := 0, pos := "tree.go:78", after := #[{ on := 11, ground := Go.Ground.data }, { on := 0, ground := Go.Ground.phase }, { on := 1, ground := Go.Ground.phase }, { on := 2, ground := Go.Ground.phase }, { on := 3, ground := Go.Ground.phase }, { on := 4, ground := Go.Ground.phase }, { on := 5, ground := Go.Ground.phase }, { on := 6, ground := Go.Ground.phase }, { on := 7, ground := Go.Ground.phase }, { on := 8, ground := Go.Ground.phase }, { on := 9, ground := Go.Ground.textOnly Go.Departure.appendInPlace }, { on := 10, ground := Go.Ground.textOnly Go.Departure.appendInPlace }], guard := none }) (v := ?_) rfl (by kernel_rfl) (by kernel_rfl) (by kernel_rfl) (fun _ _ _ h => h) (Or.inl ⟨by rfl, ?_⟩) ?_
              rotate_left
              · (intro w; go_simp; try with_reducible rfl)
              simp only [Act.put, List.setIfInBounds_toArray, List.set_cons_zero, List.set_cons_succ]
              refine wpAny_ready (rs := [10, 13]) (by kernel_rfl) (by simp) ?_
              refine AllReady.cons (o := { dst := none, op := Go.Op.store 25 (Go.Operand.tmp 52) (Go.Operand.tmp 48), type := 0, pos := "tree.go:78", after := #[{ on := 9, ground := Go.Ground.data }, { on := 5, ground := Go.Ground.data }, { on := 8, ground := Go.Ground.chain }, { on := 0, ground := Go.Ground.phase }, { on := 1, ground := Go.Ground.phase }, { on := 2, ground := Go.Ground.phase }, { on := 3, ground := Go.Ground.phase }, { on := 4, ground := Go.Ground.phase }, { on := 5, ground := Go.Ground.phase }, { on := 6, ground := Go.Ground.phase }, { on := 7, ground := Go.Ground.phase }, { on := 8, ground := Go.Ground.phase }, { on := 13, ground := Go.Ground.gcOnly Go.Departure.appendInPlace }], guard := none }) rfl (fun K hK => ?_) ?_
              · go_simp
                clear l0 l1 l2 l3 l4 l5 lf
                obtain ⟨Y, hY⟩ : ∃ Y, Y = put6 X f.g (f.n * 6) (.int .i64 u.2.1.kind) (.int .i64 u.2.1.ns) (.string u.2.1.name) (.slice none 0 0) (.string u.2.1.text) (.slice (ko g2 u.2.2.len) 0 u.2.2.len) := ⟨_, rfl⟩
                have hYu := hY
                unfold put6 at hYu
                rw [← hYu]
                clear hYu
                have F5a := F5.out.1
                rw [put6_eq] at hY
                have HY : Hid (Y = World.setCells X f.g (f.n * 6) (six u.2.1 ((none, 0, 0), (ko g2 u.2.2.len, 0, u.2.2.len)))) := hY
                have kg : Kp [f.g] X Y := by rw [hY]; exact Kp.setCells f.g (Or.inl (by simp)) _ _ _ (Kp.refl _ _)
                have cX2 := (kg.frozen (a := ⟨f.b, f.off + 5, none⟩) (block_lt_of_cell cX1) (by simp; exact hbg)).trans cX2
                have cX1 := (kg.cell (a := ⟨f.b, f.off + 5, none⟩) (block_lt_of_cell cX1) (by simp; exact hbg)).trans cX1
                clear hY kg
                refine hK _ _ ?_
                clear hK K
                try simp only [Act.put, List.setIfInBounds_toArray, List.set_cons_zero, List.set_cons_succ]
                refine wpAny_ready (rs := [13]) (by kernel_rfl) (by simp) ?_
                refine AllReady.cons (o := { dst := none, op := Go.Op.store 23 (Go.Operand.tmp 54) (Go.Operand.tmp 51), type := 0, pos := "tree.go:78", after := #[{ on := 12, ground := Go.Ground.data }, { on := 8, ground := Go.Ground.data }, { on := 8, ground := Go.Ground.chain }, { on := 10, ground := Go.Ground.textOnly Go.Departure.appendInPlace }, { on := 0, ground := Go.Ground.phase }, { on := 1, ground := Go.Ground.phase }, { on := 2, ground := Go.Ground.phase }, { on := 3, ground := Go.Ground.phase }, { on := 4, ground := Go.Ground.phase }, { on := 5, ground := Go.Ground.phase }, { on := 6, ground := Go.Ground.phase }, { on := 7, ground := Go.Ground.phase }, { on := 8, ground := Go.Ground.phase }, { on := 9, ground := Go.Ground.textOnly Go.Departure.appendInPlace }, { on := 10, ground := Go.Ground.textOnly Go.Departure.appendInPlace }], guard := none }) rfl (fun K hK => ?_) AllReady.nil
                go_simp
                refine hK _ _ ?_
                clear hK K
                try simp only [Act.put, List.setIfInBounds_toArray, List.set_cons_zero, List.set_cons_succ]
                refine wpAny_done (by kernel_rfl) ?_ _
                have F5b := F5a
                rw [← HY.out] at F5b
                rw [hko] at F5b
                obtain ⟨a1, a2, a3⟩ := F5b
                go_wp2_with fail
                go_meet
                case rel => exact ⟨rfl, g2, U2, k2, OW, NW, fun zs hz => by rw [hko] at hz ⊢; exact a1 zs hz, a2, a3⟩
              refine AllReady.cons (o := { dst := none, op := Go.Op.store 23 (Go.Operand.tmp 54) (Go.Operand.tmp 51), type := 0, pos := "tree.go:78", after := #[{ on := 12, ground := Go.Ground.data }, { on := 8, ground := Go.Ground.data }, { on := 8, ground := Go.Ground.chain }, { on := 10, ground := Go.Ground.textOnly Go.Departure.appendInPlace }, { on := 0, ground := Go.Ground.phase }, { on := 1, ground := Go.Ground.phase }, { on := 2, ground := Go.Ground.phase }, { on := 3, ground := Go.Ground.phase }, { on := 4, ground := Go.Ground.phase }, { on := 5, ground := Go.Ground.phase }, { on := 6, ground := Go.Ground.phase }, { on := 7, ground := Go.Ground.phase }, { on := 8, ground := Go.Ground.phase }, { on := 9, ground := Go.Ground.textOnly Go.Departure.appendInPlace }, { on := 10, ground := Go.Ground.textOnly Go.Departure.appendInPlace }], guard := none }) rfl (fun K hK => ?_) AllReady.nil
              go_simp
              clear cX1 cX2
              obtain ⟨Y, hY⟩ : ∃ Y, Y = World.setCell X ⟨f.b, f.off + 5, none⟩ (.slice (some ⟨f.g, 0, none⟩) (f.n + 1) f.c) := ⟨_, rfl⟩
              rw [← hY]
              have HY : Hid (Y = World.setCell X ⟨f.b, f.off + 5, none⟩ (.slice (ko f.g f.c) (f.n + 1) f.c)) := by show Y = _; rw [hko]; exact hY
              refine hK _ _ ?_
              clear hK K
              try simp only [Act.put, List.setIfInBounds_toArray, List.set_cons_zero, List.set_cons_succ]
              refine wpAny_ready (rs := [10]) (by kernel_rfl) (by simp) ?_
              refine AllReady.cons (o := { dst := none, op := Go.Op.store 25 (Go.Operand.tmp 52) (Go.Operand.tmp 48), type := 0, pos := "tree.go:78", after := #[{ on := 9, ground := Go.Ground.data }, { on := 5, ground := Go.Ground.data }, { on := 8, ground := Go.Ground.chain }, { on := 0, ground := Go.Ground.phase }, { on := 1, ground := Go.Ground.phase }, { on := 2, ground := Go.Ground.phase }, { on := 3, ground := Go.Ground.phase }, { on := 4, ground := Go.Ground.phase }, { on := 5, ground := Go.Ground.phase }, { on := 6, ground := Go.Ground.phase }, { on := 7, ground := Go.Ground.phase }, { on := 8, ground := Go.Ground.phase }, { on := 13, ground := Go.Ground.gcOnly Go.Departure.appendInPlace }], guard := none }) rfl (fun K hK => ?_) AllReady.nil
              have kf : Kp [f.b] X Y := by rw [hY]; exact (Kp.refl _ _).setCell (Or.inl (by simp)) _
              have hgX : f.g < X.heap.size := block_lt_of_cell l0
              have ll := fun (j : Nat) => kf.cell (a := ⟨f.g, j, none⟩) hgX (by simp; exact fun e => hbg e.symm)
              have lff := fun (j : Nat) => kf.frozen (a := ⟨f.g, j, none⟩) hgX (by simp; exact fun e => hbg e.symm)
              have m0 := (ll _).trans l0
              have m1 := (ll _).trans l1
              have m2 := (ll _).trans l2
              have m3 := (ll _).trans l3
              have m4 := (ll _).trans l4
              have m5 := (ll _).trans l5
              have mf := fun j => (lff j).trans (lf j)
              clear hY ll lff l0 l1 l2 l3 l4 l5 lf
              go_simp
              refine hK _ _ ?_
              clear hK K
              try simp only [Act.put, List.setIfInBounds_toArray, List.set_cons_zero, List.set_cons_succ]
              refine wpAny_done (by kernel_rfl) ?_ _
              obtain ⟨Z, hZ⟩ : ∃ Z, Z = put6 Y f.g (f.n * 6) (.int .i64 u.2.1.kind) (.int .i64 u.2.1.ns) (.string u.2.1.name) (.slice none 0 0) (.string u.2.1.text) (.slice (ko g2 u.2.2.len) 0 u.2.2.len) := ⟨_, rfl⟩
              have hZu := hZ
              unfold put6 at hZu
              rw [← hZu]
              clear hZu
              rw [put6_eq] at hZ
              have HZ : Hid (Z = World.setCells Y f.g (f.n * 6) (six u.2.1 ((none, 0, 0), (ko g2 u.2.2.len, 0, u.2.2.len)))) := hZ
              have F5b := F5.out.2
              rw [← HY.out, ← HZ.out] at F5b
              obtain ⟨a1, a2, a3⟩ := F5b
              clear hZ
              go_wp2_with fail
              go_meet
              case rel => exact ⟨rfl, g2, U2, k2, OW, NW, a1, a2, a3⟩
            refine AllReadyG.cons (o := { dst := some 50, op := Go.Op.buildSlice 23 1 #[(0, Go.Operand.const (Go.Value.agg #[Go.Value.int Go.IntKind.i64 0, Go.Value.int Go.IntKind.i64 0, Go.Value.string { data := #[] }, Go.Value.slice none 0 0, Go.Value.string { data := #[] }, Go.Value.slice none 0 0]))], type := 23, pos := "tree.go:78", after := #[], guard := none }) rfl (fun K hK => ?_) AllReadyG.nil
            go_simp
            obtain ⟨U1, hU⟩ : ∃ V, V = World.alloc U0 (.cells #[.int .i64 0, .int .i64 0, .string ⟨#[]⟩, .slice none 0 0, .string ⟨#[]⟩, .slice none 0 0] 25) := ⟨_, rfl⟩
            rw [← hU]
            have u1 : Kp [] U0 U1 := by rw [hU]; exact (Kp.refl _ _).alloc _
            have k1 : Kp [] wr U1 := k0.trans u1 (fun z hz => by simp at hz)
            have TZ : At U1 U0.heap.size #[.int .i64 0, .int .i64 0, .string ⟨#[]⟩, .slice none 0 0, .string ⟨#[]⟩, .slice none 0 0] 25 := by rw [hU]; exact At.new _ _ _
            obtain ⟨gz, hgz⟩ : ∃ g, U0.heap.size = g := ⟨_, rfl⟩
            rw [hgz] at TZ ⊢
            clear hU hgz
            refine hK.out _ _ (HC0.out _ k1) (fun hHeld1 => ?_)
            clear hK K hHeld
            try simp only [Act.put, List.setIfInBounds_toArray, List.set_cons_zero, List.set_cons_succ]
            refine wpAnyG_ready (rs := [5]) (by kernel_rfl) (by simp) ?_
            refine AllReadyG.cons (o := { dst := some 48, op := Go.Op.call { callee := Go.Callee.value (Go.Operand.func 37), args := #[Go.Operand.tmp 47], argTypes := #[52] }, type := 25, pos := "tree.go:78", after := #[{ on := 4, ground := Go.Ground.data }], guard := none }) rfl (fun K hK => ?_) AllReadyG.nil
            go_simp
            go_at_call 37
            refine (HOW.out _ k1).mono ?_
            rintro e U2 ⟨g2, rfl, u2, OW, NW⟩
            go_wp2_with fail
            have k2 : Kp [] wr U2 := k1.trans u2 (fun z hz => by simp at hz)
            have nz := k1.size
            have NW : ∀ x, x ∈ blk (.slice (ko g2 u.2.2.len) 0 u.2.2.len) → wr.heap.size ≤ x := fun x hx => by have := NW x hx; omega
            have TZ := TZ.kept u2 (by simp)
            refine hK.out _ _ (HC0.out _ k2) (fun hHeld2 => ?_)
            clear hK K hHeld1
            try simp only [Act.put, List.setIfInBounds_toArray, List.set_cons_zero, List.set_cons_succ]
            refine wpAnyG_free (by kernel_rfl) ?_
            refine wpAny_ready (rs := [8]) (by kernel_rfl) (by simp) ?_
            refine AllReady.cons (o := { dst := some 51, op := Go.Op.call { callee := Go.Callee.builtin Go.Builtin.append, args := #[Go.Operand.tmp 46, Go.Operand.tmp 50], argTypes := #[23, 23] }, type := 23, pos := "tree.go:78", after := #[{ on := 3, ground := Go.Ground.data }, { on := 7, ground := Go.Ground.data }, { on := 5, ground := Go.Ground.chain }, { on := 0, ground := Go.Ground.phase }, { on := 1, ground := Go.Ground.phase }, { on := 2, ground := Go.Ground.phase }, { on := 3, ground := Go.Ground.phase }, { on := 4, ground := Go.Ground.phase }, { on := 5, ground := Go.Ground.phase }, { on := 6, ground := Go.Ground.phase }, { on := 7, ground := Go.Ground.phase }], guard := none }) rfl (fun K hK => ?_) AllReady.nil
            have CU := HQ.out.kept k2
            obtain ⟨zs, z1, _, _⟩ := CU.lq
            rw [List.append_nil] at z1
            unfold Fq.sl at z1
            refine step_appR (by rfl) _ _ 23 (by rfl) _ _ (by rfl) (by rfl) (room_run z1 hfn TZ [Value.int .i64 0, .int .i64 0, .string ⟨#[]⟩, .slice none 0 0, .string ⟨#[]⟩, .slice none 0 0] rfl rfl (fun u hu => by simp only [List.mem_cons, List.not_mem_nil, or_false] at hu; rcases hu with rfl | rfl | rfl | rfl | rfl | rfl <;> rfl)) ?_
            have z2 := z1.room (ys := [Value.int .i64 0, .int .i64 0, .string ⟨#[]⟩, .slice none 0 0, .string ⟨#[]⟩, .slice none 0 0]) hfn rfl
            have F5 : Hid _ := CU.five hfn (six u.2.1 ((none, 0, 0), (ko g2 u.2.2.len, 0, u.2.2.len))) rfl [Value.int .i64 0, .int .i64 0, .string ⟨#[]⟩, .slice none 0 0, .string ⟨#[]⟩, .slice none 0 0] rfl rs
            have UX : Un (· ∈ Kd) (U2.setCells f.g (f.n * 6) [Value.int .i64 0, .int .i64 0, .string ⟨#[]⟩, .slice none 0 0, .string ⟨#[]⟩, .slice none 0 0]) f r := CU.un.keep (Kp.setCells f.g (Or.inl (by simp)) _ _ _ (Kp.refl [f.g] _)) ((Kp.setCells f.g (Or.inl (by simp)) _ _ _ (Kp.refl [f.g] _)).sms (fun x hx => by simp; intro e; subst e; exact (CU.apart (by omega)).2.2.2.2.1 hx)) (fun x hx => by simp; intro e; subst e; exact (CU.apart (by omega)).2.2.2.2.2.1 hx) (by simp; exact (CU.apart (by omega)).2.2.2.2.2.2.1)
            have hbg := (CU.apart (by omega)).2.2.1
            have cX := UX.cell
            unfold Fq.sl at cX
            rw [hko] at cX
            obtain ⟨cX1, cX2⟩ := cX
            obtain ⟨⟨l0, l1, l2, l3, l4, l5⟩, lf⟩ := last_cells z2 hfn
            obtain ⟨X, hX⟩ : ∃ X, X = U2.setCells f.g (f.n * 6) [Value.int .i64 0, .int .i64 0, .string ⟨#[]⟩, .slice none 0 0, .string ⟨#[]⟩, .slice none 0 0] := ⟨_, rfl⟩
            rw [← hX] at cX1 cX2 l0 l1 l2 l3 l4 l5 lf F5 ⊢
            clear hX UX z1 z2 CU
            refine hK _ _ ?_
            clear hK K
            try simp only [Act.put, List.setIfInBounds_toArray, List.set_cons_zero, List.set_cons_succ]
            refine wpAny_take (i := 9) (oi := { dst := some 52, op := Go.Op.indexAddr 23 (Go.Operand.tmp 51) (Go.Operand.tmp 49), type := 0, pos := "tree.go:78", after := #[{ on := 8, ground := Go.Ground.data }, { on := 6, ground := Go.Ground.data }, { on := 0, ground := Go.Ground.phase }, { on := 1, ground := Go.Ground.phase }, { on := 2, ground := Go.Ground.phase }, { on := 3, ground := Go.Ground.phase }, { on := 4, ground := Go.Ground.phase }, { on := 5, ground := Go.Ground.phase }, { on := 6, ground := Go.Ground.phase }, { on := 7, ground := Go.Ground.phase }, { on := 8, ground := Go.Ground.phase }, { on := 13, ground := Go.Ground.gcOnly Go.Departure.appendInPlace }], guard := none }) (v := ?_) rfl (by kernel_rfl) (by kernel_rfl) (by kernel_rfl) (fun _ _ _ h => h) (Or.inl ⟨by rfl, ?_⟩) ?_
            rotate_left
            · (intro w; go_simp; try with_reducible rfl)
            simp only [Act.put, List.setIfInBounds_toArray, List.set_cons_zero, List.set_cons_succ]
            refine wpAny_take (i := 11) (oi := { dst := some 53, op := Go.Op.nilCheck (Go.Operand.tmp 43), type := 0, pos := "tree.go:78", after := #[{ on := 0, ground := Go.Ground.data }, { on := 0, ground := Go.Ground.phase }, { on := 1, ground := Go.Ground.phase }, { on := 2, ground := Go.Ground.phase }, { on := 3, ground := Go.Ground.phase }, { on := 4, ground := Go.Ground.phase }, { on := 5, ground := Go.Ground.phase }, { on := 6, ground := Go.Ground.phase }, { on := 7, ground := Go.Ground.phase }, { on := 8, ground := Go.Ground.phase }, { on := 9, ground := Go.Ground.textOnly Go.Departure.appendInPlace }, { on := 10, ground := Go.Ground.textOnly Go.Departure.appendInPlace }], guard := none }) (v := ?_) rfl (by kernel_rfl) (by kernel_rfl) (by kernel_rfl) (fun _ _ _ h => h) (Or.inl ⟨by rfl, ?_⟩) ?_
            rotate_left
            · (intro w; go_simp; try with_reducible rfl)
            simp only [Act.put, List.setIfInBounds_toArray, List.set_cons_zero, List.set_cons_succ]
            refine wpAny_take (i := 12) (oi := { dst := some 54, op := Go.Op.fieldAddr 25 (Go.Operand.tmp 53) 5, type := 0, pos := "tree.go:78", after := #[{ on := 11, ground := Go.Ground.data }, { on := 0, ground := Go.Ground.phase }, { on := 1, ground := Go.Ground.phase }, { on := 2, ground := Go.Ground.phase }, { on := 3, ground := Go.Ground.phase }, { on := 4, ground := Go.Ground.phase }, { on := 5, ground := Go.Ground.phase }, { on := 6, ground := Go.Ground.phase }, { on := 7, ground := Go.Ground.phase }, { on := 8, ground := Go.Ground.phase }, { on := 9, ground := Go.Ground.textOnly Go.Departure.appendInPlace }, { on := 10, ground := Go.Ground.textOnly Go.Departure.appendInPlace }], guard := none }) (v := ?_) rfl (by kernel_rfl) (by kernel_rfl) (by kernel_rfl) (fun _ _ _ h => h) (Or.inl ⟨by rfl, ?_⟩) ?_
            rotate_left
            · (intro w; go_simp; try with_reducible rfl)
            simp only [Act.put, List.setIfInBounds_toArray, List.set_cons_zero, List.set_cons_succ]
            refine wpAny_ready (rs := [10, 13]) (by kernel_rfl) (by simp) ?_
            refine AllReady.cons (o := { dst := none, op := Go.Op.store 25 (Go.Operand.tmp 52) (Go.Operand.tmp 48), type := 0, pos := "tree.go:78", after := #[{ on := 9, ground := Go.Ground.data }, { on := 5, ground := Go.Ground.data }, { on := 8, ground := Go.Ground.chain }, { on := 0, ground := Go.Ground.phase }, { on := 1, ground := Go.Ground.phase }, { on := 2, ground := Go.Ground.phase }, { on := 3, ground := Go.Ground.phase }, { on := 4, ground := Go.Ground.phase }, { on := 5, ground := Go.Ground.phase }, { on := 6, ground := Go.Ground.phase }, { on := 7, ground := Go.Ground.phase }, { on := 8, ground := Go.Ground.phase }, { on := 13, ground := Go.Ground.gcOnly Go.Departure.appendInPlace }], guard := none }) rfl (fun K hK => ?_) ?_
            · go_simp
              clear l0 l1 l2 l3 l4 l5 lf
              obtain ⟨Y, hY⟩ : ∃ Y, Y = put6 X f.g (f.n * 6) (.int .i64 u.2.1.kind) (.int .i64 u.2.1.ns) (.string u.2.1.name) (.slice none 0 0) (.string u.2.1.text) (.slice (ko g2 u.2.2.len) 0 u.2.2.len) := ⟨_, rfl⟩
              have hYu := hY
              unfold put6 at hYu
              rw [← hYu]
              clear hYu
              have F5a := F5.out.1
              rw [put6_eq] at hY
              have HY : Hid (Y = World.setCells X f.g (f.n * 6) (six u.2.1 ((none, 0, 0), (ko g2 u.2.2.len, 0, u.2.2.len)))) := hY
              have kg : Kp [f.g] X Y := by rw [hY]; exact Kp.setCells f.g (Or.inl (by simp)) _ _ _ (Kp.refl _ _)
              have cX2 := (kg.frozen (a := ⟨f.b, f.off + 5, none⟩) (block_lt_of_cell cX1) (by simp; exact hbg)).trans cX2
              have cX1 := (kg.cell (a := ⟨f.b, f.off + 5, none⟩) (block_lt_of_cell cX1) (by simp; exact hbg)).trans cX1
              clear hY kg
              refine hK _ _ ?_
              clear hK K
              try simp only [Act.put, List.setIfInBounds_toArray, List.set_cons_zero, List.set_cons_succ]
              refine wpAny_ready (rs := [13]) (by kernel_rfl) (by simp) ?_
              refine AllReady.cons (o := { dst := none, op := Go.Op.store 23 (Go.Operand.tmp 54) (Go.Operand.tmp 51), type := 0, pos := "tree.go:78", after := #[{ on := 12, ground := Go.Ground.data }, { on := 8, ground := Go.Ground.data }, { on := 8, ground := Go.Ground.chain }, { on := 10, ground := Go.Ground.textOnly Go.Departure.appendInPlace }, { on := 0, ground := Go.Ground.phase }, { on := 1, ground := Go.Ground.phase }, { on := 2, ground := Go.Ground.phase }, { on := 3, ground := Go.Ground.phase }, { on := 4, ground := Go.Ground.phase }, { on := 5, ground := Go.Ground.phase }, { on := 6, ground := Go.Ground.phase }, { on := 7, ground := Go.Ground.phase }, { on := 8, ground := Go.Ground.phase }, { on := 9, ground := Go.Ground.textOnly Go.Departure.appendInPlace }, { on := 10, ground := Go.Ground.textOnly Go.Departure.appendInPlace }], guard := none }) rfl (fun K hK => ?_) AllReady.nil
              go_simp
              refine hK _ _ ?_
              clear hK K
              try simp only [Act.put, List.setIfInBounds_toArray, List.set_cons_zero, List.set_cons_succ]
              refine wpAny_done (by kernel_rfl) ?_ _
              have F5b := F5a
              rw [← HY.out] at F5b
              rw [hko] at F5b
              obtain ⟨a1, a2, a3⟩ := F5b
              go_wp2_with fail
              go_meet
              case rel => exact ⟨rfl, g2, U2, k2, OW, NW, fun zs hz => by rw [hko] at hz ⊢; exact a1 zs hz, a2, a3⟩
            refine AllReady.cons (o := { dst := none, op := Go.Op.store 23 (Go.Operand.tmp 54) (Go.Operand.tmp 51), type := 0, pos := "tree.go:78", after := #[{ on := 12, ground := Go.Ground.data }, { on := 8, ground := Go.Ground.data }, { on := 8, ground := Go.Ground.chain }, { on := 10, ground := Go.Ground.textOnly Go.Departure.appendInPlace }, { on := 0, ground := Go.Ground.phase }, { on := 1, ground := Go.Ground.phase }, { on := 2, ground := Go.Ground.phase }, { on := 3, ground := Go.Ground.phase }, { on := 4, ground := Go.Ground.phase }, { on := 5, ground := Go.Ground.phase }, { on := 6, ground := Go.Ground.phase }, { on := 7, ground := Go.Ground.phase }, { on := 8, ground := Go.Ground.phase }, { on := 9, ground := Go.Ground.textOnly Go.Departure.appendInPlace }, { on := 10, ground := Go.Ground.textOnly Go.Departure.appendInPlace }], guard := none }) rfl (fun K hK => ?_) AllReady.nil
            go_simp
            clear cX1 cX2
            obtain ⟨Y, hY⟩ : ∃ Y, Y = World.setCell X ⟨f.b, f.off + 5, none⟩ (.slice (some ⟨f.g, 0, none⟩) (f.n + 1) f.c) := ⟨_, rfl⟩
            rw [← hY]
            have HY : Hid (Y = World.setCell X ⟨f.b, f.off + 5, none⟩ (.slice (ko f.g f.c) (f.n + 1) f.c)) := by show Y = _; rw [hko]; exact hY
            refine hK _ _ ?_
            clear hK K
            try simp only [Act.put, List.setIfInBounds_toArray, List.set_cons_zero, List.set_cons_succ]
            refine wpAny_ready (rs := [10]) (by kernel_rfl) (by simp) ?_
            refine AllReady.cons (o := { dst := none, op := Go.Op.store 25 (Go.Operand.tmp 52) (Go.Operand.tmp 48), type := 0, pos := "tree.go:78", after := #[{ on := 9, ground := Go.Ground.data }, { on := 5, ground := Go.Ground.data }, { on := 8, ground := Go.Ground.chain }, { on := 0, ground := Go.Ground.phase }, { on := 1, ground := Go.Ground.phase }, { on := 2, ground := Go.Ground.phase }, { on := 3, ground := Go.Ground.phase }, { on := 4, ground := Go.Ground.phase }, { on := 5, ground := Go.Ground.phase }, { on := 6, ground := Go.Ground.phase }, { on := 7, ground := Go.Ground.phase }, { on := 8, ground := Go.Ground.phase }, { on := 13, ground := Go.Ground.gcOnly Go.Departure.appendInPlace }], guard := none }) rfl (fun K hK => ?_) AllReady.nil
            have kf : Kp [f.b] X Y := by rw [hY]; exact (Kp.refl _ _).setCell (Or.inl (by simp)) _
            have hgX : f.g < X.heap.size := block_lt_of_cell l0
            have ll := fun (j : Nat) => kf.cell (a := ⟨f.g, j, none⟩) hgX (by simp; exact fun e => hbg e.symm)
            have lff := fun (j : Nat) => kf.frozen (a := ⟨f.g, j, none⟩) hgX (by simp; exact fun e => hbg e.symm)
            have m0 := (ll _).trans l0
            have m1 := (ll _).trans l1
            have m2 := (ll _).trans l2
            have m3 := (ll _).trans l3
            have m4 := (ll _).trans l4
            have m5 := (ll _).trans l5
            have mf := fun j => (lff j).trans (lf j)
            clear hY ll lff l0 l1 l2 l3 l4 l5 lf
            go_simp
            refine hK _ _ ?_
            clear hK K
            try simp only [Act.put, List.setIfInBounds_toArray, List.set_cons_zero, List.set_cons_succ]
            refine wpAny_done (by kernel_rfl) ?_ _
            obtain ⟨Z, hZ⟩ : ∃ Z, Z = put6 Y f.g (f.n * 6) (.int .i64 u.2.1.kind) (.int .i64 u.2.1.ns) (.string u.2.1.name) (.slice none 0 0) (.string u.2.1.text) (.slice (ko g2 u.2.2.len) 0 u.2.2.len) := ⟨_, rfl⟩
            have hZu := hZ
            unfold put6 at hZu
            rw [← hZu]
            clear hZu
            rw [put6_eq] at hZ
            have HZ : Hid (Z = World.setCells Y f.g (f.n * 6) (six u.2.1 ((none, 0, 0), (ko g2 u.2.2.len, 0, u.2.2.len)))) := hZ
            have F5b := F5.out.2
            rw [← HY.out, ← HZ.out] at F5b
            obtain ⟨a1, a2, a3⟩ := F5b
            clear hZ
            go_wp2_with fail
            go_meet
            case rel => exact ⟨rfl, g2, U2, k2, OW, NW, a1, a2, a3⟩
          obtain ⟨rfl, g2, w2, k2, O2, NW2, T1, T2, T3⟩ := hcut
          clear HOW HC0
          have c5 := T2.cell.1
          unfold Fq.sl at c5
          simp only [hko] at c5
          have Q2 := HQ.out.kept k2
          have pl2 := Q2.pile.keep T3 (fun hx => (HAP.out _ hx).2.1 (by simp)) (fun x hx hx' => (HAP.out _ hx').2.1 (by simp [hx]))
          have L2 := (HL.out.kept k2).other T3 (fun x hx => (HAP.out x hx).1) (fun x hx hx' => (HAP.out x hx').2.2 hx)
          have HPU : Hid (∀ W, Kp [] wc W → Calls Try.prog 31 #[.pointer (some ⟨P, 0, none⟩), .pointer (some ⟨f.g, f.n * 6, none⟩)] W fun e w' => e = .returned (.tuple #[]) ∧ Tk 1 W w' 85 52 P pv (r.length + 1 + 1) (ptC f r ++ [.pointer (some ⟨f.g, f.n * 6, none⟩)])) := fun W kW => pt_push W P pv (r.length + 1) (ptC f r) ⟨f.g, f.n * 6, none⟩ (pl2.keep kW (by simp) (fun _ _ => by simp)) (by omega)
          have HCK : Hid (∀ W, Kp [] wc W → W.cell? ⟨f.b, f.off + 5, none⟩ = some (.slice (some ⟨f.g, 0, none⟩) (f.n + 1) f.c)) := fun W kW => by
            rw [kW.cell (a := ⟨f.b, f.off + 5, none⟩) (block_lt_of_cell c5) (by simp)]; exact c5
          have j1 : (0 : Int) ≤ (f.n : Int) := by omega
          have j2 : (f.n : Int) < (f.n : Int) + 1 := by omega
          have j3 : IntKind.i64.wrap (f.n : Int) = f.n := by rw [IntKind.wrap_i64]; omega
          clear c5 pl2
          go_wp2_with fail
          obtain ⟨U0, hU0⟩ : ∃ V, V = wc.drew := ⟨_, rfl⟩
          have k0 : Kp [] wc U0 := by rw [hU0]; exact (Kp.refl _ _).drew
          refine wp_region_g (S := fun V => V.cell? ⟨f.b, f.off + 5, none⟩ = some (.slice (some ⟨f.g, 0, none⟩) (f.n + 1) f.c)) (T := []) (by kernel_rfl) (HCK.out _ (Kp.refl [] wc).drew) (fun hHeld => ?_)
          rw [← hU0] at hHeld ⊢
          clear hU0
          refine wpAnyG_pure (i := 0) (oi := { dst := some 55, op := Go.Op.move (Go.Operand.tmp 4), type := 50, pos := "tree.go:79", after := #[], guard := none }) (v := ?_) rfl (by kernel_rfl) (by kernel_rfl) (by kernel_rfl) (by kernel_rfl) (fun _ _ _ h => h) (Or.inl ⟨by rfl, ?_⟩) (by assumption) ?_
          rotate_left
          · (intro w; go_simp; try with_reducible rfl)
          simp only [Act.put, List.setIfInBounds_toArray, List.set_cons_zero, List.set_cons_succ]
          refine wpAnyG_pure (i := 1) (oi := { dst := some 56, op := Go.Op.move (Go.Operand.tmp 9), type := 52, pos := "tree.go:79", after := #[], guard := none }) (v := ?_) rfl (by kernel_rfl) (by kernel_rfl) (by kernel_rfl) (by kernel_rfl) (fun _ _ _ h => h) (Or.inl ⟨by rfl, ?_⟩) (by assumption) ?_
          rotate_left
          · (intro w; go_simp; try with_reducible rfl)
          simp only [Act.put, List.setIfInBounds_toArray, List.set_cons_zero, List.set_cons_succ]
          refine wpAnyG_pure (i := 2) (oi := { dst := some 57, op := Go.Op.nilCheck (Go.Operand.tmp 56), type := 0, pos := "tree.go:79", after := #[{ on := 1, ground := Go.Ground.data }], guard := none }) (v := ?_) rfl (by kernel_rfl) (by kernel_rfl) (by kernel_rfl) (by kernel_rfl) (fun _ _ _ h => h) (Or.inl ⟨by rfl, ?_⟩) (by assumption) ?_
          rotate_left
          · (intro w; go_simp; try with_reducible rfl)
          simp only [Act.put, List.setIfInBounds_toArray, List.set_cons_zero, List.set_cons_succ]
          refine wpAnyG_pure (i := 3) (oi := { dst := some 58, op := Go.Op.fieldAddr 25 (Go.Operand.tmp 57) 5, type := 0, pos := "tree.go:79", after := #[{ on := 2, ground := Go.Ground.data }], guard := none }) (v := ?_) rfl (by kernel_rfl) (by kernel_rfl) (by kernel_rfl) (by kernel_rfl) (fun _ _ _ h => h) (Or.inl ⟨by rfl, ?_⟩) (by assumption) ?_
          rotate_left
          · (intro w; go_simp; try with_reducible rfl)
          simp only [Act.put, List.setIfInBounds_toArray, List.set_cons_zero, List.set_cons_succ]
          refine wpAnyG_take (i := 4) (oi := { dst := some 59, op := Go.Op.load 23 (Go.Operand.tmp 58), type := 23, pos := "tree.go:79", after := #[{ on := 3, ground := Go.Ground.data }], guard := none }) (v := ?_) rfl (by kernel_rfl) (by kernel_rfl) (by kernel_rfl) (by kernel_rfl) (fun _ _ _ h => h) (Or.inl ⟨by rfl, ?_⟩) (by assumption) ?_
          rotate_left
          · (intro w hSw; (try dsimp only at hSw); go_simp; try with_reducible rfl)
          simp only [Act.put, List.setIfInBounds_toArray, List.set_cons_zero, List.set_cons_succ]
          refine wpAnyG_pure (i := 5) (oi := { dst := some 60, op := Go.Op.move (Go.Operand.tmp 9), type := 52, pos := "tree.go:79", after := #[], guard := none }) (v := ?_) rfl (by kernel_rfl) (by kernel_rfl) (by kernel_rfl) (by kernel_rfl) (fun _ _ _ h => h) (Or.inl ⟨by rfl, ?_⟩) (by assumption) ?_
          rotate_left
          · (intro w; go_simp; try with_reducible rfl)
          simp only [Act.put, List.setIfInBounds_toArray, List.set_cons_zero, List.set_cons_succ]
          refine wpAnyG_pure (i := 6) (oi := { dst := some 61, op := Go.Op.nilCheck (Go.Operand.tmp 60), type := 0, pos := "tree.go:79", after := #[{ on := 5, ground := Go.Ground.data }], guard := none }) (v := ?_) rfl (by kernel_rfl) (by kernel_rfl) (by kernel_rfl) (by kernel_rfl) (fun _ _ _ h => h) (Or.inl ⟨by rfl, ?_⟩) (by assumption) ?_
          rotate_left
          · (intro w; go_simp; try with_reducible rfl)
          simp only [Act.put, List.setIfInBounds_toArray, List.set_cons_zero, List.set_cons_succ]
          refine wpAnyG_pure (i := 7) (oi := { dst := some 62, op := Go.Op.fieldAddr 25 (Go.Operand.tmp 61) 5, type := 0, pos := "tree.go:79", after := #[{ on := 6, ground := Go.Ground.data }], guard := none }) (v := ?_) rfl (by kernel_rfl) (by kernel_rfl) (by kernel_rfl) (by kernel_rfl) (fun _ _ _ h => h) (Or.inl ⟨by rfl, ?_⟩) (by assumption) ?_
          rotate_left
          · (intro w; go_simp; try with_reducible rfl)
          simp only [Act.put, List.setIfInBounds_toArray, List.set_cons_zero, List.set_cons_succ]
          refine wpAnyG_take (i := 8) (oi := { dst := some 63, op := Go.Op.load 23 (Go.Operand.tmp 62), type := 23, pos := "tree.go:79", after := #[{ on := 7, ground := Go.Ground.data }], guard := none }) (v := ?_) rfl (by kernel_rfl) (by kernel_rfl) (by kernel_rfl) (by kernel_rfl) (fun _ _ _ h => h) (Or.inl ⟨by rfl, ?_⟩) (by assumption) ?_
          rotate_left
          · (intro w hSw; (try dsimp only at hSw); go_simp; try with_reducible rfl)
          simp only [Act.put, List.setIfInBounds_toArray, List.set_cons_zero, List.set_cons_succ]
          refine wpAnyG_pure (i := 9) (oi := { dst := some 64, op := Go.Op.call { callee := Go.Callee.builtin Go.Builtin.len, args := #[Go.Operand.tmp 63], argTypes := #[23] }, type := 3, pos := "tree.go:79", after := #[{ on := 8, ground := Go.Ground.data }], guard := none }) (v := ?_) rfl (by kernel_rfl) (by kernel_rfl) (by kernel_rfl) (by kernel_rfl) (fun _ _ _ h => h) (Or.inl ⟨by rfl, ?_⟩) (by assumption) ?_
          rotate_left
          · (intro w; go_simp; try with_reducible rfl)
          simp only [Act.put, List.setIfInBounds_toArray, List.set_cons_zero, List.set_cons_succ]
          refine wpAnyG_pure (i := 10) (oi := { dst := some 65, op := Go.Op.binOp Go.BinOp.sub 3 (Go.Operand.tmp 64) (Go.Operand.const (Go.Value.int Go.IntKind.i64 1)) 3, type := 3, pos := "tree.go:79", after := #[{ on := 9, ground := Go.Ground.data }], guard := none }) (v := ?_) rfl (by kernel_rfl) (by kernel_rfl) (by kernel_rfl) (by kernel_rfl) (fun _ _ _ h => h) (Or.inl ⟨by rfl, ?_⟩) (by assumption) ?_
          rotate_left
          · (intro w; go_simp; try with_reducible rfl)
          simp only [Act.put, List.setIfInBounds_toArray, List.set_cons_zero, List.set_cons_succ]
          refine wpAnyG_pure (i := 11) (oi := { dst := some 66, op := Go.Op.indexAddr 23 (Go.Operand.tmp 59) (Go.Operand.tmp 65), type := 0, pos := "tree.go:79", after := #[{ on := 4, ground := Go.Ground.data }, { on := 10, ground := Go.Ground.data }], guard := none }) (v := ?_) rfl (by kernel_rfl) (by kernel_rfl) (by kernel_rfl) (by kernel_rfl) (fun _ _ _ h => h) (Or.inl ⟨by rfl, ?_⟩) (by assumption) ?_
          rotate_left
          · (intro w; go_simp; try with_reducible rfl)
          simp only [Act.put, List.setIfInBounds_toArray, List.set_cons_zero, List.set_cons_succ]
          refine wpAnyG_ready (rs := [12]) (by kernel_rfl) (by simp) ?_
          refine AllReadyG.cons (o := { dst := some 67, op := Go.Op.call { callee := Go.Callee.value (Go.Operand.func 31), args := #[Go.Operand.tmp 55, Go.Operand.tmp 66], argTypes := #[50, 52] }, type := 0, pos := "tree.go:79", after := #[{ on := 0, ground := Go.Ground.data }, { on := 11, ground := Go.Ground.data }], guard := none }) rfl (fun K hK => ?_) AllReadyG.nil
          go_simp
          go_at_call 31
          refine (HPU.out _ k0).mono ?_
          rintro e w6 ⟨rfl, pv6, P6, k6, b6⟩
          go_wp2_with fail
          have HK6 : Hid (w6.cell? ⟨f.b, f.off + 5, none⟩ = some (.slice (some ⟨f.g, 0, none⟩) (f.n + 1) f.c)) := by
            have c1 := HCK.out _ k0
            exact (k6.cell (a := ⟨f.b, f.off + 5, none⟩) (block_lt_of_cell c1) (fun hx => (HAP.out f.b (by simp)).2.1 hx)).trans c1
          refine hK.out _ _ HK6.out (fun hHeld1 => ?_)
          clear hK K hHeld
          try simp only [Act.put, List.setIfInBounds_toArray, List.set_cons_zero, List.set_cons_succ]
          refine wpAnyG_free (by kernel_rfl) ?_
          refine wpAny_done (by kernel_rfl) ?_ _
          have k6c : Kp (P :: blk pv) wc w6 := (k0.mono (T := P :: blk pv) (fun z hz => by simp at hz)).trans k6 (fun z hz => Or.inl hz)
          have sz0 := k0.size
          have Q6 := Cq.push (B := B) (w2 := w2) (w5 := wc) (w6 := w6) Q2 hrest ub1 O2 (fun x hx => ?hn2) ⟨T1, T2, T3⟩ P6 k6c (fun x hx => by rcases b6 x hx with e | e; exact Or.inl e; exact Or.inr (by omega)) (fun x hx => by have := HL.out.lt x hx; have := k2.size; omega) HFB.out
          case hn2 =>
            have h1 := NW2 x hx
            have h2 := HL.out.kp.size
            exact ⟨fun hx' => by have := (HQ.out.new x hx').2; omega, by omega, fun hx' => by have := (HQ.out.pw x hx').2.1; omega, fun hx' => by have := HL.out.lt x hx'; omega⟩
          have L6 := L2.other k6c (fun x hx => (HQ.out.pw x hx).1) (fun x hx hx' => (HQ.out.pw x hx').2.2 hx)
          have ht6 := HT2 ⟨f.g, f.n * 6, u.2.1, g2, 0, u.2.2.len, .nil, u.2.2⟩ { f with n := f.n + 1, done := f.done, rest := rs } rfl rfl
          have hw6 : whole ⟨f.g, f.n * 6, u.2.1, g2, 0, u.2.2.len, .nil, u.2.2⟩ ({ f with n := f.n + 1, done := f.done, rest := rs } :: r) .nil = .cons l k .nil := by
            rw [← HWH.out]
            show whole { f with n := f.n + 1, done := f.done, rest := rs } r (f.done.app (.cons u.2.1 (Fo.nil.app u.2.2) .nil)) = _
            exact whole_app (f := { f with n := f.n + 1, done := f.done, rest := rs }) _ f rfl _ (by rw [hrest, Fo.app_assoc]; rfl)
          have HB6 : Hid (bot (⟨f.g, f.n * 6, u.2.1, g2, 0, u.2.2.len, .nil, u.2.2⟩ : Fq) ({ f with n := f.n + 1, done := f.done, rest := rs } :: r) = A) := (bot_done f r _ _ _).trans hbot
          have HNX := next_c _ _ _ _ _ _ _ L6
          have HQ6 : Hid _ := Q6
          have HT6 : Hid _ := ht6
          have HW6 : Hid _ := hw6
          have HRL : Hid (r.length + 1 ≤ 20002) := by show r.length + 1 ≤ 20002; omega
          clear Q6 L6 ht6 hw6 Q2 L2 HPU HCK P6 k6 b6 k6c HK6 T1 T2 T3 O2 NW2 hHeld1
          go_wp2_with (go_at_call 33; refine HNX.mono ?_; rintro e w7 ⟨ao7, d7, y7, v7, rfl, L7, N7, C7⟩)
          have Q7 := HQ6.out.next N7
          have HRC : Hid (RCopy B s P A l k p (.pointer ao7, .int .i64 d7, .bool y7, w7) S.length) := ⟨S, v7, pv6, ao7, d7, y7, _, _, Kd, rfl, rfl, rfl, rfl, L7, C7, Q7, HT6.out, HW6.out, HB6.out, HBR.out, by simp; have := HRL.out; omega⟩
          go_roundw
          case rel => exact ⟨_, HRC.out⟩
          case measure =>
            refine Nat.lt_of_le_of_lt (HM.out _ _ HRC.out) ?_
            rw [← HS2.out]; simp

end Go.Proofs.Ytgnbafgglkncmaa
