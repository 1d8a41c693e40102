/-
  Joined: PrMb.
-/
import Derived.Test.YtpkppobkagdhkaaJ36

/-
  The program's arena: Pure under way, step by step.
-/
namespace Go.Proofs.Ytpkppobkagdhkaa
open Go.RowKit Go.Maps Utf
set_option linter.unusedVariables false
set_option linter.unusedSimpArgs false

/-- Kids are set for those of D, and for y. -/
def Kin (A : Ar) (D : List Nat) (y : Nat) (x : Nat) : Bool := if x = y then true else A.Kof D x

section
variable {A : Ar} {w wr : World} {x0 gT s P : Nat} {τ : Nat → Nat} {B : Nat → Nat} {v : Value} {D S : List Nat} {y : Nat}

theorem kof_y (pw : A.Pw x0 D (S ++ [y])) : A.Kof D y = false := by
  unfold Ar.Kof
  exact decide_eq_false (fun hh => (pw.lw y (by simp)).2.1 hh.1)

theorem kdv_y (pw : A.Pw x0 D (S ++ [y])) : A.kdV B (A.Kof D) y = (none, 0, 0) := by unfold Ar.kdV; rw [if_neg (by rw [kof_y pw]; simp)]

/-- A node without kids is done. -/
theorem Pm.leaf (pm : Pm A w wr x0 gT s P τ B (A.Mof x0 D) (A.Kof D) v S) (ok : A.Ok) (pw : A.Pw x0 D (S ++ [y])) (hk : A.kids y = []) : Pm A w wr x0 gT s P τ B (A.Mof x0 (y :: D)) (A.Kof (y :: D)) v S ∧ A.Pw x0 (y :: D) S := by
  have h2 := pw.step ok
  rw [hk, List.append_nil] at h2
  refine ⟨⟨pm.cs.congr (fun x => ?_) (fun x => ?_), pm.pk, pm.pn, pm.rs, pm.rn⟩, h2⟩
  · rw [Ar.Mof_cons A ok, hk]; simp
  · unfold Ar.Kof
    by_cases e : x = y
    · subst e; rw [decide_eq_false (fun hh => hh.2 hk), decide_eq_false (fun hh => hh.2 hk)]
    · refine decide_eq_decide.2 ⟨fun hh => ⟨?_, hh.2⟩, fun hh => ⟨List.mem_cons_of_mem _ hh.1, hh.2⟩⟩
      rcases List.mem_cons.1 hh.1 with h1 | h1
      · exact absurd h1 e
      · exact h1

/-- A node gets room for its kids. -/
theorem Pm.room {w1 : World} {cur : Array Value} (pm : Pm A w wr x0 gT s P τ B (A.Mof x0 D) (A.Kof D) v S) (ok : A.Ok) (pw : A.Pw x0 D (S ++ [y])) (gK : Nat) (hg : wr.heap.size ≤ gK) (k : Kp [] wr w1) (hc : At w1 gK cur 33) (hsz : (A.kids y).length * 6 = cur.size) :
    ∃ τ', Pm A w (w1.setCell ⟨A.abk x0 gT B y, A.aof x0 y + 5, none⟩ (.slice (some ⟨gK, 0, none⟩) (A.kids y).length (A.kids y).length)) x0 gT s P τ' (fun p => if p = y then gK else B p) (fun x => A.Mof x0 D x ∨ x ∈ (A.kids y).take 0) (Kin A D y) v S ∧ (∀ x, x < wr.heap.size → τ' x = τ x) ∧ Kp [A.abk x0 gT B y] w1 (w1.setCell ⟨A.abk x0 gT B y, A.aof x0 y + 5, none⟩ (.slice (some ⟨gK, 0, none⟩) (A.kids y).length (A.kids y).length)) ∧ τ (A.abk x0 gT B y) = 2 ∧ A.abk x0 gT (fun p => if p = y then gK else B p) y = A.abk x0 gT B y := by
  have hyM := (pw.lw y (by simp)).1
  obtain ⟨y1, y2, y3⟩ := pm.cs.blk2 hyM
  have c2 := pm.cs.kids ok hyM (kof_y pw) hg k hc hsz
  obtain ⟨T, hT⟩ : ∃ T : Nat → Nat, T = fun b => if b < wr.heap.size then τ b else if b = gK then 2 else 0 := ⟨_, rfl⟩
  have T0 : ∀ x, x < wr.heap.size → T x = τ x := fun x hx => by rw [hT]; simp only [if_pos hx]
  rw [← hT] at c2
  have k5 : Kp [A.abk x0 gT B y] w1 (w1.setCell ⟨A.abk x0 gT B y, A.aof x0 y + 5, none⟩ (.slice (some ⟨gK, 0, none⟩) (A.kids y).length (A.kids y).length)) := (Kp.refl _ _).setCell (Or.inl (by simp)) _
  have hpl := pm.pk.lt
  have hne : ∀ z, τ z = 0 → z ≠ A.abk x0 gT B y := fun z hz e => by rw [e, y1] at hz; cases hz
  have epx : px A x0 gT (fun p => if p = y then gK else B p) S = px A x0 gT B S := px_congr (fun x hx => by
    unfold Ar.abk
    by_cases e : x = x0
    · rw [if_pos e, if_pos e]
    · obtain ⟨p, hu, hkp⟩ := pm.cs.mkd x (pw.lw x (by simp [hx])).1 e
      rw [if_neg e, if_neg e, Ar.par_eq hu]
      exact if_neg (fun e2 => by rw [e2, kof_y pw] at hkp; cases hkp))
  refine ⟨T, ⟨c2.congr (fun x => by simp) (fun x => rfl), ?_, fun z hz => ?_, ?_, pm.rn.1, by rw [T0 s pm.rs.lt]; exact pm.rn.2⟩, T0, k5, y1, ?_⟩
  rotate_right
  · unfold Ar.abk
    by_cases e : y = x0
    · rw [if_pos e, if_pos e]
    · obtain ⟨p, hu, hkp⟩ := pm.cs.mkd y hyM e
      rw [if_neg e, if_neg e, Ar.par_eq hu]
      exact if_neg (fun e2 => by rw [e2, kof_y pw] at hkp; cases hkp)
  · rw [epx]
    refine (pm.pk.keep k (by simp) (fun _ _ => by simp)).keep k5 ?_ (fun x hx => ?_)
    · simpa using hne P (pm.pn P (.inl rfl)).2.1
    · simpa using hne x (pm.pn x (.inr hx)).2.1
  · obtain ⟨a1, a2, a3⟩ := pm.pn z hz
    exact ⟨a1, by rw [T0 z (hpl z hz)]; exact a2, a3⟩
  · exact (pm.rs.kept k (by simp)).kept k5 (by simpa using hne s pm.rn.2)

/-- A kid's cells are laid. -/
theorem pm_kid {V : World} {pa : Option Addr × Nat × Nat} {j c : Nat} (pm : Pm A w wr x0 gT s P τ B (fun x => A.Mof x0 D x ∨ x ∈ (A.kids y).take j) (Kin A D y) v (S ++ (A.kids y).take j)) (ok : A.Ok) (pw : A.Pw x0 D (S ++ [y])) (hj : j < (A.kids y).length) (hc : (A.kids y)[j] = c) (k : Kp [] wr V) (hat : Rk (fun b => wr.heap.size ≤ b) 2 V pa.1 pa.2.1 pa.2.2 (cs (A.lb c).attrs)) :
    ∃ τ', Pm A w (put6 V (B y) (j * 6) (.int .i64 (A.lb c).kind) (.int .i64 (A.lb c).ns) (.string (A.lb c).name) (.slice pa.1 pa.2.1 pa.2.2) (.string (A.lb c).text) (.slice none 0 0)) x0 gT s P τ' B (fun x => A.Mof x0 D x ∨ x ∈ (A.kids y).take (j + 1)) (Kin A D y) v (S ++ (A.kids y).take j) ∧ (∀ x, x < wr.heap.size → τ' x = τ x) ∧ Kp [B y] V (put6 V (B y) (j * 6) (.int .i64 (A.lb c).kind) (.int .i64 (A.lb c).ns) (.string (A.lb c).name) (.slice pa.1 pa.2.1 pa.2.2) (.string (A.lb c).text) (.slice none 0 0)) ∧ τ (B y) = 2 := by
  have hyL : y ∈ S ++ [y] := by simp
  have hcm : c ∈ A.kids y := by rw [← hc]; exact List.getElem_mem hj
  obtain ⟨m1, m2, m3⟩ := pw.kid_no ok hyL hcm
  have hcy : c ≠ y := fun e => ok.not_up ((ok.link y c).1 hcm) (e ▸ Ar.Wn.refl A c)
  have hky : Kin A D y y = true := by unfold Kin; rw [if_pos rfl]
  have hts : (A.kids y).take (j + 1) = (A.kids y).take j ++ [c] := by rw [List.take_succ_eq_append_getElem hj, hc]
  have hnt : c ∉ (A.kids y).take j := fun hm => by
    have hnd := ok.one y
    rw [← List.take_append_drop (j + 1) (A.kids y), hts, List.append_assoc, List.nodup_append] at hnd
    exact hnd.2.2 c hm c (by simp) rfl
  have c2 := pm.cs.kid ok hky hj hc (fun hm => hm.elim m1 hnt) (by unfold Kin; rw [if_neg hcy]; unfold Ar.Kof; exact decide_eq_false (fun hh => m3 hh.1)) m2 k hat
  obtain ⟨_, b3, b4, _⟩ := pm.cs.bks y hky
  obtain ⟨T, hT⟩ : ∃ T : Nat → Nat, T = fun b => if b < wr.heap.size then τ b else 1 := ⟨_, rfl⟩
  have T0 : ∀ x, x < wr.heap.size → T x = τ x := fun x hx => by rw [hT]; simp only [if_pos hx]
  rw [← hT] at c2
  have k6 : Kp [B y] V (put6 V (B y) (j * 6) (.int .i64 (A.lb c).kind) (.int .i64 (A.lb c).ns) (.string (A.lb c).name) (.slice pa.1 pa.2.1 pa.2.2) (.string (A.lb c).text) (.slice none 0 0)) := kp_put6 (Kp.refl [B y] V) _ _ _ _ _ _ _
  have hpl := pm.pk.lt
  have hne : ∀ z, τ z = 0 → z ≠ B y := fun z hz e => by rw [e, b4] at hz; cases hz
  refine ⟨T, ⟨c2.congr (fun x => ?_) (fun x => rfl), (pm.pk.keep k (by simp) (fun _ _ => by simp)).keep k6 (by simpa using hne P (pm.pn P (.inl rfl)).2.1) (fun x hx => by simpa using hne x (pm.pn x (.inr hx)).2.1), fun z hz => ?_, (pm.rs.kept k (by simp)).kept k6 (by simpa using hne s pm.rn.2), pm.rn.1, by rw [T0 s pm.rs.lt]; exact pm.rn.2⟩, T0, k6, b4⟩
  · rw [hts, List.mem_append, List.mem_singleton, or_assoc]
  · obtain ⟨a1, a2, a3⟩ := pm.pn z hz
    exact ⟨a1, by rw [T0 z (hpl z hz)]; exact a2, a3⟩

/-- All kids are laid: the node is done. -/
theorem Pm.done (pm : Pm A w wr x0 gT s P τ B (fun x => A.Mof x0 D x ∨ x ∈ A.kids y) (Kin A D y) v (S ++ A.kids y)) (ok : A.Ok) (pw : A.Pw x0 D (S ++ [y])) (hk : A.kids y ≠ []) : Pm A w wr x0 gT s P τ B (A.Mof x0 (y :: D)) (A.Kof (y :: D)) v (S ++ A.kids y) ∧ A.Pw x0 (y :: D) (S ++ A.kids y) := by
  refine ⟨⟨pm.cs.congr (fun x => Ar.Mof_cons A ok x0 y D x) (fun x => ?_), pm.pk, pm.pn, pm.rs, pm.rn⟩, pw.step ok⟩
  unfold Kin Ar.Kof
  by_cases e : x = y
  · subst e; rw [if_pos rfl]; exact decide_eq_true ⟨by simp, hk⟩
  · rw [if_neg e]
    refine decide_eq_decide.2 ⟨fun hh => ⟨?_, hh.2⟩, fun hh => ⟨List.mem_cons_of_mem _ hh.1, hh.2⟩⟩
    rcases List.mem_cons.1 hh.1 with h1 | h1
    · exact absurd h1 e
    · exact h1

/-- The beginning: the top node's cells, an empty pile. -/
theorem pm_start {W1 W2 : World} {pa : Option Addr × Nat × Nat} (hx0 : x0 < A.n) (k1 : Kp [] w W1) (A1 : At W1 w.heap.size #[.int .i64 0, .int .i64 0, .string ⟨#[]⟩, .slice none 0 0, .string ⟨#[]⟩, .slice none 0 0] 33) (k2 : Kp [] W1 W2) (r2 : Rk (fun z => W1.heap.size ≤ z) 2 W2 pa.1 pa.2.1 pa.2.2 (cs (A.lb x0).attrs)) :
    ∃ τ, Pm A w ((W2.alloc (.cells #[.int .i64 (A.lb x0).kind, .int .i64 (A.lb x0).ns, .string (A.lb x0).name, .slice pa.1 pa.2.1 pa.2.2, .string (A.lb x0).text, .slice none 0 0] 33)).alloc (.cells #[.slice none 0 0] 73)) x0 W2.heap.size w.heap.size (W2.heap.size + 1) τ (fun _ => 0) (A.Mof x0 []) (A.Kof []) (.slice none 0 0) [] := by
  obtain ⟨X, hX⟩ : ∃ X, X = W2.alloc (.cells #[.int .i64 (A.lb x0).kind, .int .i64 (A.lb x0).ns, .string (A.lb x0).name, .slice pa.1 pa.2.1 pa.2.2, .string (A.lb x0).text, .slice none 0 0] 33) := ⟨_, rfl⟩
  rw [← hX]
  have kX : Kp [] W2 X := by rw [hX]; exact (Kp.refl _ _).alloc _
  have kP : Kp [] X (X.alloc (.cells #[.slice none 0 0] 73)) := (Kp.refl _ _).alloc _
  have AT : At X W2.heap.size #[.int .i64 (A.lb x0).kind, .int .i64 (A.lb x0).ns, .string (A.lb x0).name, .slice pa.1 pa.2.1 pa.2.2, .string (A.lb x0).text, .slice none 0 0] 33 := by rw [hX]; exact At.new _ _ _
  have sX : X.heap.size = W2.heap.size + 1 := by rw [hX]; simp
  have hw1 : w.heap.size < W1.heap.size := A1.lt
  have hw2 := k2.size
  obtain ⟨T, hT⟩ : ∃ T : Nat → Nat, T = fun b => if b = W2.heap.size then 2 else if W1.heap.size ≤ b ∧ b < W2.heap.size then 1 else 0 := ⟨_, rfl⟩
  have hK : ∀ p, A.Kof [] p = false := fun p => by unfold Ar.Kof; exact decide_eq_false (fun hh => by cases hh.1)
  have ATP := AT.kept kP (by simp)
  refine ⟨T, ⟨(k1.trans k2 (fun x hx => Or.inl hx)).trans (kX.trans kP (fun x hx => Or.inl hx)) (fun x hx => Or.inl hx), ⟨_, ATP, by simp⟩, ⟨by omega, by rw [hT]; simp⟩, fun p hp => ?_, fun p p' hp => ?_, fun x hx e => ?_, .inl rfl, fun x hx => ?_⟩, ⟨?_, ⟨rfl, Or.inl ⟨rfl, rfl⟩⟩, by simp [blk]⟩, fun z hz => ?_, ((A1.kept k2 (by simp)).kept kX (by simp)).kept kP (by simp), Nat.le_refl _, ?_⟩
  · rw [hK p] at hp; cases hp
  · rw [hK p] at hp; cases hp
  · rcases hx with e2 | ⟨p, hp, _⟩
    · exact absurd e2 e
    · cases hp
  · have e : x = x0 := by
      rcases hx with e2 | ⟨p, hp, _⟩
      · exact e2
      · cases hp
    subst e
    refine ⟨pa, ?_, ?_⟩
    · unfold Ar.abk Ar.aof Ar.kdV
      rw [if_pos rfl, if_pos rfl, if_neg (by rw [hK]; simp)]
      exact ⟨_, _, ATP, fun i hi => by rw [Nat.zero_add]; simp [six]⟩
    · refine ⟨r2.len, r2.cap, fun hn => ?_⟩
      obtain ⟨b, off, cur, t, hq, e1, e2, e3⟩ := r2.at' hn
      have hl := lt_of e2
      exact ⟨b, off, cur, t, ⟨by omega, by rw [hT]; simp only [if_neg (show ¬ b = W2.heap.size by omega), if_pos (show W1.heap.size ≤ b ∧ b < W2.heap.size from ⟨hq, hl⟩)]⟩, e1, by rw [kP.block b (by omega) (by simp), kX.block b hl (by simp)]; exact e2, e3⟩
  · rw [← sX]; exact heap_new X _
  · rcases hz with rfl | hz
    · exact ⟨by omega, by rw [hT]; simp only [if_neg (show ¬ W2.heap.size + 1 = W2.heap.size by omega), if_neg (show ¬ (W1.heap.size ≤ W2.heap.size + 1 ∧ W2.heap.size + 1 < W2.heap.size) by omega)], by omega⟩
    · simp [blk] at hz
  · rw [hT]; simp only [if_neg (show ¬ w.heap.size = W2.heap.size by omega), if_neg (show ¬ (W1.heap.size ≤ w.heap.size ∧ w.heap.size < W2.heap.size) by omega)]

/-- The first one is taken from the pile. -/
theorem head_some {w2 : World} {n' : Nat} (pm : Pm A w wr x0 gT s P τ B (A.Mof x0 []) (A.Kof []) v [x0]) (hx0 : x0 < A.n) (t : Tk 2 wr w2 73 50 P v n' (px A x0 gT B [])) (hn : n' = 0) :
    RPure A w x0 gT s P (.pointer (some ⟨w2.heap.size, 0, none⟩), .bool true, w2.alloc (.cells #[.int .i64 (x0 : Int), .pointer (some ⟨gT, 0, none⟩)] 50)) A.n := by
  obtain ⟨v', τ', pm2, T2, k2, b2⟩ := pm.pile (S' := []) t hn
  have ka : Kp [] w2 (w2.alloc (.cells #[.int .i64 (x0 : Int), .pointer (some ⟨gT, 0, none⟩)] 50)) := (Kp.refl _ _).alloc _
  obtain ⟨T, hT⟩ : ∃ T : Nat → Nat, T = fun b => if b < w2.heap.size then τ' b else 0 := ⟨_, rfl⟩
  have T0 : ∀ x, x < w2.heap.size → T x = τ' x := fun x hx => by rw [hT]; simp only [if_pos hx]
  have hpl := pm2.pk.lt
  have hsl := pm2.rs.lt
  have hkw := pm2.cs.kp.size
  exact ⟨w2.heap.size, [], [], [x0], T, B, v', _, _, rfl, rfl, rfl, pm2.keep ka (fun x hx => by simp at hx) T0, Ar.Pw.start hx0, by simp, ⟨hkw, by simp, by rw [hT]; simp only [if_neg (Nat.lt_irrefl _)], fun e => by have := hpl P (.inl rfl); omega, fun hx => by have := hpl _ (.inr hx); omega, fun e => by omega⟩, At.new _ _ _, fun z hz => by rw [List.mem_singleton.1 hz]; unfold Ar.abk Ar.aof; rw [if_pos rfl, if_pos rfl]; exact ⟨rfl, rfl⟩, fun e => by cases e⟩

/-- The kids of y under way: so many have their cells, so many are on the pile. -/
def Inn (A : Ar) (w wr : World) (x0 gT s P : Nat) (B : Nat → Nat) (D S : List Nat) (y jm jp gA ay oy : Nat) (kl : Value) : Prop :=
  ∃ (τ : Nat → Nat) (v : Value), Pm A w wr x0 gT s P τ B (fun x => A.Mof x0 D x ∨ x ∈ (A.kids y).take jm) (Kin A D y) v (S ++ (A.kids y).take jp) ∧ Ex w wr s P τ v gA ∧ At wr gA #[.int .i64 (y : Int), .pointer (some ⟨ay, oy, none⟩)] 50 ∧ (∀ kb, kb ∈ blk kl → Ex w wr s P τ v kb) ∧ Own wr 3 kl (iv (A.kids y)) ∧ A.abk x0 gT B y = ay ∧ A.aof x0 y = oy

theorem Ex.no2 {τ : Nat → Nat} {b z : Nat} (h : Ex w wr s P τ v b) (hz : τ z = 2) : b ≠ z := fun e => by
  have := h.2.2.1
  rw [e, hz] at this
  cases this

theorem Inn.kid {V : World} {pa : Option Addr × Nat × Nat} {j c gA ay oy : Nat} {kl : Value} (h : Inn A w wr x0 gT s P B D S y j j gA ay oy kl) (ok : A.Ok) (pw : A.Pw x0 D (S ++ [y])) (hj : j < (A.kids y).length) (hc : (A.kids y)[j] = c) (k : Kp [] wr V) (hat : Rk (fun b => wr.heap.size ≤ b) 2 V pa.1 pa.2.1 pa.2.2 (cs (A.lb c).attrs)) :
    Inn A w (put6 V (B y) (j * 6) (.int .i64 (A.lb c).kind) (.int .i64 (A.lb c).ns) (.string (A.lb c).name) (.slice pa.1 pa.2.1 pa.2.2) (.string (A.lb c).text) (.slice none 0 0)) x0 gT s P B D S y (j + 1) j gA ay oy kl := by
  obtain ⟨τ, v, pm, ex, ha, he, ho, e1, e2⟩ := h
  obtain ⟨τ', pm2, T0, k6, h2⟩ := pm_kid pm ok pw hj hc k hat
  have hs := Nat.le_trans k.size k6.size
  refine ⟨τ', v, pm2, ex.step hs T0 (fun k hk => .inl hk), (ha.kept k (by simp)).kept k6 (by simpa using ex.no2 h2), fun kb hk => (he kb hk).step hs T0 (fun k hk => .inl hk), (ho.keep k (fun _ _ => by simp)).keep k6 (fun x hx => by simpa using (he x hx).no2 h2), e1, e2⟩

theorem Inn.push {w2 : World} {j c gA ay oy : Nat} {kl : Value} (h : Inn A w wr x0 gT s P B D S y (j + 1) j gA ay oy kl) (ok : A.Ok) (pw : A.Pw x0 D (S ++ [y])) (hj : j < (A.kids y).length) (hc : (A.kids y)[j] = c) (hn : A.n < 40000) :
    Calls Try.prog 13 #[.pointer (some ⟨P, 0, none⟩), .agg #[.int .i64 (c : Int), .pointer (some ⟨B y, j * 6, none⟩)]] wr fun e w' => e = .returned (.tuple #[]) ∧ Inn A w w' x0 gT s P B D S y (j + 1) (j + 1) gA ay oy kl := by
  obtain ⟨τ, v, pm, ex, ha, he, ho, e1, e2⟩ := h
  have hyL : y ∈ S ++ [y] := by simp
  have hcm : c ∈ A.kids y := by rw [← hc]; exact List.getElem_mem hj
  obtain ⟨m1, m2, m3⟩ := pw.kid_no ok hyL hcm
  have huc := (ok.link y c).1 hcm
  have eab : A.abk x0 gT B c = B y := by unfold Ar.abk; rw [if_neg m2, Ar.par_eq huc]
  have eof : A.aof x0 c = j * 6 := by unfold Ar.aof; rw [if_neg m2, Ar.par_eq huc, ← hc, Ar.place_at ok hj]
  have hts : (A.kids y).take (j + 1) = (A.kids y).take j ++ [c] := by rw [List.take_succ_eq_append_getElem hj, hc]
  have hl1 := pw.lenL
  have hl2 : (A.kids y).length ≤ A.n := Ar.pig _ _ (ok.one y) (fun z hz => (ok.kid_lt hz).1)
  refine (cp_push wr P v _ _ ⟨B y, j * 6, none⟩ (c : Int) pm.pk (by simp at hl1 ⊢; omega)).mono ?_
  rintro e w3 ⟨rfl, t⟩
  have ep : px A x0 gT B (S ++ (A.kids y).take j) ++ pcc ⟨B y, j * 6, none⟩ (c : Int) = px A x0 gT B (S ++ (A.kids y).take (j + 1)) := by
    rw [hts, ← List.append_assoc, px_app A x0 gT B (S ++ (A.kids y).take j) [c]]
    congr 1
    unfold px
    rw [List.flatMap_cons, List.flatMap_nil, eab, eof, List.append_nil]
  rw [ep] at t
  obtain ⟨v', τ', pm2, T0, k2, b2⟩ := pm.pile (S' := S ++ (A.kids y).take (j + 1)) t (by rw [hts]; simp; omega)
  have exn : ∀ z, Ex w wr s P τ v z → z ∉ P :: blk v := fun z hz hm => by
    rcases List.mem_cons.1 hm with e | hm
    · exact hz.2.2.2.1 e
    · exact hz.2.2.2.2.1 hm
  exact ⟨rfl, τ', v', pm2, ex.step k2.size T0 b2, ha.kept k2 (exn _ ex), fun kb hk => (he kb hk).step k2.size T0 b2, ho.keep k2 (fun x hx => exn x (he x hx)), e1, e2⟩

/-- What the walk reads in the midst of it. -/
theorem Inn.cells {jm jp gA ay oy : Nat} {kl : Value} (h : Inn A w wr x0 gT s P B D S y jm jp gA ay oy kl) (ok : A.Ok) (pw : A.Pw x0 D (S ++ [y])) : wr.cell? ⟨gA, 1, none⟩ = some (.pointer (some ⟨ay, oy, none⟩)) ∧ wr.cell? ⟨ay, oy + 5, none⟩ = some (.slice (some ⟨B y, 0, none⟩) (A.kids y).length (A.kids y).length) ∧ Kp [] w wr ∧ ∃ cur, At wr (B y) cur 33 ∧ (A.kids y).length * 6 = cur.size := by
  obtain ⟨τ, v, pm, ex, ha, he, ho, rfl, rfl⟩ := h
  have hky : Kin A D y y = true := by unfold Kin; rw [if_pos rfl]
  have h1 := (pm.cs.kidCell (y := y) (.inl (pw.lw y (by simp)).1)).1
  rw [show A.kdV B (Kin A D y) y = (some ⟨B y, 0, none⟩, (A.kids y).length, (A.kids y).length) by unfold Ar.kdV; rw [if_pos hky]] at h1
  exact ⟨ha.cell 1, h1, pm.cs.kp, (pm.cs.bks y hky).1⟩

end

end Go.Proofs.Ytpkppobkagdhkaa
