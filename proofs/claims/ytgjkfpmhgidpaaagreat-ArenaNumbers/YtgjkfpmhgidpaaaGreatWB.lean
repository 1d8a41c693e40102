/-
  Joined: Enter Next Tell.
-/
import Derived.Test.YtgjkfpmhgidpaaaGreatWA
import Derived.BigQuiet
import Derived.Deep.RegionHeld3

/-
  enter and begin of a walk.
-/
namespace Go.Proofs.YtgjkfpmhgidpaaaGreat
open Go.RowKit
set_option linter.unusedVariables false

/-- A step of the walk: it turns its own blocks alone; the places may lie in a new one. -/
def Nx (w w' : World) (s : Ws) (v' : Value) : Prop := Kp (s.T :: s.M :: blk s.v) w w' ∧ ∀ x, x ∈ blk v' → x ∈ blk s.v ∨ w.heap.size ≤ x

/-- The same walk, its places elsewhere. -/
def Ws.at (s : Ws) (v' : Value) : Ws := ⟨s.P, s.T, s.M, s.R, s.L, v'⟩

theorem Nx.refl (w : World) (s : Ws) : Nx w w s s.v := ⟨Kp.refl _ _, fun x hx => Or.inl hx⟩

theorem Nx.trans {w w1 w2 : World} {s : Ws} {v1 v2 : Value} (h : Nx w w1 s v1) (h' : Nx w1 w2 (s.at v1) v2) : Nx w w2 s v2 := by
  refine ⟨h.1.trans h'.1 (fun x hx => ?_), fun x hx => ?_⟩
  · simp only [Ws.at, List.mem_cons] at hx
    rcases hx with rfl | rfl | hx
    · exact Or.inl (by simp)
    · exact Or.inl (by simp)
    · rcases h.2 x hx with h1 | h1
      · exact Or.inl (by simp [h1])
      · exact Or.inr h1
  · rcases h'.2 x hx with h1 | h1
    · exact h.2 x h1
    · have := h.1.size
      exact Or.inr (by omega)

/-- What a step keeps. -/
theorem Wb.step {w0 w w' : World} {s : Ws} {l : Lb} {k : Fo} {p : Pl} (h : Wb w0 w s l k p) {v' : Value} (n : Nx w w' s v') (hv : ∀ x, x ∈ blk v' → x < w'.heap.size) : Wb w0 w' (s.at v') l k p := by
  obtain ⟨n1, n2⟩ := n
  have hl := h.lt
  have key : ∀ x, x ∈ s.own → x ∉ s.T :: s.M :: blk s.v → w'.heap[x]? = w.heap[x]? := fun x hx hn => n1.block x (hl x hx) hn
  obtain ⟨a1, a2, a3, a4, a5, a6, a7, a8, a9, a10⟩ := h.apart
  have hin : ∀ x, x ∈ blk s.v → x ∈ s.own := fun x hx => by simp [Ws.own, hx]
  have pP : s.P ∉ s.T :: s.M :: blk s.v := fun hx => by
    simp only [List.mem_cons] at hx
    rcases hx with h1 | h1 | h1
    · exact a1 h1
    · exact a2 h1
    · exact (h.apv _ h1).1 rfl
  have pR : s.R ∉ s.T :: s.M :: blk s.v := fun hx => by
    simp only [List.mem_cons] at hx
    rcases hx with h1 | h1 | h1
    · exact a6 h1.symm
    · exact a8 h1.symm
    · exact (h.apv _ h1).2.2.2.1 rfl
  have pL : s.L ∉ s.T :: s.M :: blk s.v := fun hx => by
    simp only [List.mem_cons] at hx
    rcases hx with h1 | h1 | h1
    · exact a7 h1.symm
    · exact a9 h1.symm
    · exact (h.apv _ h1).2.2.2.2 rfl
  have hz := h.kp.size
  have hz' := n1.size
  refine ⟨h.kp.trans n1 (fun x hx => Or.inr (h.new x ?_)), fun x hx => ?_, fun x hx => ?_, (key _ (by simp [Ws.own]) pP).trans h.walk, (key _ (by simp [Ws.own]) pR).trans h.root, (key _ (by simp [Ws.own]) pL).trans h.top, h.node, h.apart, fun x hx => ?_, h.few⟩
  · simp only [List.mem_cons] at hx
    rcases hx with rfl | rfl | hx
    · simp [Ws.own]
    · simp [Ws.own]
    · exact hin x hx
  · simp only [Ws.own, Ws.at, List.mem_cons] at hx
    rcases hx with rfl | rfl | rfl | rfl | rfl | hx
    · exact h.new _ (by simp [Ws.own])
    · exact h.new _ (by simp [Ws.own])
    · exact h.new _ (by simp [Ws.own])
    · exact h.new _ (by simp [Ws.own])
    · exact h.new _ (by simp [Ws.own])
    · rcases n2 x hx with h1 | h1
      · exact h.new x (hin x h1)
      · omega
  · simp only [Ws.own, Ws.at, List.mem_cons] at hx
    rcases hx with rfl | rfl | rfl | rfl | rfl | hx
    · have := hl s.P (by simp [Ws.own]); omega
    · have := hl s.T (by simp [Ws.own]); omega
    · have := hl s.M (by simp [Ws.own]); omega
    · have := hl s.R (by simp [Ws.own]); omega
    · have := hl s.L (by simp [Ws.own]); omega
    · exact hv x hx
  · rcases n2 x hx with h1 | h1
    · exact h.apv x h1
    · have b1 := hl s.P (by simp [Ws.own])
      have b2 := hl s.T (by simp [Ws.own])
      have b3 := hl s.M (by simp [Ws.own])
      have b4 := hl s.R (by simp [Ws.own])
      have b5 := hl s.L (by simp [Ws.own])
      simp only [Ws.at]
      exact ⟨by omega, by omega, by omega, by omega, by omega⟩

theorem Wk.step {w0 w w' : World} {s : Ws} {l : Lb} {k : Fo} {p : Pl} (h : Wb w0 w s l k p) {fs' : List Frw} {v' : Value} (n : Nx w w' s v') (hp : Pk 2 w' 149 132 s.T v' fs'.length (plC fs')) (hk : Ks w' s.M (adC fs')) (hw : Way6 w0 s.R s.L l k fs') : Wk w0 w' (s.at v') fs' l k p :=
  ⟨h.step n hp.2.1.lt, hp, hk, hw⟩

/-- A store into a map, whose run is known. -/
theorem wpList_update_run {P : Program} (w : World) {ops : Array Oper} {rest : List Oper} {o : Oper} {a : Act} {Q : Exit → Act → World → Prop} (hg : o.guard = none) (m x v : Operand) (t : TypeId) (hop : o.op = Op.mapUpdate t m x v)
    (mv xv vv : Value) (h1 : a.eval m = mv) (h2 : a.eval x = xv) (h3 : a.eval v = vv) {w' : World} (hrun : (Instr.mapUpdate t mv xv vv).run P w = .ok () w') (hK : wpList P ops Q rest (a.put o.dst undef) w') : wpList P ops Q (o :: rest) a w := by
  refine wpList_plain hg fun K' hK' => ?_
  unfold Oper.wp
  simp [execOp, hop, h1, h2, h3, hrun, Result.andThen]
  exact hK' _ _ hK

set_option maxRecDepth 100000 in
set_option maxHeartbeats 1000000 in
theorem enter_any (w0 w : World) (s : Ws) (fs : List Frw) (l : Lb) (k : Fo) (p : Pl) (h : Wk w0 w s fs l k p) (b off : Nat) (bo : Option Addr) (m d : Nat) (f : Fo) (hc : w.cell? ⟨b, off + 5, none⟩ = some (.slice bo m d)) (hm : m = f.len)
    (ha : Lies w0 s.R s.L l k ⟨b, off, none⟩ f) (hf : ∀ g, g ∈ fs → f.cnt < g.2.1.cnt) (hn : fs.length + f.cnt ≤ (Fo.cons l k .nil).cnt) :
    Calls Tryz.prog 87 #[.pointer (some ⟨s.P, 0, none⟩), .pointer (some ⟨b, off, none⟩)] w fun e w' => e = .returned (.tuple #[]) ∧ ∃ v', Wk w0 w' (s.at v') (if f.len = 0 then fs else (⟨b, off, none⟩, f, 0) :: fs) l k p ∧ Nx w w' s v' := by
  by_cases h0 : f.len = 0
  · rw [if_pos h0]
    have HF : Hid (∃ v', Wk w0 w (s.at v') fs l k p ∧ Nx w w s v') := ⟨s.v, h, Nx.refl w s⟩
    obtain rfl : m = 0 := by omega
    clear h ha hf hn hm
    go_enter Tryz.func87, Tryz.ntmps87
    go_wp2
    refine bodyPost_ret (v := .tuple #[]) (by simp [results, go_sem]) rfl ⟨rfl, HF.out⟩
  · rw [if_neg h0]
    have hA : At6 w ⟨b, off, none⟩ f := h.b.at_way ha
    have hnot := h.b.fresh h.way hA hf
    have hlook := h.keys.look _ hA.inb (h.b.inb h.way) hnot
    have hl := h.b.lt
    have k1 : Kp [] w (w.alloc (.cells #[] 112)) := (Kp.refl _ _).alloc _
    obtain ⟨a1, a2, a3, a4, a5, a6, a7, a8, a9, a10⟩ := h.b.apart
    have inbk : ∀ x, Inb w x → Inb (w.alloc (.cells #[] 112)) x := fun x ⟨cur, e, hx⟩ => ⟨cur, e, by rw [k1.block _ (Array.getElem?_eq_some_iff.1 hx).1 (by simp)]; exact hx⟩
    obtain ⟨w2, hput, ks2, k2⟩ := (h.keys.keep k1 (by simp)).put _ (inbk _ hA.inb) (fun x hx => inbk x (h.b.inb h.way x hx)) hnot
    have hP : s.P < w.heap.size := hl s.P (by simp [Ws.own])
    have hT : s.T < w.heap.size := hl s.T (by simp [Ws.own])
    have hM : s.M < w.heap.size := hl s.M (by simp [Ws.own])
    have hcp : w.cell? ⟨s.P, 0, none⟩ = some (.pointer (some ⟨s.T, 0, none⟩)) := cell_of h.b.walk 0
    have hcm : w.cell? ⟨s.P, 1, none⟩ = some (.map (some s.M)) := cell_of h.b.walk 1
    have hP2 : w2.heap[s.P]? = some (.cells #[.pointer (some ⟨s.T, 0, none⟩), .map (some s.M), .bool false] 107 (0, 0)) := (k2.block _ (by simp; omega) (by simp; exact a2)).trans ((k1.block _ hP (by simp)).trans h.b.walk)
    have hcp2 : w2.cell? ⟨s.P, 0, none⟩ = some (.pointer (some ⟨s.T, 0, none⟩)) := cell_of hP2 0
    have k12 : Kp [s.M] w w2 := (k1.mono (fun x hx => by simp at hx)).trans k2 (fun x hx => Or.inl hx)
    have hbv : ∀ x, x ∈ blk s.v → x ∉ [s.M] := fun x hx => by simp; exact (h.b.apv x hx).2.2.1
    have HPU := pl_push w2 s.T s.v fs.length (plC fs) ⟨b, off, none⟩ 0 (h.pile.keep k12 (by simp; exact a5) hbv) (by have := h.b.few; rw [Fo.cnt_cons, Fo.cnt_nil] at hn; omega)
    have HF : Hid (∀ w3, Tk 2 w2 w3 149 132 s.T s.v (fs.length + 1) (plC fs ++ pc ⟨b, off, none⟩ 0) → ∃ v', Wk w0 w3 (s.at v') ((⟨b, off, none⟩, f, 0) :: fs) l k p ∧ Nx w w3 s v') := fun w3 ⟨v', t1, t2, t3⟩ => by
      have hn3 : Nx w w3 s v' := ⟨(k12.mono (T := s.T :: s.M :: blk s.v) (fun x hx => Or.inl (by simp at hx; simp [hx]))).trans t2 (fun x hx => by
        simp only [List.mem_cons] at hx
        rcases hx with rfl | hx
        · exact Or.inl (by simp)
        · exact Or.inl (by simp [hx])), fun x hx => by
        rcases t3 x hx with h1 | h1
        · exact Or.inl h1
        · have := k12.size; exact Or.inr (by omega)⟩
      refine ⟨v', Wk.step h.b hn3 t1 (ks2.keep t2 (fun hx => ?_)) ⟨ha, Nat.zero_le _, hn, hf, h.way⟩, hn3⟩
      simp only [List.mem_cons] at hx
      rcases hx with h1 | h1
      · exact a5 h1.symm
      · exact (h.b.apv _ h1).2.2.1 rfl
    have h0' : ¬ m = 0 := by omega
    clear h hA hnot hl k1 inbk ks2 k2 hP2 k12 hbv ha hf hn hm h0
    unfold pv at HPU
    go_enter Tryz.func87, Tryz.ntmps87
    go_wp2_with (first
      | (at_mapUpdate; refine wpList_update_run _ rfl _ _ _ _ rfl _ _ _ rfl rfl rfl hput ?_)
      | (go_at_call 90; refine HPU.mono ?_; rintro e w3 ⟨rfl, t3⟩))
    go_end0
    exact ⟨rfl, HF.out _ t3⟩

set_option maxRecDepth 100000 in
set_option maxHeartbeats 1000000 in
theorem begin_any (w0 w : World) (l : Lb) (k : Fo) (p : Pl) (k0 : Kp [] w0 w) (h : Nd Any w0 l k p) (hn : k.cnt ≤ 20000) :
    Calls Tryz.prog 51 #[wv l p] w fun e w' => ∃ s fs, e = .returned (.pointer (some ⟨s.P, 0, none⟩)) ∧ Wk w0 w' s fs l k p ∧ toC fs = (Fo.cons l k .nil).vis 0 ∧ Kp [] w w' ∧ ∀ x, x ∈ s.own → w.heap.size ≤ x := by
  obtain ⟨W, hW⟩ : ∃ W, W = (((((w.alloc (.cells (six l p).toArray 38)).alloc (.cells #[.slice none 0 0] 149)).alloc (.map #[] 0)).alloc (.cells #[.pointer (some ⟨w.heap.size + 1, 0, none⟩), .map (some (w.heap.size + 2)), .bool false] 107)).alloc (.cells (six l p).toArray 38)).alloc (.cells #[.int .i64 0, .int .i64 0, .string ⟨#[]⟩, .slice none 0 0, .string ⟨#[]⟩, .slice (some ⟨w.heap.size + 4, 0, none⟩) 1 1] 38) := ⟨_, rfl⟩
  have hk : Kp [] w W := by rw [hW]; exact ((((((Kp.refl _ _).alloc _).alloc _).alloc _).alloc _).alloc _).alloc _
  have g1 : W.heap[w.heap.size + 1]? = some (.cells #[.slice none 0 0] 149 (0, 0)) := by
    rw [hW, Below.heap_alloc _ _ _ (by simp), Below.heap_alloc _ _ _ (by simp), Below.heap_alloc _ _ _ (by simp), Below.heap_alloc _ _ _ (by simp)]
    exact heap_new' _ _ _ (by simp)
  have g2 : W.heap[w.heap.size + 2]? = some (.map #[] 0) := by
    rw [hW, Below.heap_alloc _ _ _ (by simp), Below.heap_alloc _ _ _ (by simp), Below.heap_alloc _ _ _ (by simp)]
    exact heap_new' _ _ _ (by simp)
  have g3 : W.heap[w.heap.size + 3]? = some (.cells #[.pointer (some ⟨w.heap.size + 1, 0, none⟩), .map (some (w.heap.size + 2)), .bool false] 107 (0, 0)) := by
    rw [hW, Below.heap_alloc _ _ _ (by simp), Below.heap_alloc _ _ _ (by simp)]
    exact heap_new' _ _ _ (by simp)
  have g4 : W.heap[w.heap.size + 4]? = some (.cells (six l p).toArray 38 (0, 0)) := by
    rw [hW, Below.heap_alloc _ _ _ (by simp)]
    exact heap_new' _ _ _ (by simp)
  have g5 : W.heap[w.heap.size + 5]? = some (.cells #[.int .i64 0, .int .i64 0, .string ⟨#[]⟩, .slice none 0 0, .string ⟨#[]⟩, .slice (some ⟨w.heap.size + 4, 0, none⟩) 1 1] 38 (0, 0)) := by
    rw [hW]
    exact heap_new' _ _ _ (by simp)
  have hsz : W.heap.size = w.heap.size + 6 := by rw [hW]; simp
  have hwk : Wk w0 W ⟨w.heap.size + 3, w.heap.size + 1, w.heap.size + 2, w.heap.size + 5, w.heap.size + 4, .slice none 0 0⟩ [] l k p :=
    ⟨⟨k0.trans hk (fun x hx => Or.inl hx), fun x hx => by have := k0.size; simp [Ws.own, blk] at hx; omega, fun x hx => by simp [Ws.own, blk] at hx; omega, g3, g5, g4, h, ⟨by simp, by simp, by simp, by simp, by simp, by simp, by simp, by simp, by simp, by simp⟩, fun x hx => by simp [blk] at hx, hn⟩, ⟨g1, ⟨rfl, Or.inl ⟨rfl, rfl⟩⟩, by simp [blk]⟩, ⟨#[], 0, g2, rfl⟩, trivial⟩
  have HE := enter_any w0 W _ [] l k p hwk (w.heap.size + 5) 0 (some ⟨w.heap.size + 4, 0, none⟩) 1 1 (.cons l k .nil) (cell_of g5 5) rfl (Or.inr (Or.inl ⟨rfl, rfl⟩)) (fun g hg => by simp at hg) (by simp)
  rw [hW] at HE
  have HF : Hid (∀ w', (∃ v', Wk w0 w' (Ws.at ⟨w.heap.size + 3, w.heap.size + 1, w.heap.size + 2, w.heap.size + 5, w.heap.size + 4, .slice none 0 0⟩ v') (if (Fo.cons l k .nil).len = 0 then [] else [(⟨w.heap.size + 5, 0, none⟩, .cons l k .nil, 0)]) l k p ∧ Nx W w' ⟨w.heap.size + 3, w.heap.size + 1, w.heap.size + 2, w.heap.size + 5, w.heap.size + 4, .slice none 0 0⟩ v') → ∃ s fs, Ending.returned (.pointer (some ⟨w.heap.size + 3, 0, none⟩)) = .returned (.pointer (some ⟨s.P, 0, none⟩)) ∧ Wk w0 w' s fs l k p ∧ toC fs = (Fo.cons l k .nil).vis 0 ∧ Kp [] w w' ∧ ∀ x, x ∈ s.own → w.heap.size ≤ x) := by
    rintro w' ⟨v', h1, h2⟩
    rw [if_neg (by simp)] at h1
    refine ⟨_, _, rfl, h1, by simp [toC], hk.trans h2.1 (fun x hx => Or.inr (by simp [blk] at hx; omega)), fun x hx => ?_⟩
    simp only [Ws.own, Ws.at, List.mem_cons] at hx
    rcases hx with h3 | h3 | h3 | h3 | h3 | h3
    · omega
    · omega
    · omega
    · omega
    · omega
    · rcases h2.2 x h3 with h4 | h4
      · simp [blk] at h4
      · omega
  rw [hW] at HF
  clear k0 hsz hwk g1 g2 g3 g4 g5 hk hW W h
  simp only [six, wv] at HE HF ⊢
  have HN := pl_new
  have HM : ∀ W : World, (Instr.makeMap 105 none).run Tryz.prog W = .ok (.map (some W.heap.size)) (W.alloc (.map #[] 0)) := fun W => run_makeMap 105 W
  go_enter Tryz.func51, Tryz.ntmps51
  go_wp2_with (first
    | (go_at_call 86; refine (HN _).mono ?_; rintro e w2 ⟨rfl, rfl⟩)
    | (go_at_call 87; refine HE.mono ?_; rintro e w3 ⟨rfl, t3⟩))
  go_ret
  exact HF.out _ t3

end Go.Proofs.YtgjkfpmhgidpaaaGreat

/-
  next of a walk.
-/
namespace Go.Proofs.YtgjkfpmhgidpaaaGreat
open Go.RowKit
set_option linter.unusedVariables false

/-- What next tells of a node that it comes to: its cells lie there, and its lists as they lay in w0. -/
def Told6 (w0 w : World) (s : Ws) (b off : Nat) (l : Lb) (k : Fo) : Prop := ∃ p, Cl w b off l p ∧ Nd Any w0 l k p ∧ (b < w0.heap.size ∨ b = s.L)

/-- The next one below a place of the way. -/
theorem Wb.kid {w0 w : World} {s : Ws} {l : Lb} {k : Fo} {p : Pl} (h : Wb w0 w s l k p) {a : Addr} {kk : Fo} {i : Nat} (hg : Lies w0 s.R s.L l k a kk) {l' : Lb} {k' : Fo} (e : kk.drop i = .cons l' k' (kk.drop (i + 1))) :
    ∃ b off bo m d b' off', a = ⟨b, off, none⟩ ∧ w.cell? ⟨b, off + 5, none⟩ = some (.slice bo m d) ∧ m = kk.len ∧ bo = some ⟨b', off', none⟩ ∧ Told6 w0 w s b' (off' + i * 6) l' k' ∧ Lies w0 s.R s.L l k ⟨b', off' + i * 6, none⟩ k' := by
  have low : ∀ {bo : Option Addr} {m d : Nat}, Rt Any w0 bo m d kk → ∃ b' off', bo = some ⟨b', off', none⟩ ∧ Told6 w0 w s b' (off' + i * 6) l' k' ∧ Lies w0 s.R s.L l k ⟨b', off' + i * 6, none⟩ k' := fun {bo m d} h4 => by
    obtain ⟨p', b', off', _, rfl, h6, h7⟩ := h4.at e
    exact ⟨b', off', rfl, ⟨p', h7.keep h.kp (by simp), h6, Or.inl h7.lt⟩, Or.inl (h7.at6 h6.kids)⟩
  rcases hg with hg | ⟨rfl, rfl⟩ | ⟨rfl, rfl⟩
  · obtain ⟨b, off, cur, e', bo, m, d, rfl, h2, h3, h4⟩ := hg
    obtain ⟨b', off', rfl, h6, h7⟩ := low h4
    refine ⟨b, off, _, m, d, b', off', rfl, ?_, h4.len, rfl, h6, h7⟩
    rw [cell_of (cur := cur) (e := e') ((h.kp.block b (Array.getElem?_eq_some_iff.1 h2).1 (by simp)).trans h2)]
    exact h3
  · have hi : i = 0 := by
      have := congrArg Fo.len e
      rw [Fo.len_drop] at this
      simp at this
      omega
    subst hi
    rw [Fo.drop_zero] at e
    have e2 := e
    unfold Fo.cons at e2
    simp only [Fo.mk.injEq, heq_eq_eq, true_and] at e2
    obtain rfl := congrFun e2.1 rfl
    obtain rfl := congrFun e2.2.1 rfl
    exact ⟨s.R, 0, _, 1, 1, s.L, 0, rfl, cell_of h.root 5, rfl, rfl, ⟨p, h.cl_top, h.node, Or.inr rfl⟩, Or.inr (Or.inr ⟨rfl, rfl⟩)⟩
  · obtain ⟨b', off', h5, h6, h7⟩ := low h.node.kids
    exact ⟨s.L, 0, _, _, _, b', off', rfl, h.cl_top.cells.2.2.2.2.2, h.node.klen, h5, h6, h7⟩

/-- The kids of a place of the way. -/
theorem Wb.list {w0 w : World} {s : Ws} {l : Lb} {k : Fo} {p : Pl} (h : Wb w0 w s l k p) {a : Addr} {kk : Fo} (hg : Lies w0 s.R s.L l k a kk) : ∃ b off bo m d, a = ⟨b, off, none⟩ ∧ w.cell? ⟨b, off + 5, none⟩ = some (.slice bo m d) ∧ m = kk.len := by
  obtain ⟨b, off, cur, e, bo, m, d, h1, h2, h3, h4⟩ := h.at_way hg
  exact ⟨b, off, bo, m, d, h1, by rw [cell_of h2]; exact h3, h4.len⟩

theorem cnt_drop {f : Fo} {i : Nat} {l : Lb} {k r : Fo} (e : f.drop i = .cons l k r) : k.cnt < f.cnt := by
  have h := congrArg Fo.cnt (Fo.take_drop i f)
  rw [Fo.cnt_app, e, Fo.cnt_cons] at h
  omega

/-- How many places a pile has. -/
def lenAt (w : World) (T : Nat) : Nat := match w.cell? ⟨T, 0, none⟩ with
  | some (.slice _ n _) => n
  | _ => 0
def bit : Value → Nat
  | .bool true => 1
  | _ => 0

/-- What Pop tells. -/
def Popd : List Frw → Option Addr → Int → Bool → Prop
  | [], ao, j, y => ao = none ∧ j = 0 ∧ y = false
  | f :: _, ao, j, y => ao = some f.1 ∧ j = f.2.2 ∧ y = true

theorem pop_any (w : World) (p : Nat) (v : Value) (gs : List Frw) (h : Pk 2 w 149 132 p v gs.length (plC gs)) (hl : gs.length < 100000) :
    Calls Tryz.prog 88 #[.pointer (some ⟨p, 0, none⟩)] w fun e w' => ∃ ao j y v', e = .returned (.tuple #[.agg #[.pointer ao, .int .i64 j], .bool y]) ∧ Pk 2 w' 149 132 p v' gs.tail.length (plC gs.tail) ∧ Kp (p :: blk v) w w' ∧ (∀ x, x ∈ blk v' → x ∈ blk v ∨ w.heap.size ≤ x) ∧ Popd gs ao j y := by
  cases gs with
  | nil =>
    refine (pl_pop_none w p v _ h).mono ?_
    rintro e w' ⟨rfl, k2⟩
    exact ⟨_, _, _, v, rfl, h.keep k2 (by simp) (fun _ _ => by simp), k2.mono (fun x hx => by simp at hx), fun x hx => Or.inl hx, rfl, rfl, rfl⟩
  | cons f gs =>
    refine (pl_pop w p v gs.length (plC gs) f.1 f.2.2 h (by simp at hl; omega)).mono ?_
    rintro e w' ⟨rfl, v', t1, t2, t3⟩
    exact ⟨_, _, _, v', rfl, t1, t2, t3, rfl, rfl, rfl⟩

/-- The loop of next: a place that was taken off the pile, or none. -/
def Lp (w0 w : World) (s : Ws) (fs : List Frw) (l : Lb) (k : Fo) (x5 x6 : Value) (wr : World) : Prop :=
  ∃ q v gs ao j y, x5 = .pointer (some ⟨q, 0, none⟩) ∧ x6 = .bool y ∧ wr.heap[q]? = some (.cells #[.pointer ao, .int .i64 j] 132 (0, 0)) ∧ w.heap.size ≤ q ∧ q ∉ blk v ∧ Nx w wr s v ∧ Pk 2 wr 149 132 s.T v gs.tail.length (plC gs.tail) ∧ Popd gs ao j y ∧ Ks wr s.M (adC gs) ∧ Way6 w0 s.R s.L l k gs ∧ toC gs = toC fs

/-- What next tells. -/
def NxPost (w0 w : World) (s : Ws) (fs : List Frw) (l : Lb) (k : Fo) (p : Pl) (e : Ending) (w' : World) : Prop :=
  (toC fs = [] ∧ e = .returned (.tuple #[.pointer none, .int .i64 0, .bool false]) ∧ ∃ v', Wk w0 w' (s.at v') [] l k p ∧ Nx w w' s v') ∨
  (∃ (d : Nat) (l' : Lb) (k' : Fo) (S : List Vt) (b off : Nat), toC fs = (d, l', k') :: S ∧ e = .returned (.tuple #[.pointer (some ⟨b, off, none⟩), .int .i64 d, .bool true]) ∧ Told6 w0 w' s b off l' k' ∧ ∃ v' fs', Wk w0 w' (s.at v') fs' l k p ∧ Nx w w' s v' ∧ toC fs' = S)

theorem lenAt_of {w : World} {T : Nat} {v : Value} {n : Nat} {xs : List Value} {K : Nat} {t e : TypeId} (h : Pk K w t e T v n xs) : lenAt w T = n := by
  obtain ⟨ao, c, rfl, hc, _⟩ := h.out
  unfold lenAt
  rw [hc]

theorem way_len {w0 : World} {r L : Nat} {l : Lb} {k : Fo} {gs : List Frw} (h : Way6 w0 r L l k gs) (hn : k.cnt ≤ 20000) : gs.length < 100000 := by
  cases gs with
  | nil => simp
  | cons f gs =>
    have := h.2.2.1
    rw [Fo.cnt_cons, Fo.cnt_nil] at this
    simp
    omega

/-- A place is laid into a new block behind a Pop. -/
theorem lp_start {w0 w w1 w2 : World} {s : Ws} {fs gs : List Frw} {l : Lb} {k : Fo} {p : Pl} (hb : Wb w0 w s l k p) {v v' : Value} (hn : Nx w w1 s v) (hk : Ks w1 s.M (adC gs)) (hw : Way6 w0 s.R s.L l k gs) (ht : toC gs = toC fs) {ao : Option Addr} {j : Int} {y : Bool}
    (h1 : Pk 2 w2 149 132 s.T v' gs.tail.length (plC gs.tail)) (h2 : Kp (s.T :: blk v) w1 w2) (h3 : ∀ x, x ∈ blk v' → x ∈ blk v ∨ w1.heap.size ≤ x) (h4 : Popd gs ao j y) (hv : ∀ x, x ∈ blk v → x < w1.heap.size) :
    Nx w w2 s v' ∧ Ks w2 s.M (adC gs) := by
  have hmv : s.M ∉ s.T :: blk v := fun hx => by
    rcases List.mem_cons.1 hx with h | h
    · exact hb.apart.2.2.2.2.1 h.symm
    · rcases hn.2 _ h with h | h
      · exact (hb.apv _ h).2.2.1 rfl
      · have := hb.lt s.M (by simp [Ws.own]); omega
  refine ⟨?_, hk.keep h2 hmv⟩
  have hn2 : Nx w1 w2 (s.at v) v' := ⟨h2.mono (fun x hx => by
    rcases List.mem_cons.1 hx with rfl | h
    · exact Or.inl (by simp [Ws.at])
    · exact Or.inl (by simp [Ws.at, h])), h3⟩
  exact hn.trans hn2

set_option maxRecDepth 100000 in
set_option maxHeartbeats 1000000 in
theorem next_any (w0 w : World) (s : Ws) (fs : List Frw) (l : Lb) (k : Fo) (p : Pl) (h : Wk w0 w s fs l k p) :
    Calls Tryz.prog 52 #[.pointer (some ⟨s.P, 0, none⟩)] w fun e w' => NxPost w0 w s fs l k p e w' := by
  obtain ⟨hP, hT⟩ : s.P < w.heap.size ∧ s.T < w.heap.size := ⟨h.b.lt s.P (by simp [Ws.own]), h.b.lt s.T (by simp [Ws.own])⟩
  have hcp : w.cell? ⟨s.P, 0, none⟩ = some (.pointer (some ⟨s.T, 0, none⟩)) := cell_of h.b.walk 0
  have HPP := pop_any w s.T s.v fs h.pile (way_len h.way h.b.few)
  have HB : Hid (Wb w0 w s l k p) := h.b
  have HS : Hid (∀ w2 ao j y v', Pk 2 w2 149 132 s.T v' fs.tail.length (plC fs.tail) → Kp (s.T :: blk s.v) w w2 → (∀ x, x ∈ blk v' → x ∈ blk s.v ∨ w.heap.size ≤ x) → Popd fs ao j y → Lp w0 w s fs l k (.pointer (some ⟨w2.heap.size, 0, none⟩)) (.bool y) (w2.alloc (.cells #[.pointer ao, .int .i64 j] 132))) := fun w2 ao j y v' p1 p2 p3 p4 => by
    obtain ⟨n1, k1⟩ := lp_start h.b (Nx.refl w s) h.keys h.way rfl p1 p2 p3 p4 h.pile.2.1.lt
    have hlt := p1.2.1.lt
    exact ⟨_, v', fs, ao, j, y, rfl, rfl, heap_new _ _, p2.size, fun hx => by have := hlt _ hx; omega, ⟨n1.1.alloc _, n1.2⟩, p1.keep ((Kp.refl [] _).alloc _) (by simp) (fun _ _ => by simp), p4, k1.keep ((Kp.refl [] _).alloc _) (by simp), h.way, rfl⟩
  clear h
  go_enter Tryz.func52, Tryz.ntmps52
  go_wp2_with (go_at_call 88; refine HPP.mono ?_; rintro e w2 ⟨ao, j, y, v', rfl, p1, p2, p3, p4⟩)
  go_loopw [5, 6] (fun x5 x6 wr => Lp w0 w s fs l k x5 x6 wr) (fun x5 x6 wr => lenAt wr s.T + bit x6)
  case atStart => exact HS.out _ _ _ _ _ p1 p2 p3 p4
  case round =>
    clear HS HPP p1 p2 p3 p4 hcp
    obtain ⟨q, v, gs, ao, j, y, rfl, rfl, hq, hqs, hqv, hn, hp, hd, hk, hw, ht⟩ := hrel
    cases gs with
    | nil =>
      obtain ⟨rfl, rfl, rfl⟩ := hd
      have HF : Hid (NxPost w0 w s fs l k p (.returned (.tuple #[.pointer none, .int .i64 0, .bool false])) wr) := Or.inl ⟨ht.symm, rfl, v, Wk.step HB.out hn hp hk hw, hn⟩
      clear hq hn hp hk hw ht
      go_wp2
      go_ret3
      exact HF.out
    | cons f gs =>
      obtain ⟨a, kk, i⟩ := f
      obtain ⟨rfl, rfl, rfl⟩ := hd
      have hB := HB.out.step hn hp.2.1.lt
      obtain ⟨b, off, bo, m, d, rfl, hc5, hm0⟩ := hB.list hw.1
      have hm : m = kk.len := hm0
      clear hm0
      have hvl : ∀ x, x ∈ blk v → x < wr.heap.size := hp.2.1.lt
      have hql : q < wr.heap.size := (Array.getElem?_eq_some_iff.1 hq).1
      have hPl : s.P < wr.heap.size := hB.lt s.P (by simp [Ws.own, Ws.at])
      have hTl : s.T < wr.heap.size := hB.lt s.T (by simp [Ws.own, Ws.at])
      have hMl : s.M < wr.heap.size := hB.lt s.M (by simp [Ws.own, Ws.at])
      have hap := HB.out.apart
      have hq1 : q ≠ s.P := fun e => by omega
      have hq2 : q ≠ s.T := fun e => by omega
      have hq3 : q ≠ s.M := fun e => by have := HB.out.lt s.M (by simp [Ws.own]); omega
      have cp0 : wr.cell? ⟨s.P, 0, none⟩ = some (.pointer (some ⟨s.T, 0, none⟩)) := cell_of hB.walk 0
      have cp1 : wr.cell? ⟨s.P, 1, none⟩ = some (.map (some s.M)) := cell_of hB.walk 1
      have cq0 : wr.cell? ⟨q, 0, none⟩ = some (.pointer (some ⟨b, off, none⟩)) := cell_of hq 0
      have cq1 : wr.cell? ⟨q, 1, none⟩ = some (.int .i64 (i : Int)) := cell_of hq 1
      have hsm : m < 100000 := by
        have h1 := hw.2.2.1
        have h2 := Fo.len_le_cnt kk
        have h3 := HB.out.few
        rw [Fo.cnt_cons, Fo.cnt_nil] at h1
        simp only at h1
        omega
      by_cases hi : i = kk.len
      · obtain rfl : m = i := by omega
        have hA := hB.at_way hw.1
        have hnot := hB.fresh hw.2.2.2.2 hA hw.2.2.2.1
        have inbW : ∀ W, Kp [] wr W → ∀ x, Inb wr x → Inb W x := fun W kW x ⟨cur, e, hx⟩ => ⟨cur, e, by rw [kW.block _ (Array.getElem?_eq_some_iff.1 hx).1 (by simp)]; exact hx⟩
        have HD : Hid (∀ W, Kp [] wr W → ∃ w2, (∀ ty, (Builtin.delete_ #[105, 81] ty #[.map (some s.M), .pointer (some ⟨b, off, none⟩)]).run Tryz.prog W = .ok (.tuple #[]) w2) ∧ Ks w2 s.M (adC gs) ∧ Kp [s.M] W w2) := fun W kW =>
          Ks.del _ (hk.keep kW (by simp)) (inbW W kW _ hA.inb) (fun x hx => inbW W kW x (hB.inb hw.2.2.2.2 x hx)) hnot
        have HC : Hid (∀ W, Kp [s.M] wr W → (W.cell? ⟨s.P, 1, none⟩ = some (.map (some s.M)) ∧ W.cell? ⟨q, 0, none⟩ = some (.pointer (some ⟨b, off, none⟩)))) := fun W kW =>
          ⟨(kW.cell hPl (by simp; exact hap.2.1)).trans cp1, (kW.cell hql (by simp; exact hq3)).trans cq0⟩
        have HE : Hid (Nx w wr s v ∧ Pk 2 wr 149 132 s.T v gs.length (plC gs) ∧ Way6 w0 s.R s.L l k gs ∧ toC gs = toC fs) := ⟨hn, hp, hw.2.2.2.2, by
          have h1 : kk.drop m = .nil := Fo.len_zero.1 (by rw [Fo.len_drop]; omega)
          rw [← ht]
          simp only [toC, h1, vis_nil, List.nil_append]⟩
        have HW : Hid (Wb w0 wr (s.at v) l k p) := hB
        have HQ : Hid (wr.heap[q]? = some (.cells #[.pointer (some ⟨b, off, none⟩), .int .i64 (m : Int)] 132 (0, 0))) := hq
        clear hn hp hw ht hk hA hnot inbW hB hq hm hi hsm
        go_wp2_with fail
        go_quiet (fail)
        go_wp2_with fail
        obtain ⟨w2, hdel, ks2, k2⟩ := HD.out (wr.drewN nq).drew ((Kp.refl _ _).drewN nq).drew
        have K2 : Hid (Kp [s.M] wr w2) := (((Kp.refl [s.M] wr).drewN nq).drew).trans k2 (fun x hx => Or.inl hx)
        have KS : Hid (Ks w2 s.M (adC gs)) := ks2
        clear ks2 k2
        go_region_held3 (fun w' => w'.cell? ⟨s.P, 1, none⟩ = some (.map (some s.M)) ∧ w'.cell? ⟨q, 0, none⟩ = some (.pointer (some ⟨b, off, none⟩)))
          (first
            | exact HC.out _ K2.out
            | exact HC.out _ ((Kp.refl _ _).drewN nq).drew)
          (first | refine step_delR (by rfl) _ _ _ _ (by rfl) _ _ (by rfl) (by rfl) hdel ?_)
        have d0 : w2.cell? ⟨s.P, 0, none⟩ = some (.pointer (some ⟨s.T, 0, none⟩)) := (K2.out.cell hPl (by simp; exact hap.2.1)).trans cp0
        have e0 : w2.cell? ⟨q, 0, none⟩ = some (.pointer (some ⟨b, off, none⟩)) := (K2.out.cell hql (by simp; exact hq3)).trans cq0
        have e1 : w2.cell? ⟨q, 1, none⟩ = some (.int .i64 (m : Int)) := (K2.out.cell hql (by simp; exact hq3)).trans cq1
        have hPl2 : s.P < w2.heap.size := Nat.lt_of_lt_of_le hPl K2.out.size
        have HPOP : Hid (Calls Tryz.prog 88 #[.pointer (some ⟨s.T, 0, none⟩)] (w2.alloc (.cells #[.pointer (some ⟨b, off, none⟩), .int .i64 (m : Int)] 132)) fun e w' => ∃ ao j y v', e = .returned (.tuple #[.agg #[.pointer ao, .int .i64 j], .bool y]) ∧ Pk 2 w' 149 132 s.T v' gs.tail.length (plC gs.tail) ∧ Kp (s.T :: blk v) (w2.alloc (.cells #[.pointer (some ⟨b, off, none⟩), .int .i64 (m : Int)] 132)) w' ∧ (∀ x, x ∈ blk v' → x ∈ blk v ∨ (w2.alloc (.cells #[.pointer (some ⟨b, off, none⟩), .int .i64 (m : Int)] 132)).heap.size ≤ x) ∧ Popd gs ao j y) :=
          pop_any _ s.T v gs ((HE.out.2.1.keep K2.out (by simp; exact hap.2.2.2.2.1) (fun x hx => by simp; intro e; exact (HW.out.apv x hx).2.2.1 e)).keep ((Kp.refl [] _).alloc _) (by simp) (fun _ _ => by simp)) (way_len HE.out.2.2.1 HB.out.few)
        have HN : Hid (∀ w3 ao j y v', Pk 2 w3 149 132 s.T v' gs.tail.length (plC gs.tail) → Kp (s.T :: blk v) (w2.alloc (.cells #[.pointer (some ⟨b, off, none⟩), .int .i64 (m : Int)] 132)) w3 → (∀ x, x ∈ blk v' → x ∈ blk v ∨ (w2.alloc (.cells #[.pointer (some ⟨b, off, none⟩), .int .i64 (m : Int)] 132)).heap.size ≤ x) → Popd gs ao j y →
            w3.heap[w2.heap.size]? = some (.cells #[.pointer (some ⟨b, off, none⟩), .int .i64 (m : Int)] 132 (0, 0)) ∧
            (Lp w0 w s fs l k (.pointer (some ⟨w2.heap.size, 0, none⟩)) (.bool y) ((w3.setCell ⟨w2.heap.size, 0, none⟩ (.pointer ao)).setCell ⟨w2.heap.size, 1, none⟩ (.int .i64 j)) ∧ lenAt ((w3.setCell ⟨w2.heap.size, 0, none⟩ (.pointer ao)).setCell ⟨w2.heap.size, 1, none⟩ (.int .i64 j)) s.T + bit (.bool y) < lenAt wr s.T + 1)) := fun w3 ao j y v' p1 p2 p3 p4 => by
          obtain ⟨n0, q0, w00, t0⟩ := HE.out
          have hs2 := K2.out.size
          have hTn : s.T ≠ w2.heap.size := by omega
          have hvn : ∀ x, x ∈ blk v → x ≠ w2.heap.size := fun x hx e => by have := hvl x hx; omega
          have hb3 : w3.heap[w2.heap.size]? = some (.cells #[.pointer (some ⟨b, off, none⟩), .int .i64 (m : Int)] 132 (0, 0)) := (p2.block _ (by simp) (fun hx => by
            rcases List.mem_cons.1 hx with h | h
            · exact hTn h.symm
            · exact hvn _ h rfl)).trans (heap_new _ _)
          have n2 : Nx w (w2.alloc (.cells #[.pointer (some ⟨b, off, none⟩), .int .i64 (m : Int)] 132)) s v := n0.trans (s := s) (v1 := v) ⟨(K2.out.alloc _).mono (fun x hx => Or.inl (by simp at hx; simp [Ws.at, hx])), fun x hx => Or.inl hx⟩
          obtain ⟨n3, k3⟩ := lp_start HB.out n2 (KS.out.keep ((Kp.refl [] _).alloc _) (by simp)) w00 t0 p1 p2 p3 p4 (fun x hx => by have := hvl x hx; simp; omega)
          have hx3 : Kp [w2.heap.size] w3 ((w3.setCell ⟨w2.heap.size, 0, none⟩ (.pointer ao)).setCell ⟨w2.heap.size, 1, none⟩ (.int .i64 j)) := ((Kp.refl _ _).setCell (Or.inl (by simp)) _).setCell (Or.inl (by simp)) _
          have hv' : ∀ x, x ∈ blk v' → x ≠ w2.heap.size := fun x hx e => by
            rcases p3 x hx with h1 | h1
            · exact hvn x h1 e
            · simp at h1; omega
          have pk : Pk 2 ((w3.setCell ⟨w2.heap.size, 0, none⟩ (.pointer ao)).setCell ⟨w2.heap.size, 1, none⟩ (.int .i64 j)) 149 132 s.T v' gs.tail.length (plC gs.tail) := p1.keep hx3 (by simp; exact hTn) (fun x hx => by simp; exact hv' x hx)
          have hws : w.heap.size ≤ w2.heap.size := by omega
          refine ⟨hb3, ⟨w2.heap.size, v', gs, ao, j, y, rfl, rfl, by rw [setCell_block (setCell_block hb3 _ _)]; rfl, hws, fun hx => hv' _ hx rfl, ⟨(n3.1.setCell (p := ⟨w2.heap.size, 0, none⟩) (Or.inr hws) _).setCell (p := ⟨w2.heap.size, 1, none⟩) (Or.inr hws) _, n3.2⟩, pk, p4, k3.keep hx3 (by simp; omega), w00, t0⟩, ?_⟩
          rw [lenAt_of pk, lenAt_of q0]
          cases gs with
          | nil => obtain ⟨_, _, rfl⟩ := p4; simp [bit]
          | cons g gs => obtain ⟨_, _, rfl⟩ := p4; simp [bit]
        clear HD HC HE HW KS hc5 HQ hdel cp0 cp1 cq0 cq1
        go_wp2_with (go_at_call 88; refine HPOP.out.mono ?_; rintro e w3 ⟨ao, j, y, v3, rfl, p1, p2, p3, p4⟩; have B3 : Hid _ := HN.out _ _ _ _ _ p1 p2 p3 p4; have c30 : w3.cell? ⟨w2.heap.size, 0, none⟩ = some (.pointer (some ⟨b, off, none⟩)) := cell_of B3.out.1 0; have c31 : w3.cell? ⟨w2.heap.size, 1, none⟩ = some (.int .i64 (m : Int)) := cell_of B3.out.1 1; have f30 := frozen_of B3.out.1 0; have f31 := frozen_of B3.out.1 1; clear p1 p2 p3 p4)
        go_roundw
        case rel => exact B3.out.2.1
        case measure => exact B3.out.2.2
      · have hil : i < kk.len := by have := hw.2.1; simp only at this; omega
        obtain ⟨l', k', hdr⟩ := Fo.at_lt hil
        have hne : ((i : Int) == (m : Int)) = false := by simp; omega
        have hwr : IntKind.i64.wrap ((i : Int) + 1) = (i : Int) + 1 := by
          have : (i : Int) < 100000 := by omega
          simp [IntKind.wrap, IntKind.bits, IntKind.signed]
          omega
        have HPU : Hid (∀ W, Kp [] wr W → Calls Tryz.prog 90 #[.pointer (some ⟨s.T, 0, none⟩), .agg #[.pointer (some ⟨b, off, none⟩), .int .i64 ((i : Int) + 1)]] W fun e w' => e = .returned (.tuple #[]) ∧ Tk 2 W w' 149 132 s.T v (gs.length + 1) (plC gs ++ pc ⟨b, off, none⟩ ((i : Int) + 1))) := fun W kW =>
          pl_push W s.T v gs.length (plC gs) ⟨b, off, none⟩ ((i : Int) + 1) (hp.keep kW (by simp) (fun _ _ => by simp)) (by have := way_len hw.2.2.2.2 HB.out.few; omega)
        have HLN : Hid (∀ W, Kp [] wr W → Calls Tryz.prog 89 #[.pointer (some ⟨s.T, 0, none⟩)] W fun e w' => e = .returned (.int .i64 (gs.length : Nat)) ∧ w' = W) := fun W kW =>
          pl_len W s.T v gs.length (plC gs) (hp.keep kW (by simp) (fun _ _ => by simp))
        have hPn : s.P ∉ s.T :: blk v := fun hx => by
          rcases List.mem_cons.1 hx with h | h
          · exact hap.1 h
          · exact (hB.apv _ h).1 rfl
        have hqn : q ∉ s.T :: blk v := fun hx => by
          rcases List.mem_cons.1 hx with h | h
          · exact hq2 h
          · exact hqv h
        have HC : Hid (∀ W, Kp (s.T :: blk v) wr W → (W.cell? ⟨s.P, 0, none⟩ = some (.pointer (some ⟨s.T, 0, none⟩)) ∧ W.cell? ⟨q, 0, none⟩ = some (.pointer (some ⟨b, off, none⟩)) ∧ W.cell? ⟨q, 1, none⟩ = some (.int .i64 (i : Int)))) := fun W kW =>
          ⟨(kW.cell hPl hPn).trans cp0, (kW.cell hql hqn).trans cq0, (kW.cell hql hqn).trans cq1⟩
        have HG : Hid (∀ W w3, Kp [] wr W → Tk 2 W w3 149 132 s.T v (gs.length + 1) (plC gs ++ pc ⟨b, off, none⟩ ((i : Int) + 1)) → ∃ v3, Nx w w3 s v3 ∧ Wk w0 w3 (s.at v3) ((⟨b, off, none⟩, kk, i + 1) :: gs) l k p) := fun W w3 kW ⟨v3, t1, t2, t3⟩ => by
          have n3 : Nx w w3 s v3 := hn.trans (v1 := v) ⟨(kW.mono (fun x hx => by simp at hx)).trans t2 (fun x hx => by
            rcases List.mem_cons.1 hx with rfl | h
            · exact Or.inl (by simp [Ws.at])
            · exact Or.inl (by simp [Ws.at, h])), fun x hx => by
            rcases t3 x hx with h | h
            · exact Or.inl h
            · have := kW.size; exact Or.inr (by omega)⟩
          have hM3 : s.M ∉ s.T :: blk v := fun hx => by
            rcases List.mem_cons.1 hx with h | h
            · exact hap.2.2.2.2.1 h.symm
            · exact (hB.apv _ h).2.2.1 rfl
          exact ⟨v3, n3, Wk.step HB.out n3 t1 ((hk.keep kW (by simp)).keep t2 hM3) ⟨hw.1, hil, hw.2.2.1, hw.2.2.2.1, hw.2.2.2.2⟩⟩
        have HK : Hid (∀ w3 v3, Wk w0 w3 (s.at v3) ((⟨b, off, none⟩, kk, i + 1) :: gs) l k p → ∃ bo1 m1 d1 b' off', w3.cell? ⟨b, off + 5, none⟩ = some (.slice bo1 m1 d1) ∧ m1 = m ∧ bo1 = some ⟨b', off', none⟩ ∧ Told6 w0 w3 (s.at v3) b' (off' + i * 6) l' k' ∧ Lies w0 s.R s.L l k ⟨b', off' + i * 6, none⟩ k') := fun w3 v3 h3 => by
          obtain ⟨b1, off1, bo1, m1, d1, b', off', ea, g1, g2, g3, g4, g5⟩ := h3.b.kid hw.1 hdr
          simp only [Addr.mk.injEq, and_true] at ea
          obtain ⟨rfl, rfl⟩ := ea
          have g2' : m1 = kk.len := g2
          exact ⟨bo1, m1, d1, b', off', g1, by omega, g3, g4, g5⟩
        have HT : Hid (toC fs = (gs.length, l', k') :: (k'.vis (gs.length + 1) ++ toC ((⟨b, off, none⟩, kk, i + 1) :: gs))) := by
          rw [← ht]
          show (kk.drop i).vis gs.length ++ toC gs = (gs.length, l', k') :: (k'.vis (gs.length + 1) ++ ((kk.drop (i + 1)).vis gs.length ++ toC gs))
          rw [hdr, vis_cons, List.cons_append, List.append_assoc]
        have HW6 : Hid ((∀ g, g ∈ ((⟨b, off, none⟩, kk, i + 1) :: gs : List Frw) → k'.cnt < g.2.1.cnt) ∧ ((⟨b, off, none⟩, kk, i + 1) :: gs : List Frw).length + k'.cnt ≤ (Fo.cons l k .nil).cnt) := by
          have h1 := cnt_drop hdr
          refine ⟨fun g hg => ?_, ?_⟩
          · rcases List.mem_cons.1 hg with rfl | hg
            · exact h1
            · have := hw.2.2.2.1 g hg; simp only at this; omega
          · have := hw.2.2.1; simp only at this; simp only [List.length_cons]; omega
        clear hn hp hw ht hk hB hq hi hPn hqn
        go_wp2_with fail
        go_quiet (fail)
        go_wp2_with (go_at_call 89; refine (HLN.out _ ((Kp.refl _ _).drewN nq)).mono ?_; rintro e w' ⟨rfl, rfl⟩)
        go_region_held3 (fun w' => w'.cell? ⟨s.P, 0, none⟩ = some (.pointer (some ⟨s.T, 0, none⟩)) ∧ w'.cell? ⟨q, 0, none⟩ = some (.pointer (some ⟨b, off, none⟩)) ∧ w'.cell? ⟨q, 1, none⟩ = some (.int .i64 (i : Int)))
          (first
            | exact HC.out _ K3.out
            | exact HC.out _ ((Kp.refl _ _).drewN nq).drew)
          (first | (go_at_call 90; refine (HPU.out _ ((Kp.refl _ _).drewN nq).drew).mono ?_; rintro e w3 ⟨rfl, T3⟩; have K3 : Hid (Kp (s.T :: blk v) wr w3) := (((Kp.refl (s.T :: blk v) wr).drewN nq).drew).trans (T3.choose_spec.2.1) (fun x hx => Or.inl hx)))
        obtain ⟨v3, n3, k3⟩ := HG.out _ _ ((Kp.refl _ _).drewN nq).drew T3
        obtain ⟨_, m1, d1, b', off', c5, rfl, rfl, t6, l6⟩ := HK.out _ _ k3
        have HEn : Hid (∀ W, Kp [] w3 W → Calls Tryz.prog 87 #[.pointer (some ⟨s.P, 0, none⟩), .pointer (some ⟨b', off' + i * 6, none⟩)] W fun e w' => e = .returned (.tuple #[]) ∧ NxPost w0 w s fs l k p (.returned (.tuple #[.pointer (some ⟨b', off' + i * 6, none⟩), .int .i64 (gs.length : Nat), .bool true])) w') := fun W kW => by
          have kW3 := k3.other kW (fun x hx => by simp at hx) (fun x hx => by simp)
          obtain ⟨p', tc, tn, tb⟩ := t6
          have tcW := tc.keep kW (by simp)
          refine (enter_any w0 W (s.at v3) _ l k p kW3 b' (off' + i * 6) _ _ _ k' tcW.cells.2.2.2.2.2 tn.klen l6 HW6.out.1 HW6.out.2).mono ?_
          rintro e w4 ⟨rfl, v4, k4, n4⟩
          have n34 : Nx w w4 s v4 := n3.trans (v1 := v3) ⟨(kW.mono (fun x hx => by simp at hx)).trans n4.1 (fun x hx => Or.inl hx), fun x hx => by
            rcases n4.2 x hx with h | h
            · exact Or.inl h
            · have := kW.size; exact Or.inr (by omega)⟩
          have hbn : b' ∉ s.T :: s.M :: blk v3 := fun hx => by
            rcases tb with h | h
            · have h1 : b' ∈ (s.at v3).own := by
                simp only [List.mem_cons] at hx
                rcases hx with rfl | rfl | hx
                · simp [Ws.own, Ws.at]
                · simp [Ws.own, Ws.at]
                · simp [Ws.own, Ws.at, hx]
              have := k3.b.new b' h1
              omega
            · have h : b' = s.L := h
              subst h
              simp only [List.mem_cons] at hx
              rcases hx with h | h | h
              · exact hap.2.2.2.2.2.2.1 h.symm
              · exact hap.2.2.2.2.2.2.2.2.1 h.symm
              · exact (k3.b.apv _ h).2.2.2.2 rfl
          refine ⟨rfl, Or.inr ⟨gs.length, l', k', _, b', off' + i * 6, HT.out, rfl, ⟨p', tcW.keep n4.1 hbn, tn, tb⟩, v4, _, k4, n34, ?_⟩⟩
          split
          · rename_i h0
            rw [Fo.len_zero.1 h0, vis_nil]; rfl
          · show (k'.drop 0).vis _ ++ toC _ = _
            rw [Fo.drop_zero]; rfl
        obtain ⟨dP, dq0, dq1⟩ := HC.out _ K3.out
        have i1 : (0 : Int) ≤ (i : Int) := by omega
        have i2 : (i : Int) < (m1 : Int) := by omega
        have i3 : i < m1 := by omega
        clear HPU HLN HC HG HK HW6 T3 n3 k3 t6 l6 cp0 cp1 cq0 cq1 hc5 HT
        go_wp2_with fail
        go_quiet (fail)
        go_wp2_with (go_at_call 87; refine (HEn.out _ ((Kp.refl _ _).drewN nq)).mono ?_; rintro e w4 ⟨rfl, F4⟩)
        go_ret3
        exact F4

end Go.Proofs.YtgjkfpmhgidpaaaGreat

/-
  A walk told by what is still to come; Count and Depth of the program.
-/
namespace Go.Proofs.YtgjkfpmhgidpaaaGreat
open Go.RowKit
set_option linter.unusedVariables false

/-- The walk is to come to S. -/
def Wl (w0 w : World) (s : Ws) (S : List Vt) (l : Lb) (k : Fo) (p : Pl) : Prop := ∃ fs, Wk w0 w s fs l k p ∧ toC fs = S

/-- What next told: a node, or the end. -/
def Come (w0 w : World) (s : Ws) : List Vt → Option Addr → Int → Bool → Prop
  | [], ao, d, y => ao = none ∧ d = 0 ∧ y = false
  | v :: _, ao, d, y => ∃ b off, ao = some ⟨b, off, none⟩ ∧ d = v.1 ∧ y = true ∧ Told6 w0 w s b off v.2.1 v.2.2

theorem Wl.kp {w0 w : World} {s : Ws} {S : List Vt} {l : Lb} {k : Fo} {p : Pl} (h : Wl w0 w s S l k p) : Kp [] w0 w := by
  obtain ⟨fs, h, _⟩ := h
  exact h.b.kp
theorem Wl.new {w0 w : World} {s : Ws} {S : List Vt} {l : Lb} {k : Fo} {p : Pl} (h : Wl w0 w s S l k p) : ∀ x, x ∈ s.own → w0.heap.size ≤ x := by
  obtain ⟨fs, h, _⟩ := h
  exact h.b.new
theorem Wl.lt {w0 w : World} {s : Ws} {S : List Vt} {l : Lb} {k : Fo} {p : Pl} (h : Wl w0 w s S l k p) : ∀ x, x ∈ s.own → x < w.heap.size := by
  obtain ⟨fs, h, _⟩ := h
  exact h.b.lt
theorem Wl.other {w0 w w' : World} {s : Ws} {S : List Vt} {l : Lb} {k : Fo} {p : Pl} (h : Wl w0 w s S l k p) {D : List Nat} (hk : Kp D w w') (h1 : ∀ x, x ∈ D → w0.heap.size ≤ x) (h2 : ∀ x, x ∈ s.own → x ∉ D) : Wl w0 w' s S l k p := by
  obtain ⟨fs, h, h3⟩ := h
  exact ⟨fs, h.other hk h1 h2, h3⟩
theorem Wl.kept {w0 w w' : World} {s : Ws} {S : List Vt} {l : Lb} {k : Fo} {p : Pl} (h : Wl w0 w s S l k p) (hk : Kp [] w w') : Wl w0 w' s S l k p := h.other hk (fun x hx => by simp at hx) (fun x hx => by simp)

/-- The walk's blocks that a step may turn. -/
theorem Nx.kp {w w' : World} {s : Ws} {v' : Value} (h : Nx w w' s v') : Kp s.own w w' := h.1.mono (fun x hx => Or.inl (by
  simp only [List.mem_cons] at hx
  rcases hx with rfl | rfl | hx
  · simp [Ws.own]
  · simp [Ws.own]
  · simp [Ws.own, hx]))
theorem Nx.own {w w' : World} {s : Ws} {v' : Value} (h : Nx w w' s v') : ∀ x, x ∈ (s.at v').own → x ∈ s.own ∨ w.heap.size ≤ x := fun x hx => by
  simp only [Ws.own, Ws.at, List.mem_cons] at hx ⊢
  rcases hx with h1 | h1 | h1 | h1 | h1 | h1
  · exact Or.inl (by simp [h1])
  · exact Or.inl (by simp [h1])
  · exact Or.inl (by simp [h1])
  · exact Or.inl (by simp [h1])
  · exact Or.inl (by simp [h1])
  · rcases h.2 x h1 with h2 | h2
    · exact Or.inl (by simp [h2])
    · exact Or.inr h2

theorem next_c (w0 w : World) (s : Ws) (S : List Vt) (l : Lb) (k : Fo) (p : Pl) (h : Wl w0 w s S l k p) :
    Calls Tryz.prog 52 #[.pointer (some ⟨s.P, 0, none⟩)] w fun e w' => ∃ ao d y v', e = .returned (.tuple #[.pointer ao, .int .i64 d, .bool y]) ∧ Wl w0 w' (s.at v') S.tail l k p ∧ Nx w w' s v' ∧ Come w0 w' (s.at v') S ao d y := by
  obtain ⟨fs, h, rfl⟩ := h
  refine (next_any w0 w s fs l k p h).mono ?_
  rintro e w' (⟨h1, rfl, v', h2, h3⟩ | ⟨d, l', k', S, b, off, h1, rfl, h2, v', fs', h3, h4, h5⟩)
  · rw [h1]
    exact ⟨_, _, _, v', rfl, ⟨[], h2, rfl⟩, h3, rfl, rfl, rfl⟩
  · rw [h1]
    exact ⟨_, _, _, v', rfl, ⟨fs', h3, h5⟩, h4, b, off, rfl, rfl, rfl, h2⟩

theorem begin_c (w0 w : World) (l : Lb) (k : Fo) (p : Pl) (k0 : Kp [] w0 w) (h : Nd Any w0 l k p) (hn : k.cnt ≤ 20000) :
    Calls Tryz.prog 51 #[wv l p] w fun e w' => ∃ s, e = .returned (.pointer (some ⟨s.P, 0, none⟩)) ∧ Wl w0 w' s ((Fo.cons l k .nil).vis 0) l k p ∧ Kp [] w w' ∧ ∀ x, x ∈ s.own → w.heap.size ≤ x := by
  refine (begin_any w0 w l k p k0 h hn).mono ?_
  rintro e w' ⟨s, fs, rfl, h1, h2, h3, h4⟩
  exact ⟨s, rfl, ⟨fs, h1, h2⟩, h3, h4⟩

/-- Is there one? -/
def yes (S : List Vt) : Bool := !S.isEmpty
theorem Come.yes {w0 w : World} {s : Ws} {S : List Vt} {ao : Option Addr} {d : Int} {y : Bool} (h : Come w0 w s S ao d y) : y = Go.Proofs.YtgjkfpmhgidpaaaGreat.yes S := by
  cases S with
  | nil => exact h.2.2
  | cons v S => obtain ⟨_, _, _, _, h, _⟩ := h; exact h

set_option maxHeartbeats 1000000 in
theorem count_any (w : World) (l : Lb) (k : Fo) (p : Pl) (h : Nd Any w l k p) (hn : k.cnt ≤ 20000) :
    Calls Tryz.prog 16 #[wv l p] w fun e w' => e = .returned (.int .i64 (countT l k : Nat)) ∧ Kp [] w w' := by
  have k1 : Kp [] w (w.alloc (.cells (six l p).toArray 38)) := (Kp.refl _ _).alloc _
  have HB := begin_c _ _ l k p (Kp.refl _ _) (h.kept k1) hn
  have KB : Hid (Kp [] w (w.alloc (.cells (six l p).toArray 38))) := k1
  have hlen : Hid (((Fo.cons l k .nil).vis 0).length = countT l k) := by rw [vis_len]; rfl
  have hct : countT l k ≤ 20001 := by unfold countT; omega
  generalize countT l k = N at hct hlen ⊢
  clear h k1 hn
  simp only [six, wv] at HB KB ⊢
  go_enter Tryz.func16, Tryz.ntmps16
  go_wp2_with (first
    | (go_at_call 51; refine HB.mono ?_; rintro e w1 ⟨s, rfl, L1, _, _⟩)
    | (go_at_call 52; refine (next_c _ _ _ _ _ _ _ L1).mono ?_; rintro e w2 ⟨ao, d, y, v1, rfl, L2, N2, C2⟩))
  have hy := C2.yes
  go_loopw [3, 7] (fun x3 x7 wr => ∃ (n : Nat) (S : List Vt) (v : Value), x3 = .int .i64 n ∧ x7 = .bool (yes S) ∧ n + S.length = N ∧ Wl (w.alloc (.cells (six l p).toArray 38)) wr (s.at v) S.tail l k p) (fun x3 x7 wr => 20002 - (intOf x3).toNat)
  case atStart => exact ⟨0, _, v1, rfl, by rw [hy], by rw [Nat.zero_add]; exact hlen.out, L2⟩
  case round =>
    clear L2 N2 C2 hy L1 HB hlen
    obtain ⟨n, S, v, rfl, rfl, hN, L⟩ := hrel
    have HN := next_c _ _ _ _ _ _ _ L
    have KF : Hid (Kp [] w wr) := KB.out.trans L.kp (fun x hx => Or.inl hx)
    clear L
    cases S with
    | nil =>
      simp only [yes, List.isEmpty_nil, Bool.not_true, List.length_nil, Nat.add_zero] at hN ⊢
      subst hN
      go_wp2
      go_ret
      exact ⟨rfl, KF.out⟩
    | cons u S =>
      simp only [yes, List.isEmpty_cons, Bool.not_false, List.length_cons, List.tail_cons] at hN HN ⊢
      have hn : n < 20002 := by omega
      go_wp2_with (go_at_call 52; refine HN.mono ?_; rintro e w3 ⟨ao3, d3, y3, v3, rfl, L3, N3, C3⟩)
      have hy3 := C3.yes
      go_roundw
      case rel => exact ⟨n + 1, S, v3, by go_num, by rw [hy3]; rfl, by omega, L3⟩
      case measure => simp [intOf]; omega

end Go.Proofs.YtgjkfpmhgidpaaaGreat
