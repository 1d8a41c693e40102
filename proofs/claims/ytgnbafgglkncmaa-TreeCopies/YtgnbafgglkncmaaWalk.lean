/-
  A walk through a tree: what its blocks hold, and what is still to come.
-/
import Derived.Test.YtgnbafgglkncmaaVisits
import Derived.Test.YtgnbafgglkncmaaWoods
import Derived.Test.YtgnbafgglkncmaaPlacesB
import Derived.Test.YtgnbafgglkncmaaKeys
namespace Go.Proofs.Ytgnbafgglkncmaa
open Go.RowKit
set_option linter.unusedVariables false

/-- A place on the way: the node's address, its kids, which of them comes next. -/
abbrev Fr := Addr × Fo × Nat

/-- The cells of the places, the last one on top. -/
def plC : List Fr → List Value
  | [] => []
  | f :: r => plC r ++ pc f.1 f.2.2
/-- The addresses of the places, the last one on top. -/
def adC : List Fr → List Addr
  | [] => []
  | f :: r => adC r ++ [f.1]
/-- What is still to come. -/
def toC : List Fr → List Vt
  | [] => []
  | f :: r => (f.2.1.drop f.2.2).vis r.length ++ toC r

theorem mem_adC {x : Addr} : ∀ {fs : List Fr}, x ∈ adC fs → ∃ f, f ∈ fs ∧ f.1 = x
  | [], h => by simp [adC] at h
  | f :: r, h => by
    rw [adC, List.mem_append] at h
    rcases h with h | h
    · obtain ⟨g, h1, h2⟩ := mem_adC h
      exact ⟨g, by simp [h1], h2⟩
    · exact ⟨f, by simp, (List.mem_singleton.1 h).symm⟩

/-- At this address lies a node with these kids. -/
def At6 (w : World) (a : Addr) (k : Fo) : Prop := ∃ b off cur e bo m d, a = ⟨b, off, none⟩ ∧ w.heap[b]? = some (.cells cur e (0, 0)) ∧ cur[off + 5]? = some (.slice bo m d) ∧ Rt Any w bo m d k

theorem At6.det {w : World} {a : Addr} {k k' : Fo} (h : At6 w a k) (h' : At6 w a k') : k = k' := by
  obtain ⟨b, off, cur, e, bo, m, d, h1, h2, h3, h4⟩ := h
  obtain ⟨b', off', cur', e', bo', m', d', h1', h2', h3', h4'⟩ := h'
  rw [h1] at h1'
  simp only [Addr.mk.injEq] at h1'
  obtain ⟨rfl, rfl, _⟩ := h1'
  rw [h2] at h2'
  simp only [Option.some.injEq, Obj.cells.injEq] at h2'
  obtain ⟨rfl, _⟩ := h2'
  rw [h3] at h3'
  simp only [Option.some.injEq, Value.slice.injEq] at h3'
  obtain ⟨rfl, rfl, rfl⟩ := h3'
  exact h4.det h4'

theorem At6.kept {w w' : World} {a : Addr} {k : Fo} (h : At6 w a k) (kp : Kp [] w w') : At6 w' a k := by
  obtain ⟨b, off, cur, e, bo, m, d, h1, h2, h3, h4⟩ := h
  exact ⟨b, off, cur, e, bo, m, d, h1, by rw [kp.block b (Array.getElem?_eq_some_iff.1 h2).1 (by simp)]; exact h2, h3, h4.kept kp⟩

theorem At6.inb {w : World} {a : Addr} {k : Fo} (h : At6 w a k) : Inb w a := by
  obtain ⟨b, off, cur, e, bo, m, d, rfl, h2, _⟩ := h
  exact ⟨cur, e, h2⟩

theorem Cl.at6 {w : World} {b off : Nat} {l : Lb} {p : Pl} {k : Fo} (h : Cl w b off l p) (hk : Rt Any w p.2.1 p.2.2.1 p.2.2.2 k) : At6 w ⟨b, off, none⟩ k := by
  obtain ⟨cur, e, h1, h2⟩ := h
  exact ⟨b, off, cur, e, _, _, _, rfl, h1, h2 5 (by omega), hk⟩

/-- A node of w0, or the one above the top (in block r), or the top one (in block L). -/
def Lies (w0 : World) (r L : Nat) (l : Lb) (k : Fo) (a : Addr) (f : Fo) : Prop := At6 w0 a f ∨ (a = ⟨r, 0, none⟩ ∧ f = .cons l k .nil) ∨ (a = ⟨L, 0, none⟩ ∧ f = k)

/-- The places of the way; each has fewer below it than those ahead of it. -/
def Way6 (w0 : World) (r L : Nat) (l : Lb) (k : Fo) : List Fr → Prop
  | [] => True
  | f :: fs => Lies w0 r L l k f.1 f.2.1 ∧ f.2.2 ≤ f.2.1.len ∧ fs.length + f.2.1.cnt ≤ (Fo.cons l k .nil).cnt ∧ (∀ g, g ∈ fs → f.2.1.cnt < g.2.1.cnt) ∧ Way6 w0 r L l k fs

theorem Way6.mem {w0 : World} {r L : Nat} {l : Lb} {k : Fo} : ∀ {fs : List Fr}, Way6 w0 r L l k fs → ∀ g, g ∈ fs → Lies w0 r L l k g.1 g.2.1
  | [], _, g, hg => by simp at hg
  | f :: fs, h, g, hg => by
    rcases List.mem_cons.1 hg with rfl | hg
    · exact h.1
    · exact Way6.mem h.2.2.2.2 g hg

/-- The walk's own blocks: the walk's, the pile's, the map's, the places' (v), the node's above the top one and its list's. -/
structure Ws where
  P : Nat
  T : Nat
  M : Nat
  R : Nat
  L : Nat
  v : Value

def Ws.own (s : Ws) : List Nat := s.P :: s.T :: s.M :: s.R :: s.L :: blk s.v

/-- The walk in block P, begun at w0: what it stands on. -/
structure Wb (w0 w : World) (s : Ws) (l : Lb) (k : Fo) (p : Pl) : Prop where
  kp : Kp [] w0 w
  new : ∀ x, x ∈ s.own → w0.heap.size ≤ x
  lt : ∀ x, x ∈ s.own → x < w.heap.size
  walk : w.heap[s.P]? = some (.cells #[.pointer (some ⟨s.T, 0, none⟩), .map (some s.M), .bool false] 82 (0, 0))
  root : w.heap[s.R]? = some (.cells #[.int .i64 0, .int .i64 0, .string ⟨#[]⟩, .slice none 0 0, .string ⟨#[]⟩, .slice (some ⟨s.L, 0, none⟩) 1 1] 25 (0, 0))
  top : w.heap[s.L]? = some (.cells (six l p).toArray 25 (0, 0))
  node : Nd Any w0 l k p
  apart : s.P ≠ s.T ∧ s.P ≠ s.M ∧ s.P ≠ s.R ∧ s.P ≠ s.L ∧ s.T ≠ s.M ∧ s.T ≠ s.R ∧ s.T ≠ s.L ∧ s.M ≠ s.R ∧ s.M ≠ s.L ∧ s.R ≠ s.L
  apv : ∀ x, x ∈ blk s.v → x ≠ s.P ∧ x ≠ s.T ∧ x ≠ s.M ∧ x ≠ s.R ∧ x ≠ s.L
  few : k.cnt ≤ 20000

/-- .. and what its pile and its map hold: what is to come. -/
structure Wk (w0 w : World) (s : Ws) (fs : List Fr) (l : Lb) (k : Fo) (p : Pl) : Prop where
  b : Wb w0 w s l k p
  pile : Pk 2 w 100 88 s.T s.v fs.length (plC fs)
  keys : Ks w s.M (adC fs)
  way : Way6 w0 s.R s.L l k fs

/-- What others do, elsewhere, does not matter. -/
theorem Wb.other {w0 w w' : World} {s : Ws} {l : Lb} {k : Fo} {p : Pl} (h : Wb w0 w s l k p) {D : List Nat} (hk : Kp D w w') (h1 : ∀ x, x ∈ D → w0.heap.size ≤ x) (h2 : ∀ x, x ∈ s.own → x ∉ D) : Wb w0 w' s l k p := by
  have key : ∀ x, x ∈ s.own → w'.heap[x]? = w.heap[x]? := fun x hx => hk.block x (h.lt x hx) (h2 x hx)
  exact ⟨h.kp.trans hk (fun x hx => Or.inr (h1 x hx)), h.new, fun x hx => Nat.lt_of_lt_of_le (h.lt x hx) hk.size, (key _ (by simp [Ws.own])).trans h.walk,
    (key _ (by simp [Ws.own])).trans h.root, (key _ (by simp [Ws.own])).trans h.top, h.node, h.apart, h.apv, h.few⟩

theorem Wk.other {w0 w w' : World} {s : Ws} {fs : List Fr} {l : Lb} {k : Fo} {p : Pl} (h : Wk w0 w s fs l k p) {D : List Nat} (hk : Kp D w w') (h1 : ∀ x, x ∈ D → w0.heap.size ≤ x) (h2 : ∀ x, x ∈ s.own → x ∉ D) : Wk w0 w' s fs l k p :=
  ⟨h.b.other hk h1 h2, h.pile.keep hk (h2 _ (by simp [Ws.own])) (fun x hx => h2 x (by simp [Ws.own, hx])), h.keys.keep hk (h2 _ (by simp [Ws.own])), h.way⟩

/-- The node above the top one. -/
theorem Wb.at_root {w0 w : World} {s : Ws} {l : Lb} {k : Fo} {p : Pl} (h : Wb w0 w s l k p) : At6 w ⟨s.R, 0, none⟩ (.cons l k .nil) :=
  ⟨s.R, 0, _, _, _, _, _, rfl, h.root, rfl, six l p ++ [], ⟨rfl, Nat.le_refl _, fun _ => ⟨s.L, 0, _, _, trivial, rfl, h.top, fun j hj => by
    rw [Nat.zero_add, List.append_nil]
    simp⟩⟩, Lf.cons (h.node.kept h.kp) (Lf.nil _ _)⟩

theorem Wb.cl_top {w0 w : World} {s : Ws} {l : Lb} {k : Fo} {p : Pl} (h : Wb w0 w s l k p) : Cl w s.L 0 l p := ⟨_, _, h.top, fun j hj => by simp⟩

theorem Wb.at_way {w0 w : World} {s : Ws} {l : Lb} {k : Fo} {p : Pl} (h : Wb w0 w s l k p) {a : Addr} {f : Fo} (hg : Lies w0 s.R s.L l k a f) : At6 w a f := by
  rcases hg with hg | ⟨h1, h2⟩ | ⟨h1, h2⟩
  · exact hg.kept h.kp
  · rw [h1, h2]; exact h.at_root
  · rw [h1, h2]; exact h.cl_top.at6 (h.node.kept h.kp).kids

theorem Wb.inb {w0 w : World} {s : Ws} {l : Lb} {k : Fo} {p : Pl} (h : Wb w0 w s l k p) {fs : List Fr} (hw : Way6 w0 s.R s.L l k fs) : ∀ x, x ∈ adC fs → Inb w x := fun x hx => by
  obtain ⟨f, h1, rfl⟩ := mem_adC hx
  exact (h.at_way (hw.mem f h1)).inb

/-- A node with fewer below it than all of the way is not on it. -/
theorem Wb.fresh {w0 w : World} {s : Ws} {l : Lb} {k : Fo} {p : Pl} (h : Wb w0 w s l k p) {fs : List Fr} (hw : Way6 w0 s.R s.L l k fs) {a : Addr} {f : Fo} (ha : At6 w a f) (hf : ∀ g, g ∈ fs → f.cnt < g.2.1.cnt) : a ∉ adC fs := fun hx => by
  obtain ⟨g, h1, rfl⟩ := mem_adC hx
  have e := ha.det (h.at_way (hw.mem g h1))
  have := hf g h1
  rw [e] at this
  omega

end Go.Proofs.Ytgnbafgglkncmaa
