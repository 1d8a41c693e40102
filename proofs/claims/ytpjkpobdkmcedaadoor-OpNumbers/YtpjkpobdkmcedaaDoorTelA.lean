/-
  OpTells: what a round of the walk holds.
-/
import Derived.Test.YtpjkpobdkmcedaaDoorRin
import Derived.Test.YtpjkpobdkmcedaaDoorKn
import Derived.Test.YtpjkpobdkmcedaaDoorKop
import Derived.Test.YtpjkpobdkmcedaaDoorRref
import Derived.Test.YtpjkpobdkmcedaaDoorRbz
import Derived.Test.YtpjkpobdkmcedaaDoorEncE
import Derived.Deep.CutRange
namespace Go.Proofs.YtpjkpobdkmcedaaDoor
open Go.RowKit Utf
set_option linter.unusedVariables false
set_option linter.unusedSimpArgs false

theorem made_64 {o : Ot} (h : in64 o) (t : Bool) (k : Int) : in64 (madeO o t k) := by
  cases t with
  | true =>
    obtain ⟨hr, _⟩ := ok_parts (tame_ok o k)
    obtain ⟨a1, a2, a3, a4, a5, a6⟩ := right_range hr
    unfold in64 i64
    omega
  | false => exact h

theorem dgt_itb {n : Int} (h : ¬ n < -4611686018427387904) : dgt n = itb n := by
  unfold dgt
  rw [if_neg h]

/-- Where no number is very low both tell the same. -/
theorem ln_same {o : Ot} (h1 : -4611686018427387904 < o.kd) (h2 : -4611686018427387904 < o.nd) (h3 : -4611686018427387904 < o.pa) (h4 : -4611686018427387904 < o.rf) (h5 : -4611686018427387904 < o.ty) (h6 : -4611686018427387904 < o.ns) : lnO dgt o = lnO itb o := by
  unfold lnO hdF
  rw [dgt_itb (by omega), dgt_itb (by omega), dgt_itb (by omega), dgt_itb (by omega), dgt_itb (by omega), dgt_itb (by omega)]

/-- append of one, and what it leaves. -/
theorem Mq.one2 {w w1 : World} {ao : Option Addr} {n c : Nat} {q : List Q} (h : Mq w w1 ao n c q) (p : Q) (hp : Ar w1 p) (hlen : n + 1 ≤ 1000000) :
    ∃ ao' n' c' w2, (∀ ty, (Builtin.append_ #[31, 31] ty #[.slice ao n c, .slice (some ⟨w1.heap.size, 0, none⟩) 1 1]).run Tryd.prog (w1.alloc (.cells (oc p.1 p.2) 24)) = .ok (.slice ao' n' c') w2) ∧ Mq w w2 ao' n' c' (q ++ [p]) ∧ Kp (blk (.slice ao n c)) w1 w2 := by
  have k1 : Kp [] w1 (w1.alloc (.cells (oc p.1 p.2) 24)) := (Kp.refl _ _).alloc _
  have hs := src_op (p := p) (heap_new w1 _)
  have hp' := hp.keep k1 (fun _ _ => by simp)
  obtain ⟨h1, h2, h3, h4⟩ := h.kept k1
  obtain ⟨v', w2, hrun, o2, k2, b2, a2, c2, rfl⟩ := appK Tryd.underlying31 infoOp rfl (by decide) _ _ _ _ h1 _ 1 (qs [p]) hs (fun _ => by omega) hlen
  refine ⟨_, _, _, w2, hrun, ⟨by rw [qs_append]; exact o2, h2.trans k2 (fun x hx => Or.inr (h3 x hx)), fun k hk => ?_, fun r hr => ?_⟩, (k1.mono (fun x hx => by simp at hx)).trans k2 (fun x hx => Or.inl hx)⟩
  · rcases b2 k hk with h4 | h4
    · exact h3 k h4
    · have := h2.size
      omega
  · have hx := (List.mem_append.1 hr).elim (h4 r) (fun e => by rw [List.mem_singleton.1 e]; exact hp')
    exact hx.keep k2 (hx.apart h1)

/-- Bytes lie in no block of operations, nor of attributes. -/
theorem OwnB.apart {w : World} {v u : Value} {n : Nat} {xs ys : List Value} (h : OwnB w v xs) (ho : OwnK 9 w 24 u n ys) : ∀ x, x ∈ blk v → x ∉ blk u := by
  intro x hx hu
  rcases h with ⟨rfl, _⟩ | ⟨g, cap, cur, rfl, hg, _⟩
  · simp [blk] at hx
  · obtain ⟨_, ho⟩ := ho
    rcases ho with ⟨rfl, _⟩ | ⟨g', o', cap', cur', rfl, hg', _⟩
    · simp [blk] at hu
    · simp [blk] at hx hu
      subst hx
      subst hu
      rw [hg] at hg'
      simp at hg'

theorem OwnB.apart2 {w : World} {v : Value} {p : Q} {xs : List Value} (h : OwnB w v xs) (ho : Ar w p) : ∀ x, x ∈ blk v → x ∉ blk (.slice p.2.1 p.2.2.1 p.2.2.2) := by
  intro x hx hu
  rcases h with ⟨rfl, _⟩ | ⟨g, cap, cur, rfl, hg, _⟩
  · simp [blk] at hx
  · obtain ⟨_, ho⟩ := ho
    rcases ho with ⟨e, _⟩ | ⟨g', o', cap', cur', e, hg', _⟩
    · rw [e] at hu
      simp [blk] at hu
    · rw [e] at hu
      simp [blk] at hx hu
      subst hx
      subst hu
      rw [hg] at hg'
      simp at hg'

/-- Under way: the operations so far, whether all are right, and their bytes as long as they are. -/
structure Tl (w W : World) (ao : Option Addr) (n c : Nat) (L : List Q) (va : Option Addr) (vn vc : Nat) (ok : Bool) : Prop where
  mq : Mq w W ao n c L
  small : ∀ q, q ∈ L → smallO q.1
  okis : ok = true ↔ ∀ q, q ∈ L → rightO q.1 = true
  mb : ∃ ys, Mb w W (.slice va vn vc) ys ∧ ys.length ≤ 409 * L.length ∧ (ok = true → ys = obs (os L))

theorem Tl.nil (w : World) : Tl w w none 0 0 [] none 0 0 true :=
  ⟨Mq.nil w, fun q hq => by simp at hq, ⟨fun _ q hq => by simp at hq, fun _ => rfl⟩, [], ⟨Or.inl ⟨rfl, rfl⟩, Kp.refl _ _, fun k hk => by simp [blk] at hk⟩, Nat.le_refl _, fun _ => rfl⟩

theorem Tl.kept {w W V : World} {ao : Option Addr} {n c : Nat} {L : List Q} {va : Option Addr} {vn vc : Nat} {ok : Bool} (h : Tl w W ao n c L va vn vc ok) (k : Kp [] W V) : Tl w V ao n c L va vn vc ok := by
  obtain ⟨ys, m, r⟩ := h.mb
  exact ⟨h.mq.kept k, h.small, h.okis, ys, m.kept k, r⟩

theorem Tl.kp {w W : World} {ao : Option Addr} {n c : Nat} {L : List Q} {va : Option Addr} {vn vc : Nat} {ok : Bool} (h : Tl w W ao n c L va vn vc ok) : Kp [] w W := h.mq.kp

theorem small_at {w : World} {q : Q} (h : smallO q.1) (ha : Ar w q) : At w q ∧ q.2.2.1 ≤ 100000 :=
  ⟨ha.rp, by have h1 := Rp.len ha.rp; have h2 := h.2.2.1; omega⟩

/-- All of them, as Encode wants them. -/
theorem Tl.given {w W : World} {ao : Option Addr} {n c : Nat} {L : List Q} {va : Option Addr} {vn vc : Nat} {ok : Bool} (h : Tl w W ao n c L va vn vc ok) (hl : L.length ≤ 1000) : Given W ao n c L :=
  ⟨h.mq.rq, fun q hq => small_at (h.small q hq) (h.mq.ar q hq), by have := h.mq.len; omega⟩

theorem small_ok {o : Ot} (h : smallO o) (hr : rightO o = true) : okO o = true := by
  unfold okO
  rw [hr, fitB_iff.2 (small_fit h)]
  rfl

theorem not_ok {o : Ot} (hr : rightO o = false) : okO o = false := by
  unfold okO
  rw [hr]
  rfl

theorem obs_small : ∀ (L : List Q), (∀ q, q ∈ L → smallO q.1) → (obs (os L)).length ≤ 409 * L.length
  | [], _ => Nat.le_refl _
  | q :: L, h => by
    have h1 := obs_small L (fun x hx => h x (by simp [hx]))
    have h2 := small_ob (h q (by simp))
    simp only [os, obs, List.length_append, List.length_cons]
    omega

/-- One more: the operations grow. -/
theorem Tl.more {w W : World} {ao : Option Addr} {n c : Nat} {L : List Q} {va : Option Addr} {vn vc : Nat} {ok : Bool} (h : Tl w W ao n c L va vn vc ok) (hl : L.length ≤ 1000) (p : Q) (hp : Ar W p) {g : Nat} (hg : g < W.heap.size) (hgn : g ∉ blk (.slice ao n c)) :
    ∃ ao' n' c' w2, (∀ ty, (Builtin.append_ #[31, 31] ty #[.slice ao n c, .slice (some ⟨W.heap.size, 0, none⟩) 1 1]).run Tryd.prog (W.alloc (.cells (oc p.1 p.2) 24)) = .ok (.slice ao' n' c') w2) ∧ Mq w w2 ao' n' c' (L ++ [p]) ∧ (∃ ys, Mb w w2 (.slice va vn vc) ys ∧ ys.length ≤ 409 * L.length ∧ (ok = true → ys = obs (os L))) ∧ w2.heap[g]? = W.heap[g]? := by
  obtain ⟨a', n', c', w2, hrun, M, k⟩ := h.mq.one2 p hp (by have := h.mq.len; omega)
  obtain ⟨ys, m, r⟩ := h.mb
  exact ⟨a', n', c', w2, hrun, M, ⟨ys, ⟨m.1.keep k (m.1.apart h.mq.1), M.kp, m.2.2⟩, r⟩, k.block g hg hgn⟩

theorem Tl.not_in {w W : World} {ao : Option Addr} {n c : Nat} {L : List Q} {va : Option Addr} {vn vc : Nat} {ok : Bool} (h : Tl w W ao n c L va vn vc ok) {g : Nat} (hg : W.heap.size ≤ g) : g ∉ blk (.slice ao n c) := fun hx => by
  have := OwnK.lt h.mq.1 g hx
  omega

/-- The bytes grow. -/
theorem more_b {w W W2 : World} {va : Option Addr} {vn vc : Nat} {ys zs : List Int} (m : Mb w W (.slice va vn vc) ys) {a' : Option Addr} {n' c' : Nat} (z : Mb W W2 (.slice a' n' c') zs) (hl : ys.length + zs.length ≤ 900000) {ao : Option Addr} {n c : Nat} {L : List Q} (M : Mq w W ao n c L) :
    ∃ ao2 n2 c2 w3, (∀ ty, (Builtin.append_ #[27, 27] ty #[.slice va vn vc, .slice a' n' c']).run Tryd.prog W2 = .ok (.slice ao2 n2 c2) w3) ∧ Mb w w3 (.slice ao2 n2 c2) (ys ++ zs) ∧ Mq w w3 ao n c L := by
  have m2 := m.kept z.2.1
  have M2 := M.kept z.2.1
  have hzl : n' = zs.length := by rw [z.1.rb.len, b8_len]
  have hsrc : Src Tryd.prog 1 27 (.slice a' n' c') n' (b8 zs) W2 := Rd.src Tryd.underlying27 ⟨a', c', by rw [b8_len, hzl], fun j hj => z.1.rb.at' j (by rw [b8_len] at hj; omega)⟩ (b8_one zs)
  obtain ⟨v', w3, hrun, o2, k2, b2, ao2, c2, rfl⟩ := app_b 27 W2 (.slice va vn vc) (b8 ys) m2.1 (.slice a' n' c') n' (b8 zs) hsrc (by rw [b8_len]; omega)
  refine ⟨ao2, _, c2, w3, hrun, ⟨by rw [b8_append]; exact o2, m2.2.1.trans k2 (fun x hx => Or.inr (m2.2.2 x hx)), fun k hk => ?_⟩, ⟨M2.1.keep k2 (fun x hx hy => m2.1.apart M2.1 x hy hx), M2.2.1.trans k2 (fun x hx => Or.inr (m2.2.2 x hx)), M2.2.2.1, fun p hp => (M2.2.2.2 p hp).keep k2 (fun x hx hy => m2.1.apart2 (M2.2.2.2 p hp) x hy hx)⟩⟩
  rcases b2 k hk with h1 | h1
  · exact m2.2.2 k h1
  · have := m2.2.1.size
    omega

/-- A round's end. -/
theorem Tl.next {w W : World} {ao : Option Addr} {n c : Nat} {L : List Q} {p : Q} {va : Option Addr} {vn vc : Nat} {ok : Bool} {ys : List Int} (M : Mq w W ao n c (L ++ [p])) (hs : ∀ q, q ∈ L → smallO q.1) (hp : smallO p.1) (hok : ok = true ↔ ∀ q, q ∈ L → rightO q.1 = true) (m : Mb w W (.slice va vn vc) ys) (hl : ys.length ≤ 409 * (L.length + 1)) (hy : (ok && rightO p.1) = true → ys = obs (os L) ++ ob p.1) : Tl w W ao n c (L ++ [p]) va vn vc (ok && rightO p.1) := by
  refine ⟨M, fun q hq => ?_, ?_, ys, m, by simpa using hl, fun h => ?_⟩
  · rcases List.mem_append.1 hq with h | h
    · exact hs q h
    · rw [List.mem_singleton.1 h]; exact hp
  · rw [Bool.and_eq_true, hok]
    constructor
    · intro ⟨h1, h2⟩ q hq
      rcases List.mem_append.1 hq with h | h
      · exact h1 q h
      · rw [List.mem_singleton.1 h]; exact h2
    · intro h
      exact ⟨fun q hq => h q (by simp [hq]), h p (by simp)⟩
  · rw [hy h, os_append, obs_append]
    simp [os, obs]

end Go.Proofs.YtpjkpobdkmcedaaDoor
