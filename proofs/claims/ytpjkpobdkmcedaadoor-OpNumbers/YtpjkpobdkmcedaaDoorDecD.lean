/-
  The program's Decode.
-/
import Derived.Test.YtpjkpobdkmcedaaDoorDecC
import Derived.Test.YtpjkpobdkmcedaaDoorEncD
namespace Go.Proofs.YtpjkpobdkmcedaaDoor
open Go.RowKit Utf
set_option linter.unusedVariables false
set_option linter.unusedSimpArgs false

theorem ok_parts {o : Ot} (h : okO o = true) : rightO o = true ∧ fitO o := by
  unfold okO at h
  rw [Bool.and_eq_true] at h
  exact ⟨h.1, fitB_iff.1 h.2⟩

/-- What may be written is read again. -/
theorem rdO_ok {o : Ot} (h : okO o = true) (r : List Int) : rdO (ob o ++ r, false) = o ∧ s9 (ob o ++ r, false) = (r, false) := by
  obtain ⟨h1, h2⟩ := ok_parts h
  obtain ⟨a1, a2, a3, a4, a5, a6⟩ := right_range h1
  exact rdO_yes (by omega) (by omega) (by omega) (by omega) (by omega) (by omega) h2 r

theorem ob_ne (o : Ot) : ob o ≠ [] := fun e => by
  have := ob_len o
  rw [e] at this
  simp at this
  omega

theorem obs_pre : ∀ (l m : List Ot) (r : List Int), (∀ o, o ∈ l → okO o = true) → (∀ o, o ∈ m → okO o = true) → obs l ++ r = obs m → ∃ m', m = l ++ m' ∧ r = obs m'
  | [], m, r, _, _, h => ⟨m, rfl, h⟩
  | o :: l, [], r, _, _, h => by
    simp only [obs, List.append_assoc] at h
    exact absurd (List.append_eq_nil_iff.1 h).1 (ob_ne o)
  | o :: l, o2 :: m, r, h1, h2, h => by
    simp only [obs, List.append_assoc] at h
    obtain ⟨e1, e2⟩ := rdO_ok (h1 o (by simp)) (obs l ++ r)
    obtain ⟨e3, e4⟩ := rdO_ok (h2 o2 (by simp)) (obs m)
    rw [h, e3] at e1
    rw [h, e4] at e2
    subst e1
    obtain ⟨m', e5, e6⟩ := obs_pre l m r (fun x hx => h1 x (by simp [hx])) (fun x hx => h2 x (by simp [hx])) (congrArg Prod.fst e2).symm
    exact ⟨m', by rw [e5]; rfl, e6⟩

theorem obs_inj {l m : List Ot} (h1 : ∀ o, o ∈ l → okO o = true) (h2 : ∀ o, o ∈ m → okO o = true) (h : obs l = obs m) : l = m := by
  obtain ⟨m', e1, e2⟩ := obs_pre l m [] h1 h2 (by rw [List.append_nil]; exact h)
  cases m' with
  | nil => rw [e1, List.append_nil]
  | cons o m' =>
    simp only [obs] at e2
    exact absurd (List.append_eq_nil_iff.1 e2.symm).1 (ob_ne o)

/-- Where an operation is cut off, or not right, the bytes are nothing that is written. -/
theorem no_more {l : List Ot} {st : St} {xs : List Int} (h : xs = obs l ++ st.1) (hl : ∀ o, o ∈ l → okO o = true) (h2 : st.2 = false) (hne : st.1 ≠ []) (hbad : (s9 st).2 = true ∨ rightO (rdO st) = false) (m : List Ot) (hm : ∀ o, o ∈ m → okO o = true) : xs ≠ obs m := by
  intro e
  obtain ⟨m', e1, e2⟩ := obs_pre l m st.1 hl hm (by rw [← h]; exact e)
  cases m' with
  | nil => exact hne e2
  | cons o m' =>
    have ho := hm o (by rw [e1]; simp)
    obtain ⟨a, b⟩ := st
    simp only at h2 e2
    subst h2
    simp only [obs] at e2
    subst e2
    obtain ⟨e3, e4⟩ := rdO_ok ho (obs m')
    rcases hbad with hb | hb
    · rw [e4] at hb
      cases hb
    · rw [e3, (ok_parts ho).1] at hb
      cases hb

/-- Operations while bytes are read. -/
structure Dl (W0 wr : World) (b : Nat) (ao : Option Addr) (n c : Nat) (L : List Q) : Prop where
  ow : OwnK 9 wr 24 (.slice ao n c) n (qs L)
  nw : ∀ k, k ∈ blk (.slice ao n c) → W0.heap.size ≤ k
  ar : ∀ p, p ∈ L → Ar wr p ∧ ∀ k, k ∈ blk (.slice p.2.1 p.2.2.1 p.2.2.2) → W0.heap.size ≤ k
  kp : Kp [b] W0 wr

theorem Dl.len {W0 wr : World} {b : Nat} {ao : Option Addr} {n c : Nat} {L : List Q} (h : Dl W0 wr b ao n c L) : n = L.length := by
  have := h.ow.1
  rw [qs_len] at this
  omega

theorem Dl.call {W0 wr w1 : World} {b : Nat} {ao : Option Addr} {n c : Nat} {L : List Q} (h : Dl W0 wr b ao n c L) (hb : b < W0.heap.size) (k : Kp [b] wr w1) : Dl W0 w1 b ao n c L :=
  ⟨h.ow.keep k (fun x hx hs => by have := h.nw x hx; simp at hs; omega), h.nw, fun p hp => ⟨(h.ar p hp).1.keep k (fun x hx hs => by have := (h.ar p hp).2 x hx; simp at hs; omega), (h.ar p hp).2⟩, kp_one h.kp k⟩

theorem Dl.one {W0 w1 : World} {b : Nat} {ao : Option Addr} {n c : Nat} {L : List Q} (h : Dl W0 w1 b ao n c L) (hb : b < W0.heap.size) (p : Q) (hp : Ar w1 p) (hpn : ∀ k, k ∈ blk (.slice p.2.1 p.2.2.1 p.2.2.2) → W0.heap.size ≤ k) (hlen : n + 1 ≤ 1000000) :
    ∃ ao' n' c' w2, (∀ ty, (Builtin.append_ #[31, 31] ty #[.slice ao n c, .slice (some ⟨w1.heap.size, 0, none⟩) 1 1]).run Tryd.prog (w1.alloc (.cells (oc p.1 p.2) 24)) = .ok (.slice ao' n' c') w2) ∧ Dl W0 w2 b ao' n' c' (L ++ [p]) ∧ ∀ x, x < W0.heap.size → w2.heap[x]? = w1.heap[x]? := by
  have k1 : Kp [b] w1 (w1.alloc (.cells (oc p.1 p.2) 24)) := (Kp.refl _ _).alloc _
  have hs := src_op (p := p) (heap_new w1 _)
  have hp' := hp.keep ((Kp.refl [] w1).alloc (.cells (oc p.1 p.2) 24)) (fun _ _ => by simp)
  have h' := h.call hb k1
  have hsz := h.kp.size
  obtain ⟨v', w2, hrun, o2, k2, b2, a2, c2, rfl⟩ := appK Tryd.underlying31 infoOp rfl (by decide) _ _ _ _ h'.ow _ 1 (qs [p]) hs (fun _ => by omega) hlen
  refine ⟨_, _, _, w2, hrun, ⟨by rw [qs_append]; exact o2, fun k hk => ?_, fun r hr => ?_, h'.kp.trans k2 (fun x hx => Or.inr (h'.nw x hx))⟩, fun x hx => ?_⟩
  · rcases b2 k hk with h4 | h4
    · exact h.nw k h4
    · have : (w1.alloc (.cells (oc p.1 p.2) 24)).heap.size = w1.heap.size + 1 := by simp
      omega
  · rcases List.mem_append.1 hr with hx | hx
    · exact ⟨(h'.ar r hx).1.keep k2 ((h'.ar r hx).1.apart h'.ow), (h'.ar r hx).2⟩
    · obtain rfl := List.mem_singleton.1 hx
      exact ⟨hp'.keep k2 (hp'.apart h'.ow), hpn⟩
  · rw [k2.block x (by simp; omega) (fun hz => by have := h'.nw x hz; omega), Below.heap_alloc _ _ _ (by omega)]

theorem Dl.mq {w wr : World} {c0 : Array Value} {e0 : TypeId} {ao : Option Addr} {n c : Nat} {L : List Q} (h : Dl (w.alloc (.cells c0 e0)) wr w.heap.size ao n c L) : Mq w wr ao n c L := by
  have hs : (w.alloc (.cells c0 e0)).heap.size = w.heap.size + 1 := by simp
  exact ⟨h.ow, ((Kp.refl [] w).alloc _).trans h.kp (fun x hx => Or.inr (by simp at hx; omega)), fun k hk => by have := h.nw k hk; omega, fun p hp => (h.ar p hp).1⟩

end Go.Proofs.YtpjkpobdkmcedaaDoor
