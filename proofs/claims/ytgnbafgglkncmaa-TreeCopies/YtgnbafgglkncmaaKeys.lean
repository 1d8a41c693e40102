/-
  A map from nodes' addresses to nothing: the addresses that it holds, in the order in which they came.
-/
import Derived.Test.YtgnbafgglkncmaaRows
import Derived.Test.YtgnbafgglkncmaaRow
import Derived.LaidEqlPtr
import Derived.Maps.OwnSet
namespace Go.Proofs.Ytgnbafgglkncmaa
open Go.RowKit

theorem info25 : (Try.prog.info? 25).map (·.size) = some 6 := by kernel_rfl

/-- An address in a block of cells. -/
def Inb (w : World) (a : Addr) : Prop := ∃ cur e, w.heap[a.block]? = some (.cells cur e (0, 0))

/-- Two nodes' addresses held against each other. -/
theorem eql_ptr (w : World) (a b : Addr) (ha : Inb w a) (hb : Inb w b) : (Op.equal 52 (.pointer (some a)) (.pointer (some b))).run Try.prog w = .ok (decide (a = b)) w := by
  obtain ⟨j, hj, hjs⟩ := Option.map_eq_some_iff.1 info25
  by_cases h : a = b
  · subst h
    rw [decide_eq_true rfl]
    have h : ∀ d : Nat, (Op.equalIn (d + 1) 52 (.pointer (some a)) (.pointer (some a))).run Try.prog w = .ok true w := fun d => by
      simp [Op.equalIn, run_underlying Try.underlying52, sizeOf, typeInfo, hj, run_sameAddr_same]
    exact h 9999
  · rw [decide_eq_false h]
    obtain ⟨ca, ta, ha⟩ := ha
    obtain ⟨cb, tb, hb⟩ := hb
    have h : ∀ d : Nat, (Op.equalIn (d + 1) 52 (.pointer (some a)) (.pointer (some b))).run Try.prog w = .ok false w := fun d => by
      simp [Op.equalIn, run_underlying Try.underlying52, sizeOf, typeInfo, hj, hjs, run_sameAddr_other w h ha hb]
    exact h 9999

theorem check_ptr (w : World) (em : Bool) (a : Addr) : (Instr.checkKey em 10000 52 (.pointer (some a))).run Try.prog w = .ok () w := by
  have h : ∀ d : Nat, (Instr.checkKey em (d + 1) 52 (.pointer (some a))).run Try.prog w = .ok () w := fun d => by
    simp [Instr.checkKey, run_underlying Try.underlying52]
  exact h 9999

/-- The keys of a map. -/
def ksOf (es : List MapEntry) : List Value := es.map (·.key)

theorem find_asking (w : World) (a : Addr) (ha : Inb w a) : ∀ (es : List MapEntry) (ad : List Addr) (i : Nat), ksOf es = ad.map (fun x => .pointer (some x)) → (∀ x, x ∈ ad → Inb w x) → a ∉ ad → (Instr.findAsking 52 (.pointer (some a)) es i).run Try.prog w = .ok none w
  | [], ad, i, _, _, _ => by simp [Instr.findAsking]
  | e :: es, [], i, h, _, _ => by simp [ksOf] at h
  | e :: es, x :: ad, i, h, hi, hn => by
    simp only [ksOf, List.map_cons, List.cons.injEq] at h
    have h1 := eql_ptr w a x ha (hi x (by simp))
    rw [decide_eq_false (fun e => hn (by simp [e]))] at h1
    have ih := find_asking w a ha es ad (i + 1) h.2 (fun y hy => hi y (by simp [hy])) (fun hy => hn (by simp [hy]))
    unfold Instr.findAsking
    simp [h.1, h1, ih]

theorem find_last (w : World) (a : Addr) (ha : Inb w a) (u : MapEntry) (hu : u.key = .pointer (some a)) : ∀ (es : List MapEntry) (ad : List Addr) (i : Nat), ksOf es = ad.map (fun x => .pointer (some x)) → (∀ x, x ∈ ad → Inb w x) → a ∉ ad → (Instr.findAsking 52 (.pointer (some a)) (es ++ [u]) i).run Try.prog w = .ok (some (i + es.length, u.val)) w
  | [], ad, i, _, _, _ => by
    have h1 := eql_ptr w a a ha ha
    rw [decide_eq_true rfl] at h1
    unfold Instr.findAsking
    simp [hu, h1]
  | e :: es, [], i, h, _, _ => by simp [ksOf] at h
  | e :: es, x :: ad, i, h, hi, hn => by
    simp only [ksOf, List.map_cons, List.cons.injEq] at h
    have h1 := eql_ptr w a x ha (hi x (by simp))
    rw [decide_eq_false (fun e => hn (by simp [e]))] at h1
    have ih := find_last w a ha u hu es ad (i + 1) h.2 (fun y hy => hi y (by simp [hy])) (fun hy => hn (by simp [hy]))
    rw [List.cons_append]
    unfold Instr.findAsking
    simp [h.1, h1, ih]
    omega

theorem find_now (a : Addr) (te : TypeId) : ∀ (es : List MapEntry), es ≠ [] → Instr.findNow (.pointer te) (.pointer (some a)) es 0 = none
  | [], h => absurd rfl h
  | e :: es, _ => by
    unfold Instr.findNow
    simp [Instr.sameNow]

/-- Block m is a map that holds these addresses. -/
def Ks (w : World) (m : Nat) (ad : List Addr) : Prop := ∃ es clock, w.heap[m]? = some (.map es clock) ∧ ksOf es.toList = ad.map (fun x => .pointer (some x))

theorem Ks.lt {w : World} {m : Nat} {ad : List Addr} (h : Ks w m ad) : m < w.heap.size := by
  obtain ⟨es, clock, h1, _⟩ := h
  exact (Array.getElem?_eq_some_iff.1 h1).1

theorem Ks.keep {S : List Nat} {w w' : World} {m : Nat} {ad : List Addr} (h : Ks w m ad) (k : Kp S w w') (hn : m ∉ S) : Ks w' m ad := by
  have hl := h.lt
  obtain ⟨es, clock, h1, h2⟩ := h
  exact ⟨es, clock, by rw [k.block m hl hn]; exact h1, h2⟩

theorem ks_new (w : World) : Ks (w.alloc (.map #[] 0)) w.heap.size [] := ⟨#[], 0, heap_new w _, rfl⟩

theorem find_none (w : World) (a : Addr) (ha : Inb w a) (es : List MapEntry) (ad : List Addr) (h : ksOf es = ad.map (fun x => .pointer (some x))) (hi : ∀ x, x ∈ ad → Inb w x) (hn : a ∉ ad) : (Instr.findKey 52 (.pointer (some a)) es).run Try.prog w = .ok none w := by
  have h1 := find_asking w a ha es ad 0 h hi hn
  unfold Instr.findKey
  cases es with
  | nil => simp [run_underlying Try.underlying52, Instr.findNow]
  | cons e es => simp [run_underlying Try.underlying52, find_now a 25 (e :: es) (by simp), h1]

/-- It is not there. -/
theorem Ks.look {w : World} {m : Nat} {ad : List Addr} (h : Ks w m ad) (a : Addr) (ha : Inb w a) (hi : ∀ x, x ∈ ad → Inb w x) (hn : a ∉ ad) : (Instr.lookup 80 (.map (some m)) (.pointer (some a)) true).run Try.prog w = .ok (.tuple #[.agg #[], .bool false]) w := by
  obtain ⟨es, clock, h1, h2⟩ := h
  simp [Instr.lookup, run_underlying Try.underlying80, MapKept.run_getObj_map h1, check_ptr, find_none w a ha es.toList ad h2 hi hn]

/-- It is put there. -/
theorem Ks.put {w : World} {m : Nat} {ad : List Addr} (h : Ks w m ad) (a : Addr) (ha : Inb w a) (hi : ∀ x, x ∈ ad → Inb w x) (hn : a ∉ ad) : ∃ w', (Instr.mapUpdate 80 (.map (some m)) (.pointer (some a)) (.agg #[])).run Try.prog w = .ok () w' ∧ Ks w' m (ad ++ [a]) ∧ Kp [m] w w' := by
  obtain ⟨es, clock, h1, h2⟩ := h
  refine ⟨ChangeMaps.setBlock w m (.map (es.push ⟨.pointer (some a), .agg #[], clock⟩) (clock + 1)), ?_, ⟨_, _, ChangeMaps.heap_setBlock_same h1 _, ?_⟩, ⟨rfl, rfl, rfl, by simp [ChangeMaps.setBlock], fun k _ hk => ChangeMaps.heap_setBlock_other h1 _ (by simpa using hk)⟩⟩
  · simp [Instr.mapUpdate, run_underlying Try.underlying80, MapKept.run_getObj_map h1, check_ptr, find_none w a ha es.toList ad h2 hi hn, MapKept.run_setObj_map _ h1, ChangeMaps.setBlock]
  · simp only [ksOf, Array.toList_push, List.map_append, List.map_cons, List.map_nil] at h2 ⊢
    rw [h2]

/-- The last one is taken away. -/
theorem Ks.del {w : World} {m : Nat} {ad : List Addr} (a : Addr) (h : Ks w m (ad ++ [a])) (ha : Inb w a) (hi : ∀ x, x ∈ ad → Inb w x) (hn : a ∉ ad) : ∃ w', (∀ ty, (Builtin.delete_ #[80, 52] ty #[.map (some m), .pointer (some a)]).run Try.prog w = .ok (.tuple #[]) w') ∧ Ks w' m ad ∧ Kp [m] w w' := by
  obtain ⟨es, clock, h1, h2⟩ := h
  obtain ⟨l, hl⟩ : ∃ l, l = es.toList := ⟨_, rfl⟩
  have hll : l.length = es.size := by rw [hl]; simp
  rw [← hl] at h2
  have hne : l ≠ [] := fun e => by rw [e] at h2; simp [ksOf] at h2
  obtain ⟨es0, u, he⟩ : ∃ es0 u, l = es0 ++ [u] := ⟨l.dropLast, l.getLast hne, (List.dropLast_concat_getLast hne).symm⟩
  rw [he] at h2
  simp only [ksOf, List.map_append, List.map_cons, List.map_nil] at h2
  obtain ⟨h3, h4⟩ := List.append_inj' h2 rfl
  simp only [List.cons.injEq, and_true] at h4
  have hf := find_last w a ha u h4 es0 ad 0 h3 hi hn
  have hk : (Instr.findKey 52 (.pointer (some a)) es.toList).run Try.prog w = .ok (some (es0.length, u.val)) w := by
    rw [← hl, he]
    unfold Instr.findKey
    simp only [Nat.zero_add] at hf
    simp [run_underlying Try.underlying52, find_now a 25 (es0 ++ [u]) (by simp), hf]
  refine ⟨ChangeMaps.setBlock w m (.map (es.eraseIdxIfInBounds es0.length) clock), fun ty => ?_, ⟨_, _, ChangeMaps.heap_setBlock_same h1 _, ?_⟩, ⟨rfl, rfl, rfl, by simp [ChangeMaps.setBlock], fun k _ hk => ChangeMaps.heap_setBlock_other h1 _ (by simpa using hk)⟩⟩
  · simp [Builtin.delete_, run_underlying Try.underlying80, MapKept.run_getObj_map h1, check_ptr, hk, MapKept.run_setObj_map _ h1, ChangeMaps.setBlock]
  · have : (es.eraseIdxIfInBounds es0.length).toList = es0 := by
      have e1 : es = (es0 ++ [u]).toArray := by rw [← he, hl]
      rw [e1]
      simp [Array.eraseIdxIfInBounds, List.eraseIdx_append_of_length_le]
    rw [this]
    exact h3

end Go.Proofs.Ytgnbafgglkncmaa
