/-
  Joined: FosL.
-/
import Derived.Test.YtpkppobkagdhkaaJ48
import Derived.Test.YtpkppobkagdhkaaJ3
import Derived.Test.YtpkppobkagdhkaaJ12

/-
  ReplayFosters: its operations laid, appended, done.
-/
namespace Go.Proofs.Ytpkppobkagdhkaa
open Go.RowKit Go.Maps Utf
set_option linter.unusedVariables false
set_option linter.unusedSimpArgs false

/-- A literal is a list of its own. -/
theorem Mq.lit (w : World) (l : List Ot) (h : ∀ o, o ∈ l → o.al = []) (hl : l.length ≤ 1000) : Mq w (w.alloc (.cells (qs (l.map oq)).toArray 25)) (some ⟨w.heap.size, 0, none⟩) l.length l.length (l.map oq) := by
  have k0 : Kp [] w (w.alloc (.cells (qs (l.map oq)).toArray 25)) := (Kp.refl _ _).alloc _
  refine ⟨⟨by rw [qs_len, List.length_map], Or.inr ⟨w.heap.size, 0, l.length, (qs (l.map oq)).toArray, rfl, heap_new w _, Nat.le_refl _, by unfold maxLen; omega, by simp [qs_len], fun j hj => by simp⟩⟩, k0, fun x hx => by simp [blk] at hx; omega, fun p hp => ?_⟩
  obtain ⟨y, hy, rfl⟩ := List.mem_map.1 hp
  exact ar_nil _ _ (h y hy)

/-- append of a literal. -/
theorem Mq.lits {w w0 : World} {ao : Option Addr} {n c : Nat} {q : List Ot} (h : Mq w w0 ao n c (q.map oq)) (r : List Ot) (hm : 0 < r.length) (hr : ∀ o, o ∈ r → o.al = []) (hlen : n + r.length ≤ 1000000) :
    ∃ g o c' w2, (∀ ty, (Builtin.append_ #[26, 26] ty #[.slice ao n c, .slice (some ⟨w0.heap.size, 0, none⟩) r.length r.length]).run Try.prog (w0.alloc (.cells (qs (r.map oq)).toArray 25)) = .ok (.slice (some ⟨g, o, none⟩) (n + r.length) c') w2) ∧ Mq w w2 (some ⟨g, o, none⟩) (n + r.length) c' ((q ++ r).map oq) := by
  have k0 : Kp [] w0 (w0.alloc (.cells (qs (r.map oq)).toArray 25)) := (Kp.refl _ _).alloc _
  have hz := rq_lit w0 (r.map oq)
  rw [List.length_map] at hz
  have hs : Src Try.prog 9 26 (.slice (some ⟨w0.heap.size, 0, none⟩) r.length r.length) r.length (qs (r.map oq)) (w0.alloc (.cells (qs (r.map oq)).toArray 25)) := by
    refine Src.ofSlice _ Try.underlying26 ⟨w0.heap.size, 0, none⟩ r.length r.length (qs (r.map oq)) (by rw [qs_len, List.length_map]) (fun j u hj => ?_) (qs_one _)
    have hjl := (List.getElem?_eq_some_iff.1 hj).1
    rw [qs_len] at hjl
    obtain ⟨b, o, e, h2⟩ := hz.at' j (by have := hz.len; omega)
    simp only [Option.some.injEq, Addr.mk.injEq] at e
    obtain ⟨rfl, rfl, _⟩ := e
    rw [Addr.add_lit, h2]
    exact hj
  obtain ⟨h1, h2, h3, h4⟩ := h.kept k0
  obtain ⟨v', w2, hrun, o2, k2, b2, a2, c2, rfl⟩ := appK Try.underlying26 infoOp rfl (by decide) _ _ _ _ h1 _ r.length (qs (r.map oq)) hs (fun _ => hm) hlen
  obtain ⟨g, o, e⟩ : ∃ g o, a2 = ⟨g, o, none⟩ := by
    obtain ⟨_, hh⟩ := o2
    rcases hh with ⟨e, _⟩ | ⟨g, o, cap, cur, e, _⟩
    · cases e
    · simp only [Value.slice.injEq, Option.some.injEq] at e
      exact ⟨g, o, e.1⟩
  subst e
  refine ⟨g, o, c2, w2, hrun, by rw [List.map_append, qs_append]; exact o2, h2.trans k2 (fun x hx => Or.inr (h3 x hx)), fun x hx => ?_, fun p hp => ?_⟩
  · rcases b2 x hx with e | e
    · exact h3 x e
    · have := h2.size
      omega
  · rw [List.map_append] at hp
    have hx := (List.mem_append.1 hp).elim (h4 p) (fun e => by
      obtain ⟨y, hy, rfl⟩ := List.mem_map.1 e
      exact ar_nil _ _ (hr y hy))
    exact hx.keep k2 (hx.apart h1)

/-- The operations done. -/
theorem fos_do {w V : World} {ao : Option Addr} {n c : Nat} {l : List UInt8} {h t : Bool} (hl : l.length ≤ 9) (M : Mq w V ao n c ((fA ++ fH h ++ fT ⟨⟨119 :: l⟩⟩ t).map oq)) :
    Calls Try.prog 5 #[.slice ao n c] V fun e w' => ∃ a, e = .returned (.tuple #[.pointer (some ⟨a, 0, none⟩), .int .i64 (n : Int), .int .i64 0]) ∧ Kp [] w w' ∧
      ∀ U, Kp [] w' U → Calls Try.prog 6 #[.pointer (some ⟨a, 0, none⟩), .int .i64 0] U fun e W => ∃ (lb : Lb) (p : Pl), e = .returned (.tuple #[.agg #[.int .i64 lb.kind, .int .i64 lb.ns, .string lb.name, .slice p.1.1 p.1.2.1 p.1.2.2, .string lb.text, .slice p.2.1 p.2.2.1 p.2.2.2], .int .i64 0]) ∧ Kp [] U W ∧ Nd Any W lb (fW l h t) p := by
  have hn := M.len
  rw [List.length_map] at hn
  have ry : Ry V ao n c ((fA ++ fH h ++ fT ⟨⟨119 :: l⟩⟩ t).map oq) := ⟨M.rq, fun p hp => Rk.of_own (M.ar p hp) rfl (fun _ _ => trivial), fun p hp => by
    obtain ⟨y, hy, rfl⟩ := List.mem_map.1 hp
    exact (fos_tiny l hl h t y hy).1⟩
  have hb : n ≤ 1300 := by
    rw [hn]
    cases h <;> cases t <;> simp [fA, fH, fT]
  refine (replay_any V ao n c _ ry hb).mono ?_
  rintro e w' ⟨ptr, j, ec, rfl, ⟨h1, h2, h3⟩, k1⟩
  rw [os_oq] at h1 h3
  obtain ⟨f1, f2⟩ := fos_any l h t
  rw [f1] at h1
  obtain ⟨e1, rfl⟩ : (fA ++ fH h ++ fT ⟨⟨119 :: l⟩⟩ t).length = j.toNat ∧ 0 = ec := by simpa using h1
  rw [← hn] at e1
  obtain rfl : j = (n : Int) := by omega
  rcases h3 with ⟨_, a, tag, rfl, P⟩ | ⟨h3, _⟩
  · refine ⟨a, rfl, M.kp.trans k1 (fun x hx => Or.inl hx), fun U kU => ((P.kept kU).pure 0 P.ful.toOk.pos).mono ?_⟩
    rintro e W ⟨p, rfl, k2, n2⟩
    rw [f2] at n2
    exact ⟨_, p, rfl, k2, n2.any⟩
  · exact absurd rfl h3

/-- A cell that is read is kept. -/
theorem Kp.read {w w' : World} (k : Kp [] w w') {a : Addr} {v : Value} (h : w.cell? a = some v) : w'.cell? a = some v := by
  have hl : a.block < w.heap.size := Nat.lt_of_not_le fun hn => by
    unfold World.cell? at h
    rw [Array.getElem?_eq_none hn] at h
    cases h
  rw [k.cell hl (by simp)]
  exact h

/-- .. and read, where the table has a parent. -/
theorem fos_do1 {w V : World} {ao : Option Addr} {n c : Nat} {l : List UInt8} {t : Bool} (hl : l.length ≤ 9) (M : Mq w V ao n c ((fA ++ fH true ++ fT ⟨⟨119 :: l⟩⟩ t).map oq)) :
    Calls Try.prog 5 #[.slice ao n c] V fun e w' => ∃ a, e = .returned (.tuple #[.pointer (some ⟨a, 0, none⟩), .int .i64 (n : Int), .int .i64 0]) ∧ Kp [] w w' ∧
      Calls Try.prog 6 #[.pointer (some ⟨a, 0, none⟩), .int .i64 0] w' fun e W => ∃ (k0 k1 : Int) (k2 k3 : ByteArray) (b1 : Option Addr) (b2 b3 g o c g1 o1 c1 : Nat) (ak : Option Addr) (ck : Nat), e = .returned (.tuple #[.agg #[.int .i64 k0, .int .i64 k1, .string k2, .slice b1 b2 b3, .string k3, .slice (some ⟨g, o, none⟩) 1 c], .int .i64 0]) ∧ Kp [] w' W ∧
        ∀ U, Kp [] W U → U.cell? ⟨g, o + 5, none⟩ = some (.slice (some ⟨g1, o1, none⟩) 3 c1) ∧ U.cell? ⟨g1, o1 + 2, none⟩ = some (.string ⟨#[112]⟩) ∧ U.cell? ⟨g1, o1 + 5, none⟩ = some (.slice ak 0 ck) ∧ U.cell? ⟨g1, o1 + 10, none⟩ = some (.string ⟨⟨119 :: l⟩⟩) ∧ U.cell? ⟨g1, o1 + 14, none⟩ = some (.string ⟨#[116, 97, 98, 108, 101]⟩) := by
  refine (fos_do hl M).mono ?_
  rintro e w' ⟨a, rfl, k, H⟩
  refine ⟨a, rfl, k, (H _ (Kp.refl _ _)).mono ?_⟩
  rintro e W ⟨lb, ⟨⟨b1, b2, b3⟩, q⟩, rfl, k2, nd⟩
  obtain ⟨g, o, c, g1, o1, c1, ak, ck, e2, y1, y2, y3, y4, y5⟩ := fos_read1 nd
  simp only at e2
  subst e2
  refine ⟨_, _, _, _, b1, b2, b3, g, o, c, g1, o1, c1, ak, ck, rfl, k2, fun U kU => ⟨?_, ?_, ?_, ?_, ?_⟩⟩
  · exact kU.read y1
  · exact kU.read y2
  · exact kU.read y3
  · exact kU.read y4
  · exact kU.read y5

/-- .. where it has none. -/
theorem fos_do2 {w V : World} {ao : Option Addr} {n c : Nat} {l : List UInt8} {t : Bool} (hl : l.length ≤ 9) (M : Mq w V ao n c ((fA ++ fH false ++ fT ⟨⟨119 :: l⟩⟩ t).map oq)) :
    Calls Try.prog 5 #[.slice ao n c] V fun e w' => ∃ a, e = .returned (.tuple #[.pointer (some ⟨a, 0, none⟩), .int .i64 (n : Int), .int .i64 0]) ∧ Kp [] w w' ∧
      Calls Try.prog 6 #[.pointer (some ⟨a, 0, none⟩), .int .i64 0] w' fun e W => ∃ (k0 k1 : Int) (k2 k3 : ByteArray) (b1 : Option Addr) (b2 b3 g o c g1 o1 c1 g2 o2 c2 : Nat), e = .returned (.tuple #[.agg #[.int .i64 k0, .int .i64 k1, .string k2, .slice b1 b2 b3, .string k3, .slice (some ⟨g, o, none⟩) 1 c], .int .i64 0]) ∧ Kp [] w' W ∧
        ∀ U, Kp [] W U → U.cell? ⟨g, o + 5, none⟩ = some (.slice (some ⟨g1, o1, none⟩) 1 c1) ∧ U.cell? ⟨g1, o1 + 5, none⟩ = some (.slice (some ⟨g2, o2, none⟩) 1 c2) ∧ U.cell? ⟨g2, o2 + 4, none⟩ = some (.string ⟨⟨119 :: l⟩⟩) := by
  refine (fos_do hl M).mono ?_
  rintro e w' ⟨a, rfl, k, H⟩
  refine ⟨a, rfl, k, (H _ (Kp.refl _ _)).mono ?_⟩
  rintro e W ⟨lb, ⟨⟨b1, b2, b3⟩, q⟩, rfl, k2, nd⟩
  obtain ⟨g, o, c, g1, o1, c1, g2, o2, c2, e2, y1, y2, y3⟩ := fos_read2 nd
  simp only at e2
  subst e2
  exact ⟨_, _, _, _, b1, b2, b3, g, o, c, g1, o1, c1, g2, o2, c2, rfl, k2, fun U kU => ⟨kU.read y1, kU.read y2, kU.read y3⟩⟩

end Go.Proofs.Ytpkppobkagdhkaa
