/-
  The laws' known.
-/
import Derived.Test.YtcfaejbbjmjgpaaGreatDoorLexH
namespace Go.Proofs.YtcfaejbbjmjgpaaGreatDoor
open Go.RowKit Utf
set_option linter.unusedVariables false

def KNOWN : ByteArray := ⟨#[60, 116, 105, 116, 108, 101, 62, 97, 60, 98, 62, 38, 108, 116, 59, 60, 47, 116, 105, 116, 108, 101, 62]⟩
def TITLE : ByteArray := ⟨#[116, 105, 116, 108, 101]⟩
theorem known_one : allT KNOWN = [(2, TITLE, [], false, ⟨#[]⟩), (4, ⟨#[]⟩, [], false, ⟨#[97, 60, 98, 62, 60]⟩), (3, TITLE, [], false, ⟨#[]⟩), eofT] := by decide +kernel

/-- What a list of tokens reads as, at a place. -/
theorem Rq.told {w : World} {ao : Option Addr} {n c : Nat} {q : List Q} {L : List Tok} (h : Rq w ao n c q) (e : q.map Prod.fst = L) (k : Nat) (hk : k < L.length) :
    ∃ b off, ao = some ⟨b, off, none⟩ ∧ w.cell? ⟨b, off + k * 5, none⟩ = some (.int .i64 L[k].1) ∧ w.cell? ⟨b, off + k * 5 + 1, none⟩ = some (.string L[k].2.1) ∧ w.cell? ⟨b, off + k * 5 + 4, none⟩ = some (.string L[k].2.2.2.2) := by
  subst e
  have hk' : k < q.length := by simpa using hk
  obtain ⟨b, off, e1, h0, h1, h2, h3, h4⟩ := h.get k hk'
  refine ⟨b, off, e1, ?_, ?_, ?_⟩
  · rw [h0]; simp
  · rw [h1]; simp
  · rw [h4]; simp

theorem Mq.count {w w' : World} {ao : Option Addr} {n c : Nat} {q : List Q} {L : List Tok} (h : Mq w w' ao n c q) (e : q.map Prod.fst = L) : n = L.length := by
  rw [h.len, ← e, List.length_map]

set_option maxHeartbeats 1000000 in
set_option maxRecDepth 100000 in
theorem known_any (w : World) (hn : Nm w) (hi : In w) : Calls Tryz.prog 7 #[] w fun e w' => e = .returned (.bool true) ∧ Kp [] w w' := by
  have H1 := lall_any w hn hi KNOWN (by decide)
  rw [known_one] at H1
  unfold KNOWN at H1
  clear hn hi
  go_enter Tryz.func7, Tryz.ntmps7
  go_wp2_with fail
  refine H1.mono ?_
  rintro e w1 ⟨ao, n, c, q, rfl, M, hq⟩
  have hl := M.count hq
  simp only [List.length_cons, List.length_nil] at hl
  subst hl
  obtain ⟨b, off, rfl, a0, a1, a4⟩ := M.rq.told hq 0 (by simp)
  obtain ⟨b', off', e1, b0, b1, b4⟩ := M.rq.told hq 1 (by simp)
  obtain ⟨rfl, rfl⟩ : b = b' ∧ off = off' := by simpa using e1
  obtain ⟨b', off', e1, c0, c1, c4⟩ := M.rq.told hq 2 (by simp)
  obtain ⟨rfl, rfl⟩ : b = b' ∧ off = off' := by simpa using e1
  obtain ⟨b', off', e1, d0, d1, d4⟩ := M.rq.told hq 3 (by simp)
  obtain ⟨rfl, rfl⟩ : b = b' ∧ off = off' := by simpa using e1
  have kz := M.kp
  clear H1 M hq
  simp [TITLE, eofT] at a0 a1 a4 b0 b1 b4 c0 c1 c4 d0 d1 d4
  go_wp2
  go_ret
  exact ⟨rfl, kz⟩

end Go.Proofs.YtcfaejbbjmjgpaaGreatDoor
