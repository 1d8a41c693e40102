/-
  The laws' all: both lexers gather the same tokens.
-/
import Derived.Test.YtcfaejbbjmjgpaaGreatDoorRlexH
import Derived.Test.YtcfaejbbjmjgpaaGreatDoorTokens
import Derived.Test.YtcfaejbbjmjgpaaGreatDoorKnown
namespace Go.Proofs.YtcfaejbbjmjgpaaGreatDoor
open Go.RowKit Utf
set_option linter.unusedVariables false

theorem alT_attrs (s : ByteArray) : ∀ n p md last, p ≤ s.size → mdOk md → nmOk last → ∀ T, T ∈ alT s n p md last → T.2.2.1.length ≤ s.size
  | 0, _, _, _, _, _, _, T, h => by simp [alT] at h
  | n + 1, p, md, last, hp, hm, hn, T, h => by
    obtain ⟨ht, h2, h3⟩ := next_told (s := s) (fg := false) hp hm hn
    unfold alT at h
    split at h
    · rw [List.mem_singleton] at h
      rw [h]
      exact ht.len
    · rcases List.mem_cons.1 h with g | g
      · rw [g]
        exact ht.len
      · refine alT_attrs s n _ _ _ ht.hi ?_ h3 T g
        split
        · exact raw_range _ _
        · exact h2
theorem allT_attrs (s : ByteArray) : ∀ T, T ∈ allT s → T.2.2.1.length ≤ s.size := alT_attrs s _ 0 1 ⟨#[]⟩ (Nat.zero_le _) one_ok none_ok

set_option maxHeartbeats 1000000 in
set_option maxRecDepth 100000 in
theorem alllaw_any (w : World) (hn : Nm w) (hi : In w) (s : ByteArray) (hs : s.size ≤ 4000) : Calls Tryz.prog 6 #[.string s] w fun e w' => e = .returned (.bool true) ∧ Kp [] w w' := by
  have HA := lall_any w hn hi s hs
  have HB := fun W => rall_any W s hs
  have hat := allT_attrs s
  have hlen := alT_len s (s.size + 1) 0 1 ⟨#[]⟩
  clear hn hi
  go_enter Tryz.func6, Tryz.ntmps6
  go_wp2_with fail
  refine HA.mono ?_
  rintro e w1 ⟨ao, n, c, q, rfl, M1, hq⟩
  clear HA
  go_wp2_with fail
  refine (HB _).mono ?_
  rintro e w2 ⟨bo, m, d, r, rfl, M2, hr⟩
  clear HB
  have M1k := M1.kept M2.kp
  have hc := M1.count hq
  have HT := tokens_any w2 q r ao bo n c m d M1k.rq M2.rq (by have : n = (alT s (s.size + 1) 0 1 ⟨#[]⟩).length := hc; omega) (fun p hp => (M1k.ar p hp).rp) (fun p hp => (M2.ar p hp).rp) (fun p hp => by
    have : p.1 ∈ allT s := by rw [← hq]; exact List.mem_map_of_mem hp
    have := hat p.1 this
    omega) (hq.trans hr.symm)
  have kz := M1.kp.trans M2.kp (fun z hz => by simp at hz)
  clear M1 M2 M1k hc hq hr hat hlen
  go_wp2_with fail
  refine (from_back HT kz).mono ?_
  rintro e w3 ⟨rfl, k3⟩
  clear HT kz
  go_wp2
  go_ret
  exact ⟨rfl, k3⟩

end Go.Proofs.YtcfaejbbjmjgpaaGreatDoor
