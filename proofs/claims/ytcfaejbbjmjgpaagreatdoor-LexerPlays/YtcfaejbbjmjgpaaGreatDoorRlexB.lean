/-
  The document's lexer: ends.
-/
import Derived.Test.YtcfaejbbjmjgpaaGreatDoorRlexA
namespace Go.Proofs.YtcfaejbbjmjgpaaGreatDoor
open Go.RowKit Utf
set_option linter.unusedVariables false

set_option maxHeartbeats 1000000 in
set_option maxRecDepth 100000 in
theorem rends_any (w : World) (b : Nat) (s : ByteArray) (q : Nat) (md : Int) (fg : Bool) (last : ByteArray) (h : Ly w b s q md fg last) (p : Nat) (hp : p ≤ s.size) (hs : s.size ≤ 4000) (hn : nmOk last) (hz : last.size ≤ 4000) :
    Calls Tryz.prog 42 #[.pointer (some ⟨b, 0, none⟩), .int .i64 (p : Int)] w fun e w' => e = .returned (.bool (clo s last p)) ∧ Kp [] w w' := by
  obtain ⟨⟨c0, c1, c2, c3, c4⟩, hf⟩ := h.facts
  by_cases h0 : last.size = 0
  · rw [clo_none h0]
    have he := empty_is h0
    clear h h0 hn
    go_enter Tryz.func42, Tryz.ntmps42
    go_wp2_with fail
    go_quiet (fail)
    go_wp2
    go_ret
    exact ⟨rfl, (Kp.refl [] w).drewN _⟩
  have hname : tagName last = true := by
    rcases hn with g | g
    · exact absurd g h0
    · exact g
  have he := empty_not h0
  rw [clo_ref hname]
  have HF := fun W => ref_fold_any W s (p : Int) (CLO ++ last) (by omega) (by rw [cat_size, show CLO.size = 2 from rfl]; omega)
  rw [pl_of hp] at HF
  have CC : Hid (∀ W, Kp [] w W → W.cell? ⟨b, 0, none⟩ = some (.string s) ∧ W.cell? ⟨b, 3, none⟩ = some (.string last)) := fun W kW => by
    obtain ⟨⟨d0, _, _, d3, _⟩, _⟩ := (h.kept kW (by simp)).facts
    exact ⟨d0, d3⟩
  have hfo := fo_le (s := s) (p := p) (x := CLO ++ last)
  rw [cat_size, show CLO.size = 2 from rfl] at hfo
  generalize fo s p (CLO ++ last) = B at HF hfo ⊢
  unfold CLO at HF
  obtain ⟨k, hk⟩ : ∃ k, k = p + 2 + last.size := ⟨_, rfl⟩
  rw [← hk]
  obtain ⟨V, hV⟩ : ∃ V, (decide (k < s.size) && enN (bt s k)) = V := ⟨_, rfl⟩
  rw [hV]
  clear h hn hname h0
  go_enter Tryz.func42, Tryz.ntmps42
  go_wp2_with fail
  have i7 : ¬ 9223372036854775807 < 2 + last.size := by omega
  go_region_held3 (fun w' => w'.cell? ⟨b, 0, none⟩ = some (.string s) ∧ w'.cell? ⟨b, 3, none⟩ = some (.string last))
    (first | with_reducible exact CC.out _ S1.out | exact CC.out _ (Kp.refl [] w).drew)
    (first | (go_at_call 50; refine (HF _).mono ?_; rintro e v1 ⟨rfl, kk⟩; have S1 : Hid (Kp [] w v1) := (Kp.refl [] w).drew.trans kk (fun x hx => by simp at hx); clear kk))
  have k1 := S1.out
  obtain ⟨d0, d3⟩ := CC.out _ k1
  clear S1 CC HF i7 c0 c1 c2 c3 c4 hf
  cases B with
  | false =>
    go_wp2
    go_ret
    exact ⟨rfl, k1⟩
  | true =>
    have hle := hfo rfl
    have hk2 : ((p : Int) + 2 + (last.size : Int)) = (k : Int) := by omega
    by_cases hlt : k < s.size
    · have i0 := index_at s (k : Int) k rfl hlt
      obtain ⟨q1, q2⟩ := bt_range s k
      have HP := fun W => ref_space_any W (bt s k)
      rw [decide_eq_true hlt, Bool.true_and] at hV
      have hV2 : (isSp (bt s k) || (bt s k == 47) || (bt s k == 62)) = V := hV
      have b1 : decide ((k : Int) < (s.size : Int)) = true := decide_eq_true (by omega)
      generalize bt s k = x at i0 q1 q2 HP hV2
      clear hV hk hfo hle
      cases hsp : isSp x with
      | true =>
        rw [hsp] at HP hV2
        simp only [Bool.true_or] at hV2
        subst hV2
        go_wp2_with fail
        try rw [hk2]
        refine (HP _).mono ?_
        rintro e w2 ⟨rfl, rfl⟩
        clear HP
        go_wp2
        go_ret
        exact ⟨rfl, k1⟩
      | false =>
        rw [hsp] at HP hV2
        rw [Bool.false_or] at hV2
        cases h47 : (x == 47) with
        | true =>
          rw [h47, Bool.true_or] at hV2
          subst hV2
          go_wp2_with fail
          refine (HP _).mono ?_
          rintro e w2 ⟨rfl, rfl⟩
          clear HP
          go_wp2
          go_ret
          exact ⟨rfl, k1⟩
        | false =>
          rw [h47, Bool.false_or] at hV2
          subst hV2
          go_wp2_with fail
          refine (HP _).mono ?_
          rintro e w2 ⟨rfl, rfl⟩
          clear HP
          cases h62 : (x == 62)
          all_goals
            go_wp2
            go_ret
            exact ⟨by rw [h62]; rfl, k1⟩
    · rw [decide_eq_false hlt, Bool.false_and] at hV
      subst hV
      have b1 : decide ((k : Int) < (s.size : Int)) = false := decide_eq_false (by omega)
      clear hk hfo hle
      go_wp2
      go_ret
      exact ⟨rfl, k1⟩

end Go.Proofs.YtcfaejbbjmjgpaaGreatDoor
