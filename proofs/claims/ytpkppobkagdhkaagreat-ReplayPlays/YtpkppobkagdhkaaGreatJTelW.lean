/-
  Joined: TelW.
-/
import Derived.Test.YtpkppobkagdhkaaGreatJ42
import Derived.Test.YtpkppobkagdhkaaGreatJ43

/-
  ReplayTells: operations are done, or refused, as the document says.
-/
namespace Go.Proofs.YtpkppobkagdhkaaGreat
open Go.RowKit Go.Maps Utf
set_option linter.unusedVariables false
set_option linter.unusedSimpArgs false

/-- What some tells can be done. -/
theorem Mq.ry {w w' : World} {ao : Option Addr} {n c : Nat} {q : List Oq} {F : Nat → Rx} {m : Nat} {fine : Bool} (h : Mq w w' ao n c q) (hq : os q = somF F m fine) (hm : m ≤ 50) : Ry w' ao n c q ∧ n ≤ 50 := by
  refine ⟨⟨h.rq, fun p hp => Rk.of_own (h.ar p hp) rfl (fun _ _ => trivial), fun p hp => lis_tiny (F := F) (m := m) (somF_mem (fine := fine) ?_)⟩, ?_⟩
  · rw [← hq]
    exact List.mem_map.2 ⟨p, hp, rfl⟩
  · have h1 := h.len
    have h2 : (os q).length = n := by rw [List.length_map]; exact h1.symm
    rw [hq] at h2
    have h3 : (lis F m).length = m := by simp [lis]
    unfold somF at h2
    split at h2
    · have := Py.fil_len (lis F m) Py.first
      omega
    · omega

set_option maxRecDepth 100000 in
set_option maxHeartbeats 1000000 in
theorem tells_walk (w : World) (ao : Option Addr) (n c : Nat) (F : Nat → Rx) (hin : Xin w ao n c F) :
    Calls Tryz.prog 4 #[.slice ao n c] w fun e w' => e = .returned (.bool true) ∧ Kp [] w w' := by
  have H1 := some_any w ao n c F hin false
  have H2 : Hid (∀ V, Kp [] w V → Calls Tryz.prog 11 #[.slice ao n c, .bool true] V fun e w' => ∃ ao' n' c' q, e = .returned (.slice ao' n' c') ∧ Mq V w' ao' n' c' q ∧ os q = somF F (min n 50) true) := fun V kV => some_any V ao n c F (hin.kept kV) true
  have H3 : Hid (∀ V W ao' n' c' q fine, Mq V W ao' n' c' q → os q = somF F (min n 50) fine → Calls Tryz.prog 9 #[.slice ao' n' c'] W fun e w' => e = .returned (.bool true) ∧ Kp [] V w') := fun V W ao' n' c' q fine h hq => by
    obtain ⟨r, hn⟩ := h.ry hq (Nat.min_le_right _ _)
    refine (sames_any r (by omega)).mono ?_
    rintro e w' ⟨rfl, k⟩
    exact ⟨rfl, h.kp.trans k (fun x hx => Or.inl hx)⟩
  clear hin
  go_enter Tryz.func4, Tryz.ntmps4
  go_wp2_with (first | (go_at_call 10; refine (known_any _).mono ?_; rintro e W5 ⟨rfl, k5⟩) | (go_at_call 9; refine HS3.mono ?_; rintro e W4 ⟨rfl, k4⟩) | (go_at_call 11; refine H2b.mono ?_; rintro e W3 ⟨a3, n3, c3, q3, rfl, m3, e3⟩; have HS3 := H3.out _ _ _ _ _ _ _ m3 e3; clear m3 e3) | (go_at_call 9; refine HS1.mono ?_; rintro e W2 ⟨rfl, k2⟩; have H2b := H2.out _ k2) | (go_at_call 11; refine H1.mono ?_; rintro e W1 ⟨a1, n1, c1, q1, rfl, m1, e1⟩; have HS1 := H3.out _ _ _ _ _ _ _ m1 e1; clear m1 e1))
  go_ret
  exact ⟨rfl, (k2.trans k4 (fun x hx => Or.inl hx)).trans k5 (fun x hx => Or.inl hx)⟩

end Go.Proofs.YtpkppobkagdhkaaGreat
