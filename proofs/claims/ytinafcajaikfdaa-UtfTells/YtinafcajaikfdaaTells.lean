/-
  The walk of UtfTells: whatever bytes and runes it is given, it answers true, and leaves what was there as it was.
-/
import Derived.Test.YtinafcajaikfdaaAgree
namespace Go.Proofs.Ytinafcajaikfdaa
open Go.RowKit Utf

set_option maxHeartbeats 4000000 in
set_option maxRecDepth 100000 in
theorem tells_any (w : World) (ao : Option Addr) (n c : Nat) (bs : List Int) (lo : Option Addr) (m d : Nat) (ls : List Int) (h : Rb w ao n c (b8 bs)) (hb : byt bs) (k : Rb w lo m d (r32 ls)) (hk : ∀ r, r ∈ ls → int32 r) :
    Calls Try.prog 4 #[.slice ao n c, .slice lo m d] w fun e w' => e = .returned (.bool true) ∧ Kp [] w w' := by
  have hd := k.cap
  have HC := cut_any w ao n c 400 bs h
  clear h
  obtain ⟨m', ls', hm', hr', hk'⟩ : ∃ m' ls', (m' = if 100 < m then 100 else m) ∧ Rb w lo m' d (r32 ls') ∧ ∀ r, r ∈ ls' → int32 r := by
    by_cases hm : 100 < m
    · have := k.take 100 (by omega)
      rw [r32_take] at this
      exact ⟨100, ls.take 100, by rw [if_pos hm], this, fun r hr => hk r (List.mem_of_mem_take hr)⟩
    · exact ⟨m, ls, by rw [if_neg hm], k, hk⟩
  clear k hk
  by_cases hm : 100 < m
  all_goals
    first | rw [if_pos hm] at hm' | rw [if_neg hm] at hm'
    subst hm'
    go_enter Try.func4, Try.ntmps4
    go_wp2_with fail
    refine HC.mono ?_
    rintro e w1 ⟨⟨ao1, n1, c1, rfl, hn1, r1⟩, rfl⟩
    clear HC
    have HS := same_any _ _ _ _ _ r1 (byt_take hb 400) (by omega)
    go_wp2_with fail
    refine HS.mono ?_
    rintro e w2 ⟨rfl, k2⟩
    have hr2 := hr'.kept k2
    clear HS r1 hr'
    have HE := encode_any _ _ _ _ _ hr2 hk' (by omega)
    go_wp2_with fail
    refine HE.mono ?_
    rintro e w3 ⟨rfl, kk⟩
    have hr3 := hr2.kept kk
    have k3 := k2.trans kk (fun x hx => by simp at hx)
    clear HE hr2 kk k2
    have HF := ref_encode_any _ _ _ _ _ hr3 (by omega)
    go_wp2_with fail
    refine HF.mono ?_
    rintro e w4 ⟨rfl, rfl⟩
    clear HF hr3
    go_wp2_with fail
    refine (known_any _).mono ?_
    rintro e w5 ⟨rfl, kk⟩
    have k5 := k3.trans kk (fun x hx => by simp at hx)
    clear k3 kk
    go_wp2
    go_ret
    exact ⟨rfl, k5⟩

end Go.Proofs.Ytinafcajaikfdaa
