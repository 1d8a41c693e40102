/-
  The program's Named, of any text: contracts of what it calls, of meaning, and its own.
-/
import Derived.Test.YtgebdaanglmnnaaDoorNames
namespace Go.Proofs.YtgebdaanglmnnaaDoor
open Go.RowKit Utf

theorem hasPrefix_lite (w : World) (s x : ByteArray) : Calls Tryd.prog 91 #[.string s, .string x] w fun e w' => e = .returned (.bool (pre x s)) ∧ w' = w := by
  go_enter Tryd.func91, Tryd.ntmps91
  go_wp2
  all_goals go_ret
  · refine ⟨?_, rfl⟩
    rename_i h
    simp [pre, h]
  · refine ⟨?_, rfl⟩
    rename_i h
    simp [pre, h]

theorem hasPrefix_any (w : World) (s x : ByteArray) : Calls Tryd.prog 87 #[.string s, .string x] w fun e w' => e = .returned (.bool (pre x s)) ∧ w' = w := by
  have H := hasPrefix_lite w s x
  go_enter Tryd.func87, Tryd.ntmps87
  go_wp2_with fail
  refine H.mono ?_
  rintro e w1 ⟨rfl, rfl⟩
  go_wp2
  go_ret
  exact ⟨rfl, rfl⟩

/-- The text s ends with a semicolon. -/
def semi (s : ByteArray) : Bool := decide (1 ≤ s.size) && ((s.extract (s.size - 1) s.size).toList == [59])
/-- Without it. -/
def trim (s : ByteArray) : ByteArray := if semi s then s.extract 0 (s.size - 1) else s

theorem hasSuffix_semi (w : World) (s : ByteArray) (hs : s.size ≤ 1000) : Calls Tryd.prog 94 #[.string s, .string ⟨#[59]⟩] w fun e w' => e = .returned (.bool (semi s)) ∧ w' = w := by
  by_cases h : 1 ≤ s.size
  · have h2 : (1 : Int) ≤ s.size := by omega
    go_enter Tryd.func94, Tryd.ntmps94
    go_wp2
    all_goals go_ret
    refine ⟨?_, rfl⟩
    simp [semi, h]
  · have h2 : ¬ (1 : Int) ≤ s.size := by omega
    go_enter Tryd.func94, Tryd.ntmps94
    go_wp2
    all_goals go_ret
    refine ⟨?_, rfl⟩
    simp [semi, h]

theorem trim_lite (w : World) (s : ByteArray) (hs : s.size ≤ 1000) : Calls Tryd.prog 93 #[.string s, .string ⟨#[59]⟩] w fun e w' => e = .returned (.string (trim s)) ∧ w' = w := by
  have H := hasSuffix_semi w s hs
  cases hb : semi s
  · have ht : trim s = s := by simp [trim, hb]
    rw [hb] at H
    rw [ht]
    go_enter Tryd.func93, Tryd.ntmps93
    go_wp2_with fail
    refine H.mono ?_
    rintro e w1 ⟨rfl, rfl⟩
    go_wp2
    go_ret
    exact ⟨rfl, rfl⟩
  · have ht : trim s = s.extract 0 (s.size - 1) := by simp [trim, hb]
    rw [hb] at H
    rw [ht]
    have h1 : 1 ≤ s.size := by
      simp [semi] at hb
      omega
    go_enter Tryd.func93, Tryd.ntmps93
    go_wp2_with fail
    refine H.mono ?_
    rintro e w1 ⟨rfl, rfl⟩
    go_wp2
    go_ret
    refine ⟨?_, rfl⟩
    simp

theorem trim_any (w : World) (s : ByteArray) (hs : s.size ≤ 1000) : Calls Tryd.prog 92 #[.string s, .string ⟨#[59]⟩] w fun e w' => e = .returned (.string (trim s)) ∧ w' = w := by
  have H := trim_lite w s hs
  go_enter Tryd.func92, Tryd.ntmps92
  go_wp2_with fail
  refine H.mono ?_
  rintro e w1 ⟨rfl, rfl⟩
  go_wp2
  go_ret
  exact ⟨rfl, rfl⟩

theorem named_size : ∀ x, x ∈ (⟨#[]⟩ : ByteArray) :: NM → x.size ≤ 1000 := by decide +kernel

theorem meaning0 (w : World) (x : ByteArray) (H : Calls Tryd.prog 92 #[.string x, .string ⟨#[59]⟩] w fun e w' => e = .returned (.string ⟨#[65, 77, 80]⟩) ∧ w' = w) :
    Calls Tryd.prog 88 #[.string x] w fun e w' => e = .returned (.string ⟨#[38]⟩) ∧ w' = w := by
  go_enter Tryd.func88, Tryd.ntmps88
  go_wp2_with fail
  refine H.mono ?_
  rintro e w1 ⟨rfl, rfl⟩
  go_wp2
  go_ret
  exact ⟨rfl, rfl⟩

theorem meaning1 (w : World) (x : ByteArray) (H : Calls Tryd.prog 92 #[.string x, .string ⟨#[59]⟩] w fun e w' => e = .returned (.string ⟨#[67, 79, 80, 89]⟩) ∧ w' = w) :
    Calls Tryd.prog 88 #[.string x] w fun e w' => e = .returned (.string ⟨#[194, 169]⟩) ∧ w' = w := by
  go_enter Tryd.func88, Tryd.ntmps88
  go_wp2_with fail
  refine H.mono ?_
  rintro e w1 ⟨rfl, rfl⟩
  go_wp2
  go_ret
  exact ⟨rfl, rfl⟩

theorem meaning2 (w : World) (x : ByteArray) (H : Calls Tryd.prog 92 #[.string x, .string ⟨#[59]⟩] w fun e w' => e = .returned (.string ⟨#[71, 84]⟩) ∧ w' = w) :
    Calls Tryd.prog 88 #[.string x] w fun e w' => e = .returned (.string ⟨#[62]⟩) ∧ w' = w := by
  go_enter Tryd.func88, Tryd.ntmps88
  go_wp2_with fail
  refine H.mono ?_
  rintro e w1 ⟨rfl, rfl⟩
  go_wp2
  go_ret
  exact ⟨rfl, rfl⟩

theorem meaning3 (w : World) (x : ByteArray) (H : Calls Tryd.prog 92 #[.string x, .string ⟨#[59]⟩] w fun e w' => e = .returned (.string ⟨#[76, 84]⟩) ∧ w' = w) :
    Calls Tryd.prog 88 #[.string x] w fun e w' => e = .returned (.string ⟨#[60]⟩) ∧ w' = w := by
  go_enter Tryd.func88, Tryd.ntmps88
  go_wp2_with fail
  refine H.mono ?_
  rintro e w1 ⟨rfl, rfl⟩
  go_wp2
  go_ret
  exact ⟨rfl, rfl⟩

theorem meaning4 (w : World) (x : ByteArray) (H : Calls Tryd.prog 92 #[.string x, .string ⟨#[59]⟩] w fun e w' => e = .returned (.string ⟨#[78, 111, 116, 69, 113, 117, 97, 108, 84, 105, 108, 100, 101]⟩) ∧ w' = w) :
    Calls Tryd.prog 88 #[.string x] w fun e w' => e = .returned (.string ⟨#[226, 137, 130, 204, 184]⟩) ∧ w' = w := by
  go_enter Tryd.func88, Tryd.ntmps88
  go_wp2_with fail
  refine H.mono ?_
  rintro e w1 ⟨rfl, rfl⟩
  go_wp2
  go_ret
  exact ⟨rfl, rfl⟩

theorem meaning5 (w : World) (x : ByteArray) (H : Calls Tryd.prog 92 #[.string x, .string ⟨#[59]⟩] w fun e w' => e = .returned (.string ⟨#[81, 85, 79, 84]⟩) ∧ w' = w) :
    Calls Tryd.prog 88 #[.string x] w fun e w' => e = .returned (.string ⟨#[34]⟩) ∧ w' = w := by
  go_enter Tryd.func88, Tryd.ntmps88
  go_wp2_with fail
  refine H.mono ?_
  rintro e w1 ⟨rfl, rfl⟩
  go_wp2
  go_ret
  exact ⟨rfl, rfl⟩

theorem meaning6 (w : World) (x : ByteArray) (H : Calls Tryd.prog 92 #[.string x, .string ⟨#[59]⟩] w fun e w' => e = .returned (.string ⟨#[97, 109, 112]⟩) ∧ w' = w) :
    Calls Tryd.prog 88 #[.string x] w fun e w' => e = .returned (.string ⟨#[38]⟩) ∧ w' = w := by
  go_enter Tryd.func88, Tryd.ntmps88
  go_wp2_with fail
  refine H.mono ?_
  rintro e w1 ⟨rfl, rfl⟩
  go_wp2
  go_ret
  exact ⟨rfl, rfl⟩

theorem meaning7 (w : World) (x : ByteArray) (H : Calls Tryd.prog 92 #[.string x, .string ⟨#[59]⟩] w fun e w' => e = .returned (.string ⟨#[97, 112, 111, 115]⟩) ∧ w' = w) :
    Calls Tryd.prog 88 #[.string x] w fun e w' => e = .returned (.string ⟨#[39]⟩) ∧ w' = w := by
  go_enter Tryd.func88, Tryd.ntmps88
  go_wp2_with fail
  refine H.mono ?_
  rintro e w1 ⟨rfl, rfl⟩
  go_wp2
  go_ret
  exact ⟨rfl, rfl⟩

theorem meaning8 (w : World) (x : ByteArray) (H : Calls Tryd.prog 92 #[.string x, .string ⟨#[59]⟩] w fun e w' => e = .returned (.string ⟨#[99, 101, 110, 116]⟩) ∧ w' = w) :
    Calls Tryd.prog 88 #[.string x] w fun e w' => e = .returned (.string ⟨#[194, 162]⟩) ∧ w' = w := by
  go_enter Tryd.func88, Tryd.ntmps88
  go_wp2_with fail
  refine H.mono ?_
  rintro e w1 ⟨rfl, rfl⟩
  go_wp2
  go_ret
  exact ⟨rfl, rfl⟩

theorem meaning9 (w : World) (x : ByteArray) (H : Calls Tryd.prog 92 #[.string x, .string ⟨#[59]⟩] w fun e w' => e = .returned (.string ⟨#[99, 111, 112, 121]⟩) ∧ w' = w) :
    Calls Tryd.prog 88 #[.string x] w fun e w' => e = .returned (.string ⟨#[194, 169]⟩) ∧ w' = w := by
  go_enter Tryd.func88, Tryd.ntmps88
  go_wp2_with fail
  refine H.mono ?_
  rintro e w1 ⟨rfl, rfl⟩
  go_wp2
  go_ret
  exact ⟨rfl, rfl⟩

theorem meaning10 (w : World) (x : ByteArray) (H : Calls Tryd.prog 92 #[.string x, .string ⟨#[59]⟩] w fun e w' => e = .returned (.string ⟨#[100, 101, 103]⟩) ∧ w' = w) :
    Calls Tryd.prog 88 #[.string x] w fun e w' => e = .returned (.string ⟨#[194, 176]⟩) ∧ w' = w := by
  go_enter Tryd.func88, Tryd.ntmps88
  go_wp2_with fail
  refine H.mono ?_
  rintro e w1 ⟨rfl, rfl⟩
  go_wp2
  go_ret
  exact ⟨rfl, rfl⟩

theorem meaning11 (w : World) (x : ByteArray) (H : Calls Tryd.prog 92 #[.string x, .string ⟨#[59]⟩] w fun e w' => e = .returned (.string ⟨#[101, 97, 99, 117, 116, 101]⟩) ∧ w' = w) :
    Calls Tryd.prog 88 #[.string x] w fun e w' => e = .returned (.string ⟨#[195, 169]⟩) ∧ w' = w := by
  go_enter Tryd.func88, Tryd.ntmps88
  go_wp2_with fail
  refine H.mono ?_
  rintro e w1 ⟨rfl, rfl⟩
  go_wp2
  go_ret
  exact ⟨rfl, rfl⟩

theorem meaning12 (w : World) (x : ByteArray) (H : Calls Tryd.prog 92 #[.string x, .string ⟨#[59]⟩] w fun e w' => e = .returned (.string ⟨#[103, 116]⟩) ∧ w' = w) :
    Calls Tryd.prog 88 #[.string x] w fun e w' => e = .returned (.string ⟨#[62]⟩) ∧ w' = w := by
  go_enter Tryd.func88, Tryd.ntmps88
  go_wp2_with fail
  refine H.mono ?_
  rintro e w1 ⟨rfl, rfl⟩
  go_wp2
  go_ret
  exact ⟨rfl, rfl⟩

theorem meaning13 (w : World) (x : ByteArray) (H : Calls Tryd.prog 92 #[.string x, .string ⟨#[59]⟩] w fun e w' => e = .returned (.string ⟨#[104, 101, 108, 108, 105, 112]⟩) ∧ w' = w) :
    Calls Tryd.prog 88 #[.string x] w fun e w' => e = .returned (.string ⟨#[226, 128, 166]⟩) ∧ w' = w := by
  go_enter Tryd.func88, Tryd.ntmps88
  go_wp2_with fail
  refine H.mono ?_
  rintro e w1 ⟨rfl, rfl⟩
  go_wp2
  go_ret
  exact ⟨rfl, rfl⟩

theorem meaning14 (w : World) (x : ByteArray) (H : Calls Tryd.prog 92 #[.string x, .string ⟨#[59]⟩] w fun e w' => e = .returned (.string ⟨#[108, 97, 113, 117, 111]⟩) ∧ w' = w) :
    Calls Tryd.prog 88 #[.string x] w fun e w' => e = .returned (.string ⟨#[194, 171]⟩) ∧ w' = w := by
  go_enter Tryd.func88, Tryd.ntmps88
  go_wp2_with fail
  refine H.mono ?_
  rintro e w1 ⟨rfl, rfl⟩
  go_wp2
  go_ret
  exact ⟨rfl, rfl⟩

theorem meaning15 (w : World) (x : ByteArray) (H : Calls Tryd.prog 92 #[.string x, .string ⟨#[59]⟩] w fun e w' => e = .returned (.string ⟨#[108, 116]⟩) ∧ w' = w) :
    Calls Tryd.prog 88 #[.string x] w fun e w' => e = .returned (.string ⟨#[60]⟩) ∧ w' = w := by
  go_enter Tryd.func88, Tryd.ntmps88
  go_wp2_with fail
  refine H.mono ?_
  rintro e w1 ⟨rfl, rfl⟩
  go_wp2
  go_ret
  exact ⟨rfl, rfl⟩

theorem meaning16 (w : World) (x : ByteArray) (H : Calls Tryd.prog 92 #[.string x, .string ⟨#[59]⟩] w fun e w' => e = .returned (.string ⟨#[109, 100, 97, 115, 104]⟩) ∧ w' = w) :
    Calls Tryd.prog 88 #[.string x] w fun e w' => e = .returned (.string ⟨#[226, 128, 148]⟩) ∧ w' = w := by
  go_enter Tryd.func88, Tryd.ntmps88
  go_wp2_with fail
  refine H.mono ?_
  rintro e w1 ⟨rfl, rfl⟩
  go_wp2
  go_ret
  exact ⟨rfl, rfl⟩

theorem meaning17 (w : World) (x : ByteArray) (H : Calls Tryd.prog 92 #[.string x, .string ⟨#[59]⟩] w fun e w' => e = .returned (.string ⟨#[110, 98, 115, 112]⟩) ∧ w' = w) :
    Calls Tryd.prog 88 #[.string x] w fun e w' => e = .returned (.string ⟨#[194, 160]⟩) ∧ w' = w := by
  go_enter Tryd.func88, Tryd.ntmps88
  go_wp2_with fail
  refine H.mono ?_
  rintro e w1 ⟨rfl, rfl⟩
  go_wp2
  go_ret
  exact ⟨rfl, rfl⟩

theorem meaning18 (w : World) (x : ByteArray) (H : Calls Tryd.prog 92 #[.string x, .string ⟨#[59]⟩] w fun e w' => e = .returned (.string ⟨#[110, 100, 97, 115, 104]⟩) ∧ w' = w) :
    Calls Tryd.prog 88 #[.string x] w fun e w' => e = .returned (.string ⟨#[226, 128, 147]⟩) ∧ w' = w := by
  go_enter Tryd.func88, Tryd.ntmps88
  go_wp2_with fail
  refine H.mono ?_
  rintro e w1 ⟨rfl, rfl⟩
  go_wp2
  go_ret
  exact ⟨rfl, rfl⟩

theorem meaning19 (w : World) (x : ByteArray) (H : Calls Tryd.prog 92 #[.string x, .string ⟨#[59]⟩] w fun e w' => e = .returned (.string ⟨#[110, 111, 116]⟩) ∧ w' = w) :
    Calls Tryd.prog 88 #[.string x] w fun e w' => e = .returned (.string ⟨#[194, 172]⟩) ∧ w' = w := by
  go_enter Tryd.func88, Tryd.ntmps88
  go_wp2_with fail
  refine H.mono ?_
  rintro e w1 ⟨rfl, rfl⟩
  go_wp2
  go_ret
  exact ⟨rfl, rfl⟩

theorem meaning20 (w : World) (x : ByteArray) (H : Calls Tryd.prog 92 #[.string x, .string ⟨#[59]⟩] w fun e w' => e = .returned (.string ⟨#[110, 111, 116, 105, 110]⟩) ∧ w' = w) :
    Calls Tryd.prog 88 #[.string x] w fun e w' => e = .returned (.string ⟨#[226, 136, 137]⟩) ∧ w' = w := by
  go_enter Tryd.func88, Tryd.ntmps88
  go_wp2_with fail
  refine H.mono ?_
  rintro e w1 ⟨rfl, rfl⟩
  go_wp2
  go_ret
  exact ⟨rfl, rfl⟩

theorem meaning21 (w : World) (x : ByteArray) (H : Calls Tryd.prog 92 #[.string x, .string ⟨#[59]⟩] w fun e w' => e = .returned (.string ⟨#[111, 117, 109, 108]⟩) ∧ w' = w) :
    Calls Tryd.prog 88 #[.string x] w fun e w' => e = .returned (.string ⟨#[195, 182]⟩) ∧ w' = w := by
  go_enter Tryd.func88, Tryd.ntmps88
  go_wp2_with fail
  refine H.mono ?_
  rintro e w1 ⟨rfl, rfl⟩
  go_wp2
  go_ret
  exact ⟨rfl, rfl⟩

theorem meaning22 (w : World) (x : ByteArray) (H : Calls Tryd.prog 92 #[.string x, .string ⟨#[59]⟩] w fun e w' => e = .returned (.string ⟨#[113, 117, 111, 116]⟩) ∧ w' = w) :
    Calls Tryd.prog 88 #[.string x] w fun e w' => e = .returned (.string ⟨#[34]⟩) ∧ w' = w := by
  go_enter Tryd.func88, Tryd.ntmps88
  go_wp2_with fail
  refine H.mono ?_
  rintro e w1 ⟨rfl, rfl⟩
  go_wp2
  go_ret
  exact ⟨rfl, rfl⟩

theorem meaning23 (w : World) (x : ByteArray) (H : Calls Tryd.prog 92 #[.string x, .string ⟨#[59]⟩] w fun e w' => e = .returned (.string ⟨#[114, 97, 113, 117, 111]⟩) ∧ w' = w) :
    Calls Tryd.prog 88 #[.string x] w fun e w' => e = .returned (.string ⟨#[194, 187]⟩) ∧ w' = w := by
  go_enter Tryd.func88, Tryd.ntmps88
  go_wp2_with fail
  refine H.mono ?_
  rintro e w1 ⟨rfl, rfl⟩
  go_wp2
  go_ret
  exact ⟨rfl, rfl⟩

theorem meaning24 (w : World) (x : ByteArray) (H : Calls Tryd.prog 92 #[.string x, .string ⟨#[59]⟩] w fun e w' => e = .returned (.string ⟨#[114, 101, 103]⟩) ∧ w' = w) :
    Calls Tryd.prog 88 #[.string x] w fun e w' => e = .returned (.string ⟨#[194, 174]⟩) ∧ w' = w := by
  go_enter Tryd.func88, Tryd.ntmps88
  go_wp2_with fail
  refine H.mono ?_
  rintro e w1 ⟨rfl, rfl⟩
  go_wp2
  go_ret
  exact ⟨rfl, rfl⟩

theorem meaning25 (w : World) (x : ByteArray) (H : Calls Tryd.prog 92 #[.string x, .string ⟨#[59]⟩] w fun e w' => e = .returned (.string ⟨#[115, 122, 108, 105, 103]⟩) ∧ w' = w) :
    Calls Tryd.prog 88 #[.string x] w fun e w' => e = .returned (.string ⟨#[195, 159]⟩) ∧ w' = w := by
  go_enter Tryd.func88, Tryd.ntmps88
  go_wp2_with fail
  refine H.mono ?_
  rintro e w1 ⟨rfl, rfl⟩
  go_wp2
  go_ret
  exact ⟨rfl, rfl⟩

theorem meaning26 (w : World) (x : ByteArray) (H : Calls Tryd.prog 92 #[.string x, .string ⟨#[59]⟩] w fun e w' => e = .returned (.string ⟨#[116, 105, 109, 101, 115]⟩) ∧ w' = w) :
    Calls Tryd.prog 88 #[.string x] w fun e w' => e = .returned (.string ⟨#[195, 151]⟩) ∧ w' = w := by
  go_enter Tryd.func88, Tryd.ntmps88
  go_wp2_with fail
  refine H.mono ?_
  rintro e w1 ⟨rfl, rfl⟩
  go_wp2
  go_ret
  exact ⟨rfl, rfl⟩

theorem meaning27 (w : World) (x : ByteArray) (H : Calls Tryd.prog 92 #[.string x, .string ⟨#[59]⟩] w fun e w' => e = .returned (.string ⟨#[117, 117, 109, 108]⟩) ∧ w' = w) :
    Calls Tryd.prog 88 #[.string x] w fun e w' => e = .returned (.string ⟨#[195, 188]⟩) ∧ w' = w := by
  go_enter Tryd.func88, Tryd.ntmps88
  go_wp2_with fail
  refine H.mono ?_
  rintro e w1 ⟨rfl, rfl⟩
  go_wp2
  go_ret
  exact ⟨rfl, rfl⟩

theorem meaning28 (w : World) (x : ByteArray) (H : Calls Tryd.prog 92 #[.string x, .string ⟨#[59]⟩] w fun e w' => e = .returned (.string ⟨#[121, 101, 110]⟩) ∧ w' = w) :
    Calls Tryd.prog 88 #[.string x] w fun e w' => e = .returned (.string ⟨#[194, 165]⟩) ∧ w' = w := by
  go_enter Tryd.func88, Tryd.ntmps88
  go_wp2_with fail
  refine H.mono ?_
  rintro e w1 ⟨rfl, rfl⟩
  go_wp2
  go_ret
  exact ⟨rfl, rfl⟩

theorem meaning29 (w : World) (x : ByteArray) (H : Calls Tryd.prog 92 #[.string x, .string ⟨#[59]⟩] w fun e w' => e = .returned (.string ⟨#[]⟩) ∧ w' = w) :
    Calls Tryd.prog 88 #[.string x] w fun e w' => e = .returned (.string ⟨#[]⟩) ∧ w' = w := by
  go_enter Tryd.func88, Tryd.ntmps88
  go_wp2_with fail
  refine H.mono ?_
  rintro e w1 ⟨rfl, rfl⟩
  go_wp2
  go_ret
  exact ⟨rfl, rfl⟩

/-- meaning, of a name, or of none. -/
theorem meaning_any (w : World) (x : ByteArray) (hx : x ∈ (⟨#[]⟩ : ByteArray) :: NM) : Calls Tryd.prog 88 #[.string x] w fun e w' => e = .returned (.string (mean x)) ∧ w' = w := by
  have H := trim_any w x (named_size x hx)
  simp only [NM, List.mem_cons, List.not_mem_nil, or_false] at hx
  rcases hx with rfl | rfl | rfl | rfl | rfl | rfl | rfl | rfl | rfl | rfl | rfl | rfl | rfl | rfl | rfl | rfl | rfl | rfl | rfl | rfl | rfl | rfl | rfl | rfl | rfl | rfl | rfl | rfl | rfl | rfl | rfl | rfl | rfl | rfl | rfl | rfl | rfl | rfl | rfl | rfl | rfl | rfl | rfl | rfl | rfl | rfl | rfl | rfl | rfl | rfl | rfl | rfl
  · rw [show trim ⟨#[]⟩ = ⟨#[]⟩ by kernel_rfl] at H
    rw [show mean ⟨#[]⟩ = ⟨#[]⟩ by kernel_rfl]
    exact meaning29 w _ H
  · rw [show trim ⟨#[65, 77, 80]⟩ = ⟨#[65, 77, 80]⟩ by kernel_rfl] at H
    rw [show mean ⟨#[65, 77, 80]⟩ = ⟨#[38]⟩ by kernel_rfl]
    exact meaning0 w _ H
  · rw [show trim ⟨#[65, 77, 80, 59]⟩ = ⟨#[65, 77, 80]⟩ by kernel_rfl] at H
    rw [show mean ⟨#[65, 77, 80, 59]⟩ = ⟨#[38]⟩ by kernel_rfl]
    exact meaning0 w _ H
  · rw [show trim ⟨#[67, 79, 80, 89]⟩ = ⟨#[67, 79, 80, 89]⟩ by kernel_rfl] at H
    rw [show mean ⟨#[67, 79, 80, 89]⟩ = ⟨#[194, 169]⟩ by kernel_rfl]
    exact meaning1 w _ H
  · rw [show trim ⟨#[67, 79, 80, 89, 59]⟩ = ⟨#[67, 79, 80, 89]⟩ by kernel_rfl] at H
    rw [show mean ⟨#[67, 79, 80, 89, 59]⟩ = ⟨#[194, 169]⟩ by kernel_rfl]
    exact meaning1 w _ H
  · rw [show trim ⟨#[71, 84]⟩ = ⟨#[71, 84]⟩ by kernel_rfl] at H
    rw [show mean ⟨#[71, 84]⟩ = ⟨#[62]⟩ by kernel_rfl]
    exact meaning2 w _ H
  · rw [show trim ⟨#[71, 84, 59]⟩ = ⟨#[71, 84]⟩ by kernel_rfl] at H
    rw [show mean ⟨#[71, 84, 59]⟩ = ⟨#[62]⟩ by kernel_rfl]
    exact meaning2 w _ H
  · rw [show trim ⟨#[76, 84]⟩ = ⟨#[76, 84]⟩ by kernel_rfl] at H
    rw [show mean ⟨#[76, 84]⟩ = ⟨#[60]⟩ by kernel_rfl]
    exact meaning3 w _ H
  · rw [show trim ⟨#[76, 84, 59]⟩ = ⟨#[76, 84]⟩ by kernel_rfl] at H
    rw [show mean ⟨#[76, 84, 59]⟩ = ⟨#[60]⟩ by kernel_rfl]
    exact meaning3 w _ H
  · rw [show trim ⟨#[78, 111, 116, 69, 113, 117, 97, 108, 84, 105, 108, 100, 101, 59]⟩ = ⟨#[78, 111, 116, 69, 113, 117, 97, 108, 84, 105, 108, 100, 101]⟩ by kernel_rfl] at H
    rw [show mean ⟨#[78, 111, 116, 69, 113, 117, 97, 108, 84, 105, 108, 100, 101, 59]⟩ = ⟨#[226, 137, 130, 204, 184]⟩ by kernel_rfl]
    exact meaning4 w _ H
  · rw [show trim ⟨#[81, 85, 79, 84]⟩ = ⟨#[81, 85, 79, 84]⟩ by kernel_rfl] at H
    rw [show mean ⟨#[81, 85, 79, 84]⟩ = ⟨#[34]⟩ by kernel_rfl]
    exact meaning5 w _ H
  · rw [show trim ⟨#[81, 85, 79, 84, 59]⟩ = ⟨#[81, 85, 79, 84]⟩ by kernel_rfl] at H
    rw [show mean ⟨#[81, 85, 79, 84, 59]⟩ = ⟨#[34]⟩ by kernel_rfl]
    exact meaning5 w _ H
  · rw [show trim ⟨#[97, 109, 112]⟩ = ⟨#[97, 109, 112]⟩ by kernel_rfl] at H
    rw [show mean ⟨#[97, 109, 112]⟩ = ⟨#[38]⟩ by kernel_rfl]
    exact meaning6 w _ H
  · rw [show trim ⟨#[97, 109, 112, 59]⟩ = ⟨#[97, 109, 112]⟩ by kernel_rfl] at H
    rw [show mean ⟨#[97, 109, 112, 59]⟩ = ⟨#[38]⟩ by kernel_rfl]
    exact meaning6 w _ H
  · rw [show trim ⟨#[97, 112, 111, 115, 59]⟩ = ⟨#[97, 112, 111, 115]⟩ by kernel_rfl] at H
    rw [show mean ⟨#[97, 112, 111, 115, 59]⟩ = ⟨#[39]⟩ by kernel_rfl]
    exact meaning7 w _ H
  · rw [show trim ⟨#[99, 101, 110, 116, 59]⟩ = ⟨#[99, 101, 110, 116]⟩ by kernel_rfl] at H
    rw [show mean ⟨#[99, 101, 110, 116, 59]⟩ = ⟨#[194, 162]⟩ by kernel_rfl]
    exact meaning8 w _ H
  · rw [show trim ⟨#[99, 111, 112, 121]⟩ = ⟨#[99, 111, 112, 121]⟩ by kernel_rfl] at H
    rw [show mean ⟨#[99, 111, 112, 121]⟩ = ⟨#[194, 169]⟩ by kernel_rfl]
    exact meaning9 w _ H
  · rw [show trim ⟨#[99, 111, 112, 121, 59]⟩ = ⟨#[99, 111, 112, 121]⟩ by kernel_rfl] at H
    rw [show mean ⟨#[99, 111, 112, 121, 59]⟩ = ⟨#[194, 169]⟩ by kernel_rfl]
    exact meaning9 w _ H
  · rw [show trim ⟨#[100, 101, 103]⟩ = ⟨#[100, 101, 103]⟩ by kernel_rfl] at H
    rw [show mean ⟨#[100, 101, 103]⟩ = ⟨#[194, 176]⟩ by kernel_rfl]
    exact meaning10 w _ H
  · rw [show trim ⟨#[100, 101, 103, 59]⟩ = ⟨#[100, 101, 103]⟩ by kernel_rfl] at H
    rw [show mean ⟨#[100, 101, 103, 59]⟩ = ⟨#[194, 176]⟩ by kernel_rfl]
    exact meaning10 w _ H
  · rw [show trim ⟨#[101, 97, 99, 117, 116, 101]⟩ = ⟨#[101, 97, 99, 117, 116, 101]⟩ by kernel_rfl] at H
    rw [show mean ⟨#[101, 97, 99, 117, 116, 101]⟩ = ⟨#[195, 169]⟩ by kernel_rfl]
    exact meaning11 w _ H
  · rw [show trim ⟨#[101, 97, 99, 117, 116, 101, 59]⟩ = ⟨#[101, 97, 99, 117, 116, 101]⟩ by kernel_rfl] at H
    rw [show mean ⟨#[101, 97, 99, 117, 116, 101, 59]⟩ = ⟨#[195, 169]⟩ by kernel_rfl]
    exact meaning11 w _ H
  · rw [show trim ⟨#[103, 116]⟩ = ⟨#[103, 116]⟩ by kernel_rfl] at H
    rw [show mean ⟨#[103, 116]⟩ = ⟨#[62]⟩ by kernel_rfl]
    exact meaning12 w _ H
  · rw [show trim ⟨#[103, 116, 59]⟩ = ⟨#[103, 116]⟩ by kernel_rfl] at H
    rw [show mean ⟨#[103, 116, 59]⟩ = ⟨#[62]⟩ by kernel_rfl]
    exact meaning12 w _ H
  · rw [show trim ⟨#[104, 101, 108, 108, 105, 112, 59]⟩ = ⟨#[104, 101, 108, 108, 105, 112]⟩ by kernel_rfl] at H
    rw [show mean ⟨#[104, 101, 108, 108, 105, 112, 59]⟩ = ⟨#[226, 128, 166]⟩ by kernel_rfl]
    exact meaning13 w _ H
  · rw [show trim ⟨#[108, 97, 113, 117, 111]⟩ = ⟨#[108, 97, 113, 117, 111]⟩ by kernel_rfl] at H
    rw [show mean ⟨#[108, 97, 113, 117, 111]⟩ = ⟨#[194, 171]⟩ by kernel_rfl]
    exact meaning14 w _ H
  · rw [show trim ⟨#[108, 97, 113, 117, 111, 59]⟩ = ⟨#[108, 97, 113, 117, 111]⟩ by kernel_rfl] at H
    rw [show mean ⟨#[108, 97, 113, 117, 111, 59]⟩ = ⟨#[194, 171]⟩ by kernel_rfl]
    exact meaning14 w _ H
  · rw [show trim ⟨#[108, 116]⟩ = ⟨#[108, 116]⟩ by kernel_rfl] at H
    rw [show mean ⟨#[108, 116]⟩ = ⟨#[60]⟩ by kernel_rfl]
    exact meaning15 w _ H
  · rw [show trim ⟨#[108, 116, 59]⟩ = ⟨#[108, 116]⟩ by kernel_rfl] at H
    rw [show mean ⟨#[108, 116, 59]⟩ = ⟨#[60]⟩ by kernel_rfl]
    exact meaning15 w _ H
  · rw [show trim ⟨#[109, 100, 97, 115, 104, 59]⟩ = ⟨#[109, 100, 97, 115, 104]⟩ by kernel_rfl] at H
    rw [show mean ⟨#[109, 100, 97, 115, 104, 59]⟩ = ⟨#[226, 128, 148]⟩ by kernel_rfl]
    exact meaning16 w _ H
  · rw [show trim ⟨#[110, 98, 115, 112]⟩ = ⟨#[110, 98, 115, 112]⟩ by kernel_rfl] at H
    rw [show mean ⟨#[110, 98, 115, 112]⟩ = ⟨#[194, 160]⟩ by kernel_rfl]
    exact meaning17 w _ H
  · rw [show trim ⟨#[110, 98, 115, 112, 59]⟩ = ⟨#[110, 98, 115, 112]⟩ by kernel_rfl] at H
    rw [show mean ⟨#[110, 98, 115, 112, 59]⟩ = ⟨#[194, 160]⟩ by kernel_rfl]
    exact meaning17 w _ H
  · rw [show trim ⟨#[110, 100, 97, 115, 104, 59]⟩ = ⟨#[110, 100, 97, 115, 104]⟩ by kernel_rfl] at H
    rw [show mean ⟨#[110, 100, 97, 115, 104, 59]⟩ = ⟨#[226, 128, 147]⟩ by kernel_rfl]
    exact meaning18 w _ H
  · rw [show trim ⟨#[110, 111, 116]⟩ = ⟨#[110, 111, 116]⟩ by kernel_rfl] at H
    rw [show mean ⟨#[110, 111, 116]⟩ = ⟨#[194, 172]⟩ by kernel_rfl]
    exact meaning19 w _ H
  · rw [show trim ⟨#[110, 111, 116, 59]⟩ = ⟨#[110, 111, 116]⟩ by kernel_rfl] at H
    rw [show mean ⟨#[110, 111, 116, 59]⟩ = ⟨#[194, 172]⟩ by kernel_rfl]
    exact meaning19 w _ H
  · rw [show trim ⟨#[110, 111, 116, 105, 110, 59]⟩ = ⟨#[110, 111, 116, 105, 110]⟩ by kernel_rfl] at H
    rw [show mean ⟨#[110, 111, 116, 105, 110, 59]⟩ = ⟨#[226, 136, 137]⟩ by kernel_rfl]
    exact meaning20 w _ H
  · rw [show trim ⟨#[111, 117, 109, 108]⟩ = ⟨#[111, 117, 109, 108]⟩ by kernel_rfl] at H
    rw [show mean ⟨#[111, 117, 109, 108]⟩ = ⟨#[195, 182]⟩ by kernel_rfl]
    exact meaning21 w _ H
  · rw [show trim ⟨#[111, 117, 109, 108, 59]⟩ = ⟨#[111, 117, 109, 108]⟩ by kernel_rfl] at H
    rw [show mean ⟨#[111, 117, 109, 108, 59]⟩ = ⟨#[195, 182]⟩ by kernel_rfl]
    exact meaning21 w _ H
  · rw [show trim ⟨#[113, 117, 111, 116]⟩ = ⟨#[113, 117, 111, 116]⟩ by kernel_rfl] at H
    rw [show mean ⟨#[113, 117, 111, 116]⟩ = ⟨#[34]⟩ by kernel_rfl]
    exact meaning22 w _ H
  · rw [show trim ⟨#[113, 117, 111, 116, 59]⟩ = ⟨#[113, 117, 111, 116]⟩ by kernel_rfl] at H
    rw [show mean ⟨#[113, 117, 111, 116, 59]⟩ = ⟨#[34]⟩ by kernel_rfl]
    exact meaning22 w _ H
  · rw [show trim ⟨#[114, 97, 113, 117, 111]⟩ = ⟨#[114, 97, 113, 117, 111]⟩ by kernel_rfl] at H
    rw [show mean ⟨#[114, 97, 113, 117, 111]⟩ = ⟨#[194, 187]⟩ by kernel_rfl]
    exact meaning23 w _ H
  · rw [show trim ⟨#[114, 97, 113, 117, 111, 59]⟩ = ⟨#[114, 97, 113, 117, 111]⟩ by kernel_rfl] at H
    rw [show mean ⟨#[114, 97, 113, 117, 111, 59]⟩ = ⟨#[194, 187]⟩ by kernel_rfl]
    exact meaning23 w _ H
  · rw [show trim ⟨#[114, 101, 103]⟩ = ⟨#[114, 101, 103]⟩ by kernel_rfl] at H
    rw [show mean ⟨#[114, 101, 103]⟩ = ⟨#[194, 174]⟩ by kernel_rfl]
    exact meaning24 w _ H
  · rw [show trim ⟨#[114, 101, 103, 59]⟩ = ⟨#[114, 101, 103]⟩ by kernel_rfl] at H
    rw [show mean ⟨#[114, 101, 103, 59]⟩ = ⟨#[194, 174]⟩ by kernel_rfl]
    exact meaning24 w _ H
  · rw [show trim ⟨#[115, 122, 108, 105, 103]⟩ = ⟨#[115, 122, 108, 105, 103]⟩ by kernel_rfl] at H
    rw [show mean ⟨#[115, 122, 108, 105, 103]⟩ = ⟨#[195, 159]⟩ by kernel_rfl]
    exact meaning25 w _ H
  · rw [show trim ⟨#[115, 122, 108, 105, 103, 59]⟩ = ⟨#[115, 122, 108, 105, 103]⟩ by kernel_rfl] at H
    rw [show mean ⟨#[115, 122, 108, 105, 103, 59]⟩ = ⟨#[195, 159]⟩ by kernel_rfl]
    exact meaning25 w _ H
  · rw [show trim ⟨#[116, 105, 109, 101, 115]⟩ = ⟨#[116, 105, 109, 101, 115]⟩ by kernel_rfl] at H
    rw [show mean ⟨#[116, 105, 109, 101, 115]⟩ = ⟨#[195, 151]⟩ by kernel_rfl]
    exact meaning26 w _ H
  · rw [show trim ⟨#[116, 105, 109, 101, 115, 59]⟩ = ⟨#[116, 105, 109, 101, 115]⟩ by kernel_rfl] at H
    rw [show mean ⟨#[116, 105, 109, 101, 115, 59]⟩ = ⟨#[195, 151]⟩ by kernel_rfl]
    exact meaning26 w _ H
  · rw [show trim ⟨#[117, 117, 109, 108]⟩ = ⟨#[117, 117, 109, 108]⟩ by kernel_rfl] at H
    rw [show mean ⟨#[117, 117, 109, 108]⟩ = ⟨#[195, 188]⟩ by kernel_rfl]
    exact meaning27 w _ H
  · rw [show trim ⟨#[117, 117, 109, 108, 59]⟩ = ⟨#[117, 117, 109, 108]⟩ by kernel_rfl] at H
    rw [show mean ⟨#[117, 117, 109, 108, 59]⟩ = ⟨#[195, 188]⟩ by kernel_rfl]
    exact meaning27 w _ H
  · rw [show trim ⟨#[121, 101, 110]⟩ = ⟨#[121, 101, 110]⟩ by kernel_rfl] at H
    rw [show mean ⟨#[121, 101, 110]⟩ = ⟨#[194, 165]⟩ by kernel_rfl]
    exact meaning28 w _ H
  · rw [show trim ⟨#[121, 101, 110, 59]⟩ = ⟨#[121, 101, 110]⟩ by kernel_rfl] at H
    rw [show mean ⟨#[121, 101, 110, 59]⟩ = ⟨#[194, 165]⟩ by kernel_rfl]
    exact meaning28 w _ H

/-- The program's names lie where its variable leads. -/
def Nm (w : World) : Prop := ∃ ao c, w.cell? ⟨1, 0, none⟩ = some (.slice ao 51 c) ∧ Rb w ao 51 c (tx NM)

theorem Nm.kept {w w' : World} (h : Nm w) (k : Kp [] w w') : Nm w' := by
  obtain ⟨ao, c, h1, h2⟩ := h
  exact ⟨ao, c, by rw [k.cell (block_lt_of_cell h1) (by simp)]; exact h1, h2.kept k⟩

theorem found_mem (s : ByteArray) : found s ∈ (⟨#[]⟩ : ByteArray) :: NM := by
  rcases (longest s).2.1 with h | h
  · rw [h]
    exact List.mem_cons_self
  · exact List.mem_cons_of_mem _ h

theorem pn_step (s : ByteArray) (k : Nat) (hk : k < 51) (b : ByteArray) : pn s (NM.drop k) b = if less s (NM[k]'(by rw [nm_len]; exact hk)) then b else pn s (NM.drop (k + 1)) (if pre (NM[k]'(by rw [nm_len]; exact hk)) s then NM[k]'(by rw [nm_len]; exact hk) else b) := by
  rw [List.drop_eq_getElem_cons (by rw [nm_len]; exact hk), pn]

theorem gtr_less : ∀ (x y : List UInt8), (!(Op.bytesLess x y || x == y)) = Op.bytesLess y x
  | [], [] => rfl
  | [], b :: y => by simp [Op.bytesLess]
  | a :: x, [] => by simp [Op.bytesLess]
  | a :: x, b :: y => by
    have h := gtr_less x y
    by_cases h1 : a < b
    · have h2 : ¬ b < a := UInt8.lt_asymm h1
      have h3 : ¬ b = a := fun e => by subst e; exact h2 h1
      simp [Op.bytesLess, h1, h2, h3]
    · by_cases h2 : a = b
      · subst h2
        simpa [Op.bytesLess, h1] using h
      · have h3 : b < a := by
          rcases UInt8.lt_or_lt_of_ne h2 with h4 | h4
          · exact absurd h4 h1
          · exact h4
        simp [Op.bytesLess, h1, h2, h3]

set_option maxHeartbeats 1000000 in
theorem named_any (w : World) (hn : Nm w) (s : ByteArray) : Calls Tryd.prog 83 #[.string s] w fun e w' => e = .returned (.tuple #[.string (mean (found s)), .int .i64 ((found s).size : Int)]) ∧ w' = w := by
  obtain ⟨ao, c, hc, hr⟩ := hn
  have HM := meaning_any w (found s) (found_mem s)
  go_enter Tryd.func83, Tryd.ntmps83
  go_wp2
  go_loop [4, 9] (fun b i => ∃ (k : Nat) (x : ByteArray), k ≤ 51 ∧ i = .int .i64 k ∧ b = .string x ∧ pn s (NM.drop k) x = found s) (fun _ i => 51 - (intOf i).toNat)
  case atStart => exact ⟨0, ⟨#[]⟩, by omega, rfl, rfl, rfl⟩
  case round =>
    obtain ⟨k, b, hk, rfl, rfl, hp⟩ := hrel
    by_cases hlt : k < 51
    · obtain ⟨b1, o1, rfl, h1⟩ := hr.tx_at k (by rw [nm_len]; exact hlt)
      rw [pn_step s k hlt] at hp
      generalize NM[k]'(by rw [nm_len]; exact hlt) = x at h1 hp
      have HP := hasPrefix_any w s x
      have hg := gtr_less x.toList s.toList
      rw [show Op.bytesLess s.toList x.toList = less s x from rfl] at hg
      cases hl : less s x
      · rw [hl] at hp hg
        simp only [Bool.false_eq_true, if_false] at hp
        cases hq : pre x s
        · rw [hq] at HP hp
          simp only [Bool.false_eq_true, if_false] at hp
          go_wp2_with fail
          refine HP.mono ?_
          rintro e w1 ⟨rfl, rfl⟩
          go_wp2
          go_round
          case rel => exact ⟨k + 1, b, by omega, by go_num, rfl, hp⟩
          case measure => simp [intOf]; omega
        · rw [hq] at HP hp
          simp only [if_true] at hp
          go_wp2_with fail
          refine HP.mono ?_
          rintro e w1 ⟨rfl, rfl⟩
          go_wp2
          go_round
          case rel => exact ⟨k + 1, x, by omega, by go_num, rfl, hp⟩
          case measure => simp [intOf]; omega
      · rw [hl] at hp hg
        simp only [if_true] at hp
        subst hp
        go_wp2_with fail
        refine HM.mono ?_
        rintro e w1 ⟨rfl, rfl⟩
        go_wp2
        go_ret2
        exact ⟨rfl, rfl⟩
    · have hk2 : k = 51 := by omega
      rw [hk2, show NM.drop 51 = [] by kernel_rfl] at hp
      simp only [pn] at hp
      subst hp
      go_wp2_with fail
      refine HM.mono ?_
      rintro e w1 ⟨rfl, rfl⟩
      go_wp2
      go_ret2
      exact ⟨rfl, rfl⟩

end Go.Proofs.YtgebdaanglmnnaaDoor
