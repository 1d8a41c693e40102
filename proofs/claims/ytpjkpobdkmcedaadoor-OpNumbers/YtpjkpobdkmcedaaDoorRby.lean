/-
  The document's four, text.
-/
import Derived.Test.YtpjkpobdkmcedaaDoorEncC
namespace Go.Proofs.YtpjkpobdkmcedaaDoor
open Go.RowKit Utf
set_option linter.unusedVariables false
set_option linter.unusedSimpArgs false

set_option maxRecDepth 100000 in
set_option maxHeartbeats 400000 in
theorem four_any (w : World) (v : Value) (xs : List Int) (h : OwnB w v (b8 xs)) (n : Int) (hn : 0 ≤ n ∧ n ≤ 4294967295) (hlen : xs.length ≤ 900000) :
    Calls Tryd.prog 34 #[v, .int .i64 n] w fun e w' => ∃ v', e = .returned v' ∧ Ext w w' v v' (xs ++ nb n 4) := by
  have hE := Ext.refl h
  obtain ⟨ao, c, hv⟩ := hE.shape
  subst hv
  clear h
  obtain ⟨hn1, hn2⟩ := hn
  have e1 : nb n 4 = [n / 16777216, n / 65536 % 256, n / 256 % 256, n % 256] := by
    simp [nb]
    omega
  obtain ⟨a2, c2, w2, hrun, X2⟩ := ext_lit hE [n / 16777216, n / 65536 % 256, n / 256 % 256, n % 256] #[.int .u8 (n / 16777216), .int .u8 (n / 65536 % 256), .int .u8 (n / 256 % 256), .int .u8 (n % 256)] 4 rfl rfl (by omega) (by omega)
  rw [← e1] at X2
  have XX : Hid (Ext w w2 (.slice ao xs.length c) (.slice a2 (xs.length + 4) c2) (xs ++ nb n 4)) := X2
  clear X2 hE e1
  go_enter Tryd.func34, Tryd.ntmps34
  go_wp2_with (at_builtin; refine Lib.wpList_append_run _ rfl _ _ _ _ rfl _ _ rfl rfl _ _ (hrun _) ?_)
  go_ret
  exact ⟨_, rfl, XX.out⟩

set_option maxRecDepth 100000 in
set_option maxHeartbeats 400000 in
theorem ltext_any (w : World) (v : Value) (xs : List Int) (h : OwnB w v (b8 xs)) (s : ByteArray) (hs : s.size ≤ 16777215) (hlen : xs.length + s.size ≤ 900000) :
    Calls Tryd.prog 35 #[v, .string s] w fun e w' => ∃ v', e = .returned v' ∧ Ext w w' v v' (xs ++ tb s) := by
  have hE := Ext.refl h
  obtain ⟨ao, c, hv⟩ := hE.shape
  subst hv
  clear h
  have e1 : nb s.size 3 = [(s.size : Int) / 65536, (s.size : Int) / 256 % 256, (s.size : Int) % 256] := by
    simp [nb]
    omega
  obtain ⟨a2, c2, w2, hrun, X2⟩ := ext_lit hE [(s.size : Int) / 65536, (s.size : Int) / 256 % 256, (s.size : Int) % 256] #[.int .u8 ((s.size : Int) / 65536), .int .u8 ((s.size : Int) / 256 % 256), .int .u8 ((s.size : Int) % 256)] 3 rfl rfl (by omega) (by omega)
  rw [← e1] at X2
  obtain ⟨a3, c3, w3, hrun3, X3⟩ := ext_str X2 s (by rw [List.length_append, nb_len]; omega)
  rw [List.append_assoc] at X3
  have e2 : (xs ++ nb s.size 3).length = xs.length + 3 := by rw [List.length_append, nb_len]
  rw [e2] at hrun3 X3
  have XX : Hid (Ext w w3 (.slice ao xs.length c) (.slice a3 (xs.length + 3 + s.size) c3) (xs ++ tb s)) := X3
  clear X2 X3 hE e1 e2
  go_enter Tryd.func35, Tryd.ntmps35
  go_wp2_with (at_builtin; refine Hid.out ?_)
  unfold Hid
  refine Lib.wpList_append_run _ rfl _ _ _ _ rfl _ _ rfl rfl _ _ (hrun _) ?_
  go_wp2_with (at_builtin; refine Lib.wpList_append_run _ rfl _ _ _ _ rfl _ _ rfl rfl _ _ (hrun3 _) ?_)
  go_ret
  exact ⟨_, rfl, XX.out⟩

end Go.Proofs.YtpjkpobdkmcedaaDoor
