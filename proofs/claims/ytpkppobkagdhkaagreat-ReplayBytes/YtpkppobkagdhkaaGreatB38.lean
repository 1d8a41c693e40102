/-
 RrefB RrefD.
-/
import Derived.Test.YtpkppobkagdhkaaGreatB31
set_option linter.unusedVariables false
set_option linter.unusedSimpArgs false
set_option maxRecDepth 100000
set_option maxHeartbeats 1000000
namespace Go.Proofs.YtpkppobkagdhkaaGreat
open Go.RowKit
set_option maxHeartbeats 2000000 in
theorem rref_2 (w : World) (a2 a3 a4 a5 a6 : Int) (a7 : ByteArray) (a8 : List Att) (a9 : ByteArray) (p1 : Option Addr) (p2 p3 : Nat) (hq : p2 = a8.length) (hb : p2 ≤ 100000) :
  Calls Tryz.prog 48 #[ov ⟨2,a2,a3,a4,a5,a6,a7,a8,a9⟩ (p1,p2,p3)] w fun e w' => e = .returned (.bool (rightO ⟨2,a2,a3,a4,a5,a6,a7,a8,a9⟩)) ∧ Kp [] w w' := by
 obtain ⟨A,hA0⟩ : ∃ A,rightO ⟨2,a2,a3,a4,a5,a6,a7,a8,a9⟩ = A := ⟨_,rfl⟩
 rw [hA0]
 have hA : Hid (rightO ⟨2,a2,a3,a4,a5,a6,a7,a8,a9⟩ = A) := hA0
 clear hA0
 have hk : Kp [] w ((w.alloc (.cells #[.int .i64 2,.int .i64 a2,.int .i64 a3,.int .i64 a4,.int .i64 a5,.int .i64 a6,.string a7,.slice p1 p2 p3,.string a9] 24)).alloc (.cells #[.int .i64 a2,.int .i64 a3,.int .i64 a4] 3)) := ((Kp.refl _ _).alloc _).alloc _
 have R0 := rb_lit ((w.alloc (.cells #[.int .i64 2,.int .i64 a2,.int .i64 a3,.int .i64 a4,.int .i64 a5,.int .i64 a6,.string a7,.slice p1 p2 p3,.string a9] 24)).alloc (.cells #[.int .i64 a2,.int .i64 a3,.int .i64 a4] 3)) 3 _ (iz [a4,a5,a6]) 3 rfl rfl (by omega)
 rw [show ((w.alloc (.cells #[.int .i64 2,.int .i64 a2,.int .i64 a3,.int .i64 a4,.int .i64 a5,.int .i64 a6,.string a7,.slice p1 p2 p3,.string a9] 24)).alloc (.cells #[.int .i64 a2,.int .i64 a3,.int .i64 a4] 3)).heap.size = w.heap.size + 2 by simp] at R0
 have HZ := zero_any (((w.alloc (.cells #[.int .i64 2,.int .i64 a2,.int .i64 a3,.int .i64 a4,.int .i64 a5,.int .i64 a6,.string a7,.slice p1 p2 p3,.string a9] 24)).alloc (.cells #[.int .i64 a2,.int .i64 a3,.int .i64 a4] 3)).alloc (.cells #[.int .i64 a4,.int .i64 a5,.int .i64 a6] 3)) a7 a9 a8 [a4,a5,a6] p1 (some ⟨w.heap.size + 2,0,none⟩) p2 p3 3 3 hq R0 hb (by omega)
 clear R0
 have hk2 : Kp [] w (((w.alloc (.cells #[.int .i64 2,.int .i64 a2,.int .i64 a3,.int .i64 a4,.int .i64 a5,.int .i64 a6,.string a7,.slice p1 p2 p3,.string a9] 24)).alloc (.cells #[.int .i64 a2,.int .i64 a3,.int .i64 a4] 3)).alloc (.cells #[.int .i64 a4,.int .i64 a5,.int .i64 a6] 3)) := hk.alloc _
 clear hq hb
 simp only [ov]
 go_enter Tryz.func48,Tryz.ntmps48
 go_wp2
 go_loopw [13] (fun i wr => ∃ k : Nat,k ≤ 3 ∧ i = .int .i64 k ∧ wr = ((w.alloc (.cells #[.int .i64 2,.int .i64 a2,.int .i64 a3,.int .i64 a4,.int .i64 a5,.int .i64 a6,.string a7,.slice p1 p2 p3,.string a9] 24)).alloc (.cells #[.int .i64 a2,.int .i64 a3,.int .i64 a4] 3)) ∧ inK a2 a3 a4 k) (fun i _ => 3 - (intOf i).toNat)
 case atStart => exact ⟨0,by omega,rfl,rfl,fun h => by omega,fun h => by omega,fun h => by omega⟩
 case round =>
  obtain ⟨k,hk3,rfl,rfl,i1,i2,i3⟩ := hrel
  obtain rfl | rfl | rfl | rfl : k = 0 ∨ k = 1 ∨ k = 2 ∨ k = 3 := by omega
  ·cases c : inR a2
   ·have hA2 := hA.out
    rw [show rightO ⟨2,a2,a3,a4,a5,a6,a7,a8,a9⟩ = false by simp [rightO,c]] at hA2
    subst hA2
    clear hA i1 i2 i3 HZ hk2
    rcases inR_no c with c1 | ⟨c1,c2⟩
    ·clear c
     go_wp2
     go_ret
     exact ⟨rfl,hk⟩
    ·clear c
     go_wp2
     go_ret
     exact ⟨rfl,hk⟩
   ·have II : Hid (inK a2 a3 a4 1) := ⟨fun _ => c,fun _ => absurd ‹_› (by omega),fun _ => absurd ‹_› (by omega)⟩
    obtain ⟨c1,c2⟩ := inR_yes c
    clear c i1 i2 i3 hA HZ hk2 hk
    go_wp2
    go_roundw
    case rel => exact ⟨1,by omega,by first | rfl | go_num,by trivial,II.out⟩
    case measure => simp [intOf]
  ·cases c : inR a3
   ·have hA2 := hA.out
    rw [show rightO ⟨2,a2,a3,a4,a5,a6,a7,a8,a9⟩ = false by simp [rightO,c]] at hA2
    subst hA2
    clear hA i1 i2 i3 HZ hk2
    rcases inR_no c with c1 | ⟨c1,c2⟩
    ·clear c
     go_wp2
     go_ret
     exact ⟨rfl,hk⟩
    ·clear c
     go_wp2
     go_ret
     exact ⟨rfl,hk⟩
   ·have II : Hid (inK a2 a3 a4 2) := ⟨fun _ => i1 (by omega),fun _ => c,fun _ => absurd ‹_› (by omega)⟩
    obtain ⟨c1,c2⟩ := inR_yes c
    clear c i1 i2 i3 hA HZ hk2 hk
    go_wp2
    go_roundw
    case rel => exact ⟨2,by omega,by first | rfl | go_num,by trivial,II.out⟩
    case measure => simp [intOf]
  ·cases c : inR a4
   ·have hA2 := hA.out
    rw [show rightO ⟨2,a2,a3,a4,a5,a6,a7,a8,a9⟩ = false by simp [rightO,c]] at hA2
    subst hA2
    clear hA i1 i2 i3 HZ hk2
    rcases inR_no c with c1 | ⟨c1,c2⟩
    ·clear c
     go_wp2
     go_ret
     exact ⟨rfl,hk⟩
    ·clear c
     go_wp2
     go_ret
     exact ⟨rfl,hk⟩
   ·have II : Hid (inK a2 a3 a4 3) := ⟨fun _ => i1 (by omega),fun _ => i2 (by omega),fun _ => c⟩
    obtain ⟨c1,c2⟩ := inR_yes c
    clear c i1 i2 i3 hA HZ hk2 hk
    go_wp2
    go_roundw
    case rel => exact ⟨3,by omega,by first | rfl | go_num,by trivial,II.out⟩
    case measure => simp [intOf]
  ·have q1 := i1 (by omega)
   have q2 := i2 (by omega)
   have q3 := i3 (by omega)
   clear i1 i2 i3
   by_cases s1 : 0 ≤ a6
   ·by_cases s2 : a6 ≤ 2
    ·have hA2 := hA.out
     rw [show rightO ⟨2,a2,a3,a4,a5,a6,a7,a8,a9⟩ = zr [a4,a5,a6] a7 a9 a8 by simp [rightO,rightK,q1,q2,q3,s1,s2]] at hA2
     subst hA2
     clear hA q1 q2 q3
     go_wp2_with (go_at_call 90; refine same_of HZ ?_)
     go_ret
     exact ⟨rfl,hk2⟩
    ·have hA2 := hA.out
     rw [show rightO ⟨2,a2,a3,a4,a5,a6,a7,a8,a9⟩ = false by simp [rightO,s2]] at hA2
     subst hA2
     clear hA q1 q2 q3 HZ hk2
     go_wp2
     go_ret
     exact ⟨rfl,hk⟩
   ·have hA2 := hA.out
    rw [show rightO ⟨2,a2,a3,a4,a5,a6,a7,a8,a9⟩ = false by simp [rightO,s1]] at hA2
    subst hA2
    clear hA q1 q2 q3 HZ hk2
    go_wp2
    go_ret
    exact ⟨rfl,hk⟩
set_option maxHeartbeats 2000000 in
theorem rref_3 (w : World) (a2 a3 a4 a5 a6 : Int) (a7 : ByteArray) (a8 : List Att) (a9 : ByteArray) (p1 : Option Addr) (p2 p3 : Nat) (hq : p2 = a8.length) (hb : p2 ≤ 100000) :
  Calls Tryz.prog 48 #[ov ⟨3,a2,a3,a4,a5,a6,a7,a8,a9⟩ (p1,p2,p3)] w fun e w' => e = .returned (.bool (rightO ⟨3,a2,a3,a4,a5,a6,a7,a8,a9⟩)) ∧ Kp [] w w' := by
 obtain ⟨A,hA0⟩ : ∃ A,rightO ⟨3,a2,a3,a4,a5,a6,a7,a8,a9⟩ = A := ⟨_,rfl⟩
 rw [hA0]
 have hA : Hid (rightO ⟨3,a2,a3,a4,a5,a6,a7,a8,a9⟩ = A) := hA0
 clear hA0
 have hk : Kp [] w ((w.alloc (.cells #[.int .i64 3,.int .i64 a2,.int .i64 a3,.int .i64 a4,.int .i64 a5,.int .i64 a6,.string a7,.slice p1 p2 p3,.string a9] 24)).alloc (.cells #[.int .i64 a2,.int .i64 a3,.int .i64 a4] 3)) := ((Kp.refl _ _).alloc _).alloc _
 have R0 := rb_lit ((w.alloc (.cells #[.int .i64 3,.int .i64 a2,.int .i64 a3,.int .i64 a4,.int .i64 a5,.int .i64 a6,.string a7,.slice p1 p2 p3,.string a9] 24)).alloc (.cells #[.int .i64 a2,.int .i64 a3,.int .i64 a4] 3)) 3 _ (iz [a3,a5,a6]) 3 rfl rfl (by omega)
 rw [show ((w.alloc (.cells #[.int .i64 3,.int .i64 a2,.int .i64 a3,.int .i64 a4,.int .i64 a5,.int .i64 a6,.string a7,.slice p1 p2 p3,.string a9] 24)).alloc (.cells #[.int .i64 a2,.int .i64 a3,.int .i64 a4] 3)).heap.size = w.heap.size + 2 by simp] at R0
 have HZ := zero_any (((w.alloc (.cells #[.int .i64 3,.int .i64 a2,.int .i64 a3,.int .i64 a4,.int .i64 a5,.int .i64 a6,.string a7,.slice p1 p2 p3,.string a9] 24)).alloc (.cells #[.int .i64 a2,.int .i64 a3,.int .i64 a4] 3)).alloc (.cells #[.int .i64 a3,.int .i64 a5,.int .i64 a6] 3)) a7 a9 a8 [a3,a5,a6] p1 (some ⟨w.heap.size + 2,0,none⟩) p2 p3 3 3 hq R0 hb (by omega)
 clear R0
 have hk2 : Kp [] w (((w.alloc (.cells #[.int .i64 3,.int .i64 a2,.int .i64 a3,.int .i64 a4,.int .i64 a5,.int .i64 a6,.string a7,.slice p1 p2 p3,.string a9] 24)).alloc (.cells #[.int .i64 a2,.int .i64 a3,.int .i64 a4] 3)).alloc (.cells #[.int .i64 a3,.int .i64 a5,.int .i64 a6] 3)) := hk.alloc _
 clear hq hb
 simp only [ov]
 go_enter Tryz.func48,Tryz.ntmps48
 go_wp2
 go_loopw [13] (fun i wr => ∃ k : Nat,k ≤ 3 ∧ i = .int .i64 k ∧ wr = ((w.alloc (.cells #[.int .i64 3,.int .i64 a2,.int .i64 a3,.int .i64 a4,.int .i64 a5,.int .i64 a6,.string a7,.slice p1 p2 p3,.string a9] 24)).alloc (.cells #[.int .i64 a2,.int .i64 a3,.int .i64 a4] 3)) ∧ inK a2 a3 a4 k) (fun i _ => 3 - (intOf i).toNat)
 case atStart => exact ⟨0,by omega,rfl,rfl,fun h => by omega,fun h => by omega,fun h => by omega⟩
 case round =>
  obtain ⟨k,hk3,rfl,rfl,i1,i2,i3⟩ := hrel
  obtain rfl | rfl | rfl | rfl : k = 0 ∨ k = 1 ∨ k = 2 ∨ k = 3 := by omega
  ·cases c : inR a2
   ·have hA2 := hA.out
    rw [show rightO ⟨3,a2,a3,a4,a5,a6,a7,a8,a9⟩ = false by simp [rightO,c]] at hA2
    subst hA2
    clear hA i1 i2 i3 HZ hk2
    rcases inR_no c with c1 | ⟨c1,c2⟩
    ·clear c
     go_wp2
     go_ret
     exact ⟨rfl,hk⟩
    ·clear c
     go_wp2
     go_ret
     exact ⟨rfl,hk⟩
   ·have II : Hid (inK a2 a3 a4 1) := ⟨fun _ => c,fun _ => absurd ‹_› (by omega),fun _ => absurd ‹_› (by omega)⟩
    obtain ⟨c1,c2⟩ := inR_yes c
    clear c i1 i2 i3 hA HZ hk2 hk
    go_wp2
    go_roundw
    case rel => exact ⟨1,by omega,by first | rfl | go_num,by trivial,II.out⟩
    case measure => simp [intOf]
  ·cases c : inR a3
   ·have hA2 := hA.out
    rw [show rightO ⟨3,a2,a3,a4,a5,a6,a7,a8,a9⟩ = false by simp [rightO,c]] at hA2
    subst hA2
    clear hA i1 i2 i3 HZ hk2
    rcases inR_no c with c1 | ⟨c1,c2⟩
    ·clear c
     go_wp2
     go_ret
     exact ⟨rfl,hk⟩
    ·clear c
     go_wp2
     go_ret
     exact ⟨rfl,hk⟩
   ·have II : Hid (inK a2 a3 a4 2) := ⟨fun _ => i1 (by omega),fun _ => c,fun _ => absurd ‹_› (by omega)⟩
    obtain ⟨c1,c2⟩ := inR_yes c
    clear c i1 i2 i3 hA HZ hk2 hk
    go_wp2
    go_roundw
    case rel => exact ⟨2,by omega,by first | rfl | go_num,by trivial,II.out⟩
    case measure => simp [intOf]
  ·cases c : inR a4
   ·have hA2 := hA.out
    rw [show rightO ⟨3,a2,a3,a4,a5,a6,a7,a8,a9⟩ = false by simp [rightO,c]] at hA2
    subst hA2
    clear hA i1 i2 i3 HZ hk2
    rcases inR_no c with c1 | ⟨c1,c2⟩
    ·clear c
     go_wp2
     go_ret
     exact ⟨rfl,hk⟩
    ·clear c
     go_wp2
     go_ret
     exact ⟨rfl,hk⟩
   ·have II : Hid (inK a2 a3 a4 3) := ⟨fun _ => i1 (by omega),fun _ => i2 (by omega),fun _ => c⟩
    obtain ⟨c1,c2⟩ := inR_yes c
    clear c i1 i2 i3 hA HZ hk2 hk
    go_wp2
    go_roundw
    case rel => exact ⟨3,by omega,by first | rfl | go_num,by trivial,II.out⟩
    case measure => simp [intOf]
  ·have q1 := i1 (by omega)
   have q2 := i2 (by omega)
   have q3 := i3 (by omega)
   clear i1 i2 i3
   by_cases s1 : 0 ≤ a6
   ·by_cases s2 : a6 ≤ 2
    ·have hA2 := hA.out
     rw [show rightO ⟨3,a2,a3,a4,a5,a6,a7,a8,a9⟩ = zr [a3,a5,a6] a7 a9 a8 by simp [rightO,rightK,q1,q2,q3,s1,s2]] at hA2
     subst hA2
     clear hA q1 q2 q3
     go_wp2_with (go_at_call 90; refine same_of HZ ?_)
     go_ret
     exact ⟨rfl,hk2⟩
    ·have hA2 := hA.out
     rw [show rightO ⟨3,a2,a3,a4,a5,a6,a7,a8,a9⟩ = false by simp [rightO,s2]] at hA2
     subst hA2
     clear hA q1 q2 q3 HZ hk2
     go_wp2
     go_ret
     exact ⟨rfl,hk⟩
   ·have hA2 := hA.out
    rw [show rightO ⟨3,a2,a3,a4,a5,a6,a7,a8,a9⟩ = false by simp [rightO,s1]] at hA2
    subst hA2
    clear hA q1 q2 q3 HZ hk2
    go_wp2
    go_ret
    exact ⟨rfl,hk⟩
set_option maxHeartbeats 2000000 in
theorem rref_4 (w : World) (a2 a3 a4 a5 a6 : Int) (a7 : ByteArray) (a8 : List Att) (a9 : ByteArray) (p1 : Option Addr) (p2 p3 : Nat) (hq : p2 = a8.length) (hb : p2 ≤ 100000) :
  Calls Tryz.prog 48 #[ov ⟨4,a2,a3,a4,a5,a6,a7,a8,a9⟩ (p1,p2,p3)] w fun e w' => e = .returned (.bool (rightO ⟨4,a2,a3,a4,a5,a6,a7,a8,a9⟩)) ∧ Kp [] w w' := by
 obtain ⟨A,hA0⟩ : ∃ A,rightO ⟨4,a2,a3,a4,a5,a6,a7,a8,a9⟩ = A := ⟨_,rfl⟩
 rw [hA0]
 have hA : Hid (rightO ⟨4,a2,a3,a4,a5,a6,a7,a8,a9⟩ = A) := hA0
 clear hA0
 have hk : Kp [] w ((w.alloc (.cells #[.int .i64 4,.int .i64 a2,.int .i64 a3,.int .i64 a4,.int .i64 a5,.int .i64 a6,.string a7,.slice p1 p2 p3,.string a9] 24)).alloc (.cells #[.int .i64 a2,.int .i64 a3,.int .i64 a4] 3)) := ((Kp.refl _ _).alloc _).alloc _
 have R0 := rb_lit ((w.alloc (.cells #[.int .i64 4,.int .i64 a2,.int .i64 a3,.int .i64 a4,.int .i64 a5,.int .i64 a6,.string a7,.slice p1 p2 p3,.string a9] 24)).alloc (.cells #[.int .i64 a2,.int .i64 a3,.int .i64 a4] 3)) 3 _ (iz [a5,a6]) 2 rfl rfl (by omega)
 rw [show ((w.alloc (.cells #[.int .i64 4,.int .i64 a2,.int .i64 a3,.int .i64 a4,.int .i64 a5,.int .i64 a6,.string a7,.slice p1 p2 p3,.string a9] 24)).alloc (.cells #[.int .i64 a2,.int .i64 a3,.int .i64 a4] 3)).heap.size = w.heap.size + 2 by simp] at R0
 have HZ := zero_any (((w.alloc (.cells #[.int .i64 4,.int .i64 a2,.int .i64 a3,.int .i64 a4,.int .i64 a5,.int .i64 a6,.string a7,.slice p1 p2 p3,.string a9] 24)).alloc (.cells #[.int .i64 a2,.int .i64 a3,.int .i64 a4] 3)).alloc (.cells #[.int .i64 a5,.int .i64 a6] 3)) a7 a9 a8 [a5,a6] p1 (some ⟨w.heap.size + 2,0,none⟩) p2 p3 2 2 hq R0 hb (by omega)
 clear R0
 have hk2 : Kp [] w (((w.alloc (.cells #[.int .i64 4,.int .i64 a2,.int .i64 a3,.int .i64 a4,.int .i64 a5,.int .i64 a6,.string a7,.slice p1 p2 p3,.string a9] 24)).alloc (.cells #[.int .i64 a2,.int .i64 a3,.int .i64 a4] 3)).alloc (.cells #[.int .i64 a5,.int .i64 a6] 3)) := hk.alloc _
 clear hq hb
 simp only [ov]
 go_enter Tryz.func48,Tryz.ntmps48
 go_wp2
 go_loopw [13] (fun i wr => ∃ k : Nat,k ≤ 3 ∧ i = .int .i64 k ∧ wr = ((w.alloc (.cells #[.int .i64 4,.int .i64 a2,.int .i64 a3,.int .i64 a4,.int .i64 a5,.int .i64 a6,.string a7,.slice p1 p2 p3,.string a9] 24)).alloc (.cells #[.int .i64 a2,.int .i64 a3,.int .i64 a4] 3)) ∧ inK a2 a3 a4 k) (fun i _ => 3 - (intOf i).toNat)
 case atStart => exact ⟨0,by omega,rfl,rfl,fun h => by omega,fun h => by omega,fun h => by omega⟩
 case round =>
  obtain ⟨k,hk3,rfl,rfl,i1,i2,i3⟩ := hrel
  obtain rfl | rfl | rfl | rfl : k = 0 ∨ k = 1 ∨ k = 2 ∨ k = 3 := by omega
  ·cases c : inR a2
   ·have hA2 := hA.out
    rw [show rightO ⟨4,a2,a3,a4,a5,a6,a7,a8,a9⟩ = false by simp [rightO,c]] at hA2
    subst hA2
    clear hA i1 i2 i3 HZ hk2
    rcases inR_no c with c1 | ⟨c1,c2⟩
    ·clear c
     go_wp2
     go_ret
     exact ⟨rfl,hk⟩
    ·clear c
     go_wp2
     go_ret
     exact ⟨rfl,hk⟩
   ·have II : Hid (inK a2 a3 a4 1) := ⟨fun _ => c,fun _ => absurd ‹_› (by omega),fun _ => absurd ‹_› (by omega)⟩
    obtain ⟨c1,c2⟩ := inR_yes c
    clear c i1 i2 i3 hA HZ hk2 hk
    go_wp2
    go_roundw
    case rel => exact ⟨1,by omega,by first | rfl | go_num,by trivial,II.out⟩
    case measure => simp [intOf]
  ·cases c : inR a3
   ·have hA2 := hA.out
    rw [show rightO ⟨4,a2,a3,a4,a5,a6,a7,a8,a9⟩ = false by simp [rightO,c]] at hA2
    subst hA2
    clear hA i1 i2 i3 HZ hk2
    rcases inR_no c with c1 | ⟨c1,c2⟩
    ·clear c
     go_wp2
     go_ret
     exact ⟨rfl,hk⟩
    ·clear c
     go_wp2
     go_ret
     exact ⟨rfl,hk⟩
   ·have II : Hid (inK a2 a3 a4 2) := ⟨fun _ => i1 (by omega),fun _ => c,fun _ => absurd ‹_› (by omega)⟩
    obtain ⟨c1,c2⟩ := inR_yes c
    clear c i1 i2 i3 hA HZ hk2 hk
    go_wp2
    go_roundw
    case rel => exact ⟨2,by omega,by first | rfl | go_num,by trivial,II.out⟩
    case measure => simp [intOf]
  ·cases c : inR a4
   ·have hA2 := hA.out
    rw [show rightO ⟨4,a2,a3,a4,a5,a6,a7,a8,a9⟩ = false by simp [rightO,c]] at hA2
    subst hA2
    clear hA i1 i2 i3 HZ hk2
    rcases inR_no c with c1 | ⟨c1,c2⟩
    ·clear c
     go_wp2
     go_ret
     exact ⟨rfl,hk⟩
    ·clear c
     go_wp2
     go_ret
     exact ⟨rfl,hk⟩
   ·have II : Hid (inK a2 a3 a4 3) := ⟨fun _ => i1 (by omega),fun _ => i2 (by omega),fun _ => c⟩
    obtain ⟨c1,c2⟩ := inR_yes c
    clear c i1 i2 i3 hA HZ hk2 hk
    go_wp2
    go_roundw
    case rel => exact ⟨3,by omega,by first | rfl | go_num,by trivial,II.out⟩
    case measure => simp [intOf]
  ·have q1 := i1 (by omega)
   have q2 := i2 (by omega)
   have q3 := i3 (by omega)
   clear i1 i2 i3
   by_cases s1 : 0 ≤ a6
   ·by_cases s2 : a6 ≤ 2
    ·have hA2 := hA.out
     rw [show rightO ⟨4,a2,a3,a4,a5,a6,a7,a8,a9⟩ = zr [a5,a6] a7 a9 a8 by simp [rightO,rightK,q1,q2,q3,s1,s2]] at hA2
     subst hA2
     clear hA q1 q2 q3
     go_wp2_with (go_at_call 90; refine same_of HZ ?_)
     go_ret
     exact ⟨rfl,hk2⟩
    ·have hA2 := hA.out
     rw [show rightO ⟨4,a2,a3,a4,a5,a6,a7,a8,a9⟩ = false by simp [rightO,s2]] at hA2
     subst hA2
     clear hA q1 q2 q3 HZ hk2
     go_wp2
     go_ret
     exact ⟨rfl,hk⟩
   ·have hA2 := hA.out
    rw [show rightO ⟨4,a2,a3,a4,a5,a6,a7,a8,a9⟩ = false by simp [rightO,s1]] at hA2
    subst hA2
    clear hA q1 q2 q3 HZ hk2
    go_wp2
    go_ret
    exact ⟨rfl,hk⟩
set_option maxHeartbeats 2000000 in
theorem rref_8 (w : World) (a2 a3 a4 a5 a6 : Int) (a7 : ByteArray) (a8 : List Att) (a9 : ByteArray) (p1 : Option Addr) (p2 p3 : Nat) (hq : p2 = a8.length) (hb : p2 ≤ 100000) :
  Calls Tryz.prog 48 #[ov ⟨8,a2,a3,a4,a5,a6,a7,a8,a9⟩ (p1,p2,p3)] w fun e w' => e = .returned (.bool (rightO ⟨8,a2,a3,a4,a5,a6,a7,a8,a9⟩)) ∧ Kp [] w w' := by
 obtain ⟨A,hA0⟩ : ∃ A,rightO ⟨8,a2,a3,a4,a5,a6,a7,a8,a9⟩ = A := ⟨_,rfl⟩
 rw [hA0]
 have hA : Hid (rightO ⟨8,a2,a3,a4,a5,a6,a7,a8,a9⟩ = A) := hA0
 clear hA0
 have hk : Kp [] w ((w.alloc (.cells #[.int .i64 8,.int .i64 a2,.int .i64 a3,.int .i64 a4,.int .i64 a5,.int .i64 a6,.string a7,.slice p1 p2 p3,.string a9] 24)).alloc (.cells #[.int .i64 a2,.int .i64 a3,.int .i64 a4] 3)) := ((Kp.refl _ _).alloc _).alloc _
 have R0 := rb_lit ((w.alloc (.cells #[.int .i64 8,.int .i64 a2,.int .i64 a3,.int .i64 a4,.int .i64 a5,.int .i64 a6,.string a7,.slice p1 p2 p3,.string a9] 24)).alloc (.cells #[.int .i64 a2,.int .i64 a3,.int .i64 a4] 3)) 3 _ (iz [a2,a5,a6]) 3 rfl rfl (by omega)
 rw [show ((w.alloc (.cells #[.int .i64 8,.int .i64 a2,.int .i64 a3,.int .i64 a4,.int .i64 a5,.int .i64 a6,.string a7,.slice p1 p2 p3,.string a9] 24)).alloc (.cells #[.int .i64 a2,.int .i64 a3,.int .i64 a4] 3)).heap.size = w.heap.size + 2 by simp] at R0
 have HZ := zero_any (((w.alloc (.cells #[.int .i64 8,.int .i64 a2,.int .i64 a3,.int .i64 a4,.int .i64 a5,.int .i64 a6,.string a7,.slice p1 p2 p3,.string a9] 24)).alloc (.cells #[.int .i64 a2,.int .i64 a3,.int .i64 a4] 3)).alloc (.cells #[.int .i64 a2,.int .i64 a5,.int .i64 a6] 3)) a7 a9 a8 [a2,a5,a6] p1 (some ⟨w.heap.size + 2,0,none⟩) p2 p3 3 3 hq R0 hb (by omega)
 clear R0
 have hk2 : Kp [] w (((w.alloc (.cells #[.int .i64 8,.int .i64 a2,.int .i64 a3,.int .i64 a4,.int .i64 a5,.int .i64 a6,.string a7,.slice p1 p2 p3,.string a9] 24)).alloc (.cells #[.int .i64 a2,.int .i64 a3,.int .i64 a4] 3)).alloc (.cells #[.int .i64 a2,.int .i64 a5,.int .i64 a6] 3)) := hk.alloc _
 clear hq hb
 simp only [ov]
 go_enter Tryz.func48,Tryz.ntmps48
 go_wp2
 go_loopw [13] (fun i wr => ∃ k : Nat,k ≤ 3 ∧ i = .int .i64 k ∧ wr = ((w.alloc (.cells #[.int .i64 8,.int .i64 a2,.int .i64 a3,.int .i64 a4,.int .i64 a5,.int .i64 a6,.string a7,.slice p1 p2 p3,.string a9] 24)).alloc (.cells #[.int .i64 a2,.int .i64 a3,.int .i64 a4] 3)) ∧ inK a2 a3 a4 k) (fun i _ => 3 - (intOf i).toNat)
 case atStart => exact ⟨0,by omega,rfl,rfl,fun h => by omega,fun h => by omega,fun h => by omega⟩
 case round =>
  obtain ⟨k,hk3,rfl,rfl,i1,i2,i3⟩ := hrel
  obtain rfl | rfl | rfl | rfl : k = 0 ∨ k = 1 ∨ k = 2 ∨ k = 3 := by omega
  ·cases c : inR a2
   ·have hA2 := hA.out
    rw [show rightO ⟨8,a2,a3,a4,a5,a6,a7,a8,a9⟩ = false by simp [rightO,c]] at hA2
    subst hA2
    clear hA i1 i2 i3 HZ hk2
    rcases inR_no c with c1 | ⟨c1,c2⟩
    ·clear c
     go_wp2
     go_ret
     exact ⟨rfl,hk⟩
    ·clear c
     go_wp2
     go_ret
     exact ⟨rfl,hk⟩
   ·have II : Hid (inK a2 a3 a4 1) := ⟨fun _ => c,fun _ => absurd ‹_› (by omega),fun _ => absurd ‹_› (by omega)⟩
    obtain ⟨c1,c2⟩ := inR_yes c
    clear c i1 i2 i3 hA HZ hk2 hk
    go_wp2
    go_roundw
    case rel => exact ⟨1,by omega,by first | rfl | go_num,by trivial,II.out⟩
    case measure => simp [intOf]
  ·cases c : inR a3
   ·have hA2 := hA.out
    rw [show rightO ⟨8,a2,a3,a4,a5,a6,a7,a8,a9⟩ = false by simp [rightO,c]] at hA2
    subst hA2
    clear hA i1 i2 i3 HZ hk2
    rcases inR_no c with c1 | ⟨c1,c2⟩
    ·clear c
     go_wp2
     go_ret
     exact ⟨rfl,hk⟩
    ·clear c
     go_wp2
     go_ret
     exact ⟨rfl,hk⟩
   ·have II : Hid (inK a2 a3 a4 2) := ⟨fun _ => i1 (by omega),fun _ => c,fun _ => absurd ‹_› (by omega)⟩
    obtain ⟨c1,c2⟩ := inR_yes c
    clear c i1 i2 i3 hA HZ hk2 hk
    go_wp2
    go_roundw
    case rel => exact ⟨2,by omega,by first | rfl | go_num,by trivial,II.out⟩
    case measure => simp [intOf]
  ·cases c : inR a4
   ·have hA2 := hA.out
    rw [show rightO ⟨8,a2,a3,a4,a5,a6,a7,a8,a9⟩ = false by simp [rightO,c]] at hA2
    subst hA2
    clear hA i1 i2 i3 HZ hk2
    rcases inR_no c with c1 | ⟨c1,c2⟩
    ·clear c
     go_wp2
     go_ret
     exact ⟨rfl,hk⟩
    ·clear c
     go_wp2
     go_ret
     exact ⟨rfl,hk⟩
   ·have II : Hid (inK a2 a3 a4 3) := ⟨fun _ => i1 (by omega),fun _ => i2 (by omega),fun _ => c⟩
    obtain ⟨c1,c2⟩ := inR_yes c
    clear c i1 i2 i3 hA HZ hk2 hk
    go_wp2
    go_roundw
    case rel => exact ⟨3,by omega,by first | rfl | go_num,by trivial,II.out⟩
    case measure => simp [intOf]
  ·have q1 := i1 (by omega)
   have q2 := i2 (by omega)
   have q3 := i3 (by omega)
   clear i1 i2 i3
   by_cases s1 : 0 ≤ a6
   ·by_cases s2 : a6 ≤ 2
    ·have hA2 := hA.out
     rw [show rightO ⟨8,a2,a3,a4,a5,a6,a7,a8,a9⟩ = zr [a2,a5,a6] a7 a9 a8 by simp [rightO,rightK,q1,q2,q3,s1,s2]] at hA2
     subst hA2
     clear hA q1 q2 q3
     go_wp2_with (go_at_call 90; refine same_of HZ ?_)
     go_ret
     exact ⟨rfl,hk2⟩
    ·have hA2 := hA.out
     rw [show rightO ⟨8,a2,a3,a4,a5,a6,a7,a8,a9⟩ = false by simp [rightO,s2]] at hA2
     subst hA2
     clear hA q1 q2 q3 HZ hk2
     go_wp2
     go_ret
     exact ⟨rfl,hk⟩
   ·have hA2 := hA.out
    rw [show rightO ⟨8,a2,a3,a4,a5,a6,a7,a8,a9⟩ = false by simp [rightO,s1]] at hA2
    subst hA2
    clear hA q1 q2 q3 HZ hk2
    go_wp2
    go_ret
    exact ⟨rfl,hk⟩
set_option maxHeartbeats 2000000 in
theorem rref_9 (w : World) (a2 a3 a4 a5 a6 : Int) (a7 : ByteArray) (a8 : List Att) (a9 : ByteArray) (p1 : Option Addr) (p2 p3 : Nat) (hq : p2 = a8.length) (hb : p2 ≤ 100000) :
  Calls Tryz.prog 48 #[ov ⟨9,a2,a3,a4,a5,a6,a7,a8,a9⟩ (p1,p2,p3)] w fun e w' => e = .returned (.bool (rightO ⟨9,a2,a3,a4,a5,a6,a7,a8,a9⟩)) ∧ Kp [] w w' := by
 obtain ⟨A,hA0⟩ : ∃ A,rightO ⟨9,a2,a3,a4,a5,a6,a7,a8,a9⟩ = A := ⟨_,rfl⟩
 rw [hA0]
 have hA : Hid (rightO ⟨9,a2,a3,a4,a5,a6,a7,a8,a9⟩ = A) := hA0
 clear hA0
 have hk : Kp [] w ((w.alloc (.cells #[.int .i64 9,.int .i64 a2,.int .i64 a3,.int .i64 a4,.int .i64 a5,.int .i64 a6,.string a7,.slice p1 p2 p3,.string a9] 24)).alloc (.cells #[.int .i64 a2,.int .i64 a3,.int .i64 a4] 3)) := ((Kp.refl _ _).alloc _).alloc _
 have R0 := rb_lit ((w.alloc (.cells #[.int .i64 9,.int .i64 a2,.int .i64 a3,.int .i64 a4,.int .i64 a5,.int .i64 a6,.string a7,.slice p1 p2 p3,.string a9] 24)).alloc (.cells #[.int .i64 a2,.int .i64 a3,.int .i64 a4] 3)) 3 _ (iz [a3,a5,a6]) 3 rfl rfl (by omega)
 rw [show ((w.alloc (.cells #[.int .i64 9,.int .i64 a2,.int .i64 a3,.int .i64 a4,.int .i64 a5,.int .i64 a6,.string a7,.slice p1 p2 p3,.string a9] 24)).alloc (.cells #[.int .i64 a2,.int .i64 a3,.int .i64 a4] 3)).heap.size = w.heap.size + 2 by simp] at R0
 have HZ := zero_any (((w.alloc (.cells #[.int .i64 9,.int .i64 a2,.int .i64 a3,.int .i64 a4,.int .i64 a5,.int .i64 a6,.string a7,.slice p1 p2 p3,.string a9] 24)).alloc (.cells #[.int .i64 a2,.int .i64 a3,.int .i64 a4] 3)).alloc (.cells #[.int .i64 a3,.int .i64 a5,.int .i64 a6] 3)) a7 a9 a8 [a3,a5,a6] p1 (some ⟨w.heap.size + 2,0,none⟩) p2 p3 3 3 hq R0 hb (by omega)
 clear R0
 have hk2 : Kp [] w (((w.alloc (.cells #[.int .i64 9,.int .i64 a2,.int .i64 a3,.int .i64 a4,.int .i64 a5,.int .i64 a6,.string a7,.slice p1 p2 p3,.string a9] 24)).alloc (.cells #[.int .i64 a2,.int .i64 a3,.int .i64 a4] 3)).alloc (.cells #[.int .i64 a3,.int .i64 a5,.int .i64 a6] 3)) := hk.alloc _
 clear hq hb
 simp only [ov]
 go_enter Tryz.func48,Tryz.ntmps48
 go_wp2
 go_loopw [13] (fun i wr => ∃ k : Nat,k ≤ 3 ∧ i = .int .i64 k ∧ wr = ((w.alloc (.cells #[.int .i64 9,.int .i64 a2,.int .i64 a3,.int .i64 a4,.int .i64 a5,.int .i64 a6,.string a7,.slice p1 p2 p3,.string a9] 24)).alloc (.cells #[.int .i64 a2,.int .i64 a3,.int .i64 a4] 3)) ∧ inK a2 a3 a4 k) (fun i _ => 3 - (intOf i).toNat)
 case atStart => exact ⟨0,by omega,rfl,rfl,fun h => by omega,fun h => by omega,fun h => by omega⟩
 case round =>
  obtain ⟨k,hk3,rfl,rfl,i1,i2,i3⟩ := hrel
  obtain rfl | rfl | rfl | rfl : k = 0 ∨ k = 1 ∨ k = 2 ∨ k = 3 := by omega
  ·cases c : inR a2
   ·have hA2 := hA.out
    rw [show rightO ⟨9,a2,a3,a4,a5,a6,a7,a8,a9⟩ = false by simp [rightO,c]] at hA2
    subst hA2
    clear hA i1 i2 i3 HZ hk2
    rcases inR_no c with c1 | ⟨c1,c2⟩
    ·clear c
     go_wp2
     go_ret
     exact ⟨rfl,hk⟩
    ·clear c
     go_wp2
     go_ret
     exact ⟨rfl,hk⟩
   ·have II : Hid (inK a2 a3 a4 1) := ⟨fun _ => c,fun _ => absurd ‹_› (by omega),fun _ => absurd ‹_› (by omega)⟩
    obtain ⟨c1,c2⟩ := inR_yes c
    clear c i1 i2 i3 hA HZ hk2 hk
    go_wp2
    go_roundw
    case rel => exact ⟨1,by omega,by first | rfl | go_num,by trivial,II.out⟩
    case measure => simp [intOf]
  ·cases c : inR a3
   ·have hA2 := hA.out
    rw [show rightO ⟨9,a2,a3,a4,a5,a6,a7,a8,a9⟩ = false by simp [rightO,c]] at hA2
    subst hA2
    clear hA i1 i2 i3 HZ hk2
    rcases inR_no c with c1 | ⟨c1,c2⟩
    ·clear c
     go_wp2
     go_ret
     exact ⟨rfl,hk⟩
    ·clear c
     go_wp2
     go_ret
     exact ⟨rfl,hk⟩
   ·have II : Hid (inK a2 a3 a4 2) := ⟨fun _ => i1 (by omega),fun _ => c,fun _ => absurd ‹_› (by omega)⟩
    obtain ⟨c1,c2⟩ := inR_yes c
    clear c i1 i2 i3 hA HZ hk2 hk
    go_wp2
    go_roundw
    case rel => exact ⟨2,by omega,by first | rfl | go_num,by trivial,II.out⟩
    case measure => simp [intOf]
  ·cases c : inR a4
   ·have hA2 := hA.out
    rw [show rightO ⟨9,a2,a3,a4,a5,a6,a7,a8,a9⟩ = false by simp [rightO,c]] at hA2
    subst hA2
    clear hA i1 i2 i3 HZ hk2
    rcases inR_no c with c1 | ⟨c1,c2⟩
    ·clear c
     go_wp2
     go_ret
     exact ⟨rfl,hk⟩
    ·clear c
     go_wp2
     go_ret
     exact ⟨rfl,hk⟩
   ·have II : Hid (inK a2 a3 a4 3) := ⟨fun _ => i1 (by omega),fun _ => i2 (by omega),fun _ => c⟩
    obtain ⟨c1,c2⟩ := inR_yes c
    clear c i1 i2 i3 hA HZ hk2 hk
    go_wp2
    go_roundw
    case rel => exact ⟨3,by omega,by first | rfl | go_num,by trivial,II.out⟩
    case measure => simp [intOf]
  ·have q1 := i1 (by omega)
   have q2 := i2 (by omega)
   have q3 := i3 (by omega)
   clear i1 i2 i3
   by_cases s1 : 0 ≤ a6
   ·by_cases s2 : a6 ≤ 2
    ·have hA2 := hA.out
     rw [show rightO ⟨9,a2,a3,a4,a5,a6,a7,a8,a9⟩ = zr [a3,a5,a6] a7 a9 a8 by simp [rightO,rightK,q1,q2,q3,s1,s2]] at hA2
     subst hA2
     clear hA q1 q2 q3
     go_wp2_with (go_at_call 90; refine same_of HZ ?_)
     go_ret
     exact ⟨rfl,hk2⟩
    ·have hA2 := hA.out
     rw [show rightO ⟨9,a2,a3,a4,a5,a6,a7,a8,a9⟩ = false by simp [rightO,s2]] at hA2
     subst hA2
     clear hA q1 q2 q3 HZ hk2
     go_wp2
     go_ret
     exact ⟨rfl,hk⟩
   ·have hA2 := hA.out
    rw [show rightO ⟨9,a2,a3,a4,a5,a6,a7,a8,a9⟩ = false by simp [rightO,s1]] at hA2
    subst hA2
    clear hA q1 q2 q3 HZ hk2
    go_wp2
    go_ret
    exact ⟨rfl,hk⟩
set_option maxHeartbeats 2000000 in
theorem rref_10 (w : World) (a2 a3 a4 a5 a6 : Int) (a7 : ByteArray) (a8 : List Att) (a9 : ByteArray) (p1 : Option Addr) (p2 p3 : Nat) (hq : p2 = a8.length) (hb : p2 ≤ 100000) :
  Calls Tryz.prog 48 #[ov ⟨10,a2,a3,a4,a5,a6,a7,a8,a9⟩ (p1,p2,p3)] w fun e w' => e = .returned (.bool (rightO ⟨10,a2,a3,a4,a5,a6,a7,a8,a9⟩)) ∧ Kp [] w w' := by
 obtain ⟨A,hA0⟩ : ∃ A,rightO ⟨10,a2,a3,a4,a5,a6,a7,a8,a9⟩ = A := ⟨_,rfl⟩
 rw [hA0]
 have hA : Hid (rightO ⟨10,a2,a3,a4,a5,a6,a7,a8,a9⟩ = A) := hA0
 clear hA0
 have hk : Kp [] w ((w.alloc (.cells #[.int .i64 10,.int .i64 a2,.int .i64 a3,.int .i64 a4,.int .i64 a5,.int .i64 a6,.string a7,.slice p1 p2 p3,.string a9] 24)).alloc (.cells #[.int .i64 a2,.int .i64 a3,.int .i64 a4] 3)) := ((Kp.refl _ _).alloc _).alloc _
 have R0 := rb_lit ((w.alloc (.cells #[.int .i64 10,.int .i64 a2,.int .i64 a3,.int .i64 a4,.int .i64 a5,.int .i64 a6,.string a7,.slice p1 p2 p3,.string a9] 24)).alloc (.cells #[.int .i64 a2,.int .i64 a3,.int .i64 a4] 3)) 3 _ (iz [a3,a4,a5,a6]) 4 rfl rfl (by omega)
 rw [show ((w.alloc (.cells #[.int .i64 10,.int .i64 a2,.int .i64 a3,.int .i64 a4,.int .i64 a5,.int .i64 a6,.string a7,.slice p1 p2 p3,.string a9] 24)).alloc (.cells #[.int .i64 a2,.int .i64 a3,.int .i64 a4] 3)).heap.size = w.heap.size + 2 by simp] at R0
 have HZ := zero_any (((w.alloc (.cells #[.int .i64 10,.int .i64 a2,.int .i64 a3,.int .i64 a4,.int .i64 a5,.int .i64 a6,.string a7,.slice p1 p2 p3,.string a9] 24)).alloc (.cells #[.int .i64 a2,.int .i64 a3,.int .i64 a4] 3)).alloc (.cells #[.int .i64 a3,.int .i64 a4,.int .i64 a5,.int .i64 a6] 3)) a7 a9 [] [a3,a4,a5,a6] none (some ⟨w.heap.size + 2,0,none⟩) 0 0 4 4 rfl R0 (by omega) (by omega)
 clear R0
 have hk2 : Kp [] w (((w.alloc (.cells #[.int .i64 10,.int .i64 a2,.int .i64 a3,.int .i64 a4,.int .i64 a5,.int .i64 a6,.string a7,.slice p1 p2 p3,.string a9] 24)).alloc (.cells #[.int .i64 a2,.int .i64 a3,.int .i64 a4] 3)).alloc (.cells #[.int .i64 a3,.int .i64 a4,.int .i64 a5,.int .i64 a6] 3)) := hk.alloc _
 clear hq hb
 simp only [ov]
 go_enter Tryz.func48,Tryz.ntmps48
 go_wp2
 go_loopw [13] (fun i wr => ∃ k : Nat,k ≤ 3 ∧ i = .int .i64 k ∧ wr = ((w.alloc (.cells #[.int .i64 10,.int .i64 a2,.int .i64 a3,.int .i64 a4,.int .i64 a5,.int .i64 a6,.string a7,.slice p1 p2 p3,.string a9] 24)).alloc (.cells #[.int .i64 a2,.int .i64 a3,.int .i64 a4] 3)) ∧ inK a2 a3 a4 k) (fun i _ => 3 - (intOf i).toNat)
 case atStart => exact ⟨0,by omega,rfl,rfl,fun h => by omega,fun h => by omega,fun h => by omega⟩
 case round =>
  obtain ⟨k,hk3,rfl,rfl,i1,i2,i3⟩ := hrel
  obtain rfl | rfl | rfl | rfl : k = 0 ∨ k = 1 ∨ k = 2 ∨ k = 3 := by omega
  ·cases c : inR a2
   ·have hA2 := hA.out
    rw [show rightO ⟨10,a2,a3,a4,a5,a6,a7,a8,a9⟩ = false by simp [rightO,c]] at hA2
    subst hA2
    clear hA i1 i2 i3 HZ hk2
    rcases inR_no c with c1 | ⟨c1,c2⟩
    ·clear c
     go_wp2
     go_ret
     exact ⟨rfl,hk⟩
    ·clear c
     go_wp2
     go_ret
     exact ⟨rfl,hk⟩
   ·have II : Hid (inK a2 a3 a4 1) := ⟨fun _ => c,fun _ => absurd ‹_› (by omega),fun _ => absurd ‹_› (by omega)⟩
    obtain ⟨c1,c2⟩ := inR_yes c
    clear c i1 i2 i3 hA HZ hk2 hk
    go_wp2
    go_roundw
    case rel => exact ⟨1,by omega,by first | rfl | go_num,by trivial,II.out⟩
    case measure => simp [intOf]
  ·cases c : inR a3
   ·have hA2 := hA.out
    rw [show rightO ⟨10,a2,a3,a4,a5,a6,a7,a8,a9⟩ = false by simp [rightO,c]] at hA2
    subst hA2
    clear hA i1 i2 i3 HZ hk2
    rcases inR_no c with c1 | ⟨c1,c2⟩
    ·clear c
     go_wp2
     go_ret
     exact ⟨rfl,hk⟩
    ·clear c
     go_wp2
     go_ret
     exact ⟨rfl,hk⟩
   ·have II : Hid (inK a2 a3 a4 2) := ⟨fun _ => i1 (by omega),fun _ => c,fun _ => absurd ‹_› (by omega)⟩
    obtain ⟨c1,c2⟩ := inR_yes c
    clear c i1 i2 i3 hA HZ hk2 hk
    go_wp2
    go_roundw
    case rel => exact ⟨2,by omega,by first | rfl | go_num,by trivial,II.out⟩
    case measure => simp [intOf]
  ·cases c : inR a4
   ·have hA2 := hA.out
    rw [show rightO ⟨10,a2,a3,a4,a5,a6,a7,a8,a9⟩ = false by simp [rightO,c]] at hA2
    subst hA2
    clear hA i1 i2 i3 HZ hk2
    rcases inR_no c with c1 | ⟨c1,c2⟩
    ·clear c
     go_wp2
     go_ret
     exact ⟨rfl,hk⟩
    ·clear c
     go_wp2
     go_ret
     exact ⟨rfl,hk⟩
   ·have II : Hid (inK a2 a3 a4 3) := ⟨fun _ => i1 (by omega),fun _ => i2 (by omega),fun _ => c⟩
    obtain ⟨c1,c2⟩ := inR_yes c
    clear c i1 i2 i3 hA HZ hk2 hk
    go_wp2
    go_roundw
    case rel => exact ⟨3,by omega,by first | rfl | go_num,by trivial,II.out⟩
    case measure => simp [intOf]
  ·have q1 := i1 (by omega)
   have q2 := i2 (by omega)
   have q3 := i3 (by omega)
   clear i1 i2 i3
   by_cases s1 : 0 ≤ a6
   ·by_cases s2 : a6 ≤ 2
    ·have hA2 := hA.out
     rw [show rightO ⟨10,a2,a3,a4,a5,a6,a7,a8,a9⟩ = zr [a3,a4,a5,a6] a7 a9 [] by simp [rightO,rightK,q1,q2,q3,s1,s2]] at hA2
     subst hA2
     clear hA q1 q2 q3
     go_wp2_with (go_at_call 90; refine same_of HZ ?_)
     go_ret
     exact ⟨rfl,hk2⟩
    ·have hA2 := hA.out
     rw [show rightO ⟨10,a2,a3,a4,a5,a6,a7,a8,a9⟩ = false by simp [rightO,s2]] at hA2
     subst hA2
     clear hA q1 q2 q3 HZ hk2
     go_wp2
     go_ret
     exact ⟨rfl,hk⟩
   ·have hA2 := hA.out
    rw [show rightO ⟨10,a2,a3,a4,a5,a6,a7,a8,a9⟩ = false by simp [rightO,s1]] at hA2
    subst hA2
    clear hA q1 q2 q3 HZ hk2
    go_wp2
    go_ret
    exact ⟨rfl,hk⟩
end Go.Proofs.YtpkppobkagdhkaaGreat
