/-
 RrefC Next.
-/
import Derived.Test.YtpkppobkagdhkaaGreatB31
import Derived.BigQuiet
import Derived.Deep.RegionHeld3
set_option linter.unusedVariables false
set_option linter.unusedSimpArgs false
set_option maxRecDepth 100000
set_option maxHeartbeats 1000000
namespace Go.Proofs.YtpkppobkagdhkaaGreat
open Go.RowKit
set_option maxHeartbeats 2000000 in
theorem rref_5 (w : World) (a2 a3 a4 a5 a6 : Int) (a7 : ByteArray) (a8 : List Att) (a9 : ByteArray) (p1 : Option Addr) (p2 p3 : Nat) (hq : p2 = a8.length) (hb : p2 ≤ 100000) :
  Calls Tryz.prog 48 #[ov ⟨5,a2,a3,a4,a5,a6,a7,a8,a9⟩ (p1,p2,p3)] w fun e w' => e = .returned (.bool (rightO ⟨5,a2,a3,a4,a5,a6,a7,a8,a9⟩)) ∧ Kp [] w w' := by
 obtain ⟨A,hA0⟩ : ∃ A,rightO ⟨5,a2,a3,a4,a5,a6,a7,a8,a9⟩ = A := ⟨_,rfl⟩
 rw [hA0]
 have hA : Hid (rightO ⟨5,a2,a3,a4,a5,a6,a7,a8,a9⟩ = A) := hA0
 clear hA0
 have hk : Kp [] w ((w.alloc (.cells #[.int .i64 5,.int .i64 a2,.int .i64 a3,.int .i64 a4,.int .i64 a5,.int .i64 a6,.string a7,.slice p1 p2 p3,.string a9] 24)).alloc (.cells #[.int .i64 a2,.int .i64 a3,.int .i64 a4] 3)) := ((Kp.refl _ _).alloc _).alloc _
 have R0 := rb_lit ((w.alloc (.cells #[.int .i64 5,.int .i64 a2,.int .i64 a3,.int .i64 a4,.int .i64 a5,.int .i64 a6,.string a7,.slice p1 p2 p3,.string a9] 24)).alloc (.cells #[.int .i64 a2,.int .i64 a3,.int .i64 a4] 3)) 3 _ (iz [a2,a4,a5,a6]) 4 rfl rfl (by omega)
 rw [show ((w.alloc (.cells #[.int .i64 5,.int .i64 a2,.int .i64 a3,.int .i64 a4,.int .i64 a5,.int .i64 a6,.string a7,.slice p1 p2 p3,.string a9] 24)).alloc (.cells #[.int .i64 a2,.int .i64 a3,.int .i64 a4] 3)).heap.size = w.heap.size + 2 by simp] at R0
 have HZ := zero_any (((w.alloc (.cells #[.int .i64 5,.int .i64 a2,.int .i64 a3,.int .i64 a4,.int .i64 a5,.int .i64 a6,.string a7,.slice p1 p2 p3,.string a9] 24)).alloc (.cells #[.int .i64 a2,.int .i64 a3,.int .i64 a4] 3)).alloc (.cells #[.int .i64 a2,.int .i64 a4,.int .i64 a5,.int .i64 a6] 3)) a7 e0 a8 [a2,a4,a5,a6] p1 (some ⟨w.heap.size + 2,0,none⟩) p2 p3 4 4 hq R0 hb (by omega)
 clear R0
 have hk2 : Kp [] w (((w.alloc (.cells #[.int .i64 5,.int .i64 a2,.int .i64 a3,.int .i64 a4,.int .i64 a5,.int .i64 a6,.string a7,.slice p1 p2 p3,.string a9] 24)).alloc (.cells #[.int .i64 a2,.int .i64 a3,.int .i64 a4] 3)).alloc (.cells #[.int .i64 a2,.int .i64 a4,.int .i64 a5,.int .i64 a6] 3)) := hk.alloc _
 simp only [e0] at HZ
 clear hq hb
 simp only [ov]
 go_enter Tryz.func48,Tryz.ntmps48
 go_wp2
 go_loopw [13] (fun i wr => ∃ k : Nat,k ≤ 3 ∧ i = .int .i64 k ∧ wr = ((w.alloc (.cells #[.int .i64 5,.int .i64 a2,.int .i64 a3,.int .i64 a4,.int .i64 a5,.int .i64 a6,.string a7,.slice p1 p2 p3,.string a9] 24)).alloc (.cells #[.int .i64 a2,.int .i64 a3,.int .i64 a4] 3)) ∧ inK a2 a3 a4 k) (fun i _ => 3 - (intOf i).toNat)
 case atStart => exact ⟨0,by omega,rfl,rfl,fun h => by omega,fun h => by omega,fun h => by omega⟩
 case round =>
  obtain ⟨k,hk3,rfl,rfl,i1,i2,i3⟩ := hrel
  obtain rfl | rfl | rfl | rfl : k = 0 ∨ k = 1 ∨ k = 2 ∨ k = 3 := by omega
  ·cases c : inR a2
   ·have hA2 := hA.out
    rw [show rightO ⟨5,a2,a3,a4,a5,a6,a7,a8,a9⟩ = false by simp [rightO,c]] at hA2
    subst hA2
    clear hA i1 i2 i3 HZ hk2
    rcases inR_no c with c1 | ⟨c1,c2⟩
    ·clear c
     go_wp2
     go_ret
     exact ⟨rfl,hk⟩
    ·clear c
     go_wp2
     go_ret
     exact ⟨rfl,hk⟩
   ·have II : Hid (inK a2 a3 a4 1) := ⟨fun _ => c,fun _ => absurd ‹_› (by omega),fun _ => absurd ‹_› (by omega)⟩
    obtain ⟨c1,c2⟩ := inR_yes c
    clear c i1 i2 i3 hA HZ hk2 hk
    go_wp2
    go_roundw
    case rel => exact ⟨1,by omega,by first | rfl | go_num,by trivial,II.out⟩
    case measure => simp [intOf]
  ·cases c : inR a3
   ·have hA2 := hA.out
    rw [show rightO ⟨5,a2,a3,a4,a5,a6,a7,a8,a9⟩ = false by simp [rightO,c]] at hA2
    subst hA2
    clear hA i1 i2 i3 HZ hk2
    rcases inR_no c with c1 | ⟨c1,c2⟩
    ·clear c
     go_wp2
     go_ret
     exact ⟨rfl,hk⟩
    ·clear c
     go_wp2
     go_ret
     exact ⟨rfl,hk⟩
   ·have II : Hid (inK a2 a3 a4 2) := ⟨fun _ => i1 (by omega),fun _ => c,fun _ => absurd ‹_› (by omega)⟩
    obtain ⟨c1,c2⟩ := inR_yes c
    clear c i1 i2 i3 hA HZ hk2 hk
    go_wp2
    go_roundw
    case rel => exact ⟨2,by omega,by first | rfl | go_num,by trivial,II.out⟩
    case measure => simp [intOf]
  ·cases c : inR a4
   ·have hA2 := hA.out
    rw [show rightO ⟨5,a2,a3,a4,a5,a6,a7,a8,a9⟩ = false by simp [rightO,c]] at hA2
    subst hA2
    clear hA i1 i2 i3 HZ hk2
    rcases inR_no c with c1 | ⟨c1,c2⟩
    ·clear c
     go_wp2
     go_ret
     exact ⟨rfl,hk⟩
    ·clear c
     go_wp2
     go_ret
     exact ⟨rfl,hk⟩
   ·have II : Hid (inK a2 a3 a4 3) := ⟨fun _ => i1 (by omega),fun _ => i2 (by omega),fun _ => c⟩
    obtain ⟨c1,c2⟩ := inR_yes c
    clear c i1 i2 i3 hA HZ hk2 hk
    go_wp2
    go_roundw
    case rel => exact ⟨3,by omega,by first | rfl | go_num,by trivial,II.out⟩
    case measure => simp [intOf]
  ·have q1 := i1 (by omega)
   have q2 := i2 (by omega)
   have q3 := i3 (by omega)
   clear i1 i2 i3
   by_cases s1 : 0 ≤ a6
   ·by_cases s2 : a6 ≤ 2
    ·have hA2 := hA.out
     rw [show rightO ⟨5,a2,a3,a4,a5,a6,a7,a8,a9⟩ = zr [a2,a4,a5,a6] a7 e0 a8 by simp [rightO,rightK,q1,q2,q3,s1,s2]] at hA2
     subst hA2
     clear hA q1 q2 q3
     go_wp2_with (go_at_call 90; refine same_of HZ ?_)
     go_ret
     exact ⟨rfl,hk2⟩
    ·have hA2 := hA.out
     rw [show rightO ⟨5,a2,a3,a4,a5,a6,a7,a8,a9⟩ = false by simp [rightO,s2]] at hA2
     subst hA2
     clear hA q1 q2 q3 HZ hk2
     go_wp2
     go_ret
     exact ⟨rfl,hk⟩
   ·have hA2 := hA.out
    rw [show rightO ⟨5,a2,a3,a4,a5,a6,a7,a8,a9⟩ = false by simp [rightO,s1]] at hA2
    subst hA2
    clear hA q1 q2 q3 HZ hk2
    go_wp2
    go_ret
    exact ⟨rfl,hk⟩
set_option maxHeartbeats 2000000 in
theorem rref_6 (w : World) (a2 a3 a4 a5 a6 : Int) (a7 : ByteArray) (a8 : List Att) (a9 : ByteArray) (p1 : Option Addr) (p2 p3 : Nat) (hq : p2 = a8.length) (hb : p2 ≤ 100000) :
  Calls Tryz.prog 48 #[ov ⟨6,a2,a3,a4,a5,a6,a7,a8,a9⟩ (p1,p2,p3)] w fun e w' => e = .returned (.bool (rightO ⟨6,a2,a3,a4,a5,a6,a7,a8,a9⟩)) ∧ Kp [] w w' := by
 obtain ⟨A,hA0⟩ : ∃ A,rightO ⟨6,a2,a3,a4,a5,a6,a7,a8,a9⟩ = A := ⟨_,rfl⟩
 rw [hA0]
 have hA : Hid (rightO ⟨6,a2,a3,a4,a5,a6,a7,a8,a9⟩ = A) := hA0
 clear hA0
 have hk : Kp [] w ((w.alloc (.cells #[.int .i64 6,.int .i64 a2,.int .i64 a3,.int .i64 a4,.int .i64 a5,.int .i64 a6,.string a7,.slice p1 p2 p3,.string a9] 24)).alloc (.cells #[.int .i64 a2,.int .i64 a3,.int .i64 a4] 3)) := ((Kp.refl _ _).alloc _).alloc _
 have R0 := rb_lit ((w.alloc (.cells #[.int .i64 6,.int .i64 a2,.int .i64 a3,.int .i64 a4,.int .i64 a5,.int .i64 a6,.string a7,.slice p1 p2 p3,.string a9] 24)).alloc (.cells #[.int .i64 a2,.int .i64 a3,.int .i64 a4] 3)) 3 _ (iz [a2,a5,a6]) 3 rfl rfl (by omega)
 rw [show ((w.alloc (.cells #[.int .i64 6,.int .i64 a2,.int .i64 a3,.int .i64 a4,.int .i64 a5,.int .i64 a6,.string a7,.slice p1 p2 p3,.string a9] 24)).alloc (.cells #[.int .i64 a2,.int .i64 a3,.int .i64 a4] 3)).heap.size = w.heap.size + 2 by simp] at R0
 have HZ := zero_any (((w.alloc (.cells #[.int .i64 6,.int .i64 a2,.int .i64 a3,.int .i64 a4,.int .i64 a5,.int .i64 a6,.string a7,.slice p1 p2 p3,.string a9] 24)).alloc (.cells #[.int .i64 a2,.int .i64 a3,.int .i64 a4] 3)).alloc (.cells #[.int .i64 a2,.int .i64 a5,.int .i64 a6] 3)) a7 e0 a8 [a2,a5,a6] p1 (some ⟨w.heap.size + 2,0,none⟩) p2 p3 3 3 hq R0 hb (by omega)
 clear R0
 have hk2 : Kp [] w (((w.alloc (.cells #[.int .i64 6,.int .i64 a2,.int .i64 a3,.int .i64 a4,.int .i64 a5,.int .i64 a6,.string a7,.slice p1 p2 p3,.string a9] 24)).alloc (.cells #[.int .i64 a2,.int .i64 a3,.int .i64 a4] 3)).alloc (.cells #[.int .i64 a2,.int .i64 a5,.int .i64 a6] 3)) := hk.alloc _
 simp only [e0] at HZ
 clear hq hb
 simp only [ov]
 go_enter Tryz.func48,Tryz.ntmps48
 go_wp2
 go_loopw [13] (fun i wr => ∃ k : Nat,k ≤ 3 ∧ i = .int .i64 k ∧ wr = ((w.alloc (.cells #[.int .i64 6,.int .i64 a2,.int .i64 a3,.int .i64 a4,.int .i64 a5,.int .i64 a6,.string a7,.slice p1 p2 p3,.string a9] 24)).alloc (.cells #[.int .i64 a2,.int .i64 a3,.int .i64 a4] 3)) ∧ inK a2 a3 a4 k) (fun i _ => 3 - (intOf i).toNat)
 case atStart => exact ⟨0,by omega,rfl,rfl,fun h => by omega,fun h => by omega,fun h => by omega⟩
 case round =>
  obtain ⟨k,hk3,rfl,rfl,i1,i2,i3⟩ := hrel
  obtain rfl | rfl | rfl | rfl : k = 0 ∨ k = 1 ∨ k = 2 ∨ k = 3 := by omega
  ·cases c : inR a2
   ·have hA2 := hA.out
    rw [show rightO ⟨6,a2,a3,a4,a5,a6,a7,a8,a9⟩ = false by simp [rightO,c]] at hA2
    subst hA2
    clear hA i1 i2 i3 HZ hk2
    rcases inR_no c with c1 | ⟨c1,c2⟩
    ·clear c
     go_wp2
     go_ret
     exact ⟨rfl,hk⟩
    ·clear c
     go_wp2
     go_ret
     exact ⟨rfl,hk⟩
   ·have II : Hid (inK a2 a3 a4 1) := ⟨fun _ => c,fun _ => absurd ‹_› (by omega),fun _ => absurd ‹_› (by omega)⟩
    obtain ⟨c1,c2⟩ := inR_yes c
    clear c i1 i2 i3 hA HZ hk2 hk
    go_wp2
    go_roundw
    case rel => exact ⟨1,by omega,by first | rfl | go_num,by trivial,II.out⟩
    case measure => simp [intOf]
  ·cases c : inR a3
   ·have hA2 := hA.out
    rw [show rightO ⟨6,a2,a3,a4,a5,a6,a7,a8,a9⟩ = false by simp [rightO,c]] at hA2
    subst hA2
    clear hA i1 i2 i3 HZ hk2
    rcases inR_no c with c1 | ⟨c1,c2⟩
    ·clear c
     go_wp2
     go_ret
     exact ⟨rfl,hk⟩
    ·clear c
     go_wp2
     go_ret
     exact ⟨rfl,hk⟩
   ·have II : Hid (inK a2 a3 a4 2) := ⟨fun _ => i1 (by omega),fun _ => c,fun _ => absurd ‹_› (by omega)⟩
    obtain ⟨c1,c2⟩ := inR_yes c
    clear c i1 i2 i3 hA HZ hk2 hk
    go_wp2
    go_roundw
    case rel => exact ⟨2,by omega,by first | rfl | go_num,by trivial,II.out⟩
    case measure => simp [intOf]
  ·cases c : inR a4
   ·have hA2 := hA.out
    rw [show rightO ⟨6,a2,a3,a4,a5,a6,a7,a8,a9⟩ = false by simp [rightO,c]] at hA2
    subst hA2
    clear hA i1 i2 i3 HZ hk2
    rcases inR_no c with c1 | ⟨c1,c2⟩
    ·clear c
     go_wp2
     go_ret
     exact ⟨rfl,hk⟩
    ·clear c
     go_wp2
     go_ret
     exact ⟨rfl,hk⟩
   ·have II : Hid (inK a2 a3 a4 3) := ⟨fun _ => i1 (by omega),fun _ => i2 (by omega),fun _ => c⟩
    obtain ⟨c1,c2⟩ := inR_yes c
    clear c i1 i2 i3 hA HZ hk2 hk
    go_wp2
    go_roundw
    case rel => exact ⟨3,by omega,by first | rfl | go_num,by trivial,II.out⟩
    case measure => simp [intOf]
  ·have q1 := i1 (by omega)
   have q2 := i2 (by omega)
   have q3 := i3 (by omega)
   clear i1 i2 i3
   by_cases s1 : 0 ≤ a6
   ·by_cases s2 : a6 ≤ 2
    ·have hA2 := hA.out
     rw [show rightO ⟨6,a2,a3,a4,a5,a6,a7,a8,a9⟩ = zr [a2,a5,a6] a7 e0 a8 by simp [rightO,rightK,q1,q2,q3,s1,s2]] at hA2
     subst hA2
     clear hA q1 q2 q3
     go_wp2_with (go_at_call 90; refine same_of HZ ?_)
     go_ret
     exact ⟨rfl,hk2⟩
    ·have hA2 := hA.out
     rw [show rightO ⟨6,a2,a3,a4,a5,a6,a7,a8,a9⟩ = false by simp [rightO,s2]] at hA2
     subst hA2
     clear hA q1 q2 q3 HZ hk2
     go_wp2
     go_ret
     exact ⟨rfl,hk⟩
   ·have hA2 := hA.out
    rw [show rightO ⟨6,a2,a3,a4,a5,a6,a7,a8,a9⟩ = false by simp [rightO,s1]] at hA2
    subst hA2
    clear hA q1 q2 q3 HZ hk2
    go_wp2
    go_ret
    exact ⟨rfl,hk⟩
set_option maxHeartbeats 2000000 in
theorem rref_7 (w : World) (a2 a3 a4 a5 a6 : Int) (a7 : ByteArray) (a8 : List Att) (a9 : ByteArray) (p1 : Option Addr) (p2 p3 : Nat) (hq : p2 = a8.length) (hb : p2 ≤ 100000) :
  Calls Tryz.prog 48 #[ov ⟨7,a2,a3,a4,a5,a6,a7,a8,a9⟩ (p1,p2,p3)] w fun e w' => e = .returned (.bool (rightO ⟨7,a2,a3,a4,a5,a6,a7,a8,a9⟩)) ∧ Kp [] w w' := by
 obtain ⟨A,hA0⟩ : ∃ A,rightO ⟨7,a2,a3,a4,a5,a6,a7,a8,a9⟩ = A := ⟨_,rfl⟩
 rw [hA0]
 have hA : Hid (rightO ⟨7,a2,a3,a4,a5,a6,a7,a8,a9⟩ = A) := hA0
 clear hA0
 have hk : Kp [] w ((w.alloc (.cells #[.int .i64 7,.int .i64 a2,.int .i64 a3,.int .i64 a4,.int .i64 a5,.int .i64 a6,.string a7,.slice p1 p2 p3,.string a9] 24)).alloc (.cells #[.int .i64 a2,.int .i64 a3,.int .i64 a4] 3)) := ((Kp.refl _ _).alloc _).alloc _
 have R0 := rb_lit ((w.alloc (.cells #[.int .i64 7,.int .i64 a2,.int .i64 a3,.int .i64 a4,.int .i64 a5,.int .i64 a6,.string a7,.slice p1 p2 p3,.string a9] 24)).alloc (.cells #[.int .i64 a2,.int .i64 a3,.int .i64 a4] 3)) 3 _ (iz [a3,a4,a5,a6]) 4 rfl rfl (by omega)
 rw [show ((w.alloc (.cells #[.int .i64 7,.int .i64 a2,.int .i64 a3,.int .i64 a4,.int .i64 a5,.int .i64 a6,.string a7,.slice p1 p2 p3,.string a9] 24)).alloc (.cells #[.int .i64 a2,.int .i64 a3,.int .i64 a4] 3)).heap.size = w.heap.size + 2 by simp] at R0
 have HZ := zero_any (((w.alloc (.cells #[.int .i64 7,.int .i64 a2,.int .i64 a3,.int .i64 a4,.int .i64 a5,.int .i64 a6,.string a7,.slice p1 p2 p3,.string a9] 24)).alloc (.cells #[.int .i64 a2,.int .i64 a3,.int .i64 a4] 3)).alloc (.cells #[.int .i64 a3,.int .i64 a4,.int .i64 a5,.int .i64 a6] 3)) a7 a9 a8 [a3,a4,a5,a6] p1 (some ⟨w.heap.size + 2,0,none⟩) p2 p3 4 4 hq R0 hb (by omega)
 clear R0
 have hk2 : Kp [] w (((w.alloc (.cells #[.int .i64 7,.int .i64 a2,.int .i64 a3,.int .i64 a4,.int .i64 a5,.int .i64 a6,.string a7,.slice p1 p2 p3,.string a9] 24)).alloc (.cells #[.int .i64 a2,.int .i64 a3,.int .i64 a4] 3)).alloc (.cells #[.int .i64 a3,.int .i64 a4,.int .i64 a5,.int .i64 a6] 3)) := hk.alloc _
 clear hq hb
 simp only [ov]
 go_enter Tryz.func48,Tryz.ntmps48
 go_wp2
 go_loopw [13] (fun i wr => ∃ k : Nat,k ≤ 3 ∧ i = .int .i64 k ∧ wr = ((w.alloc (.cells #[.int .i64 7,.int .i64 a2,.int .i64 a3,.int .i64 a4,.int .i64 a5,.int .i64 a6,.string a7,.slice p1 p2 p3,.string a9] 24)).alloc (.cells #[.int .i64 a2,.int .i64 a3,.int .i64 a4] 3)) ∧ inK a2 a3 a4 k) (fun i _ => 3 - (intOf i).toNat)
 case atStart => exact ⟨0,by omega,rfl,rfl,fun h => by omega,fun h => by omega,fun h => by omega⟩
 case round =>
  obtain ⟨k,hk3,rfl,rfl,i1,i2,i3⟩ := hrel
  obtain rfl | rfl | rfl | rfl : k = 0 ∨ k = 1 ∨ k = 2 ∨ k = 3 := by omega
  ·cases c : inR a2
   ·have hA2 := hA.out
    rw [show rightO ⟨7,a2,a3,a4,a5,a6,a7,a8,a9⟩ = false by simp [rightO,c]] at hA2
    subst hA2
    clear hA i1 i2 i3 HZ hk2
    rcases inR_no c with c1 | ⟨c1,c2⟩
    ·clear c
     go_wp2
     go_ret
     exact ⟨rfl,hk⟩
    ·clear c
     go_wp2
     go_ret
     exact ⟨rfl,hk⟩
   ·have II : Hid (inK a2 a3 a4 1) := ⟨fun _ => c,fun _ => absurd ‹_› (by omega),fun _ => absurd ‹_› (by omega)⟩
    obtain ⟨c1,c2⟩ := inR_yes c
    clear c i1 i2 i3 hA HZ hk2 hk
    go_wp2
    go_roundw
    case rel => exact ⟨1,by omega,by first | rfl | go_num,by trivial,II.out⟩
    case measure => simp [intOf]
  ·cases c : inR a3
   ·have hA2 := hA.out
    rw [show rightO ⟨7,a2,a3,a4,a5,a6,a7,a8,a9⟩ = false by simp [rightO,c]] at hA2
    subst hA2
    clear hA i1 i2 i3 HZ hk2
    rcases inR_no c with c1 | ⟨c1,c2⟩
    ·clear c
     go_wp2
     go_ret
     exact ⟨rfl,hk⟩
    ·clear c
     go_wp2
     go_ret
     exact ⟨rfl,hk⟩
   ·have II : Hid (inK a2 a3 a4 2) := ⟨fun _ => i1 (by omega),fun _ => c,fun _ => absurd ‹_› (by omega)⟩
    obtain ⟨c1,c2⟩ := inR_yes c
    clear c i1 i2 i3 hA HZ hk2 hk
    go_wp2
    go_roundw
    case rel => exact ⟨2,by omega,by first | rfl | go_num,by trivial,II.out⟩
    case measure => simp [intOf]
  ·cases c : inR a4
   ·have hA2 := hA.out
    rw [show rightO ⟨7,a2,a3,a4,a5,a6,a7,a8,a9⟩ = false by simp [rightO,c]] at hA2
    subst hA2
    clear hA i1 i2 i3 HZ hk2
    rcases inR_no c with c1 | ⟨c1,c2⟩
    ·clear c
     go_wp2
     go_ret
     exact ⟨rfl,hk⟩
    ·clear c
     go_wp2
     go_ret
     exact ⟨rfl,hk⟩
   ·have II : Hid (inK a2 a3 a4 3) := ⟨fun _ => i1 (by omega),fun _ => i2 (by omega),fun _ => c⟩
    obtain ⟨c1,c2⟩ := inR_yes c
    clear c i1 i2 i3 hA HZ hk2 hk
    go_wp2
    go_roundw
    case rel => exact ⟨3,by omega,by first | rfl | go_num,by trivial,II.out⟩
    case measure => simp [intOf]
  ·have q1 := i1 (by omega)
   have q2 := i2 (by omega)
   have q3 := i3 (by omega)
   clear i1 i2 i3
   by_cases s1 : 0 ≤ a6
   ·by_cases s2 : a6 ≤ 2
    ·have hA2 := hA.out
     rw [show rightO ⟨7,a2,a3,a4,a5,a6,a7,a8,a9⟩ = zr [a3,a4,a5,a6] a7 a9 a8 by simp [rightO,rightK,q1,q2,q3,s1,s2]] at hA2
     subst hA2
     clear hA q1 q2 q3
     go_wp2_with (go_at_call 90; refine same_of HZ ?_)
     go_ret
     exact ⟨rfl,hk2⟩
    ·have hA2 := hA.out
     rw [show rightO ⟨7,a2,a3,a4,a5,a6,a7,a8,a9⟩ = false by simp [rightO,s2]] at hA2
     subst hA2
     clear hA q1 q2 q3 HZ hk2
     go_wp2
     go_ret
     exact ⟨rfl,hk⟩
   ·have hA2 := hA.out
    rw [show rightO ⟨7,a2,a3,a4,a5,a6,a7,a8,a9⟩ = false by simp [rightO,s1]] at hA2
    subst hA2
    clear hA q1 q2 q3 HZ hk2
    go_wp2
    go_ret
    exact ⟨rfl,hk⟩
def Told6 (w0 w : World) (s : Ws) (b off : Nat) (l : Lb) (k : Fo) : Prop := ∃ p,Cl w b off l p ∧ Nd Any w0 l k p ∧ (b < w0.heap.size ∨ b = s.L)
theorem Wb.kid {w0 w : World} {s : Ws} {l : Lb} {k : Fo} {p : Pl} (h : Wb w0 w s l k p) {a : Addr} {kk : Fo} {i : Nat} (hg : Lies w0 s.R s.L l k a kk) {l' : Lb} {k' : Fo} (e : kk.drop i = .cons l' k' (kk.drop (i + 1))) :
  ∃ b off bo m d b' off',a = ⟨b,off,none⟩ ∧ w.cell? ⟨b,off + 5,none⟩ = some (.slice bo m d) ∧ m = kk.len ∧ bo = some ⟨b',off',none⟩ ∧ Told6 w0 w s b' (off' + i * 6) l' k' ∧ Lies w0 s.R s.L l k ⟨b',off' + i * 6,none⟩ k' := by
 have low : ∀ {bo : Option Addr} {m d : Nat},Rt Any w0 bo m d kk → ∃ b' off',bo = some ⟨b',off',none⟩ ∧ Told6 w0 w s b' (off' + i * 6) l' k' ∧ Lies w0 s.R s.L l k ⟨b',off' + i * 6,none⟩ k' := fun {bo m d} h4 => by
  obtain ⟨p',b',off',_,rfl,h6,h7⟩ := h4.at e
  exact ⟨b',off',rfl,⟨p',h7.keep h.kp (by simp),h6,Or.inl h7.lt⟩,Or.inl (h7.at6 h6.kids)⟩
 rcases hg with hg | ⟨rfl,rfl⟩ | ⟨rfl,rfl⟩
 ·obtain ⟨b,off,cur,e',bo,m,d,rfl,h2,h3,h4⟩ := hg
  obtain ⟨b',off',rfl,h6,h7⟩ := low h4
  refine ⟨b,off,_,m,d,b',off',rfl,?_,h4.len,rfl,h6,h7⟩
  rw [cell_of (cur := cur) (e := e') ((h.kp.block b (Array.getElem?_eq_some_iff.1 h2).1 (by simp)).trans h2)]
  exact h3
 ·have hi : i = 0 := by
   have := congrArg Fo.len e
   rw [Fo.len_drop] at this
   simp at this
   omega
  subst hi
  rw [Fo.drop_zero] at e
  have e2 := e
  unfold Fo.cons at e2
  simp only [Fo.mk.injEq,heq_eq_eq,true_and] at e2
  obtain rfl := congrFun e2.1 rfl
  obtain rfl := congrFun e2.2.1 rfl
  exact ⟨s.R,0,_,1,1,s.L,0,rfl,cell_of h.root 5,rfl,rfl,⟨p,h.cl_top,h.node,Or.inr rfl⟩,Or.inr (Or.inr ⟨rfl,rfl⟩)⟩
 ·obtain ⟨b',off',h5,h6,h7⟩ := low h.node.kids
  exact ⟨s.L,0,_,_,_,b',off',rfl,h.cl_top.cells.2.2.2.2.2,h.node.klen,h5,h6,h7⟩
theorem Wb.list {w0 w : World} {s : Ws} {l : Lb} {k : Fo} {p : Pl} (h : Wb w0 w s l k p) {a : Addr} {kk : Fo} (hg : Lies w0 s.R s.L l k a kk) : ∃ b off bo m d,a = ⟨b,off,none⟩ ∧ w.cell? ⟨b,off + 5,none⟩ = some (.slice bo m d) ∧ m = kk.len := by
 obtain ⟨b,off,cur,e,bo,m,d,h1,h2,h3,h4⟩ := h.at_way hg
 exact ⟨b,off,bo,m,d,h1,by rw [cell_of h2]; exact h3,h4.len⟩
theorem cnt_drop {f : Fo} {i : Nat} {l : Lb} {k r : Fo} (e : f.drop i = .cons l k r) : k.cnt < f.cnt := by
 have h := congrArg Fo.cnt (Fo.take_drop i f)
 rw [Fo.cnt_app,e,Fo.cnt_cons] at h
 omega
def lenAt (w : World) (T : Nat) : Nat := match w.cell? ⟨T,0,none⟩ with
 | some (.slice _ n _) => n
 | _ => 0
def bit : Value → Nat
 | .bool true => 1
 | _ => 0
def Popd : List Frw → Option Addr → Int → Bool → Prop
 | [],ao,j,y => ao = none ∧ j = 0 ∧ y = false
 | f :: _,ao,j,y => ao = some f.1 ∧ j = f.2.2 ∧ y = true
theorem pop_any (w : World) (p : Nat) (v : Value) (gs : List Frw) (h : Pk 2 w 168 143 p v gs.length (plC gs)) (hl : gs.length < 100000) :
  Calls Tryz.prog 86 #[.pointer (some ⟨p,0,none⟩)] w fun e w' => ∃ ao j y v',e = .returned (.tuple #[.agg #[.pointer ao,.int .i64 j],.bool y]) ∧ Pk 2 w' 168 143 p v' gs.tail.length (plC gs.tail) ∧ Kp (p :: blk v) w w' ∧ (∀ x,x ∈ blk v' → x ∈ blk v ∨ w.heap.size ≤ x) ∧ Popd gs ao j y := by
 cases gs with
 | nil =>
   refine (pl_pop_none w p v _ h).mono ?_
   rintro e w' ⟨rfl,k2⟩
   exact ⟨_,_,_,v,rfl,h.keep k2 (by simp) (fun _ _ => by simp),k2.mono (fun x hx => by simp at hx),fun x hx => Or.inl hx,rfl,rfl,rfl⟩
 | cons f gs =>
   refine (pl_pop w p v gs.length (plC gs) f.1 f.2.2 h (by simp at hl; omega)).mono ?_
   rintro e w' ⟨rfl,v',t1,t2,t3⟩
   exact ⟨_,_,_,v',rfl,t1,t2,t3,rfl,rfl,rfl⟩
def Lp (w0 w : World) (s : Ws) (fs : List Frw) (l : Lb) (k : Fo) (x5 x6 : Value) (wr : World) : Prop :=
 ∃ q v gs ao j y,x5 = .pointer (some ⟨q,0,none⟩) ∧ x6 = .bool y ∧ wr.heap[q]? = some (.cells #[.pointer ao,.int .i64 j] 143 (0,0)) ∧ w.heap.size ≤ q ∧ q ∉ blk v ∧ Nx w wr s v ∧ Pk 2 wr 168 143 s.T v gs.tail.length (plC gs.tail) ∧ Popd gs ao j y ∧ Ks wr s.M (adC gs) ∧ Way6 w0 s.R s.L l k gs ∧ toC gs = toC fs
def NxPost (w0 w : World) (s : Ws) (fs : List Frw) (l : Lb) (k : Fo) (p : Pl) (e : Ending) (w' : World) : Prop :=
 (toC fs = [] ∧ e = .returned (.tuple #[.pointer none,.int .i64 0,.bool false]) ∧ ∃ v',Wk w0 w' (s.at v') [] l k p ∧ Nx w w' s v') ∨
 (∃ (d : Nat) (l' : Lb) (k' : Fo) (S : List Vt) (b off : Nat),toC fs = (d,l',k') :: S ∧ e = .returned (.tuple #[.pointer (some ⟨b,off,none⟩),.int .i64 d,.bool true]) ∧ Told6 w0 w' s b off l' k' ∧ ∃ v' fs',Wk w0 w' (s.at v') fs' l k p ∧ Nx w w' s v' ∧ toC fs' = S)
theorem lenAt_of {w : World} {T : Nat} {v : Value} {n : Nat} {xs : List Value} {K : Nat} {t e : TypeId} (h : Pk K w t e T v n xs) : lenAt w T = n := by
 obtain ⟨ao,c,rfl,hc,_⟩ := h.out
 unfold lenAt
 rw [hc]
theorem way_len {w0 : World} {r L : Nat} {l : Lb} {k : Fo} {gs : List Frw} (h : Way6 w0 r L l k gs) (hn : k.cnt ≤ 20000) : gs.length < 100000 := by
 cases gs with
 | nil => simp
 | cons f gs =>
   have := h.2.2.1
   rw [Fo.cnt_cons,Fo.cnt_nil] at this
   simp
   omega
theorem lp_start {w0 w w1 w2 : World} {s : Ws} {fs gs : List Frw} {l : Lb} {k : Fo} {p : Pl} (hb : Wb w0 w s l k p) {v v' : Value} (hn : Nx w w1 s v) (hk : Ks w1 s.M (adC gs)) (hw : Way6 w0 s.R s.L l k gs) (ht : toC gs = toC fs) {ao : Option Addr} {j : Int} {y : Bool}
  (h1 : Pk 2 w2 168 143 s.T v' gs.tail.length (plC gs.tail)) (h2 : Kp (s.T :: blk v) w1 w2) (h3 : ∀ x,x ∈ blk v' → x ∈ blk v ∨ w1.heap.size ≤ x) (h4 : Popd gs ao j y) (hv : ∀ x,x ∈ blk v → x < w1.heap.size) :
  Nx w w2 s v' ∧ Ks w2 s.M (adC gs) := by
 have hmv : s.M ∉ s.T :: blk v := fun hx => by
  rcases List.mem_cons.1 hx with h | h
  ·exact hb.apart.2.2.2.2.1 h.symm
  ·rcases hn.2 _ h with h | h
   ·exact (hb.apv _ h).2.2.1 rfl
   ·have := hb.lt s.M (by simp [Ws.own]); omega
 refine ⟨?_,hk.keep h2 hmv⟩
 have hn2 : Nx w1 w2 (s.at v) v' := ⟨h2.mono (fun x hx => by
  rcases List.mem_cons.1 hx with rfl | h
  ·exact Or.inl (by simp [Ws.at])
  ·exact Or.inl (by simp [Ws.at,h])),h3⟩
 exact hn.trans hn2
theorem next_any (w0 w : World) (s : Ws) (fs : List Frw) (l : Lb) (k : Fo) (p : Pl) (h : Wk w0 w s fs l k p) :
  Calls Tryz.prog 45 #[.pointer (some ⟨s.P,0,none⟩)] w fun e w' => NxPost w0 w s fs l k p e w' := by
 obtain ⟨hP,hT⟩ : s.P < w.heap.size ∧ s.T < w.heap.size := ⟨h.b.lt s.P (by simp [Ws.own]),h.b.lt s.T (by simp [Ws.own])⟩
 have hcp : w.cell? ⟨s.P,0,none⟩ = some (.pointer (some ⟨s.T,0,none⟩)) := cell_of h.b.walk 0
 have HPP := pop_any w s.T s.v fs h.pile (way_len h.way h.b.few)
 have HB : Hid (Wb w0 w s l k p) := h.b
 have HS : Hid (∀ w2 ao j y v',Pk 2 w2 168 143 s.T v' fs.tail.length (plC fs.tail) → Kp (s.T :: blk s.v) w w2 → (∀ x,x ∈ blk v' → x ∈ blk s.v ∨ w.heap.size ≤ x) → Popd fs ao j y → Lp w0 w s fs l k (.pointer (some ⟨w2.heap.size,0,none⟩)) (.bool y) (w2.alloc (.cells #[.pointer ao,.int .i64 j] 143))) := fun w2 ao j y v' p1 p2 p3 p4 => by
  obtain ⟨n1,k1⟩ := lp_start h.b (Nx.refl w s) h.keys h.way rfl p1 p2 p3 p4 h.pile.2.1.lt
  have hlt := p1.2.1.lt
  exact ⟨_,v',fs,ao,j,y,rfl,rfl,heap_new _ _,p2.size,fun hx => by have := hlt _ hx; omega,⟨n1.1.alloc _,n1.2⟩,p1.keep ((Kp.refl [] _).alloc _) (by simp) (fun _ _ => by simp),p4,k1.keep ((Kp.refl [] _).alloc _) (by simp),h.way,rfl⟩
 clear h
 go_enter Tryz.func45,Tryz.ntmps45
 go_wp2_with (go_at_call 86; refine HPP.mono ?_; rintro e w2 ⟨ao,j,y,v',rfl,p1,p2,p3,p4⟩)
 go_loopw [5,6] (fun x5 x6 wr => Lp w0 w s fs l k x5 x6 wr) (fun x5 x6 wr => lenAt wr s.T + bit x6)
 case atStart => exact HS.out _ _ _ _ _ p1 p2 p3 p4
 case round =>
  clear HS HPP p1 p2 p3 p4 hcp
  obtain ⟨q,v,gs,ao,j,y,rfl,rfl,hq,hqs,hqv,hn,hp,hd,hk,hw,ht⟩ := hrel
  cases gs with
  | nil =>
    obtain ⟨rfl,rfl,rfl⟩ := hd
    have HF : Hid (NxPost w0 w s fs l k p (.returned (.tuple #[.pointer none,.int .i64 0,.bool false])) wr) := Or.inl ⟨ht.symm,rfl,v,Wk.step HB.out hn hp hk hw,hn⟩
    clear hq hn hp hk hw ht
    go_wp2
    go_ret3
    exact HF.out
  | cons f gs =>
    obtain ⟨a,kk,i⟩ := f
    obtain ⟨rfl,rfl,rfl⟩ := hd
    have hB := HB.out.step hn hp.2.1.lt
    obtain ⟨b,off,bo,m,d,rfl,hc5,hm0⟩ := hB.list hw.1
    have hm : m = kk.len := hm0
    clear hm0
    have hvl : ∀ x,x ∈ blk v → x < wr.heap.size := hp.2.1.lt
    have hql : q < wr.heap.size := (Array.getElem?_eq_some_iff.1 hq).1
    have hPl : s.P < wr.heap.size := hB.lt s.P (by simp [Ws.own,Ws.at])
    have hTl : s.T < wr.heap.size := hB.lt s.T (by simp [Ws.own,Ws.at])
    have hMl : s.M < wr.heap.size := hB.lt s.M (by simp [Ws.own,Ws.at])
    have hap := HB.out.apart
    have hq1 : q ≠ s.P := fun e => by omega
    have hq2 : q ≠ s.T := fun e => by omega
    have hq3 : q ≠ s.M := fun e => by have := HB.out.lt s.M (by simp [Ws.own]); omega
    have cp0 : wr.cell? ⟨s.P,0,none⟩ = some (.pointer (some ⟨s.T,0,none⟩)) := cell_of hB.walk 0
    have cp1 : wr.cell? ⟨s.P,1,none⟩ = some (.map (some s.M)) := cell_of hB.walk 1
    have cq0 : wr.cell? ⟨q,0,none⟩ = some (.pointer (some ⟨b,off,none⟩)) := cell_of hq 0
    have cq1 : wr.cell? ⟨q,1,none⟩ = some (.int .i64 (i : Int)) := cell_of hq 1
    have hsm : m < 100000 := by
     have h1 := hw.2.2.1
     have h2 := Fo.len_le_cnt kk
     have h3 := HB.out.few
     rw [Fo.cnt_cons,Fo.cnt_nil] at h1
     simp only at h1
     omega
    by_cases hi : i = kk.len
    ·obtain rfl : m = i := by omega
     have hA := hB.at_way hw.1
     have hnot := hB.fresh hw.2.2.2.2 hA hw.2.2.2.1
     have inbW : ∀ W,Kp [] wr W → ∀ x,Inb wr x → Inb W x := fun W kW x ⟨cur,e,hx⟩ => ⟨cur,e,by rw [kW.block _ (Array.getElem?_eq_some_iff.1 hx).1 (by simp)]; exact hx⟩
     have HD : Hid (∀ W,Kp [] wr W → ∃ w2,(∀ ty,(Builtin.delete_ #[144,80] ty #[.map (some s.M),.pointer (some ⟨b,off,none⟩)]).run Tryz.prog W = .ok (.tuple #[]) w2) ∧ Ks w2 s.M (adC gs) ∧ Kp [s.M] W w2) := fun W kW =>
      Ks.del _ (hk.keep kW (by simp)) (inbW W kW _ hA.inb) (fun x hx => inbW W kW x (hB.inb hw.2.2.2.2 x hx)) hnot
     have HC : Hid (∀ W,Kp [s.M] wr W → (W.cell? ⟨s.P,1,none⟩ = some (.map (some s.M)) ∧ W.cell? ⟨q,0,none⟩ = some (.pointer (some ⟨b,off,none⟩)))) := fun W kW =>
      ⟨(kW.cell hPl (by simp; exact hap.2.1)).trans cp1,(kW.cell hql (by simp; exact hq3)).trans cq0⟩
     have HE : Hid (Nx w wr s v ∧ Pk 2 wr 168 143 s.T v gs.length (plC gs) ∧ Way6 w0 s.R s.L l k gs ∧ toC gs = toC fs) := ⟨hn,hp,hw.2.2.2.2,by
      have h1 : kk.drop m = .nil := Fo.len_zero.1 (by rw [Fo.len_drop]; omega)
      rw [← ht]
      simp only [toC,h1,vis_nil,List.nil_append]⟩
     have HW : Hid (Wb w0 wr (s.at v) l k p) := hB
     have HQ : Hid (wr.heap[q]? = some (.cells #[.pointer (some ⟨b,off,none⟩),.int .i64 (m : Int)] 143 (0,0))) := hq
     clear hn hp hw ht hk hA hnot inbW hB hq hm hi hsm
     go_wp2_with fail
     go_quiet (fail)
     go_wp2_with fail
     obtain ⟨w2,hdel,ks2,k2⟩ := HD.out (wr.drewN nq).drew ((Kp.refl _ _).drewN nq).drew
     have K2 : Hid (Kp [s.M] wr w2) := (((Kp.refl [s.M] wr).drewN nq).drew).trans k2 (fun x hx => Or.inl hx)
     have KS : Hid (Ks w2 s.M (adC gs)) := ks2
     clear ks2 k2
     go_region_held3 (fun w' => w'.cell? ⟨s.P,1,none⟩ = some (.map (some s.M)) ∧ w'.cell? ⟨q,0,none⟩ = some (.pointer (some ⟨b,off,none⟩)))
      (first
       | exact HC.out _ K2.out
       | exact HC.out _ ((Kp.refl _ _).drewN nq).drew)
      (first | refine step_delR (by rfl) _ _ _ _ (by rfl) _ _ (by rfl) (by rfl) hdel ?_)
     have d0 : w2.cell? ⟨s.P,0,none⟩ = some (.pointer (some ⟨s.T,0,none⟩)) := (K2.out.cell hPl (by simp; exact hap.2.1)).trans cp0
     have e0 : w2.cell? ⟨q,0,none⟩ = some (.pointer (some ⟨b,off,none⟩)) := (K2.out.cell hql (by simp; exact hq3)).trans cq0
     have e1 : w2.cell? ⟨q,1,none⟩ = some (.int .i64 (m : Int)) := (K2.out.cell hql (by simp; exact hq3)).trans cq1
     have hPl2 : s.P < w2.heap.size := Nat.lt_of_lt_of_le hPl K2.out.size
     have HPOP : Hid (Calls Tryz.prog 86 #[.pointer (some ⟨s.T,0,none⟩)] (w2.alloc (.cells #[.pointer (some ⟨b,off,none⟩),.int .i64 (m : Int)] 143)) fun e w' => ∃ ao j y v',e = .returned (.tuple #[.agg #[.pointer ao,.int .i64 j],.bool y]) ∧ Pk 2 w' 168 143 s.T v' gs.tail.length (plC gs.tail) ∧ Kp (s.T :: blk v) (w2.alloc (.cells #[.pointer (some ⟨b,off,none⟩),.int .i64 (m : Int)] 143)) w' ∧ (∀ x,x ∈ blk v' → x ∈ blk v ∨ (w2.alloc (.cells #[.pointer (some ⟨b,off,none⟩),.int .i64 (m : Int)] 143)).heap.size ≤ x) ∧ Popd gs ao j y) :=
      pop_any _ s.T v gs ((HE.out.2.1.keep K2.out (by simp; exact hap.2.2.2.2.1) (fun x hx => by simp; intro e; exact (HW.out.apv x hx).2.2.1 e)).keep ((Kp.refl [] _).alloc _) (by simp) (fun _ _ => by simp)) (way_len HE.out.2.2.1 HB.out.few)
     have HN : Hid (∀ w3 ao j y v',Pk 2 w3 168 143 s.T v' gs.tail.length (plC gs.tail) → Kp (s.T :: blk v) (w2.alloc (.cells #[.pointer (some ⟨b,off,none⟩),.int .i64 (m : Int)] 143)) w3 → (∀ x,x ∈ blk v' → x ∈ blk v ∨ (w2.alloc (.cells #[.pointer (some ⟨b,off,none⟩),.int .i64 (m : Int)] 143)).heap.size ≤ x) → Popd gs ao j y →
       w3.heap[w2.heap.size]? = some (.cells #[.pointer (some ⟨b,off,none⟩),.int .i64 (m : Int)] 143 (0,0)) ∧
       (Lp w0 w s fs l k (.pointer (some ⟨w2.heap.size,0,none⟩)) (.bool y) ((w3.setCell ⟨w2.heap.size,0,none⟩ (.pointer ao)).setCell ⟨w2.heap.size,1,none⟩ (.int .i64 j)) ∧ lenAt ((w3.setCell ⟨w2.heap.size,0,none⟩ (.pointer ao)).setCell ⟨w2.heap.size,1,none⟩ (.int .i64 j)) s.T + bit (.bool y) < lenAt wr s.T + 1)) := fun w3 ao j y v' p1 p2 p3 p4 => by
      obtain ⟨n0,q0,w00,t0⟩ := HE.out
      have hs2 := K2.out.size
      have hTn : s.T ≠ w2.heap.size := by omega
      have hvn : ∀ x,x ∈ blk v → x ≠ w2.heap.size := fun x hx e => by have := hvl x hx; omega
      have hb3 : w3.heap[w2.heap.size]? = some (.cells #[.pointer (some ⟨b,off,none⟩),.int .i64 (m : Int)] 143 (0,0)) := (p2.block _ (by simp) (fun hx => by
       rcases List.mem_cons.1 hx with h | h
       ·exact hTn h.symm
       ·exact hvn _ h rfl)).trans (heap_new _ _)
      have n2 : Nx w (w2.alloc (.cells #[.pointer (some ⟨b,off,none⟩),.int .i64 (m : Int)] 143)) s v := n0.trans (s := s) (v1 := v) ⟨(K2.out.alloc _).mono (fun x hx => Or.inl (by simp at hx; simp [Ws.at,hx])),fun x hx => Or.inl hx⟩
      obtain ⟨n3,k3⟩ := lp_start HB.out n2 (KS.out.keep ((Kp.refl [] _).alloc _) (by simp)) w00 t0 p1 p2 p3 p4 (fun x hx => by have := hvl x hx; simp; omega)
      have hx3 : Kp [w2.heap.size] w3 ((w3.setCell ⟨w2.heap.size,0,none⟩ (.pointer ao)).setCell ⟨w2.heap.size,1,none⟩ (.int .i64 j)) := ((Kp.refl _ _).setCell (Or.inl (by simp)) _).setCell (Or.inl (by simp)) _
      have hv' : ∀ x,x ∈ blk v' → x ≠ w2.heap.size := fun x hx e => by
       rcases p3 x hx with h1 | h1
       ·exact hvn x h1 e
       ·simp at h1; omega
      have pk : Pk 2 ((w3.setCell ⟨w2.heap.size,0,none⟩ (.pointer ao)).setCell ⟨w2.heap.size,1,none⟩ (.int .i64 j)) 168 143 s.T v' gs.tail.length (plC gs.tail) := p1.keep hx3 (by simp; exact hTn) (fun x hx => by simp; exact hv' x hx)
      have hws : w.heap.size ≤ w2.heap.size := by omega
      refine ⟨hb3,⟨w2.heap.size,v',gs,ao,j,y,rfl,rfl,by rw [setCell_block (setCell_block hb3 _ _)]; rfl,hws,fun hx => hv' _ hx rfl,⟨(n3.1.setCell (p := ⟨w2.heap.size,0,none⟩) (Or.inr hws) _).setCell (p := ⟨w2.heap.size,1,none⟩) (Or.inr hws) _,n3.2⟩,pk,p4,k3.keep hx3 (by simp; omega),w00,t0⟩,?_⟩
      rw [lenAt_of pk,lenAt_of q0]
      cases gs with
      | nil => obtain ⟨_,_,rfl⟩ := p4; simp [bit]
      | cons g gs => obtain ⟨_,_,rfl⟩ := p4; simp [bit]
     clear HD HC HE HW KS hc5 HQ hdel cp0 cp1 cq0 cq1
     go_wp2_with (go_at_call 86; refine HPOP.out.mono ?_; rintro e w3 ⟨ao,j,y,v3,rfl,p1,p2,p3,p4⟩; have B3 : Hid _ := HN.out _ _ _ _ _ p1 p2 p3 p4; have c30 : w3.cell? ⟨w2.heap.size,0,none⟩ = some (.pointer (some ⟨b,off,none⟩)) := cell_of B3.out.1 0; have c31 : w3.cell? ⟨w2.heap.size,1,none⟩ = some (.int .i64 (m : Int)) := cell_of B3.out.1 1; have f30 := frozen_of B3.out.1 0; have f31 := frozen_of B3.out.1 1; clear p1 p2 p3 p4)
     go_roundw
     case rel => exact B3.out.2.1
     case measure => exact B3.out.2.2
    ·have hil : i < kk.len := by have := hw.2.1; simp only at this; omega
     obtain ⟨l',k',hdr⟩ := Fo.at_lt hil
     have hne : ((i : Int) == (m : Int)) = false := by simp; omega
     have hwr : IntKind.i64.wrap ((i : Int) + 1) = (i : Int) + 1 := by
      have : (i : Int) < 100000 := by omega
      simp [IntKind.wrap,IntKind.bits,IntKind.signed]
      omega
     have HPU : Hid (∀ W,Kp [] wr W → Calls Tryz.prog 88 #[.pointer (some ⟨s.T,0,none⟩),.agg #[.pointer (some ⟨b,off,none⟩),.int .i64 ((i : Int) + 1)]] W fun e w' => e = .returned (.tuple #[]) ∧ Tk 2 W w' 168 143 s.T v (gs.length + 1) (plC gs ++ pc ⟨b,off,none⟩ ((i : Int) + 1))) := fun W kW =>
      pl_push W s.T v gs.length (plC gs) ⟨b,off,none⟩ ((i : Int) + 1) (hp.keep kW (by simp) (fun _ _ => by simp)) (by have := way_len hw.2.2.2.2 HB.out.few; omega)
     have HLN : Hid (∀ W,Kp [] wr W → Calls Tryz.prog 87 #[.pointer (some ⟨s.T,0,none⟩)] W fun e w' => e = .returned (.int .i64 (gs.length : Nat)) ∧ w' = W) := fun W kW =>
      pl_len W s.T v gs.length (plC gs) (hp.keep kW (by simp) (fun _ _ => by simp))
     have hPn : s.P ∉ s.T :: blk v := fun hx => by
      rcases List.mem_cons.1 hx with h | h
      ·exact hap.1 h
      ·exact (hB.apv _ h).1 rfl
     have hqn : q ∉ s.T :: blk v := fun hx => by
      rcases List.mem_cons.1 hx with h | h
      ·exact hq2 h
      ·exact hqv h
     have HC : Hid (∀ W,Kp (s.T :: blk v) wr W → (W.cell? ⟨s.P,0,none⟩ = some (.pointer (some ⟨s.T,0,none⟩)) ∧ W.cell? ⟨q,0,none⟩ = some (.pointer (some ⟨b,off,none⟩)) ∧ W.cell? ⟨q,1,none⟩ = some (.int .i64 (i : Int)))) := fun W kW =>
      ⟨(kW.cell hPl hPn).trans cp0,(kW.cell hql hqn).trans cq0,(kW.cell hql hqn).trans cq1⟩
     have HG : Hid (∀ W w3,Kp [] wr W → Tk 2 W w3 168 143 s.T v (gs.length + 1) (plC gs ++ pc ⟨b,off,none⟩ ((i : Int) + 1)) → ∃ v3,Nx w w3 s v3 ∧ Wk w0 w3 (s.at v3) ((⟨b,off,none⟩,kk,i + 1) :: gs) l k p) := fun W w3 kW ⟨v3,t1,t2,t3⟩ => by
      have n3 : Nx w w3 s v3 := hn.trans (v1 := v) ⟨(kW.mono (fun x hx => by simp at hx)).trans t2 (fun x hx => by
       rcases List.mem_cons.1 hx with rfl | h
       ·exact Or.inl (by simp [Ws.at])
       ·exact Or.inl (by simp [Ws.at,h])),fun x hx => by
       rcases t3 x hx with h | h
       ·exact Or.inl h
       ·have := kW.size; exact Or.inr (by omega)⟩
      have hM3 : s.M ∉ s.T :: blk v := fun hx => by
       rcases List.mem_cons.1 hx with h | h
       ·exact hap.2.2.2.2.1 h.symm
       ·exact (hB.apv _ h).2.2.1 rfl
      exact ⟨v3,n3,Wk.step HB.out n3 t1 ((hk.keep kW (by simp)).keep t2 hM3) ⟨hw.1,hil,hw.2.2.1,hw.2.2.2.1,hw.2.2.2.2⟩⟩
     have HK : Hid (∀ w3 v3,Wk w0 w3 (s.at v3) ((⟨b,off,none⟩,kk,i + 1) :: gs) l k p → ∃ bo1 m1 d1 b' off',w3.cell? ⟨b,off + 5,none⟩ = some (.slice bo1 m1 d1) ∧ m1 = m ∧ bo1 = some ⟨b',off',none⟩ ∧ Told6 w0 w3 (s.at v3) b' (off' + i * 6) l' k' ∧ Lies w0 s.R s.L l k ⟨b',off' + i * 6,none⟩ k') := fun w3 v3 h3 => by
      obtain ⟨b1,off1,bo1,m1,d1,b',off',ea,g1,g2,g3,g4,g5⟩ := h3.b.kid hw.1 hdr
      simp only [Addr.mk.injEq,and_true] at ea
      obtain ⟨rfl,rfl⟩ := ea
      have g2' : m1 = kk.len := g2
      exact ⟨bo1,m1,d1,b',off',g1,by omega,g3,g4,g5⟩
     have HT : Hid (toC fs = (gs.length,l',k') :: (k'.vis (gs.length + 1) ++ toC ((⟨b,off,none⟩,kk,i + 1) :: gs))) := by
      rw [← ht]
      show (kk.drop i).vis gs.length ++ toC gs = (gs.length,l',k') :: (k'.vis (gs.length + 1) ++ ((kk.drop (i + 1)).vis gs.length ++ toC gs))
      rw [hdr,vis_cons,List.cons_append,List.append_assoc]
     have HW6 : Hid ((∀ g,g ∈ ((⟨b,off,none⟩,kk,i + 1) :: gs : List Frw) → k'.cnt < g.2.1.cnt) ∧ ((⟨b,off,none⟩,kk,i + 1) :: gs : List Frw).length + k'.cnt ≤ (Fo.cons l k .nil).cnt) := by
      have h1 := cnt_drop hdr
      refine ⟨fun g hg => ?_,?_⟩
      ·rcases List.mem_cons.1 hg with rfl | hg
       ·exact h1
       ·have := hw.2.2.2.1 g hg; simp only at this; omega
      ·have := hw.2.2.1; simp only at this; simp only [List.length_cons]; omega
     clear hn hp hw ht hk hB hq hi hPn hqn
     go_wp2_with fail
     go_quiet (fail)
     go_wp2_with (go_at_call 87; refine (HLN.out _ ((Kp.refl _ _).drewN nq)).mono ?_; rintro e w' ⟨rfl,rfl⟩)
     go_region_held3 (fun w' => w'.cell? ⟨s.P,0,none⟩ = some (.pointer (some ⟨s.T,0,none⟩)) ∧ w'.cell? ⟨q,0,none⟩ = some (.pointer (some ⟨b,off,none⟩)) ∧ w'.cell? ⟨q,1,none⟩ = some (.int .i64 (i : Int)))
      (first
       | exact HC.out _ K3.out
       | exact HC.out _ ((Kp.refl _ _).drewN nq).drew)
      (first | (go_at_call 88; refine (HPU.out _ ((Kp.refl _ _).drewN nq).drew).mono ?_; rintro e w3 ⟨rfl,T3⟩; have K3 : Hid (Kp (s.T :: blk v) wr w3) := (((Kp.refl (s.T :: blk v) wr).drewN nq).drew).trans (T3.choose_spec.2.1) (fun x hx => Or.inl hx)))
     obtain ⟨v3,n3,k3⟩ := HG.out _ _ ((Kp.refl _ _).drewN nq).drew T3
     obtain ⟨_,m1,d1,b',off',c5,rfl,rfl,t6,l6⟩ := HK.out _ _ k3
     have HEn : Hid (∀ W,Kp [] w3 W → Calls Tryz.prog 85 #[.pointer (some ⟨s.P,0,none⟩),.pointer (some ⟨b',off' + i * 6,none⟩)] W fun e w' => e = .returned (.tuple #[]) ∧ NxPost w0 w s fs l k p (.returned (.tuple #[.pointer (some ⟨b',off' + i * 6,none⟩),.int .i64 (gs.length : Nat),.bool true])) w') := fun W kW => by
      have kW3 := k3.other kW (fun x hx => by simp at hx) (fun x hx => by simp)
      obtain ⟨p',tc,tn,tb⟩ := t6
      have tcW := tc.keep kW (by simp)
      refine (enterR_any w0 W (s.at v3) _ l k p kW3 b' (off' + i * 6) _ _ _ k' tcW.cells.2.2.2.2.2 tn.klen l6 HW6.out.1 HW6.out.2).mono ?_
      rintro e w4 ⟨rfl,v4,k4,n4⟩
      have n34 : Nx w w4 s v4 := n3.trans (v1 := v3) ⟨(kW.mono (fun x hx => by simp at hx)).trans n4.1 (fun x hx => Or.inl hx),fun x hx => by
       rcases n4.2 x hx with h | h
       ·exact Or.inl h
       ·have := kW.size; exact Or.inr (by omega)⟩
      have hbn : b' ∉ s.T :: s.M :: blk v3 := fun hx => by
       rcases tb with h | h
       ·have h1 : b' ∈ (s.at v3).own := by
         simp only [List.mem_cons] at hx
         rcases hx with rfl | rfl | hx
         ·simp [Ws.own,Ws.at]
         ·simp [Ws.own,Ws.at]
         ·simp [Ws.own,Ws.at,hx]
        have := k3.b.new b' h1
        omega
       ·have h : b' = s.L := h
        subst h
        simp only [List.mem_cons] at hx
        rcases hx with h | h | h
        ·exact hap.2.2.2.2.2.2.1 h.symm
        ·exact hap.2.2.2.2.2.2.2.2.1 h.symm
        ·exact (k3.b.apv _ h).2.2.2.2 rfl
      refine ⟨rfl,Or.inr ⟨gs.length,l',k',_,b',off' + i * 6,HT.out,rfl,⟨p',tcW.keep n4.1 hbn,tn,tb⟩,v4,_,k4,n34,?_⟩⟩
      split
      ·rename_i h0
       rw [Fo.len_zero.1 h0,vis_nil]; rfl
      ·show (k'.drop 0).vis _ ++ toC _ = _
       rw [Fo.drop_zero]; rfl
     obtain ⟨dP,dq0,dq1⟩ := HC.out _ K3.out
     have i1 : (0 : Int) ≤ (i : Int) := by omega
     have i2 : (i : Int) < (m1 : Int) := by omega
     have i3 : i < m1 := by omega
     clear HPU HLN HC HG HK HW6 T3 n3 k3 t6 l6 cp0 cp1 cq0 cq1 hc5 HT
     go_wp2_with fail
     go_quiet (fail)
     go_wp2_with (go_at_call 85; refine (HEn.out _ ((Kp.refl _ _).drewN nq)).mono ?_; rintro e w4 ⟨rfl,F4⟩)
     go_ret3
     exact F4
end Go.Proofs.YtpkppobkagdhkaaGreat
