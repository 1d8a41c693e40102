/-
 BytW.
-/
import Derived.Test.YtpkppobkagdhkaaGreatB48
set_option linter.unusedVariables false
set_option linter.unusedSimpArgs false
set_option maxRecDepth 100000
set_option maxHeartbeats 1000000
namespace Go.Proofs.YtpkppobkagdhkaaGreat
open Go.RowKit Go.Maps Utf
theorem Mq.ryb {w w' : World} {ao : Option Addr} {n c : Nat} {q : List Oq} {F : Nat → Rx} {m : Nat} (h : Mq w w' ao n c q) (hq : os q = somF F m true) (hm : m ≤ 50) : Ry w' ao n c q ∧ n ≤ 50 ∧ Py.Done Py.first (os q) ∧ ∀ o,o ∈ os q → tinyO o := by
 have ht : ∀ p,p ∈ q → tinyO p.1 := fun p hp => lis_tiny (F := F) (m := m) (somF_mem (fine := true) (by rw [← hq]; exact List.mem_map.2 ⟨p,hp,rfl⟩))
 refine ⟨⟨h.rq,fun p hp => Rk.of_own (h.ar p hp) rfl (fun _ _ => trivial),ht⟩,?_,?_,fun o ho => ?_⟩
 ·have h1 := h.len
  have h2 : (os q).length = n := by rw [List.length_map]; exact h1.symm
  rw [hq] at h2
  have h3 : (lis F m).length = m := by simp [lis]
  unfold somF at h2
  rw [if_pos rfl] at h2
  have := Py.fil_len (lis F m) Py.first
  omega
 ·rw [hq]
  unfold somF
  rw [if_pos rfl]
  exact Py.done_fil _ _
 ·obtain ⟨p,hp,rfl⟩ := List.mem_map.1 ho
  exact ht p hp
abbrev t6 (l : Lb) (p : Pl) : Array Value := #[.int .i64 l.kind,.int .i64 l.ns,.string l.name,.slice p.1.1 p.1.2.1 p.1.2.2,.string l.text,.slice p.2.1 p.2.2.1 p.2.2.2]
theorem bytes_walk (w : World) (ao : Option Addr) (n c : Nat) (F : Nat → Rx) (hin : Xin w ao n c F) (cut : Int) :
  Calls Tryz.prog 6 #[.slice ao n c,.int .i64 cut] w fun e w' => e = .returned (.bool true) ∧ Kp [] w w' := by
 have H1 := some_any w ao n c F hin true
 clear hin
 go_enter Tryz.func6,Tryz.ntmps6
 go_upto_region 2 with (go_at_call 11; refine H1.mono ?_; rintro e W1 ⟨a1,n1,c1,q,rfl,m1,e1⟩)
 obtain ⟨ry1,hn1,hd,ht⟩ := m1.ryb e1 (Nat.min_le_right _ _)
 have k01 : Hid (Kp [] w W1) := m1.kp
 have HE := enc_ok m1 rfl ht hd hn1
 have HD1 : Hid (∀ V,Kp [] W1 V → Calls Tryz.prog 18 #[.slice a1 n1 c1] V fun e w' => ∃ a tag,e = .returned (.tuple #[.pointer (some ⟨a,0,none⟩),.int .i64 (n1 : Int),.int .i64 0]) ∧ Ps tag w' a (fib (os q)).q (fib (os q)).A n1 ∧ Kp [] V w') := fun V kV => play_ok (ry1.kept kV) rfl (by omega) hd
 have HD2 : Hid (∀ V0 V2 a n2 c2 L,Mq V0 V2 a n2 c2 L → os L = os q → n2 = n1 → ∀ V,Kp [] V2 V → Calls Tryz.prog 18 #[.slice a n2 c2] V fun e w' => ∃ a tag,e = .returned (.tuple #[.pointer (some ⟨a,0,none⟩),.int .i64 (n2 : Int),.int .i64 0]) ∧ Ps tag w' a (fib (os q)).q (fib (os q)).A n1 ∧ Kp [] V w') := fun V0 V2 a n2 c2 L M hL h2 V kV => by
  subst h2
  have r : Ry V2 a n2 c2 L := ⟨M.rq,fun p hp => Rk.of_own (M.ar p hp) rfl (fun _ _ => trivial),fun p hp => ht _ (by rw [← hL]; exact List.mem_map.2 ⟨p,hp,rfl⟩)⟩
  exact play_ok (r.kept kV) hL (by omega) hd
 have hcap := ry1.rq.cap
 obtain ⟨z,hz,HW⟩ : ∃ z : Nat,z ≤ n1 ∧ Hid (∀ V,Calls Tryz.prog 22 #[.int .i64 cut,.int .i64 0,.int .i64 (n1 : Int)] V fun e w' => e = .returned (.int .i64 (z : Int)) ∧ w' = V) := by
  refine ⟨wi cut n1,wi_le cut n1,fun V => ?_⟩
  have h := within_any V cut 0 n1 (by omega) (by omega)
  rw [Nat.zero_add] at h
  exact h
 have HC : Hid (∀ V,Kp [] W1 V → Calls Tryz.prog 24 #[.slice a1 z c1] V fun e w' => e = .returned (.int .i64 0) ∧ Kp [] V w') := fun V kV => check_upto (ry1.kept kV) rfl (by omega) hd z hz
 clear H1 m1 e1 ry1 hd ht
 generalize fib (os q) = s at *
 have HPu : Hid (∀ V tag a,Ps tag V a s.q s.A n1 → Calls Tryz.prog 14 #[.pointer (some ⟨a,0,none⟩),.int .i64 0] V fun e W => ∃ p : Pl,e = .returned (.tuple #[.agg (t6 (s.A.lb 0) p),.int .i64 0]) ∧ Kp [] V W ∧ Nd Any W (s.A.lb 0) (s.A.below 0) p ∧ okT (s.A.lb 0) (s.A.below 0)) := fun V tag a P => by
  refine (P.pure 0 P.ful.toOk.pos).mono ?_
  rintro e W ⟨p,rfl,k1,n1⟩
  exact ⟨p,rfl,k1,n1.any,P.okT (by omega) 0⟩
 have HTt : Hid (∀ V p p',okT (s.A.lb 0) (s.A.below 0) → Nd Any V (s.A.lb 0) (s.A.below 0) p → Nd Any V (s.A.lb 0) (s.A.below 0) p' → Calls Tryz.prog 23 #[.agg (t6 (s.A.lb 0) p),.agg (t6 (s.A.lb 0) p')] V fun e w' => e = .returned (.bool true) ∧ Kp [] V w') := fun V p p' ho n1 n2 => by
  have := tsame_any V _ _ p _ _ p' n1 n2 ho ho
  rw [(sameT_iff _ _ _ _).2 ⟨rfl,rfl⟩] at this
  exact this
 have z0 : (0 : Int) ≤ (z : Int) := by omega
 have z1 : (z : Int) ≤ (c1 : Int) := by omega
 have z2 : z ≤ c1 := by omega
 clear hcap
 go_upto_region 3 with (go_at_call 20; refine HE.mono ?_; rintro e WE ⟨aE,nE,cE,rfl,kE,HDc⟩)
 go_upto_region 4 with (go_at_call 21; refine HDc.mono ?_; rintro e W2 ⟨a2,n2,c2,L2,rfl,M2,hL2,hn2⟩)
 subst hn2
 have K2 := kE.trans M2.kp (fun z hz => Or.inl hz)
 have HD4 := HD1.out _ K2
 have HD5 : Hid _ := HD2.out _ _ _ _ _ _ M2 hL2 rfl
 clear HE HDc M2 hL2 kE HD1 HD2
 go_upto_region 5 with (go_at_call 18; refine HD4.mono ?_; rintro e W3 ⟨a3,tag3,rfl,PR,k23⟩)
 have HD6 := HD5.out _ k23
 have K3 := K2.trans k23 (fun z hz => Or.inl hz)
 clear HD4 HD5 K2 k23
 go_upto_region 6 with (go_at_call 18; refine HD6.mono ?_; rintro e W4 ⟨a4,tag4,rfl,PR2,k34⟩)
 have K4 := K3.trans k34 (fun z hz => Or.inl hz)
 have HP4 := HPu.out _ _ _ (PR.kept k34)
 clear HD6 K3 k34 PR
 go_upto_region 8 with fail
 go_upto_region 9 with (go_at_call 14; refine HP4.mono ?_; rintro e W5 ⟨p,rfl,k4,n4,ho4⟩)
 have k45 := k4.alloc (.cells (t6 (s.A.lb 0) p) 40)
 have A5 := At.new W5 (t6 (s.A.lb 0) p) 40
 have n4' := n4.kept ((Kp.refl [] _).alloc (.cells (t6 (s.A.lb 0) p) 40))
 have K5 := K4.trans k45 (fun z hz => Or.inl hz)
 have HP5 := HPu.out _ _ _ (PR2.kept k45)
 clear k4 n4 HP4 PR2 K4 k45
 go_upto_region 10 with (go_at_call 14; refine HP5.mono ?_; rintro e W6 ⟨p6,rfl,k6,n6,_⟩)
 have A6 := (A5.kept k6 (by simp)).kept ((Kp.refl [] _).alloc (.cells (t6 (s.A.lb 0) p6) 40)) (by simp)
 have B6 := At.new W6 (t6 (s.A.lb 0) p6) 40
 obtain ⟨x0,x1,x2,x3,x4,x5⟩ := A6.six
 obtain ⟨y0,y1,y2,y3,y4,y5⟩ := B6.six
 have k46 := k6.alloc (.cells (t6 (s.A.lb 0) p6) 40)
 have HT6 := HTt.out _ p p6 ho4 (n4'.kept k46) (n6.kept ((Kp.refl [] _).alloc _))
 have K6 := K5.trans k46 (fun z hz => Or.inl hz)
 clear A5 n4' n6 k6 A6 B6 HP5 K5 k46 HPu HTt
 go_upto_region 11 with (go_at_call 22; refine same_of (HW.out _) ?_)
 clear HW
 go_wp2_with (first | (go_at_call 10; refine (known_any _).mono ?_; rintro e W9 ⟨rfl,k9⟩) | (go_at_call 24; refine HC8.mono ?_; rintro e W8 ⟨rfl,k8⟩; have K8 := K7.trans k8 (fun z hz => Or.inl hz)) | (go_at_call 23; refine HT6.mono ?_; rintro e W7 ⟨rfl,k7⟩; have K7 := K6.trans k7 (fun z hz => Or.inl hz); have HC8 := HC.out _ K7))
 go_ret
 exact ⟨by simp,(k01.out.trans K8 (fun z hz => Or.inl hz)).trans k9 (fun z hz => Or.inl hz)⟩
end Go.Proofs.YtpkppobkagdhkaaGreat
