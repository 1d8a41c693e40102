/-
 Ple EncB EncC.
-/
import Derived.Test.YtpkppobkagdhkaaGreatB29
import Derived.Test.YtpkppobkagdhkaaGreatB40
set_option linter.unusedVariables false
set_option linter.unusedSimpArgs false
set_option maxRecDepth 100000
set_option maxHeartbeats 1000000
namespace Go.Proofs.YtpkppobkagdhkaaGreat
open Go.RowKit Go.Maps Utf
structure Ry (w : World) (ao : Option Addr) (n c : Nat) (q : List Oq) : Prop where
 rq : Rq w ao n c q
 at' : ∀ p,p ∈ q → Rk Any 2 w p.2.1 p.2.2.1 p.2.2.2 (cs p.1.al)
 ti : ∀ p,p ∈ q → tinyO p.1
theorem Ry.kept {w w' : World} {ao : Option Addr} {n c : Nat} {q : List Oq} (h : Ry w ao n c q) (k : Kp [] w w') : Ry w' ao n c q := ⟨h.rq.kept k,fun p hp => (h.at' p hp).kept k,h.ti⟩
abbrev os (q : List Oq) : List Ot := q.map (·.1)
theorem os_get {q : List Oq} {i : Nat} (hi : i < q.length) : (os q)[i]'(by simpa using hi) = q[i].1 := by simp [os]
def Dt (w' : World) (q : List Oq) (ptr : Option Addr) (j ec : Int) : Prop :=
 (Py.playF Py.first (os q)).2 = (j.toNat,ec) ∧ 0 ≤ j ∧ ((ec = 0 ∧ ∃ a tag,ptr = some ⟨a,0,none⟩ ∧ Ps tag w' a (Py.playF Py.first (os q)).1.q (Py.playF Py.first (os q)).1.A q.length) ∨ (ec ≠ 0 ∧ ptr = none))
theorem replay_any (w : World) (ao : Option Addr) (n c : Nat) (q : List Oq) (hz : Ry w ao n c q) (hn : n ≤ 1300) :
  Calls Tryz.prog 18 #[.slice ao n c] w fun e w' => ∃ ptr j ec,e = .returned (.tuple #[.pointer ptr,.int .i64 j,.int .i64 ec]) ∧ Dt w' q ptr j ec ∧ Kp [] w w' := by
 have HN := player_any w (fun _ => 0)
 have hlen := hz.rq.len
 have HD : Hid (∀ i (hi : i < q.length),∃ b0 off,ao = some ⟨b0,off,none⟩ ∧ ∀ tag V s b a m,Pp tag V b a m s i → Pv (fun _ => 0) w tag V → Nine V b0 (off + i * 9) q[i].1 q[i].2 ∧ ∀ U,Kp [] V U → Calls Tryz.prog 16 #[.pointer (some ⟨b,0,none⟩),ov q[i].1 q[i].2] U fun e w' => e = .returned (.int .i64 (s.doF q[i].1).2) ∧ ∃ tag',Pp tag' w' b a m (s.doF q[i].1).1 (i + 1) ∧ Pv (fun _ => 0) w tag' w') := fun i hi => by
  obtain ⟨b0,off,e0,_⟩ := hz.rq.get i hi
  refine ⟨b0,off,e0,fun tag V s b a m P v => ⟨?_,fun U kU => ?_⟩⟩
  ·obtain ⟨b1,off1,e1,n1⟩ := (hz.rq.kept (v.kp (fun _ _ => rfl))).get i hi
   rw [e0] at e1
   simp only [Option.some.injEq,Addr.mk.injEq] at e1
   obtain ⟨rfl,rfl,_⟩ := e1
   exact n1
  ·have hm : q[i] ∈ q := List.getElem_mem hi
   have r0 : R0 (fun _ => 0) w q[i].2 q[i].1.al := (hz.at' _ hm).mono (fun _ _ _ => rfl)
   refine (pdo_any (P.kept kU) (by omega) (hz.ti _ hm) ((r0.pv v).kept kU)).mono ?_
   rintro e w' ⟨rfl,tag',p',v'⟩
   exact ⟨rfl,tag',p',v.trans ((Pv.of_kp0 kU).trans v')⟩
 clear hz
 obtain ⟨R,hR⟩ : ∃ R,Py.playF Py.first (os q) = R := ⟨_,rfl⟩
 unfold Dt
 rw [hR]
 have HR : Hid (Py.playF Py.first (os q) = R) := hR
 subst hlen
 go_enter Tryz.func18,Tryz.ntmps18
 go_wp2_with (go_at_call 12; refine HN.mono ?_; rintro e W1 ⟨b,a,m,tag1,rfl,p1,v1⟩)
 have H0 : Hid (Pp tag1 W1 b a m Py.first 0 ∧ Pv (fun _ => 0) w tag1 W1) := ⟨p1,v1⟩
 clear HN p1 v1 hR
 go_loopw [12] (fun v wr => ∃ (i : Nat) (tag : Nat → Nat) (s : Py) (j : Nat),v = .int .i64 (i : Int) ∧ i ≤ q.length ∧ Pp tag wr b a m s i ∧ Pv (fun _ => 0) w tag wr ∧ Py.playF s ((os q).drop i) = (R.1,j,R.2.2) ∧ i + j = R.2.1) (fun v _ => q.length - (intOf v).toNat)
 case atStart => exact ⟨0,tag1,Py.first,R.2.1,rfl,Nat.zero_le _,H0.out.1,H0.out.2,HR.out,Nat.zero_add _⟩
 case round =>
  obtain ⟨i,tag,s,j,rfl,hi,P,v,hp,hj⟩ := hrel
  clear H0 HR
  by_cases hlt : i < q.length
  ·obtain ⟨b0,off,rfl,HD2⟩ := HD.out i hlt
   obtain ⟨N9,HDo⟩ := HD2 tag wr s b a m P v
   obtain ⟨f0,f1,f2,f3,f4,f5,f6,f7,f8⟩ := N9
   have kU : Kp [] wr (wr.alloc (.cells #[.int .i64 q[i].1.kd,.int .i64 q[i].1.nd,.int .i64 q[i].1.pa,.int .i64 q[i].1.rf,.int .i64 q[i].1.ty,.int .i64 q[i].1.ns,.string q[i].1.nm,.slice q[i].2.1 q[i].2.2.1 q[i].2.2.2,.string q[i].1.tt] 24)) := (Kp.refl _ _).alloc _
   have HDo := HDo _ kU
   have hs := Py.play_step (s := s) (l := os q) (i := i) (by simpa using hlt) rfl
   rw [os_get hlt,hp] at hs
   have j0 : (0 : Int) ≤ (i : Int) := by omega
   have j1 : (i : Int) < (q.length : Int) := by omega
   clear HD HD2 kU
   unfold ov at HDo
   generalize q[i] = x at *
   by_cases hc : (s.doF x.1).2 = 0
   ·rw [hc] at HDo
    rw [if_pos hc] at hs
    have HS : Hid (Py.playF (s.doF x.1).1 ((os q).drop (i + 1)) = (R.1,j - 1,R.2.2) ∧ i + 1 + (j - 1) = R.2.1) := by
     obtain ⟨e1,e2,e3⟩ : R.1 = (Py.playF (s.doF x.1).1 ((os q).drop (i + 1))).1 ∧ j = (Py.playF (s.doF x.1).1 ((os q).drop (i + 1))).2.1 + 1 ∧ R.2.2 = (Py.playF (s.doF x.1).1 ((os q).drop (i + 1))).2.2 := by simpa using hs
     refine ⟨?_,by omega⟩
     rw [e1,e2,e3]
     simp
    clear hs hp hj P v hc
    go_wp2_with (go_at_call 16; refine HDo.mono ?_; rintro e W2 ⟨rfl,tag2,p2,v2⟩)
    go_roundw
    case rel => exact ⟨i + 1,tag2,_,j - 1,by go_num,by omega,p2,v2,HS.out⟩
    case measure => simp [intOf]; omega
   ·rw [if_neg hc] at hs
    obtain ⟨e1,e2,e3⟩ : R.1 = s ∧ j = 0 ∧ R.2.2 = (s.doF x.1).2 := by simpa using hs
    have hc2 : ((s.doF x.1).2 != 0) = true := by simpa using hc
    have HE : Hid (R.2 = (((i : Int)).toNat,(s.doF x.1).2)) := by
     rw [← e3]
     have : R.2.1 = i := by omega
     rw [Int.toNat_natCast,← this]
     exact rfl
    clear hs hp hj P v e1 e2 e3
    go_wp2_with (go_at_call 16; refine HDo.mono ?_; rintro e W2 ⟨rfl,tag2,p2,v2⟩)
    go_ret3
    exact ⟨none,_,_,rfl,⟨HE.out,by omega,.inr ⟨hc,rfl⟩⟩,v2.kp (fun _ _ => rfl)⟩
  ·obtain rfl : i = q.length := by omega
   rw [List.drop_eq_nil_of_le (by simp)] at hp
   obtain ⟨e1,e2,e3⟩ : s = R.1 ∧ 0 = j ∧ 0 = R.2.2 := by simpa [Py.playF] using hp
   obtain ⟨c0,_⟩ := P.head
   have HE : Hid (R.2 = (((q.length : Int)).toNat,0) ∧ Ps tag wr a R.1.q R.1.A q.length) := by
    refine ⟨?_,by rw [← e1]; exact P.ps⟩
    have : R.2.1 = q.length := by omega
    rw [Int.toNat_natCast,← this,e3]
   have hK : Hid (Kp [] w wr) := v.kp (fun _ _ => rfl)
   clear HD P v hp e1 e2 e3 hj hlt hi
   go_wp2
   go_ret3
   exact ⟨_,_,_,rfl,⟨HE.out.1,by omega,.inl ⟨rfl,_,_,rfl,HE.out.2⟩⟩,hK.out⟩
theorem check_any (w : World) (ao : Option Addr) (n c : Nat) (q : List Oq) (hz : Ry w ao n c q) (hn : n ≤ 1300) :
  Calls Tryz.prog 24 #[.slice ao n c] w fun e w' => e = .returned (.int .i64 (Py.playF Py.first (os q)).2.2) ∧ Kp [] w w' := by
 have HD := replay_any w ao n c q hz hn
 clear hz
 go_enter Tryz.func24,Tryz.ntmps24
 go_wp2_with (go_at_call 18; refine HD.mono ?_; rintro e W2 ⟨ptr,j,ec,rfl,⟨hd,_⟩,k2⟩; have hd : Hid _ := hd)
 go_ret
 rw [hd.out]
 exact ⟨rfl,k2⟩
end Go.Proofs.YtpkppobkagdhkaaGreat
namespace Go.Proofs.YtpkppobkagdhkaaGreat
open Go.RowKit Utf
theorem pnum1 (w : World) (v : Value) (xs : List Int) (h : OwnB w v (b8 xs)) (n : Int) (hn : 0 ≤ n ∧ n ≤ 4294967295) (hlen : xs.length ≤ 900000) :
  Calls Tryz.prog 79 #[v,.int .i64 n,.int .i64 1] w fun e w' => ∃ v',e = .returned v' ∧ Ext w w' v v' (xs ++ nb n 1) := pnum_any w v xs h n 1 (by omega) hn hlen
theorem pnum2 (w : World) (v : Value) (xs : List Int) (h : OwnB w v (b8 xs)) (n : Int) (hn : 0 ≤ n ∧ n ≤ 4294967295) (hlen : xs.length ≤ 900000) :
  Calls Tryz.prog 79 #[v,.int .i64 n,.int .i64 2] w fun e w' => ∃ v',e = .returned v' ∧ Ext w w' v v' (xs ++ nb n 2) := pnum_any w v xs h n 2 (by omega) hn hlen
theorem pnum3 (w : World) (v : Value) (xs : List Int) (h : OwnB w v (b8 xs)) (n : Int) (hn : 0 ≤ n ∧ n ≤ 4294967295) (hlen : xs.length ≤ 900000) :
  Calls Tryz.prog 79 #[v,.int .i64 n,.int .i64 3] w fun e w' => ∃ v',e = .returned v' ∧ Ext w w' v v' (xs ++ nb n 3) := pnum_any w v xs h n 3 (by omega) hn hlen
theorem pnum4 (w : World) (v : Value) (xs : List Int) (h : OwnB w v (b8 xs)) (n : Int) (hn : 0 ≤ n ∧ n ≤ 4294967295) (hlen : xs.length ≤ 900000) :
  Calls Tryz.prog 79 #[v,.int .i64 n,.int .i64 4] w fun e w' => ∃ v',e = .returned v' ∧ Ext w w' v v' (xs ++ nb n 4) := pnum_any w v xs h n 4 (by omega) hn hlen
theorem ptext_any (w : World) (v : Value) (xs : List Int) (h : OwnB w v (b8 xs)) (s : ByteArray) (hs : s.size ≤ 16777215) (hlen : xs.length + s.size ≤ 900000) :
  Calls Tryz.prog 80 #[v,.string s] w fun e w' => ∃ v',e = .returned v' ∧ Ext w w' v v' (xs ++ tb s) := by
 have HP := pnum3 w v xs h s.size (by omega) (by omega)
 obtain ⟨ao,c,hv⟩ := (Ext.refl h).shape
 subst hv
 clear h
 go_enter Tryz.func80,Tryz.ntmps80
 go_wp2_with fail
 refine HP.mono ?_
 rintro e w1 ⟨v1,rfl,X1⟩
 obtain ⟨a1,c1,hv⟩ := X1.shape
 subst hv
 obtain ⟨a2,c2,w2,hrun,X2⟩ := ext_str X1 s (by rw [List.length_append,nb_len]; omega)
 have XX : Hid (Ext w w2 (.slice ao xs.length c) (.slice a2 ((xs ++ nb s.size 3).length + s.size) c2) (xs ++ nb s.size 3 ++ bytesOf s)) := X2
 clear X1 X2 HP
 generalize (xs ++ nb s.size 3).length = m at hrun XX
 go_wp2_with (at_builtin; refine Lib.wpList_append_run _ rfl _ _ _ _ rfl _ _ rfl rfl _ _ (hrun _) ?_)
 go_ret
 exact ⟨_,rfl,by have := XX.out; rw [List.append_assoc] at this; exact this⟩
def fitB (o : Ot) : Bool := decide (o.nm.size ≤ 16777215) && (decide (o.tt.size ≤ 16777215) && (decide (o.al.length ≤ 65535) && o.al.all fun a => decide (a.1.size ≤ 16777215) && decide (a.2.size ≤ 16777215)))
theorem fitB_iff {o : Ot} : fitB o = true ↔ fitO o := by
 unfold fitB fitO fitA
 simp [List.all_eq_true]
theorem fit_not {l : List Att} {k : Nat} (hk : k < l.length) (h : ¬ (l[k].1.size ≤ 16777215 ∧ l[k].2.size ≤ 16777215)) : (l.all fun a => decide (a.1.size ≤ 16777215) && decide (a.2.size ≤ 16777215)) = false := by
 rw [List.all_eq_false]
 exact ⟨l[k],List.getElem_mem hk,by simpa using h⟩
theorem fit_all {l : List Att} (h : ∀ j (hj : j < l.length),l[j].1.size ≤ 16777215 ∧ l[j].2.size ≤ 16777215) : (l.all fun a => decide (a.1.size ≤ 16777215) && decide (a.2.size ≤ 16777215)) = true := by
 rw [List.all_eq_true]
 intro a ha
 obtain ⟨j,hj,rfl⟩ := List.mem_iff_getElem.1 ha
 simpa using h j hj
theorem fits_any (w : World) (o : Ot) (p : Sl) (h : Ap w (o,p)) (hl : p.2.1 ≤ 100000) :
  Calls Tryz.prog 41 #[ov o p] w fun e w' => e = .returned (.bool (fitB o)) ∧ Kp [] w w' := by
 have hq : p.2.1 = o.al.length := Rp.len h
 obtain ⟨a1,a2,a3,a4,a5,a6,a7,l,a9⟩ := o
 obtain ⟨p1,p2,p3⟩ := p
 simp only at hq hl
 subst hq
 unfold Ap at h
 simp only at h
 obtain ⟨A,hA0⟩ : ∃ A,fitB ⟨a1,a2,a3,a4,a5,a6,a7,l,a9⟩ = A := ⟨_,rfl⟩
 rw [hA0]
 have hA : Hid (fitB ⟨a1,a2,a3,a4,a5,a6,a7,l,a9⟩ = A) := hA0
 clear hA0
 have k0 : Kp [] w (w.alloc (.cells (oc ⟨a1,a2,a3,a4,a5,a6,a7,l,a9⟩ (p1,l.length,p3)) 24)) := (Kp.refl _ _).alloc _
 simp only [oc,ov] at k0 ⊢
 by_cases c1 : a7.size ≤ 16777215
 ·by_cases c2 : a9.size ≤ 16777215
  ·by_cases c3 : l.length ≤ 65535
   ·have hA2 : Hid ((l.all fun a => decide (a.1.size ≤ 16777215) && decide (a.2.size ≤ 16777215)) = A) := (by have := hA.out; simpa [fitB,c1,c2,c3] using this : (l.all fun a => decide (a.1.size ≤ 16777215) && decide (a.2.size ≤ 16777215)) = A)
    clear hA
    go_enter Tryz.func41,Tryz.ntmps41
    go_wp2
    go_loopw [24] (fun i wr => ∃ k : Nat,k ≤ l.length ∧ i = .int .i64 k ∧ Kp [] w wr ∧ ∀ j (hj : j < l.length),j < k → l[j].1.size ≤ 16777215 ∧ l[j].2.size ≤ 16777215) (fun i _ => l.length - (intOf i).toNat)
    case atStart => exact ⟨0,Nat.zero_le _,rfl,k0,fun j _ hj => by omega⟩
    case round =>
     obtain ⟨k,hk,rfl,kw,hp⟩ := hrel
     clear k0
     by_cases hlt : k < l.length
     ·obtain ⟨b,off,rfl,h1,h2⟩ := (Rp.kept h kw).get k hlt
      have hp2 : Hid (l[k].1.size ≤ 16777215 ∧ l[k].2.size ≤ 16777215 → ∀ j (hj : j < l.length),j < k + 1 → l[j].1.size ≤ 16777215 ∧ l[j].2.size ≤ 16777215) := fun hz j hj hjk => by
       by_cases e : j = k
       ·subst e; exact hz
       ·exact hp j hj (by omega)
      have hno : Hid (¬ (l[k].1.size ≤ 16777215 ∧ l[k].2.size ≤ 16777215) → A = false) := fun hz => by rw [← hA2.out]; exact fit_not hlt hz
      clear hp h hA2
      generalize l[k] = x at h1 h2 hp2 hno
      by_cases z1 : x.1.size ≤ 16777215
      ·by_cases z2 : x.2.size ≤ 16777215
       ·have hp3 : Hid (∀ j (hj : j < l.length),j < k + 1 → l[j].1.size ≤ 16777215 ∧ l[j].2.size ≤ 16777215) := hp2.out ⟨z1,z2⟩
        clear hp2 hno
        go_wp2
        go_roundw
        case rel => exact ⟨k + 1,by omega,by go_num,kw.alloc _,hp3.out⟩
        case measure => simp [intOf]; omega
       ·obtain rfl := hno.out (fun e => z2 e.2)
        clear hp2 hno
        go_wp2
        go_ret
        exact ⟨rfl,kw.alloc _⟩
      ·obtain rfl := hno.out (fun e => z1 e.1)
       clear hp2 hno
       go_wp2
       go_ret
       exact ⟨rfl,kw.alloc _⟩
     ·obtain rfl : k = l.length := by omega
      have hA3 := hA2.out
      rw [fit_all (fun j hj => hp j hj hj)] at hA3
      subst hA3
      clear hA2 hp h
      go_wp2
      go_ret
      exact ⟨rfl,kw⟩
   ·obtain rfl : A = false := by rw [← hA.out]; simp [fitB,c3]
    clear hA h
    go_enter Tryz.func41,Tryz.ntmps41
    go_wp2
    go_ret
    exact ⟨rfl,k0⟩
  ·obtain rfl : A = false := by rw [← hA.out]; simp [fitB,c2]
   clear hA h
   go_enter Tryz.func41,Tryz.ntmps41
   go_wp2
   go_ret
   exact ⟨rfl,k0⟩
 ·obtain rfl : A = false := by rw [← hA.out]; simp [fitB,c1]
  clear hA h
  go_enter Tryz.func41,Tryz.ntmps41
  go_wp2
  go_ret
  exact ⟨rfl,k0⟩
theorem right_range {o : Ot} (h : rightO o = true) : (1 ≤ o.kd ∧ o.kd ≤ 11) ∧ (0 ≤ o.nd ∧ o.nd ≤ 2147483647) ∧ (0 ≤ o.pa ∧ o.pa ≤ 2147483647) ∧ (0 ≤ o.rf ∧ o.rf ≤ 2147483647) ∧ (0 ≤ o.ty ∧ o.ty ≤ 5) ∧ (0 ≤ o.ns ∧ o.ns ≤ 2) := by
 rw [← prog_right] at h
 simp only [Bool.and_eq_true,inR,kk,decide_eq_true_eq] at h
 obtain ⟨h1,h2,h3,h4,h5,h6,h7,h8⟩ := h
 refine ⟨h1,h3,h4,h5,?_,h6,h7⟩
 by_cases hk : o.kd = 1
 ·simp [hk,mk3] at h8
  omega
 ·have e := congrArg Ot.ty (sameO_iff.1 h2)
  have : (onlyO o).ty = 0 := by
   unfold onlyO
   repeat' split
   all_goals first | rfl | omega
  omega
theorem ab_at {l : List Att} {k : Nat} (h : k < l.length) : ab (l.take (k + 1)) = ab (l.take k) ++ (tb l[k].1 ++ tb l[k].2) := by
 rw [take_snoc h,ab_append]
 simp [ab]
theorem ab_take_le (l : List Att) (k : Nat) : (ab (l.take k)).length ≤ (ab l).length := by
 have : ab l = ab (l.take k) ++ ab (l.drop k) := by rw [← ab_append,List.take_append_drop]
 rw [this,List.length_append]
 omega
theorem Ext.alloc {w w1 : World} {v v1 : Value} {xs : List Int} (h : Ext w w1 v v1 xs) (o : Obj) : Ext w (w1.alloc o) v v1 xs :=
 ⟨h.1.keep ((Kp.refl [] _).alloc _) (fun _ _ => by simp),h.2.1.alloc _,h.2.2⟩
set_option maxHeartbeats 2000000 in
theorem putop_any (w : World) (v : Value) (xs : List Int) (h : OwnB w v (b8 xs)) (o : Ot) (p : Sl) (hR : ∀ W,Kp (blk v) w W → Ap W (o,p)) (hr : rightO o = true) (hf : fitO o) (hlen : xs.length + (ob o).length ≤ 900000) :
  Calls Tryz.prog 42 #[v,ov o p] w fun e w' => ∃ v',e = .returned v' ∧ Ext w w' v v' (xs ++ ob o) := by
 obtain ⟨⟨r1,r1'⟩,⟨r2,r2'⟩,⟨r3,r3'⟩,⟨r4,r4'⟩,⟨r5,r5'⟩,r6,r6'⟩ := right_range hr
 obtain ⟨t1,t2,t3,t4⟩ := hf
 have hq : p.2.1 = o.al.length := Rp.len (hR w (Kp.refl _ _))
 have hol := ob_len o
 rw [hol] at hlen
 have E0 := Ext.refl h
 obtain ⟨ao,c,hv⟩ := E0.shape
 subst hv
 have hB : w.heap.size ∉ blk (.slice ao xs.length c) := fun hx => by
  have := h.lt _ hx
  omega
 obtain ⟨o1,o2,o3,o4,o5,o6,o7,l,o9⟩ := o
 obtain ⟨p1,p2,p3⟩ := p
 simp only at hq r1 r1' r2 r2' r3 r3' r4 r4' r5 r5' r6 r6' t1 t2 t3 t4 hlen
 subst hq
 have k0 : Kp (blk (.slice ao xs.length c)) w (w.alloc (.cells (oc ⟨o1,o2,o3,o4,o5,o6,o7,l,o9⟩ (p1,l.length,p3)) 24)) := (Kp.refl _ _).alloc _
 have E1 : Ext w (w.alloc (.cells (oc ⟨o1,o2,o3,o4,o5,o6,o7,l,o9⟩ (p1,l.length,p3)) 24)) (.slice ao xs.length c) (.slice ao xs.length c) xs := ⟨h.keep ((Kp.refl [] _).alloc _) (fun _ _ => by simp),k0,fun k hk => Or.inl hk⟩
 have N1 := nine_of (heap_new w (.cells (oc ⟨o1,o2,o3,o4,o5,o6,o7,l,o9⟩ (p1,l.length,p3)) 24))
 have HR : Hid (∀ W,Kp (blk (.slice ao xs.length c)) w W → Rp W p1 l.length p3 l) := hR
 clear h hR hr E0 hol
 have XO : Hid (xs ++ ob ⟨o1,o2,o3,o4,o5,o6,o7,l,o9⟩ = xs ++ nb o1 1 ++ nb o2 4 ++ nb o3 4 ++ nb o4 4 ++ nb o5 1 ++ nb o6 1 ++ tb o7 ++ nb l.length 2 ++ ab l ++ tb o9) := (by simp only [ob,List.append_assoc] : xs ++ ob ⟨o1,o2,o3,o4,o5,o6,o7,l,o9⟩ = xs ++ nb o1 1 ++ nb o2 4 ++ nb o3 4 ++ nb o4 4 ++ nb o5 1 ++ nb o6 1 ++ tb o7 ++ nb l.length 2 ++ ab l ++ tb o9)
 simp only [oc,ov] at k0 E1 N1 ⊢
 go_enter Tryz.func42,Tryz.ntmps42
 go_wp2_with fail
 generalize hW : w.alloc (Obj.cells _ 24) = W0 at k0 E1 N1 ⊢
 have hs0 : w.heap.size < W0.heap.size := by rw [← hW]; simp
 clear hW
 generalize hg : w.heap.size = g at hB hs0 N1 ⊢
 have X : Ext W0 W0 (.slice ao xs.length c) (.slice ao xs.length c) xs := Ext.refl E1.1
 have HB : Hid (∀ W v' ys,Ext W0 W (.slice ao xs.length c) v' ys → Nine W g 0 ⟨o1,o2,o3,o4,o5,o6,o7,l,o9⟩ (p1,l.length,p3)) := fun W v' ys k => N1.kept k.2.1 hB
 have HA : Hid (∀ W v' ys,Ext W0 W (.slice ao xs.length c) v' ys → Rp W p1 l.length p3 l) := fun W v' ys k => HR.out W (k0.trans k.2.1 (fun x hx => Or.inl hx))
 have HE : Hid (∀ W v' ys,Ext W0 W (.slice ao xs.length c) v' ys → Ext w W (.slice ao xs.length c) v' ys) := fun W v' ys k => E1.trans k
 simp only [Nine,Nat.zero_add] at HB
 clear E1 N1 HR k0 hB hs0 hg
 have HL0 : Hid (xs.length = xs.length) := rfl
 generalize hv0 : Value.slice ao xs.length c = v0 at X HB HA HE
 have HV0 : Hid (Value.slice ao xs.length c = v0) := hv0
 clear hv0
 refine (pnum1 _ _ _ X.1 o1 (by omega) (by have := HL0.out; omega)).mono ?_
 rintro e w1 ⟨v1,rfl,Y⟩
 replace X := X.trans Y
 clear Y
 obtain ⟨y1,hy⟩ : ∃ y,xs ++ nb o1 1 = y := ⟨_,rfl⟩
 rw [hy] at X
 have HY1 : Hid (xs ++ nb o1 1 = y1) := hy
 have hl : y1.length = xs.length + 1 := by rw [← hy]; simp only [List.length_append,nb_len,tb_len]
 obtain ⟨a1,c1,hv⟩ := X.shape
 subst hv
 obtain ⟨m1,hm⟩ : ∃ m,y1.length = m := ⟨_,rfl⟩
 rw [hm] at X hl ⊢
 have HM1 : Hid (y1.length = m1) := hm
 have HL1 : Hid (y1.length = xs.length + (1)) := (by have := HL0.out; rw [hm]; omega : y1.length = xs.length + (1))
 obtain ⟨f0,f1,f2,f3,f4,f5,f6,f7,f8⟩ := HB.out _ _ _ X
 clear hy hl hm
 go_wp2_with fail
 refine (pnum4 _ _ _ X.1 o2 (by omega) (by have := HL1.out; omega)).mono ?_
 rintro e w2 ⟨v2,rfl,Y⟩
 clear f0 f1 f2 f3 f4 f5 f6 f7 f8
 replace X := X.trans Y
 clear Y
 obtain ⟨y2,hy⟩ : ∃ y,y1 ++ nb o2 4 = y := ⟨_,rfl⟩
 rw [hy] at X
 have HY2 : Hid (y1 ++ nb o2 4 = y2) := hy
 have hl : y2.length = y1.length + 4 := by rw [← hy]; simp only [List.length_append,nb_len,tb_len]
 obtain ⟨a2,c2,hv⟩ := X.shape
 subst hv
 obtain ⟨m2,hm⟩ : ∃ m,y2.length = m := ⟨_,rfl⟩
 rw [hm] at X hl ⊢
 have HM2 : Hid (y2.length = m2) := hm
 have HL2 : Hid (y2.length = xs.length + (5)) := (by have := HL1.out; rw [hm]; omega : y2.length = xs.length + (5))
 obtain ⟨f0,f1,f2,f3,f4,f5,f6,f7,f8⟩ := HB.out _ _ _ X
 clear hy hl hm
 go_wp2_with fail
 refine (pnum4 _ _ _ X.1 o3 (by omega) (by have := HL2.out; omega)).mono ?_
 rintro e w3 ⟨v3,rfl,Y⟩
 clear f0 f1 f2 f3 f4 f5 f6 f7 f8
 replace X := X.trans Y
 clear Y
 obtain ⟨y3,hy⟩ : ∃ y,y2 ++ nb o3 4 = y := ⟨_,rfl⟩
 rw [hy] at X
 have HY3 : Hid (y2 ++ nb o3 4 = y3) := hy
 have hl : y3.length = y2.length + 4 := by rw [← hy]; simp only [List.length_append,nb_len,tb_len]
 obtain ⟨a3,c3,hv⟩ := X.shape
 subst hv
 obtain ⟨m3,hm⟩ : ∃ m,y3.length = m := ⟨_,rfl⟩
 rw [hm] at X hl ⊢
 have HM3 : Hid (y3.length = m3) := hm
 have HL3 : Hid (y3.length = xs.length + (9)) := (by have := HL2.out; rw [hm]; omega : y3.length = xs.length + (9))
 obtain ⟨f0,f1,f2,f3,f4,f5,f6,f7,f8⟩ := HB.out _ _ _ X
 clear hy hl hm
 go_wp2_with fail
 refine (pnum4 _ _ _ X.1 o4 (by omega) (by have := HL3.out; omega)).mono ?_
 rintro e w4 ⟨v4,rfl,Y⟩
 clear f0 f1 f2 f3 f4 f5 f6 f7 f8
 replace X := X.trans Y
 clear Y
 obtain ⟨y4,hy⟩ : ∃ y,y3 ++ nb o4 4 = y := ⟨_,rfl⟩
 rw [hy] at X
 have HY4 : Hid (y3 ++ nb o4 4 = y4) := hy
 have hl : y4.length = y3.length + 4 := by rw [← hy]; simp only [List.length_append,nb_len,tb_len]
 obtain ⟨a4,c4,hv⟩ := X.shape
 subst hv
 obtain ⟨m4,hm⟩ : ∃ m,y4.length = m := ⟨_,rfl⟩
 rw [hm] at X hl ⊢
 have HM4 : Hid (y4.length = m4) := hm
 have HL4 : Hid (y4.length = xs.length + (13)) := (by have := HL3.out; rw [hm]; omega : y4.length = xs.length + (13))
 obtain ⟨f0,f1,f2,f3,f4,f5,f6,f7,f8⟩ := HB.out _ _ _ X
 clear hy hl hm
 go_wp2_with fail
 refine (pnum1 _ _ _ X.1 o5 (by omega) (by have := HL4.out; omega)).mono ?_
 rintro e w5 ⟨v5,rfl,Y⟩
 clear f0 f1 f2 f3 f4 f5 f6 f7 f8
 replace X := X.trans Y
 clear Y
 obtain ⟨y5,hy⟩ : ∃ y,y4 ++ nb o5 1 = y := ⟨_,rfl⟩
 rw [hy] at X
 have HY5 : Hid (y4 ++ nb o5 1 = y5) := hy
 have hl : y5.length = y4.length + 1 := by rw [← hy]; simp only [List.length_append,nb_len,tb_len]
 obtain ⟨a5,c5,hv⟩ := X.shape
 subst hv
 obtain ⟨m5,hm⟩ : ∃ m,y5.length = m := ⟨_,rfl⟩
 rw [hm] at X hl ⊢
 have HM5 : Hid (y5.length = m5) := hm
 have HL5 : Hid (y5.length = xs.length + (14)) := (by have := HL4.out; rw [hm]; omega : y5.length = xs.length + (14))
 obtain ⟨f0,f1,f2,f3,f4,f5,f6,f7,f8⟩ := HB.out _ _ _ X
 clear hy hl hm
 go_wp2_with fail
 refine (pnum1 _ _ _ X.1 o6 (by omega) (by have := HL5.out; omega)).mono ?_
 rintro e w6 ⟨v6,rfl,Y⟩
 clear f0 f1 f2 f3 f4 f5 f6 f7 f8
 replace X := X.trans Y
 clear Y
 obtain ⟨y6,hy⟩ : ∃ y,y5 ++ nb o6 1 = y := ⟨_,rfl⟩
 rw [hy] at X
 have HY6 : Hid (y5 ++ nb o6 1 = y6) := hy
 have hl : y6.length = y5.length + 1 := by rw [← hy]; simp only [List.length_append,nb_len,tb_len]
 obtain ⟨a6,c6,hv⟩ := X.shape
 subst hv
 obtain ⟨m6,hm⟩ : ∃ m,y6.length = m := ⟨_,rfl⟩
 rw [hm] at X hl ⊢
 have HM6 : Hid (y6.length = m6) := hm
 have HL6 : Hid (y6.length = xs.length + (15)) := (by have := HL5.out; rw [hm]; omega : y6.length = xs.length + (15))
 obtain ⟨f0,f1,f2,f3,f4,f5,f6,f7,f8⟩ := HB.out _ _ _ X
 clear hy hl hm
 go_wp2_with fail
 refine (ptext_any _ _ _ X.1 o7 (by omega) (by have := HL6.out; omega)).mono ?_
 rintro e w7 ⟨v7,rfl,Y⟩
 clear f0 f1 f2 f3 f4 f5 f6 f7 f8
 replace X := X.trans Y
 clear Y
 obtain ⟨y7,hy⟩ : ∃ y,y6 ++ tb o7 = y := ⟨_,rfl⟩
 rw [hy] at X
 have HY7 : Hid (y6 ++ tb o7 = y7) := hy
 have hl : y7.length = y6.length + (o7.size + 3) := by rw [← hy]; simp only [List.length_append,nb_len,tb_len]
 obtain ⟨a7,c7,hv⟩ := X.shape
 subst hv
 obtain ⟨m7,hm⟩ : ∃ m,y7.length = m := ⟨_,rfl⟩
 rw [hm] at X hl ⊢
 have HM7 : Hid (y7.length = m7) := hm
 have HL7 : Hid (y7.length = xs.length + (18 + o7.size)) := (by have := HL6.out; rw [hm]; omega : y7.length = xs.length + (18 + o7.size))
 obtain ⟨f0,f1,f2,f3,f4,f5,f6,f7,f8⟩ := HB.out _ _ _ X
 clear hy hl hm
 go_wp2_with fail
 refine (pnum2 _ _ _ X.1 (l.length : Int) (by omega) (by have := HL7.out; omega)).mono ?_
 rintro e w8 ⟨v8,rfl,Y⟩
 clear f0 f1 f2 f3 f4 f5 f6 f7 f8
 replace X := X.trans Y
 clear Y
 obtain ⟨y8,hy⟩ : ∃ y,y7 ++ nb l.length 2 = y := ⟨_,rfl⟩
 rw [hy] at X
 have HY8 : Hid (y7 ++ nb l.length 2 = y8) := hy
 have hl : y8.length = y7.length + 2 := by rw [← hy]; simp only [List.length_append,nb_len,tb_len]
 obtain ⟨a8,c8,hv⟩ := X.shape
 subst hv
 obtain ⟨m8,hm⟩ : ∃ m,y8.length = m := ⟨_,rfl⟩
 rw [hm] at X hl ⊢
 have HM8 : Hid (y8.length = m8) := hm
 have HL8 : Hid (y8.length = xs.length + (20 + o7.size)) := (by have := HL7.out; rw [hm]; omega : y8.length = xs.length + (20 + o7.size))
 obtain ⟨f0,f1,f2,f3,f4,f5,f6,f7,f8⟩ := HB.out _ _ _ X
 clear hy hl hm
 have EY : Hid (y8 = xs ++ nb o1 1 ++ nb o2 4 ++ nb o3 4 ++ nb o4 4 ++ nb o5 1 ++ nb o6 1 ++ tb o7 ++ nb l.length 2) := (by rw [HY1.out,HY2.out,HY3.out,HY4.out,HY5.out,HY6.out,HY7.out,HY8.out] : y8 = xs ++ nb o1 1 ++ nb o2 4 ++ nb o3 4 ++ nb o4 4 ++ nb o5 1 ++ nb o6 1 ++ tb o7 ++ nb l.length 2)
 clear HY1 HY2 HY3 HY4 HY5 HY6 HY7 HY8 HL0 HL1 HL2 HL3 HL4 HL5 HL6 HL7 HM1 HM2 HM3 HM4 HM5 HM6 HM7 HM8
 clear r1 r1' r2 r2' r3 r3' r4 r4' r5 r5' r6 r6'
 have TT : Hid (fitA l) := t4
 clear t4
 go_wp2
 go_loopw [0,43] (fun b i wr => ∃ (k : Nat) (a' : Option Addr) (n' c' : Nat) (ys : List Int),k ≤ l.length ∧ i = .int .i64 k ∧ b = .slice a' n' c' ∧ Ext W0 wr v0 (.slice a' n' c') ys ∧ ys = y8 ++ ab (l.take k)) (fun _ i _ => l.length - (intOf i).toNat)
 case atStart => exact ⟨0,a8,m8,c8,y8,Nat.zero_le _,rfl,rfl,X,by simp [ab]⟩
 case round =>
  obtain ⟨k,a',n',c',ys,hk,rfl,rfl,Z,hys⟩ := hrel
  clear X f0 f1 f2 f3 f4 f5 f6 f7 f8
  have hyl : ys.length ≤ xs.length + (20 + o7.size) + (ab l).length := by
   rw [hys,List.length_append,HL8.out]
   have := ab_take_le l k
   omega
  by_cases hlt : k < l.length
  ·have hyl2 : ys.length + (tb l[k].1).length + (tb l[k].2).length ≤ xs.length + (20 + o7.size) + (ab l).length := by
    have e1 := ab_at hlt
    have e2 := ab_take_le l (k + 1)
    rw [e1] at e2
    simp only [List.length_append] at e2
    rw [hys,List.length_append,HL8.out]
    omega
   rw [tb_len,tb_len] at hyl2
   obtain ⟨q1,q2⟩ := TT.out l[k] (List.getElem_mem hlt)
   have hnx : Hid (ys ++ tb l[k].1 ++ tb l[k].2 = y8 ++ ab (l.take (k + 1))) := (by rw [hys,ab_at hlt]; simp only [List.append_assoc] : ys ++ tb l[k].1 ++ tb l[k].2 = y8 ++ ab (l.take (k + 1)))
   obtain ⟨b,off,rfl,h1,h2⟩ := (HA.out _ _ _ Z).get k hlt
   clear hys hyl
   generalize l[k] = x at h1 h2 hnx q1 q2 hyl2
   have Z1 : Ext W0 (wr.alloc (.cells #[.string x.1,.string x.2] 102)) v0 (.slice a' n' c') ys := Z.alloc _
   have hnb : wr.heap.size ∉ blk (.slice a' n' c') := fun hx => by
    have := Z.1.lt _ hx
    omega
   have HL : Hid (ys.length + (x.1.size + 3) + (x.2.size + 3) ≤ xs.length + (20 + o7.size) + (ab l).length) := hyl2
   have HN : Hid (wr.heap.size ∉ blk (.slice a' n' c')) := hnb
   clear Z hyl2 hnb
   go_wp2_with fail
   refine (ptext_any _ _ _ Z1.1 x.1 q1 (by have := HL.out; omega)).mono ?_
   rintro e u1 ⟨v1,rfl,Y⟩
   have C1 : u1.heap[wr.heap.size]? = some (.cells #[.string x.1,.string x.2] 102 (0,0)) := (Y.2.1.block _ (by simp) HN.out).trans (heap_new wr _)
   replace Z1 := Z1.trans Y
   clear Y h1 h2 HN
   have d0 : u1.cell? ⟨wr.heap.size,0,none⟩ = some (.string x.1) := cell_of C1 0
   have d1 : u1.cell? ⟨wr.heap.size,1,none⟩ = some (.string x.2) := cell_of C1 1
   clear C1
   obtain ⟨a2,c2,hv⟩ := Z1.shape
   subst hv
   obtain ⟨m2,hm⟩ : ∃ m,(ys ++ tb x.1).length = m := ⟨_,rfl⟩
   have HM : Hid ((ys ++ tb x.1).length = m2) := hm
   rw [hm] at Z1 ⊢
   clear hm
   go_wp2_with fail
   refine (ptext_any _ _ _ Z1.1 x.2 q2 (by have := HL.out; rw [List.length_append,tb_len]; omega)).mono ?_
   rintro e u2 ⟨v2,rfl,Y⟩
   replace Z1 := Z1.trans Y
   clear Y d0 d1
   obtain ⟨a3,c3,hv⟩ := Z1.shape
   subst hv
   generalize hm3 : (ys ++ tb x.1 ++ tb x.2).length = m3 at Z1 ⊢
   clear hm3 HM HL q1 q2
   go_wp2
   go_roundw
   case rel => exact ⟨k + 1,_,_,_,_,by omega,by go_num,rfl,Z1,hnx.out⟩
   case measure => simp [intOf]; omega
  ·obtain rfl : k = l.length := by omega
   rw [List.take_length] at hys
   have HY : Hid (ys = y8 ++ ab l) := hys
   have HL : Hid (ys.length ≤ xs.length + (20 + o7.size) + (ab l).length) := hyl
   clear hys hyl TT
   obtain ⟨f0,f1,f2,f3,f4,f5,f6,f7,f8⟩ := HB.out _ _ _ Z
   go_wp2_with fail
   refine (ptext_any _ _ _ Z.1 o9 t2 (by have := HL.out; omega)).mono ?_
   rintro e u1 ⟨v1,rfl,Y⟩
   replace Z := Z.trans Y
   clear Y f0 f1 f2 f3 f4 f5 f6 f7 f8
   obtain ⟨a3,c3,hv⟩ := Z.shape
   subst hv
   have ZZ : Hid (Ext w u1 v0 (.slice a3 (ys ++ tb o9).length c3) (ys ++ tb o9)) := HE.out _ _ _ Z
   clear Z
   generalize (ys ++ tb o9).length = m3 at ZZ ⊢
   go_wp2
   go_ret
   refine ⟨_,rfl,?_⟩
   rw [HV0.out,XO.out,← EY.out,← HY.out]
   exact ZZ.out
end Go.Proofs.YtpkppobkagdhkaaGreat
