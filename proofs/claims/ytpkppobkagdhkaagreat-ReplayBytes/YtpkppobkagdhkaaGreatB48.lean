/-
 Smo Smw Byp.
-/
import Derived.Test.YtpkppobkagdhkaaGreatB30
import Derived.Test.YtpkppobkagdhkaaGreatB46
import Derived.Test.YtpkppobkagdhkaaGreatB47
set_option linter.unusedVariables false
set_option linter.unusedSimpArgs false
set_option maxRecDepth 100000
set_option maxHeartbeats 1000000
namespace Go.Proofs.YtpkppobkagdhkaaGreat
open Go.RowKit Go.Maps Utf
structure Xin (w : World) (ao : Option Addr) (n c : Nat) (F : Nat → Rx) : Prop where
 cap : n ≤ c
 max : n ≤ 140737488355328
 at' : ∀ i,i < n → ∃ b off p,ao = some ⟨b,off,none⟩ ∧ (∀ j,j < 9 → w.cell? ⟨b,off + i * 9 + j,none⟩ = (rxc (F i) p)[j]?) ∧ Rp w p.1 p.2.1 p.2.2 (F i).l ∧ p.2.1 ≤ 140737488355328
def lis (F : Nat → Rx) (m : Nat) : List Ot := (List.range m).map fun i => madF (F i)
theorem lis_succ (F : Nat → Rx) (m : Nat) : lis F (m + 1) = lis F m ++ [madF (F m)] := by simp [lis,List.range_succ]
theorem lis_tiny {F : Nat → Rx} {m : Nat} {o : Ot} (h : o ∈ lis F m) : tinyO o := by
 obtain ⟨i,_,rfl⟩ := List.mem_map.1 h
 exact madF_tiny _
def somF (F : Nat → Rx) (m : Nat) (fine : Bool) : List Ot := if fine = true then Py.fil Py.first (lis F m) else lis F m
theorem somF_succ (F : Nat → Rx) (m : Nat) (fine : Bool) : somF F (m + 1) fine = if ((((Py.aft Py.first (lis F m)).doF (madF (F m))).2 == 0) || !fine) = true then somF F m fine ++ [madF (F m)] else somF F m fine := by
 unfold somF
 cases fine with
 | true =>
   simp only [if_pos,lis_succ,Py.fil_snoc,Bool.not_true,Bool.or_false,beq_iff_eq]
 | false => simp [lis_succ]
theorem somF_mem {F : Nat → Rx} {m : Nat} {fine : Bool} {o : Ot} (h : o ∈ somF F m fine) : o ∈ lis F m := by
 unfold somF at h
 split at h
 ·exact (Py.fil_mem _ _ _ h).1
 ·exact h
section
variable {tag tag' : Nat → Nat} {w U U' : World} {b d k : Nat} {l1 l2 : Sl} {s : Py} {q : List Oq} {ao : Option Addr} {n c : Nat}
theorem Pd.sm0 {S : List Nat} (h : Pd tag U b d l1 l2 s k) (kp : Kp S U U') (hS : ∀ x,x ∈ S → x < U.heap.size → tag x = 0) (hg : ∀ x,x < U.heap.size → tag' x = tag x) : Pd tag' U' b d l1 l2 s k := by
 have n7 : ∀ x,x < U.heap.size → tag x = 7 → x ∉ S := fun x hx e hs => by have := hS x hs hx; omega
 exact ⟨h.hd.kept kp (n7 b h.hd.lt h.tb),by rw [hg b h.hd.lt]; exact h.tb,h.dn.sm (fun x hx ht => kp.block x hx (fun hs => by have := hS x hs hx; omega)) hg,h.o1.keep kp (fun x hx => n7 x (h.o1.lt x hx) (h.t1 x hx)),fun x hx => by rw [hg x (h.o1.lt x hx)]; exact h.t1 x hx,h.o2.keep kp (fun x hx => n7 x (h.o2.lt x hx) (h.t2 x hx)),fun x hx => by rw [hg x (h.o2.lt x hx)]; exact h.t2 x hx,h.dj,h.b1,h.b2,h.fit⟩
structure Ou (tag : Nat → Nat) (w U : World) (ao : Option Addr) (n c : Nat) (q : List Oq) : Prop where
 own : OwnK 9 U 24 (.slice ao n c) n (qs q)
 nw : ∀ x,x ∈ blk (.slice ao n c) → w.heap.size ≤ x ∧ tag x = 0
 ar : ∀ p,p ∈ q → Ao U p ∧ ∀ x,x ∈ blk (.slice p.2.1 p.2.2.1 p.2.2.2) → tag x = 0
 kp : Kp [] w U
 t0 : ∀ x,x < w.heap.size → tag x = 0
theorem Ou.mq (h : Ou tag w U ao n c q) : Mq w U ao n c q := ⟨h.own,h.kp,fun x hx => (h.nw x hx).1,fun p hp => (h.ar p hp).1⟩
theorem Ou.nil (w : World) (tag : Nat → Nat) (k : Kp [] w U) (t : ∀ x,x < w.heap.size → tag x = 0) : Ou tag w U none 0 0 [] := ⟨⟨rfl,Or.inl ⟨rfl,rfl⟩⟩,fun x hx => by simp [blk] at hx,fun p hp => (by cases hp),k,t⟩
theorem Ao.lt {p : Oq} (h : Ao U p) : ∀ x,x ∈ blk (.slice p.2.1 p.2.2.1 p.2.2.2) → x < U.heap.size := OwnK.lt h
theorem Ou.sm {S : List Nat} (h : Ou tag w U ao n c q) (kp : Kp S U U') (hS : ∀ x,x ∈ S → x < U.heap.size → tag x ≠ 0) (hg : ∀ x,x < U.heap.size → tag' x = tag x) : Ou tag' w U' ao n c q := by
 have n0 : ∀ x,x < U.heap.size → tag x = 0 → x ∉ S := fun x hx e hs => hS x hs hx e
 have hl := h.own.lt
 refine ⟨h.own.keep kp (fun x hx => n0 x (hl x hx) (h.nw x hx).2),fun x hx => ⟨(h.nw x hx).1,by rw [hg x (hl x hx)]; exact (h.nw x hx).2⟩,fun p hp => ?_,h.kp.trans kp (fun x hx => ?_),fun x hx => ?_⟩
 ·obtain ⟨a,t⟩ := h.ar p hp
  have hl := Ao.lt a
  exact ⟨a.keep kp (fun x hx => n0 x (hl x hx) (t x hx)),fun x hx => by rw [hg x (hl x hx)]; exact t x hx⟩
 ·by_cases hw : x < w.heap.size
  ·exact absurd hx (n0 x (Nat.lt_of_lt_of_le hw h.kp.size) (h.t0 x hw))
  ·exact Or.inr (by omega)
 ·rw [hg x (Nat.lt_of_lt_of_le hx h.kp.size)]; exact h.t0 x hx
theorem Qv.kps (v : Qv tag U tag' U') : ∃ S,Kp S U U' ∧ ∀ x,x ∈ S → x < U.heap.size → tag x ≠ 0 := by
 classical
 refine ⟨(List.range U.heap.size).filter fun x => decide (tag x ≠ 0),⟨v.os,v.tape,v.output,v.size,fun x hx hn => ?_⟩,fun x hx _ => ?_⟩
 ·simp only [List.mem_filter,List.mem_range,decide_eq_true_eq,not_and,Classical.not_not] at hn
  have := hn hx
  exact v.block x hx (by omega) (by omega) (by omega)
 ·simp only [List.mem_filter,decide_eq_true_eq] at hx
  exact hx.2
theorem Ou.qv (h : Ou tag w U ao n c q) (v : Qv tag U tag' U') : Ou tag' w U' ao n c q := by
 obtain ⟨S,kp,hS⟩ := v.kps
 exact h.sm kp hS v.tg
theorem Ou.re (h : Ou tag w U ao n c q) (kp : Kp [] U U') (hg : ∀ x,x < U.heap.size → tag' x = tag x) : Ou tag' w U' ao n c q := h.sm kp (fun x hx => by simp at hx) hg
theorem Ou.app (h : Ou tag w U ao n c q) (hP : Pd tag U b d l1 l2 s k) (p : Oq) (hp : Ao U p) (ht : ∀ x,x ∈ blk (.slice p.2.1 p.2.2.1 p.2.2.2) → tag x = 0) (hlen : n + 1 ≤ 1000000) :
  ∃ ao' n' c' U2 tag2,(∀ ty,(Builtin.append_ #[25,25] ty #[.slice ao n c,.slice (some ⟨U.heap.size,0,none⟩) 1 1]).run Tryz.prog (U.alloc (.cells (oc p.1 p.2) 24)) = .ok (.slice ao' n' c') U2) ∧ Ou tag2 w U2 ao' n' c' (q ++ [p]) ∧ Pd tag2 U2 b d l1 l2 s k := by
 have k1 : Kp [] U (U.alloc (.cells (oc p.1 p.2) 24)) := (Kp.refl _ _).alloc _
 have hg : ∀ x,x < U.heap.size → (fun x => if x < U.heap.size then tag x else 0) x = tag x := fun x hx => if_pos hx
 have h1 := h.re k1 hg
 have P1 := hP.re k1 hg
 have hs := src_op (p := p) (heap_new U _)
 obtain ⟨v',U2,hrun,o2,k2,b2,a2,c2,rfl⟩ := appK Tryz.underlying25 infoOp rfl (by decide) _ _ _ _ h1.own _ 1 (qs [p]) hs (fun _ => by omega) hlen
 have hz : U.heap.size < (U.alloc (.cells (oc p.1 p.2) 24)).heap.size := by simp
 have hSz : ∀ x,x ∈ blk (.slice ao n c) → x < (U.alloc (.cells (oc p.1 p.2) 24)).heap.size → (fun x => if x < U.heap.size then tag x else 0) x = 0 := fun x hx _ => (h1.nw x hx).2
 have t2 : ∀ x,(x < (U.alloc (.cells (oc p.1 p.2) 24)).heap.size → (fun x => if x < U.heap.size then tag x else 0) x = 0) → (fun x => if x < U.heap.size then tag x else 0) x = 0 := fun x hx => by
  by_cases hl : x < (U.alloc (.cells (oc p.1 p.2) 24)).heap.size
  ·exact hx hl
  ·exact if_neg (by omega)
 refine ⟨_,_,_,U2,fun x => if x < U.heap.size then tag x else 0,hrun,⟨by rw [qs_append]; exact o2,fun x hx => ?_,fun r hr => ?_,h1.kp.trans k2 (fun x hx => Or.inr (h1.nw x hx).1),h1.t0⟩,P1.sm0 k2 hSz (fun _ _ => rfl)⟩
 ·rcases b2 x hx with e | e
  ·exact h1.nw x e
  ·refine ⟨?_,if_neg (by omega)⟩
   have := h1.kp.size
   omega
 ·have hx : Ao (U.alloc (.cells (oc p.1 p.2) 24)) r ∧ ∀ x,x ∈ blk (.slice r.2.1 r.2.2.1 r.2.2.2) → (fun x => if x < U.heap.size then tag x else 0) x = 0 := by
   rcases List.mem_append.1 hr with e | e
   ·exact h1.ar r e
   ·rw [List.mem_singleton.1 e]
    exact ⟨hp.keep k1 (fun _ _ => by simp),fun x hx => by
     show (if x < U.heap.size then tag x else 0) = 0
     rw [if_pos (Ao.lt hp x hx)]
     exact ht x hx⟩
  exact ⟨hx.1.keep k2 (hx.1.apart h1.own),hx.2⟩
end
section
variable {tag tag' : Nat → Nat} {w U U' : World} {b d k : Nat} {l1 l2 : Sl} {s : Py} {q : List Oq} {ao : Option Addr} {n c : Nat}
structure Vr (tag : Nat → Nat) (U : World) (g : Nat) (o : Ot) (p : Sl) : Prop where
 at' : At U g (oc o p) 24
 tg : tag g = 0
 ar : Ao U (o,p)
 ta : ∀ x,x ∈ blk (.slice p.1 p.2.1 p.2.2) → tag x = 0
theorem Vr.qv {g : Nat} {o : Ot} {p : Sl} (h : Vr tag U g o p) (v : Qv tag U tag' U') : Vr tag' U' g o p := by
 obtain ⟨S,kp,hS⟩ := v.kps
 have hl := Ao.lt h.ar
 exact ⟨h.at'.qv h.tg v,by rw [v.tg g h.at'.lt]; exact h.tg,h.ar.keep kp (fun x hx hs => hS x hs (hl x hx) (h.ta x hx)),fun x hx => by rw [v.tg x (hl x hx)]; exact h.ta x hx⟩
theorem Vr.r0 {g : Nat} {o : Ot} {p : Sl} (h : Vr tag U g o p) : R0 tag U p o.al := Rk.of_own h.ar rfl h.ta
theorem Vr.new (hP : Pd tag U b d l1 l2 s k) (hO : Ou tag w U ao n c q) {W : World} {o : Ot} {p : Sl} (hA : Ao W (o,p)) (hn : ∀ x,x ∈ blk (.slice p.1 p.2.1 p.2.2) → U.heap.size ≤ x) (kp : Kp [] U W) :
  ∃ tag1,Pd tag1 (W.alloc (.cells (oc o p) 24)) b d l1 l2 s k ∧ Ou tag1 w (W.alloc (.cells (oc o p) 24)) ao n c q ∧ Vr tag1 (W.alloc (.cells (oc o p) 24)) W.heap.size o p := by
 have k1 : Kp [] U (W.alloc (.cells (oc o p) 24)) := kp.alloc _
 have hg : ∀ x,x < U.heap.size → (fun x => if x < U.heap.size then tag x else 0) x = tag x := fun x hx => if_pos hx
 have hs := kp.size
 exact ⟨_,hP.re k1 hg,hO.re k1 hg,⟨At.new _ _ _,if_neg (by omega),hA.keep ((Kp.refl [] _).alloc _) (fun _ _ => by simp),fun x hx => if_neg (by have := hn x hx; omega)⟩⟩
end
set_option maxHeartbeats 2000000 in
theorem some_any (w : World) (ao : Option Addr) (n c : Nat) (F : Nat → Rx) (hin : Xin w ao n c F) (fine : Bool) :
  Calls Tryz.prog 11 #[.slice ao n c,.bool fine] w fun e w' => ∃ ao' n' c' q,e = .returned (.slice ao' n' c') ∧ Mq w w' ao' n' c' q ∧ os q = somF F (min n 50) fine := by
 have HN := rplayer_any w (fun _ => 0)
 have hmx := hin.max
 have HI : Hid (∀ i,i < n → ∃ b0 off p,ao = some ⟨b0,off,none⟩ ∧ ∀ V,Kp [] w V → (V.cell? ⟨b0,off + i * 9,none⟩ = some (.int .i64 (F i).kd) ∧ V.cell? ⟨b0,off + i * 9 + 1,none⟩ = some (.int .i64 (F i).a) ∧ V.cell? ⟨b0,off + i * 9 + 2,none⟩ = some (.int .i64 (F i).b) ∧ V.cell? ⟨b0,off + i * 9 + 3,none⟩ = some (.int .i64 (F i).c) ∧ V.cell? ⟨b0,off + i * 9 + 4,none⟩ = some (.int .i64 (F i).ty) ∧ V.cell? ⟨b0,off + i * 9 + 5,none⟩ = some (.int .i64 (F i).ns) ∧ V.cell? ⟨b0,off + i * 9 + 6,none⟩ = some (.string (F i).nm) ∧ V.cell? ⟨b0,off + i * 9 + 7,none⟩ = some (.string (F i).tt) ∧ V.cell? ⟨b0,off + i * 9 + 8,none⟩ = some (.slice p.1 p.2.1 p.2.2)) ∧ Calls Tryz.prog 8 #[rxv (F i) p] V fun e w' => Ma V w' (madF (F i)) e) := fun i hi => by
  obtain ⟨b0,off,p,e,hc,hr,hl⟩ := hin.at' i hi
  refine ⟨b0,off,p,e,fun V kV => ⟨?_,made_any V (F i) p (hr.kept kV) hl⟩⟩
  have hb : b0 < w.heap.size := block_lt_of_cell (a := ⟨b0,off + i * 9 + 0,none⟩) (hc 0 (by omega))
  have f : ∀ j,j < 9 → ∀ u,(rxc (F i) p)[j]? = some u → V.cell? ⟨b0,off + i * 9 + j,none⟩ = some u := fun j hj u hu => by rw [kV.cell hb (by simp)]; exact (hc j hj).trans hu
  exact ⟨f 0 (by omega) _ rfl,f 1 (by omega) _ rfl,f 2 (by omega) _ rfl,f 3 (by omega) _ rfl,f 4 (by omega) _ rfl,f 5 (by omega) _ rfl,f 6 (by omega) _ rfl,f 7 (by omega) _ rfl,f 8 (by omega) _ rfl⟩
 clear hin
 go_enter Tryz.func11,Tryz.ntmps11
 go_wp2_with (go_at_call 30; refine HN.mono ?_; rintro e W1 ⟨b,d,l1,l2,tag1,rfl,p1,v1⟩)
 have H0 : Hid (Pd tag1 W1 b d l1 l2 Py.first 0 ∧ Ou tag1 w W1 none 0 0 []) := ⟨p1,Ou.nil w tag1 (v1.kp (fun _ _ => rfl)) (fun x hx => v1.tg x hx)⟩
 clear HN p1 v1
 go_loopw [5,7] (fun v5 v7 wr => ∃ (i : Nat) (tag : Nat → Nat) (l1 l2 : Sl) (ao : Option Addr) (n' c : Nat) (q : List Oq),v7 = .int .i64 (i : Int) ∧ v5 = .slice ao n' c ∧ i ≤ n ∧ i ≤ 50 ∧ n' ≤ i ∧ Pd tag wr b d l1 l2 (Py.aft Py.first (lis F i)) i ∧ Ou tag w wr ao n' c q ∧ os q = somF F i fine) (fun _ v7 _ => 50 - (intOf v7).toNat)
 case atStart =>
  refine ⟨0,tag1,l1,l2,none,0,0,[],rfl,rfl,Nat.zero_le _,Nat.zero_le _,Nat.zero_le _,H0.out.1,H0.out.2,?_⟩
  unfold somF
  cases fine <;> rfl
 case round =>
  obtain ⟨i,tag,m1,m2,a5,n5,c5,q,rfl,rfl,hi,h50,hn5,P,O,hq⟩ := hrel
  clear H0
  by_cases hlt : i < n ∧ i < 50
  ·obtain ⟨hin,hi5⟩ := hlt
   obtain ⟨b0,off,p,rfl,HI2⟩ := HI.out i hin
   obtain ⟨⟨f0,f1,f2,f3,f4,f5,f6,f7,f8⟩,HM⟩ := HI2 wr O.kp
   have j0 : (0 : Int) ≤ (i : Int) := by omega
   have j1 : (i : Int) < (n : Int) := by omega
   have j2 : (i : Int) < 50 := by omega
   have hsm := somF_succ F i fine
   have hls := lis_succ F i
   have haft : Hid (Py.aft Py.first (lis F (i + 1)) = ((Py.aft Py.first (lis F i)).doF (madF (F i))).1) := by rw [hls,Py.aft_snoc]; exact rfl
   have hti := madF_tiny (F i)
   rw [← hq] at hsm
   clear hls HI HI2
   generalize Py.aft Py.first (lis F i) = s at *
   have HV : Hid (∀ W po,Ma wr W (madF (F i)) (.returned (ov (madF (F i)) po)) → ∃ tag1,Pd tag1 (W.alloc (.cells #[.int .i64 (madF (F i)).kd,.int .i64 (madF (F i)).nd,.int .i64 (madF (F i)).pa,.int .i64 (madF (F i)).rf,.int .i64 (madF (F i)).ty,.int .i64 (madF (F i)).ns,.string (madF (F i)).nm,.slice po.1 po.2.1 po.2.2,.string (madF (F i)).tt] 24)) b d m1 m2 s i ∧ Ou tag1 w (W.alloc (.cells #[.int .i64 (madF (F i)).kd,.int .i64 (madF (F i)).nd,.int .i64 (madF (F i)).pa,.int .i64 (madF (F i)).rf,.int .i64 (madF (F i)).ty,.int .i64 (madF (F i)).ns,.string (madF (F i)).nm,.slice po.1 po.2.1 po.2.2,.string (madF (F i)).tt] 24)) a5 n5 c5 q ∧ Vr tag1 (W.alloc (.cells #[.int .i64 (madF (F i)).kd,.int .i64 (madF (F i)).nd,.int .i64 (madF (F i)).pa,.int .i64 (madF (F i)).rf,.int .i64 (madF (F i)).ty,.int .i64 (madF (F i)).ns,.string (madF (F i)).nm,.slice po.1 po.2.1 po.2.2,.string (madF (F i)).tt] 24)) W.heap.size (madF (F i)) po) := fun W po hM => by
    obtain ⟨p2,e2,hA,hn,kp⟩ := hM
    have e3 : po = p2 := by
     simp only [ov,Ending.returned.injEq,Value.agg.injEq] at e2
     have e4 := congrArg (fun a : Array Value => a[7]?) e2
     simp at e4
     obtain ⟨x1,x2,x3⟩ := e4
     exact Prod.ext x1 (Prod.ext x2 x3)
    subst e3
    exact Vr.new P O hA hn kp
   have hP : Hid (Pd tag wr b d m1 m2 s i) := P
   clear P O hP
   generalize madF (F i) = o at *
   have HM2 : Calls Tryz.prog 8 #[rxv (F i) p] wr fun e W => ∃ po : Sl,e = .returned (.agg #[.int .i64 o.kd,.int .i64 o.nd,.int .i64 o.pa,.int .i64 o.rf,.int .i64 o.ty,.int .i64 o.ns,.string o.nm,.slice po.1 po.2.1 po.2.2,.string o.tt]) ∧ ∃ tag1,Pd tag1 (W.alloc (.cells #[.int .i64 o.kd,.int .i64 o.nd,.int .i64 o.pa,.int .i64 o.rf,.int .i64 o.ty,.int .i64 o.ns,.string o.nm,.slice po.1 po.2.1 po.2.2,.string o.tt] 24)) b d m1 m2 s i ∧ Ou tag1 w (W.alloc (.cells #[.int .i64 o.kd,.int .i64 o.nd,.int .i64 o.pa,.int .i64 o.rf,.int .i64 o.ty,.int .i64 o.ns,.string o.nm,.slice po.1 po.2.1 po.2.2,.string o.tt] 24)) a5 n5 c5 q ∧ Vr tag1 (W.alloc (.cells #[.int .i64 o.kd,.int .i64 o.nd,.int .i64 o.pa,.int .i64 o.rf,.int .i64 o.ty,.int .i64 o.ns,.string o.nm,.slice po.1 po.2.1 po.2.2,.string o.tt] 24)) W.heap.size o po := by
    refine HM.mono ?_
    rintro e W ⟨po,rfl,r2⟩
    exact ⟨po,rfl,HV.out W po ⟨po,rfl,r2⟩⟩
   have HD : Hid (∀ tag1 V po g,Pd tag1 V b d m1 m2 s i → Vr tag1 V g o po → Calls Tryz.prog 31 #[.pointer (some ⟨b,0,none⟩),.agg #[.int .i64 o.kd,.int .i64 o.nd,.int .i64 o.pa,.int .i64 o.rf,.int .i64 o.ty,.int .i64 o.ns,.string o.nm,.slice po.1 po.2.1 po.2.2,.string o.tt]] V fun e w' => e = .returned (.int .i64 (s.doF o).2) ∧ ∃ tag2 k1 k2,Pd tag2 w' b d k1 k2 (s.doF o).1 (i + 1) ∧ Qv tag1 V tag2 w') := fun tag1 V po g P V1 => rdo_any P (by omega) hti V1.r0
   clear HM HV
   unfold rxv at HM2
   by_cases hok : ((s.doF o).2 == 0 || !fine) = true
   ·rw [if_pos hok] at hsm
    have HA : Hid (∀ tag2 V po k1 k2 g,Pd tag2 V b d k1 k2 (s.doF o).1 (i + 1) → Ou tag2 w V a5 n5 c5 q → Vr tag2 V g o po → ∃ ao' n' c' U2 tag3,(∀ ty,(Builtin.append_ #[25,25] ty #[.slice a5 n5 c5,.slice (some ⟨V.heap.size,0,none⟩) 1 1]).run Tryz.prog (V.alloc (.cells #[.int .i64 o.kd,.int .i64 o.nd,.int .i64 o.pa,.int .i64 o.rf,.int .i64 o.ty,.int .i64 o.ns,.string o.nm,.slice po.1 po.2.1 po.2.2,.string o.tt] 24)) = .ok (.slice ao' n' c') U2) ∧ n' ≤ i + 1 ∧ Ou tag3 w U2 ao' n' c' (q ++ [(o,po)]) ∧ Pd tag3 U2 b d k1 k2 (s.doF o).1 (i + 1) ∧ os (q ++ [(o,po)]) = somF F (i + 1) fine) := fun tag2 V po k1 k2 g P2 O2 V2 => by
     obtain ⟨ao',n',c',U2,tag3,hr,O3,P3⟩ := O2.app P2 (o,po) V2.ar V2.ta (by omega)
     refine ⟨ao',n',c',U2,tag3,hr,?_,O3,P3,?_⟩
     ·have h1 := O3.mq.len
      have h2 := O2.mq.len
      rw [List.length_append] at h1
      simp at h1
      omega
     ·rw [hsm]
      simp [os]
    clear hsm hq
    by_cases hc : (s.doF o).2 = 0
    ·have t1 : ((s.doF o).2 == 0) = true := by simpa using hc
     generalize (s.doF o).2 = ec at *
     subst hc
     clear hok
     go_wp2_with (first | (go_at_call 8; refine HM2.mono ?_; rintro e W2 ⟨po,rfl,tag1,P1,O1,V1⟩) | (go_at_call 31; refine (HD.out _ _ _ _ P1 V1).mono ?_; rintro e W4 ⟨rfl,tag2,k1,k2,P2,v2⟩; obtain ⟨r0,r1,r2,r3,r4,r5,r6,r7,r8⟩ := nine_at (V1.qv v2).at'; obtain ⟨a6,n6,c6,U2,tag3,hrun,hn6,O3,P3,hq3⟩ := HA.out _ _ _ _ _ _ P2 (O1.qv v2) (V1.qv v2); have Y9 : Hid (_ ∧ _ ∧ _ ∧ _) := ⟨hn6,O3,P3,hq3⟩; clear O1 V1 P1 P2 v2 hn6 O3 P3 hq3 HA HD) | (at_builtin; refine Lib.wpList_append_run _ rfl _ _ _ _ rfl _ _ rfl rfl _ _ (hrun _) ?_))
     go_roundw
     case rel =>
      obtain ⟨h6,O3,P3,hq3⟩ := Y9.out
      exact ⟨i + 1,tag3,k1,k2,a6,n6,c6,_,by go_num,rfl,by omega,by omega,h6,by rw [haft.out]; exact P3,O3,hq3⟩
     case measure => simp [intOf]; omega
    ·have t1 : ((s.doF o).2 == 0) = false := by simpa using hc
     obtain rfl : fine = false := by rw [t1] at hok; simpa using hok
     generalize (s.doF o).2 = ec at *
     clear hok hc
     go_wp2_with (first | (go_at_call 8; refine HM2.mono ?_; rintro e W2 ⟨po,rfl,tag1,P1,O1,V1⟩) | (go_at_call 31; refine (HD.out _ _ _ _ P1 V1).mono ?_; rintro e W4 ⟨rfl,tag2,k1,k2,P2,v2⟩; obtain ⟨r0,r1,r2,r3,r4,r5,r6,r7,r8⟩ := nine_at (V1.qv v2).at'; obtain ⟨a6,n6,c6,U2,tag3,hrun,hn6,O3,P3,hq3⟩ := HA.out _ _ _ _ _ _ P2 (O1.qv v2) (V1.qv v2); have Y9 : Hid (_ ∧ _ ∧ _ ∧ _) := ⟨hn6,O3,P3,hq3⟩; clear O1 V1 P1 P2 v2 hn6 O3 P3 hq3 HA HD) | (at_builtin; refine Lib.wpList_append_run _ rfl _ _ _ _ rfl _ _ rfl rfl _ _ (hrun _) ?_))
     go_roundw
     case rel =>
      obtain ⟨h6,O3,P3,hq3⟩ := Y9.out
      exact ⟨i + 1,tag3,k1,k2,a6,n6,c6,_,by go_num,rfl,by omega,by omega,h6,by rw [haft.out]; exact P3,O3,hq3⟩
     case measure => simp [intOf]; omega
   ·rw [if_neg hok] at hsm
    have t1 : ((s.doF o).2 == 0) = false := by
     cases h : ((s.doF o).2 == 0) with
     | false => rfl
     | true => rw [h] at hok; simp at hok
    obtain rfl : fine = true := by
     cases fine with
     | true => rfl
     | false => rw [t1] at hok; simp at hok
    have hq3 : Hid (os q = somF F (i + 1) true) := hsm.symm
    generalize (s.doF o).2 = ec at *
    clear hok hsm hq
    go_wp2_with (first | (go_at_call 8; refine HM2.mono ?_; rintro e W2 ⟨po,rfl,tag1,P1,O1,V1⟩) | (go_at_call 31; refine (HD.out _ _ _ _ P1 V1).mono ?_; rintro e W4 ⟨rfl,tag2,k1,k2,P2,v2⟩; have O2 := O1.qv v2; have Y9 : Hid (_ ∧ _) := ⟨O2,P2⟩; clear O1 V1 P1 P2 v2 O2 HD))
    go_roundw
    case rel => exact ⟨i + 1,tag2,k1,k2,a5,n5,c5,q,by go_num,rfl,by omega,by omega,by omega,by rw [haft.out]; exact Y9.out.2,Y9.out.1,hq3.out⟩
    case measure => simp [intOf]; omega
  ·have hm : min n 50 = i := by omega
   have H9 : Hid (Mq w wr a5 n5 c5 q ∧ os q = somF F (min n 50) fine) := ⟨O.mq,by rw [hm]; exact hq⟩
   clear HI P O hq
   by_cases hi1 : i < n
   ·obtain rfl : i = 50 := by omega
    have j1 : (50 : Int) < (n : Int) := by omega
    clear hlt hi1 hi h50 hm
    rw [show ((50 : Nat) : Int) = 50 from rfl]
    go_wp2
    go_ret
    exact ⟨_,_,_,_,rfl,H9.out⟩
   ·have j1 : (n : Int) ≤ (i : Int) := by omega
    clear hlt hi1 hm
    go_wp2
    go_ret
    exact ⟨_,_,_,_,rfl,H9.out⟩
theorem Py.Done.right : ∀ {l : List Ot} {s : Py},Py.Done s l → ∀ o,o ∈ l → rightO o = true
 | [],_,_,o,ho => by cases ho
 | p :: l,s,h,o,ho => by
   obtain ⟨h1,h2⟩ := Py.done_cons.1 h
   rcases List.mem_cons.1 ho with rfl | ho
   ·cases hr : rightO o with
    | true => rfl
    | false =>
      unfold Py.doF at h1
      rw [if_pos hr] at h1
      exact absurd (show (12 : Int) = 0 from h1) (by decide)
   ·exact Py.Done.right h2 o ho
theorem tiny_ok {o : Ot} (h : tinyO o) (hr : rightO o = true) : okO o = true := by
 have h1 := h.nm
 have h2 := h.tt
 have h3 := h.al
 have hf : fitO o := ⟨by omega,by omega,by omega,fun a ha => by have := h.each a ha; omega⟩
 unfold okO
 rw [hr,fitB_iff.2 hf]
 rfl
theorem ab_tiny : ∀ (l : List Att),(∀ a,a ∈ l → a.1.size ≤ 20 ∧ a.2.size ≤ 30) → (ab l).length ≤ l.length * 56
 | [],_ => Nat.le_refl _
 | a :: l,h => by
   have h1 := h a (by simp)
   have h2 := ab_tiny l (fun x hx => h x (by simp [hx]))
   simp only [ab,List.length_append,tb_len,List.length_cons]
   omega
theorem obs_tiny : ∀ l : List Ot,(∀ o,o ∈ l → tinyO o) → (obs l).length ≤ 400 * l.length
 | [],_ => Nat.le_refl _
 | o :: l,h => by
   have h1 := obs_tiny l (fun x hx => h x (by simp [hx]))
   have t := h o (by simp)
   have h2 := ab_tiny o.al t.each
   have h3 := t.nm
   have h4 := t.tt
   have h5 := t.al
   simp only [obs,List.length_append,List.length_cons,ob_len]
   omega
theorem os16_eq : ∀ q : List Oq,os16 q = os q
 | [] => rfl
 | p :: q => by
   show p.1 :: os16 q = p.1 :: os q
   rw [os16_eq q]
abbrev fib (l : List Ot) : Py := Py.aft Py.first l
theorem Ps.okT {tag : Nat → Nat} {w : World} {b k : Nat} {q : Bool} {A : Ar} (h : Ps tag w b q A k) (hk : k ≤ 1300) (x : Nat) : okT (A.lb x) (A.below x) := by
 refine h.ful.toOk.okT (by have := h.sz.n; omega) (fun y => ?_) x
 obtain ⟨_,_,t⟩ := h.sz.lbs y
 exact ⟨by have := t.len; omega,t.fits⟩
section
variable {w : World} {ao : Option Addr} {n c : Nat} {q : List Oq} {l : List Ot}
theorem play_ok (hz : Ry w ao n c q) (he : os q = l) (hn : n ≤ 1300) (hd : Py.Done Py.first l) :
  Calls Tryz.prog 18 #[.slice ao n c] w fun e w' => ∃ a tag,e = .returned (.tuple #[.pointer (some ⟨a,0,none⟩),.int .i64 (n : Int),.int .i64 0]) ∧ Ps tag w' a (fib l).q (fib l).A n ∧ Kp [] w w' := by
 subst he
 have hl := hz.rq.len
 refine (replay_any w ao n c q hz hn).mono ?_
 rintro e w' ⟨ptr,j,ec,rfl,⟨h1,h2,h3⟩,k1⟩
 rw [hd.play] at h1 h3
 obtain ⟨e1,rfl⟩ : (os q).length = j.toNat ∧ 0 = ec := by simpa using h1
 rw [List.length_map,← hl] at e1
 obtain rfl : j = (n : Int) := by omega
 rcases h3 with ⟨_,a,tag,rfl,P⟩ | ⟨h3,_⟩
 ·exact ⟨a,tag,rfl,by rw [hl]; exact P,k1⟩
 ·exact absurd rfl h3
theorem Ry.upto (hz : Ry w ao n c q) (k : Nat) (hk : k ≤ n) : Ry w ao k c (q.take k) := by
 have hl := hz.rq.len
 refine ⟨⟨by rw [List.length_take]; omega,by have := hz.rq.cap; omega,fun j hj => ?_⟩,fun p hp => hz.at' p (List.mem_of_mem_take hp),fun p hp => hz.ti p (List.mem_of_mem_take hp)⟩
 obtain ⟨b,o,e,h⟩ := hz.rq.at' j (by omega)
 refine ⟨b,o,e,?_⟩
 rw [h]
 have e2 := qs_append (q.take k) (q.drop k)
 rw [List.take_append_drop] at e2
 rw [e2,List.getElem?_append_left (by rw [qs_len,List.length_take]; omega)]
theorem check_upto (hz : Ry w ao n c q) (he : os q = l) (hn : n ≤ 1300) (hd : Py.Done Py.first l) (k : Nat) (hk : k ≤ n) :
  Calls Tryz.prog 24 #[.slice ao k c] w fun e w' => e = .returned (.int .i64 0) ∧ Kp [] w w' := by
 subst he
 have h := check_any w ao k c (q.take k) (hz.upto k hk) (by omega)
 have hd2 := hd.take k
 rw [← List.map_take] at hd2
 rw [show (Py.playF Py.first (os (q.take k))).2.2 = 0 from hd2] at h
 exact h
end
theorem enc_ok {w W : World} {a : Option Addr} {n c : Nat} {q : List Oq} {l : List Ot} (M : Mq w W a n c q) (he : os q = l) (ht : ∀ o,o ∈ l → tinyO o) (hd : Py.Done Py.first l) (hn : n ≤ 50) :
  Calls Tryz.prog 20 #[.slice a n c] W fun e w' => ∃ a' n' c',e = .returned (.tuple #[.slice a' n' c',.int .i64 0]) ∧ Kp [] W w' ∧
   Calls Tryz.prog 21 #[.slice a' n' c'] w' fun e w2 => ∃ ao n2 c2 L,e = .returned (.tuple #[.slice ao n2 c2,.int .i64 0]) ∧ Mq w' w2 ao n2 c2 L ∧ os L = l ∧ n2 = n := by
 subst he
 have hlen := M.len
 have hok : ∀ p,p ∈ q → okO p.1 = true := fun p hp => tiny_ok (ht _ (List.mem_map.2 ⟨p,hp,rfl⟩)) (hd.right _ (List.mem_map.2 ⟨p,hp,rfl⟩))
 have hob : (obs (os16 q)).length ≤ 20000 := by
  rw [os16_eq]
  have := obs_tiny (os q) ht
  rw [List.length_map] at this
  omega
 have G : Given W a n c q := ⟨M.rq,fun p hp => ⟨(M.ar p hp).rp,by
  have h1 := Rp.len (M.ar p hp).rp
  have h2 := (ht _ (List.mem_map.2 ⟨p,hp,rfl⟩)).al
  omega⟩,by omega⟩
 have hokL : ∀ o,o ∈ os16 q → okO o = true := fun o ho => by
  obtain ⟨p,h1,h2⟩ := mem_os ho
  rw [← h2]
  exact hok p h1
 refine (encode_ok W a n c q G hok (by omega)).mono ?_
 rintro e w' ⟨a',n',c',rfl,mb⟩
 have hn' : n' ≤ 20000 := by have := mb.1.rb.len; rw [b8_len] at this; omega
 refine ⟨a',n',c',rfl,mb.2.1,(decode_any w' a' n' c' _ mb.1.rb (obs_byt _) (by omega)).mono (fun e w2 h => ?_)⟩
 rcases h with ⟨L,ao,n2,c2,rfl,hM,hx,hL⟩ | ⟨_,_,hno⟩
 ·have hos : os16 q = os16 L := obs_inj hokL (fun o ho => by
   obtain ⟨p,h1,h2⟩ := mem_os ho
   rw [← h2]
   exact hL p h1) hx
  rw [os16_eq,os16_eq] at hos
  refine ⟨ao,n2,c2,L,rfl,hM,hos.symm,?_⟩
  have h1 := congrArg List.length hos
  rw [List.length_map,List.length_map] at h1
  have h2 := hM.len
  omega
 ·exact absurd rfl (hno (os16 q) hokL)
end Go.Proofs.YtpkppobkagdhkaaGreat
