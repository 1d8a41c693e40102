/-
 RdK RrefE.
-/
import Derived.Test.YtpkppobkagdhkaaGreatB33
set_option linter.unusedVariables false
set_option linter.unusedSimpArgs false
set_option maxRecDepth 100000
set_option maxHeartbeats 1000000
namespace Go.Proofs.YtpkppobkagdhkaaGreat
open Go.RowKit Go.Maps Utf
def Z7 : Array Value := #[.int .i64 0,.int .i64 0,.string ⟨#[]⟩,.string ⟨#[]⟩,.slice none 0 0,.slice none 0 0,.int .i64 0]
theorem infoR : (Tryz.prog.info? 106).map (fun i => (i.zero,i.size,i.bytes)) = some (some (.agg Z7),7,104) := by kernel_rfl
theorem dl_one (l : Lb) (u : Int) (p : Dp) : ∀ v,v ∈ dl l u p → v.oneCell' = true := fun v hv => by
 simp [dl] at hv
 rcases hv with rfl | rfl | rfl | rfl | rfl | rfl | rfl <;> rfl
section
variable {tag : Nat → Nat} {w w0 : World} {d g o c : Nat} {q : Bool} {A : Ar} {pl : Nat → Dp}
theorem Dd.own (h : Dd tag w d g o c q A pl) : ∃ xs,OwnK 7 w 106 (.slice (some ⟨g,o,none⟩) A.n c) A.n xs ∧ ∀ i,i < A.n → ∀ k,k < 7 → xs[i * 7 + k]? = (dl (A.lb i) (Ar.upI (A.up i)) (pl i))[k]? := by
 obtain ⟨cur,h1,h2,h3⟩ := h.body
 have hcap := h.cap
 refine ⟨(cur.toList.drop o).take (A.n * 7),⟨by rw [List.length_take,List.length_drop]; simp; omega,Or.inr ⟨g,o,c,cur,rfl,h1,h.cap,h.max,h2,fun j hj => ?_⟩⟩,fun i hi k hk => ?_⟩
 ·rw [List.getElem?_take_of_lt hj,List.getElem?_drop]; simp
 ·rw [List.getElem?_take_of_lt (by omega),List.getElem?_drop,← h3 i hi k hk]
  simp [Nat.add_assoc]
structure Oner (A A' : Ar) (l : Lb) (u : Int) : Prop where
 n : A'.n = A.n + 1
 lb : ∀ i,i < A.n → A'.lb i = A.lb i
 kids : ∀ i,i < A.n → A'.kids i = A.kids i
 up : ∀ i,i < A.n → A'.up i = A.up i
 lbn : A'.lb A.n = l
 kn : A'.kids A.n = []
 un : Ar.upI (A'.up A.n) = u
theorem Dd.grown {A' : Ar} {w2 : World} {xs : List Value} {l : Lb} {u : Int} {pa : Option Addr × Nat × Nat} {v' : Value} (h : Dd tag w0 d g o c q A pl) (k0 : Kp [] w0 w) (hx : xs.length = A.n * 7) (hxs : ∀ i,i < A.n → ∀ k,k < 7 → xs[i * 7 + k]? = (dl (A.lb i) (Ar.upI (A.up i)) (pl i))[k]?)
  (ra : Rk (fun x => w0.heap.size ≤ x) 2 w pa.1 pa.2.1 pa.2.2 (cs l.attrs)) (on : Oner A A' l u)
  (k : Kp [d,g] w0 w2) (kw : ∀ x,x < w.heap.size → x ≠ d → x ≠ g → w2.heap[x]? = w.heap[x]?) (hd : At w2 d #[v',.bool q] 69) (ho : OwnK 7 w2 106 v' (A.n + 1) (xs ++ dl l u (pa,(none,0,0)))) (hv : ∀ x,x ∈ blk v' → x = g ∨ w.heap.size ≤ x) :
  ∃ tag',Dn tag' w2 d q A' ∧ Dv tag w0 tag' w2 := by
 obtain ⟨hol,ho⟩ := ho
 rcases ho with ⟨_,h0⟩ | ⟨g2,o2,c2,cur2,hv2,hg2,hc1,hc2,hc3,hc4⟩
 ·omega
 have hgm : g2 = g ∨ w.heap.size ≤ g2 := hv g2 (by rw [hv2]; simp [blk])
 have hlt := h.lt
 have hk0 := k0.size
 have hne := h.ne
 obtain ⟨T,hT⟩ : ∃ T : Nat → Nat,T = fun x => if x < w0.heap.size then tag x else if x = g2 then 4 else 5 := ⟨_,rfl⟩
 have T0 : ∀ x,x < w0.heap.size → T x = tag x := fun x hx => by rw [hT]; simp only [if_pos hx]
 obtain ⟨P,hP⟩ : ∃ P : Nat → Dp,P = fun i => if i = A.n then (pa,(none,0,0)) else pl i := ⟨_,rfl⟩
 have Pn : P A.n = (pa,(none,0,0)) := by rw [hP]; simp
 have Pi : ∀ i,i < A.n → P i = pl i := fun i hi => by rw [hP]; simp only [if_neg (show i ≠ A.n by omega)]
 have old : ∀ {K ao n c xs},Rk (Q5 tag) K w0 ao n c xs → Rk (Q5 T) K w2 ao n c xs := fun {K ao n c xs} r => by
  refine ⟨r.len,r.cap,fun hn => ?_⟩
  obtain ⟨b,off,cur,t,hq,e1,e2,e3⟩ := r.at' hn
  have hl := lt_of e2
  have h5 : tag b = 5 := hq
  exact ⟨b,off,cur,t,(T0 b hl).trans hq,e1,by
   rw [k.block b hl (by
    simp only [List.mem_cons,List.not_mem_nil,or_false,not_or]
    refine ⟨fun e => ?_,fun e => ?_⟩
    ·rw [e,h.td] at h5; cases h5
    ·rw [e,h.tg] at h5; cases h5)]
   exact e2,e3⟩
 have new : Rk (Q5 T) 2 w2 pa.1 pa.2.1 pa.2.2 (cs l.attrs) := by
  refine ⟨ra.len,ra.cap,fun hn => ?_⟩
  obtain ⟨b,off,cur,t,hq,e1,e2,e3⟩ := ra.at' hn
  have hl := lt_of e2
  have hq' : w0.heap.size ≤ b := hq
  refine ⟨b,off,cur,t,?_,e1,by rw [kw b hl (by omega) (by omega)]; exact e2,e3⟩
  show T b = 5
  rw [hT]
  simp only [if_neg (show ¬ b < w0.heap.size by omega)]
  exact if_neg (by omega)
 refine ⟨T,⟨g2,o2,c2,P,?_⟩,Dv.of_kp k (fun x hx _ => ?_) T0⟩
 ·refine ⟨by rw [on.n,← hv2]; exact hd,by rw [T0 d hlt.1]; exact h.td,by rw [on.n]; exact hc1,hc2,⟨cur2,hg2,hc3,fun i hi k hk => ?_⟩,?_,fun i hi => ?_,fun i hi => ?_,fun i hi => ?_⟩
  ·rw [on.n] at hi
   rw [Nat.add_assoc,hc4 _ (by omega)]
   by_cases hin : i = A.n
   ·subst hin
    rw [Pn,on.lbn,on.un,List.getElem?_append_right (by omega),hx,show A.n * 7 + k - A.n * 7 = k by omega]
   ·rw [Pi i (by omega),on.lb i (by omega),on.up i (by omega),List.getElem?_append_left (by omega),hxs i (by omega) k hk]
  ·rcases hgm with e | e
   ·rw [e,T0 g hlt.2]; exact h.tg
   ·rw [hT]
    simp only [if_neg (show ¬ g2 < w0.heap.size by omega),if_pos trivial]
  ·rw [on.n] at hi
   by_cases hin : i = A.n
   ·subst hin; rw [Pn,on.lbn]; exact new
   ·rw [Pi i (by omega),on.lb i (by omega)]; exact old (h.att i (by omega))
  ·rw [on.n] at hi
   by_cases hin : i = A.n
   ·subst hin; rw [Pn,on.kn]; exact Rk.nil _ _ _ _ _
   ·rw [Pi i (by omega),on.kids i (by omega)]; exact old (h.kid i (by omega))
  ·rw [on.n] at hi
   by_cases hin : i = A.n
   ·subst hin; rw [Pn]; exact .inl rfl
   ·rw [Pi i (by omega)]; exact h.kf i (by omega)
 ·rcases List.mem_cons.1 hx with rfl | hx
  ·exact .inl h.td
  ·rw [List.mem_singleton.1 hx]; exact .inr h.tg
theorem Ar.oner_new (ok : A.Ok) (l : Lb) : Oner A (A.new l) l (-1) := by
 have ho := ok.out A.n (Nat.le_refl _)
 refine ⟨rfl,fun i hi => ?_,fun _ _ => rfl,fun _ _ => rfl,?_,ho.1,?_⟩
 ·show (if i = A.n then _ else _) = _; rw [if_neg (by omega)]
 ·show (if A.n = A.n then _ else _) = _; rw [if_pos rfl]
 ·show Ar.upI (A.up A.n) = _; rw [ho.2]; rfl
end
theorem rnew_any (w : World) (tag : Nat → Nat) :
  Calls Tryz.prog 47 #[] w fun e w' => ∃ d tag',e = .returned (.pointer (some ⟨d,0,none⟩)) ∧ Dn tag' w' d false Ar.first ∧ Dv tag w tag' w' ∧ w.heap.size ≤ d := by
 obtain ⟨W1,hW1⟩ : ∃ W,W = w.alloc (.cells #[.int .i64 1,.int .i64 0,.string ⟨#[]⟩,.string ⟨#[]⟩,.slice none 0 0,.slice none 0 0,.int .i64 (-1)] 106) := ⟨_,rfl⟩
 obtain ⟨W2,hW2⟩ : ∃ W,W = W1.alloc (.cells #[.slice (some ⟨w.heap.size,0,none⟩) 1 1,.bool false] 69) := ⟨_,rfl⟩
 have k1 : Kp [] w W1 := by rw [hW1]; exact (Kp.refl _ _).alloc _
 have k2 : Kp [] W1 W2 := by rw [hW2]; exact (Kp.refl _ _).alloc _
 have hs1 : W1.heap.size = w.heap.size + 1 := by rw [hW1]; simp
 have a1 : At W2 w.heap.size #[.int .i64 1,.int .i64 0,.string ⟨#[]⟩,.string ⟨#[]⟩,.slice none 0 0,.slice none 0 0,.int .i64 (-1)] 106 := (show At W1 _ _ _ by rw [hW1]; exact At.new _ _ _).kept k2 (by simp)
 have a2 : At W2 W1.heap.size #[.slice (some ⟨w.heap.size,0,none⟩) 1 1,.bool false] 69 := by rw [hW2]; exact At.new _ _ _
 have HE : Hid (∃ d tag',(some ⟨w.heap.size + 1,0,none⟩ : Option Addr) = some ⟨d,0,none⟩ ∧ Dn tag' W2 d false Ar.first ∧ Dv tag w tag' W2 ∧ w.heap.size ≤ d) := by
  obtain ⟨T,hT⟩ : ∃ T : Nat → Nat,T = fun x => if x < w.heap.size then tag x else if x = w.heap.size then 4 else 3 := ⟨_,rfl⟩
  refine ⟨w.heap.size + 1,T,rfl,⟨w.heap.size,0,1,fun _ => ((none,0,0),(none,0,0)),?_⟩,Dv.of_kp (k1.trans k2 (fun x hx => Or.inl hx)) (fun x hx => by simp at hx) (fun x hx => by rw [hT]; simp only [if_pos hx]),by omega⟩
  rw [hs1] at a2
  refine ⟨a2,?_,Nat.le_refl _,by decide,⟨_,a1,by simp,fun i hi k hk => ?_⟩,?_,fun i hi => Rk.nil _ _ _ _ _,fun i hi => Rk.nil _ _ _ _ _,fun i hi => .inl rfl⟩
  ·rw [hT]; simp only [if_neg (show ¬ w.heap.size + 1 < w.heap.size by omega),if_neg (show w.heap.size + 1 ≠ w.heap.size by omega)]
  ·have : i < 1 := hi
   obtain rfl : i = 0 := by omega
   show _ = (dl (1,0,⟨#[]⟩,[],⟨#[]⟩) (-1) ((none,0,0),(none,0,0)))[k]?
   simp [dl,Lb.kind,Lb.ns,Lb.name,Lb.text]
  ·rw [hT]; simp only [if_neg (show ¬ w.heap.size < w.heap.size by omega),if_pos trivial]
 have HW0 : (w.alloc (.cells #[.int .i64 1,.int .i64 0,.string ⟨#[]⟩,.string ⟨#[]⟩,.slice none 0 0,.slice none 0 0,.int .i64 (-1)] 106)).alloc (.cells #[.slice (some ⟨w.heap.size,0,none⟩) 1 1,.bool false] 69) = W2 := by rw [hW2,hW1]
 have HW : Hid ((w.alloc (.cells #[.int .i64 1,.int .i64 0,.string ⟨#[]⟩,.string ⟨#[]⟩,.slice none 0 0,.slice none 0 0,.int .i64 (-1)] 106)).alloc (.cells #[.slice (some ⟨w.heap.size,0,none⟩) 1 1,.bool false] 69) = W2) := HW0
 clear hW1 hW2 a1 a2 k1 k2 hs1 HW0
 go_enter Tryz.func47,Tryz.ntmps47
 go_wp2
 rw [HW.out]
 go_ret
 obtain ⟨d,tag',e1,e2⟩ := HE.out
 cases e1
 exact ⟨_,tag',rfl,e2⟩
end Go.Proofs.YtpkppobkagdhkaaGreat
namespace Go.Proofs.YtpkppobkagdhkaaGreat
open Go.RowKit
set_option maxHeartbeats 2000000 in
theorem rref_11 (w : World) (a2 a3 a4 a5 a6 : Int) (a7 : ByteArray) (a8 : List Att) (a9 : ByteArray) (p1 : Option Addr) (p2 p3 : Nat) (hq : p2 = a8.length) (hb : p2 ≤ 100000) :
  Calls Tryz.prog 48 #[ov ⟨11,a2,a3,a4,a5,a6,a7,a8,a9⟩ (p1,p2,p3)] w fun e w' => e = .returned (.bool (rightO ⟨11,a2,a3,a4,a5,a6,a7,a8,a9⟩)) ∧ Kp [] w w' := by
 obtain ⟨A,hA0⟩ : ∃ A,rightO ⟨11,a2,a3,a4,a5,a6,a7,a8,a9⟩ = A := ⟨_,rfl⟩
 rw [hA0]
 have hA : Hid (rightO ⟨11,a2,a3,a4,a5,a6,a7,a8,a9⟩ = A) := hA0
 clear hA0
 have hk : Kp [] w ((w.alloc (.cells #[.int .i64 11,.int .i64 a2,.int .i64 a3,.int .i64 a4,.int .i64 a5,.int .i64 a6,.string a7,.slice p1 p2 p3,.string a9] 24)).alloc (.cells #[.int .i64 a2,.int .i64 a3,.int .i64 a4] 3)) := ((Kp.refl _ _).alloc _).alloc _
 have R0 := rb_lit ((w.alloc (.cells #[.int .i64 11,.int .i64 a2,.int .i64 a3,.int .i64 a4,.int .i64 a5,.int .i64 a6,.string a7,.slice p1 p2 p3,.string a9] 24)).alloc (.cells #[.int .i64 a2,.int .i64 a3,.int .i64 a4] 3)) 3 _ (iz [a2,a3,a4,a5,a6]) 5 rfl rfl (by omega)
 rw [show ((w.alloc (.cells #[.int .i64 11,.int .i64 a2,.int .i64 a3,.int .i64 a4,.int .i64 a5,.int .i64 a6,.string a7,.slice p1 p2 p3,.string a9] 24)).alloc (.cells #[.int .i64 a2,.int .i64 a3,.int .i64 a4] 3)).heap.size = w.heap.size + 2 by simp] at R0
 have HZ := zero_any (((w.alloc (.cells #[.int .i64 11,.int .i64 a2,.int .i64 a3,.int .i64 a4,.int .i64 a5,.int .i64 a6,.string a7,.slice p1 p2 p3,.string a9] 24)).alloc (.cells #[.int .i64 a2,.int .i64 a3,.int .i64 a4] 3)).alloc (.cells #[.int .i64 a2,.int .i64 a3,.int .i64 a4,.int .i64 a5,.int .i64 a6] 3)) a7 a9 a8 [a2,a3,a4,a5,a6] p1 (some ⟨w.heap.size + 2,0,none⟩) p2 p3 5 5 hq R0 hb (by omega)
 clear R0
 have hk2 : Kp [] w (((w.alloc (.cells #[.int .i64 11,.int .i64 a2,.int .i64 a3,.int .i64 a4,.int .i64 a5,.int .i64 a6,.string a7,.slice p1 p2 p3,.string a9] 24)).alloc (.cells #[.int .i64 a2,.int .i64 a3,.int .i64 a4] 3)).alloc (.cells #[.int .i64 a2,.int .i64 a3,.int .i64 a4,.int .i64 a5,.int .i64 a6] 3)) := hk.alloc _
 clear hq hb
 simp only [ov]
 go_enter Tryz.func48,Tryz.ntmps48
 go_wp2
 go_loopw [13] (fun i wr => ∃ k : Nat,k ≤ 3 ∧ i = .int .i64 k ∧ wr = ((w.alloc (.cells #[.int .i64 11,.int .i64 a2,.int .i64 a3,.int .i64 a4,.int .i64 a5,.int .i64 a6,.string a7,.slice p1 p2 p3,.string a9] 24)).alloc (.cells #[.int .i64 a2,.int .i64 a3,.int .i64 a4] 3)) ∧ inK a2 a3 a4 k) (fun i _ => 3 - (intOf i).toNat)
 case atStart => exact ⟨0,by omega,rfl,rfl,fun h => by omega,fun h => by omega,fun h => by omega⟩
 case round =>
  obtain ⟨k,hk3,rfl,rfl,i1,i2,i3⟩ := hrel
  obtain rfl | rfl | rfl | rfl : k = 0 ∨ k = 1 ∨ k = 2 ∨ k = 3 := by omega
  ·cases c : inR a2
   ·have hA2 := hA.out
    rw [show rightO ⟨11,a2,a3,a4,a5,a6,a7,a8,a9⟩ = false by simp [rightO,c]] at hA2
    subst hA2
    clear hA i1 i2 i3 HZ hk2
    rcases inR_no c with c1 | ⟨c1,c2⟩
    ·clear c
     go_wp2
     go_ret
     exact ⟨rfl,hk⟩
    ·clear c
     go_wp2
     go_ret
     exact ⟨rfl,hk⟩
   ·have II : Hid (inK a2 a3 a4 1) := ⟨fun _ => c,fun _ => absurd ‹_› (by omega),fun _ => absurd ‹_› (by omega)⟩
    obtain ⟨c1,c2⟩ := inR_yes c
    clear c i1 i2 i3 hA HZ hk2 hk
    go_wp2
    go_roundw
    case rel => exact ⟨1,by omega,by first | rfl | go_num,by trivial,II.out⟩
    case measure => simp [intOf]
  ·cases c : inR a3
   ·have hA2 := hA.out
    rw [show rightO ⟨11,a2,a3,a4,a5,a6,a7,a8,a9⟩ = false by simp [rightO,c]] at hA2
    subst hA2
    clear hA i1 i2 i3 HZ hk2
    rcases inR_no c with c1 | ⟨c1,c2⟩
    ·clear c
     go_wp2
     go_ret
     exact ⟨rfl,hk⟩
    ·clear c
     go_wp2
     go_ret
     exact ⟨rfl,hk⟩
   ·have II : Hid (inK a2 a3 a4 2) := ⟨fun _ => i1 (by omega),fun _ => c,fun _ => absurd ‹_› (by omega)⟩
    obtain ⟨c1,c2⟩ := inR_yes c
    clear c i1 i2 i3 hA HZ hk2 hk
    go_wp2
    go_roundw
    case rel => exact ⟨2,by omega,by first | rfl | go_num,by trivial,II.out⟩
    case measure => simp [intOf]
  ·cases c : inR a4
   ·have hA2 := hA.out
    rw [show rightO ⟨11,a2,a3,a4,a5,a6,a7,a8,a9⟩ = false by simp [rightO,c]] at hA2
    subst hA2
    clear hA i1 i2 i3 HZ hk2
    rcases inR_no c with c1 | ⟨c1,c2⟩
    ·clear c
     go_wp2
     go_ret
     exact ⟨rfl,hk⟩
    ·clear c
     go_wp2
     go_ret
     exact ⟨rfl,hk⟩
   ·have II : Hid (inK a2 a3 a4 3) := ⟨fun _ => i1 (by omega),fun _ => i2 (by omega),fun _ => c⟩
    obtain ⟨c1,c2⟩ := inR_yes c
    clear c i1 i2 i3 hA HZ hk2 hk
    go_wp2
    go_roundw
    case rel => exact ⟨3,by omega,by first | rfl | go_num,by trivial,II.out⟩
    case measure => simp [intOf]
  ·have q1 := i1 (by omega)
   have q2 := i2 (by omega)
   have q3 := i3 (by omega)
   clear i1 i2 i3
   by_cases s1 : 0 ≤ a6
   ·by_cases s2 : a6 ≤ 2
    ·have hA2 := hA.out
     rw [show rightO ⟨11,a2,a3,a4,a5,a6,a7,a8,a9⟩ = zr [a2,a3,a4,a5,a6] a7 a9 a8 by simp [rightO,rightK,q1,q2,q3,s1,s2]] at hA2
     subst hA2
     clear hA q1 q2 q3
     go_wp2_with (go_at_call 90; refine same_of HZ ?_)
     go_ret
     exact ⟨rfl,hk2⟩
    ·have hA2 := hA.out
     rw [show rightO ⟨11,a2,a3,a4,a5,a6,a7,a8,a9⟩ = false by simp [rightO,s2]] at hA2
     subst hA2
     clear hA q1 q2 q3 HZ hk2
     go_wp2
     go_ret
     exact ⟨rfl,hk⟩
   ·have hA2 := hA.out
    rw [show rightO ⟨11,a2,a3,a4,a5,a6,a7,a8,a9⟩ = false by simp [rightO,s1]] at hA2
    subst hA2
    clear hA q1 q2 q3 HZ hk2
    go_wp2
    go_ret
    exact ⟨rfl,hk⟩
set_option maxHeartbeats 2000000 in
theorem rref_no (w : World) (a1 : Int) (a2 a3 a4 a5 a6 : Int) (a7 : ByteArray) (a8 : List Att) (a9 : ByteArray) (p1 : Option Addr) (p2 p3 : Nat) (hq : p2 = a8.length) (hb : p2 ≤ 100000) (n1 : (a1 == 1) = false) (n2 : (a1 == 2) = false) (n3 : (a1 == 3) = false) (n4 : (a1 == 4) = false) (n5 : (a1 == 5) = false) (n6 : (a1 == 6) = false) (n7 : (a1 == 7) = false) (n8 : (a1 == 8) = false) (n9 : (a1 == 9) = false) (n10 : (a1 == 10) = false) (n11 : (a1 == 11) = false) :
  Calls Tryz.prog 48 #[ov ⟨a1,a2,a3,a4,a5,a6,a7,a8,a9⟩ (p1,p2,p3)] w fun e w' => e = .returned (.bool (rightO ⟨a1,a2,a3,a4,a5,a6,a7,a8,a9⟩)) ∧ Kp [] w w' := by
 obtain ⟨A,hA0⟩ : ∃ A,rightO ⟨a1,a2,a3,a4,a5,a6,a7,a8,a9⟩ = A := ⟨_,rfl⟩
 rw [hA0]
 have hA : Hid (rightO ⟨a1,a2,a3,a4,a5,a6,a7,a8,a9⟩ = A) := hA0
 clear hA0
 have hk : Kp [] w ((w.alloc (.cells #[.int .i64 a1,.int .i64 a2,.int .i64 a3,.int .i64 a4,.int .i64 a5,.int .i64 a6,.string a7,.slice p1 p2 p3,.string a9] 24)).alloc (.cells #[.int .i64 a2,.int .i64 a3,.int .i64 a4] 3)) := ((Kp.refl _ _).alloc _).alloc _
 clear hq hb
 simp only [ov]
 go_enter Tryz.func48,Tryz.ntmps48
 go_wp2
 go_loopw [13] (fun i wr => ∃ k : Nat,k ≤ 3 ∧ i = .int .i64 k ∧ wr = ((w.alloc (.cells #[.int .i64 a1,.int .i64 a2,.int .i64 a3,.int .i64 a4,.int .i64 a5,.int .i64 a6,.string a7,.slice p1 p2 p3,.string a9] 24)).alloc (.cells #[.int .i64 a2,.int .i64 a3,.int .i64 a4] 3)) ∧ inK a2 a3 a4 k) (fun i _ => 3 - (intOf i).toNat)
 case atStart => exact ⟨0,by omega,rfl,rfl,fun h => by omega,fun h => by omega,fun h => by omega⟩
 case round =>
  obtain ⟨k,hk3,rfl,rfl,i1,i2,i3⟩ := hrel
  obtain rfl | rfl | rfl | rfl : k = 0 ∨ k = 1 ∨ k = 2 ∨ k = 3 := by omega
  ·cases c : inR a2
   ·have hA2 := hA.out
    rw [show rightO ⟨a1,a2,a3,a4,a5,a6,a7,a8,a9⟩ = false by simp [rightO,c]] at hA2
    subst hA2
    clear hA i1 i2 i3
    rcases inR_no c with c1 | ⟨c1,c2⟩
    ·clear c
     go_wp2
     go_ret
     exact ⟨rfl,hk⟩
    ·clear c
     go_wp2
     go_ret
     exact ⟨rfl,hk⟩
   ·have II : Hid (inK a2 a3 a4 1) := ⟨fun _ => c,fun _ => absurd ‹_› (by omega),fun _ => absurd ‹_› (by omega)⟩
    obtain ⟨c1,c2⟩ := inR_yes c
    clear c i1 i2 i3 hA hk
    go_wp2
    go_roundw
    case rel => exact ⟨1,by omega,by first | rfl | go_num,by trivial,II.out⟩
    case measure => simp [intOf]
  ·cases c : inR a3
   ·have hA2 := hA.out
    rw [show rightO ⟨a1,a2,a3,a4,a5,a6,a7,a8,a9⟩ = false by simp [rightO,c]] at hA2
    subst hA2
    clear hA i1 i2 i3
    rcases inR_no c with c1 | ⟨c1,c2⟩
    ·clear c
     go_wp2
     go_ret
     exact ⟨rfl,hk⟩
    ·clear c
     go_wp2
     go_ret
     exact ⟨rfl,hk⟩
   ·have II : Hid (inK a2 a3 a4 2) := ⟨fun _ => i1 (by omega),fun _ => c,fun _ => absurd ‹_› (by omega)⟩
    obtain ⟨c1,c2⟩ := inR_yes c
    clear c i1 i2 i3 hA hk
    go_wp2
    go_roundw
    case rel => exact ⟨2,by omega,by first | rfl | go_num,by trivial,II.out⟩
    case measure => simp [intOf]
  ·cases c : inR a4
   ·have hA2 := hA.out
    rw [show rightO ⟨a1,a2,a3,a4,a5,a6,a7,a8,a9⟩ = false by simp [rightO,c]] at hA2
    subst hA2
    clear hA i1 i2 i3
    rcases inR_no c with c1 | ⟨c1,c2⟩
    ·clear c
     go_wp2
     go_ret
     exact ⟨rfl,hk⟩
    ·clear c
     go_wp2
     go_ret
     exact ⟨rfl,hk⟩
   ·have II : Hid (inK a2 a3 a4 3) := ⟨fun _ => i1 (by omega),fun _ => i2 (by omega),fun _ => c⟩
    obtain ⟨c1,c2⟩ := inR_yes c
    clear c i1 i2 i3 hA hk
    go_wp2
    go_roundw
    case rel => exact ⟨3,by omega,by first | rfl | go_num,by trivial,II.out⟩
    case measure => simp [intOf]
  ·have q1 := i1 (by omega)
   have q2 := i2 (by omega)
   have q3 := i3 (by omega)
   clear i1 i2 i3
   by_cases s1 : 0 ≤ a6
   ·by_cases s2 : a6 ≤ 2
    ·have hA2 := hA.out
     have hz : rightK ⟨a1,a2,a3,a4,a5,a6,a7,a8,a9⟩ = false := by
      simp only [beq_eq_false_iff_ne] at n1 n2 n3 n4 n5 n6 n7 n8 n9 n10 n11
      simp [rightK,n1,n2,n3,n4,n5,n6,n7,n8,n9,n10,n11]
     rw [show rightO ⟨a1,a2,a3,a4,a5,a6,a7,a8,a9⟩ = false by simp [rightO,hz]] at hA2
     subst hA2
     clear hA q1 q2 q3 hz
     go_wp2
     go_ret
     exact ⟨rfl,hk⟩
    ·have hA2 := hA.out
     rw [show rightO ⟨a1,a2,a3,a4,a5,a6,a7,a8,a9⟩ = false by simp [rightO,s2]] at hA2
     subst hA2
     clear hA q1 q2 q3
     go_wp2
     go_ret
     exact ⟨rfl,hk⟩
   ·have hA2 := hA.out
    rw [show rightO ⟨a1,a2,a3,a4,a5,a6,a7,a8,a9⟩ = false by simp [rightO,s1]] at hA2
    subst hA2
    clear hA q1 q2 q3
    go_wp2
    go_ret
    exact ⟨rfl,hk⟩
end Go.Proofs.YtpkppobkagdhkaaGreat
