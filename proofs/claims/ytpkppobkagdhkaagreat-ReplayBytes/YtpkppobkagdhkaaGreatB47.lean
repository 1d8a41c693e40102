/-
 DecE Sames.
-/
import Derived.Test.YtpkppobkagdhkaaGreatB44
import Derived.Deep.RegionWith
set_option linter.unusedVariables false
set_option linter.unusedSimpArgs false
set_option maxRecDepth 100000
set_option maxHeartbeats 1000000
namespace Go.Proofs.YtpkppobkagdhkaaGreat
open Go.RowKit Utf
def Dcd (w w' : World) (xs : List Int) (e : Ending) : Prop :=
 (∃ (L : List Oq) (ao : Option Addr) (n c : Nat),e = .returned (.tuple #[.slice ao n c,.int .i64 0]) ∧ Mq w w' ao n c L ∧ xs = obs (os16 L) ∧ ∀ q,q ∈ L → okO q.1 = true) ∨
 (e = .returned (.tuple #[.slice none 0 0,.int .i64 12]) ∧ Kp [] w w' ∧ ∀ m : List Ot,(∀ o,o ∈ m → okO o = true) → xs ≠ obs m)
theorem mem_os {L : List Oq} {o : Ot} (h : o ∈ os16 L) : ∃ q,q ∈ L ∧ q.1 = o := by
 induction L with
 | nil => simp [os16] at h
 | cons a l ih =>
   simp only [os16,List.mem_cons] at h
   rcases h with rfl | h
   ·exact ⟨a,by simp,rfl⟩
   ·obtain ⟨q,h1,h2⟩ := ih h
    exact ⟨q,by simp [h1],h2⟩
theorem obs_len_ge : ∀ l : List Ot,l.length ≤ (obs l).length
 | [] => Nat.le_refl _
 | o :: l => by
   have := obs_len_ge l
   have h2 := ob_len o
   simp only [obs,List.length_append,List.length_cons]
   omega
set_option maxHeartbeats 2000000 in
theorem decode_any (w : World) (ao : Option Addr) (n c : Nat) (xs : List Int) (hr : Rb w ao n c (b8 xs)) (hb : byt xs) (hl : n ≤ 50000) :
  Calls Tryz.prog 21 #[.slice ao n c] w fun e w' => Dcd w w' xs e := by
 have hn : n = xs.length := by rw [hr.len,b8_len]
 subst hn
 by_cases hx : xs = []
 ·subst hx
  have HZ : Hid (Mq w (w.alloc (.cells #[.slice ao 0 c,.bool false] 94)) none 0 0 []) := (Mq.nil w).kept ((Kp.refl _ _).alloc _)
  clear hr hb hl
  simp only [List.length_nil]
  go_enter Tryz.func21,Tryz.ntmps21
  go_wp2
  go_loopw [4] (fun lv wr => lv = .slice none 0 0 ∧ wr = w.alloc (.cells #[.slice ao 0 c,.bool false] 94)) (fun _ _ => 0)
  case atStart => exact ⟨rfl,rfl⟩
  case round =>
   obtain ⟨rfl,rfl⟩ := hrel
   go_wp2
   go_ret2
   exact Or.inl ⟨[],none,0,0,rfl,HZ.out,rfl,fun q hq => by simp at hq⟩
 ·have hpos : 0 < xs.length := by
   cases xs with
   | nil => exact absurd rfl hx
   | cons a l => simp
  have ho : Off ao w.heap.size w.heap.size := fun a ha => by
   obtain ⟨b1,o1,h1,h2⟩ := hr.b8_at 0 hpos
   rw [h1] at ha
   obtain rfl := Option.some.inj ha
   have := block_lt_of_cell h2
   simp only at this ⊢
   omega
  have R0 : Rr (w.alloc (.cells #[.slice ao xs.length c,.bool false] 94)) w.heap.size w.heap.size (xs,false) := ⟨ao,xs.length,c,heap_new w _,hr.kept ((Kp.refl _ _).alloc _),ho⟩
  have D0 : Dl (w.alloc (.cells #[.slice ao xs.length c,.bool false] 94)) (w.alloc (.cells #[.slice ao xs.length c,.bool false] 94)) w.heap.size none 0 0 [] := ⟨⟨rfl,Or.inl ⟨rfl,rfl⟩⟩,fun k hk => by simp [blk] at hk,fun p hp => by simp at hp,Kp.refl _ _⟩
  have HMQ : Hid (∀ wr a n' c' L,Dl (w.alloc (.cells #[.slice ao xs.length c,.bool false] 94)) wr w.heap.size a n' c' L → Mq w wr a n' c' L) := fun wr a n' c' L h => h.mq
  have HSZ : Hid ((w.alloc (.cells #[.slice ao xs.length c,.bool false] 94)).heap.size = w.heap.size + 1) := (by simp : (w.alloc (.cells #[.slice ao xs.length c,.bool false] 94)).heap.size = w.heap.size + 1)
  have HX : Hid (byt xs ∧ xs.length ≤ 50000) := ⟨hb,hl⟩
  clear hr ho hx hb
  go_enter Tryz.func21,Tryz.ntmps21
  go_wp2
  generalize w.alloc (.cells #[.slice ao xs.length c,.bool false] 94) = W0 at R0 D0 HMQ HSZ ⊢
  have HB : Hid (w.heap.size < W0.heap.size ∧ w.heap.size ≤ W0.heap.size) := (by have := HSZ.out; omega : w.heap.size < W0.heap.size ∧ w.heap.size ≤ W0.heap.size)
  go_loopw [4] (fun lv wr => ∃ (L : List Oq) (st : St) (a' : Option Addr) (n' c' : Nat),lv = .slice a' n' c' ∧ Dl W0 wr w.heap.size a' n' c' L ∧ Rr wr w.heap.size w.heap.size st ∧ st.2 = false ∧ byt st.1 ∧ xs = obs (os16 L) ++ st.1 ∧ ∀ q,q ∈ L → okO q.1 = true) (fun lv _ => xs.length - slen lv)
  case atStart => exact ⟨[],(xs,false),none,0,0,rfl,D0,R0,rfl,HX.out.1,rfl,fun q hq => by simp at hq⟩
  case round =>
   obtain ⟨L,st,a',n',c',rfl,D,R,hcf,hbt,hxs,hok⟩ := hrel
   clear R0 D0
   have hlen := congrArg List.length hxs
   rw [List.length_append] at hlen
   have hge := obs_len_ge (os16 L)
   rw [os_len] at hge
   have hnl := D.len
   obtain ⟨ra,rn,rc,h1,h2,h3⟩ := R
   have hrn : rn = st.1.length := by rw [h2.len,b8_len]
   have c0 : wr.cell? ⟨w.heap.size,0,none⟩ = some (.slice ra rn rc) := cell_of h1 0
   have R : Rr wr w.heap.size w.heap.size st := ⟨ra,rn,rc,h1,h2,h3⟩
   by_cases hse : st.1 = []
   ·have hr0 : rn = 0 := by rw [hrn,hse]; rfl
    subst hr0
    rw [hse,List.append_nil] at hxs
    have HZ : Hid (Mq w wr a' n' c' L ∧ xs = obs (os16 L) ∧ ∀ q,q ∈ L → okO q.1 = true) := ⟨HMQ.out _ _ _ _ _ D,hxs,hok⟩
    clear D R h1 h2 h3 hxs hok hlen hge hnl hrn
    go_wp2
    go_ret2
    exact Or.inl ⟨L,_,_,_,rfl,HZ.out.1,HZ.out.2.1,HZ.out.2.2⟩
   ·have hrp : 0 < rn := by
     rw [hrn]
     cases hst : st.1 with
     | nil => exact absurd hst hse
     | cons a l => simp
    have hst1 : st.1.length ≤ 50000 := by have := HX.out.2; omega
    have hLx : L.length < xs.length := by omega
    have hokL : ∀ o,o ∈ os16 L → okO o = true := fun o ho => by
     obtain ⟨q,q1,q2⟩ := mem_os ho
     rw [← q2]
     exact hok q q1
    have HNO : Hid ((s9 st).2 = true ∨ rightO (rdO st) = false → ∀ m : List Ot,(∀ o,o ∈ m → okO o = true) → xs ≠ obs m) := fun hbad m hm => no_more hxs hokL hcf hse hbad m hm
    have HNX : Hid ((s9 st).2 = false → xs = (obs (os16 L) ++ ob (rdO st)) ++ (s9 st).1 ∧ fitO (rdO st)) := fun hc => by
     obtain ⟨_,z2,z3,_⟩ := rdO_no hc hbt
     exact ⟨by rw [List.append_assoc,← z2]; exact hxs,z3⟩
    have C := rop_any wr w.heap.size w.heap.size st R (Nat.le_trans HB.out.2 D.kp.size) (by omega) hbt
    have HD : Hid (Dl W0 wr w.heap.size a' n' c' L) := D
    have HO : Hid (∀ q,q ∈ L → okO q.1 = true) := hok
    have HN : Hid (n' = L.length ∧ L.length < xs.length ∧ xs.length ≤ 50000 ∧ st.1.length ≤ 50000) := ⟨hnl,hLx,HX.out.2,hst1⟩
    clear D R h1 h2 h3 hok hokL hxs hlen hge hnl hrn hst1 hLx hbt hse hcf
    generalize rdO st = V at C HNO HNX
    generalize s9 st = st' at C HNO HNX
    go_wp2_with fail
    refine C.mono ?_
    rintro e w1 ⟨p,rfl,A1,pn,R1,hb1,hl1,k1⟩
    have D1 : Dl W0 w1 w.heap.size a' n' c' L := HD.out.call HB.out.1 k1
    have hpn : ∀ k,k ∈ blk (.slice p.1 p.2.1 p.2.2) → W0.heap.size ≤ k := fun k hk => by
     have q1 := pn k hk
     have q2 := HD.out.kp.size
     omega
    obtain ⟨V1,V2,V3,V4,V5,V6,V7,V8,V9⟩ := V
    obtain ⟨p1,p2,p3⟩ := p
    simp only [ov]
    clear C HD k1 c0 pn
    have ka : Kp [] w1 (w1.alloc (.cells (oc ⟨V1,V2,V3,V4,V5,V6,V7,V8,V9⟩ (p1,p2,p3)) 24)) := (Kp.refl _ _).alloc _
    have A2 := A1.kept ka
    have D2 := D1.call HB.out.1 (ka.mono (fun x hx => by simp at hx))
    have R2 := R1.kept ka (by simp) (fun x hx => by simp at hx)
    have N2 := nine_of (heap_new w1 (.cells (oc ⟨V1,V2,V3,V4,V5,V6,V7,V8,V9⟩ (p1,p2,p3)) 24))
    clear A1 D1 R1 ka
    simp only [oc] at A2 D2 R2 N2
    obtain ⟨ra2,rn2,rc2,h1,h2,h3⟩ := R2
    have c1 : (w1.alloc (.cells #[.int .i64 V1,.int .i64 V2,.int .i64 V3,.int .i64 V4,.int .i64 V5,.int .i64 V6,.string V7,.slice p1 p2 p3,.string V9] 24)).cell? ⟨w.heap.size,1,none⟩ = some (.bool st'.2) := cell_of h1 1
    have R2 : Rr (w1.alloc (.cells #[.int .i64 V1,.int .i64 V2,.int .i64 V3,.int .i64 V4,.int .i64 V5,.int .i64 V6,.string V7,.slice p1 p2 p3,.string V9] 24)) w.heap.size w.heap.size st' := ⟨ra2,rn2,rc2,h1,h2,h3⟩
    clear h1 h2 h3
    cases hcut : st'.2 with
    | true =>
      rw [hcut] at c1
      have HZ : Hid (Kp [] w (w1.alloc (.cells #[.int .i64 V1,.int .i64 V2,.int .i64 V3,.int .i64 V4,.int .i64 V5,.int .i64 V6,.string V7,.slice p1 p2 p3,.string V9] 24)) ∧ ∀ m : List Ot,(∀ o,o ∈ m → okO o = true) → xs ≠ obs m) := ⟨(HMQ.out _ _ _ _ _ D2).kp,HNO.out (Or.inl hcut)⟩
      clear D2 A2 R2 N2 HNO HNX HMQ
      go_wp2
      go_ret2
      exact Or.inr ⟨rfl,HZ.out⟩
    | false =>
      rw [hcut] at c1
      obtain ⟨hx2,hf2⟩ := HNX.out hcut
      have hp2 : p2 = V8.length := by
       have := A2.rp.len
       exact this
      have CR := right_any _ ⟨V1,V2,V3,V4,V5,V6,V7,V8,V9⟩ (p1,p2,p3) A2.rp (by have := hf2.2.2.1; simp only at this ⊢; omega)
      simp only [ov] at CR
      obtain ⟨f0,f1,f2,f3,f4,f5,f6,f7,f8⟩ := N2
      simp only [Nat.zero_add] at f0 f1 f2 f3 f4 f5 f6 f7 f8
      have HA2 : Hid (Ao (w1.alloc (.cells #[.int .i64 V1,.int .i64 V2,.int .i64 V3,.int .i64 V4,.int .i64 V5,.int .i64 V6,.string V7,.slice p1 p2 p3,.string V9] 24)) (⟨V1,V2,V3,V4,V5,V6,V7,V8,V9⟩,p1,p2,p3)) := A2
      have HD2 : Hid (Dl W0 (w1.alloc (.cells #[.int .i64 V1,.int .i64 V2,.int .i64 V3,.int .i64 V4,.int .i64 V5,.int .i64 V6,.string V7,.slice p1 p2 p3,.string V9] 24)) w.heap.size a' n' c' L) := D2
      have HN2 : Hid (Nine (w1.alloc (.cells #[.int .i64 V1,.int .i64 V2,.int .i64 V3,.int .i64 V4,.int .i64 V5,.int .i64 V6,.string V7,.slice p1 p2 p3,.string V9] 24)) w1.heap.size 0 ⟨V1,V2,V3,V4,V5,V6,V7,V8,V9⟩ (p1,p2,p3)) := ⟨f0,f1,f2,f3,f4,f5,f6,f7,f8⟩
      have HX2 : Hid (xs = (obs (os16 L) ++ ob ⟨V1,V2,V3,V4,V5,V6,V7,V8,V9⟩) ++ st'.1 ∧ fitO ⟨V1,V2,V3,V4,V5,V6,V7,V8,V9⟩ ∧ st'.2 = false ∧ byt st'.1) := ⟨hx2,hf2,hcut,hb1⟩
      have HR2 : Hid (Rr (w1.alloc (.cells #[.int .i64 V1,.int .i64 V2,.int .i64 V3,.int .i64 V4,.int .i64 V5,.int .i64 V6,.string V7,.slice p1 p2 p3,.string V9] 24)) w.heap.size w.heap.size st') := R2
      clear A2 D2 R2 hx2 hf2 hp2 HNX hcut hb1 hl1
      go_wp2_with fail
      refine CR.mono ?_
      rintro e w3 ⟨rfl,k3⟩
      have A3 := HA2.out.kept k3
      have D3 := HD2.out.call HB.out.1 (k3.mono (fun x hx => by simp at hx))
      have R3 := HR2.out.kept k3 (by simp) (fun x hx => by simp at hx)
      have N3 := HN2.out.kept k3 (by simp)
      clear CR HA2 HD2 HR2 HN2 k3 f0 f1 f2 f3 f4 f5 f6 f7 f8 c1
      cases hri : rightO ⟨V1,V2,V3,V4,V5,V6,V7,V8,V9⟩ with
      | false =>
        have HZ : Hid (Kp [] w w3 ∧ ∀ m : List Ot,(∀ o,o ∈ m → okO o = true) → xs ≠ obs m) := ⟨(HMQ.out _ _ _ _ _ D3).kp,HNO.out (Or.inr hri)⟩
        clear A3 D3 R3 N3 HNO HMQ
        go_wp2
        go_ret2
        exact Or.inr ⟨rfl,HZ.out⟩
      | true =>
        obtain ⟨f0,f1,f2,f3,f4,f5,f6,f7,f8⟩ := N3
        simp only [Nat.zero_add] at f0 f1 f2 f3 f4 f5 f6 f7 f8
        obtain ⟨a6,n6,c6,w6,hrun,D6,hold⟩ := D3.one HB.out.1 (⟨V1,V2,V3,V4,V5,V6,V7,V8,V9⟩,p1,p2,p3) A3 hpn (by have := HN.out; omega)
        have R6 : Rr w6 w.heap.size w.heap.size st' := by
         obtain ⟨ra,rn,rc,h1,h2,h3⟩ := R3
         refine ⟨ra,rn,rc,(hold _ HB.out.1).trans h1,⟨h2.len,h2.cap,fun j hj => ?_⟩,h3⟩
         obtain ⟨b',off,e1,e2⟩ := h2.at' j hj
         refine ⟨b',off,e1,?_⟩
         rw [← e2]
         have := (h3 _ e1).2
         simp only at this
         exact World.cell?_of_block (hold b' (by have := HB.out; omega))
        have hokV : okO ⟨V1,V2,V3,V4,V5,V6,V7,V8,V9⟩ = true := by
         unfold okO
         rw [hri,fitB_iff.2 HX2.out.2.1]
         rfl
        have HZ : Hid (Dl W0 w6 w.heap.size a6 n6 c6 (L ++ [(⟨V1,V2,V3,V4,V5,V6,V7,V8,V9⟩,p1,p2,p3)]) ∧ Rr w6 w.heap.size w.heap.size st' ∧ st'.2 = false ∧ byt st'.1 ∧ xs = obs (os16 (L ++ [(⟨V1,V2,V3,V4,V5,V6,V7,V8,V9⟩,p1,p2,p3)])) ++ st'.1 ∧ ∀ q,q ∈ L ++ [(⟨V1,V2,V3,V4,V5,V6,V7,V8,V9⟩,p1,p2,p3)] → okO q.1 = true) := by
         refine ⟨D6,R6,HX2.out.2.2.1,HX2.out.2.2.2,?_,fun q hq => ?_⟩
         ·rw [os_append,obs_append]
          simp only [os16,obs,List.append_nil]
          exact HX2.out.1
         ·rcases List.mem_append.1 hq with h4 | h4
          ·exact HO.out q h4
          ·rw [List.mem_singleton.1 h4]
           exact hokV
        have hn6 : n6 = L.length + 1 := by have := D6.len; simpa using this
        have HM : Hid (xs.length - n6 < xs.length - n') := (by have := HN.out; omega : xs.length - n6 < xs.length - n')
        clear A3 D3 R3 D6 R6 hokV hold HNO HO HX2 hri hn6
        simp only [oc] at hrun
        go_wp2_with (at_builtin; refine Lib.wpList_append_run _ rfl _ _ _ _ rfl _ _ rfl rfl _ _ (hrun _) ?_)
        go_roundw
        case rel => exact ⟨_,st',_,_,_,rfl,HZ.out⟩
        case measure => exact HM.out
end Go.Proofs.YtpkppobkagdhkaaGreat
namespace Go.Proofs.YtpkppobkagdhkaaGreat
open Go.RowKit
theorem vis_each {P : Lb → Prop} (f : Fo) : ∀ d,f.Each P → ∀ v,v ∈ f.vis d → P v.2.1 := by
 refine Fo.ind (P := fun f => ∀ d,f.Each P → ∀ v,v ∈ f.vis d → P v.2.1) (fun d _ v h => by simp [vis_nil] at h) (fun l k r hk hr d he v h => ?_) f
 rw [vis_cons,List.mem_cons,List.mem_append] at h
 rcases h with rfl | h | h
 ·exact he.1
 ·exact hk _ he.2.1 v h
 ·exact hr _ he.2.2 v h
def RSame (B : World) (s1 s2 : Ws) (l : Lb) (k : Fo) (p : Pl) (l' : Lb) (k' : Fo) (p' : Pl) (A : Bool) (wr : World) (n : Nat) : Prop :=
 ∃ (S T : List Vt) (v1 v2 : Value),Wl B wr (s1.at v1) S l k p ∧ Wl B wr (s2.at v2) T l' k' p' ∧ (∀ x,x ∈ (s1.at v1).own → x ∉ (s2.at v2).own) ∧ sameV sameL S T = A ∧ S.length = n ∧ (∀ v,v ∈ S → okL v.2.1) ∧ (∀ v,v ∈ T → okL v.2.1)
theorem Told6.keep {w0 w w' : World} {s : Ws} {b off : Nat} {l : Lb} {k : Fo} (h : Told6 w0 w s b off l k) {D : List Nat} (hk : Kp D w w') (h1 : ∀ x,x ∈ D → w0.heap.size ≤ x) (h2 : ∀ x,x ∈ s.own → x ∉ D) : Told6 w0 w' s b off l k := by
 obtain ⟨p,h3,h4,h5⟩ := h
 refine ⟨p,h3.keep hk (fun hx => ?_),h4,h5⟩
 rcases h5 with h5 | h5
 ·have := h1 b hx; omega
 ·exact h2 b (by rw [h5]; simp [Ws.own]) hx
theorem Wl.beside {B w w' : World} {s1 s2 : Ws} {T : List Vt} {l' : Lb} {k' : Fo} {p' : Pl} {v' : Value} (h1 : ∀ x,x ∈ s1.own → B.heap.size ≤ x) (h2 : Wl B w s2 T l' k' p') (n : Nx w w' s1 v') (hd : ∀ x,x ∈ s1.own → x ∉ s2.own) : Wl B w' s2 T l' k' p' ∧ ∀ x,x ∈ (s1.at v').own → x ∉ s2.own := by
 refine ⟨h2.other n.kp h1 (fun x hx h => hd x h hx),fun x hx h => ?_⟩
 rcases n.own x hx with h3 | h3
 ·exact hd x h3 h
 ·have := h2.lt x h; omega
set_option maxHeartbeats 1500000 in
theorem tsame_any (w : World) (l : Lb) (k : Fo) (p : Pl) (l' : Lb) (k' : Fo) (p' : Pl) (h : Nd Any w l k p) (h' : Nd Any w l' k' p') (ho : okT l k) (ho' : okT l' k') :
  Calls Tryz.prog 23 #[wv l p,wv l' p'] w fun e w' => e = .returned (.bool (sameT l k l' k')) ∧ Kp [] w w' := by
 obtain ⟨B,hB⟩ : ∃ B,B = (w.alloc (.cells (six l p).toArray 40)).alloc (.cells (six l' p').toArray 40) := ⟨_,rfl⟩
 have k1 : Kp [] w B := by rw [hB]; exact ((Kp.refl _ _).alloc _).alloc _
 have HB1 : Hid (∀ V,Kp [] B V → Calls Tryz.prog 44 #[wv l p] V fun e w' => ∃ s,e = .returned (.pointer (some ⟨s.P,0,none⟩)) ∧ Wl B w' s ((Fo.cons l k .nil).vis 0) l k p ∧ Kp [] V w' ∧ ∀ x,x ∈ s.own → V.heap.size ≤ x) := fun V kV => begin_c B V l k p kV (h.kept k1) ho.2
 have HB2 : Hid (∀ V,Kp [] B V → Calls Tryz.prog 44 #[wv l' p'] V fun e w' => ∃ s,e = .returned (.pointer (some ⟨s.P,0,none⟩)) ∧ Wl B w' s ((Fo.cons l' k' .nil).vis 0) l' k' p' ∧ Kp [] V w' ∧ ∀ x,x ∈ s.own → V.heap.size ≤ x) := fun V kV => begin_c B V l' k' p' kV (h'.kept k1) ho'.2
 have hsame : Hid (sameV sameL ((Fo.cons l k .nil).vis 0) ((Fo.cons l' k' .nil).vis 0) = sameT l k l' k') := by
  have := same_vis (q := sameL) (fun a b => by simp [sameL]) (Fo.cons l k .nil) (Fo.cons l' k' .nil) 0 0 [] [] rfl
  simp only [List.append_nil] at this
  show sameV sameL _ _ = _
  rw [this,Fo.same_cons]
  simp [sameT,sameV]
 have HO : Hid ((∀ v,v ∈ (Fo.cons l k .nil).vis 0 → okL v.2.1) ∧ (∀ v,v ∈ (Fo.cons l' k' .nil).vis 0 → okL v.2.1)) := ⟨vis_each _ 0 ho.1,vis_each _ 0 ho'.1⟩
 have g1 : B.heap[w.heap.size]? = some (.cells (six l p).toArray 40 (0,0)) := by rw [hB,Below.heap_alloc _ _ _ (by simp)]; exact heap_new _ _
 have g2 : B.heap[w.heap.size + 1]? = some (.cells (six l' p').toArray 40 (0,0)) := by rw [hB]; exact heap_new' _ _ _ (by simp)
 have HS : Hid (∀ V,Kp [] B V → Cl V w.heap.size 0 l p ∧ Cl V (w.heap.size + 1) 0 l' p') := fun V kV =>
  ⟨Cl.keep ⟨_,_,g1,fun i hi => by simp⟩ kV (by simp),Cl.keep ⟨_,_,g2,fun i hi => by simp⟩ kV (by simp)⟩
 have HW : Hid ((w.alloc (.cells #[.int .i64 l.kind,.int .i64 l.ns,.string l.name,.slice p.1.1 p.1.2.1 p.1.2.2,.string l.text,.slice p.2.1 p.2.2.1 p.2.2.2] 40)).alloc (.cells #[.int .i64 l'.kind,.int .i64 l'.ns,.string l'.name,.slice p'.1.1 p'.1.2.1 p'.1.2.2,.string l'.text,.slice p'.2.1 p'.2.2.1 p'.2.2.2] 40) = B) := hB.symm
 have KB : Hid (Kp [] w B) := k1
 generalize sameT l k l' k' = A at hsame ⊢
 clear h h' ho ho' g1 g2 k1 hB
 simp only [wv] at HB1 HB2 ⊢
 go_enter Tryz.func23,Tryz.ntmps23
 go_wp2_with fail
 rw [HW.out]
 go_region_held3 (fun V => (V.cell? ⟨w.heap.size,0,none⟩ = some (.int .i64 l.kind) ∧ V.cell? ⟨w.heap.size,1,none⟩ = some (.int .i64 l.ns) ∧ V.cell? ⟨w.heap.size,2,none⟩ = some (.string l.name) ∧ V.cell? ⟨w.heap.size,3,none⟩ = some (.slice p.1.1 p.1.2.1 p.1.2.2) ∧ V.cell? ⟨w.heap.size,4,none⟩ = some (.string l.text) ∧ V.cell? ⟨w.heap.size,5,none⟩ = some (.slice p.2.1 p.2.2.1 p.2.2.2)) ∧ (V.cell? ⟨w.heap.size + 1,0,none⟩ = some (.int .i64 l'.kind) ∧ V.cell? ⟨w.heap.size + 1,1,none⟩ = some (.int .i64 l'.ns) ∧ V.cell? ⟨w.heap.size + 1,2,none⟩ = some (.string l'.name) ∧ V.cell? ⟨w.heap.size + 1,3,none⟩ = some (.slice p'.1.1 p'.1.2.1 p'.1.2.2) ∧ V.cell? ⟨w.heap.size + 1,4,none⟩ = some (.string l'.text) ∧ V.cell? ⟨w.heap.size + 1,5,none⟩ = some (.slice p'.2.1 p'.2.2.1 p'.2.2.2)))
  (first
   | exact ⟨(HS.out _ (Q1.out.trans Q2.out (fun x hx => Or.inl hx))).1.cells,(HS.out _ (Q1.out.trans Q2.out (fun x hx => Or.inl hx))).2.cells⟩
   | exact ⟨(HS.out _ Q1.out).1.cells,(HS.out _ Q1.out).2.cells⟩
   | exact ⟨(HS.out _ (Kp.refl _ _).drew).1.cells,(HS.out _ (Kp.refl _ _).drew).2.cells⟩)
  (first
   | (go_at_call 44; have D2 := Q1.out; refine (HB2.out _ D2).mono ?_; rintro e w2 ⟨s2,rfl,L2,K2,O2⟩; have Q2 : Hid (Kp [] w1 w2) := K2)
   | (go_at_call 44; refine (HB1.out _ (Kp.refl _ _).drew).mono ?_; rintro e w1 ⟨s1,rfl,L1,K1,O1⟩; have Q1 : Hid (Kp [] B w1) := (Kp.refl _ _).drew.trans K1 (fun x hx => Or.inl hx)))
 have hd12 : ∀ x,x ∈ s1.own → x ∉ s2.own := fun x h1 h2 => by
  have a1 := L1.lt x h1
  have a2 := O2 x h2
  omega
 have L1' : Wl B w2 s1 ((Fo.cons l k .nil).vis 0) l k p := L1.kept K2
 obtain ⟨μ,hμ⟩ := least_of (RSame B s1 s2 l k p l' k' p' A)
 go_wp2_with fail
 go_loopw [7] (fun x7 wr => ∃ n,RSame B s1 s2 l k p l' k' p' A wr n) (fun x7 wr => μ wr)
 case atStart => exact ⟨_,_,_,s1.v,s2.v,L1',L2,hd12,hsame.out,rfl,HO.out.1,HO.out.2⟩
 case round =>
  clear L1' L1 L2 hd12 hsame HO HB1 HB2 HS HW Q1 Q2 K1 K2 O1 O2
  obtain ⟨n0,hrel⟩ := hrel
  obtain ⟨S,T,v1,v2,L1,L2,hd,hA,hS,hO1,hO2⟩ := (hμ _ _ hrel).1
  have KF : Hid (Kp [] w wr) := KB.out.trans L1.kp (fun x hx => Or.inl hx)
  have HM : Hid (∀ a n,RSame B s1 s2 l k p l' k' p' A a n → μ a ≤ n) := fun a n hn => (hμ a n hn).2
  have HS : Hid (S.length = μ wr) := hS
  have HD : Hid (∀ x,x ∈ (s1.at v1).own → x ∉ (s2.at v2).own) := hd
  have HL2 : Hid (Wl B wr (s2.at v2) T l' k' p') := L2
  have HN1 : Hid (∀ x,x ∈ (s1.at v1).own → B.heap.size ≤ x) := L1.new
  have HN := next_c _ _ _ _ _ _ _ L1
  clear hrel hμ hS L1 L2 hd
  rcases S with _ | ⟨a,S⟩ <;> rcases T with _ | ⟨b,T⟩
  ·obtain rfl : true = A := hA
   go_wp2_with (first
    | (go_at_call 45; have D1 := M1.out; refine (next_c _ _ _ _ _ _ _ D1).mono ?_; rintro e w2 ⟨ao2,d2,y2,u2,rfl,R2,N2,rfl,rfl,rfl⟩)
    | (go_at_call 45; refine HN.mono ?_; rintro e w1 ⟨ao1,d1,y1,u1,rfl,R1,N1,rfl,rfl,rfl⟩; have M1 : Hid (Wl B w1 (s2.at v2) _ l' k' p') := (Wl.beside HN1.out HL2.out N1 HD.out).1))
   go_ret
   exact ⟨rfl,KB.out.trans R2.kp (fun x hx => Or.inl hx)⟩
  ·obtain rfl : false = A := hA
   go_wp2_with (first
    | (go_at_call 45; have D1 := M1.out; refine (next_c _ _ _ _ _ _ _ D1).mono ?_; rintro e w2 ⟨ao2,d2,y2,u2,rfl,R2,N2,b2,off2,rfl,rfl,rfl,t2⟩)
    | (go_at_call 45; refine HN.mono ?_; rintro e w1 ⟨ao1,d1,y1,u1,rfl,R1,N1,rfl,rfl,rfl⟩; have M1 : Hid (Wl B w1 (s2.at v2) _ l' k' p') := (Wl.beside HN1.out HL2.out N1 HD.out).1))
   go_ret
   exact ⟨rfl,KB.out.trans R2.kp (fun x hx => Or.inl hx)⟩
  ·obtain rfl : false = A := hA
   go_wp2_with (first
    | (go_at_call 45; have D1 := M1.out; refine (next_c _ _ _ _ _ _ _ D1).mono ?_; rintro e w2 ⟨ao2,d2,y2,u2,rfl,R2,N2,rfl,rfl,rfl⟩)
    | (go_at_call 45; refine HN.mono ?_; rintro e w1 ⟨ao1,d1,y1,u1,rfl,R1,N1,b1,off1,rfl,rfl,rfl,t1⟩; have M1 : Hid (Wl B w1 (s2.at v2) _ l' k' p') := (Wl.beside HN1.out HL2.out N1 HD.out).1))
   go_ret
   exact ⟨rfl,KB.out.trans R2.kp (fun x hx => Or.inl hx)⟩
  ·have hA2 : (sameL a.2.1 b.2.1 && decide (a.2.2.len = b.2.2.len) && sameV sameL S T) = A := hA
   clear hA
   go_wp2_with (first
    | (go_at_call 45; have D1 := M1.out; refine (next_c _ _ _ _ _ _ _ D1).mono ?_; rintro e w2 ⟨ao2,d2,y2,u2,rfl,R2,N2,b2,off2,rfl,rfl,rfl,t2⟩)
    | (go_at_call 45; refine HN.mono ?_; rintro e w1 ⟨ao1,d1,y1,u1,rfl,R1,N1,b1,off1,rfl,rfl,rfl,t1⟩; have M1 : Hid (Wl B w1 (s2.at v2) _ l' k' p') := (Wl.beside HN1.out HL2.out N1 HD.out).1))
   have X1 := Wl.beside HN1.out HL2.out N1 HD.out
   have X2 := Wl.beside D1.new R1 N2 (fun x h1 h2 => X1.2 x h2 h1)
   have t1' := t1.keep N2.kp D1.new (fun x hx h => X1.2 x hx h)
   obtain ⟨p1,cl1,nd1,_⟩ := t1'
   obtain ⟨p2,cl2,nd2,_⟩ := t2
   have kB := R2.kp
   have HLB : Hid (∀ V,Kp [] w2 V → Calls Tryz.prog 46 #[.pointer (some ⟨b1,off1,none⟩),wv b.2.1 p2] V fun e w' => e = .returned (.bool (sameL a.2.1 b.2.1)) ∧ Kp [] V w') := fun V kV => label_any V b1 off1 a.2.1 b.2.1 p1 p2 (cl1.keep kV (by simp)) ((nd1.kept kB).kept kV).at'.rp ((nd2.kept kB).kept kV).at'.rp (by have := (hO1 a (by simp)).1; have := nd1.alen; omega) (by have := (hO2 b (by simp)).1; have := nd2.alen; omega)
   have e1 : p1.2.2.1 = a.2.2.len := nd1.klen
   have e2 : p2.2.2.1 = b.2.2.len := nd2.klen
   have HZ : Hid (Wl B w2 (s1.at u1) S l k p ∧ Wl B w2 (s2.at u2) T l' k' p' ∧ (∀ x,x ∈ (s1.at u1).own → x ∉ (s2.at u2).own) ∧ (∀ v,v ∈ S → okL v.2.1) ∧ (∀ v,v ∈ T → okL v.2.1)) := ⟨X2.1,R2,fun x h1 h2 => X2.2 x h2 h1,fun v hv => hO1 v (by simp [hv]),fun v hv => hO2 v (by simp [hv])⟩
   have KC : Hid (∀ V,Kp [] w2 V → Cl V b1 off1 a.2.1 p1 ∧ Cl V b2 off2 b.2.1 p2) := fun V kV => ⟨cl1.keep kV (by simp),cl2.keep kV (by simp)⟩
   clear X1 X2 t1 nd1 nd2 R1 R2 N1 N2 M1 D1 HD HL2 HN1 HN hO1 hO2
   obtain ⟨x0,x1,x2,x3,x4,x5⟩ := cl1.cells
   obtain ⟨y0,y1,y2,y3,y4,y5⟩ := cl2.cells
   clear cl1 cl2
   rw [← e1,← e2] at hA2
   clear e1 e2
   generalize hLb : sameL a.2.1 b.2.1 = LL at hA2 HLB
   simp only [wv] at HLB
   cases LL with
   | false =>
     obtain rfl : false = A := by rw [← hA2]; simp
     clear hA2 hLb
     refine wp_region_any (by kernel_rfl) ?_
     change wpAny _ _ _ _ _ _ _ (World.drew _)
     refine wpAny_take (i := 0) (oi := ⟨some 38,.move (.tmp 7),80,"tree.go:22",#[],none⟩) (v := ?_) rfl (by kernel_rfl) (by kernel_rfl) (by kernel_rfl) (fun _ _ _ h => h) (Or.inl ⟨by rfl,?_⟩) ?_
     rotate_left
     ·intro w; go_simp <;> with_reducible rfl
     try simp only [Act.put,List.setIfInBounds_toArray,List.set_cons_zero,List.set_cons_succ]
     refine wpAny_take (i := 1) (oi := ⟨some 39,.move (.tmp 10),80,"tree.go:22",#[],none⟩) (v := ?_) rfl (by kernel_rfl) (by kernel_rfl) (by kernel_rfl) (fun _ _ _ h => h) (Or.inl ⟨by rfl,?_⟩) ?_
     rotate_left
     ·intro w; go_simp <;> with_reducible rfl
     try simp only [Act.put,List.setIfInBounds_toArray,List.set_cons_zero,List.set_cons_succ]
     refine wpAny_take (i := 2) (oi := ⟨some 40,.nilCheck (.tmp 39),0,"tree.go:22",#[⟨1,.data⟩],none⟩) (v := ?_) rfl (by kernel_rfl) (by kernel_rfl) (by kernel_rfl) (fun _ _ _ h => h) (Or.inl ⟨by rfl,?_⟩) ?_
     rotate_left
     ·intro w; go_simp <;> with_reducible rfl
     try simp only [Act.put,List.setIfInBounds_toArray,List.set_cons_zero,List.set_cons_succ]
     refine wpAny_ready (rs := [3]) (by kernel_rfl) (by simp) (AllReady.cons rfl (fun K hK => ?_) AllReady.nil)
     go_simp; refine hK _ _ ?_; clear hK K
     refine wpAny_ready (rs := [4]) (by kernel_rfl) (by simp) (AllReady.cons rfl (fun K hK => ?_) AllReady.nil)
     go_simp
     refine (HLB.out _ (Kp.refl _ _).drew).mono ?_
     rintro e w3 ⟨rfl,k3⟩
     have K3 : Hid (Kp [] w2 w3) := (Kp.refl _ _).drew.trans k3 (fun x hx => Or.inl hx)
     go_simp
     refine hK _ _ ?_; clear hK K
     try simp only [Act.put,List.setIfInBounds_toArray,List.set_cons_zero,List.set_cons_succ]
     refine wpAny_take (i := 5) (oi := ⟨some 43,.unOp .not 4 (.tmp 42),4,"tree.go:22",#[⟨4,.data⟩],none⟩) (v := ?_) rfl (by kernel_rfl) (by kernel_rfl) (by kernel_rfl) (fun _ _ _ h => h) (Or.inl ⟨by rfl,?_⟩) ?_
     rotate_left
     ·intro w; go_simp <;> with_reducible rfl
     try simp only [Act.put,List.setIfInBounds_toArray,List.set_cons_zero,List.set_cons_succ]
     refine wpAny_take (i := 6) (oi := ⟨some 44,.move (.tmp 43),4,"tree.go:22",#[⟨5,.data⟩,⟨4,.chain⟩],none⟩) (v := ?_) rfl (by kernel_rfl) (by kernel_rfl) (by kernel_rfl) (fun _ _ _ h => h) (Or.inl ⟨by rfl,?_⟩) ?_
     rotate_left
     ·intro w; go_simp <;> with_reducible rfl
     try simp only [Act.put,List.setIfInBounds_toArray,List.set_cons_zero,List.set_cons_succ]
     refine wpAny_take (i := 7) (oi := ⟨some 45,.move (.tmp 7),80,"tree.go:22",#[⟨6,.guard⟩],some (6,false)⟩) (v := undef) rfl (by kernel_rfl) (by kernel_rfl) (by kernel_rfl) (fun _ _ _ h => h) (Or.inr ⟨by kernel_rfl,rfl⟩) ?_
     try simp only [Act.put,List.setIfInBounds_toArray,List.set_cons_zero,List.set_cons_succ]
     refine wpAny_take (i := 8) (oi := ⟨some 46,.nilCheck (.tmp 45),0,"tree.go:22",#[⟨7,.data⟩,⟨6,.guard⟩],some (6,false)⟩) (v := undef) rfl (by kernel_rfl) (by kernel_rfl) (by kernel_rfl) (fun _ _ _ h => h) (Or.inr ⟨by kernel_rfl,rfl⟩) ?_
     try simp only [Act.put,List.setIfInBounds_toArray,List.set_cons_zero,List.set_cons_succ]
     refine wpAny_take (i := 9) (oi := ⟨some 47,.fieldAddr 40 (.tmp 46) 5,0,"tree.go:22",#[⟨8,.data⟩,⟨6,.guard⟩],some (6,false)⟩) (v := undef) rfl (by kernel_rfl) (by kernel_rfl) (by kernel_rfl) (fun _ _ _ h => h) (Or.inr ⟨by kernel_rfl,rfl⟩) ?_
     try simp only [Act.put,List.setIfInBounds_toArray,List.set_cons_zero,List.set_cons_succ]
     refine wpAny_take (i := 10) (oi := ⟨some 48,.load 38 (.tmp 47),38,"tree.go:22",#[⟨9,.data⟩,⟨6,.guard⟩],some (6,false)⟩) (v := undef) rfl (by kernel_rfl) (by kernel_rfl) (by kernel_rfl) (fun _ _ _ h => h) (Or.inr ⟨by kernel_rfl,rfl⟩) ?_
     try simp only [Act.put,List.setIfInBounds_toArray,List.set_cons_zero,List.set_cons_succ]
     refine wpAny_take (i := 11) (oi := ⟨some 49,.call { callee := .builtin .len,args := #[.tmp 48],argTypes := #[38] },3,"tree.go:22",#[⟨10,.data⟩,⟨6,.guard⟩],some (6,false)⟩) (v := undef) rfl (by kernel_rfl) (by kernel_rfl) (by kernel_rfl) (fun _ _ _ h => h) (Or.inr ⟨by kernel_rfl,rfl⟩) ?_
     try simp only [Act.put,List.setIfInBounds_toArray,List.set_cons_zero,List.set_cons_succ]
     refine wpAny_take (i := 12) (oi := ⟨some 50,.move (.tmp 10),80,"tree.go:22",#[⟨6,.guard⟩],some (6,false)⟩) (v := undef) rfl (by kernel_rfl) (by kernel_rfl) (by kernel_rfl) (fun _ _ _ h => h) (Or.inr ⟨by kernel_rfl,rfl⟩) ?_
     try simp only [Act.put,List.setIfInBounds_toArray,List.set_cons_zero,List.set_cons_succ]
     refine wpAny_take (i := 13) (oi := ⟨some 51,.nilCheck (.tmp 50),0,"tree.go:22",#[⟨12,.data⟩,⟨6,.guard⟩],some (6,false)⟩) (v := undef) rfl (by kernel_rfl) (by kernel_rfl) (by kernel_rfl) (fun _ _ _ h => h) (Or.inr ⟨by kernel_rfl,rfl⟩) ?_
     try simp only [Act.put,List.setIfInBounds_toArray,List.set_cons_zero,List.set_cons_succ]
     refine wpAny_take (i := 14) (oi := ⟨some 52,.fieldAddr 40 (.tmp 51) 5,0,"tree.go:22",#[⟨13,.data⟩,⟨6,.guard⟩],some (6,false)⟩) (v := undef) rfl (by kernel_rfl) (by kernel_rfl) (by kernel_rfl) (fun _ _ _ h => h) (Or.inr ⟨by kernel_rfl,rfl⟩) ?_
     try simp only [Act.put,List.setIfInBounds_toArray,List.set_cons_zero,List.set_cons_succ]
     refine wpAny_take (i := 15) (oi := ⟨some 53,.load 38 (.tmp 52),38,"tree.go:22",#[⟨14,.data⟩,⟨6,.guard⟩],some (6,false)⟩) (v := undef) rfl (by kernel_rfl) (by kernel_rfl) (by kernel_rfl) (fun _ _ _ h => h) (Or.inr ⟨by kernel_rfl,rfl⟩) ?_
     try simp only [Act.put,List.setIfInBounds_toArray,List.set_cons_zero,List.set_cons_succ]
     refine wpAny_take (i := 16) (oi := ⟨some 54,.call { callee := .builtin .len,args := #[.tmp 53],argTypes := #[38] },3,"tree.go:22",#[⟨15,.data⟩,⟨6,.guard⟩],some (6,false)⟩) (v := undef) rfl (by kernel_rfl) (by kernel_rfl) (by kernel_rfl) (fun _ _ _ h => h) (Or.inr ⟨by kernel_rfl,rfl⟩) ?_
     try simp only [Act.put,List.setIfInBounds_toArray,List.set_cons_zero,List.set_cons_succ]
     refine wpAny_take (i := 17) (oi := ⟨some 55,.binOp .neq 3 (.tmp 49) (.tmp 54) 3,4,"tree.go:22",#[⟨11,.data⟩,⟨16,.data⟩,⟨6,.guard⟩],some (6,false)⟩) (v := undef) rfl (by kernel_rfl) (by kernel_rfl) (by kernel_rfl) (fun _ _ _ h => h) (Or.inr ⟨by kernel_rfl,rfl⟩) ?_
     try simp only [Act.put,List.setIfInBounds_toArray,List.set_cons_zero,List.set_cons_succ]
     refine wpAny_take (i := 18) (oi := ⟨some 56,.pick (.tmp 44) (.const (.bool true)) (.tmp 55),4,"tree.go:22",#[⟨6,.data⟩,⟨17,.data⟩],none⟩) (v := ?_) rfl (by kernel_rfl) (by kernel_rfl) (by kernel_rfl) (fun _ _ _ h => h) (Or.inl ⟨by rfl,?_⟩) ?_
     rotate_left
     ·intro w; go_simp <;> with_reducible rfl
     try simp only [Act.put,List.setIfInBounds_toArray,List.set_cons_zero,List.set_cons_succ]
     refine wpAny_done (by kernel_rfl) ?_ _
     go_wp2
     go_ret
     exact ⟨rfl,KB.out.trans (kB.trans K3.out (fun x hx => Or.inl hx)) (fun x hx => Or.inl hx)⟩
   | true =>
     clear hLb
     by_cases hnn : p1.2.2.1 = p2.2.2.1
     ·have hA3 : Hid (sameV sameL S T = A) := by
       show sameV sameL S T = A
       rw [← hA2,decide_eq_true hnn]; simp
      have q1 : ((p1.2.2.1 : Int) == (p2.2.2.1 : Int)) = true := by rw [hnn]; simp
      have q2 : ((p1.2.2.1 : Int) != (p2.2.2.1 : Int)) = false := by simp only [bne,q1]; rfl
      clear hA2 hnn
      go_region_held3 (fun V => V.cell? ⟨b1,off1 + 5,none⟩ = some (.slice p1.2.1 p1.2.2.1 p1.2.2.2) ∧ V.cell? ⟨b2,off2,none⟩ = some (.int .i64 b.2.1.kind) ∧ V.cell? ⟨b2,off2 + 1,none⟩ = some (.int .i64 b.2.1.ns) ∧ V.cell? ⟨b2,off2 + 2,none⟩ = some (.string b.2.1.name) ∧ V.cell? ⟨b2,off2 + 3,none⟩ = some (.slice p2.1.1 p2.1.2.1 p2.1.2.2) ∧ V.cell? ⟨b2,off2 + 4,none⟩ = some (.string b.2.1.text) ∧ V.cell? ⟨b2,off2 + 5,none⟩ = some (.slice p2.2.1 p2.2.2.1 p2.2.2.2))
       (first
        | exact ⟨(KC.out _ K3.out).1.cells.2.2.2.2.2,(KC.out _ K3.out).2.cells⟩
        | exact ⟨(KC.out _ (Kp.refl _ _).drew).1.cells.2.2.2.2.2,(KC.out _ (Kp.refl _ _).drew).2.cells⟩)
       (first | (go_at_call 46; refine (HLB.out _ (Kp.refl _ _).drew).mono ?_; rintro e w3 ⟨rfl,k3⟩; have K3 : Hid (Kp [] w2 w3) := (Kp.refl _ _).drew.trans k3 (fun x hx => Or.inl hx)))
      go_wp2
      have ZK := HZ.out
      have RR : RSame B s1 s2 l k p l' k' p' A w3 S.length := ⟨S,T,u1,u2,ZK.1.kept K3.out,ZK.2.1.kept K3.out,ZK.2.2.1,hA3.out,rfl,ZK.2.2.2.1,ZK.2.2.2.2⟩
      go_roundw
      case rel => exact ⟨_,RR⟩
      case measure =>
       refine Nat.lt_of_le_of_lt (HM.out _ _ RR) ?_
       rw [← HS.out]; simp
     ·obtain rfl : false = A := by rw [← hA2,decide_eq_false hnn]; simp
      have q1 : ((p1.2.2.1 : Int) == (p2.2.2.1 : Int)) = false := by simp; omega
      have q2 : ((p1.2.2.1 : Int) != (p2.2.2.1 : Int)) = true := by simp only [bne,q1]; rfl
      clear hA2
      go_region_held3 (fun V => V.cell? ⟨b1,off1 + 5,none⟩ = some (.slice p1.2.1 p1.2.2.1 p1.2.2.2) ∧ V.cell? ⟨b2,off2,none⟩ = some (.int .i64 b.2.1.kind) ∧ V.cell? ⟨b2,off2 + 1,none⟩ = some (.int .i64 b.2.1.ns) ∧ V.cell? ⟨b2,off2 + 2,none⟩ = some (.string b.2.1.name) ∧ V.cell? ⟨b2,off2 + 3,none⟩ = some (.slice p2.1.1 p2.1.2.1 p2.1.2.2) ∧ V.cell? ⟨b2,off2 + 4,none⟩ = some (.string b.2.1.text) ∧ V.cell? ⟨b2,off2 + 5,none⟩ = some (.slice p2.2.1 p2.2.2.1 p2.2.2.2))
       (first
        | exact ⟨(KC.out _ K3.out).1.cells.2.2.2.2.2,(KC.out _ K3.out).2.cells⟩
        | exact ⟨(KC.out _ (Kp.refl _ _).drew).1.cells.2.2.2.2.2,(KC.out _ (Kp.refl _ _).drew).2.cells⟩)
       (first | (go_at_call 46; refine (HLB.out _ (Kp.refl _ _).drew).mono ?_; rintro e w3 ⟨rfl,k3⟩; have K3 : Hid (Kp [] w2 w3) := (Kp.refl _ _).drew.trans k3 (fun x hx => Or.inl hx)))
      go_wp2
      go_ret
      exact ⟨rfl,KB.out.trans (kB.trans K3.out (fun x hx => Or.inl hx)) (fun x hx => Or.inl hx)⟩
end Go.Proofs.YtpkppobkagdhkaaGreat
