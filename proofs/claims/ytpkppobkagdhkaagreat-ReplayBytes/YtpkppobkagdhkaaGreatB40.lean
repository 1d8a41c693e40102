/-
 RdP Rref Build Bu EncA DecA Tell Okt.
-/
import Derived.Test.YtpkppobkagdhkaaGreatB37
import Derived.Test.YtpkppobkagdhkaaGreatB24
import Derived.Test.YtpkppobkagdhkaaGreatB38
import Derived.Test.YtpkppobkagdhkaaGreatB39
import Derived.Below
import Derived.Lib.MakeNoZero
import Derived.Deep.Upon
import Derived.Deep.Cut
set_option linter.unusedVariables false
set_option linter.unusedSimpArgs false
set_option maxRecDepth 100000
set_option maxHeartbeats 1000000
namespace Go.Proofs.YtpkppobkagdhkaaGreat
open Go.RowKit Go.Maps Utf
end Go.Proofs.YtpkppobkagdhkaaGreat
namespace Go.Proofs.YtpkppobkagdhkaaGreat
open Go.RowKit
theorem rref_any (w : World) (o : Ot) (p : Sl) (h : Ap w (o,p)) (hl : p.2.1 ≤ 100000) :
  Calls Tryz.prog 48 #[ov o p] w fun e w' => e = .returned (.bool (rightO o)) ∧ Kp [] w w' := by
 have hq : p.2.1 = o.al.length := Rp.len h
 obtain ⟨a1,a2,a3,a4,a5,a6,a7,a8,a9⟩ := o
 obtain ⟨p1,p2,p3⟩ := p
 by_cases hk : 1 ≤ a1 ∧ a1 ≤ 11
 ·obtain rfl | rfl | rfl | rfl | rfl | rfl | rfl | rfl | rfl | rfl | rfl : a1 = 1 ∨ a1 = 2 ∨ a1 = 3 ∨ a1 = 4 ∨ a1 = 5 ∨ a1 = 6 ∨ a1 = 7 ∨ a1 = 8 ∨ a1 = 9 ∨ a1 = 10 ∨ a1 = 11 := by omega
  ·exact rref_1 w a2 a3 a4 a5 a6 a7 a8 a9 p1 p2 p3 hq hl
  ·exact rref_2 w a2 a3 a4 a5 a6 a7 a8 a9 p1 p2 p3 hq hl
  ·exact rref_3 w a2 a3 a4 a5 a6 a7 a8 a9 p1 p2 p3 hq hl
  ·exact rref_4 w a2 a3 a4 a5 a6 a7 a8 a9 p1 p2 p3 hq hl
  ·exact rref_5 w a2 a3 a4 a5 a6 a7 a8 a9 p1 p2 p3 hq hl
  ·exact rref_6 w a2 a3 a4 a5 a6 a7 a8 a9 p1 p2 p3 hq hl
  ·exact rref_7 w a2 a3 a4 a5 a6 a7 a8 a9 p1 p2 p3 hq hl
  ·exact rref_8 w a2 a3 a4 a5 a6 a7 a8 a9 p1 p2 p3 hq hl
  ·exact rref_9 w a2 a3 a4 a5 a6 a7 a8 a9 p1 p2 p3 hq hl
  ·exact rref_10 w a2 a3 a4 a5 a6 a7 a8 a9 p1 p2 p3 hq hl
  ·exact rref_11 w a2 a3 a4 a5 a6 a7 a8 a9 p1 p2 p3 hq hl
 ·have hn : ∀ k : Int,1 ≤ k → k ≤ 11 → (a1 == k) = false := fun k h1 h2 => by simp; omega
  exact rref_no w a1 a2 a3 a4 a5 a6 a7 a8 a9 p1 p2 p3 hq hl (hn 1 (by omega) (by omega)) (hn 2 (by omega) (by omega)) (hn 3 (by omega) (by omega)) (hn 4 (by omega) (by omega)) (hn 5 (by omega) (by omega)) (hn 6 (by omega) (by omega)) (hn 7 (by omega) (by omega)) (hn 8 (by omega) (by omega)) (hn 9 (by omega) (by omega)) (hn 10 (by omega) (by omega)) (hn 11 (by omega) (by omega))
end Go.Proofs.YtpkppobkagdhkaaGreat
namespace Go.Proofs
open Go.Shelf
end Go.Proofs
namespace Go.Proofs.YtpkppobkagdhkaaGreat
open Go.RowKit
end Go.Proofs.YtpkppobkagdhkaaGreat
namespace Go.Proofs.YtpkppobkagdhkaaGreat
open Go.RowKit
def OwnB (w : World) (v : Value) (xs : List Value) : Prop :=
 (v = .slice none 0 0 ∧ xs = []) ∨
 ∃ g cap cur,v = .slice (some ⟨g,0,none⟩) xs.length cap ∧ w.heap[g]? = some (.cells cur 5 (0,0)) ∧ xs.length ≤ cap ∧ cap ≤ maxLen ∧ cur.size = cap ∧ ∀ j,j < xs.length → cur[j]? = xs[j]?
theorem OwnB.lt {w : World} {v : Value} {xs : List Value} (h : OwnB w v xs) : ∀ k,k ∈ blk v → k < w.heap.size := by
 intro k hk
 rcases h with ⟨rfl,_⟩ | ⟨g,cap,cur,rfl,hg,_⟩
 ·simp [blk] at hk
 ·simp [blk] at hk
  subst hk
  exact (Array.getElem?_eq_some_iff.1 hg).1
theorem OwnB.keep {w w' : World} {S : List Nat} {v : Value} {xs : List Value} (h : OwnB w v xs) (k : Kp S w w') (hn : ∀ x,x ∈ blk v → x ∉ S) : OwnB w' v xs := by
 have hl := h.lt
 rcases h with h | ⟨g,cap,cur,rfl,hg,r⟩
 ·exact Or.inl h
 ·have hm : g ∈ blk (Value.slice (some ⟨g,0,none⟩) xs.length cap) := by simp [blk]
  exact Or.inr ⟨g,cap,cur,rfl,by rw [k.block g (hl g hm) (hn g hm)]; exact hg,r⟩
theorem ownB_new (w : World) (cur : Array Value) (xs : List Value) (cap : Nat) (h1 : xs.length ≤ cap) (h2 : cap ≤ maxLen) (h3 : cur.size = cap) (h4 : ∀ j,j < xs.length → cur[j]? = xs[j]?) (n : Nat) (hn : n = xs.length) :
  OwnB (w.alloc (.cells cur 5)) (.slice (some ⟨w.heap.size,0,none⟩) n cap) xs := by
 subst hn
 exact Or.inr ⟨w.heap.size,cap,cur,rfl,heap_new w _,h1,h2,h3,h4⟩
theorem size_zc (z : Value) (hz : z.cells = #[z]) (n : Nat) : (Builtin.zeroCells z.cells n).size = n := by
 rw [hz]
 simp [Builtin.zeroCells]
theorem info5' : (Tryz.prog.info? 5).map (fun i => (i.zero,i.size,i.bytes)) = some (some (.int .u8 0),1,1) := by kernel_rfl
theorem app_b (tx : TypeId) (w : World) (v : Value) (xs : List Value) (h : OwnB w v xs) (src : Value) (m : Nat) (news : List Value) (hs : Src Tryz.prog 1 tx src m news w) (hlen : xs.length + m ≤ 1000000) :
  ∃ v' w',(∀ ty,(Builtin.append_ #[49,tx] ty #[v,src]).run Tryz.prog w = .ok v' w') ∧ OwnB w' v' (xs ++ news) ∧ Kp (blk v) w w' ∧ (∀ k,k ∈ blk v' → k ∈ blk v ∨ k = w.heap.size) ∧ ∃ ao c,v' = .slice ao (xs.length + m) c := by
 obtain ⟨i,hi0,hi1,hi2,hi3⟩ := info_parts info5'
 have ht := Tryz.underlying49
 have hnl : news.length = m := by simpa using hs.newsLen
 have hs' : Src Tryz.prog i.size tx src m news w := by rw [hi2]; exact hs
 rcases h with ⟨rfl,rfl⟩ | ⟨g,cap,cur,rfl,hg,hc1,hc2,hc3,hc4⟩
 ·rcases Nat.eq_zero_or_pos m with h0 | hm0
  ·subst h0
   obtain rfl : news = [] := List.eq_nil_of_length_eq_zero hnl
   refine ⟨.slice none 0 0,w,fun ty => ?_,Or.inl ⟨rfl,rfl⟩,Kp.refl _ _,fun k hk => by simp [blk] at hk,⟨none,0,rfl⟩⟩
   exact run_append_nothing w 49 tx ty 5 i ht hi0 none 0 0 (Nat.le_refl _) src hs'
  ·have hr := fun ty => run_append_grow_src (P := Tryz.prog) w 49 tx ty 5 i (.int .u8 0) ht hi0 hi1 none 0 0 [] (run_firstCells_none w.drew i.size 0 0 0) src m news hs' (by omega) (by simp at hlen; omega) (by rw [hi3]; exact growslice_fits (by omega) (by simp at hlen; omega))
   refine ⟨_,_,hr,?_,(Kp.refl _ _).drew.alloc _,fun k hk => ?_,⟨_,_,rfl⟩⟩
   ·refine ownB_new w.drew _ _ _ ?_ ?_ ?_ ?_ _ (by simp [hnl])
    ·have := grownCap_ge w (0 + m) 0 5
     simp [hnl]
     simpa using this
    ·exact grownCap_le_maxLen w _ _ _ (by unfold maxLen; simp at hlen; omega)
    ·have := grownCap_ge w (0 + m) 0 5
     rw [Array.size_append,size_zc _ rfl]
     simp [hnl] at this ⊢
     omega
    ·intro j hj
     simp at hj
     rw [Array.getElem?_append_left (by simpa using hj)]
     simp
   ·simp [blk] at hk
    exact Or.inr hk
 ·by_cases hroom : xs.length + m ≤ cap
  ·have hr := fun ty => run_append_room_src (P := Tryz.prog) w 49 tx ty 5 i ht hi0 g 0 xs.length cap src m news hs' hroom
    (fun j hj => by rw [hi2,cell_of hg,Array.getElem?_eq_getElem (by omega)]; rfl) (fun j hj => frozen_of hg _)
   obtain ⟨cur',hg',hsz'⟩ := setCells_block g 5 news (0 + xs.length * i.size) w cur hg
   have hget := setCells_get g 5 news (0 + xs.length * i.size) w cur cur' hg hg' (by rw [hi2]; omega)
   refine ⟨_,_,hr,Or.inr ⟨g,cap,cur',by simp [hnl],hg',by simp [hnl]; exact hroom,hc2,by omega,fun j hj => ?_⟩,Kp.setCells g (Or.inl (by simp [blk])) _ _ _ (Kp.refl _ _),fun k hk => Or.inl (by simpa [blk] using hk),⟨_,_,rfl⟩⟩
   rw [hget j,hi2]
   simp only [Nat.mul_one,Nat.zero_add]
   rw [List.length_append] at hj
   by_cases hjx : j < xs.length
   ·rw [if_neg (by omega),List.getElem?_append_left hjx,hc4 j hjx]
   ·rw [if_pos (by omega),List.getElem?_append_right (by omega)]
  ·have hold : (Builtin.firstCells i.size xs.length (.slice (some ⟨g,0,none⟩) xs.length cap)).run Tryz.prog w.drew = .ok xs.toArray w.drew :=
    run_firstCells_some w.drew i.size xs.length ⟨g,0,none⟩ xs.length cap xs (by rw [hi2,Nat.mul_one]) (fun j u hj => by
     rw [Addr.add_lit]
     show w.cell? _ = _
     have hjl := (List.getElem?_eq_some_iff.1 hj).1
     rw [Nat.zero_add,cell_of hg,hc4 j hjl]
     exact hj)
   have hr := fun ty => run_append_grow_src (P := Tryz.prog) w 49 tx ty 5 i (.int .u8 0) ht hi0 hi1 (some ⟨g,0,none⟩) xs.length cap xs hold src m news hs' (by omega) (by omega) (by rw [hi3]; exact growslice_fits (by omega) (by omega))
   refine ⟨_,_,hr,?_,(Kp.refl _ _).drew.alloc _,fun k hk => ?_,⟨_,_,rfl⟩⟩
   ·refine ownB_new w.drew _ _ _ ?_ ?_ ?_ ?_ _ (by simp [hnl])
    ·have := grownCap_ge w (xs.length + m) cap 5
     simp [hnl]
     exact this
    ·exact grownCap_le_maxLen w _ _ _ (by unfold maxLen; omega)
    ·have := grownCap_ge w (xs.length + m) cap 5
     rw [Array.size_append,size_zc _ rfl]
     simp [hnl]
     omega
    ·intro j hj
     rw [Array.getElem?_append_left (by simpa using hj)]
     simp
   ·simp [blk] at hk
    exact Or.inr hk
end Go.Proofs.YtpkppobkagdhkaaGreat
namespace Go.Proofs.YtpkppobkagdhkaaGreat
open Go.RowKit Utf
def Ext (w w' : World) (v v' : Value) (xs : List Int) : Prop := OwnB w' v' (b8 xs) ∧ Kp (blk v) w w' ∧ ∀ k,k ∈ blk v' → k ∈ blk v ∨ w.heap.size ≤ k
theorem Ext.trans {w w1 w2 : World} {v v1 v2 : Value} {xs ys : List Int} (h : Ext w w1 v v1 xs) (g : Ext w1 w2 v1 v2 ys) : Ext w w2 v v2 ys :=
 ⟨g.1,h.2.1.trans g.2.1 (fun x hx => h.2.2 x hx),fun k hk => by
  rcases g.2.2 k hk with h1 | h1
  ·exact h.2.2 k h1
  ·exact Or.inr (Nat.le_trans h.2.1.size h1)⟩
theorem Ext.refl {w : World} {v : Value} {xs : List Int} (h : OwnB w v (b8 xs)) : Ext w w v v xs := ⟨h,Kp.refl _ _,fun k hk => Or.inl hk⟩
theorem Ext.shape {w w' : World} {v v' : Value} {xs : List Int} (h : Ext w w' v v' xs) : ∃ ao c,v' = .slice ao xs.length c := by
 rcases h.1 with ⟨rfl,hx⟩ | ⟨g,cap,cur,rfl,_⟩
 ·have : xs = [] := by cases xs; rfl; simp [b8] at hx
  subst this
  exact ⟨none,0,rfl⟩
 ·exact ⟨_,_,by rw [b8_len]⟩
theorem b8_append (l m : List Int) : b8 (l ++ m) = b8 l ++ b8 m := by simp [b8]
theorem b8_one (l : List Int) : ∀ u,u ∈ b8 l → u.oneCell' = true := fun u hu => by
 obtain ⟨x,_,rfl⟩ := List.mem_map.1 hu
 rfl
theorem src_lit (w : World) (l : List Int) (cur : Array Value) (n : Nat) (hc : cur = (b8 l).toArray) (hn : n = l.length) (hm : n ≤ 1000) (q : Nat) (hq : q = w.heap.size) : Src Tryz.prog 1 49 (.slice (some ⟨q,0,none⟩) n n) n (b8 l) (w.alloc (.cells cur 5)) := by
 subst hq
 exact Rd.src Tryz.underlying49 (Own.rd (own_new w 5 cur (b8 l) n (by rw [b8_len]; omega) (by unfold maxLen; omega) (by rw [hc]; simp [b8_len,hn]) (fun j hj => by rw [hc]; simp) n (by rw [b8_len,hn]))) (b8_one l)
theorem ext_lit {w w1 : World} {v v1 : Value} {xs : List Int} (h : Ext w w1 v v1 xs) (l : List Int) (cur : Array Value) (n : Nat) (hc : cur = (b8 l).toArray) (hn : n = l.length) (hm : n ≤ 1000) (hlen : xs.length + n ≤ 1000000) :
  ∃ ao c w2,(∀ ty,(Builtin.append_ #[49,49] ty #[v1,.slice (some ⟨w1.heap.size,0,none⟩) n n]).run Tryz.prog (w1.alloc (.cells cur 5)) = .ok (.slice ao (xs.length + n) c) w2) ∧ Ext w w2 v (.slice ao (xs.length + n) c) (xs ++ l) := by
 have k1 : Kp [] w1 (w1.alloc (.cells cur 5)) := (Kp.refl _ _).alloc _
 obtain ⟨v',w2,hrun,o2,k2,b2,ao,c,rfl⟩ := app_b 49 _ v1 _ (h.1.keep k1 (fun _ _ => by simp)) _ n (b8 l) (src_lit w1 l cur n hc hn hm _ rfl) (by rw [b8_len]; exact hlen)
 rw [b8_len] at hrun b2 o2
 refine ⟨ao,c,w2,hrun,h.trans ⟨by rw [b8_append]; exact o2,(k1.mono (fun x hx => by simp at hx)).trans k2 (fun x hx => Or.inl hx),fun k hk => ?_⟩⟩
 rcases b2 k hk with h1 | h1
 ·exact Or.inl h1
 ·right
  rw [h1]
  simp
theorem ext_str {w w1 : World} {v v1 : Value} {xs : List Int} (h : Ext w w1 v v1 xs) (s : ByteArray) (hlen : xs.length + s.size ≤ 1000000) :
  ∃ ao c w2,(∀ ty,(Builtin.append_ #[49,9] ty #[v1,.string s]).run Tryz.prog w1 = .ok (.slice ao (xs.length + s.size) c) w2) ∧ Ext w w2 v (.slice ao (xs.length + s.size) c) (xs ++ bytesOf s) := by
 obtain ⟨v',w2,hrun,o2,k2,b2,ao,c,rfl⟩ := app_b 9 _ v1 _ h.1 (.string s) s.size (byteCells s) (Src.ofString w1 Tryz.underlying9 s) (by rw [b8_len]; exact hlen)
 rw [b8_len] at hrun b2 o2
 refine ⟨ao,c,w2,hrun,h.trans ⟨?_,k2,fun k hk => ?_⟩⟩
 ·rw [b8_append,show b8 (bytesOf s) = byteCells s by simp [b8,bytesOf,byteCells]]
  exact o2
 ·rcases b2 k hk with h1 | h1
  ·exact Or.inl h1
  ·exact Or.inr (by omega)
theorem pnum_any (w : World) (v : Value) (xs : List Int) (h : OwnB w v (b8 xs)) (n : Int) (z : Nat) (hz : 1 ≤ z ∧ z ≤ 4) (hn : 0 ≤ n ∧ n ≤ 4294967295) (hlen : xs.length ≤ 900000) :
  Calls Tryz.prog 79 #[v,.int .i64 n,.int .i64 (z : Int)] w fun e w' => ∃ v',e = .returned v' ∧ Ext w w' v v' (xs ++ nb n z) := by
 have hE := Ext.refl h
 obtain ⟨ao,c,hv⟩ := hE.shape
 subst hv
 clear h
 obtain ⟨hz1,hz2⟩ := hz
 obtain ⟨hn1,hn2⟩ := hn
 have HE : Hid (Ext w w (.slice ao xs.length c) (.slice ao xs.length c) xs) := hE
 clear hE
 go_enter Tryz.func79,Tryz.ntmps79
 go_wp2
 go_loopw [0,7] (fun b i wr => ∃ (j : Nat) (pre : List Int) (ao' : Option Addr) (c' : Nat),j ≤ z ∧ i = .int .i64 ((j : Int) - 1) ∧ nb n z = pre ++ nb n j ∧ b = .slice ao' (xs.length + pre.length) c' ∧ Ext w wr (.slice ao xs.length c) (.slice ao' (xs.length + pre.length) c') (xs ++ pre)) (fun _ i _ => (intOf i + 1).toNat)
 case atStart => exact ⟨z,[],ao,c,Nat.le_refl _,by rfl,rfl,rfl,by rw [List.append_nil]; exact HE.out⟩
 case round =>
  obtain ⟨j,pre,ao',c',hj,rfl,hp,rfl,X⟩ := hrel
  clear HE
  have hpl : pre.length ≤ 4 := by
   have := congrArg List.length hp
   rw [nb_len,List.length_append,nb_len] at this
   omega
  obtain rfl | rfl | rfl | rfl | rfl : j = 0 ∨ j = 1 ∨ j = 2 ∨ j = 3 ∨ j = 4 := by omega
  ·have hp2 : Hid (nb n z = pre) := by rw [hp]; exact (List.append_nil pre)
   clear hp
   have XX : Hid (Ext w wr (.slice ao xs.length c) (.slice ao' (xs.length + pre.length) c') (xs ++ pre)) := X
   clear X
   go_wp2
   go_ret
   exact ⟨_,rfl,by rw [hp2.out]; exact XX.out⟩
  ·obtain ⟨a2,c2,w2,hrun,X2⟩ := ext_lit X [n % 256] #[.int .u8 (n % 256)] 1 rfl rfl (by omega) (by simp; omega)
   simp only [List.length_append] at hrun X2
   have XX : Hid (Ext w w2 (.slice ao xs.length c) (.slice a2 (xs.length + pre.length + 1) c2) (xs ++ pre ++ [n % 256])) := X2
   have hp1 : nb n z = (pre ++ [n % 256]) ++ nb n 0 := by rw [hp]; simp [nb]
   have hp2 : Hid (nb n z = (pre ++ [n % 256]) ++ nb n 0) := hp1
   clear X X2 hp hp1
   go_wp2_with (at_builtin; refine Lib.wpList_append_run _ rfl _ _ _ _ rfl _ _ rfl rfl _ _ (hrun _) ?_)
   exact ⟨⟨0,pre ++ [n % 256],a2,c2,by omega,by rfl,hp2.out,by simp [Nat.add_assoc],by have := XX.out; simpa [Nat.add_assoc] using this⟩,by simp [intOf]⟩
  ·obtain ⟨a2,c2,w2,hrun,X2⟩ := ext_lit X [n / 256 % 256] #[.int .u8 (n / 256 % 256)] 1 rfl rfl (by omega) (by simp; omega)
   simp only [List.length_append] at hrun X2
   have XX : Hid (Ext w w2 (.slice ao xs.length c) (.slice a2 (xs.length + pre.length + 1) c2) (xs ++ pre ++ [n / 256 % 256])) := X2
   have hp1 : nb n z = (pre ++ [n / 256 % 256]) ++ nb n 1 := by rw [hp]; simp [nb]
   have hp2 : Hid (nb n z = (pre ++ [n / 256 % 256]) ++ nb n 1) := hp1
   clear X X2 hp hp1
   go_wp2_with (at_builtin; refine Lib.wpList_append_run _ rfl _ _ _ _ rfl _ _ rfl rfl _ _ (hrun _) ?_)
   exact ⟨⟨1,pre ++ [n / 256 % 256],a2,c2,by omega,by rfl,hp2.out,by simp [Nat.add_assoc],by have := XX.out; simpa [Nat.add_assoc] using this⟩,by simp [intOf]⟩
  ·obtain ⟨a2,c2,w2,hrun,X2⟩ := ext_lit X [n / 65536 % 256] #[.int .u8 (n / 65536 % 256)] 1 rfl rfl (by omega) (by simp; omega)
   simp only [List.length_append] at hrun X2
   have XX : Hid (Ext w w2 (.slice ao xs.length c) (.slice a2 (xs.length + pre.length + 1) c2) (xs ++ pre ++ [n / 65536 % 256])) := X2
   have hp1 : nb n z = (pre ++ [n / 65536 % 256]) ++ nb n 2 := by rw [hp]; simp [nb]
   have hp2 : Hid (nb n z = (pre ++ [n / 65536 % 256]) ++ nb n 2) := hp1
   clear X X2 hp hp1
   go_wp2_with (at_builtin; refine Lib.wpList_append_run _ rfl _ _ _ _ rfl _ _ rfl rfl _ _ (hrun _) ?_)
   exact ⟨⟨2,pre ++ [n / 65536 % 256],a2,c2,by omega,by rfl,hp2.out,by simp [Nat.add_assoc],by have := XX.out; simpa [Nat.add_assoc] using this⟩,by simp [intOf]⟩
  ·obtain ⟨a2,c2,w2,hrun,X2⟩ := ext_lit X [n / 16777216] #[.int .u8 (n / 16777216)] 1 rfl rfl (by omega) (by simp; omega)
   simp only [List.length_append] at hrun X2
   have XX : Hid (Ext w w2 (.slice ao xs.length c) (.slice a2 (xs.length + pre.length + 1) c2) (xs ++ pre ++ [n / 16777216])) := X2
   have hp1 : nb n z = (pre ++ [n / 16777216]) ++ nb n 3 := by rw [hp]; simp [nb]; omega
   have hp2 : Hid (nb n z = (pre ++ [n / 16777216]) ++ nb n 3) := hp1
   clear X X2 hp hp1
   go_wp2_with (at_builtin; refine Lib.wpList_append_run _ rfl _ _ _ _ rfl _ _ rfl rfl _ _ (hrun _) ?_)
   exact ⟨⟨3,pre ++ [n / 16777216],a2,c2,by omega,by rfl,hp2.out,by simp [Nat.add_assoc],by have := XX.out; simpa [Nat.add_assoc] using this⟩,by simp [intOf]⟩
def Off (ao : Option Addr) (b B : Nat) : Prop := ∀ a,ao = some a → a.block ≠ b ∧ a.block < B
theorem Rb.off {w w' : World} {ao : Option Addr} {n c b B : Nat} {xs : List Value} (h : Rb w ao n c xs) (ho : Off ao b B) {S : List Nat} (k : Kp S w w') (hS : ∀ x,x ∈ S → x = b ∨ B ≤ x) : Rb w' ao n c xs := by
 refine ⟨h.len,h.cap,fun j hj => ?_⟩
 obtain ⟨b',off,h1,h2⟩ := h.at' j hj
 obtain ⟨hb1,hb2⟩ := ho _ h1
 simp only at hb1 hb2
 have hb : b' ∉ S := fun hx => by
  rcases hS b' hx with e | e <;> omega
 have hj' : j < xs.length := by have := h.len; omega
 exact ⟨b',off,h1,by rw [k.cell (block_lt_of_cell (h2.trans (List.getElem?_eq_getElem hj'))) hb]; exact h2⟩
def Rr (w : World) (b B : Nat) (s : St) : Prop := ∃ ao n c,w.heap[b]? = some (.cells #[.slice ao n c,.bool s.2] 94 (0,0)) ∧ Rb w ao n c (b8 s.1) ∧ Off ao b B
theorem off_none (b B : Nat) : Off none b B := fun a h => by cases h
theorem Off.at' {ao : Option Addr} {b B : Nat} (h : Off ao b B) (k c : Nat) : Off (offAt ao k c) b B := by
 intro a ha
 unfold offAt at ha
 split at ha
 ·exact h a ha
 ·cases ao with
  | none => cases ha
  | some x =>
    simp only [Option.map_some,Option.some.injEq] at ha
    subst ha
    have hx := h x rfl
    have e : (x.add (k * 1)).block = x.block := by
     unfold Addr.add
     first | rfl | (split <;> rfl)
    rw [e]
    exact hx
theorem Rr.kept {w w' : World} {b B : Nat} {s : St} (h : Rr w b B s) {S : List Nat} (k : Kp S w w') (hb : b ∉ S) (hS : ∀ x,x ∈ S → B ≤ x) : Rr w' b B s := by
 obtain ⟨ao,n,c,h1,h2,h3⟩ := h
 exact ⟨ao,n,c,(k.block b (lt_of h1) hb).trans h1,h2.off h3 k (fun x hx => Or.inr (hS x hx)),h3⟩
theorem rb_nil (w : World) (c : Nat) (ao : Option Addr) : Rb w ao 0 c [] := ⟨rfl,Nat.zero_le _,fun j hj => by omega⟩
theorem take_any (w : World) (b B : Nat) (s : St) (h : Rr w b B s) (n : Nat) (hn : n ≤ 20000000) (hs : s.1.length ≤ 100000) :
  Calls Tryz.prog 118 #[.pointer (some ⟨b,0,none⟩),.int .i64 (n : Int)] w fun e w' => ∃ ao m c,e = .returned (.slice ao m c) ∧ Rb w' ao m c (b8 (tk n s).1) ∧ Off ao b B ∧ Rr w' b B (tk n s).2 ∧ Kp [b] w w' := by
 obtain ⟨l,q⟩ := s
 obtain ⟨ao,k,c,hb,hr,ho⟩ := h
 simp only at hb hr hs
 have hk : k = l.length := by rw [hr.len,b8_len]
 have hc := hr.cap
 have c0 : w.cell? ⟨b,0,none⟩ = some (.slice ao k c) := cell_of hb 0
 have c1 : w.cell? ⟨b,1,none⟩ = some (.bool q) := cell_of hb 1
 have f0 := frozen_of hb 0
 have f1 := frozen_of hb 1
 unfold tk
 simp only
 by_cases hlt : l.length < n
 ·rw [if_pos hlt]
  have hb2 : ((w.setCell ⟨b,0,none⟩ (.slice none 0 0)).setCell ⟨b,1,none⟩ (.bool true)).heap[b]? = some (.cells #[.slice none 0 0,.bool true] 94 (0,0)) := by
   rw [setCell_block (setCell_block hb _ _)]
   rfl
  have kz : Kp [b] w ((w.setCell ⟨b,0,none⟩ (.slice none 0 0)).setCell ⟨b,1,none⟩ (.bool true)) := ((Kp.refl _ _).setCell (Or.inl (by simp)) _).setCell (Or.inl (by simp)) _
  have HZ : Hid (Rr ((w.setCell ⟨b,0,none⟩ (.slice none 0 0)).setCell ⟨b,1,none⟩ (.bool true)) b B ([],true) ∧ Kp [b] w ((w.setCell ⟨b,0,none⟩ (.slice none 0 0)).setCell ⟨b,1,none⟩ (.bool true))) := ⟨⟨none,0,0,hb2,rb_nil _ _ _,off_none b B⟩,kz⟩
  have hkn : (k : Int) < (n : Int) := by omega
  clear hb hr ho hb2 kz hk hlt hs
  go_enter Tryz.func118,Tryz.ntmps118
  go_wp2
  go_ret
  exact ⟨none,0,0,rfl,rb_nil _ _ _,off_none b B,HZ.out.1,HZ.out.2⟩
 ·rw [if_neg hlt]
  have hkn : n ≤ k := by omega
  have r1 := hr.take n hkn
  have r2 := hr.drop n hkn
  rw [b8_take] at r1
  rw [b8_drop] at r2
  have hb2 : (w.setCell ⟨b,0,none⟩ (.slice (offAt ao n c) (k - n) (c - n))).heap[b]? = some (.cells #[.slice (offAt ao n c) (k - n) (c - n),.bool q] 94 (0,0)) := by
   rw [setCell_block hb]
   rfl
  have kz : Kp [b] w (w.setCell ⟨b,0,none⟩ (.slice (offAt ao n c) (k - n) (c - n))) := (Kp.refl _ _).setCell (Or.inl (by simp)) _
  have HZ : Hid (Rb (w.setCell ⟨b,0,none⟩ (.slice (offAt ao n c) (k - n) (c - n))) ao n c (b8 (l.take n)) ∧ Off ao b B ∧ Rr (w.setCell ⟨b,0,none⟩ (.slice (offAt ao n c) (k - n) (c - n))) b B (l.drop n,q) ∧ Kp [b] w (w.setCell ⟨b,0,none⟩ (.slice (offAt ao n c) (k - n) (c - n)))) := ⟨r1.off ho kz (by simp),ho,⟨_,_,_,hb2,r2.off (ho.at' n c) kz (by simp),ho.at' n c⟩,kz⟩
  clear hb hr ho r1 r2 hk hlt hb2 kz
  go_enter Tryz.func118,Tryz.ntmps118
  by_cases hcn : c = n
  ·subst hcn
   have e1 : offAt ao c c = ao := if_pos rfl
   have e2 : c - c = 0 := by omega
   have e3 : k - c = 0 := by omega
   rw [e1,e2,e3] at HZ
   clear e1 e2 e3
   go_wp2
   go_ret
   exact ⟨ao,c,c,rfl,HZ.out⟩
  ·have e1 : offAt ao n c = Option.map (fun x => x.add n) ao := by
    unfold offAt
    rw [if_neg hcn,Nat.mul_one]
   rw [e1] at HZ
   clear e1
   go_wp2
   go_ret
   exact ⟨ao,n,c,rfl,HZ.out⟩
theorem tk_len (n : Nat) (s : St) : (tk n s).1.length ≤ n ∧ (tk n s).2.1.length ≤ s.1.length ∧ (tk n s).1.length ≤ s.1.length := by
 unfold tk
 split
 ·exact ⟨Nat.zero_le _,Nat.zero_le _,Nat.zero_le _⟩
 ·refine ⟨?_,?_,?_⟩ <;> simp <;> omega
theorem tk_byt {n : Nat} {s : St} (h : byt s.1) : byt (tk n s).1 ∧ byt (tk n s).2.1 := by
 unfold tk
 split
 ·exact ⟨fun x hx => by simp at hx,fun x hx => by simp at hx⟩
 ·exact ⟨byt_take h n,byt_drop h n⟩
theorem or_add {v x : Int} (h0 : 0 ≤ v) (h1 : v ≤ 16777215) (h2 : 0 ≤ x) (h3 : x < 256) : bits BinOp.or IntKind.i64 (v * 256) x = v * 256 + x :=
 bits_join .i64 62 (by decide) (fun n hn0 hn1 => wrap_small n hn0 (by have : ((2 : Int) ^ 62) = 4611686018427387904 := by decide
                                                                      omega)) 8 (v * 256) x (by omega) (by omega) (by have : ((2 : Int) ^ 62) = 4611686018427387904 := by decide
                                                                                                                      omega) h2 h3 (by omega)
theorem nv_le3 {l : List Int} (h : byt l) (hl : l.length ≤ 3) : 0 ≤ nv16 l ∧ nv16 l ≤ 16777215 := by
 obtain ⟨h1,h2⟩ := nv_range l h
 refine ⟨h1,?_⟩
 obtain h3 | h3 | h3 | h3 : l.length = 0 ∨ l.length = 1 ∨ l.length = 2 ∨ l.length = 3 := by omega
 all_goals
  rw [h3] at h2
  have e0 : ((256 : Int) ^ 0) = 1 := by decide
  have e1 : ((256 : Int) ^ 1) = 256 := by decide
  have e2 : ((256 : Int) ^ 2) = 65536 := by decide
  have e3 : ((256 : Int) ^ 3) = 16777216 := by decide
  omega
theorem number_any (w : World) (b B : Nat) (s : St) (h : Rr w b B s) (n : Nat) (hn : n ≤ 4) (hs : s.1.length ≤ 100000) (hb : byt s.1) :
  Calls Tryz.prog 81 #[.pointer (some ⟨b,0,none⟩),.int .i64 (n : Int)] w fun e w' => e = .returned (.int .i64 (rdN n s).1) ∧ Rr w' b B (rdN n s).2 ∧ Kp [b] w w' := by
 have HT := take_any w b B s h n (by omega) hs
 have hbt := (tk_byt (n := n) hb).1
 have htl := (tk_len n s).1
 unfold rdN
 simp only
 generalize (tk n s).1 = l at HT hbt htl ⊢
 generalize (tk n s).2 = s' at HT ⊢
 clear h hb hs
 go_enter Tryz.func81,Tryz.ntmps81
 go_wp2_with fail
 refine HT.mono ?_
 rintro e w1 ⟨ao,m,c,rfl,r1,ho,R1,k1⟩
 have hml : m = l.length := by rw [r1.len,b8_len]
 subst hml
 have HZ : Hid (Rr w1 b B s' ∧ Kp [b] w w1) := ⟨R1,k1⟩
 clear HT ho R1 k1
 go_wp2
 go_loopw [5,12] (fun nv16' i wr => ∃ k : Nat,k ≤ l.length ∧ i = .int .i64 k ∧ nv16' = .int .i64 (nv16 (l.take k)) ∧ wr = w1) (fun _ i _ => l.length - (intOf i).toNat)
 case atStart => exact ⟨0,Nat.zero_le _,rfl,rfl,rfl⟩
 case round =>
  obtain ⟨k,hk,rfl,rfl,rfl⟩ := hrel
  by_cases hlt : k < l.length
  ·obtain ⟨b1,o1,e0,h1⟩ := r1.b8_at k hlt
   subst e0
   have hx := byt_at hbt k hlt
   have hnx : Hid (nv16 (l.take (k + 1)) = nv16 (l.take k) * 256 + l[k]) := (by rw [List.take_succ_eq_append_getElem hlt,nv_snoc] : nv16 (l.take (k + 1)) = nv16 (l.take k) * 256 + l[k])
   have hle : 0 ≤ nv16 (l.take k) ∧ nv16 (l.take k) ≤ 16777215 := nv_le3 (byt_take hbt k) (by rw [List.length_take]; omega)
   obtain ⟨hle1,hle2⟩ := hle
   obtain ⟨hx1,hx2⟩ := hx
   clear r1 hbt HZ
   generalize l[k] = x at h1 hx1 hx2 hnx
   generalize nv16 (l.take k) = v at hnx hle1 hle2 ⊢
   have HO := or_add hle1 hle2 hx1 hx2
   have HO2 : Hid (bits BinOp.or IntKind.i64 (v * 256) x = v * 256 + x) := HO
   clear HO
   go_wp2
   rw [HO2.out]
   exact ⟨⟨k + 1,by omega,by go_num,by rw [hnx.out],trivial⟩,by simp [intOf]; omega⟩
  ·obtain rfl : k = l.length := by omega
   rw [List.take_length]
   clear r1 hbt
   go_wp2
   go_ret
   exact ⟨rfl,HZ.out⟩
end Go.Proofs.YtpkppobkagdhkaaGreat
namespace Go.Proofs.YtpkppobkagdhkaaGreat
open Go.RowKit
def Wl (w0 w : World) (s : Ws) (S : List Vt) (l : Lb) (k : Fo) (p : Pl) : Prop := ∃ fs,Wk w0 w s fs l k p ∧ toC fs = S
def Come (w0 w : World) (s : Ws) : List Vt → Option Addr → Int → Bool → Prop
 | [],ao,d,y => ao = none ∧ d = 0 ∧ y = false
 | v :: _,ao,d,y => ∃ b off,ao = some ⟨b,off,none⟩ ∧ d = v.1 ∧ y = true ∧ Told6 w0 w s b off v.2.1 v.2.2
theorem Wl.kp {w0 w : World} {s : Ws} {S : List Vt} {l : Lb} {k : Fo} {p : Pl} (h : Wl w0 w s S l k p) : Kp [] w0 w := by
 obtain ⟨fs,h,_⟩ := h
 exact h.b.kp
theorem Wl.new {w0 w : World} {s : Ws} {S : List Vt} {l : Lb} {k : Fo} {p : Pl} (h : Wl w0 w s S l k p) : ∀ x,x ∈ s.own → w0.heap.size ≤ x := by
 obtain ⟨fs,h,_⟩ := h
 exact h.b.new
theorem Wl.lt {w0 w : World} {s : Ws} {S : List Vt} {l : Lb} {k : Fo} {p : Pl} (h : Wl w0 w s S l k p) : ∀ x,x ∈ s.own → x < w.heap.size := by
 obtain ⟨fs,h,_⟩ := h
 exact h.b.lt
theorem Wl.other {w0 w w' : World} {s : Ws} {S : List Vt} {l : Lb} {k : Fo} {p : Pl} (h : Wl w0 w s S l k p) {D : List Nat} (hk : Kp D w w') (h1 : ∀ x,x ∈ D → w0.heap.size ≤ x) (h2 : ∀ x,x ∈ s.own → x ∉ D) : Wl w0 w' s S l k p := by
 obtain ⟨fs,h,h3⟩ := h
 exact ⟨fs,h.other hk h1 h2,h3⟩
theorem Wl.kept {w0 w w' : World} {s : Ws} {S : List Vt} {l : Lb} {k : Fo} {p : Pl} (h : Wl w0 w s S l k p) (hk : Kp [] w w') : Wl w0 w' s S l k p := h.other hk (fun x hx => by simp at hx) (fun x hx => by simp)
theorem Nx.kp {w w' : World} {s : Ws} {v' : Value} (h : Nx w w' s v') : Kp s.own w w' := h.1.mono (fun x hx => Or.inl (by
 simp only [List.mem_cons] at hx
 rcases hx with rfl | rfl | hx
 ·simp [Ws.own]
 ·simp [Ws.own]
 ·simp [Ws.own,hx]))
theorem Nx.own {w w' : World} {s : Ws} {v' : Value} (h : Nx w w' s v') : ∀ x,x ∈ (s.at v').own → x ∈ s.own ∨ w.heap.size ≤ x := fun x hx => by
 simp only [Ws.own,Ws.at,List.mem_cons] at hx ⊢
 rcases hx with h1 | h1 | h1 | h1 | h1 | h1
 ·exact Or.inl (by simp [h1])
 ·exact Or.inl (by simp [h1])
 ·exact Or.inl (by simp [h1])
 ·exact Or.inl (by simp [h1])
 ·exact Or.inl (by simp [h1])
 ·rcases h.2 x h1 with h2 | h2
  ·exact Or.inl (by simp [h2])
  ·exact Or.inr h2
theorem next_c (w0 w : World) (s : Ws) (S : List Vt) (l : Lb) (k : Fo) (p : Pl) (h : Wl w0 w s S l k p) :
  Calls Tryz.prog 45 #[.pointer (some ⟨s.P,0,none⟩)] w fun e w' => ∃ ao d y v',e = .returned (.tuple #[.pointer ao,.int .i64 d,.bool y]) ∧ Wl w0 w' (s.at v') S.tail l k p ∧ Nx w w' s v' ∧ Come w0 w' (s.at v') S ao d y := by
 obtain ⟨fs,h,rfl⟩ := h
 refine (next_any w0 w s fs l k p h).mono ?_
 rintro e w' (⟨h1,rfl,v',h2,h3⟩ | ⟨d,l',k',S,b,off,h1,rfl,h2,v',fs',h3,h4,h5⟩)
 ·rw [h1]
  exact ⟨_,_,_,v',rfl,⟨[],h2,rfl⟩,h3,rfl,rfl,rfl⟩
 ·rw [h1]
  exact ⟨_,_,_,v',rfl,⟨fs',h3,h5⟩,h4,b,off,rfl,rfl,rfl,h2⟩
theorem begin_c (w0 w : World) (l : Lb) (k : Fo) (p : Pl) (k0 : Kp [] w0 w) (h : Nd Any w0 l k p) (hn : k.cnt ≤ 20000) :
  Calls Tryz.prog 44 #[wv l p] w fun e w' => ∃ s,e = .returned (.pointer (some ⟨s.P,0,none⟩)) ∧ Wl w0 w' s ((Fo.cons l k .nil).vis 0) l k p ∧ Kp [] w w' ∧ ∀ x,x ∈ s.own → w.heap.size ≤ x := by
 refine (begin_any w0 w l k p k0 h hn).mono ?_
 rintro e w' ⟨s,fs,rfl,h1,h2,h3,h4⟩
 exact ⟨s,rfl,⟨fs,h1,h2⟩,h3,h4⟩
def yes (S : List Vt) : Bool := !S.isEmpty
def okL (l : Lb) : Prop := l.attrs.length ≤ 8000 ∧ fits l.attrs
def okT (l : Lb) (k : Fo) : Prop := (Fo.cons l k .nil).Each okL ∧ k.cnt ≤ 20000
end Go.Proofs.YtpkppobkagdhkaaGreat
