/-
 Rtd RdC Dec.
-/
import Derived.Test.YtpkppobkagdhkaaGreatB27
set_option linter.unusedVariables false
set_option linter.unusedSimpArgs false
set_option maxRecDepth 100000
set_option maxHeartbeats 1000000
namespace Go.Proofs.YtpkppobkagdhkaaGreat
open Go.RowKit
set_option maxHeartbeats 2000000 in
theorem right_any (w : World) (o : Ot) (p : Sl) (h : Ap w (o,p)) (hl : p.2.1 ≤ 100000) :
  Calls Tryz.prog 38 #[ov o p] w fun e w' => e = .returned (.bool (rightO o)) ∧ Kp [] w w' := by
 rw [← prog_right]
 have k0 : Kp [] w (w.alloc (.cells (oc o p) 24)) := (Kp.refl _ _).alloc _
 have HN := named_any (w.alloc (.cells (oc o p) 24)) o p
 have HS : Hid (∀ W,Kp [] w W → Calls Tryz.prog 64 #[ov o p,ov (onlyO o) (onlyP o p)] W fun e w' => e = .returned (.bool (sameO o (onlyO o))) ∧ Kp [] W w') := fun W k => osame_any W _ _ _ _ (Ap.kept h k) (Ap.kept (only_at h) k) hl (onlyP_le hl)
 have HB : Hid (∀ W,Kp [] (w.alloc (.cells (oc o p) 24)) W → Nine W w.heap.size 0 o p) := fun W k => (nine_of (heap_new w _)).kept k (by simp)
 clear h hl
 generalize onlyO o = x at HN HS ⊢
 generalize onlyP o p = y at HN HS ⊢
 obtain ⟨y1,y2,y3⟩ := y
 obtain ⟨p1,p2,p3⟩ := p
 obtain ⟨o1,o2,o3,o4,o5,o6,o7,o8,o9⟩ := o
 obtain ⟨x1,x2,x3,x4,x5,x6,x7,x8,x9⟩ := x
 have HA : Hid (∀ w1,Kp [] (w.alloc (.cells (oc ⟨o1,o2,o3,o4,o5,o6,o7,o8,o9⟩ (p1,p2,p3)) 24)) w1 → Nine (w1.alloc (.cells (oc ⟨x1,x2,x3,x4,x5,x6,x7,x8,x9⟩ (y1,y2,y3)) 24)) w.heap.size 0 ⟨o1,o2,o3,o4,o5,o6,o7,o8,o9⟩ (p1,p2,p3) ∧ Nine (w1.alloc (.cells (oc ⟨x1,x2,x3,x4,x5,x6,x7,x8,x9⟩ (y1,y2,y3)) 24)) w1.heap.size 0 ⟨x1,x2,x3,x4,x5,x6,x7,x8,x9⟩ (y1,y2,y3) ∧ Kp [] w (w1.alloc (.cells (oc ⟨x1,x2,x3,x4,x5,x6,x7,x8,x9⟩ (y1,y2,y3)) 24))) := fun w1 k1 => ⟨HB.out _ (k1.alloc _),nine_of (heap_new w1 _),(k0.trans k1 (fun z hz => Or.inl hz)).alloc _⟩
 have HB2 : Hid (∀ w1 w2,Kp [] (w.alloc (.cells (oc ⟨o1,o2,o3,o4,o5,o6,o7,o8,o9⟩ (p1,p2,p3)) 24)) w1 → Kp [] (w1.alloc (.cells (oc ⟨x1,x2,x3,x4,x5,x6,x7,x8,x9⟩ (y1,y2,y3)) 24)) w2 → Nine w2 w.heap.size 0 ⟨o1,o2,o3,o4,o5,o6,o7,o8,o9⟩ (p1,p2,p3) ∧ Kp [] w w2) := fun w1 w2 k1 k2 => ⟨HB.out _ ((k1.alloc _).trans k2 (fun z hz => Or.inl hz)),((k0.trans k1 (fun z hz => Or.inl hz)).alloc _).trans k2 (fun z hz => Or.inl hz)⟩
 clear HB k0
 simp only [oc,ov,Nine] at HN HS HA HB2 ⊢
 generalize sameO ⟨o1,o2,o3,o4,o5,o6,o7,o8,o9⟩ ⟨x1,x2,x3,x4,x5,x6,x7,x8,x9⟩ = S at HS ⊢
 generalize kk o1 = K at HN ⊢
 cases c0 : K
 ·skip
  go_enter Tryz.func38,Tryz.ntmps38
  go_wp2_with (first | (go_at_call 63; refine HN.mono ?_; rintro e w1 ⟨rfl,k1⟩; obtain ⟨⟨f0,f1,f2,f3,f4,f5,f6,f7,f8⟩,⟨g0,g1,g2,g3,g4,g5,g6,g7,g8⟩,kz⟩ := HA.out w1 k1) | (go_at_call 65; refine same_of (isnum_any _ _) ?_) | (go_at_call 66; refine same_of (ismade_any _ _) ?_))
  go_ret
  exact ⟨by simp [c0],kz⟩
 cases c1 : S
 ·skip
  go_enter Tryz.func38,Tryz.ntmps38
  go_wp2_with (first | (go_at_call 63; refine HN.mono ?_; rintro e w1 ⟨rfl,k1⟩; obtain ⟨⟨f0,f1,f2,f3,f4,f5,f6,f7,f8⟩,⟨g0,g1,g2,g3,g4,g5,g6,g7,g8⟩,kz⟩ := HA.out w1 k1) | (go_at_call 64; refine (HS.out _ kz).mono ?_; rintro e w2 ⟨rfl,k2⟩; obtain ⟨⟨l0,l1,l2,l3,l4,l5,l6,l7,l8⟩,ky⟩ := HB2.out w1 w2 k1 k2) | (go_at_call 65; refine same_of (isnum_any _ _) ?_) | (go_at_call 66; refine same_of (ismade_any _ _) ?_))
  go_ret
  exact ⟨by simp [c0,c1],ky⟩
 cases c2 : (inR o2)
 ·skip
  go_enter Tryz.func38,Tryz.ntmps38
  go_wp2_with (first | (go_at_call 63; refine HN.mono ?_; rintro e w1 ⟨rfl,k1⟩; obtain ⟨⟨f0,f1,f2,f3,f4,f5,f6,f7,f8⟩,⟨g0,g1,g2,g3,g4,g5,g6,g7,g8⟩,kz⟩ := HA.out w1 k1) | (go_at_call 64; refine (HS.out _ kz).mono ?_; rintro e w2 ⟨rfl,k2⟩; obtain ⟨⟨l0,l1,l2,l3,l4,l5,l6,l7,l8⟩,ky⟩ := HB2.out w1 w2 k1 k2) | (go_at_call 65; refine same_of (isnum_any _ _) ?_) | (go_at_call 66; refine same_of (ismade_any _ _) ?_))
  go_ret
  exact ⟨by simp [c0,c1,c2],ky⟩
 cases c3 : (inR o3)
 ·skip
  go_enter Tryz.func38,Tryz.ntmps38
  go_wp2_with (first | (go_at_call 63; refine HN.mono ?_; rintro e w1 ⟨rfl,k1⟩; obtain ⟨⟨f0,f1,f2,f3,f4,f5,f6,f7,f8⟩,⟨g0,g1,g2,g3,g4,g5,g6,g7,g8⟩,kz⟩ := HA.out w1 k1) | (go_at_call 64; refine (HS.out _ kz).mono ?_; rintro e w2 ⟨rfl,k2⟩; obtain ⟨⟨l0,l1,l2,l3,l4,l5,l6,l7,l8⟩,ky⟩ := HB2.out w1 w2 k1 k2) | (go_at_call 65; refine same_of (isnum_any _ _) ?_) | (go_at_call 66; refine same_of (ismade_any _ _) ?_))
  go_ret
  exact ⟨by simp [c0,c1,c2,c3],ky⟩
 cases c4 : (inR o4)
 ·skip
  go_enter Tryz.func38,Tryz.ntmps38
  go_wp2_with (first | (go_at_call 63; refine HN.mono ?_; rintro e w1 ⟨rfl,k1⟩; obtain ⟨⟨f0,f1,f2,f3,f4,f5,f6,f7,f8⟩,⟨g0,g1,g2,g3,g4,g5,g6,g7,g8⟩,kz⟩ := HA.out w1 k1) | (go_at_call 64; refine (HS.out _ kz).mono ?_; rintro e w2 ⟨rfl,k2⟩; obtain ⟨⟨l0,l1,l2,l3,l4,l5,l6,l7,l8⟩,ky⟩ := HB2.out w1 w2 k1 k2) | (go_at_call 65; refine same_of (isnum_any _ _) ?_) | (go_at_call 66; refine same_of (ismade_any _ _) ?_))
  go_ret
  exact ⟨by simp [c0,c1,c2,c3,c4],ky⟩
 by_cases c5 : 0 ≤ o6
 ·skip
  by_cases c6 : o6 ≤ 2
  ·skip
   cases c7 : (o1 != 1)
   ·skip
    cases c8 : (mk3 o5)
    ·skip
     go_enter Tryz.func38,Tryz.ntmps38
     go_wp2_with (first | (go_at_call 63; refine HN.mono ?_; rintro e w1 ⟨rfl,k1⟩; obtain ⟨⟨f0,f1,f2,f3,f4,f5,f6,f7,f8⟩,⟨g0,g1,g2,g3,g4,g5,g6,g7,g8⟩,kz⟩ := HA.out w1 k1) | (go_at_call 64; refine (HS.out _ kz).mono ?_; rintro e w2 ⟨rfl,k2⟩; obtain ⟨⟨l0,l1,l2,l3,l4,l5,l6,l7,l8⟩,ky⟩ := HB2.out w1 w2 k1 k2) | (go_at_call 65; refine same_of (isnum_any _ _) ?_) | (go_at_call 66; refine same_of (ismade_any _ _) ?_))
     go_ret
     exact ⟨by simp [c0,c1,c2,c3,c4,c5,c6,c7,c8],ky⟩
    go_enter Tryz.func38,Tryz.ntmps38
    go_wp2_with (first | (go_at_call 63; refine HN.mono ?_; rintro e w1 ⟨rfl,k1⟩; obtain ⟨⟨f0,f1,f2,f3,f4,f5,f6,f7,f8⟩,⟨g0,g1,g2,g3,g4,g5,g6,g7,g8⟩,kz⟩ := HA.out w1 k1) | (go_at_call 64; refine (HS.out _ kz).mono ?_; rintro e w2 ⟨rfl,k2⟩; obtain ⟨⟨l0,l1,l2,l3,l4,l5,l6,l7,l8⟩,ky⟩ := HB2.out w1 w2 k1 k2) | (go_at_call 65; refine same_of (isnum_any _ _) ?_) | (go_at_call 66; refine same_of (ismade_any _ _) ?_))
    go_ret
    exact ⟨by simp [c0,c1,c2,c3,c4,c5,c6,c7,c8],ky⟩
   go_enter Tryz.func38,Tryz.ntmps38
   go_wp2_with (first | (go_at_call 63; refine HN.mono ?_; rintro e w1 ⟨rfl,k1⟩; obtain ⟨⟨f0,f1,f2,f3,f4,f5,f6,f7,f8⟩,⟨g0,g1,g2,g3,g4,g5,g6,g7,g8⟩,kz⟩ := HA.out w1 k1) | (go_at_call 64; refine (HS.out _ kz).mono ?_; rintro e w2 ⟨rfl,k2⟩; obtain ⟨⟨l0,l1,l2,l3,l4,l5,l6,l7,l8⟩,ky⟩ := HB2.out w1 w2 k1 k2) | (go_at_call 65; refine same_of (isnum_any _ _) ?_) | (go_at_call 66; refine same_of (ismade_any _ _) ?_))
   go_ret
   exact ⟨by simp [c0,c1,c2,c3,c4,c5,c6,c7],ky⟩
  ·skip
   go_enter Tryz.func38,Tryz.ntmps38
   go_wp2_with (first | (go_at_call 63; refine HN.mono ?_; rintro e w1 ⟨rfl,k1⟩; obtain ⟨⟨f0,f1,f2,f3,f4,f5,f6,f7,f8⟩,⟨g0,g1,g2,g3,g4,g5,g6,g7,g8⟩,kz⟩ := HA.out w1 k1) | (go_at_call 64; refine (HS.out _ kz).mono ?_; rintro e w2 ⟨rfl,k2⟩; obtain ⟨⟨l0,l1,l2,l3,l4,l5,l6,l7,l8⟩,ky⟩ := HB2.out w1 w2 k1 k2) | (go_at_call 65; refine same_of (isnum_any _ _) ?_) | (go_at_call 66; refine same_of (ismade_any _ _) ?_))
   go_ret
   exact ⟨(by simp [c0,c1,c2,c3,c4,c5,c6]; intros; omega),ky⟩
 ·skip
  go_enter Tryz.func38,Tryz.ntmps38
  go_wp2_with (first | (go_at_call 63; refine HN.mono ?_; rintro e w1 ⟨rfl,k1⟩; obtain ⟨⟨f0,f1,f2,f3,f4,f5,f6,f7,f8⟩,⟨g0,g1,g2,g3,g4,g5,g6,g7,g8⟩,kz⟩ := HA.out w1 k1) | (go_at_call 64; refine (HS.out _ kz).mono ?_; rintro e w2 ⟨rfl,k2⟩; obtain ⟨⟨l0,l1,l2,l3,l4,l5,l6,l7,l8⟩,ky⟩ := HB2.out w1 w2 k1 k2) | (go_at_call 65; refine same_of (isnum_any _ _) ?_) | (go_at_call 66; refine same_of (ismade_any _ _) ?_))
  go_ret
  exact ⟨(by simp [c0,c1,c2,c3,c4,c5]; intros; omega),ky⟩
end Go.Proofs.YtpkppobkagdhkaaGreat
namespace Go.Proofs.YtpkppobkagdhkaaGreat
open Go.RowKit Go.Maps Utf
theorem Made.join {w w1 : World} {ao : Option Addr} {n c : Nat} {xs : List Value} (h : Made w w1 3 ao n c xs) (ha : ao ≠ none) (src : Value) (m : Nat) (news : List Value) (hs : Src Tryz.prog 1 61 src m news w1) (hlen : xs.length + m ≤ 1000000) :
  ∃ a' n' c' w2,(∀ ty,(Builtin.append_ #[61,61] ty #[.slice ao n c,src]).run Tryz.prog w1 = .ok (.slice (some a') n' c') w2) ∧ Made w w2 3 (some a') n' c' (xs ++ news) ∧ Kp (blk (.slice ao n c)) w1 w2 ∧ ∀ k,k ∈ blk (.slice (some a') n' c') → k ∈ blk (.slice ao n c) ∨ k = w1.heap.size := by
 obtain ⟨h1,h2,h3⟩ := h
 obtain ⟨v',w2,hrun,o2,k2,b2,a2,c2,rfl⟩ := app_any Tryz.underlying61 infoI1 rfl (by decide) w1 _ _ h1 src m news hs (fun e => by cases e; exact absurd rfl ha) hlen
 refine ⟨_,_,_,w2,hrun,⟨o2,h2.trans k2 (fun x hx => Or.inr (h3 x hx)),fun k hk => ?_⟩,k2,b2⟩
 rcases b2 k hk with h4 | h4
 ·exact h3 k h4
 ·have := h2.size
  omega
theorem Rk.drop1 {Q : Nat → Prop} {w : World} {b off n c : Nat} {xs : List Value} (h : Rk Q 1 w (some ⟨b,off,none⟩) n c xs) (k : Nat) (hk : k ≤ n) : Rk Q 1 w (some ⟨b,off + k,none⟩) (n - k) (c - k) (xs.drop k) := by
 refine ⟨by rw [List.length_drop,h.len]; omega,by have := h.cap; omega,fun hn => ?_⟩
 obtain ⟨b',off',cur,e,hq,e1,e2,e3⟩ := h.at' (by omega)
 simp only [Option.some.injEq,Addr.mk.injEq] at e1
 obtain ⟨rfl,rfl,_⟩ := e1
 refine ⟨b,off + k,cur,e,hq,rfl,e2,fun j hj => ?_⟩
 rw [Nat.add_assoc,e3 (k + j) (by omega),List.getElem?_drop]
theorem iv_one (l : List Nat) : ∀ u,u ∈ iv l → u.oneCell' = true := fun u hu => by
 obtain ⟨x,_,rfl⟩ := List.mem_map.1 hu
 rfl
theorem Rk.drop2 {Q : Nat → Prop} {w : World} {b off n c : Nat} {xs : List Value} (h : Rk Q 1 w (some ⟨b,off,none⟩) n c xs) (k : Nat) (hk : k ≤ n) : Rk Q 1 w (if c = k then some ⟨b,off,none⟩ else some ⟨b,off + k,none⟩) (n - k) (c - k) (xs.drop k) := by
 by_cases e : c = k
 ·have hc := h.cap
  have hl := h.len
  have h0 : n - k = 0 := by omega
  rw [if_pos e,h0,show xs.drop k = [] from List.drop_eq_nil_of_le (by omega)]
  exact Rk.nil _ _ _ _ _
 ·rw [if_neg e]; exact h.drop1 k hk
theorem rk_lit {U : World} {g : Nat} {u : Value} {e : TypeId} (h : At U g #[u] e) : Rk Any 1 U (some ⟨g,0,none⟩) 1 1 [u] :=
 ⟨rfl,Nat.le_refl _,fun _ => ⟨g,0,_,e,trivial,rfl,h,fun j hj => by have : j = 0 := (by omega); subst this; rfl⟩⟩
section
variable {tag : Nat → Nat} {w : World} {d g o c : Nat} {q : Bool} {A : Ar} {pl : Nat → Dp}
theorem Dd.set {A' : Ar} {pl' : Nat → Dp} (h : Dd tag w d g o c q A pl) {i k : Nat} (hi : i < A.n) (hk : k < 7) (u : Value) (hA : A'.n = A.n) (he : dl (A'.lb i) (Ar.upI (A'.up i)) (pl' i) = (dl (A.lb i) (Ar.upI (A.up i)) (pl i)).set k u)
  (hN : ∀ j,j < A.n → j ≠ i → dl (A'.lb j) (Ar.upI (A'.up j)) (pl' j) = dl (A.lb j) (Ar.upI (A.up j)) (pl j))
  (hat : ∀ j,j < A.n → Rk (Q5 tag) 2 w (pl' j).1.1 (pl' j).1.2.1 (pl' j).1.2.2 (cs (A'.lb j).attrs)) (hki : ∀ j,j < A.n → Rk (Q5 tag) 1 w (pl' j).2.1 (pl' j).2.2.1 (pl' j).2.2.2 (iv (A'.kids j)))
  (hkf : ∀ j,j < A.n → (pl' j).2 = (none,0,0) ∨ ∃ b7 o7,(pl' j).2.1 = some ⟨b7,o7,none⟩) :
  Dd tag (w.setCell ⟨g,o + i * 7 + k,none⟩ u) d g o c q A' pl' := by
 have hne := h.ne
 obtain ⟨cur,h1,h2,h3⟩ := h.body
 have k1 : Kp [g] w (w.setCell ⟨g,o + i * 7 + k,none⟩ u) := (Kp.refl _ _).setCell (Or.inl (by simp)) _
 have hs : Sm (Q5 tag) w (w.setCell ⟨g,o + i * 7 + k,none⟩ u) := k1.sms (fun x hq hx => by rw [List.mem_singleton.1 hx] at hq; have := h.tg; omega)
 refine ⟨by rw [hA]; exact h.hd.kept k1 (by simpa using hne),h.td,by rw [hA]; exact h.cap,h.max,⟨_,h1.set _ u,by simpa using h2,fun j hj l hl => ?_⟩,h.tg,fun j hj => (hat j (by omega)).keep hs,fun j hj => (hki j (by omega)).keep hs,fun j hj => hkf j (by omega)⟩
 rw [hA] at hj
 rw [Array.getElem?_setIfInBounds]
 have hcap := h.cap
 have hm : i * 7 + 7 ≤ c * 7 := by omega
 by_cases hjl : o + i * 7 + k = o + j * 7 + l
 ·obtain ⟨rfl,rfl⟩ : i = j ∧ k = l := by omega
  rw [if_pos rfl,if_pos (by omega),he,List.getElem?_set_self (by rw [dl_len]; exact hk)]
 ·rw [if_neg hjl]
  by_cases hji : j = i
  ·subst hji
   rw [he,List.getElem?_set_ne (fun e => hjl (by rw [e])),h3 j hj l hl]
  ·rw [hN j hj hji,h3 j hj l hl]
def tg5 (tag : Nat → Nat) (w : World) : Nat → Nat := fun b => if b < w.heap.size then tag b else 5
theorem tg5_lt {b : Nat} (hb : b < w.heap.size) : tg5 tag w b = tag b := if_pos hb
theorem Dd.fresh {U : World} (h : Dd tag w d g o c q A pl) (k : Kp [] w U) : Dd (tg5 tag w) U d g o c q A pl := h.sm (fun x hx _ => k.block x hx (by simp)) (fun x hx => tg5_lt hx)
theorem Made.rk5 {U : World} {ao : Option Addr} {n c : Nat} {l : List Nat} (h : Made w U 3 ao n c (iv l)) : Rk (Q5 (tg5 tag w)) 1 U ao n c (iv l) := by
 have hl := h.rb.len
 have hc := h.rb.cap
 obtain ⟨h1,h2,h3⟩ := h
 refine ⟨by omega,hc,fun hn => ?_⟩
 rcases h1 with ⟨e1,e2⟩ | ⟨g',o',cap,cur,e1,e2,e3,e4,e5,e6⟩
 ·cases e1; omega
 ·cases e1
  exact ⟨g',o',cur,3,if_neg (by have := h3 g' (by simp [blk]); omega),rfl,e2,fun j hj => e6 j (by omega)⟩
theorem Dd.kids {U : World} {a : Addr} {n' c' : Nat} {l : List Nat} (h : Dd tag w d g o c q A pl) (M : Made w U 3 (some a) n' c' (iv l)) {p x : Nat} (hp : p < A.n) (hx : x < A.n) (up : Option Nat) :
  ∃ pl',Dd (tg5 tag w) (U.setCell ⟨g,o + p * 7 + 5,none⟩ (.slice (some a) n' c')) d g o c q { A with kids := fun y => if y = p then l else A.kids y } pl' ∧ Dd (tg5 tag w) ((U.setCell ⟨g,o + p * 7 + 5,none⟩ (.slice (some a) n' c')).setCell ⟨g,o + x * 7 + 6,none⟩ (.int .i64 (Ar.upI up))) d g o c q { A with kids := fun y => if y = p then l else A.kids y,up := fun y => if y = x then up else A.up y } pl' := by
 have h1 := h.fresh M.2.1
 have hr := M.rk5 (tag := tag)
 have hsp : ∃ b7 o7,a = ⟨b7,o7,none⟩ := by
  rcases M.1 with ⟨e1,_⟩ | ⟨g',o',cap,cur,e1,_⟩
  ·cases e1
  ·cases e1; exact ⟨_,_,rfl⟩
 obtain ⟨P,hP⟩ : ∃ P : Nat → Dp,P = fun y => if y = p then ((pl p).1,(some a,n',c')) else pl y := ⟨_,rfl⟩
 have Pp : P p = ((pl p).1,(some a,n',c')) := by rw [hP]; simp
 have Pn : ∀ j,j ≠ p → P j = pl j := fun j hj => by rw [hP]; simp [hj]
 have e1 : ∀ j,(P j).1 = (pl j).1 := fun j => by
  by_cases e : j = p
  ·rw [e,Pp]
  ·rw [Pn j e]
 have h2 : Dd (tg5 tag w) (U.setCell ⟨g,o + p * 7 + 5,none⟩ (.slice (some a) n' c')) d g o c q { A with kids := fun y => if y = p then l else A.kids y } P := by
  refine h1.set (A' := { A with kids := fun y => if y = p then l else A.kids y }) hp (by omega) _ rfl ?_ (fun j hj hne => ?_) (fun j hj => ?_) (fun j hj => ?_) (fun j hj => ?_)
  ·show dl (A.lb p) (Ar.upI (A.up p)) (P p) = _
   rw [Pp]; rfl
  ·show dl (A.lb j) (Ar.upI (A.up j)) (P j) = _
   rw [Pn j hne]
  ·rw [e1 j]; exact h1.att j hj
  ·show Rk _ 1 _ _ _ _ (iv (if j = p then l else A.kids j))
   by_cases e : j = p
   ·subst e; rw [Pp,if_pos rfl]; exact hr
   ·rw [Pn j e,if_neg e]; exact h1.kid j hj
  ·by_cases e : j = p
   ·subst e
    obtain ⟨b7,o7,ha⟩ := hsp
    rw [Pp]; exact .inr ⟨b7,o7,by rw [ha]⟩
   ·rw [Pn j e]; exact h1.kf j hj
 refine ⟨P,h2,h2.set (A' := { A with kids := fun y => if y = p then l else A.kids y,up := fun y => if y = x then up else A.up y }) hx (by omega) _ rfl ?_ (fun j hj hne => ?_) h2.att h2.kid h2.kf⟩
 ·show dl (A.lb x) (Ar.upI (if x = x then up else A.up x)) (P x) = (dl (A.lb x) (Ar.upI (A.up x)) (P x)).set 6 _
  rw [if_pos rfl]; rfl
 ·show dl (A.lb j) (Ar.upI (if j = x then up else A.up j)) (P j) = dl (A.lb j) (Ar.upI (A.up j)) (P j)
  rw [if_neg hne]
end
end Go.Proofs.YtpkppobkagdhkaaGreat
namespace Go.Proofs.YtpkppobkagdhkaaGreat
open Go.RowKit Utf
abbrev St := List Int × Bool
def tk (n : Nat) (s : St) : List Int × St := if s.1.length < n then ([],([],true)) else (s.1.take n,(s.1.drop n,s.2))
def nv16 (l : List Int) : Int := l.foldl (fun a c => a * 256 + c) 0
def rdN (n : Nat) (s : St) : Int × St := (nv16 (tk n s).1,(tk n s).2)
def rdT (s : St) : ByteArray × St := (strOfNums (tk (rdN 3 s).1.toNat (rdN 3 s).2).1,(tk (rdN 3 s).1.toNat (rdN 3 s).2).2)
def rdA : Nat → St → List Att × St
 | 0,s => ([],s)
 | c + 1,s => if s.2 then ([],s) else ((((rdT s).1,(rdT (rdT s).2).1) :: (rdA c (rdT (rdT s).2).2).1),(rdA c (rdT (rdT s).2).2).2)
def rdAs (s : St) : List Att × St := rdA (rdN 2 s).1.toNat (rdN 2 s).2
def s1 (s : St) : St := (rdN 1 s).2
def s2 (s : St) : St := (rdN 4 (s1 s)).2
def s3 (s : St) : St := (rdN 4 (s2 s)).2
def s4 (s : St) : St := (rdN 4 (s3 s)).2
def s5 (s : St) : St := (rdN 1 (s4 s)).2
def s6 (s : St) : St := (rdN 1 (s5 s)).2
def s7 (s : St) : St := (rdT (s6 s)).2
def s8 (s : St) : St := (rdAs (s7 s)).2
def s9 (s : St) : St := (rdT (s8 s)).2
def rdO (s : St) : Ot := ⟨(rdN 1 s).1,(rdN 4 (s1 s)).1,(rdN 4 (s2 s)).1,(rdN 4 (s3 s)).1,(rdN 1 (s4 s)).1,(rdN 1 (s5 s)).1,(rdT (s6 s)).1,(rdAs (s7 s)).1,(rdT (s8 s)).1⟩
theorem tk_no {n : Nat} {s : St} (h : (tk n s).2.2 = false) : s.2 = false ∧ s.1 = (tk n s).1 ++ (tk n s).2.1 ∧ (tk n s).1.length = n := by
 unfold tk at h ⊢
 split at h
 ·cases h
 ·rename_i hn
  rw [if_neg hn]
  exact ⟨h,(List.take_append_drop n s.1).symm,by simp; omega⟩
theorem tk_yes {n : Nat} {l r : List Int} {c : Bool} (h : l.length = n) : tk n (l ++ r,c) = (l,(r,c)) := by
 unfold tk
 rw [if_neg (by simp; omega)]
 subst h
 simp
theorem nv_snoc (l : List Int) (c : Int) : nv16 (l ++ [c]) = nv16 l * 256 + c := by
 unfold nv16
 rw [List.foldl_append]
 rfl
theorem nb_snoc (n : Int) : ∀ k,nb n (k + 1) = nb (n / 256) k ++ [n % 256]
 | 0 => by simp [nb]
 | k + 1 => by
   have ih := nb_snoc n k
   rw [nb,ih]
   simp only [nb,List.cons_append]
   congr 1
   rw [Int.pow_succ,Int.mul_comm,Int.ediv_ediv_of_nonneg (by decide)]
theorem nv_nb : ∀ (k : Nat) (n : Int),0 ≤ n → n < 256 ^ k → nv16 (nb n k) = n
 | 0,n,h0,h1 => by
   simp at h1
   have : n = 0 := by omega
   subst this
   rfl
 | k + 1,n,h0,h1 => by
   rw [nb_snoc,nv_snoc,nv_nb k (n / 256) (by omega) (by rw [Int.pow_succ] at h1; omega)]
   omega
theorem snoc_ind {P : List Int → Prop} (h0 : P []) (h1 : ∀ l c,P l → P (l ++ [c])) (l : List Int) : P l := by
 have key : ∀ (n : Nat) (l : List Int),l.length = n → P l := by
  intro n
  induction n with
  | zero => intro l hl; rw [List.eq_nil_of_length_eq_zero hl]; exact h0
  | succ n ih =>
    intro l hl
    have hne : l ≠ [] := fun e => by rw [e] at hl; simp at hl
    rw [← List.dropLast_concat_getLast hne]
    exact h1 _ _ (ih _ (by simp; omega))
 exact key _ l rfl
theorem nv_range : ∀ (l : List Int),byt l → 0 ≤ nv16 l ∧ nv16 l < 256 ^ l.length := by
 refine snoc_ind (fun _ => by decide) (fun l c ih hb => ?_)
 ·skip
  have h1 := ih (fun x hx => hb x (by simp [hx]))
  have h2 := hb c (by simp)
  rw [nv_snoc,List.length_append]
  simp only [List.length_singleton]
  rw [Int.pow_succ]
  omega
theorem nb_nv : ∀ (l : List Int),byt l → nb (nv16 l) l.length = l := by
 refine snoc_ind (fun _ => rfl) (fun l c ih hb => ?_)
 ·skip
  have h1 := ih (fun x hx => hb x (by simp [hx]))
  have h2 := hb c (by simp)
  rw [nv_snoc,List.length_append]
  simp only [List.length_singleton]
  rw [nb_snoc,show (nv16 l * 256 + c) / 256 = nv16 l by omega,show (nv16 l * 256 + c) % 256 = c by omega,h1]
theorem rdN_no {n : Nat} {s : St} (h : (rdN n s).2.2 = false) (hb : byt s.1) : s.2 = false ∧ s.1 = nb (rdN n s).1 n ++ (rdN n s).2.1 ∧ (0 ≤ (rdN n s).1 ∧ (rdN n s).1 < 256 ^ n) ∧ byt (rdN n s).2.1 := by
 obtain ⟨h1,h2,h3⟩ := tk_no h
 have hb1 : byt (tk n s).1 := fun x hx => hb x (by rw [h2]; simp [hx])
 have hb2 : byt (tk n s).2.1 := fun x hx => hb x (by rw [h2]; simp [hx])
 have e1 := nb_nv _ hb1
 have e2 := nv_range _ hb1
 rw [h3] at e1 e2
 refine ⟨h1,?_,e2,hb2⟩
 show s.1 = nb (nv16 (tk n s).1) n ++ (tk n s).2.1
 rw [e1]
 exact h2
theorem str_size (l : List Int) : (strOfNums l).size = l.length := by
 have : (strOfNums l).data.toList.length = l.length := by rw [strOfNums_data]; simp
 simpa using this
theorem rdT_no {s : St} (h : (rdT s).2.2 = false) (hb : byt s.1) : s.2 = false ∧ s.1 = tb (rdT s).1 ++ (rdT s).2.1 ∧ (rdT s).1.size ≤ 16777215 ∧ byt (rdT s).2.1 := by
 obtain ⟨h1,h2,h3⟩ := tk_no h
 obtain ⟨g1,g2,⟨g3,g4⟩,g5⟩ := rdN_no h1 hb
 have hb1 : byt (tk (rdN 3 s).1.toNat (rdN 3 s).2).1 := fun x hx => g5 x (by rw [h2]; simp [hx])
 have hb2 : byt (tk (rdN 3 s).1.toNat (rdN 3 s).2).2.1 := fun x hx => g5 x (by rw [h2]; simp [hx])
 have hsz : ((rdT s).1.size : Int) = (rdN 3 s).1 := by
  show ((strOfNums _).size : Int) = _
  rw [str_size,h3]
  omega
 refine ⟨g1,?_,by have : ((256 : Int) ^ 3) = 16777216 := by decide
                  omega,hb2⟩
 unfold tb
 rw [hsz,show bytesOf (rdT s).1 = (tk (rdN 3 s).1.toNat (rdN 3 s).2).1 from bytes_strs hb1,List.append_assoc]
 rw [g2]
 congr 1
theorem rdN_cut (n : Nat) (s : St) (h : (rdN n s).2.2 = false) : s.2 = false := (tk_no (n := n) (s := s) h).1
theorem rdT_cut (s : St) (h : (rdT s).2.2 = false) : s.2 = false := rdN_cut 3 s (tk_no (n := (rdN 3 s).1.toNat) (s := (rdN 3 s).2) h).1
theorem rdA_no : ∀ (c : Nat) (s : St),byt s.1 → (rdA c s).2.2 = false → s.2 = false ∧ s.1 = ab (rdA c s).1 ++ (rdA c s).2.1 ∧ (rdA c s).1.length = c ∧ fitA (rdA c s).1 ∧ byt (rdA c s).2.1
 | 0,s,hb,h => ⟨h,rfl,rfl,fun a ha => by simp [rdA] at ha,hb⟩
 | c + 1,s,hb,h => by
   unfold rdA at h ⊢
   by_cases hs : s.2 = true
   ·rw [if_pos hs] at h
    rw [hs] at h
    cases h
   ·rw [if_neg hs] at h ⊢
    have h0 : s.2 = false := by simpa using hs
    have hc : (rdT (rdT s).2).2.2 = false := by
     cases hx : (rdT (rdT s).2).2.2 with
     | false => rfl
     | true =>
       exfalso
       cases c with
       | zero => rw [rdA] at h; rw [hx] at h; cases h
       | succ c => rw [rdA,if_pos hx,hx] at h; cases h
    have hc1 : (rdT s).2.2 = false := by
     cases hx : (rdT s).2.2 with
     | false => rfl
     | true =>
       exfalso
       have := rdT_cut _ hc
       rw [hx] at this
       cases this
    obtain ⟨a1,a2,a3,a4⟩ := rdT_no hc1 hb
    obtain ⟨b1,b2,b3,b4⟩ := rdT_no hc a4
    obtain ⟨d1,d2,d3,d4,d5⟩ := rdA_no c _ b4 h
    refine ⟨h0,?_,by simp [d3],fun x hx => ?_,d5⟩
    ·simp only [ab,List.append_assoc]
     rw [← d2,← b2]
     exact a2
    ·rcases List.mem_cons.1 hx with rfl | hx
     ·exact ⟨a3,b3⟩
     ·exact d4 x hx
theorem rdAs_no {s : St} (h : (rdAs s).2.2 = false) (hb : byt s.1) : s.2 = false ∧ s.1 = nb (rdAs s).1.length 2 ++ (ab (rdAs s).1 ++ (rdAs s).2.1) ∧ (rdAs s).1.length ≤ 65535 ∧ fitA (rdAs s).1 ∧ byt (rdAs s).2.1 := by
 have hc : (rdN 2 s).2.2 = false := by
  cases hx : (rdN 2 s).2.2 with
  | false => rfl
  | true =>
    exfalso
    unfold rdAs at h
    cases hn : (rdN 2 s).1.toNat with
    | zero => rw [hn,rdA,hx] at h; cases h
    | succ c => rw [hn,rdA,if_pos hx,hx] at h; cases h
 obtain ⟨g1,g2,⟨g3,g4⟩,g5⟩ := rdN_no hc hb
 obtain ⟨d1,d2,d3,d4,d5⟩ := rdA_no _ _ g5 h
 have e : ((rdAs s).1.length : Int) = (rdN 2 s).1 := by
  have : (rdAs s).1.length = (rdN 2 s).1.toNat := d3
  omega
 refine ⟨g1,?_,by have : ((256 : Int) ^ 2) = 65536 := by decide
                  omega,d4,d5⟩
 rw [e,g2]
 congr 1
theorem rdAs_cut (s : St) (h : (rdAs s).2.2 = false) : s.2 = false := by
 cases hx : s.2 with
 | false => rfl
 | true =>
   exfalso
   unfold rdAs at h
   have e : (rdN 2 s).2.2 = true := by
    cases hy : (rdN 2 s).2.2 with
    | true => rfl
    | false =>
      have := rdN_cut 2 s hy
      rw [hx] at this
      cases this
   cases hn : (rdN 2 s).1.toNat with
   | zero => rw [hn,rdA,e] at h; cases h
   | succ c => rw [hn,rdA,if_pos e,e] at h; cases h
theorem rdO_no {s : St} (h : (s9 s).2 = false) (hb : byt s.1) : s.2 = false ∧ s.1 = ob (rdO s) ++ (s9 s).1 ∧ fitO (rdO s) ∧ byt (s9 s).1 := by
 have dO : rdO s = ⟨(rdN 1 s).1,(rdN 4 (s1 s)).1,(rdN 4 (s2 s)).1,(rdN 4 (s3 s)).1,(rdN 1 (s4 s)).1,(rdN 1 (s5 s)).1,(rdT (s6 s)).1,(rdAs (s7 s)).1,(rdT (s8 s)).1⟩ := by unfold rdO; rfl
 have d1 : s1 s = (rdN 1 s).2 := by unfold s1; rfl
 have d2 : s2 s = (rdN 4 (s1 s)).2 := by unfold s2; rfl
 have d3 : s3 s = (rdN 4 (s2 s)).2 := by unfold s3; rfl
 have d4 : s4 s = (rdN 4 (s3 s)).2 := by unfold s4; rfl
 have d5 : s5 s = (rdN 1 (s4 s)).2 := by unfold s5; rfl
 have d6 : s6 s = (rdN 1 (s5 s)).2 := by unfold s6; rfl
 have d7 : s7 s = (rdT (s6 s)).2 := by unfold s7; rfl
 have d8 : s8 s = (rdAs (s7 s)).2 := by unfold s8; rfl
 have d9 : s9 s = (rdT (s8 s)).2 := by unfold s9; rfl
 rw [dO]
 clear dO
 generalize s9 s = t9 at h d9 ⊢
 generalize s8 s = t8 at d9 d8 ⊢
 generalize s7 s = t7 at d8 d7 ⊢
 generalize s6 s = t6 at d7 d6 ⊢
 generalize s5 s = t5 at d6 d5 ⊢
 generalize s4 s = t4 at d5 d4 ⊢
 generalize s3 s = t3 at d4 d3 ⊢
 generalize s2 s = t2 at d3 d2 ⊢
 generalize s1 s = t1 at d2 d1 ⊢
 rw [d9] at h
 have c8 := rdT_cut t8 h
 have u8 : (rdAs t7).2.2 = false := by rw [← d8]; exact c8
 have c7 := rdAs_cut t7 u8
 have u7 : (rdT t6).2.2 = false := by rw [← d7]; exact c7
 have c6 := rdT_cut t6 u7
 have u6 : (rdN 1 t5).2.2 = false := by rw [← d6]; exact c6
 have c5 := rdN_cut 1 t5 u6
 have u5 : (rdN 1 t4).2.2 = false := by rw [← d5]; exact c5
 have c4 := rdN_cut 1 t4 u5
 have u4 : (rdN 4 t3).2.2 = false := by rw [← d4]; exact c4
 have c3 := rdN_cut 4 t3 u4
 have u3 : (rdN 4 t2).2.2 = false := by rw [← d3]; exact c3
 have c2 := rdN_cut 4 t2 u3
 have u2 : (rdN 4 t1).2.2 = false := by rw [← d2]; exact c2
 have c1 := rdN_cut 4 t1 u2
 have u1 : (rdN 1 s).2.2 = false := by rw [← d1]; exact c1
 obtain ⟨z1,a1,_,b1⟩ := rdN_no u1 hb
 rw [← d1] at a1 b1
 obtain ⟨_,a2,_,b2⟩ := rdN_no u2 b1
 rw [← d2] at a2 b2
 obtain ⟨_,a3,_,b3⟩ := rdN_no u3 b2
 rw [← d3] at a3 b3
 obtain ⟨_,a4,_,b4⟩ := rdN_no u4 b3
 rw [← d4] at a4 b4
 obtain ⟨_,a5,_,b5⟩ := rdN_no u5 b4
 rw [← d5] at a5 b5
 obtain ⟨_,a6,_,b6⟩ := rdN_no u6 b5
 rw [← d6] at a6 b6
 obtain ⟨_,a7,f7,b7⟩ := rdT_no u7 b6
 rw [← d7] at a7 b7
 obtain ⟨_,a8,f8,g8,b8'⟩ := rdAs_no u8 b7
 rw [← d8] at a8 b8'
 obtain ⟨_,a9,f9,b9⟩ := rdT_no h b8'
 rw [← d9] at a9 b9
 refine ⟨z1,?_,⟨f7,f9,f8,g8⟩,b9⟩
 simp only [ob,List.append_assoc]
 rw [← a9,← a8,← a7,← a6,← a5,← a4,← a3,← a2,← a1]
theorem rdN_yes {k : Nat} {n : Int} (h0 : 0 ≤ n) (h1 : n < 256 ^ k) (r : List Int) (c : Bool) : rdN k (nb n k ++ r,c) = (n,(r,c)) := by
 unfold rdN
 rw [tk_yes (nb_len n k),nv_nb k n h0 h1]
theorem rdT_yes {x : ByteArray} (h : x.size ≤ 16777215) (r : List Int) (c : Bool) : rdT (tb x ++ r,c) = (x,(r,c)) := by
 have e : rdN 3 (tb x ++ r,c) = ((x.size : Int),(bytesOf x ++ r,c)) := by
  unfold tb
  rw [List.append_assoc]
  have p3 : ((256 : Int) ^ 3) = 16777216 := by decide
  exact rdN_yes (by omega) (by omega) _ _
 unfold rdT
 rw [e]
 simp only
 rw [tk_yes (by rw [bytes_len]; omega),strs_bytes]
theorem rdA_yes : ∀ (l : List Att),fitA l → ∀ (r : List Int),rdA l.length (ab l ++ r,false) = (l,(r,false))
 | [],_,r => rfl
 | a :: l,h,r => by
   have ha := h a (by simp)
   have ih := rdA_yes l (fun x hx => h x (by simp [hx])) r
   have e1 : rdT (tb a.1 ++ (tb a.2 ++ ab l) ++ r,false) = (a.1,(tb a.2 ++ (ab l ++ r),false)) := by
    rw [List.append_assoc,List.append_assoc]
    exact rdT_yes ha.1 _ _
   have e2 : rdT (tb a.2 ++ (ab l ++ r),false) = (a.2,(ab l ++ r,false)) := rdT_yes ha.2 _ _
   simp only [List.length_cons,ab]
   rw [rdA,if_neg (by simp)]
   rw [e1]
   simp only
   rw [e2]
   simp only
   rw [ih]
theorem rdAs_yes {l : List Att} (h : fitA l) (hl : l.length ≤ 65535) (r : List Int) : rdAs (nb l.length 2 ++ (ab l ++ r),false) = (l,(r,false)) := by
 have e : rdN 2 (nb l.length 2 ++ (ab l ++ r),false) = ((l.length : Int),(ab l ++ r,false)) := by
  have p2 : ((256 : Int) ^ 2) = 65536 := by decide
  exact rdN_yes (by omega) (by omega) _ _
 unfold rdAs
 rw [e]
 simp only [Int.toNat_natCast]
 exact rdA_yes l h r
theorem rdO_yes {o : Ot} (hk : 0 ≤ o.kd ∧ o.kd ≤ 255) (hn : 0 ≤ o.nd ∧ o.nd ≤ 4294967295) (hp : 0 ≤ o.pa ∧ o.pa ≤ 4294967295) (hr : 0 ≤ o.rf ∧ o.rf ≤ 4294967295) (ht : 0 ≤ o.ty ∧ o.ty ≤ 255) (hs : 0 ≤ o.ns ∧ o.ns ≤ 255) (hf : fitO o) (r : List Int) :
  rdO (ob o ++ r,false) = o ∧ s9 (ob o ++ r,false) = (r,false) := by
 obtain ⟨f1,f2,f3,f4⟩ := hf
 have p1 : ((256 : Int) ^ 1) = 256 := by decide
 have p4 : ((256 : Int) ^ 4) = 4294967296 := by decide
 obtain ⟨o1,o2,o3,o4,o5,o6,o7,o8,o9⟩ := o
 simp only at hk hn hp hr ht hs f1 f2 f3 f4
 have e0 : (ob ⟨o1,o2,o3,o4,o5,o6,o7,o8,o9⟩ ++ r,false) = (nb o1 1 ++ (nb o2 4 ++ (nb o3 4 ++ (nb o4 4 ++ (nb o5 1 ++ (nb o6 1 ++ (tb o7 ++ (nb o8.length 2 ++ (ab o8 ++ (tb o9 ++ r))))))))),false) := by simp only [ob,List.append_assoc]
 rw [e0]
 have a1 := rdN_yes (k := 1) (n := o1) (by omega) (by omega) (nb o2 4 ++ (nb o3 4 ++ (nb o4 4 ++ (nb o5 1 ++ (nb o6 1 ++ (tb o7 ++ (nb o8.length 2 ++ (ab o8 ++ (tb o9 ++ r))))))))) false
 have a2 := rdN_yes (k := 4) (n := o2) (by omega) (by omega) (nb o3 4 ++ (nb o4 4 ++ (nb o5 1 ++ (nb o6 1 ++ (tb o7 ++ (nb o8.length 2 ++ (ab o8 ++ (tb o9 ++ r)))))))) false
 have a3 := rdN_yes (k := 4) (n := o3) (by omega) (by omega) (nb o4 4 ++ (nb o5 1 ++ (nb o6 1 ++ (tb o7 ++ (nb o8.length 2 ++ (ab o8 ++ (tb o9 ++ r))))))) false
 have a4 := rdN_yes (k := 4) (n := o4) (by omega) (by omega) (nb o5 1 ++ (nb o6 1 ++ (tb o7 ++ (nb o8.length 2 ++ (ab o8 ++ (tb o9 ++ r)))))) false
 have a5 := rdN_yes (k := 1) (n := o5) (by omega) (by omega) (nb o6 1 ++ (tb o7 ++ (nb o8.length 2 ++ (ab o8 ++ (tb o9 ++ r))))) false
 have a6 := rdN_yes (k := 1) (n := o6) (by omega) (by omega) (tb o7 ++ (nb o8.length 2 ++ (ab o8 ++ (tb o9 ++ r)))) false
 have a7 := rdT_yes f1 (nb o8.length 2 ++ (ab o8 ++ (tb o9 ++ r))) false
 have a8 := rdAs_yes f4 f3 (tb o9 ++ r)
 have a9 := rdT_yes f2 r false
 generalize (nb o1 1 ++ (nb o2 4 ++ (nb o3 4 ++ (nb o4 4 ++ (nb o5 1 ++ (nb o6 1 ++ (tb o7 ++ (nb o8.length 2 ++ (ab o8 ++ (tb o9 ++ r))))))))),false) = s at a1 ⊢
 have t1 : s1 s = _ := congrArg Prod.snd a1
 have t2 : s2 s = _ := (congrArg (fun x => (rdN 4 x).2) t1).trans (congrArg Prod.snd a2)
 have t3 : s3 s = _ := (congrArg (fun x => (rdN 4 x).2) t2).trans (congrArg Prod.snd a3)
 have t4 : s4 s = _ := (congrArg (fun x => (rdN 4 x).2) t3).trans (congrArg Prod.snd a4)
 have t5 : s5 s = _ := (congrArg (fun x => (rdN 1 x).2) t4).trans (congrArg Prod.snd a5)
 have t6 : s6 s = _ := (congrArg (fun x => (rdN 1 x).2) t5).trans (congrArg Prod.snd a6)
 have t7 : s7 s = _ := (congrArg (fun x => (rdT x).2) t6).trans (congrArg Prod.snd a7)
 have t8 : s8 s = _ := (congrArg (fun x => (rdAs x).2) t7).trans (congrArg Prod.snd a8)
 have t9 : s9 s = _ := (congrArg (fun x => (rdT x).2) t8).trans (congrArg Prod.snd a9)
 refine ⟨?_,t9⟩
 unfold rdO
 rw [t1,t2,t3,t4,t5,t6,t7,t8]
 simp only [a1,a2,a3,a4,a5,a6,a7,a8,a9]
end Go.Proofs.YtpkppobkagdhkaaGreat
