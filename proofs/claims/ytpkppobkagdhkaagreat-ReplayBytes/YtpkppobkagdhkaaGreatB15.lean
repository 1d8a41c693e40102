/-
 PrD.
-/
import Derived.Test.YtpkppobkagdhkaaGreatB14
set_option linter.unusedVariables false
set_option linter.unusedSimpArgs false
set_option maxRecDepth 100000
set_option maxHeartbeats 1000000
namespace Go.Proofs.YtpkppobkagdhkaaGreat
open Go.RowKit Go.Maps Utf
namespace Ar
def parF (a : Ar) (z : Int) : Int × Bool := if a.there z = true then (match a.up z.toNat with | none => (0,false) | some p => ((p : Int),true)) else (0,false)
def conF (a : Ar) (z : Int) : Int × Bool := if a.there z = true ∧ tmplF (a.lb z.toNat) = true then (hdI (a.kids z.toNat),true) else (0,false)
def kidF (a : Ar) (z : Int) : List Nat := if a.there z = true then a.kids z.toNat else []
end Ar
section
variable {tag : Nat → Nat} {w : World} {b g o c : Nat} {q : Bool} {A : Ar} {pl : Nat → Np}
theorem par_any (h : Rw tag w b g o c q A.n A.raw pl) (hn : A.n < 50000) (z : Int) :
  Calls Tryz.prog 110 #[.pointer (some ⟨b,0,none⟩),.int .i64 z] w fun e w' => e = .returned (.tuple #[.int .i64 (A.parF z).1,.bool (A.parF z).2]) ∧ w' = w := by
 have HH := has_any h (by omega) z
 by_cases hz : A.there z = true
 case neg =>
  have e1 : A.parF z = (0,false) := by unfold Ar.parF; rw [if_neg hz]
  rw [e1]
  have hz : A.there z = false := by simpa using hz
  rw [there_dec] at hz
  rw [hz] at HH
  clear h
  go_enter Tryz.func110,Tryz.ntmps110
  go_wp2_with (go_at_call 33; refine same_of (HH) ?_)
  go_ret2
  exact ⟨rfl,rfl⟩
 obtain ⟨x,rfl,hxn⟩ := there_nat hz
 obtain ⟨c0,_⟩ := h.head
 obtain ⟨l1,_⟩ := h.links hxn
 have hx0 : (0 : Int) ≤ (x : Int) := by omega
 have hx1 : (x : Int) < (A.n : Int) := by omega
 rw [← there_dec,hz] at HH
 clear h
 cases hu : A.up x with
 | none =>
   have e1 : A.parF x = (0,false) := by unfold Ar.parF; rw [if_pos hz,Int.toNat_natCast,hu]
   rw [e1]
   rw [up_eq hu] at l1
   go_enter Tryz.func110,Tryz.ntmps110
   go_wp2_with (go_at_call 33; refine same_of (HH) ?_)
   go_ret2
   exact ⟨rfl,rfl⟩
 | some p =>
   have e1 : A.parF x = ((p : Int),true) := by unfold Ar.parF; rw [if_pos hz,Int.toNat_natCast,hu]
   rw [e1]
   rw [up_some hu] at l1
   have t1 : ((p : Int) == -1) = false := beq_false_of_ne (by omega)
   go_enter Tryz.func110,Tryz.ntmps110
   go_wp2_with (go_at_call 33; refine same_of (HH) ?_)
   go_ret2
   exact ⟨rfl,rfl⟩
theorem con_any (h : Rw tag w b g o c q A.n A.raw pl) (hn : A.n < 50000) (z : Int) :
  Calls Tryz.prog 114 #[.pointer (some ⟨b,0,none⟩),.int .i64 z] w fun e w' => e = .returned (.tuple #[.int .i64 (A.conF z).1,.bool (A.conF z).2]) ∧ w' = w := by
 have HH := has_any h (by omega) z
 by_cases hz : A.there z = true
 case neg =>
  have e1 : A.conF z = (0,false) := by unfold Ar.conF; rw [if_neg (fun hh => hz hh.1)]
  rw [e1]
  have hz : A.there z = false := by simpa using hz
  rw [there_dec] at hz
  rw [hz] at HH
  clear h
  go_enter Tryz.func114,Tryz.ntmps114
  go_wp2_with (go_at_call 33; refine same_of (HH) ?_)
  go_ret2
  exact ⟨rfl,rfl⟩
 obtain ⟨x,rfl,hxn⟩ := there_nat hz
 obtain ⟨c0,_⟩ := h.head
 obtain ⟨_,l1,_⟩ := h.links hxn
 have HT := tmpl_any h (by omega) x hxn
 rw [show (A.raw x).lb = A.lb x from rfl] at HT
 rw [show (A.raw x).fi = hdI (A.kids x) from rfl] at l1
 have hx0 : (0 : Int) ≤ (x : Int) := by omega
 have hx1 : (x : Int) < (A.n : Int) := by omega
 rw [← there_dec,hz] at HH
 clear h
 cases ht : tmplF (A.lb x) with
 | false =>
   have e1 : A.conF x = (0,false) := by unfold Ar.conF; rw [if_neg (by rw [Int.toNat_natCast,ht]; simp)]
   rw [e1]
   rw [ht] at HT
   go_enter Tryz.func114,Tryz.ntmps114
   go_wp2_with (first | (go_at_call 33; refine same_of (HH) ?_) | (go_at_call 123; refine same_of (HT) ?_))
   go_ret2
   exact ⟨rfl,rfl⟩
 | true =>
   have e1 : A.conF x = (hdI (A.kids x),true) := by unfold Ar.conF; rw [if_pos ⟨hz,by rw [Int.toNat_natCast,ht]⟩,Int.toNat_natCast]
   rw [e1]
   rw [ht] at HT
   generalize hdI (A.kids x) = d at l1 ⊢
   go_enter Tryz.func114,Tryz.ntmps114
   go_wp2_with (first | (go_at_call 33; refine same_of (HH) ?_) | (go_at_call 123; refine same_of (HT) ?_))
   go_ret2
   exact ⟨rfl,rfl⟩
theorem Rw.quirks {n : Nat} {N : Nat → Pn} (h : Rw tag w b g o c q n N pl) (q' : Bool) : Rw tag (w.setCell ⟨b,1,none⟩ (.bool q')) b g o c q' n N pl := by
 have hne := h.ne
 have k1 : Kp [b] w (w.setCell ⟨b,1,none⟩ (.bool q')) := (Kp.refl _ _).setCell (Or.inl (by simp)) _
 obtain ⟨cur,h1,h2,h3⟩ := h.body
 refine ⟨h.hd.set 1 _,h.tb,h.cap,h.max,⟨cur,h1.kept k1 (by simpa using Ne.symm hne),h2,h3⟩,h.tg,fun i hi => (h.side i hi).keep k1 (fun x hx _ => ?_) (fun _ _ => rfl)⟩
 rw [List.mem_singleton.1 hx,h.tb]; omega
theorem quirks_any (h : Rw tag w b g o c q A.n A.raw pl) (q' : Bool) :
  Calls Tryz.prog 77 #[.pointer (some ⟨b,0,none⟩),.bool q'] w fun e w' => e = .returned (.tuple #[]) ∧ Rw tag w' b g o c q' A.n A.raw pl ∧ Kp [b] w w' := by
 obtain ⟨_,c0⟩ := h.head
 have f0 := h.freeb 1
 have hf : Hid (Rw tag (w.setCell ⟨b,1,none⟩ (.bool q')) b g o c q' A.n A.raw pl ∧ Kp [b] w (w.setCell ⟨b,1,none⟩ (.bool q'))) := ⟨h.quirks q',(Kp.refl _ _).setCell (Or.inl (by simp)) _⟩
 clear h
 go_enter Tryz.func77,Tryz.ntmps77
 go_wp2
 go_end0
 exact ⟨rfl,hf.out⟩
theorem infoI1 : (Tryz.prog.info? 3).map (fun i => (i.zero,i.size,i.bytes)) = some (some (.int .i64 0),1,8) := by kernel_rfl
theorem kids_any (h : Rw tag w b g o c q A.n A.raw pl) (ok : A.Ok) (hn : A.n < 50000) (z : Int) :
  Calls Tryz.prog 29 #[.pointer (some ⟨b,0,none⟩),.int .i64 z] w fun e w' => ∃ ao n' c',e = .returned (.slice ao n' c') ∧ Made w w' 3 ao n' c' (iv (A.kidF z)) := by
 have HH := has_any h (by omega) z
 by_cases hz : A.there z = true
 case neg =>
  have e1 : A.kidF z = [] := by unfold Ar.kidF; rw [if_neg hz]
  rw [e1]
  have hz : A.there z = false := by simpa using hz
  rw [there_dec] at hz
  rw [hz] at HH
  have M0 : Hid (Made w w 3 none 0 0 (iv [])) := Made.nil w 3
  clear h
  go_enter Tryz.func29,Tryz.ntmps29
  go_wp2_with (go_at_call 33; refine same_of (HH) ?_)
  go_ret
  exact ⟨_,_,_,rfl,M0.out⟩
 obtain ⟨x,rfl,hxn⟩ := there_nat hz
 rw [← there_dec,hz] at HH
 have e1 : A.kidF x = A.kids x := by unfold Ar.kidF; rw [if_pos hz,Int.toNat_natCast]
 rw [e1]
 obtain ⟨c0,_⟩ := h.head
 obtain ⟨_,l1,_⟩ := h.links hxn
 rw [show (A.raw x).fi = hdI (A.kids x) from rfl] at l1
 have hx0 : (0 : Int) ≤ (x : Int) := by omega
 have hx1 : (x : Int) < (A.n : Int) := by omega
 have HC : Hid (∀ V,Kp [] w V → V.cell? ⟨b,0,none⟩ = some (.slice (some ⟨g,o,none⟩) A.n c) ∧ ∀ i,i < A.n → V.cell? ⟨g,o + i * 11 + 10,none⟩ = some (.int .i64 (A.raw i).be)) := fun V kV => by
  have hV := h.kept kV
  exact ⟨hV.head.1,fun i hi => (hV.links hi).2.2.2.2⟩
 have hlen : (A.kids x).length ≤ A.n := Ar.pig _ _ (ok.one x) (fun y hy => (ok.kid_lt hy).1)
 have M0 : Hid (Made w w 3 none 0 0 (iv [])) := Made.nil w 3
 clear h
 go_enter Tryz.func29,Tryz.ntmps29
 go_wp2_with (go_at_call 33; refine same_of (HH) ?_)
 go_loopw [5,6] (fun l i wr => ∃ (k1 k2 : List Nat) (ao : Option Addr) (n' c' : Nat),A.kids x = k1 ++ k2 ∧ i = .int .i64 (hdI k2) ∧ l = .slice ao n' c' ∧ n' = k1.length ∧ Made w wr 3 ao n' c' (iv k1)) (fun l _ _ => (A.kids x).length - slen l)
 case atStart => exact ⟨[],A.kids x,none,0,0,rfl,rfl,rfl,rfl,M0.out⟩
 case round =>
  obtain ⟨k1,k2,ao,n',c',ek,rfl,rfl,hn',M⟩ := hrel
  clear M0 l1 c0
  cases k2 with
  | nil =>
    rw [List.append_nil] at ek
    have M2 : Hid (Made w wr 3 ao n' c' (iv (A.kids x))) := by rw [ek]; exact M
    clear M ek hn' hlen
    rw [show hdI [] = -1 from rfl]
    go_wp2
    go_ret
    exact ⟨_,_,_,rfl,M2.out⟩
  | cons y k2 =>
    have hy : y < A.n := (ok.kid_lt (p := x) (by rw [ek]; simp)).1
    have hlk : k1.length + (k2.length + 1) = (A.kids x).length := by rw [ek]; simp
    obtain ⟨ao2,n2,c2,w2,hrun,M2⟩ := M.one Tryz.underlying61 infoI1 rfl (by decide) (.int .i64 (y : Int)) rfl (by simp [iv]; omega)
    obtain ⟨c0,cs1⟩ := HC.out _ M2.2.1
    have d1 := cs1 y hy
    rw [(ok.chain ek).1] at d1
    have hy0 : (0 : Int) ≤ (y : Int) := by omega
    have hy1 : (y : Int) < (A.n : Int) := by omega
    have t1 : ((y : Int) != -1) = true := bne_iff_ne.2 (by omega)
    have M3 : Hid (Made w w2 3 ao2 n2 c2 (iv (k1 ++ [y]))) := by rw [iv_app]; exact M2
    have hn2 : Hid (n2 = k1.length + 1 ∧ n' = k1.length) := ⟨by have := M2.rb.len; simpa [iv] using this,hn'⟩
    have ek2 : Hid (A.kids x = (k1 ++ [y]) ++ k2) := by rw [ek]; show _ = _; simp
    rw [show hdI (y :: k2) = (y : Int) from rfl]
    obtain ⟨nx,hnx⟩ : ∃ z,hdI k2 = z := ⟨_,rfl⟩
    rw [hnx] at d1
    have hx2 : Hid (nx = hdI k2) := hnx.symm
    clear M M2 ek cs1 hn' hnx
    go_wp2_with (at_builtin; refine Lib.wpList_append_run _ rfl _ _ _ _ rfl _ _ rfl rfl _ _ (hrun _) ?_)
    go_roundw
    case rel => exact ⟨k1 ++ [y],k2,ao2,n2,c2,ek2.out,by rw [hx2.out],rfl,by rw [hn2.out.1]; simp,M3.out⟩
    case measure => have := hn2.out; simp only [slen]; omega
theorem Own.fresh {w w1 w2 : World} {S : List Nat} {e : TypeId} {ao : Option Addr} {n c : Nat} {xs : List Value} (h : Made w w1 e ao n c xs) (k : Kp S w1 w2) (hS : ∀ x,x ∈ S → x < w.heap.size) : Own w2 e (.slice ao n c) xs :=
 h.1.keep k (fun x hx hs => by have := h.2.2 x hx; have := hS x hs; omega)
theorem Rb.iv_at {w : World} {ao : Option Addr} {n c : Nat} {l : List Nat} (h : Rb w ao n c (iv l)) (k : Nat) (hk : k < l.length) : ∃ b off,ao = some ⟨b,off,none⟩ ∧ w.cell? ⟨b,off + k,none⟩ = some (.int .i64 (l[k] : Int)) := by
 have hl := h.len
 rw [iv_len] at hl
 obtain ⟨b,off,h1,h2⟩ := h.at' k (by omega)
 exact ⟨b,off,h1,by rw [h2]; simp [iv,hk]⟩
structure Mvd (A B : Ar) (f t : Nat) (ks : List Nat) (k : Nat) : Prop where
 ful : B.Ful
 n : B.n = A.n
 lb : B.lb = A.lb
 rest : B.movs t (ks.drop k) = A.movs t ks
 ups : ∀ y,y ∈ ks.drop k → B.up y = some f
 wn : ¬ B.Wn t f
theorem Mvd.skip {A B : Ar} {f t : Nat} {ks : List Nat} {k : Nat} (h : Mvd A B f t ks k) (hk : k < ks.length) (h6 : (A.lb ks[k]).kind = 6) : Mvd A B f t ks (k + 1) := by
 have e := List.drop_eq_getElem_cons hk
 refine ⟨h.ful,h.n,h.lb,?_,fun y hy => h.ups y (by rw [e]; exact List.mem_cons_of_mem _ hy),h.wn⟩
 rw [← h.rest,e]
 show _ = (if (B.lb ks[k]).kind = 6 then _ else _)
 rw [h.lb,if_pos h6]
theorem Mvd.step {A B : Ar} {f t : Nat} {ks : List Nat} {k : Nat} (h : Mvd A B f t ks k) (hn : ks.Nodup) (hk : k < ks.length) (hf : Ar.fix (A.lb ks[k]) = false) (ht : t < A.n) (hh : Ar.hld (A.lb t) = true) : Mvd A (B.shift t ks[k]) f t ks (k + 1) := by
 have e := List.drop_eq_getElem_cons hk
 have hd := Ar.fix_doc hf
 have hu : B.up ks[k] = some f := h.ups _ (by rw [e]; exact List.mem_cons_self ..)
 have hnd : ks[k] ∉ ks.drop (k + 1) := by
  have := List.Nodup.sublist (List.drop_sublist k ks) hn
  rw [e] at this
  exact (List.nodup_cons.1 this).1
 refine ⟨h.ful.shift hu (by rw [h.lb]; exact hf) (by rw [h.n]; exact ht) (by rw [h.lb]; exact hh) h.wn,h.n,h.lb,?_,fun y hy => ?_,fun hw => h.wn (Ar.shift_wn hu h.wn (Ar.Wn.refl B t) hw)⟩
 ·rw [← h.rest,e]
  show _ = (if (B.lb ks[k]).kind = 6 then _ else _)
  rw [h.lb,if_neg hd.2]
 ·have hyk : y ≠ ks[k] := fun e2 => hnd (by rw [← e2]; exact hy)
  rw [Ar.shift_up hyk]
  exact h.ups y (by rw [e]; exact List.mem_cons_of_mem _ hy)
theorem hid_unlink {n : Nat} {B : Ar} {w0 : World} (h : Rz w0 tag w b g o c q n B.raw pl) (hn0 : n = B.n) (ok : B.Ok) (hn : n < 50000) {x u : Nat} (hu : B.up x = some u) :
  Calls Tryz.prog 113 #[.pointer (some ⟨b,0,none⟩),.int .i64 x] w fun e w' => e = .returned (.tuple #[]) ∧ Rz w0 tag w' b g o c q n (B.cut x).raw pl := by
 subst hn0
 obtain ⟨_,_,_,n1,n2,n3,n4⟩ := raw_nn ok x
 have HU := unlink_any h.1 (by omega) u (ok.lt hu).2 x (ok.lt hu).1 (up_some hu) n1 n2 n3 n4
 rw [ok.unlink_raw hu] at HU
 refine HU.mono ?_
 rintro e w2 ⟨rfl,z⟩
 exact ⟨rfl,z.1,h.2.trans z.2 (fun x hx => Or.inl hx)⟩
theorem rz_link {n : Nat} {B : Ar} {w0 : World} (h : Rz w0 tag w b g o c q n B.raw pl) (hn0 : n = B.n) (ok : B.Ok) (hn : n < 50000) {p x : Nat} (hp : p < n) (hx : x < n) (hu : B.up x = none) :
  Calls Tryz.prog 108 #[.pointer (some ⟨b,0,none⟩),.int .i64 p,.int .i64 (-1),.int .i64 x] w fun e w' => e = .returned (.tuple #[]) ∧ Rz w0 tag w' b g o c q n (B.put p (B.kids p).length x).raw pl := by
 subst hn0
 refine ((hid_link h.1 ok hn hp hx hu (k1 := B.kids p) (k2 := []) (by rw [List.append_nil]) (-1) rfl).out _ (Kp.refl _ _)).mono ?_
 rintro e w2 ⟨rfl,z⟩
 exact ⟨rfl,z.1,h.2.trans z.2 (fun x hx => Or.inl hx)⟩
theorem mov_arena (h : Rw tag w b g o c q A.n A.raw pl) (ful : A.Ful) (hn : A.n < 50000) (f t : Int) :
  Calls Tryz.prog 74 #[.pointer (some ⟨b,0,none⟩),.int .i64 f,.int .i64 t] w fun e w' => e = .returned (.int .i64 (A.movF f t).2) ∧ Rz w tag w' b g o c q A.n (A.movF f t).1.raw pl := by
 have HH := fun z => has_any h (by omega) z
 have ok := ful.toOk
 obtain ⟨Z,hZ⟩ : ∃ Z,A.movF f t = Z := ⟨_,rfl⟩
 rw [hZ]
 unfold Ar.movF at hZ
 have z0 : Rz w tag w b g o c q A.n A.raw pl := Rz.mk h (Kp.refl _ _)
 by_cases hp : A.there f = true
 case neg =>
  have hp : A.there f = false := by simpa using hp
  rw [if_pos (.inl hp)] at hZ
  subst hZ
  rw [there_dec] at hp
  have z1 : Hid (Rz w tag w b g o c q A.n A.raw pl) := z0
  clear z0 h
  go_enter Tryz.func74,Tryz.ntmps74
  go_wp2_with (go_at_call 33; refine same_of (HH _) ?_)
  go_ret
  exact ⟨rfl,z1.out⟩
 by_cases hx : A.there t = true
 case neg =>
  have hx : A.there t = false := by simpa using hx
  rw [if_pos (.inr hx)] at hZ
  subst hZ
  rw [there_dec] at hp hx
  have z1 : Hid (Rz w tag w b g o c q A.n A.raw pl) := z0
  clear z0 h
  go_enter Tryz.func74,Tryz.ntmps74
  go_wp2_with (go_at_call 33; refine same_of (HH _) ?_)
  go_ret
  exact ⟨rfl,z1.out⟩
 rw [if_neg (by simp [hp,hx])] at hZ
 obtain ⟨f,rfl,hpn⟩ := there_nat hp
 obtain ⟨t,rfl,hxn⟩ := there_nat hx
 rw [Int.toNat_natCast,Int.toNat_natCast] at hZ
 have ekf : A.kidF f = A.kids f := by unfold Ar.kidF; rw [if_pos hp,Int.toNat_natCast]
 rw [there_dec] at hp hx
 have HM : Hid (∀ y : Nat,y < A.n → Calls Tryz.prog 105 #[.pointer (some ⟨b,0,none⟩),.int .i64 (y : Int)] w fun e w' => e = .returned (.bool (Ar.hld (A.lb y))) ∧ w' = w) := fun y hy => may_any h (by omega) y hy
 cases h1 : Ar.hld (A.lb f) with
 | false =>
   have HM1 := HM.out f hpn
   rw [h1] at HM1
   rw [if_pos (.inl h1)] at hZ
   subst hZ
   have z1 : Hid (Rz w tag w b g o c q A.n A.raw pl) := z0
   clear z0 h
   go_enter Tryz.func74,Tryz.ntmps74
   go_wp2_with (first | (go_at_call 33; refine same_of (HH _) ?_) | (go_at_call 105; refine same_of (HM1) ?_))
   go_ret
   exact ⟨rfl,z1.out⟩
 | true =>
 cases h2 : Ar.hld (A.lb t) with
 | false =>
   rw [if_pos (.inr h2)] at hZ
   subst hZ
   have z1 : Hid (Rz w tag w b g o c q A.n A.raw pl) := z0
   clear z0 h
   go_enter Tryz.func74,Tryz.ntmps74
   go_wp2_with (first | (go_at_call 33; refine same_of (HH _) ?_) | (go_at_call 105; refine same_of (HM.out _ (by assumption)) ?_))
   go_ret
   exact ⟨rfl,z1.out⟩
 | true =>
 rw [if_neg (by simp [h1,h2])] at hZ
 have HW := iswn_any h ok hn t f hxn hpn
 cases hw : A.wn t f with
 | true =>
   rw [if_pos hw] at hZ
   subst hZ
   rw [hw] at HW
   have z1 : Hid (∀ V,Kp [] w V → Rz w tag V b g o c q A.n A.raw pl) := fun V kV => Rz.mk (h.kept kV) (kV.mono (fun x hx => by simp at hx))
   clear z0 h
   go_enter Tryz.func74,Tryz.ntmps74
   go_wp2_with (first | (go_at_call 33; refine same_of (HH _) ?_) | (go_at_call 105; refine same_of (HM.out _ (by assumption)) ?_) | (go_at_call 107; refine HW.mono ?_; rintro e w3 ⟨rfl,K3⟩))
   go_ret
   exact ⟨rfl,z1.out _ K3⟩
 | false =>
 rw [if_neg (by rw [hw]; simp)] at hZ
 subst hZ
 rw [hw] at HW
 obtain ⟨T9,hT9⟩ : ∃ T,A.movs t (A.kids f) = T := ⟨_,rfl⟩
 rw [hT9]
 have hT : Hid (A.movs t (A.kids f) = T9) := hT9
 clear hT9
 have HK : Hid (∀ V,Kp [] w V → Calls Tryz.prog 29 #[.pointer (some ⟨b,0,none⟩),.int .i64 (f : Int)] V fun e w' => ∃ ao n' c',e = .returned (.slice ao n' c') ∧ Made V w' 3 ao n' c' (iv (A.kids f))) := fun V kV => by
  have := kids_any (h.kept kV) ok hn (f : Int)
  rw [ekf] at this
  exact this
 have Z0 : Hid (∀ V,Kp [] w V → Rz w tag V b g o c q A.n A.raw pl) := fun V kV => Rz.mk (h.kept kV) (kV.mono (fun x hx => by simp at hx))
 have MV0 : Hid (Mvd A A f t (A.kids f) 0) := ⟨ful,rfl,rfl,by rw [List.drop_zero],fun y hy => by rw [List.drop_zero] at hy; exact (ok.link f y).1 hy,Ar.wn_false ok hxn hw⟩
 have hg : g < w.heap.size := h.lt.2
 have hnd := ok.one f
 have hlen : (A.kids f).length ≤ A.n := Ar.pig _ _ hnd (fun y hy => (ok.kid_lt hy).1)
 have hkl : ∀ y,y ∈ A.kids f → y < A.n ∧ y ≠ 0 := fun y hy => ⟨(ok.kid_lt hy).1,fun e => by
  have := (ok.link f y).1 hy
  rw [e,ok.top] at this; cases this⟩
 have hdoc : ∀ y,y < A.n → y ≠ 0 → (A.lb y).kind ≠ 1 := fun y h3 h4 e => h4 ((ful.doc y h3).1 e)
 clear z0 h
 go_enter Tryz.func74,Tryz.ntmps74
 go_wp2_with (first | (go_at_call 33; refine same_of (HH _) ?_) | (go_at_call 105; refine same_of (HM.out _ (by assumption)) ?_) | (go_at_call 107; refine HW.mono ?_; rintro e w3 ⟨rfl,K3⟩) | (go_at_call 29; refine (HK.out _ K3).mono ?_; rintro e w4 ⟨ao,n4,c4,rfl,M4⟩))
 have hn4 : n4 = (A.kids f).length := by have := M4.rb.len; rwa [iv_len] at this
 subst hn4
 have Z4 : Hid (Rz w tag w4 b g o c q A.n A.raw pl) := Z0.out _ (K3.trans M4.2.1 (fun x hx => Or.inl hx))
 have hg3 : g < w3.heap.size := Nat.lt_of_lt_of_le hg K3.size
 have kg : Hid (Kp [] w w4) := K3.trans M4.2.1 (fun x hx => Or.inl hx)
 clear HK HW Z0
 generalize A.kids f = ks at *
 go_loopw [8,40] (fun _ i wr => ∃ (k : Nat) (B : Ar),k ≤ ks.length ∧ i = .int .i64 (k : Int) ∧ Mvd A B f t ks k ∧ Rz w4 tag wr b g o c q A.n B.raw pl) (fun _ i _ => ks.length - (intOf i).toNat)
 case atStart => exact ⟨0,A,Nat.zero_le _,rfl,MV0.out,Rz.mk Z4.out.1 (Kp.refl _ _)⟩
 case round =>
  obtain ⟨k,B,hk,rfl,mv,rz⟩ := hrel
  clear MV0
  by_cases hlt : k < ks.length
  ·obtain ⟨b1,o1,rfl,h3⟩ := (Rb.of_own (Own.fresh M4 rz.2 (fun x hx => by rw [List.mem_singleton.1 hx]; exact hg3))).iv_at k hlt
   have hk1 : (k : Int) < (ks.length : Int) := by omega
   have hk0 : (0 : Int) ≤ (k : Int) := by omega
   obtain ⟨hy1,hy2⟩ := hkl ks[k] (List.getElem_mem hlt)
   have hd1 := hdoc _ hy1 hy2
   have rz' := rz
   have HX : Hid (Calls Tryz.prog 106 #[.pointer (some ⟨b,0,none⟩),.int .i64 (ks[k] : Int)] wr fun e w' => e = .returned (.bool (Ar.fix (A.lb ks[k]))) ∧ w' = wr) := by
    have := fixed_any rz.1 (by omega) ks[k] hy1
    rw [show (B.raw ks[k]).lb = B.lb ks[k] from rfl,mv.lb] at this
    exact this
   cases hf : Ar.fix (A.lb ks[k]) with
   | true =>
     have h6 : (A.lb ks[k]).kind = 6 := by
      simp only [Ar.fix,Bool.or_eq_true,decide_eq_true_eq] at hf
      exact hf.resolve_left hd1
     have mv2 : Hid (Mvd A B f t ks (k + 1)) := mv.skip hlt h6
     have rz2 : Hid (Rz w4 tag wr b g o c q A.n B.raw pl) := rz
     have HX2 := HX.out
     rw [hf] at HX2
     clear mv rz rz' HX M4 Z4 h6 hd1
     generalize ks[k] = y at h3 HX2
     go_wp2_with (go_at_call 106; refine same_of (HX2) ?_)
     go_roundw
     case rel => exact ⟨k + 1,B,by omega,by go_num,mv2.out,rz2.out⟩
     case measure => simp [intOf]; omega
   | false =>
     have mv2 : Hid (Mvd A (B.shift t ks[k]) f t ks (k + 1)) := mv.step hnd hlt hf hxn h2
     have hub : B.up ks[k] = some f := mv.ups _ (by rw [List.drop_eq_getElem_cons hlt]; exact List.mem_cons_self ..)
     have HX2 := HX.out
     rw [hf] at HX2
     have HU := hid_unlink rz mv.n.symm mv.ful.toOk hn hub
     have HL : Hid (∀ V,Rz w4 tag V b g o c q A.n (B.cut ks[k]).raw pl → Calls Tryz.prog 108 #[.pointer (some ⟨b,0,none⟩),.int .i64 (t : Int),.int .i64 (-1),.int .i64 (ks[k] : Int)] V fun e w' => e = .returned (.tuple #[]) ∧ Rz w4 tag w' b g o c q A.n (B.shift t ks[k]).raw pl) := fun V hV =>
      rz_link hV mv.n.symm (mv.ful.toOk.cut _) hn hxn hy1 (by show (if ks[k] = ks[k] then _ else _) = none; rw [if_pos rfl])
     clear mv rz rz' HX M4 Z4 hd1 hub hf
     generalize ks[k] = y at h3 HX2 HU HL mv2
     go_wp2_with (first | (go_at_call 106; refine same_of (HX2) ?_) | (go_at_call 113; refine HU.mono ?_; rintro e w5 ⟨rfl,z5⟩) | (go_at_call 108; refine (HL.out _ z5).mono ?_; rintro e w6 ⟨rfl,z6⟩))
     go_roundw
     case rel => exact ⟨k + 1,_,by omega,by go_num,mv2.out,z6⟩
     case measure => simp [intOf]; omega
  ·obtain rfl : k = ks.length := by omega
   have e9 : Hid (B = A.movs t ks) := by have := mv.rest; rw [List.drop_length] at this; exact this
   have k9 : Hid (Kp [g] w wr) := (kg.out.mono (fun x hx => by simp at hx)).trans rz.2 (fun x hx => Or.inl hx)
   have r9 : Hid (Rw tag wr b g o c q A.n B.raw pl) := rz.1
   clear mv rz M4 Z4
   go_wp2
   go_ret
   exact ⟨rfl,by rw [← hT.out,← e9.out]; exact ⟨r9.out,k9.out⟩⟩
end
end Go.Proofs.YtpkppobkagdhkaaGreat
