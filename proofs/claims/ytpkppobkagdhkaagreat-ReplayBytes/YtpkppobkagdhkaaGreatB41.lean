/-
 Rpa.
-/
import Derived.Test.YtpkppobkagdhkaaGreatB29
import Derived.Test.YtpkppobkagdhkaaGreatB40
set_option linter.unusedVariables false
set_option linter.unusedSimpArgs false
set_option maxRecDepth 100000
set_option maxHeartbeats 1000000
namespace Go.Proofs.YtpkppobkagdhkaaGreat
open Go.RowKit Go.Maps Utf
def hha (M : List (Int × Nat)) : List Value := M.map fun p => .int .i64 p.1
def hnu (M : List (Int × Nat)) : List Value := M.map fun p => .int .i64 (p.2 : Int)
theorem hha_len (M : List (Int × Nat)) : (hha M).length = M.length := by simp [hha]
theorem hnu_len (M : List (Int × Nat)) : (hnu M).length = M.length := by simp [hnu]
theorem hha_snoc (M : List (Int × Nat)) (x : Int) (n : Nat) : hha (M ++ [(x,n)]) = hha M ++ [.int .i64 x] := by simp [hha]
theorem hnu_snoc (M : List (Int × Nat)) (x : Int) (n : Nat) : hnu (M ++ [(x,n)]) = hnu M ++ [.int .i64 (n : Int)] := by simp [hnu]
def ni (M : List (Int × Nat)) (h : Int) : Int := match num M h with | some n => (n : Int) | none => -1
theorem num_at : ∀ {M : List (Int × Nat)} {h : Int} {i : Nat} (hi : i < M.length),(∀ j (hj : j < M.length),j < i → M[j].1 ≠ h) → M[i].1 = h → num M h = some M[i].2
 | p :: l,h,0,_,_,e => by simp only [num]; exact if_pos e
 | p :: l,h,i + 1,hi,hn,e => by
   simp only [num]
   rw [if_neg (show ¬ p.1 = h from hn 0 (by simp) (by omega))]
   exact num_at (by simpa using hi) (fun j hj hji => hn (j + 1) (by simpa using hj) (by omega)) e
theorem num_not : ∀ {M : List (Int × Nat)} {h : Int},(∀ j (hj : j < M.length),M[j].1 ≠ h) → num M h = none
 | [],_,_ => rfl
 | p :: l,h,hn => by
   simp only [num]
   rw [if_neg (show ¬ p.1 = h from hn 0 (by simp))]
   exact num_not (fun j hj => hn (j + 1) (by simpa using hj))
structure Pd (tag : Nat → Nat) (w : World) (b d : Nat) (l1 l2 : Sl) (s : Py) (k : Nat) : Prop where
 hd : At w b #[.pointer (some ⟨d,0,none⟩),.slice l1.1 l1.2.1 l1.2.2,.slice l2.1 l2.2.1 l2.2.2] 104
 tb : tag b = 7
 dn : Dn tag w d s.q s.A
 o1 : Own w 3 (.slice l1.1 l1.2.1 l1.2.2) (hha s.M)
 t1 : ∀ x,x ∈ blk (.slice l1.1 l1.2.1 l1.2.2) → tag x = 7
 o2 : Own w 3 (.slice l2.1 l2.2.1 l2.2.2) (hnu s.M)
 t2 : ∀ x,x ∈ blk (.slice l2.1 l2.2.1 l2.2.2) → tag x = 7
 dj : ∀ x,x ∈ blk (.slice l1.1 l1.2.1 l1.2.2) → x ∉ blk (.slice l2.1 l2.2.1 l2.2.2)
 b1 : b ∉ blk (.slice l1.1 l1.2.1 l1.2.2)
 b2 : b ∉ blk (.slice l2.1 l2.2.1 l2.2.2)
 fit : s.Fit k
structure Qv (tag : Nat → Nat) (w : World) (tag' : Nat → Nat) (w' : World) : Prop where
 os : w'.os = w.os
 tape : w'.tape = w.tape
 output : w'.output = w.output
 size : w.heap.size ≤ w'.heap.size
 block : ∀ k,k < w.heap.size → tag k ≠ 3 → tag k ≠ 4 → tag k ≠ 7 → w'.heap[k]? = w.heap[k]?
 tg : ∀ k,k < w.heap.size → tag' k = tag k
section
variable {tag tag' tag'' : Nat → Nat} {w w' w'' : World} {b d k : Nat} {l1 l2 : Sl} {s : Py} {o : Ot} {p : Sl}
theorem Qv.trans (h : Qv tag w tag' w') (g : Qv tag' w' tag'' w'') : Qv tag w tag'' w'' :=
 ⟨g.os.trans h.os,g.tape.trans h.tape,g.output.trans h.output,Nat.le_trans h.size g.size,fun x hx h3 h4 h7 => (g.block x (Nat.lt_of_lt_of_le hx h.size) (by rw [h.tg x hx]; exact h3) (by rw [h.tg x hx]; exact h4) (by rw [h.tg x hx]; exact h7)).trans (h.block x hx h3 h4 h7),fun x hx => (g.tg x (Nat.lt_of_lt_of_le hx h.size)).trans (h.tg x hx)⟩
theorem Dv.qv (h : Dv tag w tag' w') : Qv tag w tag' w' := ⟨h.os,h.tape,h.output,h.size,fun x hx h3 h4 _ => h.block x hx h3 h4,h.tg⟩
theorem Qv.of_kp {S : List Nat} (k : Kp S w w') (hS : ∀ x,x ∈ S → x < w.heap.size → tag x = 3 ∨ tag x = 4 ∨ tag x = 7) (ht : ∀ x,x < w.heap.size → tag' x = tag x) : Qv tag w tag' w' := ⟨k.os,k.tape,k.output,k.size,fun x hx h3 h4 h7 => k.block x hx (fun hs => by rcases hS x hs hx with e | e | e <;> omega),ht⟩
theorem Qv.of_kp0 (k : Kp [] w w') : Qv tag w tag w' := Qv.of_kp k (fun x hx => by simp at hx) (fun _ _ => rfl)
theorem Qv.kp (h : Qv tag w tag' w') (h0 : ∀ x,x < w.heap.size → tag x = 0) : Kp [] w w' := ⟨h.os,h.tape,h.output,h.size,fun x hx _ => h.block x hx (by rw [h0 x hx]; omega) (by rw [h0 x hx]; omega) (by rw [h0 x hx]; omega)⟩
theorem Dn.sm (h : Dn tag w d s.q s.A) (hb : ∀ x,x < w.heap.size → tag x = 3 ∨ tag x = 4 ∨ tag x = 5 → w'.heap[x]? = w.heap[x]?) (ht : ∀ x,x < w.heap.size → tag' x = tag x) : Dn tag' w' d s.q s.A := by
 obtain ⟨g,o,c,pl,h⟩ := h
 exact ⟨g,o,c,pl,h.sm hb ht⟩
theorem Pd.re (h : Pd tag w b d l1 l2 s k) (kp : Kp [] w w') (hg : ∀ x,x < w.heap.size → tag' x = tag x) : Pd tag' w' b d l1 l2 s k :=
 ⟨h.hd.kept kp (by simp),by rw [hg b h.hd.lt]; exact h.tb,h.dn.sm (fun x hx _ => kp.block x hx (by simp)) hg,h.o1.keep kp (fun _ _ => by simp),fun x hx => by rw [hg x (h.o1.lt x hx)]; exact h.t1 x hx,h.o2.keep kp (fun _ _ => by simp),fun x hx => by rw [hg x (h.o2.lt x hx)]; exact h.t2 x hx,h.dj,h.b1,h.b2,h.fit⟩
theorem Pd.kept (h : Pd tag w b d l1 l2 s k) (kp : Kp [] w w') : Pd tag w' b d l1 l2 s k := h.re kp (fun _ _ => rfl)
theorem Pd.up (h : Pd tag w b d l1 l2 s k) (hk : k < 1300) : Pd tag w b d l1 l2 s (k + 1) := ⟨h.hd,h.tb,h.dn,h.o1,h.t1,h.o2,h.t2,h.dj,h.b1,h.b2,h.fit.succ hk⟩
theorem Pd.dv (h : Pd tag w b d l1 l2 s k) (m : Dv tag w tag' w') {q : Bool} {A : Ar} {j : Nat} (p : Dn tag' w' d q A) (f : (Py.mk A q s.M).Fit j) : Pd tag' w' b d l1 l2 ⟨A,q,s.M⟩ j := by
 classical
 have kp : Kp ((List.range w.heap.size).filter fun x => decide (tag x = 3 ∨ tag x = 4)) w w' := ⟨m.os,m.tape,m.output,m.size,fun x hx hn => by
  simp only [List.mem_filter,List.mem_range,decide_eq_true_eq,not_and,not_or] at hn
  exact m.block x hx (hn hx).1 (hn hx).2⟩
 have n7 : ∀ x,tag x = 7 → x ∉ (List.range w.heap.size).filter fun x => decide (tag x = 3 ∨ tag x = 4) := fun x e hm => by
  simp only [List.mem_filter,decide_eq_true_eq] at hm
  omega
 exact ⟨h.hd.kept kp (n7 b h.tb),by rw [m.tg b h.hd.lt]; exact h.tb,p,h.o1.keep kp (fun x hx => n7 x (h.t1 x hx)),fun x hx => by rw [m.tg x (h.o1.lt x hx)]; exact h.t1 x hx,h.o2.keep kp (fun x hx => n7 x (h.t2 x hx)),fun x hx => by rw [m.tg x (h.o2.lt x hx)]; exact h.t2 x hx,h.dj,h.b1,h.b2,f⟩
theorem Pd.head (h : Pd tag w b d l1 l2 s k) : w.cell? ⟨b,0,none⟩ = some (.pointer (some ⟨d,0,none⟩)) ∧ w.cell? ⟨b,1,none⟩ = some (.slice l1.1 l1.2.1 l1.2.2) ∧ w.cell? ⟨b,2,none⟩ = some (.slice l2.1 l2.2.1 l2.2.2) := ⟨h.hd.cell 0,h.hd.cell 1,h.hd.cell 2⟩
theorem Pd.lens (h : Pd tag w b d l1 l2 s k) : l1.2.1 = s.M.length ∧ l2.2.1 = s.M.length := by
 have h1 := (Rb.of_own h.o1).len
 have h2 := (Rb.of_own h.o2).len
 rw [hha_len] at h1
 rw [hnu_len] at h2
 exact ⟨h1,h2⟩
theorem node_any (h : Pd tag w b d l1 l2 s k) (x : Int) :
  Calls Tryz.prog 49 #[.pointer (some ⟨b,0,none⟩),.int .i64 x] w fun e w' => e = .returned (.int .i64 (ni s.M x)) ∧ w' = w := by
 obtain ⟨_,c1,c2⟩ := h.head
 obtain ⟨e1,e2⟩ := h.lens
 have hl := h.fit.len
 have hk := h.fit.hk
 have HC : Hid (∀ i (hi : i < s.M.length),(∃ b7 o7,l1.1 = some ⟨b7,o7,none⟩ ∧ w.cell? ⟨b7,o7 + i,none⟩ = some (.int .i64 s.M[i].1)) ∧ ∃ b8 o8,l2.1 = some ⟨b8,o8,none⟩ ∧ w.cell? ⟨b8,o8 + i,none⟩ = some (.int .i64 (s.M[i].2 : Int))) := fun i hi => by
  obtain ⟨b7,o7,f1,f2⟩ := (Rb.of_own h.o1).at' i (by rw [e1]; exact hi)
  obtain ⟨b8,o8,f3,f4⟩ := (Rb.of_own h.o2).at' i (by rw [e2]; exact hi)
  exact ⟨⟨b7,o7,f1,by rw [f2]; simp [hha,hi]⟩,b8,o8,f3,by rw [f4]; simp [hnu,hi]⟩
 clear h
 rw [e1] at c1
 rw [e2] at c2
 obtain ⟨a1,n1,z1⟩ := l1
 obtain ⟨a2,n2,z2⟩ := l2
 simp only at c1 c2 HC e1 e2
 clear e1 e2
 generalize s.M = M at *
 obtain ⟨R,hR⟩ : ∃ R,ni M x = R := ⟨_,rfl⟩
 rw [hR]
 have HR : Hid (ni M x = R) := hR
 clear hR
 go_enter Tryz.func49,Tryz.ntmps49
 go_wp2_with fail
 go_loopw [5] (fun v wr => ∃ i : Nat,v = .int .i64 (i : Int) ∧ i ≤ M.length ∧ wr = w ∧ ∀ j (hj : j < M.length),j < i → M[j].1 ≠ x) (fun v _ => M.length - (intOf v).toNat)
 case atStart => exact ⟨0,rfl,Nat.zero_le _,rfl,fun j _ hj => by omega⟩
 case round =>
  obtain ⟨i,rfl,hi,rfl,hn⟩ := hrel
  by_cases hlt : i < M.length
  ·obtain ⟨⟨b7,o7,rfl,f1⟩,b8,o8,rfl,f2⟩ := HC.out i hlt
   have j0 : (0 : Int) ≤ (i : Int) := by omega
   have j1 : (i : Int) < (M.length : Int) := by omega
   by_cases he : M[i].1 = x
   ·have hR2 := HR.out
    unfold ni at hR2
    rw [num_at hlt hn he] at hR2
    simp only at hR2
    rw [hR2] at f2
    have t1 : (M[i].1 == x) = true := by simpa using he
    clear HC HR hn he hR2
    generalize M[i].1 = y at *
    go_wp2
    go_ret
    exact ⟨rfl,rfl⟩
   ·have t1 : (M[i].1 == x) = false := by simpa using he
    have hn2 : Hid (∀ j (hj : j < M.length),j < i + 1 → M[j].1 ≠ x) := fun j hj hji => by
     by_cases e : j = i
     ·subst e; exact he
     ·exact hn j hj (by omega)
    clear hn he f2
    generalize M[i].1 = y at f1 t1
    go_wp2
    go_roundw
    case rel => exact ⟨i + 1,by go_num,by omega,by trivial,hn2.out⟩
    case measure => simp [intOf]; omega
  ·obtain rfl : i = M.length := by omega
   have hR2 : R = -1 := by
    rw [← HR.out]
    unfold ni
    rw [num_not (fun j hj => hn j hj hj)]
   subst hR2
   clear HC HR hn hlt hi
   go_wp2
   go_ret
   exact ⟨rfl,rfl⟩
theorem rplayer_any (w : World) (tag : Nat → Nat) :
  Calls Tryz.prog 30 #[] w fun e w' => ∃ b d l1 l2 tag',e = .returned (.pointer (some ⟨b,0,none⟩)) ∧ Pd tag' w' b d l1 l2 Py.first 0 ∧ Qv tag w tag' w' := by
 have HN := rnew_any w tag
 have HF : Hid (∀ d tag1 W1,Dn tag1 W1 d false Ar.first → Dv tag w tag1 W1 → ∃ b' d' l1 l2 tag',(some ⟨W1.heap.size + 2,0,none⟩ : Option Addr) = some ⟨b',0,none⟩ ∧ Pd tag' (((W1.alloc (.cells #[.int .i64 0] 3)).alloc (.cells #[.int .i64 0] 3)).alloc (.cells #[.pointer (some ⟨d,0,none⟩),.slice (some ⟨W1.heap.size,0,none⟩) 1 1,.slice (some ⟨W1.heap.size + 1,0,none⟩) 1 1] 104)) b' d' l1 l2 Py.first 0 ∧ Qv tag w tag' (((W1.alloc (.cells #[.int .i64 0] 3)).alloc (.cells #[.int .i64 0] 3)).alloc (.cells #[.pointer (some ⟨d,0,none⟩),.slice (some ⟨W1.heap.size,0,none⟩) 1 1,.slice (some ⟨W1.heap.size + 1,0,none⟩) 1 1] 104))) := fun d tag1 W1 d1 v1 => by
  have s2 : (W1.alloc (.cells #[.int .i64 0] 3)).heap.size = W1.heap.size + 1 := by simp
  have s3 : ((W1.alloc (.cells #[.int .i64 0] 3)).alloc (.cells #[.int .i64 0] 3)).heap.size = W1.heap.size + 2 := by simp
  have k13 : Kp [] W1 (((W1.alloc (.cells #[.int .i64 0] 3)).alloc (.cells #[.int .i64 0] 3)).alloc (.cells #[.pointer (some ⟨d,0,none⟩),.slice (some ⟨W1.heap.size,0,none⟩) 1 1,.slice (some ⟨W1.heap.size + 1,0,none⟩) 1 1] 104)) := (((Kp.refl _ _).alloc _).alloc _).alloc _
  have hg : ∀ x,x < W1.heap.size → (fun x => if x < W1.heap.size then tag1 x else 7) x = tag1 x := fun x hx => if_pos hx
  have hd := At.new ((W1.alloc (.cells #[.int .i64 0] 3)).alloc (.cells #[.int .i64 0] 3)) #[.pointer (some ⟨d,0,none⟩),.slice (some ⟨W1.heap.size,0,none⟩) 1 1,.slice (some ⟨W1.heap.size + 1,0,none⟩) 1 1] 104
  rw [s3] at hd
  have o1 : Own (W1.alloc (.cells #[.int .i64 0] 3)) 3 (.slice (some ⟨W1.heap.size,0,none⟩) 1 1) [.int .i64 0] := own_new W1 3 _ [.int .i64 0] 1 (by simp) (by unfold maxLen; omega) (by simp) (fun j hj => by simp) 1 rfl
  have o2 : Own ((W1.alloc (.cells #[.int .i64 0] 3)).alloc (.cells #[.int .i64 0] 3)) 3 (.slice (some ⟨W1.heap.size + 1,0,none⟩) 1 1) [.int .i64 0] := by
   have := own_new (W1.alloc (.cells #[.int .i64 0] 3)) 3 #[.int .i64 0] [.int .i64 0] 1 (by simp) (by unfold maxLen; omega) (by simp) (fun j hj => by simp) 1 rfl
   rw [s2] at this
   exact this
  refine ⟨W1.heap.size + 2,d,(some ⟨W1.heap.size,0,none⟩,1,1),(some ⟨W1.heap.size + 1,0,none⟩,1,1),fun x => if x < W1.heap.size then tag1 x else 7,rfl,⟨hd,if_neg (by omega),?_,?_,?_,?_,?_,?_,?_,?_,Py.first_fit⟩,?_⟩
  ·obtain ⟨g,o,c,pl,h⟩ := d1
   exact ⟨g,o,c,pl,h.sm (fun x hx _ => k13.block x hx (by simp)) hg⟩
  ·exact (o1.keep ((Kp.refl [] _).alloc _) (fun _ _ => by simp)).keep ((Kp.refl [] _).alloc _) (fun _ _ => by simp)
  ·intro x hx
   simp [blk] at hx
   subst hx
   exact if_neg (by omega)
  ·exact o2.keep ((Kp.refl [] _).alloc _) (fun _ _ => by simp)
  ·intro x hx
   simp [blk] at hx
   subst hx
   exact if_neg (by omega)
  ·intro x hx
   simp [blk] at hx ⊢
   omega
  ·simp [blk]
  ·simp [blk]
  ·exact v1.qv.trans (Qv.of_kp k13 (fun x hx => by simp at hx) hg)
 go_enter Tryz.func30,Tryz.ntmps30
 go_wp2_with (go_at_call 47; refine HN.mono ?_; rintro e W1 ⟨d,tag1,rfl,d1,v1,_⟩; have X9 := HF.out d tag1 W1 d1 v1; have X9 : Hid _ := X9)
 go_ret
 obtain ⟨b',d',l1,l2,tag',e,r⟩ := X9.out
 cases e
 exact ⟨_,d',l1,l2,tag',rfl,r⟩
end
end Go.Proofs.YtpkppobkagdhkaaGreat
