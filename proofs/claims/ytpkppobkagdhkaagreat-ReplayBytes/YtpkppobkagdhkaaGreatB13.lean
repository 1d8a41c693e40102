/-
 Ints Enter.
-/
import Derived.Test.YtpkppobkagdhkaaGreatB11
import Derived.WalkLawsBesides
set_option linter.unusedVariables false
set_option linter.unusedSimpArgs false
set_option maxRecDepth 100000
set_option maxHeartbeats 1000000
namespace Go.Proofs.YtpkppobkagdhkaaGreat
open Go.RowKit
theorem infoI : (Tryz.prog.info? 3).map (fun i => (i.zero,i.size,i.bytes)) = some (some (.int .i64 0),1,8) := by kernel_rfl
theorem zvI (w : World) : (zeroValue 3).run Tryz.prog w = .ok (.int .i64 0) w := by kernel_rfl
theorem ip_new (w : World) : Calls Tryz.prog 124 #[] w fun e w' => e = .returned (.pointer (some ⟨w.heap.size,0,none⟩)) ∧ w' = w.alloc (.cells #[.slice none 0 0] 180) := by
 go_enter Tryz.func124,Tryz.ntmps124
 go_wp2
 go_ret
 exact ⟨rfl,rfl⟩
theorem ip_push (w : World) (p : Nat) (v : Value) (n : Nat) (xs : List Value) (a : Int) (h : Pk 1 w 180 3 p v n xs) (hl : n < 100000) :
  Calls Tryz.prog 133 #[.pointer (some ⟨p,0,none⟩),.int .i64 a] w fun e w' => e = .returned (.tuple #[]) ∧ Tk 1 w w' 180 3 p v (n + 1) (xs ++ [.int .i64 a]) := by
 obtain ⟨ao,c,rfl,hc,hf,hnc,hpl,_⟩ := h.out
 obtain ⟨hp,hown,hpb⟩ := h
 obtain ⟨w1,hw1⟩ : ∃ w1,w1 = w.alloc (.cells #[.int .i64 a] 3) := ⟨_,rfl⟩
 have hk1 : Kp [] w w1 := by rw [hw1]; exact (Kp.refl _ _).alloc _
 have hown1 : OwnK 1 w1 3 (.slice ao n c) n xs := hown.keep hk1 (fun _ _ => by simp)
 have hq : w1.heap[w.heap.size]? = some (.cells #[.int .i64 a] 3 (0,0)) := by rw [hw1]; exact heap_new _ _
 obtain ⟨v',w2,hrun,hown2,hk2,hb2,a2,c2,hv2⟩ := appK Tryz.underlying61 infoI rfl (by decide) w1 _ n xs hown1 _ 1 _ (src_new Tryz.underlying61 hq [.int .i64 a] rfl (fun u hu => by simp at hu; rw [hu]; rfl)) (fun _ => by omega) (by omega)
 have hsz : w1.heap.size = w.heap.size + 1 := by rw [hw1]; simp
 have hp2 : w2.heap[p]? = some (.cells #[.slice ao n c] 180 (0,0)) := by
  rw [hk2.block p (by omega) hpb,hk1.block p hpl (by simp)]; exact hp
 have hc2 : w2.cell? ⟨p,0,none⟩ = some (.slice ao n c) := by rw [cell_of hp2]; rfl
 have hf2 : w2.frozen? ⟨p,0,none⟩ = false := frozen_of hp2 0
 have hfin : Hid (Tk 1 w (w2.setCell ⟨p,0,none⟩ v') 180 3 p (.slice ao n c) (n + 1) (xs ++ [.int .i64 a])) := by
  refine Tk.mk hpl hp2 hpb hown2 ((hk1.mono (T := p :: blk _) (fun y hy => by simp at hy)).trans hk2 (fun y hy => Or.inl (by simp [hy]))) (fun k hk => ?_)
  rcases hb2 k hk with h1 | h1
  ·exact Or.inl h1
  ·right; omega
 rw [hw1] at hrun
 subst hv2
 have hc1 : (w.alloc (.cells #[.int .i64 a] 3)).cell? ⟨p,0,none⟩ = some (.slice ao n c) := by rw [← hw1]; exact cell_of ((hk1.block p hpl (by simp)).trans hp) 0
 clear hk1 hown1 hown2 hk2 hb2 hp2 hown hq hsz hw1 hp hpb
 go_enter Tryz.func133,Tryz.ntmps133
 go_wp2_with (at_builtin; refine Lib.wpList_append_run _ rfl _ _ _ _ rfl _ _ rfl rfl _ _ (hrun _) ?_)
 go_end0
 exact ⟨rfl,hfin.out⟩
theorem ip_holds_in (w : World) (p : Nat) (v : Value) (n : Nat) (xs : List Value) (i : Nat) (h : Pk 1 w 180 3 p v n xs) (h1 : i < n) :
  Calls Tryz.prog 141 #[.pointer (some ⟨p,0,none⟩),.int .i64 i] w fun e w' => e = .returned (.bool true) ∧ w' = w := by
 obtain ⟨ao,c,rfl,hc,hf,_⟩ := h.out
 clear h
 have h2 : (0 : Int) ≤ (i : Int) := by omega
 have h3 : (i : Int) < (n : Int) := by omega
 go_enter Tryz.func141,Tryz.ntmps141
 go_wp2
 go_ret
 exact ⟨rfl,rfl⟩
theorem ip_at_in (w : World) (p : Nat) (v : Value) (n : Nat) (xs : List Value) (i : Nat) (a : Int) (h : Pk 1 w 180 3 p v n xs) (h1 : i < n) (e0 : xs[i]? = some (.int .i64 a)) (hn : n < 1000000) :
  Calls Tryz.prog 139 #[.pointer (some ⟨p,0,none⟩),.int .i64 i] w fun e w' => e = .returned (.tuple #[.int .i64 a,.bool true]) ∧ w' = w := by
 have hh := ip_holds_in w p v n xs i h h1
 obtain ⟨ao,c,hv,hc,hf,hnc,hpl,hcs⟩ := h.out
 obtain ⟨g,o,rfl,hgp,hcs⟩ := hcs (by omega)
 have c0 := (hcs i (by omega)).1
 rw [e0] at c0
 have h2 : (0 : Int) ≤ (i : Int) := by omega
 have h3 : (i : Int) < (n : Int) := by omega
 clear h hcs hv e0
 go_enter Tryz.func139,Tryz.ntmps139
 go_wp2_with (go_at_call 141; refine hh.mono ?_; rintro e w' ⟨rfl,hw⟩; have hw2 := hw.symm; clear hw; subst hw2)
 go_ret2
 exact ⟨rfl,rfl⟩
theorem ip_delete (w : World) (g o n c : Nat) (xs ys : List Value) (hown : OwnK 1 w 3 (.slice (some ⟨g,o,none⟩) (n + 1) c) (n + 1) (xs ++ ys)) (hx : xs.length = n * 1) (hl : n < 100000) :
  Calls Tryz.prog 140 #[.slice (some ⟨g,o,none⟩) (n + 1) c,.int .i64 (n : Int),.int .i64 ((n : Int) + 1)] w fun e w' => e = .returned (.slice (some ⟨g,o,none⟩) n c) ∧ OwnK 1 w' 3 (.slice (some ⟨g,o,none⟩) n c) n xs ∧ Kp [g] w w' := by
 have HF : Hid (OwnK 1 (w.drew.setCells g (o + n * 1) [.int .i64 0]) 3 (.slice (some ⟨g,o,none⟩) n c) n xs ∧ Kp [g] w (w.drew.setCells g (o + n * 1) [.int .i64 0])) :=
  ⟨(hown.keep (Kp.refl [] w).drew (fun _ _ => by simp)).pop hx rfl,Kp.setCells g (Or.inl (by simp)) _ _ _ (Kp.refl _ _).drew⟩
 rw [Nat.mul_one] at HF
 have hnc : n + 1 ≤ c := by
  rcases hown.2 with ⟨h1,_⟩ | ⟨g',o',cap',cur,hv,hg,h1,h2,h3,h4⟩
  ·cases h1
  ·simp only [Value.slice.injEq] at hv
   omega
 have HC : ∀ ty,(Builtin.clear_ #[61] ty #[.slice (some ⟨g,o + n,none⟩) 1 (c - n)]).run Tryz.prog w.drew = .ok (.tuple #[]) (w.drew.setCells g (o + n) [.int .i64 0]) := fun ty => by
  rcases hown.2 with ⟨h1,_⟩ | ⟨g',o',cap',cur,hv,hg,h1,h2,h3,h4⟩
  ·cases h1
  ·simp only [Value.slice.injEq,Option.some.injEq,Addr.mk.injEq] at hv
   obtain ⟨⟨rfl,rfl,_⟩,_,rfl⟩ := hv
   exact clear_one w.drew 61 3 ty (.int .i64 0) _ Tryz.underlying61 zvI rfl (fun u hu => by simp at hu; rw [hu]; rfl) g (o + n) (c - n)
    (fun j hj => by
     show (w.cell? _).isSome = true
     simp at hj
     rw [cell_of hg,Array.getElem?_eq_getElem (by omega)]; rfl) (fun j hj => frozen_of (w := w) hg _)
 clear hown hx
 have i1 : (0 : Int) ≤ (n : Int) := by omega
 have i4 : (0 : Int) ≤ (n : Int) + 1 := by omega
 have i5 : (n : Int) ≤ (n : Int) + 1 := by omega
 by_cases hlt : n + 1 < c
 ·have i2 : (n : Int) ≤ (c : Int) := by omega
  have i3 : (n : Int) + 1 ≤ (c : Int) := by omega
  have i6 : ¬ c = n + 1 := by omega
  have HB := app_none (P := Tryz.prog) Tryz.underlying61 infoI w.drew g o n c ⟨g,o + (n + 1),none⟩ (c - (n + 1)) (by omega)
  go_enter Tryz.func140,Tryz.ntmps140
  go_wp2_with fail
  go_region_held3 (fun _ => True) (trivial)
   (first | refine step_appR (by rfl) _ _ 61 (by rfl) _ _ (by rfl) (by rfl) HB ?_)
  go_wp2_with (at_builtin; refine wpList_clear_run _ rfl _ _ rfl _ rfl HC ?_)
  go_ret
  exact ⟨rfl,HF.out⟩
 ·obtain rfl : c = n + 1 := by omega
  rw [show n + 1 - n = 1 by omega] at HC
  go_enter Tryz.func140,Tryz.ntmps140
  go_wp2_with fail
  go_region_held3 (fun _ => True) (trivial)
   (fail)
  go_wp2_with (at_builtin; refine wpList_clear_run _ rfl _ _ rfl _ rfl HC ?_)
  go_ret
  exact ⟨rfl,HF.out⟩
theorem ip_cut (w : World) (p : Nat) (v : Value) (n : Nat) (xs : List Value) (a : Int) (h : Pk 1 w 180 3 p v (n + 1) (xs ++ [.int .i64 a])) (hl : n < 100000) :
  Calls Tryz.prog 134 #[.pointer (some ⟨p,0,none⟩),.int .i64 n] w fun e w' => e = .returned (.tuple #[.int .i64 a,.bool true]) ∧ Tk 1 w w' 180 3 p v n xs := by
 have hx : xs.length = n * 1 := by have := h.2.1.1; rw [List.length_append] at this; simp at this; omega
 have H1 := ip_at_in w p v (n + 1) _ n a h (by omega) (by rw [List.getElem?_append_right (by omega)]; simp [hx]) (by omega)
 obtain ⟨ao,c,rfl,hc,hf,hnc,hpl,hcs⟩ := h.out
 obtain ⟨g,o,rfl,hgp,_⟩ := hcs (by omega)
 obtain ⟨hp,hown,hpb⟩ := h
 have HD := ip_delete w g o n c xs _ hown hx hl
 have HF : Hid (∀ w3,OwnK 1 w3 3 (.slice (some ⟨g,o,none⟩) n c) n xs → Kp [g] w w3 → Tk 1 w (w3.setCell ⟨p,0,none⟩ (.slice (some ⟨g,o,none⟩) n c)) 180 3 p (.slice (some ⟨g,o,none⟩) (n + 1) c) n xs) := fun w3 O3 K3 => by
  have P3 : w3.heap[p]? = some (.cells #[.slice (some ⟨g,o,none⟩) (n + 1) c] 180 (0,0)) := (K3.block p hpl (by simp; omega)).trans hp
  exact Tk.mk hpl P3 hpb O3 (K3.mono (fun x hx => by simp at hx; subst hx; exact Or.inl (by simp [blk]))) (fun x hx => Or.inl (by simpa [blk] using hx))
 have HP : Hid (∀ w3,Kp [g] w w3 → w3.cell? ⟨p,0,none⟩ = some (.slice (some ⟨g,o,none⟩) (n + 1) c) ∧ w3.frozen? ⟨p,0,none⟩ = false) := fun w3 K3 => by
  have P3 : w3.heap[p]? = some (.cells #[.slice (some ⟨g,o,none⟩) (n + 1) c] 180 (0,0)) := (K3.block p hpl (by simp; omega)).trans hp
  exact ⟨cell_of P3 0,frozen_of P3 0⟩
 clear hcs hp hown hpb hx
 have i1 : (n : Int) < 100000 := by omega
 go_enter Tryz.func134,Tryz.ntmps134
 go_wp2_with (first
  | (go_at_call 139; refine H1.mono ?_; rintro e w' ⟨rfl,hw⟩; have hw2 := hw.symm; clear hw; subst hw2)
  | (go_at_call 140; refine HD.mono ?_; rintro e w3 ⟨rfl,O3,K3⟩; obtain ⟨cp3,fp3⟩ := HP.out _ K3))
 go_ret2
 exact ⟨rfl,HF.out _ O3 K3⟩
theorem ip_pop (w : World) (p : Nat) (v : Value) (n : Nat) (xs : List Value) (a : Int) (h : Pk 1 w 180 3 p v (n + 1) (xs ++ [.int .i64 a])) (hl : n < 100000) :
  Calls Tryz.prog 126 #[.pointer (some ⟨p,0,none⟩)] w fun e w' => e = .returned (.tuple #[.int .i64 a,.bool true]) ∧ Tk 1 w w' 180 3 p v n xs := by
 have H1 := ip_cut w p v n xs a h hl
 obtain ⟨ao,c,rfl,hc,hf,hnc,hpl,hcs⟩ := h.out
 clear hcs h
 have i1 : (n : Int) < 100000 := by omega
 go_enter Tryz.func126,Tryz.ntmps126
 go_wp2_with (go_at_call 134; refine H1.mono ?_; rintro e w2 ⟨rfl,T2⟩)
 go_ret2
 exact ⟨rfl,T2⟩
theorem ip_holds_none (w : World) (p : Nat) (v : Value) (xs : List Value) (h : Pk 1 w 180 3 p v 0 xs) :
  Calls Tryz.prog 141 #[.pointer (some ⟨p,0,none⟩),.int .i64 (-1)] w fun e w' => e = .returned (.bool false) ∧ w' = w := by
 obtain ⟨ao,c,rfl,hc,hf,_⟩ := h.out
 clear h
 go_enter Tryz.func141,Tryz.ntmps141
 go_wp2
 go_ret
 exact ⟨rfl,rfl⟩
theorem ip_at_none (w : World) (p : Nat) (v : Value) (xs : List Value) (h : Pk 1 w 180 3 p v 0 xs) :
  Calls Tryz.prog 139 #[.pointer (some ⟨p,0,none⟩),.int .i64 (-1)] w fun e w' => e = .returned (.tuple #[.int .i64 0,.bool false]) ∧ Kp [] w w' := by
 have H1 := ip_holds_none w p v xs h
 obtain ⟨ao,c,rfl,hc,hf,_⟩ := h.out
 clear h
 go_enter Tryz.func139,Tryz.ntmps139
 go_wp2_with (go_at_call 141; refine H1.mono ?_; rintro e w' ⟨rfl,hw⟩; have hw2 := hw.symm; clear hw; subst hw2)
 go_ret2
 exact ⟨rfl,Kp.refl _ _⟩
theorem ip_cut_none (w : World) (p : Nat) (v : Value) (xs : List Value) (h : Pk 1 w 180 3 p v 0 xs) :
  Calls Tryz.prog 134 #[.pointer (some ⟨p,0,none⟩),.int .i64 (-1)] w fun e w' => e = .returned (.tuple #[.int .i64 0,.bool false]) ∧ Kp [] w w' := by
 have H1 := ip_at_none w p v xs h
 clear h
 go_enter Tryz.func134,Tryz.ntmps134
 go_wp2_with (go_at_call 139; refine H1.mono ?_; rintro e w2 ⟨rfl,k2⟩)
 go_ret2
 exact ⟨rfl,k2⟩
theorem ip_pop_none (w : World) (p : Nat) (v : Value) (xs : List Value) (h : Pk 1 w 180 3 p v 0 xs) :
  Calls Tryz.prog 126 #[.pointer (some ⟨p,0,none⟩)] w fun e w' => e = .returned (.tuple #[.int .i64 0,.bool false]) ∧ Kp [] w w' := by
 have H1 := ip_cut_none w p v xs h
 obtain ⟨ao,c,rfl,hc,hf,_⟩ := h.out
 clear h
 go_enter Tryz.func126,Tryz.ntmps126
 go_wp2_with (go_at_call 134; refine H1.mono ?_; rintro e w2 ⟨rfl,k2⟩)
 go_ret2
 exact ⟨rfl,k2⟩
def Nx (w w' : World) (s : Ws) (v' : Value) : Prop := Kp (s.T :: s.M :: blk s.v) w w' ∧ ∀ x,x ∈ blk v' → x ∈ blk s.v ∨ w.heap.size ≤ x
def Ws.at (s : Ws) (v' : Value) : Ws := ⟨s.P,s.T,s.M,s.R,s.L,v'⟩
theorem Nx.refl (w : World) (s : Ws) : Nx w w s s.v := ⟨Kp.refl _ _,fun x hx => Or.inl hx⟩
theorem Nx.trans {w w1 w2 : World} {s : Ws} {v1 v2 : Value} (h : Nx w w1 s v1) (h' : Nx w1 w2 (s.at v1) v2) : Nx w w2 s v2 := by
 refine ⟨h.1.trans h'.1 (fun x hx => ?_),fun x hx => ?_⟩
 ·simp only [Ws.at,List.mem_cons] at hx
  rcases hx with rfl | rfl | hx
  ·exact Or.inl (by simp)
  ·exact Or.inl (by simp)
  ·rcases h.2 x hx with h1 | h1
   ·exact Or.inl (by simp [h1])
   ·exact Or.inr h1
 ·rcases h'.2 x hx with h1 | h1
  ·exact h.2 x h1
  ·have := h.1.size
   exact Or.inr (by omega)
theorem Wb.step {w0 w w' : World} {s : Ws} {l : Lb} {k : Fo} {p : Pl} (h : Wb w0 w s l k p) {v' : Value} (n : Nx w w' s v') (hv : ∀ x,x ∈ blk v' → x < w'.heap.size) : Wb w0 w' (s.at v') l k p := by
 obtain ⟨n1,n2⟩ := n
 have hl := h.lt
 have key : ∀ x,x ∈ s.own → x ∉ s.T :: s.M :: blk s.v → w'.heap[x]? = w.heap[x]? := fun x hx hn => n1.block x (hl x hx) hn
 obtain ⟨a1,a2,a3,a4,a5,a6,a7,a8,a9,a10⟩ := h.apart
 have hin : ∀ x,x ∈ blk s.v → x ∈ s.own := fun x hx => by simp [Ws.own,hx]
 have pP : s.P ∉ s.T :: s.M :: blk s.v := fun hx => by
  simp only [List.mem_cons] at hx
  rcases hx with h1 | h1 | h1
  ·exact a1 h1
  ·exact a2 h1
  ·exact (h.apv _ h1).1 rfl
 have pR : s.R ∉ s.T :: s.M :: blk s.v := fun hx => by
  simp only [List.mem_cons] at hx
  rcases hx with h1 | h1 | h1
  ·exact a6 h1.symm
  ·exact a8 h1.symm
  ·exact (h.apv _ h1).2.2.2.1 rfl
 have pL : s.L ∉ s.T :: s.M :: blk s.v := fun hx => by
  simp only [List.mem_cons] at hx
  rcases hx with h1 | h1 | h1
  ·exact a7 h1.symm
  ·exact a9 h1.symm
  ·exact (h.apv _ h1).2.2.2.2 rfl
 have hz := h.kp.size
 have hz' := n1.size
 refine ⟨h.kp.trans n1 (fun x hx => Or.inr (h.new x ?_)),fun x hx => ?_,fun x hx => ?_,(key _ (by simp [Ws.own]) pP).trans h.walk,(key _ (by simp [Ws.own]) pR).trans h.root,(key _ (by simp [Ws.own]) pL).trans h.top,h.node,h.apart,fun x hx => ?_,h.few⟩
 ·simp only [List.mem_cons] at hx
  rcases hx with rfl | rfl | hx
  ·simp [Ws.own]
  ·simp [Ws.own]
  ·exact hin x hx
 ·simp only [Ws.own,Ws.at,List.mem_cons] at hx
  rcases hx with rfl | rfl | rfl | rfl | rfl | hx
  ·exact h.new _ (by simp [Ws.own])
  ·exact h.new _ (by simp [Ws.own])
  ·exact h.new _ (by simp [Ws.own])
  ·exact h.new _ (by simp [Ws.own])
  ·exact h.new _ (by simp [Ws.own])
  ·rcases n2 x hx with h1 | h1
   ·exact h.new x (hin x h1)
   ·omega
 ·simp only [Ws.own,Ws.at,List.mem_cons] at hx
  rcases hx with rfl | rfl | rfl | rfl | rfl | hx
  ·have := hl s.P (by simp [Ws.own]); omega
  ·have := hl s.T (by simp [Ws.own]); omega
  ·have := hl s.M (by simp [Ws.own]); omega
  ·have := hl s.R (by simp [Ws.own]); omega
  ·have := hl s.L (by simp [Ws.own]); omega
  ·exact hv x hx
 ·rcases n2 x hx with h1 | h1
  ·exact h.apv x h1
  ·have b1 := hl s.P (by simp [Ws.own])
   have b2 := hl s.T (by simp [Ws.own])
   have b3 := hl s.M (by simp [Ws.own])
   have b4 := hl s.R (by simp [Ws.own])
   have b5 := hl s.L (by simp [Ws.own])
   simp only [Ws.at]
   exact ⟨by omega,by omega,by omega,by omega,by omega⟩
theorem Wk.step {w0 w w' : World} {s : Ws} {l : Lb} {k : Fo} {p : Pl} (h : Wb w0 w s l k p) {fs' : List Frw} {v' : Value} (n : Nx w w' s v') (hp : Pk 2 w' 168 143 s.T v' fs'.length (plC fs')) (hk : Ks w' s.M (adC fs')) (hw : Way6 w0 s.R s.L l k fs') : Wk w0 w' (s.at v') fs' l k p :=
 ⟨h.step n hp.2.1.lt,hp,hk,hw⟩
theorem wpList_update_run {P : Program} (w : World) {ops : Array Oper} {rest : List Oper} {o : Oper} {a : Act} {Q : Exit → Act → World → Prop} (hg : o.guard = none) (m x v : Operand) (t : TypeId) (hop : o.op = Op.mapUpdate t m x v)
  (mv xv vv : Value) (h1 : a.eval m = mv) (h2 : a.eval x = xv) (h3 : a.eval v = vv) {w' : World} (hrun : (Instr.mapUpdate t mv xv vv).run P w = .ok () w') (hK : wpList P ops Q rest (a.put o.dst undef) w') : wpList P ops Q (o :: rest) a w := by
 refine wpList_plain hg fun K' hK' => ?_
 unfold Oper.wp
 simp [execOp,hop,h1,h2,h3,hrun,Result.andThen]
 exact hK' _ _ hK
theorem enterR_any (w0 w : World) (s : Ws) (fs : List Frw) (l : Lb) (k : Fo) (p : Pl) (h : Wk w0 w s fs l k p) (b off : Nat) (bo : Option Addr) (m d : Nat) (f : Fo) (hc : w.cell? ⟨b,off + 5,none⟩ = some (.slice bo m d)) (hm : m = f.len)
  (ha : Lies w0 s.R s.L l k ⟨b,off,none⟩ f) (hf : ∀ g,g ∈ fs → f.cnt < g.2.1.cnt) (hn : fs.length + f.cnt ≤ (Fo.cons l k .nil).cnt) :
  Calls Tryz.prog 85 #[.pointer (some ⟨s.P,0,none⟩),.pointer (some ⟨b,off,none⟩)] w fun e w' => e = .returned (.tuple #[]) ∧ ∃ v',Wk w0 w' (s.at v') (if f.len = 0 then fs else (⟨b,off,none⟩,f,0) :: fs) l k p ∧ Nx w w' s v' := by
 by_cases h0 : f.len = 0
 ·rw [if_pos h0]
  have HF : Hid (∃ v',Wk w0 w (s.at v') fs l k p ∧ Nx w w s v') := ⟨s.v,h,Nx.refl w s⟩
  obtain rfl : m = 0 := by omega
  clear h ha hf hn hm
  go_enter Tryz.func85,Tryz.ntmps85
  go_wp2
  refine bodyPost_ret (v := .tuple #[]) (by simp [results,go_sem]) rfl ⟨rfl,HF.out⟩
 ·rw [if_neg h0]
  have hA : At6 w ⟨b,off,none⟩ f := h.b.at_way ha
  have hnot := h.b.fresh h.way hA hf
  have hlook := h.keys.look _ hA.inb (h.b.inb h.way) hnot
  have hl := h.b.lt
  have k1 : Kp [] w (w.alloc (.cells #[] 162)) := (Kp.refl _ _).alloc _
  obtain ⟨a1,a2,a3,a4,a5,a6,a7,a8,a9,a10⟩ := h.b.apart
  have inbk : ∀ x,Inb w x → Inb (w.alloc (.cells #[] 162)) x := fun x ⟨cur,e,hx⟩ => ⟨cur,e,by rw [k1.block _ (Array.getElem?_eq_some_iff.1 hx).1 (by simp)]; exact hx⟩
  obtain ⟨w2,hput,ks2,k2⟩ := (h.keys.keep k1 (by simp)).put _ (inbk _ hA.inb) (fun x hx => inbk x (h.b.inb h.way x hx)) hnot
  have hP : s.P < w.heap.size := hl s.P (by simp [Ws.own])
  have hT : s.T < w.heap.size := hl s.T (by simp [Ws.own])
  have hM : s.M < w.heap.size := hl s.M (by simp [Ws.own])
  have hcp : w.cell? ⟨s.P,0,none⟩ = some (.pointer (some ⟨s.T,0,none⟩)) := cell_of h.b.walk 0
  have hcm : w.cell? ⟨s.P,1,none⟩ = some (.map (some s.M)) := cell_of h.b.walk 1
  have hP2 : w2.heap[s.P]? = some (.cells #[.pointer (some ⟨s.T,0,none⟩),.map (some s.M),.bool false] 146 (0,0)) := (k2.block _ (by simp; omega) (by simp; exact a2)).trans ((k1.block _ hP (by simp)).trans h.b.walk)
  have hcp2 : w2.cell? ⟨s.P,0,none⟩ = some (.pointer (some ⟨s.T,0,none⟩)) := cell_of hP2 0
  have k12 : Kp [s.M] w w2 := (k1.mono (fun x hx => by simp at hx)).trans k2 (fun x hx => Or.inl hx)
  have hbv : ∀ x,x ∈ blk s.v → x ∉ [s.M] := fun x hx => by simp; exact (h.b.apv x hx).2.2.1
  have HPU := pl_push w2 s.T s.v fs.length (plC fs) ⟨b,off,none⟩ 0 (h.pile.keep k12 (by simp; exact a5) hbv) (by have := h.b.few; rw [Fo.cnt_cons,Fo.cnt_nil] at hn; omega)
  have HF : Hid (∀ w3,Tk 2 w2 w3 168 143 s.T s.v (fs.length + 1) (plC fs ++ pc ⟨b,off,none⟩ 0) → ∃ v',Wk w0 w3 (s.at v') ((⟨b,off,none⟩,f,0) :: fs) l k p ∧ Nx w w3 s v') := fun w3 ⟨v',t1,t2,t3⟩ => by
   have hn3 : Nx w w3 s v' := ⟨(k12.mono (T := s.T :: s.M :: blk s.v) (fun x hx => Or.inl (by simp at hx; simp [hx]))).trans t2 (fun x hx => by
    simp only [List.mem_cons] at hx
    rcases hx with rfl | hx
    ·exact Or.inl (by simp)
    ·exact Or.inl (by simp [hx])),fun x hx => by
    rcases t3 x hx with h1 | h1
    ·exact Or.inl h1
    ·have := k12.size; exact Or.inr (by omega)⟩
   refine ⟨v',Wk.step h.b hn3 t1 (ks2.keep t2 (fun hx => ?_)) ⟨ha,Nat.zero_le _,hn,hf,h.way⟩,hn3⟩
   simp only [List.mem_cons] at hx
   rcases hx with h1 | h1
   ·exact a5 h1.symm
   ·exact (h.b.apv _ h1).2.2.1 rfl
  have h0' : ¬ m = 0 := by omega
  clear h hA hnot hl k1 inbk ks2 k2 hP2 k12 hbv ha hf hn hm h0
  unfold pv at HPU
  go_enter Tryz.func85,Tryz.ntmps85
  go_wp2_with (first
   | (at_mapUpdate; refine wpList_update_run _ rfl _ _ _ _ rfl _ _ _ rfl rfl rfl hput ?_)
   | (go_at_call 88; refine HPU.mono ?_; rintro e w3 ⟨rfl,t3⟩))
  go_end0
  exact ⟨rfl,HF.out _ t3⟩
theorem begin_any (w0 w : World) (l : Lb) (k : Fo) (p : Pl) (k0 : Kp [] w0 w) (h : Nd Any w0 l k p) (hn : k.cnt ≤ 20000) :
  Calls Tryz.prog 44 #[wv l p] w fun e w' => ∃ s fs,e = .returned (.pointer (some ⟨s.P,0,none⟩)) ∧ Wk w0 w' s fs l k p ∧ toC fs = (Fo.cons l k .nil).vis 0 ∧ Kp [] w w' ∧ ∀ x,x ∈ s.own → w.heap.size ≤ x := by
 obtain ⟨W,hW⟩ : ∃ W,W = (((((w.alloc (.cells (six l p).toArray 40)).alloc (.cells #[.slice none 0 0] 168)).alloc (.map #[] 0)).alloc (.cells #[.pointer (some ⟨w.heap.size + 1,0,none⟩),.map (some (w.heap.size + 2)),.bool false] 146)).alloc (.cells (six l p).toArray 40)).alloc (.cells #[.int .i64 0,.int .i64 0,.string ⟨#[]⟩,.slice none 0 0,.string ⟨#[]⟩,.slice (some ⟨w.heap.size + 4,0,none⟩) 1 1] 40) := ⟨_,rfl⟩
 have hk : Kp [] w W := by rw [hW]; exact ((((((Kp.refl _ _).alloc _).alloc _).alloc _).alloc _).alloc _).alloc _
 have g1 : W.heap[w.heap.size + 1]? = some (.cells #[.slice none 0 0] 168 (0,0)) := by
  rw [hW,Below.heap_alloc _ _ _ (by simp),Below.heap_alloc _ _ _ (by simp),Below.heap_alloc _ _ _ (by simp),Below.heap_alloc _ _ _ (by simp)]
  exact heap_new' _ _ _ (by simp)
 have g2 : W.heap[w.heap.size + 2]? = some (.map #[] 0) := by
  rw [hW,Below.heap_alloc _ _ _ (by simp),Below.heap_alloc _ _ _ (by simp),Below.heap_alloc _ _ _ (by simp)]
  exact heap_new' _ _ _ (by simp)
 have g3 : W.heap[w.heap.size + 3]? = some (.cells #[.pointer (some ⟨w.heap.size + 1,0,none⟩),.map (some (w.heap.size + 2)),.bool false] 146 (0,0)) := by
  rw [hW,Below.heap_alloc _ _ _ (by simp),Below.heap_alloc _ _ _ (by simp)]
  exact heap_new' _ _ _ (by simp)
 have g4 : W.heap[w.heap.size + 4]? = some (.cells (six l p).toArray 40 (0,0)) := by
  rw [hW,Below.heap_alloc _ _ _ (by simp)]
  exact heap_new' _ _ _ (by simp)
 have g5 : W.heap[w.heap.size + 5]? = some (.cells #[.int .i64 0,.int .i64 0,.string ⟨#[]⟩,.slice none 0 0,.string ⟨#[]⟩,.slice (some ⟨w.heap.size + 4,0,none⟩) 1 1] 40 (0,0)) := by
  rw [hW]
  exact heap_new' _ _ _ (by simp)
 have hsz : W.heap.size = w.heap.size + 6 := by rw [hW]; simp
 have hwk : Wk w0 W ⟨w.heap.size + 3,w.heap.size + 1,w.heap.size + 2,w.heap.size + 5,w.heap.size + 4,.slice none 0 0⟩ [] l k p :=
  ⟨⟨k0.trans hk (fun x hx => Or.inl hx),fun x hx => by have := k0.size; simp [Ws.own,blk] at hx; omega,fun x hx => by simp [Ws.own,blk] at hx; omega,g3,g5,g4,h,⟨by simp,by simp,by simp,by simp,by simp,by simp,by simp,by simp,by simp,by simp⟩,fun x hx => by simp [blk] at hx,hn⟩,⟨g1,⟨rfl,Or.inl ⟨rfl,rfl⟩⟩,by simp [blk]⟩,⟨#[],0,g2,rfl⟩,trivial⟩
 have HE := enterR_any w0 W _ [] l k p hwk (w.heap.size + 5) 0 (some ⟨w.heap.size + 4,0,none⟩) 1 1 (.cons l k .nil) (cell_of g5 5) rfl (Or.inr (Or.inl ⟨rfl,rfl⟩)) (fun g hg => by simp at hg) (by simp)
 rw [hW] at HE
 have HF : Hid (∀ w',(∃ v',Wk w0 w' (Ws.at ⟨w.heap.size + 3,w.heap.size + 1,w.heap.size + 2,w.heap.size + 5,w.heap.size + 4,.slice none 0 0⟩ v') (if (Fo.cons l k .nil).len = 0 then [] else [(⟨w.heap.size + 5,0,none⟩,.cons l k .nil,0)]) l k p ∧ Nx W w' ⟨w.heap.size + 3,w.heap.size + 1,w.heap.size + 2,w.heap.size + 5,w.heap.size + 4,.slice none 0 0⟩ v') → ∃ s fs,Ending.returned (.pointer (some ⟨w.heap.size + 3,0,none⟩)) = .returned (.pointer (some ⟨s.P,0,none⟩)) ∧ Wk w0 w' s fs l k p ∧ toC fs = (Fo.cons l k .nil).vis 0 ∧ Kp [] w w' ∧ ∀ x,x ∈ s.own → w.heap.size ≤ x) := by
  rintro w' ⟨v',h1,h2⟩
  rw [if_neg (by simp)] at h1
  refine ⟨_,_,rfl,h1,by simp [toC],hk.trans h2.1 (fun x hx => Or.inr (by simp [blk] at hx; omega)),fun x hx => ?_⟩
  simp only [Ws.own,Ws.at,List.mem_cons] at hx
  rcases hx with h3 | h3 | h3 | h3 | h3 | h3
  ·omega
  ·omega
  ·omega
  ·omega
  ·omega
  ·rcases h2.2 x h3 with h4 | h4
   ·simp [blk] at h4
   ·omega
 rw [hW] at HF
 clear k0 hsz hwk g1 g2 g3 g4 g5 hk hW W h
 simp only [six,wv] at HE HF ⊢
 have HN := pl_new
 have HM : ∀ W : World,(Instr.makeMap 144 none).run Tryz.prog W = .ok (.map (some W.heap.size)) (W.alloc (.map #[] 0)) := fun W => run_makeMap 144 W
 go_enter Tryz.func44,Tryz.ntmps44
 go_wp2_with (first
  | (go_at_call 84; refine (HN _).mono ?_; rintro e w2 ⟨rfl,rfl⟩)
  | (go_at_call 85; refine HE.mono ?_; rintro e w3 ⟨rfl,t3⟩))
 go_ret
 exact HF.out _ t3
end Go.Proofs.YtpkppobkagdhkaaGreat
