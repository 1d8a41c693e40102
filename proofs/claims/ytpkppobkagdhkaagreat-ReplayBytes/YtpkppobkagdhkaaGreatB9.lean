/-
 Olist Rts Zero.
-/
import Derived.Test.YtpkppobkagdhkaaGreatB7
import Derived.Deep.Cut
set_option linter.unusedVariables false
set_option linter.unusedSimpArgs false
set_option maxRecDepth 100000
set_option maxHeartbeats 1000000
namespace Go.Proofs.YtpkppobkagdhkaaGreat
open Go.RowKit
abbrev Oq := Ot × Sl
def qs : List Oq → List Value
 | [] => []
 | p :: l => .int .i64 p.1.kd :: .int .i64 p.1.nd :: .int .i64 p.1.pa :: .int .i64 p.1.rf :: .int .i64 p.1.ty :: .int .i64 p.1.ns :: .string p.1.nm :: .slice p.2.1 p.2.2.1 p.2.2.2 :: .string p.1.tt :: qs l
theorem qs_len : ∀ l : List Oq,(qs l).length = l.length * 9
 | [] => rfl
 | a :: l => by
   simp only [qs,List.length_cons,qs_len l]
   omega
theorem qs_append : ∀ l m : List Oq,qs (l ++ m) = qs l ++ qs m
 | [],m => rfl
 | a :: l,m => by simp only [List.cons_append,qs,qs_append l m]
theorem qs_shift (a : Oq) (l : List Oq) (m : Nat) : (qs (a :: l))[m + 9]? = (qs l)[m]? := rfl
theorem qs_at : ∀ (l : List Oq) (j i : Nat) (h : j < l.length),i < 9 → (qs l)[j * 9 + i]? = (oc l[j].1 l[j].2)[i]?
 | a :: l,0,i,_,hi => by
   match i,hi with
   | 0,_ => rfl
   | 1,_ => rfl
   | 2,_ => rfl
   | 3,_ => rfl
   | 4,_ => rfl
   | 5,_ => rfl
   | 6,_ => rfl
   | 7,_ => rfl
   | 8,_ => rfl
 | a :: l,j + 1,i,h,hi => by
   rw [show (j + 1) * 9 + i = j * 9 + i + 9 by omega,qs_shift,qs_at l j i (by simpa using h) hi]
   rfl
theorem qs_one : ∀ (l : List Oq) u,u ∈ qs l → u.oneCell' = true
 | [],u,h => by simp [qs] at h
 | a :: l,u,h => by
   simp only [qs,List.mem_cons] at h
   rcases h with rfl | rfl | rfl | rfl | rfl | rfl | rfl | rfl | rfl | h
   all_goals first | rfl | exact qs_one l u h
structure Rq (w : World) (ao : Option Addr) (n c : Nat) (q : List Oq) : Prop where
 len : n = q.length
 cap : n ≤ c
 at' : ∀ j,j < n * 9 → ∃ b off,ao = some ⟨b,off,none⟩ ∧ w.cell? ⟨b,off + j,none⟩ = (qs q)[j]?
theorem Rq.of_own {w : World} {e : TypeId} {ao : Option Addr} {n m c : Nat} {q : List Oq} (h : OwnK 9 w e (.slice ao n c) m (qs q)) : Rq w ao n c q := by
 obtain ⟨h0,h⟩ := h
 rw [qs_len] at h0
 have hm : m = q.length := by omega
 rcases h with ⟨h1,h2⟩ | ⟨g,o,cap,cur,hv,hg,h1,h2,h3,h4⟩
 ·simp only [Value.slice.injEq] at h1
  obtain ⟨rfl,rfl,rfl⟩ := h1
  exact ⟨by omega,Nat.le_refl _,fun j hj => by omega⟩
 ·simp only [Value.slice.injEq] at hv
  obtain ⟨rfl,rfl,rfl⟩ := hv
  exact ⟨hm,h1,fun j hj => ⟨g,o,rfl,by rw [cell_of hg,h4 j hj]⟩⟩
theorem Rq.keep {w w' : World} {ao : Option Addr} {n c : Nat} {q : List Oq} (h : Rq w ao n c q) (hs : ∀ a,(∃ u,w.cell? a = some u) → w'.cell? a = w.cell? a) : Rq w' ao n c q := by
 refine ⟨h.len,h.cap,fun j hj => ?_⟩
 obtain ⟨b,off,h1,h2⟩ := h.at' j hj
 exact ⟨b,off,h1,by rw [hs _ ⟨_,h2.trans (List.getElem?_eq_getElem (by rw [qs_len]; have := h.len; omega))⟩]; exact h2⟩
theorem Rq.kept {w w' : World} {ao : Option Addr} {n c : Nat} {q : List Oq} (h : Rq w ao n c q) (k : Kp [] w w') : Rq w' ao n c q :=
 h.keep (fun a ha => by
  obtain ⟨u,hu⟩ := ha
  exact k.cell (block_lt_of_cell hu) (by simp))
def Nine (w : World) (b off : Nat) (o : Ot) (p : Sl) : Prop :=
 w.cell? ⟨b,off,none⟩ = some (.int .i64 o.kd) ∧ w.cell? ⟨b,off + 1,none⟩ = some (.int .i64 o.nd) ∧ w.cell? ⟨b,off + 2,none⟩ = some (.int .i64 o.pa) ∧ w.cell? ⟨b,off + 3,none⟩ = some (.int .i64 o.rf) ∧ w.cell? ⟨b,off + 4,none⟩ = some (.int .i64 o.ty) ∧ w.cell? ⟨b,off + 5,none⟩ = some (.int .i64 o.ns) ∧ w.cell? ⟨b,off + 6,none⟩ = some (.string o.nm) ∧ w.cell? ⟨b,off + 7,none⟩ = some (.slice p.1 p.2.1 p.2.2) ∧ w.cell? ⟨b,off + 8,none⟩ = some (.string o.tt)
theorem Nine.kept {w w' : World} {b off : Nat} {o : Ot} {p : Sl} {S : List Nat} (h : Nine w b off o p) (k : Kp S w w') (hb : b ∉ S) : Nine w' b off o p := by
 obtain ⟨h0,h1,h2,h3,h4,h5,h6,h7,h8⟩ := h
 have hl : b < w.heap.size := block_lt_of_cell h0
 exact ⟨(k.cell hl hb).trans h0,(k.cell hl hb).trans h1,(k.cell hl hb).trans h2,(k.cell hl hb).trans h3,(k.cell hl hb).trans h4,(k.cell hl hb).trans h5,(k.cell hl hb).trans h6,(k.cell hl hb).trans h7,(k.cell hl hb).trans h8⟩
theorem nine_of {w : World} {b : Nat} {o : Ot} {p : Sl} (h : w.heap[b]? = some (.cells (oc o p) 24 (0,0))) : Nine w b 0 o p :=
 ⟨cell_of h 0,cell_of h 1,cell_of h 2,cell_of h 3,cell_of h 4,cell_of h 5,cell_of h 6,cell_of h 7,cell_of h 8⟩
theorem Rq.get {w : World} {ao : Option Addr} {n c : Nat} {q : List Oq} (h : Rq w ao n c q) (k : Nat) (hk : k < q.length) :
  ∃ b off,ao = some ⟨b,off,none⟩ ∧ Nine w b (off + k * 9) q[k].1 q[k].2 := by
 have hl := h.len
 obtain ⟨b,off,h1,h2⟩ := h.at' (k * 9) (by omega)
 have key : ∀ i,i < 9 → w.cell? ⟨b,off + k * 9 + i,none⟩ = (oc q[k].1 q[k].2)[i]? := fun i hi => by
  obtain ⟨b',off',h3,h4⟩ := h.at' (k * 9 + i) (by omega)
  rw [h1] at h3
  simp only [Option.some.injEq,Addr.mk.injEq] at h3
  obtain ⟨rfl,rfl,_⟩ := h3
  rw [Nat.add_assoc,h4,qs_at q k i hk hi]
 exact ⟨b,off,h1,key 0 (by omega),key 1 (by omega),key 2 (by omega),key 3 (by omega),key 4 (by omega),key 5 (by omega),key 6 (by omega),key 7 (by omega),key 8 (by omega)⟩
def Ap (w : World) (p : Oq) : Prop := Rp w p.2.1 p.2.2.1 p.2.2.2 p.1.al
theorem Ap.kept {w w' : World} {p : Oq} (h : Ap w p) (k : Kp [] w w') : Ap w' p := Rp.kept h k
def Ao (w : World) (p : Oq) : Prop := OwnK 2 w 102 (.slice p.2.1 p.2.2.1 p.2.2.2) p.2.2.1 (cs p.1.al)
theorem Ao.rp {w : World} {p : Oq} (h : Ao w p) : Ap w p := Rp.of_own h
theorem Ao.keep {w w' : World} {S : List Nat} {p : Oq} (h : Ao w p) (k : Kp S w w') (hn : ∀ x,x ∈ blk (.slice p.2.1 p.2.2.1 p.2.2.2) → x ∉ S) : Ao w' p := OwnK.keep h k hn
theorem Ao.kept {w w' : World} {p : Oq} (h : Ao w p) (k : Kp [] w w') : Ao w' p := OwnK.keep h k (fun _ _ => by simp)
theorem ar_nil (w : World) (o : Ot) (h : o.al = []) : Ao w (o,none,0,0) := by
 unfold Ao
 rw [h]
 exact ⟨rfl,Or.inl ⟨rfl,rfl⟩⟩
theorem Ao.apart {w : World} {p : Oq} {u : Value} {n : Nat} {xs : List Value} (h : Ao w p) (ho : OwnK 9 w 24 u n xs) : ∀ x,x ∈ blk (.slice p.2.1 p.2.2.1 p.2.2.2) → x ∉ blk u := by
 intro x hx hu
 obtain ⟨_,h1⟩ := h
 rcases h1 with ⟨e,_⟩ | ⟨g,o,cap,cur,e,hg,_⟩
 ·rw [e] at hx
  simp [blk] at hx
 ·rw [e] at hx
  obtain ⟨_,ho⟩ := ho
  rcases ho with ⟨rfl,_⟩ | ⟨g',o',cap',cur',rfl,hg',_⟩
  ·simp [blk] at hu
  ·simp [blk] at hx hu
   subst hx
   subst hu
   rw [hg] at hg'
   simp at hg'
def Mq (w w' : World) (ao : Option Addr) (n c : Nat) (q : List Oq) : Prop := OwnK 9 w' 24 (.slice ao n c) n (qs q) ∧ Kp [] w w' ∧ (∀ k,k ∈ blk (.slice ao n c) → w.heap.size ≤ k) ∧ ∀ p,p ∈ q → Ao w' p
theorem Mq.nil (w : World) : Mq w w none 0 0 [] := ⟨⟨rfl,Or.inl ⟨rfl,rfl⟩⟩,Kp.refl _ _,fun k hk => by simp [blk] at hk,fun p hp => by simp at hp⟩
theorem Mq.len {w w' : World} {ao : Option Addr} {n c : Nat} {q : List Oq} (h : Mq w w' ao n c q) : n = q.length := by
 have := h.1.1
 rw [qs_len] at this
 omega
theorem Mq.rq {w w' : World} {ao : Option Addr} {n c : Nat} {q : List Oq} (h : Mq w w' ao n c q) : Rq w' ao n c q := Rq.of_own h.1
theorem Mq.kp {w w' : World} {ao : Option Addr} {n c : Nat} {q : List Oq} (h : Mq w w' ao n c q) : Kp [] w w' := h.2.1
theorem Mq.ar {w w' : World} {ao : Option Addr} {n c : Nat} {q : List Oq} (h : Mq w w' ao n c q) : ∀ p,p ∈ q → Ao w' p := h.2.2.2
theorem Mq.kept {w w1 w2 : World} {ao : Option Addr} {n c : Nat} {q : List Oq} (h : Mq w w1 ao n c q) (k : Kp [] w1 w2) : Mq w w2 ao n c q :=
 ⟨h.1.keep k (fun _ _ => by simp),h.2.1.trans k (fun x hx => by simp at hx),h.2.2.1,fun p hp => (h.2.2.2 p hp).keep k (fun _ _ => by simp)⟩
theorem infoOp : (Tryz.prog.info? 24).map (fun i => (i.zero,i.size,i.bytes)) = some (some (.agg #[.int .i64 0,.int .i64 0,.int .i64 0,.int .i64 0,.int .i64 0,.int .i64 0,.string ⟨#[]⟩,.slice none 0 0,.string ⟨#[]⟩]),9,104) := by kernel_rfl
theorem src_op {w : World} {g : Nat} {p : Oq} (hg : w.heap[g]? = some (.cells (oc p.1 p.2) 24)) : Src Tryz.prog 9 25 (.slice (some ⟨g,0,none⟩) 1 1) 1 (qs [p]) w := by
 refine Src.ofSlice w Tryz.underlying25 ⟨g,0,none⟩ 1 1 (qs [p]) rfl (fun j u hj => ?_) (qs_one [p])
 rw [Addr.add_lit,cell_of hg,Nat.zero_add]
 rw [← hj,← List.getElem?_toArray]
 rfl
theorem equal_any (w : World) (l m : List Att) (ao bo : Option Addr) (n c p d : Nat) (hr : Rp w ao n c l) (hs : Rp w bo p d m) (hl : n ≤ 100000) (hm : p ≤ 100000) :
  Calls Tryz.prog 103 #[.slice ao n c,.slice bo p d] w fun e w' => e = .returned (.bool (same l m)) ∧ Kp [] w w' := by
 obtain rfl := hr.len
 obtain rfl := hs.len
 by_cases hlen : l.length = m.length
 ·have hne : ((l.length : Int) != (m.length : Int)) = false := by rw [hlen]; simp
  obtain ⟨A,hA⟩ : ∃ A,same l m = A := ⟨_,rfl⟩
  rw [hA]
  have hkm : ∀ k,k < l.length → k < m.length := fun k hk => by omega
  have hend : Hid (l.take l.length = m.take l.length → l = m) := fun h => by rw [List.take_length,hlen,List.take_length] at h; exact h
  clear hlen
  go_enter Tryz.func103,Tryz.ntmps103
  go_wp2
  go_loopw [13] (fun i wr => ∃ k q : Nat,k ≤ l.length ∧ i = .int .i64 k ∧ wr = w.drewN q ∧ l.take k = m.take k) (fun i _ => l.length - (intOf i).toNat)
  case atStart => exact ⟨0,0,Nat.zero_le _,rfl,rfl,rfl⟩
  case round =>
   obtain ⟨k,q,hk,rfl,rfl,hp⟩ := hrel
   by_cases hlt : k < l.length
   ·have hlt2 := hkm k hlt
    obtain ⟨b1,o1,rfl,h1,h2⟩ := hr.get k hlt
    obtain ⟨b2,o2,rfl,h3,h4⟩ := hs.get k hlt2
    have htk : Hid (l[k] = m[k] → l.take (k + 1) = m.take (k + 1)) := take_eq hlt hlt2 hp
    have hnt : Hid (l[k] ≠ m[k] → same l m = false) := fun h => same_not (fun e => h (by simp only [e]))
    clear hr hs hp hkm hend
    generalize l[k] = x at h1 h2 htk hnt
    generalize m[k] = y at h3 h4 htk hnt
    rcases parted x y with ⟨e0,e1,e2⟩ | ⟨e0,e1⟩ | ⟨e0,e1,e2⟩
    ·subst e0
     have hp := htk.out rfl
     clear htk hnt
     go_wp2_with fail
     go_region
     go_wp2
     go_roundw
     case rel => exact ⟨k + 1,_,by omega,by go_num,rfl,hp⟩
     case measure => simp [intOf]; omega
    all_goals
     have hp := hnt.out e0
     rw [hA] at hp
     subst hp
     clear htk hnt e0 hA
     go_wp2_with fail
     go_region
     go_wp2
     go_ret
     exact ⟨rfl,(Kp.refl _ _).drewN _⟩
   ·obtain rfl : k = l.length := by omega
    rw [same_yes (hend.out hp)] at hA
    subst hA
    go_wp2
    go_ret
    exact ⟨rfl,(Kp.refl _ _).drewN _⟩
 ·have hne : ((l.length : Int) != (m.length : Int)) = true := by simp; omega
  rw [same_not (fun e => hlen (by rw [e]))]
  clear hlen
  go_enter Tryz.func103,Tryz.ntmps103
  go_wp2
  go_ret
  exact ⟨rfl,Kp.refl _ _⟩
theorem isnum_any (w : World) (n : Int) : Calls Tryz.prog 65 #[.int .i64 n] w fun e w' => e = .returned (.bool (inR n)) ∧ w' = w := by
 by_cases h1 : 0 ≤ n
 ·by_cases h2 : n ≤ 2147483647
  ·rw [show inR n = true by simp [inR,h1,h2]]
   go_enter Tryz.func65,Tryz.ntmps65
   go_wp2
   go_ret
   exact ⟨rfl,rfl⟩
  ·rw [show inR n = false by simp [inR,h2]]
   go_enter Tryz.func65,Tryz.ntmps65
   go_wp2
   go_ret
   exact ⟨rfl,rfl⟩
 ·rw [show inR n = false by simp [inR,h1]]
  go_enter Tryz.func65,Tryz.ntmps65
  go_wp2
  go_ret
  exact ⟨rfl,rfl⟩
theorem ismade_any (w : World) (n : Int) : Calls Tryz.prog 66 #[.int .i64 n] w fun e w' => e = .returned (.bool (mk3 n)) ∧ w' = w := by
 have key : ∀ A,mk3 n = A → Calls Tryz.prog 66 #[.int .i64 n] w fun e w' => e = .returned (.bool A) ∧ w' = w := fun A hA => by
  by_cases h1 : n = 2
  ·obtain rfl : A = true := by rw [← hA]; simp [mk3,h1]
   clear hA
   subst h1
   go_enter Tryz.func66,Tryz.ntmps66
   go_wp2
   go_ret
   exact ⟨rfl,rfl⟩
  ·have q1 : (n == 2) = false := by simpa using h1
   by_cases h2 : n = 3
   ·obtain rfl : A = true := by rw [← hA]; simp [mk3,h2]
    clear hA
    subst h2
    go_enter Tryz.func66,Tryz.ntmps66
    go_wp2
    go_ret
    exact ⟨rfl,rfl⟩
   ·have q2 : (n == 3) = false := by simpa using h2
    obtain ⟨q3,h3⟩ : ∃ B,(n == 5) = B := ⟨_,rfl⟩
    obtain rfl : A = q3 := by rw [← hA,← h3]; simp [mk3,q1,q2]
    clear hA
    go_enter Tryz.func66,Tryz.ntmps66
    go_wp2
    go_ret
    exact ⟨rfl,rfl⟩
 exact key _ rfl
def iz (l : List Int) : List Value := l.map (Value.int .i64)
theorem iz_len (l : List Int) : (iz l).length = l.length := by simp [iz]
theorem Rb.iz_at {w : World} {ao : Option Addr} {n c : Nat} {l : List Int} (h : Rb w ao n c (iz l)) (k : Nat) (hk : k < l.length) : ∃ b off,ao = some ⟨b,off,none⟩ ∧ w.cell? ⟨b,off + k,none⟩ = some (.int .i64 l[k]) := by
 have hl := h.len
 rw [iz_len] at hl
 obtain ⟨b,off,h1,h2⟩ := h.at' k (by omega)
 exact ⟨b,off,h1,by rw [h2]; simp [iz,hk]⟩
theorem zr_not {l : List Int} {x y : ByteArray} {q : List Att} {k : Nat} (hk : k < l.length) (h : l[k] ≠ 0) : zr l x y q = false := by
 have : l.all (fun n => n == 0) = false := by
  rw [List.all_eq_false]
  exact ⟨l[k],List.getElem_mem hk,by simpa using h⟩
 simp [zr,this]
theorem zr_all {l : List Int} {x y : ByteArray} {q : List Att} (h : ∀ j (hj : j < l.length),l[j] = 0) : zr l x y q = (eqs x e0 && (eqs y e0 && q.isEmpty)) := by
 have : l.all (fun n => n == 0) = true := by
  rw [List.all_eq_true]
  intro a ha
  obtain ⟨j,hj,rfl⟩ := List.mem_iff_getElem.1 ha
  simpa using h j hj
 simp [zr,this]
theorem eqs_e0 (x : ByteArray) : x.toList.isEmpty = eqs x e0 := by
 have e : e0.toList = [] := by rw [e0,ByteArray.toList_eq]
 unfold eqs
 rw [e]
 cases x.toList <;> rfl
theorem zero_any (w : World) (x y : ByteArray) (q : List Att) (l : List Int) (ao bo : Option Addr) (n c m d : Nat) (hq : n = q.length) (hl : Rb w bo m d (iz l)) (hn : n ≤ 100000) (hm : m ≤ 1000) :
  Calls Tryz.prog 90 #[.string x,.string y,.slice ao n c,.slice bo m d] w fun e w' => e = .returned (.bool (zr l x y q)) ∧ w' = w := by
 obtain ⟨A,hA0⟩ : ∃ A,zr l x y q = A := ⟨_,rfl⟩
 rw [hA0]
 have hA : Hid (zr l x y q = A) := hA0
 clear hA0
 have hml : m = l.length := by rw [hl.len,iz_len]
 subst hml
 have hq2 : ((n : Int) == 0) = q.isEmpty := by
  rw [hq]
  cases q with
  | nil => rfl
  | cons a q => simp; omega
 clear hq
 go_enter Tryz.func90,Tryz.ntmps90
 go_wp2
 go_loopw [9] (fun i wr => ∃ k : Nat,k ≤ l.length ∧ i = .int .i64 k ∧ wr = w ∧ ∀ j (hj : j < l.length),j < k → l[j] = 0) (fun i _ => l.length - (intOf i).toNat)
 case atStart => exact ⟨0,Nat.zero_le _,rfl,rfl,fun j _ hj => by omega⟩
 case round =>
  obtain ⟨k,hk,rfl,rfl,hp⟩ := hrel
  by_cases hlt : k < l.length
  ·obtain ⟨b,off,rfl,hc⟩ := hl.iz_at k hlt
   by_cases hz : l[k] = 0
   ·have hp2 : Hid (∀ j (hj : j < l.length),j < k + 1 → l[j] = 0) := fun j hj hjk => by
     by_cases e : j = k
     ·subst e; exact hz
     ·exact hp j hj (by omega)
    rw [hz] at hc
    clear hp hz hl
    go_wp2
    go_roundw
    case rel => exact ⟨k + 1,by omega,by go_num,by trivial,hp2.out⟩
    case measure => simp [intOf]; omega
   ·have hz2 : (l[k] != 0) = true := by simpa using hz
    have hA2 := hA.out
    rw [zr_not hlt hz] at hA2
    subst hA2
    clear hA hp hl
    generalize l[k] = z at hc hz hz2
    go_wp2
    go_ret
    exact ⟨rfl,rfl⟩
  ·obtain rfl : k = l.length := by omega
   have hA2 := hA.out
   rw [zr_all (fun j hj => hp j hj hj)] at hA2
   clear hA hp hl hk
   have e1 := eqs_e0 x
   have e2 := eqs_e0 y
   cases c1 : eqs x e0
   ·rw [c1] at hA2 e1
    simp only [Bool.false_and] at hA2
    subst hA2
    go_wp2
    go_ret
    exact ⟨rfl,rfl⟩
   ·rw [c1] at hA2 e1
    cases c2 : eqs y e0
    ·rw [c2] at hA2 e2
     simp only [Bool.false_and,Bool.true_and] at hA2
     subst hA2
     go_wp2
     go_ret
     exact ⟨rfl,rfl⟩
    ·rw [c2] at hA2 e2
     simp only [Bool.true_and] at hA2
     subst hA2
     go_wp2
     go_ret
     exact ⟨by first | rfl | rw [hq2],rfl⟩
end Go.Proofs.YtpkppobkagdhkaaGreat
