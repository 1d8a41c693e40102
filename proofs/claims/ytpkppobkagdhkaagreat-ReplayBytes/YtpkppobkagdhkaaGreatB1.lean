/-
 Keep Utf Base Clone Back Row.
-/
import Derived.WalkKit
import Derived.WalkSpells
import Derived.Deep.AppendSrc
import Derived.Deep.Draws
import Derived.Lib.AppendZeros
import Derived.Test.YtpkppobkagdhkaaGreatRows
import Derived.WalkLawsBesides
import Derived.Laws.BytesArg
import Derived.Lib.ConvBytes
import Derived.Laws.BitsLemmas
import Derived.Laws.RangeAny
import Derived.Shelf.Pu.Clone
import Derived.Laws.AppendOwn
set_option linter.unusedVariables false
set_option linter.unusedSimpArgs false
set_option maxRecDepth 100000
set_option maxHeartbeats 1000000
namespace Go.Proofs.YtpkppobkagdhkaaGreat
open Go.RowKit
structure Kp (S : List Nat) (w w' : World) : Prop where
 os : w'.os = w.os
 tape : w'.tape = w.tape
 output : w'.output = w.output
 size : w.heap.size ≤ w'.heap.size
 block : ∀ k,k < w.heap.size → k ∉ S → w'.heap[k]? = w.heap[k]?
theorem Kp.refl (S : List Nat) (w : World) : Kp S w w := ⟨rfl,rfl,rfl,Nat.le_refl _,fun _ _ _ => rfl⟩
theorem Kp.trans {S T : List Nat} {a b c : World} (h : Kp S a b) (k : Kp T b c) (hT : ∀ x,x ∈ T → x ∈ S ∨ a.heap.size ≤ x) : Kp S a c :=
 ⟨k.os.trans h.os,k.tape.trans h.tape,k.output.trans h.output,Nat.le_trans h.size k.size,fun i hi hn => by
  have hT' : i ∉ T := fun hx => by
   rcases hT i hx with h1 | h1
   ·exact hn h1
   ·omega
  exact (k.block i (Nat.lt_of_lt_of_le hi h.size) hT').trans (h.block i hi hn)⟩
theorem Kp.mono {S T : List Nat} {a b : World} (h : Kp S a b) (hT : ∀ x,x ∈ S → x ∈ T ∨ a.heap.size ≤ x) : Kp T a b :=
 (Kp.refl T a).trans h hT
theorem Kp.drew {S : List Nat} {a w : World} (h : Kp S a w) : Kp S a w.drew := ⟨h.os,h.tape,h.output,h.size,h.block⟩
theorem Kp.drewN {S : List Nat} {a w : World} (h : Kp S a w) (n : Nat) : Kp S a (w.drewN n) := by
 obtain ⟨h1,h2,h3,h4,h5⟩ := h
 exact ⟨h1,h2,h3,h4,h5⟩
theorem Kp.alloc {S : List Nat} {a w : World} (h : Kp S a w) (o : Obj) : Kp S a (w.alloc o) :=
 ⟨h.os,h.tape,h.output,by have := h.size; simp; omega,fun k hk hn => by rw [Below.heap_alloc _ _ _ (Nat.lt_of_lt_of_le hk h.size)]; exact h.block k hk hn⟩
theorem Kp.setCell {S : List Nat} {a w : World} (h : Kp S a w) {p : Addr} (hp : p.block ∈ S ∨ a.heap.size ≤ p.block) (u : Value) : Kp S a (w.setCell p u) :=
 ⟨h.os,h.tape,h.output,by have := h.size; simp [World.setCell]; omega,fun k hk hn => by
  rw [Below.heap_setCell _ _ _ _ (fun e => by
   rcases hp with h1 | h1
   ·exact hn (e ▸ h1)
   ·omega)]
  exact h.block k hk hn⟩
theorem Kp.setCells {S : List Nat} {a : World} (b : Nat) (hp : b ∈ S ∨ a.heap.size ≤ b) : ∀ (vs : List Value) (o : Nat) (w : World),Kp S a w → Kp S a (w.setCells b o vs)
 | [],_,_,h => h
 | v :: r,o,w,h => by
   rw [World.setCells]
   exact Kp.setCells b hp r (o + 1) _ (h.setCell hp v)
theorem Kp.below {S : List Nat} {a w : World} (h : Kp S a w) (B : Nat) (hB : B ≤ a.heap.size) (hS : ∀ x,x ∈ S → B ≤ x) : Below B a w :=
 ⟨h.os,h.tape,h.output,h.size,fun k hk => h.block k (by omega) (fun hx => by have := hS k hx; omega)⟩
def blk : Value → List Nat
 | .slice (some a) _ _ => [a.block]
 | _ => []
def Own (w : World) (e : TypeId) (v : Value) (xs : List Value) : Prop :=
 (v = .slice none 0 0 ∧ xs = []) ∨
 ∃ g o cap cur,v = .slice (some ⟨g,o,none⟩) xs.length cap ∧ w.heap[g]? = some (.cells cur e (0,0)) ∧ xs.length ≤ cap ∧ cap ≤ maxLen ∧ o + cap ≤ cur.size ∧ ∀ j,j < xs.length → cur[o + j]? = xs[j]?
theorem Own.lt {w : World} {e : TypeId} {v : Value} {xs : List Value} (h : Own w e v xs) : ∀ k,k ∈ blk v → k < w.heap.size := by
 intro k hk
 rcases h with ⟨rfl,_⟩ | ⟨g,o,cap,cur,rfl,hg,_⟩
 ·simp [blk] at hk
 ·simp [blk] at hk
  subst hk
  exact (Array.getElem?_eq_some_iff.1 hg).1
theorem Own.keep {w w' : World} {S : List Nat} {e : TypeId} {v : Value} {xs : List Value} (h : Own w e v xs) (k : Kp S w w') (hn : ∀ x,x ∈ blk v → x ∉ S) : Own w' e v xs := by
 have hl := h.lt
 rcases h with h | ⟨g,o,cap,cur,rfl,hg,r⟩
 ·exact Or.inl h
 ·have hm : g ∈ blk (Value.slice (some ⟨g,o,none⟩) xs.length cap) := by simp [blk]
  exact Or.inr ⟨g,o,cap,cur,rfl,by rw [k.block g (hl g hm) (hn g hm)]; exact hg,r⟩
theorem cell_of {w : World} {g : Nat} {cur : Array Value} {e : TypeId} (h : w.heap[g]? = some (.cells cur e (0,0))) (j : Nat) : w.cell? ⟨g,j,none⟩ = cur[j]? := by
 simp [World.cell?,h]
theorem frozen_of {w : World} {g : Nat} {cur : Array Value} {e : TypeId} (h : w.heap[g]? = some (.cells cur e (0,0))) (j : Nat) : w.frozen? ⟨g,j,none⟩ = false := by
 simp [World.frozen?,h]
theorem setCell_block {w : World} {g : Nat} {cur : Array Value} {e : TypeId} (h : w.heap[g]? = some (.cells cur e (0,0))) (o : Nat) (u : Value) : (w.setCell ⟨g,o,none⟩ u).heap[g]? = some (.cells (cur.setIfInBounds o u) e (0,0)) := by
 simp only [World.setCell,Array.getElem?_modify,h]
 simp
theorem setCells_block (g : Nat) (e : TypeId) : ∀ (vs : List Value) (o : Nat) (w : World) (cur : Array Value),w.heap[g]? = some (.cells cur e (0,0)) → ∃ cur',(w.setCells g o vs).heap[g]? = some (.cells cur' e (0,0)) ∧ cur'.size = cur.size
 | [],_,_,cur,h => ⟨cur,h,rfl⟩
 | v :: r,o,w,cur,h => by
   obtain ⟨c,h1,h2⟩ := setCells_block g e r (o + 1) _ _ (setCell_block h o v)
   exact ⟨c,h1,by rw [h2]; simp⟩
theorem setCells_get (g : Nat) (e : TypeId) (vs : List Value) (o : Nat) (w : World) (cur cur' : Array Value) (h : w.heap[g]? = some (.cells cur e (0,0))) (h' : (w.setCells g o vs).heap[g]? = some (.cells cur' e (0,0))) (hfit : o + vs.length ≤ cur.size) (k : Nat) :
  cur'[k]? = if o ≤ k ∧ k < o + vs.length then vs[k - o]? else cur[k]? := by
 rw [← cell_of h' k,← cell_of h k]
 by_cases hk : o ≤ k ∧ k < o + vs.length
 ·rw [if_pos hk]
  have := World.cell?_setCells_in g vs o w (fun j hj => by rw [cell_of h,Array.getElem?_eq_getElem (by omega)]; rfl) (k - o) (by omega)
  rw [show o + (k - o) = k by omega] at this
  rw [this,List.getElem?_eq_getElem]
 ·rw [if_neg hk]
  exact World.cell?_setCells_out g vs o w ⟨g,k,none⟩ (fun _ _ => by show k < o ∨ o + vs.length ≤ k; omega)
theorem heap_new (w : World) (o : Obj) : (w.alloc o).heap[w.heap.size]? = some o := by
 show (w.heap.push o)[w.heap.size]? = some o
 simp
theorem own_new (w : World) (e : TypeId) (cur : Array Value) (xs : List Value) (cap : Nat) (h1 : xs.length ≤ cap) (h2 : cap ≤ maxLen) (h3 : cur.size = cap) (h4 : ∀ j,j < xs.length → cur[j]? = xs[j]?) (n : Nat) (hn : n = xs.length) :
  Own (w.alloc (.cells cur e)) e (.slice (some ⟨w.heap.size,0,none⟩) n cap) xs := by
 subst hn
 exact Or.inr ⟨w.heap.size,0,cap,cur,rfl,heap_new w _,h1,h2,by omega,fun j hj => by rw [Nat.zero_add]; exact h4 j hj⟩
theorem zeroCells_size (z : Value) (hz : z.cells = #[z]) (n : Nat) : (Builtin.zeroCells z.cells n).size = n := by
 rw [hz]
 simp [Builtin.zeroCells]
theorem app_any {P : Program} {t e : TypeId} {z : Value} {bytes : Nat} (ht : P.underlying t = some (.slice e)) (hi : (P.info? e).map (fun i => (i.zero,i.size,i.bytes)) = some (some z,1,bytes)) (hz : z.cells = #[z]) (hby : bytes ≤ 1024)
  (w : World) (v : Value) (xs : List Value) (h : Own w e v xs) (src : Value) (m : Nat) (news : List Value) (hs : Src P 1 t src m news w) (hm : v = .slice none 0 0 → 0 < m) (hlen : xs.length + m ≤ 1000000) :
  ∃ v' w',(∀ ty,(Builtin.append_ #[t,t] ty #[v,src]).run P w = .ok v' w') ∧ Own w' e v' (xs ++ news) ∧ Kp (blk v) w w' ∧ (∀ k,k ∈ blk v' → k ∈ blk v ∨ k = w.heap.size) ∧ (∃ a c,v' = .slice (some a) (xs.length + m) c) := by
 obtain ⟨i,hi0,hi1,hi2,hi3⟩ := info_parts hi
 have hnl : news.length = m := by simpa using hs.newsLen
 have hs' : Src P i.size t src m news w := by rw [hi2]; exact hs
 have hby2 : (xs.length + m) * bytes ≤ 140737488355328 := Nat.le_trans (Nat.mul_le_mul hlen hby) (by decide)
 rcases h with ⟨rfl,rfl⟩ | ⟨g,o,cap,cur,rfl,hg,hc1,hc2,hc3,hc4⟩
 ·have hm0 := hm rfl
  have hr := fun ty => run_append_grow_src (P := P) w t t ty e i z ht hi0 hi1 none 0 0 [] (run_firstCells_none w.drew i.size 0 0 0) src m news hs' (by omega) (by simp at hlen; omega) (by rw [hi3]; exact growslice_fits (by omega) (by simpa using hby2))
  refine ⟨_,_,hr,?_,(Kp.refl _ _).drew.alloc _,fun k hk => ?_,⟨_,_,rfl⟩⟩
  ·refine own_new w.drew e _ _ _ ?_ ?_ ?_ ?_ _ (by simp [hnl])
   ·have := grownCap_ge w (0 + m) 0 e
    simp [hnl]
    simpa using this
   ·exact grownCap_le_maxLen w _ _ _ (by unfold maxLen; simp at hlen; omega)
   ·have := grownCap_ge w (0 + m) 0 e
    rw [Array.size_append,zeroCells_size z hz]
    simp [hnl] at this ⊢
    omega
   ·intro j hj
    simp at hj
    rw [Array.getElem?_append_left (by simpa using hj)]
    simp
  ·simp [blk] at hk
   exact Or.inr hk
 ·by_cases hroom : xs.length + m ≤ cap
  ·have hr := fun ty => run_append_room_src (P := P) w t t ty e i ht hi0 g o xs.length cap src m news hs' hroom
    (fun j hj => by rw [hi2,cell_of hg,Array.getElem?_eq_getElem (by omega)]; rfl) (fun j hj => frozen_of hg _)
   obtain ⟨cur',hg',hsz'⟩ := setCells_block g e news (o + xs.length * i.size) w cur hg
   have hget := setCells_get g e news (o + xs.length * i.size) w cur cur' hg hg' (by rw [hi2]; omega)
   refine ⟨_,_,hr,Or.inr ⟨g,o,cap,cur',by simp [hnl],hg',by simp [hnl]; exact hroom,hc2,by omega,fun j hj => ?_⟩,Kp.setCells g (Or.inl (by simp [blk])) _ _ _ (Kp.refl _ _),fun k hk => Or.inl (by simpa [blk] using hk),⟨_,_,rfl⟩⟩
   rw [hget (o + j),hi2]
   simp only [Nat.mul_one]
   rw [List.length_append] at hj
   by_cases hjx : j < xs.length
   ·rw [if_neg (by omega),List.getElem?_append_left hjx,hc4 j hjx]
   ·rw [if_pos (by omega),List.getElem?_append_right (by omega),show o + j - (o + xs.length) = j - xs.length by omega]
  ·have hold : (Builtin.firstCells i.size xs.length (.slice (some ⟨g,o,none⟩) xs.length cap)).run P w.drew = .ok xs.toArray w.drew :=
    run_firstCells_some w.drew i.size xs.length ⟨g,o,none⟩ xs.length cap xs (by rw [hi2,Nat.mul_one]) (fun j u hj => by
     rw [Addr.add_lit]
     show w.cell? _ = _
     have hjl := (List.getElem?_eq_some_iff.1 hj).1
     rw [cell_of hg,hc4 j hjl]
     exact hj)
   have hr := fun ty => run_append_grow_src (P := P) w t t ty e i z ht hi0 hi1 (some ⟨g,o,none⟩) xs.length cap xs hold src m news hs' (by omega) (by omega) (by rw [hi3]; exact growslice_fits (by omega) hby2)
   refine ⟨_,_,hr,?_,(Kp.refl _ _).drew.alloc _,fun k hk => ?_,⟨_,_,rfl⟩⟩
   ·refine own_new w.drew e _ _ _ ?_ ?_ ?_ ?_ _ (by simp [hnl])
    ·have := grownCap_ge w (xs.length + m) cap e
     simp [hnl]
     exact this
    ·exact grownCap_le_maxLen w _ _ _ (by unfold maxLen; omega)
    ·have := grownCap_ge w (xs.length + m) cap e
     rw [Array.size_append,zeroCells_size z hz]
     simp [hnl]
     omega
    ·intro j hj
     rw [Array.getElem?_append_left (by simpa using hj)]
     simp
   ·simp [blk] at hk
    exact Or.inr hk
theorem heap_new' (w : World) (o : Obj) (n : Nat) (h : n = w.heap.size) : (w.alloc o).heap[n]? = some o := by
 subst h
 exact heap_new w o
theorem src_one {P : Program} {t e : TypeId} (ht : P.underlying t = some (.slice e)) {w : World} {q : Nat} {u : Value} (h : w.heap[q]? = some (.cells #[u] e (0,0))) (hu : u.oneCell' = true) : Src P 1 t (.slice (some ⟨q,0,none⟩) 1 1) 1 [u] w :=
 Src.ofSlice _ ht ⟨q,0,none⟩ 1 1 [u] rfl (fun j y hj => by
  match j,hj with
  | 0,hj =>
    simp at hj
    subst hj
    rw [Addr.add_lit,cell_of h]
    rfl) (fun y hy => by simp at hy; subst hy; exact hu)
def Rd (w : World) (v : Value) (xs : List Value) : Prop :=
 ∃ ao c,v = .slice ao xs.length c ∧ ∀ j,j < xs.length → ∃ b off,ao = some ⟨b,off,none⟩ ∧ w.cell? ⟨b,off + j,none⟩ = xs[j]?
theorem Own.rd {w : World} {e : TypeId} {v : Value} {xs : List Value} (h : Own w e v xs) : Rd w v xs := by
 rcases h with ⟨rfl,rfl⟩ | ⟨g,o,cap,cur,rfl,hg,_,_,_,hc⟩
 ·exact ⟨none,0,rfl,fun j hj => by simp at hj⟩
 ·exact ⟨_,cap,rfl,fun j hj => ⟨g,o,rfl,by rw [cell_of hg,hc j hj]⟩⟩
theorem Kp.cell {w w' : World} {S : List Nat} (k : Kp S w w') {a : Addr} (hl : a.block < w.heap.size) (hn : a.block ∉ S) : w'.cell? a = w.cell? a := World.cell?_of_block (w := w) (k.block a.block hl hn)
theorem Rd.src {P : Program} {t e : TypeId} (ht : P.underlying t = some (.slice e)) {w : World} {ao : Option Addr} {n c : Nat} {xs : List Value} (h : Rd w (.slice ao n c) xs) (h1 : ∀ u,u ∈ xs → u.oneCell' = true) : Src P 1 t (.slice ao n c) n xs w := by
 obtain ⟨ao',c',he,hcs⟩ := h
 simp only [Value.slice.injEq] at he
 obtain ⟨rfl,rfl,rfl⟩ := he
 cases ao with
 | none =>
   have h0 : xs = [] := by
    cases xs with
    | nil => rfl
    | cons y r =>
      obtain ⟨b,off,h2,_⟩ := hcs 0 (by simp)
      cases h2
   subst h0
   exact Src.ofNil w ht c
 | some a =>
   refine Src.ofSlice w ht a xs.length c xs (by simp) (fun j u hj => ?_) h1
   have hjl := (List.getElem?_eq_some_iff.1 hj).1
   obtain ⟨b,off,h2,h3⟩ := hcs j hjl
   simp only [Option.some.injEq] at h2
   subst h2
   rw [Addr.add_lit,h3]
   exact hj
theorem lt_of {w : World} {k : Nat} {o : Obj} (h : w.heap[k]? = some o) : k < w.heap.size := (Array.getElem?_eq_some_iff.1 h).1
theorem app_one {P : Program} {t e : TypeId} {z : Value} {bytes : Nat} (ht : P.underlying t = some (.slice e)) (hi : (P.info? e).map (fun i => (i.zero,i.size,i.bytes)) = some (some z,1,bytes)) (hz : z.cells = #[z]) (hby : bytes ≤ 1024)
  (w : World) (v : Value) (xs : List Value) (h : Own w e v xs) (u : Value) (hu : u.oneCell' = true) (hlen : xs.length + 1 ≤ 1000000) :
  ∃ v' w',(∀ ty,(Builtin.append_ #[t,t] ty #[v,.slice (some ⟨w.heap.size,0,none⟩) 1 1]).run P (w.alloc (.cells #[u] e)) = .ok v' w') ∧ Own w' e v' (xs ++ [u]) ∧ Kp (blk v) w w' ∧ (∀ k,k ∈ blk v' → k ∈ blk v ∨ w.heap.size ≤ k) ∧ (∃ a c,v' = .slice (some a) (xs.length + 1) c) := by
 have hk1 : Kp (blk v) w (w.alloc (.cells #[u] e)) := (Kp.refl _ _).alloc _
 have hown1 : Own (w.alloc (.cells #[u] e)) e v xs := h.keep ((Kp.refl [] w).alloc _) (fun _ _ => by simp)
 have hsrc : Src P 1 t (.slice (some ⟨w.heap.size,0,none⟩) 1 1) 1 [u] (w.alloc (.cells #[u] e)) := src_one ht (heap_new w _) hu
 obtain ⟨v',w2,hrun,hown2,hk2,hb2,hv2⟩ := app_any ht hi hz hby _ v _ hown1 _ 1 _ hsrc (fun _ => by omega) hlen
 refine ⟨v',w2,hrun,hown2,hk1.trans hk2 (fun x hx => Or.inl hx),fun k hk => ?_,hv2⟩
 rcases hb2 k hk with h1 | h1
 ·exact Or.inl h1
 ·right
  rw [h1]
  simp
def slen : Value → Nat
 | .slice _ n _ => n
 | _ => 0
theorem same_of {P : Program} {f : Nat} {a : Array Value} {w : World} {x : Ending} {Q : Ending → World → Prop} (h : Calls P f a w fun e w' => e = x ∧ w' = w) (hq : Q x w) : Calls P f a w Q := h.mono (by rintro e w' ⟨rfl,rfl⟩; exact hq)
end Go.Proofs.YtpkppobkagdhkaaGreat
namespace Go.Proofs.YtpkppobkagdhkaaGreat.Utf
def firstOf (b : Int) : Option (Nat × Int × Int) :=
 if 194 ≤ b ∧ b ≤ 223 then some (1,128,191)
 else if b = 224 then some (2,160,191)
 else if b = 237 then some (2,128,159)
 else if 225 ≤ b ∧ b ≤ 239 then some (2,128,191)
 else if b = 240 then some (3,144,191)
 else if 241 ≤ b ∧ b ≤ 243 then some (3,128,191)
 else if b = 244 then some (3,128,143)
 else none
def lead : Nat → Int → Int
 | 1,b => b % 32
 | 2,b => b % 16
 | _,b => b % 8
def more : Nat → Int → Int → Int → List Int → Nat × Int × List Int
 | 0,_,_,r,bs => (0,r,bs)
 | n + 1,_,_,r,[] => (n + 1,r,[])
 | n + 1,lo,hi,r,b :: bs => if lo ≤ b ∧ b ≤ hi then more n 128 191 (r * 64 + b % 64) bs else (n + 1,r,b :: bs)
theorem more_len : ∀ (n : Nat) (lo hi r : Int) (bs : List Int),(more n lo hi r bs).2.2.length ≤ bs.length
 | 0,_,_,_,_ => Nat.le_refl _
 | _ + 1,_,_,_,[] => Nat.le_refl _
 | n + 1,lo,hi,r,b :: bs => by
   rw [more]
   split
   ·have := more_len n 128 191 (r * 64 + b % 64) bs
    simp only [List.length_cons]
    omega
   ·exact Nat.le_refl _
def step (b : Int) (bs : List Int) : Int × List Int :=
 if b < 128 then (b,bs) else
  match firstOf b with
  | none => (65533,bs)
  | some (n,lo,hi) =>
    let m := more n lo hi (lead n b) bs
    (if m.1 = 0 then m.2.1 else 65533,m.2.2)
def bytesOf (s : ByteArray) : List Int := s.data.toList.map (fun u => (u.toNat : Int))
def enc (r : Int) : List Int := bytesOf (Utf8.encode r)
theorem bytesOf_range (s : ByteArray) : ∀ x,x ∈ bytesOf s → 0 ≤ x ∧ x < 256 := fun x hx => by
 obtain ⟨u,_,rfl⟩ := List.mem_map.1 hx
 have := u.toNat_lt
 omega
end Go.Proofs.YtpkppobkagdhkaaGreat.Utf
namespace Go.Proofs.YtpkppobkagdhkaaGreat
open Go.RowKit Utf
def b8 (l : List Int) : List Value := l.map (Value.int .u8)
def tx (l : List ByteArray) : List Value := l.map Value.string
theorem b8_len (l : List Int) : (b8 l).length = l.length := by simp [b8]
def byt (l : List Int) : Prop := ∀ x,x ∈ l → 0 ≤ x ∧ x < 256
structure Rb (w : World) (ao : Option Addr) (n c : Nat) (xs : List Value) : Prop where
 len : n = xs.length
 cap : n ≤ c
 at' : ∀ j,j < n → ∃ b off,ao = some ⟨b,off,none⟩ ∧ w.cell? ⟨b,off + j,none⟩ = xs[j]?
theorem Rb.of_own {w : World} {e : TypeId} {ao : Option Addr} {n c : Nat} {xs : List Value} (h : Own w e (.slice ao n c) xs) : Rb w ao n c xs := by
 rcases h with ⟨h1,rfl⟩ | ⟨g,o,cap,cur,hv,hg,h1,h2,h3,h4⟩
 ·simp only [Value.slice.injEq] at h1
  obtain ⟨rfl,rfl,rfl⟩ := h1
  exact ⟨rfl,Nat.le_refl _,fun j hj => by omega⟩
 ·simp only [Value.slice.injEq] at hv
  obtain ⟨rfl,rfl,rfl⟩ := hv
  exact ⟨rfl,h1,fun j hj => ⟨g,o,rfl,by rw [cell_of hg,h4 j hj]⟩⟩
theorem Rb.keep {w w' : World} {ao : Option Addr} {n c : Nat} {xs : List Value} (h : Rb w ao n c xs) (hs : ∀ a,(∃ u,w.cell? a = some u) → w'.cell? a = w.cell? a) : Rb w' ao n c xs := by
 refine ⟨h.len,h.cap,fun j hj => ?_⟩
 obtain ⟨b,off,h1,h2⟩ := h.at' j hj
 exact ⟨b,off,h1,by rw [hs _ ⟨_,h2.trans (List.getElem?_eq_getElem (by have := h.len; omega))⟩]; exact h2⟩
theorem Rb.kept {w w' : World} {ao : Option Addr} {n c : Nat} {xs : List Value} (h : Rb w ao n c xs) (k : Kp [] w w') : Rb w' ao n c xs :=
 h.keep (fun a ha => by
  obtain ⟨u,hu⟩ := ha
  exact k.cell (block_lt_of_cell hu) (by simp))
def Made (w w' : World) (e : TypeId) (ao : Option Addr) (n c : Nat) (xs : List Value) : Prop := Own w' e (.slice ao n c) xs ∧ Kp [] w w' ∧ ∀ k,k ∈ blk (.slice ao n c) → w.heap.size ≤ k
theorem Made.nil (w : World) (e : TypeId) : Made w w e none 0 0 [] := ⟨Or.inl ⟨rfl,rfl⟩,Kp.refl _ _,fun k hk => by simp [blk] at hk⟩
theorem Made.rb {w w' : World} {e : TypeId} {ao : Option Addr} {n c : Nat} {xs : List Value} (h : Made w w' e ao n c xs) : Rb w' ao n c xs := Rb.of_own h.1
theorem Made.kept {w w1 w2 : World} {e : TypeId} {ao : Option Addr} {n c : Nat} {xs : List Value} (h : Made w w1 e ao n c xs) (k : Kp [] w1 w2) : Made w w2 e ao n c xs :=
 ⟨h.1.keep k (fun _ _ => by simp),h.2.1.trans k (fun x hx => by simp at hx),h.2.2⟩
theorem Made.one {t e : TypeId} {z : Value} {bytes : Nat} (ht : Tryz.prog.underlying t = some (.slice e)) (hi : (Tryz.prog.info? e).map (fun i => (i.zero,i.size,i.bytes)) = some (some z,1,bytes)) (hz : z.cells = #[z]) (hby : bytes ≤ 1024)
  {w w1 : World} {ao : Option Addr} {n c : Nat} {xs : List Value} (h : Made w w1 e ao n c xs) (u : Value) (hu : u.oneCell' = true) (hlen : xs.length + 1 ≤ 1000000) :
  ∃ ao' n' c' w2,(∀ ty,(Builtin.append_ #[t,t] ty #[.slice ao n c,.slice (some ⟨w1.heap.size,0,none⟩) 1 1]).run Tryz.prog (w1.alloc (.cells #[u] e)) = .ok (.slice ao' n' c') w2) ∧ Made w w2 e ao' n' c' (xs ++ [u]) := by
 obtain ⟨h1,h2,h3⟩ := h
 obtain ⟨v',w2,hrun,o2,k2,b2,a2,c2,rfl⟩ := app_one ht hi hz hby w1 _ _ h1 u hu hlen
 refine ⟨_,_,_,w2,hrun,o2,h2.trans k2 (fun x hx => Or.inr (h3 x hx)),fun k hk => ?_⟩
 rcases b2 k hk with h4 | h4
 ·exact h3 k h4
 ·have := h2.size
  omega
theorem rb_lit (w : World) (e : TypeId) (cur : Array Value) (xs : List Value) (n : Nat) (h : cur = xs.toArray) (hn : n = xs.length) (hm : n ≤ 100000) : Rb (w.alloc (.cells cur e)) (some ⟨w.heap.size,0,none⟩) n n xs := by
 subst h
 exact Rb.of_own (own_new w e _ xs n (by omega) (by unfold maxLen; omega) (by simp [hn]) (fun j hj => by simp) n hn)
theorem strs_bytes (s : ByteArray) : strOfNums (bytesOf s) = s := by
 apply ByteArray.ext
 simp [strOfNums,bytesOf,Function.comp_def]
theorem bytes_strs {l : List Int} (h : byt l) : bytesOf (strOfNums l) = l := by
 unfold bytesOf
 rw [strOfNums_data,List.map_map]
 conv => rhs; rw [← List.map_id l]
 refine List.map_congr_left fun x hx => ?_
 have := h x hx
 simp
 omega
theorem bytes_byt (s : ByteArray) : byt (bytesOf s) := bytesOf_range s
theorem bytes_len (s : ByteArray) : (bytesOf s).length = s.size := by simp [bytesOf]
theorem conv_rb {w : World} {ao : Option Addr} {n c : Nat} {xs : List Int} (h : Rb w ao n c (b8 xs)) : (convert 49 9 (.slice ao n c)).run Tryz.prog w = .ok (.string (strOfNums xs)) w := by
 have hl := h.len
 rw [b8_len] at hl
 by_cases h0 : n = 0
 ·have hx : xs = [] := List.eq_nil_of_length_eq_zero (by omega)
  subst hx
  cases ao with
  | none =>
    rw [run_convert_bytes_nil (P := Tryz.prog) w 49 5 Tryz.underlying49 Tryz.underlying5 n c 9 Tryz.underlying9]
    rfl
  | some a =>
    subst h0
    obtain ⟨b,o,p⟩ := a
    have hz : (loadCells ⟨b,o,p⟩ 0).run Tryz.prog w = .ok #[] w := by simpa using run_loadCells_list (P := Tryz.prog) w ⟨b,o,p⟩ [] (by simp)
    simp [convert,run_underlying Tryz.underlying49,run_underlying Tryz.underlying9,run_underlying Tryz.underlying5,Conv.bytesToString,hz,strOfNums]
    rfl
 ·obtain ⟨b,off,rfl,_⟩ := h.at' 0 (by omega)
  refine run_convert_bytes_arg (P := Tryz.prog) w 49 5 Tryz.underlying49 Tryz.underlying5 b off n c xs hl.symm (fun i hi => ?_) 9 Tryz.underlying9
  obtain ⟨b',off',h1,h2⟩ := h.at' i hi
  simp only [Option.some.injEq,Addr.mk.injEq] at h1
  obtain ⟨rfl,rfl,_⟩ := h1
  rw [h2]
  simp [b8,show i < xs.length by omega]
end Go.Proofs.YtpkppobkagdhkaaGreat
namespace Go.Proofs
open Go.Shelf
def Tryz.lays25_ren : Go.Shelf.Ren := ⟨fun | 25 => 100 | n => n,fun | 37 => 49 | 47 => 171 | n => n,fun | n => n⟩
theorem Tryz.lays25 : Go.Proofs.LaysPu.n25 Tryz.prog Tryz.lays25_ren := {
 mixed := by kernel_rfl
 f25 := Tryz.func100.trans (congrArg some (by kernel_rfl))
 t0 := Tryz.underlying0
 a0 := Tryz.isAgg0
 z0 := Tryz.sizeOf0
 v0 := Tryz.zeroValue0
 i0 := by kernel_rfl
 t3 := Tryz.underlying3
 a3 := Tryz.isAgg3
 z3 := Tryz.sizeOf3
 v3 := Tryz.zeroValue3
 i3 := by kernel_rfl
 t4 := Tryz.underlying4
 a4 := Tryz.isAgg4
 z4 := Tryz.sizeOf4
 v4 := Tryz.zeroValue4
 i4 := by kernel_rfl
 t5 := Tryz.underlying5
 a5 := Tryz.isAgg5
 z5 := Tryz.sizeOf5
 v5 := Tryz.zeroValue5
 i5 := by kernel_rfl
 t9 := Tryz.underlying9
 a9 := Tryz.isAgg9
 z9 := Tryz.sizeOf9
 v9 := Tryz.zeroValue9
 i9 := by kernel_rfl
 t37 := Tryz.underlying49
 a37 := Tryz.isAgg49
 z37 := Tryz.sizeOf49
 v37 := Tryz.zeroValue49
 i37 := by kernel_rfl
 t47 := Tryz.underlying171
 a47 := Tryz.isAgg171
 z47 := Tryz.sizeOf171
 v47 := Tryz.zeroValue171
 i47 := by kernel_rfl }
end Go.Proofs
namespace Go.Proofs.YtpkppobkagdhkaaGreat
open Go.RowKit Utf
theorem kp_below {w w' : World} (h : Below w.heap.size w w') : Kp [] w w' := ⟨h.os,h.tape,h.output,h.size,fun k hk _ => h.block k hk⟩
theorem clone_any (w : World) (s : ByteArray) (hl : s.size ≤ 281474976710656) : Calls Tryz.prog 61 #[.string s] w fun e w' => e = .returned (.string s) ∧ Kp [] w w' := by
 have HC : Calls Tryz.prog 100 #[.string s] w fun e w' => e = .returned (.string s) ∧ Below w.heap.size w w' := AnyPu.stringslite_Clone Tryz.lays25 s w (by omega)
 go_enter Tryz.func61,Tryz.ntmps61
 go_wp2_with fail
 refine HC.mono ?_
 rintro e w1 ⟨rfl,hb⟩
 clear HC
 go_wp2
 go_ret
 exact ⟨rfl,kp_below hb⟩
end Go.Proofs.YtpkppobkagdhkaaGreat
namespace Go.Proofs.YtpkppobkagdhkaaGreat
open Go.RowKit Utf
end Go.Proofs.YtpkppobkagdhkaaGreat
namespace Go.Proofs.YtpkppobkagdhkaaGreat
open Go.RowKit
def OwnK (k : Nat) (w : World) (e : TypeId) (v : Value) (n : Nat) (xs : List Value) : Prop :=
 xs.length = n * k ∧ ((v = .slice none 0 0 ∧ n = 0) ∨
  ∃ g o cap cur,v = .slice (some ⟨g,o,none⟩) n cap ∧ w.heap[g]? = some (.cells cur e (0,0)) ∧ n ≤ cap ∧ cap ≤ maxLen ∧ o + cap * k ≤ cur.size ∧ ∀ j,j < n * k → cur[o + j]? = xs[j]?)
theorem OwnK.lt {k : Nat} {w : World} {e : TypeId} {v : Value} {n : Nat} {xs : List Value} (h : OwnK k w e v n xs) : ∀ x,x ∈ blk v → x < w.heap.size := by
 intro x hx
 rcases h.2 with ⟨rfl,_⟩ | ⟨g,o,cap,cur,rfl,hg,_⟩
 ·simp [blk] at hx
 ·simp [blk] at hx
  subst hx
  exact (Array.getElem?_eq_some_iff.1 hg).1
theorem OwnK.keep {k : Nat} {w w' : World} {S : List Nat} {e : TypeId} {v : Value} {n : Nat} {xs : List Value} (h : OwnK k w e v n xs) (hk : Kp S w w') (hn : ∀ x,x ∈ blk v → x ∉ S) : OwnK k w' e v n xs := by
 have hl := h.lt
 obtain ⟨h0,h⟩ := h
 refine ⟨h0,?_⟩
 rcases h with h | ⟨g,o,cap,cur,rfl,hg,r⟩
 ·exact Or.inl h
 ·have hm : g ∈ blk (Value.slice (some ⟨g,o,none⟩) n cap) := by simp [blk]
  exact Or.inr ⟨g,o,cap,cur,rfl,by rw [hk.block g (hl g hm) (hn g hm)]; exact hg,r⟩
theorem ownK_new (k : Nat) (w : World) (e : TypeId) (cur : Array Value) (xs : List Value) (n cap : Nat) (h0 : xs.length = n * k) (h1 : n ≤ cap) (h2 : cap ≤ maxLen) (h3 : cap * k ≤ cur.size) (h4 : ∀ j,j < n * k → cur[j]? = xs[j]?) :
  OwnK k (w.alloc (.cells cur e)) e (.slice (some ⟨w.heap.size,0,none⟩) n cap) n xs :=
 ⟨h0,Or.inr ⟨w.heap.size,0,cap,cur,rfl,heap_new w _,h1,h2,by omega,fun j hj => by rw [Nat.zero_add]; exact h4 j hj⟩⟩
theorem appK {P : Program} {t e : TypeId} {z : Value} {bytes k : Nat} (ht : P.underlying t = some (.slice e)) (hi : (P.info? e).map (fun i => (i.zero,i.size,i.bytes)) = some (some z,k,bytes)) (hz : z.cells.size = k) (hby : bytes ≤ 1024)
  (w : World) (v : Value) (n : Nat) (xs : List Value) (h : OwnK k w e v n xs) (src : Value) (m : Nat) (news : List Value) (hs : Src P k t src m news w) (hm : v = .slice none 0 0 → 0 < m) (hlen : n + m ≤ 1000000) :
  ∃ v' w',(∀ ty,(Builtin.append_ #[t,t] ty #[v,src]).run P w = .ok v' w') ∧ OwnK k w' e v' (n + m) (xs ++ news) ∧ Kp (blk v) w w' ∧ (∀ x,x ∈ blk v' → x ∈ blk v ∨ x = w.heap.size) ∧ (∃ a c,v' = .slice (some a) (n + m) c) := by
 obtain ⟨i,hi0,hi1,hi2,hi3⟩ := info_parts hi
 have hnl : news.length = m * k := hs.newsLen
 have hs' : Src P i.size t src m news w := by rw [hi2]; exact hs
 have hby2 : (n + m) * bytes ≤ 140737488355328 := Nat.le_trans (Nat.mul_le_mul hlen hby) (by decide)
 obtain ⟨hxl,h⟩ := h
 have hall : (xs ++ news).length = (n + m) * k := by rw [List.length_append,hxl,hnl,Nat.add_mul]
 rcases h with ⟨rfl,rfl⟩ | ⟨g,o,cap,cur,rfl,hg,hc1,hc2,hc3,hc4⟩
 ·have hm0 := hm rfl
  obtain rfl : xs = [] := List.eq_nil_of_length_eq_zero (by simpa using hxl)
  have hr := fun ty => run_append_grow_src (P := P) w t t ty e i z ht hi0 hi1 none 0 0 [] (run_firstCells_none w.drew i.size 0 0 0) src m news hs' (by omega) (by omega) (by rw [hi3]; exact growslice_fits (by omega) hby2)
  have hge := grownCap_ge w (0 + m) 0 e
  refine ⟨_,_,hr,?_,(Kp.refl _ _).drew.alloc _,fun x hx => ?_,⟨_,_,rfl⟩⟩
  ·refine ownK_new k w.drew e _ _ _ _ hall hge (grownCap_le_maxLen w _ _ _ (by unfold maxLen; omega)) ?_ ?_
   ·rw [Array.size_append,size_zeroCells,hz]
    simp only [List.size_toArray]
    rw [hall,← Nat.add_mul]
    exact Nat.mul_le_mul_right _ (by omega)
   ·intro j hj
    rw [← hall] at hj
    rw [Array.getElem?_append_left (by simpa using hj)]
    simp
  ·simp [blk] at hx
   exact Or.inr hx
 ·by_cases hroom : n + m ≤ cap
  ·have hsp : n * k + m * k ≤ cap * k := by rw [← Nat.add_mul]; exact Nat.mul_le_mul_right _ hroom
   have hr := fun ty => run_append_room_src (P := P) w t t ty e i ht hi0 g o n cap src m news hs' hroom
    (fun j hj => by rw [hi2,cell_of hg,Array.getElem?_eq_getElem (by omega)]; rfl) (fun j hj => frozen_of hg _)
   obtain ⟨cur',hg',hsz'⟩ := setCells_block g e news (o + n * i.size) w cur hg
   have hget := setCells_get g e news (o + n * i.size) w cur cur' hg hg' (by rw [hi2]; omega)
   refine ⟨_,_,hr,⟨hall,Or.inr ⟨g,o,cap,cur',rfl,hg',hroom,hc2,by omega,fun j hj => ?_⟩⟩,Kp.setCells g (Or.inl (by simp [blk])) _ _ _ (Kp.refl _ _),fun x hx => Or.inl (by simpa [blk] using hx),⟨_,_,rfl⟩⟩
   rw [hget (o + j),hi2]
   rw [Nat.add_mul] at hj
   by_cases hjx : j < n * k
   ·rw [if_neg (by omega),List.getElem?_append_left (by omega),hc4 j hjx]
   ·rw [if_pos (by omega),List.getElem?_append_right (by omega),show o + j - (o + n * k) = j - xs.length by omega]
  ·have hold : (Builtin.firstCells i.size n (.slice (some ⟨g,o,none⟩) n cap)).run P w.drew = .ok xs.toArray w.drew :=
    run_firstCells_some w.drew i.size n ⟨g,o,none⟩ n cap xs (by rw [hi2,hxl]) (fun j u hj => by
     rw [Addr.add_lit]
     show w.cell? _ = _
     have hjl := (List.getElem?_eq_some_iff.1 hj).1
     rw [cell_of hg,hc4 j (by omega)]
     exact hj)
   have hr := fun ty => run_append_grow_src (P := P) w t t ty e i z ht hi0 hi1 (some ⟨g,o,none⟩) n cap xs hold src m news hs' (by omega) (by omega) (by rw [hi3]; exact growslice_fits (by omega) hby2)
   have hge := grownCap_ge w (n + m) cap e
   refine ⟨_,_,hr,?_,(Kp.refl _ _).drew.alloc _,fun x hx => ?_,⟨_,_,rfl⟩⟩
   ·refine ownK_new k w.drew e _ _ _ _ hall hge (grownCap_le_maxLen w _ _ _ (by unfold maxLen; omega)) ?_ ?_
    ·rw [Array.size_append,size_zeroCells,hz]
     simp only [List.size_toArray]
     rw [hall,← Nat.add_mul]
     exact Nat.mul_le_mul_right _ (by omega)
    ·intro j hj
     rw [← hall] at hj
     rw [Array.getElem?_append_left (by simpa using hj)]
     simp
   ·simp [blk] at hx
    exact Or.inr hx
abbrev Att := ByteArray × ByteArray
def av (a : Att) : Value := .agg #[.string a.1,.string a.2]
def cs : List Att → List Value
 | [] => []
 | a :: l => .string a.1 :: .string a.2 :: cs l
theorem cs_len : ∀ l : List Att,(cs l).length = l.length * 2
 | [] => rfl
 | a :: l => by
   simp only [cs,List.length_cons,cs_len l]
   omega
theorem cs_append : ∀ l m : List Att,cs (l ++ m) = cs l ++ cs m
 | [],m => rfl
 | a :: l,m => by simp only [List.cons_append,cs,cs_append l m]
theorem cs_fst : ∀ (l : List Att) (j : Nat) (h : j < l.length),(cs l)[j * 2]? = some (.string l[j].1)
 | a :: l,0,_ => rfl
 | a :: l,j + 1,h => by
   rw [show (j + 1) * 2 = j * 2 + 1 + 1 by omega]
   simp only [cs,List.getElem?_cons_succ,List.getElem_cons_succ]
   exact cs_fst l j (by simpa using h)
theorem cs_snd : ∀ (l : List Att) (j : Nat) (h : j < l.length),(cs l)[j * 2 + 1]? = some (.string l[j].2)
 | a :: l,0,_ => rfl
 | a :: l,j + 1,h => by
   rw [show (j + 1) * 2 + 1 = j * 2 + 1 + 1 + 1 by omega]
   simp only [cs,List.getElem?_cons_succ,List.getElem_cons_succ]
   exact cs_snd l j (by simpa using h)
theorem cs_one : ∀ (l : List Att) u,u ∈ cs l → u.oneCell' = true
 | [],u,h => by simp [cs] at h
 | a :: l,u,h => by
   simp only [cs,List.mem_cons] at h
   rcases h with rfl | rfl | h
   ·rfl
   ·rfl
   ·exact cs_one l u h
theorem cs_inj : ∀ (l m : List Att),cs l = cs m → l = m
 | [],[],_ => rfl
 | [],b :: m,h => by simp [cs] at h
 | a :: l,[],h => by simp [cs] at h
 | a :: l,b :: m,h => by
   simp only [cs,List.cons.injEq,Value.string.injEq] at h
   rw [cs_inj l m h.2.2,Prod.ext h.1 h.2.1]
structure Rp (w : World) (ao : Option Addr) (n c : Nat) (l : List Att) : Prop where
 len : n = l.length
 cap : n ≤ c
 at' : ∀ j,j < n * 2 → ∃ b off,ao = some ⟨b,off,none⟩ ∧ w.cell? ⟨b,off + j,none⟩ = (cs l)[j]?
theorem Rp.of_own {w : World} {e : TypeId} {ao : Option Addr} {n m c : Nat} {l : List Att} (h : OwnK 2 w e (.slice ao n c) m (cs l)) : Rp w ao n c l := by
 obtain ⟨h0,h⟩ := h
 rw [cs_len] at h0
 have hm : m = l.length := by omega
 rcases h with ⟨h1,h2⟩ | ⟨g,o,cap,cur,hv,hg,h1,h2,h3,h4⟩
 ·simp only [Value.slice.injEq] at h1
  obtain ⟨rfl,rfl,rfl⟩ := h1
  exact ⟨by omega,Nat.le_refl _,fun j hj => by omega⟩
 ·simp only [Value.slice.injEq] at hv
  obtain ⟨rfl,rfl,rfl⟩ := hv
  exact ⟨hm,h1,fun j hj => ⟨g,o,rfl,by rw [cell_of hg,h4 j hj]⟩⟩
theorem Rp.keep {w w' : World} {ao : Option Addr} {n c : Nat} {l : List Att} (h : Rp w ao n c l) (hs : ∀ a,(∃ u,w.cell? a = some u) → w'.cell? a = w.cell? a) : Rp w' ao n c l := by
 refine ⟨h.len,h.cap,fun j hj => ?_⟩
 obtain ⟨b,off,h1,h2⟩ := h.at' j hj
 exact ⟨b,off,h1,by rw [hs _ ⟨_,h2.trans (List.getElem?_eq_getElem (by rw [cs_len]; have := h.len; omega))⟩]; exact h2⟩
theorem Rp.kept {w w' : World} {ao : Option Addr} {n c : Nat} {l : List Att} (h : Rp w ao n c l) (k : Kp [] w w') : Rp w' ao n c l :=
 h.keep (fun a ha => by
  obtain ⟨u,hu⟩ := ha
  exact k.cell (block_lt_of_cell hu) (by simp))
theorem Rp.get {w : World} {ao : Option Addr} {n c : Nat} {l : List Att} (h : Rp w ao n c l) (k : Nat) (hk : k < l.length) :
  ∃ b off,ao = some ⟨b,off,none⟩ ∧ w.cell? ⟨b,off + k * 2,none⟩ = some (.string l[k].1) ∧ w.cell? ⟨b,off + k * 2 + 1,none⟩ = some (.string l[k].2) := by
 have hl := h.len
 obtain ⟨b,off,h1,h2⟩ := h.at' (k * 2) (by omega)
 obtain ⟨b',off',h3,h4⟩ := h.at' (k * 2 + 1) (by omega)
 rw [h1] at h3
 simp only [Option.some.injEq,Addr.mk.injEq] at h3
 obtain ⟨rfl,rfl,_⟩ := h3
 exact ⟨b,off,h1,by rw [h2,cs_fst l k hk],by rw [Nat.add_assoc,h4,cs_snd l k hk]⟩
theorem Rp.src {P : Program} {t e : TypeId} (ht : P.underlying t = some (.slice e)) {w : World} {ao : Option Addr} {n c : Nat} {l : List Att} (h : Rp w ao n c l) : Src P 2 t (.slice ao n c) n (cs l) w := by
 have hl := h.len
 cases ao with
 | none =>
   have h0 : n = 0 := by
    rcases Nat.eq_zero_or_pos n with h1 | h1
    ·exact h1
    ·obtain ⟨b,off,h2,_⟩ := h.at' 0 (by omega)
     cases h2
   subst h0
   have : l = [] := List.eq_nil_of_length_eq_zero hl.symm
   subst this
   exact Src.ofNil w ht c
 | some a =>
   refine Src.ofSlice w ht a n c (cs l) (by rw [cs_len,hl]) (fun j u hj => ?_) (cs_one l)
   have hjl := (List.getElem?_eq_some_iff.1 hj).1
   rw [cs_len] at hjl
   obtain ⟨b,off,h2,h3⟩ := h.at' j (by omega)
   simp only [Option.some.injEq] at h2
   subst h2
   rw [Addr.add_lit,h3]
   exact hj
def Mp (w w' : World) (ao : Option Addr) (n c : Nat) (l : List Att) : Prop := OwnK 2 w' 102 (.slice ao n c) n (cs l) ∧ Kp [] w w' ∧ ∀ k,k ∈ blk (.slice ao n c) → w.heap.size ≤ k
theorem Mp.nil (w : World) : Mp w w none 0 0 [] := ⟨⟨rfl,Or.inl ⟨rfl,rfl⟩⟩,Kp.refl _ _,fun k hk => by simp [blk] at hk⟩
theorem Mp.len {w w' : World} {ao : Option Addr} {n c : Nat} {l : List Att} (h : Mp w w' ao n c l) : n = l.length := by
 have := h.1.1
 rw [cs_len] at this
 omega
theorem Mp.rp {w w' : World} {ao : Option Addr} {n c : Nat} {l : List Att} (h : Mp w w' ao n c l) : Rp w' ao n c l := Rp.of_own h.1
theorem Mp.kp {w w' : World} {ao : Option Addr} {n c : Nat} {l : List Att} (h : Mp w w' ao n c l) : Kp [] w w' := h.2.1
theorem Mp.kept {w w1 w2 : World} {ao : Option Addr} {n c : Nat} {l : List Att} (h : Mp w w1 ao n c l) (k : Kp [] w1 w2) : Mp w w2 ao n c l :=
 ⟨h.1.keep k (fun _ _ => by simp),h.2.1.trans k (fun x hx => by simp at hx),h.2.2⟩
theorem Mp.back {w0 w w1 : World} {ao : Option Addr} {n c : Nat} {l : List Att} (k : Kp [] w0 w) (h : Mp w w1 ao n c l) : Mp w0 w1 ao n c l :=
 ⟨h.1,k.trans h.2.1 (fun x hx => by simp at hx),fun x hx => Nat.le_trans k.size (h.2.2 x hx)⟩
theorem info23 : (Tryz.prog.info? 102).map (fun i => (i.zero,i.size,i.bytes)) = some (some (av (⟨#[]⟩,⟨#[]⟩)),2,32) := by kernel_rfl
theorem Mp.app {w w1 : World} {ao : Option Addr} {n c : Nat} {l : List Att} (h : Mp w w1 ao n c l) {src : Value} {m : Nat} {q : List Att} (hs : Src Tryz.prog 2 22 src m (cs q) w1) (hm : ao = none → 0 < m) (hlen : n + m ≤ 1000000) :
  ∃ ao' n' c' w2,(∀ ty,(Builtin.append_ #[22,22] ty #[.slice ao n c,src]).run Tryz.prog w1 = .ok (.slice ao' n' c') w2) ∧ Mp w w2 ao' n' c' (l ++ q) := by
 obtain ⟨h1,h2,h3⟩ := h
 obtain ⟨v',w2,hrun,o2,k2,b2,a2,c2,rfl⟩ := appK Tryz.underlying22 info23 rfl (by decide) w1 _ _ _ h1 src m (cs q) hs (fun hv => by simp only [Value.slice.injEq] at hv; exact hm hv.1) hlen
 refine ⟨_,_,_,w2,hrun,by rw [cs_append]; exact o2,h2.trans k2 (fun x hx => Or.inr (h3 x hx)),fun k hk => ?_⟩
 rcases b2 k hk with h4 | h4
 ·exact h3 k h4
 ·have := h2.size
  omega
theorem rp_lit (w : World) (cur : Array Value) (l : List Att) (n : Nat) (h : cur = (cs l).toArray) (hn : n = l.length) (hm : n ≤ 100000) : Mp w (w.alloc (.cells cur 102)) (some ⟨w.heap.size,0,none⟩) n n l := by
 subst h
 exact ⟨ownK_new 2 w 102 _ (cs l) n n (by rw [cs_len,hn]) (Nat.le_refl _) (by unfold maxLen; omega) (by simp [cs_len,hn]) (fun j hj => by simp),(Kp.refl _ _).alloc _,fun k hk => by simp [blk] at hk; omega⟩
theorem Mp.one {w w1 : World} {ao : Option Addr} {n c : Nat} {l : List Att} (h : Mp w w1 ao n c l) (a : Att) (hlen : n + 1 ≤ 1000000) :
  ∃ ao' n' c' w2,(∀ ty,(Builtin.append_ #[22,22] ty #[.slice ao n c,.slice (some ⟨w1.heap.size,0,none⟩) 1 1]).run Tryz.prog (w1.alloc (.cells #[.string a.1,.string a.2] 102)) = .ok (.slice ao' n' c') w2) ∧ Mp w w2 ao' n' c' (l ++ [a]) := by
 have k1 : Kp [] w1 (w1.alloc (.cells #[.string a.1,.string a.2] 102)) := (Kp.refl _ _).alloc _
 have hr := (rp_lit w1 #[.string a.1,.string a.2] [a] 1 rfl rfl (by omega)).rp
 exact (h.kept k1).app (hr.src Tryz.underlying22) (fun _ => by omega) hlen
end Go.Proofs.YtpkppobkagdhkaaGreat
