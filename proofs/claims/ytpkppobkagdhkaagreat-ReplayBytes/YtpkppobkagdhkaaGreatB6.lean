/-
 Short Keys.
-/
import Derived.Test.YtpkppobkagdhkaaGreatB3
import Derived.Test.YtpkppobkagdhkaaGreatB2
import Derived.Deep.RegionHeld3
import Derived.Test.YtpkppobkagdhkaaGreatRows
import Derived.LaidEqlPtr
import Derived.Maps.OwnSet
set_option linter.unusedVariables false
set_option linter.unusedSimpArgs false
set_option maxRecDepth 100000
set_option maxHeartbeats 1000000
namespace Go.Proofs.YtpkppobkagdhkaaGreat
open Go.RowKit
theorem step_one {ops : Array Oper} {o : Oper} {a : Act} {w w1 : World} {K : Act → World → Prop} {Q : Exit → Act → World → Prop} {E : Prop}
  (hg : o.guard = none) (s x : Operand) (hop : o.op = Op.call { callee := Callee.builtin Builtin.append,args := #[s,x],argTypes := #[22,22] })
  {ao : Option Addr} {n c q : Nat} {l : List Att} (hs : a.eval s = .slice ao n c) (hx : a.eval x = .slice (some ⟨q,0,none⟩) 1 1) (hM : Mp w w1 ao n c l) (y : Att) (hq : w1.heap[q]? = some (.cells #[.string y.1,.string y.2] 102)) (hlen : n + 1 ≤ 1000000)
  (hK : ∀ ao' n' c' w',Mp w w' ao' n' c' (l ++ [y]) → K (a.put o.dst (.slice ao' n' c')) w') :
  if Region.wanted o (yielded ops a.tmps) = true then Oper.wp Tryz.prog o a w1 K Q else E := by
 have hw : Region.wanted o (yielded ops a.tmps) = true := by simp [Region.wanted,hg]
 rw [if_pos hw]
 have hr : Rp w1 (some ⟨q,0,none⟩) 1 1 [y] := ⟨rfl,Nat.le_refl _,fun j hj => ⟨q,0,rfl,by
  rw [cell_of hq]
  match j,hj with
  | 0,_ => rfl
  | 1,_ => rfl⟩⟩
 obtain ⟨a2,n2,c2,w2,hrun,M2⟩ := hM.app (hr.src Tryz.underlying22) (fun _ => by omega) hlen
 have hr2 := hrun o.type
 unfold Oper.wp
 simp [execOp,hop,resolve,invoke,builtin,hs,hx,hr2,Result.andThen]
 exact hK a2 n2 c2 w2 M2
def cutB (s : ByteArray) (m : Nat) : ByteArray := if m < s.size then s.extract 0 m else s
def short (l : List Att) : List Att := (l.take 6).map fun a => (cutB a.1 20,cutB a.2 30)
theorem short_len (l : List Att) : (short l).length ≤ 6 := by
 unfold short
 simp
 omega
def shortTo (l : List Att) (k : Nat) : List Att := (l.take k).map fun a => (cutB a.1 20,cutB a.2 30)
theorem shortTo_snoc {l : List Att} {k : Nat} (h : k < l.length) : shortTo l (k + 1) = shortTo l k ++ [(cutB l[k].1 20,cutB l[k].2 30)] := by
 unfold shortTo
 rw [take_snoc h,List.map_append]
 rfl
theorem shortTo_len (l : List Att) (k : Nat) : (shortTo l k).length ≤ k := by
 unfold shortTo
 simp
 omega
theorem short_any (w : World) (l : List Att) (ao : Option Addr) (n c : Nat) (hr : Rp w ao n c l) (hl : n ≤ 140737488355328) :
  Calls Tryz.prog 26 #[.slice ao n c] w fun e w' => ∃ ao' n' c',e = .returned (.slice ao' n' c') ∧ Mp w w' ao' n' c' (short l) := by
 obtain rfl := hr.len
 go_enter Tryz.func26,Tryz.ntmps26
 go_wp2
 go_loopw [3,4] (fun v i wr => ∃ (k : Nat) (ao' : Option Addr) (n' c' : Nat),k ≤ l.length ∧ k ≤ 6 ∧ i = .int .i64 k ∧ v = .slice ao' n' c' ∧ Mp w wr ao' n' c' (shortTo l k)) (fun _ i _ => 6 - (intOf i).toNat)
 case atStart => exact ⟨0,_,_,_,Nat.zero_le _,Nat.zero_le _,rfl,rfl,Mp.nil w⟩
 case round =>
  obtain ⟨k,ao',n',c',hk,hk6,rfl,rfl,M⟩ := hrel
  by_cases hlt : k < l.length
  ·by_cases hlt6 : k < 6
   ·obtain ⟨b1,o1,rfl,h1,h2⟩ := (hr.kept M.kp).get k hlt
    have hsn : Hid (shortTo l (k + 1) = shortTo l k ++ [(cutB l[k].1 20,cutB l[k].2 30)]) := shortTo_snoc hlt
    have hn : n' ≤ 1000 := by have := M.len; have := shortTo_len l k; omega
    have HX := fun w => cut_any w l[k].1 20 (by omega)
    have HY := fun w => cut_any w l[k].2 30 (by omega)
    have HC : ∀ v,Kp [] w v → v.cell? ⟨b1,o1 + k * 2,none⟩ = some (.string l[k].1) ∧ v.cell? ⟨b1,o1 + k * 2 + 1,none⟩ = some (.string l[k].2) := fun v kv => by
     obtain ⟨b2,o2,e,g1,g2⟩ := (hr.kept kv).get k hlt
     simp only [Option.some.injEq,Addr.mk.injEq,and_true] at e
     obtain ⟨rfl,rfl⟩ := e
     exact ⟨g1,g2⟩
    clear hr
    rw [show (if 20 < l[k].1.size then l[k].1.extract 0 20 else l[k].1) = cutB l[k].1 20 from rfl] at HX
    rw [show (if 30 < l[k].2.size then l[k].2.extract 0 30 else l[k].2) = cutB l[k].2 30 from rfl] at HY
    generalize l[k] = a at h1 h2 hsn HX HY HC
    generalize cutB a.1 20 = x at hsn HX
    generalize cutB a.2 30 = y at hsn HY
    have C1 : Hid (∀ v,Kp [] w v → v.cell? ⟨b1,o1 + k * 2,none⟩ = some (.string a.1) ∧ v.cell? ⟨b1,o1 + k * 2 + 1,none⟩ = some (.string a.2)) := HC
    clear HC
    have kp := M.kp
    go_wp2_with fail
    go_region_held3 (fun w' => w'.cell? ⟨b1,o1 + k * 2,none⟩ = some (.string a.1) ∧ w'.cell? ⟨b1,o1 + k * 2 + 1,none⟩ = some (.string a.2))
     (first
      | exact C1.out _ M4.kp
      | exact C1.out _ (kp.drew.alloc _)
      | exact C1.out _ kp.drew)
     (first
      | (go_at_call 25; have D2 := D1.out; refine (HY _).mono ?_; rintro e v1 ⟨rfl,rfl⟩)
      | (go_at_call 25; refine (HX _).mono ?_; rintro e v1 ⟨rfl,rfl⟩; have D1 : Hid True := trivial)
      | (refine step_one (by rfl) _ _ (by rfl) (by rfl) (by rfl) ((M.kept (Kp.refl _ _).drew).kept ((Kp.refl _ _).alloc _)) (x,y) (heap_new _ _) (by omega) ?_; intro a4 n4 c4 w4 M4))
    clear C1 HX HY h1 h2 M kp
    go_wp2
    go_roundw
    case rel => exact ⟨k + 1,_,_,_,by omega,by omega,by go_num,rfl,by rw [hsn.out]; exact M4⟩
    case measure => simp [intOf]; omega
   ·obtain rfl : k = 6 := by omega
    go_wp2
    go_ret
    exact ⟨_,_,_,rfl,M⟩
  ·obtain rfl : k = l.length := by omega
   have e1 : Hid (shortTo l l.length = short l) := by unfold shortTo short; rw [List.take_of_length_le (Nat.le_refl _),List.take_of_length_le hk6]; exact rfl
   go_wp2
   go_ret
   exact ⟨_,_,_,rfl,by rw [← e1.out]; exact M⟩
theorem info25 : (Tryz.prog.info? 40).map (·.size) = some 6 := by kernel_rfl
def Inb (w : World) (a : Addr) : Prop := ∃ cur e,w.heap[a.block]? = some (.cells cur e (0,0))
theorem eql_ptr (w : World) (a b : Addr) (ha : Inb w a) (hb : Inb w b) : (Op.equal 80 (.pointer (some a)) (.pointer (some b))).run Tryz.prog w = .ok (decide (a = b)) w := by
 obtain ⟨j,hj,hjs⟩ := Option.map_eq_some_iff.1 info25
 by_cases h : a = b
 ·subst h
  rw [decide_eq_true rfl]
  have h : ∀ d : Nat,(Op.equalIn (d + 1) 80 (.pointer (some a)) (.pointer (some a))).run Tryz.prog w = .ok true w := fun d => by
   simp [Op.equalIn,run_underlying Tryz.underlying80,sizeOf,typeInfo,hj,run_sameAddr_same]
  exact h 9999
 ·rw [decide_eq_false h]
  obtain ⟨ca,ta,ha⟩ := ha
  obtain ⟨cb,tb,hb⟩ := hb
  have h : ∀ d : Nat,(Op.equalIn (d + 1) 80 (.pointer (some a)) (.pointer (some b))).run Tryz.prog w = .ok false w := fun d => by
   simp [Op.equalIn,run_underlying Tryz.underlying80,sizeOf,typeInfo,hj,hjs,run_sameAddr_other w h ha hb]
  exact h 9999
theorem check_ptr (w : World) (em : Bool) (a : Addr) : (Instr.checkKey em 10000 80 (.pointer (some a))).run Tryz.prog w = .ok () w := by
 have h : ∀ d : Nat,(Instr.checkKey em (d + 1) 80 (.pointer (some a))).run Tryz.prog w = .ok () w := fun d => by
  simp [Instr.checkKey,run_underlying Tryz.underlying80]
 exact h 9999
def ksOf (es : List MapEntry) : List Value := es.map (·.key)
theorem find_asking (w : World) (a : Addr) (ha : Inb w a) : ∀ (es : List MapEntry) (ad : List Addr) (i : Nat),ksOf es = ad.map (fun x => .pointer (some x)) → (∀ x,x ∈ ad → Inb w x) → a ∉ ad → (Instr.findAsking 80 (.pointer (some a)) es i).run Tryz.prog w = .ok none w
 | [],ad,i,_,_,_ => by simp [Instr.findAsking]
 | e :: es,[],i,h,_,_ => by simp [ksOf] at h
 | e :: es,x :: ad,i,h,hi,hn => by
   simp only [ksOf,List.map_cons,List.cons.injEq] at h
   have h1 := eql_ptr w a x ha (hi x (by simp))
   rw [decide_eq_false (fun e => hn (by simp [e]))] at h1
   have ih := find_asking w a ha es ad (i + 1) h.2 (fun y hy => hi y (by simp [hy])) (fun hy => hn (by simp [hy]))
   unfold Instr.findAsking
   simp [h.1,h1,ih]
theorem find_last (w : World) (a : Addr) (ha : Inb w a) (u : MapEntry) (hu : u.key = .pointer (some a)) : ∀ (es : List MapEntry) (ad : List Addr) (i : Nat),ksOf es = ad.map (fun x => .pointer (some x)) → (∀ x,x ∈ ad → Inb w x) → a ∉ ad → (Instr.findAsking 80 (.pointer (some a)) (es ++ [u]) i).run Tryz.prog w = .ok (some (i + es.length,u.val)) w
 | [],ad,i,_,_,_ => by
   have h1 := eql_ptr w a a ha ha
   rw [decide_eq_true rfl] at h1
   unfold Instr.findAsking
   simp [hu,h1]
 | e :: es,[],i,h,_,_ => by simp [ksOf] at h
 | e :: es,x :: ad,i,h,hi,hn => by
   simp only [ksOf,List.map_cons,List.cons.injEq] at h
   have h1 := eql_ptr w a x ha (hi x (by simp))
   rw [decide_eq_false (fun e => hn (by simp [e]))] at h1
   have ih := find_last w a ha u hu es ad (i + 1) h.2 (fun y hy => hi y (by simp [hy])) (fun hy => hn (by simp [hy]))
   rw [List.cons_append]
   unfold Instr.findAsking
   simp [h.1,h1,ih]
   omega
theorem find_now (a : Addr) (te : TypeId) : ∀ (es : List MapEntry),es ≠ [] → Instr.findNow (.pointer te) (.pointer (some a)) es 0 = none
 | [],h => absurd rfl h
 | e :: es,_ => by
   unfold Instr.findNow
   simp [Instr.sameNow]
def Ks (w : World) (m : Nat) (ad : List Addr) : Prop := ∃ es clock,w.heap[m]? = some (.map es clock) ∧ ksOf es.toList = ad.map (fun x => .pointer (some x))
theorem Ks.lt {w : World} {m : Nat} {ad : List Addr} (h : Ks w m ad) : m < w.heap.size := by
 obtain ⟨es,clock,h1,_⟩ := h
 exact (Array.getElem?_eq_some_iff.1 h1).1
theorem Ks.keep {S : List Nat} {w w' : World} {m : Nat} {ad : List Addr} (h : Ks w m ad) (k : Kp S w w') (hn : m ∉ S) : Ks w' m ad := by
 have hl := h.lt
 obtain ⟨es,clock,h1,h2⟩ := h
 exact ⟨es,clock,by rw [k.block m hl hn]; exact h1,h2⟩
theorem find_none (w : World) (a : Addr) (ha : Inb w a) (es : List MapEntry) (ad : List Addr) (h : ksOf es = ad.map (fun x => .pointer (some x))) (hi : ∀ x,x ∈ ad → Inb w x) (hn : a ∉ ad) : (Instr.findKey 80 (.pointer (some a)) es).run Tryz.prog w = .ok none w := by
 have h1 := find_asking w a ha es ad 0 h hi hn
 unfold Instr.findKey
 cases es with
 | nil => simp [run_underlying Tryz.underlying80,Instr.findNow]
 | cons e es => simp [run_underlying Tryz.underlying80,find_now a 40 (e :: es) (by simp),h1]
theorem Ks.look {w : World} {m : Nat} {ad : List Addr} (h : Ks w m ad) (a : Addr) (ha : Inb w a) (hi : ∀ x,x ∈ ad → Inb w x) (hn : a ∉ ad) : (Instr.lookup 144 (.map (some m)) (.pointer (some a)) true).run Tryz.prog w = .ok (.tuple #[.agg #[],.bool false]) w := by
 obtain ⟨es,clock,h1,h2⟩ := h
 simp [Instr.lookup,run_underlying Tryz.underlying144,MapKept.run_getObj_map h1,check_ptr,find_none w a ha es.toList ad h2 hi hn]
theorem Ks.put {w : World} {m : Nat} {ad : List Addr} (h : Ks w m ad) (a : Addr) (ha : Inb w a) (hi : ∀ x,x ∈ ad → Inb w x) (hn : a ∉ ad) : ∃ w',(Instr.mapUpdate 144 (.map (some m)) (.pointer (some a)) (.agg #[])).run Tryz.prog w = .ok () w' ∧ Ks w' m (ad ++ [a]) ∧ Kp [m] w w' := by
 obtain ⟨es,clock,h1,h2⟩ := h
 refine ⟨ChangeMaps.setBlock w m (.map (es.push ⟨.pointer (some a),.agg #[],clock⟩) (clock + 1)),?_,⟨_,_,ChangeMaps.heap_setBlock_same h1 _,?_⟩,⟨rfl,rfl,rfl,by simp [ChangeMaps.setBlock],fun k _ hk => ChangeMaps.heap_setBlock_other h1 _ (by simpa using hk)⟩⟩
 ·simp [Instr.mapUpdate,run_underlying Tryz.underlying144,MapKept.run_getObj_map h1,check_ptr,find_none w a ha es.toList ad h2 hi hn,MapKept.run_setObj_map _ h1,ChangeMaps.setBlock]
 ·simp only [ksOf,Array.toList_push,List.map_append,List.map_cons,List.map_nil] at h2 ⊢
  rw [h2]
theorem Ks.del {w : World} {m : Nat} {ad : List Addr} (a : Addr) (h : Ks w m (ad ++ [a])) (ha : Inb w a) (hi : ∀ x,x ∈ ad → Inb w x) (hn : a ∉ ad) : ∃ w',(∀ ty,(Builtin.delete_ #[144,80] ty #[.map (some m),.pointer (some a)]).run Tryz.prog w = .ok (.tuple #[]) w') ∧ Ks w' m ad ∧ Kp [m] w w' := by
 obtain ⟨es,clock,h1,h2⟩ := h
 obtain ⟨l,hl⟩ : ∃ l,l = es.toList := ⟨_,rfl⟩
 have hll : l.length = es.size := by rw [hl]; simp
 rw [← hl] at h2
 have hne : l ≠ [] := fun e => by rw [e] at h2; simp [ksOf] at h2
 obtain ⟨es0,u,he⟩ : ∃ es0 u,l = es0 ++ [u] := ⟨l.dropLast,l.getLast hne,(List.dropLast_concat_getLast hne).symm⟩
 rw [he] at h2
 simp only [ksOf,List.map_append,List.map_cons,List.map_nil] at h2
 obtain ⟨h3,h4⟩ := List.append_inj' h2 rfl
 simp only [List.cons.injEq,and_true] at h4
 have hf := find_last w a ha u h4 es0 ad 0 h3 hi hn
 have hk : (Instr.findKey 80 (.pointer (some a)) es.toList).run Tryz.prog w = .ok (some (es0.length,u.val)) w := by
  rw [← hl,he]
  unfold Instr.findKey
  simp only [Nat.zero_add] at hf
  simp [run_underlying Tryz.underlying80,find_now a 40 (es0 ++ [u]) (by simp),hf]
 refine ⟨ChangeMaps.setBlock w m (.map (es.eraseIdxIfInBounds es0.length) clock),fun ty => ?_,⟨_,_,ChangeMaps.heap_setBlock_same h1 _,?_⟩,⟨rfl,rfl,rfl,by simp [ChangeMaps.setBlock],fun k _ hk => ChangeMaps.heap_setBlock_other h1 _ (by simpa using hk)⟩⟩
 ·simp [Builtin.delete_,run_underlying Tryz.underlying144,MapKept.run_getObj_map h1,check_ptr,hk,MapKept.run_setObj_map _ h1,ChangeMaps.setBlock]
 ·have : (es.eraseIdxIfInBounds es0.length).toList = es0 := by
   have e1 : es = (es0 ++ [u]).toArray := by rw [← he,hl]
   rw [e1]
   simp [Array.eraseIdxIfInBounds,List.eraseIdx_append_of_length_le]
  rw [this]
  exact h3
end Go.Proofs.YtpkppobkagdhkaaGreat
