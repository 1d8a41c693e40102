/-
 Xio.
-/
import Derived.Test.YtpkppobkagdhkaaGreatB48
import Derived.Deep.SlicePairs
import Derived.Lib.SmallJoins
import Derived.SizedLaws
import Derived.Deep.Grids
import Derived.ProofKit
set_option linter.unusedVariables false
set_option linter.unusedSimpArgs false
set_option maxRecDepth 100000
set_option maxHeartbeats 1000000
namespace Go.Proofs.YtpkppobkagdhkaaGreat
open Go.ChangeShapes Go.WideShapes Go.RowKit Go.Deep
def str : Value → ByteArray
 | .string s => s
 | _ => ⟨#[]⟩
theorem mem_weightsAll {H : Type} {P : Program} {e : TypeId} {n : Nat} : ∀ {ds : List (DataW H)} {d : DataW H},d ∈ ds → n ∈ d.weights P e → n ∈ DataW.weightsAll P e ds
 | d0 :: ds,d,hd,hn => by
   simp only [DataW.weightsAll,List.mem_append]
   rcases List.mem_cons.1 hd with rfl | hd
   ·exact Or.inl hn
   ·exact Or.inr (mem_weightsAll hd hn)
theorem cells23 : Tryz.prog.cellsOf 102 = 2 := by kernel_rfl
theorem cells9 : Tryz.prog.cellsOf 9 = 1 := by kernel_rfl
theorem bytes23 : Tryz.prog.bytesOf 102 = 32 := by kernel_rfl
theorem atts_of {H : Type} {enc : TypeId × Value → H} {W : World} {a : Option Addr} {len cap : Nat} {d : DataW H} {ps : List MemPlace} (h : DataW.Trod enc Tryz.prog W 0 (fun _ => true) true 22 (.slice a len cap) d ps) (hsz : ∀ n,n ∈ d.weights Tryz.prog 22 → n ≤ reachBytes) :
  ∃ l,Rp W a len cap l ∧ len ≤ 140737488355328 ∧ cap ≤ 140737488355328 ∧ fits l := by
 have hrb := reachBytes_lt
 obtain ⟨fuel,hf⟩ := h
 rcases open_slice_pairs Tryz.underlying22 Tryz.underlying102 cells23 rfl rfl cells9 cells9 hf with ⟨hcs,hx⟩ | ⟨x,l,c,m,n,V0,V1,D0,D1,P0,P1,hcs,_,hl,hm,hmm,hx,hcell⟩
 ·simp [Value.cells] at hcs
  obtain ⟨rfl,rfl,rfl⟩ := hcs
  exact ⟨[],⟨rfl,Nat.le_refl _,fun j hj => by omega⟩,by omega,by omega,fun a ha => by simp at ha⟩
 ·simp [Value.cells] at hcs
  obtain ⟨rfl,rfl,rfl⟩ := hcs
  simp only [if_true] at hmm
  subst hmm
  simp only [Prod.mk.injEq] at hx
  obtain ⟨rfl,_⟩ := hx
  have hst : ∀ i,i < m → W.cell? (x.add (i * 2)) = some (.string (str (V0 i))) ∧ W.cell? (x.add (i * 2 + 1)) = some (.string (str (V1 i))) ∧ D0 i = .lit (.string (str (V0 i)).data.toList) ∧ D1 i = .lit (.string (str (V1 i)).data.toList) := by
   intro i hi
   obtain ⟨h0,h1,h2,h3⟩ := hcell i hi
   obtain ⟨s0,e0,e1,_⟩ := DataW.trod_string Tryz.underlying9 h2
   obtain ⟨s1,f0,f1,_⟩ := DataW.trod_string Tryz.underlying9 h3
   simp only [List.cons.injEq,and_true] at e0 f0
   simp only [Prod.mk.injEq] at e1 f1
   rw [e0] at h0 ⊢
   rw [f0] at h1 ⊢
   exact ⟨h0,h1,e1.1,f1.1⟩
  have hcap : m ≤ 140737488355328 := by
   have := hsz ((((List.range len).map fun i => DataW.agg [D0 i,D1 i]).length + ((List.range (m - len)).map fun j => DataW.agg [D0 (len + j),D1 (len + j)]).length) * Tryz.prog.bytesOf 102) (by simp [DataW.weights,Tryz.underlying22])
   rw [bytes23] at this
   simp at this
   omega
  refine ⟨(List.range len).map fun i => (str (V0 i),str (V1 i)),⟨by simp,hl,fun j hj => ?_⟩,by omega,hcap,fun y hy => ?_⟩
  ·obtain ⟨b,off,sp⟩ := x
   cases sp with
   | some q =>
     have h0 := (hst 0 (by omega)).1
     simp [World.cell?,Addr.add] at h0
     split at h0 <;> simp at h0
   | none =>
     refine ⟨b,off,rfl,?_⟩
     have hi : j / 2 < ((List.range len).map fun i => (str (V0 i),str (V1 i))).length := by simp; omega
     obtain ⟨h0,h1,_⟩ := hst (j / 2) (by omega)
     rw [Addr.add_lit] at h0 h1
     rcases Nat.mod_two_eq_zero_or_one j with hj2 | hj2
     ·have ej : j = j / 2 * 2 := by omega
      have := cs_fst _ (j / 2) hi
      rw [← ej] at this h0
      rw [h0,this]
      simp
     ·have ej : j = j / 2 * 2 + 1 := by omega
      have := cs_snd _ (j / 2) hi
      rw [← ej] at this h1
      rw [h1,this]
      simp
  ·obtain ⟨i,hi,rfl⟩ := List.mem_map.1 hy
   have hil := List.mem_range.1 hi
   obtain ⟨_,_,h2,h3⟩ := hst i (by omega)
   have hw : ∀ n,n ∈ (DataW.agg [D0 i,D1 i]).weights Tryz.prog 102 → n ≤ reachBytes := fun n hn => hsz n (by
    simp only [DataW.weights,Tryz.underlying22,List.mem_cons,List.mem_append]
    exact Or.inr (Or.inl (mem_weightsAll (List.mem_map.2 ⟨i,hi,rfl⟩) hn)))
   rw [h2,h3] at hw
   have w0 := hw (str (V0 i)).data.toList.length (by simp [DataW.weights,Tryz.underlying102,DataW.weightsEach])
   have w1 := hw (str (V1 i)).data.toList.length (by simp [DataW.weights,Tryz.underlying102,DataW.weightsEach])
   rw [Array.length_toList] at w0 w1
   exact ⟨by show (str (V0 i)).data.size ≤ _; omega,by show (str (V1 i)).data.size ≤ _; omega⟩
theorem cellsRaw : Tryz.prog.cellsOf 28 = 9 := by kernel_rfl
theorem cellsInt : Tryz.prog.cellsOf 3 = 1 := by kernel_rfl
theorem cellsAtts : Tryz.prog.cellsOf 22 = 1 := by kernel_rfl
theorem bytesRaw : Tryz.prog.bytesOf 28 = 104 := by kernel_rfl
theorem raw_cells {H : Type} {enc : TypeId × Value → H} {W : World} {fuel : Nat} {v0 v1 v2 v3 v4 v5 v6 v7 v8 : Value} {x : DataW H × List MemPlace} (h : DataW.trod enc Tryz.prog W 0 (fun _ => true) true fuel 28 [v0,v1,v2,v3,v4,v5,v6,v7,v8] = some x) (hsz : ∀ n,n ∈ x.1.weights Tryz.prog 28 → n ≤ reachBytes) :
  ∃ (y : Rx) (p : Sl),[v0,v1,v2,v3,v4,v5,v6,v7,v8] = (rxc y p).toList ∧ Rp W p.1 p.2.1 p.2.2 y.l ∧ p.2.1 ≤ 140737488355328 := by
 obtain ⟨xs,n,_,rfl,_,hlen,hf⟩ := DataW.trod_struct Tryz.underlying28 h
 match xs,hlen with
 | [y0,y1,y2,y3,y4,y5,y6,y7,y8],_ =>
   have g0 := hf 0 _ rfl
   have g1 := hf 1 _ rfl
   have g2 := hf 2 _ rfl
   have g3 := hf 3 _ rfl
   have g4 := hf 4 _ rfl
   have g5 := hf 5 _ rfl
   have g6 := hf 6 _ rfl
   have g7 := hf 7 _ rfl
   have g8 := hf 8 _ rfl
   simp [cellsInt,cells9,cellsAtts] at g0 g1 g2 g3 g4 g5 g6 g7 g8
   obtain ⟨z0,e0,_⟩ := DataW.trod_int Tryz.underlying3 g0
   obtain ⟨z1,e1,_⟩ := DataW.trod_int Tryz.underlying3 g1
   obtain ⟨z2,e2,_⟩ := DataW.trod_int Tryz.underlying3 g2
   obtain ⟨z3,e3,_⟩ := DataW.trod_int Tryz.underlying3 g3
   obtain ⟨z4,e4,_⟩ := DataW.trod_int Tryz.underlying3 g4
   obtain ⟨z5,e5,_⟩ := DataW.trod_int Tryz.underlying3 g5
   obtain ⟨x6,e6,_⟩ := DataW.trod_string Tryz.underlying9 g6
   obtain ⟨x7,e7,_⟩ := DataW.trod_string Tryz.underlying9 g7
   simp only [List.cons.injEq,and_true] at e0 e1 e2 e3 e4 e5 e6 e7
   have hs2 : ∃ ao n c,v8 = .slice ao n c := by
    rcases open_slice Tryz.underlying22 g8 with ⟨hc,_⟩ | ⟨a,l,c,_,_,_,_,hc,_⟩
    ·simp only [List.cons.injEq,and_true] at hc
     exact ⟨_,_,_,hc⟩
    ·simp only [List.cons.injEq,and_true] at hc
     exact ⟨_,_,_,hc⟩
   obtain ⟨ao,m,c,rfl⟩ := hs2
   have ht : DataW.Trod enc Tryz.prog W 0 (fun _ => true) true 22 (.slice ao m c) y8.1 y8.2 := ⟨n,by simpa [Value.cells] using g8⟩
   obtain ⟨l,hr,hm,_,_⟩ := atts_of ht (fun j hj => hsz j (by simp [DataW.weights,Tryz.underlying28,DataW.weightsEach,hj]))
   exact ⟨⟨z0,z1,z2,z3,z4,z5,x6,x7,l⟩,(ao,m,c),by rw [e0,e1,e2,e3,e4,e5,e6,e7]; rfl,hr,hm⟩
theorem addr_plain {W : World} {a : Addr} {v : Value} (h : W.cell? a = some v) : ∃ b off,a = ⟨b,off,none⟩ := by
 obtain ⟨b,off,sp⟩ := a
 cases sp with
 | none => exact ⟨b,off,rfl⟩
 | some q =>
   simp [World.cell?] at h
   split at h <;> simp at h
theorem raws_of {H : Type} {enc : TypeId × Value → H} {W : World} {a : Option Addr} {len cap : Nat} {d : DataW H} {ps : List MemPlace} (h : DataW.Trod enc Tryz.prog W 0 (fun _ => true) true 31 (.slice a len cap) d ps) (hsz : ∀ n,n ∈ d.weights Tryz.prog 31 → n ≤ reachBytes) :
  ∃ F : Nat → Rx,Xin W a len cap F := by
 have hrb := reachBytes_lt
 obtain ⟨fuel,hf⟩ := h
 rcases open_slice Tryz.underlying31 hf with ⟨hcs,hx⟩ | ⟨x,l,c,m,n,D,Pl,hcs,_,hl,hm,hmm,hx,hcell⟩
 ·simp [Value.cells] at hcs
  obtain ⟨rfl,rfl,rfl⟩ := hcs
  exact ⟨fun _ => ⟨0,0,0,0,0,0,⟨#[]⟩,⟨#[]⟩,[]⟩,Nat.le_refl _,by omega,fun i hi => by omega⟩
 ·simp [Value.cells] at hcs
  obtain ⟨rfl,rfl,rfl⟩ := hcs
  simp only [if_true] at hmm
  subst hmm
  simp only [Prod.mk.injEq] at hx
  obtain ⟨rfl,_⟩ := hx
  have hcap : m ≤ 140737488355328 := by
   have := hsz ((((List.range len).map D).length + ((List.range (m - len)).map fun j => D (len + j)).length) * Tryz.prog.bytesOf 28) (by simp [DataW.weights,Tryz.underlying31])
   rw [bytesRaw] at this
   simp at this
   omega
  have each : ∀ i,i < len → ∃ y : Rx × Sl,(∀ j,j < 9 → W.cell? (x.add (i * 9 + j)) = (rxc y.1 y.2)[j]?) ∧ Rp W y.2.1 y.2.2.1 y.2.2.2 y.1.l ∧ y.2.2.1 ≤ 140737488355328 := fun i hi => by
   obtain ⟨cs',h1,h2⟩ := hcell i (by omega)
   rw [cellsRaw] at h1
   obtain ⟨_,hlen,hc⟩ := World.cells?_some h1
   match cs',hlen with
   | [v0,v1,v2,v3,v4,v5,v6,v7,v8],_ =>
     obtain ⟨y,p,e,ha,hn⟩ := raw_cells h2 (fun k hk => hsz k (by
      simp only [DataW.weights,Tryz.underlying31,List.mem_cons,List.mem_append]
      exact Or.inr (Or.inl (mem_weightsAll (List.mem_map.2 ⟨i,List.mem_range.2 hi,rfl⟩) hk))))
     refine ⟨(y,p),fun j hj => ?_,ha,hn⟩
     have := hc j hj
     rw [add_add] at this
     rw [this,e]
     simp
  have inst : Inhabited (Rx × Sl) := ⟨⟨⟨0,0,0,0,0,0,⟨#[]⟩,⟨#[]⟩,[]⟩,none,0,0⟩⟩
  obtain ⟨f,hf⟩ := choose_lt each
  refine ⟨fun i => (f i).1,hl,by omega,fun i hi => ?_⟩
  obtain ⟨hc,hr,hb⟩ := hf i hi
  obtain ⟨b,off,e⟩ := addr_plain ((hf 0 (by omega)).1 0 (by omega))
  simp only [Nat.zero_mul,Nat.add_zero] at e
  have e' : x = ⟨b,off,none⟩ := by rw [← e]; simp [Addr.add]
  subst e'
  refine ⟨b,off,(f i).2,rfl,fun j hj => ?_,hr,hb⟩
  have := hc j hj
  rw [Addr.add_lit,← Nat.add_assoc] at this
  exact this
end Go.Proofs.YtpkppobkagdhkaaGreat
