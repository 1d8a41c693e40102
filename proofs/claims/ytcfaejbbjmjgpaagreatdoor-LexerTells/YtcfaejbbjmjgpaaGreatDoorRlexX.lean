/-
  The document's lexer: what a call leaves.
-/
import Derived.Test.YtcfaejbbjmjgpaaGreatDoorRlexD
import Derived.Test.YtcfaejbbjmjgpaaGreatDoorPlains
namespace Go.Proofs.YtcfaejbbjmjgpaaGreatDoor
open Go.RowKit Utf
set_option linter.unusedVariables false

theorem Nyt.back {w wr v : World} {b : Nat} {ao : Option Addr} {n c : Nat} {l : List Att} {s : ByteArray} {p : Nat} {md : Int} {fg : Bool} {last : ByteArray} (k : Kp [b] w wr) (h : Nyt wr v b ao n c l s p md fg last) : Nyt w v b ao n c l s p md fg last :=
  ⟨k.trans h.kp (fun z hz => Or.inl hz), h.ly, h.own, fun z hz => Nat.le_trans k.size (h.nw z hz)⟩
theorem Nyt.keep {w v V : World} {b : Nat} {ao : Option Addr} {n c : Nat} {l : List Att} {s : ByteArray} {p : Nat} {md : Int} {fg : Bool} {last : ByteArray} (h : Nyt w v b ao n c l s p md fg last) (k : Kp [] v V) : Nyt w V b ao n c l s p md fg last :=
  ⟨h.kp.trans k (fun z hz => by simp at hz), h.ly.kept k (by simp), h.own.keep k (fun _ _ => by simp), h.nw⟩
/-- Once the result is laid. -/
theorem nyt_fin {w V : World} {b g0 : Nat} {ao : Option Addr} {n c : Nat} {l : List Att} {s : ByteArray} {p : Nat} {md : Int} {fg : Bool} {last : ByteArray} (h : Nyt w V b ao n c l s p md fg last) (A : At V g0 ZT 44) (hg : w.heap.size ≤ g0) (hb : g0 ≠ b) (na : ∀ z, z ∈ blk (.slice ao n c) → z ≠ g0) (v0 v1 v2 v3 v4 : Value) :
    (put5 V g0 v0 v1 v2 v3 v4).cell? ⟨g0, 0, none⟩ = some v0 ∧ (put5 V g0 v0 v1 v2 v3 v4).cell? ⟨g0, 1, none⟩ = some v1 ∧ (put5 V g0 v0 v1 v2 v3 v4).cell? ⟨g0, 2, none⟩ = some v2 ∧ (put5 V g0 v0 v1 v2 v3 v4).cell? ⟨g0, 3, none⟩ = some v3 ∧ (put5 V g0 v0 v1 v2 v3 v4).cell? ⟨g0, 4, none⟩ = some v4 ∧ Nyt w (put5 V g0 v0 v1 v2 v3 v4) b ao n c l s p md fg last :=
  ⟨(A.put5 v0 v1 v2 v3 v4).cell 0, (A.put5 v0 v1 v2 v3 v4).cell 1, (A.put5 v0 v1 v2 v3 v4).cell 2, (A.put5 v0 v1 v2 v3 v4).cell 3, (A.put5 v0 v1 v2 v3 v4).cell 4,
    ⟨h.kp.put5 (Or.inr hg) _ _ _ _ _, past5 h.ly hb _ _ _ _ _, h.own.keep ((Kp.refl [g0] V).put5 (Or.inl (by simp)) _ _ _ _ _) (fun z hz => by have := na z hz; simpa using this), h.nw⟩⟩

end Go.Proofs.YtcfaejbbjmjgpaaGreatDoor
