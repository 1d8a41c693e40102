/-
  do of the laws: what it leaves.
-/
import Derived.Test.YtadcpkdnpfmphaaRd
import Derived.Test.YtadcpkdnpfmphaaAin
import Derived.Test.YtadcpkdnpfmphaaNam
import Derived.Test.YtadcpkdnpfmphaaShort
namespace Go.Proofs.Ytadcpkdnpfmphaa.Ints
open Go.RowKit
set_option linter.unusedSimpArgs false
set_option linter.unusedVariables false

/-- What do leaves: the list and the slice tell the same. -/
def Dn (w0 : World) (q : Nat) (zs : List Ent) (e : Ending) (w' : World) : Prop :=
  ∃ bo n d rl zs' B', e = .returned (.tuple #[.slice bo n d, .bool true]) ∧ Li w0 w' q B' zs' ∧ Ls w' bo n d rl zs' ∧ Off B' bo ∧ Kp [] w0 w' ∧ zs'.length ≤ zs.length + 1

/-- .. and ahead of tells. -/
def Dt (w0 w1 : World) (q : Nat) (B : List Nat) (m : Nat) (W : World) (zs' : List Ent) (bo : Option Addr) (n d : Nat) : Prop :=
  ∃ rl B', Li w0 W q B' zs' ∧ Ls W bo n d rl zs' ∧ Off B' bo ∧ Ev w0 B w1 W ∧ zs'.length ≤ m

theorem Off.next {w : World} {B B' : List Nat} {so : Option Addr} {n c : Nat} {rl : List Raw} (h : Rs w so n c rl) (o : Off B so) (hB : ∀ k, k ∈ B' → k ∈ B ∨ w.heap.size ≤ k) : Off B' so := by
  intro a ha hm
  rcases h.at' with ⟨h1, _⟩ | ⟨b, off, cur, h1, h2, _⟩
  · rw [h1] at ha; cases ha
  · rw [h1] at ha
    simp only [Option.some.injEq] at ha
    subst ha
    rcases hB _ hm with h3 | h3
    · exact o _ h1 h3
    · have := lt_of h2
      simp only at h3
      omega

/-- A list of the laws stays, whatever a call turns of the program's. -/
theorem Nx.ls {w0 w w' : World} {q : Nat} {B : List Nat} {ys : List Ent} {so : Option Addr} {n c : Nat} {rl : List Raw} {zs : List Ent} (h : Nx w0 w q B ys w') (l : Ls w so n c rl zs) (o : Off B so) : ∃ B', Li w0 w' q B' ys ∧ Ls w' so n c rl zs ∧ Off B' so := by
  obtain ⟨⟨B', h1, h2⟩, h3⟩ := h
  exact ⟨B', h1, l.ev h3 o, Off.next l.rs o h2⟩

/-- The list was made anew by the laws. -/
theorem Dt.made {w0 w1 w4 W : World} {q : Nat} {B : List Nat} {m : Nat} {zs' : List Ent} {bo : Option Addr} {n d : Nat} (h : ∃ B', Li w0 w4 q B' zs') (M : Mz w4 W bo n d zs') (k : Kp [] w4 W) (e : Ev w0 B w1 w4) (hl : zs'.length ≤ m) : Dt w0 w1 q B m W zs' bo n d := by
  obtain ⟨B', h1⟩ := h
  obtain ⟨rl, h2⟩ := M.ls
  exact ⟨rl, B', h1.kept k, h2, M.off B' h1.2, e.back k, hl⟩

theorem psh_len' (zs : List Ent) (h : Int) (nm : ByteArray) (a : List Att) : (psh zs h nm a).length ≤ zs.length + 1 := psh_len zs h nm a

theorem cz_hand (u : Int) : ∀ (l : List Raw) (k j : Nat), k < l.length → (cz (l.modify k (fun r => (r.1, u, r.2.2))))[j]? = if j = k * 4 + 1 then some (.int .i64 u) else (cz l)[j]?
  | [], k, j, h => by simp at h
  | x :: l, 0, j, _ => by
    match j with
    | 0 => rfl
    | 1 => rfl
    | 2 => rfl
    | 3 => rfl
    | j + 4 => rfl
  | x :: l, k + 1, j, h => by
    match j with
    | 0 => simp [cz]
    | 1 =>
      rw [if_neg (by omega)]
      rfl
    | 2 =>
      rw [if_neg (by omega)]
      rfl
    | 3 =>
      rw [if_neg (by omega)]
      rfl
    | j + 4 =>
      have h1 := cz_hand u l k j (by simpa using h)
      simp only [List.modify_succ_cons, cz, List.getElem?_cons_succ]
      rw [h1]
      by_cases hj : j = k * 4 + 1
      · rw [if_pos hj, if_pos (by omega)]
      · rw [if_neg hj, if_neg (by omega)]

/-- A handle is written into a list that a call made. -/
theorem Ms.hand {w w1 : World} {a : Addr} {n c : Nat} {rl : List Raw} {zs : List Ent} (h : Ms w w1 (some a) n c rl) (hs : Sms w1 rl zs) (k : Nat) (hk : k < rl.length) (u : Int) :
    ∃ g o, a = ⟨g, o, none⟩ ∧ w1.frozen? ⟨g, o + k * 4 + 1, none⟩ = false ∧ (∃ v, w1.cell? ⟨g, o + k * 4 + 1, none⟩ = some v) ∧
      Ms w (w1.setCell ⟨g, o + k * 4 + 1, none⟩ (.int .i64 u)) (some ⟨g, o, none⟩) n c (rl.modify k (fun r => (r.1, u, r.2.2))) ∧ Sms (w1.setCell ⟨g, o + k * 4 + 1, none⟩ (.int .i64 u)) (rl.modify k (fun r => (r.1, u, r.2.2))) (zs.modify k (hnd u)) := by
  obtain ⟨⟨h0, h1⟩, h2, h3⟩ := h
  rcases h1 with ⟨h1, _⟩ | ⟨g, o, cap, cur, hv, hg, b1, b2, b3, b4⟩
  · cases h1
  · simp only [Value.slice.injEq, Option.some.injEq] at hv
    obtain ⟨rfl, _, rfl⟩ := hv
    rw [cz_len] at h0
    have hgn := h3 g (by simp [blk])
    have hcz := (cz_at rl k hk).2.1
    have K : Kp [g] w1 (w1.setCell ⟨g, o + k * 4 + 1, none⟩ (.int .i64 u)) := Kp.setCell (Kp.refl _ _) (Or.inl (by simp)) _
    have E : Ev w [g] w1 (w1.setCell ⟨g, o + k * 4 + 1, none⟩ (.int .i64 u)) := Ev.of_pil K (fun x hx => by
      simp at hx
      subst hx
      refine ⟨hgn, fun cur' t ht => Or.inr ⟨?_, by simp⟩⟩
      rw [hg] at ht
      simp only [Option.some.injEq, Obj.cells.injEq] at ht
      exact ht.2.1.symm)
    refine ⟨g, o, rfl, frozen_of hg _, ⟨_, by rw [cell_of hg, Nat.add_assoc, b4 (k * 4 + 1) (by omega)]; exact hcz⟩, ⟨⟨by rw [cz_len]; simp; omega, Or.inr ⟨g, o, c, _, rfl, setCell_block hg _ _, b1, b2, by simpa using b3, fun j hj => ?_⟩⟩, h2.setCell (Or.inr hgn) _, h3⟩, Sms.hand u (Sms.ev E hs) k⟩
    have hcap : n * 4 ≤ c * 4 := Nat.mul_le_mul_right _ b1
    rw [Array.getElem?_setIfInBounds, cz_hand u rl k j hk]
    by_cases hj2 : j = k * 4 + 1
    · subst hj2
      rw [if_pos (by omega), if_pos (by omega), if_pos rfl]
    · rw [if_neg (by omega), if_neg hj2]
      exact b4 j hj

theorem do_fn (w : World) (h I : Int) (g : Nat) (hc : w.cell? ⟨g, 3, none⟩ = some (.int .i64 I)) : Calls Try.prog 32 #[.int .i64 h, .pointer (some ⟨g, 0, none⟩)] w fun e w' => e = .returned (.bool (decide (h < I))) ∧ w' = w := by
  go_enter Try.func32, Try.ntmps32
  go_wp2
  go_ret
  exact ⟨rfl, rfl⟩

end Go.Proofs.Ytadcpkdnpfmphaa.Ints
