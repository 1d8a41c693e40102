/-
  What All gathers behind a raw start, and behind plaintext. No program.
-/
import Derived.Test.YtcfaejbbjmjgpabDoorPlains
namespace Go.Proofs.YtcfaejbbjmjgpabDoor
open Go.RowKit Utf
set_option linter.unusedVariables false

/-- A start of that name, and nothing else: what is read of a text that begins so. -/
theorem start_next {u t : ByteArray} {x : ByteArray} (hu : tagF u 0 = ((2, x, [], false, ⟨#[]⟩), (u.size : Int), true)) (hb : begF u 0 = (2, 1)) (h : Agr u t u.size) : nextF t 1 false ⟨#[]⟩ 0 = ((2, x, [], false, ⟨#[]⟩), u.size, 1, x) := by
  have hb' : begF u ((0 : Nat) : Int) = (2, 1) := hb
  have h60 := beg_lt (s := u) (p := 0) (by rw [hb']; show ¬ (2 : Int) = 0; decide)
  have ht : begF t ((0 : Nat) : Int) = (2, 1) := by
    rw [begF_one h60.1 h60.2] at hb'
    have z2 : 1 < u.size := by
      by_cases g : 1 < u.size
      · exact g
      · rw [show 0 + 1 = 1 from rfl, bt_out (s := u) (p := 1) (by omega)] at hb'
        rw [if_neg (by decide), if_neg (by decide)] at hb'
        simp at hb'
    have hts := h.ht
    rw [begF_one (s := t) (p := 0) (by omega) ((h.at' 0 (by omega)).symm.trans h60.2)]
    rw [show 0 + 1 = 1 from rfl] at hb' ⊢
    rw [← h.at' 1 z2]
    by_cases g : bt u 1 = 47
    · rw [if_pos g] at hb'
      split at hb' <;> simp at hb'
    · rw [if_neg g] at hb' ⊢
      exact hb'
  have hne : ¬ (begF t ((0 : Nat) : Int)).1 = 0 := by rw [ht]; show ¬ (2 : Int) = 0; decide
  have e1 : tagF t ((0 : Nat) : Int) = wholeF t 2 1 := tag_some ht (by decide)
  have e2 : tagF u 0 = wholeF u 2 1 := tag_some hb (by decide)
  have e3 : wholeF t 2 1 = wholeF u 2 1 := by
    rw [e2] at hu
    have hts := h.ht
    refine whole_agr h (by omega) ?_ ?_
    · rw [hu]
    · rw [hu]; exact Int.le_refl _
  have e4 : tagF t ((0 : Nat) : Int) = ((2, x, [], false, ⟨#[]⟩), (u.size : Int), true) := by rw [e1, e3, ← e2, hu]
  have hts := h.ht
  rw [nextF_data (by omega)]
  have hd : datF t false ⟨#[]⟩ (t.size + 1) 0 = tgF t ⟨#[]⟩ 0 := by
    unfold datF
    rw [if_neg (by omega), if_pos hne]
  rw [hd]
  unfold tgF
  rw [e4, if_pos rfl, if_pos rfl]
  show (_, (u.size : Int).toNat, _, _) = _
  rw [Int.toNat_natCast]

theorem agr_left (u m : ByteArray) : Agr u (u ++ m) u.size := ⟨Nat.le_refl _, by rw [cat_size]; omega, fun j hj => (bt_left u m hj).symm⟩

theorem cut_right (a b : ByteArray) : (a ++ b).extract a.size (a ++ b).size = b := by
  have hz : ((a ++ b).extract a.size (a ++ b).size).size = b.size := by rw [ByteArray.size_extract, cat_size]; omega
  refine bt_ext hz fun j hj => ?_
  rw [hz] at hj
  rw [bt_cut _ _ _ _ (by rw [cat_size]; omega) (Nat.le_refl _), bt_right]

def PT : ByteArray := ⟨#[60, 112, 108, 97, 105, 110, 116, 101, 120, 116, 62]⟩
def PTN : ByteArray := ⟨#[112, 108, 97, 105, 110, 116, 101, 120, 116]⟩
theorem pt_tag : tagF PT 0 = ((2, PTN, [], false, ⟨#[]⟩), (PT.size : Int), true) := by decide +kernel
theorem pt_beg : begF PT 0 = (2, 1) := by decide +kernel
theorem pt_raw : raw PTN false = 4 := by decide +kernel

/-- Behind plaintext all is one text. -/
theorem plaintext_all {m : ByteArray} (h : 0 < m.size) : allT (PT ++ m) = [(2, PTN, [], false, ⟨#[]⟩), txT m, eofT] := by
  have h1 := start_next pt_tag pt_beg (agr_left PT m)
  have hz : (PT ++ m).size = 11 + m.size := cat_size _ _
  have zp : PT.size = 11 := rfl
  have h2 : nextF (PT ++ m) 4 false PTN PT.size = (txT m, (PT ++ m).size, 4, PTN) := by
    have he : tE (PT ++ m) 4 PTN PT.size = (PT ++ m).size := fs_eq ⟨by omega, Nat.le_refl _, fun j _ _ => by
      unfold enF
      rw [if_neg (by decide), if_neg (by decide)], fun g => by omega⟩
    rw [nextF_text (by omega) (by decide) (by simp), he]
    unfold tT
    rw [if_neg (by decide), cut_right]
  have h3 := nextF_end (s := PT ++ m) (last := PTN) (md := 4) (fg := false) (Nat.le_refl _)
  obtain ⟨n, hn⟩ : ∃ n, (PT ++ m).size + 1 = n + 1 + 1 + 1 := ⟨(PT ++ m).size - 2, by omega⟩
  unfold allT
  rw [hn, alT_start h1 rfl]
  show _ :: alT _ (n + 1 + 1) PT.size (raw PTN false) PTN = _
  rw [pt_raw, alT_else h2 (by show ¬ (4 : Int) = 6; decide) (by show ¬ (4 : Int) = 2; decide)]
  show _ :: _ :: alT _ (n + 1) (PT ++ m).size 4 PTN = _
  rw [alT_end h3 rfl]

/-- No slash. -/
def Bare (x : ByteArray) : Prop := ∀ j, j < x.size → ¬ bt x j = 47
theorem bare_nil : Bare ⟨#[]⟩ := fun j hj => by
  have : j < 0 := hj
  omega
theorem Bare.cat {x y : ByteArray} (h : Bare x) (k : Bare y) : Bare (x ++ y) := fun j hj => by
  rw [cat_size] at hj
  by_cases h1 : j < x.size
  · rw [bt_left x y h1]
    exact h j h1
  · rw [show j = x.size + (j - x.size) by omega, bt_right]
    exact k _ (by omega)
theorem bare_rune {r : Int} (h : good r) (h1 : ¬ r = 47) : Bare (Utf8.encode r) := fun j hj => by
  have hm : bt (Utf8.encode r) j ∈ enc r := by
    unfold enc bt
    have hl : j < (bytesOf (Utf8.encode r)).length := by rw [bytes_len]; exact hj
    rw [List.getD_eq_getElem?_getD, List.getElem?_eq_getElem hl, Option.getD_some]
    exact List.getElem_mem hl
  rcases enc_mem h hm with g | g
  · rw [g]; exact h1
  · omega

def MID : ByteArray := ⟨#[60, 98, 62, 38, 108, 116, 59]⟩
def TAIL : ByteArray := ⟨#[32, 62, 121]⟩

/-- What stands where in such a text. -/
structure Rw (t u y nm : ByteArray) (p : Nat) : Prop where
  size : t.size = p + 2 + nm.size + 3
  pu : p = u.size + y.size
  cut : t.extract u.size p = y
  slash : ∀ j, u.size ≤ j → j ≤ p → ¬ bt t j = 47
  b0 : bt t p = 60
  b1 : bt t (p + 1) = 47
  name : ∀ j, j < nm.size → bt t (p + 2 + j) = bt nm j
  e0 : bt t (p + 2 + nm.size) = 32
  e1 : bt t (p + 2 + nm.size + 1) = 62
  e2 : bt t (p + 2 + nm.size + 2) = 121

theorem rw_is (u y nm : ByteArray) (h : Bare y) : Rw (u ++ (y ++ (CLO ++ (nm ++ TAIL)))) u y nm (u.size + y.size) := by
  have z1 : (nm ++ TAIL).size = nm.size + 3 := cat_size _ _
  have z2 : (CLO ++ (nm ++ TAIL)).size = 2 + (nm.size + 3) := by rw [cat_size, z1]; rfl
  have z3 : (y ++ (CLO ++ (nm ++ TAIL))).size = y.size + (2 + (nm.size + 3)) := by rw [cat_size, z2]
  have z4 : (u ++ (y ++ (CLO ++ (nm ++ TAIL)))).size = u.size + (y.size + (2 + (nm.size + 3))) := by rw [cat_size, z3]
  have c2 : CLO.size = 2 := rfl
  have at_y : ∀ j, bt (u ++ (y ++ (CLO ++ (nm ++ TAIL)))) (u.size + j) = bt (y ++ (CLO ++ (nm ++ TAIL))) j := fun j => bt_right _ _ j
  have at_c : ∀ j, bt (u ++ (y ++ (CLO ++ (nm ++ TAIL)))) (u.size + y.size + j) = bt (CLO ++ (nm ++ TAIL)) j := fun j => by rw [Nat.add_assoc, at_y, bt_right]
  have at_n : ∀ j, bt (u ++ (y ++ (CLO ++ (nm ++ TAIL)))) (u.size + y.size + 2 + j) = bt (nm ++ TAIL) j := fun j => by rw [show u.size + y.size + 2 + j = u.size + y.size + (2 + j) by omega, at_c, ← c2, bt_right]
  have at_t : ∀ j, bt (u ++ (y ++ (CLO ++ (nm ++ TAIL)))) (u.size + y.size + 2 + nm.size + j) = bt TAIL j := fun j => by rw [show u.size + y.size + 2 + nm.size + j = u.size + y.size + 2 + (nm.size + j) by omega, at_n, bt_right]
  have b0 : bt (u ++ (y ++ (CLO ++ (nm ++ TAIL)))) (u.size + y.size) = 60 := by
    have := at_c 0
    rw [Nat.add_zero, bt_left CLO (nm ++ TAIL) (j := 0) (by omega)] at this
    exact this.trans (by decide)
  refine ⟨by omega, rfl, ?_, fun j h1 h2 => ?_, b0, ?_, fun j hj => ?_, ?_, ?_, ?_⟩
  · have hz : ((u ++ (y ++ (CLO ++ (nm ++ TAIL)))).extract u.size (u.size + y.size)).size = y.size := by rw [ByteArray.size_extract]; omega
    refine bt_ext hz fun j hj => ?_
    rw [hz] at hj
    rw [bt_cut _ _ _ _ (by omega) (by omega), at_y, bt_left _ _ hj]
  · by_cases hj : j = u.size + y.size
    · rw [hj, b0]; decide
    · rw [show j = u.size + (j - u.size) by omega, at_y, bt_left _ _ (by omega)]
      exact h _ (by omega)
  · rw [at_c, bt_left _ _ (by omega)]; decide
  · rw [at_n, bt_left _ _ hj]
  · have := at_t 0
    rw [Nat.add_zero] at this
    exact this.trans (by decide)
  · exact (at_t 1).trans (by decide)
  · exact (at_t 2).trans (by decide)

theorem Rw.ends {t u y nm : ByteArray} {p : Nat} (h : Rw t u y nm p) (hn : tagName nm = true) : clo t nm p = true := by
  obtain ⟨_, _, hz⟩ := tagName_is hn
  have hs := h.size
  rw [clo_ref hn, fo_clo]
  have h1 : st t p CLO = true := st_true (by show p + 2 ≤ _; omega) fun j hj => by
    have hj2 : j < 2 := hj
    rcases (show j = 0 ∨ j = 1 by omega) with rfl | rfl
    · exact h.b0.trans (by decide)
    · exact h.b1.trans (by decide)
  have h2 : fo t (p + 2) nm = true := fo_true (by omega) fun j hj => by rw [h.name j hj]
  rw [h1, h2, h.e0, decide_eq_true (by omega)]
  decide

theorem Rw.none {t u y nm : ByteArray} {p : Nat} (h : Rw t u y nm p) {j : Nat} (h1 : u.size ≤ j) (h2 : j < p) : clo t nm j = false := by
  cases hc : clo t nm j with
  | false => rfl
  | true =>
    exfalso
    obtain ⟨_, g, _⟩ := clo_is hc
    exact h.slash (j + 1) (by omega) (by omega) (clo_at g).2.2

/-- All the tokens of it. -/
theorem Rw.all {t u y nm : ByteArray} {p : Nat} (h : Rw t u y nm p) (hy : 0 < y.size) (hn : tagName nm = true) (hr : raw nm false = 3) (h1 : nextF t 1 false ⟨#[]⟩ 0 = ((2, nm, [], false, ⟨#[]⟩), u.size, 1, nm)) :
    allT t = [(2, nm, [], false, ⟨#[]⟩), txT y, (3, nm, [], false, ⟨#[]⟩), txT ⟨#[121]⟩, eofT] := by
  obtain ⟨hlet, hok, hz⟩ := tagName_is hn
  have hlow : lower nm = nm := by
    unfold tagName at hn
    simp only [Bool.and_eq_true] at hn
    exact of_decide_eq_true hn.2
  have hs := h.size
  have hp := h.pu
  -- the text
  have he : tE t 3 nm u.size = p := fs_eq ⟨by omega, by omega, fun j g1 g2 => by
    unfold enF
    rw [if_neg (by decide), if_pos (by decide)]
    exact h.none (by omega) g2, fun _ => by
    unfold enF
    rw [if_neg (by decide), if_pos (by decide)]
    exact h.ends hn⟩
  have h2 : nextF t 3 false nm u.size = (txT y, p, 3, nm) := by
    rw [nextF_text (by omega) (by decide) (by rw [h.none (Nat.le_refl _) (by omega)]; simp), he]
    unfold tT
    rw [if_neg (by decide), h.cut]
  -- the end
  have hbeg := clo_beg (Or.inr hn) (h.ends hn)
  have hnm : nameF t (p + 2) = p + 2 + nm.size := fs_eq ⟨by omega, by omega, fun j g1 g2 => by
    rw [show j = p + 2 + (j - (p + 2)) by omega, h.name _ (by omega)]
    have := hok (j - (p + 2)) (by omega)
    rw [okB_en] at this
    simpa using this, fun _ => by rw [h.e0]; decide⟩
  have hsk : skipF t (p + 2 + nm.size) = p + 2 + nm.size + 1 := fs_eq ⟨by omega, by omega, fun j g1 g2 => by
    obtain rfl : j = p + 2 + nm.size := by omega
    rw [h.e0]; decide, fun _ => by rw [h.e1]; decide⟩
  have hin : inF t (p + 2 + nm.size) [] = ([], false, p + 2 + nm.size + 1 + 1) := by
    rw [in_step (by omega) hsk, if_neg (by omega), if_pos h.e1]
  have hcut : t.extract (p + 2) (p + 2 + nm.size) = nm := by
    have hz2 : (t.extract (p + 2) (p + 2 + nm.size)).size = nm.size := by rw [ByteArray.size_extract]; omega
    refine bt_ext hz2 fun j hj => ?_
    rw [hz2] at hj
    rw [bt_cut _ _ _ _ (by omega) (by omega), h.name j hj]
  have htag : tagF t (p : Int) = ((3, nm, [], false, ⟨#[]⟩), ((p + 2 + nm.size + 1 + 1 : Nat) : Int), true) := by
    rw [tag_some hbeg (by decide)]
    unfold wholeF
    rw [hnm, hin, if_neg (by show ¬ p + 2 + nm.size + 1 + 1 = 0; omega), if_neg (by decide), hcut, hlow]
  have h3 : nextF t 3 false nm p = ((3, nm, [], false, ⟨#[]⟩), p + 2 + nm.size + 1 + 1, 1, nm) := by
    rw [nextF_clo (by omega) (Or.inr rfl) (h.ends hn)]
    unfold tgF
    rw [htag, if_pos rfl, if_neg (by show ¬ (3 : Int) = 2; decide)]
    show (_, ((p + 2 + nm.size + 1 + 1 : Nat) : Int).toNat, _, _) = _
    rw [Int.toNat_natCast]
  -- the rest
  have hlast : t.extract (p + 2 + nm.size + 1 + 1) t.size = ⟨#[121]⟩ := by
    have hz2 : (t.extract (p + 2 + nm.size + 1 + 1) t.size).size = 1 := by rw [ByteArray.size_extract]; omega
    refine bt_ext hz2 fun j hj => ?_
    rw [hz2] at hj
    obtain rfl : j = 0 := by omega
    rw [bt_cut _ _ _ _ (by omega) (Nat.le_refl _), Nat.add_zero]
    exact h.e2.trans (by decide)
  have h4 : nextF t 1 false nm (p + 2 + nm.size + 1 + 1) = (txT ⟨#[121]⟩, t.size, 1, nm) := by
    rw [next_rest (by omega) (fun j g1 g2 => by
      obtain rfl : j = p + 2 + nm.size + 2 := by omega
      rw [h.e2]; decide), hlast]
    congr 2
  have h5 := nextF_end (s := t) (last := nm) (md := 1) (fg := false) (Nat.le_refl _)
  obtain ⟨n, hn5⟩ : ∃ n, t.size + 1 = n + 1 + 1 + 1 + 1 + 1 := ⟨t.size - 4, by omega⟩
  unfold allT
  rw [hn5, alT_start h1 rfl]
  show _ :: alT _ (n + 1 + 1 + 1 + 1) u.size (raw nm false) nm = _
  rw [hr, alT_else h2 (by show ¬ (4 : Int) = 6; decide) (by show ¬ (4 : Int) = 2; decide)]
  show _ :: _ :: alT _ (n + 1 + 1 + 1) p 3 nm = _
  rw [alT_else h3 (by show ¬ (3 : Int) = 6; decide) (by show ¬ (3 : Int) = 2; decide)]
  show _ :: _ :: _ :: alT _ (n + 1 + 1) _ 1 nm = _
  rw [alT_else h4 (by show ¬ (4 : Int) = 6; decide) (by show ¬ (4 : Int) = 2; decide)]
  show _ :: _ :: _ :: _ :: alT _ (n + 1) t.size 1 nm = _
  rw [alT_end h5 rfl]

end Go.Proofs.YtcfaejbbjmjgpabDoor
