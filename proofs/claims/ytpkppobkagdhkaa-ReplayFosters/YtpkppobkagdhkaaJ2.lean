/-
  Joined: Utf.
-/
import Derived.WalkKit

/-
  UTF-8 by itself: how bytes are read (dec), how runes are written (enc), how lines are made ready (lines), and what follows; no program is spoken of here.
-/
namespace Go.Proofs.Ytpkppobkagdhkaa.Utf

/-- What a lead byte asks: how many bytes follow, and the bounds of the first of them. -/
def firstOf (b : Int) : Option (Nat × Int × Int) :=
  if 194 ≤ b ∧ b ≤ 223 then some (1, 128, 191)
  else if b = 224 then some (2, 160, 191)
  else if b = 237 then some (2, 128, 159)
  else if 225 ≤ b ∧ b ≤ 239 then some (2, 128, 191)
  else if b = 240 then some (3, 144, 191)
  else if 241 ≤ b ∧ b ≤ 243 then some (3, 128, 191)
  else if b = 244 then some (3, 128, 143)
  else none

/-- What a lead byte itself brings. -/
def lead : Nat → Int → Int
  | 1, b => b % 32
  | 2, b => b % 16
  | _, b => b % 8

/-- The bytes that follow, as far as they are right: how many are lacking, the number, and what is left. -/
def more : Nat → Int → Int → Int → List Int → Nat × Int × List Int
  | 0, _, _, r, bs => (0, r, bs)
  | n + 1, _, _, r, [] => (n + 1, r, [])
  | n + 1, lo, hi, r, b :: bs => if lo ≤ b ∧ b ≤ hi then more n 128 191 (r * 64 + b % 64) bs else (n + 1, r, b :: bs)

theorem more_len : ∀ (n : Nat) (lo hi r : Int) (bs : List Int), (more n lo hi r bs).2.2.length ≤ bs.length
  | 0, _, _, _, _ => Nat.le_refl _
  | _ + 1, _, _, _, [] => Nat.le_refl _
  | n + 1, lo, hi, r, b :: bs => by
    rw [more]
    split
    · have := more_len n 128 191 (r * 64 + b % 64) bs
      simp only [List.length_cons]
      omega
    · exact Nat.le_refl _

/-- The first rune of some bytes, and what is left. -/
def step (b : Int) (bs : List Int) : Int × List Int :=
  if b < 128 then (b, bs) else
    match firstOf b with
    | none => (65533, bs)
    | some (n, lo, hi) =>
      let m := more n lo hi (lead n b) bs
      (if m.1 = 0 then m.2.1 else 65533, m.2.2)

/-- Bytes, read rune by rune. -/
def decN : Nat → List Int → List Int
  | 0, _ => []
  | _ + 1, [] => []
  | n + 1, b :: bs => (step b bs).1 :: decN n (step b bs).2

/-- All of them: there are no more rounds than bytes. -/
def dec (l : List Int) : List Int := decN l.length l

/-- The bytes of a text. -/
def bytesOf (s : ByteArray) : List Int := s.data.toList.map (fun u => (u.toNat : Int))
/-- The bytes of a rune. -/
def enc (r : Int) : List Int := bytesOf (Utf8.encode r)
/-- Lines, made ready. -/
def lines : List Int → List Int
  | [] => []
  | r :: rs => if r = 13 then (if rs.head? = some 10 then lines rs else 10 :: lines rs) else if r = 0 then 65533 :: lines rs else r :: lines rs

end Go.Proofs.Ytpkppobkagdhkaa.Utf
