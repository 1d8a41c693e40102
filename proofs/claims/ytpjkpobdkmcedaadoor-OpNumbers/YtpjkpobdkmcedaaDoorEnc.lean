/-
  Operations as bytes. No program.
-/
import Derived.Test.YtpjkpobdkmcedaaDoorOps
namespace Go.Proofs.YtpjkpobdkmcedaaDoor
open Go.RowKit Utf
set_option linter.unusedVariables false
set_option linter.unusedSimpArgs false

/-- A number as k bytes, the highest one first. -/
def nb (n : Int) : Nat → List Int
  | 0 => []
  | k + 1 => n / 256 ^ k % 256 :: nb n k

/-- A text: its length, it. -/
def tb (s : ByteArray) : List Int := nb s.size 3 ++ bytesOf s

/-- Attributes. -/
def ab : List Att → List Int
  | [] => []
  | a :: l => tb a.1 ++ (tb a.2 ++ ab l)

/-- An operation. -/
def ob (o : Ot) : List Int := nb o.kd 1 ++ (nb o.nd 4 ++ (nb o.pa 4 ++ (nb o.rf 4 ++ (nb o.ty 1 ++ (nb o.ns 1 ++ (tb o.nm ++ (nb o.al.length 2 ++ (ab o.al ++ tb o.tt))))))))

/-- Operations. -/
def obs : List Ot → List Int
  | [] => []
  | o :: l => ob o ++ obs l

theorem ab_append : ∀ l m, ab (l ++ m) = ab l ++ ab m
  | [], m => rfl
  | a :: l, m => by simp only [List.cons_append, ab, ab_append l m, List.append_assoc]

theorem obs_append : ∀ l m, obs (l ++ m) = obs l ++ obs m
  | [], m => rfl
  | a :: l, m => by simp only [List.cons_append, obs, obs_append l m, List.append_assoc]

theorem nb_len (n : Int) : ∀ k, (nb n k).length = k
  | 0 => rfl
  | k + 1 => by simp [nb, nb_len n k]

theorem nb_byt (n : Int) : ∀ k, byt (nb n k)
  | 0 => fun x hx => by simp [nb] at hx
  | k + 1 => fun x hx => by
    simp only [nb, List.mem_cons] at hx
    rcases hx with rfl | hx
    · omega
    · exact nb_byt n k x hx

theorem byt_append {l m : List Int} (h1 : byt l) (h2 : byt m) : byt (l ++ m) := fun x hx => (List.mem_append.1 hx).elim (h1 x) (h2 x)

theorem tb_byt (s : ByteArray) : byt (tb s) := byt_append (nb_byt _ _) (bytes_byt s)
theorem ab_byt : ∀ l, byt (ab l)
  | [] => fun x hx => by simp [ab] at hx
  | a :: l => byt_append (tb_byt _) (byt_append (tb_byt _) (ab_byt l))
theorem ob_byt (o : Ot) : byt (ob o) := byt_append (nb_byt _ _) (byt_append (nb_byt _ _) (byt_append (nb_byt _ _) (byt_append (nb_byt _ _) (byt_append (nb_byt _ _) (byt_append (nb_byt _ _) (byt_append (tb_byt _) (byt_append (nb_byt _ _) (byt_append (ab_byt _) (tb_byt _)))))))))
theorem obs_byt : ∀ l, byt (obs l)
  | [] => fun x hx => by simp [obs] at hx
  | o :: l => byt_append (ob_byt o) (obs_byt l)

theorem tb_len (s : ByteArray) : (tb s).length = s.size + 3 := by
  unfold tb
  rw [List.length_append, nb_len, bytes_len]
  omega

/-- Its lengths can be written. -/
def fitA (l : List Att) : Prop := ∀ a, a ∈ l → a.1.size ≤ 16777215 ∧ a.2.size ≤ 16777215
/-- Of an operation. -/
def fitO (o : Ot) : Prop := o.nm.size ≤ 16777215 ∧ o.tt.size ≤ 16777215 ∧ o.al.length ≤ 65535 ∧ fitA o.al

/-- Its lengths are small: how many bytes it takes at most. -/
def smA (l : List Att) : Nat := (ab l).length
theorem ob_len (o : Ot) : (ob o).length = 23 + o.nm.size + o.tt.size + (ab o.al).length := by
  unfold ob
  simp only [List.length_append, nb_len, tb_len]
  omega

end Go.Proofs.YtpjkpobdkmcedaaDoor
