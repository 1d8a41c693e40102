/-
  The program's reader: take, number, text.
-/
import Derived.Test.YtpjkpobdkmcedaaDoorDec
import Derived.Test.YtpjkpobdkmcedaaDoorOlist
import Derived.Deep.Cut
namespace Go.Proofs.YtpjkpobdkmcedaaDoor
open Go.RowKit Utf
set_option linter.unusedVariables false
set_option linter.unusedSimpArgs false

/-- The slice lies in another block than b, one ahead of B. -/
def Off (ao : Option Addr) (b B : Nat) : Prop := ∀ a, ao = some a → a.block ≠ b ∧ a.block < B

theorem Rb.off {w w' : World} {ao : Option Addr} {n c b B : Nat} {xs : List Value} (h : Rb w ao n c xs) (ho : Off ao b B) {S : List Nat} (k : Kp S w w') (hS : ∀ x, x ∈ S → x = b ∨ B ≤ x) : Rb w' ao n c xs := by
  refine ⟨h.len, h.cap, fun j hj => ?_⟩
  obtain ⟨b', off, h1, h2⟩ := h.at' j hj
  obtain ⟨hb1, hb2⟩ := ho _ h1
  simp only at hb1 hb2
  have hb : b' ∉ S := fun hx => by
    rcases hS b' hx with e | e <;> omega
  have hj' : j < xs.length := by have := h.len; omega
  exact ⟨b', off, h1, by rw [k.cell (block_lt_of_cell (h2.trans (List.getElem?_eq_getElem hj'))) hb]; exact h2⟩

/-- The reader in block b stands at s. -/
def Rr (w : World) (b B : Nat) (s : St) : Prop := ∃ ao n c, w.heap[b]? = some (.cells #[.slice ao n c, .bool s.2] 72 (0, 0)) ∧ Rb w ao n c (b8 s.1) ∧ Off ao b B

theorem off_none (b B : Nat) : Off none b B := fun a h => by cases h

theorem Off.at' {ao : Option Addr} {b B : Nat} (h : Off ao b B) (k c : Nat) : Off (offAt ao k c) b B := by
  intro a ha
  unfold offAt at ha
  split at ha
  · exact h a ha
  · cases ao with
    | none => cases ha
    | some x =>
      simp only [Option.map_some, Option.some.injEq] at ha
      subst ha
      have hx := h x rfl
      have e : (x.add (k * 1)).block = x.block := by
        unfold Addr.add
        first | rfl | (split <;> rfl)
      rw [e]
      exact hx

theorem Rr.kept {w w' : World} {b B : Nat} {s : St} (h : Rr w b B s) {S : List Nat} (k : Kp S w w') (hb : b ∉ S) (hS : ∀ x, x ∈ S → B ≤ x) : Rr w' b B s := by
  obtain ⟨ao, n, c, h1, h2, h3⟩ := h
  exact ⟨ao, n, c, (k.block b (lt_of h1) hb).trans h1, h2.off h3 k (fun x hx => Or.inr (hS x hx)), h3⟩

theorem rb_nil (w : World) (c : Nat) (ao : Option Addr) : Rb w ao 0 c [] := ⟨rfl, Nat.zero_le _, fun j hj => by omega⟩

set_option maxRecDepth 100000 in
set_option maxHeartbeats 400000 in
theorem take_any (w : World) (b B : Nat) (s : St) (h : Rr w b B s) (n : Nat) (hn : n ≤ 20000000) (hs : s.1.length ≤ 100000) :
    Calls Tryd.prog 50 #[.pointer (some ⟨b, 0, none⟩), .int .i64 (n : Int)] w fun e w' => ∃ ao m c, e = .returned (.slice ao m c) ∧ Rb w' ao m c (b8 (tk n s).1) ∧ Off ao b B ∧ Rr w' b B (tk n s).2 ∧ Kp [b] w w' := by
  obtain ⟨l, q⟩ := s
  obtain ⟨ao, k, c, hb, hr, ho⟩ := h
  simp only at hb hr hs
  have hk : k = l.length := by rw [hr.len, b8_len]
  have hc := hr.cap
  have c0 : w.cell? ⟨b, 0, none⟩ = some (.slice ao k c) := cell_of hb 0
  have c1 : w.cell? ⟨b, 1, none⟩ = some (.bool q) := cell_of hb 1
  have f0 := frozen_of hb 0
  have f1 := frozen_of hb 1
  unfold tk
  simp only
  by_cases hlt : l.length < n
  · rw [if_pos hlt]
    have hb2 : ((w.setCell ⟨b, 0, none⟩ (.slice none 0 0)).setCell ⟨b, 1, none⟩ (.bool true)).heap[b]? = some (.cells #[.slice none 0 0, .bool true] 72 (0, 0)) := by
      rw [setCell_block (setCell_block hb _ _)]
      rfl
    have kz : Kp [b] w ((w.setCell ⟨b, 0, none⟩ (.slice none 0 0)).setCell ⟨b, 1, none⟩ (.bool true)) := ((Kp.refl _ _).setCell (Or.inl (by simp)) _).setCell (Or.inl (by simp)) _
    have HZ : Hid (Rr ((w.setCell ⟨b, 0, none⟩ (.slice none 0 0)).setCell ⟨b, 1, none⟩ (.bool true)) b B ([], true) ∧ Kp [b] w ((w.setCell ⟨b, 0, none⟩ (.slice none 0 0)).setCell ⟨b, 1, none⟩ (.bool true))) := ⟨⟨none, 0, 0, hb2, rb_nil _ _ _, off_none b B⟩, kz⟩
    have hkn : (k : Int) < (n : Int) := by omega
    clear hb hr ho hb2 kz hk hlt hs
    go_enter Tryd.func50, Tryd.ntmps50
    go_wp2
    go_ret
    exact ⟨none, 0, 0, rfl, rb_nil _ _ _, off_none b B, HZ.out.1, HZ.out.2⟩
  · rw [if_neg hlt]
    have hkn : n ≤ k := by omega
    have r1 := hr.take n hkn
    have r2 := hr.drop n hkn
    rw [b8_take] at r1
    rw [b8_drop] at r2
    have hb2 : (w.setCell ⟨b, 0, none⟩ (.slice (offAt ao n c) (k - n) (c - n))).heap[b]? = some (.cells #[.slice (offAt ao n c) (k - n) (c - n), .bool q] 72 (0, 0)) := by
      rw [setCell_block hb]
      rfl
    have kz : Kp [b] w (w.setCell ⟨b, 0, none⟩ (.slice (offAt ao n c) (k - n) (c - n))) := (Kp.refl _ _).setCell (Or.inl (by simp)) _
    have HZ : Hid (Rb (w.setCell ⟨b, 0, none⟩ (.slice (offAt ao n c) (k - n) (c - n))) ao n c (b8 (l.take n)) ∧ Off ao b B ∧ Rr (w.setCell ⟨b, 0, none⟩ (.slice (offAt ao n c) (k - n) (c - n))) b B (l.drop n, q) ∧ Kp [b] w (w.setCell ⟨b, 0, none⟩ (.slice (offAt ao n c) (k - n) (c - n)))) := ⟨r1.off ho kz (by simp), ho, ⟨_, _, _, hb2, r2.off (ho.at' n c) kz (by simp), ho.at' n c⟩, kz⟩
    clear hb hr ho r1 r2 hk hlt hb2 kz
    go_enter Tryd.func50, Tryd.ntmps50
    by_cases hcn : c = n
    · subst hcn
      have e1 : offAt ao c c = ao := if_pos rfl
      have e2 : c - c = 0 := by omega
      have e3 : k - c = 0 := by omega
      rw [e1, e2, e3] at HZ
      clear e1 e2 e3
      go_wp2
      go_ret
      exact ⟨ao, c, c, rfl, HZ.out⟩
    · have e1 : offAt ao n c = Option.map (fun x => x.add n) ao := by
        unfold offAt
        rw [if_neg hcn, Nat.mul_one]
      rw [e1] at HZ
      clear e1
      go_wp2
      go_ret
      exact ⟨ao, n, c, rfl, HZ.out⟩

theorem tk_len (n : Nat) (s : St) : (tk n s).1.length ≤ n ∧ (tk n s).2.1.length ≤ s.1.length ∧ (tk n s).1.length ≤ s.1.length := by
  unfold tk
  split
  · exact ⟨Nat.zero_le _, Nat.zero_le _, Nat.zero_le _⟩
  · refine ⟨?_, ?_, ?_⟩ <;> simp <;> omega

theorem tk_byt {n : Nat} {s : St} (h : byt s.1) : byt (tk n s).1 ∧ byt (tk n s).2.1 := by
  unfold tk
  split
  · exact ⟨fun x hx => by simp at hx, fun x hx => by simp at hx⟩
  · exact ⟨byt_take h n, byt_drop h n⟩

theorem nv_le {l : List Int} (h : byt l) (hl : l.length ≤ 4) : 0 ≤ nv l ∧ nv l < 4294967296 := by
  obtain ⟨h1, h2⟩ := nv_range l h
  refine ⟨h1, ?_⟩
  obtain h3 | h3 | h3 | h3 | h3 : l.length = 0 ∨ l.length = 1 ∨ l.length = 2 ∨ l.length = 3 ∨ l.length = 4 := by omega
  all_goals
    rw [h3] at h2
    have e0 : ((256 : Int) ^ 0) = 1 := by decide
    have e1 : ((256 : Int) ^ 1) = 256 := by decide
    have e2 : ((256 : Int) ^ 2) = 65536 := by decide
    have e3 : ((256 : Int) ^ 3) = 16777216 := by decide
    have e4 : ((256 : Int) ^ 4) = 4294967296 := by decide
    omega

theorem or_add {v x : Int} (h0 : 0 ≤ v) (h1 : v ≤ 16777215) (h2 : 0 ≤ x) (h3 : x < 256) : bits BinOp.or IntKind.i64 (v * 256) x = v * 256 + x :=
  bits_join .i64 62 (by decide) (fun n hn0 hn1 => wrap_small n hn0 (by have : ((2 : Int) ^ 62) = 4611686018427387904 := by decide
                                                                       omega)) 8 (v * 256) x (by omega) (by omega) (by have : ((2 : Int) ^ 62) = 4611686018427387904 := by decide
                                                                                                                       omega) h2 h3 (by omega)

theorem nv_le3 {l : List Int} (h : byt l) (hl : l.length ≤ 3) : 0 ≤ nv l ∧ nv l ≤ 16777215 := by
  obtain ⟨h1, h2⟩ := nv_range l h
  refine ⟨h1, ?_⟩
  obtain h3 | h3 | h3 | h3 : l.length = 0 ∨ l.length = 1 ∨ l.length = 2 ∨ l.length = 3 := by omega
  all_goals
    rw [h3] at h2
    have e0 : ((256 : Int) ^ 0) = 1 := by decide
    have e1 : ((256 : Int) ^ 1) = 256 := by decide
    have e2 : ((256 : Int) ^ 2) = 65536 := by decide
    have e3 : ((256 : Int) ^ 3) = 16777216 := by decide
    omega

set_option maxRecDepth 100000 in
set_option maxHeartbeats 400000 in
theorem number_any (w : World) (b B : Nat) (s : St) (h : Rr w b B s) (n : Nat) (hn : n ≤ 4) (hs : s.1.length ≤ 100000) (hb : byt s.1) :
    Calls Tryd.prog 45 #[.pointer (some ⟨b, 0, none⟩), .int .i64 (n : Int)] w fun e w' => e = .returned (.int .i64 (rdN n s).1) ∧ Rr w' b B (rdN n s).2 ∧ Kp [b] w w' := by
  have HT := take_any w b B s h n (by omega) hs
  have hbt := (tk_byt (n := n) hb).1
  have htl := (tk_len n s).1
  unfold rdN
  simp only
  generalize (tk n s).1 = l at HT hbt htl ⊢
  generalize (tk n s).2 = s' at HT ⊢
  clear h hb hs
  go_enter Tryd.func45, Tryd.ntmps45
  go_wp2_with fail
  refine HT.mono ?_
  rintro e w1 ⟨ao, m, c, rfl, r1, ho, R1, k1⟩
  have hml : m = l.length := by rw [r1.len, b8_len]
  subst hml
  have HZ : Hid (Rr w1 b B s' ∧ Kp [b] w w1) := ⟨R1, k1⟩
  clear HT ho R1 k1
  go_wp2
  go_loopw [5, 12] (fun nv' i wr => ∃ k : Nat, k ≤ l.length ∧ i = .int .i64 k ∧ nv' = .int .i64 (nv (l.take k)) ∧ wr = w1) (fun _ i _ => l.length - (intOf i).toNat)
  case atStart => exact ⟨0, Nat.zero_le _, rfl, rfl, rfl⟩
  case round =>
    obtain ⟨k, hk, rfl, rfl, rfl⟩ := hrel
    by_cases hlt : k < l.length
    · obtain ⟨b1, o1, e0, h1⟩ := r1.b8_at k hlt
      subst e0
      have hx := byt_at hbt k hlt
      have hnx : Hid (nv (l.take (k + 1)) = nv (l.take k) * 256 + l[k]) := (by rw [List.take_succ_eq_append_getElem hlt, nv_snoc] : nv (l.take (k + 1)) = nv (l.take k) * 256 + l[k])
      have hle : 0 ≤ nv (l.take k) ∧ nv (l.take k) ≤ 16777215 := nv_le3 (byt_take hbt k) (by rw [List.length_take]; omega)
      obtain ⟨hle1, hle2⟩ := hle
      obtain ⟨hx1, hx2⟩ := hx
      clear r1 hbt HZ
      generalize l[k] = x at h1 hx1 hx2 hnx
      generalize nv (l.take k) = v at hnx hle1 hle2 ⊢
      have HO := or_add hle1 hle2 hx1 hx2
      have HO2 : Hid (bits BinOp.or IntKind.i64 (v * 256) x = v * 256 + x) := HO
      clear HO
      go_wp2
      rw [HO2.out]
      exact ⟨⟨k + 1, by omega, by go_num, by rw [hnx.out], trivial⟩, by simp [intOf]; omega⟩
    · obtain rfl : k = l.length := by omega
      rw [List.take_length]
      clear r1 hbt
      go_wp2
      go_ret
      exact ⟨rfl, HZ.out⟩

end Go.Proofs.YtpjkpobdkmcedaaDoor
