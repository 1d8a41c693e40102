/-
  The program's putNumber.
-/
import Derived.Test.YtpjkpobdkmcedaaDoorEnc
import Derived.Test.YtpjkpobdkmcedaaDoorBu
import Derived.Deep.Cut
namespace Go.Proofs.YtpjkpobdkmcedaaDoor
open Go.RowKit Utf
set_option linter.unusedVariables false
set_option linter.unusedSimpArgs false

/-- Bytes v, held in a block of their own, became v', which holds xs; nothing else turned. -/
def Ext (w w' : World) (v v' : Value) (xs : List Int) : Prop := OwnB w' v' (b8 xs) ∧ Kp (blk v) w w' ∧ ∀ k, k ∈ blk v' → k ∈ blk v ∨ w.heap.size ≤ k

theorem Ext.trans {w w1 w2 : World} {v v1 v2 : Value} {xs ys : List Int} (h : Ext w w1 v v1 xs) (g : Ext w1 w2 v1 v2 ys) : Ext w w2 v v2 ys :=
  ⟨g.1, h.2.1.trans g.2.1 (fun x hx => h.2.2 x hx), fun k hk => by
    rcases g.2.2 k hk with h1 | h1
    · exact h.2.2 k h1
    · exact Or.inr (Nat.le_trans h.2.1.size h1)⟩

theorem Ext.refl {w : World} {v : Value} {xs : List Int} (h : OwnB w v (b8 xs)) : Ext w w v v xs := ⟨h, Kp.refl _ _, fun k hk => Or.inl hk⟩

theorem Ext.shape {w w' : World} {v v' : Value} {xs : List Int} (h : Ext w w' v v' xs) : ∃ ao c, v' = .slice ao xs.length c := by
  rcases h.1 with ⟨rfl, hx⟩ | ⟨g, cap, cur, rfl, _⟩
  · have : xs = [] := by cases xs; rfl; simp [b8] at hx
    subst this
    exact ⟨none, 0, rfl⟩
  · exact ⟨_, _, by rw [b8_len]⟩

theorem b8_append (l m : List Int) : b8 (l ++ m) = b8 l ++ b8 m := by simp [b8]
theorem b8_one (l : List Int) : ∀ u, u ∈ b8 l → u.oneCell' = true := fun u hu => by
  obtain ⟨x, _, rfl⟩ := List.mem_map.1 hu
  rfl

/-- A literal of bytes may be appended. -/
theorem src_lit (w : World) (l : List Int) (cur : Array Value) (n : Nat) (hc : cur = (b8 l).toArray) (hn : n = l.length) (hm : n ≤ 1000) (q : Nat) (hq : q = w.heap.size) : Src Tryd.prog 1 27 (.slice (some ⟨q, 0, none⟩) n n) n (b8 l) (w.alloc (.cells cur 5)) := by
  subst hq
  exact Rd.src Tryd.underlying27 (Own.rd (own_new w 5 cur (b8 l) n (by rw [b8_len]; omega) (by unfold maxLen; omega) (by rw [hc]; simp [b8_len, hn]) (fun j hj => by rw [hc]; simp) n (by rw [b8_len, hn]))) (b8_one l)

/-- append(b, some...), of a literal. -/
theorem ext_lit {w w1 : World} {v v1 : Value} {xs : List Int} (h : Ext w w1 v v1 xs) (l : List Int) (cur : Array Value) (n : Nat) (hc : cur = (b8 l).toArray) (hn : n = l.length) (hm : n ≤ 1000) (hlen : xs.length + n ≤ 1000000) :
    ∃ ao c w2, (∀ ty, (Builtin.append_ #[27, 27] ty #[v1, .slice (some ⟨w1.heap.size, 0, none⟩) n n]).run Tryd.prog (w1.alloc (.cells cur 5)) = .ok (.slice ao (xs.length + n) c) w2) ∧ Ext w w2 v (.slice ao (xs.length + n) c) (xs ++ l) := by
  have k1 : Kp [] w1 (w1.alloc (.cells cur 5)) := (Kp.refl _ _).alloc _
  obtain ⟨v', w2, hrun, o2, k2, b2, ao, c, rfl⟩ := app_b 27 _ v1 _ (h.1.keep k1 (fun _ _ => by simp)) _ n (b8 l) (src_lit w1 l cur n hc hn hm _ rfl) (by rw [b8_len]; exact hlen)
  rw [b8_len] at hrun b2 o2
  refine ⟨ao, c, w2, hrun, h.trans ⟨by rw [b8_append]; exact o2, (k1.mono (fun x hx => by simp at hx)).trans k2 (fun x hx => Or.inl hx), fun k hk => ?_⟩⟩
  rcases b2 k hk with h1 | h1
  · exact Or.inl h1
  · right
    rw [h1]
    simp

/-- append(b, s...), of a text. -/
theorem ext_str {w w1 : World} {v v1 : Value} {xs : List Int} (h : Ext w w1 v v1 xs) (s : ByteArray) (hlen : xs.length + s.size ≤ 1000000) :
    ∃ ao c w2, (∀ ty, (Builtin.append_ #[27, 9] ty #[v1, .string s]).run Tryd.prog w1 = .ok (.slice ao (xs.length + s.size) c) w2) ∧ Ext w w2 v (.slice ao (xs.length + s.size) c) (xs ++ bytesOf s) := by
  obtain ⟨v', w2, hrun, o2, k2, b2, ao, c, rfl⟩ := app_b 9 _ v1 _ h.1 (.string s) s.size (byteCells s) (Src.ofString w1 Tryd.underlying9 s) (by rw [b8_len]; exact hlen)
  rw [b8_len] at hrun b2 o2
  refine ⟨ao, c, w2, hrun, h.trans ⟨?_, k2, fun k hk => ?_⟩⟩
  · rw [b8_append, show b8 (bytesOf s) = byteCells s by simp [b8, bytesOf, byteCells]]
    exact o2
  · rcases b2 k hk with h1 | h1
    · exact Or.inl h1
    · exact Or.inr (by omega)

set_option maxRecDepth 100000 in
set_option maxHeartbeats 400000 in
theorem pnum_any (w : World) (v : Value) (xs : List Int) (h : OwnB w v (b8 xs)) (n : Int) (z : Nat) (hz : 1 ≤ z ∧ z ≤ 4) (hn : 0 ≤ n ∧ n ≤ 4294967295) (hlen : xs.length ≤ 900000) :
    Calls Tryd.prog 40 #[v, .int .i64 n, .int .i64 (z : Int)] w fun e w' => ∃ v', e = .returned v' ∧ Ext w w' v v' (xs ++ nb n z) := by
  have hE := Ext.refl h
  obtain ⟨ao, c, hv⟩ := hE.shape
  subst hv
  clear h
  obtain ⟨hz1, hz2⟩ := hz
  obtain ⟨hn1, hn2⟩ := hn
  have HE : Hid (Ext w w (.slice ao xs.length c) (.slice ao xs.length c) xs) := hE
  clear hE
  go_enter Tryd.func40, Tryd.ntmps40
  go_wp2
  go_loopw [0, 7] (fun b i wr => ∃ (j : Nat) (pre : List Int) (ao' : Option Addr) (c' : Nat), j ≤ z ∧ i = .int .i64 ((j : Int) - 1) ∧ nb n z = pre ++ nb n j ∧ b = .slice ao' (xs.length + pre.length) c' ∧ Ext w wr (.slice ao xs.length c) (.slice ao' (xs.length + pre.length) c') (xs ++ pre)) (fun _ i _ => (intOf i + 1).toNat)
  case atStart => exact ⟨z, [], ao, c, Nat.le_refl _, by rfl, rfl, rfl, by rw [List.append_nil]; exact HE.out⟩
  case round =>
    obtain ⟨j, pre, ao', c', hj, rfl, hp, rfl, X⟩ := hrel
    clear HE
    have hpl : pre.length ≤ 4 := by
      have := congrArg List.length hp
      rw [nb_len, List.length_append, nb_len] at this
      omega
    obtain rfl | rfl | rfl | rfl | rfl : j = 0 ∨ j = 1 ∨ j = 2 ∨ j = 3 ∨ j = 4 := by omega
    · have hp2 : Hid (nb n z = pre) := by rw [hp]; exact (List.append_nil pre)
      clear hp
      have XX : Hid (Ext w wr (.slice ao xs.length c) (.slice ao' (xs.length + pre.length) c') (xs ++ pre)) := X
      clear X
      go_wp2
      go_ret
      exact ⟨_, rfl, by rw [hp2.out]; exact XX.out⟩
    · obtain ⟨a2, c2, w2, hrun, X2⟩ := ext_lit X [n % 256] #[.int .u8 (n % 256)] 1 rfl rfl (by omega) (by simp; omega)
      simp only [List.length_append] at hrun X2
      have XX : Hid (Ext w w2 (.slice ao xs.length c) (.slice a2 (xs.length + pre.length + 1) c2) (xs ++ pre ++ [n % 256])) := X2
      have hp1 : nb n z = (pre ++ [n % 256]) ++ nb n 0 := by rw [hp]; simp [nb]
      have hp2 : Hid (nb n z = (pre ++ [n % 256]) ++ nb n 0) := hp1
      clear X X2 hp hp1
      go_wp2_with (at_builtin; refine Lib.wpList_append_run _ rfl _ _ _ _ rfl _ _ rfl rfl _ _ (hrun _) ?_)
      exact ⟨⟨0, pre ++ [n % 256], a2, c2, by omega, by rfl, hp2.out, by simp [Nat.add_assoc], by have := XX.out; simpa [Nat.add_assoc] using this⟩, by simp [intOf]⟩
    · obtain ⟨a2, c2, w2, hrun, X2⟩ := ext_lit X [n / 256 % 256] #[.int .u8 (n / 256 % 256)] 1 rfl rfl (by omega) (by simp; omega)
      simp only [List.length_append] at hrun X2
      have XX : Hid (Ext w w2 (.slice ao xs.length c) (.slice a2 (xs.length + pre.length + 1) c2) (xs ++ pre ++ [n / 256 % 256])) := X2
      have hp1 : nb n z = (pre ++ [n / 256 % 256]) ++ nb n 1 := by rw [hp]; simp [nb]
      have hp2 : Hid (nb n z = (pre ++ [n / 256 % 256]) ++ nb n 1) := hp1
      clear X X2 hp hp1
      go_wp2_with (at_builtin; refine Lib.wpList_append_run _ rfl _ _ _ _ rfl _ _ rfl rfl _ _ (hrun _) ?_)
      exact ⟨⟨1, pre ++ [n / 256 % 256], a2, c2, by omega, by rfl, hp2.out, by simp [Nat.add_assoc], by have := XX.out; simpa [Nat.add_assoc] using this⟩, by simp [intOf]⟩
    · obtain ⟨a2, c2, w2, hrun, X2⟩ := ext_lit X [n / 65536 % 256] #[.int .u8 (n / 65536 % 256)] 1 rfl rfl (by omega) (by simp; omega)
      simp only [List.length_append] at hrun X2
      have XX : Hid (Ext w w2 (.slice ao xs.length c) (.slice a2 (xs.length + pre.length + 1) c2) (xs ++ pre ++ [n / 65536 % 256])) := X2
      have hp1 : nb n z = (pre ++ [n / 65536 % 256]) ++ nb n 2 := by rw [hp]; simp [nb]
      have hp2 : Hid (nb n z = (pre ++ [n / 65536 % 256]) ++ nb n 2) := hp1
      clear X X2 hp hp1
      go_wp2_with (at_builtin; refine Lib.wpList_append_run _ rfl _ _ _ _ rfl _ _ rfl rfl _ _ (hrun _) ?_)
      exact ⟨⟨2, pre ++ [n / 65536 % 256], a2, c2, by omega, by rfl, hp2.out, by simp [Nat.add_assoc], by have := XX.out; simpa [Nat.add_assoc] using this⟩, by simp [intOf]⟩
    · obtain ⟨a2, c2, w2, hrun, X2⟩ := ext_lit X [n / 16777216] #[.int .u8 (n / 16777216)] 1 rfl rfl (by omega) (by simp; omega)
      simp only [List.length_append] at hrun X2
      have XX : Hid (Ext w w2 (.slice ao xs.length c) (.slice a2 (xs.length + pre.length + 1) c2) (xs ++ pre ++ [n / 16777216])) := X2
      have hp1 : nb n z = (pre ++ [n / 16777216]) ++ nb n 3 := by rw [hp]; simp [nb]; omega
      have hp2 : Hid (nb n z = (pre ++ [n / 16777216]) ++ nb n 3) := hp1
      clear X X2 hp hp1
      go_wp2_with (at_builtin; refine Lib.wpList_append_run _ rfl _ _ _ _ rfl _ _ rfl rfl _ _ (hrun _) ?_)
      exact ⟨⟨3, pre ++ [n / 16777216], a2, c2, by omega, by rfl, hp2.out, by simp [Nat.add_assoc], by have := XX.out; simpa [Nat.add_assoc] using this⟩, by simp [intOf]⟩

end Go.Proofs.YtpjkpobdkmcedaaDoor
