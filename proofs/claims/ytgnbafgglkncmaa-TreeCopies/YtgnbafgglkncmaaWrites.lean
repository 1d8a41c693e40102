/-
  write, writeElement and writeNode of the program.
-/
import Derived.Test.YtgnbafgglkncmaaBu
import Derived.Test.YtgnbafgglkncmaaWoods
import Derived.Test.YtgnbafgglkncmaaGrown
namespace Go.Proofs.Ytgnbafgglkncmaa
open Go.RowKit
set_option linter.unusedVariables false

/-- Texts, one behind the other, behind acc. -/
def catB (acc : ByteArray) (ts : List ByteArray) : ByteArray := ts.foldl (fun a t => a ++ t) acc

theorem catB_snoc (acc : ByteArray) (ts : List ByteArray) (t : ByteArray) : catB acc (ts ++ [t]) = catB acc ts ++ t := by simp [catB, List.foldl_append]
theorem catB_ge (ts : List ByteArray) : ∀ acc, acc.size ≤ (catB acc ts).size := by
  induction ts with
  | nil => exact fun acc => Nat.le_refl _
  | cons t ts ih => exact fun acc => Nat.le_trans (by rw [ByteArray.size_append]; omega) (ih (acc ++ t))
theorem catB_take (acc : ByteArray) (ts : List ByteArray) (i : Nat) : (catB acc (ts.take i)).size ≤ (catB acc ts).size := by
  have : catB acc ts = catB (catB acc (ts.take i)) (ts.drop i) := by
    unfold catB
    rw [← List.foldl_append, List.take_append_drop]
  rw [this]
  exact catB_ge _ _

theorem Bt.refl {w : World} {b : Nat} {v : Value} {s : ByteArray} (h : Bu w b v s) : Bt w w b v s := ⟨v, h, Kp.refl _ _, fun x hx => Or.inl hx⟩
theorem Bt.trans {w w1 w2 : World} {b : Nat} {v v1 : Value} {s1 s2 : ByteArray} (k : Kp (b :: blk v) w w1) (hs : ∀ x, x ∈ blk v1 → x ∈ blk v ∨ w.heap.size ≤ x) (h : Bt w1 w2 b v1 s2) : Bt w w2 b v s2 := by
  obtain ⟨v2, h1, h2, h3⟩ := h
  refine ⟨v2, h1, k.trans h2 (fun x hx => ?_), fun x hx => ?_⟩
  · rcases List.mem_cons.1 hx with rfl | hx
    · exact Or.inl (by simp)
    · rcases hs x hx with h4 | h4
      · exact Or.inl (by simp [h4])
      · exact Or.inr h4
  · rcases h3 x hx with h4 | h4
    · exact hs x h4
    · have := k.size; exact Or.inr (by omega)
/-- Ahead of it something was laid elsewhere. -/
theorem Bt.ahead {w w1 w2 : World} {b : Nat} {v : Value} {s : ByteArray} (k : Kp [] w w1) (h : Bt w1 w2 b v s) : Bt w w2 b v s :=
  Bt.trans (s1 := s) (k.mono (fun x hx => by simp at hx)) (fun x hx => Or.inl hx) h

set_option maxHeartbeats 1000000 in
theorem wparts (w : World) (b : Nat) (v : Value) (acc : ByteArray) (q : Nat) (ts : List ByteArray) (cur : Array Value) (h : Bu w b v acc) (hq : w.heap[q]? = some (.cells cur 9 (0, 0))) (hc : ∀ (j : Nat) (t : ByteArray), ts[j]? = some t → cur[j]? = some (Value.string t)) (hqb : q ≠ b) (hqv : q ∉ blk v) (hn : ts.length ≤ 100) (hl : (catB acc ts).size ≤ 1000000) (n : Nat) (hnn : n = ts.length) :
    Calls Try.prog 62 #[.pointer (some ⟨b, 0, none⟩), .slice (some ⟨q, 0, none⟩) n n] w fun e w' => e = .returned (.tuple #[]) ∧ Bt w w' b v (catB acc ts) := by
  have HN : Hid (n = ts.length) := hnn
  have hnl : n ≤ 100 := by omega
  clear hnn hn
  have hql : q < w.heap.size := (Array.getElem?_eq_some_iff.1 hq).1
  go_enter Try.func62, Try.ntmps62
  go_wp2
  go_loopw [8] (fun x wr => ∃ i : Nat, x = .int .i64 i ∧ i ≤ n ∧ Bt w wr b v (catB acc (ts.take i))) (fun x wr => n - (intOf x).toNat)
  case atStart => exact ⟨0, rfl, Nat.zero_le _, Bt.refl h⟩
  case round =>
    obtain ⟨i, rfl, hi, hb⟩ := hrel
    by_cases hlt : i < n
    · obtain ⟨v1, b1, k1, s1⟩ := hb
      have hil : i < ts.length := by have := HN.out; omega
      have hq1 : wr.heap[q]? = some (.cells cur 9 (0, 0)) := (k1.block q hql (fun hx => by
        rcases List.mem_cons.1 hx with h1 | h1
        · exact hqb h1
        · exact hqv h1)).trans hq
      have c1 : wr.cell? ⟨q, i, none⟩ = some (.string ts[i]) := (cell_of hq1 i).trans (hc i _ (List.getElem?_eq_getElem hil))
      have hts : catB acc (ts.take (i + 1)) = catB acc (ts.take i) ++ ts[i] := by
        rw [List.take_succ_eq_append_getElem hil, catB_snoc]
      have hsz := catB_take acc ts (i + 1)
      rw [hts, ByteArray.size_append] at hsz
      have HWR := bu_write wr b v1 _ ts[i] b1 (by omega)
      have HX : Hid (∀ w3, Bt wr w3 b v1 (catB acc (ts.take i) ++ ts[i]) → Bt w w3 b v (catB acc (ts.take (i + 1)))) := fun w3 h3 => by
        rw [hts]
        exact Bt.trans (s1 := catB acc (ts.take i)) k1 s1 h3
      generalize ts[i] = t at c1 HWR HX
      generalize catB acc (ts.take i) = a0 at HWR HX
      have j1 : (0 : Int) ≤ (i : Int) := by omega
      have j2 : (i : Int) < (n : Int) := by omega
      clear b1 k1 s1 hq1 hts hsz hq hc h hil HN
      go_wp2_with (go_at_call 42; refine HWR.mono ?_; rintro e w3 ⟨rfl, B3⟩)
      go_roundw
      case rel => exact ⟨i + 1, by go_num, by omega, HX.out _ B3⟩
      case measure => simp [intOf]; omega
    · obtain rfl : i = n := by omega
      rw [HN.out, List.take_length] at hb
      have HB : Hid _ := hb
      clear hb hq hc h hl
      go_wp2
      go_end0
      exact ⟨rfl, HB.out⟩

/-- write of texts that were just laid. -/
theorem wlit (W : World) (b : Nat) (v : Value) (acc : ByteArray) (ts : List ByteArray) (cur : Array Value) (h : Bu W b v acc) (hc : cur = (ts.map Value.string).toArray) (hn : ts.length ≤ 100) (hl : (catB acc ts).size ≤ 1000000) (n : Nat) (hnn : n = ts.length) :
    Calls Try.prog 62 #[.pointer (some ⟨b, 0, none⟩), .slice (some ⟨W.heap.size, 0, none⟩) n n] (W.alloc (.cells cur 9)) fun e w' => e = .returned (.tuple #[]) ∧ Bt W w' b v (catB acc ts) := by
  have k0 : Kp [] W (W.alloc (.cells cur 9)) := (Kp.refl _ _).alloc _
  have hbl : b < W.heap.size := by
    obtain ⟨⟨q, _, h2⟩, _⟩ := h
    exact (Array.getElem?_eq_some_iff.1 h2).1
  refine (wparts _ b v acc W.heap.size ts cur (h.keep k0 (by simp) (fun _ _ => by simp)) (heap_new W _) (fun j t hj => ?_) (by omega) (fun hx => ?_) hn hl n hnn).mono ?_
  · rw [hc]
    simp only [List.getElem?_toArray, List.getElem?_map, hj]
    rfl
  · have := h.2.1.lt _ hx; omega
  · rintro e w' ⟨rfl, h1⟩
    exact ⟨rfl, h1.ahead k0⟩

/-- How an element's line goes on, attribute by attribute. -/
theorem line_step (l : List Att) (i : Nat) (h : i < l.length) (s : ByteArray) : lineA (l.take (i + 1)) s = catB (lineA (l.take i) s) [⟨#[32]⟩, l[i].1, ⟨#[61, 34]⟩, l[i].2, ⟨#[34]⟩] := by
  rw [List.take_succ_eq_append_getElem h, lineA_snoc]
  rfl

theorem lineA_cat (l : List Att) : ∀ a s : ByteArray, lineA l (a ++ s) = a ++ lineA l s := by
  induction l with
  | nil => exact fun a s => rfl
  | cons x l ih =>
    intro a s
    show lineA l _ = a ++ lineA l _
    rw [← ih]
    simp only [ByteArray.append_assoc]

theorem lineA_ge (l : List Att) : ∀ s : ByteArray, s.size ≤ (lineA l s).size := by
  induction l with
  | nil => exact fun s => Nat.le_refl _
  | cons x l ih => exact fun s => Nat.le_trans (by simp only [ByteArray.size_append]; omega) (ih _)
theorem lineA_take (l : List Att) (i : Nat) (s : ByteArray) : (lineA (l.take i) s).size ≤ (lineA l s).size := by
  have h : ∀ (a b : List Att) s, lineA (a ++ b) s = lineA b (lineA a s) := by
    intro a
    induction a with
    | nil => exact fun b s => rfl
    | cons x a ih => exact fun b s => ih b _
  conv => rhs; rw [← List.take_append_drop i l, h]
  exact lineA_ge _ _

/-- What lies elsewhere than the builder stays. -/
theorem Bt.cl {w w' : World} {b : Nat} {v : Value} {s : ByteArray} (h : Bt w w' b v s) {nb off : Nat} {l : Lb} {p : Pl} (hc : Cl w nb off l p) (hn : nb ∉ b :: blk v) : Cl w' nb off l p := by
  obtain ⟨_, _, k, _⟩ := h
  exact hc.keep k hn

theorem Bt.kept {w w1 w2 : World} {b : Nat} {v : Value} {s : ByteArray} (h : Bt w w1 b v s) (k : Kp [] w1 w2) : Bt w w2 b v s := by
  obtain ⟨v1, h1, h2, h3⟩ := h
  exact ⟨v1, h1.keep k (by simp) (fun _ _ => by simp), h2.trans k (fun x hx => by simp at hx), h3⟩

set_option maxRecDepth 100000 in
set_option maxHeartbeats 1000000 in
theorem welem (w0 w : World) (b : Nat) (v : Value) (acc : ByteArray) (h : Bu w b v acc) (k0 : Kp [] w0 w) (hb : ∀ x, x ∈ b :: blk v → w0.heap.size ≤ x) (nb off : Nat) (l : Lb) (p : Pl) (hc : Cl w nb off l p) (hnb : nb ∉ b :: blk v) (ha : Rp w0 p.1.1 p.1.2.1 p.1.2.2 l.attrs) (hk : l.kind = 3) (hal : l.attrs.length ≤ 300) (hl : (acc ++ lineF l).size ≤ 1000000) :
    Calls Try.prog 63 #[.pointer (some ⟨b, 0, none⟩), .pointer (some ⟨nb, off, none⟩)] w fun e w' => e = .returned (.tuple #[]) ∧ Bt w w' b v (acc ++ lineF l) := by
  have hline : lineF l = lineA l.attrs ((if l.ns = 2 then ⟨#[60, 115, 118, 103, 58]⟩ else ⟨#[60]⟩) ++ l.name) ++ ⟨#[62]⟩ := by
    unfold lineF
    rw [if_neg (by omega), if_neg (by omega), if_neg (by omega), if_neg (by omega), if_pos hk]
  obtain ⟨⟨pa, n, pcap⟩, pk⟩ := p
  simp only at ha
  have HPL : Hid (n = l.attrs.length) := ha.len
  have hn3 : n ≤ 300 := by have := HPL.out; omega
  have HA : Hid (∀ W, Kp [] w0 W → Rp W pa n pcap l.attrs) := fun W kW => ha.kept kW
  have KW : Hid (∀ W s, Bt w W b v s → Kp [] w0 W) := fun W s ⟨_, _, k1, _⟩ => k0.trans k1 (fun x hx => Or.inr (hb x hx))
  have CL : Hid (∀ W s, Bt w W b v s → W.cell? ⟨nb, off + 1, none⟩ = some (.int .i64 l.ns) ∧ W.cell? ⟨nb, off + 2, none⟩ = some (.string l.name) ∧ W.cell? ⟨nb, off + 3, none⟩ = some (.slice pa n pcap)) := fun W s B => ⟨(B.cl hc hnb).cells.2.1, (B.cl hc hnb).cells.2.2.1, (B.cl hc hnb).cells.2.2.2.1⟩
  have HL : Hid (∀ (W : World) (s : ByteArray) (ts : List ByteArray) (cur : Array Value) (n : Nat), Bt w W b v s → cur = (ts.map Value.string).toArray → ts.length ≤ 100 → (catB s ts).size ≤ 1000000 → n = ts.length → Calls Try.prog 62 #[.pointer (some ⟨b, 0, none⟩), .slice (some ⟨W.heap.size, 0, none⟩) n n] (W.alloc (.cells cur 9)) fun e w' => e = .returned (.tuple #[]) ∧ Bt w w' b v (catB s ts)) := fun W s ts cur n ⟨v1, b1, k1, s1⟩ hcur hts hsz hnn => by
    refine (wlit W b v1 s ts cur b1 hcur hts hsz n hnn).mono ?_
    rintro e w' ⟨rfl, B⟩
    exact ⟨rfl, Bt.trans (s1 := s) k1 s1 B⟩
  clear ha hk hal k0 hb hnb
  by_cases e1 : l.ns = 2
  · have r1 : ((l.ns : Int) == 2) = true := by simpa using e1
    have hline2 : lineF l = lineA l.attrs (⟨#[60, 115, 118, 103, 58]⟩ ++ l.name) ++ ⟨#[62]⟩ := by rw [hline, if_pos e1]
    obtain ⟨H, hH⟩ : ∃ H, H = acc ++ (⟨#[60, 115, 118, 103, 58]⟩ ++ l.name) := ⟨_, rfl⟩
    have HH : Hid (catB (lineA l.attrs H) [⟨#[62]⟩] = acc ++ lineF l) := by
      show lineA l.attrs H ++ ⟨#[62]⟩ = _
      rw [hH, lineA_cat, hline2, ByteArray.append_assoc]
    have HZ : Hid ((lineA l.attrs H).size ≤ 1000000) := by
      have h1 := congrArg ByteArray.size HH.out
      have h2 : (catB (lineA l.attrs H) [⟨#[62]⟩]).size = (lineA l.attrs H).size + 1 := by show (lineA l.attrs H ++ _).size = _; rw [ByteArray.size_append]; rfl
      show (lineA l.attrs H).size ≤ 1000000
      omega
    have hHs : H.size ≤ 1000000 := by have := lineA_ge l.attrs H; have := HZ.out; omega
    have hHe : H.size = acc.size + 5 + l.name.size := by rw [hH]; simp only [ByteArray.size_append]; rw [show (⟨#[60, 115, 118, 103, 58]⟩ : ByteArray).size = 5 from rfl]; omega
    have E1 : Hid (catB (catB (catB acc [⟨#[60]⟩]) [⟨#[115, 118, 103, 58]⟩]) [l.name] = H) := by
      show acc ++ ⟨#[60]⟩ ++ ⟨#[115, 118, 103, 58]⟩ ++ l.name = H
      rw [hH, show (⟨#[60, 115, 118, 103, 58]⟩ : ByteArray) = ⟨#[60]⟩ ++ ⟨#[115, 118, 103, 58]⟩ from rfl]
      simp only [ByteArray.append_assoc]
    have z1 : (catB acc [⟨#[60]⟩]).size ≤ 1000000 := by show (acc ++ _).size ≤ _; rw [ByteArray.size_append, show (⟨#[60]⟩ : ByteArray).size = 1 from rfl]; omega
    have z2 : (catB (catB acc [⟨#[60]⟩]) [⟨#[115, 118, 103, 58]⟩]).size ≤ 1000000 := by show (acc ++ _ ++ _).size ≤ _; rw [ByteArray.size_append, ByteArray.size_append, show (⟨#[60]⟩ : ByteArray).size = 1 from rfl, show (⟨#[115, 118, 103, 58]⟩ : ByteArray).size = 4 from rfl]; omega
    have z3 : (catB (catB (catB acc [⟨#[60]⟩]) [⟨#[115, 118, 103, 58]⟩]) [l.name]).size ≤ 1000000 := by rw [E1.out]; exact hHs
    have HC0 := HL.out w acc [⟨#[60]⟩] _ 1 (Bt.refl h) rfl (by simp) z1 rfl
    have HC1 : Hid (∀ W, Bt w W b v (catB acc [⟨#[60]⟩]) → _) := fun W B => HL.out W _ [⟨#[115, 118, 103, 58]⟩] _ 1 B rfl (by simp) z2 rfl
    have HC2 : Hid (∀ W, Bt w W b v (catB (catB acc [⟨#[60]⟩]) [⟨#[115, 118, 103, 58]⟩]) → _) := fun W B => HL.out W _ [l.name] _ 1 B rfl (by simp) z3 rfl
    simp only [List.map_cons, List.map_nil] at HC0 HC1 HC2
    clear z1 z2 z3 hH hHs hHe hline hline2 e1 h hc
    go_enter Try.func63, Try.ntmps63
    go_wp2_with (first
      | (go_at_call 62; refine (HC2.out _ B2).mono ?_; rintro e w3 ⟨rfl, B3⟩; obtain ⟨x1, x2, x3⟩ := CL.out _ _ B3)
      | (go_at_call 62; refine (HC1.out _ B1).mono ?_; rintro e w2 ⟨rfl, B2⟩; obtain ⟨y1, y2, y3⟩ := CL.out _ _ B2)
      | (go_at_call 62; refine HC0.mono ?_; rintro e w1 ⟨rfl, B1⟩; obtain ⟨t1, t2, t3⟩ := CL.out _ _ B1))
    have BH : Hid (Bt w w3 b v H) := by rw [← E1.out]; exact B3
    clear B1 B2 B3 HC0 HC1 HC2 E1

    go_loopw [29] (fun x wr => ∃ i : Nat, x = .int .i64 i ∧ i ≤ n ∧ Bt w wr b v (lineA (l.attrs.take i) H)) (fun x wr => n - (intOf x).toNat)
    case atStart => exact ⟨0, rfl, Nat.zero_le _, by rw [List.take_zero]; exact BH.out⟩
    case round =>
      clear BH
      obtain ⟨i, rfl, hi, hbt⟩ := hrel
      by_cases hlt : i < n
      · have hil : i < l.attrs.length := by have := HPL.out; omega
        obtain ⟨ab, ao, rfl, g1, g2⟩ := (HA.out _ (KW.out _ _ hbt)).get i hil
        have HX : Hid (lineA (l.attrs.take (i + 1)) H = catB (lineA (l.attrs.take i) H) [⟨#[32]⟩, l.attrs[i].1, ⟨#[61, 34]⟩, l.attrs[i].2, ⟨#[34]⟩]) := line_step l.attrs i hil H
        have hz : (catB (lineA (l.attrs.take i) H) [⟨#[32]⟩, l.attrs[i].1, ⟨#[61, 34]⟩, l.attrs[i].2, ⟨#[34]⟩]).size ≤ 1000000 := by
          rw [← HX.out]
          have := lineA_take l.attrs (i + 1) H
          have := HZ.out
          omega
        have HBT : Hid (Bt w wr b v (lineA (l.attrs.take i) H)) := hbt
        generalize lineA (l.attrs.take i) H = s at HX hz HBT hbt
        generalize l.attrs[i] = at' at g1 g2 HX hz
        have HC := HL.out (wr.alloc (.cells #[.string at'.1, .string at'.2] 27)) s [⟨#[32]⟩, at'.1, ⟨#[61, 34]⟩, at'.2, ⟨#[34]⟩] _ 5 (HBT.out.kept ((Kp.refl _ _).alloc _)) rfl (by simp) hz rfl
        have j1 : (0 : Int) ≤ (i : Int) := by omega
        have j2 : (i : Int) < (n : Int) := by omega
        simp only [List.map_cons, List.map_nil] at HC
        rw [show (wr.alloc (.cells #[.string at'.1, .string at'.2] 27)).heap.size = wr.heap.size + 1 from by simp] at HC
        clear hbt hz hil HBT
        go_wp2_with (go_at_call 62; refine HC.mono ?_; rintro e w9 ⟨rfl, B9⟩)
        go_roundw
        case rel => exact ⟨i + 1, by go_num, by omega, by rw [HX.out]; exact B9⟩
        case measure => simp [intOf]; omega
      · obtain rfl : i = n := by omega
        have hfull : Hid (catB (lineA (l.attrs.take i) H) [⟨#[62]⟩] = acc ++ lineF l) := by
          show catB (lineA (l.attrs.take i) H) [⟨#[62]⟩] = acc ++ lineF l
          rw [HPL.out, List.take_length, HH.out]
        have HC := HL.out wr _ [⟨#[62]⟩] _ 1 hbt rfl (by simp) (by rw [hfull.out]; exact hl) rfl
        rw [hfull.out] at HC
        simp only [List.map_cons, List.map_nil] at HC
        clear hbt hfull
        go_wp2_with (go_at_call 62; refine HC.mono ?_; rintro e w9 ⟨rfl, B9⟩)
        go_end0
        exact ⟨rfl, B9⟩
  · have r1 : ((l.ns : Int) == 2) = false := by simpa using e1
    have hline2 : lineF l = lineA l.attrs (⟨#[60]⟩ ++ l.name) ++ ⟨#[62]⟩ := by rw [hline, if_neg e1]
    obtain ⟨H, hH⟩ : ∃ H, H = acc ++ (⟨#[60]⟩ ++ l.name) := ⟨_, rfl⟩
    have HH : Hid (catB (lineA l.attrs H) [⟨#[62]⟩] = acc ++ lineF l) := by
      show lineA l.attrs H ++ ⟨#[62]⟩ = _
      rw [hH, lineA_cat, hline2, ByteArray.append_assoc]
    have HZ : Hid ((lineA l.attrs H).size ≤ 1000000) := by
      have h1 := congrArg ByteArray.size HH.out
      have h2 : (catB (lineA l.attrs H) [⟨#[62]⟩]).size = (lineA l.attrs H).size + 1 := by show (lineA l.attrs H ++ _).size = _; rw [ByteArray.size_append]; rfl
      show (lineA l.attrs H).size ≤ 1000000
      omega
    have hHs : H.size ≤ 1000000 := by have := lineA_ge l.attrs H; have := HZ.out; omega
    have hHe : H.size = acc.size + 1 + l.name.size := by rw [hH]; simp only [ByteArray.size_append]; rw [show (⟨#[60]⟩ : ByteArray).size = 1 from rfl]; omega
    have E1 : Hid (catB (catB acc [⟨#[60]⟩]) [l.name] = H) := by
      show acc ++ ⟨#[60]⟩ ++ l.name = H
      rw [hH, ByteArray.append_assoc]
    have z1 : (catB acc [⟨#[60]⟩]).size ≤ 1000000 := by show (acc ++ _).size ≤ _; rw [ByteArray.size_append, show (⟨#[60]⟩ : ByteArray).size = 1 from rfl]; omega
    have z3 : (catB (catB acc [⟨#[60]⟩]) [l.name]).size ≤ 1000000 := by rw [E1.out]; exact hHs
    have HC0 := HL.out w acc [⟨#[60]⟩] _ 1 (Bt.refl h) rfl (by simp) z1 rfl
    have HC2 : Hid (∀ W, Bt w W b v (catB acc [⟨#[60]⟩]) → _) := fun W B => HL.out W _ [l.name] _ 1 B rfl (by simp) z3 rfl
    simp only [List.map_cons, List.map_nil] at HC0 HC2
    clear z1 z3 hH hHs hHe hline hline2 e1 h hc
    go_enter Try.func63, Try.ntmps63
    go_wp2_with (first
      | (go_at_call 62; refine (HC2.out _ B1).mono ?_; rintro e w3 ⟨rfl, B3⟩; obtain ⟨x1, x2, x3⟩ := CL.out _ _ B3)
      | (go_at_call 62; refine HC0.mono ?_; rintro e w1 ⟨rfl, B1⟩; obtain ⟨t1, t2, t3⟩ := CL.out _ _ B1))
    have BH : Hid (Bt w w3 b v H) := by rw [← E1.out]; exact B3
    clear B1 B3 HC0 HC2 E1

    go_loopw [29] (fun x wr => ∃ i : Nat, x = .int .i64 i ∧ i ≤ n ∧ Bt w wr b v (lineA (l.attrs.take i) H)) (fun x wr => n - (intOf x).toNat)
    case atStart => exact ⟨0, rfl, Nat.zero_le _, by rw [List.take_zero]; exact BH.out⟩
    case round =>
      clear BH
      obtain ⟨i, rfl, hi, hbt⟩ := hrel
      by_cases hlt : i < n
      · have hil : i < l.attrs.length := by have := HPL.out; omega
        obtain ⟨ab, ao, rfl, g1, g2⟩ := (HA.out _ (KW.out _ _ hbt)).get i hil
        have HX : Hid (lineA (l.attrs.take (i + 1)) H = catB (lineA (l.attrs.take i) H) [⟨#[32]⟩, l.attrs[i].1, ⟨#[61, 34]⟩, l.attrs[i].2, ⟨#[34]⟩]) := line_step l.attrs i hil H
        have hz : (catB (lineA (l.attrs.take i) H) [⟨#[32]⟩, l.attrs[i].1, ⟨#[61, 34]⟩, l.attrs[i].2, ⟨#[34]⟩]).size ≤ 1000000 := by
          rw [← HX.out]
          have := lineA_take l.attrs (i + 1) H
          have := HZ.out
          omega
        have HBT : Hid (Bt w wr b v (lineA (l.attrs.take i) H)) := hbt
        generalize lineA (l.attrs.take i) H = s at HX hz HBT hbt
        generalize l.attrs[i] = at' at g1 g2 HX hz
        have HC := HL.out (wr.alloc (.cells #[.string at'.1, .string at'.2] 27)) s [⟨#[32]⟩, at'.1, ⟨#[61, 34]⟩, at'.2, ⟨#[34]⟩] _ 5 (HBT.out.kept ((Kp.refl _ _).alloc _)) rfl (by simp) hz rfl
        have j1 : (0 : Int) ≤ (i : Int) := by omega
        have j2 : (i : Int) < (n : Int) := by omega
        simp only [List.map_cons, List.map_nil] at HC
        rw [show (wr.alloc (.cells #[.string at'.1, .string at'.2] 27)).heap.size = wr.heap.size + 1 from by simp] at HC
        clear hbt hz hil HBT
        go_wp2_with (go_at_call 62; refine HC.mono ?_; rintro e w9 ⟨rfl, B9⟩)
        go_roundw
        case rel => exact ⟨i + 1, by go_num, by omega, by rw [HX.out]; exact B9⟩
        case measure => simp [intOf]; omega
      · obtain rfl : i = n := by omega
        have hfull : Hid (catB (lineA (l.attrs.take i) H) [⟨#[62]⟩] = acc ++ lineF l) := by
          show catB (lineA (l.attrs.take i) H) [⟨#[62]⟩] = acc ++ lineF l
          rw [HPL.out, List.take_length, HH.out]
        have HC := HL.out wr _ [⟨#[62]⟩] _ 1 hbt rfl (by simp) (by rw [hfull.out]; exact hl) rfl
        rw [hfull.out] at HC
        simp only [List.map_cons, List.map_nil] at HC
        clear hbt hfull
        go_wp2_with (go_at_call 62; refine HC.mono ?_; rintro e w9 ⟨rfl, B9⟩)
        go_end0
        exact ⟨rfl, B9⟩

set_option maxRecDepth 100000 in
set_option maxHeartbeats 1000000 in
theorem wnode (w0 w : World) (b : Nat) (v : Value) (acc : ByteArray) (h : Bu w b v acc) (k0 : Kp [] w0 w) (hb : ∀ x, x ∈ b :: blk v → w0.heap.size ≤ x) (nb off : Nat) (l : Lb) (p : Pl) (hc : Cl w nb off l p) (hnb : nb ∉ b :: blk v) (ha : Rp w0 p.1.1 p.1.2.1 p.1.2.2 l.attrs) (hal : l.attrs.length ≤ 300) (hl : (acc ++ lineF l).size ≤ 1000000) :
    Calls Try.prog 43 #[.pointer (some ⟨b, 0, none⟩), .pointer (some ⟨nb, off, none⟩)] w fun e w' => e = .returned (.tuple #[]) ∧ Bt w w' b v (acc ++ lineF l) := by
  have HE : Hid (l.kind = 3 → Calls Try.prog 63 #[.pointer (some ⟨b, 0, none⟩), .pointer (some ⟨nb, off, none⟩)] w fun e w' => e = .returned (.tuple #[]) ∧ Bt w w' b v (acc ++ lineF l)) := fun hk => welem w0 w b v acc h k0 hb nb off l p hc hnb ha hk hal hl
  have HL : Hid (∀ (ts : List ByteArray) (n : Nat), catB acc ts = acc ++ lineF l → ts.length ≤ 100 → n = ts.length → Calls Try.prog 62 #[.pointer (some ⟨b, 0, none⟩), .slice (some ⟨w.heap.size, 0, none⟩) n n] (w.alloc (.cells (ts.map Value.string).toArray 9)) fun e w' => e = .returned (.tuple #[]) ∧ Bt w w' b v (acc ++ lineF l)) := fun ts n he hn hnn => by
    have := wlit w b v acc ts _ h rfl hn (by rw [he]; exact hl) n hnn
    rw [he] at this
    exact this
  obtain ⟨c0, c1, c2, c3, c4, c5⟩ := hc.cells
  have hLF : Hid (lineF l = lineF l) := rfl
  clear h k0 hb hc hnb ha hal c1 c3 c5
  by_cases h2 : l.kind = 2
  · have r2 : ((l.kind : Int) == 2) = true := by simpa using h2
    have HC := HL.out [⟨#[60, 33]⟩, l.name, ⟨#[62]⟩] 3 (by unfold lineF; rw [if_pos h2]; show acc ++ _ ++ _ ++ _ = _; simp only [ByteArray.append_assoc]) (by simp) rfl
    simp only [List.map_cons, List.map_nil] at HC
    clear HE HL hLF h2
    go_enter Try.func43, Try.ntmps43
    go_wp2_with (go_at_call 62; refine HC.mono ?_; rintro e w1 ⟨rfl, B1⟩)
    go_end0
    exact ⟨rfl, B1⟩
  · have r2 : ((l.kind : Int) == 2) = false := by simpa using h2
    by_cases h3 : l.kind = 3
    · have r3 : ((l.kind : Int) == 3) = true := by simpa using h3
      have HC := HE.out h3
      clear HE HL hLF h2 h3
      go_enter Try.func43, Try.ntmps43
      go_wp2_with (go_at_call 63; refine HC.mono ?_; rintro e w1 ⟨rfl, B1⟩)
      go_end0
      exact ⟨rfl, B1⟩
    · have r3 : ((l.kind : Int) == 3) = false := by simpa using h3
      by_cases h4 : l.kind = 4
      · have r4 : ((l.kind : Int) == 4) = true := by simpa using h4
        have HC := HL.out [⟨#[34]⟩, l.text, ⟨#[34]⟩] 3 (by unfold lineF; rw [if_neg (by omega), if_pos h4]; show acc ++ _ ++ _ ++ _ = _; simp only [ByteArray.append_assoc]) (by simp) rfl
        simp only [List.map_cons, List.map_nil] at HC
        clear HE HL hLF h2 h3 h4
        go_enter Try.func43, Try.ntmps43
        go_wp2_with (go_at_call 62; refine HC.mono ?_; rintro e w1 ⟨rfl, B1⟩)
        go_end0
        exact ⟨rfl, B1⟩
      · have r4 : ((l.kind : Int) == 4) = false := by simpa using h4
        by_cases h5 : l.kind = 5
        · have r5 : ((l.kind : Int) == 5) = true := by simpa using h5
          have HC := HL.out [⟨#[60, 33, 45, 45, 32]⟩, l.text, ⟨#[32, 45, 45, 62]⟩] 3 (by unfold lineF; rw [if_neg (by omega), if_neg (by omega), if_pos h5]; show acc ++ _ ++ _ ++ _ = _; simp only [ByteArray.append_assoc]) (by simp) rfl
          simp only [List.map_cons, List.map_nil] at HC
          clear HE HL hLF h2 h3 h4 h5
          go_enter Try.func43, Try.ntmps43
          go_wp2_with (go_at_call 62; refine HC.mono ?_; rintro e w1 ⟨rfl, B1⟩)
          go_end0
          exact ⟨rfl, B1⟩
        · have r5 : ((l.kind : Int) == 5) = false := by simpa using h5
          by_cases h6 : l.kind = 6
          · have r6 : ((l.kind : Int) == 6) = true := by simpa using h6
            have HC := HL.out [⟨#[99, 111, 110, 116, 101, 110, 116]⟩] 1 (by unfold lineF; rw [if_neg (by omega), if_neg (by omega), if_neg (by omega), if_pos h6]; rfl) (by simp) rfl
            simp only [List.map_cons, List.map_nil] at HC
            clear HE HL hLF h2 h3 h4 h5 h6
            go_enter Try.func43, Try.ntmps43
            go_wp2_with (go_at_call 62; refine HC.mono ?_; rintro e w1 ⟨rfl, B1⟩)
            go_end0
            exact ⟨rfl, B1⟩
          · have r6 : ((l.kind : Int) == 6) = false := by simpa using h6
            have HC := HL.out [⟨#[63]⟩] 1 (by unfold lineF; rw [if_neg h2, if_neg h4, if_neg h5, if_neg h6, if_neg h3]; rfl) (by simp) rfl
            simp only [List.map_cons, List.map_nil] at HC
            clear HE HL hLF h2 h3 h4 h5 h6
            go_enter Try.func43, Try.ntmps43
            go_wp2_with (go_at_call 62; refine HC.mono ?_; rintro e w1 ⟨rfl, B1⟩)
            go_end0
            exact ⟨rfl, B1⟩

end Go.Proofs.Ytgnbafgglkncmaa
