/-
  strings.Builder once more: each call turns the builder's own two blocks alone.
-/
import Derived.Test.YtpjkpobdkmcedaaDoorBuild
import Derived.Lib.MakeNoZero
import Derived.Deep.Upon
namespace Go.Proofs.YtpjkpobdkmcedaaDoor
open Go.RowKit
set_option linter.unusedVariables false

/-- The slice v of bytes holds xs, in a block of its own, from its head on, up to its end. -/
def OwnB (w : World) (v : Value) (xs : List Value) : Prop :=
  (v = .slice none 0 0 ∧ xs = []) ∨
  ∃ g cap cur, v = .slice (some ⟨g, 0, none⟩) xs.length cap ∧ w.heap[g]? = some (.cells cur 5 (0, 0)) ∧ xs.length ≤ cap ∧ cap ≤ maxLen ∧ cur.size = cap ∧ ∀ j, j < xs.length → cur[j]? = xs[j]?

theorem OwnB.lt {w : World} {v : Value} {xs : List Value} (h : OwnB w v xs) : ∀ k, k ∈ blk v → k < w.heap.size := by
  intro k hk
  rcases h with ⟨rfl, _⟩ | ⟨g, cap, cur, rfl, hg, _⟩
  · simp [blk] at hk
  · simp [blk] at hk
    subst hk
    exact (Array.getElem?_eq_some_iff.1 hg).1

theorem OwnB.keep {w w' : World} {S : List Nat} {v : Value} {xs : List Value} (h : OwnB w v xs) (k : Kp S w w') (hn : ∀ x, x ∈ blk v → x ∉ S) : OwnB w' v xs := by
  have hl := h.lt
  rcases h with h | ⟨g, cap, cur, rfl, hg, r⟩
  · exact Or.inl h
  · have hm : g ∈ blk (Value.slice (some ⟨g, 0, none⟩) xs.length cap) := by simp [blk]
    exact Or.inr ⟨g, cap, cur, rfl, by rw [k.block g (hl g hm) (hn g hm)]; exact hg, r⟩

theorem ownB_new (w : World) (cur : Array Value) (xs : List Value) (cap : Nat) (h1 : xs.length ≤ cap) (h2 : cap ≤ maxLen) (h3 : cur.size = cap) (h4 : ∀ j, j < xs.length → cur[j]? = xs[j]?) (n : Nat) (hn : n = xs.length) :
    OwnB (w.alloc (.cells cur 5)) (.slice (some ⟨w.heap.size, 0, none⟩) n cap) xs := by
  subst hn
  exact Or.inr ⟨w.heap.size, cap, cur, rfl, heap_new w _, h1, h2, h3, h4⟩

theorem size_zc (z : Value) (hz : z.cells = #[z]) (n : Nat) : (Builtin.zeroCells z.cells n).size = n := by
  rw [hz]
  simp [Builtin.zeroCells]

theorem info5' : (Tryd.prog.info? 5).map (fun i => (i.zero, i.size, i.bytes)) = some (some (.int .u8 0), 1, 1) := by kernel_rfl

/-- append onto bytes. -/
theorem app_b (tx : TypeId) (w : World) (v : Value) (xs : List Value) (h : OwnB w v xs) (src : Value) (m : Nat) (news : List Value) (hs : Src Tryd.prog 1 tx src m news w) (hlen : xs.length + m ≤ 1000000) :
    ∃ v' w', (∀ ty, (Builtin.append_ #[27, tx] ty #[v, src]).run Tryd.prog w = .ok v' w') ∧ OwnB w' v' (xs ++ news) ∧ Kp (blk v) w w' ∧ (∀ k, k ∈ blk v' → k ∈ blk v ∨ k = w.heap.size) ∧ ∃ ao c, v' = .slice ao (xs.length + m) c := by
  obtain ⟨i, hi0, hi1, hi2, hi3⟩ := info_parts info5'
  have ht := Tryd.underlying27
  have hnl : news.length = m := by simpa using hs.newsLen
  have hs' : Src Tryd.prog i.size tx src m news w := by rw [hi2]; exact hs
  rcases h with ⟨rfl, rfl⟩ | ⟨g, cap, cur, rfl, hg, hc1, hc2, hc3, hc4⟩
  · rcases Nat.eq_zero_or_pos m with h0 | hm0
    · subst h0
      obtain rfl : news = [] := List.eq_nil_of_length_eq_zero hnl
      refine ⟨.slice none 0 0, w, fun ty => ?_, Or.inl ⟨rfl, rfl⟩, Kp.refl _ _, fun k hk => by simp [blk] at hk, ⟨none, 0, rfl⟩⟩
      exact run_append_nothing w 27 tx ty 5 i ht hi0 none 0 0 (Nat.le_refl _) src hs'
    · have hr := fun ty => run_append_grow_src (P := Tryd.prog) w 27 tx ty 5 i (.int .u8 0) ht hi0 hi1 none 0 0 [] (run_firstCells_none w.drew i.size 0 0 0) src m news hs' (by omega) (by simp at hlen; omega) (by rw [hi3]; exact growslice_fits (by omega) (by simp at hlen; omega))
      refine ⟨_, _, hr, ?_, (Kp.refl _ _).drew.alloc _, fun k hk => ?_, ⟨_, _, rfl⟩⟩
      · refine ownB_new w.drew _ _ _ ?_ ?_ ?_ ?_ _ (by simp [hnl])
        · have := grownCap_ge w (0 + m) 0 5
          simp [hnl]
          simpa using this
        · exact grownCap_le_maxLen w _ _ _ (by unfold maxLen; simp at hlen; omega)
        · have := grownCap_ge w (0 + m) 0 5
          rw [Array.size_append, size_zc _ rfl]
          simp [hnl] at this ⊢
          omega
        · intro j hj
          simp at hj
          rw [Array.getElem?_append_left (by simpa using hj)]
          simp
      · simp [blk] at hk
        exact Or.inr hk
  · by_cases hroom : xs.length + m ≤ cap
    · have hr := fun ty => run_append_room_src (P := Tryd.prog) w 27 tx ty 5 i ht hi0 g 0 xs.length cap src m news hs' hroom
        (fun j hj => by rw [hi2, cell_of hg, Array.getElem?_eq_getElem (by omega)]; rfl) (fun j hj => frozen_of hg _)
      obtain ⟨cur', hg', hsz'⟩ := setCells_block g 5 news (0 + xs.length * i.size) w cur hg
      have hget := setCells_get g 5 news (0 + xs.length * i.size) w cur cur' hg hg' (by rw [hi2]; omega)
      refine ⟨_, _, hr, Or.inr ⟨g, cap, cur', by simp [hnl], hg', by simp [hnl]; exact hroom, hc2, by omega, fun j hj => ?_⟩, Kp.setCells g (Or.inl (by simp [blk])) _ _ _ (Kp.refl _ _), fun k hk => Or.inl (by simpa [blk] using hk), ⟨_, _, rfl⟩⟩
      rw [hget j, hi2]
      simp only [Nat.mul_one, Nat.zero_add]
      rw [List.length_append] at hj
      by_cases hjx : j < xs.length
      · rw [if_neg (by omega), List.getElem?_append_left hjx, hc4 j hjx]
      · rw [if_pos (by omega), List.getElem?_append_right (by omega)]
    · have hold : (Builtin.firstCells i.size xs.length (.slice (some ⟨g, 0, none⟩) xs.length cap)).run Tryd.prog w.drew = .ok xs.toArray w.drew :=
        run_firstCells_some w.drew i.size xs.length ⟨g, 0, none⟩ xs.length cap xs (by rw [hi2, Nat.mul_one]) (fun j u hj => by
          rw [Addr.add_lit]
          show w.cell? _ = _
          have hjl := (List.getElem?_eq_some_iff.1 hj).1
          rw [Nat.zero_add, cell_of hg, hc4 j hjl]
          exact hj)
      have hr := fun ty => run_append_grow_src (P := Tryd.prog) w 27 tx ty 5 i (.int .u8 0) ht hi0 hi1 (some ⟨g, 0, none⟩) xs.length cap xs hold src m news hs' (by omega) (by omega) (by rw [hi3]; exact growslice_fits (by omega) (by omega))
      refine ⟨_, _, hr, ?_, (Kp.refl _ _).drew.alloc _, fun k hk => ?_, ⟨_, _, rfl⟩⟩
      · refine ownB_new w.drew _ _ _ ?_ ?_ ?_ ?_ _ (by simp [hnl])
        · have := grownCap_ge w (xs.length + m) cap 5
          simp [hnl]
          exact this
        · exact grownCap_le_maxLen w _ _ _ (by unfold maxLen; omega)
        · have := grownCap_ge w (xs.length + m) cap 5
          rw [Array.size_append, size_zc _ rfl]
          simp [hnl]
          omega
        · intro j hj
          rw [Array.getElem?_append_left (by simpa using hj)]
          simp
      · simp [blk] at hk
        exact Or.inr hk

/-- The builder in block b, whose bytes lie in v, holds s. -/
def Bu (w : World) (b : Nat) (v : Value) (s : ByteArray) : Prop :=
  (∃ q, (q = none ∨ q = some ⟨b, 0, none⟩) ∧ w.heap[b]? = some (.cells #[.pointer q, v] 60 (0, 0))) ∧ OwnB w v (byteCells s) ∧ b ∉ blk v

theorem Bu.keep {S : List Nat} {w w' : World} {b : Nat} {v : Value} {s : ByteArray} (h : Bu w b v s) (k : Kp S w w') (hb : b ∉ S) (hv : ∀ x, x ∈ blk v → x ∉ S) : Bu w' b v s := by
  obtain ⟨⟨q, h1, h2⟩, h3, h4⟩ := h
  exact ⟨⟨q, h1, by rw [k.block b (Array.getElem?_eq_some_iff.1 h2).1 hb]; exact h2⟩, h3.keep k hv, h4⟩

theorem bu_new (w : World) : Bu (w.alloc (.cells #[.pointer none, .slice none 0 0] 60)) w.heap.size (.slice none 0 0) ⟨#[]⟩ :=
  ⟨⟨none, Or.inl rfl, heap_new w _⟩, Or.inl ⟨rfl, rfl⟩, by simp [blk]⟩

/-- A call turned the builder's blocks alone: it holds s' now. -/
def Bt (w w' : World) (b : Nat) (v : Value) (s' : ByteArray) : Prop := ∃ v', Bu w' b v' s' ∧ Kp (b :: blk v) w w' ∧ ∀ x, x ∈ blk v' → x ∈ blk v ∨ w.heap.size ≤ x

theorem bu_check (w : World) (b : Nat) (v : Value) (s : ByteArray) (h : Bu w b v s) :
    Calls Tryd.prog 42 #[.pointer (some ⟨b, 0, none⟩)] w fun e w' => e = .returned (.tuple #[]) ∧ w'.heap[b]? = some (.cells #[.pointer (some ⟨b, 0, none⟩), v] 60 (0, 0)) ∧ Kp [b] w w' := by
  obtain ⟨⟨q, h1, h2⟩, h3, h4⟩ := h
  rcases h1 with rfl | rfl
  · refine (check_new b w (cell_of h2 0) (by simp [World.shape?, h2]) (frozen_of h2 0)).mono ?_
    rintro e w' ⟨rfl, rfl⟩
    exact ⟨rfl, by rw [setCell_block h2]; rfl, (Kp.refl _ _).setCell (Or.inl (by simp)) _⟩
  · refine (check_used b w (cell_of h2 0)).mono ?_
    rintro e w' ⟨rfl, rfl⟩
    exact ⟨rfl, h2, Kp.refl _ _⟩

/-- What a call that appended left behind. -/
theorem bt_put {w w1 w2 : World} {b : Nat} {v v' : Value} {s s' : ByteArray} (h : Bu w b v s) (h1 : w1.heap[b]? = some (.cells #[.pointer (some ⟨b, 0, none⟩), v] 60 (0, 0))) (k1 : Kp [b] w w1) {w1' : World} (ka : Kp [] w1 w1') (k2 : Kp (blk v) w1' w2) (o2 : OwnB w2 v' (byteCells s')) (b2 : ∀ x, x ∈ blk v' → x ∈ blk v ∨ x = w1'.heap.size) :
    w2.heap[b]? = some (.cells #[.pointer (some ⟨b, 0, none⟩), v] 60 (0, 0)) ∧ Bt w (w2.setCell ⟨b, 1, none⟩ v') b v s' := by
  have hbl : b < w1.heap.size := (Array.getElem?_eq_some_iff.1 h1).1
  have hb2 : w2.heap[b]? = some (.cells #[.pointer (some ⟨b, 0, none⟩), v] 60 (0, 0)) := (k2.block b (Nat.lt_of_lt_of_le hbl ka.size) h.2.2).trans ((ka.block b hbl (by simp)).trans h1)
  have hs1 := k1.size
  have hsa := ka.size
  have hbl0 : b < w.heap.size := by
    obtain ⟨⟨q, _, h2⟩, _⟩ := h
    exact (Array.getElem?_eq_some_iff.1 h2).1
  have hbv : b ∉ blk v' := fun hx => by
    rcases b2 b hx with h3 | h3
    · exact h.2.2 h3
    · omega
  refine ⟨hb2, v', ⟨⟨_, Or.inr rfl, by rw [setCell_block hb2]; rfl⟩, o2.keep ((Kp.refl [b] _).setCell (Or.inl (by simp)) _) (fun x hx => by simp; intro e; subst e; exact hbv hx), hbv⟩, ?_, fun x hx => ?_⟩
  · have e1 : Kp (b :: blk v) w w1 := k1.mono (fun x hx => Or.inl (by simp at hx; simp [hx]))
    exact ((e1.trans ka (fun x hx => by simp at hx)).trans k2 (fun x hx => Or.inl (by simp [hx]))).setCell (Or.inl (by simp)) _
  · rcases b2 x hx with h3 | h3
    · exact Or.inl h3
    · right; omega

theorem cells_b (s t : ByteArray) : byteCells s ++ byteCells t = byteCells (s ++ t) := by
  simp [byteCells, ByteArray.data_append]

set_option maxHeartbeats 1000000 in
set_option maxRecDepth 100000 in
theorem bu_write (w : World) (b : Nat) (v : Value) (acc s : ByteArray) (h : Bu w b v acc) (hlen : acc.size + s.size ≤ 1000000) :
    Calls Tryd.prog 29 #[.pointer (some ⟨b, 0, none⟩), .string s] w fun e w' => e = .returned (.tuple #[.int .i64 s.size, .nilIface]) ∧ Bt w w' b v (acc ++ s) := by
  have HC := bu_check w b v acc h
  have HG : Hid (Bu w b v acc) := h
  clear h
  go_enter Tryd.func29, Tryd.ntmps29
  go_wp2_with fail
  refine HC.mono ?_
  rintro e w1 ⟨rfl, h1, k1⟩
  clear HC
  have hnb : b ∉ blk v := HG.out.2.2
  have o1 : OwnB w1 v (byteCells acc) := HG.out.2.1.keep k1 (fun x hx => by simp; intro e; subst e; exact hnb hx)
  have hl : (byteCells acc).length = acc.size := byteCells_length acc
  obtain ⟨v', w2, hrun, o2, k2, b2, ao, c, hv⟩ := app_b 9 w1 v _ o1 (.string s) s.size (byteCells s) (Src.ofString w1 Tryd.underlying9 s) (by omega)
  rw [cells_b] at o2
  obtain ⟨hb2, hfin⟩ := bt_put HG.out h1 k1 (Kp.refl [] w1) k2 o2 b2
  have c1 : w1.cell? ⟨b, 1, none⟩ = some v := cell_of h1 1
  have d1 : w2.cell? ⟨b, 1, none⟩ = some v := cell_of hb2 1
  have f1 : w2.frozen? ⟨b, 1, none⟩ = false := frozen_of hb2 1
  have HF : Hid (Bt w (w2.setCell ⟨b, 1, none⟩ v') b v (acc ++ s)) := hfin
  clear hfin hb2 o1 o2 k1 k2 b2 h1 hl hnb HG
  subst hv
  go_wp2_with (at_builtin; refine Lib.wpList_append_run _ rfl _ _ _ _ rfl _ _ rfl rfl _ _ (hrun _) ?_)
  go_ret2
  exact ⟨rfl, HF.out⟩


/-- The text that was written. -/
theorem bu_string (w0 w : World) (b : Nat) (v : Value) (acc : ByteArray) (h : Bu w b v acc) (k : Kp [] w0 w) (hb : w0.heap.size ≤ b) (hv : ∀ x, x ∈ blk v → w0.heap.size ≤ x) :
    Calls Tryd.prog 31 #[.pointer (some ⟨b, 0, none⟩)] w fun e w' => e = .returned (.string acc) ∧ Kp [] w0 w' := by
  refine string_any w0 w b acc ⟨?_, k⟩
  obtain ⟨⟨q, h1, h2⟩, h3, h4⟩ := h
  have hbs : byteCells acc = Lib.strCells acc := rfl
  have hown : w.ownsRowF w0.heap.size 5 1 v (Lib.strCells acc).length (Lib.strCells acc) := by
    refine ⟨by simp, ?_⟩
    rcases h3 with ⟨h5, h6⟩ | ⟨g, cap, cur, rfl, hg, e1, e2, e3, e4⟩
    · rw [hbs] at h6
      exact Or.inl ⟨h5, by rw [h6]; rfl⟩
    · refine Or.inr ⟨g, cap, cur, (0, 0), rfl, hv g (by simp [blk]), hg, Nat.zero_le _, e1, e2, by rw [e3, Nat.mul_one], ?_⟩
      rw [hbs] at e4 e1
      rw [Nat.mul_one]
      apply List.ext_getElem?
      intro j
      by_cases hj : j < (Lib.strCells acc).length
      · rw [List.getElem?_take_of_lt hj, ← e4 j hj]
        simp
      · rw [List.getElem?_eq_none (by simp; omega), List.getElem?_eq_none (by omega)]
  have hne : v.ownBlock ≠ some b := fun e => by
    cases v with
    | slice a n c =>
      cases a with
      | none => cases e
      | some a => simp [Value.ownBlock] at e; exact h4 (by simp [blk, e])
    | _ => cases e
  rcases h1 with rfl | rfl
  · exact Or.inl ⟨hb, v, h2, hown, hne⟩
  · exact Or.inr ⟨hb, v, h2, hown, hne⟩

end Go.Proofs.YtpjkpobdkmcedaaDoor
