/-
  All of the program.
-/
import Derived.Test.YtcfaejbbjmjgpaaGreatDoorLexG
import Derived.Test.YtcfaejbbjmjgpaaGreatDoorToks
import Derived.Test.YtcfaejbbjmjgpaaGreatDoorRaw
namespace Go.Proofs.YtcfaejbbjmjgpaaGreatDoor
open Go.RowKit Utf
set_option linter.unusedVariables false

/-- append of one; what lies elsewhere is kept. -/
theorem Mq.oneK {w w1 : World} {ao : Option Addr} {n c : Nat} {q : List Q} (h : Mq w w1 ao n c q) (p : Q) (hp : Ar w1 p) (hlen : n + 1 ≤ 1000000) :
    ∃ ao' n' c' w2, (∀ ty, (Builtin.append_ #[49, 49] ty #[.slice ao n c, .slice (some ⟨w1.heap.size, 0, none⟩) 1 1]).run Tryz.prog (w1.alloc (.cells #[.int .i64 p.1.1, .string p.1.2.1, .slice p.2.1 p.2.2.1 p.2.2.2, .bool p.1.2.2.2.1, .string p.1.2.2.2.2] 44)) = .ok (.slice ao' n' c') w2) ∧ Mq w w2 ao' n' c' (q ++ [p]) ∧ Kp (blk (.slice ao n c)) w1 w2 := by
  have k1 : Kp [] w1 (w1.alloc (.cells #[.int .i64 p.1.1, .string p.1.2.1, .slice p.2.1 p.2.2.1 p.2.2.2, .bool p.1.2.2.2.1, .string p.1.2.2.2.2] 44)) := (Kp.refl _ _).alloc _
  have hs := src_tok (p := p) (heap_new w1 _)
  have hp' := hp.keep k1 (fun _ _ => by simp)
  obtain ⟨h1, h2, h3, h4⟩ := h.kept k1
  obtain ⟨v', w2, hrun, o2, k2, b2, a2, c2, rfl⟩ := appK Tryz.underlying49 info24 rfl (by decide) _ _ _ _ h1 _ 1 (qs [p]) hs (fun _ => by omega) hlen
  refine ⟨_, _, _, w2, hrun, ⟨by rw [qs_append]; exact o2, h2.trans k2 (fun x hx => Or.inr (h3 x hx)), fun k hk => ?_, fun r hr => ?_⟩, ((Kp.refl _ _).alloc _).trans k2 (fun x hx => Or.inl hx)⟩
  · rcases b2 k hk with h4 | h4
    · exact h3 k h4
    · have := h2.size
      omega
  · have hx := (List.mem_append.1 hr).elim (h4 r) (fun e => by rw [List.mem_singleton.1 e]; exact hp')
    exact hx.keep k2 (hx.apart h1)

theorem size_alloc_one (w : World) (o : Obj) : (w.alloc o).heap.size = w.heap.size + 1 := by simp

/-- A slice lies in no block of another type. -/
theorem own_apart {k : Nat} {w : World} {e e' : TypeId} {v : Value} {n : Nat} {xs : List Value} {b : Nat} {cur : Array Value} (hne : e ≠ e') (h : OwnK k w e v n xs) (A : At w b cur e') : ∀ x, x ∈ blk v → x ≠ b := by
  intro x hx hb
  obtain ⟨_, h⟩ := h
  rcases h with ⟨rfl, _⟩ | ⟨g, o, cap, cur2, rfl, hg, _⟩
  · simp [blk] at hx
  · simp [blk] at hx
    subst hx
    subst hb
    unfold At at A
    rw [hg] at A
    simp at A
    exact hne A.2

theorem Mq.past {w w1 w2 : World} {b : Nat} {ao : Option Addr} {n c : Nat} {q : List Q} {s : ByteArray} {p : Nat} {md : Int} {fg : Bool} {last : ByteArray} (h : Mq w w1 ao n c q) (L : Lx w1 b s p md fg last) (k : Kp [b] w1 w2) (kw : Kp [] w w2) : Mq w w2 ao n c q :=
  ⟨h.1.keep k (fun x hx => by have := own_apart (by decide) h.1 L x hx; simpa using this), kw, h.2.2.1, fun p hp => (h.2.2.2 p hp).keep k (fun x hx => by have := own_apart (by decide) (h.2.2.2 p hp) L x hx; simpa using this)⟩

set_option maxHeartbeats 1000000 in
set_option maxRecDepth 100000 in
theorem lall_any (w : World) (hn : Nm w) (hi : In w) (s : ByteArray) (hs : s.size ≤ 4000) :
    Calls Tryz.prog 20 #[.string s] w fun e w' => ∃ ao n c q, e = .returned (.slice ao n c) ∧ Mq w w' ao n c q ∧ q.map Prod.fst = allT s := by
  obtain ⟨A, hA⟩ : ∃ A, allT s = A := ⟨_, rfl⟩
  rw [hA]
  unfold allT at hA
  have hA : Hid _ := hA
  have HN := fun W => new_any W s
  have L0 := Lx.new w s 0 1 false ⟨#[]⟩
  have k0 : Kp [] w (w.alloc (.cells #[.string s, .int .i64 ((0 : Nat) : Int), .int .i64 1, .bool false, .string ⟨#[]⟩] 54)) := (Kp.refl _ _).alloc _
  obtain ⟨b, hb⟩ : ∃ b, w.heap.size = b := ⟨_, rfl⟩
  rw [hb] at L0
  have hbw : Hid (w.heap.size ≤ b) := by show _ ≤ _; omega
  go_enter Tryz.func20, Tryz.ntmps20
  go_wp2_with fail
  refine (HN _).mono ?_
  rintro e w1 ⟨rfl, rfl⟩
  rw [hb]
  generalize w.alloc (.cells #[.string s, .int .i64 ((0 : Nat) : Int), .int .i64 1, .bool false, .string ⟨#[]⟩] 54) = W1 at L0 k0 ⊢
  clear HN hb
  have M0 : Mq w W1 none 0 0 [] := (Mq.nil w).kept k0
  go_wp2_with fail
  go_loopw [4] (fun v wr => ∃ (q : List Q) (p m : Nat) (md : Int) (ln : ByteArray) (ao : Option Addr) (n c : Nat), p ≤ s.size ∧ s.size + 1 ≤ m + p ∧ v = .slice ao n c ∧ Mq w wr ao n c q ∧ Lx wr b s p md false ln ∧ Hid (mdOk md ∧ nmOk ln ∧ q.length ≤ p ∧ q.map Prod.fst ++ alT s m p md ln = A)) (fun _ wr => s.size + 1 - placeOf b wr)
  case atStart => exact ⟨[], 0, s.size + 1, 1, ⟨#[]⟩, none, 0, 0, Nat.zero_le _, by omega, rfl, M0, L0, one_ok, none_ok, Nat.le_refl _, hA.out⟩
  case round =>
    obtain ⟨q, p, m, md, ln, ao, n, c, p1, p2, rfl, M, Lr, hI⟩ := hrel
    obtain ⟨hm, hl, hq, hD⟩ := hI.out
    clear M0 L0 k0 hA hI
    obtain ⟨m, rfl⟩ : ∃ m', m = m' + 1 := ⟨m - 1, by omega⟩
    have E : Ev w wr b := ⟨M.kp, hbw.out, hn, hi⟩
    have HX := next_any w wr b E s p md false ln Lr p1 hs hm hl
    obtain ⟨ht, hm2, hl2⟩ := next_told (s := s) (fg := false) p1 hm hl
    obtain ⟨T, hT⟩ : ∃ T, nextF s md false ln p = T := ⟨_, rfl⟩
    rw [hT] at HX ht hm2 hl2
    obtain ⟨⟨tk, tx', tl, tb, ty⟩, te, tm, tn⟩ := T
    unfold tv at HX
    simp only [] at HX ht hm2 hl2
    go_wp2_with fail
    refine HX.mono ?_
    rintro e v1 ⟨a2, n2, c2, rfl, N1⟩
    have hlen := M.len
    have kw1 : Kp [] w v1 := M.kp.trans N1.kp (fun z hz => Or.inr (by have := hbw.out; simp at hz; omega))
    have M1 := M.past Lr N1.kp kw1
    have kx : Kp [] v1 (v1.alloc (.cells #[.int .i64 tk, .string tx', .slice a2 n2 c2, .bool tb, .string ty] 44)) := (Kp.refl _ _).alloc _
    have M2 := M1.kept kx
    have L2 := N1.lx.kept kx (by simp)
    have B2 := At.new v1 #[.int .i64 tk, .string tx', .slice a2 n2 c2, .bool tb, .string ty] 44
    obtain ⟨a4, n4, c4, w4, hrun4, M4, k4⟩ := M2.oneK ((tk, tx', tl, tb, ty), a2, n2, c2) (OwnK.keep N1.own kx (fun _ _ => by simp)) (by omega)
    simp only [size_alloc_one] at hrun4
    have L4 := L2.kept k4 (fun h => own_apart (by decide) M2.1 L2 b h rfl)
    have B4 := B2.kept k4 (fun h => by have := M1.1.lt _ h; omega)
    obtain ⟨y0, y1, y2, y3, y4⟩ := B4.cells5
    obtain ⟨x0, x1, x2, x3, x4⟩ := B2.cells5
    have pr := Lr.place
    have p4 := L4.place
    have hqm : (q ++ [((tk, tx', tl, tb, ty), a2, n2, c2)]).map Prod.fst = q.map Prod.fst ++ [(tk, tx', tl, tb, ty)] := by rw [List.map_append]; rfl
    clear HX N1 M1 M2 B2 B4 kx L2 Lr M E k4 hlen
    by_cases h6 : tk = 6
    · subst h6
      rw [alT_end hT rfl] at hD
      have hD : Hid _ := hD
      have hqm : Hid _ := hqm
      clear ht hT hm hl hq hm2 hl2
      go_wp2_with (at_builtin; refine Lib.wpList_append_run _ rfl _ _ _ _ rfl _ _ rfl rfl _ _ (hrun4 _) ?_)
      try simp only [Exit.inBlock, Exit.then]
      go_ret
      exact ⟨_, _, _, _, rfl, M4, by rw [hqm.out, hD.out]⟩
    · have b6 : (tk == 6) = false := by simpa using h6
      have hgo : p < te := by
        rcases ht.go with g | g
        · exact absurd (congrArg Prod.fst g.1) h6
        · exact g.2.1
      have hhi := ht.hi
      have hlq : (q ++ [((tk, tx', tl, tb, ty), a2, n2, c2)]).length ≤ te := by rw [List.length_append, List.length_singleton]; omega
      by_cases h2 : tk = 2
      · subst h2
        rw [alT_start hT rfl] at hD
        have HR := fun W => raw_any W tx' false
        have HS := fun W (LW : Lx W b s te tm false tn) => set_any W b s te tm false tn LW (raw tx' false)
        rw [modeF_id (raw_range tx' false)] at HS
        have hZ : Hid (mdOk (raw tx' false) ∧ nmOk tn ∧ (q ++ [((2, tx', tl, tb, ty), a2, n2, c2)]).length ≤ te ∧ (q ++ [((2, tx', tl, tb, ty), a2, n2, c2)]).map Prod.fst ++ alT s m te (raw tx' false) tn = A) := ⟨raw_range _ _, hl2, hlq, by rw [hqm, List.append_assoc]; exact hD⟩
        clear ht hT hm hl hq hm2 hl2 h6 hqm hD hlq
        go_wp2_with (first | (at_builtin; refine Lib.wpList_append_run _ rfl _ _ _ _ rfl _ _ rfl rfl _ _ (hrun4 _) ?_) | (go_at_call 33; refine (HR _).mono ?_; rintro e w5 ⟨rfl, rfl⟩) | (go_at_call 12; refine (HS _ L4).mono ?_; rintro e w6 ⟨rfl, k6, L6⟩))
        have M6 := M4.past L4 k6 (M4.kp.trans k6 (fun z hz => Or.inr (by have := hbw.out; simp at hz; omega)))
        have p6 := L6.place
        clear x0 x1 x2 x3 x4 y0 y1 y2 y3 y4
        go_roundw
        case rel => exact ⟨_, te, m, _, tn, _, _, _, hhi, by omega, rfl, M6, L6, hZ.out⟩
        case measure => rw [pr, p6]; omega
      · have b2 : (tk == 2) = false := by simpa using h2
        rw [alT_else hT h6 h2] at hD
        have hZ : Hid (mdOk tm ∧ nmOk tn ∧ (q ++ [((tk, tx', tl, tb, ty), a2, n2, c2)]).length ≤ te ∧ (q ++ [((tk, tx', tl, tb, ty), a2, n2, c2)]).map Prod.fst ++ alT s m te tm tn = A) := ⟨hm2, hl2, hlq, by rw [hqm, List.append_assoc]; exact hD⟩
        clear ht hT hm hl hq hm2 hl2 h6 h2 hqm hD hlq
        go_wp2_with (at_builtin; refine Lib.wpList_append_run _ rfl _ _ _ _ rfl _ _ rfl rfl _ _ (hrun4 _) ?_)
        go_roundw
        case rel => exact ⟨_, te, m, _, tn, _, _, _, hhi, by omega, rfl, M4, L4, hZ.out⟩
        case measure => rw [pr, p4]; omega

end Go.Proofs.YtcfaejbbjmjgpaaGreatDoor
