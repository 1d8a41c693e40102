/-
  Bytes, read rune by rune: the program's Decode.
-/
import Derived.Test.YtinafcajaikfdaaFirst
namespace Go.Proofs.Ytinafcajaikfdaa
open Go.RowKit Utf

theorem Rb.from {w : World} {q off n c : Nat} {xs : List Value} (h : Rb w (some ⟨q, off, none⟩) n c xs) (k : Nat) (hk : k < n) : Rb w (some ⟨q, off + k, none⟩) (n - k) (c - k) (xs.drop k) := by
  have := h.drop k (by omega)
  have hc := h.cap
  unfold offAt at this
  rw [if_neg (by omega)] at this
  simpa [Addr.add_lit] using this

/-- A slice that a call made: it holds xs, in blocks that are new since w. -/
def Made (w w' : World) (e : TypeId) (ao : Option Addr) (n c : Nat) (xs : List Value) : Prop := Own w' e (.slice ao n c) xs ∧ Kp [] w w' ∧ ∀ k, k ∈ blk (.slice ao n c) → w.heap.size ≤ k

theorem Made.nil (w : World) (e : TypeId) : Made w w e none 0 0 [] := ⟨Or.inl ⟨rfl, rfl⟩, Kp.refl _ _, fun k hk => by simp [blk] at hk⟩

/-- What a call changes in no block that was there is kept. -/
theorem Made.kept {w w1 w2 : World} {e : TypeId} {ao : Option Addr} {n c : Nat} {xs : List Value} (h : Made w w1 e ao n c xs) (k : Kp [] w1 w2) : Made w w2 e ao n c xs :=
  ⟨h.1.keep k (fun _ _ => by simp), h.2.1.trans k (fun x hx => by simp at hx), h.2.2⟩

/-- One more. -/
theorem Made.one {t e : TypeId} {z : Value} {bytes : Nat} (ht : Try.prog.underlying t = some (.slice e)) (hi : (Try.prog.info? e).map (fun i => (i.zero, i.size, i.bytes)) = some (some z, 1, bytes)) (hz : z.cells = #[z]) (hby : bytes ≤ 1024)
    {w w1 : World} {ao : Option Addr} {n c : Nat} {xs : List Value} (h : Made w w1 e ao n c xs) (u : Value) (hu : u.oneCell' = true) (hlen : xs.length + 1 ≤ 1000000) :
    ∃ ao' n' c' w2, (∀ ty, (Builtin.append_ #[t, t] ty #[.slice ao n c, .slice (some ⟨w1.heap.size, 0, none⟩) 1 1]).run Try.prog (w1.alloc (.cells #[u] e)) = .ok (.slice ao' n' c') w2) ∧ Made w w2 e ao' n' c' (xs ++ [u]) := by
  obtain ⟨h1, h2, h3⟩ := h
  obtain ⟨v', w2, hrun, o2, k2, b2, a2, c2, rfl⟩ := app_one ht hi hz hby w1 _ _ h1 u hu hlen
  refine ⟨_, _, _, w2, hrun, o2, h2.trans k2 (fun x hx => Or.inr (h3 x hx)), fun k hk => ?_⟩
  rcases b2 k hk with h4 | h4
  · exact h3 k h4
  · have := h2.size
    omega

theorem r32_snoc (l : List Int) (r : Int) : r32 l ++ [.int .i32 r] = r32 (l ++ [r]) := by simp [r32]

theorem dec_part {bs ms : List Int} {k : Nat} (h : dec bs = ms ++ dec (bs.drop k)) : ms.length ≤ bs.length := by
  have h1 := dec_len bs.length bs (Nat.le_refl _)
  have h2 := congrArg List.length h
  rw [List.length_append] at h2
  omega

set_option maxHeartbeats 4000000 in
set_option maxRecDepth 100000 in
theorem decode_any (w : World) (ao : Option Addr) (n c : Nat) (bs : List Int) (h : Rb w ao n c (b8 bs)) (hb : byt bs) (hl : n ≤ 100000) :
    Calls Try.prog 15 #[.slice ao n c] w fun e w' => ∃ ao' n' c', e = .returned (.slice ao' n' c') ∧ Made w w' 21 ao' n' c' (r32 (dec bs)) := by
  obtain rfl : n = bs.length := by rw [h.len, b8_len]
  have hcp := h.cap
  go_enter Try.func15, Try.ntmps15
  go_wp2
  go_loopw [3, 4] (fun v i wr => ∃ (k : Nat) (ms : List Int) (ao' : Option Addr) (n' c' : Nat), k ≤ bs.length ∧ v = .slice ao' n' c' ∧ i = .int .i64 k ∧ Made w wr 21 ao' n' c' (r32 ms) ∧ Hid (dec bs = ms ++ dec (bs.drop k))) (fun _ i _ => bs.length - (intOf i).toNat)
  case atStart => exact ⟨0, [], none, 0, 0, Nat.zero_le _, rfl, rfl, Made.nil w 21, rfl⟩
  case round =>
    obtain ⟨k, ms, ao', n', c', hk, rfl, rfl, hm, hd⟩ := hrel
    by_cases hlt : k < bs.length
    · obtain ⟨q, off, rfl, _⟩ := h.at' 0 (by omega)
      have hdr : bs.drop k = bs[k] :: bs.drop (k + 1) := by simp
      have hr := (h.kept hm.2.1).from k hlt
      rw [b8_drop, hdr] at hr
      have hby : byt (bs[k] :: bs.drop (k + 1)) := by
        rw [← hdr]
        exact byt_drop hb k
      have HF := first_any wr q (off + k) (bs.length - k) (c - k) bs[k] (bs.drop (k + 1)) hr hby (by omega)
      obtain ⟨t1, t2, t3⟩ := took_drop bs[k] (bs.drop (k + 1))
      have hd2 := hd.out
      rw [hdr, dec_cons, ← t1, ← hdr, List.drop_drop] at hd2
      have hms := dec_part hd.out
      rw [List.length_drop] at t3
      unfold Tells at HF
      generalize took bs[k] (bs.drop (k + 1)) = sz at HF t1 t2 t3 hd2
      generalize (Utf.step bs[k] (bs.drop (k + 1))).1 = r at HF hd2
      have HD : Hid (dec bs = (ms ++ [r]) ++ dec (bs.drop (k + sz))) := by
        show _ = _
        rw [hd2]
        simp
      clear hdr hr hby t1 hd2 hd
      go_wp2_with fail
      refine HF.mono ?_
      rintro e w1 ⟨rfl, k1⟩
      have hm1 := hm.kept k1
      clear HF hm k1
      obtain ⟨ao2, n2, c2, w2, hrun, hm2⟩ := hm1.one Try.underlying26 info21 rfl (by decide) (.int .i32 r) rfl (by rw [r32_len]; omega)
      rw [r32_snoc] at hm2
      clear hm1
      go_wp2_with (at_builtin; refine Lib.wpList_append_run _ rfl _ _ _ _ rfl _ _ rfl rfl _ _ (hrun _) ?_)
      go_roundw
      case rel => exact ⟨k + sz, ms ++ [r], ao2, n2, c2, by omega, rfl, by go_num, hm2, HD⟩
      case measure => simp [intOf]; omega
    · obtain rfl : k = bs.length := by omega
      have hd2 := hd.out
      rw [List.drop_length, dec_nil, List.append_nil] at hd2
      rw [← hd2] at hm
      clear hd2 hd h
      go_wp2
      go_ret
      exact ⟨ao', n', c', rfl, hm⟩

end Go.Proofs.Ytinafcajaikfdaa
