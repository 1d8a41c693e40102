/-
  A run of Texts as one token: the program's asOne.
-/
import Derived.Test.YtgeebmlincddkaaOwns
import Derived.Test.YtgeebmlincddkaaBuild
namespace Go.Proofs.Ytgeebmlincddkaa
open Go.RowKit

/-- The text that was written; what is no row of bytes stays as it was. -/
theorem string_more (w W : World) (b : Nat) (acc : ByteArray) (h : Bd w W b acc) :
    Calls Try.prog 37 #[.pointer (some ⟨b, 0, none⟩)] W fun e W' => e = .returned (.string acc) ∧ Kp [] w W' ∧ Lib.OthersKept 5 (some b) W W' := by
  refine (Any.Builder_String_any_k Try.lays169 Try.Builder_Extra_169 w.heap.size b acc.data.toList W ?_ h.2.size).mono ?_
  · exact h.1
  · rintro e W' ⟨rfl, _, hb, ho⟩
    exact ⟨rfl, h.2.under hb, ho⟩

theorem others_block {b g : Nat} {W W' : World} {cur : Array Value} {e : TypeId} {fz : Nat × Nat} (h : Lib.OthersKept 5 (some b) W W') (hg : W.heap[g]? = some (.cells cur e fz)) (hb : g ≠ b) (he : e ≠ 5) : W'.heap[g]? = some (.cells cur e fz) :=
  h g _ hg (fun x => hb (Option.some.inj x)) (fun c f x => he (by simp only [Obj.cells.injEq] at x; exact x.2.1))

theorem others_own {k b : Nat} {W W' : World} {e : TypeId} {v : Value} {n : Nat} {xs : List Value} (h : Lib.OthersKept 5 (some b) W W') (ho : OwnK k W e v n xs) (hb : ∀ x, x ∈ blk v → x ≠ b) (he : e ≠ 5) : OwnK k W' e v n xs := by
  obtain ⟨h0, h1⟩ := ho
  refine ⟨h0, ?_⟩
  rcases h1 with h1 | ⟨g, o, cap, cur, rfl, hg, r⟩
  · exact Or.inl h1
  · exact Or.inr ⟨g, o, cap, cur, rfl, others_block h hg (hb g (by simp [blk])) he, r⟩

set_option maxHeartbeats 2000000 in
theorem asone_any (w : World) (r : List Q) (ao : Option Addr) (m c : Nat) (hr : Rq w ao m c r) (hm : m ≤ 1000) (h0 : 0 < r.length) (ha : At w r[0]) (ht : tame r[0].1) (hw : wt (r.map Prod.fst) ≤ 100000) :
    Calls Try.prog 20 #[.slice ao m c] w fun e w' => ∃ p : Q, e = .returned (qv p) ∧ p.1 = one (r.map Prod.fst) ∧ Kp [] w w' ∧ Ar w' p := by
  obtain rfl := hr.len
  obtain ⟨w0, hw0⟩ : ∃ w0, w0 = w.alloc (.cells #[.int .i64 0, .string ⟨#[]⟩, .slice none 0 0, .bool false, .string ⟨#[]⟩] 24) := ⟨_, rfl⟩
  have k0 : Kp [] w w0 := by rw [hw0]; exact (Kp.refl _ _).alloc _
  have z0 : w0.heap[w.heap.size]? = some (.cells #[.int .i64 0, .string ⟨#[]⟩, .slice none 0 0, .bool false, .string ⟨#[]⟩] 24) := by rw [hw0]; exact heap_new _ _
  have hb0 : w0.heap.size = w.heap.size + 1 := by rw [hw0]; simp
  have B0 := bd_new w0
  have HW := fun V acc s (hB : Bd w0 V w0.heap.size acc) (hs : acc.size + s.size ≤ 1000000) => write_any w0 V w0.heap.size acc s hB hs
  have HS := fun V acc (hB : Bd w0 V w0.heap.size acc) => string_more w0 V w0.heap.size acc hB
  rw [hb0] at B0 HW HS
  have hsz : Hid (∀ k, k ≤ r.length → (cat ⟨#[]⟩ ((r.map Prod.fst).take k)).size ≤ 100000) := fun k hk => by
    have h1 := cat_wt ((r.map Prod.fst).take k) ⟨#[]⟩
    have h2 := wt_take (r.map Prod.fst) k
    have h3 : (⟨#[]⟩ : ByteArray).size = 0 := rfl
    omega
  have hts : Hid (∀ k (hk : k < r.length), r[k].1.2.2.2.2.size ≤ 100000) := fun k hk => by
    have := wt_at (l := r.map Prod.fst) (t := r[k].1) (List.mem_map.2 ⟨r[k], List.getElem_mem hk, rfl⟩)
    unfold tt at this
    omega
  have hstep : Hid (∀ k (hk : k < r.length), cat ⟨#[]⟩ ((r.map Prod.fst).take (k + 1)) = cat ⟨#[]⟩ ((r.map Prod.fst).take k) ++ r[k].1.2.2.2.2) := fun k hk => by
    rw [cat_snoc (by simpa using hk)]
    simp [tt]
  have hone : Hid (one (r.map Prod.fst) = setText r[0].1 (cat ⟨#[]⟩ ((r.map Prod.fst).take r.length))) := by
    show _ = _
    rw [List.take_of_length_le (by simp)]
    cases r with
    | nil => simp at h0
    | cons p r => rfl
  have hst : Hid (cat ⟨#[]⟩ ((r.map Prod.fst).take 0) = ⟨#[]⟩) := rfl
  go_enter Try.func20, Try.ntmps20
  go_wp2
  rw [← hw0]
  rw [← hst.out] at B0
  clear hw0
  go_loopw [9] (fun i wr => ∃ k : Nat, k ≤ r.length ∧ i = .int .i64 k ∧ Bd w0 wr (w.heap.size + 1) (cat ⟨#[]⟩ ((r.map Prod.fst).take k))) (fun i _ => r.length - (intOf i).toNat)
  case atStart => exact ⟨0, Nat.zero_le _, rfl, B0⟩
  case round =>
    obtain ⟨k, hk, rfl, B⟩ := hrel
    clear B0
    have kp := B.kp
    have hs := hsz.out k hk
    by_cases hlt : k < r.length
    · obtain ⟨b1, o1, rfl, g0, g1, g2, g3, g4⟩ := ((hr.kept k0).kept kp).get k hlt
      have hts' := hts.out k hlt
      have hst' := hstep.out k hlt
      have ka : Kp [] wr (wr.alloc (.cells #[.int .i64 r[k].1.1, .string r[k].1.2.1, .slice r[k].2.1 r[k].2.2.1 r[k].2.2.2, .bool r[k].1.2.2.2.1, .string r[k].1.2.2.2.2] 24)) := (Kp.refl _ _).alloc _
      have HW1 := HW _ _ r[k].1.2.2.2.2 (B.kept ka) (by omega)
      rw [← hst'] at HW1
      clear hst' hr ka B hone
      generalize r[k] = p at g0 g1 g2 g3 g4 hts' HW1
      go_wp2_with fail
      refine HW1.mono ?_
      rintro e w2 ⟨rfl, B2⟩
      clear HW1
      go_wp2
      go_roundw
      case rel => exact ⟨k + 1, by omega, by go_num, B2⟩
      case measure => simp [intOf]; omega
    · obtain rfl : k = r.length := by omega
      obtain ⟨b1, o1, rfl, g0, g1, g2, g3, g4⟩ := ((hr.kept k0).kept kp).get 0 h0
      have kw := k0.trans kp (fun x hx => by simp at hx)
      have hat : At wr r[0] := ha.kept kw
      generalize cat ⟨#[]⟩ ((r.map Prod.fst).take r.length) = acc at B hs hone
      have hlen : 0 < r.length := h0
      clear hr hsz hts hstep ha hw
      generalize r[0] = p at g0 g1 g2 g3 g4 hat hone ht
      obtain ⟨⟨pk, px, pl, pb, py⟩, pa, pn, pc⟩ := p
      simp only [Nat.zero_mul, Nat.add_zero] at g0 g1 g2 g3 g4 hone ht
      obtain ⟨ht1, ht2, ht3⟩ := ht
      simp only at ht1 ht2 ht3
      have hpn : pn ≤ 1000 := by have := Rp.len hat; simp only at this; omega
      have HC := fun W => clone_any W px (by omega)
      have hf : fits pl := brief_fits ⟨ht2, ht3⟩
      have hlt1 : w.heap.size + 1 < wr.heap.size := by
        rcases B.1 with h1 | h1
        · exact h1.lt
        · exact h1.lt
      have ka : Kp [] wr (wr.alloc (.cells #[.int .i64 pk, .string px, .slice pa pn pc, .bool pb, .string py] 24)) := (Kp.refl _ _).alloc _
      have B1 := B.kept ka
      have C0 : (wr.alloc (.cells #[.int .i64 pk, .string px, .slice pa pn pc, .bool pb, .string py] 24)).heap[wr.heap.size]? = some (.cells #[.int .i64 pk, .string px, .slice pa pn pc, .bool pb, .string py] 24) := heap_new wr _
      have hat1 : Rp (wr.alloc (.cells #[.int .i64 pk, .string px, .slice pa pn pc, .bool pb, .string py] 24)) pa pn pc pl := Rp.kept hat ka
      have kV := kw.trans ka (fun x hx => by simp at hx)
      have hV : wr.heap.size < (wr.alloc (.cells #[.int .i64 pk, .string px, .slice pa pn pc, .bool pb, .string py] 24)).heap.size := lt_of C0
      have e0 : Hid (∀ acc', setText (pk, px, pl, pb, py) acc' = (pk, px, pl, pb, acc')) := fun _ => rfl
      clear B ka hat kp kw
      go_wp2_with fail
      generalize wr.alloc (.cells #[.int .i64 pk, .string px, .slice pa pn pc, .bool pb, .string py] 24) = V at B1 C0 hat1 kV hV
      have HO : Hid (∀ W, Kp [] V W → Calls Try.prog 36 #[.slice pa pn pc] W fun e w' => ∃ ao' n' c', e = .returned (.slice ao' n' c') ∧ Mp W w' ao' n' c' pl) := fun W kW => ownattrs_any W pl pa pn pc (hat1.kept kW) hpn hf
      have HT : Hid (∀ W, Kp [] V W → Calls Try.prog 37 #[.pointer (some ⟨w.heap.size + 1, 0, none⟩)] W fun e W' => e = .returned (.string acc) ∧ Kp [] w0 W' ∧ Lib.OthersKept 5 (some (w.heap.size + 1)) W W') := fun W kW => HS W acc (B1.kept kW)
      have C1 : Hid (∀ v, Kp [] V v → v.heap[wr.heap.size]? = some (.cells #[.int .i64 pk, .string px, .slice pa pn pc, .bool pb, .string py] 24)) := fun v kv => by rw [kv.block _ hV (by simp)]; exact C0
      have C2 : Hid (∀ v : World, v.heap[wr.heap.size]? = some (.cells #[.int .i64 pk, .string px, .slice pa pn pc, .bool pb, .string py] 24) → v.cell? ⟨wr.heap.size, 0, none⟩ = some (.int .i64 pk) ∧ v.cell? ⟨wr.heap.size, 1, none⟩ = some (.string px) ∧ v.cell? ⟨wr.heap.size, 2, none⟩ = some (.slice pa pn pc) ∧ v.cell? ⟨wr.heap.size, 3, none⟩ = some (.bool pb) ∧ v.cell? ⟨wr.heap.size, 4, none⟩ = some (.string py)) := fun v hv => by
        obtain ⟨c0, c1, c2, c3, c4⟩ := box_of hv
        exact ⟨c0, c1, c2, c3, c4⟩
      have C3 : Hid (∀ v v', Kp [] V v → Lib.OthersKept 5 (some (w.heap.size + 1)) v v' → v'.heap[wr.heap.size]? = some (.cells #[.int .i64 pk, .string px, .slice pa pn pc, .bool pb, .string py] 24)) := fun v v' kv ho => others_block ho (C1.out v kv) (by omega) (by decide)
      have C4 : Hid (∀ (v : World) (u0 u1 u2 u3 u4 : Value), v.heap[wr.heap.size]? = some (.cells #[.int .i64 pk, .string px, .slice pa pn pc, .bool pb, .string py] 24) → (((((v.setCell ⟨w.heap.size, 0, none⟩ u0).setCell ⟨w.heap.size, 1, none⟩ u1).setCell ⟨w.heap.size, 2, none⟩ u2).setCell ⟨w.heap.size, 3, none⟩ u3).setCell ⟨w.heap.size, 4, none⟩ u4).heap[wr.heap.size]? = some (.cells #[.int .i64 pk, .string px, .slice pa pn pc, .bool pb, .string py] 24)) := fun v u0 u1 u2 u3 u4 hv => by
        have := ((Kp.refl [w.heap.size] v).put5 (g := w.heap.size) (Or.inl (by simp)) u0 u1 u2 u3 u4).block wr.heap.size (lt_of hv) (by simp; omega)
        unfold put5 at this
        rw [this]
        exact hv
      have Z0 : Hid (∀ v, Kp [] w0 v → v.heap[w.heap.size]? = some (.cells #[.int .i64 0, .string ⟨#[]⟩, .slice none 0 0, .bool false, .string ⟨#[]⟩] 24)) := fun v kv => by rw [kv.block _ (lt_of z0) (by simp)]; exact z0
      obtain ⟨q0, q1, q2, q3, q4⟩ := C2.out V C0
      clear C0 hat1 B1 HW HS z0 g0 g1 g2 g3 g4 hf
      go_region_held3 (fun w' => w'.cell? ⟨wr.heap.size, 0, none⟩ = some (.int .i64 pk) ∧ w'.cell? ⟨wr.heap.size, 1, none⟩ = some (.string px) ∧ w'.cell? ⟨wr.heap.size, 2, none⟩ = some (.slice pa pn pc) ∧ w'.cell? ⟨wr.heap.size, 3, none⟩ = some (.bool pb) ∧ w'.cell? ⟨wr.heap.size, 4, none⟩ = some (.string py))
        (first
          | with_reducible exact C2.out _ S3.out
          | with_reducible exact C2.out _ (C4.out _ _ _ _ _ _ S3.out)
          | with_reducible exact C2.out _ (C1.out _ S2.out)
          | with_reducible exact C2.out _ (C1.out _ S1.out)
          | exact C2.out _ (C1.out _ (Kp.refl [] V).drew))
        (first
          | (go_at_call 35; refine (HC _).mono ?_; rintro e v1 ⟨rfl, kk⟩; have S1 : Hid (Kp [] V v1) := (Kp.refl [] V).drew.trans kk (fun x hx => by simp at hx); clear kk)
          | (go_at_call 36; refine (HO.out _ S1.out).mono ?_; rintro e v2 ⟨a2, n2, c2, rfl, M2⟩; have S2 : Hid (Kp [] V v2) := S1.out.trans M2.kp (fun x hx => by simp at hx); have O2 : Hid (OwnK 2 v2 26 (.slice a2 n2 c2) n2 (cs pl) ∧ ∀ x, x ∈ blk (.slice a2 n2 c2) → v1.heap.size ≤ x) := ⟨M2.1, M2.2.2⟩; clear M2)
          | (go_at_call 37; refine (HT.out _ S2.out).mono ?_; rintro e v3 ⟨rfl, kk, oo⟩; have S3 : Hid (v3.heap[wr.heap.size]? = some (.cells #[.int .i64 pk, .string px, .slice pa pn pc, .bool pb, .string py] 24)) := C3.out _ _ S2.out oo; have S4 : Hid (Kp [] w0 v3) := kk; have S5 : Hid (Lib.OthersKept 5 (some (w.heap.size + 1)) v2 v3) := oo; clear kk oo; have zz := Z0.out _ S4.out; obtain ⟨y0, y1, y2, y3, y4⟩ := box_of zz; have x0 := frozen_of zz 0; have x1 := frozen_of zz 1; have x2 := frozen_of zz 2; have x3 := frozen_of zz 3; have x4 := frozen_of zz 4; clear zz))
      have zz := Z0.out _ S4.out
      have P := put5_block zz (.int .i64 pk) (.string px) (.slice a2 n2 c2) (.bool pb) (.string acc)
      obtain ⟨r0, r1, r2, r3, r4⟩ := box_of P
      have KZ : Kp [] w (put5 v3 w.heap.size (.int .i64 pk) (.string px) (.slice a2 n2 c2) (.bool pb) (.string acc)) := (k0.trans S4.out (fun x hx => by simp at hx)).put5 (Or.inr (Nat.le_refl _)) _ _ _ _ _
      have hbig : ∀ x, x ∈ blk (.slice a2 n2 c2) → wr.heap.size < x := fun x hx => by
        have h1 := O2.out.2 x hx
        have h2 := S1.out.size
        omega
      have OZ : OwnK 2 (put5 v3 w.heap.size (.int .i64 pk) (.string px) (.slice a2 n2 c2) (.bool pb) (.string acc)) 26 (.slice a2 n2 c2) n2 (cs pl) :=
        (others_own S5.out O2.out.1 (fun x hx => by have := hbig x hx; omega) (by decide)).keep ((Kp.refl [w.heap.size] v3).put5 (Or.inl (by simp)) _ _ _ _ _) (fun x hx hs => by
          simp only [List.mem_singleton] at hs
          have := hbig x hx
          omega)
      clear HC HO HT C1 C2 C3 C4 Z0 S1 S2 S3 S4 S5 O2 q0 q1 q2 q3 q4 y0 y1 y2 y3 y4 x0 x1 x2 x3 x4 zz P hbig
      go_wp2
      rw [show ((((v3.setCell ⟨w.heap.size, 0, none⟩ (.int .i64 pk)).setCell ⟨w.heap.size, 1, none⟩ (.string px)).setCell ⟨w.heap.size, 2, none⟩ (.slice a2 n2 c2)).setCell ⟨w.heap.size, 3, none⟩ (.bool pb)).setCell ⟨w.heap.size, 4, none⟩ (.string acc) = put5 v3 w.heap.size (.int .i64 pk) (.string px) (.slice a2 n2 c2) (.bool pb) (.string acc) from rfl]
      generalize put5 v3 w.heap.size (.int .i64 pk) (.string px) (.slice a2 n2 c2) (.bool pb) (.string acc) = Z at r0 r1 r2 r3 r4 KZ OZ ⊢
      refine bodyPost_ret (v := .agg #[.int .i64 pk, .string px, .slice a2 n2 c2, .bool pb, .string acc]) (by simp [results, go_sem, r0, r1, r2, r3, r4]) rfl ⟨((pk, px, pl, pb, acc), a2, n2, c2), rfl, ?_, KZ, OZ⟩
      rw [hone.out, e0.out]

end Go.Proofs.Ytgeebmlincddkaa
