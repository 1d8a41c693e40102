/-
  The walk of ScanNumbers: it answers true, and leaves what was there as it was.
-/
import Derived.Test.YtoegjgajleamkaaAgree
import Derived.Great.BuildSlice
namespace Go.Proofs.Ytoegjgajleamkaa
open Go.RowKit Utf

/-- A literal of texts. -/
theorem build_texts {P : Program} {ops : Array Oper} {rest : List Oper} {o : Oper} {a : Act} {w : World} {Q : Exit → Act → World → Prop} (hg : o.guard = none) (t e : TypeId) (len : Nat) (parts : Array (Nat × Operand)) (ho : o.op = .buildSlice t len parts)
    (zs : List ByteArray)
    (hu : P.underlying t = some (.slice e)) (hsz : (P.info? e).map (·.size) = some 1) (hz : ((P.info? e).bind (·.zero)).isSome = true)
    (hlen : len = zs.length) (hpos : 0 < len) (hsmall : len ≤ 2 ^ 24)
    (hparts : parts.toList = (zs.zipIdx 0).map fun x => (x.2, Operand.const (Value.string x.1)))
    (h : wpList P ops Q rest (a.put o.dst (.slice (some ⟨w.heap.size, 0, none⟩) len len)) (w.alloc (.cells (tx zs).toArray e))) : wpList P ops Q (o :: rest) a w := by
  cases hie : P.info? e with
  | none => simp [hie] at hsz
  | some ie =>
    simp only [hie, Option.map_some, Option.some.injEq, Option.bind_some] at hsz hz
    obtain ⟨z, hzz⟩ := Option.isSome_iff_exists.1 hz
    refine wpList_buildSlice hg t e len parts ho _ ie z hu hie hzz (by rw [hsz]; omega) (by rw [hsz]; omega) ?_ h
    have he : (parts.map fun (i, x) => (i, a.eval x)).toList = ((tx zs).zipIdx 0).map fun x => (x.2, x.1) := by
      rw [Array.toList_map, hparts, tx, List.zipIdx_map, List.map_map, List.map_map]
      rfl
    rw [he, hsz]
    exact Great.fill_flat _ _ (fun v hv => by obtain ⟨n, _, rfl⟩ := List.mem_map.1 hv; rfl) (by simp [hlen, tx])

def TEXTS : List ByteArray := [{ data := #[] }, { data := #[97] }, { data := #[60, 97, 32, 98, 47, 62] }, { data := #[32, 9, 10, 12, 13, 32, 120] }, { data := #[97, 97, 97, 98] }, { data := #[45, 45, 62] }, { data := #[65, 98, 67] }, { data := #[75] }]
def SUBS : List ByteArray := [{ data := #[] }, { data := #[97] }, { data := #[97, 98] }, { data := #[66] }, { data := #[45, 45, 62] }, { data := #[62] }, { data := #[97, 98, 99] }, { data := #[32] }]
theorem texts_len : TEXTS.length = 8 := rfl
theorem subs_len : SUBS.length = 8 := rfl
theorem texts_size : ∀ x, x ∈ TEXTS → x.size ≤ 1000 := by decide +kernel
theorem subs_size : ∀ x, x ∈ SUBS → x.size ≤ 1000 := by decide +kernel

set_option maxRecDepth 100000 in
set_option maxHeartbeats 2000000 in
theorem numbers_any (w : World) : Calls Try.prog 3 #[] w fun e w' => e = .returned (.bool true) ∧ Kp [] w w' := by
  have HR : Rb (w.alloc (.cells (tx TEXTS).toArray 9)) (some ⟨w.heap.size, 0, none⟩) 8 8 (tx TEXTS) := rb_lit w 9 _ _ 8 rfl rfl (by omega)
  have HK : Kp [] w (w.alloc (.cells (tx TEXTS).toArray 9)) := (Kp.refl _ _).alloc _
  go_enter Try.func3, Try.ntmps3
  go_upto_region 1 with fail
  refine wp_region_lit ?_
  refine build_texts rfl 22 9 8 _ rfl TEXTS Try.underlying22 (by kernel_rfl) (by kernel_rfl) (by kernel_rfl) (by omega) (by omega) (by kernel_rfl) ?_
  generalize w.alloc (.cells (tx TEXTS).toArray 9) = w1 at HR HK
  generalize some (⟨w.heap.size, 0, none⟩ : Addr) = a1 at HR
  go_wp2
  go_loopw [8] (fun i wr => ∃ p : Nat, i = .int .i64 (p : Int) ∧ p ≤ 8 ∧ Kp [] w wr ∧ Rb wr a1 8 8 (tx TEXTS)) (fun i _ => 8 - (intOf i).toNat)
  case atStart => exact ⟨0, rfl, by omega, HK, HR⟩
  case round =>
    obtain ⟨p, rfl, hp, kp, rp⟩ := hrel
    clear HK HR
    by_cases hlt : p < 8
    · obtain ⟨b, o, rfl, hc⟩ := rp.tx_at p hlt
      have hx := texts_size _ (List.getElem_mem (l := TEXTS) (n := p) hlt)
      generalize TEXTS[p]'hlt = x at hc hx
      go_wp2
      rw [show decide ((p : Int) < 8) = true by simp; omega]
      go_loopw [3] (fun i wr => ∃ at' : Int, i = .int .i64 at' ∧ -2 ≤ at' ∧ at' ≤ x.size + 3 ∧ Kp [] w wr ∧ Rb wr (some ⟨b, o, none⟩) 8 8 (tx TEXTS)) (fun i _ => ((x.size : Int) + 3 - intOf i).toNat)
      case atStart => exact ⟨-2, rfl, by omega, by omega, kp, rp⟩
      case round =>
        obtain ⟨q, rfl, hq1, hq2, kq, rq⟩ := hrel
        clear kp rp hc
        by_cases hlt2 : q < x.size + 3
        · have HR : Rb (wr.alloc (.cells (tx SUBS).toArray 9)) (some ⟨wr.heap.size, 0, none⟩) 8 8 (tx SUBS) := rb_lit wr 9 _ _ 8 rfl rfl (by omega)
          have HK : Kp [] wr (wr.alloc (.cells (tx SUBS).toArray 9)) := (Kp.refl _ _).alloc _
          go_upto_region 7 with fail
          refine wp_region_lit ?_
          refine build_texts rfl 22 9 8 _ rfl SUBS Try.underlying22 (by kernel_rfl) (by kernel_rfl) (by kernel_rfl) (by omega) (by omega) (by kernel_rfl) ?_
          generalize wr.alloc (.cells (tx SUBS).toArray 9) = w2 at HR HK
          generalize some (⟨wr.heap.size, 0, none⟩ : Addr) = a2 at HR
          have k2 := kq.trans HK (fun x hx => by simp at hx)
          have r2 := rq.kept HK
          clear kq rq HK
          go_wp2
          go_loopw [21] (fun i wr => ∃ m : Nat, i = .int .i64 (m : Int) ∧ m ≤ 8 ∧ Kp [] w wr ∧ Rb wr (some ⟨b, o, none⟩) 8 8 (tx TEXTS) ∧ Rb wr a2 8 8 (tx SUBS)) (fun i _ => 8 - (intOf i).toNat)
          case atStart => exact ⟨0, rfl, by omega, k2, r2, HR⟩
          case round =>
            obtain ⟨m, rfl, hm, km, rm, sm⟩ := hrel
            clear k2 r2 HR
            by_cases hlt3 : m < 8
            · obtain ⟨b2, o2, rfl, hc⟩ := sm.tx_at m hlt3
              have hy := subs_size _ (List.getElem_mem (l := SUBS) (n := m) hlt3)
              generalize SUBS[m]'hlt3 = y at hc hy
              have HS := fun W => same_any W x q y (by omega) (by omega)
              go_wp2_with fail
              refine (HS _).mono ?_
              rintro e w3 ⟨rfl, kk⟩
              have k3 := km.trans kk (fun x hx => by simp at hx)
              have r3 := rm.kept kk
              have s3 := sm.kept kk
              clear km kk rm sm HS hc
              go_wp2
              go_roundw
              case rel => exact ⟨m + 1, by go_num, by omega, k3, r3, s3⟩
              case measure => simp [intOf]; omega
            · go_wp2
              go_roundw
              case rel => exact ⟨q + 1, by go_num, by omega, by omega, km, rm⟩
              case measure => simp [intOf]; omega
        · go_wp2
          go_roundw
          case rel => exact ⟨p + 1, by go_num, by omega, kq, rq⟩
          case measure => simp [intOf]; omega
    · have H1 := fun W => same_any W { data := #[120] } (-4611686018427387904) { data := #[120] } (by decide) (by decide)
      have H2 := fun W => same_any W { data := #[120] } 4611686018427387904 { data := #[120] } (by decide) (by decide)
      go_wp2_with fail
      refine (from_back (H1 _) kp).mono ?_
      rintro e w2 ⟨rfl, k2⟩
      clear H1 kp
      go_wp2_with fail
      refine (from_back (H2 _) k2).mono ?_
      rintro e w3 ⟨rfl, k3⟩
      clear H2 k2
      go_wp2_with fail
      refine (from_back (known_any _) k3).mono ?_
      rintro e w4 ⟨rfl, k4⟩
      clear k3
      go_wp2
      go_ret
      exact ⟨rfl, k4⟩

end Go.Proofs.Ytoegjgajleamkaa
