/-
  The document's table and its Named, of any text.
-/
import Derived.Test.YtcfaejbbjmjgpaaGreatDoorGroundA
import Derived.BigQuiet
import Derived.Great.BuildSlice
import Derived.Deep.Cut
import Derived.Deep.QuietTactic
namespace Go.Proofs.YtcfaejbbjmjgpaaGreatDoor
open Go.RowKit Utf

/-- A literal of texts. -/
theorem build_texts {P : Program} {ops : Array Oper} {rest : List Oper} {o : Oper} {a : Act} {w : World} {Q : Exit → Act → World → Prop} (hg : o.guard = none) (t e : TypeId) (len : Nat) (parts : Array (Nat × Operand)) (ho : o.op = .buildSlice t len parts)
    (zs : List ByteArray)
    (hu : P.underlying t = some (.slice e)) (hsz : (P.info? e).map (·.size) = some 1) (hz : ((P.info? e).bind (·.zero)).isSome = true)
    (hlen : len = zs.length) (hpos : 0 < len) (hsmall : len ≤ 2 ^ 24)
    (hparts : parts.toList = (zs.zipIdx 0).map fun x => (x.2, Operand.const (Value.string x.1)))
    (h : wpList P ops Q rest (a.put o.dst (.slice (some ⟨w.heap.size, 0, none⟩) len len)) (w.alloc (.cells (tx zs).toArray e))) : wpList P ops Q (o :: rest) a w := by
  cases hie : P.info? e with
  | none => simp [hie] at hsz
  | some ie =>
    simp only [hie, Option.map_some, Option.some.injEq, Option.bind_some] at hsz hz
    obtain ⟨z, hzz⟩ := Option.isSome_iff_exists.1 hz
    refine wpList_buildSlice hg t e len parts ho _ ie z hu hie hzz (by rw [hsz]; omega) (by rw [hsz]; omega) ?_ h
    have he : (parts.map fun (i, x) => (i, a.eval x)).toList = ((tx zs).zipIdx 0).map fun x => (x.2, x.1) := by
      rw [Array.toList_map, hparts, tx, List.zipIdx_map, List.map_map, List.map_map]
      rfl
    rw [he, hsz]
    exact Great.fill_flat _ _ (fun v hv => by obtain ⟨n, _, rfl⟩ := List.mem_map.1 hv; rfl) (by simp [hlen, tx])

set_option maxRecDepth 100000 in
set_option maxHeartbeats 1000000 in
theorem table_any (w : World) : Calls Tryz.prog 95 #[] w fun e w' => ∃ ao, e = .returned (.slice ao 102 102) ∧ Rb w' ao 102 102 (tx TB) ∧ Kp [] w w' := by
  have HR : Rb (w.alloc (.cells (tx TB).toArray 9)) (some ⟨w.heap.size, 0, none⟩) 102 102 (tx TB) := rb_lit w 9 _ (tx TB) 102 rfl (by kernel_rfl) (by omega)
  have HK : Kp [] w (w.alloc (.cells (tx TB).toArray 9)) := (Kp.refl _ _).alloc _
  go_enter Tryz.func95, Tryz.ntmps95
  go_upto_region 1 with fail
  refine wp_region_lit ?_
  refine build_texts rfl 22 9 102 _ rfl TB Tryz.underlying22 (by kernel_rfl) (by kernel_rfl) (by kernel_rfl) (by omega) (by omega) (by kernel_rfl) ?_
  generalize w.alloc (.cells (tx TB).toArray 9) = w1 at HR HK
  go_wp2
  go_ret
  exact ⟨_, rfl, HR, HK⟩

theorem zip_len : (NM.zip MN).length = 51 := by kernel_rfl

theorem rn_step (s : ByteArray) (k : Nat) (hk : k < 51) (x m : ByteArray) (hx : NM[k]? = some x) (hm : MN[k]? = some m) (b : ByteArray) (n : Nat) :
    rn s ((NM.zip MN).drop k) (b, n) = rn s ((NM.zip MN).drop (k + 1)) (if n < x.size ∧ pre x s = true then (m, x.size) else (b, n)) := by
  rw [List.drop_eq_getElem_cons (by rw [zip_len]; exact hk), rn]
  have e1 : ((NM.zip MN)[k]'(by rw [zip_len]; exact hk)) = (x, m) := by
    rw [List.getElem_zip]
    rw [List.getElem?_eq_some_iff] at hx hm
    obtain ⟨_, rfl⟩ := hx
    obtain ⟨_, rfl⟩ := hm
    rfl
  rw [e1]

theorem zip_none : (NM.zip MN).drop 51 = [] := by kernel_rfl

set_option maxHeartbeats 1000000 in
theorem ref_named_any (w : World) (s : ByteArray) : Calls Tryz.prog 71 #[.string s] w fun e w' => e = .returned (.tuple #[.string (mean (found s)), .int .i64 ((found s).size : Int)]) ∧ Kp [] w w' := by
  have HB := both s
  generalize mean (found s) = A at HB
  generalize (found s).size = B at HB
  go_enter Tryz.func71, Tryz.ntmps71
  go_wp2_with fail
  refine (table_any w).mono ?_
  rintro e w1 ⟨ao, rfl, hr, k1⟩
  go_wp2
  go_loopw [5, 6, 7] (fun b n i wr => ∃ (k q m : Nat) (x : ByteArray), k ≤ 51 ∧ i = .int .i64 ((2 * k : Nat) : Int) ∧ b = .string x ∧ n = .int .i64 (m : Int) ∧ m ≤ 14 ∧ wr = w1.drewN q ∧ rn s ((NM.zip MN).drop k) (x, m) = (A, B)) (fun _ _ i _ => 102 - (intOf i).toNat)
  case atStart => exact ⟨0, 0, 0, ⟨#[]⟩, by omega, rfl, rfl, rfl, by omega, rfl, HB⟩
  case round =>
    obtain ⟨k, q, m, b, hk, rfl, rfl, rfl, hm, rfl, hp⟩ := hrel
    by_cases hlt : k < 51
    · have hx1 := tb_even k hlt
      have hx2 := tb_odd k hlt
      obtain ⟨b1, o1, rfl, h1⟩ := hr.tx_at (2 * k) (by rw [tb_len]; omega)
      obtain ⟨b2, o2, he, h2⟩ := hr.tx_at (2 * k + 1) (by rw [tb_len]; omega)
      simp only [Option.some.injEq, Addr.mk.injEq] at he
      obtain ⟨rfl, rfl, _⟩ := he
      have hkn : k < NM.length := by rw [nm_len]; exact hlt
      have hkm : k < MN.length := by rw [mn_len]; exact hlt
      have e1 : TB[2 * k]'(by rw [tb_len]; omega) = NM[k] := by
        rw [List.getElem?_eq_getElem (by rw [tb_len]; omega), List.getElem?_eq_getElem hkn, Option.some.injEq] at hx1
        exact hx1
      have e2 : TB[2 * k + 1]'(by rw [tb_len]; omega) = MN[k] := by
        rw [List.getElem?_eq_getElem (by rw [tb_len]; omega), List.getElem?_eq_getElem hkm, Option.some.injEq] at hx2
        exact hx2
      rw [e1] at h1
      rw [e2] at h2
      have hsz := (nm_size NM[k] (List.getElem_mem _)).2
      have hstep := rn_step s k hlt NM[k] MN[k] (List.getElem?_eq_getElem hkn) (List.getElem?_eq_getElem hkm) b m
      rw [hp] at hstep
      clear hp hx1 hx2 e1 e2 hr HB
      generalize NM[k] = x at h1 hsz hstep
      generalize MN[k] = y at h2 hstep
      clear hkn hkm
      have c1 : (0 : Int) ≤ ((2 * k : Nat) : Int) := by omega
      have c2 : ((2 * k : Nat) : Int) < ((102 : Nat) : Int) := by omega
      by_cases ha : m < x.size
      · have ha' : decide ((m : Int) < (x.size : Int)) = true := by simpa using ha
        by_cases hb : x.size ≤ s.size
        · have hb' : decide ((x.size : Int) ≤ (s.size : Int)) = true := by simpa using hb
          cases hq : ((s.extract 0 x.size).toList == x.toList)
          · rw [if_neg (by simp [pre, hb, hq])] at hstep
            go_wp2_with fail
            go_quiet (fail)
            go_wp2
            go_roundw
            case rel => exact ⟨k + 1, _, m, b, by omega, by go_num, rfl, rfl, hm, rfl, hstep.symm⟩
            case measure => simp [intOf]; omega
          · rw [if_pos (by simp [pre, hb, hq, ha])] at hstep
            go_wp2_with fail
            go_quiet (fail)
            go_wp2
            go_roundw
            case rel => exact ⟨k + 1, _, x.size, y, by omega, by go_num, rfl, rfl, hsz, rfl, hstep.symm⟩
            case measure => simp [intOf]; omega
        · have hb' : decide ((x.size : Int) ≤ (s.size : Int)) = false := by simpa using hb
          rw [if_neg (by simp [pre, hb])] at hstep
          go_wp2_with fail
          go_quiet (fail)
          go_wp2
          go_roundw
          case rel => exact ⟨k + 1, _, m, b, by omega, by go_num, rfl, rfl, hm, rfl, hstep.symm⟩
          case measure => simp [intOf]; omega
      · have ha' : decide ((m : Int) < (x.size : Int)) = false := by simpa using ha
        rw [if_neg (by simp [ha])] at hstep
        go_wp2_with fail
        go_quiet (fail)
        go_wp2
        go_roundw
        case rel => exact ⟨k + 1, _, m, b, by omega, by go_num, rfl, rfl, hm, rfl, hstep.symm⟩
        case measure => simp [intOf]; omega
    · have hk2 : k = 51 := by omega
      rw [hk2, zip_none] at hp
      simp only [rn, Prod.mk.injEq] at hp
      obtain ⟨rfl, rfl⟩ := hp
      go_wp2
      go_ret2
      exact ⟨rfl, k1.drewN q⟩

end Go.Proofs.YtcfaejbbjmjgpaaGreatDoor
