/-
  The walk of UtfNumbers: the closed sentence answers true.
-/
import Derived.Test.YtinafcajaikfdaaCat
namespace Go.Proofs.Ytinafcajaikfdaa
open Go.RowKit Utf

/-- append, under a guard that lets it go on. -/
theorem app_on {P : Program} (w : World) {ops : Array Oper} {rest : List Oper} {o : Oper} {a : Act} {Q : Exit → Act → World → Prop} (hw : Region.wanted o (yielded ops a.tmps) = true) (s x : Operand) (t tn : TypeId)
    (ho : o.op = .call { callee := .builtin .append, args := #[s, x], argTypes := #[t, tn] }) (vs vx : Value) (hs : a.eval s = vs) (hx : a.eval x = vx)
    (v' : Value) (w' : World) (hr : (Builtin.append_ #[t, tn] o.type #[vs, vx]).run P w = .ok v' w') (h : wpList P ops Q rest (a.put o.dst v') w') : wpList P ops Q (o :: rest) a w :=
  wpList_step fun _ hK => by
    rw [if_pos hw]
    exact Lib.wp_append_run w s x t tn ho vs vx hs hx v' w' hr (hK _ _ h)

/-- The second bytes that are asked. -/
def seconds : List Int := [-1, 0, 127, 128, 143, 144, 159, 160, 191, 192, 255]

theorem seconds_at : ∀ x, x ∈ seconds → x = -1 ∨ (0 ≤ x ∧ x < 256) := by decide

theorem one5 (l : List Int) : ∀ u, u ∈ (l.map (Value.int .u8)).toArray.toList → u.oneCell' = true := fun u hu => by
  simp at hu
  obtain ⟨x, _, rfl⟩ := hu
  rfl

set_option maxHeartbeats 1000000 in
set_option maxRecDepth 100000 in
theorem numbers_any (w : World) : Calls Try.prog 3 #[] w fun e w' => e = .returned (.bool true) ∧ Kp [] w w' := by
  go_enter Try.func3, Try.ntmps3
  go_wp2
  go_loopw [1] (fun i wr => ∃ k : Nat, k ≤ 256 ∧ i = .int .i64 k ∧ Kp [] w wr) (fun i _ => 256 - (intOf i).toNat)
  case atStart => exact ⟨0, by omega, rfl, Kp.refl _ _⟩
  case round =>
    obtain ⟨k, hk, rfl, kp⟩ := hrel
    by_cases hlt : k < 256
    · have rL := rb_lit wr 3 #[.int .i64 (-1), .int .i64 0, .int .i64 127, .int .i64 128, .int .i64 143, .int .i64 144, .int .i64 159, .int .i64 160, .int .i64 191, .int .i64 192, .int .i64 255] (seconds.map (Value.int .i64)) 11 rfl rfl (by omega)
      have kL : Kp [] w (wr.alloc (.cells #[.int .i64 (-1), .int .i64 0, .int .i64 127, .int .i64 128, .int .i64 143, .int .i64 144, .int .i64 159, .int .i64 160, .int .i64 191, .int .i64 192, .int .i64 255] 3)) := kp.alloc _
      clear kp
      go_wp2
      generalize wr.alloc (.cells #[.int .i64 (-1), .int .i64 0, .int .i64 127, .int .i64 128, .int .i64 143, .int .i64 144, .int .i64 159, .int .i64 160, .int .i64 191, .int .i64 192, .int .i64 255] 3) = wo at rL kL ⊢
      rw [show decide ((k : Int) < 256) = true by simp; omega]
      go_loopw [11] (fun i wr => ∃ j : Nat, j ≤ 11 ∧ i = .int .i64 j ∧ Kp [] wo wr) (fun i _ => 11 - (intOf i).toNat)
      case atStart => exact ⟨0, by omega, rfl, Kp.refl _ _⟩
      case round =>
        obtain ⟨j, hj, rfl, kq⟩ := hrel
        by_cases hjl : j < 11
        · obtain ⟨g, o, hgo, hcell⟩ := (rL.kept kq).at' j hjl
          simp only [Option.some.injEq, Addr.mk.injEq] at hgo
          obtain ⟨rfl, rfl, _⟩ := hgo
          obtain ⟨b, hb, hbb⟩ : ∃ b, (seconds.map (Value.int .i64))[j]? = some (.int .i64 b) ∧ (b = -1 ∨ (0 ≤ b ∧ b < 256)) := by
            have hjs : j < seconds.length := hjl
            exact ⟨seconds[j], by simp [hjs], seconds_at _ (List.getElem_mem hjs)⟩
          rw [hb, Nat.zero_add] at hcell
          clear hb
          rcases hbb with rfl | ⟨b0, b1⟩
          all_goals clear rL
          · as_aux_lemma =>
            have mx : Made wr (wr.alloc (.cells #[.int .u8 (k : Int)] 5)) 5 (some ⟨wr.heap.size, 0, none⟩) 1 1 (b8 [(k : Int)]) := Made.lit wr 5 #[.int .u8 (k : Int)] 1 rfl (by omega)
            have hbx : byt [(k : Int)] := fun y hy => by simp at hy; omega
            have ks := kq.trans mx.2.1 (fun x hx => by simp at hx)
            have HS := same_any _ _ _ _ _ mx.rb hbx (by omega)
            go_wp2_with fail
            refine HS.mono ?_
            rintro e w1 ⟨rfl, kk⟩
            have rx := mx.rb.kept kk
            have k1 := ks.trans kk (fun x hx => by simp at hx)
            clear HS mx ks kk
            have hxl : [(k : Int)].length ≤ 2 := by simp
            obtain ⟨_, yn, yc, w2, hrun2, m2, ya, rfl⟩ := (Made.lit w1 5 #[] 0 rfl (by omega)).join Try.underlying23 info5 rfl (by decide) (rx.kept ((Kp.refl _ _).alloc _)) (b8_one _) (fun h => by cases h) (by simp <;> omega)
            obtain ⟨_, zn, zc, w3, hrun3, m3, za, rfl⟩ := m2.lits Try.underlying23 info5 rfl (by decide) #[.int .u8 128] 1 rfl (by omega) (one5 [128]) (by simp [b8_len])
            have r3 : Rb w3 (some za) zn zc (b8 ([(k : Int)] ++ [128])) := by
              have := m3.rb
              simpa [b8] using this
            have rx3 := rx.kept m3.2.1
            have k3 := k1.trans m3.2.1 (fun x hx => by simp at hx)
            have hzn : zn ≤ 1000 := by
              have := r3.len
              rw [b8_len] at this
              simp at this
              omega
            clear m2 m3 k1
            go_wp2_with (at_builtin; refine Hid.out ?_)
            unfold Hid
            refine app_on _ rfl _ _ _ _ rfl _ _ rfl rfl _ _ (hrun2 _) ?_
            go_wp2_with (at_builtin; refine Hid.out ?_)
            unfold Hid
            refine app_on _ rfl _ _ _ _ rfl _ _ rfl rfl _ _ (hrun3 _) ?_
            clear hrun2 hrun3 rx
            have HS := same_any _ _ _ _ _ r3 (byt_append hbx (fun y hy => by simp at hy; omega)) hzn
            go_wp2_with fail
            refine HS.mono ?_
            rintro e w4 ⟨rfl, kk⟩
            have rx4 := rx3.kept kk
            have k4 := k3.trans kk (fun x hx => by simp at hx)
            clear HS r3 rx3 k3 kk
            obtain ⟨_, sn, sc, w5, hrun5, m5, sa, rfl⟩ := (Made.lit w4 5 #[] 0 rfl (by omega)).join Try.underlying23 info5 rfl (by decide) (rx4.kept ((Kp.refl _ _).alloc _)) (b8_one _) (fun h => by cases h) (by simp <;> omega)
            obtain ⟨_, tn, tc, w6, hrun6, m6, ta, rfl⟩ := m5.lits Try.underlying23 info5 rfl (by decide) #[.int .u8 128, .int .u8 191, .int .u8 122] 3 rfl (by omega) (one5 [128, 191, 122]) (by simp [b8_len])
            have r6 : Rb w6 (some ta) tn tc (b8 ([(k : Int)] ++ [128, 191, 122])) := by
              have := m6.rb
              simpa [b8] using this
            have k6 := k4.trans m6.2.1 (fun x hx => by simp at hx)
            have htn : tn ≤ 1000 := by
              have := r6.len
              rw [b8_len] at this
              simp at this
              omega
            clear m5 m6 k4
            go_wp2_with (at_builtin; refine Hid.out ?_)
            unfold Hid
            refine app_on _ rfl _ _ _ _ rfl _ _ rfl rfl _ _ (hrun5 _) ?_
            go_wp2_with (at_builtin; refine Hid.out ?_)
            unfold Hid
            refine app_on _ rfl _ _ _ _ rfl _ _ rfl rfl _ _ (hrun6 _) ?_
            clear hrun5 hrun6 rx4
            have HS := same_any _ _ _ _ _ r6 (byt_append hbx (fun y hy => by simp at hy; omega)) htn
            go_wp2_with fail
            refine HS.mono ?_
            rintro e w7 ⟨rfl, kk⟩
            have k7 := k6.trans kk (fun x hx => by simp at hx)
            clear HS r6 k6 kk
            go_wp2
            go_roundw
            case rel => exact ⟨j + 1, by omega, by go_num, k7⟩
            case measure => simp [intOf]; omega
          · as_aux_lemma =>
            have ml : Made wr (wr.alloc (.cells #[.int .u8 (k : Int)] 5)) 5 (some ⟨wr.heap.size, 0, none⟩) 1 1 (b8 [(k : Int)]) := Made.lit wr 5 #[.int .u8 (k : Int)] 1 rfl (by omega)
            have hbx : byt [(k : Int), b] := fun y hy => by simp at hy; omega
            obtain ⟨_, xn, xc, w0, hrun0, m0, xa, rfl⟩ := ml.lits Try.underlying23 info5 rfl (by decide) #[.int .u8 b] 1 rfl (by omega) (one5 [b]) (by simp [b8_len])
            have mx : Made wr w0 5 (some xa) xn xc (b8 [(k : Int), b]) := by simpa [b8] using m0
            have hxn : xn ≤ 1000 := by
              have := mx.rb.len
              rw [b8_len] at this
              simp at this
              omega
            rw [show (wr.alloc (.cells #[.int .u8 (k : Int)] 5)).heap.size = wr.heap.size + 1 by simp] at hrun0
            clear ml m0
            go_wp2_with (at_builtin; refine Hid.out ?_)
            unfold Hid
            refine Lib.wpList_append_run _ rfl _ _ _ _ rfl _ _ rfl rfl _ _ (hrun0 _) ?_
            clear hrun0
            have ks := kq.trans mx.2.1 (fun x hx => by simp at hx)
            have HS := same_any _ _ _ _ _ mx.rb hbx (by omega)
            go_wp2_with fail
            refine HS.mono ?_
            rintro e w1 ⟨rfl, kk⟩
            have rx := mx.rb.kept kk
            have k1 := ks.trans kk (fun x hx => by simp at hx)
            clear HS mx ks kk
            have hxl : [(k : Int), b].length ≤ 2 := by simp
            obtain ⟨_, yn, yc, w2, hrun2, m2, ya, rfl⟩ := (Made.lit w1 5 #[] 0 rfl (by omega)).join Try.underlying23 info5 rfl (by decide) (rx.kept ((Kp.refl _ _).alloc _)) (b8_one _) (fun h => by cases h) (by simp <;> omega)
            obtain ⟨_, zn, zc, w3, hrun3, m3, za, rfl⟩ := m2.lits Try.underlying23 info5 rfl (by decide) #[.int .u8 128] 1 rfl (by omega) (one5 [128]) (by simp [b8_len])
            have r3 : Rb w3 (some za) zn zc (b8 ([(k : Int), b] ++ [128])) := by
              have := m3.rb
              simpa [b8] using this
            have rx3 := rx.kept m3.2.1
            have k3 := k1.trans m3.2.1 (fun x hx => by simp at hx)
            have hzn : zn ≤ 1000 := by
              have := r3.len
              rw [b8_len] at this
              simp at this
              omega
            clear m2 m3 k1
            go_wp2_with (at_builtin; refine Hid.out ?_)
            unfold Hid
            refine app_on _ rfl _ _ _ _ rfl _ _ rfl rfl _ _ (hrun2 _) ?_
            go_wp2_with (at_builtin; refine Hid.out ?_)
            unfold Hid
            refine app_on _ rfl _ _ _ _ rfl _ _ rfl rfl _ _ (hrun3 _) ?_
            clear hrun2 hrun3 rx
            have HS := same_any _ _ _ _ _ r3 (byt_append hbx (fun y hy => by simp at hy; omega)) hzn
            go_wp2_with fail
            refine HS.mono ?_
            rintro e w4 ⟨rfl, kk⟩
            have rx4 := rx3.kept kk
            have k4 := k3.trans kk (fun x hx => by simp at hx)
            clear HS r3 rx3 k3 kk
            obtain ⟨_, sn, sc, w5, hrun5, m5, sa, rfl⟩ := (Made.lit w4 5 #[] 0 rfl (by omega)).join Try.underlying23 info5 rfl (by decide) (rx4.kept ((Kp.refl _ _).alloc _)) (b8_one _) (fun h => by cases h) (by simp <;> omega)
            obtain ⟨_, tn, tc, w6, hrun6, m6, ta, rfl⟩ := m5.lits Try.underlying23 info5 rfl (by decide) #[.int .u8 128, .int .u8 191, .int .u8 122] 3 rfl (by omega) (one5 [128, 191, 122]) (by simp [b8_len])
            have r6 : Rb w6 (some ta) tn tc (b8 ([(k : Int), b] ++ [128, 191, 122])) := by
              have := m6.rb
              simpa [b8] using this
            have k6 := k4.trans m6.2.1 (fun x hx => by simp at hx)
            have htn : tn ≤ 1000 := by
              have := r6.len
              rw [b8_len] at this
              simp at this
              omega
            clear m5 m6 k4
            go_wp2_with (at_builtin; refine Hid.out ?_)
            unfold Hid
            refine app_on _ rfl _ _ _ _ rfl _ _ rfl rfl _ _ (hrun5 _) ?_
            go_wp2_with (at_builtin; refine Hid.out ?_)
            unfold Hid
            refine app_on _ rfl _ _ _ _ rfl _ _ rfl rfl _ _ (hrun6 _) ?_
            clear hrun5 hrun6 rx4
            have HS := same_any _ _ _ _ _ r6 (byt_append hbx (fun y hy => by simp at hy; omega)) htn
            go_wp2_with fail
            refine HS.mono ?_
            rintro e w7 ⟨rfl, kk⟩
            have k7 := k6.trans kk (fun x hx => by simp at hx)
            clear HS r6 k6 kk
            go_wp2
            go_roundw
            case rel => exact ⟨j + 1, by omega, by go_num, k7⟩
            case measure => simp [intOf]; omega
        · obtain rfl : j = 11 := by omega
          have kd := kL.trans kq (fun x hx => by simp at hx)
          clear rL kL kq
          go_wp2
          go_roundw
          case rel => exact ⟨k + 1, by omega, by go_num, kd⟩
          case measure => simp [intOf]; omega
    · obtain rfl : k = 256 := by omega
      have HS := same_any wr none 0 0 [] (Rb.nil wr) (fun y hy => by simp at hy) (by omega)
      go_wp2_with fail
      refine HS.mono ?_
      rintro e w1 ⟨rfl, kk⟩
      have k1 := kp.trans kk (fun x hx => by simp at hx)
      clear HS kp kk
      have HS := same_any _ _ _ _ [239, 187, 191, 239, 187, 191] (rb_lit w1 5 #[.int .u8 239, .int .u8 187, .int .u8 191, .int .u8 239, .int .u8 187, .int .u8 191] (b8 [239, 187, 191, 239, 187, 191]) 6 rfl rfl (by omega)) (fun y hy => by simp at hy; omega) (by omega)
      have ka : Kp [] w (w1.alloc (.cells #[.int .u8 239, .int .u8 187, .int .u8 191, .int .u8 239, .int .u8 187, .int .u8 191] 5)) := k1.alloc _
      clear k1
      go_wp2_with fail
      refine HS.mono ?_
      rintro e w2 ⟨rfl, kk⟩
      have k2 := ka.trans kk (fun x hx => by simp at hx)
      clear HS ka kk
      have HS := same_any _ _ _ _ [239, 187] (rb_lit w2 5 #[.int .u8 239, .int .u8 187] (b8 [239, 187]) 2 rfl rfl (by omega)) (fun y hy => by simp at hy; omega) (by omega)
      have ka : Kp [] w (w2.alloc (.cells #[.int .u8 239, .int .u8 187] 5)) := k2.alloc _
      clear k2
      go_wp2_with fail
      refine HS.mono ?_
      rintro e w3 ⟨rfl, kk⟩
      have k3 := ka.trans kk (fun x hx => by simp at hx)
      clear HS ka kk
      have HS := same_any _ _ _ _ [0, 13, 10, 13, 0] (rb_lit w3 5 #[.int .u8 0, .int .u8 13, .int .u8 10, .int .u8 13, .int .u8 0] (b8 [0, 13, 10, 13, 0]) 5 rfl rfl (by omega)) (fun y hy => by simp at hy; omega) (by omega)
      have ka : Kp [] w (w3.alloc (.cells #[.int .u8 0, .int .u8 13, .int .u8 10, .int .u8 13, .int .u8 0] 5)) := k3.alloc _
      clear k3
      go_wp2_with fail
      refine HS.mono ?_
      rintro e w4 ⟨rfl, kk⟩
      have k4 := ka.trans kk (fun x hx => by simp at hx)
      clear HS ka kk
      go_wp2_with fail
      refine (known_any _).mono ?_
      rintro e w5 ⟨rfl, kk⟩
      have k5 := k4.trans kk (fun x hx => by simp at hx)
      clear k4 kk
      go_wp2
      go_ret
      exact ⟨rfl, k5⟩

end Go.Proofs.Ytinafcajaikfdaa
