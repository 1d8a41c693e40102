/-
  Tokens: lists of the same tokens are told to be the same.
-/
import Derived.Test.YtcfaejbbjmjgpaaGreatDoorToks
namespace Go.Proofs.YtcfaejbbjmjgpaaGreatDoor
open Go.RowKit

set_option maxHeartbeats 2000000 in
theorem tokens_any (w : World) (q r : List Q) (ao bo : Option Addr) (n c m d : Nat) (hq : Rq w ao n c q) (hr : Rq w bo m d r) (hn : n ≤ 100000) (haq : ∀ p, p ∈ q → Aq w p) (har : ∀ p, p ∈ r → Aq w p) (htq : ∀ p, p ∈ q → p.1.2.2.1.length ≤ 90000) (heq : q.map Prod.fst = r.map Prod.fst) :
    Calls Tryz.prog 19 #[.slice ao n c, .slice bo m d] w fun e w' => e = .returned (.bool true) ∧ Kp [] w w' := by
  obtain rfl := hq.len
  obtain rfl := hr.len
  have hlen : q.length = r.length := by
    have := congrArg List.length heq
    simpa using this
  have hat : Hid (∀ k (h1 : k < q.length) (h2 : k < r.length), q[k].1 = r[k].1) := fun k h1 h2 => by
    have e1 : (q.map Prod.fst)[k]'(by simpa using h1) = q[k].1 := by simp
    have e2 : (r.map Prod.fst)[k]'(by simpa using h2) = r[k].1 := by simp
    rw [← e1, ← e2]
    simp only [heq]
  have hne : ((q.length : Int) != (r.length : Int)) = false := by rw [hlen]; simp
  have hkm : ∀ k, k < q.length → k < r.length := fun k hk => by omega
  clear hlen heq
  go_enter Tryz.func19, Tryz.ntmps19
  go_wp2
  go_loopw [5] (fun i wr => ∃ k : Nat, k ≤ q.length ∧ i = .int .i64 k ∧ Kp [] w wr) (fun i _ => q.length - (intOf i).toNat)
  case atStart => exact ⟨0, Nat.zero_le _, rfl, Kp.refl _ _⟩
  case round =>
    obtain ⟨k, hk, rfl, kp⟩ := hrel
    by_cases hlt : k < q.length
    · have hlt2 := hkm k hlt
      obtain ⟨b1, o1, rfl, g0, g1, g2, g3, g4⟩ := (hq.kept kp).get k hlt
      obtain ⟨b2, o2, rfl, f0, f1, f2, f3, f4⟩ := (hr.kept kp).get k hlt2
      have hA := (haq _ (List.getElem_mem hlt)).kept kp
      have hB := (har _ (List.getElem_mem hlt2)).kept kp
      have hT := htq _ (List.getElem_mem hlt)
      have he := hat.out k hlt hlt2
      have C1 : Hid (∀ V, Kp [] w V → V.cell? ⟨b1, o1 + k * 5, none⟩ = some (.int .i64 q[k].1.1) ∧ V.cell? ⟨b1, o1 + k * 5 + 1, none⟩ = some (.string q[k].1.2.1) ∧ V.cell? ⟨b1, o1 + k * 5 + 2, none⟩ = some (.slice q[k].2.1 q[k].2.2.1 q[k].2.2.2) ∧ V.cell? ⟨b1, o1 + k * 5 + 3, none⟩ = some (.bool q[k].1.2.2.2.1) ∧ V.cell? ⟨b1, o1 + k * 5 + 4, none⟩ = some (.string q[k].1.2.2.2.2) ∧ V.cell? ⟨b2, o2 + k * 5, none⟩ = some (.int .i64 r[k].1.1) ∧ V.cell? ⟨b2, o2 + k * 5 + 1, none⟩ = some (.string r[k].1.2.1) ∧ V.cell? ⟨b2, o2 + k * 5 + 2, none⟩ = some (.slice r[k].2.1 r[k].2.2.1 r[k].2.2.2) ∧ V.cell? ⟨b2, o2 + k * 5 + 3, none⟩ = some (.bool r[k].1.2.2.2.1) ∧ V.cell? ⟨b2, o2 + k * 5 + 4, none⟩ = some (.string r[k].1.2.2.2.2)) := fun V kV => by
        obtain ⟨b1', o1', e1, x0, x1, x2, x3, x4⟩ := (hq.kept kV).get k hlt
        obtain ⟨b2', o2', e2, y0, y1, y2, y3, y4⟩ := (hr.kept kV).get k hlt2
        simp only [Option.some.injEq, Addr.mk.injEq, and_true] at e1 e2
        obtain ⟨rfl, rfl⟩ := e1
        obtain ⟨rfl, rfl⟩ := e2
        exact ⟨x0, x1, x2, x3, x4, y0, y1, y2, y3, y4⟩
      clear hq hr haq har htq
      generalize q[k] = a at g0 g1 g2 g3 g4 hA hT he C1
      generalize r[k] = b at f0 f1 f2 f3 f4 hB he C1
      obtain ⟨⟨ak, ax, al, ab, ay⟩, aa, an, ac⟩ := a
      obtain ⟨⟨bk, bx, bl, bb, bY⟩, ba, bn, bc⟩ := b
      simp only at he
      simp only [Prod.mk.injEq] at he
      obtain ⟨rfl, rfl, rfl, rfl, rfl⟩ := he
      simp only at g0 g1 g2 g3 g4 f0 f1 f2 f3 f4 C1
      have hA' : Rp wr aa an ac al := hA
      have hB' : Rp wr ba bn bc al := hB
      have n1 : an ≤ 100000 := by have h1 := hA'.len; have h2 := hT; simp only at h2; omega
      have n2 : bn ≤ 100000 := by have h1 := hB'.len; have h2 := hT; simp only at h2; omega
      have HC : Hid (∀ V, Kp [] wr V → Calls Tryz.prog 15 #[.agg #[.int .i64 ak, .string ax, .slice aa an ac, .bool ab, .string ay], .agg #[.int .i64 ak, .string ax, .slice ba bn bc, .bool ab, .string ay]] V fun e w' => e = .returned (.bool true) ∧ Kp [] V w') := fun V kV => by
        have := book_tsame_any V ak ak ax ax ay ay al al ab ab aa ba an ac bn bc (hA'.kept kV) (hB'.kept kV) n1 n2
        rw [decide_eq_true rfl] at this
        exact this
      clear hA hB hA' hB' hT
      have i1 : (0 : Int) ≤ (k : Int) := by omega
      have i2 : (k : Int) < (q.length : Int) := by omega
      have i3 : (k : Int) < (r.length : Int) := by omega
      go_wp2_with fail
      go_region_held3 (fun w' => w'.cell? ⟨b1, o1 + k * 5, none⟩ = some (.int .i64 ak) ∧ w'.cell? ⟨b1, o1 + k * 5 + 1, none⟩ = some (.string ax) ∧ w'.cell? ⟨b1, o1 + k * 5 + 2, none⟩ = some (.slice aa an ac) ∧ w'.cell? ⟨b1, o1 + k * 5 + 3, none⟩ = some (.bool ab) ∧ w'.cell? ⟨b1, o1 + k * 5 + 4, none⟩ = some (.string ay) ∧ w'.cell? ⟨b2, o2 + k * 5, none⟩ = some (.int .i64 ak) ∧ w'.cell? ⟨b2, o2 + k * 5 + 1, none⟩ = some (.string ax) ∧ w'.cell? ⟨b2, o2 + k * 5 + 2, none⟩ = some (.slice ba bn bc) ∧ w'.cell? ⟨b2, o2 + k * 5 + 3, none⟩ = some (.bool ab) ∧ w'.cell? ⟨b2, o2 + k * 5 + 4, none⟩ = some (.string ay))
        (first
          | with_reducible exact C1.out _ S1.out
          | exact C1.out _ kp.drew)
        (first
          | (go_at_call 15; refine (HC.out _ (Kp.refl [] wr).drew).mono ?_; rintro e v1 ⟨rfl, kk⟩; have S1 : Hid (Kp [] w v1) := kp.drew.trans kk (fun x hx => by simp at hx); clear kk))
      have ky := S1.out
      clear HC C1 S1 g0 g1 g2 g3 g4 f0 f1 f2 f3 f4 kp
      go_wp2
      go_roundw
      case rel => exact ⟨k + 1, by omega, by go_num, ky⟩
      case measure => simp [intOf]; omega
    · go_wp2
      go_ret
      exact ⟨rfl, kp⟩

end Go.Proofs.YtcfaejbbjmjgpaaGreatDoor
