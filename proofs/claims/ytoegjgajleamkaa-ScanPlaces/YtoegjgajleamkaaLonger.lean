/-
  The program's longer, of any pattern whose overlaps are told.
-/
import Derived.Test.YtoegjgajleamkaaRefs
namespace Go.Proofs.Ytoegjgajleamkaa
open Go.RowKit Utf

/-- Numbers, as values. -/
def nv (l : List Nat) : List Value := l.map fun (n : Nat) => Value.int .i64 (n : Int)
theorem nv_len (l : List Nat) : (nv l).length = l.length := by simp [nv]

/-- The overlaps of sub's first k, k up to m, lie in l. -/
def Ov (sub : ByteArray) (l : List Nat) (m : Nat) : Prop := ∀ k, 1 ≤ k → k ≤ m → ∃ f, l[k - 1]? = some f ∧ Fl (bt sub) k f

set_option maxHeartbeats 1000000 in
set_option maxRecDepth 100000 in
theorem longer_any (w : World) (sub : ByteArray) (ao : Option Addr) (n c : Nat) (l : List Nat) (hr : Rb w ao n c (nv l)) (hn : n ≤ 100000) (q : Nat) (x : Int) (hq : q < sub.size) (hs : sub.size ≤ 100000) (ho : Ov sub l q) :
    Calls Try.prog 28 #[.string sub, .slice ao n c, .int .i64 (q : Int), .int .u8 x] w fun e w' => ∃ r, e = .returned (.int .i64 ((r : Nat) : Int)) ∧ Nx (bt sub) q x r ∧ w' = w := by
  have hln := hr.len
  rw [nv_len] at hln
  have HO : Hid (Ov sub l q) := ho
  have HR : Hid (Rb w ao n c (nv l)) := hr
  have HN : Hid (n = l.length) := hln
  clear ho hr hln
  go_enter Try.func28, Try.ntmps28
  go_wp2
  go_loopw [2] (fun i wr => ∃ h : Nat, h ≤ q ∧ i = .int .i64 h ∧ wr = w ∧ Hid (Mid (bt sub) q x h)) (fun i _ => (intOf i).toNat)
  case atStart => exact ⟨q, Nat.le_refl _, rfl, rfl, Mid.start _ _ _⟩
  case round =>
    obtain ⟨h, hh, rfl, rfl, hm⟩ := hrel
    have i1 := index_at sub (h : Int) h rfl (by omega)
    by_cases he : bt sub h = x
    · have hd : Hid (Nx (bt sub) q x (h + 1)) := hm.out.yes he
      rw [he] at i1
      clear he hm
      by_cases h0 : 0 < h
      · go_wp2
        go_ret
        exact ⟨h + 1, rfl, hd.out, rfl⟩
      · obtain rfl : h = 0 := by omega
        rw [show ((0 : Nat) : Int) = 0 from rfl] at i1 ⊢
        go_wp2
        go_ret
        exact ⟨0 + 1, rfl, hd.out, rfl⟩
    · have hne : (bt sub h == x) = false := by simpa using he
      by_cases h0 : 0 < h
      · obtain ⟨f, hf1, hf2⟩ := HO.out h (by omega) hh
        have hfl := hf2.lt
        have hb2 : Hid (Mid (bt sub) q x f) := hm.out.step he hf2
        obtain ⟨g, rfl⟩ : ∃ g, h = g + 1 := ⟨h - 1, by omega⟩
        rw [Nat.add_sub_cancel] at hf1
        have hgl : g < n := by rw [HN.out]; exact (List.getElem?_eq_some_iff.1 hf1).1
        obtain ⟨b, off, rfl, hc⟩ := HR.out.at' g hgl
        rw [show (nv l)[g]? = some (Value.int .i64 (f : Int)) by simp [nv, hf1]] at hc
        generalize bt sub (g + 1) = y at i1 hne
        clear he hm hf2 hf1
        rw [show ((g + 1 : Nat) : Int) = (g : Int) + 1 from rfl] at i1 ⊢
        go_wp2
        go_roundw
        case rel => exact ⟨f, by omega, by go_num, trivial, hb2⟩
        case measure => simp [intOf]; omega
      · obtain rfl : h = 0 := by omega
        have hd : Hid (Nx (bt sub) q x 0) := hm.out.no he
        generalize bt sub 0 = y at i1 hne
        clear he hm
        rw [show ((0 : Nat) : Int) = 0 from rfl] at i1 ⊢
        go_wp2
        go_ret
        exact ⟨0, rfl, hd.out, rfl⟩

end Go.Proofs.Ytoegjgajleamkaa
