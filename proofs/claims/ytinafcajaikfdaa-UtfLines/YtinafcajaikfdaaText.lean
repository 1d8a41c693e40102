/-
  Texts as bytes in memory of their own, and what is read of a text.
-/
import Derived.Test.YtinafcajaikfdaaCat
namespace Go.Proofs.Ytinafcajaikfdaa
open Go.RowKit Utf

/-- []byte(s). -/
theorem to_bytes (w : World) (s : ByteArray) : ∃ W c, (convert 9 23 (.string s)).run Try.prog w = .ok (.slice (some ⟨w.heap.size, 0, none⟩) s.size c) W ∧ Kp [] w W ∧ Rb W (some ⟨w.heap.size, 0, none⟩) s.size c (b8 (bytesOf s)) := by
  refine ⟨_, _, Lib.run_convert_string_bytes (P := Try.prog) w 9 23 5 s Try.underlying9 Try.underlying23 Try.underlying5, ⟨rfl, rfl, rfl, ?_, fun k hk _ => Lib.bytesWorld_at_old w 5 s k hk⟩, ⟨?_, ?_, fun j hj => ⟨_, _, rfl, ?_⟩⟩⟩
  · rw [Lib.bytesWorld_size]
    omega
  · rw [b8_len]
    simp [bytesOf]
  · exact grownCap_ge w s.size 0 5
  · rw [Nat.zero_add, Lib.bytesWorld_cell w 5 s j hj]
    simp [b8, bytesOf, List.getD, hj]

/-- What stands in a text is one of its bytes. -/
theorem text_mem (s : ByteArray) (j : Nat) (h : j < s.size) : ((s[j]'h).toNat : Int) ∈ bytesOf s := by
  unfold bytesOf
  refine List.mem_map.2 ⟨s[j], ?_, rfl⟩
  show s.data[j] ∈ _
  simp

theorem text_mark {E : List Int} (h : E.take 3 = mark) : ((strOfNums E).extract 0 3).toList = [239, 187, 191] := by
  rw [Lib.toList_data, Lib.extract_data, strOfNums_data]
  simp only [List.drop_zero, Nat.sub_zero]
  rw [← List.map_take, h]
  rfl

end Go.Proofs.Ytinafcajaikfdaa
