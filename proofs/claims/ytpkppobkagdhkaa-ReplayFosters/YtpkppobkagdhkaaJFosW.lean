/-
  Joined: FosW.
-/
import Derived.Test.YtpkppobkagdhkaaJ49

/-
  ReplayFosters: a Foster and a Pour find the place ahead of the table where it has a parent, else the end of the other.
-/
namespace Go.Proofs.Ytpkppobkagdhkaa
open Go.RowKit Go.Maps Utf
set_option linter.unusedVariables false
set_option linter.unusedSimpArgs false

set_option maxRecDepth 100000 in
set_option maxHeartbeats 2000000 in
theorem fosters_tt (w : World) (s : ByteArray) : Calls Try.prog 3 #[.string s, .bool true, .bool true] w fun e w' => e = .returned (.bool true) ∧ Kp [] w w' := by
  have HH := cut_any w s 9 (by omega)
  have hs := cut_size s 9
  generalize (if 9 < s.size then s.extract 0 9 else s) = hd at HH hs
  have z9 : ¬ 9223372036854775807 < 1 + hd.size := by omega
  have hX := w_cons hd
  have hl : hd.data.toList.length ≤ 9 := by rw [Array.length_toList]; exact hs
  generalize hd.data.toList = l at hX hl
  have nA : ∀ o, o ∈ fA → o.al = [] := fun o ho => (fos_tiny l hl true true o (List.mem_append_left _ (List.mem_append_left _ ho))).2
  have nT : ∀ o, o ∈ fT ⟨⟨119 :: l⟩⟩ true → o.al = [] := fun o ho => (fos_tiny l hl true true o (List.mem_append_right _ ho)).2
  have M0 := Mq.lit w fA nA (by decide)
  obtain ⟨W0, hW0⟩ : ∃ W, w.alloc (.cells (qs (fA.map oq)).toArray 25) = W := ⟨_, rfl⟩
  rw [hW0] at M0
  have z0 : W0.heap.size = w.heap.size + 1 := by rw [← hW0]; simp
  obtain ⟨g1, o1, c1, W1, hrun1, M1⟩ := M0.lits (fH true) (by decide) (fun o ho => (fos_tiny l hl true true o (List.mem_append_left _ (List.mem_append_right _ ho))).2) (by decide)
  rw [z0] at hrun1
  obtain ⟨g2, o2, c2, W2, hrun2, M2⟩ := M1.lits (fT ⟨⟨119 :: l⟩⟩ true) (by simp [fT]) nT (by simp only [fT, fA, fH, List.length_cons, List.length_nil]; omega)
  have M3 : Mq w W2 (some ⟨g2, o2, none⟩) 7 c2 ((fA ++ fH true ++ fT ⟨⟨119 :: l⟩⟩ true).map oq) := M2
  have HD := fos_do1 hl M3
  have r0 : Hid (_ = W0) := hW0
  simp only [fH, fA, fT, List.map_cons, List.map_nil, qs, oq, List.length_cons, List.length_nil, Nat.zero_add, Nat.reduceAdd] at hrun1
  simp only [fH, fA, fT, List.map_cons, List.map_nil, qs, oq, List.length_cons, List.length_nil, Nat.zero_add, Nat.reduceAdd] at hrun2
  simp only [fA, List.map_cons, List.map_nil, qs, oq] at r0
  clear M0 M1 M2 M3 nA nT hs z0 hW0
  go_enter Try.func3, Try.ntmps3
  go_wp2_with (first | (go_at_call 7; refine (known_any _).mono ?_; rintro e W9 ⟨rfl, k9⟩) | (go_at_call 6; refine HP.mono ?_; rintro e W4 ⟨t0, t1, t2, t3, b1, b2, b3, g5, o5, c5, g6, o6, c6, ak, ck, rfl, k4, HF⟩; obtain ⟨y1, y2, y3, y4, y5⟩ := HF _ ((Kp.refl [] _).alloc (.cells #[.int .i64 t0, .int .i64 t1, .string t2, .slice b1 b2 b3, .string t3, .slice (some ⟨g5, o5, none⟩) 1 c5] 33)); obtain ⟨x0, x1, x2, x3, x4, x5⟩ := (At.new W4 #[.int .i64 t0, .int .i64 t1, .string t2, .slice b1 b2 b3, .string t3, .slice (some ⟨g5, o5, none⟩) 1 c5] 33).six; clear HF) | (go_at_call 5; refine HD.mono ?_; rintro e W3 ⟨a, rfl, k3, HP⟩) | (at_builtin; rw [r0.out]; refine Lib.wpList_append_run _ rfl _ _ _ _ rfl _ _ rfl rfl _ _ (hrun1 _) ?_; clear hrun1) | (at_builtin; refine Lib.wpList_append_run _ rfl _ _ _ _ rfl _ _ rfl rfl _ _ (hrun2 _) ?_; clear hrun2) | (go_at_call 4; refine (HH).mono ?_; rintro e w9 ⟨rfl, hw⟩; have hw2 := hw.symm; clear hw; subst hw2))
  go_ret
  exact ⟨by simp, (k3.trans (k4.alloc _) (fun x hx => Or.inl hx)).trans k9 (fun x hx => Or.inl hx)⟩

set_option maxRecDepth 100000 in
set_option maxHeartbeats 2000000 in
theorem fosters_tf (w : World) (s : ByteArray) : Calls Try.prog 3 #[.string s, .bool true, .bool false] w fun e w' => e = .returned (.bool true) ∧ Kp [] w w' := by
  have HH := cut_any w s 9 (by omega)
  have hs := cut_size s 9
  generalize (if 9 < s.size then s.extract 0 9 else s) = hd at HH hs
  have z9 : ¬ 9223372036854775807 < 1 + hd.size := by omega
  have hX := w_cons hd
  have hl : hd.data.toList.length ≤ 9 := by rw [Array.length_toList]; exact hs
  generalize hd.data.toList = l at hX hl
  have nA : ∀ o, o ∈ fA → o.al = [] := fun o ho => (fos_tiny l hl true true o (List.mem_append_left _ (List.mem_append_left _ ho))).2
  have nT : ∀ o, o ∈ fT ⟨⟨119 :: l⟩⟩ false → o.al = [] := fun o ho => (fos_tiny l hl true false o (List.mem_append_right _ ho)).2
  have M0 := Mq.lit w fA nA (by decide)
  obtain ⟨W0, hW0⟩ : ∃ W, w.alloc (.cells (qs (fA.map oq)).toArray 25) = W := ⟨_, rfl⟩
  rw [hW0] at M0
  have z0 : W0.heap.size = w.heap.size + 1 := by rw [← hW0]; simp
  obtain ⟨g1, o1, c1, W1, hrun1, M1⟩ := M0.lits (fH true) (by decide) (fun o ho => (fos_tiny l hl true true o (List.mem_append_left _ (List.mem_append_right _ ho))).2) (by decide)
  rw [z0] at hrun1
  obtain ⟨g2, o2, c2, W2, hrun2, M2⟩ := M1.lits (fT ⟨⟨119 :: l⟩⟩ false) (by simp [fT]) nT (by simp only [fT, fA, fH, List.length_cons, List.length_nil]; omega)
  have M3 : Mq w W2 (some ⟨g2, o2, none⟩) 8 c2 ((fA ++ fH true ++ fT ⟨⟨119 :: l⟩⟩ false).map oq) := M2
  have HD := fos_do1 hl M3
  have r0 : Hid (_ = W0) := hW0
  simp only [fH, fA, fT, List.map_cons, List.map_nil, qs, oq, List.length_cons, List.length_nil, Nat.zero_add, Nat.reduceAdd] at hrun1
  simp only [fH, fA, fT, List.map_cons, List.map_nil, qs, oq, List.length_cons, List.length_nil, Nat.zero_add, Nat.reduceAdd] at hrun2
  simp only [fA, List.map_cons, List.map_nil, qs, oq] at r0
  clear M0 M1 M2 M3 nA nT hs z0 hW0
  go_enter Try.func3, Try.ntmps3
  go_wp2_with (first | (go_at_call 7; refine (known_any _).mono ?_; rintro e W9 ⟨rfl, k9⟩) | (go_at_call 6; refine HP.mono ?_; rintro e W4 ⟨t0, t1, t2, t3, b1, b2, b3, g5, o5, c5, g6, o6, c6, ak, ck, rfl, k4, HF⟩; obtain ⟨y1, y2, y3, y4, y5⟩ := HF _ ((Kp.refl [] _).alloc (.cells #[.int .i64 t0, .int .i64 t1, .string t2, .slice b1 b2 b3, .string t3, .slice (some ⟨g5, o5, none⟩) 1 c5] 33)); obtain ⟨x0, x1, x2, x3, x4, x5⟩ := (At.new W4 #[.int .i64 t0, .int .i64 t1, .string t2, .slice b1 b2 b3, .string t3, .slice (some ⟨g5, o5, none⟩) 1 c5] 33).six; clear HF) | (go_at_call 5; refine HD.mono ?_; rintro e W3 ⟨a, rfl, k3, HP⟩) | (at_builtin; rw [r0.out]; refine Lib.wpList_append_run _ rfl _ _ _ _ rfl _ _ rfl rfl _ _ (hrun1 _) ?_; clear hrun1) | (at_builtin; refine Lib.wpList_append_run _ rfl _ _ _ _ rfl _ _ rfl rfl _ _ (hrun2 _) ?_; clear hrun2) | (go_at_call 4; refine (HH).mono ?_; rintro e w9 ⟨rfl, hw⟩; have hw2 := hw.symm; clear hw; subst hw2))
  go_ret
  exact ⟨by simp, (k3.trans (k4.alloc _) (fun x hx => Or.inl hx)).trans k9 (fun x hx => Or.inl hx)⟩

set_option maxRecDepth 100000 in
set_option maxHeartbeats 2000000 in
theorem fosters_ft (w : World) (s : ByteArray) : Calls Try.prog 3 #[.string s, .bool false, .bool true] w fun e w' => e = .returned (.bool true) ∧ Kp [] w w' := by
  have HH := cut_any w s 9 (by omega)
  have hs := cut_size s 9
  generalize (if 9 < s.size then s.extract 0 9 else s) = hd at HH hs
  have z9 : ¬ 9223372036854775807 < 1 + hd.size := by omega
  have hX := w_cons hd
  have hl : hd.data.toList.length ≤ 9 := by rw [Array.length_toList]; exact hs
  generalize hd.data.toList = l at hX hl
  have nA : ∀ o, o ∈ fA → o.al = [] := fun o ho => (fos_tiny l hl true true o (List.mem_append_left _ (List.mem_append_left _ ho))).2
  have nT : ∀ o, o ∈ fT ⟨⟨119 :: l⟩⟩ true → o.al = [] := fun o ho => (fos_tiny l hl true true o (List.mem_append_right _ ho)).2
  have M0 := Mq.lit w fA nA (by decide)
  obtain ⟨W0, hW0⟩ : ∃ W, w.alloc (.cells (qs (fA.map oq)).toArray 25) = W := ⟨_, rfl⟩
  rw [hW0] at M0
  have z0 : W0.heap.size = w.heap.size + 1 := by rw [← hW0]; simp
  have M1 : Mq w W0 (some ⟨w.heap.size, 0, none⟩) 5 5 ((fA ++ fH false).map oq) := M0
  obtain ⟨g2, o2, c2, W2, hrun2, M2⟩ := M1.lits (fT ⟨⟨119 :: l⟩⟩ true) (by simp [fT]) nT (by simp only [fT, fA, fH, List.length_cons, List.length_nil]; omega)
  rw [z0] at hrun2
  have M3 : Mq w W2 (some ⟨g2, o2, none⟩) 6 c2 ((fA ++ fH false ++ fT ⟨⟨119 :: l⟩⟩ true).map oq) := M2
  have HD := fos_do2 hl M3
  have r0 : Hid (_ = W0) := hW0
  simp only [fH, fA, fT, List.map_cons, List.map_nil, qs, oq, List.length_cons, List.length_nil, Nat.zero_add, Nat.reduceAdd] at hrun2
  simp only [fA, List.map_cons, List.map_nil, qs, oq] at r0
  clear M0 M1 M2 M3 nA nT hs z0 hW0
  go_enter Try.func3, Try.ntmps3
  go_wp2_with (first | (go_at_call 7; refine (known_any _).mono ?_; rintro e W9 ⟨rfl, k9⟩) | (go_at_call 6; refine HP.mono ?_; rintro e W4 ⟨t0, t1, t2, t3, b1, b2, b3, g5, o5, c5, g6, o6, c6, g7, o7, c7, rfl, k4, HF⟩; obtain ⟨y1, y2, y3⟩ := HF _ ((Kp.refl [] _).alloc (.cells #[.int .i64 t0, .int .i64 t1, .string t2, .slice b1 b2 b3, .string t3, .slice (some ⟨g5, o5, none⟩) 1 c5] 33)); obtain ⟨x0, x1, x2, x3, x4, x5⟩ := (At.new W4 #[.int .i64 t0, .int .i64 t1, .string t2, .slice b1 b2 b3, .string t3, .slice (some ⟨g5, o5, none⟩) 1 c5] 33).six; clear HF) | (go_at_call 5; refine HD.mono ?_; rintro e W3 ⟨a, rfl, k3, HP⟩) | (at_builtin; rw [r0.out]; refine Lib.wpList_append_run _ rfl _ _ _ _ rfl _ _ rfl rfl _ _ (hrun2 _) ?_; clear hrun2) | (go_at_call 4; refine (HH).mono ?_; rintro e w9 ⟨rfl, hw⟩; have hw2 := hw.symm; clear hw; subst hw2))
  go_ret
  exact ⟨by simp, (k3.trans (k4.alloc _) (fun x hx => Or.inl hx)).trans k9 (fun x hx => Or.inl hx)⟩

set_option maxRecDepth 100000 in
set_option maxHeartbeats 2000000 in
theorem fosters_ff (w : World) (s : ByteArray) : Calls Try.prog 3 #[.string s, .bool false, .bool false] w fun e w' => e = .returned (.bool true) ∧ Kp [] w w' := by
  have HH := cut_any w s 9 (by omega)
  have hs := cut_size s 9
  generalize (if 9 < s.size then s.extract 0 9 else s) = hd at HH hs
  have z9 : ¬ 9223372036854775807 < 1 + hd.size := by omega
  have hX := w_cons hd
  have hl : hd.data.toList.length ≤ 9 := by rw [Array.length_toList]; exact hs
  generalize hd.data.toList = l at hX hl
  have nA : ∀ o, o ∈ fA → o.al = [] := fun o ho => (fos_tiny l hl true true o (List.mem_append_left _ (List.mem_append_left _ ho))).2
  have nT : ∀ o, o ∈ fT ⟨⟨119 :: l⟩⟩ false → o.al = [] := fun o ho => (fos_tiny l hl true false o (List.mem_append_right _ ho)).2
  have M0 := Mq.lit w fA nA (by decide)
  obtain ⟨W0, hW0⟩ : ∃ W, w.alloc (.cells (qs (fA.map oq)).toArray 25) = W := ⟨_, rfl⟩
  rw [hW0] at M0
  have z0 : W0.heap.size = w.heap.size + 1 := by rw [← hW0]; simp
  have M1 : Mq w W0 (some ⟨w.heap.size, 0, none⟩) 5 5 ((fA ++ fH false).map oq) := M0
  obtain ⟨g2, o2, c2, W2, hrun2, M2⟩ := M1.lits (fT ⟨⟨119 :: l⟩⟩ false) (by simp [fT]) nT (by simp only [fT, fA, fH, List.length_cons, List.length_nil]; omega)
  rw [z0] at hrun2
  have M3 : Mq w W2 (some ⟨g2, o2, none⟩) 7 c2 ((fA ++ fH false ++ fT ⟨⟨119 :: l⟩⟩ false).map oq) := M2
  have HD := fos_do2 hl M3
  have r0 : Hid (_ = W0) := hW0
  simp only [fH, fA, fT, List.map_cons, List.map_nil, qs, oq, List.length_cons, List.length_nil, Nat.zero_add, Nat.reduceAdd] at hrun2
  simp only [fA, List.map_cons, List.map_nil, qs, oq] at r0
  clear M0 M1 M2 M3 nA nT hs z0 hW0
  go_enter Try.func3, Try.ntmps3
  go_wp2_with (first | (go_at_call 7; refine (known_any _).mono ?_; rintro e W9 ⟨rfl, k9⟩) | (go_at_call 6; refine HP.mono ?_; rintro e W4 ⟨t0, t1, t2, t3, b1, b2, b3, g5, o5, c5, g6, o6, c6, g7, o7, c7, rfl, k4, HF⟩; obtain ⟨y1, y2, y3⟩ := HF _ ((Kp.refl [] _).alloc (.cells #[.int .i64 t0, .int .i64 t1, .string t2, .slice b1 b2 b3, .string t3, .slice (some ⟨g5, o5, none⟩) 1 c5] 33)); obtain ⟨x0, x1, x2, x3, x4, x5⟩ := (At.new W4 #[.int .i64 t0, .int .i64 t1, .string t2, .slice b1 b2 b3, .string t3, .slice (some ⟨g5, o5, none⟩) 1 c5] 33).six; clear HF) | (go_at_call 5; refine HD.mono ?_; rintro e W3 ⟨a, rfl, k3, HP⟩) | (at_builtin; rw [r0.out]; refine Lib.wpList_append_run _ rfl _ _ _ _ rfl _ _ rfl rfl _ _ (hrun2 _) ?_; clear hrun2) | (go_at_call 4; refine (HH).mono ?_; rintro e w9 ⟨rfl, hw⟩; have hw2 := hw.symm; clear hw; subst hw2))
  go_ret
  exact ⟨by simp, (k3.trans (k4.alloc _) (fun x hx => Or.inl hx)).trans k9 (fun x hx => Or.inl hx)⟩

theorem fosters_walk (w : World) (s : ByteArray) (h t : Bool) : Calls Try.prog 3 #[.string s, .bool h, .bool t] w fun e w' => e = .returned (.bool true) ∧ Kp [] w w' := by
  cases h <;> cases t
  · exact fosters_ff w s
  · exact fosters_ft w s
  · exact fosters_tf w s
  · exact fosters_tt w s

end Go.Proofs.Ytpkppobkagdhkaa
