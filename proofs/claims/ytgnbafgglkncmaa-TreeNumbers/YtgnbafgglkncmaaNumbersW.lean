/-
  TreeNumbers.
-/
import Derived.Test.YtgnbafgglkncmaaTellsW
namespace Go.Proofs.Ytgnbafgglkncmaa
open Go.RowKit
set_option linter.unusedVariables false
set_option linter.unusedSimpArgs false

/-- Two nodes in a block. -/
theorem Rt.two {Q : Nat → Prop} {w : World} {g : Nat} {l m : Lb} {k f : Fo} {p q : Pl} {cur : Array Value} {e : TypeId} (hg : w.heap[g]? = some (.cells cur e (0, 0))) (hc : cur = (six l p ++ six m q).toArray) (hq : Q g) (h : Nd Q w l k p) (h' : Nd Q w m f q) : Rt Q w (some ⟨g, 0, none⟩) 2 2 (.cons l k (.cons m f .nil)) := by
  refine ⟨six l p ++ six m q, ⟨rfl, Nat.le_refl _, fun _ => ⟨g, 0, cur, e, hq, rfl, hg, fun j _ => by rw [hc, Nat.zero_add]; simp⟩⟩, ?_⟩
  have := Lf.cons h (Lf.cons h' (Lf.nil Q w))
  rwa [List.append_nil] at this

def DIV : ByteArray := ⟨#[100, 105, 118]⟩

theorem three (V : World) (o1 o2 o3 : Obj) (n : Nat) (hn : V.heap.size = n) : ∃ F, ((V.alloc o1).alloc o2).alloc o3 = F ∧ F.heap[n]? = some o1 ∧ F.heap[n + 1]? = some o2 ∧ F.heap[n + 1 + 1]? = some o3 ∧ Kp [] V F := by
  subst hn
  refine ⟨_, rfl, ?_, ?_, heap_new' _ _ _ (by simp), (((Kp.refl _ _).alloc _).alloc _).alloc _⟩
  · have k : Kp [] (V.alloc o1) (((V.alloc o1).alloc o2).alloc o3) := ((Kp.refl _ _).alloc _).alloc _
    rw [k.block _ (by simp) (by simp)]; exact heap_new _ _
  · have k : Kp [] ((V.alloc o1).alloc o2) (((V.alloc o1).alloc o2).alloc o3) := (Kp.refl _ _).alloc _
    rw [k.block _ (by simp) (by simp)]; exact heap_new' _ _ _ (by simp)

theorem two (V : World) (o1 o2 : Obj) (n : Nat) (hn : V.heap.size = n) : ∃ F, (V.alloc o1).alloc o2 = F ∧ F.heap[n]? = some o1 ∧ F.heap[n + 1]? = some o2 ∧ Kp [] V F := by
  subst hn
  refine ⟨_, rfl, ?_, heap_new' _ _ _ (by simp), ((Kp.refl _ _).alloc _).alloc _⟩
  have k : Kp [] (V.alloc o1) ((V.alloc o1).alloc o2) := (Kp.refl _ _).alloc _
  rw [k.block _ (by simp) (by simp)]; exact heap_new _ _

set_option maxRecDepth 100000 in
set_option maxHeartbeats 8000000 in
theorem numbers_any (w : World) : Calls Try.prog 3 #[] w fun e w' => e = .returned (.bool true) ∧ Kp [] w w' := by
  go_enter Try.func3, Try.ntmps3
  go_wp2
  go_loopw [1] (fun x1 wr => ∃ (a : Nat), x1 = .int .i64 ((a : Int) - 1) ∧ a ≤ 9 ∧ Kp [] w wr) (fun x1 wr => 8 - intOf x1 |>.toNat)
  case atStart => exact ⟨0, rfl, by omega, Kp.refl _ _⟩
  case round =>
    obtain ⟨a, rfl, ha, ka⟩ := hrel
    by_cases hlt : a < 9
    · have b1 : decide ((a : Int) - 1 < 8) = true := decide_eq_true (by omega)
      go_wp2
      try rw [b1]
      go_loopw [2] (fun x2 wb => ∃ (b : Nat), x2 = .int .i64 b ∧ b ≤ 8 ∧ Kp [] w wb) (fun x2 wb => 8 - (intOf x2).toNat)
      case atStart => exact ⟨0, rfl, by omega, ka⟩
      case round =>
        obtain ⟨b, rfl, hb, kb⟩ := hrel
        by_cases hlt2 : b < 8
        · have b2 : decide ((b : Int) < 8) = true := decide_eq_true (by omega)
          go_wp2
          try rw [b2]
          go_loopw [3] (fun x3 wc => ∃ (c : Nat), x3 = .int .i64 c ∧ c ≤ 8 ∧ Kp [] w wc) (fun x3 wc => 8 - (intOf x3).toNat)
          case atStart => exact ⟨0, rfl, by omega, kb⟩
          case round =>
            obtain ⟨c, rfl, hc, kc⟩ := hrel
            by_cases hlt3 : c < 8
            · have hcs : c = 0 ∨ c = 1 ∨ c = 2 ∨ c = 3 ∨ c = 4 ∨ c = 5 ∨ c = 6 ∨ c = 7 := by omega
              obtain ⟨s, hs⟩ : ∃ s, wr.heap.size = s := ⟨_, rfl⟩
              clear hc hlt3
              rcases hcs with rfl | rfl | rfl | rfl | rfl | rfl | rfl | rfl
              · go_upto_region 26 with fail
                obtain ⟨V, hV⟩ : ∃ V, V = (wr.alloc (.cells #[.int .i64 (b : Int), .int .i64 0, .string ⟨#[]⟩, .slice none 0 0, .string ⟨#[]⟩, .slice none 0 0] 25)) := ⟨_, rfl⟩
                rw [← hV]
                have kV : Kp [] wr V := by rw [hV]; exact (Kp.refl _ _).alloc _
                have T4 : At V s #[.int .i64 (b : Int), .int .i64 0, .string ⟨#[]⟩, .slice none 0 0, .string ⟨#[]⟩, .slice none 0 0] 25 := by rw [hV, ← hs]; exact At.new _ _ _
                have NX : Nd Any V ((b : Int), 0, ⟨#[]⟩, [], ⟨#[]⟩) .nil ((none, 0, 0), (none, 0, 0)) := Nd.bare _ _ _ _ _ _ (Rt.nil _ _ none 0)
                have SX : small ((b : Int), 0, ⟨#[]⟩, [], ⟨#[]⟩) := bare_small (by decide) (by decide)
                have EX : Fo.Each small .nil := trivial
                have CX : Fo.cnt .nil ≤ 10 := by decide
                obtain ⟨X, hX⟩ : ∃ X : Lb, X = ((b : Int), 0, ⟨#[]⟩, [], ⟨#[]⟩) := ⟨_, rfl⟩
                obtain ⟨KX, hKX⟩ : ∃ K : Fo, K = .nil := ⟨_, rfl⟩
                obtain ⟨PX, hPX⟩ : ∃ P : Pl, P = ((none, 0, 0), (none, 0, 0)) := ⟨_, rfl⟩
                rw [← hX] at NX SX
                rw [← hKX] at NX EX CX
                rw [← hPX] at NX
                have T4x := T4
                obtain ⟨c40, c41, c42, c43, c44, c45⟩ := T4.six
                obtain ⟨n, hn⟩ : ∃ n, V.heap.size = n := ⟨_, rfl⟩
                clear hV
                go_upto_region 27 with fail
                clear c40 c41 c42 c43 c44 c45
                obtain ⟨F1, hF, f1, f2, f3, kF1⟩ := three V (.cells #[.int .i64 (b : Int), .int .i64 0, .string ⟨#[]⟩, .slice none 0 0, .string ⟨#[]⟩, .slice none 0 0] 25) (.cells #[.int .i64 ((a : Int) - 1), .int .i64 1, .string ⟨#[100, 105, 118]⟩, .slice none 0 0, .string ⟨#[]⟩, .slice (some ⟨n, 0, none⟩) 1 1] 25) (.cells #[.int .i64 1, .int .i64 0, .string ⟨#[]⟩, .slice none 0 0, .string ⟨#[]⟩, .slice (some ⟨n + 1, 0, none⟩) 1 1] 25) n hn
                rw [hF]
                clear hF
                have T4 := T4.kept kF1 (by simp)
                have NX := NX.kept kF1
                obtain ⟨c40, c41, c42, c43, c44, c45⟩ := T4.six
                obtain ⟨m, hm⟩ : ∃ m, F1.heap.size = m := ⟨_, rfl⟩
                go_upto_region 28 with fail
                clear c40 c41 c42 c43 c44 c45
                obtain ⟨F, hF, f4, f5, kF2⟩ := two F1 (.cells #[.int .i64 (b : Int), .int .i64 0, .string ⟨#[]⟩, .slice none 0 0, .string ⟨#[]⟩, .slice none 0 0, .int .i64 (b : Int), .int .i64 0, .string ⟨#[]⟩, .slice none 0 0, .string ⟨#[]⟩, .slice none 0 0] 25) (.cells #[.int .i64 1, .int .i64 0, .string ⟨#[]⟩, .slice none 0 0, .string ⟨#[]⟩, .slice (some ⟨m, 0, none⟩) 2 2] 25) m hm
                rw [hF]
                clear hF
                have f1 : At F n _ _ := At.kept (show At F1 n _ _ from f1) kF2 (by simp)
                have f2 : At F (n + 1) _ _ := At.kept (show At F1 (n + 1) _ _ from f2) kF2 (by simp)
                have f3 : At F (n + 1 + 1) _ _ := At.kept (show At F1 (n + 1 + 1) _ _ from f3) kF2 (by simp)
                have kF : Kp [] V F := kF1.trans kF2 (fun z hz => by simp at hz)
                have NX := NX.kept kF2
                have T4 := T4.kept kF2 (by simp)
                have NY : Nd Any F lD (.cons ((a : Int) - 1, 1, DIV, [], ⟨#[]⟩) (.cons X KX .nil) .nil) ((none, 0, 0), (some ⟨n + 1, 0, none⟩, 1, 1)) := Nd.bare _ _ _ _ _ _ (Rt.one (p := ((none, 0, 0), (some ⟨n, 0, none⟩, 1, 1))) f2 rfl trivial (Nd.bare _ _ _ _ _ _ (Rt.one (p := PX) f1 (by rw [hX, hPX]; rfl) trivial NX)))
                have NZ : Nd Any F lD (.cons X KX (.cons X KX .nil)) ((none, 0, 0), (some ⟨m, 0, none⟩, 2, 2)) := Nd.bare _ _ _ _ _ _ (Rt.two (p := PX) (q := PX) f4 (by rw [hX, hPX]; rfl) trivial NX NX)
                have hz : (⟨#[]⟩ : ByteArray).size ≤ 100 := by decide
                have hd : DIV.size ≤ 100 := by decide
                have tX : Tiny X KX := ⟨SX, EX, by omega⟩
                have tY : Tiny lD (.cons ((a : Int) - 1, 1, DIV, [], ⟨#[]⟩) (.cons X KX .nil) .nil) := ⟨bare_small hz hz, ⟨bare_small hd hz, ⟨SX, EX, trivial⟩, trivial⟩, by simp; omega⟩
                have tZ : Tiny lD (.cons X KX (.cons X KX .nil)) := ⟨bare_small hz hz, ⟨SX, EX, SX, EX, trivial⟩, by simp; omega⟩
                have H1 : Hid (∀ W, Kp [] F W → Calls Try.prog 9 #[wv X PX, wv lD ((none, 0, 0), (some ⟨n + 1, 0, none⟩, 1, 1))] W fun e w' => e = .returned (.bool true) ∧ Kp [] W w') := fun W kW => both_any W X KX PX lD _ _ (NX.kept kW) (NY.kept kW) tX tY
                have H2 : Hid (∀ W, Kp [] F W → Calls Try.prog 9 #[wv lD ((none, 0, 0), (some ⟨n + 1, 0, none⟩, 1, 1)), wv X PX] W fun e w' => e = .returned (.bool true) ∧ Kp [] W w') := fun W kW => both_any W lD _ _ X KX PX (NY.kept kW) (NX.kept kW) tY tX
                have H3 : Hid (∀ W, Kp [] F W → Calls Try.prog 9 #[wv lD ((none, 0, 0), (some ⟨m, 0, none⟩, 2, 2)), wv lD ((none, 0, 0), (some ⟨m, 0, none⟩, 2, 2))] W fun e w' => e = .returned (.bool true) ∧ Kp [] W w') := fun W kW => both_any W lD _ _ lD _ _ (NZ.kept kW) (NZ.kept kW) tZ tZ
                rw [hX, hPX] at H1 H2
                simp only [wv, lD] at H1 H2 H3
                have T4k : Hid (∀ W, Kp [] F W → At W s #[.int .i64 (b : Int), .int .i64 0, .string ⟨#[]⟩, .slice none 0 0, .string ⟨#[]⟩, .slice none 0 0] 25) := fun W kW => T4.kept kW (by simp)
                have T5k : Hid (∀ W, Kp [] F W → At W (n + 1 + 1) #[.int .i64 1, .int .i64 0, .string ⟨#[]⟩, .slice none 0 0, .string ⟨#[]⟩, .slice (some ⟨n + 1, 0, none⟩) 1 1] 25) := fun W kW => At.kept (show At F (n + 1 + 1) _ 25 from f3) kW (by simp)
                have T6k : Hid (∀ W, Kp [] F W → At W (m + 1) #[.int .i64 1, .int .i64 0, .string ⟨#[]⟩, .slice none 0 0, .string ⟨#[]⟩, .slice (some ⟨m, 0, none⟩) 2 2] 25) := fun W kW => At.kept (show At F (m + 1) _ 25 from f5) kW (by simp)
                have K0 : Hid (Kp [] F F) := Kp.refl _ _
                have KF : Hid (Kp [] w F) := (kc.trans kV (fun z hz => by simp at hz)).trans kF (fun z hz => by simp at hz)
                clear NX NY NZ tX tY tZ T4 T4x SX EX CX f1 f2 f3 f4 f5 hn hm kF kF1 kF2 kV hs hz hd hX hKX hPX
                obtain ⟨c40, c41, c42, c43, c44, c45⟩ := (T4k.out _ K0.out).six
                obtain ⟨c50, c51, c52, c53, c54, c55⟩ := (T5k.out _ K0.out).six
                go_upto_region 9 with (first
                  | (have D := S2.out; go_at_call 9; refine (H3.out _ S2.out).mono ?_; rintro e u3 ⟨rfl, j3⟩; have S3 : Hid (Kp [] F u3) := S2.out.trans j3 (fun z hz => by simp at hz))
                  | (have D := S1.out; go_at_call 9; refine (H2.out _ S1.out).mono ?_; rintro e u2 ⟨rfl, j2⟩; have S2 : Hid (Kp [] F u2) := S1.out.trans j2 (fun z hz => by simp at hz); clear d40 d41 d42 d43 d44 d45 d50 d51 d52 d53 d54 d55; obtain ⟨d60, d61, d62, d63, d64, d65⟩ := (T6k.out _ S2.out).six)
                  | (go_at_call 9; refine (H1.out _ K0.out).mono ?_; rintro e u1 ⟨rfl, j1⟩; have S1 : Hid (Kp [] F u1) := j1; clear c40 c41 c42 c43 c44 c45 c50 c51 c52 c53 c54 c55; obtain ⟨d40, d41, d42, d43, d44, d45⟩ := (T4k.out _ S1.out).six; obtain ⟨d50, d51, d52, d53, d54, d55⟩ := (T5k.out _ S1.out).six))
                have KE : Hid (Kp [] w u3) := KF.out.trans S3.out (fun z hz => by simp at hz)
                clear d60 d61 d62 d63 d64 d65 H1 H2 H3 T4k T5k T6k
                go_wp2
                go_roundw
                case measure => simp [intOf]
                case rel => exact ⟨1, by rfl, by omega, KE.out⟩
              · go_upto_region 26 with fail
                obtain ⟨V, hV⟩ : ∃ V, V = (wr.alloc (.cells #[.int .i64 (b : Int), .int .i64 1, .string ⟨#[112]⟩, .slice none 0 0, .string ⟨#[]⟩, .slice none 0 0] 25)) := ⟨_, rfl⟩
                rw [← hV]
                have kV : Kp [] wr V := by rw [hV]; exact (Kp.refl _ _).alloc _
                have T4 : At V s #[.int .i64 (b : Int), .int .i64 1, .string ⟨#[112]⟩, .slice none 0 0, .string ⟨#[]⟩, .slice none 0 0] 25 := by rw [hV, ← hs]; exact At.new _ _ _
                have NX : Nd Any V ((b : Int), 1, ⟨#[112]⟩, [], ⟨#[]⟩) .nil ((none, 0, 0), (none, 0, 0)) := Nd.bare _ _ _ _ _ _ (Rt.nil _ _ none 0)
                have SX : small ((b : Int), 1, ⟨#[112]⟩, [], ⟨#[]⟩) := bare_small (by decide) (by decide)
                have EX : Fo.Each small .nil := trivial
                have CX : Fo.cnt .nil ≤ 10 := by decide
                obtain ⟨X, hX⟩ : ∃ X : Lb, X = ((b : Int), 1, ⟨#[112]⟩, [], ⟨#[]⟩) := ⟨_, rfl⟩
                obtain ⟨KX, hKX⟩ : ∃ K : Fo, K = .nil := ⟨_, rfl⟩
                obtain ⟨PX, hPX⟩ : ∃ P : Pl, P = ((none, 0, 0), (none, 0, 0)) := ⟨_, rfl⟩
                rw [← hX] at NX SX
                rw [← hKX] at NX EX CX
                rw [← hPX] at NX
                have T4x := T4
                obtain ⟨c40, c41, c42, c43, c44, c45⟩ := T4.six
                obtain ⟨n, hn⟩ : ∃ n, V.heap.size = n := ⟨_, rfl⟩
                clear hV
                go_upto_region 27 with fail
                clear c40 c41 c42 c43 c44 c45
                obtain ⟨F1, hF, f1, f2, f3, kF1⟩ := three V (.cells #[.int .i64 (b : Int), .int .i64 1, .string ⟨#[112]⟩, .slice none 0 0, .string ⟨#[]⟩, .slice none 0 0] 25) (.cells #[.int .i64 ((a : Int) - 1), .int .i64 1, .string ⟨#[100, 105, 118]⟩, .slice none 0 0, .string ⟨#[]⟩, .slice (some ⟨n, 0, none⟩) 1 1] 25) (.cells #[.int .i64 1, .int .i64 0, .string ⟨#[]⟩, .slice none 0 0, .string ⟨#[]⟩, .slice (some ⟨n + 1, 0, none⟩) 1 1] 25) n hn
                rw [hF]
                clear hF
                have T4 := T4.kept kF1 (by simp)
                have NX := NX.kept kF1
                obtain ⟨c40, c41, c42, c43, c44, c45⟩ := T4.six
                obtain ⟨m, hm⟩ : ∃ m, F1.heap.size = m := ⟨_, rfl⟩
                go_upto_region 28 with fail
                clear c40 c41 c42 c43 c44 c45
                obtain ⟨F, hF, f4, f5, kF2⟩ := two F1 (.cells #[.int .i64 (b : Int), .int .i64 1, .string ⟨#[112]⟩, .slice none 0 0, .string ⟨#[]⟩, .slice none 0 0, .int .i64 (b : Int), .int .i64 1, .string ⟨#[112]⟩, .slice none 0 0, .string ⟨#[]⟩, .slice none 0 0] 25) (.cells #[.int .i64 1, .int .i64 0, .string ⟨#[]⟩, .slice none 0 0, .string ⟨#[]⟩, .slice (some ⟨m, 0, none⟩) 2 2] 25) m hm
                rw [hF]
                clear hF
                have f1 : At F n _ _ := At.kept (show At F1 n _ _ from f1) kF2 (by simp)
                have f2 : At F (n + 1) _ _ := At.kept (show At F1 (n + 1) _ _ from f2) kF2 (by simp)
                have f3 : At F (n + 1 + 1) _ _ := At.kept (show At F1 (n + 1 + 1) _ _ from f3) kF2 (by simp)
                have kF : Kp [] V F := kF1.trans kF2 (fun z hz => by simp at hz)
                have NX := NX.kept kF2
                have T4 := T4.kept kF2 (by simp)
                have NY : Nd Any F lD (.cons ((a : Int) - 1, 1, DIV, [], ⟨#[]⟩) (.cons X KX .nil) .nil) ((none, 0, 0), (some ⟨n + 1, 0, none⟩, 1, 1)) := Nd.bare _ _ _ _ _ _ (Rt.one (p := ((none, 0, 0), (some ⟨n, 0, none⟩, 1, 1))) f2 rfl trivial (Nd.bare _ _ _ _ _ _ (Rt.one (p := PX) f1 (by rw [hX, hPX]; rfl) trivial NX)))
                have NZ : Nd Any F lD (.cons X KX (.cons X KX .nil)) ((none, 0, 0), (some ⟨m, 0, none⟩, 2, 2)) := Nd.bare _ _ _ _ _ _ (Rt.two (p := PX) (q := PX) f4 (by rw [hX, hPX]; rfl) trivial NX NX)
                have hz : (⟨#[]⟩ : ByteArray).size ≤ 100 := by decide
                have hd : DIV.size ≤ 100 := by decide
                have tX : Tiny X KX := ⟨SX, EX, by omega⟩
                have tY : Tiny lD (.cons ((a : Int) - 1, 1, DIV, [], ⟨#[]⟩) (.cons X KX .nil) .nil) := ⟨bare_small hz hz, ⟨bare_small hd hz, ⟨SX, EX, trivial⟩, trivial⟩, by simp; omega⟩
                have tZ : Tiny lD (.cons X KX (.cons X KX .nil)) := ⟨bare_small hz hz, ⟨SX, EX, SX, EX, trivial⟩, by simp; omega⟩
                have H1 : Hid (∀ W, Kp [] F W → Calls Try.prog 9 #[wv X PX, wv lD ((none, 0, 0), (some ⟨n + 1, 0, none⟩, 1, 1))] W fun e w' => e = .returned (.bool true) ∧ Kp [] W w') := fun W kW => both_any W X KX PX lD _ _ (NX.kept kW) (NY.kept kW) tX tY
                have H2 : Hid (∀ W, Kp [] F W → Calls Try.prog 9 #[wv lD ((none, 0, 0), (some ⟨n + 1, 0, none⟩, 1, 1)), wv X PX] W fun e w' => e = .returned (.bool true) ∧ Kp [] W w') := fun W kW => both_any W lD _ _ X KX PX (NY.kept kW) (NX.kept kW) tY tX
                have H3 : Hid (∀ W, Kp [] F W → Calls Try.prog 9 #[wv lD ((none, 0, 0), (some ⟨m, 0, none⟩, 2, 2)), wv lD ((none, 0, 0), (some ⟨m, 0, none⟩, 2, 2))] W fun e w' => e = .returned (.bool true) ∧ Kp [] W w') := fun W kW => both_any W lD _ _ lD _ _ (NZ.kept kW) (NZ.kept kW) tZ tZ
                rw [hX, hPX] at H1 H2
                simp only [wv, lD] at H1 H2 H3
                have T4k : Hid (∀ W, Kp [] F W → At W s #[.int .i64 (b : Int), .int .i64 1, .string ⟨#[112]⟩, .slice none 0 0, .string ⟨#[]⟩, .slice none 0 0] 25) := fun W kW => T4.kept kW (by simp)
                have T5k : Hid (∀ W, Kp [] F W → At W (n + 1 + 1) #[.int .i64 1, .int .i64 0, .string ⟨#[]⟩, .slice none 0 0, .string ⟨#[]⟩, .slice (some ⟨n + 1, 0, none⟩) 1 1] 25) := fun W kW => At.kept (show At F (n + 1 + 1) _ 25 from f3) kW (by simp)
                have T6k : Hid (∀ W, Kp [] F W → At W (m + 1) #[.int .i64 1, .int .i64 0, .string ⟨#[]⟩, .slice none 0 0, .string ⟨#[]⟩, .slice (some ⟨m, 0, none⟩) 2 2] 25) := fun W kW => At.kept (show At F (m + 1) _ 25 from f5) kW (by simp)
                have K0 : Hid (Kp [] F F) := Kp.refl _ _
                have KF : Hid (Kp [] w F) := (kc.trans kV (fun z hz => by simp at hz)).trans kF (fun z hz => by simp at hz)
                clear NX NY NZ tX tY tZ T4 T4x SX EX CX f1 f2 f3 f4 f5 hn hm kF kF1 kF2 kV hs hz hd hX hKX hPX
                obtain ⟨c40, c41, c42, c43, c44, c45⟩ := (T4k.out _ K0.out).six
                obtain ⟨c50, c51, c52, c53, c54, c55⟩ := (T5k.out _ K0.out).six
                go_upto_region 9 with (first
                  | (have D := S2.out; go_at_call 9; refine (H3.out _ S2.out).mono ?_; rintro e u3 ⟨rfl, j3⟩; have S3 : Hid (Kp [] F u3) := S2.out.trans j3 (fun z hz => by simp at hz))
                  | (have D := S1.out; go_at_call 9; refine (H2.out _ S1.out).mono ?_; rintro e u2 ⟨rfl, j2⟩; have S2 : Hid (Kp [] F u2) := S1.out.trans j2 (fun z hz => by simp at hz); clear d40 d41 d42 d43 d44 d45 d50 d51 d52 d53 d54 d55; obtain ⟨d60, d61, d62, d63, d64, d65⟩ := (T6k.out _ S2.out).six)
                  | (go_at_call 9; refine (H1.out _ K0.out).mono ?_; rintro e u1 ⟨rfl, j1⟩; have S1 : Hid (Kp [] F u1) := j1; clear c40 c41 c42 c43 c44 c45 c50 c51 c52 c53 c54 c55; obtain ⟨d40, d41, d42, d43, d44, d45⟩ := (T4k.out _ S1.out).six; obtain ⟨d50, d51, d52, d53, d54, d55⟩ := (T5k.out _ S1.out).six))
                have KE : Hid (Kp [] w u3) := KF.out.trans S3.out (fun z hz => by simp at hz)
                clear d60 d61 d62 d63 d64 d65 H1 H2 H3 T4k T5k T6k
                go_wp2
                go_roundw
                case measure => simp [intOf]
                case rel => exact ⟨2, by rfl, by omega, KE.out⟩
              · go_upto_region 26 with fail
                obtain ⟨V, hV⟩ : ∃ V, V = (wr.alloc (.cells #[.int .i64 (b : Int), .int .i64 0, .string ⟨#[]⟩, .slice none 0 0, .string ⟨#[116]⟩, .slice none 0 0] 25)) := ⟨_, rfl⟩
                rw [← hV]
                have kV : Kp [] wr V := by rw [hV]; exact (Kp.refl _ _).alloc _
                have T4 : At V s #[.int .i64 (b : Int), .int .i64 0, .string ⟨#[]⟩, .slice none 0 0, .string ⟨#[116]⟩, .slice none 0 0] 25 := by rw [hV, ← hs]; exact At.new _ _ _
                have NX : Nd Any V ((b : Int), 0, ⟨#[]⟩, [], ⟨#[116]⟩) .nil ((none, 0, 0), (none, 0, 0)) := Nd.bare _ _ _ _ _ _ (Rt.nil _ _ none 0)
                have SX : small ((b : Int), 0, ⟨#[]⟩, [], ⟨#[116]⟩) := bare_small (by decide) (by decide)
                have EX : Fo.Each small .nil := trivial
                have CX : Fo.cnt .nil ≤ 10 := by decide
                obtain ⟨X, hX⟩ : ∃ X : Lb, X = ((b : Int), 0, ⟨#[]⟩, [], ⟨#[116]⟩) := ⟨_, rfl⟩
                obtain ⟨KX, hKX⟩ : ∃ K : Fo, K = .nil := ⟨_, rfl⟩
                obtain ⟨PX, hPX⟩ : ∃ P : Pl, P = ((none, 0, 0), (none, 0, 0)) := ⟨_, rfl⟩
                rw [← hX] at NX SX
                rw [← hKX] at NX EX CX
                rw [← hPX] at NX
                have T4x := T4
                obtain ⟨c40, c41, c42, c43, c44, c45⟩ := T4.six
                obtain ⟨n, hn⟩ : ∃ n, V.heap.size = n := ⟨_, rfl⟩
                clear hV
                go_upto_region 27 with fail
                clear c40 c41 c42 c43 c44 c45
                obtain ⟨F1, hF, f1, f2, f3, kF1⟩ := three V (.cells #[.int .i64 (b : Int), .int .i64 0, .string ⟨#[]⟩, .slice none 0 0, .string ⟨#[116]⟩, .slice none 0 0] 25) (.cells #[.int .i64 ((a : Int) - 1), .int .i64 1, .string ⟨#[100, 105, 118]⟩, .slice none 0 0, .string ⟨#[]⟩, .slice (some ⟨n, 0, none⟩) 1 1] 25) (.cells #[.int .i64 1, .int .i64 0, .string ⟨#[]⟩, .slice none 0 0, .string ⟨#[]⟩, .slice (some ⟨n + 1, 0, none⟩) 1 1] 25) n hn
                rw [hF]
                clear hF
                have T4 := T4.kept kF1 (by simp)
                have NX := NX.kept kF1
                obtain ⟨c40, c41, c42, c43, c44, c45⟩ := T4.six
                obtain ⟨m, hm⟩ : ∃ m, F1.heap.size = m := ⟨_, rfl⟩
                go_upto_region 28 with fail
                clear c40 c41 c42 c43 c44 c45
                obtain ⟨F, hF, f4, f5, kF2⟩ := two F1 (.cells #[.int .i64 (b : Int), .int .i64 0, .string ⟨#[]⟩, .slice none 0 0, .string ⟨#[116]⟩, .slice none 0 0, .int .i64 (b : Int), .int .i64 0, .string ⟨#[]⟩, .slice none 0 0, .string ⟨#[116]⟩, .slice none 0 0] 25) (.cells #[.int .i64 1, .int .i64 0, .string ⟨#[]⟩, .slice none 0 0, .string ⟨#[]⟩, .slice (some ⟨m, 0, none⟩) 2 2] 25) m hm
                rw [hF]
                clear hF
                have f1 : At F n _ _ := At.kept (show At F1 n _ _ from f1) kF2 (by simp)
                have f2 : At F (n + 1) _ _ := At.kept (show At F1 (n + 1) _ _ from f2) kF2 (by simp)
                have f3 : At F (n + 1 + 1) _ _ := At.kept (show At F1 (n + 1 + 1) _ _ from f3) kF2 (by simp)
                have kF : Kp [] V F := kF1.trans kF2 (fun z hz => by simp at hz)
                have NX := NX.kept kF2
                have T4 := T4.kept kF2 (by simp)
                have NY : Nd Any F lD (.cons ((a : Int) - 1, 1, DIV, [], ⟨#[]⟩) (.cons X KX .nil) .nil) ((none, 0, 0), (some ⟨n + 1, 0, none⟩, 1, 1)) := Nd.bare _ _ _ _ _ _ (Rt.one (p := ((none, 0, 0), (some ⟨n, 0, none⟩, 1, 1))) f2 rfl trivial (Nd.bare _ _ _ _ _ _ (Rt.one (p := PX) f1 (by rw [hX, hPX]; rfl) trivial NX)))
                have NZ : Nd Any F lD (.cons X KX (.cons X KX .nil)) ((none, 0, 0), (some ⟨m, 0, none⟩, 2, 2)) := Nd.bare _ _ _ _ _ _ (Rt.two (p := PX) (q := PX) f4 (by rw [hX, hPX]; rfl) trivial NX NX)
                have hz : (⟨#[]⟩ : ByteArray).size ≤ 100 := by decide
                have hd : DIV.size ≤ 100 := by decide
                have tX : Tiny X KX := ⟨SX, EX, by omega⟩
                have tY : Tiny lD (.cons ((a : Int) - 1, 1, DIV, [], ⟨#[]⟩) (.cons X KX .nil) .nil) := ⟨bare_small hz hz, ⟨bare_small hd hz, ⟨SX, EX, trivial⟩, trivial⟩, by simp; omega⟩
                have tZ : Tiny lD (.cons X KX (.cons X KX .nil)) := ⟨bare_small hz hz, ⟨SX, EX, SX, EX, trivial⟩, by simp; omega⟩
                have H1 : Hid (∀ W, Kp [] F W → Calls Try.prog 9 #[wv X PX, wv lD ((none, 0, 0), (some ⟨n + 1, 0, none⟩, 1, 1))] W fun e w' => e = .returned (.bool true) ∧ Kp [] W w') := fun W kW => both_any W X KX PX lD _ _ (NX.kept kW) (NY.kept kW) tX tY
                have H2 : Hid (∀ W, Kp [] F W → Calls Try.prog 9 #[wv lD ((none, 0, 0), (some ⟨n + 1, 0, none⟩, 1, 1)), wv X PX] W fun e w' => e = .returned (.bool true) ∧ Kp [] W w') := fun W kW => both_any W lD _ _ X KX PX (NY.kept kW) (NX.kept kW) tY tX
                have H3 : Hid (∀ W, Kp [] F W → Calls Try.prog 9 #[wv lD ((none, 0, 0), (some ⟨m, 0, none⟩, 2, 2)), wv lD ((none, 0, 0), (some ⟨m, 0, none⟩, 2, 2))] W fun e w' => e = .returned (.bool true) ∧ Kp [] W w') := fun W kW => both_any W lD _ _ lD _ _ (NZ.kept kW) (NZ.kept kW) tZ tZ
                rw [hX, hPX] at H1 H2
                simp only [wv, lD] at H1 H2 H3
                have T4k : Hid (∀ W, Kp [] F W → At W s #[.int .i64 (b : Int), .int .i64 0, .string ⟨#[]⟩, .slice none 0 0, .string ⟨#[116]⟩, .slice none 0 0] 25) := fun W kW => T4.kept kW (by simp)
                have T5k : Hid (∀ W, Kp [] F W → At W (n + 1 + 1) #[.int .i64 1, .int .i64 0, .string ⟨#[]⟩, .slice none 0 0, .string ⟨#[]⟩, .slice (some ⟨n + 1, 0, none⟩) 1 1] 25) := fun W kW => At.kept (show At F (n + 1 + 1) _ 25 from f3) kW (by simp)
                have T6k : Hid (∀ W, Kp [] F W → At W (m + 1) #[.int .i64 1, .int .i64 0, .string ⟨#[]⟩, .slice none 0 0, .string ⟨#[]⟩, .slice (some ⟨m, 0, none⟩) 2 2] 25) := fun W kW => At.kept (show At F (m + 1) _ 25 from f5) kW (by simp)
                have K0 : Hid (Kp [] F F) := Kp.refl _ _
                have KF : Hid (Kp [] w F) := (kc.trans kV (fun z hz => by simp at hz)).trans kF (fun z hz => by simp at hz)
                clear NX NY NZ tX tY tZ T4 T4x SX EX CX f1 f2 f3 f4 f5 hn hm kF kF1 kF2 kV hs hz hd hX hKX hPX
                obtain ⟨c40, c41, c42, c43, c44, c45⟩ := (T4k.out _ K0.out).six
                obtain ⟨c50, c51, c52, c53, c54, c55⟩ := (T5k.out _ K0.out).six
                go_upto_region 9 with (first
                  | (have D := S2.out; go_at_call 9; refine (H3.out _ S2.out).mono ?_; rintro e u3 ⟨rfl, j3⟩; have S3 : Hid (Kp [] F u3) := S2.out.trans j3 (fun z hz => by simp at hz))
                  | (have D := S1.out; go_at_call 9; refine (H2.out _ S1.out).mono ?_; rintro e u2 ⟨rfl, j2⟩; have S2 : Hid (Kp [] F u2) := S1.out.trans j2 (fun z hz => by simp at hz); clear d40 d41 d42 d43 d44 d45 d50 d51 d52 d53 d54 d55; obtain ⟨d60, d61, d62, d63, d64, d65⟩ := (T6k.out _ S2.out).six)
                  | (go_at_call 9; refine (H1.out _ K0.out).mono ?_; rintro e u1 ⟨rfl, j1⟩; have S1 : Hid (Kp [] F u1) := j1; clear c40 c41 c42 c43 c44 c45 c50 c51 c52 c53 c54 c55; obtain ⟨d40, d41, d42, d43, d44, d45⟩ := (T4k.out _ S1.out).six; obtain ⟨d50, d51, d52, d53, d54, d55⟩ := (T5k.out _ S1.out).six))
                have KE : Hid (Kp [] w u3) := KF.out.trans S3.out (fun z hz => by simp at hz)
                clear d60 d61 d62 d63 d64 d65 H1 H2 H3 T4k T5k T6k
                go_wp2
                go_roundw
                case measure => simp [intOf]
                case rel => exact ⟨3, by rfl, by omega, KE.out⟩
              · go_upto_region 26 with fail
                obtain ⟨V, hV⟩ : ∃ V, V = (wr.alloc (.cells #[.int .i64 (b : Int), .int .i64 1, .string ⟨#[116, 101, 109, 112, 108, 97, 116, 101]⟩, .slice none 0 0, .string ⟨#[]⟩, .slice none 0 0] 25)) := ⟨_, rfl⟩
                rw [← hV]
                have kV : Kp [] wr V := by rw [hV]; exact (Kp.refl _ _).alloc _
                have T4 : At V s #[.int .i64 (b : Int), .int .i64 1, .string ⟨#[116, 101, 109, 112, 108, 97, 116, 101]⟩, .slice none 0 0, .string ⟨#[]⟩, .slice none 0 0] 25 := by rw [hV, ← hs]; exact At.new _ _ _
                have NX : Nd Any V ((b : Int), 1, ⟨#[116, 101, 109, 112, 108, 97, 116, 101]⟩, [], ⟨#[]⟩) .nil ((none, 0, 0), (none, 0, 0)) := Nd.bare _ _ _ _ _ _ (Rt.nil _ _ none 0)
                have SX : small ((b : Int), 1, ⟨#[116, 101, 109, 112, 108, 97, 116, 101]⟩, [], ⟨#[]⟩) := bare_small (by decide) (by decide)
                have EX : Fo.Each small .nil := trivial
                have CX : Fo.cnt .nil ≤ 10 := by decide
                obtain ⟨X, hX⟩ : ∃ X : Lb, X = ((b : Int), 1, ⟨#[116, 101, 109, 112, 108, 97, 116, 101]⟩, [], ⟨#[]⟩) := ⟨_, rfl⟩
                obtain ⟨KX, hKX⟩ : ∃ K : Fo, K = .nil := ⟨_, rfl⟩
                obtain ⟨PX, hPX⟩ : ∃ P : Pl, P = ((none, 0, 0), (none, 0, 0)) := ⟨_, rfl⟩
                rw [← hX] at NX SX
                rw [← hKX] at NX EX CX
                rw [← hPX] at NX
                have T4x := T4
                obtain ⟨c40, c41, c42, c43, c44, c45⟩ := T4.six
                obtain ⟨n, hn⟩ : ∃ n, V.heap.size = n := ⟨_, rfl⟩
                clear hV
                go_upto_region 27 with fail
                clear c40 c41 c42 c43 c44 c45
                obtain ⟨F1, hF, f1, f2, f3, kF1⟩ := three V (.cells #[.int .i64 (b : Int), .int .i64 1, .string ⟨#[116, 101, 109, 112, 108, 97, 116, 101]⟩, .slice none 0 0, .string ⟨#[]⟩, .slice none 0 0] 25) (.cells #[.int .i64 ((a : Int) - 1), .int .i64 1, .string ⟨#[100, 105, 118]⟩, .slice none 0 0, .string ⟨#[]⟩, .slice (some ⟨n, 0, none⟩) 1 1] 25) (.cells #[.int .i64 1, .int .i64 0, .string ⟨#[]⟩, .slice none 0 0, .string ⟨#[]⟩, .slice (some ⟨n + 1, 0, none⟩) 1 1] 25) n hn
                rw [hF]
                clear hF
                have T4 := T4.kept kF1 (by simp)
                have NX := NX.kept kF1
                obtain ⟨c40, c41, c42, c43, c44, c45⟩ := T4.six
                obtain ⟨m, hm⟩ : ∃ m, F1.heap.size = m := ⟨_, rfl⟩
                go_upto_region 28 with fail
                clear c40 c41 c42 c43 c44 c45
                obtain ⟨F, hF, f4, f5, kF2⟩ := two F1 (.cells #[.int .i64 (b : Int), .int .i64 1, .string ⟨#[116, 101, 109, 112, 108, 97, 116, 101]⟩, .slice none 0 0, .string ⟨#[]⟩, .slice none 0 0, .int .i64 (b : Int), .int .i64 1, .string ⟨#[116, 101, 109, 112, 108, 97, 116, 101]⟩, .slice none 0 0, .string ⟨#[]⟩, .slice none 0 0] 25) (.cells #[.int .i64 1, .int .i64 0, .string ⟨#[]⟩, .slice none 0 0, .string ⟨#[]⟩, .slice (some ⟨m, 0, none⟩) 2 2] 25) m hm
                rw [hF]
                clear hF
                have f1 : At F n _ _ := At.kept (show At F1 n _ _ from f1) kF2 (by simp)
                have f2 : At F (n + 1) _ _ := At.kept (show At F1 (n + 1) _ _ from f2) kF2 (by simp)
                have f3 : At F (n + 1 + 1) _ _ := At.kept (show At F1 (n + 1 + 1) _ _ from f3) kF2 (by simp)
                have kF : Kp [] V F := kF1.trans kF2 (fun z hz => by simp at hz)
                have NX := NX.kept kF2
                have T4 := T4.kept kF2 (by simp)
                have NY : Nd Any F lD (.cons ((a : Int) - 1, 1, DIV, [], ⟨#[]⟩) (.cons X KX .nil) .nil) ((none, 0, 0), (some ⟨n + 1, 0, none⟩, 1, 1)) := Nd.bare _ _ _ _ _ _ (Rt.one (p := ((none, 0, 0), (some ⟨n, 0, none⟩, 1, 1))) f2 rfl trivial (Nd.bare _ _ _ _ _ _ (Rt.one (p := PX) f1 (by rw [hX, hPX]; rfl) trivial NX)))
                have NZ : Nd Any F lD (.cons X KX (.cons X KX .nil)) ((none, 0, 0), (some ⟨m, 0, none⟩, 2, 2)) := Nd.bare _ _ _ _ _ _ (Rt.two (p := PX) (q := PX) f4 (by rw [hX, hPX]; rfl) trivial NX NX)
                have hz : (⟨#[]⟩ : ByteArray).size ≤ 100 := by decide
                have hd : DIV.size ≤ 100 := by decide
                have tX : Tiny X KX := ⟨SX, EX, by omega⟩
                have tY : Tiny lD (.cons ((a : Int) - 1, 1, DIV, [], ⟨#[]⟩) (.cons X KX .nil) .nil) := ⟨bare_small hz hz, ⟨bare_small hd hz, ⟨SX, EX, trivial⟩, trivial⟩, by simp; omega⟩
                have tZ : Tiny lD (.cons X KX (.cons X KX .nil)) := ⟨bare_small hz hz, ⟨SX, EX, SX, EX, trivial⟩, by simp; omega⟩
                have H1 : Hid (∀ W, Kp [] F W → Calls Try.prog 9 #[wv X PX, wv lD ((none, 0, 0), (some ⟨n + 1, 0, none⟩, 1, 1))] W fun e w' => e = .returned (.bool true) ∧ Kp [] W w') := fun W kW => both_any W X KX PX lD _ _ (NX.kept kW) (NY.kept kW) tX tY
                have H2 : Hid (∀ W, Kp [] F W → Calls Try.prog 9 #[wv lD ((none, 0, 0), (some ⟨n + 1, 0, none⟩, 1, 1)), wv X PX] W fun e w' => e = .returned (.bool true) ∧ Kp [] W w') := fun W kW => both_any W lD _ _ X KX PX (NY.kept kW) (NX.kept kW) tY tX
                have H3 : Hid (∀ W, Kp [] F W → Calls Try.prog 9 #[wv lD ((none, 0, 0), (some ⟨m, 0, none⟩, 2, 2)), wv lD ((none, 0, 0), (some ⟨m, 0, none⟩, 2, 2))] W fun e w' => e = .returned (.bool true) ∧ Kp [] W w') := fun W kW => both_any W lD _ _ lD _ _ (NZ.kept kW) (NZ.kept kW) tZ tZ
                rw [hX, hPX] at H1 H2
                simp only [wv, lD] at H1 H2 H3
                have T4k : Hid (∀ W, Kp [] F W → At W s #[.int .i64 (b : Int), .int .i64 1, .string ⟨#[116, 101, 109, 112, 108, 97, 116, 101]⟩, .slice none 0 0, .string ⟨#[]⟩, .slice none 0 0] 25) := fun W kW => T4.kept kW (by simp)
                have T5k : Hid (∀ W, Kp [] F W → At W (n + 1 + 1) #[.int .i64 1, .int .i64 0, .string ⟨#[]⟩, .slice none 0 0, .string ⟨#[]⟩, .slice (some ⟨n + 1, 0, none⟩) 1 1] 25) := fun W kW => At.kept (show At F (n + 1 + 1) _ 25 from f3) kW (by simp)
                have T6k : Hid (∀ W, Kp [] F W → At W (m + 1) #[.int .i64 1, .int .i64 0, .string ⟨#[]⟩, .slice none 0 0, .string ⟨#[]⟩, .slice (some ⟨m, 0, none⟩) 2 2] 25) := fun W kW => At.kept (show At F (m + 1) _ 25 from f5) kW (by simp)
                have K0 : Hid (Kp [] F F) := Kp.refl _ _
                have KF : Hid (Kp [] w F) := (kc.trans kV (fun z hz => by simp at hz)).trans kF (fun z hz => by simp at hz)
                clear NX NY NZ tX tY tZ T4 T4x SX EX CX f1 f2 f3 f4 f5 hn hm kF kF1 kF2 kV hs hz hd hX hKX hPX
                obtain ⟨c40, c41, c42, c43, c44, c45⟩ := (T4k.out _ K0.out).six
                obtain ⟨c50, c51, c52, c53, c54, c55⟩ := (T5k.out _ K0.out).six
                go_upto_region 9 with (first
                  | (have D := S2.out; go_at_call 9; refine (H3.out _ S2.out).mono ?_; rintro e u3 ⟨rfl, j3⟩; have S3 : Hid (Kp [] F u3) := S2.out.trans j3 (fun z hz => by simp at hz))
                  | (have D := S1.out; go_at_call 9; refine (H2.out _ S1.out).mono ?_; rintro e u2 ⟨rfl, j2⟩; have S2 : Hid (Kp [] F u2) := S1.out.trans j2 (fun z hz => by simp at hz); clear d40 d41 d42 d43 d44 d45 d50 d51 d52 d53 d54 d55; obtain ⟨d60, d61, d62, d63, d64, d65⟩ := (T6k.out _ S2.out).six)
                  | (go_at_call 9; refine (H1.out _ K0.out).mono ?_; rintro e u1 ⟨rfl, j1⟩; have S1 : Hid (Kp [] F u1) := j1; clear c40 c41 c42 c43 c44 c45 c50 c51 c52 c53 c54 c55; obtain ⟨d40, d41, d42, d43, d44, d45⟩ := (T4k.out _ S1.out).six; obtain ⟨d50, d51, d52, d53, d54, d55⟩ := (T5k.out _ S1.out).six))
                have KE : Hid (Kp [] w u3) := KF.out.trans S3.out (fun z hz => by simp at hz)
                clear d60 d61 d62 d63 d64 d65 H1 H2 H3 T4k T5k T6k
                go_wp2
                go_roundw
                case measure => simp [intOf]
                case rel => exact ⟨4, by rfl, by omega, KE.out⟩
              · go_upto_region 26 with fail
                obtain ⟨V, hV⟩ : ∃ V, V = ((wr.alloc (.cells #[.int .i64 (b : Int), .int .i64 1, .string ⟨#[116, 101, 109, 112, 108, 97, 116, 101]⟩, .slice none 0 0, .string ⟨#[]⟩, .slice (some ⟨s + 1, 0, none⟩) 1 1] 25)).alloc (.cells #[.int .i64 6, .int .i64 0, .string ⟨#[]⟩, .slice none 0 0, .string ⟨#[]⟩, .slice none 0 0] 25)) := ⟨_, rfl⟩
                rw [← hV]
                have kV : Kp [] wr V := by rw [hV]; exact ((Kp.refl _ _).alloc _).alloc _
                have T4 : At V s #[.int .i64 (b : Int), .int .i64 1, .string ⟨#[116, 101, 109, 112, 108, 97, 116, 101]⟩, .slice none 0 0, .string ⟨#[]⟩, .slice (some ⟨s + 1, 0, none⟩) 1 1] 25 := by rw [hV, ← hs]; exact (At.new _ _ _).kept ((Kp.refl [] _).alloc _) (by simp)
                have E4 : V.heap[s + 1]? = some (.cells #[.int .i64 6, .int .i64 0, .string ⟨#[]⟩, .slice none 0 0, .string ⟨#[]⟩, .slice none 0 0] 25) := by rw [hV]; exact heap_new' _ _ _ (by simp [hs])
                have NX : Nd Any V ((b : Int), 1, ⟨#[116, 101, 109, 112, 108, 97, 116, 101]⟩, [], ⟨#[]⟩) (.cons (6, 0, ⟨#[]⟩, [], ⟨#[]⟩) .nil .nil) ((none, 0, 0), (some ⟨s + 1, 0, none⟩, 1, 1)) := Nd.bare _ _ _ _ _ _ (Rt.one (p := ((none, 0, 0), (none, 0, 0))) E4 rfl trivial (Nd.bare _ _ _ _ _ _ (Rt.nil _ _ none 0)))
                have SX : small ((b : Int), 1, ⟨#[116, 101, 109, 112, 108, 97, 116, 101]⟩, [], ⟨#[]⟩) := bare_small (by decide) (by decide)
                have EX : Fo.Each small (.cons (6, 0, ⟨#[]⟩, [], ⟨#[]⟩) .nil .nil) := ⟨bare_small (by decide) (by decide), trivial, trivial⟩
                have CX : Fo.cnt (.cons (6, 0, ⟨#[]⟩, [], ⟨#[]⟩) .nil .nil) ≤ 10 := by decide
                obtain ⟨X, hX⟩ : ∃ X : Lb, X = ((b : Int), 1, ⟨#[116, 101, 109, 112, 108, 97, 116, 101]⟩, [], ⟨#[]⟩) := ⟨_, rfl⟩
                obtain ⟨KX, hKX⟩ : ∃ K : Fo, K = (.cons (6, 0, ⟨#[]⟩, [], ⟨#[]⟩) .nil .nil) := ⟨_, rfl⟩
                obtain ⟨PX, hPX⟩ : ∃ P : Pl, P = ((none, 0, 0), (some ⟨s + 1, 0, none⟩, 1, 1)) := ⟨_, rfl⟩
                rw [← hX] at NX SX
                rw [← hKX] at NX EX CX
                rw [← hPX] at NX
                have T4x := T4
                obtain ⟨c40, c41, c42, c43, c44, c45⟩ := T4.six
                obtain ⟨n, hn⟩ : ∃ n, V.heap.size = n := ⟨_, rfl⟩
                clear hV E4
                go_upto_region 27 with fail
                clear c40 c41 c42 c43 c44 c45
                obtain ⟨F1, hF, f1, f2, f3, kF1⟩ := three V (.cells #[.int .i64 (b : Int), .int .i64 1, .string ⟨#[116, 101, 109, 112, 108, 97, 116, 101]⟩, .slice none 0 0, .string ⟨#[]⟩, .slice (some ⟨s + 1, 0, none⟩) 1 1] 25) (.cells #[.int .i64 ((a : Int) - 1), .int .i64 1, .string ⟨#[100, 105, 118]⟩, .slice none 0 0, .string ⟨#[]⟩, .slice (some ⟨n, 0, none⟩) 1 1] 25) (.cells #[.int .i64 1, .int .i64 0, .string ⟨#[]⟩, .slice none 0 0, .string ⟨#[]⟩, .slice (some ⟨n + 1, 0, none⟩) 1 1] 25) n hn
                rw [hF]
                clear hF
                have T4 := T4.kept kF1 (by simp)
                have NX := NX.kept kF1
                obtain ⟨c40, c41, c42, c43, c44, c45⟩ := T4.six
                obtain ⟨m, hm⟩ : ∃ m, F1.heap.size = m := ⟨_, rfl⟩
                go_upto_region 28 with fail
                clear c40 c41 c42 c43 c44 c45
                obtain ⟨F, hF, f4, f5, kF2⟩ := two F1 (.cells #[.int .i64 (b : Int), .int .i64 1, .string ⟨#[116, 101, 109, 112, 108, 97, 116, 101]⟩, .slice none 0 0, .string ⟨#[]⟩, .slice (some ⟨s + 1, 0, none⟩) 1 1, .int .i64 (b : Int), .int .i64 1, .string ⟨#[116, 101, 109, 112, 108, 97, 116, 101]⟩, .slice none 0 0, .string ⟨#[]⟩, .slice (some ⟨s + 1, 0, none⟩) 1 1] 25) (.cells #[.int .i64 1, .int .i64 0, .string ⟨#[]⟩, .slice none 0 0, .string ⟨#[]⟩, .slice (some ⟨m, 0, none⟩) 2 2] 25) m hm
                rw [hF]
                clear hF
                have f1 : At F n _ _ := At.kept (show At F1 n _ _ from f1) kF2 (by simp)
                have f2 : At F (n + 1) _ _ := At.kept (show At F1 (n + 1) _ _ from f2) kF2 (by simp)
                have f3 : At F (n + 1 + 1) _ _ := At.kept (show At F1 (n + 1 + 1) _ _ from f3) kF2 (by simp)
                have kF : Kp [] V F := kF1.trans kF2 (fun z hz => by simp at hz)
                have NX := NX.kept kF2
                have T4 := T4.kept kF2 (by simp)
                have NY : Nd Any F lD (.cons ((a : Int) - 1, 1, DIV, [], ⟨#[]⟩) (.cons X KX .nil) .nil) ((none, 0, 0), (some ⟨n + 1, 0, none⟩, 1, 1)) := Nd.bare _ _ _ _ _ _ (Rt.one (p := ((none, 0, 0), (some ⟨n, 0, none⟩, 1, 1))) f2 rfl trivial (Nd.bare _ _ _ _ _ _ (Rt.one (p := PX) f1 (by rw [hX, hPX]; rfl) trivial NX)))
                have NZ : Nd Any F lD (.cons X KX (.cons X KX .nil)) ((none, 0, 0), (some ⟨m, 0, none⟩, 2, 2)) := Nd.bare _ _ _ _ _ _ (Rt.two (p := PX) (q := PX) f4 (by rw [hX, hPX]; rfl) trivial NX NX)
                have hz : (⟨#[]⟩ : ByteArray).size ≤ 100 := by decide
                have hd : DIV.size ≤ 100 := by decide
                have tX : Tiny X KX := ⟨SX, EX, by omega⟩
                have tY : Tiny lD (.cons ((a : Int) - 1, 1, DIV, [], ⟨#[]⟩) (.cons X KX .nil) .nil) := ⟨bare_small hz hz, ⟨bare_small hd hz, ⟨SX, EX, trivial⟩, trivial⟩, by simp; omega⟩
                have tZ : Tiny lD (.cons X KX (.cons X KX .nil)) := ⟨bare_small hz hz, ⟨SX, EX, SX, EX, trivial⟩, by simp; omega⟩
                have H1 : Hid (∀ W, Kp [] F W → Calls Try.prog 9 #[wv X PX, wv lD ((none, 0, 0), (some ⟨n + 1, 0, none⟩, 1, 1))] W fun e w' => e = .returned (.bool true) ∧ Kp [] W w') := fun W kW => both_any W X KX PX lD _ _ (NX.kept kW) (NY.kept kW) tX tY
                have H2 : Hid (∀ W, Kp [] F W → Calls Try.prog 9 #[wv lD ((none, 0, 0), (some ⟨n + 1, 0, none⟩, 1, 1)), wv X PX] W fun e w' => e = .returned (.bool true) ∧ Kp [] W w') := fun W kW => both_any W lD _ _ X KX PX (NY.kept kW) (NX.kept kW) tY tX
                have H3 : Hid (∀ W, Kp [] F W → Calls Try.prog 9 #[wv lD ((none, 0, 0), (some ⟨m, 0, none⟩, 2, 2)), wv lD ((none, 0, 0), (some ⟨m, 0, none⟩, 2, 2))] W fun e w' => e = .returned (.bool true) ∧ Kp [] W w') := fun W kW => both_any W lD _ _ lD _ _ (NZ.kept kW) (NZ.kept kW) tZ tZ
                rw [hX, hPX] at H1 H2
                simp only [wv, lD] at H1 H2 H3
                have T4k : Hid (∀ W, Kp [] F W → At W s #[.int .i64 (b : Int), .int .i64 1, .string ⟨#[116, 101, 109, 112, 108, 97, 116, 101]⟩, .slice none 0 0, .string ⟨#[]⟩, .slice (some ⟨s + 1, 0, none⟩) 1 1] 25) := fun W kW => T4.kept kW (by simp)
                have T5k : Hid (∀ W, Kp [] F W → At W (n + 1 + 1) #[.int .i64 1, .int .i64 0, .string ⟨#[]⟩, .slice none 0 0, .string ⟨#[]⟩, .slice (some ⟨n + 1, 0, none⟩) 1 1] 25) := fun W kW => At.kept (show At F (n + 1 + 1) _ 25 from f3) kW (by simp)
                have T6k : Hid (∀ W, Kp [] F W → At W (m + 1) #[.int .i64 1, .int .i64 0, .string ⟨#[]⟩, .slice none 0 0, .string ⟨#[]⟩, .slice (some ⟨m, 0, none⟩) 2 2] 25) := fun W kW => At.kept (show At F (m + 1) _ 25 from f5) kW (by simp)
                have K0 : Hid (Kp [] F F) := Kp.refl _ _
                have KF : Hid (Kp [] w F) := (kc.trans kV (fun z hz => by simp at hz)).trans kF (fun z hz => by simp at hz)
                clear NX NY NZ tX tY tZ T4 T4x SX EX CX f1 f2 f3 f4 f5 hn hm kF kF1 kF2 kV hs hz hd hX hKX hPX
                obtain ⟨c40, c41, c42, c43, c44, c45⟩ := (T4k.out _ K0.out).six
                obtain ⟨c50, c51, c52, c53, c54, c55⟩ := (T5k.out _ K0.out).six
                go_upto_region 9 with (first
                  | (have D := S2.out; go_at_call 9; refine (H3.out _ S2.out).mono ?_; rintro e u3 ⟨rfl, j3⟩; have S3 : Hid (Kp [] F u3) := S2.out.trans j3 (fun z hz => by simp at hz))
                  | (have D := S1.out; go_at_call 9; refine (H2.out _ S1.out).mono ?_; rintro e u2 ⟨rfl, j2⟩; have S2 : Hid (Kp [] F u2) := S1.out.trans j2 (fun z hz => by simp at hz); clear d40 d41 d42 d43 d44 d45 d50 d51 d52 d53 d54 d55; obtain ⟨d60, d61, d62, d63, d64, d65⟩ := (T6k.out _ S2.out).six)
                  | (go_at_call 9; refine (H1.out _ K0.out).mono ?_; rintro e u1 ⟨rfl, j1⟩; have S1 : Hid (Kp [] F u1) := j1; clear c40 c41 c42 c43 c44 c45 c50 c51 c52 c53 c54 c55; obtain ⟨d40, d41, d42, d43, d44, d45⟩ := (T4k.out _ S1.out).six; obtain ⟨d50, d51, d52, d53, d54, d55⟩ := (T5k.out _ S1.out).six))
                have KE : Hid (Kp [] w u3) := KF.out.trans S3.out (fun z hz => by simp at hz)
                clear d60 d61 d62 d63 d64 d65 H1 H2 H3 T4k T5k T6k
                go_wp2
                go_roundw
                case measure => simp [intOf]
                case rel => exact ⟨5, by rfl, by omega, KE.out⟩
              · go_upto_region 26 with fail
                obtain ⟨V, hV⟩ : ∃ V, V = ((wr.alloc (.cells #[.int .i64 (b : Int), .int .i64 2, .string ⟨#[103]⟩, .slice (some ⟨s + 1, 0, none⟩) 2 2, .string ⟨#[]⟩, .slice none 0 0] 25)).alloc (.cells #[.string ⟨#[97]⟩, .string ⟨#[]⟩, .string ⟨#[97]⟩, .string ⟨#[]⟩] 27)) := ⟨_, rfl⟩
                rw [← hV]
                have kV : Kp [] wr V := by rw [hV]; exact ((Kp.refl _ _).alloc _).alloc _
                have T4 : At V s #[.int .i64 (b : Int), .int .i64 2, .string ⟨#[103]⟩, .slice (some ⟨s + 1, 0, none⟩) 2 2, .string ⟨#[]⟩, .slice none 0 0] 25 := by rw [hV, ← hs]; exact (At.new _ _ _).kept ((Kp.refl [] _).alloc _) (by simp)
                have E4 : V.heap[s + 1]? = some (.cells #[.string ⟨#[97]⟩, .string ⟨#[]⟩, .string ⟨#[97]⟩, .string ⟨#[]⟩] 27) := by rw [hV]; exact heap_new' _ _ _ (by simp [hs])
                have NX : Nd Any V ((b : Int), 2, ⟨#[103]⟩, [(⟨#[97]⟩, ⟨#[]⟩), (⟨#[97]⟩, ⟨#[]⟩)], ⟨#[]⟩) .nil ((some ⟨s + 1, 0, none⟩, 2, 2), (none, 0, 0)) := ⟨⟨rfl, Nat.le_refl _, fun _ => ⟨s + 1, 0, _, _, trivial, rfl, E4, fun j _ => by rw [Nat.zero_add]; simp [cs]⟩⟩, Rt.nil _ _ _ _⟩
                have e1 : (⟨#[103]⟩ : ByteArray).size ≤ 100 := by decide
                have e2 : (⟨#[]⟩ : ByteArray).size ≤ 100 := by decide
                have e3 : (⟨#[97]⟩ : ByteArray).size ≤ 100 := by decide
                have SX : small ((b : Int), 2, ⟨#[103]⟩, [(⟨#[97]⟩, ⟨#[]⟩), (⟨#[97]⟩, ⟨#[]⟩)], ⟨#[]⟩) := ⟨e1, e2, by show 2 ≤ 6; omega, fun a ha => by simp [Lb.attrs] at ha; rw [ha]; exact ⟨e3, e2⟩⟩
                clear e1 e2 e3
                have EX : Fo.Each small .nil := trivial
                have CX : Fo.cnt .nil ≤ 10 := by decide
                obtain ⟨X, hX⟩ : ∃ X : Lb, X = ((b : Int), 2, ⟨#[103]⟩, [(⟨#[97]⟩, ⟨#[]⟩), (⟨#[97]⟩, ⟨#[]⟩)], ⟨#[]⟩) := ⟨_, rfl⟩
                obtain ⟨KX, hKX⟩ : ∃ K : Fo, K = .nil := ⟨_, rfl⟩
                obtain ⟨PX, hPX⟩ : ∃ P : Pl, P = ((some ⟨s + 1, 0, none⟩, 2, 2), (none, 0, 0)) := ⟨_, rfl⟩
                rw [← hX] at NX SX
                rw [← hKX] at NX EX CX
                rw [← hPX] at NX
                have T4x := T4
                obtain ⟨c40, c41, c42, c43, c44, c45⟩ := T4.six
                obtain ⟨n, hn⟩ : ∃ n, V.heap.size = n := ⟨_, rfl⟩
                clear hV E4
                go_upto_region 27 with fail
                clear c40 c41 c42 c43 c44 c45
                obtain ⟨F1, hF, f1, f2, f3, kF1⟩ := three V (.cells #[.int .i64 (b : Int), .int .i64 2, .string ⟨#[103]⟩, .slice (some ⟨s + 1, 0, none⟩) 2 2, .string ⟨#[]⟩, .slice none 0 0] 25) (.cells #[.int .i64 ((a : Int) - 1), .int .i64 1, .string ⟨#[100, 105, 118]⟩, .slice none 0 0, .string ⟨#[]⟩, .slice (some ⟨n, 0, none⟩) 1 1] 25) (.cells #[.int .i64 1, .int .i64 0, .string ⟨#[]⟩, .slice none 0 0, .string ⟨#[]⟩, .slice (some ⟨n + 1, 0, none⟩) 1 1] 25) n hn
                rw [hF]
                clear hF
                have T4 := T4.kept kF1 (by simp)
                have NX := NX.kept kF1
                obtain ⟨c40, c41, c42, c43, c44, c45⟩ := T4.six
                obtain ⟨m, hm⟩ : ∃ m, F1.heap.size = m := ⟨_, rfl⟩
                go_upto_region 28 with fail
                clear c40 c41 c42 c43 c44 c45
                obtain ⟨F, hF, f4, f5, kF2⟩ := two F1 (.cells #[.int .i64 (b : Int), .int .i64 2, .string ⟨#[103]⟩, .slice (some ⟨s + 1, 0, none⟩) 2 2, .string ⟨#[]⟩, .slice none 0 0, .int .i64 (b : Int), .int .i64 2, .string ⟨#[103]⟩, .slice (some ⟨s + 1, 0, none⟩) 2 2, .string ⟨#[]⟩, .slice none 0 0] 25) (.cells #[.int .i64 1, .int .i64 0, .string ⟨#[]⟩, .slice none 0 0, .string ⟨#[]⟩, .slice (some ⟨m, 0, none⟩) 2 2] 25) m hm
                rw [hF]
                clear hF
                have f1 : At F n _ _ := At.kept (show At F1 n _ _ from f1) kF2 (by simp)
                have f2 : At F (n + 1) _ _ := At.kept (show At F1 (n + 1) _ _ from f2) kF2 (by simp)
                have f3 : At F (n + 1 + 1) _ _ := At.kept (show At F1 (n + 1 + 1) _ _ from f3) kF2 (by simp)
                have kF : Kp [] V F := kF1.trans kF2 (fun z hz => by simp at hz)
                have NX := NX.kept kF2
                have T4 := T4.kept kF2 (by simp)
                have NY : Nd Any F lD (.cons ((a : Int) - 1, 1, DIV, [], ⟨#[]⟩) (.cons X KX .nil) .nil) ((none, 0, 0), (some ⟨n + 1, 0, none⟩, 1, 1)) := Nd.bare _ _ _ _ _ _ (Rt.one (p := ((none, 0, 0), (some ⟨n, 0, none⟩, 1, 1))) f2 rfl trivial (Nd.bare _ _ _ _ _ _ (Rt.one (p := PX) f1 (by rw [hX, hPX]; rfl) trivial NX)))
                have NZ : Nd Any F lD (.cons X KX (.cons X KX .nil)) ((none, 0, 0), (some ⟨m, 0, none⟩, 2, 2)) := Nd.bare _ _ _ _ _ _ (Rt.two (p := PX) (q := PX) f4 (by rw [hX, hPX]; rfl) trivial NX NX)
                have hz : (⟨#[]⟩ : ByteArray).size ≤ 100 := by decide
                have hd : DIV.size ≤ 100 := by decide
                have tX : Tiny X KX := ⟨SX, EX, by omega⟩
                have tY : Tiny lD (.cons ((a : Int) - 1, 1, DIV, [], ⟨#[]⟩) (.cons X KX .nil) .nil) := ⟨bare_small hz hz, ⟨bare_small hd hz, ⟨SX, EX, trivial⟩, trivial⟩, by simp; omega⟩
                have tZ : Tiny lD (.cons X KX (.cons X KX .nil)) := ⟨bare_small hz hz, ⟨SX, EX, SX, EX, trivial⟩, by simp; omega⟩
                have H1 : Hid (∀ W, Kp [] F W → Calls Try.prog 9 #[wv X PX, wv lD ((none, 0, 0), (some ⟨n + 1, 0, none⟩, 1, 1))] W fun e w' => e = .returned (.bool true) ∧ Kp [] W w') := fun W kW => both_any W X KX PX lD _ _ (NX.kept kW) (NY.kept kW) tX tY
                have H2 : Hid (∀ W, Kp [] F W → Calls Try.prog 9 #[wv lD ((none, 0, 0), (some ⟨n + 1, 0, none⟩, 1, 1)), wv X PX] W fun e w' => e = .returned (.bool true) ∧ Kp [] W w') := fun W kW => both_any W lD _ _ X KX PX (NY.kept kW) (NX.kept kW) tY tX
                have H3 : Hid (∀ W, Kp [] F W → Calls Try.prog 9 #[wv lD ((none, 0, 0), (some ⟨m, 0, none⟩, 2, 2)), wv lD ((none, 0, 0), (some ⟨m, 0, none⟩, 2, 2))] W fun e w' => e = .returned (.bool true) ∧ Kp [] W w') := fun W kW => both_any W lD _ _ lD _ _ (NZ.kept kW) (NZ.kept kW) tZ tZ
                rw [hX, hPX] at H1 H2
                simp only [wv, lD] at H1 H2 H3
                have T4k : Hid (∀ W, Kp [] F W → At W s #[.int .i64 (b : Int), .int .i64 2, .string ⟨#[103]⟩, .slice (some ⟨s + 1, 0, none⟩) 2 2, .string ⟨#[]⟩, .slice none 0 0] 25) := fun W kW => T4.kept kW (by simp)
                have T5k : Hid (∀ W, Kp [] F W → At W (n + 1 + 1) #[.int .i64 1, .int .i64 0, .string ⟨#[]⟩, .slice none 0 0, .string ⟨#[]⟩, .slice (some ⟨n + 1, 0, none⟩) 1 1] 25) := fun W kW => At.kept (show At F (n + 1 + 1) _ 25 from f3) kW (by simp)
                have T6k : Hid (∀ W, Kp [] F W → At W (m + 1) #[.int .i64 1, .int .i64 0, .string ⟨#[]⟩, .slice none 0 0, .string ⟨#[]⟩, .slice (some ⟨m, 0, none⟩) 2 2] 25) := fun W kW => At.kept (show At F (m + 1) _ 25 from f5) kW (by simp)
                have K0 : Hid (Kp [] F F) := Kp.refl _ _
                have KF : Hid (Kp [] w F) := (kc.trans kV (fun z hz => by simp at hz)).trans kF (fun z hz => by simp at hz)
                clear NX NY NZ tX tY tZ T4 T4x SX EX CX f1 f2 f3 f4 f5 hn hm kF kF1 kF2 kV hs hz hd hX hKX hPX
                obtain ⟨c40, c41, c42, c43, c44, c45⟩ := (T4k.out _ K0.out).six
                obtain ⟨c50, c51, c52, c53, c54, c55⟩ := (T5k.out _ K0.out).six
                go_upto_region 9 with (first
                  | (have D := S2.out; go_at_call 9; refine (H3.out _ S2.out).mono ?_; rintro e u3 ⟨rfl, j3⟩; have S3 : Hid (Kp [] F u3) := S2.out.trans j3 (fun z hz => by simp at hz))
                  | (have D := S1.out; go_at_call 9; refine (H2.out _ S1.out).mono ?_; rintro e u2 ⟨rfl, j2⟩; have S2 : Hid (Kp [] F u2) := S1.out.trans j2 (fun z hz => by simp at hz); clear d40 d41 d42 d43 d44 d45 d50 d51 d52 d53 d54 d55; obtain ⟨d60, d61, d62, d63, d64, d65⟩ := (T6k.out _ S2.out).six)
                  | (go_at_call 9; refine (H1.out _ K0.out).mono ?_; rintro e u1 ⟨rfl, j1⟩; have S1 : Hid (Kp [] F u1) := j1; clear c40 c41 c42 c43 c44 c45 c50 c51 c52 c53 c54 c55; obtain ⟨d40, d41, d42, d43, d44, d45⟩ := (T4k.out _ S1.out).six; obtain ⟨d50, d51, d52, d53, d54, d55⟩ := (T5k.out _ S1.out).six))
                have KE : Hid (Kp [] w u3) := KF.out.trans S3.out (fun z hz => by simp at hz)
                clear d60 d61 d62 d63 d64 d65 H1 H2 H3 T4k T5k T6k
                go_wp2
                go_roundw
                case measure => simp [intOf]
                case rel => exact ⟨6, by rfl, by omega, KE.out⟩
              · go_upto_region 26 with fail
                obtain ⟨V, hV⟩ : ∃ V, V = (wr.alloc (.cells #[.int .i64 (b : Int), .int .i64 0, .string ⟨#[104, 116, 109, 108]⟩, .slice none 0 0, .string ⟨#[]⟩, .slice none 0 0] 25)) := ⟨_, rfl⟩
                rw [← hV]
                have kV : Kp [] wr V := by rw [hV]; exact (Kp.refl _ _).alloc _
                have T4 : At V s #[.int .i64 (b : Int), .int .i64 0, .string ⟨#[104, 116, 109, 108]⟩, .slice none 0 0, .string ⟨#[]⟩, .slice none 0 0] 25 := by rw [hV, ← hs]; exact At.new _ _ _
                have NX : Nd Any V ((b : Int), 0, ⟨#[104, 116, 109, 108]⟩, [], ⟨#[]⟩) .nil ((none, 0, 0), (none, 0, 0)) := Nd.bare _ _ _ _ _ _ (Rt.nil _ _ none 0)
                have SX : small ((b : Int), 0, ⟨#[104, 116, 109, 108]⟩, [], ⟨#[]⟩) := bare_small (by decide) (by decide)
                have EX : Fo.Each small .nil := trivial
                have CX : Fo.cnt .nil ≤ 10 := by decide
                obtain ⟨X, hX⟩ : ∃ X : Lb, X = ((b : Int), 0, ⟨#[104, 116, 109, 108]⟩, [], ⟨#[]⟩) := ⟨_, rfl⟩
                obtain ⟨KX, hKX⟩ : ∃ K : Fo, K = .nil := ⟨_, rfl⟩
                obtain ⟨PX, hPX⟩ : ∃ P : Pl, P = ((none, 0, 0), (none, 0, 0)) := ⟨_, rfl⟩
                rw [← hX] at NX SX
                rw [← hKX] at NX EX CX
                rw [← hPX] at NX
                have T4x := T4
                obtain ⟨c40, c41, c42, c43, c44, c45⟩ := T4.six
                obtain ⟨n, hn⟩ : ∃ n, V.heap.size = n := ⟨_, rfl⟩
                clear hV
                go_upto_region 27 with fail
                clear c40 c41 c42 c43 c44 c45
                obtain ⟨F1, hF, f1, f2, f3, kF1⟩ := three V (.cells #[.int .i64 (b : Int), .int .i64 0, .string ⟨#[104, 116, 109, 108]⟩, .slice none 0 0, .string ⟨#[]⟩, .slice none 0 0] 25) (.cells #[.int .i64 ((a : Int) - 1), .int .i64 1, .string ⟨#[100, 105, 118]⟩, .slice none 0 0, .string ⟨#[]⟩, .slice (some ⟨n, 0, none⟩) 1 1] 25) (.cells #[.int .i64 1, .int .i64 0, .string ⟨#[]⟩, .slice none 0 0, .string ⟨#[]⟩, .slice (some ⟨n + 1, 0, none⟩) 1 1] 25) n hn
                rw [hF]
                clear hF
                have T4 := T4.kept kF1 (by simp)
                have NX := NX.kept kF1
                obtain ⟨c40, c41, c42, c43, c44, c45⟩ := T4.six
                obtain ⟨m, hm⟩ : ∃ m, F1.heap.size = m := ⟨_, rfl⟩
                go_upto_region 28 with fail
                clear c40 c41 c42 c43 c44 c45
                obtain ⟨F, hF, f4, f5, kF2⟩ := two F1 (.cells #[.int .i64 (b : Int), .int .i64 0, .string ⟨#[104, 116, 109, 108]⟩, .slice none 0 0, .string ⟨#[]⟩, .slice none 0 0, .int .i64 (b : Int), .int .i64 0, .string ⟨#[104, 116, 109, 108]⟩, .slice none 0 0, .string ⟨#[]⟩, .slice none 0 0] 25) (.cells #[.int .i64 1, .int .i64 0, .string ⟨#[]⟩, .slice none 0 0, .string ⟨#[]⟩, .slice (some ⟨m, 0, none⟩) 2 2] 25) m hm
                rw [hF]
                clear hF
                have f1 : At F n _ _ := At.kept (show At F1 n _ _ from f1) kF2 (by simp)
                have f2 : At F (n + 1) _ _ := At.kept (show At F1 (n + 1) _ _ from f2) kF2 (by simp)
                have f3 : At F (n + 1 + 1) _ _ := At.kept (show At F1 (n + 1 + 1) _ _ from f3) kF2 (by simp)
                have kF : Kp [] V F := kF1.trans kF2 (fun z hz => by simp at hz)
                have NX := NX.kept kF2
                have T4 := T4.kept kF2 (by simp)
                have NY : Nd Any F lD (.cons ((a : Int) - 1, 1, DIV, [], ⟨#[]⟩) (.cons X KX .nil) .nil) ((none, 0, 0), (some ⟨n + 1, 0, none⟩, 1, 1)) := Nd.bare _ _ _ _ _ _ (Rt.one (p := ((none, 0, 0), (some ⟨n, 0, none⟩, 1, 1))) f2 rfl trivial (Nd.bare _ _ _ _ _ _ (Rt.one (p := PX) f1 (by rw [hX, hPX]; rfl) trivial NX)))
                have NZ : Nd Any F lD (.cons X KX (.cons X KX .nil)) ((none, 0, 0), (some ⟨m, 0, none⟩, 2, 2)) := Nd.bare _ _ _ _ _ _ (Rt.two (p := PX) (q := PX) f4 (by rw [hX, hPX]; rfl) trivial NX NX)
                have hz : (⟨#[]⟩ : ByteArray).size ≤ 100 := by decide
                have hd : DIV.size ≤ 100 := by decide
                have tX : Tiny X KX := ⟨SX, EX, by omega⟩
                have tY : Tiny lD (.cons ((a : Int) - 1, 1, DIV, [], ⟨#[]⟩) (.cons X KX .nil) .nil) := ⟨bare_small hz hz, ⟨bare_small hd hz, ⟨SX, EX, trivial⟩, trivial⟩, by simp; omega⟩
                have tZ : Tiny lD (.cons X KX (.cons X KX .nil)) := ⟨bare_small hz hz, ⟨SX, EX, SX, EX, trivial⟩, by simp; omega⟩
                have H1 : Hid (∀ W, Kp [] F W → Calls Try.prog 9 #[wv X PX, wv lD ((none, 0, 0), (some ⟨n + 1, 0, none⟩, 1, 1))] W fun e w' => e = .returned (.bool true) ∧ Kp [] W w') := fun W kW => both_any W X KX PX lD _ _ (NX.kept kW) (NY.kept kW) tX tY
                have H2 : Hid (∀ W, Kp [] F W → Calls Try.prog 9 #[wv lD ((none, 0, 0), (some ⟨n + 1, 0, none⟩, 1, 1)), wv X PX] W fun e w' => e = .returned (.bool true) ∧ Kp [] W w') := fun W kW => both_any W lD _ _ X KX PX (NY.kept kW) (NX.kept kW) tY tX
                have H3 : Hid (∀ W, Kp [] F W → Calls Try.prog 9 #[wv lD ((none, 0, 0), (some ⟨m, 0, none⟩, 2, 2)), wv lD ((none, 0, 0), (some ⟨m, 0, none⟩, 2, 2))] W fun e w' => e = .returned (.bool true) ∧ Kp [] W w') := fun W kW => both_any W lD _ _ lD _ _ (NZ.kept kW) (NZ.kept kW) tZ tZ
                rw [hX, hPX] at H1 H2
                simp only [wv, lD] at H1 H2 H3
                have T4k : Hid (∀ W, Kp [] F W → At W s #[.int .i64 (b : Int), .int .i64 0, .string ⟨#[104, 116, 109, 108]⟩, .slice none 0 0, .string ⟨#[]⟩, .slice none 0 0] 25) := fun W kW => T4.kept kW (by simp)
                have T5k : Hid (∀ W, Kp [] F W → At W (n + 1 + 1) #[.int .i64 1, .int .i64 0, .string ⟨#[]⟩, .slice none 0 0, .string ⟨#[]⟩, .slice (some ⟨n + 1, 0, none⟩) 1 1] 25) := fun W kW => At.kept (show At F (n + 1 + 1) _ 25 from f3) kW (by simp)
                have T6k : Hid (∀ W, Kp [] F W → At W (m + 1) #[.int .i64 1, .int .i64 0, .string ⟨#[]⟩, .slice none 0 0, .string ⟨#[]⟩, .slice (some ⟨m, 0, none⟩) 2 2] 25) := fun W kW => At.kept (show At F (m + 1) _ 25 from f5) kW (by simp)
                have K0 : Hid (Kp [] F F) := Kp.refl _ _
                have KF : Hid (Kp [] w F) := (kc.trans kV (fun z hz => by simp at hz)).trans kF (fun z hz => by simp at hz)
                clear NX NY NZ tX tY tZ T4 T4x SX EX CX f1 f2 f3 f4 f5 hn hm kF kF1 kF2 kV hs hz hd hX hKX hPX
                obtain ⟨c40, c41, c42, c43, c44, c45⟩ := (T4k.out _ K0.out).six
                obtain ⟨c50, c51, c52, c53, c54, c55⟩ := (T5k.out _ K0.out).six
                go_upto_region 9 with (first
                  | (have D := S2.out; go_at_call 9; refine (H3.out _ S2.out).mono ?_; rintro e u3 ⟨rfl, j3⟩; have S3 : Hid (Kp [] F u3) := S2.out.trans j3 (fun z hz => by simp at hz))
                  | (have D := S1.out; go_at_call 9; refine (H2.out _ S1.out).mono ?_; rintro e u2 ⟨rfl, j2⟩; have S2 : Hid (Kp [] F u2) := S1.out.trans j2 (fun z hz => by simp at hz); clear d40 d41 d42 d43 d44 d45 d50 d51 d52 d53 d54 d55; obtain ⟨d60, d61, d62, d63, d64, d65⟩ := (T6k.out _ S2.out).six)
                  | (go_at_call 9; refine (H1.out _ K0.out).mono ?_; rintro e u1 ⟨rfl, j1⟩; have S1 : Hid (Kp [] F u1) := j1; clear c40 c41 c42 c43 c44 c45 c50 c51 c52 c53 c54 c55; obtain ⟨d40, d41, d42, d43, d44, d45⟩ := (T4k.out _ S1.out).six; obtain ⟨d50, d51, d52, d53, d54, d55⟩ := (T5k.out _ S1.out).six))
                have KE : Hid (Kp [] w u3) := KF.out.trans S3.out (fun z hz => by simp at hz)
                clear d60 d61 d62 d63 d64 d65 H1 H2 H3 T4k T5k T6k
                go_wp2
                go_roundw
                case measure => simp [intOf]
                case rel => exact ⟨7, by rfl, by omega, KE.out⟩
              · go_upto_region 26 with fail
                obtain ⟨V, hV⟩ : ∃ V, V = ((wr.alloc (.cells #[.int .i64 (b : Int), .int .i64 2, .string ⟨#[116, 101, 109, 112, 108, 97, 116, 101]⟩, .slice none 0 0, .string ⟨#[]⟩, .slice (some ⟨s + 1, 0, none⟩) 2 2] 25)).alloc (.cells #[.int .i64 4, .int .i64 0, .string ⟨#[]⟩, .slice none 0 0, .string ⟨#[97]⟩, .slice none 0 0, .int .i64 4, .int .i64 0, .string ⟨#[]⟩, .slice none 0 0, .string ⟨#[98]⟩, .slice none 0 0] 25)) := ⟨_, rfl⟩
                rw [← hV]
                have kV : Kp [] wr V := by rw [hV]; exact ((Kp.refl _ _).alloc _).alloc _
                have T4 : At V s #[.int .i64 (b : Int), .int .i64 2, .string ⟨#[116, 101, 109, 112, 108, 97, 116, 101]⟩, .slice none 0 0, .string ⟨#[]⟩, .slice (some ⟨s + 1, 0, none⟩) 2 2] 25 := by rw [hV, ← hs]; exact (At.new _ _ _).kept ((Kp.refl [] _).alloc _) (by simp)
                have E4 : V.heap[s + 1]? = some (.cells #[.int .i64 4, .int .i64 0, .string ⟨#[]⟩, .slice none 0 0, .string ⟨#[97]⟩, .slice none 0 0, .int .i64 4, .int .i64 0, .string ⟨#[]⟩, .slice none 0 0, .string ⟨#[98]⟩, .slice none 0 0] 25) := by rw [hV]; exact heap_new' _ _ _ (by simp [hs])
                have NX : Nd Any V ((b : Int), 2, ⟨#[116, 101, 109, 112, 108, 97, 116, 101]⟩, [], ⟨#[]⟩) (.cons (4, 0, ⟨#[]⟩, [], ⟨#[97]⟩) .nil (.cons (4, 0, ⟨#[]⟩, [], ⟨#[98]⟩) .nil .nil)) ((none, 0, 0), (some ⟨s + 1, 0, none⟩, 2, 2)) := Nd.bare _ _ _ _ _ _ (Rt.two (p := ((none, 0, 0), (none, 0, 0))) (q := ((none, 0, 0), (none, 0, 0))) E4 rfl trivial (Nd.bare _ _ _ _ _ _ (Rt.nil _ _ none 0)) (Nd.bare _ _ _ _ _ _ (Rt.nil _ _ none 0)))
                have SX : small ((b : Int), 2, ⟨#[116, 101, 109, 112, 108, 97, 116, 101]⟩, [], ⟨#[]⟩) := bare_small (by decide) (by decide)
                have EX : Fo.Each small (.cons (4, 0, ⟨#[]⟩, [], ⟨#[97]⟩) .nil (.cons (4, 0, ⟨#[]⟩, [], ⟨#[98]⟩) .nil .nil)) := ⟨bare_small (by decide) (by decide), trivial, bare_small (by decide) (by decide), trivial, trivial⟩
                have CX : Fo.cnt (.cons (4, 0, ⟨#[]⟩, [], ⟨#[97]⟩) .nil (.cons (4, 0, ⟨#[]⟩, [], ⟨#[98]⟩) .nil .nil)) ≤ 10 := by decide
                obtain ⟨X, hX⟩ : ∃ X : Lb, X = ((b : Int), 2, ⟨#[116, 101, 109, 112, 108, 97, 116, 101]⟩, [], ⟨#[]⟩) := ⟨_, rfl⟩
                obtain ⟨KX, hKX⟩ : ∃ K : Fo, K = (.cons (4, 0, ⟨#[]⟩, [], ⟨#[97]⟩) .nil (.cons (4, 0, ⟨#[]⟩, [], ⟨#[98]⟩) .nil .nil)) := ⟨_, rfl⟩
                obtain ⟨PX, hPX⟩ : ∃ P : Pl, P = ((none, 0, 0), (some ⟨s + 1, 0, none⟩, 2, 2)) := ⟨_, rfl⟩
                rw [← hX] at NX SX
                rw [← hKX] at NX EX CX
                rw [← hPX] at NX
                have T4x := T4
                obtain ⟨c40, c41, c42, c43, c44, c45⟩ := T4.six
                obtain ⟨n, hn⟩ : ∃ n, V.heap.size = n := ⟨_, rfl⟩
                clear hV E4
                go_upto_region 27 with fail
                clear c40 c41 c42 c43 c44 c45
                obtain ⟨F1, hF, f1, f2, f3, kF1⟩ := three V (.cells #[.int .i64 (b : Int), .int .i64 2, .string ⟨#[116, 101, 109, 112, 108, 97, 116, 101]⟩, .slice none 0 0, .string ⟨#[]⟩, .slice (some ⟨s + 1, 0, none⟩) 2 2] 25) (.cells #[.int .i64 ((a : Int) - 1), .int .i64 1, .string ⟨#[100, 105, 118]⟩, .slice none 0 0, .string ⟨#[]⟩, .slice (some ⟨n, 0, none⟩) 1 1] 25) (.cells #[.int .i64 1, .int .i64 0, .string ⟨#[]⟩, .slice none 0 0, .string ⟨#[]⟩, .slice (some ⟨n + 1, 0, none⟩) 1 1] 25) n hn
                rw [hF]
                clear hF
                have T4 := T4.kept kF1 (by simp)
                have NX := NX.kept kF1
                obtain ⟨c40, c41, c42, c43, c44, c45⟩ := T4.six
                obtain ⟨m, hm⟩ : ∃ m, F1.heap.size = m := ⟨_, rfl⟩
                go_upto_region 28 with fail
                clear c40 c41 c42 c43 c44 c45
                obtain ⟨F, hF, f4, f5, kF2⟩ := two F1 (.cells #[.int .i64 (b : Int), .int .i64 2, .string ⟨#[116, 101, 109, 112, 108, 97, 116, 101]⟩, .slice none 0 0, .string ⟨#[]⟩, .slice (some ⟨s + 1, 0, none⟩) 2 2, .int .i64 (b : Int), .int .i64 2, .string ⟨#[116, 101, 109, 112, 108, 97, 116, 101]⟩, .slice none 0 0, .string ⟨#[]⟩, .slice (some ⟨s + 1, 0, none⟩) 2 2] 25) (.cells #[.int .i64 1, .int .i64 0, .string ⟨#[]⟩, .slice none 0 0, .string ⟨#[]⟩, .slice (some ⟨m, 0, none⟩) 2 2] 25) m hm
                rw [hF]
                clear hF
                have f1 : At F n _ _ := At.kept (show At F1 n _ _ from f1) kF2 (by simp)
                have f2 : At F (n + 1) _ _ := At.kept (show At F1 (n + 1) _ _ from f2) kF2 (by simp)
                have f3 : At F (n + 1 + 1) _ _ := At.kept (show At F1 (n + 1 + 1) _ _ from f3) kF2 (by simp)
                have kF : Kp [] V F := kF1.trans kF2 (fun z hz => by simp at hz)
                have NX := NX.kept kF2
                have T4 := T4.kept kF2 (by simp)
                have NY : Nd Any F lD (.cons ((a : Int) - 1, 1, DIV, [], ⟨#[]⟩) (.cons X KX .nil) .nil) ((none, 0, 0), (some ⟨n + 1, 0, none⟩, 1, 1)) := Nd.bare _ _ _ _ _ _ (Rt.one (p := ((none, 0, 0), (some ⟨n, 0, none⟩, 1, 1))) f2 rfl trivial (Nd.bare _ _ _ _ _ _ (Rt.one (p := PX) f1 (by rw [hX, hPX]; rfl) trivial NX)))
                have NZ : Nd Any F lD (.cons X KX (.cons X KX .nil)) ((none, 0, 0), (some ⟨m, 0, none⟩, 2, 2)) := Nd.bare _ _ _ _ _ _ (Rt.two (p := PX) (q := PX) f4 (by rw [hX, hPX]; rfl) trivial NX NX)
                have hz : (⟨#[]⟩ : ByteArray).size ≤ 100 := by decide
                have hd : DIV.size ≤ 100 := by decide
                have tX : Tiny X KX := ⟨SX, EX, by omega⟩
                have tY : Tiny lD (.cons ((a : Int) - 1, 1, DIV, [], ⟨#[]⟩) (.cons X KX .nil) .nil) := ⟨bare_small hz hz, ⟨bare_small hd hz, ⟨SX, EX, trivial⟩, trivial⟩, by simp; omega⟩
                have tZ : Tiny lD (.cons X KX (.cons X KX .nil)) := ⟨bare_small hz hz, ⟨SX, EX, SX, EX, trivial⟩, by simp; omega⟩
                have H1 : Hid (∀ W, Kp [] F W → Calls Try.prog 9 #[wv X PX, wv lD ((none, 0, 0), (some ⟨n + 1, 0, none⟩, 1, 1))] W fun e w' => e = .returned (.bool true) ∧ Kp [] W w') := fun W kW => both_any W X KX PX lD _ _ (NX.kept kW) (NY.kept kW) tX tY
                have H2 : Hid (∀ W, Kp [] F W → Calls Try.prog 9 #[wv lD ((none, 0, 0), (some ⟨n + 1, 0, none⟩, 1, 1)), wv X PX] W fun e w' => e = .returned (.bool true) ∧ Kp [] W w') := fun W kW => both_any W lD _ _ X KX PX (NY.kept kW) (NX.kept kW) tY tX
                have H3 : Hid (∀ W, Kp [] F W → Calls Try.prog 9 #[wv lD ((none, 0, 0), (some ⟨m, 0, none⟩, 2, 2)), wv lD ((none, 0, 0), (some ⟨m, 0, none⟩, 2, 2))] W fun e w' => e = .returned (.bool true) ∧ Kp [] W w') := fun W kW => both_any W lD _ _ lD _ _ (NZ.kept kW) (NZ.kept kW) tZ tZ
                rw [hX, hPX] at H1 H2
                simp only [wv, lD] at H1 H2 H3
                have T4k : Hid (∀ W, Kp [] F W → At W s #[.int .i64 (b : Int), .int .i64 2, .string ⟨#[116, 101, 109, 112, 108, 97, 116, 101]⟩, .slice none 0 0, .string ⟨#[]⟩, .slice (some ⟨s + 1, 0, none⟩) 2 2] 25) := fun W kW => T4.kept kW (by simp)
                have T5k : Hid (∀ W, Kp [] F W → At W (n + 1 + 1) #[.int .i64 1, .int .i64 0, .string ⟨#[]⟩, .slice none 0 0, .string ⟨#[]⟩, .slice (some ⟨n + 1, 0, none⟩) 1 1] 25) := fun W kW => At.kept (show At F (n + 1 + 1) _ 25 from f3) kW (by simp)
                have T6k : Hid (∀ W, Kp [] F W → At W (m + 1) #[.int .i64 1, .int .i64 0, .string ⟨#[]⟩, .slice none 0 0, .string ⟨#[]⟩, .slice (some ⟨m, 0, none⟩) 2 2] 25) := fun W kW => At.kept (show At F (m + 1) _ 25 from f5) kW (by simp)
                have K0 : Hid (Kp [] F F) := Kp.refl _ _
                have KF : Hid (Kp [] w F) := (kc.trans kV (fun z hz => by simp at hz)).trans kF (fun z hz => by simp at hz)
                clear NX NY NZ tX tY tZ T4 T4x SX EX CX f1 f2 f3 f4 f5 hn hm kF kF1 kF2 kV hs hz hd hX hKX hPX
                obtain ⟨c40, c41, c42, c43, c44, c45⟩ := (T4k.out _ K0.out).six
                obtain ⟨c50, c51, c52, c53, c54, c55⟩ := (T5k.out _ K0.out).six
                go_upto_region 9 with (first
                  | (have D := S2.out; go_at_call 9; refine (H3.out _ S2.out).mono ?_; rintro e u3 ⟨rfl, j3⟩; have S3 : Hid (Kp [] F u3) := S2.out.trans j3 (fun z hz => by simp at hz))
                  | (have D := S1.out; go_at_call 9; refine (H2.out _ S1.out).mono ?_; rintro e u2 ⟨rfl, j2⟩; have S2 : Hid (Kp [] F u2) := S1.out.trans j2 (fun z hz => by simp at hz); clear d40 d41 d42 d43 d44 d45 d50 d51 d52 d53 d54 d55; obtain ⟨d60, d61, d62, d63, d64, d65⟩ := (T6k.out _ S2.out).six)
                  | (go_at_call 9; refine (H1.out _ K0.out).mono ?_; rintro e u1 ⟨rfl, j1⟩; have S1 : Hid (Kp [] F u1) := j1; clear c40 c41 c42 c43 c44 c45 c50 c51 c52 c53 c54 c55; obtain ⟨d40, d41, d42, d43, d44, d45⟩ := (T4k.out _ S1.out).six; obtain ⟨d50, d51, d52, d53, d54, d55⟩ := (T5k.out _ S1.out).six))
                have KE : Hid (Kp [] w u3) := KF.out.trans S3.out (fun z hz => by simp at hz)
                clear d60 d61 d62 d63 d64 d65 H1 H2 H3 T4k T5k T6k
                go_wp2
                go_roundw
                case measure => simp [intOf]
                case rel => exact ⟨8, by rfl, by omega, KE.out⟩
            · obtain rfl : c = 8 := by omega
              go_wp2
              go_roundw
              case measure => simp [intOf]; omega
              case rel => exact ⟨b + 1, by go_num, by omega, kc⟩
        · obtain rfl : b = 8 := by omega
          go_wp2
          go_roundw
          case measure => simp [intOf]; omega
          case rel => exact ⟨a + 1, by go_num, by omega, kb⟩
    · obtain rfl : a = 9 := by omega
      have KA : Hid (Kp [] w wr) := ka
      go_wp2_with (go_at_call 10; refine (known_any _).mono ?_; rintro e u4 ⟨rfl, j4⟩)
      go_ret
      exact ⟨rfl, KA.out.trans j4 (fun z hz => by simp at hz)⟩

end Go.Proofs.Ytgnbafgglkncmaa
