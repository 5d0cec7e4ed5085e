/- The law's own helpers on heaps: the marks found again. -/
import Derived.Test.YtljcgfgkfkoeeaaGreatDoorGrl
namespace Go.Proofs.YtljcgfgkfkoeeaaGreatDoor
open Go.RowKit Fl
theorem gsmall_num : ∀ k : Fin 256, nan32 (floatOfInt .f32 k.val) = false := by decide +kernel
theorem gsmall_ord (k : Nat) (h : k < 256) : FloatKind.f32.format.order (floatOfInt .f32 k) (floatOfInt .f32 k) = some .eq := by
  have := gsmall_num ⟨k, h⟩
  rw [ord32, this]; rfl
theorem gsmall_ord' (k : Nat) (i : Int) (h : i = (k : Nat)) (hk : k < 256) : FloatKind.f32.format.order (floatOfInt .f32 i) (floatOfInt .f32 i) = some .eq := by subst h; exact gsmall_ord k hk
set_option maxRecDepth 100000 in
set_option maxHeartbeats 3200000 in
theorem heldGrainS_of (b n c k : Nat) (gs : List Gr) (w : World) (hl : gs.length = n) (hr : GrRow w b gs) (hm : ∀ j, j < n → gs.getD j default = mkd (k + 7 * j)) (hk : k + 7 * n < 200) :
    Calls Tryz.prog 14 #[.slice (some ⟨b, 0, none⟩) n c, .int .i64 k] w fun e w' => e = .returned (.int .i64 ((k + 7 * n : Nat) : Int)) ∧ w = w' := by
  have HL := Lib.hid hl
  have HR := Lib.hid hr
  have HM := Lib.hid hm
  clear hl hr hm
  go_enter Tryz.func14, Tryz.ntmps14
  go_wp2
  go_loop [1, 5] (fun kk i => ∃ j q : Nat, j ≤ n ∧ i = .int .i64 j ∧ kk = .int .i64 q ∧ Hid (q = k + 7 * j) ∧ q < 200) (fun _ i => n - (intOf i).toNat)
  case atStart => exact ⟨0, k, Nat.zero_le _, rfl, rfl, rfl, by omega⟩
  case round =>
    obtain ⟨j, q, hj, rfl, rfl, hq, hq2⟩ := hrel
    by_cases hlt : j < n
    · obtain ⟨c0, c1, c2, c3, c4, c5, c6⟩ := HR.out j (by rw [HL.out]; exact hlt)
      rw [HM.out j hlt, ← hq.out] at c0 c1 c2 c3 c4 c5 c6
      have HQ := Lib.hid (show q + 7 < 256 by rw [hq.out]; omega)
      have m0 := fun w => mark_conv q (by have := HQ.out; omega) w
      have m1 := fun w => mark_conv' q (by have := HQ.out; omega) w
      have o1 : FloatKind.f32.format.order 1065353216 1065353216 = some .eq := by decide
      have q0 := gsmall_ord q (by omega)
      have q1 := gsmall_ord' (q + 1) ((q : Int) + 1) (by omega) (by omega)
      have q2 := gsmall_ord' (q + 2) ((q : Int) + 1 + 1) (by omega) (by omega)
      have q3 := gsmall_ord' (q + 3) ((q : Int) + 1 + 1 + 1) (by omega) (by omega)
      have q4 := gsmall_ord' (q + 4) ((q : Int) + 1 + 1 + 1 + 1) (by omega) (by omega)
      have q5 := gsmall_ord' (q + 5) ((q : Int) + 1 + 1 + 1 + 1 + 1) (by omega) (by omega)
      dsimp only [mkd] at c0 c1 c2 c3 c4 c5 c6
      go_wp2
      go_round
      case rel => exact ⟨j + 1, q + 7, by omega, by go_num, congrArg (Value.int .i64) (by omega), by show q + 7 = _; rw [hq.out]; omega, by have := hq.out; omega⟩
      case measure => simp [intOf]; omega
    · obtain rfl : j = n := by omega
      go_wp2
      go_ret
      exact ⟨by have h9 := hq.out; show Ending.returned (Value.int .i64 (q : Int)) = _; rw [h9]; rfl, rfl⟩

theorem markHeap_of (base b n c k : Nat) (gs : List Gr) (w : World) (hl : gs.length = n) (hown : w.ownsRow base 39 7 (.slice (some ⟨b, 0, none⟩) n c) n (gcells gs)) (hk : k + 7 * n < 200) (hb : b < w.heap.size) :
    Calls Tryz.prog 7 #[.agg #[.slice (some ⟨b, 0, none⟩) n c], .int .i64 k] w fun e w' => e = .returned (.int .i64 ((k + 7 * n : Nat) : Int)) ∧
      w'.ownsRow base 39 7 (.slice (some ⟨b, 0, none⟩) n c) n (gcells (marked gs k n)) ∧ (∀ B w0, Below B w0 w → B ≤ b → Below B w0 w') ∧ (∀ g' t cs, Blk w g' t cs → g' ≠ b → Blk w' g' t cs) := by
  have HC := Lib.hid (markGrainS_of base b n c k gs (w.alloc (.cells #[.slice (some ⟨b, 0, none⟩) n c] 24)) hl (hown.alloc _) hk)
  have HB := Lib.hid hb
  clear hown hl hb
  go_enter Tryz.func7, Tryz.ntmps7
  go_wp2_with (go_at_call 13; ((with_reducible refine (HC.out).mono ?_); rintro e w1 ⟨rfl, ho, h1, h2⟩; have HO := Lib.hid ho; have H1 := Lib.hid h1; have H2 := Lib.hid h2; clear ho h1 h2))
  go_ret
  exact ⟨rfl, HO.out, fun B w0 h hB => H1.out B w0 (h.alloc (Nat.le_trans hB (Nat.le_of_lt HB.out)) _) hB, fun g' t cs h hne => H2.out g' t cs (h.alloc _) hne⟩
/-- a heap without grains -/
theorem markGrainS_none (k : Nat) (w : World) (_hk : k < 200) : Calls Tryz.prog 13 #[.slice none 0 0, .int .i64 k] w fun e w' => e = .returned (.int .i64 k) ∧ w = w' := by
  go_enter Tryz.func13, Tryz.ntmps13
  go_wp2
  refine wp_loop_rounds 1 ?_
  rw [rounds_succ]
  go_wp2
  go_ret
  exact ⟨rfl, rfl⟩
theorem markHeap_none (k : Nat) (w : World) (hk : k < 200) : Calls Tryz.prog 7 #[.agg #[.slice none 0 0], .int .i64 k] w fun e w' => e = .returned (.int .i64 k) ∧ Below w.heap.size w w' := by
  have HC := Lib.hid fun w => markGrainS_none k w hk
  go_enter Tryz.func7, Tryz.ntmps7
  go_wp2_with (go_at_call 13; ((with_reducible refine (HC.out _).mono ?_); rintro e w1 ⟨rfl, rfl⟩))
  go_ret
  exact ⟨rfl, (Below.refl _ _).alloc (Nat.le_refl _) _⟩
theorem heldHeap_of (b n c k : Nat) (gs : List Gr) (w : World) (hl : gs.length = n) (hr : GrRow w b gs) (hm : ∀ j, j < n → gs.getD j default = mkd (k + 7 * j)) (hk : k + 7 * n < 200) :
    Calls Tryz.prog 8 #[.agg #[.slice (some ⟨b, 0, none⟩) n c], .int .i64 k] w fun e w' => e = .returned (.int .i64 ((k + 7 * n : Nat) : Int)) ∧ Below w.heap.size w w' := by
  have hbel := ((Below.refl w.heap.size w).alloc (Nat.le_refl _) (.cells #[.slice (some ⟨b, 0, none⟩) n c] 24))
  have HC := Lib.hid (heldGrainS_of b n c k gs _ hl (hr.below hbel (Nat.le_refl _)) hm hk)
  have HB := Lib.hid hbel
  clear hbel hr hl hm
  have hpos : ((k + 7 * n : Nat) : Int) = (k : Int) + 7 * (n : Int) := by omega
  have HP := Lib.hid hpos
  clear hpos
  go_enter Tryz.func8, Tryz.ntmps8
  go_wp2_with (go_at_call 14; ((with_reducible refine (HC.out).mono ?_); rintro e w1 ⟨rfl, rfl⟩))
  go_ret
  exact ⟨rfl, HB.out⟩
theorem heldGrainS_none (k : Nat) (w : World) (_hk : k < 200) : Calls Tryz.prog 14 #[.slice none 0 0, .int .i64 k] w fun e w' => e = .returned (.int .i64 k) ∧ w = w' := by
  go_enter Tryz.func14, Tryz.ntmps14
  go_wp2
  refine wp_loop_rounds 1 ?_
  rw [rounds_succ]
  go_wp2
  go_ret
  exact ⟨rfl, rfl⟩
theorem heldHeap_none (k : Nat) (w : World) (hk : k < 200) : Calls Tryz.prog 8 #[.agg #[.slice none 0 0], .int .i64 k] w fun e w' => e = .returned (.int .i64 k) ∧ Below w.heap.size w w' := by
  have HC := Lib.hid fun w => heldGrainS_none k w hk
  go_enter Tryz.func8, Tryz.ntmps8
  go_wp2_with (go_at_call 14; ((with_reducible refine (HC.out _).mono ?_); rintro e w1 ⟨rfl, rfl⟩))
  go_ret
  exact ⟨rfl, (Below.refl _ _).alloc (Nat.le_refl _) _⟩
end Go.Proofs.YtljcgfgkfkoeeaaGreatDoor
