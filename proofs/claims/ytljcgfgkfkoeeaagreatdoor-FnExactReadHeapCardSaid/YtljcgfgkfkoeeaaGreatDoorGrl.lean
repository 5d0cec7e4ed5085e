/- The law's own helpers on heaps: two heaps compared, a heap marked, its marks found again. -/
import Derived.Test.YtljcgfgkfkoeeaaGreatDoorGri
import Derived.Test.YtljcgfgkfkoeeaaGreatDoorPhw
namespace Go.Proofs.YtljcgfgkfkoeeaaGreatDoor
open Go.RowKit Fl

/-- all numbers of a grain are no not-a-numbers -/
def Gr.nums (g : Gr) : Bool := !nan32 g.ax && !nan32 g.ay && !nan32 g.sx && !nan32 g.sy && !nan32 g.r && !nan32 g.m && !nan32 g.t && !nan32 g.s
theorem fin_nan {x : Nat} (h : fin32 x = true) : nan32 x = false := by
  unfold fin32 at h; cases hn : nan32 x
  · rfl
  · rw [hn] at h; simp at h
theorem Gr.valid_nums {g : Gr} (h : g.valid = true) : nan32 g.ax = false ∧ nan32 g.ay = false ∧ nan32 g.sx = false ∧ nan32 g.sy = false ∧ nan32 g.r = false ∧ nan32 g.m = false ∧ nan32 g.t = false ∧ nan32 g.s = false := by
  unfold Gr.valid at h
  simp only [Bool.and_eq_true] at h
  obtain ⟨⟨⟨⟨⟨a, b⟩, c, d⟩, ⟨⟨e, f⟩, g'⟩, i⟩, _⟩, _⟩ := h
  exact ⟨fin_nan a, fin_nan b, fin_nan c, fin_nan d, fin_nan e, fin_nan f, fin_nan g', fin_nan i⟩
set_option maxHeartbeats 3200000 in
theorem eqGrain_nums (g : Gr) (w : World) (hv : nan32 g.ax = false ∧ nan32 g.ay = false ∧ nan32 g.sx = false ∧ nan32 g.sy = false ∧ nan32 g.r = false ∧ nan32 g.m = false ∧ nan32 g.t = false ∧ nan32 g.s = false) :
    Calls Tryz.prog 24 #[g.val, g.val] w fun e w' => e = .returned (.bool true) ∧ Below w.heap.size w w' := by
  obtain ⟨n1, n2, n3, n4, n5, n6, n7, n8⟩ := hv
  obtain ⟨ax, ay, sx, sy, r, m, t, s, h⟩ := g
  unfold Gr.val
  dsimp only at n1 n2 n3 n4 n5 n6 n7 n8 ⊢
  have hc1 := fun w => run_cwiden (P := Tryz.prog) 36 52 ax ay w (by kernel_rfl) Tryz.underlying52 n1 n2
  have hc2 := fun w => run_cwiden (P := Tryz.prog) 36 52 sx sy w (by kernel_rfl) Tryz.underlying52 n3 n4
  have w1 := fun w => run_convert_float_float (P := Tryz.prog) w 37 53 .f32 .f64 r (wide r) (by kernel_rfl) Tryz.underlying53 (wide_conv r n5)
  have w2 := fun w => run_convert_float_float (P := Tryz.prog) w 37 53 .f32 .f64 m (wide m) (by kernel_rfl) Tryz.underlying53 (wide_conv m n6)
  have w3 := fun w => run_convert_float_float (P := Tryz.prog) w 37 53 .f32 .f64 t (wide t) (by kernel_rfl) Tryz.underlying53 (wide_conv t n7)
  have w4 := fun w => run_convert_float_float (P := Tryz.prog) w 37 53 .f32 .f64 s (wide s) (by kernel_rfl) Tryz.underlying53 (wide_conv s n8)
  have C1 := Lib.hid fun w => sameComplex_self (wide ax) (wide ay) w (nan_wide ax n1) (nan_wide ay n2)
  have C2 := Lib.hid fun w => sameComplex_self (wide sx) (wide sy) w (nan_wide sx n3) (nan_wide sy n4)
  have F1 := Lib.hid fun w => sameFloat_self (wide r) w (nan_wide r n5)
  have F2 := Lib.hid fun w => sameFloat_self (wide m) w (nan_wide m n6)
  have F3 := Lib.hid fun w => sameFloat_self (wide t) w (nan_wide t n7)
  have F4 := Lib.hid fun w => sameFloat_self (wide s) w (nan_wide s n8)
  clear n1 n2 n3 n4 n5 n6 n7 n8
  go_enter Tryz.func24, Tryz.ntmps24
  go_wp2_with (first | (go_at_call 38; ((with_reducible refine (C1.out _).mono ?_); rintro e w' ⟨rfl, rfl⟩)) | (go_at_call 38; ((with_reducible refine (C2.out _).mono ?_); rintro e w' ⟨rfl, rfl⟩)) | (go_at_call 39; ((with_reducible refine (F1.out _).mono ?_); rintro e w' ⟨rfl, rfl⟩)) | (go_at_call 39; ((with_reducible refine (F2.out _).mono ?_); rintro e w' ⟨rfl, rfl⟩)) | (go_at_call 39; ((with_reducible refine (F3.out _).mono ?_); rintro e w' ⟨rfl, rfl⟩)) | (go_at_call 39; ((with_reducible refine (F4.out _).mono ?_); rintro e w' ⟨rfl, rfl⟩)))
  go_ret
  exact ⟨rfl, ((Below.refl _ _).alloc (Nat.le_refl _) _).alloc (by simp) _⟩
theorem eqGrain_self (g : Gr) (w : World) (hv : g.valid = true) :
    Calls Tryz.prog 24 #[g.val, g.val] w fun e w' => e = .returned (.bool true) ∧ Below w.heap.size w w' := eqGrain_nums g w (Gr.valid_nums hv)
set_option maxHeartbeats 3200000 in
theorem eqGrainS_self (b1 b2 n c1 c2 : Nat) (gs : List Gr) (w : World) (hl : gs.length = n) (h1 : GrRow w b1 gs) (h2 : GrRow w b2 gs) (hv : gs.all Gr.valid = true) (hn : n ≤ 24) :
    Calls Tryz.prog 12 #[.slice (some ⟨b1, 0, none⟩) n c1, .slice (some ⟨b2, 0, none⟩) n c2] w fun e w' => e = .returned (.bool true) ∧ Below w.heap.size w w' := by
  have HL := Lib.hid hl
  have HR1 := Lib.hid h1
  have HR2 := Lib.hid h2
  have HV := Lib.hid hv
  clear hl h1 h2 hv
  go_enter Tryz.func12, Tryz.ntmps12
  go_wp2
  go_loopw [5] (fun i wr => ∃ k : Nat, k ≤ n ∧ i = .int .i64 k ∧ Below w.heap.size w wr) (fun i _ => n - (intOf i).toNat)
  case atStart => exact ⟨0, Nat.zero_le _, rfl, Below.refl _ _⟩
  case round =>
    obtain ⟨k, hk, rfl, hb⟩ := hrel
    by_cases hlt : k < n
    · have HG1 := Lib.hid (HR1.out k (by rw [HL.out]; omega))
      have HG2 := Lib.hid (HR2.out k (by rw [HL.out]; omega))
      have hgv : (gs.getD k default).valid = true := by
        have := List.all_eq_true.1 HV.out (gs.getD k default) (by rw [List.getD_eq_getElem?_getD, List.getElem?_eq_getElem (by rw [HL.out]; omega)]; exact List.getElem_mem _)
        exact this
      generalize gs.getD k default = g at HG1 HG2 hgv
      obtain ⟨h0, h1, h2, h3, h4, h5, h6⟩ := HG1.out.below hb (Nat.le_refl _)
      obtain ⟨g0, g1, g2, g3, g4, g5, g6⟩ := HG2.out.below hb (Nat.le_refl _)
      have HC := Lib.hid fun w' => (show Calls Tryz.prog 24 #[.agg #[.complex .f32 g.ax g.ay, .complex .f32 g.sx g.sy, .float .f32 g.r, .float .f32 g.m, .float .f32 g.t, .float .f32 g.s, .bool g.h], .agg #[.complex .f32 g.ax g.ay, .complex .f32 g.sx g.sy, .float .f32 g.r, .float .f32 g.m, .float .f32 g.t, .float .f32 g.s, .bool g.h]] w' fun e w'' => e = .returned (.bool true) ∧ Below w'.heap.size w' w'' from eqGrain_self g w' hgv)
      have HB := Lib.hid hb
      clear hgv hb HG1 HG2
      go_wp2
      go_region_with (go_at_call 24; ((with_reducible refine (HC.out _).mono ?_); rintro e w1 ⟨rfl, hb1⟩))
      all_goals
        go_wp2
        go_roundw
        case rel => exact ⟨k + 1, by omega, by go_num, Below.trans (below_drewN HB.out _) (hb1.mono HB.out.size)⟩
        case measure => simp [intOf]; omega
    · have HB := Lib.hid hb
      clear hb
      go_wp2
      go_ret
      exact ⟨rfl, HB.out⟩

set_option maxHeartbeats 800000 in
theorem eqHeap_self (b1 b2 n c1 c2 : Nat) (gs : List Gr) (w : World) (hl : gs.length = n) (h1 : GrRow w b1 gs) (h2 : GrRow w b2 gs) (hv : gs.all Gr.valid = true) (hn : n ≤ 24) :
    Calls Tryz.prog 6 #[.agg #[.slice (some ⟨b1, 0, none⟩) n c1], .agg #[.slice (some ⟨b2, 0, none⟩) n c2]] w fun e w' => e = .returned (.bool true) ∧ Below w.heap.size w w' := by
  have hbel := ((Below.refl w.heap.size w).alloc (Nat.le_refl _) (.cells #[.slice (some ⟨b1, 0, none⟩) n c1] 24)).alloc (by simp) (.cells #[.slice (some ⟨b2, 0, none⟩) n c2] 24)
  have HC := Lib.hid (eqGrainS_self b1 b2 n c1 c2 gs _ hl (h1.below hbel (Nat.le_refl _)) (h2.below hbel (Nat.le_refl _)) hv hn)
  have HB := Lib.hid hbel
  clear hbel hl h1 h2 hv
  go_enter Tryz.func6, Tryz.ntmps6
  go_wp2_with (go_at_call 12; ((with_reducible refine (HC.out).mono ?_); rintro e w1 ⟨rfl, hb1⟩))
  go_ret
  exact ⟨rfl, below_next HB.out hb1⟩
/-- both heaps without grains -/
theorem eqGrainS_none (w : World) : Calls Tryz.prog 12 #[.slice none 0 0, .slice none 0 0] w fun e w' => e = .returned (.bool true) ∧ w = w' := by
  go_enter Tryz.func12, Tryz.ntmps12
  go_wp2
  refine wp_loop_rounds 1 ?_
  rw [rounds_succ]
  go_wp2
  go_ret
  exact ⟨rfl, rfl⟩
theorem eqHeap_none (w : World) : Calls Tryz.prog 6 #[.agg #[.slice none 0 0], .agg #[.slice none 0 0]] w fun e w' => e = .returned (.bool true) ∧ Below w.heap.size w w' := by
  have HC := Lib.hid fun w => eqGrainS_none w
  go_enter Tryz.func6, Tryz.ntmps6
  go_wp2_with (go_at_call 12; ((with_reducible refine (HC.out _).mono ?_); rintro e w1 ⟨rfl, rfl⟩))
  go_ret
  exact ⟨rfl, ((Below.refl _ _).alloc (Nat.le_refl _) _).alloc (by simp) _⟩
/-- the grain that the marks from k on make -/
def mkd (k : Nat) : Gr := ⟨floatOfInt .f32 k, 1065353216, floatOfInt .f32 ((k : Int) + 1), 1065353216, floatOfInt .f32 ((k : Int) + 1 + 1), floatOfInt .f32 ((k : Int) + 1 + 1 + 1), floatOfInt .f32 ((k : Int) + 1 + 1 + 1 + 1), floatOfInt .f32 ((k : Int) + 1 + 1 + 1 + 1 + 1), ((k : Int) + 1 + 1 + 1 + 1 + 1 + 1) % 3 == 0⟩
theorem narrow_small : ∀ k : Fin 256, floatToFloatBits .f64 (floatOfInt .f64 k.val) .f32 = some (floatOfInt .f32 k.val) := by decide +kernel
theorem mark_conv (k : Nat) (h : k < 256) (w : World) : (convert 52 36 (.complex .f64 (floatOfInt .f64 k) 4607182418800017408)).run Tryz.prog w = .ok (.complex .f32 (floatOfInt .f32 k) 1065353216) w :=
  run_convert_complex w 52 36 .f64 .f32 _ _ _ _ (by kernel_rfl) Tryz.underlying36 (by
    have h1 := narrow_small ⟨k, h⟩
    have h2 : floatToFloatBits .f64 4607182418800017408 .f32 = some 1065353216 := by decide +kernel
    simp only [cConvBits]
    rw [h1, h2]; rfl)
theorem mark_conv' (k : Nat) (h : k + 1 < 256) (w : World) : (convert 52 36 (.complex .f64 (floatOfInt .f64 ((k : Int) + 1)) 4607182418800017408)).run Tryz.prog w = .ok (.complex .f32 (floatOfInt .f32 ((k : Int) + 1)) 1065353216) w := mark_conv (k + 1) h w
def marked (gs : List Gr) (k i : Nat) : List Gr := (List.range i).map (fun j => mkd (k + 7 * j)) ++ gs.drop i
theorem marked_length (gs : List Gr) (k i : Nat) (h : i ≤ gs.length) : (marked gs k i).length = gs.length := by simp [marked]; omega
theorem marked_set (gs : List Gr) (k i : Nat) (h : i < gs.length) : (marked gs k i).set i (mkd (k + 7 * i)) = marked gs k (i + 1) := by
  unfold marked
  rw [List.set_append_right _ _ (by simp), List.length_map, List.length_range, Nat.sub_self, List.drop_eq_getElem_cons h, List.set_cons_zero, List.range_succ, List.map_append, List.append_assoc]
  rfl
set_option maxHeartbeats 3200000 in
theorem markGrainS_of (base b n c k : Nat) (gs : List Gr) (w : World) (hl : gs.length = n) (hown : w.ownsRow base 39 7 (.slice (some ⟨b, 0, none⟩) n c) n (gcells gs)) (hk : k + 7 * n < 200) :
    Calls Tryz.prog 13 #[.slice (some ⟨b, 0, none⟩) n c, .int .i64 k] w fun e w' => e = .returned (.int .i64 ((k + 7 * n : Nat) : Int)) ∧
      w'.ownsRow base 39 7 (.slice (some ⟨b, 0, none⟩) n c) n (gcells (marked gs k n)) ∧ (∀ B w0, Below B w0 w → B ≤ b → Below B w0 w') ∧ (∀ g' t cs, Blk w g' t cs → g' ≠ b → Blk w' g' t cs) := by
  have HL := Lib.hid hl
  have HO := Lib.hid hown
  clear hl hown
  go_enter Tryz.func13, Tryz.ntmps13
  go_wp2
  go_loopw [1, 5] (fun kk i wr => ∃ j q : Nat, j ≤ n ∧ i = .int .i64 j ∧ kk = .int .i64 q ∧ Hid (q = k + 7 * j) ∧ q < 200 ∧
      wr.ownsRow base 39 7 (.slice (some ⟨b, 0, none⟩) n c) n (gcells (marked gs k j)) ∧ (∀ B w0, Below B w0 w → B ≤ b → Below B w0 wr) ∧ (∀ g' t cs, Blk w g' t cs → g' ≠ b → Blk wr g' t cs)) (fun _ i _ => n - (intOf i).toNat)
  case atStart => exact ⟨0, k, Nat.zero_le _, rfl, rfl, rfl, by omega, HO.out, fun _ _ h _ => h, fun _ _ _ h _ => h⟩
  case round =>
    obtain ⟨j, q, hj, rfl, rfl, hq, hq2, hown, hb, hblk⟩ := hrel
    by_cases hlt : j < n
    · have hgl := marked_length gs k j (by rw [HL.out]; exact hj)
      obtain ⟨c0, c1, c2, c3, c4, c5, c6⟩ := row_of_own hown (by rw [hgl, HL.out]) j (by rw [hgl, HL.out]; exact hlt)
      have f0 := hown.frozenAt (j * 7)
      have f1 := hown.frozenAt (j * 7 + 1)
      have f2 := hown.frozenAt (j * 7 + 2)
      have f3 := hown.frozenAt (j * 7 + 3)
      have f4 := hown.frozenAt (j * 7 + 4)
      have f5 := hown.frozenAt (j * 7 + 5)
      have f6 := hown.frozenAt (j * 7 + 6)
      generalize (marked gs k j).getD j default = old at c0 c1 c2 c3 c4 c5 c6
      have HOw := Lib.hid hown
      have HBb := Lib.hid hb
      have HBk := Lib.hid hblk
      have HQ := Lib.hid (show q + 7 < 256 by rw [hq.out]; omega)
      have m0 := fun w => mark_conv q (by have := HQ.out; omega) w
      have m1 := fun w => mark_conv' q (by have := HQ.out; omega) w
      clear hown hb hblk hgl
      have hsf := run_store_float' Tryz.prog
      have hsc := run_store_complex Tryz.prog
      go_wp2
      go_roundw
      case rel =>
        refine ⟨j + 1, q + 7, by omega, by go_num, congrArg (Value.int .i64) (by omega), by show q + 7 = _; rw [hq.out]; omega, by have := hq.out; omega, ?_, ?_, ?_⟩
        · have h7 := stored7_own HOw.out (k := j) (by rw [marked_length gs k j (by rw [HL.out]; exact hj), HL.out]; exact hlt) (mkd q)
          have e : (marked gs k j).set j (mkd q) = marked gs k (j + 1) := by rw [hq.out]; exact marked_set gs k j (by rw [HL.out]; exact hlt)
          rw [e] at h7
          exact h7
        · exact fun B w0 h hB => stored7_below (HBb.out B w0 h hB) hB j (mkd q)
        · exact fun g' t cs h hne => stored7_blk (HBk.out g' t cs h hne) hne j (mkd q)
      case measure => simp [intOf]; omega
    · obtain rfl : j = n := by omega
      have HOw := Lib.hid hown
      have HBb := Lib.hid hb
      have HBk := Lib.hid hblk
      clear hown hb hblk
      go_wp2
      go_ret
      exact ⟨by rw [← hq.out]; rfl, HOw.out, HBb.out, HBk.out⟩

end Go.Proofs.YtljcgfgkfkoeeaaGreatDoor
