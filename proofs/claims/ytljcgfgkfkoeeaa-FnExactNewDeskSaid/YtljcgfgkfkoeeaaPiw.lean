/- Piles of grains: both sides. -/
import Derived.Test.YtljcgfgkfkoeeaaPi
namespace Go.Proofs.Ytljcgfgkfkoeeaa
open Go.RowKit Fl

theorem ystep {P : Program} (t : TypeId) (r n : Nat) (w : World) : ∃ a y m1 m2, (binOp .mul t (.float .f32 1071494103) (.float .f32 r)).run P w = .ok (.float .f32 a) (w.drewN m1) ∧
    (binOp .mul t (.float .f32 a) (.float .f32 (floatOfInt .f32 n))).run P (w.drewN m1) = .ok (.float .f32 y) (w.drewN (m1 + m2)) ∧ Rep y (pyO r n) := by
  obtain ⟨a, m1, h1, r1⟩ := op_step (P := P) .mul (Or.inr rfl) t (a := 1071494103) (b := r) w (rep_num root3) (rep_num r)
  obtain ⟨y, m2, h2, r2⟩ := op_step (P := P) .mul (Or.inr rfl) t (w.drewN m1) r1 (rep_num (floatOfInt .f32 n))
  exact ⟨a, y, m1, m2, h1, by simpa [World.drewN_drewN] using h2, r2⟩
theorem pstep {P : Program} (t : TypeId) (r n k : Nat) (w : World) : ∃ x m1, (binOp .mul t (.float .f32 r) (.float .f32 (floatOfInt .f32 (2 * (k : Int) + (n : Int))))).run P w = .ok (.float .f32 x) (w.drewN m1) ∧ Rep x (pxO r n k) := by
  obtain ⟨x, m1, h1, r1⟩ := op_step (P := P) .mul (Or.inr rfl) t (a := r) (b := floatOfInt .f32 (2 * (k : Int) + (n : Int))) w (rep_num r) (rep_num _)
  exact ⟨x, m1, h1, r1⟩

set_option maxHeartbeats 3200000 in
theorem l02Pile_of (rows r m : Nat) (w : World) (hn : rows ≤ 6) :
    Calls Try.prog 9 #[.int .i64 rows, .float .f32 r, .float .f32 m] w fun e w' => ∃ (vs : List (Nat × Nat)) (N b c : Nat), vs.length = N ∧ Reps vs (osUp r rows rows) ∧ e = .returned (.agg #[.slice (some ⟨b, 0, none⟩) N c]) ∧
      w'.ownsRow w.heap.size 51 7 (.slice (some ⟨b, 0, none⟩) N c) N (gcells (vs.map (mkP r m))) ∧ Below w.heap.size w w' := by
  obtain ⟨i0, hi, hz0, hz1, hz2⟩ := info_parts ginfo
  go_enter Try.func9, Try.ntmps9
  go_wp2
  go_loopw [8] (fun i wr => ∃ (wo : World) (n N : Nat) (vs : List (Nat × Nat)) (bk ck : Nat), wo = wr ∧ n ≤ rows ∧ i = .int .i64 n ∧ vs.length = N ∧ Hid (Reps vs (osUp r rows n)) ∧
      Blk wr (w.heap.size + 1 + 1) 24 #[.slice (some ⟨bk, 0, none⟩) N ck] ∧ Blk wr w.heap.size 24 #[.slice none 0 0] ∧ wr.ownsRow w.heap.size 51 7 (.slice (some ⟨bk, 0, none⟩) N ck) N (gcells (vs.map (mkP r m))) ∧ Below w.heap.size w wr) (fun i _ => rows - (intOf i).toNat)
  case atStart =>
    refine ⟨_, 0, 0, [], _, _, rfl, Nat.zero_le _, rfl, rfl, Reps.nil, blk_new _ _ _ _ (by simp), ?_, ?_, ?_⟩
    · exact ((blk_new w _ _ _ rfl).alloc _).alloc _
    · have := (own_nil_lit (w.alloc (.cells #[.slice none 0 0] 24)) 51 w.heap.size (by simp)).alloc (.cells #[.slice (some ⟨w.heap.size + 1, 0, none⟩) 0 0] 24)
      simpa using this
    · exact (((Below.refl _ _).alloc (Nat.le_refl _) _).alloc (by simp) _).alloc (by simp; omega) _
  case round =>
    obtain ⟨wo, n, N, vs, bk, ck, rfl, hk, rfl, hvs, hR, hb2, hb0, hown, hbel⟩ := hrel
    by_cases hlt : n < rows
    · obtain ⟨a, y, m1, m2, h1, h2, hy⟩ := ystep (P := Try.prog) 25 r n wo
      have HY := Lib.hid hy
      have HB2 := Lib.hid hb2
      have HB0 := Lib.hid hb0
      have HO := Lib.hid hown
      have HV := Lib.hid hvs
      have HBel := Lib.hid hbel
      clear hb2 hb0 hown hy hvs hbel
      go_wp2
      clear h1 h2
      go_loopw [10] (fun i wq => ∃ (wi : World) (k N : Nat) (vs : List (Nat × Nat)) (bk ck : Nat), wi = wq ∧ k ≤ rows - n ∧ i = .int .i64 k ∧ vs.length = N ∧ Hid (Reps vs (os r rows n k)) ∧
          Blk wq (w.heap.size + 1 + 1) 24 #[.slice (some ⟨bk, 0, none⟩) N ck] ∧ Blk wq w.heap.size 24 #[.slice none 0 0] ∧ wq.ownsRow w.heap.size 51 7 (.slice (some ⟨bk, 0, none⟩) N ck) N (gcells (vs.map (mkP r m))) ∧ Below w.heap.size w wq) (fun i _ => (rows - n) - (intOf i).toNat)
      case atStart => exact ⟨_, 0, N, vs, bk, ck, rfl, Nat.zero_le _, rfl, HV.out, by rw [os_zero]; exact hR, HB2.out.drewN _, HB0.out.drewN _, own_drewN HO.out _, below_drewN HBel.out _⟩
      case round =>
        clear hR HB2 HB0 HO HV HBel
        obtain ⟨wq, k, N', vs', bk', ck', rfl, hk', rfl, hvs, hR, hb2, hb0, hown, hbel⟩ := hrel
        by_cases hlt' : k < rows - n
        · obtain ⟨x, m3, h3, hx⟩ := pstep (P := Try.prog) 25 r n k wq
          have hc : wq.cell? ⟨w.heap.size + 1 + 1, 0, none⟩ = some (.slice (some ⟨bk', 0, none⟩) N' ck') := hb2.cell 0
          have hf := hb2.frozen 0
          have hsz := hbel.size
          have hN : N' ≤ 42 := by have := os_len r rows n k hn hk (by omega); rw [← hR.out.len, hvs] at this; exact this
          have HB2 := Lib.hid hb2
          have HB0 := Lib.hid hb0
          have HO := Lib.hid hown
          have HX := Lib.hid hx
          have HV := Lib.hid hvs
          have HBel := Lib.hid hbel
          clear hb2 hb0 hown hx hvs hbel
          go_wp2_with (at_builtin; go_loud (refine wpList_append_own _ rfl _ _ 22 rfl w.heap.size 51 i0 _ 7 36 Try.underlying22 hi hz0 hz1 hz2 rfl (by decide) (.slice (some ⟨bk', 0, none⟩) N' ck') N' _ rfl ((own_drewN HO.out _).alloc _) ⟨wq.heap.size, 0, none⟩ 1 1 (mkP r m (x, y)).cells rfl rfl (gr_new _ _ _ _) (cells_one _) (by unfold maxLen; omega) (by omega) (by simp; omega) ?_); intro v' w1 hown' hgrow hnil; go_must (obtain ⟨b', c', rfl, hb', -⟩ := own_form hown' (by omega)); have hB2 := Lib.hid (blk_after HB2.out HO.out neGH hgrow); have hB0 := Lib.hid (blk_after HB0.out HO.out neGH hgrow); have hBl := Lib.hid (below_after HBel.out HO.out hgrow); have hc1 := hB2.out.cell 0; have hf1 := hB2.out.frozen 0; have HOwn := Lib.hid hown'; clear hown' hgrow hnil)
          go_roundw
          case rel => exact ⟨_, k + 1, N' + 1, vs' ++ [(x, y)], b', c', rfl, by omega, by go_num, by simp [HV.out], by rw [os_snoc]; exact hR.out.snoc HX.out HY.out, hB2.out.set_ 0 _, hB0.out.far (by show w.heap.size ≠ w.heap.size + 1 + 1; omega) _, by rw [List.map_append, List.map_cons, List.map_nil, gcells_snoc]; exact own_far HOwn.out hB2.out neGH 0 _, hBl.out.setCell (by show w.heap.size ≤ w.heap.size + 1 + 1; omega) _⟩
          case measure => simp [intOf]; omega
        · obtain rfl : k = rows - n := by omega
          have HB2 := Lib.hid hb2
          have HB0 := Lib.hid hb0
          have HO := Lib.hid hown
          have HV := Lib.hid hvs
          have HBel := Lib.hid hbel
          clear hb2 hb0 hown hvs hbel
          go_wp2
          go_roundw
          case rel => exact ⟨_, n + 1, N', vs', bk', ck', rfl, by omega, by go_num, HV.out, hR, HB2.out, HB0.out, HO.out, HBel.out⟩
          case measure => simp [intOf]; omega
    · obtain rfl : n = rows := by omega
      have hc : wo.cell? ⟨w.heap.size + 1 + 1, 0, none⟩ = some (.slice (some ⟨bk, 0, none⟩) N ck) := hb2.cell 0
      have hc0 : wo.cell? ⟨w.heap.size, 0, none⟩ = some (.slice none 0 0) := hb0.cell 0
      have hf0 := hb0.frozen 0
      have HB0 := Lib.hid hb0
      have HV := Lib.hid hvs
      clear hvs
      go_wp2
      have hset := HB0.out.set_ 0 (.slice (some ⟨bk, 0, none⟩) N ck)
      refine bodyPost_ret (v := .agg #[.slice (some ⟨bk, 0, none⟩) N ck]) (results_cell_row Try.results9 _ _ w.heap.size 24 #[.slice (some ⟨bk, 0, none⟩) N ck] (0, 0) _ rfl hset Try.underlying24 rfl (by kernel_rfl)) rfl ⟨vs, N, bk, ck, HV.out, hR.out, rfl, own_far hown hb0 neGH 0 _, hbel.setCell (Nat.le_refl _) _⟩
/-- the limits on rows -/
def inPile (n : Int) : Bool := decide (1 ≤ n) && decide (n ≤ 6)
theorem pile_len (r rows : Nat) (h : rows ≤ 6) : (osUp r rows rows).length ≤ 21 := osUp_all r ⟨rows, by omega⟩

theorem own_after {wr w1 : World} {m : Nat} {o : Obj} {base e size n : Nat} {v v1 : Value} {xs ys : List Value} (_h : wr.ownsRow base e size v n xs) (h1 : w1.ownsRow base e size v1 (n + 1) ys) (_hg : ((wr.drewN m).alloc o).grownBy w1 v.ownBlock) : w1.ownsRow base e size v1 (n + 1) ys := h1
set_option maxHeartbeats 6400000 in
theorem implPile_in (rows r m : Nat) (w : World) (h1 : 1 ≤ rows) (hn : rows ≤ 6) :
    Calls Try.prog 11 #[.int .i64 rows, .float .f32 r, .float .f32 m] w (GaveRow w (pileGs r m rows) (okPile r m rows)) := by
  obtain ⟨i0, hi, hz0, hz1, hz2⟩ := info_parts ginfo
  have HM := Lib.hid fun w => mulNumber_of (a := 1071494103) (b := r) w (rep_num root3) (rep_num r)
  have HN := Lib.hid (pile_len r rows hn)
  have HP := Lib.hid (osUp_pos r rows h1)
  have hB0 : Blk (w.alloc (.cells #[.slice none 0 0] 24)) w.heap.size 24 _ := blk_new w _ _ _ rfl
  have hb0 : Below w.heap.size w (w.alloc (.cells #[.slice none 0 0] 24)) := (Below.refl w.heap.size w).alloc (Nat.le_refl _) _
  have HB0 := Lib.hid hB0
  have HBel := Lib.hid hb0
  clear hB0 hb0
  go_enter Try.func11, Try.ntmps11
  go_wp2
  go_loopw [21, 8] (fun i v wr => ∃ (wo : World) (vo : Value) (n N : Nat) (vs : List (Nat × Nat)), wo = wr ∧ vo = v ∧ n ≤ rows ∧ i = .int .i64 n ∧ vs.length = N ∧ Hid (Reps vs (osUp r rows n)) ∧
      Blk wr w.heap.size 24 #[.slice none 0 0] ∧ Hid (wr.ownsRow w.heap.size 51 7 v N (gcells (vs.map (mkP r m)))) ∧ Below w.heap.size w wr) (fun i _ _ => rows - (intOf i).toNat)
  case atStart => exact ⟨_, _, 0, 0, [], rfl, rfl, Nat.zero_le _, rfl, rfl, Reps.nil, HB0.out, World.ownsRow_nil _ _ _ _, HBel.out⟩
  case round =>
    clear HB0 HBel
    obtain ⟨wo, vo, n, N, vs, rfl, rfl, hk, rfl, hvs, hR, hb0, HO, hbel⟩ := hrel
    by_cases hlt : n < rows
    · have HB0 := Lib.hid hb0
      have HV := Lib.hid hvs
      have HBel := Lib.hid hbel
      clear hb0 hvs hbel
      go_wp2_with (first | (go_at_call 24; ((with_reducible refine (HM.out _).mono ?_); rintro e w1 ⟨v1, m1, rfl, hv1, rfl⟩; have HV1 := Lib.hid hv1; clear hv1)) | (go_at_call 24; ((with_reducible refine (mulNumber_of (a := v1) (b := floatOfInt .f32 n) _ HV1.out (rep_num _)).mono ?_); rintro e w2 ⟨y, m2, rfl, hy, rfl⟩; have HY := Lib.hid (show Rep y (pyO r n) from hy); clear hy)))
      have hnn : (0 : Int) ≤ (rows : Int) - (n : Int) := by omega
      go_loopw [32, 8] (fun i v wq => ∃ (wi : World) (vi : Value) (k N : Nat) (vs : List (Nat × Nat)), wi = wq ∧ vi = v ∧ k ≤ rows - n ∧ i = .int .i64 k ∧ vs.length = N ∧ Hid (Reps vs (os r rows n k)) ∧
          Blk wq w.heap.size 24 #[.slice none 0 0] ∧ Hid (wq.ownsRow w.heap.size 51 7 v N (gcells (vs.map (mkP r m)))) ∧ Below w.heap.size w wq) (fun i _ _ => (rows - n) - (intOf i).toNat)
      case atStart => exact ⟨_, _, 0, N, vs, rfl, rfl, Nat.zero_le _, rfl, HV.out, by rw [os_zero]; exact hR, HB0.out.drewN _, own_drewN HO.out _, below_drewN HBel.out _⟩
      case round =>
        clear hR HB0 HO HV HBel
        obtain ⟨wq, vi, k, N', vs', rfl, rfl, hk', rfl, hvs, hR, hb0, HO, hbel⟩ := hrel
        by_cases hlt' : k < rows - n
        · have hN : N' ≤ 42 := by have := os_len r rows n k hn hk (by omega); rw [← hR.out.len, hvs] at this; exact this
          have hsz := hbel.size
          have HB0 := Lib.hid hb0
          have HV := Lib.hid hvs
          have HBel := Lib.hid hbel
          clear hb0 hvs hbel
          go_wp2_with (first | (go_at_call 24; ((with_reducible refine (mulNumber_of (a := r) (b := floatOfInt .f32 (2 * (k : Int) + (n : Int))) _ (rep_num r) (rep_num _)).mono ?_); rintro e w3 ⟨x, m3, rfl, hx, rfl⟩; have HX := Lib.hid (show Rep x (pxO r n k) from hx); clear hx)) | (at_builtin; go_loud (refine wpList_append_own _ rfl _ _ 22 rfl w.heap.size 51 i0 _ 7 36 Try.underlying22 hi hz0 hz1 hz2 rfl (by decide) vi N' _ rfl ((own_drewN HO.out _).alloc _) ⟨wq.heap.size, 0, none⟩ 1 1 (mkP r m (x, y)).cells rfl rfl (gr_new _ _ _ _) (cells_one _) (by unfold maxLen; omega) (by omega) (by simp; omega) ?_); intro v' w1 hown' hgrow hnil; have hB0 := Lib.hid (blk_after HB0.out HO.out neGH hgrow); have hBl := Lib.hid (below_after HBel.out HO.out hgrow); have HOwn := Lib.hid hown'; clear hown' hgrow hnil))
          go_roundw
          case rel => exact ⟨_, _, k + 1, N' + 1, vs' ++ [(x, y)], rfl, rfl, by omega, by go_num, by simp [HV.out], by rw [os_snoc]; exact hR.out.snoc HX.out HY.out, hB0.out, by rw [List.map_append, List.map_cons, List.map_nil, gcells_snoc]; exact HOwn.out, hBl.out⟩
          case measure => simp [intOf]; omega
        · obtain rfl : k = rows - n := by omega
          have HB0 := Lib.hid hb0
          have HV := Lib.hid hvs
          have HBel := Lib.hid hbel
          clear hb0 hvs hbel
          go_wp2
          go_roundw
          case rel => exact ⟨_, _, n + 1, N', vs', rfl, rfl, by omega, by go_num, HV.out, hR, HB0.out, HO, HBel.out⟩
          case measure => simp [intOf]; omega
    · obtain rfl : n = rows := by omega
      have hNl : N = (osUp r n n).length := by rw [← hvs, hR.out.len]
      have hN1 : 0 < N := by rw [hNl]; exact HP.out
      have hN2 : N ≤ 24 := by have := HN.out; omega
      obtain ⟨b, c, rfl, hbb, hbl⟩ := own_form HO.out hN1
      have HG := heapOf_of b N c _ wo (by simp [hvs]) (row_of_own HO.out (by simp [hvs])) hN2
      rw [reps_valid hR.out] at HG
      have HLn := Lib.hid (show (pileGs r m n).length = N by rw [pileGs_length, hNl])
      cases hok : okPile r m n
      · have HG' := Lib.hid (give_no (by rw [show (osUp r n n).all (okP r m) = false from hok] at HG; exact HG))
        have HK := Lib.hid hok
        have HB := Lib.hid hb0
        have HL := Lib.hid hbel
        clear hb0 hbel hvs HG hok hNl
        go_wp2_with (go_at_call 25; go_loud (refine HG'.out.mono ?_); rintro e w4 ⟨rfl, hb4⟩; have hc0 := (blk_next HB.out hb4).cell 0; have hf0 := (blk_next HB.out hb4).frozen 0; have HBx := Lib.hid (blk_next HB.out hb4); have HLx := Lib.hid (below_next HL.out hb4); clear hb4)
        refine bodyPost_ret (v := .tuple #[.agg #[.slice none 0 0], .bool false]) (results_row_tmp Try.results11 _ _ w.heap.size 24 #[.slice none 0 0] _ _ rfl (HBx.out.set_ 0 _) rfl Try.underlying24 rfl (by kernel_rfl)) rfl ?_
        exact gaveRow_no HK.out (HLx.out.setCell (Nat.le_refl _) _)
      · have HG' := Lib.hid (give_yes (by rw [show (osUp r n n).all (okP r m) = true from hok] at HG; exact HG))
        have HK := Lib.hid hok
        have HPl := Lib.hid (reps_places hR.out hok)
        have HB := Lib.hid hb0
        have HL := Lib.hid hbel
        clear hb0 hbel hvs HG hok hNl
        go_wp2_with (go_at_call 25; go_loud (refine HG'.out.mono ?_); rintro e w4 ⟨rfl, hb4⟩; have hc0 := (blk_next HB.out hb4).cell 0; have hf0 := (blk_next HB.out hb4).frozen 0; have HBx := Lib.hid (blk_next HB.out hb4); have HLx := Lib.hid (below_next HL.out hb4); have HOx := Lib.hid (own_below HO.out hb4 (Nat.le_refl _)); clear hb4)
        refine bodyPost_ret (v := .tuple #[.agg #[.slice (some ⟨b, 0, none⟩) N c], .bool true]) (results_row_tmp Try.results11 _ _ w.heap.size 24 #[.slice (some ⟨b, 0, none⟩) N c] _ _ rfl (HBx.out.set_ 0 _) rfl Try.underlying24 rfl (by kernel_rfl)) rfl ?_
        have := own_far HOx.out HBx.out neGH 0 (.slice (some ⟨b, 0, none⟩) N c)
        rw [HPl.out] at this
        exact gaveRow_yes HK.out HLn.out this (HLx.out.setCell (Nat.le_refl _) _)

set_option maxHeartbeats 800000 in
theorem implPile_out (n : Int) (r m : Nat) (w : World) (ho : inPile n = false) :
    Calls Try.prog 11 #[.int .i64 n, .float .f32 r, .float .f32 m] w (GaveRow w [] false) := by
  have hB0 : Blk (w.alloc (.cells #[.slice none 0 0] 24)) w.heap.size 24 _ := blk_new w _ _ _ rfl
  have hb0 : Below w.heap.size w (w.alloc (.cells #[.slice none 0 0] 24)) := (Below.refl w.heap.size w).alloc (Nat.le_refl _) _
  have HB0 := Lib.hid hB0
  have HBel := Lib.hid hb0
  clear hB0 hb0
  unfold GaveRow
  by_cases hn1 : n < 1
  · clear ho
    go_enter Try.func11, Try.ntmps11
    go_wp2
    refine bodyPost_ret (v := .tuple #[.agg #[.slice none 0 0], .bool false]) (results_row_tmp Try.results11 _ _ w.heap.size 24 #[.slice none 0 0] _ _ rfl HB0.out rfl Try.underlying24 rfl (by kernel_rfl)) rfl ?_
    exact ⟨rfl, HBel.out⟩
  have hn2 : 6 < n := by
    rcases Int.lt_or_le 6 n with h | h
    · exact h
    · simp only [inPile, show (1 : Int) ≤ n by omega, h, decide_true, Bool.true_and, Bool.true_eq_false] at ho
  clear ho
  go_enter Try.func11, Try.ntmps11
  go_wp2
  refine bodyPost_ret (v := .tuple #[.agg #[.slice none 0 0], .bool false]) (results_row_tmp Try.results11 _ _ w.heap.size 24 #[.slice none 0 0] _ _ rfl HB0.out rfl Try.underlying24 rfl (by kernel_rfl)) rfl ?_
  exact ⟨rfl, HBel.out⟩
end Go.Proofs.Ytljcgfgkfkoeeaa
