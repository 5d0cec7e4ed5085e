/- Heaps whose grains are all changed by the other closures. -/
import Derived.Test.YtbggklhnnjikjaaFh
namespace Go.Proofs.Ytbggklhnnjikjaa
open Go.RowKit Fl

set_option maxRecDepth 100000 in
set_option maxHeartbeats 3200000 in
theorem changeHeap_move (F : Gr → Gr) (B : Nat) (b n c : Nat) (gs : List Gr) (w : World) (hl : gs.length = n) (hr : GrRow w b gs) (h1 : 1 ≤ n) (hn : n ≤ 24) (hv : gs.all Gr.valid = true) (hv2 : (gs.map F).all Gr.valid = true)
    (hF : ∀ k W, k < n → Below w.heap.size w W → Calls Try.prog 53 #[(gs.getD k default).val, .pointer (some ⟨B, 0, none⟩)] W fun e w' => e = .returned (F (gs.getD k default)).val ∧ Below W.heap.size W w') :
    Calls Try.prog 49 #[.agg #[.slice (some ⟨b, 0, none⟩) n c], .func (.func 53) #[] #[.pointer (some ⟨B, 0, none⟩)]] w (GaveHeap w (gs.map F)) := by
  obtain ⟨i0, hi, hz0, hz1, hz2⟩ := info_parts ginfo
  have hVH := fun w (h : GrRow w b gs) => validHeap_any b n c gs w hl h hn
  rw [hv] at hVH
  have HVH := Lib.hid hVH
  have HHe := Lib.hid fun w b' c' (h : GrRow w b' (gs.map F)) => heapOf_of b' n c' (gs.map F) w (by simp [hl]) h hn
  have HL := Lib.hid hl
  have HF := Lib.hid hF
  have HR := Lib.hid hr
  have HV2 := Lib.hid hv2
  have hbel := ((Below.refl w.heap.size w).alloc (Nat.le_refl _) (.cells #[.slice (some ⟨b, 0, none⟩) n c] 26)).alloc (by simp) (.cells #[.slice none 0 0] 26)
  have hB0 : Blk ((w.alloc (.cells #[.slice (some ⟨b, 0, none⟩) n c] 26)).alloc (.cells #[.slice none 0 0] 26)) w.heap.size 26 _ := (blk_new w _ _ _ rfl).alloc _
  have hB1 : Blk ((w.alloc (.cells #[.slice (some ⟨b, 0, none⟩) n c] 26)).alloc (.cells #[.slice none 0 0] 26)) (w.heap.size + 1) 26 _ := blk_new _ _ _ _ (by simp)
  have HR0 := Lib.hid (hr.below hbel (Nat.le_refl _))
  have HBel := Lib.hid hbel
  have HB0 := Lib.hid hB0
  have HB1 := Lib.hid hB1
  clear hVH hl hr hv hv2 hbel hB0 hB1 hF
  go_enter Try.func49, Try.ntmps49
  go_wp2_with fail
  refine (HVH.out _ HR0.out).mono ?_
  rintro e w1 ⟨rfl, hb⟩
  have L1 := Lib.hid (below_next HBel.out hb)
  have R1 := Lib.hid (HR0.out.below hb (Nat.le_refl _))
  have A1 := Lib.hid (blk_next HB0.out hb)
  have P1 := Lib.hid (blk_next HB1.out hb)
  have a0 := A1.out.cell 0
  have hw1 := L1.out.size
  clear hb
  go_wp2_with (at_make; go_loud (refine wpList_make_full _ rfl _ _ 24 rfl w.heap.size 37 i0 _ 7 Try.underlying24 hi hz0 hz1 .i64 .i64 _ _ n rfl rfl rfl rfl (by rw [hz2]; omega) (by unfold maxLen; omega) (by omega) ?_); intro w3 hown hgrow; have a3 := (A1.out.grown hgrow (by simp)).cell 0)
  rw [made_gr] at hown
  have O3 := Lib.hid (show w3.ownsRow w.heap.size 37 7 (.slice (some ⟨w1.heap.size, 0, none⟩) n n) n (gcells (List.replicate n zGr)) by simpa using hown)
  have L3 := Lib.hid (L1.out.grown hgrow (by omega) (by simp))
  have P3 := Lib.hid (P1.out.grown hgrow (by simp))
  clear hown hgrow
  have hp1 := P1.out.lt
  go_loopw [20] (fun i wr => ∃ (W : World) (k : Nat), W = wr ∧ k ≤ n ∧ i = .int .i64 k ∧ ChInv w wr w1.heap.size F gs n k) (fun i _ => n - (intOf i).toNat)
  case atStart => exact ⟨_, 0, rfl, Nat.zero_le _, rfl, ⟨by simpa using O3.out, P3.out, L3.out⟩⟩
  case round =>
    obtain ⟨W, k, rfl, hk, rfl, hI⟩ := hrel
    have HI := Lib.hid hI
    have hl0 := hI.l.size
    clear hI
    by_cases hlt : k < n
    · have hkl : k < gs.length := by rw [HL.out]; exact hlt
      obtain ⟨h0, h1', h2, h3, h4, h5, h6⟩ := (HR.out.below HI.out.l (Nat.le_refl _)) k hkl
      have HC := Lib.hid fun W' h => HF.out k W' hlt h
      have HSet := Lib.hid (ch_set F gs n k (HL.out) hlt)
      generalize hG : gs.getD k default = g at h0 h1' h2 h3 h4 h5 h6 HC HSet
      generalize hF2 : F g = g2 at HC HSet
      obtain ⟨ax, ay, sx, sy, r, m, t, s, hh⟩ := g2
      unfold Gr.val at HC
      dsimp only at HC
      have HL3 := Lib.hid (HI.out.l.alloc hl0 (.cells #[.complex .f32 g.ax g.ay, .complex .f32 g.sx g.sy, .float .f32 g.r, .float .f32 g.m, .float .f32 g.t, .float .f32 g.s, .bool g.h] 37))
      have HO3 := Lib.hid (HI.out.own.alloc (.cells #[.complex .f32 g.ax g.ay, .complex .f32 g.sx g.sy, .float .f32 g.r, .float .f32 g.m, .float .f32 g.t, .float .f32 g.s, .bool g.h] 37))
      have HP3 := Lib.hid (HI.out.p.alloc (.cells #[.complex .f32 g.ax g.ay, .complex .f32 g.sx g.sy, .float .f32 g.r, .float .f32 g.m, .float .f32 g.t, .float .f32 g.s, .bool g.h] 37))
      have hsf := run_store_float' Try.prog
      have hsc := run_store_complex Try.prog
      clear hG hF2 hkl
      go_wp2_with fail
      refine (HC.out _ HL3.out).mono ?_
      rintro e w4 ⟨rfl, hb⟩
      have O4 := Lib.hid (own_below HO3.out hb (Nat.le_refl _))
      have P4 := Lib.hid (blk_next HP3.out hb)
      have L4 := Lib.hid (below_next HL3.out hb)
      have hgl : ((gs.map F).take k ++ List.replicate (n - k) zGr).length = n := by have := HL.out; simp; omega
      obtain ⟨c0, c1, c2, c3, c4, c5, c6⟩ := row_of_own O4.out hgl k (by rw [hgl]; exact hlt)
      have f0 := O4.out.frozenAt (k * 7)
      have f1 := O4.out.frozenAt (k * 7 + 1)
      have f2 := O4.out.frozenAt (k * 7 + 2)
      have f3 := O4.out.frozenAt (k * 7 + 3)
      have f4 := O4.out.frozenAt (k * 7 + 4)
      have f5 := O4.out.frozenAt (k * 7 + 5)
      have f6 := O4.out.frozenAt (k * 7 + 6)
      generalize ((gs.map F).take k ++ List.replicate (n - k) zGr).getD k default = old at c0 c1 c2 c3 c4 c5 c6
      have HGl := Lib.hid hgl
      have hPl := P4.out.lt
      clear hb hgl h0 h1' h2 h3 h4 h5 h6
      go_wp2_with fail
      go_roundw
      case rel =>
        refine ⟨_, k + 1, rfl, by omega, by go_num, ?_, stored7_blk (g := w1.heap.size) P4.out (by omega) k ⟨ax, ay, sx, sy, r, m, t, s, hh⟩, stored7_below (g := w1.heap.size) L4.out hw1 k ⟨ax, ay, sx, sy, r, m, t, s, hh⟩⟩
        rw [← HSet.out]
        exact stored7_own O4.out (k := k) (by rw [HGl.out]; exact hlt) ⟨ax, ay, sx, sy, r, m, t, s, hh⟩
      case measure => simp [intOf]; omega
    · have hk2 : k = n := by omega
      have hown := HI.out.own
      rw [hk2, Nat.sub_self, List.replicate_zero, List.append_nil, List.take_of_length_le (by rw [List.length_map, HL.out]; exact Nat.le_refl _)] at hown
      have hlm : (gs.map F).length = n := by rw [List.length_map, HL.out]
      have hHe := HHe.out W w1.heap.size n (row_of_own hown hlm)
      rw [HV2.out] at hHe
      have HG' := Lib.hid (give_yes hHe)
      have HO := Lib.hid hown
      have HLm := Lib.hid hlm
      clear hk2 hown hlm hHe
      go_wp2_with fail
      refine HG'.out.mono ?_
      rintro e w4 ⟨rfl, hb⟩
      have O5 := Lib.hid (own_below HO.out hb (Nat.le_refl _))
      have P5 := Lib.hid (blk_next HI.out.p hb)
      have L5 := Lib.hid (below_next HI.out.l hb)
      have p0 := P5.out.cell 0
      have q0 := P5.out.frozen 0
      clear hb
      go_wp2
      refine bodyPost_ret (v := .tuple #[.agg #[.slice (some ⟨w1.heap.size, 0, none⟩) n n], .bool true]) (results_row_tmp Try.results49 _ _ (w.heap.size + 1) 26 #[.slice (some ⟨w1.heap.size, 0, none⟩) n n] _ _ rfl (P5.out.set_ 0 _) rfl Try.underlying26 rfl (by kernel_rfl)) rfl ?_
      unfold GaveHeap
      rw [HLm.out]
      exact ⟨_, _, rfl, own_far O5.out P5.out neGH' 0 _, L5.out.setCell (by show w.heap.size ≤ w.heap.size + 1; omega) _⟩
set_option maxRecDepth 100000 in
set_option maxHeartbeats 3200000 in
theorem changeHeap_mirror (F : Gr → Gr) (b n c : Nat) (gs : List Gr) (w : World) (hl : gs.length = n) (hr : GrRow w b gs) (h1 : 1 ≤ n) (hn : n ≤ 24) (hv : gs.all Gr.valid = true) (hv2 : (gs.map F).all Gr.valid = true)
    (hF : ∀ k W, k < n → Below w.heap.size w W → Calls Try.prog 50 #[(gs.getD k default).val] W fun e w' => e = .returned (F (gs.getD k default)).val ∧ Below W.heap.size W w') :
    Calls Try.prog 49 #[.agg #[.slice (some ⟨b, 0, none⟩) n c], .func (.func 50) #[] #[]] w (GaveHeap w (gs.map F)) := by
  obtain ⟨i0, hi, hz0, hz1, hz2⟩ := info_parts ginfo
  have hVH := fun w (h : GrRow w b gs) => validHeap_any b n c gs w hl h hn
  rw [hv] at hVH
  have HVH := Lib.hid hVH
  have HHe := Lib.hid fun w b' c' (h : GrRow w b' (gs.map F)) => heapOf_of b' n c' (gs.map F) w (by simp [hl]) h hn
  have HL := Lib.hid hl
  have HF := Lib.hid hF
  have HR := Lib.hid hr
  have HV2 := Lib.hid hv2
  have hbel := ((Below.refl w.heap.size w).alloc (Nat.le_refl _) (.cells #[.slice (some ⟨b, 0, none⟩) n c] 26)).alloc (by simp) (.cells #[.slice none 0 0] 26)
  have hB0 : Blk ((w.alloc (.cells #[.slice (some ⟨b, 0, none⟩) n c] 26)).alloc (.cells #[.slice none 0 0] 26)) w.heap.size 26 _ := (blk_new w _ _ _ rfl).alloc _
  have hB1 : Blk ((w.alloc (.cells #[.slice (some ⟨b, 0, none⟩) n c] 26)).alloc (.cells #[.slice none 0 0] 26)) (w.heap.size + 1) 26 _ := blk_new _ _ _ _ (by simp)
  have HR0 := Lib.hid (hr.below hbel (Nat.le_refl _))
  have HBel := Lib.hid hbel
  have HB0 := Lib.hid hB0
  have HB1 := Lib.hid hB1
  clear hVH hl hr hv hv2 hbel hB0 hB1 hF
  go_enter Try.func49, Try.ntmps49
  go_wp2_with fail
  refine (HVH.out _ HR0.out).mono ?_
  rintro e w1 ⟨rfl, hb⟩
  have L1 := Lib.hid (below_next HBel.out hb)
  have R1 := Lib.hid (HR0.out.below hb (Nat.le_refl _))
  have A1 := Lib.hid (blk_next HB0.out hb)
  have P1 := Lib.hid (blk_next HB1.out hb)
  have a0 := A1.out.cell 0
  have hw1 := L1.out.size
  clear hb
  go_wp2_with (at_make; go_loud (refine wpList_make_full _ rfl _ _ 24 rfl w.heap.size 37 i0 _ 7 Try.underlying24 hi hz0 hz1 .i64 .i64 _ _ n rfl rfl rfl rfl (by rw [hz2]; omega) (by unfold maxLen; omega) (by omega) ?_); intro w3 hown hgrow; have a3 := (A1.out.grown hgrow (by simp)).cell 0)
  rw [made_gr] at hown
  have O3 := Lib.hid (show w3.ownsRow w.heap.size 37 7 (.slice (some ⟨w1.heap.size, 0, none⟩) n n) n (gcells (List.replicate n zGr)) by simpa using hown)
  have L3 := Lib.hid (L1.out.grown hgrow (by omega) (by simp))
  have P3 := Lib.hid (P1.out.grown hgrow (by simp))
  clear hown hgrow
  have hp1 := P1.out.lt
  go_loopw [20] (fun i wr => ∃ (W : World) (k : Nat), W = wr ∧ k ≤ n ∧ i = .int .i64 k ∧ ChInv w wr w1.heap.size F gs n k) (fun i _ => n - (intOf i).toNat)
  case atStart => exact ⟨_, 0, rfl, Nat.zero_le _, rfl, ⟨by simpa using O3.out, P3.out, L3.out⟩⟩
  case round =>
    obtain ⟨W, k, rfl, hk, rfl, hI⟩ := hrel
    have HI := Lib.hid hI
    have hl0 := hI.l.size
    clear hI
    by_cases hlt : k < n
    · have hkl : k < gs.length := by rw [HL.out]; exact hlt
      obtain ⟨h0, h1', h2, h3, h4, h5, h6⟩ := (HR.out.below HI.out.l (Nat.le_refl _)) k hkl
      have HC := Lib.hid fun W' h => HF.out k W' hlt h
      have HSet := Lib.hid (ch_set F gs n k (HL.out) hlt)
      generalize hG : gs.getD k default = g at h0 h1' h2 h3 h4 h5 h6 HC HSet
      generalize hF2 : F g = g2 at HC HSet
      obtain ⟨ax, ay, sx, sy, r, m, t, s, hh⟩ := g2
      unfold Gr.val at HC
      dsimp only at HC
      have HL3 := Lib.hid (HI.out.l.alloc hl0 (.cells #[.complex .f32 g.ax g.ay, .complex .f32 g.sx g.sy, .float .f32 g.r, .float .f32 g.m, .float .f32 g.t, .float .f32 g.s, .bool g.h] 37))
      have HO3 := Lib.hid (HI.out.own.alloc (.cells #[.complex .f32 g.ax g.ay, .complex .f32 g.sx g.sy, .float .f32 g.r, .float .f32 g.m, .float .f32 g.t, .float .f32 g.s, .bool g.h] 37))
      have HP3 := Lib.hid (HI.out.p.alloc (.cells #[.complex .f32 g.ax g.ay, .complex .f32 g.sx g.sy, .float .f32 g.r, .float .f32 g.m, .float .f32 g.t, .float .f32 g.s, .bool g.h] 37))
      have hsf := run_store_float' Try.prog
      have hsc := run_store_complex Try.prog
      clear hG hF2 hkl
      go_wp2_with fail
      refine (HC.out _ HL3.out).mono ?_
      rintro e w4 ⟨rfl, hb⟩
      have O4 := Lib.hid (own_below HO3.out hb (Nat.le_refl _))
      have P4 := Lib.hid (blk_next HP3.out hb)
      have L4 := Lib.hid (below_next HL3.out hb)
      have hgl : ((gs.map F).take k ++ List.replicate (n - k) zGr).length = n := by have := HL.out; simp; omega
      obtain ⟨c0, c1, c2, c3, c4, c5, c6⟩ := row_of_own O4.out hgl k (by rw [hgl]; exact hlt)
      have f0 := O4.out.frozenAt (k * 7)
      have f1 := O4.out.frozenAt (k * 7 + 1)
      have f2 := O4.out.frozenAt (k * 7 + 2)
      have f3 := O4.out.frozenAt (k * 7 + 3)
      have f4 := O4.out.frozenAt (k * 7 + 4)
      have f5 := O4.out.frozenAt (k * 7 + 5)
      have f6 := O4.out.frozenAt (k * 7 + 6)
      generalize ((gs.map F).take k ++ List.replicate (n - k) zGr).getD k default = old at c0 c1 c2 c3 c4 c5 c6
      have HGl := Lib.hid hgl
      have hPl := P4.out.lt
      clear hb hgl h0 h1' h2 h3 h4 h5 h6
      go_wp2_with fail
      go_roundw
      case rel =>
        refine ⟨_, k + 1, rfl, by omega, by go_num, ?_, stored7_blk (g := w1.heap.size) P4.out (by omega) k ⟨ax, ay, sx, sy, r, m, t, s, hh⟩, stored7_below (g := w1.heap.size) L4.out hw1 k ⟨ax, ay, sx, sy, r, m, t, s, hh⟩⟩
        rw [← HSet.out]
        exact stored7_own O4.out (k := k) (by rw [HGl.out]; exact hlt) ⟨ax, ay, sx, sy, r, m, t, s, hh⟩
      case measure => simp [intOf]; omega
    · have hk2 : k = n := by omega
      have hown := HI.out.own
      rw [hk2, Nat.sub_self, List.replicate_zero, List.append_nil, List.take_of_length_le (by rw [List.length_map, HL.out]; exact Nat.le_refl _)] at hown
      have hlm : (gs.map F).length = n := by rw [List.length_map, HL.out]
      have hHe := HHe.out W w1.heap.size n (row_of_own hown hlm)
      rw [HV2.out] at hHe
      have HG' := Lib.hid (give_yes hHe)
      have HO := Lib.hid hown
      have HLm := Lib.hid hlm
      clear hk2 hown hlm hHe
      go_wp2_with fail
      refine HG'.out.mono ?_
      rintro e w4 ⟨rfl, hb⟩
      have O5 := Lib.hid (own_below HO.out hb (Nat.le_refl _))
      have P5 := Lib.hid (blk_next HI.out.p hb)
      have L5 := Lib.hid (below_next HI.out.l hb)
      have p0 := P5.out.cell 0
      have q0 := P5.out.frozen 0
      clear hb
      go_wp2
      refine bodyPost_ret (v := .tuple #[.agg #[.slice (some ⟨w1.heap.size, 0, none⟩) n n], .bool true]) (results_row_tmp Try.results49 _ _ (w.heap.size + 1) 26 #[.slice (some ⟨w1.heap.size, 0, none⟩) n n] _ _ rfl (P5.out.set_ 0 _) rfl Try.underlying26 rfl (by kernel_rfl)) rfl ?_
      unfold GaveHeap
      rw [HLm.out]
      exact ⟨_, _, rfl, own_far O5.out P5.out neGH' 0 _, L5.out.setCell (by show w.heap.size ≤ w.heap.size + 1; omega) _⟩
end Go.Proofs.Ytbggklhnnjikjaa
