/- A grain of a heap is held, or not. -/
import Derived.Test.YtklceohoghjhdaaLf
import Derived.Lib.SliceRun
namespace Go.Proofs.Ytklceohoghjhdaa
open Go.RowKit Fl

theorem GrRow.alloc {w : World} {b : Nat} {gs : List Gr} (h : GrRow w b gs) (o : Obj) : GrRow (w.alloc o) b gs := h.below ((Below.refl w.heap.size w).alloc (Nat.le_refl _) o) (Nat.le_refl _)
set_option maxRecDepth 100000 in
set_option maxHeartbeats 1600000 in
theorem clone_of (b n c : Nat) (gs : List Gr) (w : World) (hl : gs.length = n) (hr : GrRow w b gs) (hn : n ≤ 24) :
    Calls Try.prog 105 #[.slice (some ⟨b, 0, none⟩) n c] w fun e w' => ∃ v', e = .returned v' ∧ w'.ownsRow w.heap.size 37 7 v' n (gcells gs) ∧ Below w.heap.size w w' := by
  obtain ⟨i0, hi, hz0, hz1, hz2⟩ := info_parts ginfo
  have HL := Lib.hid hl
  have HR := Lib.hid hr
  clear hl hr
  go_enter Try.func105, Try.ntmps105
  have hnl : List.length (gcells gs) = n * 7 := by rw [gcells_length, HL.out]
  have HNL := Lib.hid hnl
  have HC : Hid (∀ j u, (gcells gs)[j]? = some u → (w.alloc (.cells #[] 37)).cell? ((⟨b, 0, none⟩ : Addr).add j) = some u) := by
    intro j u hu
    have hj : j < n * 7 := by
      have := (List.getElem?_eq_some_iff.1 hu).1
      omega
    have hj7 : j / 7 < gs.length := by rw [HL.out]; omega
    have hm : j % 7 < 7 := Nat.mod_lt _ (by decide)
    have e := gcells_at gs (j / 7) (j % 7) hj7 hm
    rw [show j / 7 * 7 + j % 7 = j by omega, hu] at e
    obtain ⟨c0, c1, c2, c3, c4, c5, c6⟩ := (HR.out.alloc (.cells #[] 37)) (j / 7) hj7
    rw [Addr.add_lit, show 0 + j = j / 7 * 7 + j % 7 by omega]
    generalize j % 7 = q at *
    generalize j / 7 * 7 = o at *
    match q, hm with
    | 0, _ => rw [Nat.add_zero, c0]; exact e.symm
    | 1, _ => rw [c1]; exact e.symm
    | 2, _ => rw [c2]; exact e.symm
    | 3, _ => rw [c3]; exact e.symm
    | 4, _ => rw [c4]; exact e.symm
    | 5, _ => rw [c5]; exact e.symm
    | 6, _ => rw [c6]; exact e.symm
  have q22 : ∀ (w : World) (a : Option Addr) (n c n' c' : Nat), (binOp .eql 24 (.slice a n c) (.slice none n' c')).run Try.prog w = .ok (.bool a.isNone) w := fun w a n c n' c' => Lib.run_eql_slice_nil w _ _ a n c n' c' Try.underlying24
  clear hnl
  go_wp2_with (at_builtin; go_loud (refine wpList_append_own _ rfl _ _ 24 rfl w.heap.size 37 i0 _ 7 36 Try.underlying24 hi hz0 hz1 hz2 rfl (by decide) _ _ _ rfl (World.ownsRow_made w #[] 0 (Nat.le_refl _) (Nat.zero_le _) (by simp)) ⟨b, 0, none⟩ n c (gcells gs) rfl HNL.out HC.out (fun u hu => by obtain ⟨g, _, hg⟩ := List.mem_flatMap.1 hu; exact cells_one g u hg) (by unfold maxLen; omega) (by omega) (by simp) ?_); intro v' w1 hown hgrow hnil; have HO := Lib.hid hown; have HG := Lib.hid (show (w.alloc (.cells #[] 37)).grownBy w1 (some w.heap.size) from hgrow); clear hown hgrow hnil)
  go_ret
  exact ⟨v', rfl, by simpa using HO.out, ((Below.refl _ w).alloc (Nat.le_refl _) _).grown HG.out (by simp) (by intro k hk; have h9 : w.heap.size = k := (by simpa using hk); exact Nat.le_of_eq h9)⟩
theorem isIndex_yes (ao : Option Addr) (n c i : Nat) (w : World) (hi : i < n) (_hn : n ≤ 24) :
    Calls Try.prog 52 #[.agg #[.slice ao n c], .int .i64 i] w fun e w' => e = .returned (.bool true) ∧ Below w.heap.size w w' := by
  have HBel := Lib.hid ((Below.refl w.heap.size w).alloc (Nat.le_refl _) (.cells #[.slice ao n c] 26))
  go_enter Try.func52, Try.ntmps52
  go_wp2
  go_ret
  exact ⟨rfl, HBel.out⟩
/-- a heap of the call's own -/
def GaveHeap (w : World) (gs : List Gr) (e : Ending) (w' : World) : Prop := ∃ b c, e = .returned (.tuple #[.agg #[.slice (some ⟨b, 0, none⟩) gs.length c], .bool true]) ∧ w'.ownsRow w.heap.size 37 7 (.slice (some ⟨b, 0, none⟩) gs.length c) gs.length (gcells gs) ∧ Below w.heap.size w w'
set_option maxRecDepth 100000 in
set_option maxHeartbeats 3200000 in
theorem setGrain_of (b n c i : Nat) (g : Gr) (gs : List Gr) (w : World) (hl : gs.length = n) (hr : GrRow w b gs) (hn : n ≤ 24) (hi : i < n) (hv : gs.all Gr.valid = true) (hv2 : (gs.set i g).all Gr.valid = true) :
    Calls Try.prog 66 #[.agg #[.slice (some ⟨b, 0, none⟩) n c], .int .i64 i, g.val] w (GaveHeap w (gs.set i g)) := by
  have hVH := fun w (h : GrRow w b gs) => validHeap_any b n c gs w hl h hn
  rw [hv] at hVH
  have HVH := Lib.hid hVH
  have HCl := Lib.hid fun w (h : GrRow w b gs) => clone_of b n c gs w hl h hn
  have HHe := Lib.hid fun w b' c' (h : GrRow w b' (gs.set i g)) => heapOf_of b' n c' (gs.set i g) w (by simp [hl]) h hn
  have HR := Lib.hid hr
  obtain ⟨ax, ay, sx, sy, r, m, t, s, hh⟩ := g
  unfold Gr.val
  dsimp only
  have HI := Lib.hid fun w => isIndex_yes (some ⟨b, 0, none⟩) n c i w hi hn
  have hbel := (((Below.refl w.heap.size w).alloc (Nat.le_refl _) (.cells #[.slice (some ⟨b, 0, none⟩) n c] 26)).alloc (by simp) (.cells #[.complex .f32 ax ay, .complex .f32 sx sy, .float .f32 r, .float .f32 m, .float .f32 t, .float .f32 s, .bool hh] 37)).alloc (by simp; omega) (.cells #[.slice none 0 0] 26)
  have hB0 : Blk (((w.alloc (.cells #[.slice (some ⟨b, 0, none⟩) n c] 26)).alloc (.cells #[.complex .f32 ax ay, .complex .f32 sx sy, .float .f32 r, .float .f32 m, .float .f32 t, .float .f32 s, .bool hh] 37)).alloc (.cells #[.slice none 0 0] 26)) w.heap.size 26 _ := ((blk_new w _ _ _ rfl).alloc _).alloc _
  have hB1 : Blk (((w.alloc (.cells #[.slice (some ⟨b, 0, none⟩) n c] 26)).alloc (.cells #[.complex .f32 ax ay, .complex .f32 sx sy, .float .f32 r, .float .f32 m, .float .f32 t, .float .f32 s, .bool hh] 37)).alloc (.cells #[.slice none 0 0] 26)) (w.heap.size + 1) 37 _ := (blk_new (w.alloc (.cells #[.slice (some ⟨b, 0, none⟩) n c] 26)) _ _ _ (by simp)).alloc _
  have hB2 : Blk (((w.alloc (.cells #[.slice (some ⟨b, 0, none⟩) n c] 26)).alloc (.cells #[.complex .f32 ax ay, .complex .f32 sx sy, .float .f32 r, .float .f32 m, .float .f32 t, .float .f32 s, .bool hh] 37)).alloc (.cells #[.slice none 0 0] 26)) (w.heap.size + 1 + 1) 26 _ := blk_new _ _ _ _ (by simp)
  have HR0 := Lib.hid (hr.below hbel (Nat.le_refl _))
  have HBel := Lib.hid hbel
  have HB0 := Lib.hid hB0
  have HB1 := Lib.hid hB1
  have HB2 := Lib.hid hB2
  have HL := Lib.hid hl
  have HV2 := Lib.hid hv2
  clear hVH hr hv hbel hB0 hB1 hB2 hl hv2
  go_enter Try.func66, Try.ntmps66
  go_wp2_with fail
  refine (HVH.out _ HR0.out).mono ?_
  rintro e w1 ⟨rfl, hb⟩
  have L1 := Lib.hid (below_next HBel.out hb)
  have R1 := Lib.hid (HR0.out.below hb (Nat.le_refl _))
  have A1 := Lib.hid (blk_next HB0.out hb)
  have G1 := Lib.hid (blk_next HB1.out hb)
  have P1 := Lib.hid (blk_next HB2.out hb)
  have a0 := A1.out.cell 0
  clear hb
  go_wp2_with fail
  refine (HI.out _).mono ?_
  rintro e w2 ⟨rfl, hb⟩
  have L2 := Lib.hid (below_next L1.out hb)
  have R2 := Lib.hid (R1.out.below hb (Nat.le_refl _))
  have A2 := Lib.hid (blk_next A1.out hb)
  have G2 := Lib.hid (blk_next G1.out hb)
  have P2 := Lib.hid (blk_next P1.out hb)
  have a2 := A2.out.cell 0
  clear hb a0
  go_wp2_with fail
  refine (HCl.out _ R2.out).mono ?_
  rintro e w3 ⟨v', rfl, ho, hb⟩
  have L3 := Lib.hid (below_next L2.out hb)
  have G3 := Lib.hid (blk_next G2.out hb)
  have P3 := Lib.hid (blk_next P2.out hb)
  obtain ⟨bc, cc, rfl, hbc, hbc2⟩ := own_form ho (by omega)
  have hs2 := L2.out.size
  have hg2 := P2.out.lt
  have O3 := Lib.hid ho
  obtain ⟨c0, c1, c2, c3, c4, c5, c6⟩ := row_of_own ho HL.out i (by rw [HL.out]; exact hi)
  have f0 := ho.frozenAt (i * 7)
  have f1 := ho.frozenAt (i * 7 + 1)
  have f2 := ho.frozenAt (i * 7 + 2)
  have f3 := ho.frozenAt (i * 7 + 3)
  have f4 := ho.frozenAt (i * 7 + 4)
  have f5 := ho.frozenAt (i * 7 + 5)
  have f6 := ho.frozenAt (i * 7 + 6)
  have d0 := G3.out.cell 0
  have d1 := G3.out.cell 1
  have d2 := G3.out.cell 2
  have d3 := G3.out.cell 3
  have d4 := G3.out.cell 4
  have d5 := G3.out.cell 5
  have d6 := G3.out.cell 6
  generalize gs.getD i default = old at c0 c1 c2 c3 c4 c5 c6
  have hsf := run_store_float' Try.prog
  have hsc := run_store_complex Try.prog
  clear hb ho a2
  have hst := stored7_own O3.out (k := i) (by rw [HL.out]; exact hi) ⟨ax, ay, sx, sy, r, m, t, s, hh⟩
  have HG := HHe.out (stored7 w3 bc i ⟨ax, ay, sx, sy, r, m, t, s, hh⟩) bc cc (row_of_own hst (by simp [HL.out]))
  rw [HV2.out] at HG
  have HG' := Lib.hid (give_yes HG)
  have O4 := Lib.hid hst
  have P4 := Lib.hid (stored7_blk (g := bc) P3.out (by omega) i ⟨ax, ay, sx, sy, r, m, t, s, hh⟩)
  have L4 := Lib.hid (stored7_below (g := bc) L3.out (by omega) i ⟨ax, ay, sx, sy, r, m, t, s, hh⟩)
  clear hst HG
  go_wp2_with fail
  refine HG'.out.mono ?_
  rintro e w4 ⟨rfl, hb⟩
  have O5 := Lib.hid (own_below O4.out hb (Nat.le_refl _))
  have P5 := Lib.hid (blk_next P4.out hb)
  have L5 := Lib.hid (below_next L4.out hb)
  have p0 := P5.out.cell 0
  have q0 := P5.out.frozen 0
  clear hb
  go_wp2
  refine bodyPost_ret (v := .tuple #[.agg #[.slice (some ⟨bc, 0, none⟩) n cc], .bool true]) (results_row_tmp Try.results66 _ _ (w.heap.size + 1 + 1) 26 #[.slice (some ⟨bc, 0, none⟩) n cc] _ _ rfl (P5.out.set_ 0 _) rfl Try.underlying26 rfl (by kernel_rfl)) rfl ?_
  have hln : (gs.set i ⟨ax, ay, sx, sy, r, m, t, s, hh⟩).length = n := by rw [List.length_set, HL.out]
  unfold GaveHeap
  rw [hln]
  exact ⟨bc, cc, rfl, own_far (own_from O5.out L2.out.size) P5.out neGH' 0 _, L5.out.setCell (by show w.heap.size ≤ w.heap.size + 1 + 1; omega) _⟩
set_option maxRecDepth 100000 in
set_option maxHeartbeats 3200000 in
theorem holdGrain_of (b n c i : Nat) (q : Bool) (g : Gr) (gs : List Gr) (w : World) (hl : gs.length = n) (hr : GrRow w b gs) (hn : n ≤ 24) (hi : i < n) (hv : gs.all Gr.valid = true) (hg : gs.getD i default = g) (hv2 : (gs.set i { g with h := q }).all Gr.valid = true) :
    Calls Try.prog 24 #[.agg #[.slice (some ⟨b, 0, none⟩) n c], .int .i64 i, .bool q] w (GaveHeap w (gs.set i { g with h := q })) := by
  have HI := Lib.hid fun w => isIndex_yes (some ⟨b, 0, none⟩) n c i w hi hn
  have HSg := Lib.hid fun w (h : GrRow w b gs) => setGrain_of b n c i { g with h := q } gs w hl h hn hi hv hv2
  obtain ⟨ax, ay, sx, sy, r, m, t, s, hh⟩ := g
  unfold Gr.val at HSg
  dsimp only at HSg ⊢
  have hlen : (gs.set i ⟨ax, ay, sx, sy, r, m, t, s, q⟩).length = n := by rw [List.length_set, hl]
  have hbel := ((Below.refl w.heap.size w).alloc (Nat.le_refl _) (.cells #[.slice (some ⟨b, 0, none⟩) n c] 26)).alloc (by simp) (.cells #[.slice none 0 0] 26)
  have hB0 : Blk ((w.alloc (.cells #[.slice (some ⟨b, 0, none⟩) n c] 26)).alloc (.cells #[.slice none 0 0] 26)) w.heap.size 26 _ := (blk_new w _ _ _ rfl).alloc _
  have hB1 : Blk ((w.alloc (.cells #[.slice (some ⟨b, 0, none⟩) n c] 26)).alloc (.cells #[.slice none 0 0] 26)) (w.heap.size + 1) 26 _ := blk_new _ _ _ _ (by simp)
  have HR0 := Lib.hid (hr.below hbel (Nat.le_refl _))
  have HBel := Lib.hid hbel
  have HB0 := Lib.hid hB0
  have HB1 := Lib.hid hB1
  have HL := Lib.hid hl
  have HLn := Lib.hid hlen
  have HGt := Lib.hid hg
  clear hr hv hbel hB0 hB1 hl hv2 hlen hg
  go_enter Try.func24, Try.ntmps24
  go_wp2_with fail
  refine (HI.out _).mono ?_
  rintro e w1 ⟨rfl, hb⟩
  have L1 := Lib.hid (below_next HBel.out hb)
  have R1 := Lib.hid (HR0.out.below hb (Nat.le_refl _))
  have A1 := Lib.hid (blk_next HB0.out hb)
  have P1 := Lib.hid (blk_next HB1.out hb)
  have a0 := A1.out.cell 0
  obtain ⟨c0, c1, c2, c3, c4, c5, c6⟩ := R1.out i (by rw [HL.out]; exact hi)
  rw [HGt.out] at c0 c1 c2 c3 c4 c5 c6
  dsimp only at c0 c1 c2 c3 c4 c5 c6
  have hsf := run_store_float' Try.prog
  have hsc := run_store_complex Try.prog
  have a1 := (A1.out.alloc (.cells #[.complex .f32 ax ay, .complex .f32 sx sy, .float .f32 r, .float .f32 m, .float .f32 t, .float .f32 s, .bool q] 37)).cell 0
  have L2 := Lib.hid (L1.out.alloc L1.out.size (.cells #[.complex .f32 ax ay, .complex .f32 sx sy, .float .f32 r, .float .f32 m, .float .f32 t, .float .f32 s, .bool q] 37))
  have P2 := Lib.hid (P1.out.alloc (.cells #[.complex .f32 ax ay, .complex .f32 sx sy, .float .f32 r, .float .f32 m, .float .f32 t, .float .f32 s, .bool q] 37))
  have R2 := Lib.hid (R1.out.alloc (.cells #[.complex .f32 ax ay, .complex .f32 sx sy, .float .f32 r, .float .f32 m, .float .f32 t, .float .f32 s, .bool q] 37))
  clear hb
  go_wp2_with fail
  refine (HSg.out _ R2.out).mono ?_
  unfold GaveHeap
  rw [HLn.out]
  rintro e w4 ⟨bc, cc, rfl, ho, hb⟩
  have O5 := Lib.hid ho
  have P5 := Lib.hid (blk_next P2.out hb)
  have L5 := Lib.hid (below_next L2.out hb)
  have p0 := P5.out.cell 0
  have q0 := P5.out.frozen 0
  have hz := L2.out.size
  clear hb ho
  go_wp2
  refine bodyPost_ret (v := .tuple #[.agg #[.slice (some ⟨bc, 0, none⟩) n cc], .bool true]) (results_row_tmp Try.results24 _ _ (w.heap.size + 1) 26 #[.slice (some ⟨bc, 0, none⟩) n cc] _ _ rfl (P5.out.set_ 0 _) rfl Try.underlying26 rfl (by kernel_rfl)) rfl ?_
  first | (unfold GaveHeap; rw [HLn.out]) | rw [HLn.out]
  exact ⟨bc, cc, rfl, own_far (own_from O5.out hz) P5.out neGH' 0 _, L5.out.setCell (by show w.heap.size ≤ w.heap.size + 1; omega) _⟩
end Go.Proofs.Ytklceohoghjhdaa
