/- MoveHeap and MirrorHeap on the program's side. -/
import Derived.Test.YtbggklhnnjikjaaCh
import Derived.BigRegion
namespace Go.Proofs.Ytbggklhnnjikjaa
open Go.RowKit Fl

theorem blk_drew_ {w : World} {g : Nat} {t : TypeId} {cs : Array Value} (h : Blk w g t cs) : Blk w.drew g t cs := h
theorem below_drew_ {B : Nat} {a w : World} (h : Below B a w) : Below B a w.drew := ⟨h.os, h.tape, h.output, h.size, h.block⟩
/-- a grain that has been moved -/
def moveF (x y : Nat) (g : Gr) : Gr := { g with ax := (floatBits .add .f32 g.ax x).getD 0, ay := (floatBits .add .f32 g.ay y).getD 0 }
set_option maxRecDepth 100000 in
set_option maxHeartbeats 1600000 in
theorem moveOne_of (B x y : Nat) (g : Gr) (w : World) (hc : w.cell? ⟨B, 0, none⟩ = some (.complex .f32 x y)) (h1 : (floatBits .add .f32 g.ax x).isSome = true) (h2 : (floatBits .add .f32 g.ay y).isSome = true) :
    Calls Try.prog 53 #[g.val, .pointer (some ⟨B, 0, none⟩)] w fun e w' => e = .returned (moveF x y g).val ∧ Below w.heap.size w w' := by
  have hB := World.block_lt_of_cell? w _ hc
  dsimp only at hB
  obtain ⟨ax, ay, sx, sy, r, m, t, s, hh⟩ := g
  dsimp only at h1 h2
  obtain ⟨p, h1⟩ := Option.isSome_iff_exists.1 h1
  obtain ⟨q, h2⟩ := Option.isSome_iff_exists.1 h2
  unfold moveF
  dsimp only
  rw [h1, h2]
  have ha := fun w => run_csum (P := Try.prog) .add (Or.inl rfl) 31 ax ay x y p q h1 h2 w
  have hsf := run_store_float' Try.prog
  have hsc := run_store_complex Try.prog
  clear h1 h2
  unfold Gr.val
  go_enter Try.func53, Try.ntmps53
  go_wp2
  refine bodyPost_ret (v := .agg #[.complex .f32 p q, .complex .f32 sx sy, .float .f32 r, .float .f32 m, .float .f32 t, .float .f32 s, .bool hh]) (results_cell_row Try.results53 _ _ (w.heap.size + 1) 37 #[.complex .f32 p q, .complex .f32 sx sy, .float .f32 r, .float .f32 m, .float .f32 t, .float .f32 s, .bool hh] (0, 0) _ rfl (blk_new _ _ _ _ (by simp)) Try.underlying37 rfl (by kernel_rfl)) rfl ⟨rfl, ((Below.refl _ _).alloc (Nat.le_refl _) _).alloc (by simp) _⟩
set_option maxRecDepth 100000 in
set_option maxHeartbeats 3200000 in
theorem moveHeap_of (b n c x y : Nat) (gs : List Gr) (w : World) (hb : (fin32 x && fin32 y) = true) (hl : gs.length = n) (hr : GrRow w b gs) (h1 : 1 ≤ n) (hn : n ≤ 24) (hv : gs.all Gr.valid = true) (hv2 : (gs.map (moveF x y)).all Gr.valid = true)
    (ha : ∀ k, k < n → (floatBits .add .f32 (gs.getD k default).ax x).isSome = true ∧ (floatBits .add .f32 (gs.getD k default).ay y).isSome = true) :
    Calls Try.prog 14 #[.agg #[.slice (some ⟨b, 0, none⟩) n c], .complex .f32 x y] w (GaveHeap w (gs.map (moveF x y))) := by
  have HF := Lib.hid fun w => (show Calls Try.prog 52 #[.complex .f32 x y] w fun e w' => e = .returned (.bool true) ∧ Quiet w w' by rw [← hb]; exact isFiniteComplex_any x y w)
  have HC := Lib.hid fun (B : Nat) W (h : GrRow W b gs) (hB : W.cell? ⟨B, 0, none⟩ = some (.complex .f32 x y)) => changeHeap_move (moveF x y) B b n c gs W hl h h1 hn hv hv2 (fun k W' hk hb' => by
    have hlt := World.block_lt_of_cell? W _ hB
    refine moveOne_of B x y (gs.getD k default) W' ?_ (ha k hk).1 (ha k hk).2
    rw [hb'.cell (p := ⟨B, 0, none⟩) hlt]; exact hB)
  have hlm : (gs.map (moveF x y)).length = n := by rw [List.length_map, hl]
  have hbel := (((Below.refl w.heap.size w).alloc (Nat.le_refl _) (.cells #[.slice (some ⟨b, 0, none⟩) n c] 26)).alloc (by simp) (.cells #[.complex .f32 x y] 31)).alloc (by simp; omega) (.cells #[.slice none 0 0] 26)
  have hB1 : Blk (((w.alloc (.cells #[.slice (some ⟨b, 0, none⟩) n c] 26)).alloc (.cells #[.complex .f32 x y] 31)).alloc (.cells #[.slice none 0 0] 26)) (w.heap.size + 1) 31 _ := (blk_new (w.alloc (.cells #[.slice (some ⟨b, 0, none⟩) n c] 26)) _ _ _ (by simp)).alloc _
  have hB2 : Blk (((w.alloc (.cells #[.slice (some ⟨b, 0, none⟩) n c] 26)).alloc (.cells #[.complex .f32 x y] 31)).alloc (.cells #[.slice none 0 0] 26)) (w.heap.size + 1 + 1) 26 _ := blk_new _ _ _ _ (by simp)
  have HR0 := Lib.hid (hr.below hbel (Nat.le_refl _))
  have HBel := Lib.hid hbel
  have HB1 := Lib.hid hB1
  have HB2 := Lib.hid hB2
  have HLm := Lib.hid hlm
  have hsc := run_store_complex Try.prog
  clear hb hl hr hv hv2 ha hlm hbel hB1 hB2
  go_enter Try.func14, Try.ntmps14
  go_wp2_with (go_at_call 52; (with_reducible refine (HF.out _).mono ?_); rintro e w1 ⟨rfl, n1, rfl⟩)
  refine (HC.out (w.heap.size + 1) _ (HR0.out.quiet ⟨n1, rfl⟩) (HB1.out.cell 0)).mono ?_
  unfold GaveHeap
  rw [HLm.out]
  rintro e w4 ⟨bc, cc, rfl, ho, hb⟩
  have O5 := Lib.hid ho
  have P5 := Lib.hid (blk_over HB2.out hb)
  have L5 := Lib.hid (below_over HBel.out hb)
  have hz := HBel.out.size
  have p0 := P5.out.cell 0
  have q0 := P5.out.frozen 0
  clear ho hb
  go_wp2
  refine bodyPost_ret (v := .tuple #[.agg #[.slice (some ⟨bc, 0, none⟩) n cc], .bool true]) (results_row_tmp Try.results14 _ _ (w.heap.size + 1 + 1) 26 #[.slice (some ⟨bc, 0, none⟩) n cc] _ _ rfl (P5.out.set_ 0 _) rfl Try.underlying26 rfl (by kernel_rfl)) rfl ?_
  first | (unfold GaveHeap; rw [HLm.out]) | rw [HLm.out]
  exact ⟨bc, cc, rfl, own_far (own_from O5.out hz) P5.out neGH' 0 _, L5.out.setCell (by show w.heap.size ≤ w.heap.size + 1 + 1; omega) _⟩

/-- an end that is the normal one, and holds then -/
def onEnd (K : Act → World → Prop) (e : Exit) (a : Act) (w : World) : Prop := match e with
  | .normal => K a w
  | _ => False
/-- a statement that ends in one frame and one world, whatever its order -/
theorem wp_end {P : Program} {c : Code} {Q : Exit → Act → World → Prop} {a : Act} {w : World} (F : Act) (V : World) (h1 : c.wp P (onEnd (fun a w' => a = F ∧ w' = V)) a w) (h2 : Q .normal F V) : c.wp P Q a w :=
  Code.wp_mono (fun e a w h => by
    cases e
    case normal => obtain ⟨rfl, rfl⟩ := h; exact h2
    all_goals exact h.elim) h1
/-- a grain that has been mirrored -/
def mirrorF (g : Gr) : Gr := { g with ax := Op.negFloat .f32 g.ax, sx := Op.negFloat .f32 g.sx, t := Op.negFloat .f32 g.t, s := Op.negFloat .f32 g.s }
theorem mirrorNumber_of (x y : Nat) (w : World) : Calls Try.prog 51 #[.complex .f32 x y] w fun e w' => e = .returned (.complex .f32 (Op.negFloat .f32 x) y) ∧ w = w' := by
  have hneg : ∀ (b : Nat), Op.unary .neg (.float .f32 b) = pure (.float .f32 (Op.negFloat .f32 b)) := fun _ => rfl
  go_enter Try.func51, Try.ntmps51
  go_wp2
  go_ret
  exact ⟨rfl, rfl⟩
set_option maxRecDepth 100000 in
set_option maxHeartbeats 3200000 in
theorem mirrorOne_of (g : Gr) (w : World) :
    Calls Try.prog 50 #[g.val] w fun e w' => e = .returned (mirrorF g).val ∧ Below w.heap.size w w' := by
  obtain ⟨ax, ay, sx, sy, r, m, t, s, hh⟩ := g
  have hsf := run_store_float' Try.prog
  have hsc := run_store_complex Try.prog
  have hneg : ∀ (b : Nat), Op.unary .neg (.float .f32 b) = pure (.float .f32 (Op.negFloat .f32 b)) := fun _ => rfl
  have HA := Lib.hid fun w => mirrorNumber_of ax ay w
  have HS := Lib.hid fun w => mirrorNumber_of sx sy w
  unfold mirrorF Gr.val
  dsimp only
  go_enter Try.func50, Try.ntmps50
  go_wp2_with fail
  have HB := Lib.hid (((Below.refl w.heap.size w).alloc (Nat.le_refl _) (.cells #[.complex .f32 ax ay, .complex .f32 sx sy, .float .f32 r, .float .f32 m, .float .f32 t, .float .f32 s, .bool hh] 37)).alloc (by simp) (.cells #[.complex .f32 0 0, .complex .f32 0 0, .float .f32 0, .float .f32 0, .float .f32 0, .float .f32 0, .bool false] 37))
  have hG : Blk ((w.alloc (.cells #[.complex .f32 ax ay, .complex .f32 sx sy, .float .f32 r, .float .f32 m, .float .f32 t, .float .f32 s, .bool hh] 37)).alloc (.cells #[.complex .f32 0 0, .complex .f32 0 0, .float .f32 0, .float .f32 0, .float .f32 0, .float .f32 0, .bool false] 37)) w.heap.size 37 _ := (blk_new w _ _ _ rfl).alloc _
  have hR : Blk ((w.alloc (.cells #[.complex .f32 ax ay, .complex .f32 sx sy, .float .f32 r, .float .f32 m, .float .f32 t, .float .f32 s, .bool hh] 37)).alloc (.cells #[.complex .f32 0 0, .complex .f32 0 0, .float .f32 0, .float .f32 0, .float .f32 0, .float .f32 0, .bool false] 37)) (w.heap.size + 1) 37 _ := blk_new _ _ _ _ (by simp)
  have HG := Lib.hid hG
  have HR := Lib.hid hR
  clear hG hR
  generalize ((w.alloc (.cells #[.complex .f32 ax ay, .complex .f32 sx sy, .float .f32 r, .float .f32 m, .float .f32 t, .float .f32 s, .bool hh] 37)).alloc (.cells #[.complex .f32 0 0, .complex .f32 0 0, .float .f32 0, .float .f32 0, .float .f32 0, .float .f32 0, .bool false] 37)) = W at HB HG HR ⊢
  have c0 := HG.out.cell 0
  have c1 := HG.out.cell 1
  have f0 := HG.out.frozen 0
  have f1 := HG.out.frozen 1
  apply wp_end
  case h1 =>
    go_region_with (first | (go_at_call 51; (with_reducible refine (HA.out _).mono ?_); rintro e w' ⟨rfl, rfl⟩) | (go_at_call 51; (with_reducible refine (HS.out _).mono ?_); rintro e w' ⟨rfl, rfl⟩))
    all_goals exact ⟨rfl, rfl⟩
  case h2 =>
    clear c0 c1 f0 f1 HA HS
    have HB2 := Lib.hid (below_drew_ ((HB.out.setCell (p := ⟨w.heap.size, 0, none⟩) (Nat.le_refl _) (.complex .f32 (Op.negFloat .f32 ax) ay)).setCell (p := ⟨w.heap.size, 1, none⟩) (Nat.le_refl _) (.complex .f32 (Op.negFloat .f32 sx) sy)))
    have HG2 := Lib.hid (blk_drew_ ((HG.out.set_ 0 (.complex .f32 (Op.negFloat .f32 ax) ay)).set_ 1 (.complex .f32 (Op.negFloat .f32 sx) sy)))
    have HR2 := Lib.hid (blk_drew_ ((HR.out.far (p := ⟨w.heap.size, 0, none⟩) (show w.heap.size + 1 ≠ w.heap.size by omega) (.complex .f32 (Op.negFloat .f32 ax) ay)).far (p := ⟨w.heap.size, 1, none⟩) (show w.heap.size + 1 ≠ w.heap.size by omega) (.complex .f32 (Op.negFloat .f32 sx) sy)))
    generalize ((W.setCell ⟨w.heap.size, 0, none⟩ (.complex .f32 (Op.negFloat .f32 ax) ay)).setCell ⟨w.heap.size, 1, none⟩ (.complex .f32 (Op.negFloat .f32 sx) sy)).drew = W2 at HB2 HG2 HR2 ⊢
    have c0 := HG2.out.cell 0
    have c1 := HG2.out.cell 1
    have c2 := HG2.out.cell 2
    have c3 := HG2.out.cell 3
    have c4 := HG2.out.cell 4
    have c5 := HG2.out.cell 5
    have c6 := HG2.out.cell 6
    have f4 := HG2.out.frozen 4
    have f5 := HG2.out.frozen 5
    have b0 := HR2.out.cell 0
    have d0 := HR2.out.frozen 0
    have b1 := HR2.out.cell 1
    have d1 := HR2.out.frozen 1
    have b2 := HR2.out.cell 2
    have d2 := HR2.out.frozen 2
    have b3 := HR2.out.cell 3
    have d3 := HR2.out.frozen 3
    have b4 := HR2.out.cell 4
    have d4 := HR2.out.frozen 4
    have b5 := HR2.out.cell 5
    have d5 := HR2.out.frozen 5
    have b6 := HR2.out.cell 6
    have d6 := HR2.out.frozen 6
    have hle : w.heap.size ≤ w.heap.size + 1 := by omega
    have R3 := Lib.hid ((HR2.out.far (p := ⟨w.heap.size, 4, none⟩) (show w.heap.size + 1 ≠ w.heap.size by omega) (.float .f32 (Op.negFloat .f32 t))).far (p := ⟨w.heap.size, 5, none⟩) (show w.heap.size + 1 ≠ w.heap.size by omega) (.float .f32 (Op.negFloat .f32 s)))
    have L3 := Lib.hid ((HB2.out.setCell (p := ⟨w.heap.size, 4, none⟩) (Nat.le_refl _) (.float .f32 (Op.negFloat .f32 t))).setCell (p := ⟨w.heap.size, 5, none⟩) (Nat.le_refl _) (.float .f32 (Op.negFloat .f32 s)))
    go_wp2_with fail
    refine bodyPost_ret (v := .agg #[(.complex .f32 (Op.negFloat .f32 ax) ay), (.complex .f32 (Op.negFloat .f32 sx) sy), .float .f32 r, .float .f32 m, (.float .f32 (Op.negFloat .f32 t)), (.float .f32 (Op.negFloat .f32 s)), .bool hh]) (results_cell_row Try.results50 _ _ (w.heap.size + 1) 37 #[(.complex .f32 (Op.negFloat .f32 ax) ay), (.complex .f32 (Op.negFloat .f32 sx) sy), .float .f32 r, .float .f32 m, (.float .f32 (Op.negFloat .f32 t)), (.float .f32 (Op.negFloat .f32 s)), .bool hh] (0, 0) _ rfl (((((((R3.out.set_ 0 (.complex .f32 (Op.negFloat .f32 ax) ay)).set_ 1 (.complex .f32 (Op.negFloat .f32 sx) sy)).set_ 2 (.float .f32 r)).set_ 3 (.float .f32 m)).set_ 4 (.float .f32 (Op.negFloat .f32 t))).set_ 5 (.float .f32 (Op.negFloat .f32 s))).set_ 6 (.bool hh)) Try.underlying37 rfl (by kernel_rfl)) rfl ⟨rfl, ?_⟩
    exact ((((((L3.out.setCell hle _).setCell hle _).setCell hle _).setCell hle _).setCell hle _).setCell hle _).setCell hle _
set_option maxRecDepth 100000 in
set_option maxHeartbeats 3200000 in
theorem mirrorHeap_of (b n c : Nat) (gs : List Gr) (w : World) (hl : gs.length = n) (hr : GrRow w b gs) (h1 : 1 ≤ n) (hn : n ≤ 24) (hv : gs.all Gr.valid = true) (hv2 : (gs.map mirrorF).all Gr.valid = true) :
    Calls Try.prog 12 #[.agg #[.slice (some ⟨b, 0, none⟩) n c]] w (GaveHeap w (gs.map mirrorF)) := by
  have HC := Lib.hid fun W (h : GrRow W b gs) => changeHeap_mirror mirrorF b n c gs W hl h h1 hn hv hv2 (fun k W' hk hb' => mirrorOne_of (gs.getD k default) W')
  have hlm : (gs.map mirrorF).length = n := by rw [List.length_map, hl]
  have hbel := ((Below.refl w.heap.size w).alloc (Nat.le_refl _) (.cells #[.slice (some ⟨b, 0, none⟩) n c] 26)).alloc (by simp) (.cells #[.slice none 0 0] 26)
  have hB2 : Blk ((w.alloc (.cells #[.slice (some ⟨b, 0, none⟩) n c] 26)).alloc (.cells #[.slice none 0 0] 26)) (w.heap.size + 1) 26 _ := blk_new _ _ _ _ (by simp)
  have HR0 := Lib.hid (hr.below hbel (Nat.le_refl _))
  have HBel := Lib.hid hbel
  have HB2 := Lib.hid hB2
  have HLm := Lib.hid hlm
  clear hl hr hv hv2 hlm hbel hB2
  go_enter Try.func12, Try.ntmps12
  go_wp2_with fail
  refine (HC.out _ HR0.out).mono ?_
  unfold GaveHeap
  rw [HLm.out]
  rintro e w4 ⟨bc, cc, rfl, ho, hb⟩
  have O5 := Lib.hid ho
  have P5 := Lib.hid (blk_next HB2.out hb)
  have L5 := Lib.hid (below_next HBel.out hb)
  have hz := HBel.out.size
  have p0 := P5.out.cell 0
  have q0 := P5.out.frozen 0
  clear ho hb
  go_wp2
  refine bodyPost_ret (v := .tuple #[.agg #[.slice (some ⟨bc, 0, none⟩) n cc], .bool true]) (results_row_tmp Try.results12 _ _ (w.heap.size + 1) 26 #[.slice (some ⟨bc, 0, none⟩) n cc] _ _ rfl (P5.out.set_ 0 _) rfl Try.underlying26 rfl (by kernel_rfl)) rfl ?_
  first | (unfold GaveHeap; rw [HLm.out]) | rw [HLm.out]
  exact ⟨bc, cc, rfl, own_far (own_from O5.out hz) P5.out neGH' 0 _, L5.out.setCell (by show w.heap.size ≤ w.heap.size + 1; omega) _⟩
end Go.Proofs.Ytbggklhnnjikjaa
