/- A heap read: the program's readHeap. -/
import Derived.Test.YtljcgfgkfkoeeaaGreatDoorJc
import Derived.Test.YtljcgfgkfkoeeaaGreatDoorGrl
namespace Go.Proofs.YtljcgfgkfkoeeaaGreatDoor
open Go.RowKit

def RgEnd (o : Option Gr) (p : Value) (w : World) (e : Ending) (w' : World) : Prop := e = (match o with | some g => .returned g.val | none => refused p) ∧ Below w.heap.size w w'
/-- what stands in memory behind both lists -/
structure Two (w W : World) (bp g1 g2 : Nat) (x y z : ByteArray) (zs1 : List (Nat × Nat)) (zs2 : List Nat) : Prop where
  r : W.cell? ⟨g1, 0, none⟩ = some (.complex .f32 (zs1.getD 0 (0, 0)).1 (zs1.getD 0 (0, 0)).2) ∧ W.cell? ⟨g1, 1, none⟩ = some (.complex .f32 (zs1.getD 1 (0, 0)).1 (zs1.getD 1 (0, 0)).2)
  f : W.cell? ⟨g2, 0, none⟩ = some (.float .f32 (zs2.getD 0 0)) ∧ W.cell? ⟨g2, 1, none⟩ = some (.float .f32 (zs2.getD 1 0)) ∧ W.cell? ⟨g2, 2, none⟩ = some (.float .f32 (zs2.getD 2 0)) ∧ W.cell? ⟨g2, 3, none⟩ = some (.float .f32 (zs2.getD 3 0))
  t : Txt W bp [x, y, z]
  b : Blk W w.heap.size 39 (arr7 zg)
  k : Below w.heap.size w W
theorem two_of {w w1 w2 w3 : World} {bp g1 g2 c1 c2 : Nat} {x y z : ByteArray} {zs1 : List (Nat × Nat)} {zs2 : List Nat} (ht : Txt w1 bp [x, y, z]) (hb : Blk w1 w.heap.size 39 (arr7 zg)) (hk : Below w.heap.size w w1)
    (h2 : w2.ownsRow w1.drew.heap.size 36 1 (.slice (some ⟨g1, 0, none⟩) 2 c1) 2 (zs1.map cval)) (k2 : Below w1.drew.heap.size w1.drew w2)
    (h3 : w3.ownsRow w2.heap.size 37 1 (.slice (some ⟨g2, 0, none⟩) 4 c2) 4 (zs2.map (Value.float .f32))) (k3 : Below w2.heap.size w2 w3) : Two w w3 bp g1 g2 x y z zs1 zs2 :=
  ⟨own_two (own_below h2 k3 (Nat.le_refl _)), own_four h3, Txt.next (Txt.next (w := w1.drew) ht k2) k3, blk_next (blk_next (w0 := w1.drew) hb k2) k3, below_next (below_next (below_d1 hk) k2) k3⟩
theorem require_out (w : World) (p : Value) (h : Ref w p) : Calls Tryz.prog 29 #[.bool false] w fun e w' => e = .panicked [{ v := .iface 145 p, recovered := false }] ∧ w = w' := require_no w p h
set_option maxRecDepth 100000 in
set_option maxHeartbeats 6400000 in
theorem readGrain_main (s : ByteArray) (w : World) (m : Int) (p : Value) (a b c : List UInt8) (hs : s.size ≤ 1048576) (hE : Env w m p) (habc : cparts 58 s.data.toList = [a, b, c]) (h1 : ExC a 2 = true) (h2 : ExF b 4 = true) :
    Calls Tryz.prog 23 #[.string s] w (RgEnd (rg3 a b c) p w) := by
  have HP := Lib.hid fun w' hb => parts_at s w' m p hs (hE.below (w' := w') hb) habc
  have HB0 := Lib.hid ((Below.refl w.heap.size w).alloc (Nat.le_refl _) (.cells #[.complex .f32 0 0, .complex .f32 0 0, .float .f32 0, .float .f32 0, .float .f32 0, .float .f32 0, .bool false] 39))
  have HZ := Lib.hid (blk7_new w 39)
  obtain ⟨ha, hb⟩ := mem_le hs habc
  have HC1 := Lib.hid fun x w' hx (hb : Below w.heap.size w w') => exactC_at ha x w' m p hx (hE.below hb) h1
  have HF1 := Lib.hid fun x w' hx (hb2 : Below w.heap.size w w') => exactF_at hb x w' m p hx (hE.below hb2) h2
  have HRq := Lib.hid fun w' (hb : Below w.heap.size w w') => (hE.below hb).rf
  have hsc := run_store_complex Tryz.prog
  have hsf := run_store_float' Tryz.prog
  have HG := Lib.hid h1
  have HG2 := Lib.hid h2
  obtain ⟨zs1, hz1⟩ : ∃ zs, zs = clZ a := ⟨_, rfl⟩
  obtain ⟨zs2, hz2⟩ : ∃ zs, zs = flZ b := ⟨_, rfl⟩
  rw [← hz1] at HC1
  rw [← hz2] at HF1
  have HZ1 := Lib.hid hz1
  have HZ2 := Lib.hid hz2
  clear hE habc h1 h2 ha hb hz1 hz2
  go_enter Tryz.func23, Tryz.ntmps23
  go_upto_region 2 with (go_at_call 32; ((with_reducible refine (HP.out _ HB0.out).mono ?_); rintro e w1 ⟨bp, x, y, z, cp, rfl, hx, hy, hz, ht, hb⟩; go_must (obtain ⟨x0, x1, x2⟩ := txt_three ht); have HX := Lib.hid hx; have HY := Lib.hid hy; have HZz := Lib.hid hz; have HT := Lib.hid ht; have HBz := Lib.hid (blk_next HZ.out hb); have HB := Lib.hid (below_next HB0.out hb); clear ht hb hx hy hz))
  go_cut [4, 5] (fun s4 s5 wx => ∃ (W : World) (g1 c1 g2 c2 : Nat), W = wx ∧ s4 = .slice (some ⟨g1, 0, none⟩) 2 c1 ∧ s5 = .slice (some ⟨g2, 0, none⟩) 4 c2 ∧ Two w W bp g1 g2 x y z zs1 zs2)
  case first =>
    go_region_with (first | (go_at_call 33; ((with_reducible refine (HC1.out _ _ HX.out (below_d1 HB.out)).mono ?_); rintro e w2 ⟨g1, c1, rfl, ho, hb⟩; have HO2 := Lib.hid ho; have HK2 := Lib.hid hb; go_must (obtain ⟨y0, y1, y2⟩ := txt_three (Txt.next (w := w1.drew) HT.out hb)); have HB2 := Lib.hid (below_next (below_d1 HB.out) hb); clear ho hb)) | (go_at_call 35; ((with_reducible refine (HF1.out _ _ HY.out HB2.out).mono ?_); rintro e w3 ⟨g2, c2, rfl, ho, hb⟩; have HTw := Lib.hid (two_of HT.out HBz.out HB.out HO2.out HK2.out ho hb); clear ho hb)))
    all_goals
      go_wp2_with fail
      go_meet
      case rel => exact ⟨_, g1, c1, g2, c2, rfl, rfl, rfl, HTw.out⟩
  case rest =>
    obtain ⟨W, g1, c1, g2, c2, rfl, rfl, rfl, hTw⟩ := hcut
    obtain ⟨⟨r0, r1⟩, ⟨f0, f1, f2, f3⟩, ht, hz, hk⟩ := hTw
    obtain ⟨t0, t1, t2⟩ := txt_three ht
    have HZW := Lib.hid hz
    have HKW := Lib.hid hk
    clear x0 x1 x2 ht hz hk HP HB0 HZ HC1 HF1
    by_cases hst : c = freeL ∨ c = heldL
    · obtain ⟨f, h, hQ, hfh⟩ : ∃ f h, StQ c f h ∧ ((f = true ∧ h = false ∧ c = freeL) ∨ (f = false ∧ h = true ∧ c = heldL)) := hst.elim (fun h => ⟨_, _, stq_free h, Or.inl ⟨rfl, rfl, h⟩⟩) (fun h => ⟨_, _, stq_held h, Or.inr ⟨rfl, rfl, h⟩⟩)
      obtain ⟨⟨q1, q2⟩, q3, q4⟩ := hQ z HZz.out
      have hgh : (gOf a b c).h = h := by
        show decide (c = heldL) = h
        rcases hfh with ⟨-, rfl, e⟩ | ⟨-, rfl, e⟩ <;> rw [e] <;> rfl
      have hgE : gOf a b c = ⟨(zs1.getD 0 (0, 0)).1, (zs1.getD 0 (0, 0)).2, (zs1.getD 1 (0, 0)).1, (zs1.getD 1 (0, 0)).2, zs2.getD 0 0, zs2.getD 1 0, zs2.getD 2 0, zs2.getD 3 0, h⟩ := by rw [← hgh, HZ1.out, HZ2.out]; rfl
      have hyes := fun hv => rg3_good (a := a) (b := b) (c := c) (hst.elim Or.inr Or.inl) HG.out HG2.out hv
      have hno := fun hv => rg3_bad (a := a) (b := b) (c := c) hv
      rw [hgE] at hyes hno
      clear hQ hst hgh hgE HZ1 HZ2
      generalize (zs1.getD 0 (0, 0)).1 = u0 at r0 hyes hno
      generalize (zs1.getD 0 (0, 0)).2 = u1 at r0 hyes hno
      generalize (zs1.getD 1 (0, 0)).1 = u2 at r1 hyes hno
      generalize (zs1.getD 1 (0, 0)).2 = u3 at r1 hyes hno
      generalize zs2.getD 0 0 = v0 at f0 hyes hno
      generalize zs2.getD 1 0 = v1 at f1 hyes hno
      generalize zs2.getD 2 0 = v2 at f2 hyes hno
      generalize zs2.getD 3 0 = v3 at f3 hyes hno
      have HY9 := Lib.hid hyes
      have HN := Lib.hid hno
      have k1 := World.block_lt_of_cell? W _ r0
      have k2 := World.block_lt_of_cell? W _ f0
      have k3 := World.block_lt_of_cell? W _ t2
      clear hyes hno
      rcases hfh with ⟨rfl, rfl, -⟩ | ⟨rfl, rfl, -⟩
      · go_wp2_with (go_at_call 29; ((with_reducible refine (require_yes _).mono ?_); rintro e w5 ⟨rfl, rfl⟩))
        go_region_held3 (fun w' => w'.cell? ⟨g1, 0, none⟩ = some (.complex .f32 u0 u1) ∧ w'.cell? ⟨g1, 1, none⟩ = some (.complex .f32 u2 u3) ∧ w'.cell? ⟨g2, 0, none⟩ = some (.float .f32 v0) ∧ w'.cell? ⟨g2, 1, none⟩ = some (.float .f32 v1) ∧ w'.cell? ⟨g2, 2, none⟩ = some (.float .f32 v2) ∧ w'.cell? ⟨g2, 3, none⟩ = some (.float .f32 v3) ∧ w'.cell? ⟨bp, 2, none⟩ = some (.string z)) (first | exact ⟨r0, r1, f0, f1, f2, f3, t2⟩ | go_keep) (fail)
        have HMk := Lib.hid (show Blk ((W.alloc (.cells #[.complex .f32 u0 u1, .complex .f32 u2 u3, .float .f32 v0, .float .f32 v1, .float .f32 v2, .float .f32 v3, .bool false] 39)).drew) W.heap.size 39 (arr7 ⟨u0, u1, u2, u3, v0, v1, v2, v3, false⟩) from blk_new W _ _ _ rfl)
        have HZ5 := Lib.hid (show Blk ((W.alloc (.cells #[.complex .f32 u0 u1, .complex .f32 u2 u3, .float .f32 v0, .float .f32 v1, .float .f32 v2, .float .f32 v3, .bool false] 39)).drew) w.heap.size 39 (arr7 zg) from HZW.out.alloc _)
        have HB5 := Lib.hid (show Below w.heap.size w ((W.alloc (.cells #[.complex .f32 u0 u1, .complex .f32 u2 u3, .float .f32 v0, .float .f32 v1, .float .f32 v2, .float .f32 v3, .bool false] 39)).drew) from below_drewN (HKW.out.alloc HKW.out.size _) 1)
        have hne := HZW.out.lt
        generalize ((W.alloc (.cells #[.complex .f32 u0 u1, .complex .f32 u2 u3, .float .f32 v0, .float .f32 v1, .float .f32 v2, .float .f32 v3, .bool false] 39)).drew) = W5 at HMk HZ5 HB5 ⊢
        clear r0 r1 f0 f1 f2 f3 t2 t0 t1
        have HVg := fun w' => (show Calls Tryz.prog 37 #[.agg #[.complex .f32 u0 u1, .complex .f32 u2 u3, .float .f32 v0, .float .f32 v1, .float .f32 v2, .float .f32 v3, .bool false]] w' _ from validGrain_any ⟨u0, u1, u2, u3, v0, v1, v2, v3, false⟩ w')
        obtain ⟨m0, m1, m2, m3, m4, m5, m6, mf⟩ := blk7_cells HMk.out
        cases hv : Gr.valid ⟨u0, u1, u2, u3, v0, v1, v2, v3, false⟩
        · rw [hv] at HVg
          have HVg' := Lib.hid HVg
          have HA := Lib.hid (HN.out hv)
          clear HVg hv
          go_wp2_with (first | (go_at_call 37; ((with_reducible refine (HVg'.out _).mono ?_); rintro e w6 ⟨rfl, hb⟩; have HB6 := Lib.hid (below_next HB5.out hb); clear hb)) | (go_at_call 29; ((with_reducible refine (require_out _ p (HRq.out _ HB6.out)).mono ?_); rintro e w7 ⟨rfl, rfl⟩)))
          exact ⟨rfl, by rw [HA.out]; rfl, HB6.out⟩
        · rw [hv] at HVg
          have HVg' := Lib.hid HVg
          have HA := Lib.hid (HY9.out hv)
          clear HVg hv
          go_wp2_with (first | (go_at_call 37; ((with_reducible refine (HVg'.out _).mono ?_); rintro e w6 ⟨rfl, hb⟩; have HB6 := Lib.hid (below_next HB5.out hb); have HZ6 := Lib.hid (blk_next HZ5.out hb); go_must (obtain ⟨n0, n1, n2, n3, n4, n5, n6, nf⟩ := blk7_cells (blk_next HMk.out hb)); go_must (obtain ⟨z0, z1, z2, z3, z4, z5, z6, zf⟩ := blk7_cells HZ6.out); clear hb)) | (go_at_call 29; ((with_reducible refine (require_yes _).mono ?_); rintro e w7 ⟨rfl, rfl⟩)))
          refine bodyPost_ret (v := Gr.val ⟨u0, u1, u2, u3, v0, v1, v2, v3, false⟩) (results_cell_row Tryz.results23 _ _ w.heap.size 39 (arr7 ⟨u0, u1, u2, u3, v0, v1, v2, v3, false⟩) (0, 0) _ rfl (put7_blk HZ6.out ⟨u0, u1, u2, u3, v0, v1, v2, v3, false⟩) Tryz.underlying39 rfl (by kernel_rfl)) rfl ⟨by rw [HA.out], put7_below HB6.out (Nat.le_refl _) ⟨u0, u1, u2, u3, v0, v1, v2, v3, false⟩⟩
      · go_wp2_with (go_at_call 29; ((with_reducible refine (require_yes _).mono ?_); rintro e w5 ⟨rfl, rfl⟩))
        go_region_held3 (fun w' => w'.cell? ⟨g1, 0, none⟩ = some (.complex .f32 u0 u1) ∧ w'.cell? ⟨g1, 1, none⟩ = some (.complex .f32 u2 u3) ∧ w'.cell? ⟨g2, 0, none⟩ = some (.float .f32 v0) ∧ w'.cell? ⟨g2, 1, none⟩ = some (.float .f32 v1) ∧ w'.cell? ⟨g2, 2, none⟩ = some (.float .f32 v2) ∧ w'.cell? ⟨g2, 3, none⟩ = some (.float .f32 v3) ∧ w'.cell? ⟨bp, 2, none⟩ = some (.string z)) (first | exact ⟨r0, r1, f0, f1, f2, f3, t2⟩ | go_keep) (fail)
        have HMk := Lib.hid (show Blk ((W.alloc (.cells #[.complex .f32 u0 u1, .complex .f32 u2 u3, .float .f32 v0, .float .f32 v1, .float .f32 v2, .float .f32 v3, .bool true] 39)).drew) W.heap.size 39 (arr7 ⟨u0, u1, u2, u3, v0, v1, v2, v3, true⟩) from blk_new W _ _ _ rfl)
        have HZ5 := Lib.hid (show Blk ((W.alloc (.cells #[.complex .f32 u0 u1, .complex .f32 u2 u3, .float .f32 v0, .float .f32 v1, .float .f32 v2, .float .f32 v3, .bool true] 39)).drew) w.heap.size 39 (arr7 zg) from HZW.out.alloc _)
        have HB5 := Lib.hid (show Below w.heap.size w ((W.alloc (.cells #[.complex .f32 u0 u1, .complex .f32 u2 u3, .float .f32 v0, .float .f32 v1, .float .f32 v2, .float .f32 v3, .bool true] 39)).drew) from below_drewN (HKW.out.alloc HKW.out.size _) 1)
        have hne := HZW.out.lt
        generalize ((W.alloc (.cells #[.complex .f32 u0 u1, .complex .f32 u2 u3, .float .f32 v0, .float .f32 v1, .float .f32 v2, .float .f32 v3, .bool true] 39)).drew) = W5 at HMk HZ5 HB5 ⊢
        clear r0 r1 f0 f1 f2 f3 t2 t0 t1
        have HVg := fun w' => (show Calls Tryz.prog 37 #[.agg #[.complex .f32 u0 u1, .complex .f32 u2 u3, .float .f32 v0, .float .f32 v1, .float .f32 v2, .float .f32 v3, .bool true]] w' _ from validGrain_any ⟨u0, u1, u2, u3, v0, v1, v2, v3, true⟩ w')
        obtain ⟨m0, m1, m2, m3, m4, m5, m6, mf⟩ := blk7_cells HMk.out
        cases hv : Gr.valid ⟨u0, u1, u2, u3, v0, v1, v2, v3, true⟩
        · rw [hv] at HVg
          have HVg' := Lib.hid HVg
          have HA := Lib.hid (HN.out hv)
          clear HVg hv
          go_wp2_with (first | (go_at_call 37; ((with_reducible refine (HVg'.out _).mono ?_); rintro e w6 ⟨rfl, hb⟩; have HB6 := Lib.hid (below_next HB5.out hb); clear hb)) | (go_at_call 29; ((with_reducible refine (require_out _ p (HRq.out _ HB6.out)).mono ?_); rintro e w7 ⟨rfl, rfl⟩)))
          exact ⟨rfl, by rw [HA.out]; rfl, HB6.out⟩
        · rw [hv] at HVg
          have HVg' := Lib.hid HVg
          have HA := Lib.hid (HY9.out hv)
          clear HVg hv
          go_wp2_with (first | (go_at_call 37; ((with_reducible refine (HVg'.out _).mono ?_); rintro e w6 ⟨rfl, hb⟩; have HB6 := Lib.hid (below_next HB5.out hb); have HZ6 := Lib.hid (blk_next HZ5.out hb); go_must (obtain ⟨n0, n1, n2, n3, n4, n5, n6, nf⟩ := blk7_cells (blk_next HMk.out hb)); go_must (obtain ⟨z0, z1, z2, z3, z4, z5, z6, zf⟩ := blk7_cells HZ6.out); clear hb)) | (go_at_call 29; ((with_reducible refine (require_yes _).mono ?_); rintro e w7 ⟨rfl, rfl⟩)))
          refine bodyPost_ret (v := Gr.val ⟨u0, u1, u2, u3, v0, v1, v2, v3, true⟩) (results_cell_row Tryz.results23 _ _ w.heap.size 39 (arr7 ⟨u0, u1, u2, u3, v0, v1, v2, v3, true⟩) (0, 0) _ rfl (put7_blk HZ6.out ⟨u0, u1, u2, u3, v0, v1, v2, v3, true⟩) Tryz.underlying39 rfl (by kernel_rfl)) rfl ⟨by rw [HA.out], put7_below HB6.out (Nat.le_refl _) ⟨u0, u1, u2, u3, v0, v1, v2, v3, true⟩⟩
    · have hc1 : c ≠ heldL := fun e => hst (Or.inr e)
      have hc2 : c ≠ freeL := fun e => hst (Or.inl e)
      obtain ⟨q1, q2, q3⟩ := str_ne (l := [102, 114, 101, 101]) HZz.out hc2
      obtain ⟨q4, q5, q6⟩ := str_ne (l := [104, 101, 108, 100]) HZz.out hc1
      have HA := Lib.hid (rg3_state (a := a) (b := b) hc1 hc2)
      clear hst hc1 hc2
      go_wp2_with (go_at_call 29; ((with_reducible refine (require_out _ p (HRq.out _ HKW.out)).mono ?_); rintro e w5 ⟨rfl, rfl⟩))
      exact ⟨rfl, by rw [HA.out]; rfl, HKW.out⟩
end Go.Proofs.YtljcgfgkfkoeeaaGreatDoor

namespace Go.Proofs.YtljcgfgkfkoeeaaGreatDoor
open Go.RowKit

theorem readGrain_of (s : ByteArray) (w : World) (m : Int) (p : Value) (hs : s.size ≤ 1048576) (hE : Env w m p) :
    Calls Tryz.prog 23 #[.string s] w (RgEnd (rgF s.data.toList) p w) := by
  by_cases h3 : (cparts 58 s.data.toList).length = 3
  · obtain ⟨a, b, c, habc⟩ := three_of h3
    rw [rg_three habc]
    cases h1 : ExC a 2
    · rw [rg3_points h1]
      exact readGrain_lists s w m p a b c hs hE habc (Or.inl h1)
    · cases h2 : ExF b 4
      · rw [rg3_sizes h2]
        exact readGrain_lists s w m p a b c hs hE habc (Or.inr h2)
      · exact readGrain_main s w m p a b c hs hE habc h1 h2
  · rw [rg_short h3]
    exact readGrain_short s w m p hs hE h3
theorem results_two {P : Program} {fn : Func} {p q : Tmp} {ty ty2 : TypeId} (h : fn.results = #[.cell p ty, .cell q ty2]) (tmps : Array Value) (w : World) (g g2 : Nat) (t : TypeId) (cs : Array Value) (d : TypeDesc) (b : Bool)
    (hp : tmps.getD p undef = .pointer (some ⟨g, 0, none⟩)) (hq : tmps.getD q undef = .pointer (some ⟨g2, 0, none⟩)) (hg : Blk w g t cs) (hb : w.cell? ⟨g2, 0, none⟩ = some (.bool b))
    (hu : P.underlying ty = some d) (hd : (match d with | .struct _ | .array _ _ => true | _ => false) = true) (hi : (P.info? ty).map (·.size) = some cs.size) (hu2 : P.underlying ty2 = some .bool) :
    (results fn tmps).run P w = .ok (.tuple #[.agg cs, .bool b]) w := by
  have hp' : tmps[p]?.getD undef = .pointer (some ⟨g, 0, none⟩) := by simpa using hp
  have hq' : tmps[q]?.getD undef = .pointer (some ⟨g2, 0, none⟩) := by simpa using hq
  have h2 : (loadVar ty2 ⟨g2, 0, none⟩).run P w = .ok (.bool b) w := by
    simp [loadVar, run_isAgg_plain hu2 rfl, hb, go_sem]
  simp [results, h, hp', hq', asAddr, run_loadVar_row w g t ty cs (0, 0) d hg hu hd hi, h2]
end Go.Proofs.YtljcgfgkfkoeeaaGreatDoor

namespace Go.Proofs.YtljcgfgkfkoeeaaGreatDoor
open Go.RowKit Fl

def rhOk (l : List UInt8) : Bool := (cparts 47 l).all (fun x => (rgF x).isSome) && decide ((cparts 47 l).length ≤ 24)
def rhGs (l : List UInt8) : List Gr := (cparts 47 l).map (fun x => (rgF x).getD zg)
def rhF (l : List UInt8) : Option (List Gr) := if l = noneL then some [] else if rhOk l then some (rhGs l) else none
theorem rg_valid {l : List UInt8} {g : Gr} (h : rgF l = some g) : g.valid = true := by
  unfold rgF at h
  split at h
  · rename_i a b c _
    unfold rg3 at h
    split at h
    · rename_i hc
      obtain rfl := Option.some.inj h
      simp only [Bool.and_eq_true] at hc
      exact hc.2.2.2
    · cases h
  · cases h
theorem rgs_valid : ∀ {ps : List (List UInt8)}, ps.all (fun x => (rgF x).isSome) = true → (ps.map (fun x => (rgF x).getD zg)).all Gr.valid = true
  | [], _ => rfl
  | x :: ps, h => by
    simp only [List.all_cons, Bool.and_eq_true] at h
    simp only [List.map_cons, List.all_cons, Bool.and_eq_true]
    obtain ⟨g, hg⟩ := Option.isSome_iff_exists.1 h.1
    exact ⟨by rw [hg]; exact rg_valid hg, rgs_valid h.2⟩
theorem rhF_valid {l : List UInt8} {gs : List Gr} (h : rhF l = some gs) : gs.all Gr.valid = true ∧ gs.length ≤ 24 := by
  unfold rhF at h
  split at h
  · obtain rfl := Option.some.inj h
    exact ⟨rfl, by simp⟩
  · split at h
    · rename_i hc
      obtain rfl := Option.some.inj h
      unfold rhOk at hc
      simp only [Bool.and_eq_true, decide_eq_true_eq] at hc
      exact ⟨rgs_valid hc.1, by unfold rhGs; rw [List.length_map]; exact hc.2⟩
    · cases h
/-- what both sides give -/
def RhEnd (o : Option (List Gr)) (w : World) (e : Ending) (w' : World) : Prop := GaveRow w (o.getD []) o.isSome e w'
theorem cparts_le (sep : UInt8) (l p : List UInt8) (h : p ∈ cparts sep l) : p.length ≤ l.length := by
  induction l generalizing p with
  | nil => have : p = [] := by simpa [cparts] using h
           simp [this]
  | cons c r ih =>
    by_cases hc : c = sep
    · subst hc
      rw [cparts_comma] at h
      rcases List.mem_cons.1 h with rfl | h
      · simp
      · have := ih p h; simp; omega
    · cases hr : cparts sep r with
      | nil => exact absurd hr (cparts_ne r)
      | cons q qs =>
        rw [cparts_cons hc hr] at h
        rcases List.mem_cons.1 h with rfl | h
        · have := ih q (by rw [hr]; simp); simp; omega
        · have := ih p (by rw [hr]; simp [h]); simp; omega
end Go.Proofs.YtljcgfgkfkoeeaaGreatDoor

namespace Go.Proofs.YtljcgfgkfkoeeaaGreatDoor
open Go.RowKit Fl

theorem spn_big {l : List UInt8} {n : Nat} {P : List ByteArray} (hb : ¬ (cparts 47 l).length ≤ n → P.length = n + 1) (hN : ¬ (cparts 47 l).length ≤ n) : ¬ P.length ≤ n := by
  have := hb hN
  omega
theorem rows_le {n : Nat} (h : n ≤ 24) : decide ((n : Int) ≤ 24) = true := decide_eq_true (by omega)
theorem rows_gt {n : Nat} (h : ¬ n ≤ 24) : decide ((n : Int) ≤ 24) = false := decide_eq_false (by omega)
set_option maxHeartbeats 800000 in
theorem rowsOf_none (s : ByteArray) (w : World) (hn : s.data.toList = noneL) :
    Calls Tryz.prog 22 #[.string s, .int .i64 24] w fun e w' => e = .returned (.slice none 0 0) ∧ w = w' := by
  obtain ⟨h1, h2, h3⟩ := str_eq (l := [110, 111, 110, 101]) rfl hn
  clear h2 h3
  go_enter Tryz.func22, Tryz.ntmps22
  go_wp2
  go_ret
  exact ⟨rfl, rfl⟩
set_option maxHeartbeats 800000 in
theorem rowsOf_yes (s : ByteArray) (w : World) (m : Int) (p : Value) (hs : s.size ≤ 1048576) (hE : Env w m p) (hn : s.data.toList ≠ noneL) (hc : (cparts 47 s.data.toList).length ≤ 24) :
    Calls Tryz.prog 22 #[.string s, .int .i64 24] w fun e w' => ∃ (P : List ByteArray) (g c : Nat), bts P = cparts 47 s.data.toList ∧ e = .returned (.slice (some ⟨g, 0, none⟩) P.length c) ∧ Txt w' g P ∧ Below w.heap.size w w' := by
  have HS := Lib.hid (show Calls Tryz.prog 31 #[.string s, .string ⟨#[47]⟩, .int .i64 25] w (SpnAns s.data.toList 47 24 w) from splitN_of 47 24 s w m (by decide) (by decide) hs hE.mx)
  have HQ := Lib.hid fun w => require_yes w
  have HN := Lib.hid hc
  obtain ⟨h1, h2, h3⟩ := str_ne (l := [110, 111, 110, 101]) rfl hn
  clear hc hE h2 h3
  go_enter Tryz.func22, Tryz.ntmps22
  go_wp2_with (first | (go_at_call 31; ((with_reducible refine HS.out.mono ?_); rintro e w1 ⟨P, rfl, ht, hb, ha, hb2⟩; have HP := Lib.hid (ha HN.out); have hle : decide ((P.length : Int) ≤ 24) = true := (rows_le (by rw [← bts_len0, HP.out]; exact HN.out)); have HT := Lib.hid ht; have HB := Lib.hid hb; clear ht hb ha hb2)) | (go_at_call 29; ((with_reducible refine (HQ.out _).mono ?_); rintro e w2 ⟨rfl, rfl⟩)))
  go_ret
  exact ⟨P, _, _, HP.out, rfl, HT.out, HB.out⟩
set_option maxHeartbeats 800000 in
theorem rowsOf_no (s : ByteArray) (w : World) (m : Int) (p : Value) (hs : s.size ≤ 1048576) (hE : Env w m p) (hn : s.data.toList ≠ noneL) (hc : ¬ (cparts 47 s.data.toList).length ≤ 24) :
    Calls Tryz.prog 22 #[.string s, .int .i64 24] w fun e w' => e = refused p ∧ Below w.heap.size w w' := by
  have HS := Lib.hid (show Calls Tryz.prog 31 #[.string s, .string ⟨#[47]⟩, .int .i64 25] w (SpnAns s.data.toList 47 24 w) from splitN_of 47 24 s w m (by decide) (by decide) hs hE.mx)
  have HE := Lib.hid fun w' h => (hE.below (w' := w') h).rf
  have HQ := Lib.hid fun w h => require_no w p h
  have HN := Lib.hid hc
  obtain ⟨h1, h2, h3⟩ := str_ne (l := [110, 111, 110, 101]) rfl hn
  clear hc hE h2 h3
  unfold refused at HQ ⊢
  go_enter Tryz.func22, Tryz.ntmps22
  go_wp2_with (first | (go_at_call 31; ((with_reducible refine HS.out.mono ?_); rintro e w1 ⟨P, rfl, ht, hb, ha, hb2⟩; have hne : decide ((P.length : Int) ≤ 24) = false := (rows_gt (spn_big hb2 HN.out)); have HEr := Lib.hid (HE.out w1 hb); have HB := Lib.hid hb; clear ht hb ha hb2)) | (go_at_call 29; ((with_reducible refine (HQ.out _ HEr.out).mono ?_); rintro e w2 ⟨rfl, rfl⟩)))
  exact ⟨rfl, rfl, HB.out⟩
set_option maxHeartbeats 400000 in
theorem mustH_yes (ao : Option Addr) (n c : Nat) (w : World) : Calls Tryz.prog 19 #[.agg #[.slice ao n c], .bool true] w fun e w' => e = .returned (.agg #[.slice ao n c]) ∧ Below w.heap.size w w' := by
  have H := Lib.hid fun w => require_yes w
  have A1 := Lib.hid ((blk_new w 24 #[.slice ao n c] _ rfl).alloc (.cells #[.slice none 0 0] 24))
  have A2 := Lib.hid (blk_new (w.alloc (.cells #[.slice ao n c] 24)) 24 #[.slice none 0 0] (w.heap.size + 1) (by simp))
  have K2 := Lib.hid (((Below.refl w.heap.size w).alloc (Nat.le_refl _) (.cells #[.slice ao n c] 24)).alloc (by simp) (.cells #[.slice none 0 0] 24))
  have K3 := Lib.hid (((Below.refl w.heap.size w).alloc (Nat.le_refl _) (.cells #[.slice ao n c] 24)).alloc (by simp) (.cells #[.slice ao n c] 24))
  go_enter Tryz.func19, Tryz.ntmps19
  go_wp2_with (go_at_call 29; ((with_reducible refine (H.out _).mono ?_); rintro e w1 ⟨rfl, rfl⟩))
  have hset := blk_new (w.alloc (.cells #[.slice ao n c] 24)) 24 #[.slice ao n c] (w.heap.size + 1) (by simp)
  refine bodyPost_ret (v := .agg #[.slice ao n c]) (results_cell_row Tryz.results19 _ _ (w.heap.size + 1) 24 #[.slice ao n c] (0, 0) _ rfl hset Tryz.underlying24 rfl (by kernel_rfl)) rfl ⟨rfl, K3.out⟩
set_option maxHeartbeats 400000 in
theorem mustH_no (ao : Option Addr) (n c : Nat) (p : Value) (w : World) (h : Ref w p) : Calls Tryz.prog 19 #[.agg #[.slice ao n c], .bool false] w fun e w' => e = refused p ∧ Below w.heap.size w w' := by
  have K2 := Lib.hid (((Below.refl w.heap.size w).alloc (Nat.le_refl _) (.cells #[.slice ao n c] 24)).alloc (by simp) (.cells #[.slice none 0 0] 24))
  have H := Lib.hid (require_no _ p (h.below K2.out))
  clear h
  unfold refused at H ⊢
  go_enter Tryz.func19, Tryz.ntmps19
  go_wp2_with (go_at_call 29; ((with_reducible refine (H.out).mono ?_); rintro e w1 ⟨rfl, rfl⟩))
  exact ⟨rfl, rfl, K2.out⟩
end Go.Proofs.YtljcgfgkfkoeeaaGreatDoor

namespace Go.Proofs.YtljcgfgkfkoeeaaGreatDoor
open Go.RowKit Fl

def fil (gs : List Gr) (n k : Nat) : List Gr := gs.take k ++ List.replicate (n - k) zGr
theorem fil_length {gs : List Gr} {n k : Nat} (hl : gs.length = n) (hk : k ≤ n) : (fil gs n k).length = n := by
  unfold fil; simp [hl]; omega
theorem fil_all {gs : List Gr} {n : Nat} (hl : gs.length = n) : fil gs n n = gs := by
  unfold fil; rw [List.take_of_length_le (by omega)]; simp
theorem fil_succ {gs : List Gr} {n k : Nat} (hl : gs.length = n) (hk : k < n) : (fil gs n k).set k (gs.getD k default) = fil gs n (k + 1) := by
  unfold fil
  have hkl : k < gs.length := by omega
  have hlt : (gs.take k).length = k := by rw [List.length_take]; omega
  rw [List.set_append_right _ _ (by omega), hlt, Nat.sub_self, show n - k = (n - (k + 1)) + 1 by omega, List.replicate_succ, List.set_cons_zero, List.take_succ_eq_append_getElem hkl, List.getD_eq_getElem?_getD, List.getElem?_eq_getElem hkl, List.append_assoc]
  rfl
/-- the grains of all rows -/
def rowsGs (ps : List (List UInt8)) : List Gr := ps.map (fun x => (rgF x).getD zg)
theorem rowsGs_length (ps : List (List UInt8)) : (rowsGs ps).length = ps.length := by simp [rowsGs]
theorem rowsGs_at {ps : List (List UInt8)} {k : Nat} (h : k < ps.length) : (rowsGs ps).getD k default = (rgF (ps.getD k [])).getD zg := by
  unfold rowsGs
  rw [List.getD_eq_getElem?_getD, List.getElem?_map, List.getElem?_eq_getElem h, List.getD_eq_getElem?_getD, List.getElem?_eq_getElem h]
  rfl
theorem some_all {ps : List (List UInt8)} (h : ∀ j, j < ps.length → (rgF (ps.getD j [])).isSome = true) : ps.all (fun x => (rgF x).isSome) = true := by
  rw [List.all_eq_true]
  intro x hx
  obtain ⟨j, hj, rfl⟩ := List.mem_iff_getElem.1 hx
  have := h j hj
  rwa [List.getD_eq_getElem?_getD, List.getElem?_eq_getElem hj] at this
theorem none_all {ps : List (List UInt8)} {j : Nat} (hj : j < ps.length) (h : rgF (ps.getD j []) = none) : ps.all (fun x => (rgF x).isSome) = false := by
  rw [Bool.eq_false_iff]
  intro hall
  have := List.all_eq_true.1 hall (ps.getD j []) (by rw [List.getD_eq_getElem?_getD, List.getElem?_eq_getElem hj]; exact List.getElem_mem _)
  rw [h] at this
  cases this
def EachEnd (ps : List (List UInt8)) (p : Value) (w : World) (e : Ending) (w' : World) : Prop :=
  if ps.all (fun x => (rgF x).isSome) then e = .returned (.slice (some ⟨w.heap.size, 0, none⟩) ps.length ps.length) ∧ w'.ownsRow w.heap.size 39 7 (.slice (some ⟨w.heap.size, 0, none⟩) ps.length ps.length) ps.length (gcells (rowsGs ps)) ∧ Below w.heap.size w w'
  else e = refused p ∧ Below w.heap.size w w'
theorem eachEnd_no {ps : List (List UInt8)} {p : Value} {w w' : World} {j : Nat} (hj : j < ps.length) (h : rgF (ps.getD j []) = none) (hb : Below w.heap.size w w') : EachEnd ps p w (refused p) w' := by
  unfold EachEnd
  rw [if_neg (by rw [none_all hj h]; decide)]
  exact ⟨rfl, hb⟩
theorem eachEnd_yes {ps : List (List UInt8)} {p : Value} {w w' : World} {n : Nat} (hn : ps.length = n) (h : ∀ j, j < ps.length → (rgF (ps.getD j [])).isSome = true) (ho : w'.ownsRow w.heap.size 39 7 (.slice (some ⟨w.heap.size, 0, none⟩) n n) n (gcells (rowsGs ps))) (hb : Below w.heap.size w w') : EachEnd ps p w (.returned (.slice (some ⟨w.heap.size, 0, none⟩) n n)) w' := by
  subst hn
  unfold EachEnd
  rw [if_pos (some_all h)]
  exact ⟨rfl, ho, hb⟩
set_option maxRecDepth 100000 in
set_option maxHeartbeats 3200000 in
theorem eachRows_of (g n c : Nat) (P : List ByteArray) (ps : List (List UInt8)) (w : World) (m : Int) (p : Value) (hT : Txt w g P) (hP : bts P = ps) (hn : ps.length = n) (hn2 : n ≤ 24) (hE : Env w m p) (hz : ∀ x ∈ ps, x.length ≤ 1048576) :
    Calls Tryz.prog 21 #[.slice (some ⟨g, 0, none⟩) n c, .func (.func 23) #[] #[]] w (EachEnd ps p w) := by
  obtain ⟨i0, hi, hz0, hz1, hz2⟩ := info_parts ginfo
  have HT := Lib.hid hT
  have HP := Lib.hid hP
  have HN := Lib.hid hn
  have HPl := Lib.hid (show P.length = n by rw [← hn, ← hP, bts_len0])
  have HGl := Lib.hid (show (rowsGs ps).length = n by rw [rowsGs_length, hn])
  have HEv := Lib.hid fun W (h : Below w.heap.size w W) => hE.below h
  have HZ := Lib.hid hz
  clear hT hP hn hE hz
  go_enter Tryz.func21, Tryz.ntmps21
  go_wp2_with (at_make; go_loud (refine wpList_make_full _ rfl _ _ 22 rfl w.heap.size 39 i0 _ 7 Tryz.underlying22 hi hz0 hz1 .i64 .i64 _ _ n rfl rfl rfl rfl (by rw [hz2]; omega) (by unfold maxLen; omega) (Nat.le_refl _) ?_); intro w1 hown hgrow)
  rw [made_gr] at hown
  have O1 := Lib.hid hown
  have B1 := Lib.hid ((Below.refl w.heap.size w).grown hgrow (Nat.le_refl _) (by simp) : Below w.heap.size w w1)
  clear hown hgrow
  go_loopw [13] (fun i wr => ∃ (W : World) (k : Nat), W = wr ∧ k ≤ n ∧ i = .int .i64 k ∧ Hid (∀ j, j < k → (rgF (ps.getD j [])).isSome = true) ∧ wr.ownsRow w.heap.size 39 7 (.slice (some ⟨w.heap.size, 0, none⟩) n n) n (gcells (fil (rowsGs ps) n k)) ∧ Below w.heap.size w wr) (fun i _ => n - (intOf i).toNat)
  case atStart => exact ⟨_, 0, rfl, Nat.zero_le _, rfl, fun j hj => absurd hj (Nat.not_lt_zero j), by have := O1.out; unfold fil; simpa using this, B1.out⟩
  case round =>
    obtain ⟨W, k, rfl, hk, rfl, hS, hO, hB⟩ := hrel
    have HO := Lib.hid hO
    have HB := Lib.hid hB
    clear hO hB
    by_cases hlt : k < n
    · have hkp : k < P.length := by rw [HPl.out]; exact hlt
      have hkn : k < ps.length := by rw [HN.out]; exact hlt
      have c0 := (HT.out.next HB.out).cell hkp
      have hx : (P.getD k ⟨#[]⟩).data.toList = ps.getD k [] := by rw [← bts_getD P k hkp, HP.out]
      have hz := HZ.out (ps.getD k []) (by rw [List.getD_eq_getElem?_getD, List.getElem?_eq_getElem hkn]; exact List.getElem_mem _)
      generalize P.getD k ⟨#[]⟩ = x at c0 hx
      have HR := Lib.hid fun W' h => readGrain_of x W' m p (by rw [← hx] at hz; simpa using hz) (HEv.out W' h)
      rw [hx] at HR
      have HSet := Lib.hid (fil_succ HGl.out hlt)
      rw [rowsGs_at hkn] at HSet
      cases hr : rgF (ps.getD k []) with
      | none =>
        rw [hr] at HR
        have HNo := Lib.hid fun w' hb => eachEnd_no (p := p) (w := w) (w' := w') hkn hr hb
        unfold RgEnd refused at HR
        unfold refused at HNo
        clear hr hx hz HSet
        go_wp2_with fail
        refine (HR.out _ HB.out).mono ?_
        rintro e w4 ⟨rfl, hb⟩
        exact ⟨rfl, HNo.out _ (below_next HB.out hb)⟩
      | some g2 =>
        rw [hr] at HR HSet
        have HS2 := Lib.hid (show ∀ j, j < k + 1 → (rgF (ps.getD j [])).isSome = true from fun j hj => (Nat.lt_succ_iff_lt_or_eq.1 hj).elim (hS.out j) (fun e => by rw [e, hr]; rfl))
        dsimp only [Option.getD_some] at HSet
        obtain ⟨ax, ay, sx, sy, r, mm, t, s, hh⟩ := g2
        unfold RgEnd Gr.val at HR
        dsimp only at HR
        have hsf := run_store_float' Tryz.prog
        have hsc := run_store_complex Tryz.prog
        clear hr hx hz hS
        go_wp2_with fail
        refine (HR.out _ HB.out).mono ?_
        rintro e w4 ⟨rfl, hb⟩
        have O4 := Lib.hid (own_below HO.out hb (Nat.le_refl _))
        have L4 := Lib.hid (below_next HB.out hb)
        have hgl := fil_length (n := n) (k := k) HGl.out hk
        obtain ⟨c0', c1, c2, c3, c4, c5, c6⟩ := row_of_own O4.out hgl k (by rw [hgl]; exact hlt)
        have f0 := O4.out.frozenAt (k * 7)
        have f1 := O4.out.frozenAt (k * 7 + 1)
        have f2 := O4.out.frozenAt (k * 7 + 2)
        have f3 := O4.out.frozenAt (k * 7 + 3)
        have f4 := O4.out.frozenAt (k * 7 + 4)
        have f5 := O4.out.frozenAt (k * 7 + 5)
        have f6 := O4.out.frozenAt (k * 7 + 6)
        generalize (fil (rowsGs ps) n k).getD k default = old at c0' c1 c2 c3 c4 c5 c6
        have HGl2 := Lib.hid hgl
        clear hb hgl c0
        go_wp2_with fail
        go_roundw
        case rel =>
          refine ⟨_, k + 1, rfl, by omega, by go_num, HS2.out, ?_, stored7_below (g := w.heap.size) L4.out (Nat.le_refl _) k ⟨ax, ay, sx, sy, r, mm, t, s, hh⟩⟩
          rw [← HSet.out]
          exact stored7_own O4.out (k := k) (by rw [HGl2.out]; exact hlt) ⟨ax, ay, sx, sy, r, mm, t, s, hh⟩
        case measure => simp [intOf]; omega
    · have hk2 : k = n := by omega
      subst hk2
      have hO := HO.out
      rw [fil_all HGl.out] at hO
      have HY := Lib.hid (eachEnd_yes (p := p) (w := w) (w' := W) HN.out (by rw [HN.out]; exact hS.out) hO HB.out)
      clear hO hS
      go_wp2_with fail
      go_ret
      exact HY.out
end Go.Proofs.YtljcgfgkfkoeeaaGreatDoor

namespace Go.Proofs.YtljcgfgkfkoeeaaGreatDoor
open Go.RowKit Fl

set_option maxHeartbeats 1600000 in
theorem eachRows_nil (w : World) :
    Calls Tryz.prog 21 #[.slice none 0 0, .func (.func 23) #[] #[]] w fun e w' => ∃ b, e = .returned (.slice (some ⟨b, 0, none⟩) 0 0) ∧ w'.ownsRow w.heap.size 39 7 (.slice (some ⟨b, 0, none⟩) 0 0) 0 (gcells []) ∧ Below w.heap.size w w' := by
  obtain ⟨i0, hi, hz0, hz1, hz2⟩ := info_parts ginfo
  go_enter Tryz.func21, Tryz.ntmps21
  go_wp2_with (at_make; go_loud (refine wpList_make_full _ rfl _ _ 22 rfl w.heap.size 39 i0 _ 7 Tryz.underlying22 hi hz0 hz1 .i64 .i64 _ _ 0 rfl rfl rfl rfl (by rw [hz2]; omega) (by unfold maxLen; omega) (Nat.le_refl _) ?_); intro w1 hown hgrow)
  rw [made_gr] at hown
  have O1 := Lib.hid hown
  have B1 := Lib.hid ((Below.refl w.heap.size w).grown hgrow (Nat.le_refl _) (by simp) : Below w.heap.size w w1)
  clear hown hgrow
  refine wp_loop_rounds 1 ?_
  rw [rounds_succ]
  go_wp2
  go_ret
  exact ⟨_, rfl, O1.out, B1.out⟩
def RhR (o : Option (List Gr)) (p : Value) (w : World) (e : Ending) (w' : World) : Prop :=
  match o with
  | some gs => ∃ b c, e = .returned (.agg #[.slice (some ⟨b, 0, none⟩) gs.length c]) ∧ w'.ownsRow w.heap.size 39 7 (.slice (some ⟨b, 0, none⟩) gs.length c) gs.length (gcells gs) ∧ Below w.heap.size w w'
  | none => e = refused p ∧ Below w.heap.size w w'
theorem rhF_none {l : List UInt8} (h : l = noneL) : rhF l = some [] := by unfold rhF; rw [if_pos h]
theorem rhF_no {l : List UInt8} (h : l ≠ noneL) (h2 : rhOk l = false) : rhF l = none := by unfold rhF; rw [if_neg h, h2]; rfl
theorem rhF_yes {l : List UInt8} (h : l ≠ noneL) (h2 : rhOk l = true) : rhF l = some (rowsGs (cparts 47 l)) := by unfold rhF; rw [if_neg h, h2]; rfl
theorem heap_yes (b n c : Nat) (gs : List Gr) (w : World) (hl : gs.length = n) (hr : GrRow w b gs) (hn : n ≤ 24) (hv : gs.all Gr.valid = true) :
    Calls Tryz.prog 20 #[.slice (some ⟨b, 0, none⟩) n c] w fun e w' => e = .returned (.tuple #[.agg #[.slice (some ⟨b, 0, none⟩) n c], .bool true]) ∧ Below w.heap.size w w' := by
  have h := heapOf_of b n c gs w hl hr hn
  rw [hv] at h
  exact h
set_option maxRecDepth 100000 in
set_option maxHeartbeats 1600000 in
theorem readHeap_of (s : ByteArray) (w : World) (m : Int) (p : Value) (hs : s.size ≤ 1048576) (hE : Env w m p) :
    Calls Tryz.prog 11 #[.string s] w (RhR (rhF s.data.toList) p w) := by
  have hmf : ∀ (fn : Fn) (first cap : Array Value) (w : World), (Instr.makeFunc fn first cap).run Tryz.prog w = .ok (.func fn first cap) w := fun _ _ _ _ => rfl
  have hsz : s.data.toList.length = s.size := by simp
  have hz : ∀ x ∈ cparts 47 s.data.toList, x.length ≤ 1048576 := fun x hx => by have := cparts_le 47 _ _ hx; omega
  have HM := Lib.hid fun ao n c w => mustH_yes ao n c w
  have K0 := Lib.hid ((Below.refl w.heap.size w).alloc (Nat.le_refl _) (.cells #[.slice none 0 0] 24))
  have A0 := Lib.hid (blk_new w 24 #[.slice none 0 0] _ rfl)
  by_cases hn : s.data.toList = noneL
  · rw [rhF_none hn]
    have HR := Lib.hid fun w => rowsOf_none s w hn
    have HX := Lib.hid fun w => eachRows_nil w
    have HO := Lib.hid fun b c w hr => heap_yes b 0 c [] w rfl hr (by decide) rfl
    clear hE hz hsz hn
    go_enter Tryz.func11, Tryz.ntmps11
    go_wp2_with (first | (go_at_call 22; ((with_reducible refine (HR.out _).mono ?_); rintro e w1 ⟨rfl, rfl⟩)) | (go_at_call 21; ((with_reducible refine (HX.out _).mono ?_); rintro e w2 ⟨bg, rfl, ho, hb⟩; have O2 := Lib.hid (own_from ho K0.out.size); have B2 := Lib.hid (below_next K0.out hb); have A2 := Lib.hid (blk_next A0.out hb); clear ho hb)) | (go_at_call 20; ((with_reducible refine (HO.out _ _ _ (row_of_own O2.out rfl)).mono ?_); rintro e w3 ⟨rfl, hb⟩; have O3 := Lib.hid (own_below O2.out hb (Nat.le_refl _)); have B3 := Lib.hid (below_next B2.out hb); have A3 := Lib.hid (blk_next A2.out hb); clear hb)) | (go_at_call 19; ((with_reducible refine (HM.out _ _ _ _).mono ?_); rintro e w4 ⟨rfl, hb⟩; have O4 := Lib.hid (own_below O3.out hb (Nat.le_refl _)); have B4 := Lib.hid (below_next B3.out hb); have A4 := Lib.hid (blk_next A3.out hb); have a4 := A4.out.cell 0; have f4 := A4.out.frozen 0; clear hb)))
    refine bodyPost_ret (v := .agg #[.slice (some ⟨bg, 0, none⟩) 0 0]) (results_cell_row Tryz.results11 _ _ w.heap.size 24 #[.slice (some ⟨bg, 0, none⟩) 0 0] (0, 0) _ rfl (A4.out.set_ 0 _) Tryz.underlying24 rfl (by kernel_rfl)) rfl ⟨_, _, rfl, own_far O4.out A4.out neGH 0 _, B4.out.setCell (Nat.le_refl _) _⟩
  · by_cases hc : (cparts 47 s.data.toList).length ≤ 24
    · have HR := Lib.hid fun w' hb => rowsOf_yes s w' m p hs (hE.below (w' := w') hb) hn hc
      have HX := Lib.hid fun g c P n w' hT hP hn hb => eachRows_of g n c P (cparts 47 s.data.toList) w' m p hT hP hn (by omega) (hE.below (w' := w') hb) hz
      cases hok : (cparts 47 s.data.toList).all (fun x => (rgF x).isSome)
      · rw [rhF_no hn (by unfold rhOk; rw [hok]; rfl)]
        have hX2 := Lib.hid fun g c P n w' hT hP hn hb => show Calls _ _ _ w' fun e w'' => e = refused p ∧ Below w'.heap.size w' w'' from by
          have h := HX.out g c P n w' hT hP hn hb
          unfold EachEnd at h
          simp only [hok, Bool.false_eq_true, if_false] at h
          exact h
        unfold refused at hX2
        unfold RhR refused
        clear hE hz hsz hn HX hc hok
        generalize cparts 47 s.data.toList = ps at HR hX2
        go_enter Tryz.func11, Tryz.ntmps11
        go_wp2_with (first | (go_at_call 22; ((with_reducible refine (HR.out _ K0.out).mono ?_); rintro e w1 ⟨P, gp, c, hP, rfl, ht, hb⟩; have HP := Lib.hid hP; have HT := Lib.hid ht; have B1 := Lib.hid (below_next K0.out hb); have A1 := Lib.hid (blk_next A0.out hb); clear hP ht hb)) | (go_at_call 21; ((with_reducible refine (hX2.out _ _ P _ _ HT.out HP.out (by rw [← HP.out, bts_len0]) B1.out).mono ?_); rintro e w2 ⟨rfl, hb⟩; have B2 := Lib.hid (below_next B1.out hb); clear hb)))
        exact ⟨rfl, rfl, B2.out⟩
      · rw [rhF_yes hn (by unfold rhOk; rw [hok, decide_eq_true hc]; rfl)]
        have hX2 := Lib.hid fun g c P n w' hT hP hn hb => show Calls _ _ _ w' fun e w'' => _ from by
          have h := HX.out g c P n w' hT hP hn hb
          unfold EachEnd at h
          simp only [hok, if_true] at h
          rw [hn] at h
          exact h
        have HO := Lib.hid fun b n c w hr hn => heap_yes b n c (rowsGs (cparts 47 s.data.toList)) w (hn : _ = n) hr (by rw [← hn, rowsGs_length]; exact hc) (rgs_valid hok)
        unfold RhR
        clear hE hz hsz hn HX hc hok
        generalize cparts 47 s.data.toList = ps at HR hX2 HO
        go_enter Tryz.func11, Tryz.ntmps11
        go_wp2_with (first | (go_at_call 22; ((with_reducible refine (HR.out _ K0.out).mono ?_); rintro e w1 ⟨P, gp, c, hP, rfl, ht, hb⟩; have hpl : ps.length = P.length := (by rw [← hP, bts_len0]); have HL := Lib.hid hpl; generalize P.length = n at hpl HL ⊢; have HP := Lib.hid hP; have HT := Lib.hid ht; have B1 := Lib.hid (below_next K0.out hb); have A1 := Lib.hid (blk_next A0.out hb); clear hP ht hb hpl)) | (go_at_call 21; ((with_reducible refine (hX2.out _ _ P _ _ HT.out HP.out HL.out B1.out).mono ?_); rintro e w2 ⟨rfl, ho, hb⟩; have O2 := Lib.hid (own_from ho B1.out.size); have B2 := Lib.hid (below_next B1.out hb); have A2 := Lib.hid (blk_next A1.out hb); clear ho hb)) | (go_at_call 20; ((with_reducible refine (HO.out _ _ _ _ (row_of_own O2.out (by rw [rowsGs_length, HL.out])) (by rw [rowsGs_length, HL.out])).mono ?_); rintro e w3 ⟨rfl, hb⟩; have O3 := Lib.hid (own_below O2.out hb (Nat.le_refl _)); have B3 := Lib.hid (below_next B2.out hb); have A3 := Lib.hid (blk_next A2.out hb); clear hb)) | (go_at_call 19; ((with_reducible refine (HM.out _ _ _ _).mono ?_); rintro e w4 ⟨rfl, hb⟩; have O4 := Lib.hid (own_below O3.out hb (Nat.le_refl _)); have B4 := Lib.hid (below_next B3.out hb); have A4 := Lib.hid (blk_next A3.out hb); have a4 := A4.out.cell 0; have f4 := A4.out.frozen 0; clear hb)))
        refine bodyPost_ret (v := .agg #[.slice (some ⟨w1.heap.size, 0, none⟩) n n]) (results_cell_row Tryz.results11 _ _ w.heap.size 24 #[.slice (some ⟨w1.heap.size, 0, none⟩) n n] (0, 0) _ rfl (A4.out.set_ 0 _) Tryz.underlying24 rfl (by kernel_rfl)) rfl ⟨w1.heap.size, n, by rw [rowsGs_length, HL.out], ?_, B4.out.setCell (Nat.le_refl _) _⟩
        rw [rowsGs_length, HL.out]
        exact own_far O4.out A4.out neGH 0 _
    · rw [rhF_no hn (by unfold rhOk; rw [decide_eq_false hc, Bool.and_false])]
      have HR := Lib.hid fun w' hb => rowsOf_no s w' m p hs (hE.below (w' := w') hb) hn hc
      unfold refused at HR
      unfold RhR refused
      clear hE hz hsz hn hc
      go_enter Tryz.func11, Tryz.ntmps11
      go_wp2_with (go_at_call 22; ((with_reducible refine (HR.out _ K0.out).mono ?_); rintro e w1 ⟨rfl, hb⟩; have B1 := Lib.hid (below_next K0.out hb); clear hb))
      exact ⟨rfl, rfl, B1.out⟩
end Go.Proofs.YtljcgfgkfkoeeaaGreatDoor
