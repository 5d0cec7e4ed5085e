/- The law FnExactReadGrain: true at every input, and its tied card. -/
import Derived.Test.YtokaapacaodeaaaGreatDoorJc
import Derived.Test.YtokaapacaodeaaaGreatDoorGrl
import Derived.HandedShaped
import Derived.Shelf.Vars
import Derived.Lay
import Derived.OpenShut
import Derived.ShutString
import Derived.Laws.Cover2
import Derived.ChangeOld
import Derived.Below
import Derived.OpenVars
import Derived.ChangeVars
namespace Go.Proofs.YtokaapacaodeaaaGreatDoor
open Go.RowKit

def RgEnd (o : Option Gr) (p : Value) (w : World) (e : Ending) (w' : World) : Prop := e = (match o with | some g => .returned g.val | none => refused p) ∧ Below w.heap.size w w'
/-- what stands in memory behind both lists -/
structure Two (w W : World) (bp g1 g2 : Nat) (x y z : ByteArray) (zs1 : List (Nat × Nat)) (zs2 : List Nat) : Prop where
  r : W.cell? ⟨g1, 0, none⟩ = some (.complex .f32 (zs1.getD 0 (0, 0)).1 (zs1.getD 0 (0, 0)).2) ∧ W.cell? ⟨g1, 1, none⟩ = some (.complex .f32 (zs1.getD 1 (0, 0)).1 (zs1.getD 1 (0, 0)).2)
  f : W.cell? ⟨g2, 0, none⟩ = some (.float .f32 (zs2.getD 0 0)) ∧ W.cell? ⟨g2, 1, none⟩ = some (.float .f32 (zs2.getD 1 0)) ∧ W.cell? ⟨g2, 2, none⟩ = some (.float .f32 (zs2.getD 2 0)) ∧ W.cell? ⟨g2, 3, none⟩ = some (.float .f32 (zs2.getD 3 0))
  t : Txt W bp [x, y, z]
  b : Blk W w.heap.size 31 (arr7 zg)
  k : Below w.heap.size w W
theorem two_of {w w1 w2 w3 : World} {bp g1 g2 c1 c2 : Nat} {x y z : ByteArray} {zs1 : List (Nat × Nat)} {zs2 : List Nat} (ht : Txt w1 bp [x, y, z]) (hb : Blk w1 w.heap.size 31 (arr7 zg)) (hk : Below w.heap.size w w1)
    (h2 : w2.ownsRow w1.drew.heap.size 28 1 (.slice (some ⟨g1, 0, none⟩) 2 c1) 2 (zs1.map cval)) (k2 : Below w1.drew.heap.size w1.drew w2)
    (h3 : w3.ownsRow w2.heap.size 29 1 (.slice (some ⟨g2, 0, none⟩) 4 c2) 4 (zs2.map (Value.float .f32))) (k3 : Below w2.heap.size w2 w3) : Two w w3 bp g1 g2 x y z zs1 zs2 :=
  ⟨own_two (own_below h2 k3 (Nat.le_refl _)), own_four h3, Txt.next (Txt.next (w := w1.drew) ht k2) k3, blk_next (blk_next (w0 := w1.drew) hb k2) k3, below_next (below_next (below_d1 hk) k2) k3⟩
theorem require_out (w : World) (p : Value) (h : Ref w p) : Calls Tryz.prog 39 #[.bool false] w fun e w' => e = .panicked [{ v := .iface 170 p, recovered := false }] ∧ w = w' := require_no w p h
set_option maxRecDepth 100000 in
set_option maxHeartbeats 6400000 in
theorem readGrain_main (s : ByteArray) (w : World) (m : Int) (p : Value) (a b c : List UInt8) (hs : s.size ≤ 1048576) (hE : Env w m p) (habc : cparts 58 s.data.toList = [a, b, c]) (h1 : ExC a 2 = true) (h2 : ExF b 4 = true) :
    Calls Tryz.prog 25 #[.string s] w (RgEnd (rg3 a b c) p w) := by
  have HP := Lib.hid fun w' hb => parts_at s w' m p hs (hE.below (w' := w') hb) habc
  have HB0 := Lib.hid ((Below.refl w.heap.size w).alloc (Nat.le_refl _) (.cells #[.complex .f32 0 0, .complex .f32 0 0, .float .f32 0, .float .f32 0, .float .f32 0, .float .f32 0, .bool false] 31))
  have HZ := Lib.hid (blk7_new w 31)
  obtain ⟨ha, hb⟩ := mem_le hs habc
  have HC1 := Lib.hid fun x w' hx (hb : Below w.heap.size w w') => exactC_at ha x w' m p hx (hE.below hb) h1
  have HF1 := Lib.hid fun x w' hx (hb2 : Below w.heap.size w w') => exactF_at hb x w' m p hx (hE.below hb2) h2
  have HRq := Lib.hid fun w' (hb : Below w.heap.size w w') => (hE.below hb).rf
  have hsc := run_store_complex Tryz.prog
  have hsf := run_store_float' Tryz.prog
  have HG := Lib.hid h1
  have HG2 := Lib.hid h2
  obtain ⟨zs1, hz1⟩ : ∃ zs, zs = clZ a := ⟨_, rfl⟩
  obtain ⟨zs2, hz2⟩ : ∃ zs, zs = flZ b := ⟨_, rfl⟩
  rw [← hz1] at HC1
  rw [← hz2] at HF1
  have HZ1 := Lib.hid hz1
  have HZ2 := Lib.hid hz2
  clear hE habc h1 h2 ha hb hz1 hz2
  go_enter Tryz.func25, Tryz.ntmps25
  go_upto_region 2 with (go_at_call 47; ((with_reducible refine (HP.out _ HB0.out).mono ?_); rintro e w1 ⟨bp, x, y, z, cp, rfl, hx, hy, hz, ht, hb⟩; go_must (obtain ⟨x0, x1, x2⟩ := txt_three ht); have HX := Lib.hid hx; have HY := Lib.hid hy; have HZz := Lib.hid hz; have HT := Lib.hid ht; have HBz := Lib.hid (blk_next HZ.out hb); have HB := Lib.hid (below_next HB0.out hb); clear ht hb hx hy hz))
  go_cut [4, 5] (fun s4 s5 wx => ∃ (W : World) (g1 c1 g2 c2 : Nat), W = wx ∧ s4 = .slice (some ⟨g1, 0, none⟩) 2 c1 ∧ s5 = .slice (some ⟨g2, 0, none⟩) 4 c2 ∧ Two w W bp g1 g2 x y z zs1 zs2)
  case first =>
    go_region_with (first | (go_at_call 48; ((with_reducible refine (HC1.out _ _ HX.out (below_d1 HB.out)).mono ?_); rintro e w2 ⟨g1, c1, rfl, ho, hb⟩; have HO2 := Lib.hid ho; have HK2 := Lib.hid hb; go_must (obtain ⟨y0, y1, y2⟩ := txt_three (Txt.next (w := w1.drew) HT.out hb)); have HB2 := Lib.hid (below_next (below_d1 HB.out) hb); clear ho hb)) | (go_at_call 49; ((with_reducible refine (HF1.out _ _ HY.out HB2.out).mono ?_); rintro e w3 ⟨g2, c2, rfl, ho, hb⟩; have HTw := Lib.hid (two_of HT.out HBz.out HB.out HO2.out HK2.out ho hb); clear ho hb)))
    all_goals
      go_wp2_with fail
      go_meet
      case rel => exact ⟨_, g1, c1, g2, c2, rfl, rfl, rfl, HTw.out⟩
  case rest =>
    obtain ⟨W, g1, c1, g2, c2, rfl, rfl, rfl, hTw⟩ := hcut
    obtain ⟨⟨r0, r1⟩, ⟨f0, f1, f2, f3⟩, ht, hz, hk⟩ := hTw
    obtain ⟨t0, t1, t2⟩ := txt_three ht
    have HZW := Lib.hid hz
    have HKW := Lib.hid hk
    clear x0 x1 x2 ht hz hk HP HB0 HZ HC1 HF1
    by_cases hst : c = freeL ∨ c = heldL
    · obtain ⟨f, h, hQ, hfh⟩ : ∃ f h, StQ c f h ∧ ((f = true ∧ h = false ∧ c = freeL) ∨ (f = false ∧ h = true ∧ c = heldL)) := hst.elim (fun h => ⟨_, _, stq_free h, Or.inl ⟨rfl, rfl, h⟩⟩) (fun h => ⟨_, _, stq_held h, Or.inr ⟨rfl, rfl, h⟩⟩)
      obtain ⟨⟨q1, q2⟩, q3, q4⟩ := hQ z HZz.out
      have hgh : (gOf a b c).h = h := by
        show decide (c = heldL) = h
        rcases hfh with ⟨-, rfl, e⟩ | ⟨-, rfl, e⟩ <;> rw [e] <;> rfl
      have hgE : gOf a b c = ⟨(zs1.getD 0 (0, 0)).1, (zs1.getD 0 (0, 0)).2, (zs1.getD 1 (0, 0)).1, (zs1.getD 1 (0, 0)).2, zs2.getD 0 0, zs2.getD 1 0, zs2.getD 2 0, zs2.getD 3 0, h⟩ := by rw [← hgh, HZ1.out, HZ2.out]; rfl
      have hyes := fun hv => rg3_good (a := a) (b := b) (c := c) (hst.elim Or.inr Or.inl) HG.out HG2.out hv
      have hno := fun hv => rg3_bad (a := a) (b := b) (c := c) hv
      rw [hgE] at hyes hno
      clear hQ hst hgh hgE HZ1 HZ2
      generalize (zs1.getD 0 (0, 0)).1 = u0 at r0 hyes hno
      generalize (zs1.getD 0 (0, 0)).2 = u1 at r0 hyes hno
      generalize (zs1.getD 1 (0, 0)).1 = u2 at r1 hyes hno
      generalize (zs1.getD 1 (0, 0)).2 = u3 at r1 hyes hno
      generalize zs2.getD 0 0 = v0 at f0 hyes hno
      generalize zs2.getD 1 0 = v1 at f1 hyes hno
      generalize zs2.getD 2 0 = v2 at f2 hyes hno
      generalize zs2.getD 3 0 = v3 at f3 hyes hno
      have HY9 := Lib.hid hyes
      have HN := Lib.hid hno
      have k1 := World.block_lt_of_cell? W _ r0
      have k2 := World.block_lt_of_cell? W _ f0
      have k3 := World.block_lt_of_cell? W _ t2
      clear hyes hno
      rcases hfh with ⟨rfl, rfl, -⟩ | ⟨rfl, rfl, -⟩
      · go_wp2_with (go_at_call 39; ((with_reducible refine (require_yes _).mono ?_); rintro e w5 ⟨rfl, rfl⟩))
        go_region_held3 (fun w' => w'.cell? ⟨g1, 0, none⟩ = some (.complex .f32 u0 u1) ∧ w'.cell? ⟨g1, 1, none⟩ = some (.complex .f32 u2 u3) ∧ w'.cell? ⟨g2, 0, none⟩ = some (.float .f32 v0) ∧ w'.cell? ⟨g2, 1, none⟩ = some (.float .f32 v1) ∧ w'.cell? ⟨g2, 2, none⟩ = some (.float .f32 v2) ∧ w'.cell? ⟨g2, 3, none⟩ = some (.float .f32 v3) ∧ w'.cell? ⟨bp, 2, none⟩ = some (.string z)) (first | exact ⟨r0, r1, f0, f1, f2, f3, t2⟩ | go_keep) (fail)
        have HMk := Lib.hid (show Blk ((W.alloc (.cells #[.complex .f32 u0 u1, .complex .f32 u2 u3, .float .f32 v0, .float .f32 v1, .float .f32 v2, .float .f32 v3, .bool false] 31)).drew) W.heap.size 31 (arr7 ⟨u0, u1, u2, u3, v0, v1, v2, v3, false⟩) from blk_new W _ _ _ rfl)
        have HZ5 := Lib.hid (show Blk ((W.alloc (.cells #[.complex .f32 u0 u1, .complex .f32 u2 u3, .float .f32 v0, .float .f32 v1, .float .f32 v2, .float .f32 v3, .bool false] 31)).drew) w.heap.size 31 (arr7 zg) from HZW.out.alloc _)
        have HB5 := Lib.hid (show Below w.heap.size w ((W.alloc (.cells #[.complex .f32 u0 u1, .complex .f32 u2 u3, .float .f32 v0, .float .f32 v1, .float .f32 v2, .float .f32 v3, .bool false] 31)).drew) from below_drewN (HKW.out.alloc HKW.out.size _) 1)
        have hne := HZW.out.lt
        generalize ((W.alloc (.cells #[.complex .f32 u0 u1, .complex .f32 u2 u3, .float .f32 v0, .float .f32 v1, .float .f32 v2, .float .f32 v3, .bool false] 31)).drew) = W5 at HMk HZ5 HB5 ⊢
        clear r0 r1 f0 f1 f2 f3 t2 t0 t1
        have HVg := fun w' => (show Calls Tryz.prog 51 #[.agg #[.complex .f32 u0 u1, .complex .f32 u2 u3, .float .f32 v0, .float .f32 v1, .float .f32 v2, .float .f32 v3, .bool false]] w' _ from validGrain_any ⟨u0, u1, u2, u3, v0, v1, v2, v3, false⟩ w')
        obtain ⟨m0, m1, m2, m3, m4, m5, m6, mf⟩ := blk7_cells HMk.out
        cases hv : Gr.valid ⟨u0, u1, u2, u3, v0, v1, v2, v3, false⟩
        · rw [hv] at HVg
          have HVg' := Lib.hid HVg
          have HA := Lib.hid (HN.out hv)
          clear HVg hv
          go_wp2_with (first | (go_at_call 51; ((with_reducible refine (HVg'.out _).mono ?_); rintro e w6 ⟨rfl, hb⟩; have HB6 := Lib.hid (below_next HB5.out hb); clear hb)) | (go_at_call 39; ((with_reducible refine (require_out _ p (HRq.out _ HB6.out)).mono ?_); rintro e w7 ⟨rfl, rfl⟩)))
          exact ⟨rfl, by rw [HA.out]; rfl, HB6.out⟩
        · rw [hv] at HVg
          have HVg' := Lib.hid HVg
          have HA := Lib.hid (HY9.out hv)
          clear HVg hv
          go_wp2_with (first | (go_at_call 51; ((with_reducible refine (HVg'.out _).mono ?_); rintro e w6 ⟨rfl, hb⟩; have HB6 := Lib.hid (below_next HB5.out hb); have HZ6 := Lib.hid (blk_next HZ5.out hb); go_must (obtain ⟨n0, n1, n2, n3, n4, n5, n6, nf⟩ := blk7_cells (blk_next HMk.out hb)); go_must (obtain ⟨z0, z1, z2, z3, z4, z5, z6, zf⟩ := blk7_cells HZ6.out); clear hb)) | (go_at_call 39; ((with_reducible refine (require_yes _).mono ?_); rintro e w7 ⟨rfl, rfl⟩)))
          refine bodyPost_ret (v := Gr.val ⟨u0, u1, u2, u3, v0, v1, v2, v3, false⟩) (results_cell_row Tryz.results25 _ _ w.heap.size 31 (arr7 ⟨u0, u1, u2, u3, v0, v1, v2, v3, false⟩) (0, 0) _ rfl (put7_blk HZ6.out ⟨u0, u1, u2, u3, v0, v1, v2, v3, false⟩) Tryz.underlying31 rfl (by kernel_rfl)) rfl ⟨by rw [HA.out], put7_below HB6.out (Nat.le_refl _) ⟨u0, u1, u2, u3, v0, v1, v2, v3, false⟩⟩
      · go_wp2_with (go_at_call 39; ((with_reducible refine (require_yes _).mono ?_); rintro e w5 ⟨rfl, rfl⟩))
        go_region_held3 (fun w' => w'.cell? ⟨g1, 0, none⟩ = some (.complex .f32 u0 u1) ∧ w'.cell? ⟨g1, 1, none⟩ = some (.complex .f32 u2 u3) ∧ w'.cell? ⟨g2, 0, none⟩ = some (.float .f32 v0) ∧ w'.cell? ⟨g2, 1, none⟩ = some (.float .f32 v1) ∧ w'.cell? ⟨g2, 2, none⟩ = some (.float .f32 v2) ∧ w'.cell? ⟨g2, 3, none⟩ = some (.float .f32 v3) ∧ w'.cell? ⟨bp, 2, none⟩ = some (.string z)) (first | exact ⟨r0, r1, f0, f1, f2, f3, t2⟩ | go_keep) (fail)
        have HMk := Lib.hid (show Blk ((W.alloc (.cells #[.complex .f32 u0 u1, .complex .f32 u2 u3, .float .f32 v0, .float .f32 v1, .float .f32 v2, .float .f32 v3, .bool true] 31)).drew) W.heap.size 31 (arr7 ⟨u0, u1, u2, u3, v0, v1, v2, v3, true⟩) from blk_new W _ _ _ rfl)
        have HZ5 := Lib.hid (show Blk ((W.alloc (.cells #[.complex .f32 u0 u1, .complex .f32 u2 u3, .float .f32 v0, .float .f32 v1, .float .f32 v2, .float .f32 v3, .bool true] 31)).drew) w.heap.size 31 (arr7 zg) from HZW.out.alloc _)
        have HB5 := Lib.hid (show Below w.heap.size w ((W.alloc (.cells #[.complex .f32 u0 u1, .complex .f32 u2 u3, .float .f32 v0, .float .f32 v1, .float .f32 v2, .float .f32 v3, .bool true] 31)).drew) from below_drewN (HKW.out.alloc HKW.out.size _) 1)
        have hne := HZW.out.lt
        generalize ((W.alloc (.cells #[.complex .f32 u0 u1, .complex .f32 u2 u3, .float .f32 v0, .float .f32 v1, .float .f32 v2, .float .f32 v3, .bool true] 31)).drew) = W5 at HMk HZ5 HB5 ⊢
        clear r0 r1 f0 f1 f2 f3 t2 t0 t1
        have HVg := fun w' => (show Calls Tryz.prog 51 #[.agg #[.complex .f32 u0 u1, .complex .f32 u2 u3, .float .f32 v0, .float .f32 v1, .float .f32 v2, .float .f32 v3, .bool true]] w' _ from validGrain_any ⟨u0, u1, u2, u3, v0, v1, v2, v3, true⟩ w')
        obtain ⟨m0, m1, m2, m3, m4, m5, m6, mf⟩ := blk7_cells HMk.out
        cases hv : Gr.valid ⟨u0, u1, u2, u3, v0, v1, v2, v3, true⟩
        · rw [hv] at HVg
          have HVg' := Lib.hid HVg
          have HA := Lib.hid (HN.out hv)
          clear HVg hv
          go_wp2_with (first | (go_at_call 51; ((with_reducible refine (HVg'.out _).mono ?_); rintro e w6 ⟨rfl, hb⟩; have HB6 := Lib.hid (below_next HB5.out hb); clear hb)) | (go_at_call 39; ((with_reducible refine (require_out _ p (HRq.out _ HB6.out)).mono ?_); rintro e w7 ⟨rfl, rfl⟩)))
          exact ⟨rfl, by rw [HA.out]; rfl, HB6.out⟩
        · rw [hv] at HVg
          have HVg' := Lib.hid HVg
          have HA := Lib.hid (HY9.out hv)
          clear HVg hv
          go_wp2_with (first | (go_at_call 51; ((with_reducible refine (HVg'.out _).mono ?_); rintro e w6 ⟨rfl, hb⟩; have HB6 := Lib.hid (below_next HB5.out hb); have HZ6 := Lib.hid (blk_next HZ5.out hb); go_must (obtain ⟨n0, n1, n2, n3, n4, n5, n6, nf⟩ := blk7_cells (blk_next HMk.out hb)); go_must (obtain ⟨z0, z1, z2, z3, z4, z5, z6, zf⟩ := blk7_cells HZ6.out); clear hb)) | (go_at_call 39; ((with_reducible refine (require_yes _).mono ?_); rintro e w7 ⟨rfl, rfl⟩)))
          refine bodyPost_ret (v := Gr.val ⟨u0, u1, u2, u3, v0, v1, v2, v3, true⟩) (results_cell_row Tryz.results25 _ _ w.heap.size 31 (arr7 ⟨u0, u1, u2, u3, v0, v1, v2, v3, true⟩) (0, 0) _ rfl (put7_blk HZ6.out ⟨u0, u1, u2, u3, v0, v1, v2, v3, true⟩) Tryz.underlying31 rfl (by kernel_rfl)) rfl ⟨by rw [HA.out], put7_below HB6.out (Nat.le_refl _) ⟨u0, u1, u2, u3, v0, v1, v2, v3, true⟩⟩
    · have hc1 : c ≠ heldL := fun e => hst (Or.inr e)
      have hc2 : c ≠ freeL := fun e => hst (Or.inl e)
      obtain ⟨q1, q2, q3⟩ := str_ne (l := [102, 114, 101, 101]) HZz.out hc2
      obtain ⟨q4, q5, q6⟩ := str_ne (l := [104, 101, 108, 100]) HZz.out hc1
      have HA := Lib.hid (rg3_state (a := a) (b := b) hc1 hc2)
      clear hst hc1 hc2
      go_wp2_with (go_at_call 39; ((with_reducible refine (require_out _ p (HRq.out _ HKW.out)).mono ?_); rintro e w5 ⟨rfl, rfl⟩))
      exact ⟨rfl, by rw [HA.out]; rfl, HKW.out⟩
end Go.Proofs.YtokaapacaodeaaaGreatDoor

namespace Go.Proofs.YtokaapacaodeaaaGreatDoor
open Go.RowKit

theorem readGrain_of (s : ByteArray) (w : World) (m : Int) (p : Value) (hs : s.size ≤ 1048576) (hE : Env w m p) :
    Calls Tryz.prog 25 #[.string s] w (RgEnd (rgF s.data.toList) p w) := by
  by_cases h3 : (cparts 58 s.data.toList).length = 3
  · obtain ⟨a, b, c, habc⟩ := three_of h3
    rw [rg_three habc]
    cases h1 : ExC a 2
    · rw [rg3_points h1]
      exact readGrain_lists s w m p a b c hs hE habc (Or.inl h1)
    · cases h2 : ExF b 4
      · rw [rg3_sizes h2]
        exact readGrain_lists s w m p a b c hs hE habc (Or.inr h2)
      · exact readGrain_main s w m p a b c hs hE habc h1 h2
  · rw [rg_short h3]
    exact readGrain_short s w m p hs hE h3
theorem results_two {P : Program} {fn : Func} {p q : Tmp} {ty ty2 : TypeId} (h : fn.results = #[.cell p ty, .cell q ty2]) (tmps : Array Value) (w : World) (g g2 : Nat) (t : TypeId) (cs : Array Value) (d : TypeDesc) (b : Bool)
    (hp : tmps.getD p undef = .pointer (some ⟨g, 0, none⟩)) (hq : tmps.getD q undef = .pointer (some ⟨g2, 0, none⟩)) (hg : Blk w g t cs) (hb : w.cell? ⟨g2, 0, none⟩ = some (.bool b))
    (hu : P.underlying ty = some d) (hd : (match d with | .struct _ | .array _ _ => true | _ => false) = true) (hi : (P.info? ty).map (·.size) = some cs.size) (hu2 : P.underlying ty2 = some .bool) :
    (results fn tmps).run P w = .ok (.tuple #[.agg cs, .bool b]) w := by
  have hp' : tmps[p]?.getD undef = .pointer (some ⟨g, 0, none⟩) := by simpa using hp
  have hq' : tmps[q]?.getD undef = .pointer (some ⟨g2, 0, none⟩) := by simpa using hq
  have h2 : (loadVar ty2 ⟨g2, 0, none⟩).run P w = .ok (.bool b) w := by
    simp [loadVar, run_isAgg_plain hu2 rfl, hb, go_sem]
  simp [results, h, hp', hq', asAddr, run_loadVar_row w g t ty cs (0, 0) d hg hu hd hi, h2]
set_option maxRecDepth 100000 in
set_option maxHeartbeats 1600000 in
theorem attemptG_of (s : ByteArray) (w : World) (m : Int) (p : Value) (hs : s.size ≤ 1048576) (hE : Env w m p) :
    Calls Tryz.prog 24 #[.func (.func 25) #[] #[], .string s] w fun e w' => e = RgAns s.data.toList ∧ Below w.heap.size w w' := by
  have hmf : ∀ (fn : Fn) (first cap : Array Value) (w : World), (Instr.makeFunc fn first cap).run Tryz.prog w = .ok (.func fn first cap) w := fun _ _ _ _ => rfl
  have HB0 := Lib.hid (((Below.refl w.heap.size w).alloc (Nat.le_refl _) (.cells #[.complex .f32 0 0, .complex .f32 0 0, .float .f32 0, .float .f32 0, .float .f32 0, .float .f32 0, .bool false] 31)).alloc (by simp) (.cells #[.bool false] 4))
  have HR := Lib.hid fun w' hb => readGrain_of s w' m p hs (hE.below (w' := w') hb)
  have HZ := Lib.hid ((blk7_new w 31).alloc (.cells #[.bool false] 4))
  have HK := Lib.hid (blk_new (w.alloc (.cells #[.complex .f32 0 0, .complex .f32 0 0, .float .f32 0, .float .f32 0, .float .f32 0, .float .f32 0, .bool false] 31)) 4 #[.bool false] (w.heap.size + 1) (by simp))
  have hsc := run_store_complex Tryz.prog
  have hsf := run_store_float' Tryz.prog
  clear hE
  cases hr : rgF s.data.toList with
  | none =>
    rw [rg_ans_none hr]
    rw [hr] at HR
    unfold RgEnd refused at HR
    clear hr
    go_enter_defers Tryz.func24, Tryz.ntmps24
    go_wp2_with (go_at_call 25; ((with_reducible refine (HR.out _ HB0.out).mono ?_); rintro e w2 ⟨rfl, hb⟩; have HZ2 := Lib.hid (blk_next HZ.out hb); have HK2 := Lib.hid (blk_next HK.out hb); have HB2 := Lib.hid (below_next HB0.out hb); clear hb))
    refine leaves_cons (f := 46) (args := #[.pointer (some ⟨w.heap.size + 1, 0, none⟩)]) (by simp) (by simp [go_sem]) ?_
    refine (catchG_panicking (w.heap.size + 1) false p _ (HK2.out.cell 0) (HK2.out.frozen 0)).mono ?_
    rintro e u' w'' ⟨rfl, rfl, rfl⟩
    exact ⟨.tuple #[zg.val, .bool false], results_two Tryz.results24 _ _ w.heap.size (w.heap.size + 1) 31 (arr7 zg) _ false rfl rfl (HZ2.out.far (p := ⟨w.heap.size + 1, 0, none⟩) (Nat.ne_of_lt (Nat.lt_succ_self _)) _) ((HK2.out.set_ 0 (.bool false)).cell 0) Tryz.underlying31 rfl (by kernel_rfl) Tryz.underlying4, rfl, HB2.out.setCell (p := ⟨w.heap.size + 1, 0, none⟩) (Nat.le_succ _) _⟩
  | some g =>
    rw [rg_ans_some hr]
    rw [hr] at HR
    unfold RgEnd Gr.val at HR
    clear hr
    go_enter_defers Tryz.func24, Tryz.ntmps24
    go_wp2_with (go_at_call 25; ((with_reducible refine (HR.out _ HB0.out).mono ?_); rintro e w2 ⟨rfl, hb⟩; have HZ2 := Lib.hid (blk_next HZ.out hb); have HK2 := Lib.hid (blk_next HK.out hb); have HB2 := Lib.hid (below_next HB0.out hb); go_must (obtain ⟨z0, z1, z2, z3, z4, z5, z6, zf⟩ := blk7_cells HZ2.out); clear hb))
    refine leaves_cons (f := 46) (args := #[.pointer (some ⟨w.heap.size + 1, 0, none⟩)]) (by simp) (by simp [go_sem]) ?_
    have hne : w.heap.size + 1 ≠ w.heap.size := Nat.succ_ne_self _
    have HK3 := put7_far HK2.out hne g
    refine (catchG_idle (w.heap.size + 1) false (put7 w2 w.heap.size g) (HK3.cell 0) (HK3.frozen 0)).mono ?_
    rintro e u' w'' ⟨rfl, rfl, rfl⟩
    exact ⟨.tuple #[g.val, .bool true], results_two Tryz.results24 _ _ w.heap.size (w.heap.size + 1) 31 (arr7 g) _ true rfl rfl ((put7_blk HZ2.out g).far (p := ⟨w.heap.size + 1, 0, none⟩) hne.symm _) ((HK3.set_ 0 (.bool true)).cell 0) Tryz.underlying31 rfl (by kernel_rfl) Tryz.underlying4, rfl, (put7_below HB2.out (Nat.le_refl _) g).setCell (p := ⟨w.heap.size + 1, 0, none⟩) (Nat.le_succ _) _⟩
set_option maxRecDepth 100000 in
set_option maxHeartbeats 1600000 in
theorem implReadGrain_of (s : ByteArray) (w : World) (m : Int) (p : Value) (hs : s.size ≤ 1048576) (hE : Env w m p) :
    Calls Tryz.prog 12 #[.string s] w fun e w' => e = RgAns s.data.toList ∧ Below w.heap.size w w' := by
  have HB0 := Lib.hid ((Below.refl w.heap.size w).alloc (Nat.le_refl _) (.cells #[.complex .f32 0 0, .complex .f32 0 0, .float .f32 0, .float .f32 0, .float .f32 0, .float .f32 0, .bool false] 31))
  have HC := fun w' hb => attemptG_of s w' m p hs (hE.below (w' := w') hb)
  unfold RgAns at HC ⊢
  generalize (rgF s.data.toList).getD zg = G at HC ⊢
  generalize (rgF s.data.toList).isSome = b at HC ⊢
  unfold Gr.val at HC
  have HC' := Lib.hid HC
  have hsc := run_store_complex Tryz.prog
  have hsf := run_store_float' Tryz.prog
  have HZ := Lib.hid (blk7_new w 31)
  clear HC hE
  go_enter Tryz.func12, Tryz.ntmps12
  go_wp2_with (go_at_call 24; ((with_reducible refine (HC'.out _ HB0.out).mono ?_); rintro e w2 ⟨rfl, hb⟩; have HZ2 := Lib.hid (blk_next HZ.out hb); go_must (obtain ⟨z0, z1, z2, z3, z4, z5, z6, zf⟩ := blk7_cells HZ2.out); have HB := Lib.hid (below_next HB0.out hb); clear hb))
  refine bodyPost_ret (v := .tuple #[G.val, .bool b]) (results_row_tmp Tryz.results12 _ _ w.heap.size 31 (arr7 G) _ _ rfl (put7_blk HZ2.out G) rfl Tryz.underlying31 rfl (by kernel_rfl)) rfl ⟨rfl, put7_below HB.out (Nat.le_refl _) G⟩
end Go.Proofs.YtokaapacaodeaaaGreatDoor

namespace Go.Proofs.YtokaapacaodeaaaGreatDoor
open Go.RowKit Fl
/-- what is told is a number in each field -/
theorem rgF_nums (l : List UInt8) : nan32 ((rgF l).getD zg).ax = false ∧ nan32 ((rgF l).getD zg).ay = false ∧ nan32 ((rgF l).getD zg).sx = false ∧ nan32 ((rgF l).getD zg).sy = false ∧ nan32 ((rgF l).getD zg).r = false ∧ nan32 ((rgF l).getD zg).m = false ∧ nan32 ((rgF l).getD zg).t = false ∧ nan32 ((rgF l).getD zg).s = false := by
  have hz : nan32 0 = false := by decide
  cases h : rgF l with
  | none => exact ⟨hz, hz, hz, hz, hz, hz, hz, hz⟩
  | some g =>
    refine Gr.valid_nums (g := g) ?_
    unfold rgF at h
    split at h
    · rename_i a b c _
      unfold rg3 at h
      split at h
      · rename_i hc
        obtain rfl := Option.some.inj h
        simp only [Bool.and_eq_true] at hc
        exact hc.2.2.2
      · cases h
    · cases h
end Go.Proofs.YtokaapacaodeaaaGreatDoor

namespace Go.Proofs.YtokaapacaodeaaaGreatDoor.pFnExactReadGrain
open Fl Go.ChangeShapes Go.WideShapes Go.ChangeAt Go.WideMaps Go.WideElems Go.RowKit
open Go.ChangeMaps (open_string shut_string)

set_option maxHeartbeats 3200000 in
set_option maxRecDepth 100000 in
theorem walk (s : ByteArray) (w : World) (m : Int) (p : Value) (_hz : s.size ≤ maxLen) (hE : Env w m p) :
    Calls Tryz.prog 4 #[.string s] w fun e w' => e = .returned (.bool true) ∧ Below w.heap.size w w' := by
  by_cases hs : s.size ≤ 1048576
  · have hs' : ¬ 1048576 < s.size := by omega
    have HS := fun w' => specReadGrain_of s w' hs
    have HI := fun w' hb => implReadGrain_of s w' m p hs (hE.below (w' := w') hb)
    have HQ := fun w' => eqGrain_nums ((rgF s.data.toList).getD zg) w' (rgF_nums _)
    unfold RgAns at HS HI
    generalize (rgF s.data.toList).getD zg = G at HS HI HQ
    generalize (rgF s.data.toList).isSome = b at HS HI
    unfold Gr.val at HS HI HQ
    have HS' := Lib.hid HS
    have HI' := Lib.hid HI
    have HQ' := Lib.hid HQ
    have hsc := run_store_complex Tryz.prog
    have hsf := run_store_float' Tryz.prog
    clear HS HI HQ hE
    go_enter Tryz.func4, Tryz.ntmps4
    go_wp2_with (go_at_call 11; ((with_reducible refine (HS'.out _).mono ?_); rintro e w1 ⟨rfl, hb1⟩; have B1 := Lib.hid hb1; have A1 := Lib.hid (blk_new w1 31 (arr7 G) _ rfl); have B1a := Lib.hid (show Below w.heap.size w (w1.alloc (.cells #[.complex .f32 G.ax G.ay, .complex .f32 G.sx G.sy, .float .f32 G.r, .float .f32 G.m, .float .f32 G.t, .float .f32 G.s, .bool G.h] 31)) from hb1.alloc hb1.size _); clear hb1))
    go_wp2_with (first | (go_at_call 12; ((with_reducible refine (HI'.out _ B1a.out).mono ?_); rintro e w2 ⟨rfl, hb2⟩; have B2 := Lib.hid (below_next B1a.out hb2); go_must (obtain ⟨c0, c1, c2, c3, c4, c5, c6, cf⟩ := blk7_cells (blk_next A1.out hb2)); have hlt : w1.heap.size < w2.heap.size := (blk_next A1.out hb2).lt; have B2a := Lib.hid (show Below w.heap.size w (w2.alloc (.cells #[.complex .f32 G.ax G.ay, .complex .f32 G.sx G.sy, .float .f32 G.r, .float .f32 G.m, .float .f32 G.t, .float .f32 G.s, .bool G.h] 31)) from B2.out.alloc B2.out.size _); clear hb2)) | (go_at_call 13; ((with_reducible refine (HQ'.out _).mono ?_); rintro e w3 ⟨rfl, hb3⟩; have B3 := Lib.hid (below_next B2a.out hb3); clear hb3)))
    all_goals (go_ret; exact ⟨rfl, B3.out⟩)
  · clear hE
    go_enter Tryz.func4, Tryz.ntmps4
    go_wp2
    go_ret
    exact ⟨rfl, Below.refl _ _⟩
theorem laidOut : laidOutB Tryz.prog = true := by kernel_rfl
theorem own : ownKnob Tryz.prog.godebug = none := by kernel_rfl
def db64 : List Int := [0, 1, 56, 2, 57, 49, 28, 3, 61, 58, 42, 50, 38, 29, 17, 4, 62, 47, 59, 36, 45, 43, 51, 22, 53, 39, 33, 30, 24, 18, 12, 5, 63, 55, 48, 27, 60, 41, 37, 16, 46, 35, 44, 21, 52, 32, 23, 11, 54, 26, 40, 15, 34, 20, 31, 10, 25, 14, 19, 9, 13, 8, 7, 6]
theorem gDb : Tryz.prog.globalNamed "math/bits.deBruijn64tab" = some 9 := by kernel_rfl
theorem tDb : (Tryz.prog.globals[9]?).map (·.type) = some 185 := by kernel_rfl
theorem gSyn : Tryz.prog.globalNamed "strconv.ErrSyntax" = some 3 := by kernel_rfl
theorem tSyn : (Tryz.prog.globals[3]?).map (·.type) = some 62 := by kernel_rfl
theorem gRan : Tryz.prog.globalNamed "strconv.ErrRange" = some 4 := by kernel_rfl
theorem tRan : (Tryz.prog.globals[4]?).map (·.type) = some 62 := by kernel_rfl
theorem star : "*" ++ "errors.errorString" = "*errors.errorString" := by decide
theorem rowE (u : TypeId) (h : Tryz.prog.typeName? 3 u = some "*errors.errorString") : u = 170 :=
  typeName_ptr_named (nm := "errors.errorString") (by rw [star]; kernel_rfl) (by kernel_rfl) (by decide) u (by rw [star]; exact h)
theorem gRef : Tryz.prog.globalNamed "loop.example/g01268/impl.errRefused" = some 0 := by kernel_rfl
theorem tRef : (Tryz.prog.globals[0]?).map (·.type) = some 62 := by kernel_rfl
theorem of_laid {W : World} (h : laidMetH Tryz.prog Rows.fnExactReadGrainRow.laid W) : Tz W ∧ (∀ w', Below W.heap.size W w' → Errs w') ∧ ∃ p, Ref W p := by
  rw [MakeChecks.laidMetH_plain _ _ _ (by kernel_rfl)] at h
  have h2 := (laidMet.tail (laidMet.tail h))
  have h1 := laidMet.tail h
  have ht : Lib.TabIs Tryz.prog W "math/bits.deBruijn64tab" .u8 db64 := Lib.tabIs_of_head gDb tDb Tryz.underlying185 Tryz.underlying5 (by kernel_rfl) (by kernel_rfl) h1
  refine ⟨ht.cell gDb 15 (by decide), ?_⟩
  obtain ⟨a0, s0, hv0, -, -, -⟩ := laid_sentinel h2.tail.tail gRan tRan Tryz.underlying62 rowE Tryz.underlying170 Tryz.underlying172 rfl rfl Tryz.underlying9 (by kernel_rfl) (by kernel_rfl)
  obtain ⟨a1, s1, hv1, -, -, -⟩ := laid_sentinel h2.tail.tail.tail gSyn tSyn Tryz.underlying62 rowE Tryz.underlying170 Tryz.underlying172 rfl rfl Tryz.underlying9 (by kernel_rfl) (by kernel_rfl)
  obtain ⟨a2, s2, hv2, -, -, -⟩ := laid_sentinel h2.tail.tail.tail.tail gRef tRef Tryz.underlying62 rowE Tryz.underlying170 Tryz.underlying172 rfl rfl Tryz.underlying9 (by kernel_rfl) (by kernel_rfl)
  exact ⟨fun w' hb => ⟨_, _, _, _, Joins.var_stays gSyn hv1 hb (Nat.le_refl _), Joins.var_stays gRan hv0 hb (Nat.le_refl _)⟩, .pointer (some a2), by simpa [Ref] using World.var?_cell gRef hv2 0⟩

theorem maxLenCell {W : World} (h : W.ShapedOpen Tryz.prog) : ∃ m, W.cell? ⟨2, 0, none⟩ = some (.int .i64 m) :=
  cell_of_shapedOpen_int (g := 2) (zero := #[.int .i64 0]) (t := 3) h (of_decide_eq_true (by kernel_rfl)) (by kernel_rfl) rfl (by kernel_rfl) (by kernel_rfl) Tryz.underlying3

set_option maxRecDepth 100000 in
theorem lifted (os : Os) (started : os.Started) (H : Type) (enc : TypeId × Value → H) :
    ReturnsInHanded {} Tryz.checked os 4 .any (fun w args => (Rows.fnExactReadGrainSpec.pre enc Tryz.prog Tryz.f4 [] false w args ∧ laidMetH Tryz.prog Rows.fnExactReadGrainRow.laid w) ∧ sizedMet enc Tryz.prog Tryz.f4 (OpenSpec.ofChange Rows.fnExactReadGrainSpec) false w args)
      (Rows.fnExactReadGrainSpec.post enc Tryz.prog Tryz.f4 false true false false) := by
  refine returnsInHanded_of_calls own started (by kernel_rfl)
    (ChangeSpec.witness_shaped (enc := enc) (C := Tryz.checked) (os := os) (X := fun w _ => laidMetH Tryz.prog Rows.fnExactReadGrainRow.laid w) false (World.laidAll Tryz.prog os Rows.fnExactReadGrainRow.laid) #[.string ByteArray.empty] 8 (World.laidAll_os _ _ _)
      (World.shaped_of_ZipB (by kernel_rfl) (by kernel_rfl)) (by kernel_rfl) (by kernel_rfl) (by kernel_rfl)
      (by rw [MakeChecks.laidMetH_plain _ _ _ (by kernel_rfl)]; exact laidMet_laidAll _ (by kernel_rfl) (by kernel_rfl))) ?_
  intro w0 tape i _ hshape _ hok hpre _
  obtain ⟨_, _, _, fn', hfn', _, _, _, _, hval0⟩ := hok
  obtain rfl : fn' = Tryz.f4 := Option.some.inj (hfn'.symm.trans Tryz.func4)
  obtain ⟨⟨⟨ds, gs, before, hw0, hc⟩, hx⟩, hz⟩ := hpre
  have hW := DataW.Whole.of_heap (w' := w0.forCall tape i) (by rfl) hw0
  have hL : laidMetH Tryz.prog Rows.fnExactReadGrainRow.laid (w0.forCall tape i) := hx.of_heap (by rfl)
  generalize hWW : w0.forCall tape i = W at hval0 hW hL hshape ⊢
  generalize i.args = args at hval0 hW ⊢
  suffices hcalls : Calls Tryz.prog 4 args W fun e W' => ∃ v, e = .returned v ∧ Rows.fnExactReadGrainSpec.post enc Tryz.prog Tryz.f4 false true false false W args v W' by
    refine hcalls.mono fun e W' ⟨v, he, hp⟩ => ?_
    subst he
    subst hWW
    exact ChangeSpec.post_blind hp
  have hval : ∀ (j : Nat) t v, Tryz.f4.params[j]? = some t → args[j]? = some v → Value.okWide Tryz.prog W .any w0.heap.size t v := hval0
  have hW' := hW
  obtain ⟨p, q, hA0, hV, rfl, hfz, hnd⟩ := hW
  have hA : DataW.TrodAll enc Tryz.prog W 0 (fun _ => true) true Tryz.f4.params.toList args.toList ds p := hA0
  rw [Tryz.params4] at hA hval
  obtain ⟨v0, d0, rfl, rfl, h0⟩ := trodAll_one hA
  have hV2 := hV
  obtain ⟨gv, tv, cv, fv, dv, pv0, rfl, hv1, hv2, hv3, hv4, hv5⟩ := trodVars_one hV
  clear hV hv1 hv2 hv3 hv4 hv5
  obtain ⟨a0, rfl, rfl, rfl, wf0⟩ := open_string Tryz.underlying9 (hval 0 9 v0 rfl rfl) h0
  clear hA0 hval0
  obtain ⟨m, hm⟩ := maxLenCell hshape
  obtain ⟨hl1, hl2, pv, hl3⟩ := of_laid hL
  refine (walk a0 W m pv wf0 ⟨hm, hl1, hl2, hl3⟩).mono fun e W' ⟨he, hb⟩ => ?_
  subst he
  exact ⟨_, rfl, _, _, _, [], _, _, hW', trodAll_mk1 (shut_bool Tryz.underlying4 _), trodAll_mk1 (shut_string Tryz.underlying9 wf0), Below.trodVars laidOut hb (by kernel_rfl) hV2, hb.frame _, fun h => by cases h⟩

theorem fnExactReadGrain_holds : Rows.FnExactReadGrainSaid :=
  OpenClaim.holds_of_wide 4 Tryz.f4 rfl rfl rfl rfl rfl rfl rfl ⟨rfl, rfl, rfl, rfl, rfl⟩ rfl rfl rfl rfl rfl (by kernel_rfl) Tryz.func4 (by kernel_rfl)
    (of_decide_eq_true (by kernel_rfl)) (by unfold Func.isWrapper; rw [if_neg (of_decide_eq_false (by kernel_rfl))]; exact ⟨rfl, rfl⟩)
    (fun os started H enc _ => lifted os started H enc)

theorem card_holds : Rows.FnExactReadGrainCardSaid :=
  Claim7.holds_tied_plain_at .later [] [.data, .data, .data, .data, .sentinel, .sentinel, .sentinel, .pinned] true Rows.fnExactReadGrainCard.stood.harness Rows.fnExactReadGrainCard.stood.looks
    fnExactReadGrain_holds (fun _ h => by cases h) (by kernel_rfl) (fun _ h => by cases h) fnExactReadGrain_row_tie rfl ⟨rfl, rfl⟩ (by kernel_rfl) rfl
    (fun f fn hf hfn => by
      obtain rfl : f = 4 := Option.some.inj ((show Tryz.prog.funcNamed "loop.example/g01268/laws.FnExactReadGrain" = some 4 by kernel_rfl).symm.trans hf) |>.symm
      obtain rfl : fn = Tryz.f4 := (Option.some.inj (Tryz.func4.symm.trans hfn)).symm
      exact ⟨by kernel_rfl, fun j t ht => by
        rw [Tryz.params4] at ht
        have hm : t ∈ [9] := by simpa using Array.mem_of_getElem? ht
        have hall : ([9].all fun u => !Tryz.prog.wantsStandIn u) = true := by kernel_rfl
        exact (show Tryz.prog.wantsStandIn t = false by simpa using List.all_eq_true.1 hall t hm)⟩)
    (by kernel_rfl)

end Go.Proofs.YtokaapacaodeaaaGreatDoor.pFnExactReadGrain
