/- A grain read: the reference's side, walked: a grain that is made. -/
import Derived.Test.YtljcgfgkfkoeeaaGreatDoorJa
import Derived.BigRegion
import Derived.Deep.RegionHeld3
namespace Go.Proofs.YtljcgfgkfkoeeaaGreatDoor
open Go.RowKit

def Cl3 (zs : List (Nat × Nat)) (w : World) (e : Ending) (w' : World) : Prop := ∃ g c, e = .returned (.tuple #[.slice (some ⟨g, 0, none⟩) 2 c, .bool true]) ∧ w'.ownsRow w.heap.size 36 1 (.slice (some ⟨g, 0, none⟩) 2 c) 2 (zs.map cval) ∧ Below w.heap.size w w'
def Fl3 (zs : List Nat) (w : World) (e : Ending) (w' : World) : Prop := ∃ g c, e = .returned (.tuple #[.slice (some ⟨g, 0, none⟩) 4 c, .bool true]) ∧ w'.ownsRow w.heap.size 37 1 (.slice (some ⟨g, 0, none⟩) 4 c) 4 (zs.map (Value.float .f32)) ∧ Below w.heap.size w w'
theorem cl3_of {zs : List (Nat × Nat)} {w : World} {e : Ending} {w' : World} (h : Cl2 2 zs true w e w') : Cl3 zs w e w' := by
  obtain ⟨ao, c, rfl, ho, hb⟩ := h
  obtain ⟨g, cap, hv, _⟩ := own_form1 ho (by omega)
  obtain ⟨rfl, rfl⟩ : ao = some ⟨g, 0, none⟩ ∧ c = cap := by simpa using hv
  exact ⟨g, c, rfl, ho, hb⟩
theorem fl3_of {zs : List Nat} {w : World} {e : Ending} {w' : World} (h : Fl2 4 zs true w e w') : Fl3 zs w e w' := by
  obtain ⟨ao, c, rfl, ho, hb⟩ := h
  obtain ⟨g, cap, hv, _⟩ := own_form1 ho (by omega)
  obtain ⟨rfl, rfl⟩ : ao = some ⟨g, 0, none⟩ ∧ c = cap := by simpa using hv
  exact ⟨g, c, rfl, ho, hb⟩
theorem exc_of {a : List UInt8} {n : Nat} (h : ExC a n = true) : clOk a = true ∧ (clZ a).length = n := by simpa [ExC] using h
theorem exf_of {a : List UInt8} {n : Nat} (h : ExF a n = true) : flOk a = true ∧ (flZ a).length = n := by simpa [ExF] using h
theorem below_quiet {B : Nat} {w w1 w2 : World} (h : Below B w w1) (hq : Quiet w1 w2) : Below B w w2 := by
  obtain ⟨m, rfl⟩ := hq
  exact below_drewN h m
theorem grAt_blk {w : World} {b : Nat} {t : TypeId} {x : Gr} (h : Blk w b t (arr7 x)) : GrAt w b 0 x := ⟨h.cell 0, h.cell 1, h.cell 2, h.cell 3, h.cell 4, h.cell 5, h.cell 6⟩
theorem blk_quiet {w w' : World} {b : Nat} {t : TypeId} {cs : Array Value} (h : Blk w b t cs) (hq : Quiet w w') : Blk w' b t cs := by
  obtain ⟨n, rfl⟩ := hq
  exact h
set_option maxRecDepth 100000 in
set_option maxHeartbeats 12800000 in
theorem l08RG_made (s : ByteArray) (w : World) (a b c : List UInt8) (hs : s.size ≤ 1048576) (habc : cparts 58 s.data.toList = [a, b, c]) (h0 : c = freeL ∨ c = heldL) (h1 : ExC a 2 = true) (h2 : ExF b 4 = true) :
    Calls Tryz.prog 16 #[.string s] w fun e w' => e = RgAns s.data.toList ∧ Below w.heap.size w w' := by
  have HC := Lib.hid fun w => ccut_of 58 58 s w (Lib.hid rfl) hs
  have hyes := fun hv => rg_ans_some ((rg_three habc).trans (rg3_good (h0.elim Or.inr Or.inl) h1 h2 hv))
  have hno := fun hv => rg_ans_none ((rg_three habc).trans (rg3_bad (a := a) (b := b) (c := c) hv))
  have HAbc := Lib.hid habc
  obtain ⟨ha, hb⟩ := mem_le hs habc
  have HCR := Lib.hid fun x w hx => (show Calls _ _ _ _ _ from (by have := cread_at ha (exc_of h1).2 x w hx; rw [(exc_of h1).1] at this; exact this)).mono fun e w' h => cl3_of h
  have HNR := Lib.hid fun x w hx => (show Calls _ _ _ _ _ from (by have := nread_at hb (exf_of h2).2 x w hx; rw [(exf_of h2).1] at this; exact this)).mono fun e w' h => fl3_of h
  have hsc := run_store_complex Tryz.prog
  have hsf := run_store_float' Tryz.prog
  have HZ := Lib.hid (blk7_new w 39)
  obtain ⟨f, h, hQ, hfh⟩ : ∃ f h, StQ c f h ∧ ((f = true ∧ h = false) ∨ (f = false ∧ h = true)) := h0.elim (fun h => ⟨_, _, stq_free h, Or.inl ⟨rfl, rfl⟩⟩) (fun h => ⟨_, _, stq_held h, Or.inr ⟨rfl, rfl⟩⟩)
  have HQ := Lib.hid hQ
  have hgh : (gOf a b c).h = h := by
    have := hfh
    show decide (c = heldL) = h
    rcases h0 with e | e <;> rcases hfh with ⟨rfl, rfl⟩ | ⟨rfl, rfl⟩
    · rw [e]; rfl
    · have := (hQ ⟨c.toArray⟩ rfl).1.1; rw [ByteArray.toList_eq, e] at this; exact absurd this (by decide)
    · have := (hQ ⟨c.toArray⟩ rfl).1.1; rw [ByteArray.toList_eq, e] at this; exact absurd this (by decide)
    · rw [e]; rfl
  have hgE : gOf a b c = ⟨((clZ a).getD 0 (0, 0)).1, ((clZ a).getD 0 (0, 0)).2, ((clZ a).getD 1 (0, 0)).1, ((clZ a).getD 1 (0, 0)).2, (flZ b).getD 0 0, (flZ b).getD 1 0, (flZ b).getD 2 0, (flZ b).getD 3 0, h⟩ := by rw [← hgh]; rfl
  rw [hgE] at hyes hno
  clear habc h0 h1 h2 hQ ha hb hgE hgh
  generalize clZ a = zs1 at HCR hyes hno
  generalize flZ b = zs2 at HNR hyes hno
  have HY := Lib.hid hyes
  have HN := Lib.hid hno
  clear hyes hno
  rcases hfh with ⟨rfl, rfl⟩ | ⟨rfl, rfl⟩
  · go_enter Tryz.func16, Tryz.ntmps16
    go_wp2_with (first | (go_at_call 15; (with_reducible refine (HC.out _).mono ?_); rintro e w2 ⟨P, bp, cp, hP, rfl, hown, hb⟩; go_must (obtain ⟨x, y, z, rfl, hx, hy, hz⟩ := bts_three (hP.trans HAbc.out)); go_must (obtain ⟨⟨q1, q2⟩, q3, q4⟩ := HQ.out z hz); go_must (obtain ⟨x0, x1, x2⟩ := txt_three (txt_own hown)); have HX := Lib.hid hx; have HYy := Lib.hid hy; have HT := Lib.hid (txt_own hown); have HZ2 := Lib.hid (blk_next HZ.out hb); have HB := Lib.hid (below_next ((Below.refl w.heap.size w).alloc (Nat.le_refl _) _) hb); clear hP hown hb hx hy hz) | (go_at_call 25; (with_reducible refine (HCR.out _ _ HX.out).mono ?_); rintro e w3 ⟨g1, c1, rfl, ho, hb⟩; go_must (obtain ⟨y0, y1, y2⟩ := txt_three (HT.out.next hb)); have HT3 := Lib.hid (HT.out.next hb); have HO3 := Lib.hid ho; have HZ3 := Lib.hid (blk_next HZ2.out hb); have HB3 := Lib.hid (below_next HB.out hb); clear ho hb) | (go_at_call 26; (with_reducible refine (HNR.out _ _ HYy.out).mono ?_); rintro e w4 ⟨g2, c2, rfl, ho, hb⟩; have HT4 := Lib.hid (HT3.out.next hb); have HO4 := Lib.hid (own_below HO3.out hb (Nat.le_refl _)); have HF4 := Lib.hid ho; have HZ4 := Lib.hid (blk_next HZ3.out hb); have HB4 := Lib.hid (below_next HB3.out hb); clear ho hb))
    obtain ⟨r0, r1⟩ := own_two HO4.out
    obtain ⟨f0, f1, f2, f3⟩ := own_four HF4.out
    obtain ⟨-, -, t2⟩ := txt_three HT4.out
    have k1 := World.block_lt_of_cell? w4 _ r0
    have k2 := World.block_lt_of_cell? w4 _ f0
    have k3 := World.block_lt_of_cell? w4 _ t2
    generalize (zs1.getD 0 (0, 0)).1 = u0 at r0 HY HN
    generalize (zs1.getD 0 (0, 0)).2 = u1 at r0 HY HN
    generalize (zs1.getD 1 (0, 0)).1 = u2 at r1 HY HN
    generalize (zs1.getD 1 (0, 0)).2 = u3 at r1 HY HN
    generalize zs2.getD 0 0 = v0 at f0 HY HN
    generalize zs2.getD 1 0 = v1 at f1 HY HN
    generalize zs2.getD 2 0 = v2 at f2 HY HN
    generalize zs2.getD 3 0 = v3 at f3 HY HN
    clear x0 x1 x2 y0 y1 y2
    go_region_held3 (fun w' => w'.cell? ⟨g1, 0, none⟩ = some (.complex .f32 u0 u1) ∧ w'.cell? ⟨g1, 1, none⟩ = some (.complex .f32 u2 u3) ∧ w'.cell? ⟨g2, 0, none⟩ = some (.float .f32 v0) ∧ w'.cell? ⟨g2, 1, none⟩ = some (.float .f32 v1) ∧ w'.cell? ⟨g2, 2, none⟩ = some (.float .f32 v2) ∧ w'.cell? ⟨g2, 3, none⟩ = some (.float .f32 v3) ∧ w'.cell? ⟨bp, 2, none⟩ = some (.string z)) (first | exact ⟨r0, r1, f0, f1, f2, f3, t2⟩ | go_keep) (fail)
    have HMk := Lib.hid (show Blk ((w4.alloc (.cells #[.complex .f32 u0 u1, .complex .f32 u2 u3, .float .f32 v0, .float .f32 v1, .float .f32 v2, .float .f32 v3, .bool false] 39)).drew) w4.heap.size 39 (arr7 ⟨u0, u1, u2, u3, v0, v1, v2, v3, false⟩) from blk_new w4 _ _ _ rfl)
    have HLg := l02Grain_any w4.heap.size 0 ⟨u0, u1, u2, u3, v0, v1, v2, v3, false⟩ _ (grAt_blk HMk.out)
    have HZ5 := Lib.hid (show Blk ((w4.alloc (.cells #[.complex .f32 u0 u1, .complex .f32 u2 u3, .float .f32 v0, .float .f32 v1, .float .f32 v2, .float .f32 v3, .bool false] 39)).drew) w.heap.size 39 (arr7 zg) from HZ4.out.alloc _)
    have HB5 := Lib.hid (show Below w.heap.size w ((w4.alloc (.cells #[.complex .f32 u0 u1, .complex .f32 u2 u3, .float .f32 v0, .float .f32 v1, .float .f32 v2, .float .f32 v3, .bool false] 39)).drew) from below_drewN (HB4.out.alloc HB4.out.size _) 1)
    generalize ((w4.alloc (.cells #[.complex .f32 u0 u1, .complex .f32 u2 u3, .float .f32 v0, .float .f32 v1, .float .f32 v2, .float .f32 v3, .bool false] 39)).drew) = W5 at HMk HLg HZ5 HB5 ⊢
    clear r0 r1 f0 f1 f2 f3 t2
    cases hv : Gr.valid ⟨u0, u1, u2, u3, v0, v1, v2, v3, false⟩
    · rw [hv] at HLg
      have HLg' := Lib.hid HLg
      have HA := Lib.hid (HN.out hv)
      clear HLg hv
      go_wp2_with (go_at_call 27; ((with_reducible refine (HLg'.out).mono ?_); rintro e w6 ⟨rfl, hq⟩; have HZ6 := Lib.hid (blk_quiet HZ5.out hq); have HB6 := Lib.hid (below_quiet HB5.out hq); go_must (obtain ⟨z0, z1, z2, z3, z4, z5, z6, zf⟩ := blk7_cells HZ6.out); clear hq))
      refine bodyPost_ret (v := .tuple #[zg.val, .bool false]) (results_row_tmp Tryz.results16 _ _ w.heap.size 39 (arr7 zg) _ _ rfl (put7_blk HZ6.out zg) rfl Tryz.underlying39 rfl (by kernel_rfl)) rfl ⟨HA.out.symm, put7_below HB6.out (Nat.le_refl _) zg⟩
    · rw [hv] at HLg
      have HLg' := Lib.hid HLg
      have HA := Lib.hid (HY.out hv)
      clear HLg hv
      go_wp2_with (go_at_call 27; ((with_reducible refine (HLg'.out).mono ?_); rintro e w6 ⟨rfl, hq⟩; have HZ6 := Lib.hid (blk_quiet HZ5.out hq); have HB6 := Lib.hid (below_quiet HB5.out hq); go_must (obtain ⟨z0, z1, z2, z3, z4, z5, z6, zf⟩ := blk7_cells HZ6.out); go_must (obtain ⟨g0, g1', g2', g3, g4, g5, g6, gf⟩ := blk7_cells (blk_quiet HMk.out hq)); clear hq))
      refine bodyPost_ret (v := .tuple #[Gr.val ⟨u0, u1, u2, u3, v0, v1, v2, v3, false⟩, .bool true]) (results_row_tmp Tryz.results16 _ _ w.heap.size 39 (arr7 ⟨u0, u1, u2, u3, v0, v1, v2, v3, false⟩) _ _ rfl (put7_blk HZ6.out ⟨u0, u1, u2, u3, v0, v1, v2, v3, false⟩) rfl Tryz.underlying39 rfl (by kernel_rfl)) rfl ⟨HA.out.symm, put7_below HB6.out (Nat.le_refl _) ⟨u0, u1, u2, u3, v0, v1, v2, v3, false⟩⟩
  · go_enter Tryz.func16, Tryz.ntmps16
    go_wp2_with (first | (go_at_call 15; (with_reducible refine (HC.out _).mono ?_); rintro e w2 ⟨P, bp, cp, hP, rfl, hown, hb⟩; go_must (obtain ⟨x, y, z, rfl, hx, hy, hz⟩ := bts_three (hP.trans HAbc.out)); go_must (obtain ⟨⟨q1, q2⟩, q3, q4⟩ := HQ.out z hz); go_must (obtain ⟨x0, x1, x2⟩ := txt_three (txt_own hown)); have HX := Lib.hid hx; have HYy := Lib.hid hy; have HT := Lib.hid (txt_own hown); have HZ2 := Lib.hid (blk_next HZ.out hb); have HB := Lib.hid (below_next ((Below.refl w.heap.size w).alloc (Nat.le_refl _) _) hb); clear hP hown hb hx hy hz) | (go_at_call 25; (with_reducible refine (HCR.out _ _ HX.out).mono ?_); rintro e w3 ⟨g1, c1, rfl, ho, hb⟩; go_must (obtain ⟨y0, y1, y2⟩ := txt_three (HT.out.next hb)); have HT3 := Lib.hid (HT.out.next hb); have HO3 := Lib.hid ho; have HZ3 := Lib.hid (blk_next HZ2.out hb); have HB3 := Lib.hid (below_next HB.out hb); clear ho hb) | (go_at_call 26; (with_reducible refine (HNR.out _ _ HYy.out).mono ?_); rintro e w4 ⟨g2, c2, rfl, ho, hb⟩; have HT4 := Lib.hid (HT3.out.next hb); have HO4 := Lib.hid (own_below HO3.out hb (Nat.le_refl _)); have HF4 := Lib.hid ho; have HZ4 := Lib.hid (blk_next HZ3.out hb); have HB4 := Lib.hid (below_next HB3.out hb); clear ho hb))
    obtain ⟨r0, r1⟩ := own_two HO4.out
    obtain ⟨f0, f1, f2, f3⟩ := own_four HF4.out
    obtain ⟨-, -, t2⟩ := txt_three HT4.out
    have k1 := World.block_lt_of_cell? w4 _ r0
    have k2 := World.block_lt_of_cell? w4 _ f0
    have k3 := World.block_lt_of_cell? w4 _ t2
    generalize (zs1.getD 0 (0, 0)).1 = u0 at r0 HY HN
    generalize (zs1.getD 0 (0, 0)).2 = u1 at r0 HY HN
    generalize (zs1.getD 1 (0, 0)).1 = u2 at r1 HY HN
    generalize (zs1.getD 1 (0, 0)).2 = u3 at r1 HY HN
    generalize zs2.getD 0 0 = v0 at f0 HY HN
    generalize zs2.getD 1 0 = v1 at f1 HY HN
    generalize zs2.getD 2 0 = v2 at f2 HY HN
    generalize zs2.getD 3 0 = v3 at f3 HY HN
    clear x0 x1 x2 y0 y1 y2
    go_region_held3 (fun w' => w'.cell? ⟨g1, 0, none⟩ = some (.complex .f32 u0 u1) ∧ w'.cell? ⟨g1, 1, none⟩ = some (.complex .f32 u2 u3) ∧ w'.cell? ⟨g2, 0, none⟩ = some (.float .f32 v0) ∧ w'.cell? ⟨g2, 1, none⟩ = some (.float .f32 v1) ∧ w'.cell? ⟨g2, 2, none⟩ = some (.float .f32 v2) ∧ w'.cell? ⟨g2, 3, none⟩ = some (.float .f32 v3) ∧ w'.cell? ⟨bp, 2, none⟩ = some (.string z)) (first | exact ⟨r0, r1, f0, f1, f2, f3, t2⟩ | go_keep) (fail)
    have HMk := Lib.hid (show Blk ((w4.alloc (.cells #[.complex .f32 u0 u1, .complex .f32 u2 u3, .float .f32 v0, .float .f32 v1, .float .f32 v2, .float .f32 v3, .bool true] 39)).drew) w4.heap.size 39 (arr7 ⟨u0, u1, u2, u3, v0, v1, v2, v3, true⟩) from blk_new w4 _ _ _ rfl)
    have HLg := l02Grain_any w4.heap.size 0 ⟨u0, u1, u2, u3, v0, v1, v2, v3, true⟩ _ (grAt_blk HMk.out)
    have HZ5 := Lib.hid (show Blk ((w4.alloc (.cells #[.complex .f32 u0 u1, .complex .f32 u2 u3, .float .f32 v0, .float .f32 v1, .float .f32 v2, .float .f32 v3, .bool true] 39)).drew) w.heap.size 39 (arr7 zg) from HZ4.out.alloc _)
    have HB5 := Lib.hid (show Below w.heap.size w ((w4.alloc (.cells #[.complex .f32 u0 u1, .complex .f32 u2 u3, .float .f32 v0, .float .f32 v1, .float .f32 v2, .float .f32 v3, .bool true] 39)).drew) from below_drewN (HB4.out.alloc HB4.out.size _) 1)
    generalize ((w4.alloc (.cells #[.complex .f32 u0 u1, .complex .f32 u2 u3, .float .f32 v0, .float .f32 v1, .float .f32 v2, .float .f32 v3, .bool true] 39)).drew) = W5 at HMk HLg HZ5 HB5 ⊢
    clear r0 r1 f0 f1 f2 f3 t2
    cases hv : Gr.valid ⟨u0, u1, u2, u3, v0, v1, v2, v3, true⟩
    · rw [hv] at HLg
      have HLg' := Lib.hid HLg
      have HA := Lib.hid (HN.out hv)
      clear HLg hv
      go_wp2_with (go_at_call 27; ((with_reducible refine (HLg'.out).mono ?_); rintro e w6 ⟨rfl, hq⟩; have HZ6 := Lib.hid (blk_quiet HZ5.out hq); have HB6 := Lib.hid (below_quiet HB5.out hq); go_must (obtain ⟨z0, z1, z2, z3, z4, z5, z6, zf⟩ := blk7_cells HZ6.out); clear hq))
      refine bodyPost_ret (v := .tuple #[zg.val, .bool false]) (results_row_tmp Tryz.results16 _ _ w.heap.size 39 (arr7 zg) _ _ rfl (put7_blk HZ6.out zg) rfl Tryz.underlying39 rfl (by kernel_rfl)) rfl ⟨HA.out.symm, put7_below HB6.out (Nat.le_refl _) zg⟩
    · rw [hv] at HLg
      have HLg' := Lib.hid HLg
      have HA := Lib.hid (HY.out hv)
      clear HLg hv
      go_wp2_with (go_at_call 27; ((with_reducible refine (HLg'.out).mono ?_); rintro e w6 ⟨rfl, hq⟩; have HZ6 := Lib.hid (blk_quiet HZ5.out hq); have HB6 := Lib.hid (below_quiet HB5.out hq); go_must (obtain ⟨z0, z1, z2, z3, z4, z5, z6, zf⟩ := blk7_cells HZ6.out); go_must (obtain ⟨g0, g1', g2', g3, g4, g5, g6, gf⟩ := blk7_cells (blk_quiet HMk.out hq)); clear hq))
      refine bodyPost_ret (v := .tuple #[Gr.val ⟨u0, u1, u2, u3, v0, v1, v2, v3, true⟩, .bool true]) (results_row_tmp Tryz.results16 _ _ w.heap.size 39 (arr7 ⟨u0, u1, u2, u3, v0, v1, v2, v3, true⟩) _ _ rfl (put7_blk HZ6.out ⟨u0, u1, u2, u3, v0, v1, v2, v3, true⟩) rfl Tryz.underlying39 rfl (by kernel_rfl)) rfl ⟨HA.out.symm, put7_below HB6.out (Nat.le_refl _) ⟨u0, u1, u2, u3, v0, v1, v2, v3, true⟩⟩
end Go.Proofs.YtljcgfgkfkoeeaaGreatDoor
