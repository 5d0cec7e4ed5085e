/- The law's own helpers on desks: two desks compared, a desk marked, the marks found again. -/
import Derived.Test.YtljcgfgkfkoeeaaWg
namespace Go.Proofs.Ytljcgfgkfkoeeaa
open Go.RowKit Fl

theorem own_keep {w w' : World} {base e size n g c : Nat} {xs : List Value} (h : w.ownsRow base e size (.slice (some ⟨g, 0, none⟩) n c) n xs) (hk : ∀ t cs, Blk w g t cs → Blk w' g t cs) : w'.ownsRow base e size (.slice (some ⟨g, 0, none⟩) n c) n xs := by
  refine ⟨h.1, ?_⟩
  rcases h.2 with ⟨hv, _⟩ | ⟨g', cap, cur, hv, hb, hg, rest⟩
  · cases hv
  · obtain ⟨rfl, rfl⟩ : g' = g ∧ cap = c := by
      injection hv with e1 e2 e3
      injection e1 with e1
      injection e1 with e1
      exact ⟨e1.symm, e3.symm⟩
    exact .inr ⟨g', cap, cur, rfl, hb, hk _ _ hg, rest⟩
theorem marked_all (gs : List Gr) (k n : Nat) (hl : gs.length = n) : (marked gs k n).length = n ∧ ∀ j, j < n → (marked gs k n).getD j default = mkd (k + 7 * j) := by
  refine ⟨by rw [marked_length gs k n (by omega), hl], fun j hj => ?_⟩
  unfold marked
  rw [List.getD_eq_getElem?_getD, List.getElem?_append_left (by simp; exact hj), List.getElem?_map, List.getElem?_range hj]
  rfl
theorem grRow_block {w w' : World} {b B : Nat} {gs : List Gr} (h : GrRow w b gs) (hb : Below B w w') (hB : b < B) : GrRow w' b gs := by
  intro i hi
  have key : ∀ {o : Nat} {v : Value}, w.cell? ⟨b, o, none⟩ = some v → w'.cell? ⟨b, o, none⟩ = some v := fun {o v} hc => by
    rw [hb.cell (p := ⟨b, o, none⟩) hB]; exact hc
  obtain ⟨c0, c1, c2, c3, c4, c5, c6⟩ := h i hi
  exact ⟨key c0, key c1, key c2, key c3, key c4, key c5, key c6⟩
/-- the grains and the walls of a desk, read -/
structure DkR (w : World) (b wb : Nat) (gs : List Gr) (ws : List Wl) : Prop where
  g : GrRow w b gs
  x : WRow w wb ws
theorem DkR.next {w w' : World} {b wb : Nat} {gs : List Gr} {ws : List Wl} (h : DkR w b wb gs ws) (hb : Below w.heap.size w w') : DkR w' b wb gs ws := ⟨h.g.below hb (Nat.le_refl _), h.x.below hb (Nat.le_refl _)⟩
theorem DkR.alloc {w : World} {b wb : Nat} {gs : List Gr} {ws : List Wl} (h : DkR w b wb gs ws) (o : Obj) : DkR (w.alloc o) b wb gs ws := h.next ((Below.refl w.heap.size w).alloc (Nat.le_refl _) o)
theorem DkR.from {w w0 w' : World} {b wb : Nat} {gs : List Gr} {ws : List Wl} (h : DkR w b wb gs ws) (hb : Below w.heap.size w w0) (hc : Below w0.heap.size w0 w') : DkR w' b wb gs ws := (h.next hb).next hc
set_option maxHeartbeats 3200000 in
theorem eqDesk_of (b1 c1 wb1 wc1 b2 c2 wb2 wc2 nb : Nat) (w : World) (h1 : DkR w b1 wb1 deskGs boxW) (h2 : DkR w b2 wb2 deskGs boxW) :
    Calls Try.prog 6 #[deskV b1 c1 wb1 wc1 (.slice none 0 0), deskV b2 c2 wb2 wc2 (.slice (some ⟨nb, 0, none⟩) 0 0)] w fun e w' => e = .returned (.bool true) ∧ Below w.heap.size w w' := by
  have HE := Lib.hid fun W h1 h2 => eqHeap_self b1 b2 3 c1 c2 deskGs W desk_len h1 h2 (pile_valid desk_ok) (by decide)
  have HR := Lib.hid fun W => eqRules_nums 1098907648 1065353216 1056964608 1090519040 W (by decide) (by decide) (by decide) (by decide)
  have HW := Lib.hid fun W h1 h2 => eqWallS_self wb1 wb2 4 wc1 wc2 boxW W rfl h1 h2 box_nums (by decide)
  have HB := Lib.hid fun W => eqBondS_none nb W
  have A1 := Lib.hid (blk_new w 31 (deskArr b1 c1 wb1 wc1 (.slice none 0 0)) _ rfl)
  have A2 := Lib.hid (A1.out.alloc (.cells (deskArr b2 c2 wb2 wc2 (.slice (some ⟨nb, 0, none⟩) 0 0)) 31))
  have B2 := Lib.hid (blk_new (w.alloc (.cells (deskArr b1 c1 wb1 wc1 (.slice none 0 0)) 31)) 31 (deskArr b2 c2 wb2 wc2 (.slice (some ⟨nb, 0, none⟩) 0 0)) (w.heap.size + 1) (by simp))
  have K2 := Lib.hid (((Below.refl w.heap.size w).alloc (Nat.le_refl _) (.cells (deskArr b1 c1 wb1 wc1 (.slice none 0 0)) 31)).alloc (by simp) (.cells (deskArr b2 c2 wb2 wc2 (.slice (some ⟨nb, 0, none⟩) 0 0)) 31))
  have H1 := Lib.hid h1
  have H2 := Lib.hid h2
  clear h1 h2
  unfold deskV
  unfold deskArr at A1 A2 B2 K2 ⊢
  go_enter Try.func6, Try.ntmps6
  go_wp2_with (go_at_call 13; ((with_reducible refine (HE.out _ (H1.out.next K2.out).g (H2.out.next K2.out).g).mono ?_); rintro e w3 ⟨rfl, hb3⟩; have A3 := Lib.hid (blk_next A2.out hb3); have B3 := Lib.hid (blk_next B2.out hb3); have K3 := Lib.hid (below_next K2.out hb3); have a13 := A3.out.cell 1; have a23 := A3.out.cell 2; have a33 := A3.out.cell 3; have a43 := A3.out.cell 4; have b13 := B3.out.cell 1; have b23 := B3.out.cell 2; have b33 := B3.out.cell 3; have b43 := B3.out.cell 4; clear hb3))
  go_wp2_with (go_at_call 14; ((with_reducible refine (HR.out _).mono ?_); rintro e w4 ⟨rfl, hb4⟩; have A4 := Lib.hid (blk_next A3.out hb4); have B4 := Lib.hid (blk_next B3.out hb4); have K4 := Lib.hid (below_next K3.out hb4); have a54 := A4.out.cell 5; have b54 := B4.out.cell 5; clear hb4))
  go_wp2_with (go_at_call 15; ((with_reducible refine (HW.out _ (H1.out.next K4.out).x (H2.out.next K4.out).x).mono ?_); rintro e w5 ⟨rfl, hb5⟩; have A5 := Lib.hid (blk_next A4.out hb5); have B5 := Lib.hid (blk_next B4.out hb5); have K5 := Lib.hid (below_next K4.out hb5); have a65 := A5.out.cell 6; have b65 := B5.out.cell 6; clear hb5))
  go_wp2_with (go_at_call 16; ((with_reducible refine (HB.out _).mono ?_); rintro e w6 ⟨rfl, rfl⟩))
  go_ret
  exact ⟨rfl, K5.out⟩
set_option maxHeartbeats 3200000 in
theorem markDesk_of (base b c wb wc : Nat) (gs : List Gr) (ws : List Wl) (w : World) (hl : gs.length = 3) (hl2 : ws.length = 4) (hg : w.ownsRow base 51 7 (.slice (some ⟨b, 0, none⟩) 3 c) 3 (gcells gs)) (hw : w.ownsRow base 62 3 (.slice (some ⟨wb, 0, none⟩) 4 wc) 4 (wcells ws)) (hne : b < wb) (hlt : wb < w.heap.size) :
    Calls Try.prog 7 #[deskV b c wb wc (.slice none 0 0), .int .i64 1] w fun e w' => e = .returned (.int .i64 34) ∧ DkR w' b wb (marked gs 1 3) (wmarked ws 22 4) ∧
      (∀ B w0, Below B w0 w → B ≤ b → Below B w0 w') ∧ (∀ g' t cs, Blk w g' t cs → g' ≠ b → g' ≠ wb → Blk w' g' t cs) := by
  have HM := Lib.hid fun W ho hb => (show Calls Try.prog 17 #[.agg #[.slice (some ⟨b, 0, none⟩) 3 c], .int .i64 1] W fun e w' => e = .returned (.int .i64 22) ∧
      w'.ownsRow base 51 7 (.slice (some ⟨b, 0, none⟩) 3 c) 3 (gcells (marked gs 1 3)) ∧ (∀ B w0, Below B w0 W → B ≤ b → Below B w0 w') ∧ (∀ g' t cs, Blk W g' t cs → g' ≠ b → Blk w' g' t cs) from markHeap_of base b 3 c 1 gs W hl ho (by decide) hb)
  have HW := Lib.hid fun W ho => (show Calls Try.prog 18 #[.slice (some ⟨wb, 0, none⟩) 4 wc, .int .i64 22] W fun e w' => e = .returned (.int .i64 34) ∧
      w'.ownsRow base 62 3 (.slice (some ⟨wb, 0, none⟩) 4 wc) 4 (wcells (wmarked ws 22 4)) ∧ (∀ B w0, Below B w0 W → B ≤ wb → Below B w0 w') ∧ (∀ g' t cs, Blk W g' t cs → g' ≠ wb → Blk w' g' t cs) ∧
      (∀ g' gr, g' ≠ wb → GrRow W g' gr → GrRow w' g' gr) from markWallS_of base wb 4 wc 22 ws W hl2 ho (by decide))
  have HB := Lib.hid fun W => (show Calls Try.prog 19 #[.slice none 0 0, .int .i64 34] W fun e w' => e = .returned (.int .i64 34) ∧ W = w' from markBondS_none 34 W (by decide))
  have A1 := Lib.hid (blk_new w 31 (deskArr b c wb wc (.slice none 0 0)) _ rfl)
  have G1 := Lib.hid (hg.alloc (.cells (deskArr b c wb wc (.slice none 0 0)) 31))
  have W1 := Lib.hid (hw.alloc (.cells (deskArr b c wb wc (.slice none 0 0)) 31))
  have E1 := Lib.hid (show ∀ B w0, Below B w0 w → B ≤ b → Below B w0 (w.alloc (.cells (deskArr b c wb wc (.slice none 0 0)) 31)) from fun B w0 h hB => h.alloc (by omega) _)
  have Q1 := Lib.hid (show ∀ g' t cs, Blk w g' t cs → Blk (w.alloc (.cells (deskArr b c wb wc (.slice none 0 0)) 31)) g' t cs from fun g' t cs h => h.alloc _)
  have D := Lib.hid (show b < wb ∧ wb < w.heap.size ∧ wb < (w.alloc (.cells (deskArr b c wb wc (.slice none 0 0)) 31)).heap.size by simp; omega)
  have HL := Lib.hid (marked_all gs 1 3 hl).1
  have HL2 := Lib.hid (wmarked_all ws 22 4 hl2).1
  clear hg hw hne hlt hl hl2
  unfold deskV
  unfold deskArr at A1 G1 W1 E1 Q1 D ⊢
  go_enter Try.func7, Try.ntmps7
  go_wp2_with (go_at_call 17; ((with_reducible refine (HM.out _ G1.out (by have := D.out; omega)).mono ?_); rintro e w2 ⟨rfl, ho2, hx2, hk2⟩; have A2 := Lib.hid (hk2 _ _ _ A1.out (by have := D.out; omega)); have a5 := A2.out.cell 5; have G2 := Lib.hid (row_of_own ho2 HL.out); have W2 := Lib.hid (own_keep W1.out (fun t cs h => hk2 _ _ _ h (by have := D.out; omega))); have E2 := Lib.hid (fun B w0 h hB => hx2 B w0 (E1.out B w0 h hB) hB); have Q2 := Lib.hid (fun g' t cs h hn => hk2 g' t cs (Q1.out g' t cs h) hn); clear ho2 hx2 hk2))
  go_wp2_with (go_at_call 18; ((with_reducible refine (HW.out _ W2.out).mono ?_); rintro e w3 ⟨rfl, ho3, hx3, hk3, hg3⟩; have A3 := Lib.hid (hk3 _ _ _ A2.out (by have := D.out; omega)); have a6 := A3.out.cell 6; have G3 := Lib.hid (hg3 _ _ (by have := D.out; omega) G2.out); have W3 := Lib.hid (wrow_of_own ho3 HL2.out); have E3 := Lib.hid (fun B w0 h hB => hx3 B w0 (E2.out B w0 h hB) (Nat.le_trans hB (Nat.le_of_lt D.out.1))); have Q3 := Lib.hid (fun g' t cs h hn hn2 => hk3 g' t cs (Q2.out g' t cs h hn) hn2); clear ho3 hx3 hk3 hg3))
  go_wp2_with (go_at_call 19; ((with_reducible refine (HB.out _).mono ?_); rintro e w6 ⟨rfl, rfl⟩))
  go_ret
  exact ⟨rfl, ⟨G3.out, W3.out⟩, E3.out, Q3.out⟩
set_option maxHeartbeats 3200000 in
theorem heldDesk_of (b c wb wc : Nat) (gs : List Gr) (ws : List Wl) (w : World) (hl : gs.length = 3) (hl2 : ws.length = 4) (hr : DkR w b wb (marked gs 1 3) (wmarked ws 22 4)) :
    Calls Try.prog 8 #[deskV b c wb wc (.slice none 0 0), .int .i64 1] w fun e w' => e = .returned (.int .i64 34) ∧ Below w.heap.size w w' := by
  have HA := marked_all gs 1 3 hl
  have HA2 := wmarked_all ws 22 4 hl2
  have HH := Lib.hid fun W hr => (show Calls Try.prog 20 #[.agg #[.slice (some ⟨b, 0, none⟩) 3 c], .int .i64 1] W fun e w' => e = .returned (.int .i64 22) ∧ Below W.heap.size W w' from heldHeap_of b 3 c 1 (marked gs 1 3) W HA.1 hr HA.2 (by decide))
  have HW := Lib.hid fun W hr => (show Calls Try.prog 21 #[.slice (some ⟨wb, 0, none⟩) 4 wc, .int .i64 22] W fun e w' => e = .returned (.int .i64 34) ∧ W = w' from heldWallS_of wb 4 wc 22 (wmarked ws 22 4) W HA2.1 hr HA2.2 (by decide))
  have HB := Lib.hid fun W => (show Calls Try.prog 22 #[.slice none 0 0, .int .i64 34] W fun e w' => e = .returned (.int .i64 34) ∧ W = w' from heldBondS_none 34 W (by decide))
  have A1 := Lib.hid (blk_new w 31 (deskArr b c wb wc (.slice none 0 0)) _ rfl)
  have K1 := Lib.hid ((Below.refl w.heap.size w).alloc (Nat.le_refl _) (.cells (deskArr b c wb wc (.slice none 0 0)) 31))
  have R1 := Lib.hid hr
  clear hr HA HA2 hl hl2
  unfold deskV
  unfold deskArr at A1 K1 ⊢
  go_enter Try.func8, Try.ntmps8
  go_wp2_with (go_at_call 20; ((with_reducible refine (HH.out _ (R1.out.next K1.out).g).mono ?_); rintro e w2 ⟨rfl, hb2⟩; have A2 := Lib.hid (blk_next A1.out hb2); have a5 := A2.out.cell 5; have a6 := A2.out.cell 6; have K2 := Lib.hid (below_next K1.out hb2); clear hb2))
  go_wp2_with (go_at_call 21; ((with_reducible refine (HW.out _ (R1.out.next K2.out).x).mono ?_); rintro e w3 ⟨rfl, rfl⟩))
  go_wp2_with (go_at_call 22; ((with_reducible refine (HB.out _).mono ?_); rintro e w4 ⟨rfl, rfl⟩))
  go_ret
  exact ⟨rfl, K2.out⟩
end Go.Proofs.Ytljcgfgkfkoeeaa
