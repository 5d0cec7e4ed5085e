/- The voids of a view, the program's side. -/
import Derived.Test.YtkgijboahjiodaaVoe
namespace Go.Proofs.Ytkgijboahjiodaa
open Go.RowKit Fl

set_option maxRecDepth 100000 in
set_option maxHeartbeats 3200000 in
theorem voidsOf_any (W H : Int) (b n c : Nat) (zs : List Nat) (lv : Nat) (w : World) (hr : FRow w (some ⟨b, 0, none⟩) n zs) (hm : n ≤ 1048576) :
    Calls Try.prog 22 #[vwVal W H (some ⟨b, 0, none⟩) n c, .float .f32 lv] w fun e w' => Below w.heap.size w w' ∧ (if okView W H zs then ∃ v p m, e = .returned (.tuple #[v, .int .i64 (m : Nat), .bool true]) ∧ VoS n (voidIn zs lv) (voidNb W.toNat H.toNat) n p m ∧ w'.ownsRow w.heap.size 2 1 v n (vm p n) else e = .returned (.tuple #[.slice none 0 0, .int .i64 0, .bool false])) := by
  have hbel := ((Below.refl w.heap.size w).alloc (Nat.le_refl _) (.cells #[.int .i64 W, .int .i64 H, .slice (some ⟨b, 0, none⟩) n c] 55)).alloc (by simp) (.cells #[.float .f32 lv] 29)
  have hb1 : Blk ((w.alloc (.cells #[.int .i64 W, .int .i64 H, .slice (some ⟨b, 0, none⟩) n c] 55)).alloc (.cells #[.float .f32 lv] 29)) w.heap.size 55 _ := (blk_new w _ _ _ rfl).alloc _
  have hb2 : Blk ((w.alloc (.cells #[.int .i64 W, .int .i64 H, .slice (some ⟨b, 0, none⟩) n c] 55)).alloc (.cells #[.float .f32 lv] 29)) (w.heap.size + 1) 29 #[.float .f32 lv] := blk_new _ _ _ _ (by simp)
  have HV := fun (w : World) (h : FRow w (some ⟨b, 0, none⟩) n zs) => validView_any W H b n c zs w h hm
  have HR := Lib.hid (hr.below hbel (Nat.le_refl _))
  have HK1 := Lib.hid hb1
  have HK2 := Lib.hid hb2
  have HL := Lib.hid hr.len
  have HBel := Lib.hid hbel
  have a0 := hb1.cell 0
  have a1 := hb1.cell 1
  have a2 := hb1.cell 2
  clear hbel hr hb1 hb2
  unfold vwVal at *
  cases hok : okView W H zs
  · rw [hok] at HV
    have HV' := Lib.hid HV
    clear hok HV
    go_enter Try.func22, Try.ntmps22
    go_wp2_with (go_at_call 60; (with_reducible refine (HV'.out _ HR.out).mono ?_); rintro e w1 ⟨rfl, hb⟩)
    go_ret3
    exact ⟨below_next HBel.out hb, rfl⟩
  · rw [hok] at HV
    have HV' := Lib.hid HV
    obtain ⟨X, Y, rfl, rfl, x1, x2, y1, y2, hxy, hl, _⟩ := okView_dims hok
    rw [HL.out] at hl hxy
    have HXY := Lib.hid hxy
    clear hok HV hxy
    go_enter Try.func22, Try.ntmps22
    go_wp2_with fail
    refine (HV'.out _ HR.out).mono ?_
    rintro e w1 ⟨rfl, hb⟩
    have hK1 := blk_next HK1.out hb
    have hK2 := blk_next HK2.out hb
    have hR := HR.out.below hb (Nat.le_refl _)
    have L1 := Lib.hid (below_next HBel.out hb)
    have a0 := hK1.cell 0
    have a1 := hK1.cell 1
    have a2 := hK1.cell 2
    have hin : InC w1 w.heap.size (w.heap.size + 1) n (voidIn zs lv) := fun k W' hk hW => isLess_of _ _ b n c w.heap.size (w.heap.size + 1) k zs lv W' (hR.below hW (Nat.le_refl _)) (hK1.below hW hK1.lt) (hK2.below hW hK2.lt) hk
    have HN := Lib.hid (numberParts_of w.heap.size (w.heap.size + 1) X Y b n c (voidIn zs lv) w1 x1 x2 y1 y2 HXY.out hl hin)
    clear hb hK1 hK2 hR hin HK1 HK2 HR
    unfold fIn fBe at HN
    go_wp2_with fail
    refine (HN.out).mono ?_
    rintro e w2 ⟨hb, v, p, m, rfl, hS, ho⟩
    have L2 := Lib.hid (below_next L1.out hb)
    have HS := Lib.hid hS
    have HO := Lib.hid (vi_base ho L1.out.size)
    clear hb hS ho
    go_wp2_with fail
    go_ret3
    exact ⟨L2.out, _, _, _, rfl, HS.out, HO.out⟩
end Go.Proofs.Ytkgijboahjiodaa
