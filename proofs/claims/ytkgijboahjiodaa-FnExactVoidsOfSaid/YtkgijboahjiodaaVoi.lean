/- A view copied by the law, its values a row of the copy's own; the copy marked. -/
import Derived.Test.YtkgijboahjiodaaVoc
namespace Go.Proofs.Ytkgijboahjiodaa
open Go.RowKit Fl

theorem far3 {a b n c j : Nat} (h : a ≠ b) : (Value.slice (some ⟨a, 0, none⟩) n c).ownBlock ≠ some (⟨b, j, none⟩ : Addr).block := fun e => h (by injection e)
theorem frow_own {w : World} {base b n c : Nat} {zs : List Nat} (h : w.ownsRow base 29 1 (.slice (some ⟨b, 0, none⟩) n c) n (zs.map (Value.float .f32))) (hl : zs.length = n) : FRow w (some ⟨b, 0, none⟩) n zs :=
  ⟨hl, fun _ => ⟨_, rfl⟩, fun a ha i hi => by
    obtain rfl := Option.some.inj ha
    have h1 := h.cellAt i (by omega)
    rw [show (⟨b, 0, none⟩ : Addr).add i = ⟨b, i, none⟩ by unfold Addr.add; split <;> simp_all]
    rw [h1]; simp [List.getD, List.getElem?_eq_getElem (show i < zs.length by omega)]⟩
set_option maxHeartbeats 1600000 in
theorem toFloat32S_own (ao : Option Addr) (n c : Nat) (zs : List Nat) (w : World) (ha : FRow w ao n zs) (hm : n * 4 ≤ 140737488351232) :
    Calls Try.prog 59 #[.slice ao n c] w fun e w' => e = .returned (.slice (some ⟨w.heap.size, 0, none⟩) n n) ∧ w'.ownsRow w.heap.size 29 1 (.slice (some ⟨w.heap.size, 0, none⟩) n n) n (zs.map (Value.float .f32)) ∧ Below w.heap.size w w' ∧ w.heap.size < w'.heap.size := by
  obtain ⟨i0, hi, hz0, hz1, hz2⟩ := info_parts f32info
  have hn : zs.length = n := ha.len
  have hm' : n ≤ 9223372036854775807 := by omega
  have hs0 : w.heap.size ≤ w.heap.size := Nat.le_refl _
  go_enter Try.func59, Try.ntmps59
  go_wp2_with (at_make; go_loud (refine wpList_make_full _ rfl _ _ 49 rfl w.heap.size 29 i0 (.float .f32 0) 1 Try.underlying49 hi hz0 hz1 .i64 .i64 _ _ n rfl rfl rfl rfl (by rw [hz2]; omega) (by unfold maxLen; omega) (Nat.le_refl _) ?_); intro w1 hown hgrow)
  have hb1 : Below w.heap.size w w1 := (Below.refl _ _).grown hgrow (Nat.le_refl _) (by simp)
  have hsz1 : w.heap.size < w1.heap.size := by
    rcases hown.2 with ⟨h', _⟩ | ⟨g', cap', cur, h', _, hg, _⟩
    · simp at h'
    · simp only [Value.slice.injEq, Option.some.injEq, Addr.mk.injEq, and_true, true_and] at h'
      obtain ⟨rfl, rfl⟩ := h'
      exact (Array.getElem?_eq_some_iff.1 hg).1
  go_loopw [4] (fun i wr => ∃ k : Nat, k ≤ n ∧ i = .int .i64 k ∧ wr.ownsRow w.heap.size 29 1 (.slice (some ⟨w.heap.size, 0, none⟩) n n) n (fcop zs n k) ∧ Below w.heap.size w wr ∧ w1.heap.size ≤ wr.heap.size) (fun i _ => n - (intOf i).toNat)
  case atStart => exact ⟨0, Nat.zero_le _, rfl, by rw [fcop_zero, ← made_f32]; exact hown, hb1, Nat.le_refl _⟩
  case round =>
    obtain ⟨k, hk, rfl, hownk, hbk, hszk⟩ := hrel
    clear hown hgrow
    by_cases hlt' : k < n
    · obtain ⟨a, rfl⟩ := ha.addr (by omega)
      have hx := (ha.below hbk (Nat.le_refl _)).cell a rfl k hlt'
      have hst := hownk.stored k (.float .f32 (zs.getD k 0))
      rw [fcop_succ zs n k hn hlt'] at hst
      have hfr := hownk.frozenAt k
      have hcl := hownk.cellAt k (by omega)
      rw [List.getElem?_eq_getElem (by rw [hownk.1]; omega)] at hcl
      generalize (fcop zs n k)[k]'_ = old at hcl
      generalize zs.getD k 0 = x at hx hst
      obtain ⟨hst1, hst2⟩ := hst
      have hst1' := Lib.hid hst1
      have hst2' := Lib.hid hst2
      have hown' := Lib.hid hownk
      clear hst1 hst2 hownk ha
      have hsf := run_store_float Try.prog
      have hbk' := Lib.hid (hbk.setCell (p := ⟨w.heap.size, k, none⟩) (Nat.le_refl _) (.float .f32 x))
      clear hbk
      go_wp2
      go_roundw
      case rel => exact ⟨k + 1, by omega, by go_num, hst1'.out, hbk'.out, by simpa using hszk⟩
      case measure => simp [intOf]; omega
    · obtain rfl : k = n := by omega
      go_wp2
      go_ret
      rw [fcop_all zs k hn] at hownk
      exact ⟨rfl, hownk, hbk, by omega⟩
set_option maxHeartbeats 1600000 in
theorem toView_own (W H : Int) (ao : Option Addr) (n c : Nat) (zs : List Nat) (w : World) (ha : FRow w ao n zs) (hm : n ≤ 1048576) :
    Calls Try.prog 21 #[vwVal W H ao n c] w fun e w' => ∃ b, e = .returned (vwVal W H (some ⟨b, 0, none⟩) n n) ∧ w.heap.size ≤ b ∧ b < w'.heap.size ∧ FRow w' (some ⟨b, 0, none⟩) n zs ∧ w'.ownsRow w.heap.size 29 1 (.slice (some ⟨b, 0, none⟩) n n) n (zs.map (Value.float .f32)) ∧ Below w.heap.size w w' := by
  have HT := Lib.hid fun w (h : FRow w ao n zs) => toFloat32S_own ao n c zs w h (by omega)
  have hbel := (((Below.refl w.heap.size w).alloc (Nat.le_refl _) (.cells #[.int .i64 W, .int .i64 H, .slice ao n c] 51)).alloc (by simp) (.cells #[.int .i64 0, .int .i64 0, .slice none 0 0] 55)).alloc (by simp; omega) (.cells #[.int .i64 W, .int .i64 H, .slice none 0 0] 55)
  have hblk : Blk (((w.alloc (.cells #[.int .i64 W, .int .i64 H, .slice ao n c] 51)).alloc (.cells #[.int .i64 0, .int .i64 0, .slice none 0 0] 55)).alloc (.cells #[.int .i64 W, .int .i64 H, .slice none 0 0] 55)) (w.heap.size + 1 + 1) 55 _ := blk_new _ _ _ _ (by simp)
  have hres : Blk (((w.alloc (.cells #[.int .i64 W, .int .i64 H, .slice ao n c] 51)).alloc (.cells #[.int .i64 0, .int .i64 0, .slice none 0 0] 55)).alloc (.cells #[.int .i64 W, .int .i64 H, .slice none 0 0] 55)) (w.heap.size + 1) 55 _ := (blk_new (w.alloc (.cells #[.int .i64 W, .int .i64 H, .slice ao n c] 51)) _ _ _ (by simp)).alloc _
  have HF := Lib.hid (ha.below hbel (Nat.le_refl _))
  have HR := Lib.hid hres
  have HB := Lib.hid hblk
  have HBel := Lib.hid hbel
  clear hblk hbel hres
  have hzl := ha.len
  unfold vwVal
  go_enter Try.func21, Try.ntmps21
  go_wp2_with fail
  refine (HT.out _ HF.out).mono ?_
  rintro e w1 ⟨rfl, f, b, s⟩
  have F1 := Lib.hid f
  have K1 := Lib.hid (below_next HBel.out b)
  have KB := Lib.hid (blk_next HB.out b)
  have S1 := Lib.hid s
  have KR := Lib.hid (blk_next HR.out b)
  have d0 := KB.out.cell 0
  have d1 := KB.out.cell 1
  have d2 := KB.out.cell 2
  have f2 := KB.out.frozen 2
  have r0 := KR.out.cell 0
  have r1 := KR.out.cell 1
  have r2 := KR.out.cell 2
  have g0 := KR.out.frozen 0
  have g1 := KR.out.frozen 1
  have g2 := KR.out.frozen 2
  clear f b s
  go_wp2
  have hset := (((KR.out.far (p := ⟨w.heap.size + 1 + 1, 2, none⟩) (by simp) (.slice (some ⟨w.heap.size + 1 + 1 + 1, 0, none⟩) n n)).set_ 0 (.int .i64 W)).set_ 1 (.int .i64 H)).set_ 2 (.slice (some ⟨w.heap.size + 1 + 1 + 1, 0, none⟩) n n)
  have e3 : (((w.alloc (.cells #[.int .i64 W, .int .i64 H, .slice ao n c] 51)).alloc (.cells #[.int .i64 0, .int .i64 0, .slice none 0 0] 55)).alloc (.cells #[.int .i64 W, .int .i64 H, .slice none 0 0] 55)).heap.size = w.heap.size + 1 + 1 + 1 := by simp
  have F2 := F1.out
  rw [e3] at F2
  have S2 := S1.out
  rw [e3] at S2
  have own4 : ∀ {xs : List Value} {W' : World} {u0 u1 u2 u3 : Value}, W'.ownsRow (w.heap.size + 1 + 1 + 1) 29 1 (.slice (some ⟨w.heap.size + 1 + 1 + 1, 0, none⟩) n n) n xs → ((((W'.setCell ⟨w.heap.size + 1 + 1, 2, none⟩ u0).setCell ⟨w.heap.size + 1, 0, none⟩ u1).setCell ⟨w.heap.size + 1, 1, none⟩ u2).setCell ⟨w.heap.size + 1, 2, none⟩ u3).ownsRow (w.heap.size + 1 + 1 + 1) 29 1 (.slice (some ⟨w.heap.size + 1 + 1 + 1, 0, none⟩) n n) n xs := fun h => ownsRow_setCell_other (ownsRow_setCell_other (ownsRow_setCell_other (ownsRow_setCell_other h (far3 (by omega)) _) (far3 (by omega)) _) (far3 (by omega)) _) (far3 (by omega)) _
  refine bodyPost_ret (v := .agg #[.int .i64 W, .int .i64 H, .slice (some ⟨w.heap.size + 1 + 1 + 1, 0, none⟩) n n]) (results_cell_row Try.results21 _ _ (w.heap.size + 1) 55 #[.int .i64 W, .int .i64 H, .slice (some ⟨w.heap.size + 1 + 1 + 1, 0, none⟩) n n] (0, 0) _ rfl hset Try.underlying55 rfl (by kernel_rfl)) rfl ⟨_, rfl, by omega, by simpa using S2, frow_own (own4 F2) (by simpa using hzl), vi_base (own4 F2) (by omega), ?_⟩
  exact (((K1.out.setCell (p := ⟨w.heap.size + 1 + 1, 2, none⟩) (by simp; omega) _).setCell (p := ⟨w.heap.size + 1, 0, none⟩) (by simp) _).setCell (p := ⟨w.heap.size + 1, 1, none⟩) (by simp) _).setCell (p := ⟨w.heap.size + 1, 2, none⟩) (by simp) _
set_option maxRecDepth 100000 in
set_option maxHeartbeats 1600000 in
theorem markFloat32S_any (base b n c : Nat) (xs : List Value) (w : World) (hn : n ≤ 1048576) (hx : xs.length = n) (hown : w.ownsRow base 29 1 (.slice (some ⟨b, 0, none⟩) n c) n xs) :
    Calls Try.prog 65 #[.slice (some ⟨b, 0, none⟩) n c, .int .i64 1] w fun e w' => e = .returned (.int .i64 ((1 + n : Nat) : Int)) ∧ But b w w' := by
  have HO := Lib.hid hown
  have HX := Lib.hid hx
  clear hown hx
  go_enter Try.func65, Try.ntmps65
  go_wp2
  go_loopw [1, 5] (fun kk i wr => ∃ (W : World) (j q : Nat) (ys : List Value), W = wr ∧ j ≤ n ∧ i = .int .i64 j ∧ kk = .int .i64 q ∧ Hid (q = 1 + j) ∧ q ≤ 1048577 ∧ Hid (ys.length = n) ∧ wr.ownsRow base 29 1 (.slice (some ⟨b, 0, none⟩) n c) n ys ∧ But b w wr) (fun _ i _ => n - (intOf i).toNat)
  case atStart => exact ⟨_, 0, 1, xs, rfl, Nat.zero_le _, rfl, rfl, rfl, by omega, HX.out, HO.out, But.refl _ _⟩
  case round =>
    clear HO
    obtain ⟨W, j, q, ys, rfl, hj, rfl, rfl, hq, hq2, hy, hown, hb⟩ := hrel
    by_cases hlt : j < n
    · have hst := (hown.stored j (.float .f32 (floatOfInt .f32 (q : Int)))).1
      have hfr := hown.frozenAt j
      have hcl := hown.cellAt j (by omega)
      rw [List.getElem?_eq_getElem (by rw [hy.out]; omega)] at hcl
      generalize ys[j]'_ = old at hcl
      have HS := Lib.hid hst
      have HB := Lib.hid (hb.setCell j (.float .f32 (floatOfInt .f32 (q : Int))))
      have HY := Lib.hid hy.out
      clear hst hown hb hy
      have hsf := run_store_float Try.prog
      go_wp2
      go_roundw
      case rel => exact ⟨_, j + 1, q + 1, _, rfl, by omega, by go_num, by go_num, by show q + 1 = _; rw [hq.out]; omega, by have := hq.out; omega, by show (ys.set j _).length = n; rw [List.length_set]; exact HY.out, HS.out, HB.out⟩
      case measure => simp [intOf]; omega
    · obtain rfl : j = n := by omega
      go_wp2
      go_ret
      exact ⟨by have h9 := hq.out; show Ending.returned (Value.int .i64 (q : Int)) = _; rw [h9], hb⟩
set_option maxRecDepth 100000 in
set_option maxHeartbeats 1600000 in
theorem markView_any (W H : Int) (base b n c : Nat) (xs : List Value) (w : World) (hn : n ≤ 1048576) (hx : xs.length = n) (hown : w.ownsRow base 29 1 (.slice (some ⟨b, 0, none⟩) n c) n xs) :
    Calls Try.prog 25 #[.agg #[.int .i64 W, .int .i64 H, .slice (some ⟨b, 0, none⟩) n c], .int .i64 1] w fun e w' => e = .returned (.int .i64 ((1 + n : Nat) : Int)) ∧ But b w w' := by
  have HM := Lib.hid (markFloat32S_any base b n c xs (w.alloc (.cells #[.int .i64 W, .int .i64 H, .slice (some ⟨b, 0, none⟩) n c] 55)) hn hx (hown.alloc _))
  have HB := Lib.hid ((Below.refl w.heap.size w).alloc (Nat.le_refl _) (.cells #[.int .i64 W, .int .i64 H, .slice (some ⟨b, 0, none⟩) n c] 55))
  have a2 := (blk_new w 55 #[.int .i64 W, .int .i64 H, .slice (some ⟨b, 0, none⟩) n c] _ rfl).cell 2
  clear hown hx
  go_enter Try.func25, Try.ntmps25
  go_wp2_with fail
  refine (HM.out).mono ?_
  rintro e w1 ⟨rfl, hb⟩
  go_wp2
  go_ret
  exact ⟨rfl, (But.of_below HB.out).trans hb⟩
end Go.Proofs.Ytkgijboahjiodaa
