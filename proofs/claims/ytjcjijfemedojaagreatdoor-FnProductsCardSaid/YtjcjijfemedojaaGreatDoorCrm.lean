/- Lists of complex numbers that are given: compared, marked and found again by the law. -/
import Derived.Test.YtjcjijfemedojaaGreatDoorCrs
import Derived.Test.YtjcjijfemedojaaGreatDoorPhw
namespace Go.Proofs.YtjcjijfemedojaaGreatDoor
open Go.RowKit Fl

/-- A slice value of n elements, whose cells hold the complex numbers zs. -/
structure CRow (w : World) (ao : Option Addr) (n : Nat) (zs : List (Nat × Nat)) : Prop where
  len : zs.length = n
  addr : 0 < n → ∃ a : Addr, ao = some a
  cell : ∀ a : Addr, ao = some a → ∀ i, i < n → w.cell? (a.add i) = some (.complex .f32 (zs.getD i (0, 0)).1 (zs.getD i (0, 0)).2)
theorem CRow.quiet {w w' : World} {ao : Option Addr} {n : Nat} {zs : List (Nat × Nat)} (h : CRow w ao n zs) (hq : Quiet w w') : CRow w' ao n zs := by
  obtain ⟨m, rfl⟩ := hq
  exact ⟨h.len, h.addr, fun a ha i hi => h.cell a ha i hi⟩
theorem CRow.below {w w' : World} {ao : Option Addr} {n : Nat} {zs : List (Nat × Nat)} (h : CRow w ao n zs) {B : Nat} (hb : Below B w w') (hB : w.heap.size ≤ B) : CRow w' ao n zs :=
  ⟨h.len, h.addr, fun a ha i hi => by
    have hc := h.cell a ha i hi
    rw [hb.cell (p := a.add i) (Nat.lt_of_lt_of_le (World.block_lt_of_cell? w _ hc) hB)]; exact hc⟩
theorem CRow.keep {w w' : World} {ao : Option Addr} {n B : Nat} {zs : List (Nat × Nat)} (h : CRow w ao n zs) (hb : Below B w w') (hB : ∀ a, ao = some a → a.block < B) : CRow w' ao n zs :=
  ⟨h.len, h.addr, fun a ha i hi => by
    have hc := h.cell a ha i hi
    rw [hb.cell (p := a.add i) (by have := hB a ha; unfold Addr.add; split <;> exact this)]; exact hc⟩
theorem crow_own {w : World} {base n : Nat} {v : Value} {zs : List (Nat × Nat)} (h : w.ownsRow base 24 1 v n (zs.map cval)) :
    ∃ (ao : Option Addr) (c : Nat), v = .slice ao n c ∧ CRow w ao n zs ∧ (∀ a, ao = some a → base ≤ a.block ∧ a.block < w.heap.size) := by
  obtain ⟨h1, h2⟩ := h
  have hl : zs.length = n := by simpa using h1
  rcases h2 with ⟨rfl, rfl⟩ | ⟨g, cap, cur, rfl, hb, hh, _, _, hs, ht⟩
  · exact ⟨none, 0, rfl, ⟨hl, fun h => by omega, fun a ha => by cases ha⟩, fun a ha => by cases ha⟩
  · refine ⟨_, _, rfl, ⟨hl, fun _ => ⟨_, rfl⟩, fun a ha i hi => ?_⟩, fun a ha => ?_⟩
    · obtain rfl := Option.some.inj ha
      rw [show (⟨g, 0, none⟩ : Addr).add i = ⟨g, i, none⟩ by unfold Addr.add; split <;> simp_all]
      have h3 : (cur.toList.take (n * 1))[i]? = some (cval (zs.getD i (0, 0))) := by rw [ht]; simp [List.getD, List.getElem?_eq_getElem (show i < zs.length by omega)]
      rw [List.getElem?_take, if_pos (by omega)] at h3
      rw [cell_of_row w g i cur 24 (0, 0) hh]
      simpa [cval] using h3
    · obtain rfl := Option.some.inj ha
      exact ⟨hb, (Array.getElem?_eq_some_iff.1 hh).1⟩

theorem run_f2f_num {P : Program} (a : Nat) (w : World) (h : nan32 a = false) : (Conv.floatToFloat .f32 a .f64).run P w = .ok (.float .f64 (wide a)) w := run_floatToFloat w (wide_conv a h)
theorem run_f2f_nan {P : Program} (a : Nat) (w : World) (ha : nan32 a = true) : (Conv.floatToFloat .f32 a .f64).run P w = .ok (.float .f64 (nanc .f64 a w)) w.drew := by
  obtain ⟨s, t, h⟩ := nan_datum (f := Ieee.single) ha
  have g : FloatKind.f32.decode a = .nan s t := h
  simp [Conv.floatToFloat, g, Question.forced, nanc]
theorem run_cwiden_left {P : Program} (src dst : TypeId) (a b : Nat) (w : World) (hs : (P.underlying src).isSome = true) (hd : P.underlying dst = some (.complex .f64)) (ha : nan32 a = true) (hb : nan32 b = false) :
    (convert src dst (.complex .f32 a b)).run P w = .ok (.complex .f64 (nanc .f64 a w) (wide b)) w.drew := by
  obtain ⟨u, hs'⟩ := Option.isSome_iff_exists.1 hs
  cases u <;> simp [convert, run_underlying hs', run_underlying hd, Conv.complexToComplex, run_f2f_nan a _ ha, run_f2f_num b _ hb]
theorem run_cwiden_right {P : Program} (src dst : TypeId) (a b : Nat) (w : World) (hs : (P.underlying src).isSome = true) (hd : P.underlying dst = some (.complex .f64)) (ha : nan32 a = false) (hb : nan32 b = true) :
    (convert src dst (.complex .f32 a b)).run P w = .ok (.complex .f64 (wide a) (nanc .f64 b w)) w.drew := by
  obtain ⟨u, hs'⟩ := Option.isSome_iff_exists.1 hs
  cases u <;> simp [convert, run_underlying hs', run_underlying hd, Conv.complexToComplex, run_f2f_num a _ ha, run_f2f_nan b _ hb]


theorem narrow_small5 : ∀ k : Fin 512, floatToFloatBits .f64 (floatOfInt .f64 k.val) .f32 = some (floatOfInt .f32 k.val) := by decide +kernel
theorem mark_conv5 (k : Nat) (h : k < 512) (w : World) : (convert 45 24 (.complex .f64 (floatOfInt .f64 k) 4607182418800017408)).run Tryz.prog w = .ok (.complex .f32 (floatOfInt .f32 k) 1065353216) w :=
  run_convert_complex w 45 24 .f64 .f32 _ _ _ _ (by kernel_rfl) Tryz.underlying24 (by
    have h1 := narrow_small5 ⟨k, h⟩
    have h2 : floatToFloatBits .f64 4607182418800017408 .f32 = some 1065353216 := by decide +kernel
    simp only [cConvBits]
    rw [h1, h2]; rfl)
theorem small_num5 : ∀ k : Fin 512, nan32 (floatOfInt .f32 k.val) = false := by decide +kernel
theorem small_ord5 (k : Nat) (h : k < 512) : FloatKind.f32.format.order (floatOfInt .f32 k) (floatOfInt .f32 k) = some .eq := by
  have := small_num5 ⟨k, h⟩
  rw [ord32, this]; rfl
/-- the mark number k -/
def mkv (k : Nat) : Nat × Nat := (floatOfInt .f32 ((1 + k : Nat) : Int), 1065353216)
/-- the first k numbers marked -/
def mkc (zs : List (Nat × Nat)) (k : Nat) : List (Nat × Nat) := (List.range k).map mkv ++ zs.drop k
theorem mkc_len (zs : List (Nat × Nat)) (k : Nat) (h : k ≤ zs.length) : (mkc zs k).length = zs.length := by simp [mkc]; omega
theorem mkc_set (zs : List (Nat × Nat)) (k : Nat) (h : k < zs.length) : ((mkc zs k).map cval).set k (cval (mkv k)) = (mkc zs (k + 1)).map cval := by
  have e : (zs.drop k).map cval = cval zs[k] :: (zs.drop (k + 1)).map cval := by rw [List.drop_eq_getElem_cons h]; rfl
  unfold mkc
  rw [List.map_append, e, List.set_append_right _ _ (by simp), List.length_map, List.length_map, List.length_range, Nat.sub_self, List.set_cons_zero, List.range_succ, List.map_append, List.map_append, List.map_append, List.append_assoc]
  rfl
theorem mkc_get (zs : List (Nat × Nat)) (n : Nat) (j : Nat) (hj : j < n) : (mkc zs n).getD j (0, 0) = mkv j := by
  unfold mkc
  rw [List.getD_eq_getElem?_getD, List.getElem?_append_left (by simp; exact hj), List.getElem?_map, List.getElem?_range hj]
  rfl
theorem run_store_cx (P : Program) (w : World) (a : Addr) (k : FloatKind) (x y : Nat) (m : Mode) : (store a (.complex k x y) m).run P w = stored P w a (.complex k x y) m := run_store P w a _ m rfl

end Go.Proofs.YtjcjijfemedojaaGreatDoor
