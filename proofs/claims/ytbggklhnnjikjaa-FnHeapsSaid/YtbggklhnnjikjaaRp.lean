/- A place in quarters that two bytes choose. -/
import Derived.Test.YtbggklhnnjikjaaRh
namespace Go.Proofs.Ytbggklhnnjikjaa
open Go.RowKit Fl

/-- the byte at a place of a slice, if there is one -/
def ByteAt (w : World) (ao : Option Addr) (n i : Nat) (o : Option Nat) : Prop := (i < n → ∃ (a : Addr) (v : Nat), ao = some a ∧ v < 256 ∧ w.cell? (a.add i) = some (.int .u8 v) ∧ o = some v) ∧ (n ≤ i → o = none)
theorem ByteAt.of_row {w : World} {ao : Option Addr} {n : Nat} (h : BRow w ao n) (i : Nat) : ∃ o, ByteAt w ao n i o := by
  by_cases hi : i < n
  · obtain ⟨a, rfl⟩ := h.addr (by omega)
    obtain ⟨v, hv, hc⟩ := h.cell a rfl i hi
    exact ⟨some v, fun _ => ⟨a, v, rfl, hv, hc, rfl⟩, fun h => by omega⟩
  · exact ⟨none, fun h => by omega, fun _ => rfl⟩
theorem ByteAt.next {w w' : World} {ao : Option Addr} {n i : Nat} {o : Option Nat} (h : ByteAt w ao n i o) (hb : Below w.heap.size w w') : ByteAt w' ao n i o :=
  ⟨fun hi => by
    obtain ⟨a, v, h1, hv, h2, h3⟩ := h.1 hi
    exact ⟨a, v, h1, hv, by rw [hb.cell (p := a.add i) (World.block_lt_of_cell? w _ h2)]; exact h2, h3⟩, h.2⟩
/-- the number that a byte chooses, or d -/
def placeW (o : Option Nat) (d : Nat) : Nat := match o with
  | some v => (floatBits .quo .f32 (floatOfInt .f32 ((v : Int) % 33 - 16)) 1082130432).getD 0
  | none => d
theorem emod33 (v : Nat) : 0 ≤ (v : Int) % 33 ∧ (v : Int) % 33 < 33 := by omega
theorem placeW_exa (o : Option Nat) (d : Nat) (q : Int) (hd : Exa Ieee.single (-2) d q) (hq : -16 ≤ q ∧ q ≤ 16) : ∃ a : Int, Exa Ieee.single (-2) (placeW o d) a ∧ -16 ≤ a ∧ a ≤ 16 := by
  cases o with
  | none => exact ⟨q, hd, hq⟩
  | some v =>
    have hm := emod33 v
    obtain ⟨r, h1, h2⟩ := quo4 ((v : Int) % 33 - 16) (by omega)
    refine ⟨(v : Int) % 33 - 16, ?_, by omega, by omega⟩
    show Exa _ _ ((floatBits .quo .f32 (floatOfInt .f32 ((v : Int) % 33 - 16)) 1082130432).getD 0) _
    rw [h1]; exact h2
theorem exa_one4 : Exa Ieee.single (-2) 1065353216 4 := ⟨fun _ => by decide +kernel, fun h => by cases h⟩
theorem exa_half4 : Exa Ieee.single (-2) 3204448256 (-2) := ⟨fun _ => by decide +kernel, fun h => by cases h⟩
structure RpInv (w wr : World) (x y : Nat) : Prop where
  blk : Blk wr w.heap.size 35 #[.float .f32 x, .float .f32 y]
  below : Below w.heap.size w wr
set_option maxHeartbeats 1600000 in
theorem r8Place_of (ao : Option Addr) (n c at_ : Nat) (o0 o1 : Option Nat) (w : World) (hn : n ≤ 48) (hat : at_ ≤ 40) (hb0 : ByteAt w ao n at_ o0) (hb1 : ByteAt w ao n (at_ + 1) o1) :
    Calls Try.prog 13 #[.slice ao n c, .int .i64 at_] w fun e w' => e = .returned (.complex .f32 (placeW o0 1065353216) (placeW o1 3204448256)) ∧ Below w.heap.size w w' := by
  have H0 := Lib.hid hb0
  have H1 := Lib.hid hb1
  have hsf := run_store_float' Try.prog
  generalize hX : placeW o0 1065353216 = X
  generalize hY : placeW o1 3204448256 = Y
  have HX := Lib.hid hX
  have HY := Lib.hid hY
  clear hb0 hb1 hX hY
  go_enter Try.func13, Try.ntmps13
  go_wp2
  go_loopw [6] (fun i wr => ∃ (W : World) (k x y : Nat), W = wr ∧ k ≤ 2 ∧ i = .int .i64 k ∧ Hid (x = if 0 < k then X else 1065353216) ∧ Hid (y = if 1 < k then Y else 3204448256) ∧ RpInv w wr x y) (fun i _ => 2 - (intOf i).toNat)
  case atStart => exact ⟨_, 0, _, _, rfl, by omega, rfl, rfl, rfl, blk_new w _ _ _ rfl, (Below.refl _ _).alloc (Nat.le_refl _) _⟩
  case round =>
    obtain ⟨W, k, x, y, rfl, hk, rfl, hx, hy, hI⟩ := hrel
    have HI := Lib.hid hI
    have c0 := hI.blk.cell 0
    have c1 := hI.blk.cell 1
    clear hI
    by_cases h2 : k < 2
    · obtain ⟨o, ho⟩ : ∃ o, o = if k = 0 then o0 else o1 := ⟨_, rfl⟩
      have HB : ByteAt W ao n (at_ + k) o := by
        have hcases : k = 0 ∨ k = 1 := by omega
        rcases hcases with rfl | rfl
        · rw [ho]; exact H0.out.next HI.out.below
        · rw [ho]; exact H1.out.next HI.out.below
      have HO := Lib.hid ho
      clear ho
      by_cases hlt : at_ + k < n
      · obtain ⟨ad, v, rfl, hv, hc, hov⟩ := HB.1 hlt
        have hm := emod33 v
        obtain ⟨r, hq, _⟩ := quo4 ((v : Int) % 33 - 16) (by omega)
        have e3 := fun w => run_float_arith (P := Try.prog) w .quo 35 .f32 _ _ _ hq
        have HPW : Hid (∀ d, placeW o d = r) := by
          intro d
          rw [hov]
          show (floatBits .quo .f32 (floatOfInt .f32 ((v : Int) % 33 - 16)) 1082130432).getD 0 = r
          rw [hq]; rfl
        obtain ⟨z, hz⟩ : ∃ z, W.cell? ⟨w.heap.size, k, none⟩ = some (.float .f32 z) := by
          have hcases : k = 0 ∨ k = 1 := by omega
          rcases hcases with rfl | rfl
          · exact ⟨x, c0⟩
          · exact ⟨y, c1⟩
        have fz := HI.out.blk.frozen k
        clear hq c0 c1 hov HB
        go_wp2
        go_roundw
        case rel =>
          have hcases : k = 0 ∨ k = 1 := by omega
          rcases hcases with rfl | rfl
          · refine ⟨_, 1, r, y, rfl, by omega, by go_num, ?_, ?_, HI.out.blk.set_ 0 _, HI.out.below.setCell (Nat.le_refl _) _⟩
            · show r = _
              rw [if_pos (by omega), ← HX.out, ← HPW.out 1065353216, HO.out, if_pos rfl]
            · exact hy
          · refine ⟨_, 2, x, r, rfl, by omega, by go_num, ?_, ?_, HI.out.blk.set_ 1 _, HI.out.below.setCell (Nat.le_refl _) _⟩
            · exact hx
            · show r = _
              rw [if_pos (by omega), ← HY.out, ← HPW.out 3204448256, HO.out, if_neg (by omega)]
        case measure => simp [intOf]; omega
      · have hon := HB.2 (by omega)
        have HON := Lib.hid hon
        clear hon HB
        go_wp2
        go_roundw
        case rel =>
          have hcases : k = 0 ∨ k = 1 := by omega
          rcases hcases with rfl | rfl
          · refine ⟨_, 1, x, y, rfl, by omega, by go_num, ?_, hy, HI.out⟩
            have h3 := HO.out
            rw [if_pos rfl, HON.out] at h3
            show x = _
            rw [if_pos (by omega), ← HX.out, ← h3]
            exact hx.out
          · refine ⟨_, 2, x, y, rfl, by omega, by go_num, hx, ?_, HI.out⟩
            have h3 := HO.out
            rw [if_neg (by omega), HON.out] at h3
            show y = _
            rw [if_pos (by omega), ← HY.out, ← h3]
            exact hy.out
        case measure => simp [intOf]; omega
    · obtain rfl : k = 2 := by omega
      have h5 : x = X := hx.out
      have h6 : y = Y := hy.out
      subst h5 h6
      clear hx hy
      go_wp2
      go_quiet (fail)
      go_wp2
      go_ret
      exact ⟨rfl, below_drewN HI.out.below _⟩
end Go.Proofs.Ytbggklhnnjikjaa
