/- The box of walls from -4-4i to 4+4i: BoxOfWalls, and the given side's l04Box. -/
import Derived.Test.YtljcgfgkfkoeeaaWb
import Derived.Test.YtljcgfgkfkoeeaaPiw
import Derived.Deep.RegionHeld3
import Derived.StillTailTactics
namespace Go.Proofs.Ytljcgfgkfkoeeaa
open Go.RowKit Fl

theorem below_aftrD {w wr w1 : World} {o : Obj} {e : TypeId} {v : Value} {size n : Nat} {xs : List Value} (h : Below w.heap.size w wr) (hO : wr.ownsRow w.heap.size e size v n xs) (hg : ((wr.alloc o).drew).grownBy w1 v.ownBlock) : Below w.heap.size w w1 := by
  refine grown_below (show Below w.heap.size w ((wr.alloc o).drew) from below_drewN (h.alloc h.size o) 1) hg ?_
  intro k hk
  rcases hO.2 with ⟨hv, _⟩ | ⟨g, cap, cur, hv, hb, _⟩
  · rw [hv] at hk; simp [Value.ownBlock] at hk
  · rw [hv] at hk; simp [Value.ownBlock] at hk; omega
theorem neWC : 62 ≠ 38 := by decide
set_option maxRecDepth 100000 in
set_option maxHeartbeats 3200000 in
theorem l04Around_box (cb : Nat) (w : World) (h : ∀ j, j < 4 → w.cell? ⟨cb, j, none⟩ = some (cor j)) :
    Calls Try.prog 23 #[.slice (some ⟨cb, 0, none⟩) 4 4] w fun e w' => ∃ b c, e = .returned (.slice (some ⟨b, 0, none⟩) 4 c) ∧
      w'.ownsRow w.heap.size 62 3 (.slice (some ⟨b, 0, none⟩) 4 c) 4 (wcells boxW) ∧ Below w.heap.size w w' := by
  obtain ⟨i0, hi, hz0, hz1, hz2⟩ := info_parts winfo
  have hcb : cb < w.heap.size := World.block_lt_of_cell? w _ (h 0 (by decide))
  have HH := Lib.hid h
  have HCb := Lib.hid hcb
  clear h hcb
  go_enter Try.func23, Try.ntmps23
  go_wp2
  go_loopw [3, 4] (fun out i wr => ∃ (k bk ck : Nat), k ≤ 4 ∧ i = .int .i64 k ∧ out = .slice (some ⟨bk, 0, none⟩) k ck ∧
      wr.ownsRow w.heap.size 62 3 (.slice (some ⟨bk, 0, none⟩) k ck) k (wcells (boxW.take k)) ∧ Below w.heap.size w wr) (fun _ i _ => 4 - (intOf i).toNat)
  case atStart => exact ⟨0, _, _, by decide, rfl, rfl, own_nil3 w 62 w.heap.size (Nat.le_refl _), (Below.refl _ _).alloc (Nat.le_refl _) _⟩
  case round =>
    obtain ⟨k, bk, ck, hk, rfl, rfl, hown, hbel⟩ := hrel
    by_cases hlt : k < 4
    · have hc : ∀ j, j < 4 → wr.cell? ⟨cb, j, none⟩ = some (cor j) := fun j hj => (hbel.cell (p := ⟨cb, j, none⟩) HCb.out).trans (HH.out j hj)
      have k0 := hc k hlt
      have k1 := hc ((k + 1) % 4) (Nat.mod_lt _ (by decide))
      have HO := Lib.hid hown
      have HL := Lib.hid hbel
      have hsz := hbel.size
      clear hown hbel hc
      unfold cor at k0 k1
      have hbx := Lib.hid (show boxAt k = ⟨(cw k).1, (cw k).2, (cw ((k + 1) % 4)).1, (cw ((k + 1) % 4)).2, 0, 0⟩ from rfl)
      generalize (cw k).1 = a at k0 hbx
      generalize (cw k).2 = b at k0 hbx
      generalize (cw ((k + 1) % 4)).1 = a' at k1 hbx
      generalize (cw ((k + 1) % 4)).2 = b' at k1 hbx
      obtain ⟨q, hq, hq4⟩ : ∃ q, q = (k + 1) % 4 ∧ q < 4 := ⟨_, rfl, by omega⟩
      rw [← hq] at k1
      have hmod : ((k : Int) + 1) % 4 = (q : Int) := by omega
      have hq0 : (0 : Int) ≤ (q : Int) := by omega
      have hq1 : (q : Int) < 4 := by omega
      have hq2 : (q : Int) ≤ 4 := by omega
      have htm : ((k : Int) + 1).tmod 4 = (q : Int) := by rw [Int.tmod_eq_emod_of_nonneg (by omega)]; exact hmod
      have hwr : IntKind.i64.wrap ((k : Int) + 1) = (k : Int) + 1 := by rw [IntWalk.i64_in _ (by omega)]
      clear hq
      go_wp2
      go_region_held3 (fun w' => w'.cell? ⟨cb, k, none⟩ = some (.complex .f32 a b) ∧ w'.cell? ⟨cb, q, none⟩ = some (.complex .f32 a' b')) (first | exact ⟨k0, k1⟩ | exact ⟨z0, z1⟩ | go_keep) ((rw [if_pos (by rfl)]; refine wp_append_own _ _ _ 28 rfl w.heap.size 62 i0 _ 3 24 Try.underlying28 hi hz0 hz1 hz2 rfl (by decide) (.slice (some ⟨bk, 0, none⟩) k ck) k _ rfl (HO.out.alloc _) ⟨wr.heap.size, 0, none⟩ 1 1 (⟨a, b, a', b', 0, 0⟩ : Wl).cells rfl rfl (wl_new wr _ ⟨a, b, a', b', 0, 0⟩ _ rfl) (wl_one _) (by unfold maxLen; omega) (by omega) (by simp; omega) ?_; intro v' w1 hown' hgrow hnil; obtain ⟨b1, c1, rfl, hb1, -⟩ := own_form3 hown' (by omega); have hBl := Lib.hid (below_aftrD HL.out HO.out hgrow); have HOwn := Lib.hid hown'; have z0 := (hBl.out.cell (p := ⟨cb, k, none⟩) HCb.out).trans ((HL.out.cell (p := ⟨cb, k, none⟩) HCb.out).symm.trans k0); have z1 := (hBl.out.cell (p := ⟨cb, q, none⟩) HCb.out).trans ((HL.out.cell (p := ⟨cb, q, none⟩) HCb.out).symm.trans k1); clear hown' hgrow hnil))
      go_wp2
      go_roundw
      case rel =>
        refine ⟨k + 1, b1, c1, by omega, by go_num, rfl, ?_, hBl.out⟩
        have e : boxW.take k ++ [boxAt k] = boxW.take (k + 1) := by
          match k, hlt with
          | 0, _ => rfl
          | 1, _ => rfl
          | 2, _ => rfl
          | 3, _ => rfl
        rw [← e, wcells_snoc, hbx.out]
        exact HOwn.out
      case measure => simp [intOf]; omega
    · obtain rfl : k = 4 := by omega
      have HO := Lib.hid hown
      have HL := Lib.hid hbel
      clear hown hbel
      go_wp2
      go_ret
      exact ⟨bk, ck, rfl, HO.out, HL.out⟩
set_option maxHeartbeats 800000 in
theorem l04Box_of (w : World) :
    Calls Try.prog 10 #[.complex .f32 3229614080 3229614080, .complex .f32 1082130432 1082130432] w fun e w' => ∃ b c, e = .returned (.slice (some ⟨b, 0, none⟩) 4 c) ∧
      w'.ownsRow w.heap.size 62 3 (.slice (some ⟨b, 0, none⟩) 4 c) 4 (wcells boxW) ∧ Below w.heap.size w w' := by
  have HC := Lib.hid (l04Around_box w.heap.size _ (cor_lit w 38 _ rfl))
  have HB := Lib.hid ((Below.refl w.heap.size w).alloc (Nat.le_refl _) (.cells #[.complex .f32 3229614080 3229614080, .complex .f32 1082130432 3229614080, .complex .f32 1082130432 1082130432, .complex .f32 3229614080 1082130432] 38))
  go_enter Try.func10, Try.ntmps10
  go_wp2_with (go_at_call 23; ((with_reducible refine (HC.out).mono ?_); rintro e w1 ⟨b, c, rfl, ho, hb1⟩; have HO := Lib.hid ho; have H1 := Lib.hid hb1; clear ho hb1))
  go_ret
  exact ⟨b, c, rfl, own_from HO.out (by simp), below_next HB.out H1.out⟩
end Go.Proofs.Ytljcgfgkfkoeeaa
