/- Contracts on lists of 32-bit numbers: copied, compared, added. -/
import Derived.Test.YtkgijboahjiodaaBits
import Derived.Lib.Hide
import Derived.Deep.QuietTactic
import Derived.BigQuiet
import Derived.BigRegion
import Derived.Deep.RegionWith
import Derived.Laws.OwnMore
namespace Go.Proofs.Ytkgijboahjiodaa
open Go.RowKit Fl

/-- A slice value of n elements, whose cells hold the numbers zs. -/
structure FRow (w : World) (ao : Option Addr) (n : Nat) (zs : List Nat) : Prop where
  len : zs.length = n
  addr : 0 < n → ∃ a : Addr, ao = some a
  cell : ∀ a : Addr, ao = some a → ∀ i, i < n → w.cell? (a.add i) = some (.float .f32 (zs.getD i 0))

theorem FRow.quiet {w w' : World} {ao : Option Addr} {n : Nat} {zs : List Nat} (h : FRow w ao n zs) (hq : Quiet w w') : FRow w' ao n zs := by
  obtain ⟨m, rfl⟩ := hq
  exact ⟨h.len, h.addr, fun a ha i hi => h.cell a ha i hi⟩

theorem FRow.below {w w' : World} {ao : Option Addr} {n : Nat} {zs : List Nat} (h : FRow w ao n zs) {B : Nat} (hb : Below B w w') (hB : w.heap.size ≤ B) : FRow w' ao n zs :=
  ⟨h.len, h.addr, fun a ha i hi => by
    have hc := h.cell a ha i hi
    rw [hb.cell (p := a.add i) (Nat.lt_of_lt_of_le (World.block_lt_of_cell? w _ hc) hB)]; exact hc⟩

theorem Quiet.below {w w' : World} (h : Quiet w w') (B : Nat) : Below B w w' := by
  obtain ⟨n, rfl⟩ := h; exact below_drewN (Below.refl _ _) n
theorem Quiet.size {w w' : World} (h : Quiet w w') : w'.heap.size = w.heap.size := by obtain ⟨n, rfl⟩ := h; rfl

set_option maxHeartbeats 1600000 in
theorem eqFloat32S_same (ao bo : Option Addr) (n c c' : Nat) (zs : List Nat) (w : World) (ha : FRow w ao n zs) (hb : FRow w bo n zs) (hm : n ≤ 9223372036854775807) :
    Calls Try.prog 64 #[.slice ao n c, .slice bo n c'] w fun e w' => e = .returned (.bool true) ∧ Quiet w w' := by
  go_enter Try.func64, Try.ntmps64
  go_wp2
  go_loopw [5] (fun i w' => ∃ k : Nat, k ≤ n ∧ i = .int .i64 k ∧ Quiet w w') (fun i _ => n - (intOf i).toNat)
  case atStart => exact ⟨0, Nat.zero_le _, rfl, Quiet.refl _⟩
  case round =>
    obtain ⟨k, hk, rfl, hq⟩ := hrel
    by_cases hlt : k < n
    · obtain ⟨a, rfl⟩ := ha.addr (by omega)
      obtain ⟨b, rfl⟩ := hb.addr (by omega)
      have hx := (ha.quiet hq).cell a rfl k hlt
      have hy := (hb.quiet hq).cell b rfl k hlt
      generalize zs.getD k 0 = x at hx hy
      clear ha hb
      cases hn : nan32 x
      · have hc := fun w => run_convert_float_float (P := Try.prog) w 29 37 .f32 .f64 x (wide x) (by kernel_rfl) Try.underlying37 (wide_conv x hn)
        have hw := nan_wide x hn
        rename_i wr
        have hxn : ∀ m, (wr.drewN m).cell? (a.add k) = some (.float .f32 x) := fun m => hx
        have hyn : ∀ m, (wr.drewN m).cell? (b.add k) = some (.float .f32 x) := fun m => hy
        go_wp2
        go_quiet ((go_at_call 90; exact Calls.quiet_of_same ((sameFloat_self _ _ hw).mono (fun _ _ h => ⟨h.1, h.2.symm⟩))))
        go_wp2
        go_roundw
        case rel => exact ⟨k + 1, by omega, by go_num, hq.trans ⟨_, rfl⟩⟩
        case measure => simp [intOf]; omega
      · have hc := fun w => run_widen_nan (P := Try.prog) 29 37 x w (by kernel_rfl) Try.underlying37 hn
        go_wp2
        go_region_with (go_at_call 90; refine (sameFloat_nan _ _ _ (nanc64_nan _ _) (nanc64_nan _ _)).mono ?_; rintro e w' ⟨rfl, rfl⟩)
        all_goals
          go_wp2
          go_roundw
          case rel => exact ⟨k + 1, by omega, by go_num, hq.trans ⟨3, rfl⟩⟩
          case measure => simp [intOf]; omega
    · go_wp2
      go_ret
      exact ⟨rfl, hq⟩
theorem fcells_len (zs : List Nat) : (zs.map (Value.float .f32)).length = zs.length := by simp

/-- what has been copied after k rounds -/
def fcop (zs : List Nat) (n k : Nat) : List Value := (zs.take k).map (Value.float .f32) ++ List.replicate (n - k) (.float .f32 0)
theorem fcop_zero (zs : List Nat) (n : Nat) : fcop zs n 0 = List.replicate n (.float .f32 0) := by simp [fcop]
theorem fcop_all (zs : List Nat) (n : Nat) (h : zs.length = n) : fcop zs n n = zs.map (Value.float .f32) := by
  simp [fcop, ← h]
theorem fcop_succ (zs : List Nat) (n k : Nat) (h : zs.length = n) (hk : k < n) : (fcop zs n k).set k (.float .f32 (zs.getD k 0)) = fcop zs n (k + 1) := by
  unfold fcop
  have h1 : ((zs.take k).map (Value.float .f32)).length = k := by simp; omega
  have h2 : n - k = (n - (k + 1)) + 1 := by omega
  rw [h2, List.replicate_succ, List.set_append_right _ _ (by omega), h1, Nat.sub_self, List.set_cons_zero]
  rw [List.take_succ_eq_append_getElem (by omega), List.map_append, List.append_assoc]
  congr 1
  simp [List.getD, List.getElem?_eq_getElem (show k < zs.length by omega)]

theorem run_store_float (P : Program) (w : World) (a : Addr) (k : FloatKind) (b : Nat) (m : Mode) : (store a (.float k b) m).run P w = stored P w a (.float k b) m := run_store P w a _ m rfl

theorem made_f32 (n : Nat) : (madeCells (Value.float .f32 0).cells (n * 1)).toList = List.replicate n (.float .f32 0) := by
  rw [Nat.mul_one]
  simp only [madeCells, Value.cells]
  apply List.ext_getElem
  · simp
  · intro i h1 h2
    simp [Nat.mod_one]

theorem f32info : (Try.prog.info? 29).map (fun i => (i.zero, i.size, i.bytes)) = some (some (.float .f32 0), 1, 4) := by kernel_rfl

set_option maxHeartbeats 1600000 in
theorem toFloat32S_any (ao : Option Addr) (n c : Nat) (zs : List Nat) (w : World) (ha : FRow w ao n zs) (hm : n * 4 ≤ 140737488351232) :
    Calls Try.prog 59 #[.slice ao n c] w fun e w' => e = .returned (.slice (some ⟨w.heap.size, 0, none⟩) n n) ∧ FRow w' (some ⟨w.heap.size, 0, none⟩) n zs ∧ Below w.heap.size w w' ∧ w.heap.size < w'.heap.size := by
  obtain ⟨i0, hi, hz0, hz1, hz2⟩ := info_parts f32info
  have hn : zs.length = n := ha.len
  have hm' : n ≤ 9223372036854775807 := by omega
  have hs0 : w.heap.size ≤ w.heap.size := Nat.le_refl _
  go_enter Try.func59, Try.ntmps59
  go_wp2_with (at_make; go_loud (refine wpList_make_full _ rfl _ _ 49 rfl w.heap.size 29 i0 (.float .f32 0) 1 Try.underlying49 hi hz0 hz1 .i64 .i64 _ _ n rfl rfl rfl rfl (by rw [hz2]; omega) (by unfold maxLen; omega) (Nat.le_refl _) ?_); intro w1 hown hgrow)
  have hb1 : Below w.heap.size w w1 := (Below.refl _ _).grown hgrow (Nat.le_refl _) (by simp)
  have hsz1 : w.heap.size < w1.heap.size := by
    rcases hown.2 with ⟨h', _⟩ | ⟨g', cap', cur, h', _, hg, _⟩
    · simp at h'
    · simp only [Value.slice.injEq, Option.some.injEq, Addr.mk.injEq, and_true, true_and] at h'
      obtain ⟨rfl, rfl⟩ := h'
      exact (Array.getElem?_eq_some_iff.1 hg).1
  go_loopw [4] (fun i wr => ∃ k : Nat, k ≤ n ∧ i = .int .i64 k ∧ wr.ownsRow w.heap.size 29 1 (.slice (some ⟨w.heap.size, 0, none⟩) n n) n (fcop zs n k) ∧ Below w.heap.size w wr ∧ w1.heap.size ≤ wr.heap.size) (fun i _ => n - (intOf i).toNat)
  case atStart => exact ⟨0, Nat.zero_le _, rfl, by rw [fcop_zero, ← made_f32]; exact hown, hb1, Nat.le_refl _⟩
  case round =>
    obtain ⟨k, hk, rfl, hownk, hbk, hszk⟩ := hrel
    clear hown hgrow
    by_cases hlt' : k < n
    · obtain ⟨a, rfl⟩ := ha.addr (by omega)
      have hx := (ha.below hbk (Nat.le_refl _)).cell a rfl k hlt'
      have hst := hownk.stored k (.float .f32 (zs.getD k 0))
      rw [fcop_succ zs n k hn hlt'] at hst
      have hfr := hownk.frozenAt k
      have hcl := hownk.cellAt k (by omega)
      rw [List.getElem?_eq_getElem (by rw [hownk.1]; omega)] at hcl
      generalize (fcop zs n k)[k]'_ = old at hcl
      generalize zs.getD k 0 = x at hx hst
      obtain ⟨hst1, hst2⟩ := hst
      have hst1' := Lib.hid hst1
      have hst2' := Lib.hid hst2
      have hown' := Lib.hid hownk
      clear hst1 hst2 hownk ha
      have hsf := run_store_float Try.prog
      have hbk' := Lib.hid (hbk.setCell (p := ⟨w.heap.size, k, none⟩) (Nat.le_refl _) (.float .f32 x))
      clear hbk
      go_wp2
      go_roundw
      case rel => exact ⟨k + 1, by omega, by go_num, hst1'.out, hbk'.out, by simpa using hszk⟩
      case measure => simp [intOf]; omega
    · obtain rfl : k = n := by omega
      go_wp2
      go_ret
      rw [fcop_all zs k hn] at hownk
      refine ⟨rfl, ⟨hn, fun _ => ⟨_, rfl⟩, fun a ha' i hi' => ?_⟩, hbk, by omega⟩
      obtain rfl := Option.some.inj ha'
      have := hownk.cellAt i (by omega)
      rw [show (⟨w.heap.size, 0, none⟩ : Addr).add i = ⟨w.heap.size, i, none⟩ by unfold Addr.add; split <;> simp_all]
      rw [this, List.getElem?_map, List.getElem?_eq_getElem (by omega)]
      simp [List.getD, List.getElem?_eq_getElem (show i < zs.length by omega)]

end Go.Proofs.Ytkgijboahjiodaa
