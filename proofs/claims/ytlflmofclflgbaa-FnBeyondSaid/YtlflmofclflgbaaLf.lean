/- The lowest grain that is not held. -/
import Derived.Test.YtlflmofclflgbaaDb
namespace Go.Proofs.Ytlflmofclflgbaa
open Go.RowKit Fl

/-- the lowest one of the first k grains, where none is held -/
def LfInv (is : List GrI) (k : Nat) (lo le : Value) : Prop := (k = 0 ∧ lo = .int .i64 (-1) ∧ le = .float .f32 0) ∨
  ∃ (j y : Nat) (v : Int), j < k ∧ lo = .int .i64 (j : Int) ∧ le = .float .f32 y ∧ Exa Ieee.single (-2) y v ∧ (-100 ≤ v ∧ v ≤ 100) ∧ ∀ q, q < k → v ≤ (is.getD q default).y - (is.getD q default).r
def LowQ (is : List GrI) (n : Nat) (w : World) (e : Ending) (w' : World) : Prop := ∃ (j y : Nat) (v : Int), j < n ∧ Exa Ieee.single (-2) y v ∧ (-100 ≤ v ∧ v ≤ 100) ∧ (∀ q, q < n → v ≤ (is.getD q default).y - (is.getD q default).r) ∧ e = .returned (.tuple #[.int .i64 (j : Int), .float .f32 y, .bool true]) ∧ Below w.heap.size w w'
theorem cmp_lt' (a b : Int) : (some (compare a b) == some Ordering.lt) = decide (a < b) := by
  simp only [compare, compareOfLessAndEq]
  by_cases h : a < b
  · simp [h]
  · by_cases h2 : a = b
    · simp [h2]
    · simp [h, h2]
set_option maxRecDepth 100000 in
set_option maxHeartbeats 3200000 in
theorem lowestFree_of (ao : Option Addr) (n c : Nat) (gs : List Gr) (is : List GrI) (w : World) (hr : HRow w ao n gs) (h1 : 1 ≤ n) (hn : n ≤ 24) (hq : GrsQ gs is) (hf : ∀ g ∈ gs, g.h = false) :
    Calls Try.prog 63 #[.agg #[.slice ao n c]] w (LowQ is n w) := by
  have hVH := fun w (h : HRow w ao n gs) => validHeap_row ao n c gs w h hn
  rw [hq.valid] at hVH
  have HVH := Lib.hid hVH
  have HR := Lib.hid hr
  have HQ := Lib.hid hq
  have HF := Lib.hid hf
  have hbel := (Below.refl w.heap.size w).alloc (Nat.le_refl _) (.cells #[.slice ao n c] 26)
  have hB0 : Blk (w.alloc (.cells #[.slice ao n c] 26)) w.heap.size 26 _ := blk_new w _ _ _ rfl
  have HR0 := Lib.hid (hr.below hbel (Nat.le_refl _))
  have HBel := Lib.hid hbel
  have HB0 := Lib.hid hB0
  clear hVH hr hq hf hbel hB0
  go_enter Try.func63, Try.ntmps63
  go_wp2_with fail
  refine (HVH.out _ HR0.out).mono ?_
  rintro e w1 ⟨rfl, hb⟩
  have L1 := Lib.hid (below_next HBel.out hb)
  have p0 := (blk_next HB0.out hb).cell 0
  clear hb
  go_wp2
  go_loopw [5, 6, 16] (fun lo le i wr => ∃ (W : World) (k : Nat) (vo ve : Value), W = wr ∧ k ≤ n ∧ i = .int .i64 k ∧ lo = vo ∧ le = ve ∧ LfInv is k vo ve ∧ Below w.heap.size w wr) (fun _ _ i _ => n - (intOf i).toNat)
  case atStart => exact ⟨_, 0, _, _, rfl, Nat.zero_le _, rfl, rfl, rfl, Or.inl ⟨rfl, rfl, rfl⟩, L1.out⟩
  case round =>
    obtain ⟨W, k, _, _, rfl, hk, rfl, rfl, rfl, hI, hb⟩ := hrel
    have L := Lib.hid hb
    have hl0 := hb.size
    by_cases hlt : k < n
    · have hRW := HR.out.next hb
      obtain ⟨b, rfl, hrow⟩ := hRW.2 (by omega)
      have hkl : k < gs.length := by rw [HR.out.1]; exact hlt
      obtain ⟨h0, h1', h2, h3, h4, h5, h6⟩ := hrow k hkl
      have hgq := HQ.out.2 k hkl
      have hgh : (gs.getD k default).h = false := HF.out _ (by rw [List.getD_eq_getElem?_getD, List.getElem?_eq_getElem hkl]; exact List.getElem_mem _)
      obtain ⟨bw, hs, hx⟩ := sub32 hgq.ay hgq.r (by omega) (by omega) (by have := hgq.by_; omega) (by have := hgq.br; omega)
      have hbd : -100 ≤ (is.getD k default).y - (is.getD k default).r ∧ (is.getD k default).y - (is.getD k default).r ≤ 100 := by have := hgq.by_; have := hgq.br; omega
      have e1 := fun w => run_float_arith (P := Try.prog) w .sub 35 .f32 _ _ _ hs
      have HX := Lib.hid hx
      generalize gs.getD k default = g at h0 h1' h2 h3 h4 h5 h6 hgq hgh e1 hs
      obtain ⟨gax, gay, gsx, gsy, gr, gm, gt, gs', gh⟩ := g
      dsimp only at h0 h1' h2 h3 h4 h5 h6 hgh e1
      subst hgh
      have hsf := run_store_float' Try.prog
      have hsc := run_store_complex Try.prog
      have HL3 := Lib.hid (hb.alloc hl0 (.cells #[.complex .f32 gax gay, .complex .f32 gsx gsy, .float .f32 gr, .float .f32 gm, .float .f32 gt, .float .f32 gs', .bool false] 37))
      obtain ⟨v0, hv0⟩ : ∃ v0, (is.getD k default).y - (is.getD k default).r = v0 := ⟨_, rfl⟩
      rw [hv0] at HX hbd
      have HV0 := Lib.hid hv0
      clear hrow hRW hkl hb hs hx hgq hv0
      rcases hI with ⟨rfl, rfl, rfl⟩ | ⟨j, y, v, hj, rfl, rfl, hy, hv, hall⟩
      · go_wp2
        go_roundw
        case rel =>
          refine ⟨_, 1, _, _, rfl, by omega, by go_num, rfl, rfl, Or.inr ⟨0, bw, v0, by omega, rfl, rfl, HX.out, hbd, ?_⟩, HL3.out⟩
          intro q hq'
          obtain rfl : q = 0 := by omega
          have := HV0.out
          omega
        case measure => simp [intOf]; omega
      · have HA := Lib.hid hall
        have HY := Lib.hid hy
        have ho := order32 HX.out hy (by omega) (by omega) (by omega) (by omega)
        have hc := cmp_lt' v0 v
        rw [← ho] at hc
        clear ho hall hy
        by_cases hlv : v0 < v
        · rw [decide_eq_true hlv] at hc
          go_wp2
          go_roundw
          case rel =>
            refine ⟨_, k + 1, _, _, rfl, by omega, by go_num, rfl, rfl, Or.inr ⟨k, bw, v0, by omega, rfl, rfl, HX.out, hbd, ?_⟩, HL3.out⟩
            intro q hq'
            by_cases hqk : q < k
            · have := HA.out q hqk
              omega
            · obtain rfl : q = k := by omega
              have := HV0.out
              omega
          case measure => simp [intOf]; omega
        · rw [decide_eq_false hlv] at hc
          go_wp2
          go_roundw
          case rel =>
            refine ⟨_, k + 1, _, _, rfl, by omega, by go_num, rfl, rfl, Or.inr ⟨j, y, v, by omega, rfl, rfl, HY.out, hv, ?_⟩, HL3.out⟩
            intro q hq'
            by_cases hqk : q < k
            · exact HA.out q hqk
            · obtain rfl : q = k := by omega
              have := HV0.out
              omega
          case measure => simp [intOf]; omega
    · rcases hI with ⟨rfl, rfl, rfl⟩ | ⟨j, y, v, hj, rfl, rfl, hy, hv, hall⟩
      · omega
      · have HA := Lib.hid hall
        have HY := Lib.hid hy
        have HFi := Lib.hid fun w => (show Calls Try.prog 111 #[.float .f32 y] w fun e w' => e = .returned (.bool true) ∧ Quiet w w' by rw [← fin_exa hy (by omega) (by omega) (by omega)]; exact isFinite_any y w)
        clear hall hy hb
        go_wp2_with (go_at_call 111; (with_reducible refine (HFi.out _).mono ?_); rintro e w4 ⟨rfl, n4, rfl⟩)
        go_ret3
        exact ⟨j, y, v, by omega, HY.out, hv, fun q hq' => HA.out q (by omega), rfl, below_drewN L.out _⟩
set_option maxRecDepth 100000 in
set_option maxHeartbeats 3200000 in
theorem lowestFree_none (ao : Option Addr) (n c : Nat) (gs : List Gr) (is : List GrI) (w : World) (hr : HRow w ao n gs) (hn : n ≤ 24) (hq : GrsQ gs is) (hf : ∀ g ∈ gs, g.h = true) :
    Calls Try.prog 63 #[.agg #[.slice ao n c]] w fun e w' => e = .returned (.tuple #[.int .i64 0, .float .f32 0, .bool false]) ∧ Below w.heap.size w w' := by
  have hVH := fun w (h : HRow w ao n gs) => validHeap_row ao n c gs w h hn
  rw [hq.valid] at hVH
  have HVH := Lib.hid hVH
  have HR := Lib.hid hr
  have HQ := Lib.hid hq
  have HF := Lib.hid hf
  have hbel := (Below.refl w.heap.size w).alloc (Nat.le_refl _) (.cells #[.slice ao n c] 26)
  have hB0 : Blk (w.alloc (.cells #[.slice ao n c] 26)) w.heap.size 26 _ := blk_new w _ _ _ rfl
  have HR0 := Lib.hid (hr.below hbel (Nat.le_refl _))
  have HBel := Lib.hid hbel
  have HB0 := Lib.hid hB0
  clear hVH hr hq hf hbel hB0
  go_enter Try.func63, Try.ntmps63
  go_wp2_with fail
  refine (HVH.out _ HR0.out).mono ?_
  rintro e w1 ⟨rfl, hb⟩
  have L1 := Lib.hid (below_next HBel.out hb)
  have p0 := (blk_next HB0.out hb).cell 0
  clear hb
  go_wp2
  go_loopw [5, 6, 16] (fun lo le i wr => ∃ (W : World) (k : Nat), W = wr ∧ k ≤ n ∧ i = .int .i64 k ∧ lo = .int .i64 (-1) ∧ le = .float .f32 0 ∧ Below w.heap.size w wr) (fun _ _ i _ => n - (intOf i).toNat)
  case atStart => exact ⟨_, 0, rfl, Nat.zero_le _, rfl, rfl, rfl, L1.out⟩
  case round =>
    obtain ⟨W, k, rfl, hk, rfl, rfl, rfl, hb⟩ := hrel
    have L := Lib.hid hb
    have hl0 := hb.size
    by_cases hlt : k < n
    · have hRW := HR.out.next hb
      obtain ⟨b, rfl, hrow⟩ := hRW.2 (by omega)
      have hkl : k < gs.length := by rw [HR.out.1]; exact hlt
      obtain ⟨h0, h1', h2, h3, h4, h5, h6⟩ := hrow k hkl
      have hgq := HQ.out.2 k hkl
      have hgh : (gs.getD k default).h = true := HF.out _ (by rw [List.getD_eq_getElem?_getD, List.getElem?_eq_getElem hkl]; exact List.getElem_mem _)
      obtain ⟨bw, hs, hx⟩ := sub32 hgq.ay hgq.r (by omega) (by omega) (by have := hgq.by_; omega) (by have := hgq.br; omega)
      have e1 := fun w => run_float_arith (P := Try.prog) w .sub 35 .f32 _ _ _ hs
      generalize gs.getD k default = g at h0 h1' h2 h3 h4 h5 h6 hgq hgh e1 hs
      obtain ⟨gax, gay, gsx, gsy, gr, gm, gt, gs', gh⟩ := g
      dsimp only at h0 h1' h2 h3 h4 h5 h6 hgh e1
      subst hgh
      have hsf := run_store_float' Try.prog
      have hsc := run_store_complex Try.prog
      have HL3 := Lib.hid (hb.alloc hl0 (.cells #[.complex .f32 gax gay, .complex .f32 gsx gsy, .float .f32 gr, .float .f32 gm, .float .f32 gt, .float .f32 gs', .bool true] 37))
      clear hrow hRW hkl hb hs hx hgq
      go_wp2
      go_roundw
      case rel => exact ⟨_, k + 1, rfl, by omega, by go_num, rfl, rfl, HL3.out⟩
      case measure => simp [intOf]; omega
    · clear hb
      have HFi := Lib.hid fun w => (show Calls Try.prog 111 #[.float .f32 0] w fun e w' => e = .returned (.bool true) ∧ Quiet w w' by rw [← show fin32 0 = true by decide]; exact isFinite_any 0 w)
      go_wp2_with (go_at_call 111; (with_reducible refine (HFi.out _).mono ?_); rintro e w4 ⟨rfl, n4, rfl⟩)
      go_ret3
      first | exact ⟨rfl, L.out⟩ | exact ⟨rfl, below_drewN L.out _⟩
end Go.Proofs.Ytlflmofclflgbaa
