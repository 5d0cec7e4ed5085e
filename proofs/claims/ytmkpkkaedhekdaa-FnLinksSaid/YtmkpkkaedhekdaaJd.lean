/- Strong links. -/
import Derived.Test.YtmkpkkaedhekdaaJc
namespace Go.Proofs.Ytmkpkkaedhekdaa
open Go.RowKit Fl

/-- the number that math.Floor gives -/
def floorOf (r : Nat) : Nat := FloatKind.f64.encode ((FloatKind.f64.decode r).integral .down)
def isNum (r : Nat) : Bool := match Ieee.double.read r with
  | .number _ _ _ => true
  | _ => false
theorem isNum_num {r : Nat} (h : isNum r = true) : ∃ s m e, Ieee.double.read r = .number s m e := by
  unfold isNum at h
  split at h
  · exact ⟨_, _, _, by assumption⟩
  · cases h
theorem call_archFloorN (r : Nat) (h : isNum r = true) (w : World) : (callFunc 51 #[.float .f64 r]).run Try.prog w = .ok (.value (.float .f64 (floorOf r))) w := by
  obtain ⟨s, m, e, h1⟩ := isNum_num h
  refine (run_callFunc_extern (e := Extern.MathFloor.toIntegral "math.archFloor" .down) Try.func51 (by kernel_rfl) (by kernel_rfl) (by kernel_rfl) (by kernel_rfl) _ w).trans ?_
  have hd : FloatKind.f64.decode r = .number s m e := h1
  change ((match FloatKind.f64.decode r with | .nan s t => if FloatKind.f64.format.quiet t = t then (pure (.float .f64 r) : Sem Value) else do let kept ← choose (.extern "math.Floor,Ceil,Trunc,RoundToEven.signallingNaN kept" 2); pure (.float .f64 (if kept == 1 then r else FloatKind.f64.encode (.nan s (FloatKind.f64.format.quiet t)))) | d => pure (.float .f64 (FloatKind.f64.encode (d.integral .down)))).run Try.prog w).andThen (fun v w' => Result.ok (Next.value v) w') = _
  unfold floorOf
  rw [hd]
  rfl
set_option maxHeartbeats 400000 in
theorem floor_ofN (r : Nat) (h : isNum r = true) (w : World) : Calls Try.prog 48 #[.float .f64 r] w fun e w' => e = .returned (.float .f64 (floorOf r)) ∧ w = w' := by
  have hc := fun w => call_archFloorN r h w
  clear h
  go_enter Try.func48, Try.ntmps48
  go_wp2
  go_ret
  exact ⟨rfl, rfl⟩
def binO (N : Nat) : Option (Nat × Int) := (floatBits .quo .f32 (rootT N) 1065353216).bind fun q => (floatToIntVal .f64 (floorOf (wide q)) .i64).map fun k => (q, k)
def strongT (N : Nat) : Bool := FloatKind.f32.format.order (rootT N) 1073741824 == some .gt || FloatKind.f32.format.order (rootT N) 1073741824 == some .eq
def tOk (N : Nat) : Bool := match binO N with
  | none => false
  | some (q, k) => (nan32 q == false) && isNum (wide q) && (FloatKind.f64.format.order (floorOf (wide q)) 0 == some .gt || FloatKind.f64.format.order (floorOf (wide q)) 0 == some .eq) && (FloatKind.f64.format.order (floorOf (wide q)) 4620693217682128896 == some .lt) && decide (0 ≤ k) && decide (k < 8) && (decide (2 ≤ k) == strongT N)
set_option maxRecDepth 100000 in
theorem t_all : (List.range 513).all tOk = true := by decide +kernel
theorem t_at {N : Nat} (h : N ≤ 512) : tOk N = true := List.all_eq_true.1 t_all N (List.mem_range.2 (by omega))
def binT (N : Nat) : Nat := match binO N with
  | some (_, k) => k.toNat
  | none => 0
structure Binned (N q : Nat) : Prop where
  hq : floatBits .quo .f32 (rootT N) 1065353216 = some q
  hn : nan32 q = false
  hf : isNum (wide q) = true
  h0 : (FloatKind.f64.format.order (floorOf (wide q)) 0 == some .gt || FloatKind.f64.format.order (floorOf (wide q)) 0 == some .eq) = true
  h8 : (FloatKind.f64.format.order (floorOf (wide q)) 4620693217682128896 == some .lt) = true
  hi : floatToIntVal .f64 (floorOf (wide q)) .i64 = some ((binT N : Nat) : Int)
  hk : binT N < 8
  hs : strongT N = decide (2 ≤ binT N)
theorem binned {N : Nat} (h : N ≤ 512) : ∃ q, Binned N q := by
  have ht := t_at h
  unfold tOk at ht
  cases hb : binO N with
  | none => rw [hb] at ht; cases ht
  | some p =>
    obtain ⟨q, k⟩ := p
    rw [hb] at ht
    simp only [Bool.and_eq_true, beq_iff_eq, decide_eq_true_eq] at ht
    obtain ⟨⟨⟨⟨⟨⟨h1, h2⟩, h3⟩, h4⟩, h5⟩, h6⟩, h7⟩ := ht
    have hT : binT N = k.toNat := by unfold binT; rw [hb]
    unfold binO at hb
    cases hq : floatBits .quo .f32 (rootT N) 1065353216 with
    | none => rw [hq] at hb; cases hb
    | some q' =>
      rw [hq] at hb
      simp only [Option.bind_some, Option.map_eq_some_iff, Prod.mk.injEq] at hb
      obtain ⟨k', hk', rfl, rfl⟩ := hb
      refine ⟨q', hq, h1, h2, h3, by rw [h4]; rfl, ?_, by omega, ?_⟩
      · rw [hk', hT]; congr 1; omega
      · rw [← h7, hT]; exact decide_eq_decide.2 (by omega)
theorem pw_le {i : Int × Int} (h1 : -16 ≤ i.1 ∧ i.1 ≤ 16) (h2 : -16 ≤ i.2 ∧ i.2 ≤ 16) : pw i ≤ 512 := by
  have q1 : i.1.natAbs * i.1.natAbs ≤ 16 * 16 := Nat.mul_le_mul (by omega) (by omega)
  have q2 : i.2.natAbs * i.2.natAbs ≤ 16 * 16 := Nat.mul_le_mul (by omega) (by omega)
  unfold pw; omega
set_option maxHeartbeats 1600000 in
theorem binOf_of (N q : Nat) (h : Binned N q) (w : World) :
    Calls Try.prog 40 #[.float .f32 q, .int .i64 8] w fun e w' => e = .returned (.tuple #[.int .i64 (binT N : Nat), .bool true]) ∧ w = w' := by
  have HF := Lib.hid fun w => floor_ofN (wide q) h.hf w
  have c1 := fun w => run_convert_float_float (P := Try.prog) w 46 78 .f32 .f64 q (wide q) (by kernel_rfl) Try.underlying78 (wide_conv q h.hn)
  have c2 := fun w => run_convert_float_int (P := Try.prog) w 78 2 .f64 .i64 _ _ (by kernel_rfl) Try.underlying2 h.hi
  have h0 := h.h0
  have h8 : (FloatKind.f64.format.order (floorOf (wide q)) (floatOfInt .f64 8) == some .lt) = true := by rw [show floatOfInt .f64 8 = 4620693217682128896 by decide +kernel]; exact h.h8
  clear h
  generalize floorOf (wide q) = f at HF c2 h0 h8
  generalize ((binT N : Nat) : Int) = k at c2 ⊢
  go_enter Try.func40, Try.ntmps40
  go_wp2_with fail
  refine (HF.out _).mono ?_
  rintro e w1 ⟨rfl, rfl⟩
  go_wp2_with fail
  go_ret2
  exact ⟨rfl, rfl⟩
end Go.Proofs.Ytmkpkkaedhekdaa

namespace Go.Proofs.Ytmkpkkaedhekdaa
open Go.RowKit Fl

def binAt (is : List (Int × Int)) (k : Nat) : Nat := binT (pw (is.getD k default))
def binF (is : List (Int × Int)) : Nat → Nat → Int
  | 0 => fun _ => 0
  | k + 1 => upd (binF is k) (binAt is k) (binF is k (binAt is k) + 1)
def strongN (is : List (Int × Int)) : Nat → Nat
  | 0 => 0
  | k + 1 => strongN is k + (if 2 ≤ binAt is k then 1 else 0)
theorem strongN_le (is : List (Int × Int)) : ∀ k, strongN is k ≤ k
  | 0 => Nat.le_refl _
  | k + 1 => by
    have := strongN_le is k
    show strongN is k + _ ≤ k + 1
    split <;> omega
theorem bins_all (is : List (Int × Int)) : ∀ k, binF is k 0 + binF is k 1 + (strongN is k : Int) = k
  | 0 => rfl
  | k + 1 => by
    have ih := bins_all is k
    show upd _ _ _ 0 + upd _ _ _ 1 + ((strongN is k + (if 2 ≤ binAt is k then 1 else 0) : Nat) : Int) = ((k + 1 : Nat) : Int)
    generalize binAt is k = b
    unfold upd
    rcases (show b = 0 ∨ b = 1 ∨ 2 ≤ b by omega) with rfl | rfl | hb
    · simp; omega
    · simp; omega
    · rw [if_neg (by omega), if_neg (by omega), if_pos hb]; omega
theorem binF_bounds (is : List (Int × Int)) : ∀ k j, 0 ≤ binF is k j ∧ binF is k j ≤ k
  | 0, _ => ⟨Int.le_refl _, Int.le_refl _⟩
  | k + 1, j => by
    have ih := binF_bounds is k
    show 0 ≤ upd _ _ _ j ∧ upd _ _ _ j ≤ ((k + 1 : Nat) : Int)
    unfold upd
    split
    · have := ih (binAt is k); omega
    · have := ih j; omega
theorem upd_lab (F : Nat → Int) (a : Nat) (v : Int) : Lab F (fun j => j = a) v (upd F a v) := fun j => ⟨fun h => by subst h; exact upd_at _ _ _, fun h => upd_ne _ _ h⟩
theorem made_i64n (n : Nat) : (madeCells (Value.int .i64 0).cells (n * 1)).toList = vm (fun _ => 0) n := made_i64 n
theorem isPositive_one (w : World) : Calls Try.prog 38 #[.float .f32 1065353216] w fun e w' => e = .returned (.bool true) ∧ Quiet w w' := by
  have HF := Lib.hid fun w => (show Calls Try.prog 34 #[.float .f32 1065353216] w fun e w' => e = .returned (.bool true) ∧ Quiet w w' from isFinite_any 1065353216 w)
  have h0 : (FloatKind.f32.format.order 1065353216 0 == some .gt) = true := by decide +kernel
  go_enter Try.func38, Try.ntmps38
  go_wp2_with fail
  refine (HF.out _).mono ?_
  rintro e w1 ⟨rfl, m, rfl⟩
  go_wp2_with fail
  go_ret
  exact ⟨rfl, m, rfl⟩
theorem isViewSize_eight (w : World) : Calls Try.prog 39 #[.int .i64 8] w fun e w' => e = .returned (.bool true) ∧ w = w' := by
  go_enter Try.func39, Try.ntmps39
  go_wp2
  go_ret
  exact ⟨rfl, rfl⟩
set_option maxRecDepth 100000 in
set_option maxHeartbeats 3200000 in
theorem binsOfPushes_of (ao : Option Addr) (n c : Nat) (ls : List Lk) (is : List (Int × Int)) (w : World) (hL : LRow w ao n ls) (hq : LksQ ls is) (hn : n ≤ 6) :
    Calls Try.prog 17 #[.slice ao n c, .float .f32 1065353216, .int .i64 8] w fun e w' => Below w.heap.size w w' ∧ ∃ b, e = .returned (.tuple #[.slice (some ⟨b, 0, none⟩) 8 8, .bool true]) ∧ w'.ownsRow w.heap.size 2 1 (.slice (some ⟨b, 0, none⟩) 8 8) 8 (vm (binF is n) 8) := by
  obtain ⟨i0, hi, hz0, hz1, hz2⟩ := info_parts vi_info
  have HE := Lib.hid fun w (h : LRow w ao n ls) => eachStrength_of ao n c ls is w h hq hn
  have HL := Lib.hid hL
  have HN := Lib.hid hL.len
  have HQ := Lib.hid hq
  clear hL hq
  go_enter Try.func17, Try.ntmps17
  go_wp2_with fail
  refine (isPositive_one _).mono ?_
  rintro e w1 ⟨rfl, m1, rfl⟩
  go_wp2_with fail
  refine (isViewSize_eight _).mono ?_
  rintro e w2 ⟨rfl, rfl⟩
  have L1 := Lib.hid (below_drewN (Below.refl w.heap.size w) m1)
  have A1 := Lib.hid (HL.out.drewN m1)
  clear HL
  generalize w.drewN m1 = w1 at L1 A1 ⊢
  go_wp2_with (at_make; go_loud (refine wpList_make_full _ rfl _ _ 36 rfl w1.heap.size 2 i0 (.int .i64 0) 1 Try.underlying36 hi hz0 hz1 .i64 .i64 _ _ 8 rfl rfl rfl rfl (by rw [hz2]; omega) (by unfold maxLen; omega) (Nat.le_refl _) ?_); intro w2 hown hgrow)
  rw [made_i64] at hown
  have hb2 := ((Below.refl w1.heap.size w1).grown hgrow (Nat.le_refl _) (by simp) : Below w1.heap.size w1 w2)
  have B2 := Lib.hid hb2
  have O2 := Lib.hid hown
  have A2 := Lib.hid (A1.out.next hb2)
  clear hown hgrow hb2
  refine (HE.out _ A2.out).mono ?_
  rintro e w3 ⟨rfl, hf, hb⟩
  have F3 := Lib.hid hf
  have O3 := Lib.hid (own_below O2.out hb (Nat.le_refl _))
  have B3 := Lib.hid (below_next B2.out hb)
  have hw12 : w1.heap.size < w2.heap.size := (O2.out.lt _ rfl).2
  clear hf hb A2 O2 B2
  have hz : (strs is).length = n := F3.out.len
  generalize w2.heap.size = R2 at F3 hw12 ⊢
  go_wp2_with fail
  go_loopw [31] (fun i wr => ∃ (W : World) (k : Nat), W = wr ∧ k ≤ n ∧ i = .int .i64 k ∧ wr.ownsRow w1.heap.size 2 1 (.slice (some ⟨w1.heap.size, 0, none⟩) 8 8) 8 (vm (binF is k) 8) ∧ But w1.heap.size w3 wr) (fun i _ => n - (intOf i).toNat)
  case atStart => exact ⟨_, 0, rfl, Nat.zero_le _, rfl, O3.out, But.refl _ _⟩
  case round =>
    clear O3
    obtain ⟨W, k, rfl, hk, rfl, hO, hB⟩ := hrel
    by_cases hlt : k < n
    · have hkl : k < ls.length := by rw [HN.out]; exact hlt
      have hkI : k < is.length := by rw [HQ.out.1]; exact hkl
      have hq := HQ.out.2 k hkl
      have hx : W.cell? ⟨R2, k, none⟩ = some (.float .f32 ((strs is).getD k 0)) := by
        have h1 := F3.out.cell _ rfl k hlt
        rw [show (⟨R2, 0, none⟩ : Addr).add k = ⟨R2, k, none⟩ by unfold Addr.add; split <;> simp_all] at h1
        rw [World.cell?_of_block (w := w3) (hB.block R2 (World.block_lt_of_cell? w3 _ h1) (by intro e; injection e with e; omega))]
        exact h1
      rw [strs_at hkI] at hx
      obtain ⟨q, hbq⟩ := binned (pw_le hq.bx hq.by_)
      have e1 := fun w => run_float_arith (P := Try.prog) w .quo 46 .f32 _ _ _ hbq.hq
      have HBi := Lib.hid fun w => binOf_of _ q hbq w
      have hb8 := hbq.hk
      have hnx : binF is (k + 1) = upd (binF is k) (binAt is k) (binF is k (binAt is k) + 1) := rfl
      have hbd := binF_bounds is k (binAt is k)
      have hbe : binAt is k = binT (pw (is.getD k default)) := rfl
      rw [← hbe] at HBi hb8
      have HNx := Lib.hid hnx
      clear hnx hbe hbq
      generalize rootT (pw (is.getD k default)) = v at hx e1
      generalize binAt is k = bi at HBi hb8 HNx hbd
      have hcl := (hO.cellAt bi (by omega)).trans (vm_at hb8)
      have hfr := hO.frozenAt bi
      have hst := (hO.stored bi (.int .i64 (binF is k bi + 1))).1
      rw [vm_set (upd_lab _ _ _), ← HNx.out] at hst
      have O5 := Lib.hid hst
      have B5 := Lib.hid (hB.setCell bi (.int .i64 (binF is k bi + 1)))
      have hb8i : (bi : Int) < 8 := by omega
      clear hst hO hB HNx hq
      generalize binF is k bi = z at hcl O5 B5 hbd
      go_wp2_with fail
      refine (HBi.out _).mono ?_
      rintro e w5 ⟨rfl, rfl⟩
      go_wp2_with fail
      go_roundw
      case rel => exact ⟨_, k + 1, rfl, by omega, by go_num, O5.out, B5.out⟩
      case measure => simp [intOf]; omega
    · obtain rfl : n = k := by omega
      have O5 := Lib.hid hO
      have B5 := Lib.hid (hB.below B3.out (by have := B3.out.size; omega) (Nat.le_refl _))
      clear hO hB
      go_wp2_with fail
      go_ret2
      exact ⟨below_next L1.out B5.out, _, rfl, vi_base O5.out L1.out.size⟩
end Go.Proofs.Ytmkpkkaedhekdaa

namespace Go.Proofs.Ytmkpkkaedhekdaa
open Go.RowKit Fl

set_option maxRecDepth 100000 in
set_option maxHeartbeats 6400000 in
theorem strongLinks_of (hb_ hc : Nat) (gs : List Gr) (ao : Option Addr) (n c : Nat) (ls : List Lk) (is : List (Int × Int)) (w : World) (hv : gs.all Gr.valid = true) (hl : gs.length = 4) (hr : GrRow w hb_ gs) (hL : LRow w ao n ls) (hq : LksQ ls is) (hn : n ≤ 6) :
    Calls Try.prog 16 #[.agg #[.slice (some ⟨hb_, 0, none⟩) 4 hc], .slice ao n c, .float .f32 1073741824] w fun e w' => Below w.heap.size w w' ∧ ∃ ao' c', e = .returned (.tuple #[.slice ao' (strongN is n) c', .bool true]) := by
  obtain ⟨i0, hi, hz0, hz1, hz2⟩ := info_parts linkInfo
  have HA := Lib.hid fun w (h : GrRow w hb_ gs) (h' : LRow w ao n ls) => areLinks_yes hb_ hc gs ao n c ls is w hv hl h h' hq hn
  have HE := Lib.hid fun w (h : LRow w ao n ls) => eachStrength_of ao n c ls is w h hq hn
  have hbel := (Below.refl w.heap.size w).alloc (Nat.le_refl _) (.cells #[.slice (some ⟨hb_, 0, none⟩) 4 hc] 26)
  have L0 := Lib.hid hbel
  have R0 := Lib.hid (hr.below hbel (Nat.le_refl _))
  have A0 := Lib.hid (hL.below hbel (Nat.le_refl _))
  have HN := Lib.hid hL.len
  have HQ := Lib.hid hq
  have a0 := (blk_new w 26 #[.slice (some ⟨hb_, 0, none⟩) 4 hc] _ rfl).cell 0
  clear hbel hr hL hq hv hl
  go_enter Try.func16, Try.ntmps16
  go_wp2_with fail
  refine (HA.out _ R0.out A0.out).mono ?_
  rintro e w1 ⟨rfl, hb⟩
  have L1 := Lib.hid (below_next L0.out hb)
  have A1 := Lib.hid (A0.out.next hb)
  clear hb L0 A0 R0 HA a0
  go_wp2_with fail
  refine (HE.out _ A1.out).mono ?_
  rintro e w2 ⟨rfl, hf, hb⟩
  have F2 := Lib.hid hf
  have A2 := Lib.hid (A1.out.next hb)
  have L2 := Lib.hid (below_next L1.out hb)
  clear hb hf L1 A1
  generalize w1.heap.size = R at F2 ⊢
  go_wp2_with fail
  go_loopw [8, 18] (fun v i wr => ∃ (W : World) (k : Nat) (vv : Value) (L : List Lk), W = wr ∧ k ≤ n ∧ i = .int .i64 k ∧ v = vv ∧ Hid (L.length = strongN is k) ∧ wr.ownsRow w2.heap.size 48 3 vv L.length (lcells L) ∧ Below w2.heap.size w2 wr) (fun _ i _ => n - (intOf i).toNat)
  case atStart => exact ⟨_, 0, _, [], rfl, Nat.zero_le _, rfl, rfl, rfl, World.ownsRow_nil _ _ _ _, Below.refl _ _⟩
  case round =>
    obtain ⟨W, k, _, L, rfl, hk, rfl, rfl, hLen, hO, hB⟩ := hrel
    by_cases hlt : k < n
    · have hkl : k < ls.length := by rw [HN.out]; exact hlt
      have hkI : k < is.length := by rw [HQ.out.1]; exact hkl
      have hq := HQ.out.2 k hkl
      have hx := (F2.out.below hB (Nat.le_refl _)).cell _ rfl k hlt
      rw [show (⟨R, 0, none⟩ : Addr).add k = ⟨R, k, none⟩ by unfold Addr.add; split <;> simp_all, strs_at hkI] at hx
      obtain ⟨q, hbq⟩ := binned (pw_le hq.bx hq.by_)
      have hst := hbq.hs
      unfold strongT at hst
      have hnx : strongN is (k + 1) = strongN is k + (if 2 ≤ binAt is k then 1 else 0) := rfl
      rw [show binT (pw (is.getD k default)) = binAt is k from rfl] at hst
      obtain ⟨b, rfl⟩ := A2.out.addr (by omega)
      obtain ⟨c0, c1, c2⟩ := (A2.out.below hB (Nat.le_refl _)).cell b rfl k hlt
      have hle := strongN_le is k
      have hLl : L.length ≤ 6 := by rw [hLen.out]; omega
      generalize ls.getD k default = l at c0 c1 c2
      obtain ⟨la, lb, lx, ly⟩ := l
      dsimp only at c0 c1 c2
      have HO := Lib.hid hO
      have HB := Lib.hid hB
      have HLen := hLen
      have HNx := Lib.hid hnx
      have hsz := hB.size
      clear hO hB hq hbq hLen hnx hle
      generalize rootT (pw (is.getD k default)) = v at hx hst
      by_cases h2 : 2 ≤ binAt is k
      · rw [show decide (2 ≤ binAt is k) = true by simp [h2]] at hst
        have hN := Lib.hid (show strongN is (k + 1) = strongN is k + 1 by rw [HNx.out, if_pos h2])
        clear h2 HNx
        go_wp2_with (at_builtin; go_loud (refine wpList_append_own _ rfl _ _ 28 rfl w2.heap.size 48 i0 _ 3 24 Try.underlying28 hi hz0 hz1 hz2 rfl (by decide) _ _ _ rfl (HO.out.alloc _) ⟨W.heap.size, 0, none⟩ 1 1 (⟨la, lb, lx, ly⟩ : Lk).cells rfl rfl (lk_at W _ ⟨la, lb, lx, ly⟩ _ rfl) (by intro x hx; simp [Lk.cells] at hx; rcases hx with rfl | rfl | rfl <;> rfl) (by unfold maxLen; omega) (by omega) (by simp; omega) ?_); intro v' w5 hown' hgrow hnil; have L5 := Lib.hid (vi_app2 HB.out hsz HO.out hgrow); have O5 := Lib.hid hown'; clear hown' hgrow hnil)
        go_roundw
        case rel => exact ⟨_, k + 1, _, L ++ [⟨la, lb, lx, ly⟩], rfl, by omega, by go_num, rfl, by show (L ++ [_]).length = _; rw [List.length_append, HLen.out, hN.out]; rfl, by rw [lcells_snoc, List.length_append]; exact O5.out, L5.out⟩
        case measure => simp [intOf]; omega
      · rw [show decide (2 ≤ binAt is k) = false by simp [h2]] at hst
        have hN := Lib.hid (show strongN is (k + 1) = strongN is k by rw [HNx.out, if_neg h2, Nat.add_zero])
        clear h2 HNx
        go_wp2_with fail
        go_roundw
        case rel => exact ⟨_, k + 1, _, L, rfl, by omega, by go_num, rfl, by show L.length = _; rw [HLen.out, hN.out], HO.out, HB.out⟩
        case measure => simp [intOf]; omega
    · obtain rfl : n = k := by omega
      obtain ⟨ao', c', rfl⟩ := own_slice hO
      have HB := Lib.hid hB
      have HLen := hLen
      clear hO hB hLen
      go_wp2_with fail
      go_ret2
      exact ⟨below_next L2.out HB.out, ao', c', by rw [← HLen.out]; rfl⟩
end Go.Proofs.Ytmkpkkaedhekdaa
