/- The law FnLinks is true at every input that its row speaks of. No condition beyond the given row's. -/
import Derived.Test.YtmkpkkaedhekdaaBrow
import Derived.Lib.Hide
import Derived.Deep.Slices
import Derived.ProofKit
import Derived.OpenShut
import Derived.Test.YtmkpkkaedhekdaaJf
import Derived.Laws.Cover2
import Derived.ShutString
import Derived.ChangeOld
import Derived.Below
namespace Go.Proofs.Ytmkpkkaedhekdaa
open Go.RowKit Fl

theorem r8Long_of (ao bo : Option Addr) (n c n' c' : Nat) (w : World) :
    Calls Try.prog 4 #[.slice ao n c, .slice bo n' c'] w fun e w' => e = .returned (.bool (decide (48 < n) || decide (48 < n'))) ∧ w = w' := by
  by_cases h : 48 < n <;> by_cases h' : 48 < n'
  all_goals
    go_enter Try.func4, Try.ntmps4
    go_wp2
    go_ret
    exact ⟨by first | rfl | (simp [h, h']; done) | (simp [h, h']; omega), rfl⟩
/-- a number below k -/
def At8 (k : Int) (w : World) (e : Ending) (w' : World) : Prop := ∃ x : Int, 0 ≤ x ∧ x < k ∧ e = .returned (.int .i64 x) ∧ w = w'
end Go.Proofs.Ytmkpkkaedhekdaa

namespace Go.Proofs.Ytmkpkkaedhekdaa
open Go.ChangeShapes Go.WideShapes Go.Deep Go.RowKit Go.ChangeAt

theorem trod_byte {H : Type} {enc : TypeId × Value → H} {P : Program} {w : World} {base : Nat} {spare : Nat → Bool} {held : Bool} {t : TypeId} {fuel : Nat} {v : Value} {x : DataW H × List MemPlace}
    (ht : P.underlying t = some (.int .u8)) (h : DataW.trod enc P w base spare held fuel t [v] = some x) : ∃ b : Nat, v = .int .u8 b ∧ b < 256 := by
  have key : ∃ b : Int, v = .int .u8 b ∧ (Lit.int .u8 b).wf = true := by
    cases fuel with
    | zero => simp [DataW.trod] at h
    | succ n =>
      unfold DataW.trod at h
      rw [ht] at h
      split at h <;> simp_all
  obtain ⟨b, hb, hw⟩ := key
  have hr := bounds_u8 hw
  obtain ⟨n, rfl⟩ := Int.eq_ofNat_of_zero_le hr.1
  exact ⟨n, hb, by omega⟩
theorem open_brow {H : Type} {enc : TypeId × Value → H} {P : Program} {W : World} {t e : TypeId} {ao : Option Addr} {n c : Nat} {d : DataW H} {ps : List MemPlace}
    (ht : P.underlying t = some (.slice e)) (he : P.underlying e = some (.int .u8)) (hc : P.cellsOf e = 1) (h : DataW.Trod enc P W 0 (fun _ => true) true t (.slice ao n c) d ps) : BRow W ao n := by
  obtain ⟨fuel, hf⟩ := h
  rcases open_slice1 ht hc hf with ⟨hcs, _⟩ | ⟨a, len, cap, m, k, V, D, Pl, hcs, _, hl, hcap, hm, _, hx⟩
  · simp [Value.cells] at hcs
    obtain ⟨rfl, rfl, rfl⟩ := hcs
    exact ⟨by omega, fun h => by omega, fun a ha => by cases ha⟩
  · simp [Value.cells] at hcs
    obtain ⟨rfl, rfl, rfl⟩ := hcs
    have hnm : n ≤ m := by rw [hm]; simp; exact hl
    refine ⟨by unfold maxLen at hcap; omega, fun _ => ⟨a, rfl⟩, fun a' ha' i hi => ?_⟩
    obtain rfl := Option.some.inj ha'
    obtain ⟨b, hb, hlt⟩ := trod_byte he (hx i (by omega)).2
    exact ⟨b, hlt, by rw [(hx i (by omega)).1, hb]⟩
end Go.Proofs.Ytmkpkkaedhekdaa

namespace Go.Proofs.Ytmkpkkaedhekdaa
open Go.RowKit Fl

theorem neq_sameL {a b c d : Nat} (h1 : FloatKind.f32.format.order a c = some .eq) (h2 : FloatKind.f32.format.order b d = some .eq) (P : Program) (t : TypeId) (w : World) : (binOp .neq t (.complex .f32 a b) (.complex .f32 c d)).run P w = .ok (.bool false) w := by
  rw [run_neq_complex, h1, h2]; rfl
set_option maxRecDepth 100000 in
set_option maxHeartbeats 12800000 in
theorem walk (a0 : Option Addr) (n0 c0 : Nat) (a1 : Option Addr) (n1 c1 : Nat) (w : World) (h0 : BRow w a0 n0) (h1 : BRow w a1 n1) :
    Calls Try.prog 3 #[.slice a0 n0 c0, .slice a1 n1 c1] w fun e w' => e = .returned (.bool true) ∧ Below w.heap.size w w' := by
  have HL := Lib.hid fun w => r8Long_of a0 a1 n0 c0 n1 c1 w
  by_cases hlong : 48 < n0 ∨ 48 < n1
  · have hb : (decide (48 < n0) || decide (48 < n1)) = true := by simp; exact hlong
    rw [hb] at HL
    clear hb hlong h0 h1
    go_enter Try.func3, Try.ntmps3
    go_wp2_with (go_at_call 4; (with_reducible refine (HL.out _).mono ?_); rintro e w' ⟨rfl, rfl⟩)
    go_ret
    exact ⟨rfl, Below.refl _ _⟩
  · have hb : (decide (48 < n0) || decide (48 < n1)) = false := by simp; omega
    rw [hb] at HL
    have HH := Lib.hid fun w (h : BRow w a0 n0) => r8Heap_of a0 n0 c0 4 w h (by omega)
    have H0 := Lib.hid h0
    have H1 := Lib.hid h1
    clear hb hlong h0 h1
    go_enter Try.func3, Try.ntmps3
    go_wp2_with (go_at_call 4; (with_reducible refine (HL.out _).mono ?_); rintro e w' ⟨rfl, rfl⟩)
    go_wp2_with fail
    refine (HH.out _ H0.out).mono ?_
    rintro e w1 ⟨gs, gi, hb_, hc, hl, hq, _, hfree, rfl, ho, hb⟩
    have HR := Lib.hid fun w (h : BRow w a1 n1) => r8Links_of a1 n1 c1 hb_ hc w h
    have hB1 := H1.out.next hb
    have hbx := (Below.refl w1.heap.size w1).alloc (Nat.le_refl _) (.cells #[.slice (some ⟨hb_, 0, none⟩) 4 hc] 26)
    have hX := blk_new w1 26 #[.slice (some ⟨hb_, 0, none⟩) 4 hc] _ rfl
    have hG := (row_of_own ho hl).below hbx (Nat.le_refl _)
    have J1 := Lib.hid (below_next hb hbx)
    have X1 := Lib.hid hX
    have G1 := Lib.hid hG
    have B1 := Lib.hid (hB1.next hbx)
    have HG := Lib.hid hq
    have HGl := Lib.hid hl
    have HFr := Lib.hid hfree
    have a0' := hX.cell 0
    clear hb ho hbx hX hG hB1 hq hl hfree HH H0 H1 HL
    go_wp2_with fail
    generalize w1.alloc (.cells #[.slice (some ⟨hb_, 0, none⟩) 4 hc] 26) = w2 at J1 X1 G1 B1 ⊢
    generalize w1.heap.size = hv at X1 ⊢
    clear a0'
    refine (HR.out _ B1.out).mono ?_
    rintro e w3 ⟨ls, is, ao, c, hll, hlq, rfl, ho, hb⟩
    obtain ⟨n, hn⟩ : ∃ n, n = ls.length := ⟨_, rfl⟩
    rw [← hn] at ho hll ⊢
    have V3 := Lib.hid (show LV w3 hv hb_ hc gs ao n ls from ⟨blk_next X1.out hb, G1.out.below hb (Nat.le_refl _), lrow_own ho hn.symm⟩)
    have J3 := Lib.hid (below_next J1.out hb)
    have HN := Lib.hid hn
    have HQ := Lib.hid hlq
    clear hb ho hlq hn J1 X1 G1 B1 HR
    have CB := Lib.hid fun w (h : LRow w ao n ls) => backLinks_of ao n c ls w h hll
    have CF := Lib.hid fun w ao' c' ls' is' (h : GrRow w hb_ gs) (h' : LRow w ao' n ls') (hq : LksQ ls' is') => forcesOfLinks_of hb_ hc gs gi ao' n c' ls' is' w HG.out HGl.out h h' hq hll
    have CC := Lib.hid fun w (h : GrRow w hb_ gs) (h' : LRow w ao n ls) => countsOfLinks_of hb_ hc gs ao n c ls is w HG.out.valid HGl.out h h' HQ.out hll
    have CI := Lib.hid fun w (h : GrRow w hb_ gs) (h' : LRow w ao n ls) => islandsOf_of hb_ hc gs ao n c ls is w HG.out.valid HGl.out h h' HQ.out hll
    have CP := Lib.hid fun w (h : GrRow w hb_ gs) (h' : LRow w ao n ls) => pressuresOf_of hb_ hc gs gi ao n c ls is w HG.out HGl.out h h' HQ.out hll
    have CL := Lib.hid fun w (h : GrRow w hb_ gs) (h' : LRow w ao n ls) => looseGrains_of hb_ hc gs ao n c ls is w HG.out.valid HGl.out h h' HQ.out hll
    have CA := Lib.hid fun w (h : GrRow w hb_ gs) (h' : LRow w ao n ls) => areLinks_yes hb_ hc gs ao n c ls is w HG.out.valid HGl.out h h' HQ.out hll
    have CW := Lib.hid fun w (h : GrRow w hb_ gs) (h' : LRow w ao n ls) => worstOff_of hb_ hc gs gi ao n c ls is w HG.out HFr.out HGl.out h h' HQ.out hll
    have CS := Lib.hid fun w (h : GrRow w hb_ gs) (h' : LRow w ao n ls) => strongLinks_of hb_ hc gs ao n c ls is w HG.out.valid HGl.out h h' HQ.out hll
    have CN := Lib.hid fun w (h' : LRow w ao n ls) => binsOfPushes_of ao n c ls is w h' HQ.out hll
    go_wp2_with fail
    refine (CB.out _ V3.out.l).mono ?_
    rintro e w4 ⟨hb, rfl, ho⟩
    have V4 := Lib.hid (V3.out.next hb)
    have J4 := Lib.hid (below_next J3.out hb)
    have M4 := Lib.hid (lrow_own ho (by rw [List.length_map]; exact HN.out.symm))
    have d0 := V4.out.v.cell 0
    clear hb ho V3 J3 CB
    generalize w3.heap.size = bb at M4 ⊢
    go_wp2_with fail
    refine (CF.out _ _ _ _ _ V4.out.g V4.out.l HQ.out).mono ?_
    rintro e w5 ⟨hb, fb, rfl, ho⟩
    have V5 := Lib.hid (V4.out.next hb)
    have J5 := Lib.hid (below_next J4.out hb)
    have M5 := Lib.hid (M4.out.next hb)
    have F5 := Lib.hid (RowAt.of_own ho)
    have d1 := V5.out.v.cell 0
    clear hb ho V4 J4 M4 d0
    go_wp2_with fail
    refine (CF.out _ _ _ _ _ V5.out.g M5.out HQ.out.back).mono ?_
    rintro e w6 ⟨hb, ob, rfl, ho⟩
    have V6 := Lib.hid (V5.out.next hb)
    have J6 := Lib.hid (below_next J5.out hb)
    have F6 := Lib.hid (F5.out.next hb)
    have O6 := Lib.hid (RowAt.of_own ho)
    have d0 := V6.out.v.cell 0
    clear hb ho V5 J5 M5 F5 d1 CF
    go_wp2_with fail
    refine (CC.out _ V6.out.g V6.out.l).mono ?_
    rintro e w7 ⟨hb, cb, rfl, ho⟩
    have V7 := Lib.hid (V6.out.next hb)
    have J7 := Lib.hid (below_next J6.out hb)
    have F7 := Lib.hid (F6.out.next hb)
    have O7 := Lib.hid (O6.out.next hb)
    have C7 := Lib.hid (RowAt.of_own ho)
    have d1 := V7.out.v.cell 0
    clear hb ho V6 J6 F6 O6 d0 CC
    go_wp2_with fail
    refine (CI.out _ V7.out.g V7.out.l).mono ?_
    rintro e w8 ⟨hb, ib, icb, pI, m, rfl, hI, ho⟩
    have V8 := Lib.hid (V7.out.next hb)
    have J8 := Lib.hid (below_next J7.out hb)
    have F8 := Lib.hid (F7.out.next hb)
    have O8 := Lib.hid (O7.out.next hb)
    have C8 := Lib.hid (C7.out.next hb)
    have I8 := Lib.hid (RowAt.of_own ho)
    have HI := Lib.hid hI
    have d0 := V8.out.v.cell 0
    clear hb ho hI V7 J7 F7 O7 C7 d1 CI
    go_wp2_with fail
    refine (CP.out _ V8.out.g V8.out.l).mono ?_
    rintro e w9 ⟨hb, pb, P, rfl, hP, ho⟩
    have V9 := Lib.hid (V8.out.next hb)
    have J9 := Lib.hid (below_next J8.out hb)
    have F9 := Lib.hid (F8.out.next hb)
    have O9 := Lib.hid (O8.out.next hb)
    have C9 := Lib.hid (C8.out.next hb)
    have I9 := Lib.hid (I8.out.next hb)
    have P9 := Lib.hid (RowAt.of_own ho)
    have HP := Lib.hid hP
    have d1 := V9.out.v.cell 0
    clear hb ho hP V8 J8 F8 O8 C8 I8 d0 CP
    go_wp2_with fail
    refine (CL.out _ V9.out.g V9.out.l).mono ?_
    rintro e w10 ⟨hb, la, lc, rfl⟩
    have V10 := Lib.hid (V9.out.next hb)
    have J10 := Lib.hid (below_next J9.out hb)
    have F10 := Lib.hid (F9.out.next hb)
    have O10 := Lib.hid (O9.out.next hb)
    have C10 := Lib.hid (C9.out.next hb)
    have I10 := Lib.hid (I9.out.next hb)
    have P10 := Lib.hid (P9.out.next hb)
    have d0 := V10.out.v.cell 0
    clear hb V9 J9 F9 O9 C9 I9 P9 d1 CL
    go_wp2_with fail
    refine (CA.out _ V10.out.g V10.out.l).mono ?_
    rintro e w11 ⟨rfl, hb⟩
    have V11 := Lib.hid (V10.out.next hb)
    have J11 := Lib.hid (below_next J10.out hb)
    have F11 := Lib.hid (F10.out.next hb)
    have O11 := Lib.hid (O10.out.next hb)
    have C11 := Lib.hid (C10.out.next hb)
    have I11 := Lib.hid (I10.out.next hb)
    have P11 := Lib.hid (P10.out.next hb)
    clear hb V10 J10 F10 O10 C10 I10 P10 d0 CA
    have hm1 := HI.out.m.1
    have hm2 := HI.out.m.2
    have hm3 : ¬ ((m : Int) < 1) := by omega
    have hm4 : ¬ ((4 : Int) < (m : Int)) := by omega
    go_wp2_with fail
    have HSum := Lib.hid fun k (hk : k ≤ 4) => sum_cq (fun j hj => force_cq HQ.out (by rw [← HN.out]; exact hll) n (by rw [← HN.out]; exact Nat.le_refl _) j hj) (by omega) (by omega) k hk
    have HFk := Lib.hid fun j (hj : j < 4) => force_cq HQ.out (by rw [← HN.out]; exact hll) n (by rw [← HN.out]; exact Nat.le_refl _) j hj
    have HEq := Lib.hid fun k (hk : k < 4) => (by rw [HN.out]; exact back_eq HQ.out (by rw [← HN.out]; exact hll) k hk : FloatKind.f32.format.order (forceW ls n k).1 (forceW (ls.map Lk.back) n k).1 = some .eq ∧ FloatKind.f32.format.order (forceW ls n k).2 (forceW (ls.map Lk.back) n k).2 = some .eq)
    have HTb := Lib.hid (totC_bounds ls (by rw [← HN.out]; exact hll))
    have HCb := Lib.hid fun k => (by have := cntF_bounds ls k; rw [← HN.out] at this; omega : 0 ≤ cntF ls k ∧ cntF ls k ≤ 12)
    go_loopw [22, 23, 24, 25] (fun s t z i wr => ∃ (W : World) (k : Nat), W = wr ∧ k ≤ 4 ∧ s = .complex .f32 (sumF (forceW ls n) k).1 (sumF (forceW ls n) k).2 ∧ t = .int .i64 (totC ls k) ∧ z = .int .i64 ((looseL ls k).length : Nat) ∧ i = .int .i64 k ∧ Below w11.heap.size w11 wr) (fun _ _ _ i _ => 4 - (intOf i).toNat)
    case atStart => exact ⟨_, 0, rfl, by omega, rfl, rfl, rfl, rfl, Below.refl _ _⟩
    case round =>
      obtain ⟨W, k, rfl, hk, rfl, rfl, rfl, rfl, hB⟩ := hrel
      by_cases hlt : k < 4
      · have x1 := (F11.out.next hB) k _ (cm_at hlt)
        have x2 := (O11.out.next hB) k _ (cm_at hlt)
        have x3 := (C11.out.next hB) k _ (vm_at hlt)
        have x4 := (I11.out.next hB) k _ (vm_at hlt)
        have x5 := (P11.out.next hB) k _ (fm_at hlt)
        have hs := add_cq2 (HSum.out k hk) (HFk.out k hlt) (by omega) (by omega)
        have e1 := fun w => run_csum (P := Try.prog) .add (Or.inl rfl) 35 _ _ _ _ _ _ hs.1 hs.2.1 w
        have nq := neq_sameL (HEq.out k hlt).1 (HEq.out k hlt).2 Try.prog 35
        have hsx : sumF (forceW ls n) (k + 1) = (addW (sumF (forceW ls n) k).1 (forceW ls n k).1, addW (sumF (forceW ls n) k).2 (forceW ls n k).2) := rfl
        have htx : totC ls (k + 1) = totC ls k + cntF ls k := rfl
        have hib := HI.out.b k hlt
        have hpl := HP.out.l k hlt
        have hpz := HP.out.z k hlt
        have htb := HTb.out k hk
        have hcb := HCb.out k
        have hll2 := looseL_len ls k
        have HB := Lib.hid hB
        have hi1 : ¬ (pI k < 0) := by omega
        have hi2 : ¬ ((m : Int) ≤ pI k) := by omega
        clear hB hs
        generalize (forceW (ls.map Lk.back) n k).1 = r1 at x2 nq
        generalize (forceW (ls.map Lk.back) n k).2 = r2 at x2 nq
        generalize addW (sumF (forceW ls n) k).1 (forceW ls n k).1 = s1 at e1 hsx
        generalize addW (sumF (forceW ls n) k).2 (forceW ls n k).2 = s2 at e1 hsx
        generalize (sumF (forceW ls n) k).1 = y1 at e1 ⊢
        generalize (sumF (forceW ls n) k).2 = y2 at e1 ⊢
        generalize (forceW ls n k).1 = p1 at x1 nq e1
        generalize (forceW ls n k).2 = p2 at x1 nq e1
        generalize pI k = z4 at x4 hi1 hi2 hib
        have HSx := Lib.hid hsx
        by_cases hc : cntF ls k < 1
        · have h0 : cntF ls k = 0 := by omega
          have hy := Lib.hid (looseL_yes hc)
          have hP0 := hpz h0
          rw [h0] at x3 htx
          rw [hP0] at x5
          have HTx := Lib.hid htx
          have g1 : (FloatKind.f32.format.order 0 0 == some .lt) = false := by decide +kernel
          have g2 : (FloatKind.f32.format.order 0 0 == some .eq) = true := by decide +kernel
          generalize totC ls k = t0 at htb HTx
          clear hpl hpz hP0 h0 hc hsx htx hcb hib
          go_wp2_with fail
          go_quiet (fail)
          go_wp2_with fail
          go_roundw
          case rel => exact ⟨_, k + 1, rfl, by omega, by rw [HSx.out], by rw [HTx.out, Int.add_zero], by rw [hy.out, List.length_append]; rfl, by go_num, below_drewN HB.out nq⟩
          case measure => simp [intOf]; omega
        · have hy := Lib.hid (looseL_no hc)
          have HTx := Lib.hid htx
          have hz3 : 1 ≤ cntF ls k ∧ cntF ls k ≤ 12 := by omega
          generalize cntF ls k = z3 at x3 HTx hz3
          generalize totC ls k = t0 at htb HTx
          generalize P k = pp at x5 hpl
          have hz0 : (z3 == 0) = false := by simp; omega
          have hz1 : ¬ (z3 = 0) := by omega
          clear hpz hc hsx htx hcb hib
          cases hr : (FloatKind.f32.format.order pp 0 == some .eq)
          all_goals
            go_wp2_with fail
            go_quiet (fail)
            go_wp2_with fail
            go_roundw
            case rel => exact ⟨_, k + 1, rfl, by omega, by rw [HSx.out], by rw [HTx.out], by rw [hy.out], by go_num, below_drewN HB.out nq⟩
            case measure => simp [intOf]; omega
      · obtain rfl : k = 4 := by omega
        have V12 := Lib.hid (V11.out.next hB)
        have J12 := Lib.hid (below_next J11.out hB)
        have F12 := Lib.hid (F11.out.next hB)
        have I12 := Lib.hid (I11.out.next hB)
        clear hB V11 J11 F11 I11 O11 C11 P11 HSum HFk HEq HTb HCb
        generalize W = w12 at V12 J12 F12 I12 ⊢
        go_wp2_with fail
        go_loopw [26] (fun i wr => ∃ (W : World) (k : Nat), W = wr ∧ k ≤ n ∧ i = .int .i64 k ∧ Below w12.heap.size w12 wr) (fun i _ => n - (intOf i).toNat)
        case atStart => exact ⟨_, 0, rfl, Nat.zero_le _, rfl, Below.refl _ _⟩
        case round =>
          obtain ⟨W, k, rfl, hk, rfl, hB⟩ := hrel
          by_cases hlt : k < n
          · have hkl : k < ls.length := by rw [← HN.out]; exact hlt
            have hq := HQ.out.2 k hkl
            have hsame := HI.out.l k hkl
            obtain ⟨lb, rfl⟩ := V12.out.l.addr (by omega)
            obtain ⟨y0, y1, _⟩ := (V12.out.l.next hB).cell lb rfl k hlt
            have h1 := hq.ha
            have h2 := hq.hb
            generalize ls.getD k default = l at y0 y1 h1 h2 hsame
            have x1 := (I12.out.next hB) l.a _ (vm_at h1)
            have x2 := (I12.out.next hB) l.b _ (vm_at h2)
            rw [← hsame] at x2
            have h1i : (l.a : Int) < 4 := by omega
            have h2i : (l.b : Int) < 4 := by omega
            generalize pI l.a = z at x1 x2
            have hne : (z != z) = false := by simp
            have HB := Lib.hid hB
            obtain ⟨a, b, x, y⟩ := l
            dsimp only at y0 y1 x1 x2 h1 h2 h1i h2i
            clear hB hq hsame
            go_wp2_with fail
            go_quiet (fail)
            go_wp2_with fail
            go_roundw
            case rel => exact ⟨_, k + 1, rfl, by omega, by go_num, below_drewN HB.out nq⟩
            case measure => simp [intOf]; omega
          · obtain rfl : n = k := by omega
            have V13 := Lib.hid (V12.out.next hB)
            have J13 := Lib.hid (below_next J12.out hB)
            have F13 := Lib.hid (F12.out.next hB)
            clear hB V12 J12 F12 I12 hlt hk
            generalize W = w13 at V13 J13 F13 ⊢
            have d0 := V13.out.v.cell 0
            go_wp2_with fail
            refine (CW.out _ V13.out.g V13.out.l).mono ?_
            rintro e w14 ⟨hb, j, hj, rfl⟩
            have V14 := Lib.hid (V13.out.next hb)
            have J14 := Lib.hid (below_next J13.out hb)
            have x1 := (F13.out.next hb) j _ (cm_at hj)
            have hFj := force_cq HQ.out (by rw [← HN.out]; exact hll) n (by rw [← HN.out]; exact Nat.le_refl _) j hj
            have hLo := fun w => longOf_q hFj (by omega) w
            have hfin := (long_q hFj (by omega)).2
            have hn2 := fin_not_nan hfin
            have hord := ord32 (rootT (pw (forceI ls is n j)))
            rw [hn2, if_neg (by decide)] at hord
            have hj1 : ¬ ((j : Int) < 0) := by omega
            have hj2 : ¬ ((3 : Int) < (j : Int)) := by omega
            have hj3 : (j : Int) < 4 := by omega
            generalize rootT (pw (forceI ls is n j)) = v at hLo hord ⊢
            generalize (forceW ls n j).1 = p1 at x1 hLo
            generalize (forceW ls n j).2 = p2 at x1 hLo
            have HLo := Lib.hid hLo
            clear hb hFj hLo hfin hn2 V13 J13 F13 d0 CW
            go_wp2_with fail
            refine (HLo.out _).mono ?_
            rintro e w15 ⟨rfl, mq, rfl⟩
            have V15 := Lib.hid (V14.out.next (below_drewN (Below.refl _ w14) mq))
            have J15 := Lib.hid (below_drewN J14.out mq)
            have d0 := V15.out.v.cell 0
            clear V14 J14 x1 HLo
            generalize w14.drewN mq = w15 at V15 J15 d0 ⊢
            go_wp2_with fail
            refine (CS.out _ V15.out.g V15.out.l).mono ?_
            rintro e w16 ⟨hb, sa, sc, rfl⟩
            have V16 := Lib.hid (V15.out.next hb)
            have J16 := Lib.hid (below_next J15.out hb)
            clear hb V15 J15 d0 hord hj1 hj2 hj3 hj CS
            go_wp2_with fail
            refine (CN.out _ V16.out.l).mono ?_
            rintro e w17 ⟨hb, bn, rfl, ho⟩
            have J17 := Lib.hid (below_next J16.out hb)
            have r0 := (RowAt.of_own ho) 0 _ (vm_at (by omega))
            have r1 := (RowAt.of_own ho) 1 _ (vm_at (by omega))
            have hba := bins_all is n
            have hb0 := binF_bounds is n 0
            have hb1 := binF_bounds is n 1
            have hsl := strongN_le is n
            generalize binF is n 0 = z0 at r0 hba hb0
            generalize binF is n 1 = z1 at r1 hba hb1
            generalize strongN is n = sn at hba hsl ⊢
            have HBa := Lib.hid hba
            clear hb ho V16 J16 CN hba
            go_wp2_with fail
            go_loopw [34, 35] (fun f i wr => ∃ (k : Nat) (fv : Int), w17 = wr ∧ i = .int .i64 k ∧ f = .int .i64 fv ∧ ((k = 0 ∧ fv = 0) ∨ (k = 1 ∧ fv = z0) ∨ (k = 2 ∧ fv = z0 + z1))) (fun _ i _ => 2 - (intOf i).toNat)
            case atStart => exact ⟨0, 0, rfl, rfl, rfl, .inl ⟨rfl, rfl⟩⟩
            case round =>
              obtain ⟨k, fv, rfl, rfl, rfl, hst⟩ := hrel
              rcases hst with ⟨rfl, rfl⟩ | ⟨rfl, rfl⟩ | ⟨rfl, rfl⟩
              · go_wp2_with fail
                go_roundw
                case rel => exact ⟨1, z0, trivial, rfl, by simp, .inr (.inl ⟨rfl, rfl⟩)⟩
                case measure => simp [intOf]
              · go_wp2_with fail
                go_roundw
                case rel => exact ⟨2, _, trivial, rfl, rfl, .inr (.inr ⟨rfl, rfl⟩)⟩
                case measure => simp [intOf]
              · have hsz := sum_none HQ.out (by rw [← HN.out]; exact hll)
                rw [← HN.out] at hsz
                have HZ := Lib.hid fun w => longOf_zero _ _ w hsz.1 hsz.2
                have htot := totC_is HQ.out
                rw [← HN.out] at htot
                have hfin : (((sn : Nat) : Int) + (z0 + z1) == (n : Int)) = true := by have := HBa.out; simp; omega
                have hmi : (FloatKind.f32.format.order 0 981668463 == some .lt) = true := by decide +kernel
                clear r0 r1 hsz
                generalize (sumF (forceW ls n) 4).1 = y1 at HZ ⊢
                generalize (sumF (forceW ls n) 4).2 = y2 at HZ ⊢
                go_wp2_with fail
                refine (HZ.out _).mono ?_
                rintro e w18 ⟨rfl, rfl⟩
                go_wp2_with fail
                go_ret
                exact ⟨rfl, J17.out⟩
end Go.Proofs.Ytmkpkkaedhekdaa

namespace Go.Proofs.Ytmkpkkaedhekdaa.pFnLinks
open Go.ChangeShapes Go.WideShapes Go.ChangeAt Go.RowKit Fl
open Go.ChangeMaps (open_string shut_string)

theorem own : ownKnob Try.prog.godebug = none := by kernel_rfl
theorem laidOut : laidOutB Try.prog = true := by kernel_rfl


set_option maxRecDepth 100000 in
theorem lifted (os : Os) (started : os.Started) (H : Type) (enc : TypeId × Value → H) :
    ReturnsInHanded {} Try.checked os 3 .any (Rows.fnLinksSpec.pre6 enc Try.prog Try.f3 Rows.fnLinksRow.domain false) (Rows.fnLinksSpec.post enc Try.prog Try.f3 false true false false) := by
  refine returnsInHanded_of_change (C := Try.checked) own started (by kernel_rfl) Try.func3
    (ChangeSpec.witness6 (enc := enc) (C := Try.checked) false ⟨#[], #[.slice none 0 0, .slice none 0 0], []⟩ 8 (by kernel_rfl) (by kernel_rfl) (by kernel_rfl) (by kernel_rfl)) ?_
  intro W base args ds gs before hval0 hW hcnd _
  have hval : ∀ (j : Nat) t v, Try.f3.params[j]? = some t → args[j]? = some v → Value.okWide Try.prog W .any base t v := hval0
  have hW' := hW
  obtain ⟨p, q, hA0, hV, rfl, hfz, hnd⟩ := hW
  have hA : DataW.TrodAll enc Try.prog W 0 (fun _ => true) true Try.f3.params.toList args.toList ds p := hA0
  rw [Try.params3] at hA hval
  obtain ⟨v0, vs0, d0, ds0, p0, q0, hargs, rfl, rfl, h0, r0⟩ := trodAll_cons hA
  obtain ⟨v1, vs1, d1, ds1, p1, q1, rfl, rfl, rfl, h1, r1⟩ := trodAll_cons r0
  obtain ⟨rfl, rfl, rfl⟩ := trodAll_nil r1
  obtain rfl : args = #[v0, v1] := by cases args; simp_all
  obtain ⟨rfl, rfl⟩ := trodVars_none hV
  obtain ⟨a0, n0, c0, rfl⟩ := okWide_slice Try.underlying22 (hval 0 22 v0 rfl rfl)
  have k0 := h0
  have lt0 : ∀ x ∈ p0, x.block < W.heap.size := by obtain ⟨m, hm⟩ := k0; exact DataW.trod_lt m _ _ _ hm
  have br0 := open_brow Try.underlying22 Try.underlying5 (by kernel_rfl) h0
  obtain ⟨a1, n1, c1, rfl⟩ := okWide_slice Try.underlying22 (hval 1 22 v1 rfl rfl)
  have k1 := h1
  have lt1 : ∀ x ∈ p1, x.block < W.heap.size := by obtain ⟨m, hm⟩ := k1; exact DataW.trod_lt m _ _ _ hm
  have br1 := open_brow Try.underlying22 Try.underlying5 (by kernel_rfl) h1
  clear hA0 hval0
  refine (walk a0 n0 c0 a1 n1 c1 W br0 br1).mono fun e W' ⟨he, bel⟩ => ?_
  subst he
  exact ⟨_, rfl, _, _, _, [], _, [], hW', trodAll_mk1 (shut_bool Try.underlying4 _), (trodAll_cons_mk (Below.trod laidOut (by kernel_rfl) (of_decide_eq_true (by kernel_rfl)) k0 bel lt0) (trodAll_cons_mk (Below.trod laidOut (by kernel_rfl) (of_decide_eq_true (by kernel_rfl)) k1 bel lt1) trodAll_mk0)), rfl, bel.frame _, fun h => by cases h⟩

theorem fnLinks_holds : Rows.FnLinksSaid :=
  OpenClaim.holds_of_wide 3 Try.f3 rfl rfl rfl rfl rfl rfl rfl ⟨rfl, rfl, rfl, rfl, rfl⟩ rfl rfl rfl rfl rfl (by kernel_rfl) Try.func3 (by kernel_rfl)
    (of_decide_eq_true (by kernel_rfl)) (by unfold Func.isWrapper; rw [if_neg (of_decide_eq_false (by kernel_rfl))]; exact ⟨rfl, rfl⟩)
    (fun os started H enc _ => lifted os started H enc)

end Go.Proofs.Ytmkpkkaedhekdaa.pFnLinks
