/- The mean of a view's values: both sides give the same number, or fail. -/
import Derived.Test.YtbggklhnnjikjaaVw
import Derived.Test.YtbggklhnnjikjaaSums
import Derived.Laws.Cover2
namespace Go.Proofs.Ytbggklhnnjikjaa
open Go.RowKit Fl

theorem quot_not_nan (g : Nat) (a b d : Ieee.Datum) (h : a.quotient g b = some d) : d.isNaN = false := by
  cases a <;> cases b <;> simp only [Ieee.Datum.quotient] at h <;> first | (cases h; rfl) | cases h | skip
  repeat' split at h
  all_goals first | (cases h; rfl) | cases h
theorem quo32_not_nan {x y r : Nat} (h : floatBits .quo .f32 x y = some r) : nan32 r = false :=
  map_write_not_nan Ieee.single (by decide) (d := (Ieee.single.read x).quotient (Ieee.single.fractionBits + 2) (Ieee.single.read y)) h (fun _ hd => quot_not_nan _ _ _ _ hd)
theorem quo32_nan_left {x : Nat} (y : Nat) (h : nan32 x = true) : floatBits .quo .f32 x y = none := by
  obtain ⟨s, t, hx⟩ := nan_read h
  show Ieee.single.div x y = none
  unfold Ieee.Format.div; rw [hx]; cases Ieee.single.read y <;> rfl
def quoO (o : Option Nat) (y : Nat) : Option Nat := o.bind fun s => floatBits .quo .f32 s y
theorem quoO_nan {o : Option Nat} {y r : Nat} (h : quoO o y = some r) : nan32 r = false := by
  cases o with
  | none => cases h
  | some s => exact quo32_not_nan h
/-- one quotient: its result, in whatever world; the world has drawn, or not -/
theorem quo_step {P : Program} (t : TypeId) (v y : Nat) (o : Option Nat) (w : World) (h : Rep v o) :
    ∃ r w', (binOp .quo t (.float .f32 v) (.float .f32 y)).run P w = .ok (.float .f32 r) w' ∧ Rep r (quoO o y) ∧ Quiet w w' := by
  cases hf : floatBits .quo .f32 v y with
  | none =>
    refine ⟨_, _, run_arith_nan .quo t .f32 v y w (by simp) hf, ?_, Quiet.one _⟩
    have : quoO o y = none := by
      cases o with
      | none => rfl
      | some r => obtain ⟨rfl, _⟩ := h; exact hf
    rw [this]
    exact nanb32_nan _ _ _
  | some r =>
    refine ⟨r, w, run_float_arith w .quo t .f32 v y r hf, ?_, Quiet.refl _⟩
    cases o with
    | none => have := quo32_nan_left y h; rw [hf] at this; cases this
    | some s => obtain ⟨rfl, _⟩ := h; exact (show Rep r (floatBits .quo .f32 v y) by rw [hf]; exact ⟨rfl, quo32_not_nan hf⟩)

/-- what a finite number is returned as -/
def fitN (o : Option Nat) : Nat × Bool := match o with | some r => if fin32 r then (r, true) else (0, false) | none => (0, false)
theorem fitN_nan (o : Option Nat) : nan32 (fitN o).1 = false := by
  cases o with
  | none => decide
  | some r =>
    cases h : fin32 r
    · rw [show fitN (some r) = (0, false) by simp [fitN, h]]; decide
    · rw [show fitN (some r) = (r, true) by simp [fitN, h]]
      simp only [fin32, Bool.and_eq_true, Bool.not_eq_true'] at h; exact h.1
theorem fitN_rep {v : Nat} {o : Option Nat} (h : Rep v o) : (if fin32 v then v else 0, fin32 v) = fitN o := by
  cases o with
  | none => have : fin32 v = false := by have h' : nan32 v = true := h; simp [fin32, h']
            rw [this]; rfl
  | some r =>
    obtain ⟨rfl, _⟩ := h
    cases h : fin32 v <;> simp [fitN, h]
theorem finiteNumber_any (v : Nat) (w : World) : Calls Try.prog 59 #[.float .f32 v] w fun e w' => e = .returned (.tuple #[.float .f32 (if fin32 v then v else 0), .bool (fin32 v)]) ∧ Quiet w w' := by
  have HC := Lib.hid fun w => isFinite_any v w
  cases h : fin32 v
  all_goals
    rw [h] at HC
    clear h
    go_enter Try.func59, Try.ntmps59
    go_wp2_with (go_at_call 94; go_loud (refine (HC.out _).mono ?_); rintro e w1 ⟨rfl, q⟩)
    go_ret2
    exact ⟨rfl, q⟩
theorem finiteNumber_of (v : Nat) (o : Option Nat) (w : World) (h : Rep v o) : Calls Try.prog 59 #[.float .f32 v] w fun e w' => e = .returned (.tuple #[.float .f32 (fitN o).1, .bool (fitN o).2]) ∧ Quiet w w' := by
  rw [← fitN_rep h]; exact finiteNumber_any v w
theorem l02Number_any (v : Nat) (w : World) : Calls Try.prog 84 #[.float .f32 v] w fun e w' => e = .returned (.tuple #[.float .f32 (if fin32 v then v else 0), .bool (fin32 v)]) ∧ Quiet w w' := by
  have HC := Lib.hid fun w => l01Finite_any v w
  cases h : fin32 v
  all_goals
    rw [h] at HC
    clear h
    go_enter Try.func84, Try.ntmps84
    go_wp2_with (go_at_call 72; go_loud (refine (HC.out _).mono ?_); rintro e w1 ⟨rfl, q⟩)
    go_ret2
    exact ⟨rfl, q⟩
theorem l02Number_of (v : Nat) (o : Option Nat) (w : World) (h : Rep v o) : Calls Try.prog 84 #[.float .f32 v] w fun e w' => e = .returned (.tuple #[.float .f32 (fitN o).1, .bool (fitN o).2]) ∧ Quiet w w' := by
  rw [← fitN_rep h]; exact l02Number_any v w
/-- the mean -/
def meanP (W H : Int) (zs : List Nat) : Nat × Bool := if okView W H zs then fitN (quoO (sumO zs) (floatOfInt .f32 (zs.length : Int))) else (0, false)
theorem meanP_nan (W H : Int) (zs : List Nat) : nan32 (meanP W H zs).1 = false := by
  unfold meanP
  split
  · exact fitN_nan _
  · decide
theorem okView_len {W H : Int} {zs : List Nat} (h : okView W H zs = true) : 1 ≤ zs.length ∧ zs.length ≤ 256 := by
  simp only [okView, Bool.and_eq_true, decide_eq_true_eq] at h
  obtain ⟨h1, h2, h3, _⟩ := h
  have := mul_bounds h1 h2
  omega
set_option maxHeartbeats 1600000 in
theorem meanOfView_any (W H : Int) (b n c : Nat) (zs : List Nat) (w : World) (hr : FRow w (some ⟨b, 0, none⟩) n zs) (hm : n ≤ 1048576) :
    Calls Try.prog 39 #[vwVal W H (some ⟨b, 0, none⟩) n c] w fun e w' => e = .returned (.tuple #[.float .f32 (meanP W H zs).1, .bool (meanP W H zs).2]) ∧ Below w.heap.size w w' := by
  have HV := fun w (h : FRow w (some ⟨b, 0, none⟩) n zs) => validView_any W H b n c zs w h hm
  have hbel := (Below.refl w.heap.size w).alloc (Nat.le_refl _) (.cells #[.int .i64 W, .int .i64 H, .slice (some ⟨b, 0, none⟩) n c] 61)
  have hblk := blk_new w 61 #[.int .i64 W, .int .i64 H, .slice (some ⟨b, 0, none⟩) n c] _ rfl
  have HR := Lib.hid (hr.below hbel (Nat.le_refl _))
  have HK := Lib.hid hblk
  have HL := Lib.hid hr.len
  have HBel := Lib.hid hbel
  clear hbel hr hblk
  cases hok : okView W H zs
  · rw [hok] at HV
    have HV' := Lib.hid HV
    rw [show meanP W H zs = (0, false) by simp [meanP, hok]]
    clear hok HV
    unfold vwVal at *
    go_enter Try.func39, Try.ntmps39
    go_wp2_with (go_at_call 34; (with_reducible refine (HV'.out _ HR.out).mono ?_); rintro e w1 ⟨rfl, hb⟩)
    go_ret2
    exact ⟨rfl, below_next HBel.out hb⟩
  · rw [hok] at HV
    have HV' := Lib.hid HV
    have hl := okView_len hok
    rw [HL.out] at hl
    rw [show meanP W H zs = fitN (quoO (sumO zs) (floatOfInt .f32 (n : Int))) by simp [meanP, hok, HL.out]]
    have HS := Lib.hid fun w (h : FRow w (some ⟨b, 0, none⟩) n zs) => sumNumbers_few (some ⟨b, 0, none⟩) n c zs w h hl.2
    clear hok HV hl
    unfold vwVal at *
    go_enter Try.func39, Try.ntmps39
    go_wp2_with fail
    refine (HV'.out _ HR.out).mono ?_
    rintro e w1 ⟨rfl, hb⟩
    have K1 := Lib.hid (below_next HBel.out hb)
    have F1 := Lib.hid (HR.out.below hb (Nat.le_refl _))
    have A1 := Lib.hid (blk_next HK.out hb)
    have a0 := A1.out.cell 0
    have a1 := A1.out.cell 1
    have a2 := A1.out.cell 2
    clear hb
    go_wp2_with fail
    refine (HS.out _ F1.out).mono ?_
    rintro e w2 ⟨⟨v, rfl, hv⟩, m2, rfl⟩
    obtain ⟨r, w3, h1, h2, h3⟩ := quo_step (P := Try.prog) 35 v (floatOfInt .f32 (n : Int)) _ (w1.drewN m2) hv
    have HN := Lib.hid fun w => finiteNumber_of r _ w h2
    obtain ⟨m3, rfl⟩ := h3
    clear hv h2
    go_wp2_with fail
    refine (HN.out _).mono ?_
    rintro e w4 ⟨rfl, m4, rfl⟩
    go_wp2
    go_ret2
    exact ⟨rfl, below_drewN K1.out _⟩
set_option maxHeartbeats 1600000 in
theorem specMeanOfView_any (W H : Int) (b n c : Nat) (zs : List Nat) (w : World) (hr : FRow w (some ⟨b, 0, none⟩) n zs) (hm : n ≤ 1048576) :
    Calls Try.prog 38 #[vwVal W H (some ⟨b, 0, none⟩) n c] w fun e w' => e = .returned (.tuple #[.float .f32 (meanP W H zs).1, .bool (meanP W H zs).2]) ∧ Below w.heap.size w w' := by
  have hbel := (Below.refl w.heap.size w).alloc (Nat.le_refl _) (.cells #[.int .i64 W, .int .i64 H, .slice (some ⟨b, 0, none⟩) n c] 61)
  have hblk := blk_new w 61 #[.int .i64 W, .int .i64 H, .slice (some ⟨b, 0, none⟩) n c] _ rfl
  have HV := (l06View_any w.heap.size W H b n c zs _ (hr.below hbel (Nat.le_refl _)) hm (hblk.cell 0) (hblk.cell 1) (hblk.cell 2))
  have HR := Lib.hid (hr.below hbel (Nat.le_refl _))
  have HK := Lib.hid hblk
  have HL := Lib.hid hr.len
  have HBel := Lib.hid hbel
  clear hbel hr hblk
  cases hok : okView W H zs
  · rw [hok] at HV
    have HV' := Lib.hid HV
    rw [show meanP W H zs = (0, false) by simp [meanP, hok]]
    clear hok HV
    unfold vwVal at *
    go_enter Try.func38, Try.ntmps38
    go_wp2_with (go_at_call 79; (with_reducible refine (HV'.out).mono ?_); rintro e w1 ⟨rfl, hb⟩)
    go_ret2
    exact ⟨rfl, below_next HBel.out (hb.below _)⟩
  · rw [hok] at HV
    have HV' := Lib.hid HV
    have hl := okView_len hok
    rw [HL.out] at hl
    rw [show meanP W H zs = fitN (quoO (sumO zs) (floatOfInt .f32 (n : Int))) by simp [meanP, hok, HL.out]]
    clear hok HV
    unfold vwVal at *
    go_enter Try.func38, Try.ntmps38
    go_wp2_with fail
    refine (HV'.out).mono ?_
    rintro e w1 ⟨rfl, m1, rfl⟩
    have F1 := Lib.hid (HR.out.quiet ⟨m1, rfl⟩)
    have a0 := HK.out.cell 0
    have a1 := HK.out.cell 1
    have a2 := HK.out.cell 2
    go_wp2
    go_loopw [4, 5] (fun s i wr => ∃ k v : Nat, k ≤ n ∧ i = .int .i64 k ∧ s = .float .f32 v ∧ Hid (Rep v (sumO (zs.take k))) ∧ Quiet (w.alloc (.cells #[.int .i64 W, .int .i64 H, .slice (some ⟨b, 0, none⟩) n c] 61)) wr) (fun _ i _ => n - (intOf i).toNat)
    case atStart => exact ⟨0, 0, Nat.zero_le _, rfl, rfl, rep_start, _, rfl⟩
    case round =>
      obtain ⟨k, v, hk, rfl, rfl, hr, m, rfl⟩ := hrel
      by_cases hlt : k < n
      · have hx := HR.out.cell _ rfl k hlt
        have hs := Lib.hid (take_snocN zs k (by rw [HL.out]; exact hlt))
        have e1 : (⟨b, 0, none⟩ : Addr).add k = ⟨b, k, none⟩ := by unfold Addr.add; split <;> simp_all
        rw [e1] at hx
        clear e1
        obtain ⟨r, w', h1, h2, h3⟩ := add_step (P := Try.prog) 35 v (zs.getD k 0) _ ((w.alloc (.cells #[.int .i64 W, .int .i64 H, .slice (some ⟨b, 0, none⟩) n c] 61)).drewN m) hr.out
        have h2' := Lib.hid h2
        obtain ⟨m2, rfl⟩ := h3
        clear hr h2
        generalize zs.getD k 0 = x at hx h1 h2' hs
        go_wp2
        go_roundw
        case rel => exact ⟨k + 1, r, by omega, by go_num, rfl, by show Rep _ _; rw [hs.out, sumO_snoc]; exact h2'.out, _, rfl⟩
        case measure => simp [intOf]; omega
      · have hv : Rep v (sumO zs) := by have := hr.out; rwa [List.take_of_length_le (by rw [HL.out]; omega)] at this
        obtain ⟨r, w3, h1, h2, h3⟩ := quo_step (P := Try.prog) 35 v (floatOfInt .f32 (n : Int)) _ ((w.alloc (.cells #[.int .i64 W, .int .i64 H, .slice (some ⟨b, 0, none⟩) n c] 61)).drewN m) hv
        have HN := Lib.hid fun w => l02Number_of r _ w h2
        obtain ⟨m3, rfl⟩ := h3
        clear hv h2 hr
        go_wp2_with fail
        refine (HN.out _).mono ?_
        rintro e w4 ⟨rfl, m4, rfl⟩
        go_wp2
        go_ret2
        exact ⟨rfl, below_drewN HBel.out _⟩
end Go.Proofs.Ytbggklhnnjikjaa
