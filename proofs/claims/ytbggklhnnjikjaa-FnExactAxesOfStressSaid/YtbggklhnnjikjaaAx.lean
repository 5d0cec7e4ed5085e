/- The axes of a stress: both sides give the same numbers, or fail. -/
import Derived.Test.YtbggklhnnjikjaaLg
import Derived.Test.YtbggklhnnjikjaaAngt
import Derived.Test.YtbggklhnnjikjaaRu
namespace Go.Proofs.Ytbggklhnnjikjaa
open Go.RowKit Fl
open Ieee (Datum)

theorem op_nan_left (op : BinOp) (hop : op = .add ∨ op = .sub ∨ op = .mul) {x : Nat} (y : Nat) (h : nan32 x = true) : floatBits op .f32 x y = none := by
  obtain ⟨s, t, hx⟩ := nan_read h
  rcases hop with rfl | rfl | rfl
  · show ((Ieee.single.read x).sum (Ieee.single.read y)).map Ieee.single.write = none
    rw [hx]; cases Ieee.single.read y <;> rfl
  · show ((Ieee.single.read x).sum (Ieee.single.read y).opposite).map Ieee.single.write = none
    rw [hx]; cases Ieee.single.read y <;> rfl
  · show ((Ieee.single.read x).product (Ieee.single.read y)).map Ieee.single.write = none
    rw [hx]; cases Ieee.single.read y <;> rfl
theorem op_nan_right (op : BinOp) (hop : op = .add ∨ op = .sub ∨ op = .mul) (x : Nat) {y : Nat} (h : nan32 y = true) : floatBits op .f32 x y = none := by
  obtain ⟨s, t, hx⟩ := nan_read h
  rcases hop with rfl | rfl | rfl
  · show ((Ieee.single.read x).sum (Ieee.single.read y)).map Ieee.single.write = none
    rw [hx]; cases Ieee.single.read x <;> rfl
  · show ((Ieee.single.read x).sum (Ieee.single.read y).opposite).map Ieee.single.write = none
    rw [hx]; cases Ieee.single.read x <;> rfl
  · show ((Ieee.single.read x).product (Ieee.single.read y)).map Ieee.single.write = none
    rw [hx]; cases Ieee.single.read x <;> rfl
theorem op_not_nan (op : BinOp) (hop : op = .add ∨ op = .sub ∨ op = .mul) {x y r : Nat} (h : floatBits op .f32 x y = some r) : nan32 r = false := by
  rcases hop with rfl | rfl | rfl
  · exact add32_not_nan h
  · exact sub32_not_nan h
  · exact mul32_not_nan h
def op2 (op : BinOp) (c : Nat) (p : Option Nat) : Option Nat := p.bind fun b => floatBits op .f32 c b
/-- one operation on a number and what may be a not-a-number -/
theorem bin_step {P : Program} (op : BinOp) (hop : op = .add ∨ op = .sub ∨ op = .mul) (t : TypeId) (c v : Nat) (p : Option Nat) (w : World) (h : Rep v p) :
    ∃ r w', (binOp op t (.float .f32 c) (.float .f32 v)).run P w = .ok (.float .f32 r) w' ∧ Rep r (op2 op c p) ∧ Quiet w w' := by
  have hop' : op = .add ∨ op = .sub ∨ op = .mul ∨ op = .quo := by rcases hop with h | h | h <;> simp [h]
  cases hf : floatBits op .f32 c v with
  | none =>
    refine ⟨_, _, run_arith_nan op t .f32 c v w hop' hf, ?_, Quiet.one _⟩
    have : op2 op c p = none := by
      cases p with
      | none => rfl
      | some r => obtain ⟨rfl, _⟩ := h; exact hf
    rw [this]
    exact nanb32_nan _ _ _
  | some r =>
    refine ⟨r, w, run_float_arith w op t .f32 c v r hf, ?_, Quiet.refl _⟩
    cases p with
    | none => have := op_nan_right op hop c h; rw [hf] at this; cases this
    | some s => obtain ⟨rfl, _⟩ := h; exact (show Rep r (floatBits op .f32 c v) by rw [hf]; exact ⟨rfl, op_not_nan op hop hf⟩)
theorem rep_of {v : Nat} {o : Option Nat} (h : RepR v o) : Rep v o := by cases o <;> exact h

theorem mulNumber_rep (c v : Nat) (p : Option Nat) (w : World) (h : Rep v p) : Calls Try.prog 98 #[.float .f32 c, .float .f32 v] w fun e w' => (∃ r, e = .returned (.float .f32 r) ∧ Rep r (op2 .mul c p)) ∧ Quiet w w' := by
  obtain ⟨r, w', h1, h2, m, rfl⟩ := bin_step (P := Try.prog) .mul (by simp) 35 c v p w h
  go_enter Try.func98, Try.ntmps98
  go_wp2
  go_ret
  exact ⟨⟨_, rfl, h2⟩, _, rfl⟩
theorem mulNumber_word (c v r : Nat) (w : World) (h : floatBits .mul .f32 c v = some r) : Calls Try.prog 98 #[.float .f32 c, .float .f32 v] w fun e w' => e = .returned (.float .f32 r) ∧ w = w' := by
  have he := fun w => run_float_arith (P := Try.prog) w .mul 35 .f32 _ _ _ h
  clear h
  go_enter Try.func98, Try.ntmps98
  go_wp2
  go_ret
  exact ⟨rfl, rfl⟩
theorem halfOf_rep (v : Nat) (p : Option Nat) (w : World) (h : Rep v p) : Calls Try.prog 76 #[.float .f32 v] w fun e w' => (∃ r, e = .returned (.float .f32 r) ∧ Rep r (op2 .mul 1056964608 p)) ∧ Quiet w w' := by
  have HM := Lib.hid fun w => mulNumber_rep 1056964608 v p w h
  clear h
  go_enter Try.func76, Try.ntmps76
  go_wp2_with (go_at_call 98; (with_reducible refine (HM.out _).mono ?_); rintro e w1 ⟨⟨r, rfl, hr⟩, q⟩; have HR := Lib.hid hr; clear hr)
  go_ret
  exact ⟨⟨_, rfl, HR.out⟩, q⟩
theorem halfOf_word (v r : Nat) (w : World) (h : floatBits .mul .f32 1056964608 v = some r) : Calls Try.prog 76 #[.float .f32 v] w fun e w' => e = .returned (.float .f32 r) ∧ w = w' := by
  have HM := Lib.hid fun w => mulNumber_word 1056964608 v r w h
  clear h
  go_enter Try.func76, Try.ntmps76
  go_wp2_with (go_at_call 98; (with_reducible refine (HM.out _).mono ?_); rintro e w1 ⟨rfl, rfl⟩)
  go_ret
  exact ⟨rfl, rfl⟩
theorem angleOf_rep (y x : Nat) (o : Option Nat) (w : World) (h : ∀ w, Calls Try.prog 110 #[.float .f32 y, .float .f32 x] w fun e w' => (∃ v, e = .returned (.float .f32 v) ∧ RepR v o) ∧ Quiet w w') :
    Calls Try.prog 77 #[.complex .f32 x y] w fun e w' => (∃ v, e = .returned (.float .f32 v) ∧ Rep v o) ∧ Quiet w w' := by
  have H := Lib.hid h
  clear h
  go_enter Try.func77, Try.ntmps77
  go_wp2_with (go_at_call 110; go_loud (refine (H.out _).mono ?_); rintro e w' ⟨⟨v, rfl, hv⟩, hq⟩)
  go_ret
  exact ⟨⟨_, rfl, rep_of hv⟩, hq⟩

/-- the words of a stress's axes -/
structure AxW (a b c e sm df sn m x y p q s : Nat) (o t : Option Nat) : Prop where
  h1 : floatBits .add .f32 a e = some sm
  h2 : floatBits .sub .f32 a e = some df
  h3 : floatBits .add .f32 b c = some sn
  h4 : floatBits .mul .f32 1056964608 sm = some m
  h5 : floatBits .mul .f32 1056964608 df = some x
  h6 : floatBits .mul .f32 1056964608 sn = some y
  nx : nan32 x = false
  ny : nan32 y = false
  hl : LongW x y p q s o
  ha : ∀ w, Calls Try.prog 74 #[.float .f32 y, .float .f32 x] w fun e w' => (∃ v, e = .returned (.float .f32 v) ∧ RepR v t) ∧ Quiet w w'
  hb : ∀ w, Calls Try.prog 110 #[.float .f32 y, .float .f32 x] w fun e w' => (∃ v, e = .returned (.float .f32 v) ∧ RepR v t) ∧ Quiet w w'
theorem axes_words {a b c e : Nat} (fa : fin32 a = true) (fb : fin32 b = true) (fc : fin32 c = true) (fe : fin32 e = true) : ∃ sm df sn m x y p q s o t, AxW a b c e sm df sn m x y p q s o t := by
  obtain ⟨sm, h1, n1⟩ := fin_sum fa fe
  obtain ⟨df, h2, n2⟩ := fin_sub fa fe
  obtain ⟨sn, h3, n3⟩ := fin_sum fb fc
  obtain ⟨m, h4, _⟩ := half_part n1
  obtain ⟨x, h5, px⟩ := half_part n2
  obtain ⟨y, h6, py⟩ := half_part n3
  obtain ⟨p, q, s, o, hl⟩ := long_words px py
  obtain ⟨t, _, ha, hb⟩ := angle_both y x
  exact ⟨sm, df, sn, m, x, y, p, q, s, o, t, h1, h2, h3, h4, h5, h6, px.1, py.1, hl, ha, hb⟩
def finO (o : Option Nat) : Bool := match o with | some r => fin32 r | none => false
theorem fin_rep {v : Nat} {o : Option Nat} (h : Rep v o) : fin32 v = finO o := by
  cases o with
  | none => have h' : nan32 v = true := h; simp [finO, fin32, h']
  | some r => obtain ⟨rfl, _⟩ := h; rfl
theorem rep_eq {v : Nat} {o : Option Nat} (h : Rep v o) (hf : finO o = true) : v = o.getD 0 := by
  cases o with
  | none => cases hf
  | some r => obtain ⟨rfl, _⟩ := h; rfl
def axesOk (m : Nat) (o t : Option Nat) : Bool := finO (op2 .add m o) && (finO (op2 .sub m o) && finO (op2 .mul 1056964608 t))
/-- what is returned -/
def axesV (m : Nat) (o t : Option Nat) : Value := if axesOk m o t then .tuple #[.float .f32 ((op2 .add m o).getD 0), .float .f32 ((op2 .sub m o).getD 0), .float .f32 ((op2 .mul 1056964608 t).getD 0), .bool true] else .tuple #[.float .f32 0, .float .f32 0, .float .f32 0, .bool false]
theorem frow_three' (w : World) (t : TypeId) (a b c g : Nat) (hg : w.heap.size = g) : FRow (w.alloc (.cells #[.float .f32 a, .float .f32 b, .float .f32 c] t)) (some ⟨g, 0, none⟩) 3 [a, b, c] := by
  subst hg
  exact ⟨rfl, fun _ => ⟨_, rfl⟩, fun x hx i hi => by
    obtain rfl := Option.some.inj hx
    have h := (World.ownsRow_lit (base := 0) (e := t) (size := 1) w #[.float .f32 a, .float .f32 b, .float .f32 c] 3 (Nat.zero_le _) (by decide) rfl).cells rfl i (.float .f32 ([a, b, c].getD i 0))
    refine h ?_
    match i, hi with
    | 0, _ => rfl
    | 1, _ => rfl
    | 2, _ => rfl⟩
theorem results_tmp4 {fn : Func} {t u v x : Tmp} (h : fn.results = #[.tmp t, .tmp u, .tmp v, .tmp x]) (tmps : Array Value) (P : Program) (w : World) :
    (results fn tmps).run P w = .ok (.tuple #[tmps.getD t undef, tmps.getD u undef, tmps.getD v undef, tmps.getD x undef]) w := by
  simp [results, h]
set_option maxRecDepth 100000 in
set_option maxHeartbeats 3200000 in
theorem axesOfStress_of (a b c e sm df sn m x y p q s : Nat) (o t : Option Nat) (g cc : Nat) (w : World) (hr : FRow w (some ⟨g, 0, none⟩) 4 [a, b, c, e]) (fa : [a, b, c, e].all fin32 = true) (h : AxW a b c e sm df sn m x y p q s o t) :
    Calls Try.prog 28 #[.slice (some ⟨g, 0, none⟩) 4 cc] w fun e w' => e = .returned (axesV m o t) ∧ Below w.heap.size w w' := by
  have hF := fun w (h : FRow w (some ⟨g, 0, none⟩) 4 [a, b, c, e]) => areFin_any g 4 cc _ w h (by decide)
  rw [fa] at hF
  have HF := Lib.hid hF
  have e1 : ∀ k, (⟨g, 0, none⟩ : Addr).add k = ⟨g, k, none⟩ := by intro k; unfold Addr.add; split <;> simp_all
  have c0 := hr.cell _ rfl 0 (by decide)
  have c1 := hr.cell _ rfl 1 (by decide)
  have c2 := hr.cell _ rfl 2 (by decide)
  have c3 := hr.cell _ rfl 3 (by decide)
  rw [e1] at c0 c1 c2 c3
  simp only [List.getD_cons_zero, List.getD_cons_succ] at c0 c1 c2 c3
  have HR := Lib.hid hr
  have a1 := fun w => run_float_arith (P := Try.prog) w .add 35 .f32 _ _ _ h.h1
  have a2 := fun w => run_float_arith (P := Try.prog) w .sub 35 .f32 _ _ _ h.h2
  have a3 := fun w => run_float_arith (P := Try.prog) w .add 35 .f32 _ _ _ h.h3
  have H4 := Lib.hid fun w => halfOf_word _ _ w h.h4
  have H5 := Lib.hid fun w => halfOf_word _ _ w h.h5
  have H6 := Lib.hid fun w => halfOf_word _ _ w h.h6
  have HL := Lib.hid fun w => longOf_w x y p q s o w h.nx h.ny h.hl
  have HA := Lib.hid fun w => angleOf_rep y x t w h.hb
  have HH := Lib.hid fun v w hv => halfOf_rep v t w hv
  obtain ⟨V, hV⟩ : ∃ V, axesV m o t = V := ⟨_, rfl⟩
  rw [hV]
  have HV := Lib.hid hV
  clear hF h fa hr e1 hV
  go_enter Try.func28, Try.ntmps28
  go_wp2_with (first | (go_at_call 75; (with_reducible refine (HF.out _ HR.out).mono ?_); rintro e w1 ⟨rfl, m1, rfl⟩) | (go_at_call 76; (with_reducible refine (H4.out _).mono ?_); rintro e w1 ⟨rfl, rfl⟩) | (go_at_call 76; (with_reducible refine (H5.out _).mono ?_); rintro e w1 ⟨rfl, rfl⟩) | (go_at_call 76; (with_reducible refine (H6.out _).mono ?_); rintro e w1 ⟨rfl, rfl⟩))
  go_quiet (fail)
  go_wp2_with (first | (go_at_call 76; (with_reducible refine (H4.out _).mono ?_); rintro e w1 ⟨rfl, rfl⟩) | (go_at_call 76; (with_reducible refine (H5.out _).mono ?_); rintro e w1 ⟨rfl, rfl⟩) | (go_at_call 76; (with_reducible refine (H6.out _).mono ?_); rintro e w1 ⟨rfl, rfl⟩))
  refine (HL.out _).mono ?_
  rintro e w2 ⟨⟨v1, rfl, r1⟩, q2, rfl⟩
  obtain ⟨g1, wa, s1, t1, q3, rfl⟩ := bin_step (P := Try.prog) .add (by simp) 35 m v1 o (w.drewN (m1 + nq + q2)) r1
  have T1 := Lib.hid t1
  clear r1 t1
  go_wp2_with fail
  refine (HL.out _).mono ?_
  rintro e w2 ⟨⟨v2, rfl, r2⟩, q4, rfl⟩
  obtain ⟨g2, wb, s2, t2, q5, rfl⟩ := bin_step (P := Try.prog) .sub (by simp) 35 m v2 o (w.drewN (m1 + nq + q2 + q3 + q4)) r2
  have T2 := Lib.hid t2
  clear r2 t2 s1
  go_wp2_with fail
  refine (HA.out _).mono ?_
  rintro e w2 ⟨⟨v3, rfl, r3⟩, q6, rfl⟩
  have R3 := Lib.hid r3
  clear r3 s2
  go_wp2_with fail
  refine (HH.out _ _ R3.out).mono ?_
  rintro e w2 ⟨⟨g3, rfl, t3⟩, q7, rfl⟩
  have T3 := Lib.hid t3
  clear t3
  have hG : [g1, g2, g3].all fin32 = axesOk m o t := by
    simp only [List.all_cons, List.all_nil, Bool.and_true, axesOk, fin_rep T1.out, fin_rep T2.out, fin_rep T3.out]
  have hG3 := fun w gg cc hr => areFin_any gg 3 cc [g1, g2, g3] w hr (by decide)
  rw [hG] at hG3
  cases hok : axesOk m o t
  · rw [hok] at hG3
    have HW := Lib.hid (show V = .tuple #[.float .f32 0, .float .f32 0, .float .f32 0, .bool false] by rw [← HV.out]; simp [axesV, hok])
    have HG3 := Lib.hid hG3
    clear hG3 hG hok
    go_wp2_with (go_at_call 75; (with_reducible refine (HG3.out _ _ _ (frow_three' _ _ _ _ _ _ (by simp))).mono ?_); rintro e w3 ⟨rfl, m3, rfl⟩)
    refine bodyPost_ret (results_tmp4 rfl _ _ _) rfl ⟨by rw [HW.out]; rfl, ?_⟩
    exact below_drewN ((below_drewN (Below.refl _ _) _).alloc (Nat.le_refl _) _) _
  · rw [hok] at hG3
    have hoks := hok
    simp only [axesOk, Bool.and_eq_true] at hoks
    have HW := Lib.hid (show V = .tuple #[.float .f32 g1, .float .f32 g2, .float .f32 g3, .bool true] by rw [← HV.out]; simp only [axesV, hok, if_true]; rw [← rep_eq T1.out hoks.1, ← rep_eq T2.out hoks.2.1, ← rep_eq T3.out hoks.2.2])
    have HG3 := Lib.hid hG3
    clear hG3 hG hok hoks
    go_wp2_with (go_at_call 75; (with_reducible refine (HG3.out _ _ _ (frow_three' _ _ _ _ _ _ (by simp))).mono ?_); rintro e w3 ⟨rfl, m3, rfl⟩)
    refine bodyPost_ret (results_tmp4 rfl _ _ _) rfl ⟨by rw [HW.out]; rfl, ?_⟩
    exact below_drewN ((below_drewN (Below.refl _ _) _).alloc (Nat.le_refl _) _) _
set_option maxHeartbeats 800000 in
/-- not four numbers, or one that is not finite -/
theorem axesOfStress_no (n g cc : Nat) (zs : List Nat) (w : World) (hr : FRow w (some ⟨g, 0, none⟩) n zs) (hm : n ≤ 1048576) (h : n = 4 → zs.all fin32 = false) :
    Calls Try.prog 28 #[.slice (some ⟨g, 0, none⟩) n cc] w fun e w' => e = .returned (.tuple #[.float .f32 0, .float .f32 0, .float .f32 0, .bool false]) ∧ Below w.heap.size w w' := by
  by_cases h4 : n = 4
  · subst h4
    have hF := fun w (h : FRow w (some ⟨g, 0, none⟩) 4 zs) => areFin_any g 4 cc zs w h (by decide)
    rw [h rfl] at hF
    have HF := Lib.hid hF
    have HR := Lib.hid hr
    clear hF h hr
    go_enter Try.func28, Try.ntmps28
    go_wp2_with (go_at_call 75; (with_reducible refine (HF.out _ HR.out).mono ?_); rintro e w1 ⟨rfl, m1, rfl⟩)
    refine bodyPost_ret (results_tmp4 rfl _ _ _) rfl ⟨rfl, ?_⟩
    exact below_drewN (Below.refl _ _) _
  · have hc : ((n : Int) != 4) = true := by simp; omega
    clear h h4 hr
    go_enter Try.func28, Try.ntmps28
    go_wp2
    refine bodyPost_ret (results_tmp4 rfl _ _ _) rfl ⟨rfl, ?_⟩
    exact Below.refl _ _
set_option maxHeartbeats 800000 in
theorem specAxesOfStress_no4 (n g cc : Nat) (w : World) (h4 : n ≠ 4) :
    Calls Try.prog 26 #[.slice (some ⟨g, 0, none⟩) n cc] w fun e w' => e = .returned (.tuple #[.float .f32 0, .float .f32 0, .float .f32 0, .bool false]) ∧ Below w.heap.size w w' := by
  have hc : ((n : Int) != 4) = true := by simp; omega
  clear h4
  go_enter Try.func26, Try.ntmps26
  go_wp2
  refine bodyPost_ret (results_tmp4 rfl _ _ _) rfl ⟨rfl, ?_⟩
  exact Below.refl _ _
set_option maxRecDepth 100000 in
set_option maxHeartbeats 3200000 in
theorem specAxesOfStress_no (zs : List Nat) (g cc : Nat) (w : World) (hr : FRow w (some ⟨g, 0, none⟩) 4 zs) (h : zs.all fin32 = false) :
    Calls Try.prog 26 #[.slice (some ⟨g, 0, none⟩) 4 cc] w fun e w' => e = .returned (.tuple #[.float .f32 0, .float .f32 0, .float .f32 0, .bool false]) ∧ Below w.heap.size w w' := by
  have HR := Lib.hid hr
  have HL := Lib.hid hr.len
  have HA := Lib.hid h
  clear hr h
  go_enter Try.func26, Try.ntmps26
  go_wp2
  go_loopw [6, 2, 3, 4, 5] (fun i _ _ _ _ wr => ∃ k : Nat, k ≤ 4 ∧ i = .int .i64 k ∧ Hid ((zs.take k).all fin32 = true) ∧ Quiet w wr) (fun i _ _ _ _ _ => 4 - (intOf i).toNat)
  case atStart => exact ⟨0, Nat.zero_le _, rfl, rfl, Quiet.refl _⟩
  case round =>
    obtain ⟨k, hk, rfl, hv, m, rfl⟩ := hrel
    by_cases hlt : k < 4
    · have hx := HR.out.cell _ rfl k hlt
      have e1 : (⟨g, 0, none⟩ : Addr).add k = ⟨g, k, none⟩ := by unfold Addr.add; split <;> simp_all
      rw [e1] at hx
      clear e1
      have HT := Lib.hid (allf_take zs k (by rw [HL.out]; exact hlt))
      have HF := Lib.hid (allf_no zs k (by rw [HL.out]; exact hlt))
      generalize zs.getD k 0 = z at hx HT HF
      have HC := Lib.hid fun w' => l01Finite_any z w'
      cases hb : fin32 z
      · rw [hb] at HC HF
        have HF' := Lib.hid (HF.out rfl)
        clear hb HF HT
        go_wp2_with (go_at_call 72; go_loud (refine (HC.out _).mono ?_); rintro e w1 ⟨rfl, m1, rfl⟩)
        refine bodyPost_ret (results_tmp4 rfl _ _ _) rfl ⟨rfl, ?_⟩
        exact below_drewN (Below.refl _ _) _
      · rw [hb] at HC HT
        have HT' := Lib.hid (show (zs.take (k + 1)).all fin32 = true by rw [HT.out, hv.out]; rfl)
        clear hb HF HT hv
        go_wp2_with (go_at_call 72; go_loud (refine (HC.out _).mono ?_); rintro e w1 ⟨rfl, m1, rfl⟩)
        go_roundw
        case rel => exact ⟨k + 1, by omega, by go_num, HT', _, rfl⟩
        case measure => simp [intOf]; omega
    · have HV := Lib.hid (show zs.all fin32 = true by have := hv.out; rwa [List.take_of_length_le (by rw [HL.out]; omega)] at this)
      clear hv
      rw [HA.out] at HV
      cases HV.out
set_option maxRecDepth 100000 in
set_option maxHeartbeats 3200000 in
theorem specAxesOfStress_of (a b c e sm df sn m' x y p q s : Nat) (o t : Option Nat) (g cc : Nat) (w : World) (zs : List Nat) (hzs : zs = [a, b, c, e]) (hr : FRow w (some ⟨g, 0, none⟩) 4 zs) (fa : zs.all fin32 = true) (h : AxW a b c e sm df sn m' x y p q s o t) :
    Calls Try.prog 26 #[.slice (some ⟨g, 0, none⟩) 4 cc] w fun e w' => e = .returned (axesV m' o t) ∧ Below w.heap.size w w' := by
  have e1 : ∀ k, (⟨g, 0, none⟩ : Addr).add k = ⟨g, k, none⟩ := by intro k; unfold Addr.add; split <;> simp_all
  have c0 := hr.cell _ rfl 0 (by decide)
  have c1 := hr.cell _ rfl 1 (by decide)
  have c2 := hr.cell _ rfl 2 (by decide)
  have c3 := hr.cell _ rfl 3 (by decide)
  rw [e1, hzs] at c0 c1 c2 c3
  simp only [List.getD_cons_zero, List.getD_cons_succ] at c0 c1 c2 c3
  have HR := Lib.hid hr
  have HL := Lib.hid hr.len
  have HA := Lib.hid fa
  have H := Lib.hid h
  have HLo := Lib.hid fun w => l01Long_w x y p q s o w h.nx h.ny h.hl
  have HAn := Lib.hid fun w => h.ha w
  obtain ⟨V, hV⟩ : ∃ V, axesV m' o t = V := ⟨_, rfl⟩
  rw [hV]
  have HV0 := Lib.hid hV
  clear hr fa h e1 hV hzs
  go_enter Try.func26, Try.ntmps26
  go_wp2
  go_loopw [6, 2, 3, 4, 5] (fun i _ _ _ _ wr => ∃ k : Nat, k ≤ 4 ∧ i = .int .i64 k ∧ Hid ((zs.take k).all fin32 = true) ∧ Quiet w wr) (fun i _ _ _ _ _ => 4 - (intOf i).toNat)
  case atStart => exact ⟨0, Nat.zero_le _, rfl, rfl, Quiet.refl _⟩
  case round =>
    obtain ⟨k, hk, rfl, hv, m, rfl⟩ := hrel
    by_cases hlt : k < 4
    · have hx := HR.out.cell _ rfl k hlt
      have e1 : (⟨g, 0, none⟩ : Addr).add k = ⟨g, k, none⟩ := by unfold Addr.add; split <;> simp_all
      rw [e1] at hx
      clear e1
      have HT := Lib.hid (allf_take zs k (by rw [HL.out]; exact hlt))
      have HF := Lib.hid (allf_no zs k (by rw [HL.out]; exact hlt))
      generalize zs.getD k 0 = z at hx HT HF
      have HC := Lib.hid fun w' => l01Finite_any z w'
      cases hb : fin32 z
      · rw [hb] at HC HF
        have HF' := Lib.hid (HF.out rfl)
        clear hb HF HT
        rw [HF'.out] at HA
        cases HA.out
      · rw [hb] at HC HT
        have HT' := Lib.hid (show (zs.take (k + 1)).all fin32 = true by rw [HT.out, hv.out]; rfl)
        clear hb HF HT hv
        go_wp2_with (go_at_call 72; go_loud (refine (HC.out _).mono ?_); rintro e w1 ⟨rfl, m1, rfl⟩)
        go_roundw
        case rel => exact ⟨k + 1, by omega, by go_num, HT', _, rfl⟩
        case measure => simp [intOf]; omega
    · have HV := Lib.hid (show zs.all fin32 = true by have := hv.out; rwa [List.take_of_length_le (by rw [HL.out]; omega)] at this)
      clear hv
      clear HV
      have a1 := fun w => run_float_arith (P := Try.prog) w .add 35 .f32 _ _ _ H.out.h1
      have a2 := fun w => run_float_arith (P := Try.prog) w .sub 35 .f32 _ _ _ H.out.h2
      have a3 := fun w => run_float_arith (P := Try.prog) w .add 35 .f32 _ _ _ H.out.h3
      have a4 := fun w => run_float_arith (P := Try.prog) w .mul 35 .f32 _ _ _ H.out.h4
      have a5 := fun w => run_float_arith (P := Try.prog) w .mul 35 .f32 _ _ _ H.out.h5
      have a6 := fun w => run_float_arith (P := Try.prog) w .mul 35 .f32 _ _ _ H.out.h6
      go_wp2_with fail
      go_quiet (fail)
      obtain ⟨n1, rfl⟩ : ∃ n1, n1 = nq := ⟨_, rfl⟩
      go_wp2_with fail
      go_quiet (fail)
      obtain ⟨n2, rfl⟩ : ∃ n2, n2 = nq := ⟨_, rfl⟩
      go_wp2_with fail
      refine (HLo.out _).mono ?_
      rintro e w2 ⟨⟨v1, rfl, r1⟩, q2, rfl⟩
      have R1 := Lib.hid r1
      clear r1 a1 a2 a3 a4 a5 a6 c0 c1 c2 c3
      go_wp2_with fail
      refine (HAn.out _).mono ?_
      rintro e w2 ⟨⟨v3, rfl, r3⟩, q3, rfl⟩
      obtain ⟨g3, wa, s3, t3, q4, rfl⟩ := bin_step (P := Try.prog) .mul (by simp) 35 1056964608 v3 t (w.drewN (m + n1 + n2 + q2 + q3)) (rep_of r3)
      obtain ⟨g1, wb, s1, t1, q5, rfl⟩ := bin_step (P := Try.prog) .add (by simp) 35 m' v1 o (w.drewN (m + n1 + n2 + q2 + q3 + q4)) R1.out
      obtain ⟨g2, wc, s2, t2, q6, rfl⟩ := bin_step (P := Try.prog) .sub (by simp) 35 m' v1 o (w.drewN (m + n1 + n2 + q2 + q3 + q4 + q5)) R1.out
      have T1 := Lib.hid t1
      have T2 := Lib.hid t2
      have T3 := Lib.hid t3
      clear t1 t2 t3 r3
      have hF1 := fun w => l01Finite_any g1 w
      have hF2 := fun w => l01Finite_any g2 w
      have hF3 := fun w => l01Finite_any g3 w
      have hok : axesOk m' o t = (fin32 g1 && (fin32 g2 && fin32 g3)) := by simp only [axesOk, fin_rep T1.out, fin_rep T2.out, fin_rep T3.out]
      have hcase : fin32 g1 = false ∨ fin32 g1 = true ∧ (fin32 g2 = false ∨ fin32 g2 = true ∧ (fin32 g3 = false ∨ fin32 g3 = true)) := by
        cases fin32 g1 <;> cases fin32 g2 <;> cases fin32 g3 <;> simp
      rcases hcase with k1 | ⟨k1, k2 | ⟨k2, k3 | k3⟩⟩
      · have HW := Lib.hid (show V = .tuple #[.float .f32 0, .float .f32 0, .float .f32 0, .bool false] by rw [← HV0.out]; simp [axesV, hok, k1])
        rw [k1] at hF1
        have G1 := Lib.hid hF1
        clear hF1 hF2 hF3 hok k1
        go_wp2_with (go_at_call 72; (with_reducible refine (G1.out _).mono ?_); rintro e w3 ⟨rfl, m3, rfl⟩)
        refine bodyPost_ret (results_tmp4 rfl _ _ _) rfl ⟨by rw [HW.out]; rfl, ?_⟩
        exact below_drewN (Below.refl _ _) _
      · have HW := Lib.hid (show V = .tuple #[.float .f32 0, .float .f32 0, .float .f32 0, .bool false] by rw [← HV0.out]; simp [axesV, hok, k2])
        rw [k1] at hF1
        rw [k2] at hF2
        have G1 := Lib.hid hF1
        have G2 := Lib.hid hF2
        clear hF1 hF2 hF3 hok k1 k2
        go_wp2_with (first | (go_at_call 72; (with_reducible refine (G1.out _).mono ?_); rintro e w3 ⟨rfl, m3, rfl⟩) | (go_at_call 72; (with_reducible refine (G2.out _).mono ?_); rintro e w3 ⟨rfl, m4, rfl⟩))
        refine bodyPost_ret (results_tmp4 rfl _ _ _) rfl ⟨by rw [HW.out]; rfl, ?_⟩
        exact below_drewN (Below.refl _ _) _
      · have HW := Lib.hid (show V = .tuple #[.float .f32 0, .float .f32 0, .float .f32 0, .bool false] by rw [← HV0.out]; simp [axesV, hok, k3])
        rw [k1] at hF1
        rw [k2] at hF2
        rw [k3] at hF3
        have G1 := Lib.hid hF1
        have G2 := Lib.hid hF2
        have G3 := Lib.hid hF3
        clear hF1 hF2 hF3 hok k1 k2 k3
        go_wp2_with (first | (go_at_call 72; (with_reducible refine (G1.out _).mono ?_); rintro e w3 ⟨rfl, m3, rfl⟩) | (go_at_call 72; (with_reducible refine (G2.out _).mono ?_); rintro e w3 ⟨rfl, m4, rfl⟩) | (go_at_call 72; (with_reducible refine (G3.out _).mono ?_); rintro e w3 ⟨rfl, m5, rfl⟩))
        refine bodyPost_ret (results_tmp4 rfl _ _ _) rfl ⟨by rw [HW.out]; rfl, ?_⟩
        exact below_drewN (Below.refl _ _) _
      · have hoks : axesOk m' o t = true := by rw [hok, k1, k2, k3]; rfl
        have hp := hoks
        simp only [axesOk, Bool.and_eq_true] at hp
        have HW := Lib.hid (show V = .tuple #[.float .f32 g1, .float .f32 g2, .float .f32 g3, .bool true] by rw [← HV0.out]; simp only [axesV, hoks, if_true]; rw [← rep_eq T1.out hp.1, ← rep_eq T2.out hp.2.1, ← rep_eq T3.out hp.2.2])
        rw [k1] at hF1
        rw [k2] at hF2
        rw [k3] at hF3
        have G1 := Lib.hid hF1
        have G2 := Lib.hid hF2
        have G3 := Lib.hid hF3
        clear hF1 hF2 hF3 hok k1 k2 k3 hoks hp
        go_wp2_with (first | (go_at_call 72; (with_reducible refine (G1.out _).mono ?_); rintro e w3 ⟨rfl, m3, rfl⟩) | (go_at_call 72; (with_reducible refine (G2.out _).mono ?_); rintro e w3 ⟨rfl, m4, rfl⟩) | (go_at_call 72; (with_reducible refine (G3.out _).mono ?_); rintro e w3 ⟨rfl, m5, rfl⟩))
        refine bodyPost_ret (results_tmp4 rfl _ _ _) rfl ⟨by rw [HW.out]; rfl, ?_⟩
        exact below_drewN (Below.refl _ _) _
theorem axes_both (n cc : Nat) (zs : List Nat) (hl : zs.length = n) (hm : n ≤ 1048576) : ∃ (r1 r2 r3 : Nat) (k : Bool), nan32 r1 = false ∧ nan32 r2 = false ∧ nan32 r3 = false ∧
    (∀ g w, FRow w (some ⟨g, 0, none⟩) n zs → Calls Try.prog 26 #[.slice (some ⟨g, 0, none⟩) n cc] w fun e w' => e = .returned (.tuple #[.float .f32 r1, .float .f32 r2, .float .f32 r3, .bool k]) ∧ Below w.heap.size w w') ∧
    (∀ g w, FRow w (some ⟨g, 0, none⟩) n zs → Calls Try.prog 28 #[.slice (some ⟨g, 0, none⟩) n cc] w fun e w' => e = .returned (.tuple #[.float .f32 r1, .float .f32 r2, .float .f32 r3, .bool k]) ∧ Below w.heap.size w w') := by
  have h0 : nan32 0 = false := by decide
  by_cases h4 : n = 4
  · subst h4
    cases hf : zs.all fin32
    · exact ⟨0, 0, 0, false, h0, h0, h0, fun g w hr => specAxesOfStress_no zs g cc w hr hf, fun g w hr => axesOfStress_no 4 g cc zs w hr (by decide) (fun _ => hf)⟩
    · obtain ⟨a, b, c, e, rfl⟩ : ∃ a b c e, zs = [a, b, c, e] := by
        match zs, hl with
        | [a, b, c, e], _ => exact ⟨a, b, c, e, rfl⟩
      have hf' := hf
      simp only [List.all_cons, List.all_nil, Bool.and_true, Bool.and_eq_true] at hf'
      obtain ⟨sm, df, sn, m, x, y, p, q, s, o, t, h⟩ := axes_words hf'.1 hf'.2.1 hf'.2.2.1 hf'.2.2.2
      have hs := fun g w hr => specAxesOfStress_of a b c e sm df sn m x y p q s o t g cc w _ rfl hr hf h
      have hi := fun g w hr => axesOfStress_of a b c e sm df sn m x y p q s o t g cc w hr hf h
      cases hok : axesOk m o t
      · rw [show axesV m o t = .tuple #[.float .f32 0, .float .f32 0, .float .f32 0, .bool false] by simp [axesV, hok]] at hs hi
        exact ⟨0, 0, 0, false, h0, h0, h0, hs, hi⟩
      · rw [show axesV m o t = .tuple #[.float .f32 ((op2 .add m o).getD 0), .float .f32 ((op2 .sub m o).getD 0), .float .f32 ((op2 .mul 1056964608 t).getD 0), .bool true] by simp [axesV, hok]] at hs hi
        simp only [axesOk, Bool.and_eq_true] at hok
        have key : ∀ o : Option Nat, finO o = true → nan32 (o.getD 0) = false := by
          intro o ho
          cases o with
          | none => cases ho
          | some r => exact fin_not_nan ho
        exact ⟨_, _, _, true, key _ hok.1, key _ hok.2.1, key _ hok.2.2, hs, hi⟩
  · exact ⟨0, 0, 0, false, h0, h0, h0, fun g w hr => specAxesOfStress_no4 n g cc w h4, fun g w hr => axesOfStress_no n g cc zs w hr hm (fun h => absurd h h4)⟩
end Go.Proofs.Ytbggklhnnjikjaa
