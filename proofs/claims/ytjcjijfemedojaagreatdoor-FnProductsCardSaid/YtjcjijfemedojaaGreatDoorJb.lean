/- Texts of lists of complex numbers: plain facts, and the program's side. -/
import Derived.Test.YtjcjijfemedojaaGreatDoorSrl
import Derived.Test.YtjcjijfemedojaaGreatDoorCrf
import Derived.Test.YtjcjijfemedojaaGreatDoorB10
import Derived.Test.YtjcjijfemedojaaGreatDoorCrm
import Derived.Test.YtjcjijfemedojaaGreatDoorNrt
import Derived.Test.YtjcjijfemedojaaGreatDoorNj
namespace Go.Proofs.YtjcjijfemedojaaGreatDoor
open Go.RowKit Fl

def F2 (z : Nat × Nat) : Prop := z.1 < 4294967296 ∧ z.2 < 4294967296
/-- a complex number is drawn -/
def DrewC (w : World) (b m : Nat) (e : Ending) (w' : World) : Prop := ∃ x y : Nat, x < 4294967296 ∧ y < 4294967296 ∧ e = .returned (.complex .f32 x y) ∧ Src w' b m ∧ Only b w w'
theorem DrewC.mono {w w' : World} {b m m' : Nat} {e : Ending} (h : DrewC w b m e w') (hm : m ≤ m') : DrewC w b m' e w' := by
  obtain ⟨x, y, h1, h2, h3, h4, h5⟩ := h
  exact ⟨x, y, h1, h2, h3, h4.mono hm, h5⟩
theorem fine16 : ∀ n : Fin 65, (floatBits .quo .f32 (floatOfInt .f32 ((n.val : Int) - 32)) 1098907648).isSome = true := by decide +kernel
theorem fine_div (x : Int) (h0 : 0 ≤ x) (h1 : x < 65) : ∃ r, floatBits .quo .f32 (floatOfInt .f32 (x - 32)) 1098907648 = some r ∧ r < 4294967296 := by
  obtain ⟨n, rfl⟩ := Int.eq_ofNat_of_zero_le h0
  obtain ⟨r, hr⟩ := Option.isSome_iff_exists.1 (fine16 ⟨n, by omega⟩)
  exact ⟨r, hr, Ieee.Format.div_lt Ieee.single hr⟩
set_option maxHeartbeats 1600000 in
theorem drawComplex_of (b m : Nat) (w : World) (hm : m < 100000) (h : Src w b m) :
    Calls Tryz.prog 47 #[.pointer (some ⟨b, 0, none⟩)] w (DrewC w b (m + 20)) := by
  have HD := Lib.hid fun w' m' (hm' : m' ≤ m + 10) (h : Src w' b m') => drawFloat_of b m' w' (by omega) h
  have HS := Lib.hid h
  clear h
  go_enter Tryz.func47, Tryz.ntmps47
  go_wp2_with fail
  refine (HD.out _ _ (by omega) HS.out).mono ?_
  rintro e w1 ⟨x, hx, rfl, hs, ho⟩
  have HS1 := Lib.hid hs
  have HO1 := Lib.hid ho
  clear hs ho
  go_wp2_with fail
  refine (HD.out _ _ (by omega) HS1.out).mono ?_
  rintro e w2 ⟨y, hy, rfl, hs, ho⟩
  have HS2 := Lib.hid hs
  have HO2 := Lib.hid (HO1.out.trans ho)
  clear hs ho
  go_wp2_with fail
  go_ret
  exact ⟨x, y, hx, hy, rfl, HS2.out.mono (by omega), HO2.out⟩
set_option maxHeartbeats 1600000 in
theorem drawFine_of (b m : Nat) (w : World) (hm : m < 100000) (h : Src w b m) :
    Calls Tryz.prog 48 #[.pointer (some ⟨b, 0, none⟩)] w (DrewC w b (m + 4)) := by
  have HP := Lib.hid fun w' m' (hm' : m' ≤ m + 10) (h : Src w' b m') => pick_of b m' 65 w' (by omega) h (by omega) (by omega)
  have HS := Lib.hid h
  clear h
  go_enter Tryz.func48, Tryz.ntmps48
  go_wp2_with fail
  refine (HP.out _ _ (by omega) HS.out).mono ?_
  rintro e w1 ⟨x, hx0, hx1, rfl, hs, ho⟩
  obtain ⟨r, h16, hr⟩ := fine_div x hx0 hx1
  have e16 := fun w => run_float_arith (P := Tryz.prog) w .quo 28 .f32 _ _ _ h16
  have HS1 := Lib.hid hs
  have HO1 := Lib.hid ho
  clear hs ho
  go_wp2_with fail
  refine (HP.out _ _ (by omega) HS1.out).mono ?_
  rintro e w2 ⟨y, hy0, hy1, rfl, hs, ho⟩
  obtain ⟨q, h162, hq⟩ := fine_div y hy0 hy1
  have e162 := fun w => run_float_arith (P := Tryz.prog) w .quo 28 .f32 _ _ _ h162
  have HS2 := Lib.hid hs
  have HO2 := Lib.hid (HO1.out.trans ho)
  clear hs ho
  go_wp2_with fail
  go_ret
  exact ⟨r, q, hr, hq, rfl, HS2.out.mono (by omega), HO2.out⟩
def DrewCs (w : World) (b n : Nat) (e : Ending) (w' : World) : Prop := ∃ (v : Value) (zs : List (Nat × Nat)), e = .returned v ∧ zs.length = n ∧ (∀ z ∈ zs, F2 z) ∧ w'.ownsRow w.heap.size 24 1 v n (zs.map cval) ∧ Only b w w'
theorem snoc_f2 {zs : List (Nat × Nat)} {r : Nat × Nat} (h : ∀ z ∈ zs, F2 z) (hr : F2 r) : ∀ z ∈ zs ++ [r], F2 z := by
  intro z hz
  rcases List.mem_append.1 hz with h1 | h1
  · exact h z h1
  · have : z = r := by simpa using h1
    subst this; exact hr
set_option maxRecDepth 100000 in
set_option maxHeartbeats 3200000 in
theorem drawComplexes_of (b m n : Nat) (w : World) (hm : m < 1000) (hn : n ≤ 256) (h : Src w b m) :
    Calls Tryz.prog 36 #[.pointer (some ⟨b, 0, none⟩), .int .i64 n] w (DrewCs w b n) := by
  have hlt := h.lt
  obtain ⟨i0, hi, hz0, hz1, hz2⟩ := info_parts c64info
  have hOne := one_of b m 5 (w.alloc (.cells #[] 24)) (by omega) (h.next ((Below.refl _ _).alloc (Nat.le_refl _) _)) (by omega) (by omega)
  have HO := Lib.hid hOne
  have HD := Lib.hid fun w' m' (hm' : m' < 10000) (h : Src w' b m') => drawComplex_of b m' w' (by omega) h
  have HP := Lib.hid fun w' m' (hm' : m' < 10000) (h : Src w' b m') => (drawFine_of b m' w' (by omega) h).mono fun e w2 h => (DrewC.mono h (show m' + 4 ≤ m' + 20 by omega))
  have HOw := Lib.hid (own_nil1 w 24 w.heap.size (Nat.le_refl _))
  have HO0 := Lib.hid ((Only.refl b w).alloc (Nat.le_of_lt hlt) (.cells #[] 24))
  clear h hOne
  go_enter Tryz.func36, Tryz.ntmps36
  go_wp2_with fail
  refine HO.out.mono ?_
  rintro e w1 ⟨⟨v, rfl⟩, hs, ho⟩
  have HS1 := Lib.hid hs
  have HOw1 := Lib.hid (own_only ho HOw.out hlt)
  have HO1 := Lib.hid (HO0.out.trans ho)
  clear hs ho
  cases v
  all_goals
    go_wp2
    go_loopw [5, 1] (fun v i wr => ∃ (W : World) (k j bl c : Nat) (zs : List (Nat × Nat)), W = wr ∧ Hid (k + j = n) ∧ k ≤ n ∧ j ≤ n ∧ i = .int .i64 j ∧ v = .slice (some ⟨bl, 0, none⟩) k c ∧ Hid (zs.length = k) ∧ Hid (∀ z ∈ zs, F2 z) ∧
        wr.ownsRow w.heap.size 24 1 v k (zs.map cval) ∧ Src wr b (m + 2 + 20 * k) ∧ Only b w wr) (fun _ i _ => (intOf i).toNat)
    case atStart => exact ⟨_, 0, n, w.heap.size, 0, [], rfl, by show 0 + n = n; omega, Nat.zero_le _, Nat.le_refl _, rfl, rfl, rfl, by intro z hz; simp at hz, HOw1.out, HS1.out, HO1.out⟩
    case round =>
      clear HO HOw HO0 HS1 HOw1 HO1
      obtain ⟨W, k, j, bl, c, zs, rfl, hkj, hk, hj, rfl, rfl, hlen, hall, hown, hs, ho⟩ := hrel
      rcases j with _ | j
      · have HOw := Lib.hid hown
        have HOn := Lib.hid ho
        clear hown ho hs
        go_wp2
        go_ret
        obtain rfl : k = n := by have := hkj.out; omega
        exact ⟨_, zs, rfl, hlen.out, hall.out, HOw.out, HOn.out⟩
      · have hk1 : k < n := by have := hkj.out; omega
        have HDr := Lib.hid (HD.out W (m + 2 + 20 * k) (by omega) hs)
        have HPr := Lib.hid (HP.out W (m + 2 + 20 * k) (by omega) hs)
        have HOw := Lib.hid hown
        have HOn := Lib.hid ho
        have hj0 : (0 : Int) < ((j + 1 : Nat) : Int) := by omega
        clear hown ho hs
        go_wp2_with fail
        first | refine HDr.out.mono ?_ | refine HPr.out.mono ?_
        rintro e w2 ⟨x, y, hx, hy, rfl, hs, ho⟩
        have HS2 := Lib.hid hs
        have HOw2 := Lib.hid (own_only ho HOw.out hlt)
        have HO2 := Lib.hid (HOn.out.trans ho)
        have hsz : w.heap.size ≤ w2.heap.size := HO2.out.below.size
        clear hs ho
        go_wp2_with (at_builtin; go_loud (refine wpList_append_own _ rfl _ _ 25 rfl w.heap.size 24 i0 (.complex .f32 0 0) 1 8 Tryz.underlying25 hi hz0 hz1 hz2 rfl (by decide) (.slice (some ⟨bl, 0, none⟩) k c) k (zs.map cval) rfl (HOw2.out.alloc _) ⟨w2.heap.size, 0, none⟩ 1 1 [.complex .f32 x y] rfl rfl (cell_one_new _ _ _) (fun x hx => by simp at hx; subst hx; rfl) (by unfold maxLen; omega) (by omega) (by simp; omega) ?_); intro v' w3 hown' hgrow hnil; go_must (obtain ⟨b', c', rfl, hb', -⟩ := own_form1 hown' (by omega)); have HOw3 := Lib.hid hown'; have HO3 := Lib.hid ((HO2.out.alloc (by omega) _).grown hgrow (fun k hk => (HOw2.out.lt k hk).1) hlt); have HS3 := Lib.hid ((HS2.out.next ((Below.refl _ _).alloc (Nat.le_refl _) _)).grown hgrow (by intro e; have := (HOw2.out.lt b e).1; omega) (fun k hk => by have := (HOw2.out.lt k hk).1; omega)); clear hown' hgrow hnil)
        go_roundw
        case rel => exact ⟨_, k + 1, j, b', c', zs ++ [(x, y)], rfl, by have := hkj.out; show k + 1 + j = n; omega, hk1, by omega, by go_num, rfl, by show _ = _; rw [List.length_append, hlen.out]; rfl, snoc_f2 hall.out ⟨hx, hy⟩, by rw [List.map_append]; exact HOw3.out, HS3.out, HO3.out⟩
        case measure => simp [intOf]
set_option maxHeartbeats 800000 in
theorem b10Any_of (ao : Option Addr) (n c k : Nat) (w : World) (hr : BRow w ao n) (hk : k ≤ 256) :
    Calls Tryz.prog 14 #[.slice ao n c, .int .i64 k] w fun e w' => ∃ (v : Value) (zs : List (Nat × Nat)), e = .returned v ∧ zs.length = k ∧ (∀ z ∈ zs, F2 z) ∧ w'.ownsRow w.heap.size 24 1 v k (zs.map cval) ∧ Below w.heap.size w w' := by
  have HF := Lib.hid (from_of ao n c w hr.len hr.addr hr.cell)
  have HD := Lib.hid fun w' (h : Src w' w.heap.size 0) => drawComplexes_of w.heap.size 0 k w' (by omega) hk h
  clear hr
  go_enter Tryz.func14, Tryz.ntmps14
  go_wp2_with fail
  refine HF.out.mono ?_
  rintro e w1 ⟨rfl, hs, hb⟩
  have HS := Lib.hid hs
  have HB := Lib.hid hb
  clear hs hb
  go_wp2_with fail
  refine (HD.out _ HS.out).mono ?_
  rintro e w2 ⟨v, zs, rfl, hl, ha, ho, hn⟩
  have HL := Lib.hid hl
  have HA := Lib.hid ha
  have HO := Lib.hid (own_from ho HB.out.size)
  have HB2 := Lib.hid (hn.base HB.out (Nat.le_refl _))
  clear hl ha ho hn
  go_wp2
  go_ret
  exact ⟨v, zs, rfl, HL.out, HA.out, HO.out, HB2.out⟩
set_option maxHeartbeats 1600000 in
theorem b10Complex_of (ao : Option Addr) (n c : Nat) (w : World) (hr : BRow w ao n) :
    Calls Tryz.prog 21 #[.slice ao n c] w fun e w' => ∃ x y : Nat, x < 4294967296 ∧ y < 4294967296 ∧ e = .returned (.complex .f32 x y) ∧ Below w.heap.size w w' := by
  have HF := Lib.hid (from_of ao n c w hr.len hr.addr hr.cell)
  have HO := Lib.hid fun w' (h : Src w' w.heap.size 0) => one_of w.heap.size 0 4 w' (by omega) h (by omega) (by omega)
  have HD := Lib.hid fun w' m' (hm' : m' ≤ 8) (h : Src w' w.heap.size m') => drawComplex_of w.heap.size m' w' (by omega) h
  have HP := Lib.hid fun w' m' (hm' : m' ≤ 8) (h : Src w' w.heap.size m') => drawFine_of w.heap.size m' w' (by omega) h
  clear hr
  go_enter Tryz.func21, Tryz.ntmps21
  go_wp2_with (first | (go_at_call 27; (with_reducible refine HF.out.mono ?_); rintro e w1 ⟨rfl, hs, hb⟩; have HS := Lib.hid hs; have HB := Lib.hid hb; clear hs hb) | (go_at_call 41; (with_reducible refine (HO.out _ HS.out).mono ?_); rintro e w2 ⟨⟨v, rfl⟩, hs, ho⟩; have HS2 := Lib.hid hs; have HB2 := Lib.hid (ho.base HB.out (Nat.le_refl _)); clear hs ho))
  all_goals
    go_wp2_with fail
    first | refine (HD.out _ _ (by omega) HS2.out).mono ?_ | refine (HP.out _ _ (by omega) HS2.out).mono ?_
    rintro e w3 ⟨x, y, hx, hy, rfl, hs, ho⟩
    have HB3 := Lib.hid (ho.base HB2.out (Nat.le_refl _))
    clear hs ho
    go_wp2_with fail
    go_ret
    exact ⟨x, y, hx, hy, rfl, HB3.out⟩
set_option maxRecDepth 100000 in
set_option maxHeartbeats 1600000 in
theorem b10Whole_of (ao : Option Addr) (n c : Nat) (w : World) (hr : BRow w ao n) :
    Calls Tryz.prog 5 #[.slice ao n c, .int .i64 1, .int .i64 200] w fun e w' => ∃ (x y : Int) (b cp : Nat), -200 ≤ x ∧ x ≤ 200 ∧ -200 ≤ y ∧ y ≤ 200 ∧ e = .returned (.slice (some ⟨b, 0, none⟩) 1 cp) ∧ w'.cell? ⟨b, 0, none⟩ = some (.complex .f32 (floatOfInt .f32 x) (floatOfInt .f32 y)) ∧ Below w.heap.size w w' := by
  obtain ⟨i0, hi, hz0, hz1, hz2⟩ := info_parts c64info
  have HF := Lib.hid (from_of ao n c w hr.len hr.addr hr.cell)
  have HP := Lib.hid fun w' m' (hm' : m' ≤ 8) (h : Src w' w.heap.size m') => pick_of w.heap.size m' 401 w' (by omega) h (by omega) (by omega)
  clear hr
  go_enter Tryz.func5, Tryz.ntmps5
  go_wp2_with fail
  refine HF.out.mono ?_
  rintro e w1 ⟨rfl, hs, hb⟩
  have HS := Lib.hid hs
  have HB := Lib.hid hb
  clear hs hb
  go_wp2_with fail
  have HOw := Lib.hid (own_nil1 w1 24 w1.heap.size (Nat.le_refl _))
  have hlt := HS.out.lt
  have HB1 := Lib.hid (HB.out.alloc HB.out.size (.cells #[] 24))
  have HS1 := Lib.hid (HS.out.next ((Below.refl _ _).alloc (Nat.le_refl _) (.cells #[] 24)))
  refine wp_loop_rounds 2 ?_
  rw [rounds_succ]
  go_wp2_with fail
  refine (HP.out _ _ (by omega) HS1.out).mono ?_
  rintro e w2 ⟨x, hx0, hx1, rfl, hs, ho⟩
  have HS2 := Lib.hid hs
  have HB2 := Lib.hid (ho.base HB1.out (Nat.le_refl _))
  have HO2 := Lib.hid ho
  clear hs ho
  go_wp2_with fail
  refine (HP.out _ _ (by omega) HS2.out).mono ?_
  rintro e w3 ⟨y, hy0, hy1, rfl, hs, ho⟩
  have HB3 := Lib.hid (ho.base HB2.out (Nat.le_refl _))
  have HO3 := Lib.hid (HO2.out.trans ho)
  clear hs ho
  have O3 := Lib.hid (own_only HO3.out HOw.out hlt)
  have hl3 := HB3.out.size
  have hw3 : w1.heap.size ≤ w3.heap.size := by have := (O3.out.lt w1.heap.size rfl).2; omega
  go_wp2_with (at_builtin; go_loud (refine wpList_append_own _ rfl _ _ 25 rfl w1.heap.size 24 i0 (.complex .f32 0 0) 1 8 Tryz.underlying25 hi hz0 hz1 hz2 rfl (by decide) (.slice (some ⟨w1.heap.size, 0, none⟩) 0 0) 0 [] rfl (O3.out.alloc _) ⟨w3.heap.size, 0, none⟩ 1 1 [.complex .f32 (floatOfInt .f32 (x - 200)) (floatOfInt .f32 (y - 200))] rfl rfl (cell_one_new _ _ _) (fun x hx => by simp at hx; subst hx; rfl) (by unfold maxLen; omega) (by omega) (by simp; omega) ?_); intro v' w4 hown' hgrow hnil; go_must (obtain ⟨b', c', rfl, hb', -⟩ := own_form1 hown' (by omega)); have O4 := Lib.hid hown'; have HB4 := Lib.hid (show Below w.heap.size w w4 from (HB3.out.alloc HB3.out.size _).grown hgrow (by simp; omega) (fun k hk => by have := (O3.out.lt k hk).1; omega)); clear hown' hgrow hnil)
  rw [rounds_succ]
  go_wp2_with fail
  go_ret
  refine ⟨x - 200, y - 200, b', c', by omega, by omega, by omega, by omega, rfl, ?_, HB4.out⟩
  rw [O4.out.cellAt 0 (by omega)]
  rfl
end Go.Proofs.YtjcjijfemedojaaGreatDoor

namespace Go.Proofs.YtjcjijfemedojaaGreatDoor
open Go.RowKit Fl

def hx16 (z : Nat × Nat) : List UInt8 := hx8 z.1 ++ hx8 z.2
theorem hx16_len (z : Nat × Nat) : (hx16 z).length = 16 := by unfold hx16; rw [List.length_append, hx8_len, hx8_len]
theorem hx16_free (z : Nat × Nat) : (44 : UInt8) ∉ hx16 z := by
  unfold hx16
  intro h
  rcases List.mem_append.1 h with h | h
  · exact hx8_free _ h
  · exact hx8_free _ h
def ctext (zs : List (Nat × Nat)) : List UInt8 := if zs = [] then noneText else Lib.join (zs.map hx16) [44]
def ctAns (zs : List (Nat × Nat)) : Ending := .returned (.tuple #[.string (if zs.length ≤ 256 then ⟨(ctext zs).toArray⟩ else ⟨#[]⟩), .bool (decide (zs.length ≤ 256))])
def bitsZ (z : Nat × Nat) : Nat × Nat := (bitsN z.1, bitsN z.2)
theorem rc_hx16 (z : Nat × Nat) (h : F2 z) : rc (hx16 z) = some (bitsZ z) := by
  rw [rc_of (hx16_len z)]
  unfold hx16
  rw [show 8 = (hx8 z.1).length from (hx8_len z.1).symm, List.take_left, List.drop_left, rn_hx8 z.1 h.1, rn_hx8 z.2 h.2]
  rfl
theorem cparts_tail : ∀ (x : List UInt8) (zs : List (Nat × Nat)), (44 : UInt8) ∉ x → parts (x ++ Lib.joinTail [44] (zs.map hx16)) = x :: zs.map hx16
  | x, [], hx => by simpa [Lib.joinTail] using parts_alone x hx
  | x, z :: zs, hx => by
    have e : x ++ Lib.joinTail [44] ((z :: zs).map hx16) = x ++ 44 :: (hx16 z ++ Lib.joinTail [44] (zs.map hx16)) := by simp [Lib.joinTail]
    rw [e, parts_word _ _ hx, cparts_tail (hx16 z) zs (hx16_free z)]; rfl
theorem ctext_parts (zs : List (Nat × Nat)) (h : zs ≠ []) : parts (ctext zs) = zs.map hx16 := by
  cases zs with
  | nil => exact absurd rfl h
  | cons z zs =>
    unfold ctext
    rw [if_neg (by simp), List.map_cons, Lib.join_cons]
    exact cparts_tail (hx16 z) zs (hx16_free z)
theorem ctext_none (zs : List (Nat × Nat)) (h : zs ≠ []) : ¬ ctext zs = noneL := by
  intro e
  have h1 := ctext_parts zs h
  rw [e] at h1
  have h2 : parts noneL = [noneL] := by decide
  rw [h2] at h1
  cases zs with
  | nil => exact absurd rfl h
  | cons z zs =>
    simp only [List.map_cons, List.cons.injEq] at h1
    have := hx16_len z
    rw [← h1.1] at this
    simp [noneL] at this
/-- the text of complex numbers is read, and gives them back -/
theorem cl_ctext (zs : List (Nat × Nat)) (hn : zs.length ≤ 256) (hv : ∀ z ∈ zs, F2 z) : clOk (ctext zs) = true ∧ clZ (ctext zs) = zs.map bitsZ := by
  by_cases h : zs = []
  · subst h
    exact cl_none rfl
  · have h1 := ctext_parts zs h
    have hall : (parts (ctext zs)).all rcOk = true := by
      rw [h1, List.all_map, List.all_eq_true]
      intro z hz
      show (rc (hx16 z)).isSome = true
      rw [rc_hx16 z (hv z hz)]; rfl
    obtain ⟨e1, e2⟩ := cl_yes (ctext_none zs h) (by rw [h1]; simpa using hn) hall
    refine ⟨e1, ?_⟩
    rw [e2, h1, List.map_map]
    refine List.map_congr_left (fun z hz => ?_)
    show (rc (hx16 z)).getD (0, 0) = bitsZ z
    rw [rc_hx16 z (hv z hz)]; rfl
theorem cjoin_len : ∀ (zs : List (Nat × Nat)), (Lib.joinTail [44] (zs.map hx16)).length = 17 * zs.length
  | [] => by simp [Lib.joinTail]
  | z :: zs => by
    have ih := cjoin_len zs
    unfold Lib.joinTail at ih ⊢
    simp only [List.map_cons, List.flatten_cons, List.length_append, List.length_cons, List.length_nil, hx16_len]
    omega
theorem cjoin_len' (zs : List (Nat × Nat)) : (Lib.join (zs.map hx16) [44]).length ≤ 17 * zs.length := by
  cases zs with
  | nil => simp [Lib.join_nil]
  | cons z zs =>
    have := cjoin_len zs
    rw [List.map_cons, Lib.join_cons, List.length_append, List.length_cons, this, hx16_len]
    omega
theorem f2_at {zs : List (Nat × Nat)} (h : ∀ z ∈ zs, F2 z) (k : Nat) : F2 (zs.getD k (0, 0)) := by
  rw [List.getD_eq_getElem?_getD]
  cases hk : zs[k]? with
  | none => exact ⟨by decide, by decide⟩
  | some z => exact h z (List.mem_of_getElem? hk)
set_option maxHeartbeats 800000 in
theorem complexText_of (x y : Nat) (w : World) (hx : x < 4294967296) (hy : y < 4294967296) (ht : Tz w) :
    Calls Tryz.prog 38 #[.complex .f32 x y] w fun e w' => ∃ T : ByteArray, T.data.toList = hx16 (x, y) ∧ e = .returned (.tuple #[.string T, .bool true]) ∧ Below w.heap.size w w' := by
  have HX := Lib.hid fun w' (h : Below w.heap.size w w') => numberText_of x w' hx (ht.below h (Nat.le_refl _))
  have HY := Lib.hid fun w' (h : Below w.heap.size w w') => numberText_of y w' hy (ht.below h (Nat.le_refl _))
  have K0 := Lib.hid (Below.refl w.heap.size w)
  clear ht
  go_enter Tryz.func38, Tryz.ntmps38
  go_wp2_with fail
  refine (HX.out _ K0.out).mono ?_
  rintro e w1 ⟨S, hS, rfl, hb⟩
  have HS := Lib.hid hS
  have K1 := Lib.hid (below_next K0.out hb)
  clear hS hb
  go_wp2_with fail
  refine (HY.out _ K1.out).mono ?_
  rintro e w2 ⟨T, hT, rfl, hb⟩
  have HT := Lib.hid hT
  have K2 := Lib.hid (below_next K1.out hb)
  have hs8 : S.size = 8 := by rw [← hx8_len x, ← HS.out]; simp
  have ht8 : T.size = 8 := by rw [← hx8_len y, ← HT.out]; simp
  clear hT hb
  go_wp2_with fail
  go_ret2
  refine ⟨_, ?_, rfl, K2.out⟩
  unfold hx16
  rw [ByteArray.data_append, Array.toList_append, HS.out, HT.out]
set_option maxRecDepth 100000 in
set_option maxHeartbeats 3200000 in
theorem cjoinItems_of (a : Addr) (n c : Nat) (zs : List (Nat × Nat)) (w : World) (hr : CRow w (some a) n zs) (hn : n ≤ 256) (h0 : 0 < n) (hv : ∀ z ∈ zs, F2 z) (ht : Tz w) :
    Calls Tryz.prog 37 #[.slice (some a) n c, .int .i64 256, .func (.func 38) #[] #[]] w fun e w' => e = ctAns zs ∧ Below w.heap.size w w' := by
  obtain ⟨i0, hi, hz0, hz1, hz2⟩ := info_parts sinfo
  have HL := Lib.hid hr.len
  have HR := Lib.hid hr
  have HTz := Lib.hid fun w' (h : Below w.heap.size w w') => ht.below h (Nat.le_refl _)
  have HV := Lib.hid (f2_at hv)
  have hne : ((n : Int) == 0) = false := beq_eq_false_iff_ne.2 (by omega)
  clear hr ht hv
  go_enter Tryz.func37, Tryz.ntmps37
  go_wp2_with (at_make; go_loud (refine wpList_make_full _ rfl _ _ 77 rfl w.heap.size 9 i0 (.string ⟨#[]⟩) 1 Tryz.underlying77 hi hz0 hz1 .i64 .i64 _ _ n rfl rfl rfl rfl (by rw [hz2]; omega) (by unfold maxLen; omega) (Nat.le_refl _) ?_); intro w1 hown hgrow; rw [made_str] at hown; have HO := Lib.hid hown; have HB := Lib.hid (((Below.refl w.heap.size w).grown hgrow (Nat.le_refl _) (by simp) : Below w.heap.size w w1)); clear hown hgrow)
  go_loopw [25] (fun i wr => ∃ (W : World) (k : Nat) (xs : List ByteArray), W = wr ∧ k ≤ n ∧ i = .int .i64 k ∧ xs.length = k ∧ Hid (xs.map (·.data.toList) = (zs.take k).map hx16) ∧
      wr.ownsRow w.heap.size 9 1 (.slice (some ⟨w.heap.size, 0, none⟩) n n) n (strs xs (n - k)) ∧ Below w.heap.size w wr) (fun i _ => n - (intOf i).toNat)
  case atStart => exact ⟨_, 0, [], rfl, Nat.zero_le _, rfl, rfl, rfl, HO.out, HB.out⟩
  case round =>
    clear HO HB
    obtain ⟨W, k, xs, rfl, hk, rfl, hxs, hX, hown, hb⟩ := hrel
    by_cases hlt : k < n
    · have hx := (HR.out.below hb (Nat.le_refl _)).cell a rfl k hlt
      have HS := Lib.hid (show (zs.take (k + 1)).map hx16 = (zs.take k).map hx16 ++ [hx16 (zs.getD k (0, 0))] by
        have h : k < zs.length := by rw [HL.out]; exact hlt
        rw [List.take_succ_eq_append_getElem h, List.map_append]
        simp [List.getD, List.getElem?_eq_getElem h])
      have HC := Lib.hid (complexText_of (zs.getD k (0, 0)).1 (zs.getD k (0, 0)).2 W (HV.out k).1 (HV.out k).2 (HTz.out W hb))
      generalize zs.getD k (0, 0) = z at hx HS HC
      have hcl : W.cell? ⟨w.heap.size, k, none⟩ = some (.string ⟨#[]⟩) := by
        rw [hown.cellAt k (by omega)]; unfold strs
        rw [List.getElem?_append_right (by simp [hxs]), List.getElem?_replicate, if_pos (by simp [hxs]; omega)]
      have HCl := Lib.hid hcl
      have HO := Lib.hid hown
      have HB := Lib.hid hb
      have HX := Lib.hid hxs
      have hwl : w.heap.size < W.heap.size := World.block_lt_of_cell? W ⟨w.heap.size, k, none⟩ hcl
      have HW := Lib.hid hwl
      clear hcl hown hb hxs hwl
      go_wp2_with (go_at_call 38; ((with_reducible refine (HC.out).mono ?_); rintro e w2 ⟨T, hT, rfl, hb2⟩; have HT := Lib.hid hT; have hO := own_below HO.out hb2 (Nat.le_refl _); have hcl := (show w2.cell? ⟨w.heap.size, k, none⟩ = some (.string ⟨#[]⟩) by rw [hb2.cell (p := ⟨w.heap.size, k, none⟩) HW.out]; exact HCl.out); have hfr := hO.frozenAt k; have HO2 := Lib.hid hO; have HB2 := Lib.hid (HB.out.trans (hb2.mono HB.out.size)); clear hb2 hO hT))
      go_roundw
      case rel =>
        refine ⟨_, k + 1, xs ++ [T], rfl, by omega, by go_num, by simp [HX.out], ?_, ?_, ?_⟩
        · show (xs ++ [T]).map (·.data.toList) = _
          rw [HS.out, List.map_append, hX.out, List.map_cons, List.map_nil, HT.out]
        · have h7 := (HO2.out.stored k (.string T)).1
          rw [strs_set xs n k T HX.out hlt] at h7
          exact h7
        · exact HB2.out.setCell (Nat.le_refl _) _
      case measure => simp [intOf]; omega
    · obtain rfl : k = n := by omega
      have hT1 : zs.take k = zs := List.take_of_length_le (by rw [HL.out]; omega)
      rw [hT1] at hX
      have hJ : Lib.join (xs.map (·.data.toList)) [44] = ctext zs := by
        rw [hX.out, ctext, if_neg (by intro e; have := HL.out; rw [e] at this; simp at this; omega)]
      have hlen : (Lib.join (xs.map (·.data.toList)) [44]).length ≤ 140737488355328 := by
        rw [hX.out]
        have := cjoin_len' zs
        rw [HL.out] at this
        omega
      have hcells : ∀ (j : Nat) x, xs[j]? = some x → W.cell? ⟨w.heap.size, 0 + j, none⟩ = some (.string x) := by
        intro j x hj
        have hjl : j < xs.length := (List.getElem?_eq_some_iff.1 hj).1
        rw [Nat.zero_add, hown.cellAt j (by omega)]
        unfold strs
        rw [List.getElem?_append_left (by simpa using hjl), List.getElem?_map, hj]; rfl
      have hwl : w.heap.size < W.heap.size := World.block_lt_of_cell? W ⟨w.heap.size, 0, none⟩ (by
        have := hcells 0 _ (List.getElem?_eq_getElem (show 0 < xs.length by omega))
        simpa using this)
      have HC := Tryz.strings_Join w.heap.size 0 k xs ⟨#[44]⟩ W hcells hwl (by omega) (by omega) hlen
      rw [hxs, hJ] at HC
      have HC' := Lib.hid HC
      have HB := Lib.hid hb
      clear HC hJ hlen hcells hwl hb hown hxs hX hT1
      go_wp2_with (go_at_call 57; ((with_reducible refine (HC'.out).mono ?_); rintro e w2 ⟨rfl, hb2⟩; have HB2 := Lib.hid (HB.out.trans (hb2.mono HB.out.size)); clear hb2))
      go_ret2
      exact ⟨by unfold ctAns; rw [HL.out, if_pos hn, decide_eq_true hn]; rfl, HB2.out⟩
set_option maxRecDepth 100000 in
set_option maxHeartbeats 800000 in
theorem cjoinItems_many (ao : Option Addr) (n c : Nat) (w : World) (hn : 256 < n) (hn2 : n ≤ 9223372036854775807) :
    Calls Tryz.prog 37 #[.slice ao n c, .int .i64 256, .func (.func 38) #[] #[]] w fun e w' => e = .returned (.tuple #[.string ⟨#[]⟩, .bool false]) ∧ w = w' := by
  go_enter Tryz.func37, Tryz.ntmps37
  go_wp2
  go_ret2
  exact ⟨rfl, rfl⟩
set_option maxRecDepth 100000 in
set_option maxHeartbeats 800000 in
theorem cjoinItems_none (ao : Option Addr) (c : Nat) (w : World) :
    Calls Tryz.prog 37 #[.slice ao 0 c, .int .i64 256, .func (.func 38) #[] #[]] w fun e w' => e = .returned (.tuple #[.string ⟨#[110, 111, 110, 101]⟩, .bool true]) ∧ w = w' := by
  go_enter Tryz.func37, Tryz.ntmps37
  go_wp2
  go_ret2
  exact ⟨rfl, rfl⟩
theorem cjoinAll_of (ao : Option Addr) (n c : Nat) (zs : List (Nat × Nat)) (w : World) (hr : CRow w ao n zs) (hn : n ≤ 9223372036854775807) (hv : ∀ z ∈ zs, F2 z) (ht : Tz w) :
    Calls Tryz.prog 37 #[.slice ao n c, .int .i64 256, .func (.func 38) #[] #[]] w fun e w' => e = ctAns zs ∧ Below w.heap.size w w' := by
  have hl := hr.len
  by_cases h256 : n ≤ 256
  · by_cases h0 : n = 0
    · subst h0
      have hnil : zs = [] := List.eq_nil_of_length_eq_zero hl
      refine (cjoinItems_none ao c w).mono ?_
      rintro e w' ⟨rfl, rfl⟩
      refine ⟨?_, Below.refl _ _⟩
      subst hnil; rfl
    · obtain ⟨a, rfl⟩ := hr.addr (by omega)
      exact cjoinItems_of a n c zs w hr h256 (by omega) hv ht
  · refine (cjoinItems_many ao n c w (by omega) hn).mono ?_
    rintro e w' ⟨rfl, rfl⟩
    refine ⟨?_, Below.refl _ _⟩
    unfold ctAns
    rw [hl, if_neg h256, decide_eq_false h256]
set_option maxHeartbeats 800000 in
theorem complexTextAll_of (ao : Option Addr) (n c : Nat) (zs : List (Nat × Nat)) (w : World) (hr : CRow w ao n zs) (hn : n ≤ 9223372036854775807) (hv : ∀ z ∈ zs, F2 z) (ht : Tz w) :
    Calls Tryz.prog 16 #[.slice ao n c] w fun e w' => e = ctAns zs ∧ Below w.heap.size w w' := by
  have HC := cjoinAll_of ao n c zs w hr hn hv ht
  unfold ctAns at HC ⊢
  generalize (if zs.length ≤ 256 then (⟨(ctext zs).toArray⟩ : ByteArray) else ⟨#[]⟩) = S at HC ⊢
  generalize decide (zs.length ≤ 256) = b at HC ⊢
  have HC' := Lib.hid HC
  clear HC hr ht hv
  go_enter Tryz.func16, Tryz.ntmps16
  go_wp2_with (go_at_call 37; (with_reducible refine HC'.out.mono ?_); rintro e w' ⟨rfl, hb⟩)
  go_ret2
  exact ⟨rfl, hb⟩
end Go.Proofs.YtjcjijfemedojaaGreatDoor
