/- The draws of numbers: whatever 32-bit number is drawn. -/
import Derived.Test.YtjcjijfemedojaaGreatDoorSrc
import Derived.Test.YtjcjijfemedojaaGreatDoorBrow
import Derived.Test.YtjcjijfemedojaaGreatDoorSums
import Derived.Test.YtjcjijfemedojaaGreatDoorIList
import Derived.Test.YtjcjijfemedojaaGreatDoorRls
namespace Go.Proofs.YtjcjijfemedojaaGreatDoor
open Go.RowKit Fl

/-- a 32-bit number is drawn -/
def DrewF (w : World) (b m : Nat) (e : Ending) (w' : World) : Prop := ∃ r : Nat, r < 4294967296 ∧ e = .returned (.float .f32 r) ∧ Src w' b m ∧ Only b w w'
theorem DrewF.mono {w w' : World} {b m m' : Nat} {e : Ending} (h : DrewF w b m e w') (hm : m ≤ m') : DrewF w b m' e w' := by
  obtain ⟨r, h1, h2, h3, h4⟩ := h
  exact ⟨r, h1, h2, h3.mono hm, h4⟩
theorem div7 : ∀ n : Fin 129, (floatBits .quo .f32 (floatOfInt .f32 ((n.val : Int) - 64)) 1088421888).isSome = true := by decide +kernel
theorem div16 : ∀ n : Fin 129, (floatBits .quo .f32 (floatOfInt .f32 ((n.val : Int) - 64)) 1098907648).isSome = true := by decide +kernel
theorem plain_div (x : Int) (h0 : 0 ≤ x) (h1 : x < 129) : (∃ r, floatBits .quo .f32 (floatOfInt .f32 (x - 64)) 1088421888 = some r ∧ r < 4294967296) ∧ (∃ r, floatBits .quo .f32 (floatOfInt .f32 (x - 64)) 1098907648 = some r ∧ r < 4294967296) := by
  obtain ⟨n, rfl⟩ := Int.eq_ofNat_of_zero_le h0
  have a := div7 ⟨n, by omega⟩
  have b := div16 ⟨n, by omega⟩
  obtain ⟨r, hr⟩ := Option.isSome_iff_exists.1 a
  obtain ⟨q, hq⟩ := Option.isSome_iff_exists.1 b
  exact ⟨⟨r, hr, Ieee.Format.div_lt Ieee.single hr⟩, ⟨q, hq, Ieee.Format.div_lt Ieee.single hq⟩⟩
set_option maxHeartbeats 1600000 in
theorem drawPlain_of (b m : Nat) (w : World) (hm : m < 10000000) (h : Src w b m) :
    Calls Tryz.prog 62 #[.pointer (some ⟨b, 0, none⟩)] w (DrewF w b (m + 4)) := by
  have HP := Lib.hid (pick_of b m 129 w (by omega) h (by omega) (by omega))
  have HO := Lib.hid fun w' (h : Src w' b (m + 2)) => one_of b (m + 2) 4 w' (by omega) h (by omega) (by omega)
  clear h
  go_enter Tryz.func62, Tryz.ntmps62
  go_wp2_with (first | (go_at_call 28; (with_reducible refine HP.out.mono ?_); rintro e w1 ⟨x, hx0, hx1, rfl, hs, ho⟩; have HS := Lib.hid hs; have HO1 := Lib.hid ho; obtain ⟨⟨r7, h7, l7⟩, ⟨r16, h16, l16⟩⟩ := plain_div x hx0 hx1; have e7 := fun w => run_float_arith (P := Tryz.prog) w .quo 28 .f32 _ _ _ h7; have e16 := fun w => run_float_arith (P := Tryz.prog) w .quo 28 .f32 _ _ _ h16; clear hs ho h7 h16) | (go_at_call 41; (with_reducible refine (HO.out _ HS.out).mono ?_); rintro e w2 ⟨⟨v, rfl⟩, hs, ho⟩; have HS2 := Lib.hid hs; have HO2 := Lib.hid (HO1.out.trans ho); clear hs ho))
  all_goals go_ret
  · exact ⟨_, l7, rfl, HS2.out, HO2.out⟩
  · exact ⟨_, l16, rfl, HS2.out, HO2.out⟩
/-- a product of two 32-bit numbers, whatever they are -/
def mulV (a b : Nat) (w : World) : Nat := match floatBits .mul .f32 a b with
  | some r => r
  | none => nanb .f32 a b w
def mulW (a b : Nat) (w : World) : World := match floatBits .mul .f32 a b with
  | some _ => w
  | none => w.drew
theorem mul_any {P : Program} (t : TypeId) (a b : Nat) (w : World) : (binOp .mul t (.float .f32 a) (.float .f32 b)).run P w = .ok (.float .f32 (mulV a b w)) (mulW a b w) := by
  unfold mulV mulW
  cases h : floatBits .mul .f32 a b with
  | none => exact run_arith_nan .mul t .f32 a b w (by simp) h
  | some r => exact run_float_arith w .mul t .f32 a b r h
theorem mulV_lt (a b : Nat) (w : World) : mulV a b w < 4294967296 := by
  unfold mulV
  cases h : floatBits .mul .f32 a b with
  | none =>
    show (w.tape w.drawn (.nanBits .f32 a b)) % 2 * 2 ^ 31 + 0x7f800000 + 1 + (w.tape w.drawn (.nanBits .f32 a b)) / 2 % (2 ^ 23 - 1) < _
    omega
  | some r => exact Ieee.Format.mul_lt Ieee.single h
theorem mulQ (a b : Nat) (w : World) : Quiet w (mulW a b w) := by
  unfold mulW
  cases floatBits .mul .f32 a b with
  | none => exact Quiet.one _
  | some r => exact Quiet.refl _
theorem Only.irow {b n : Nat} {w w' : World} {ao : Option Addr} {zs : List Int} (h : Only b w w') (hr : IRow w ao n zs) (hb : ∀ a, ao = some a → a.block ≠ b) : IRow w' ao n zs :=
  ⟨hr.len, hr.addr, fun a ha i hi => by
    have hc := hr.cell a ha i hi
    have hl := World.block_lt_of_cell? w _ hc
    rw [World.cell?_of_block (h.far (a.add i).block (by have := hb a ha; unfold Addr.add; split <;> exact this) hl)]; exact hc⟩
/-- one of some numbers is drawn -/
def DrewL (w : World) (b m : Nat) (e : Ending) (w' : World) : Prop := ∃ r : Nat, r < 4294967296 ∧ e = .returned (.int .i64 r) ∧ Src w' b m ∧ Only b w w'
set_option maxHeartbeats 1600000 in
theorem among_of (b m n c : Nat) (ao : Option Addr) (zs : List Int) (w : World) (hm : m < 10000000) (h : Src w b m) (hr : IRow w ao n zs) (hb : ∀ a, ao = some a → a.block ≠ b) (h1 : 1 ≤ n) (h2 : n ≤ 200) (hz : ∀ z ∈ zs, 0 ≤ z ∧ z < 4294967296) :
    Calls Tryz.prog 63 #[.pointer (some ⟨b, 0, none⟩), .slice ao n c] w (DrewL w b (m + 2)) := by
  obtain ⟨a, rfl⟩ := hr.addr (by omega)
  have HP := Lib.hid (pick_of b m n w (by omega) h (by omega) (by omega))
  have HR := Lib.hid hr
  have HZ := Lib.hid hz
  have HB := Lib.hid hb
  clear h hr hz hb
  go_enter Tryz.func63, Tryz.ntmps63
  go_wp2_with fail
  refine HP.out.mono ?_
  rintro e w1 ⟨x, hx0, hx1, rfl, hs, ho⟩
  obtain ⟨k, rfl⟩ := Int.eq_ofNat_of_zero_le hx0
  have hkn : k < n := by omega
  have hck := (ho.irow HR.out HB.out).cell a rfl k hkn
  have hmem : 0 ≤ zs.getD k 0 ∧ zs.getD k 0 < 4294967296 := HZ.out _ (by rw [List.getD_eq_getElem?_getD, List.getElem?_eq_getElem (by rw [HR.out.len]; exact hkn)]; exact List.getElem_mem _)
  generalize zs.getD k 0 = z at hmem hck
  obtain ⟨r, rfl⟩ := Int.eq_ofNat_of_zero_le hmem.1
  have HS := Lib.hid hs
  have HO := Lib.hid ho
  clear hs ho
  go_wp2
  go_ret
  exact ⟨r, by omega, rfl, HS.out, HO.out⟩
theorem irow_lit {w : World} {g : Nat} {t : TypeId} (zs : List Int) (n : Nat) (hn : zs.length = n) (h : Blk w g t (zs.map (Value.int .i64)).toArray) : IRow w (some ⟨g, 0, none⟩) n zs :=
  ⟨hn, fun _ => ⟨_, rfl⟩, fun a ha i hi => by
    obtain rfl := Option.some.inj ha
    rw [show (⟨g, 0, none⟩ : Addr).add i = ⟨g, i, none⟩ by unfold Addr.add; split <;> simp_all]
    rw [h.cell i]
    simp [List.getD, List.getElem?_eq_getElem (show i < zs.length by omega)]⟩
/-- among some numbers that are written out -/
theorem among_lit (b m n : Nat) (t : TypeId) (zs : List Int) (w : World) (hm : m < 5000000) (h : Src w b m) (hn : zs.length = n) (h1 : 1 ≤ n) (h2 : n ≤ 200) (hz : ∀ z ∈ zs, 0 ≤ z ∧ z < 4294967296) :
    Calls Tryz.prog 63 #[.pointer (some ⟨b, 0, none⟩), .slice (some ⟨w.heap.size, 0, none⟩) n n] (w.alloc (.cells (zs.map (Value.int .i64)).toArray t)) fun e w' => ∃ r : Nat, r < 4294967296 ∧ e = .returned (.int .i64 r) ∧ Src w' b (m + 2) ∧ Only b w w' := by
  have hb := (Below.refl w.heap.size w).alloc (Nat.le_refl _) (.cells (zs.map (Value.int .i64)).toArray t)
  have hl := h.lt
  refine (among_of b m n n _ zs _ (by omega) (h.next hb) (irow_lit zs n hn (blk_new w t _ _ rfl)) (fun a ha => ?_) h1 h2 hz).mono ?_
  · obtain rfl := Option.some.inj ha
    show w.heap.size ≠ b
    omega
  · rintro e w' ⟨r, h3, h4, h5, h6⟩
    exact ⟨r, h3, h4, h5, ((Only.refl b w).alloc (by omega) _).trans h6⟩
set_option maxRecDepth 100000 in
set_option maxHeartbeats 3200000 in
theorem drawFloat_of (b m : Nat) (w : World) (hm : m < 1000000) (h : Src w b m) :
    Calls Tryz.prog 43 #[.pointer (some ⟨b, 0, none⟩)] w (DrewF w b (m + 10)) := by
  have HO := Lib.hid (one_of b m 12 w (by omega) h (by omega) (by omega))
  have HPl := Lib.hid fun w' m' (hm' : m' ≤ m + 6) (h : Src w' b m') => drawPlain_of b m' w' (by omega) h
  have HPi := Lib.hid fun w' m' n (hm' : m' ≤ m + 8) (h : Src w' b m') (h1 : 1 ≤ n) (h2 : n ≤ 65536) => pick_of b m' n w' (by omega) h h1 h2
  have HFr := Lib.hid fun n w h => l01From_any n w h
  have HMu := Lib.hid fun a c w => mul_any (P := Tryz.prog) 28 a c w
  clear h
  go_enter Tryz.func43, Tryz.ntmps43
  go_wp2_with (first | (go_at_call 41; (with_reducible refine HO.out.mono ?_); rintro e w1 ⟨⟨v, rfl⟩, hs, ho⟩; have HS := Lib.hid hs; have HO1 := Lib.hid ho; clear hs ho))
  · go_wp2_with (first | (go_at_call 62; (with_reducible refine (HPl.out _ _ (by omega) HS.out).mono ?_); rintro e w2 ⟨r, hr, rfl, hs, ho⟩; have HS2 := Lib.hid hs; have HO2 := Lib.hid (HO1.out.trans ho); clear hs ho))
    go_ret
    exact ⟨r, hr, rfl, HS2.out.mono (by omega), HO2.out⟩
  · go_wp2_with fail
    refine (HPi.out _ _ 4 (by omega) HS.out (by omega) (by omega)).mono ?_
    rintro e w2 ⟨x, hx0, hx1, rfl, hs, ho⟩
    have HS2 := Lib.hid hs
    have HO2 := Lib.hid (HO1.out.trans ho)
    clear hs ho
    have hx : x = 0 ∨ x = 1 ∨ x = 2 ∨ x = 3 := by omega
    rcases hx with rfl | rfl | rfl | rfl
    · have HA := Lib.hid (among_lit b (m + 2 + 2) 10 2 [0, 2147483648, 2139095040, 4286578688, 2143289344, 1, 2139095039, 8388608, 8388607, 2147483649] w2 (by omega) HS2.out rfl (by omega) (by omega) (by decide))
      go_wp2_with fail
      refine HA.out.mono ?_
      rintro e w3 ⟨r, hr, rfl, hs, ho⟩
      have HS3 := Lib.hid hs
      have HO3 := Lib.hid (HO2.out.trans ho)
      clear hs ho
      go_wp2_with (go_at_call 42; (with_reducible refine (HFr.out _ _ hr).mono ?_); rintro e w' ⟨rfl, rfl⟩)
      go_ret
      exact ⟨r, hr, rfl, HS3.out.mono (by omega), HO3.out⟩
    · go_wp2_with fail
      refine (HPi.out _ _ 65536 (by omega) HS2.out (by omega) (by omega)).mono ?_
      rintro e w3 ⟨y, hy0, hy1, rfl, hs, ho⟩
      have HS3 := Lib.hid hs
      have HO3 := Lib.hid (HO2.out.trans ho)
      clear hs ho
      obtain ⟨p, rfl⟩ := Int.eq_ofNat_of_zero_le hy0
      go_wp2_with fail
      refine (HPi.out _ _ 65536 (by omega) HS3.out (by omega) (by omega)).mono ?_
      rintro e w4 ⟨z, hz0, hz1, rfl, hs, ho⟩
      have HS4 := Lib.hid hs
      have HO4 := Lib.hid (HO3.out.trans ho)
      clear hs ho
      obtain ⟨q, rfl⟩ := Int.eq_ofNat_of_zero_le hz0
      have HF := Lib.hid fun w => (show Calls Tryz.prog 42 #[.int .i64 ((p : Int) * 65536 + q)] w fun e w' => e = .returned (.float .f32 (p * 65536 + q)) ∧ w = w' from HFr.out (p * 65536 + q) w (by omega))
      go_wp2_with (go_at_call 42; (with_reducible refine (HF.out _).mono ?_); rintro e w' ⟨rfl, rfl⟩)
      go_ret
      exact ⟨_, by omega, rfl, HS4.out.mono (by omega), HO4.out⟩
    · go_wp2_with fail
      refine (HPi.out _ _ 65536 (by omega) HS2.out (by omega) (by omega)).mono ?_
      rintro e w3 ⟨y, hy0, hy1, rfl, hs, ho⟩
      have HS3 := Lib.hid hs
      have HO3 := Lib.hid (HO2.out.trans ho)
      clear hs ho
      obtain ⟨p, rfl⟩ := Int.eq_ofNat_of_zero_le hy0
      have HF := Lib.hid fun w => (show Calls Tryz.prog 42 #[.int .i64 ((p : Int) * 65536)] w fun e w' => e = .returned (.float .f32 (p * 65536)) ∧ w = w' from HFr.out (p * 65536) w (by omega))
      go_wp2_with (go_at_call 42; (with_reducible refine (HF.out _).mono ?_); rintro e w' ⟨rfl, rfl⟩)
      go_ret
      exact ⟨_, by omega, rfl, HS3.out.mono (by omega), HO3.out⟩
    · go_wp2_with fail
      refine (HPl.out _ _ (by omega) HS2.out).mono ?_
      rintro e w3 ⟨r, hr, rfl, hs, ho⟩
      have HS3 := Lib.hid hs
      have HO3 := Lib.hid (HO2.out.trans ho)
      clear hs ho
      have HA := Lib.hid (among_lit b (m + 2 + 2 + 4) 4 2 [8388608, 2130706432, 1610612736, 536870912] w3 (by omega) HS3.out rfl (by omega) (by omega) (by decide))
      go_wp2_with fail
      refine HA.out.mono ?_
      rintro e w4 ⟨f, hf, rfl, hs, ho⟩
      have HS4 := Lib.hid hs
      have HO4 := Lib.hid (HO3.out.trans ho)
      clear hs ho
      have hmul := fun w => HMu.out r f w
      go_wp2_with (go_at_call 42; (with_reducible refine (HFr.out _ _ hf).mono ?_); rintro e w' ⟨rfl, rfl⟩)
      go_ret
      obtain ⟨k, hk⟩ := mulQ r f w4
      refine ⟨_, mulV_lt r f w4, rfl, ?_, HO4.out.quiet (mulQ r f w4)⟩
      rw [hk]
      exact HS4.out
set_option maxHeartbeats 1600000 in
theorem from_of (ao : Option Addr) (n c : Nat) (w : World) (hn : n ≤ 9223372036854775807) (ha : 0 < n → ∃ a : Addr, ao = some a) (hc : ∀ a, ao = some a → ∀ i, i < n → ∃ v : Nat, v < 256 ∧ w.cell? (a.add i) = some (.int .u8 v)) :
    Calls Tryz.prog 27 #[.slice ao n c] w fun e w' => e = .returned (.pointer (some ⟨w.heap.size, 0, none⟩)) ∧ Src w' w.heap.size 0 ∧ Below w.heap.size w w' := by
  have HA := Lib.hid ha
  have HC := Lib.hid hc
  clear ha hc
  go_enter Tryz.func27, Tryz.ntmps27
  go_wp2
  go_ret
  have hb := (Below.refl w.heap.size w).alloc (Nat.le_refl _) (.cells #[.slice ao n c, .int .i64 0, .int .u64 0] 75)
  exact ⟨rfl, Src.put (k := 0) (blk_new w _ _ _ rfl) hb (Nat.le_refl _) hn (by omega) HA.out (fun a h i hi => by
    obtain ⟨v, hv, he⟩ := HC.out a h i hi
    exact ⟨World.block_lt_of_cell? w _ he, v, hv, he⟩), hb⟩
theorem Only.base {b : Nat} {w w1 w2 : World} (h : Only b w1 w2) (k : Below w.heap.size w w1) (hb : w.heap.size ≤ b) : Below w.heap.size w w2 := h.under k hb
set_option maxHeartbeats 1600000 in
theorem b10Number_of (ao : Option Addr) (n c : Nat) (w : World) (hr : BRow w ao n) :
    Calls Tryz.prog 18 #[.slice ao n c] w fun e w' => ∃ r : Nat, r < 4294967296 ∧ e = .returned (.float .f32 r) ∧ Below w.heap.size w w' := by
  have HF := Lib.hid (from_of ao n c w hr.len hr.addr hr.cell)
  have HO := Lib.hid fun w' (h : Src w' w.heap.size 0) => one_of w.heap.size 0 2 w' (by omega) h (by omega) (by omega)
  have HPi := Lib.hid fun w' m' (hm' : m' ≤ 8) (h : Src w' w.heap.size m') => pick_of w.heap.size m' 65536 w' (by omega) h (by omega) (by omega)
  have HD := Lib.hid fun w' m' (hm' : m' ≤ 8) (h : Src w' w.heap.size m') => drawFloat_of w.heap.size m' w' (by omega) h
  have HFr := Lib.hid fun n w h => l01From_any n w h
  clear hr
  go_enter Tryz.func18, Tryz.ntmps18
  go_wp2_with (first | (go_at_call 27; (with_reducible refine HF.out.mono ?_); rintro e w1 ⟨rfl, hs, hb⟩; have HS := Lib.hid hs; have HB := Lib.hid hb; clear hs hb) | (go_at_call 41; (with_reducible refine (HO.out _ HS.out).mono ?_); rintro e w2 ⟨⟨v, rfl⟩, hs, ho⟩; have HS2 := Lib.hid hs; have HB2 := Lib.hid (ho.base HB.out (Nat.le_refl _)); clear hs ho))
  · go_wp2_with fail
    refine (HPi.out _ _ (by omega) HS2.out).mono ?_
    rintro e w3 ⟨y, hy0, hy1, rfl, hs, ho⟩
    have HS3 := Lib.hid hs
    have HB3 := Lib.hid (ho.base HB2.out (Nat.le_refl _))
    clear hs ho
    obtain ⟨p, rfl⟩ := Int.eq_ofNat_of_zero_le hy0
    go_wp2_with fail
    refine (HPi.out _ _ (by omega) HS3.out).mono ?_
    rintro e w4 ⟨z, hz0, hz1, rfl, hs, ho⟩
    have HB4 := Lib.hid (ho.base HB3.out (Nat.le_refl _))
    clear hs ho
    obtain ⟨q, rfl⟩ := Int.eq_ofNat_of_zero_le hz0
    have HF2 := Lib.hid fun w => (show Calls Tryz.prog 42 #[.int .i64 ((p : Int) * 65536 + q)] w fun e w' => e = .returned (.float .f32 (p * 65536 + q)) ∧ w = w' from HFr.out (p * 65536 + q) w (by omega))
    go_wp2_with (go_at_call 42; (with_reducible refine (HF2.out _).mono ?_); rintro e w' ⟨rfl, rfl⟩)
    go_ret
    exact ⟨_, by omega, rfl, HB4.out⟩
  · go_wp2_with fail
    refine (HD.out _ _ (by omega) HS2.out).mono ?_
    rintro e w3 ⟨r, hr, rfl, hs, ho⟩
    have HB3 := Lib.hid (ho.base HB2.out (Nat.le_refl _))
    clear hs ho
    go_wp2
    go_ret
    exact ⟨r, hr, rfl, HB3.out⟩
end Go.Proofs.YtjcjijfemedojaaGreatDoor
