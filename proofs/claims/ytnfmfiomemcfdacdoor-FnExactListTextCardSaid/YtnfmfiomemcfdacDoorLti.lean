/- Texts of lists of integers: the program's side. -/
import Derived.Test.YtnfmfiomemcfdacDoorLtx
import Derived.Test.YtnfmfiomemcfdacDoorRdc
import Derived.Test.YtnfmfiomemcfdacDoorSheljoin
namespace Go.Proofs.YtnfmfiomemcfdacDoor
open Go.RowKit

theorem valueText_yes (z : Int) (w : World) (htab : Tab w) (hz : -1000000000000000 ≤ z ∧ z ≤ 1000000000000000) :
    Calls Tryd.prog 43 #[.int .i64 z] w fun e w' => e = .returned (.tuple #[.string ⟨(Lib.itoa z).toArray⟩, .bool true]) ∧ Below w.heap.size w w' := by
  have HV := Lib.hid fun w => isValue_of z w true (by simp [hz.1, hz.2])
  have HD := Lib.hid fun w (h : Tab w) => decimal_of z w (by omega) (by omega) h
  have HT := Lib.hid htab
  obtain ⟨S, hS⟩ : ∃ S : ByteArray, S = ⟨(Lib.itoa z).toArray⟩ := ⟨_, rfl⟩
  rw [← hS] at HD ⊢
  clear hS htab
  go_enter Tryd.func43, Tryd.ntmps43
  go_wp2_with (first | (go_at_call 38; (with_reducible refine (HV.out _).mono ?_); rintro e w' ⟨rfl, rfl⟩) | (go_at_call 39; (with_reducible refine (HD.out _ HT.out).mono ?_); rintro e w2 ⟨rfl, hb2⟩))
  go_ret2
  exact ⟨rfl, hb2⟩
theorem valueText_no (z : Int) (w : World) (hz : ¬ (-1000000000000000 ≤ z ∧ z ≤ 1000000000000000)) :
    Calls Tryd.prog 43 #[.int .i64 z] w fun e w' => e = .returned (.tuple #[.string ⟨#[]⟩, .bool false]) ∧ w = w' := by
  have HV := Lib.hid fun w => isValue_of z w false (by rcases Int.lt_or_le z (-1000000000000000) with h | h <;> simp <;> omega)
  clear hz
  go_enter Tryd.func43, Tryd.ntmps43
  go_wp2_with (first | (go_at_call 38; (with_reducible refine (HV.out _).mono ?_); rintro e w' ⟨rfl, rfl⟩))
  go_ret2
  exact ⟨rfl, rfl⟩
theorem own_below' {w w' : World} {base e size n : Nat} {v : Value} {xs : List Value} (h : w.ownsRow base e size v n xs) (hb : Below w.heap.size w w') : w'.ownsRow base e size v n xs :=
  h.kept (row := none) ⟨hb.os, hb.tape, hb.output, hb.size, fun i hi _ => hb.block i hi⟩ (by cases hv : v.ownBlock <;> simp)
theorem strinfo : (Tryd.prog.info? 9).map (fun i => (i.zero, i.size, i.bytes)) = some (some (.string ⟨#[]⟩), 1, 16) := by kernel_rfl
theorem made_str (n : Nat) : (madeCells (Value.string ⟨#[]⟩).cells (n * 1)).toList = List.replicate n (.string ⟨#[]⟩) := by
  rw [Nat.mul_one]; exact toList_madeCells_one _ n
def strs (xs : List ByteArray) (m : Nat) : List Value := xs.map Value.string ++ List.replicate m (.string ⟨#[]⟩)
theorem strs_set (xs : List ByteArray) (n k : Nat) (x : ByteArray) (hl : xs.length = k) (hk : k < n) : (strs xs (n - k)).set k (.string x) = strs (xs ++ [x]) (n - (k + 1)) := by
  unfold strs
  rw [List.set_append_right _ _ (by simp [hl]), List.length_map, hl, Nat.sub_self, show n - k = (n - (k + 1)) + 1 by omega, List.replicate_succ, List.set_cons_zero]
  simp
theorem join_len : ∀ (zs : List Int), zs.all inV = true → (Lib.joinTail [44] (zs.map Lib.itoa)).length ≤ 18 * zs.length
  | [], _ => by simp [Lib.joinTail]
  | z :: zs, h => by
    simp only [List.all_cons, Bool.and_eq_true] at h
    have ih := join_len zs h.2
    have hz := itoa_small z (by simpa [inV, inB] using h.1)
    unfold Lib.joinTail at ih ⊢
    simp only [List.map_cons, List.flatten_cons, List.length_append, List.length_cons, List.length_nil]
    omega
theorem join_len' (zs : List Int) (h : zs.all inV = true) : (Lib.join (zs.map Lib.itoa) [44]).length ≤ 18 * zs.length := by
  cases zs with
  | nil => simp [Lib.join_nil]
  | cons z zs =>
    simp only [List.all_cons, Bool.and_eq_true] at h
    have := join_len zs h.2
    have hz := itoa_small z (by simpa [inV, inB] using h.1)
    rw [List.map_cons, Lib.join_cons, List.length_append, List.length_cons]
    omega
set_option maxRecDepth 100000 in
set_option maxHeartbeats 3200000 in
theorem joinItems_of (a : Addr) (n c : Nat) (zs : List Int) (w : World) (hr : IRow w (some a) n zs) (hn : n ≤ 64) (h0 : 0 < n) (htab : Tab w) :
    Calls Tryd.prog 42 #[.slice (some a) n c, .int .i64 64, .func (.func 43) #[] #[]] w fun e w' => e = ltAns zs ∧ Below w.heap.size w w' := by
  obtain ⟨i0, hi, hz0, hz1, hz2⟩ := info_parts strinfo
  have HL := Lib.hid hr.len
  have HR := Lib.hid hr
  have HTab := Lib.hid htab
  have hne : ((n : Int) == 0) = false := beq_eq_false_iff_ne.2 (by omega)
  clear hr htab
  go_enter Tryd.func42, Tryd.ntmps42
  go_wp2_with (at_make; go_loud (refine wpList_make_full _ rfl _ _ 70 rfl w.heap.size 9 i0 (.string ⟨#[]⟩) 1 Tryd.underlying70 hi hz0 hz1 .i64 .i64 _ _ n rfl rfl rfl rfl (by rw [hz2]; omega) (by unfold maxLen; omega) (Nat.le_refl _) ?_); intro w1 hown hgrow; rw [made_str] at hown; have HO := Lib.hid hown; have HB := Lib.hid (((Below.refl w.heap.size w).grown hgrow (Nat.le_refl _) (by simp) : Below w.heap.size w w1)); clear hown hgrow)
  go_loopw [25] (fun i wr => ∃ (W : World) (k : Nat) (xs : List ByteArray), W = wr ∧ k ≤ n ∧ i = .int .i64 k ∧ xs.length = k ∧ Hid (xs.map (·.data.toList) = (zs.take k).map Lib.itoa) ∧ Hid ((zs.take k).all inV = true) ∧
      wr.ownsRow w.heap.size 9 1 (.slice (some ⟨w.heap.size, 0, none⟩) n n) n (strs xs (n - k)) ∧ Below w.heap.size w wr) (fun i _ => n - (intOf i).toNat)
  case atStart => exact ⟨_, 0, [], rfl, Nat.zero_le _, rfl, rfl, rfl, rfl, HO.out, HB.out⟩
  case round =>
    clear HO HB
    obtain ⟨W, k, xs, rfl, hk, rfl, hxs, hX, hv, hown, hb⟩ := hrel
    by_cases hlt : k < n
    · have hx := (HR.out.below hb (Nat.le_refl _)).cell a rfl k hlt
      have HA := Lib.hid (allv_take zs k (by rw [HL.out]; exact hlt))
      have HN := Lib.hid (allv_no zs k (by rw [HL.out]; exact hlt))
      have HS := Lib.hid (show (zs.take (k + 1)).map Lib.itoa = (zs.take k).map Lib.itoa ++ [Lib.itoa (zs.getD k 0)] by
        have h : k < zs.length := by rw [HL.out]; exact hlt
        rw [List.take_succ_eq_append_getElem h, List.map_append]
        simp [List.getD, List.getElem?_eq_getElem h])
      generalize zs.getD k 0 = z at hx HA HN HS
      by_cases hz : -1000000000000000 ≤ z ∧ z ≤ 1000000000000000
      · have hbt := HTab.out.below hb
        obtain ⟨T, hT⟩ : ∃ T : ByteArray, T = ⟨(Lib.itoa z).toArray⟩ := ⟨_, rfl⟩
        have HC := valueText_yes z W hbt hz
        rw [← hT] at HC
        have HC' := Lib.hid HC
        have HT := Lib.hid (show T.data.toList = Lib.itoa z by rw [hT])
        have hfr := hown.frozenAt k
        have hcl : W.cell? ⟨w.heap.size, k, none⟩ = some (.string ⟨#[]⟩) := by
          rw [hown.cellAt k (by omega)]; unfold strs
          rw [List.getElem?_append_right (by simp [hxs]), List.getElem?_replicate, if_pos (by simp [hxs]; omega)]
        have HCl := Lib.hid hcl
        have HO := Lib.hid hown
        have HB := Lib.hid hb
        have HX := Lib.hid hxs
        have HV := Lib.hid hv.out
        have hwl : w.heap.size < W.heap.size := World.block_lt_of_cell? W ⟨w.heap.size, k, none⟩ hcl
        have HW := Lib.hid hwl
        clear HC hT hbt hcl hfr hown hb hxs hv hwl
        go_wp2_with (go_at_call 43; ((with_reducible refine (HC'.out).mono ?_); rintro e w2 ⟨rfl, hb2⟩; have hO := own_below' HO.out hb2; have hcl := (show w2.cell? ⟨w.heap.size, k, none⟩ = some (.string ⟨#[]⟩) by rw [hb2.cell (p := ⟨w.heap.size, k, none⟩) HW.out]; exact HCl.out); have hfr := hO.frozenAt k; have HO2 := Lib.hid hO; have HB2 := Lib.hid (HB.out.trans (hb2.mono HB.out.size)); clear hb2 hO))
        go_roundw
        case rel =>
          refine ⟨_, k + 1, xs ++ [T], rfl, by omega, by go_num, by simp [HX.out], ?_, ?_, ?_, ?_⟩
          · show (xs ++ [T]).map (·.data.toList) = _
            rw [HS.out, List.map_append, hX.out, List.map_cons, List.map_nil, HT.out]
          · show (zs.take (k + 1)).all inV = true
            rw [HA.out, HV.out, Bool.true_and]
            simpa [inV, inB] using hz
          · have h7 := (HO2.out.stored k (.string T)).1
            rw [strs_set xs n k T HX.out hlt] at h7
            exact h7
          · exact HB2.out.setCell (Nat.le_refl _) _
        case measure => simp [intOf]; omega
      · have HC := Lib.hid fun w' => valueText_no z w' hz
        have HB := Lib.hid hb
        have hno : okList zs = false := by
          rw [okList, HN.out (by
            cases hi : inV z
            · rfl
            · exact absurd (by simpa [inV, inB] using hi) hz)]; rfl
        have HNo := Lib.hid hno
        clear hb hown hxs hno hz HA HN HS hX hv
        go_wp2_with (go_at_call 43; ((with_reducible refine (HC.out _).mono ?_); rintro e w2 ⟨rfl, rfl⟩))
        go_ret2
        exact ⟨by unfold ltAns; rw [HNo.out]; rfl, HB.out⟩
    · obtain rfl : k = n := by omega
      have hT1 : zs.take k = zs := List.take_of_length_le (by rw [HL.out]; omega)
      rw [hT1] at hX hv
      have hok : okList zs = true := by rw [okList, hv.out, HL.out]; simpa using hn
      have hJ : Lib.join (xs.map (·.data.toList)) [44] = listText zs := by
        rw [hX.out, listText, if_neg (by intro e; have := HL.out; rw [e] at this; simp at this; omega)]
      have hlen : (Lib.join (xs.map (·.data.toList)) [44]).length ≤ 140737488355328 := by
        rw [hX.out]
        have := join_len' zs hv.out
        rw [HL.out] at this
        omega
      have hcells : ∀ (j : Nat) x, xs[j]? = some x → W.cell? ⟨w.heap.size, 0 + j, none⟩ = some (.string x) := by
        intro j x hj
        have hjl : j < xs.length := (List.getElem?_eq_some_iff.1 hj).1
        rw [Nat.zero_add, hown.cellAt j (by omega)]
        unfold strs
        rw [List.getElem?_append_left (by simpa using hjl), List.getElem?_map, hj]; rfl
      have hwl : w.heap.size < W.heap.size := World.block_lt_of_cell? W ⟨w.heap.size, 0, none⟩ (by
        have := hcells 0 _ (List.getElem?_eq_getElem (show 0 < xs.length by omega))
        simpa using this)
      have HC := Tryd.strings_Join w.heap.size 0 k xs ⟨#[44]⟩ W hcells hwl (by omega) (by omega) hlen
      rw [hxs, hJ] at HC
      have HC' := Lib.hid HC
      have HNo := Lib.hid hok
      have HB := Lib.hid hb
      clear HC hok hJ hlen hcells hwl hb hown hxs hX hv hT1
      go_wp2_with (go_at_call 63; ((with_reducible refine (HC'.out).mono ?_); rintro e w2 ⟨rfl, hb2⟩; have HB2 := Lib.hid (HB.out.trans (hb2.mono HB.out.size)); clear hb2))
      go_ret2
      exact ⟨by unfold ltAns; rw [HNo.out]; rfl, HB2.out⟩
set_option maxRecDepth 100000 in
set_option maxHeartbeats 800000 in
theorem joinItems_many (ao : Option Addr) (n c : Nat) (w : World) (hn : 64 < n) (hn2 : n ≤ 1048576) :
    Calls Tryd.prog 42 #[.slice ao n c, .int .i64 64, .func (.func 43) #[] #[]] w fun e w' => e = .returned (.tuple #[.string ⟨#[]⟩, .bool false]) ∧ w = w' := by
  go_enter Tryd.func42, Tryd.ntmps42
  go_wp2
  go_ret2
  exact ⟨rfl, rfl⟩
set_option maxRecDepth 100000 in
set_option maxHeartbeats 800000 in
theorem joinItems_none (ao : Option Addr) (c : Nat) (w : World) :
    Calls Tryd.prog 42 #[.slice ao 0 c, .int .i64 64, .func (.func 43) #[] #[]] w fun e w' => e = .returned (.tuple #[.string ⟨#[110, 111, 110, 101]⟩, .bool true]) ∧ w = w' := by
  go_enter Tryd.func42, Tryd.ntmps42
  go_wp2
  go_ret2
  exact ⟨rfl, rfl⟩
theorem joinItems_all (ao : Option Addr) (n c : Nat) (zs : List Int) (w : World) (hr : IRow w ao n zs) (hn : n ≤ 1048576) (htab : Tab w) :
    Calls Tryd.prog 42 #[.slice ao n c, .int .i64 64, .func (.func 43) #[] #[]] w fun e w' => e = ltAns zs ∧ Below w.heap.size w w' := by
  by_cases h1 : 64 < n
  · refine (joinItems_many ao n c w h1 hn).mono fun e w' ⟨he, hw⟩ => ⟨?_, by subst hw; exact Below.refl _ _⟩
    have : okList zs = false := by rw [okList, hr.len, decide_eq_false (by omega), Bool.and_false]
    unfold ltAns; rw [this, he]; rfl
  by_cases h0 : n = 0
  · subst h0
    have hz : zs = [] := List.eq_nil_of_length_eq_zero hr.len
    subst hz
    exact (joinItems_none ao c w).mono fun e w' ⟨he, hw⟩ => ⟨by rw [he]; rfl, by subst hw; exact Below.refl _ _⟩
  obtain ⟨a, rfl⟩ := hr.addr (by omega)
  exact joinItems_of a n c zs w hr (by omega) (by omega) htab
theorem listText_of (ao : Option Addr) (n c : Nat) (zs : List Int) (w : World) (hr : IRow w ao n zs) (hn : n ≤ 1048576) (htab : Tab w) :
    Calls Tryd.prog 18 #[.slice ao n c] w fun e w' => e = ltAns zs ∧ Below w.heap.size w w' := by
  have HC := joinItems_all ao n c zs w hr hn htab
  unfold ltAns at HC ⊢
  generalize (if okList zs then (⟨(listText zs).toArray⟩ : ByteArray) else ⟨#[]⟩) = S at HC ⊢
  generalize okList zs = b at HC ⊢
  have HC' := Lib.hid HC
  clear HC hr htab
  go_enter Tryd.func18, Tryd.ntmps18
  go_wp2_with (go_at_call 42; ((with_reducible refine (HC'.out).mono ?_); rintro e w2 ⟨rfl, hb2⟩))
  go_ret2
  exact ⟨rfl, hb2⟩
end Go.Proofs.YtnfmfiomemcfdacDoor
