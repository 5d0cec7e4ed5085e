/- Texts of lists of numbers: the program's side. -/
import Derived.Test.YtpocclcijkopnaaGreatDoorNn
namespace Go.Proofs.YtpocclcijkopnaaGreatDoor
open Go.RowKit Fl

theorem made_str (n : Nat) : (madeCells (Value.string ⟨#[]⟩).cells (n * 1)).toList = List.replicate n (.string ⟨#[]⟩) := by
  rw [Nat.mul_one]; exact toList_madeCells_one _ n
def strs (xs : List ByteArray) (m : Nat) : List Value := xs.map Value.string ++ List.replicate m (.string ⟨#[]⟩)
theorem strs_set (xs : List ByteArray) (n k : Nat) (x : ByteArray) (hl : xs.length = k) (hk : k < n) : (strs xs (n - k)).set k (.string x) = strs (xs ++ [x]) (n - (k + 1)) := by
  unfold strs
  rw [List.set_append_right _ _ (by simp [hl]), List.length_map, hl, Nat.sub_self, show n - k = (n - (k + 1)) + 1 by omega, List.replicate_succ, List.set_cons_zero]
  simp
theorem join_len : ∀ (zs : List Nat), (Lib.joinTail [44] (zs.map hx8)).length = 9 * zs.length
  | [] => by simp [Lib.joinTail]
  | z :: zs => by
    have ih := join_len zs
    unfold Lib.joinTail at ih ⊢
    simp only [List.map_cons, List.flatten_cons, List.length_append, List.length_cons, List.length_nil, hx8_len]
    omega
theorem join_len' (zs : List Nat) : (Lib.join (zs.map hx8) [44]).length ≤ 9 * zs.length := by
  cases zs with
  | nil => simp [Lib.join_nil]
  | cons z zs =>
    have := join_len zs
    rw [List.map_cons, Lib.join_cons, List.length_append, List.length_cons, this, hx8_len]
    omega
set_option maxRecDepth 100000 in
set_option maxHeartbeats 3200000 in
theorem joinItems_of (a : Addr) (n c : Nat) (zs : List Nat) (w : World) (hr : FRow w (some a) n zs) (hn : n ≤ 256) (h0 : 0 < n) (hv : ∀ x ∈ zs, x < 4294967296) (ht : Tz w) :
    Calls Tryz.prog 49 #[.slice (some a) n c, .int .i64 256, .func (.func 50) #[] #[]] w fun e w' => e = ntAns zs ∧ Below w.heap.size w w' := by
  obtain ⟨i0, hi, hz0, hz1, hz2⟩ := info_parts sinfo
  have HL := Lib.hid hr.len
  have HR := Lib.hid hr
  have HTz := Lib.hid fun w' (h : Below w.heap.size w w') => ht.below h (Nat.le_refl _)
  have HV := Lib.hid (small_at hv)
  have hne : ((n : Int) == 0) = false := beq_eq_false_iff_ne.2 (by omega)
  clear hr ht hv
  go_enter Tryz.func49, Tryz.ntmps49
  go_wp2_with (at_make; go_loud (refine wpList_make_full _ rfl _ _ 94 rfl w.heap.size 9 i0 (.string ⟨#[]⟩) 1 Tryz.underlying94 hi hz0 hz1 .i64 .i64 _ _ n rfl rfl rfl rfl (by rw [hz2]; omega) (by unfold maxLen; omega) (Nat.le_refl _) ?_); intro w1 hown hgrow; rw [made_str] at hown; have HO := Lib.hid hown; have HB := Lib.hid (((Below.refl w.heap.size w).grown hgrow (Nat.le_refl _) (by simp) : Below w.heap.size w w1)); clear hown hgrow)
  go_loopw [25] (fun i wr => ∃ (W : World) (k : Nat) (xs : List ByteArray), W = wr ∧ k ≤ n ∧ i = .int .i64 k ∧ xs.length = k ∧ Hid (xs.map (·.data.toList) = (zs.take k).map hx8) ∧
      wr.ownsRow w.heap.size 9 1 (.slice (some ⟨w.heap.size, 0, none⟩) n n) n (strs xs (n - k)) ∧ Below w.heap.size w wr) (fun i _ => n - (intOf i).toNat)
  case atStart => exact ⟨_, 0, [], rfl, Nat.zero_le _, rfl, rfl, rfl, HO.out, HB.out⟩
  case round =>
    clear HO HB
    obtain ⟨W, k, xs, rfl, hk, rfl, hxs, hX, hown, hb⟩ := hrel
    by_cases hlt : k < n
    · have hx := (HR.out.below hb (Nat.le_refl _)).cell a rfl k hlt
      have HS := Lib.hid (show (zs.take (k + 1)).map hx8 = (zs.take k).map hx8 ++ [hx8 (zs.getD k 0)] by
        have h : k < zs.length := by rw [HL.out]; exact hlt
        rw [List.take_succ_eq_append_getElem h, List.map_append]
        simp [List.getD, List.getElem?_eq_getElem h])
      have HC := Lib.hid (numberText_of (zs.getD k 0) W (HV.out k) (HTz.out W hb))
      generalize zs.getD k 0 = z at hx HS HC
      have hcl : W.cell? ⟨w.heap.size, k, none⟩ = some (.string ⟨#[]⟩) := by
        rw [hown.cellAt k (by omega)]; unfold strs
        rw [List.getElem?_append_right (by simp [hxs]), List.getElem?_replicate, if_pos (by simp [hxs]; omega)]
      have HCl := Lib.hid hcl
      have HO := Lib.hid hown
      have HB := Lib.hid hb
      have HX := Lib.hid hxs
      have hwl : w.heap.size < W.heap.size := World.block_lt_of_cell? W ⟨w.heap.size, k, none⟩ hcl
      have HW := Lib.hid hwl
      clear hcl hown hb hxs hwl
      go_wp2_with (go_at_call 50; ((with_reducible refine (HC.out).mono ?_); rintro e w2 ⟨T, hT, rfl, hb2⟩; have HT := Lib.hid hT; have hO := own_below HO.out hb2 (Nat.le_refl _); have hcl := (show w2.cell? ⟨w.heap.size, k, none⟩ = some (.string ⟨#[]⟩) by rw [hb2.cell (p := ⟨w.heap.size, k, none⟩) HW.out]; exact HCl.out); have hfr := hO.frozenAt k; have HO2 := Lib.hid hO; have HB2 := Lib.hid (HB.out.trans (hb2.mono HB.out.size)); clear hb2 hO hT))
      go_roundw
      case rel =>
        refine ⟨_, k + 1, xs ++ [T], rfl, by omega, by go_num, by simp [HX.out], ?_, ?_, ?_⟩
        · show (xs ++ [T]).map (·.data.toList) = _
          rw [HS.out, List.map_append, hX.out, List.map_cons, List.map_nil, HT.out]
        · have h7 := (HO2.out.stored k (.string T)).1
          rw [strs_set xs n k T HX.out hlt] at h7
          exact h7
        · exact HB2.out.setCell (Nat.le_refl _) _
      case measure => simp [intOf]; omega
    · obtain rfl : k = n := by omega
      have hT1 : zs.take k = zs := List.take_of_length_le (by rw [HL.out]; omega)
      rw [hT1] at hX
      have hJ : Lib.join (xs.map (·.data.toList)) [44] = ntext zs := by
        rw [hX.out, ntext, if_neg (by intro e; have := HL.out; rw [e] at this; simp at this; omega)]
      have hlen : (Lib.join (xs.map (·.data.toList)) [44]).length ≤ 140737488355328 := by
        rw [hX.out]
        have := join_len' zs
        rw [HL.out] at this
        omega
      have hcells : ∀ (j : Nat) x, xs[j]? = some x → W.cell? ⟨w.heap.size, 0 + j, none⟩ = some (.string x) := by
        intro j x hj
        have hjl : j < xs.length := (List.getElem?_eq_some_iff.1 hj).1
        rw [Nat.zero_add, hown.cellAt j (by omega)]
        unfold strs
        rw [List.getElem?_append_left (by simpa using hjl), List.getElem?_map, hj]; rfl
      have hwl : w.heap.size < W.heap.size := World.block_lt_of_cell? W ⟨w.heap.size, 0, none⟩ (by
        have := hcells 0 _ (List.getElem?_eq_getElem (show 0 < xs.length by omega))
        simpa using this)
      have HC := Tryz.strings_Join w.heap.size 0 k xs ⟨#[44]⟩ W hcells hwl (by omega) (by omega) hlen
      rw [hxs, hJ] at HC
      have HC' := Lib.hid HC
      have HB := Lib.hid hb
      clear HC hJ hlen hcells hwl hb hown hxs hX hT1
      go_wp2_with (go_at_call 81; ((with_reducible refine (HC'.out).mono ?_); rintro e w2 ⟨rfl, hb2⟩; have HB2 := Lib.hid (HB.out.trans (hb2.mono HB.out.size)); clear hb2))
      go_ret2
      exact ⟨by unfold ntAns; rw [HL.out, if_pos hn, decide_eq_true hn]; rfl, HB2.out⟩
set_option maxRecDepth 100000 in
set_option maxHeartbeats 800000 in
theorem joinItems_many (ao : Option Addr) (n c : Nat) (w : World) (hn : 256 < n) (hn2 : n ≤ 9223372036854775807) :
    Calls Tryz.prog 49 #[.slice ao n c, .int .i64 256, .func (.func 50) #[] #[]] w fun e w' => e = .returned (.tuple #[.string ⟨#[]⟩, .bool false]) ∧ w = w' := by
  go_enter Tryz.func49, Tryz.ntmps49
  go_wp2
  go_ret2
  exact ⟨rfl, rfl⟩
set_option maxRecDepth 100000 in
set_option maxHeartbeats 800000 in
theorem joinItems_none (ao : Option Addr) (c : Nat) (w : World) :
    Calls Tryz.prog 49 #[.slice ao 0 c, .int .i64 256, .func (.func 50) #[] #[]] w fun e w' => e = .returned (.tuple #[.string ⟨#[110, 111, 110, 101]⟩, .bool true]) ∧ w = w' := by
  go_enter Tryz.func49, Tryz.ntmps49
  go_wp2
  go_ret2
  exact ⟨rfl, rfl⟩
theorem joinAll_of (ao : Option Addr) (n c : Nat) (zs : List Nat) (w : World) (hr : FRow w ao n zs) (hn : n ≤ 9223372036854775807) (hv : ∀ x ∈ zs, x < 4294967296) (ht : Tz w) :
    Calls Tryz.prog 49 #[.slice ao n c, .int .i64 256, .func (.func 50) #[] #[]] w fun e w' => e = ntAns zs ∧ Below w.heap.size w w' := by
  have hl := hr.len
  by_cases h256 : n ≤ 256
  · by_cases h0 : n = 0
    · subst h0
      have hnil : zs = [] := List.eq_nil_of_length_eq_zero hl
      refine (joinItems_none ao c w).mono ?_
      rintro e w' ⟨rfl, rfl⟩
      refine ⟨?_, Below.refl _ _⟩
      subst hnil; rfl
    · obtain ⟨a, rfl⟩ := hr.addr (by omega)
      exact joinItems_of a n c zs w hr h256 (by omega) hv ht
  · refine (joinItems_many ao n c w (by omega) hn).mono ?_
    rintro e w' ⟨rfl, rfl⟩
    refine ⟨?_, Below.refl _ _⟩
    unfold ntAns
    rw [hl, if_neg h256, decide_eq_false h256]
set_option maxHeartbeats 800000 in
theorem numbersText_of (ao : Option Addr) (n c : Nat) (zs : List Nat) (w : World) (hr : FRow w ao n zs) (hn : n ≤ 9223372036854775807) (hv : ∀ x ∈ zs, x < 4294967296) (ht : Tz w) :
    Calls Tryz.prog 13 #[.slice ao n c] w fun e w' => e = ntAns zs ∧ Below w.heap.size w w' := by
  have HC := joinAll_of ao n c zs w hr hn hv ht
  unfold ntAns at HC ⊢
  generalize (if zs.length ≤ 256 then (⟨(ntext zs).toArray⟩ : ByteArray) else ⟨#[]⟩) = S at HC ⊢
  generalize decide (zs.length ≤ 256) = b at HC ⊢
  have HC' := Lib.hid HC
  clear HC hr ht hv
  go_enter Tryz.func13, Tryz.ntmps13
  go_wp2_with (go_at_call 49; (with_reducible refine HC'.out.mono ?_); rintro e w' ⟨rfl, hb⟩)
  go_ret2
  exact ⟨rfl, hb⟩
end Go.Proofs.YtpocclcijkopnaaGreatDoor
