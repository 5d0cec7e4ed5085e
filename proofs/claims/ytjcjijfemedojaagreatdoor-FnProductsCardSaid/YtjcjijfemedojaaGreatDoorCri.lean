/- Lists of complex numbers read: what both sides give, and the program's side. -/
import Derived.Test.YtjcjijfemedojaaGreatDoorCrf
import Derived.Test.YtjcjijfemedojaaGreatDoorRlt
import Derived.Test.YtjcjijfemedojaaGreatDoorRli
import Derived.Test.YtjcjijfemedojaaGreatDoorList
namespace Go.Proofs.YtjcjijfemedojaaGreatDoor
open Go.RowKit Fl

def rcOk (p : List UInt8) : Bool := (rc p).isSome
def rcN (p : List UInt8) : Nat × Nat := (rc p).getD (0, 0)
theorem rc_end_yes {p : List UInt8} (h : rcOk p = true) : rcEnd (rc p) = .returned (.tuple #[.complex .f32 (rcN p).1 (rcN p).2, .bool true]) := by
  unfold rcOk rcN at *
  cases hr : rc p with
  | none => rw [hr] at h; cases h
  | some n => rfl
theorem rc_end_no {p : List UInt8} (h : rcOk p = false) : rcEnd (rc p) = .returned (.tuple #[.complex .f32 0 0, .bool false]) := by
  unfold rcOk at h
  cases hr : rc p with
  | none => rfl
  | some n => rw [hr] at h; cases h
def clOk (l : List UInt8) : Bool := decide (l = noneL) || (decide ((parts l).length ≤ 256) && (parts l).all rcOk)
def clZ (l : List UInt8) : List (Nat × Nat) := if l = noneL then [] else if clOk l then (parts l).map rcN else []
theorem cl_none {l : List UInt8} (h : l = noneL) : clOk l = true ∧ clZ l = [] := by simp [clOk, clZ, h]
theorem cl_long {l : List UInt8} (hn : ¬ l = noneL) (h : ¬ (parts l).length ≤ 256) : clOk l = false ∧ clZ l = [] := by
  have : clOk l = false := by simp [clOk, hn, h]
  exact ⟨this, by simp [clZ, hn, this]⟩
theorem cl_bad {l : List UInt8} (hn : ¬ l = noneL) (h : (parts l).all rcOk = false) : clOk l = false ∧ clZ l = [] := by
  have : clOk l = false := by simp only [clOk, hn, h]; simp
  exact ⟨this, by simp [clZ, hn, this]⟩
theorem cl_yes {l : List UInt8} (hn : ¬ l = noneL) (h : (parts l).length ≤ 256) (ha : (parts l).all rcOk = true) : clOk l = true ∧ clZ l = (parts l).map rcN := by
  have : clOk l = true := by simp only [clOk, ha]; simp [h]
  exact ⟨this, by simp [clZ, hn, this]⟩
/-- the numbers of the first k parts -/
def csf (P : List ByteArray) (k : Nat) : List Value := ((bts P).take k).map (fun l => cval (rcN l))
theorem csf_succ (P : List ByteArray) (k : Nat) (h : k < P.length) : csf P (k + 1) = csf P k ++ [cval (rcN (P.getD k ⟨#[]⟩).data.toList)] := by
  unfold csf
  rw [List.take_succ_eq_append_getElem (by simpa [bts] using h), List.map_append]
  simp [bts, List.getD, List.getElem?_eq_getElem h]
theorem csf_len (P : List ByteArray) (k : Nat) (h : k ≤ P.length) : (csf P k).length = k := by simp [csf, bts]; omega
theorem csf_all (P : List ByteArray) : csf P P.length = ((bts P).map rcN).map cval := by
  unfold csf; rw [List.take_of_length_le (by simp [bts]), List.map_map]; rfl
theorem okc_succ (P : List ByteArray) (k : Nat) (h : k < P.length) : ((bts P).take (k + 1)).all rcOk = (((bts P).take k).all rcOk && rcOk (P.getD k ⟨#[]⟩).data.toList) := by
  rw [List.take_succ_eq_append_getElem (by simpa [bts] using h), List.all_append]
  simp [bts, List.getD, List.getElem?_eq_getElem h]
theorem okc_no (P : List ByteArray) (k : Nat) (h : k < P.length) (hb : rcOk (P.getD k ⟨#[]⟩).data.toList = false) : (bts P).all rcOk = false := by
  rw [← List.take_append_drop (k + 1) (bts P), List.all_append, okc_succ P k h, hb]; simp
def ClAns (zs : List (Nat × Nat)) (ok : Bool) (w : World) (e : Ending) (w' : World) : Prop := ∃ v, e = .returned (.tuple #[v, .bool ok]) ∧ w'.ownsRow w.heap.size 24 1 v zs.length (zs.map cval) ∧ Below w.heap.size w w'

theorem neCS : 24 ≠ 9 := by decide
set_option maxRecDepth 100000 in
set_option maxHeartbeats 3200000 in
theorem splitComplex_of (s : ByteArray) (w : World) (m : Int) (hs : s.size ≤ 1048576) (hm : w.cell? ⟨1, 0, none⟩ = some (.int .i64 m)) (ht : Tz w) (he : ∀ w', Below w.heap.size w w' → Errs w') :
    Calls Tryz.prog 39 #[.string s, .int .i64 256, .func (.func 40) #[] #[]] w (ClAns (clZ s.data.toList) (clOk s.data.toList) w) := by
  by_cases hn : s.data.toList = noneL
  · have hc : (s.toList == [110, 111, 110, 101]) = true := by rw [ByteArray.toList_eq, hn]; rfl
    obtain ⟨e1, e2⟩ := cl_none hn
    rw [e1, e2]
    clear hn ht he hm
    go_enter Tryz.func39, Tryz.ntmps39
    go_wp2
    go_ret2
    exact ⟨_, rfl, World.ownsRow_nil _ _ _ _, Below.refl _ _⟩
  · have hc : (s.toList == [110, 111, 110, 101]) = false := by rw [ByteArray.toList_eq]; simpa [noneL] using hn
    obtain ⟨i0, hi, hz0, hz1, hz2⟩ := info_parts c64info
    have HC := Lib.hid fun w => count_of s w
    have HSp := Lib.hid fun w hm => split_of s w m hs hm
    have HD := Lib.hid fun (t : ByteArray) w h1 (h2 : Tz w) h3 => readComplexNumber_of t w h1 h2 h3
    have HN := Lib.hid hn
    have hlen : s.data.toList.length = s.size := by simp
    have hPl := parts_len s.data.toList
    have hcl : s.data.toList.count 44 ≤ s.data.toList.length := List.count_le_length
    rw [hlen] at hcl
    have HL := Lib.hid hlen
    generalize s.data.toList.count 44 = cn at HC hPl hcl
    have HPl := Lib.hid hPl
    have HTab := Lib.hid fun w' (h : Below w.heap.size w w') => ht.below h (Nat.le_refl _)
    have HE := Lib.hid he
    have HM := Lib.hid hm
    clear hn hlen hPl ht he hm
    by_cases hcn : 256 < cn + 1
    · obtain ⟨e1, e2⟩ := cl_long HN.out (by rw [HPl.out]; omega)
      rw [e1, e2]
      go_enter Tryz.func39, Tryz.ntmps39
      go_wp2_with (go_at_call 59; (with_reducible refine (HC.out _).mono ?_); rintro e w2 ⟨rfl, rfl⟩)
      go_ret2
      exact ⟨_, rfl, World.ownsRow_nil _ _ _ _, Below.refl _ _⟩
    · go_enter Tryz.func39, Tryz.ntmps39
      go_wp2_with (first | (go_at_call 59; (with_reducible refine (HC.out _).mono ?_); rintro e w2 ⟨rfl, rfl⟩) | (at_make; go_loud (refine wpList_make_own _ rfl _ _ 25 rfl w.heap.size 24 i0 (.complex .f32 0 0) 1 Tryz.underlying25 hi hz0 hz1 .i64 .i64 _ (cn + 1) rfl rfl (by omega) (by rw [hz2]; omega) (by unfold maxLen; omega) (Nat.le_refl _) ?_); intro w1 hown hgrow; have HO := Lib.hid hown; have HB := Lib.hid (((Below.refl w.heap.size w).grown hgrow (Nat.le_refl _) (by simp) : Below w.heap.size w w1)); have HM1 := Lib.hid (show w1.cell? ⟨1, 0, none⟩ = some (.int .i64 m) by rw [HB.out.cell (p := ⟨1, 0, none⟩) (World.block_lt_of_cell? w _ HM.out)]; exact HM.out); clear hown hgrow) | (go_at_call 60; (with_reducible refine (HSp.out _ HM1.out).mono ?_); rintro e w3 ⟨P, hP, rfl, ht, hb3⟩; have HP := Lib.hid hP; have HT := Lib.hid ht; have HO3 := Lib.hid (own_below HO.out hb3 (Nat.le_refl _)); have HB3 := Lib.hid (below_next HB.out hb3); clear hP ht hb3))
      have hPn : P.length ≤ cn + 1 := by rw [← HPl.out, ← HP.out]; simp [bts]
      obtain ⟨bp, hbp⟩ : ∃ bp, bp = w1.heap.size := ⟨_, rfl⟩
      rw [← hbp] at HT ⊢
      go_loopw [9, 27] (fun v i wr => ∃ (W : World) (k b c : Nat), W = wr ∧ k ≤ P.length ∧ i = .int .i64 k ∧ v = .slice (some ⟨b, 0, none⟩) k c ∧ Hid (((bts P).take k).all rcOk = true) ∧
          wr.ownsRow w.heap.size 24 1 v k (csf P k) ∧ Txt wr bp P ∧ Below w.heap.size w wr) (fun _ i _ => P.length - (intOf i).toNat)
      case atStart => exact ⟨_, 0, w.heap.size, cn + 1, rfl, Nat.zero_le _, rfl, rfl, rfl, HO3.out, HT.out, HB3.out⟩
      case round =>
        clear HO HT HB HO3 HB3 HM1 hbp
        obtain ⟨W, k, b, c, rfl, hk, rfl, rfl, hA, hown, ht, hb⟩ := hrel
        by_cases hlt : k < P.length
        · have hx := ht.cell hlt
          have HV := Lib.hid (HD.out (P.getD k ⟨#[]⟩) W (by have := bts_le HP.out hlt; rw [HL.out] at this; omega) (HTab.out W hb) (fun w2 h2 => HE.out w2 (below_next hb h2)))
          have HS := Lib.hid (csf_succ P k hlt)
          have HK := Lib.hid (okc_succ P k hlt)
          have HNo := Lib.hid (okc_no P k hlt)
          have HO := Lib.hid hown
          have HT := Lib.hid ht
          have HB := Lib.hid hb
          generalize P.getD k ⟨#[]⟩ = t at hx HV HS HK HNo
          clear hown ht hb
          cases hok : rcOk t.data.toList
          · rw [rc_end_no hok] at HV
            rw [hok] at HNo
            obtain ⟨e1, e2⟩ := cl_bad HN.out (by rw [← HP.out]; exact HNo.out rfl)
            have E1 := Lib.hid e1
            have E2 := Lib.hid e2
            clear e1 e2
            go_wp2_with (go_at_call 40; (with_reducible refine (HV.out).mono ?_); rintro e w4 ⟨rfl, hb3⟩; have HB3 := Lib.hid (below_next HB.out hb3); clear hb3)
            go_ret2
            exact ⟨_, congrArg (fun b => Ending.returned (.tuple #[.slice none 0 0, .bool b])) E1.out.symm, by rw [E2.out]; exact World.ownsRow_nil _ _ _ _, HB3.out⟩
          · rw [rc_end_yes hok] at HV
            generalize rcN t.data.toList = z at HV HS
            rw [hok] at HK
            go_wp2_with (first | (go_at_call 40; (with_reducible refine (HV.out).mono ?_); rintro e w4 ⟨rfl, hb3⟩; have HB3 := Lib.hid (below_next HB.out hb3); have HO3 := Lib.hid (own_below HO.out hb3 (Nat.le_refl _)); have HT3 := Lib.hid (HT.out.next hb3); have hsz3 := HB3.out.size; clear hb3) | (at_builtin; go_loud (refine wpList_append_own _ rfl _ _ 25 rfl w.heap.size 24 i0 (.complex .f32 0 0) 1 8 Tryz.underlying25 hi hz0 hz1 hz2 rfl (by decide) (.slice (some ⟨b, 0, none⟩) k c) k (csf P k) rfl (HO3.out.alloc _) ⟨w4.heap.size, 0, none⟩ 1 1 [.complex .f32 z.1 z.2] rfl rfl (cell_one_new _ _ _) (fun x hx => by simp at hx; subst hx; rfl) (by unfold maxLen; omega) (by omega) (by simp; omega) ?_); intro v' w5 hown' hgrow hnil; go_must (obtain ⟨b', c', rfl, hb', -⟩ := own_form1 hown' (by omega)); have HO1 := Lib.hid hown'; have HB1 := Lib.hid (below_app HB3.out HO3.out hgrow); have HT1 := Lib.hid (HT3.out.app HO3.out neCS hgrow); clear hown' hgrow hnil))
            go_roundw
            case rel =>
              refine ⟨_, k + 1, b', c', rfl, hlt, by go_num, rfl, ?_, ?_, HT1.out, HB1.out⟩
              · show _ = true
                rw [HK.out, hA.out]; rfl
              · rw [HS.out]; exact HO1.out
            case measure => simp [intOf]; omega
        · obtain rfl : k = P.length := by omega
          have e1 := cl_yes HN.out (by rw [HPl.out]; omega) (by rw [← HP.out]; have := hA.out; rwa [List.take_of_length_le (by simp [bts])] at this)
          have E1 := Lib.hid e1
          have hl : ((parts s.data.toList).map rcN).length = P.length := by rw [← HP.out]; simp [bts]
          rw [csf_all, HP.out] at hown
          clear e1
          go_wp2
          go_ret2
          exact ⟨_, congrArg (fun o => Ending.returned (.tuple #[.slice (some ⟨b, 0, none⟩) P.length c, .bool o])) E1.out.1.symm, by rw [E1.out.2, hl]; exact hown, hb⟩
end Go.Proofs.YtjcjijfemedojaaGreatDoor
