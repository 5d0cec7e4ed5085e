/- Lists read: the reference's side. -/
import Derived.Test.YtljcgfgkfkoeeaaGreatDoorRlf
import Derived.Test.YtljcgfgkfkoeeaaGreatDoorRdw
import Derived.Test.YtljcgfgkfkoeeaaGreatDoorIList
namespace Go.Proofs.YtljcgfgkfkoeeaaGreatDoor
open Go.RowKit

theorem sinfo : (Tryz.prog.info? 9).map (fun i => (i.zero, i.size, i.bytes)) = some (some (.string ⟨#[]⟩), 1, 16) := by kernel_rfl
def bts (P : List ByteArray) : List (List UInt8) := P.map (·.data.toList)
def sts (P : List ByteArray) : List Value := P.map Value.string
theorem own_form1 {w : World} {base e n : Nat} {v : Value} {xs : List Value} (h : w.ownsRow base e 1 v n xs) (hn : 0 < n) : ∃ b cap, v = .slice (some ⟨b, 0, none⟩) n cap ∧ base ≤ b ∧ b < w.heap.size := by
  rcases h.2 with ⟨_, h0⟩ | ⟨g, cap, cur, hv, hb, hg, _⟩
  · omega
  · exact ⟨g, cap, hv, hb, (Array.getElem?_eq_some_iff.1 hg).1⟩
theorem own_nil1 (w : World) (e : TypeId) (base : Nat) (hb : base ≤ w.heap.size) : (w.alloc (.cells #[] e)).ownsRow base e 1 (.slice (some ⟨w.heap.size, 0, none⟩) 0 0) 0 [] := World.ownsRow_lit w #[] 0 hb (by decide) rfl

theorem ext_bytes (s : ByteArray) (f k : Nat) : (s.extract f k).data.toList = (s.data.toList.take k).drop f := by
  rw [ByteArray.data_extract, Array.toList_extract, List.extract_eq_take_drop, List.drop_take]
theorem below_app {w wr w1 : World} {o : Obj} {e : TypeId} {v : Value} {size n : Nat} {xs : List Value} (h : Below w.heap.size w wr) (hO : wr.ownsRow w.heap.size e size v n xs) (hg : (wr.alloc o).grownBy w1 v.ownBlock) : Below w.heap.size w w1 :=
  (h.alloc h.size o).grown hg (by have := h.size; simp; omega) (fun k hk => (hO.lt k hk).1)
theorem below_app0 {w wr w1 : World} {e : TypeId} {v : Value} {size n : Nat} {xs : List Value} (h : Below w.heap.size w wr) (hO : wr.ownsRow w.heap.size e size v n xs) (hg : wr.grownBy w1 v.ownBlock) : Below w.heap.size w w1 :=
  h.grown hg h.size (fun k hk => (hO.lt k hk).1)
theorem sts_snoc (P : List ByteArray) (x : ByteArray) : sts (P ++ [x]) = sts P ++ [.string x] := by simp [sts]
theorem bts_snoc (P : List ByteArray) (x : ByteArray) : bts (P ++ [x]) = bts P ++ [x.data.toList] := by simp [bts]
set_option maxRecDepth 100000 in
set_option maxHeartbeats 1600000 in
theorem l01Cut_of (s : ByteArray) (w : World) (hs : s.size ≤ 1048576) :
    Calls Tryz.prog 15 #[.string s, .int .u8 44] w fun e w' => ∃ (P : List ByteArray) (b c : Nat), bts P = parts s.data.toList ∧ e = .returned (.slice (some ⟨b, 0, none⟩) P.length c) ∧
      w'.ownsRow w.heap.size 9 1 (.slice (some ⟨b, 0, none⟩) P.length c) P.length (sts P) ∧ Below w.heap.size w w' := by
  obtain ⟨i0, hi, hz0, hz1, hz2⟩ := info_parts sinfo
  have hlen : s.data.toList.length = s.size := by simp
  have HL := Lib.hid hlen
  clear hlen
  go_enter Tryz.func15, Tryz.ntmps15
  go_wp2
  go_loopw [5, 6, 7] (fun v fr i wr => ∃ (W : World) (k f : Nat) (P : List ByteArray) (b c : Nat), W = wr ∧ k ≤ s.size + 1 ∧ f ≤ k ∧ i = .int .i64 k ∧ fr = .int .i64 f ∧ v = .slice (some ⟨b, 0, none⟩) P.length c ∧
      P.length ≤ k ∧ Hid (if k ≤ s.size then parts (s.data.toList.take k) = bts P ++ [(s.data.toList.take k).drop f] else parts s.data.toList = bts P) ∧
      wr.ownsRow w.heap.size 9 1 v P.length (sts P) ∧ Below w.heap.size w wr) (fun _ _ i _ => s.size + 1 - (intOf i).toNat)
  case atStart =>
    exact ⟨_, 0, 0, [], w.heap.size, 0, rfl, by omega, Nat.le_refl _, rfl, rfl, rfl, Nat.le_refl _, by show ite _ _ _; rw [if_pos (Nat.zero_le _)]; rfl, own_nil1 w _ _ (Nat.le_refl _), (Below.refl _ _).alloc (Nat.le_refl _) _⟩
  case round =>
    obtain ⟨W, k, f, P, b, c, rfl, hk, hf, rfl, rfl, rfl, hpk, hP, hown, hb⟩ := hrel
    by_cases hend : k = s.size + 1
    · subst hend
      have hP2 := hP.out
      rw [if_neg (by omega)] at hP2
      go_wp2
      go_ret
      exact ⟨P, b, c, hP2.symm, rfl, hown, hb⟩
    · have hk1 : k ≤ s.size := by omega
      have HP0 := hP.out
      rw [if_pos hk1] at HP0
      have HP := Lib.hid HP0
      have HO := Lib.hid hown
      have HB := Lib.hid hb
      clear HP0 hP hown hb
      by_cases hlast : k = s.size
      · subst hlast
        have hsz := HB.out.size
        go_wp2_with (at_builtin; go_loud (refine wpList_append_own _ rfl _ _ 34 rfl w.heap.size 9 i0 (.string ⟨#[]⟩) 1 16 Tryz.underlying34 hi hz0 hz1 hz2 rfl (by decide) (.slice (some ⟨b, 0, none⟩) P.length c) P.length (sts P) rfl (HO.out.alloc _) ⟨W.heap.size, 0, none⟩ 1 1 [.string (s.extract f s.size)] rfl rfl (cell_one_new _ _ _) (fun x hx => by simp at hx; subst hx; rfl) (by unfold maxLen; omega) (by omega) (by simp; omega) ?_); intro v' w1 hown' hgrow hnil; go_must (obtain ⟨b', c', rfl, hb', -⟩ := own_form1 hown' (by omega)); have HO1 := Lib.hid hown'; have HB1 := Lib.hid (below_app HB.out HO.out hgrow); clear hown' hgrow hnil)
        go_roundw
        case rel =>
          refine ⟨_, s.size + 1, s.size + 1, P ++ [s.extract f s.size], b', c', rfl, Nat.le_refl _, Nat.le_refl _, by go_num, by go_num, by simp, by simp; omega, ?_, ?_, HB1.out⟩
          · show ite _ _ _
            rw [if_neg (by omega), bts_snoc, ext_bytes, ← HP.out, List.take_of_length_le (Nat.le_of_eq HL.out)]
          · rw [sts_snoc, List.length_append]; exact HO1.out
        case measure => simp [intOf]
      · have hlt : k < s.size := by omega
        have hsz := HB.out.size
        have HT := Lib.hid (take_snocB s k hlt)
        by_cases hc : s[k].toNat = 44
        · have hc' : ((s[k].toNat : Int) == 44) = true := by simp [hc]
          have HC := Lib.hid (show s[k] = 44 from UInt8.toNat_inj.1 hc)
          clear hc
          go_wp2_with (at_builtin; go_loud (refine wpList_append_own _ rfl _ _ 34 rfl w.heap.size 9 i0 (.string ⟨#[]⟩) 1 16 Tryz.underlying34 hi hz0 hz1 hz2 rfl (by decide) (.slice (some ⟨b, 0, none⟩) P.length c) P.length (sts P) rfl (HO.out.alloc _) ⟨W.heap.size, 0, none⟩ 1 1 [.string (s.extract f k)] rfl rfl (cell_one_new _ _ _) (fun x hx => by simp at hx; subst hx; rfl) (by unfold maxLen; omega) (by omega) (by simp; omega) ?_); intro v' w1 hown' hgrow hnil; go_must (obtain ⟨b', c', rfl, hb', -⟩ := own_form1 hown' (by omega)); have HO1 := Lib.hid hown'; have HB1 := Lib.hid (below_app HB.out HO.out hgrow); clear hown' hgrow hnil)
          go_roundw
          case rel =>
            refine ⟨_, k + 1, k + 1, P ++ [s.extract f k], b', c', rfl, by omega, Nat.le_refl _, by go_num, by go_num, by simp, by simp; omega, ?_, ?_, HB1.out⟩
            · have hd : (s.data.toList.take k ++ [(44 : UInt8)]).drop (k + 1) = [] := List.drop_eq_nil_of_le (by simp; omega)
              show ite _ _ _
              rw [if_pos (show k + 1 ≤ s.size from hlt), HT.out, HC.out, hd, parts_close, bts_snoc, ext_bytes, HP.out]
            · rw [sts_snoc, List.length_append]; exact HO1.out
          case measure => simp [intOf]; omega
        · have hc' : ((s[k].toNat : Int) == 44) = false := beq_eq_false_iff_ne.2 (by omega)
          have HC := Lib.hid (show s[k] ≠ 44 from fun e => hc (by rw [e]; rfl))
          clear hc
          go_wp2
          go_roundw
          case rel =>
            refine ⟨_, k + 1, f, P, b, c, rfl, by omega, by omega, by go_num, rfl, rfl, by omega, ?_, HO.out, HB.out⟩
            show ite _ _ _
            rw [if_pos (show k + 1 ≤ s.size from hlt), HT.out, parts_more _ HC.out _ _ _ HP.out, List.drop_append_of_le_length (by simp; omega)]
          case measure => simp [intOf]; omega
end Go.Proofs.YtljcgfgkfkoeeaaGreatDoor
