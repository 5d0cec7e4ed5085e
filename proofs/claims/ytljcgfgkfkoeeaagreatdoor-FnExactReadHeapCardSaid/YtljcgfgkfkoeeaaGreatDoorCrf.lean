/- Sixteen digits read: readComplexNumber and the reference's eight digits. -/
import Derived.Test.YtljcgfgkfkoeeaaGreatDoorRnn
import Derived.Test.YtljcgfgkfkoeeaaGreatDoorBlk
import Derived.Laws.DeepStrings4
namespace Go.Proofs.YtljcgfgkfkoeeaaGreatDoor
open Go.RowKit Fl

def rc (l : List UInt8) : Option (Nat × Nat) := if l.length = 16 then (match rn (l.take 8), rn (l.drop 8) with
  | some a, some b => some (a, b)
  | _, _ => none) else none
def cval (r : Nat × Nat) : Value := .complex .f32 r.1 r.2
def rcEnd (o : Option (Nat × Nat)) : Ending := match o with
  | none => .returned (.tuple #[.complex .f32 0 0, .bool false])
  | some r => .returned (.tuple #[.complex .f32 r.1 r.2, .bool true])
theorem rc_no {l : List UInt8} (h : ¬ l.length = 16) : rc l = none := by unfold rc; rw [if_neg h]
theorem rc_of {l : List UInt8} (h : l.length = 16) : rc l = (match rn (l.take 8), rn (l.drop 8) with
  | some a, some b => some (a, b)
  | _, _ => none) := by unfold rc; rw [if_pos h]
theorem c64info : (Tryz.prog.info? 36).map (fun i => (i.zero, i.size, i.bytes)) = some (some (.complex .f32 0 0), 1, 8) := by kernel_rfl

set_option maxHeartbeats 1600000 in
theorem readComplexNumber_of (t : ByteArray) (w : World) (_hs : t.size ≤ 1048576) (ht : Tz w) (he : ∀ w', Below w.heap.size w w' → Errs w') :
    Calls Tryz.prog 49 #[.string t] w fun e w' => e = rcEnd (rc t.data.toList) ∧ Below w.heap.size w w' := by
  by_cases h16 : t.size = 16
  · have hL : t.data.toList.length = 16 := by simpa using h16
    have HR := Lib.hid (rc_of hL)
    have e1 : (t.extract 0 8).data.toList = t.data.toList.take 8 := by rw [ext_bytes]; rfl
    have e2 : (t.extract 8 t.size).data.toList = t.data.toList.drop 8 := by rw [ext_bytes, List.take_of_length_le (by simp)]
    have HA := fun w' (hb : Below w.heap.size w w') => readNumber_of (t.extract 0 8) w' (by rw [ByteArray.size_extract]; omega) (ht.below hb (Nat.le_refl _)) (fun w2 h2 => he w2 (below_next hb h2))
    have HB := fun w' (hb : Below w.heap.size w w') => readNumber_of (t.extract 8 t.size) w' (by rw [ByteArray.size_extract]; omega) (ht.below hb (Nat.le_refl _)) (fun w2 h2 => he w2 (below_next hb h2))
    rw [e1] at HA
    rw [e2] at HB
    generalize rn (t.data.toList.take 8) = ra at HA HR
    generalize rn (t.data.toList.drop 8) = rb at HB HR
    have h8 : (8 : Int) ≤ t.size := by omega
    have hc : ((t.size : Int) == 16) = true := by rw [h16]; rfl
    have hc' : ((t.size : Int) != 16) = false := by rw [h16]; rfl
    clear h16 hL e1 e2 ht he
    cases ra <;> cases rb
    all_goals
      unfold rnEnd at HA HB
      have HA' := Lib.hid HA
      have HB' := Lib.hid HB
      clear HA HB
      go_enter Tryz.func49, Tryz.ntmps49
      go_wp2_with (first | (go_at_call 52; (with_reducible refine (HA'.out _ (Below.refl _ _)).mono ?_); rintro e w1 ⟨rfl, hb⟩; have K1 := Lib.hid hb; clear hb) | (go_at_call 52; (with_reducible refine (HB'.out _ K1.out).mono ?_); rintro e w2 ⟨rfl, hb⟩; have K2 := Lib.hid (below_next K1.out hb); clear hb))
      go_ret2
      exact ⟨by rw [HR.out]; rfl, K2.out⟩
  · have HR := Lib.hid (rc_no (l := t.data.toList) (by simpa using h16))
    have hc : ((t.size : Int) == 16) = false := beq_eq_false_iff_ne.2 (by omega)
    have hc' : ((t.size : Int) != 16) = true := by simpa using hc
    clear h16 ht he
    go_enter Tryz.func49, Tryz.ntmps49
    go_wp2
    go_ret2
    exact ⟨by rw [HR.out]; rfl, Below.refl _ _⟩
set_option maxRecDepth 100000 in
set_option maxHeartbeats 3200000 in
theorem l01Digits_of (t : ByteArray) (w : World) (h8 : t.size = 8) :
    Calls Tryz.prog 40 #[.string t] w fun e w' => e = rnEnd (rn t.data.toList) ∧ w = w' := by
  have HD := Lib.hid (show ∀ (q acc : Nat) (hq : q < t.size), hv acc (t.data.toList.drop q) = hv acc (t[q] :: t.data.toList.drop (q + 1)) from fun q acc hq => by
    rw [List.drop_eq_getElem_cons (by simpa using hq)]; rfl)
  have HR := Lib.hid (show hv 0 t.data.toList = none → rn t.data.toList = none from fun h => by unfold rn; rw [h]; split <;> rfl)
  have HY := Lib.hid (show ∀ acc, hv 0 t.data.toList = some acc → bitsN acc = acc → rn t.data.toList = some acc from fun acc h1 h2 => rn_mk (by simpa using h8) h1 h2)
  have HX := Lib.hid (show ∀ acc, hv 0 t.data.toList = some acc → bitsN acc ≠ acc → rn t.data.toList = none from fun acc h1 h2 => by
    unfold rn
    rw [h1]
    simp only [if_neg h2]
    split <;> rfl)
  have HE := Lib.hid (show t.data.toList.drop 8 = [] from List.drop_eq_nil_of_le (by simp [h8]))
  have H8 := Lib.hid h8
  have hle : (t.size : Int) ≤ 8 := by omega
  have hge : (8 : Int) ≤ t.size := by omega
  clear h8
  go_enter Tryz.func40, Tryz.ntmps40
  go_wp2
  go_loop [4, 5] (fun vn vk => ∃ (q acc : Nat) (a : Int), vk = .int .i64 q ∧ vn = .int .i64 a ∧ q ≤ 8 ∧ Hid (a = (acc : Int) ∧ acc < 16 ^ q ∧ hv 0 t.data.toList = hv acc (t.data.toList.drop q))) (fun _ vk => 8 - (intOf vk).toNat)
  case atStart => exact ⟨0, 0, 0, rfl, rfl, by omega, rfl, by decide, rfl⟩
  case round =>
    obtain ⟨q, acc, a, rfl, rfl, hq, hh⟩ := hrel
    obtain ⟨ha, hacc, hhv⟩ := hh.out
    clear hh
    by_cases hq8 : q < 8
    · have hqt : q < t.size := by rw [H8.out]; exact hq8
      have hp7 : (16 : Nat) ^ q ≤ 16 ^ 7 := Nat.pow_le_pow_right (by decide) (by omega)
      have e7 : (16 : Nat) ^ 7 = 268435456 := by decide
      have a0 : 0 ≤ a := by omega
      have a1 : a < 268435456 := by omega
      rw [HD.out q acc hqt] at hhv
      have hc256 : t[q].toNat < 256 := t[q].toNat_lt
      have hdv : dv8 t[q] = if 48 ≤ t[q].toNat ∧ t[q].toNat ≤ 57 then some (t[q].toNat - 48) else if 97 ≤ t[q].toNat ∧ t[q].toNat ≤ 102 then some (t[q].toNat - 87) else none := rfl
      clear hp7 e7
      cases hd : dv8 t[q] with
      | none =>
        rw [hv_stop hd] at hhv
        have E1 := Lib.hid (HR.out hhv)
        rw [hd] at hdv
        by_cases hdig : 48 ≤ t[q].toNat ∧ t[q].toNat ≤ 57
        · rw [if_pos hdig] at hdv; cases hdv
        · rw [if_neg hdig] at hdv
          by_cases hlet : 97 ≤ t[q].toNat ∧ t[q].toNat ≤ 102
          · rw [if_pos hlet] at hdv; cases hdv
          · clear hdv hhv hd ha hacc
            go_wp2
            all_goals go_ret2
            all_goals exact ⟨by rw [E1.out]; rfl, rfl⟩
      | some d =>
        rw [hv_step hd] at hhv
        have h16 := (dv8_some hd).2.1
        have hb2 : 16 * acc + d < 16 ^ (q + 1) := by rw [Nat.pow_succ]; omega
        rw [hd] at hdv
        by_cases hdig : 48 ≤ t[q].toNat ∧ t[q].toNat ≤ 57
        · rw [if_pos hdig] at hdv
          have hd2 := Option.some.inj hdv
          have HV := Lib.hid (show 16 * a + ((t[q].toNat : Int) - 48) = ((16 * acc + d : Nat) : Int) ∧ 16 * acc + d < 16 ^ (q + 1) ∧ hv 0 t.data.toList = hv (16 * acc + d) (t.data.toList.drop (q + 1)) from ⟨by omega, hb2, hhv⟩)
          obtain ⟨hd0, hd1⟩ := hdig
          clear hdv hd2 hhv hd ha hacc hb2 h16
          go_wp2
          go_round
          case rel => exact ⟨q + 1, 16 * acc + d, _, by go_num, rfl, hq8, HV.out⟩
          case measure => simp [intOf]; omega
        · rw [if_neg hdig] at hdv
          by_cases hlet : 97 ≤ t[q].toNat ∧ t[q].toNat ≤ 102
          · rw [if_pos hlet] at hdv
            have hd2 := Option.some.inj hdv
            have HV := Lib.hid (show 16 * a + ((t[q].toNat : Int) - 97 + 10) = ((16 * acc + d : Nat) : Int) ∧ 16 * acc + d < 16 ^ (q + 1) ∧ hv 0 t.data.toList = hv (16 * acc + d) (t.data.toList.drop (q + 1)) from ⟨by omega, hb2, hhv⟩)
            obtain ⟨hd0, hd1⟩ := hlet
            clear hdv hd2 hhv hd ha hacc hb2 h16
            go_wp2
            go_round
            case rel => exact ⟨q + 1, 16 * acc + d, _, by go_num, rfl, hq8, HV.out⟩
            case measure => simp [intOf]; omega
          · rw [if_neg hlet] at hdv; cases hdv
    · obtain rfl : q = 8 := by omega
      have e8 : (16 : Nat) ^ 8 = 4294967296 := by decide
      rw [e8] at hacc
      subst ha
      have hsome : hv 0 t.data.toList = some acc := by rw [hhv, HE.out]; rfl
      have HF := Lib.hid fun w => l01From_any acc w hacc
      have hbb := fun w => l01Bits_any acc w hacc
      rw [bitsN_eq] at hbb
      by_cases hbit : bitsN acc = acc
      · have hrn := Lib.hid (HY.out acc hsome hbit)
        rw [hbit] at hbb
        have HBt := Lib.hid hbb
        clear hsome hbit hbb hhv e8
        go_wp2_with (first | (go_at_call 41; (with_reducible refine (HF.out _).mono ?_); rintro e w' ⟨rfl, rfl⟩) | (go_at_call 42; (with_reducible refine (HBt.out _).mono ?_); rintro e w' ⟨rfl, rfl⟩))
        go_ret2
        exact ⟨by rw [hrn.out]; rfl, rfl⟩
      · have hrn := Lib.hid (HX.out acc hsome hbit)
        have HBt := Lib.hid hbb
        have hne : ((bitsN acc : Int) == (acc : Int)) = false := beq_eq_false_iff_ne.2 (by omega)
        have hne2 : ¬ (bitsN acc : Int) = (acc : Int) := by omega
        clear hbb hsome hhv e8 hbit
        go_wp2_with (first | (go_at_call 41; (with_reducible refine (HF.out _).mono ?_); rintro e w' ⟨rfl, rfl⟩) | (go_at_call 42; (with_reducible refine (HBt.out _).mono ?_); rintro e w' ⟨rfl, rfl⟩))
        go_ret2
        exact ⟨by rw [hrn.out]; rfl, rfl⟩
end Go.Proofs.YtljcgfgkfkoeeaaGreatDoor
