/- Sixteen digits read: readComplexNumber and the reference's eight digits. -/
import Derived.Test.YtjcjijfemedojaaGreatDoorRnn
import Derived.Test.YtjcjijfemedojaaGreatDoorBlk
import Derived.Laws.DeepStrings4
namespace Go.Proofs.YtjcjijfemedojaaGreatDoor
open Go.RowKit Fl

def rc (l : List UInt8) : Option (Nat × Nat) := if l.length = 16 then (match rn (l.take 8), rn (l.drop 8) with
  | some a, some b => some (a, b)
  | _, _ => none) else none
def cval (r : Nat × Nat) : Value := .complex .f32 r.1 r.2
def rcEnd (o : Option (Nat × Nat)) : Ending := match o with
  | none => .returned (.tuple #[.complex .f32 0 0, .bool false])
  | some r => .returned (.tuple #[.complex .f32 r.1 r.2, .bool true])
theorem rc_no {l : List UInt8} (h : ¬ l.length = 16) : rc l = none := by unfold rc; rw [if_neg h]
theorem rc_of {l : List UInt8} (h : l.length = 16) : rc l = (match rn (l.take 8), rn (l.drop 8) with
  | some a, some b => some (a, b)
  | _, _ => none) := by unfold rc; rw [if_pos h]
theorem c64info : (Tryz.prog.info? 24).map (fun i => (i.zero, i.size, i.bytes)) = some (some (.complex .f32 0 0), 1, 8) := by kernel_rfl

set_option maxHeartbeats 1600000 in
theorem readComplexNumber_of (t : ByteArray) (w : World) (_hs : t.size ≤ 1048576) (ht : Tz w) (he : ∀ w', Below w.heap.size w w' → Errs w') :
    Calls Tryz.prog 40 #[.string t] w fun e w' => e = rcEnd (rc t.data.toList) ∧ Below w.heap.size w w' := by
  by_cases h16 : t.size = 16
  · have hL : t.data.toList.length = 16 := by simpa using h16
    have HR := Lib.hid (rc_of hL)
    have e1 : (t.extract 0 8).data.toList = t.data.toList.take 8 := by rw [ext_bytes]; rfl
    have e2 : (t.extract 8 t.size).data.toList = t.data.toList.drop 8 := by rw [ext_bytes, List.take_of_length_le (by simp)]
    have HA := fun w' (hb : Below w.heap.size w w') => readNumber_of (t.extract 0 8) w' (by rw [ByteArray.size_extract]; omega) (ht.below hb (Nat.le_refl _)) (fun w2 h2 => he w2 (below_next hb h2))
    have HB := fun w' (hb : Below w.heap.size w w') => readNumber_of (t.extract 8 t.size) w' (by rw [ByteArray.size_extract]; omega) (ht.below hb (Nat.le_refl _)) (fun w2 h2 => he w2 (below_next hb h2))
    rw [e1] at HA
    rw [e2] at HB
    generalize rn (t.data.toList.take 8) = ra at HA HR
    generalize rn (t.data.toList.drop 8) = rb at HB HR
    have h8 : (8 : Int) ≤ t.size := by omega
    have hc : ((t.size : Int) == 16) = true := by rw [h16]; rfl
    have hc' : ((t.size : Int) != 16) = false := by rw [h16]; rfl
    clear h16 hL e1 e2 ht he
    cases ra <;> cases rb
    all_goals
      unfold rnEnd at HA HB
      have HA' := Lib.hid HA
      have HB' := Lib.hid HB
      clear HA HB
      go_enter Tryz.func40, Tryz.ntmps40
      go_wp2_with (first | (go_at_call 61; (with_reducible refine (HA'.out _ (Below.refl _ _)).mono ?_); rintro e w1 ⟨rfl, hb⟩; have K1 := Lib.hid hb; clear hb) | (go_at_call 61; (with_reducible refine (HB'.out _ K1.out).mono ?_); rintro e w2 ⟨rfl, hb⟩; have K2 := Lib.hid (below_next K1.out hb); clear hb))
      go_ret2
      exact ⟨by rw [HR.out]; rfl, K2.out⟩
  · have HR := Lib.hid (rc_no (l := t.data.toList) (by simpa using h16))
    have hc : ((t.size : Int) == 16) = false := beq_eq_false_iff_ne.2 (by omega)
    have hc' : ((t.size : Int) != 16) = true := by simpa using hc
    clear h16 ht he
    go_enter Tryz.func40, Tryz.ntmps40
    go_wp2
    go_ret2
    exact ⟨by rw [HR.out]; rfl, Below.refl _ _⟩
end Go.Proofs.YtjcjijfemedojaaGreatDoor
