/- The power of a complex number as a word that can be worked out. -/
import Derived.Test.YtljcgfgkfkoeeaaRoot
import Derived.Laws.ComplexArith
namespace Go.Proofs.Ytljcgfgkfkoeeaa
open Go.RowKit Fl

def powF (p : Nat × Nat) : Option Nat :=
  (floatBits .mul .f64 (wide p.1) (wide p.1)).bind fun a => (floatBits .mul .f64 (wide p.2) (wide p.2)).bind fun b => (floatBits .add .f64 a b).bind fun s => floatToFloatBits .f64 s .f32
theorem powF_of (p : Nat × Nat) (r : Nat) (h1 : nan32 p.1 = false) (h2 : nan32 p.2 = false) (h : powF p = some r) (w : World) :
    Calls Try.prog 43 #[.complex .f32 p.1 p.2] w fun e w' => e = .returned (.float .f32 r) ∧ w = w' := by
  obtain ⟨a, b⟩ := p
  dsimp only at h1 h2 ⊢
  obtain ⟨x, ha, h⟩ := Option.bind_eq_some_iff.1 h
  obtain ⟨y, hb, h⟩ := Option.bind_eq_some_iff.1 h
  obtain ⟨s, hs, h⟩ := Option.bind_eq_some_iff.1 h
  dsimp only at ha hb
  have HN := Lib.hid fun w => narrowNumber_ok s r w h
  have HL : Hid (∀ w, Calls Try.prog 46 #[.complex .f32 a b] w fun e w' => e = .returned (.float .f64 s) ∧ w = w') := by
    intro w
    have c1 := fun w => run_convert_float_float (P := Try.prog) w 25 59 .f32 .f64 a (wide a) (by kernel_rfl) Try.underlying59 (wide_conv a h1)
    have c2 := fun w => run_convert_float_float (P := Try.prog) w 25 59 .f32 .f64 b (wide b) (by kernel_rfl) Try.underlying59 (wide_conv b h2)
    have e1 := fun w => run_float_arith (P := Try.prog) w .mul 59 .f64 _ _ _ ha
    have e2 := fun w => run_float_arith (P := Try.prog) w .mul 59 .f64 _ _ _ hb
    have e5 := fun w => run_float_arith (P := Try.prog) w .add 59 .f64 _ _ _ hs
    clear HN h ha hb hs h1 h2
    go_enter Try.func46, Try.ntmps46
    go_wp2
    go_ret
    exact ⟨rfl, rfl⟩
  clear h ha hb hs h1 h2
  go_enter Try.func43, Try.ntmps43
  go_wp2_with (first | (go_at_call 46; (with_reducible refine (HL.out _).mono ?_); rintro e w' ⟨rfl, rfl⟩) | (go_at_call 45; (with_reducible refine (HN.out _).mono ?_); rintro e w' ⟨rfl, rfl⟩))
  go_ret
  exact ⟨rfl, rfl⟩
theorem run_csum {P : Program} (op : BinOp) (hop : op = .add ∨ op = .sub) (t : TypeId) (a b c d re im : Nat) (h1 : floatBits op .f32 a c = some re) (h2 : floatBits op .f32 b d = some im) (w : World) :
    (binOp op t (.complex .f32 a b) (.complex .f32 c d)).run P w = .ok (.complex .f32 re im) w :=
  run_complex_sum w op hop t .f32 a b c d re im (by simp [cSumBits, h1, h2])
end Go.Proofs.Ytljcgfgkfkoeeaa
