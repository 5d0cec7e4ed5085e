/- Rules copied by the law, and told the same or not. -/
import Derived.Test.YtkgijboahjiodaaBk
import Derived.ChangeKeysEq
import Derived.Laws.StructEq
import Derived.Deep.RegionHeld3
namespace Go.Proofs.Ytkgijboahjiodaa
open Go.RowKit Fl

def ruVal (a b c d : Nat) : Value := .agg #[.float .f32 a, .float .f32 b, .float .f32 c, .float .f32 d]
theorem run_equalIn_int4 {P : Program} (d : Nat) {t e : TypeId} {i : TypeInfo} (hu : P.underlying t = some (.array 4 e)) (he : P.underlying e = some (.int .i64)) (hi : P.info? e = some i) (hc : P.cellsOf e = 1)
    (a b c f a' b' c' f' : Int) (w : World) :
    (Op.equalIn (d + 2) t (.agg #[.int .i64 a, .int .i64 b, .int .i64 c, .int .i64 f]) (.agg #[.int .i64 a', .int .i64 b', .int .i64 c', .int .i64 f'])).run P w = .ok ((a == a') && ((b == b') && ((c == c') && (f == f')))) w := by
  have hp : P.plainKey e = true := by simp [Program.plainKey, he]
  rw [run_equalIn_array w (d + 1) _ _ hu hi, hc]
  have hr : List.range 4 = [0, 1, 2, 3] := by decide
  rw [hr]
  simp only [Op.eqItems, Sem.run_bind, Nat.mul_one]
  rw [run_part_plain w hp (v := .int .i64 a) rfl]
  simp only [Result.andThen_ok]
  rw [run_part_plain w hp (v := .int .i64 a') rfl]
  simp only [Result.andThen_ok, run_equalIn_int w d e .i64 .i64 _ _ he]
  cases h1 : (a == a')
  · simp
  simp only [Bool.not_true, Bool.false_eq_true, if_false, Sem.run_bind]
  rw [run_part_plain w hp (v := .int .i64 b) rfl]
  simp only [Result.andThen_ok]
  rw [run_part_plain w hp (v := .int .i64 b') rfl]
  simp only [Result.andThen_ok, run_equalIn_int w d e .i64 .i64 _ _ he]
  cases h2 : (b == b')
  · simp
  simp only [Bool.not_true, Bool.false_eq_true, if_false, Sem.run_bind]
  rw [run_part_plain w hp (v := .int .i64 c) rfl]
  simp only [Result.andThen_ok]
  rw [run_part_plain w hp (v := .int .i64 c') rfl]
  simp only [Result.andThen_ok, run_equalIn_int w d e .i64 .i64 _ _ he]
  cases h3 : (c == c')
  · simp
  simp only [Bool.not_true, Bool.false_eq_true, if_false, Sem.run_bind]
  rw [run_part_plain w hp (v := .int .i64 f) rfl]
  simp only [Result.andThen_ok]
  rw [run_part_plain w hp (v := .int .i64 f') rfl]
  simp only [Result.andThen_ok, run_equalIn_int w d e .i64 .i64 _ _ he]
  cases h4 : (f == f')
  · simp
  · simp
theorem run_equalIn_int2 {P : Program} (d : Nat) {t e : TypeId} {i : TypeInfo} (hu : P.underlying t = some (.array 2 e)) (he : P.underlying e = some (.int .i64)) (hi : P.info? e = some i) (hc : P.cellsOf e = 1)
    (a b a' b' : Int) (w : World) :
    (Op.equalIn (d + 2) t (.agg #[.int .i64 a, .int .i64 b]) (.agg #[.int .i64 a', .int .i64 b'])).run P w = .ok ((a == a') && (b == b')) w := by
  have hp : P.plainKey e = true := by simp [Program.plainKey, he]
  rw [run_equalIn_array w (d + 1) _ _ hu hi, hc]
  have hr : List.range 2 = [0, 1] := by decide
  rw [hr]
  simp only [Op.eqItems, Sem.run_bind, Nat.mul_one]
  rw [run_part_plain w hp (v := .int .i64 a) rfl]
  simp only [Result.andThen_ok]
  rw [run_part_plain w hp (v := .int .i64 a') rfl]
  simp only [Result.andThen_ok, run_equalIn_int w d e .i64 .i64 _ _ he]
  cases h1 : (a == a')
  · simp
  simp only [Bool.not_true, Bool.false_eq_true, if_false, Sem.run_bind]
  rw [run_part_plain w hp (v := .int .i64 b) rfl]
  simp only [Result.andThen_ok]
  rw [run_part_plain w hp (v := .int .i64 b') rfl]
  simp only [Result.andThen_ok, run_equalIn_int w d e .i64 .i64 _ _ he]
  cases h2 : (b == b')
  · simp
  · simp
def sameRu (a b c d a' b' c' d' : Nat) : Bool := (bitsOf a == bitsOf a') && ((bitsOf b == bitsOf b') && ((bitsOf c == bitsOf c') && (bitsOf d == bitsOf d')))
end Go.Proofs.Ytkgijboahjiodaa
