/- Rules copied by the law, and told the same or not. -/
import Derived.Test.YtpocclcijkopnabBk
import Derived.ChangeKeysEq
import Derived.Laws.StructEq
import Derived.Deep.RegionHeld3
namespace Go.Proofs.Ytpocclcijkopnab
open Go.RowKit Fl

def ruVal (a b c d : Nat) : Value := .agg #[.float .f32 a, .float .f32 b, .float .f32 c, .float .f32 d]
set_option maxHeartbeats 800000 in
theorem toRules_any (a b c d : Nat) (w : World) :
    Calls Try.prog 6 #[ruVal a b c d] w fun e w' => e = .returned (ruVal a b c d) ∧ Below w.heap.size w w' := by
  have hsf := run_store_fl Try.prog
  unfold ruVal
  go_enter Try.func6, Try.ntmps6
  go_wp2
  exact bodyPost_ret (v := ruVal a b c d) (by simp [results, Try.results6, go_sem]; rfl) rfl ⟨rfl, (((Below.refl _ _).alloc (Nat.le_refl _) _).alloc (by simp) _).alloc (by simp; omega) _⟩
theorem run_equalIn_int4 {P : Program} (d : Nat) {t e : TypeId} {i : TypeInfo} (hu : P.underlying t = some (.array 4 e)) (he : P.underlying e = some (.int .i64)) (hi : P.info? e = some i) (hc : P.cellsOf e = 1)
    (a b c f a' b' c' f' : Int) (w : World) :
    (Op.equalIn (d + 2) t (.agg #[.int .i64 a, .int .i64 b, .int .i64 c, .int .i64 f]) (.agg #[.int .i64 a', .int .i64 b', .int .i64 c', .int .i64 f'])).run P w = .ok ((a == a') && ((b == b') && ((c == c') && (f == f')))) w := by
  have hp : P.plainKey e = true := by simp [Program.plainKey, he]
  rw [run_equalIn_array w (d + 1) _ _ hu hi, hc]
  have hr : List.range 4 = [0, 1, 2, 3] := by decide
  rw [hr]
  simp only [Op.eqItems, Sem.run_bind, Nat.mul_one]
  rw [run_part_plain w hp (v := .int .i64 a) rfl]
  simp only [Result.andThen_ok]
  rw [run_part_plain w hp (v := .int .i64 a') rfl]
  simp only [Result.andThen_ok, run_equalIn_int w d e .i64 .i64 _ _ he]
  cases h1 : (a == a')
  · simp
  simp only [Bool.not_true, Bool.false_eq_true, if_false, Sem.run_bind]
  rw [run_part_plain w hp (v := .int .i64 b) rfl]
  simp only [Result.andThen_ok]
  rw [run_part_plain w hp (v := .int .i64 b') rfl]
  simp only [Result.andThen_ok, run_equalIn_int w d e .i64 .i64 _ _ he]
  cases h2 : (b == b')
  · simp
  simp only [Bool.not_true, Bool.false_eq_true, if_false, Sem.run_bind]
  rw [run_part_plain w hp (v := .int .i64 c) rfl]
  simp only [Result.andThen_ok]
  rw [run_part_plain w hp (v := .int .i64 c') rfl]
  simp only [Result.andThen_ok, run_equalIn_int w d e .i64 .i64 _ _ he]
  cases h3 : (c == c')
  · simp
  simp only [Bool.not_true, Bool.false_eq_true, if_false, Sem.run_bind]
  rw [run_part_plain w hp (v := .int .i64 f) rfl]
  simp only [Result.andThen_ok]
  rw [run_part_plain w hp (v := .int .i64 f') rfl]
  simp only [Result.andThen_ok, run_equalIn_int w d e .i64 .i64 _ _ he]
  cases h4 : (f == f')
  · simp
  · simp
theorem run_equalIn_int2 {P : Program} (d : Nat) {t e : TypeId} {i : TypeInfo} (hu : P.underlying t = some (.array 2 e)) (he : P.underlying e = some (.int .i64)) (hi : P.info? e = some i) (hc : P.cellsOf e = 1)
    (a b a' b' : Int) (w : World) :
    (Op.equalIn (d + 2) t (.agg #[.int .i64 a, .int .i64 b]) (.agg #[.int .i64 a', .int .i64 b'])).run P w = .ok ((a == a') && (b == b')) w := by
  have hp : P.plainKey e = true := by simp [Program.plainKey, he]
  rw [run_equalIn_array w (d + 1) _ _ hu hi, hc]
  have hr : List.range 2 = [0, 1] := by decide
  rw [hr]
  simp only [Op.eqItems, Sem.run_bind, Nat.mul_one]
  rw [run_part_plain w hp (v := .int .i64 a) rfl]
  simp only [Result.andThen_ok]
  rw [run_part_plain w hp (v := .int .i64 a') rfl]
  simp only [Result.andThen_ok, run_equalIn_int w d e .i64 .i64 _ _ he]
  cases h1 : (a == a')
  · simp
  simp only [Bool.not_true, Bool.false_eq_true, if_false, Sem.run_bind]
  rw [run_part_plain w hp (v := .int .i64 b) rfl]
  simp only [Result.andThen_ok]
  rw [run_part_plain w hp (v := .int .i64 b') rfl]
  simp only [Result.andThen_ok, run_equalIn_int w d e .i64 .i64 _ _ he]
  cases h2 : (b == b')
  · simp
  · simp
def sameRu (a b c d a' b' c' d' : Nat) : Bool := (bitsOf a == bitsOf a') && ((bitsOf b == bitsOf b') && ((bitsOf c == bitsOf c') && (bitsOf d == bitsOf d')))
set_option maxHeartbeats 1600000 in
theorem specSameRules_any (a b c d a' b' c' d' : Nat) (w : World) (ha : a < 4294967296) (hb : b < 4294967296) (hc : c < 4294967296) (hd : d < 4294967296) (ha' : a' < 4294967296) (hb' : b' < 4294967296) (hc' : c' < 4294967296) (hd' : d' < 4294967296) :
    Calls Try.prog 5 #[ruVal a b c d, ruVal a' b' c' d'] w fun e w' => e = .returned (.bool (sameRu a b c d a' b' c' d')) ∧ Below w.heap.size w w' := by
  have HA := fun w => l01Same_any a a' w ha ha'
  have HB := fun w => l01Same_any b b' w hb hb'
  have HC := fun w => l01Same_any c c' w hc hc'
  have HD := fun w => l01Same_any d d' w hd hd'
  unfold ruVal sameRu
  generalize (bitsOf a == bitsOf a') = A at HA ⊢
  generalize (bitsOf b == bitsOf b') = B at HB ⊢
  generalize (bitsOf c == bitsOf c') = C at HC ⊢
  generalize (bitsOf d == bitsOf d') = D at HD ⊢
  have HA' := Lib.hid HA
  have HB' := Lib.hid HB
  have HC' := Lib.hid HC
  have HD' := Lib.hid HD
  clear HA HB HC HD
  have hcase : A = false ∨ A = true ∧ (B = false ∨ B = true ∧ (C = false ∨ C = true ∧ (D = false ∨ D = true))) := by
    clear HA' HB' HC' HD'
    cases A <;> cases B <;> cases C <;> cases D <;> simp
  rcases hcase with rfl | ⟨rfl, rfl | ⟨rfl, rfl | ⟨rfl, rfl | rfl⟩⟩⟩
  all_goals
    go_enter Try.func5, Try.ntmps5
    go_wp2_with (first | (go_at_call 13; (with_reducible refine (HA'.out _).mono ?_); rintro e w1 ⟨rfl, rfl⟩) | (go_at_call 13; (with_reducible refine (HB'.out _).mono ?_); rintro e w2 ⟨rfl, rfl⟩) | (go_at_call 13; (with_reducible refine (HC'.out _).mono ?_); rintro e w3 ⟨rfl, rfl⟩) | (go_at_call 13; (with_reducible refine (HD'.out _).mono ?_); rintro e w4 ⟨rfl, rfl⟩))
    go_ret
    exact ⟨rfl, ((Below.refl _ _).alloc (Nat.le_refl _) _).alloc (by simp) _⟩
set_option maxHeartbeats 1600000 in
theorem bitsOfRules_any (a b c d : Nat) (w : World) (ha : a < 4294967296) (hb : b < 4294967296) (hc : c < 4294967296) (hd : d < 4294967296) :
    Calls Try.prog 14 #[ruVal a b c d] w fun e w' => e = .returned (.agg #[.int .i64 (bitsOf a), .int .i64 (bitsOf b), .int .i64 (bitsOf c), .int .i64 (bitsOf d)]) ∧ Below w.heap.size w w' := by
  have HA := fun w => bitsOf_any a w ha
  have HB := fun w => bitsOf_any b w hb
  have HC := fun w => bitsOf_any c w hc
  have HD := fun w => bitsOf_any d w hd
  unfold ruVal
  generalize bitsOf a = A at HA ⊢
  generalize bitsOf b = B at HB ⊢
  generalize bitsOf c = C at HC ⊢
  generalize bitsOf d = D at HD ⊢
  have HA' := Lib.hid HA
  have HB' := Lib.hid HB
  have HC' := Lib.hid HC
  have HD' := Lib.hid HD
  clear HA HB HC HD
  have hblk : Blk ((w.alloc (.cells #[.float .f32 a, .float .f32 b, .float .f32 c, .float .f32 d] 26)).alloc (.cells #[.int .i64 0, .int .i64 0, .int .i64 0, .int .i64 0] 36)) w.heap.size 26 _ := (blk_new w _ _ _ rfl).alloc _
  have c0 := hblk.cell 0
  have c1 := hblk.cell 1
  have c2 := hblk.cell 2
  have c3 := hblk.cell 3
  clear hblk
  have HBk := Lib.hid (blk_new (w.alloc (.cells #[.float .f32 a, .float .f32 b, .float .f32 c, .float .f32 d] 26)) 36 #[.int .i64 0, .int .i64 0, .int .i64 0, .int .i64 0] (w.heap.size + 1) (by simp))
  have HB := Lib.hid (((Below.refl w.heap.size w).alloc (Nat.le_refl _) (.cells #[.float .f32 a, .float .f32 b, .float .f32 c, .float .f32 d] 26)).alloc (by simp) (.cells #[.int .i64 0, .int .i64 0, .int .i64 0, .int .i64 0] 36))
  go_enter Try.func14, Try.ntmps14
  go_wp2
  go_region_held3 (fun w' => w'.cell? ⟨w.heap.size, 0, none⟩ = some (.float .f32 a) ∧ w'.cell? ⟨w.heap.size, 1, none⟩ = some (.float .f32 b) ∧ w'.cell? ⟨w.heap.size, 2, none⟩ = some (.float .f32 c) ∧ w'.cell? ⟨w.heap.size, 3, none⟩ = some (.float .f32 d)) (first | go_keep | exact ⟨c0, c1, c2, c3⟩)
    (first | (go_at_call 21; (with_reducible refine (HA'.out _).mono ?_); rintro e w1 ⟨rfl, n1, rfl⟩) | (go_at_call 21; (with_reducible refine (HB'.out _).mono ?_); rintro e w2 ⟨rfl, n2, rfl⟩) | (go_at_call 21; (with_reducible refine (HC'.out _).mono ?_); rintro e w3 ⟨rfl, n3, rfl⟩) | (go_at_call 21; (with_reducible refine (HD'.out _).mono ?_); rintro e w4 ⟨rfl, n4, rfl⟩))
  go_wp2
  have hset := ((((HBk.out.drewN (1 + n1 + n2 + n3 + n4)).set_ 0 (.int .i64 A)).set_ 1 (.int .i64 B)).set_ 2 (.int .i64 C)).set_ 3 (.int .i64 D)
  have hle : w.heap.size ≤ w.heap.size + 1 := by omega
  refine bodyPost_ret (v := .agg #[.int .i64 A, .int .i64 B, .int .i64 C, .int .i64 D]) (results_cell_row Try.results14 _ _ (w.heap.size + 1) 36 #[.int .i64 A, .int .i64 B, .int .i64 C, .int .i64 D] (0, 0) _ rfl hset Try.underlying36 rfl (by kernel_rfl)) rfl ⟨rfl, ((((below_drewN HB.out _).setCell hle _).setCell hle _).setCell hle _).setCell hle _⟩
set_option maxHeartbeats 1600000 in
theorem sameRules_any (a b c d a' b' c' d' : Nat) (w : World) (ha : a < 4294967296) (hb : b < 4294967296) (hc : c < 4294967296) (hd : d < 4294967296) (ha' : a' < 4294967296) (hb' : b' < 4294967296) (hc' : c' < 4294967296) (hd' : d' < 4294967296) :
    Calls Try.prog 7 #[ruVal a b c d, ruVal a' b' c' d'] w fun e w' => e = .returned (.bool (sameRu a b c d a' b' c' d')) ∧ Below w.heap.size w w' := by
  have HA := fun w => bitsOfRules_any a b c d w ha hb hc hd
  have HB := fun w => bitsOfRules_any a' b' c' d' w ha' hb' hc' hd'
  have HE := fun w => run_equalIn_int4 (P := Try.prog) 9998 (t := 36) (e := 2) (i := (Try.prog.info? 2).getD default) Try.underlying36 Try.underlying2 (by kernel_rfl) (by kernel_rfl) (bitsOf a) (bitsOf b) (bitsOf c) (bitsOf d) (bitsOf a') (bitsOf b') (bitsOf c') (bitsOf d') w
  unfold ruVal at HA HB
  unfold ruVal sameRu
  have HA' := Lib.hid HA
  have HB' := Lib.hid HB
  clear HA HB
  have hblk : Blk ((w.alloc (.cells #[.float .f32 a, .float .f32 b, .float .f32 c, .float .f32 d] 26)).alloc (.cells #[.float .f32 a', .float .f32 b', .float .f32 c', .float .f32 d'] 26)) w.heap.size 26 _ := (blk_new w _ _ _ rfl).alloc _
  have hblk2 : Blk ((w.alloc (.cells #[.float .f32 a, .float .f32 b, .float .f32 c, .float .f32 d] 26)).alloc (.cells #[.float .f32 a', .float .f32 b', .float .f32 c', .float .f32 d'] 26)) (w.heap.size + 1) 26 _ := blk_new _ _ _ _ (by simp)
  have HBe := Lib.hid (((Below.refl w.heap.size w).alloc (Nat.le_refl _) (.cells #[.float .f32 a, .float .f32 b, .float .f32 c, .float .f32 d] 26)).alloc (by simp) (.cells #[.float .f32 a', .float .f32 b', .float .f32 c', .float .f32 d'] 26))
  have c0 := hblk.cell 0
  have c1 := hblk.cell 1
  have c2 := hblk.cell 2
  have c3 := hblk.cell 3
  have c4 := hblk2.cell 0
  have c5 := hblk2.cell 1
  have c6 := hblk2.cell 2
  have c7 := hblk2.cell 3
  clear hblk hblk2 ha hb hc hd ha' hb' hc' hd'
  go_enter Try.func7, Try.ntmps7
  go_wp2
  go_region_held3 (fun w' => w'.cell? ⟨w.heap.size, 0, none⟩ = some (.float .f32 a) ∧ w'.cell? ⟨w.heap.size, 1, none⟩ = some (.float .f32 b) ∧ w'.cell? ⟨w.heap.size, 2, none⟩ = some (.float .f32 c) ∧ w'.cell? ⟨w.heap.size, 3, none⟩ = some (.float .f32 d) ∧ w'.cell? ⟨w.heap.size + 1, 0, none⟩ = some (.float .f32 a') ∧ w'.cell? ⟨w.heap.size + 1, 1, none⟩ = some (.float .f32 b') ∧ w'.cell? ⟨w.heap.size + 1, 2, none⟩ = some (.float .f32 c') ∧ w'.cell? ⟨w.heap.size + 1, 3, none⟩ = some (.float .f32 d'))
    (first | go_keep | exact ⟨c0, c1, c2, c3, c4, c5, c6, c7⟩ | (go_split_ands; refine ⟨?_, ?_, ?_, ?_, ?_, ?_, ?_, ?_⟩ <;> (refine cell_next hb ?_; assumption)))
    (first | (go_at_call 14; (with_reducible refine (HA'.out _).mono ?_); rintro e w1 ⟨rfl, hb⟩; have K1 := Lib.hid hb) | (go_at_call 14; (with_reducible refine (HB'.out _).mono ?_); rintro e w2 ⟨rfl, hb⟩; have K2 := Lib.hid hb))
  go_wp2
  go_ret
  exact ⟨rfl, below_next (below_next (below_drewN HBe.out _) K1.out) K2.out⟩
end Go.Proofs.Ytpocclcijkopnab
