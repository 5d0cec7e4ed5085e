/- Touches compared: by the reference, by the program, by the law. -/
import Derived.Test.YtpocclcijkopnabTs
import Derived.Deep.RegionHeld3
namespace Go.Proofs.Ytpocclcijkopnab
open Go.RowKit Fl

def sameT (t u : Tc) : Bool := (t.a == u.a) && ((t.b == u.b) && (bitsOf t.s == bitsOf u.s))
theorem szTouchS_any (ao : Option Addr) (n c : Nat) (k : Nat) (w : World) (hn : n ≤ 9223372036854775807) (hk : k ≤ 1048576) :
    Calls Try.prog 8 #[.slice ao n c, .int .i64 k] w fun e w' => e = .returned (.int .i64 (if n ≤ k then (k : Int) - n else -1)) ∧ w = w' := by
  by_cases h : n ≤ k
  · rw [if_pos h]
    have h' : ¬ ((k : Int) - (n : Int) < 0) := by omega
    go_enter Try.func8, Try.ntmps8
    go_wp2
    go_ret
    exact ⟨rfl, rfl⟩
  · rw [if_neg h]
    have h' : ((k : Int) - (n : Int) < 0) := by omega
    go_enter Try.func8, Try.ntmps8
    go_wp2
    go_ret
    exact ⟨rfl, rfl⟩
theorem pairOf_any (t : Tc) (w : World) :
    Calls Try.prog 22 #[.agg #[.int .i64 t.a, .int .i64 t.b, .float .f32 t.s]] w fun e w' => e = .returned (.agg #[.int .i64 t.a, .int .i64 t.b]) ∧ Below w.heap.size w w' := by
  obtain ⟨a, b, s⟩ := t
  dsimp only
  go_enter Try.func22, Try.ntmps22
  go_wp2
  exact bodyPost_ret (v := .agg #[.int .i64 a, .int .i64 b]) (by simp [results, Try.results22, go_sem]) rfl ⟨rfl, ((Below.refl _ _).alloc (Nat.le_refl _) _).alloc (by simp) _⟩
set_option maxHeartbeats 3200000 in
theorem bitsOfTouch_any (t : Tc) (w : World) (ht : t.s < 4294967296) :
    Calls Try.prog 18 #[.agg #[.int .i64 t.a, .int .i64 t.b, .float .f32 t.s]] w fun e w' => e = .returned (.agg #[.int .i64 t.a, .int .i64 t.b, .int .i64 (bitsOf t.s)]) ∧ Below w.heap.size w w' := by
  have HP := Lib.hid fun w => pairOf_any t w
  have HB := Lib.hid fun w => bitsOf_any t.s w ht
  obtain ⟨a, b, s⟩ := t
  dsimp only at HP HB ht ⊢
  generalize bitsOf s = B at HB ⊢
  have hblk : Blk ((w.alloc (.cells #[.int .i64 a, .int .i64 b, .float .f32 s] 39)).alloc (.cells #[.int .i64 0, .int .i64 0, .int .i64 0] 46)) w.heap.size 39 _ := (blk_new w _ _ _ rfl).alloc _
  have hbk2 : Blk ((w.alloc (.cells #[.int .i64 a, .int .i64 b, .float .f32 s] 39)).alloc (.cells #[.int .i64 0, .int .i64 0, .int .i64 0] 46)) (w.heap.size + 1) 46 _ := blk_new _ _ _ _ (by simp)
  have c0 := hblk.cell 0
  have c1 := hblk.cell 1
  have c2 := hblk.cell 2
  have HBa := Lib.hid hblk
  have HBk := Lib.hid hbk2
  have HBe := Lib.hid (((Below.refl w.heap.size w).alloc (Nat.le_refl _) (.cells #[.int .i64 a, .int .i64 b, .float .f32 s] 39)).alloc (by simp) (.cells #[.int .i64 0, .int .i64 0, .int .i64 0] 46))
  clear hblk hbk2
  go_enter Try.func18, Try.ntmps18
  go_wp2
  go_region_with (first | (go_at_call 22; (with_reducible refine (HP.out _).mono ?_); rintro e w1 ⟨rfl, hb⟩; have K1 := Lib.hid hb; have KA := Lib.hid (blk_next (blk_drewN HBa.out _) hb); have KB := Lib.hid (blk_next (blk_drewN HBk.out _) hb); have d2 := KA.out.cell 2; have k0 := KB.out.cell 0; have k1 := KB.out.cell 1; have k2 := KB.out.cell 2; have f0 := KB.out.frozen 0; have f1 := KB.out.frozen 1; have f2 := KB.out.frozen 2; clear hb) | (go_at_call 21; (with_reducible refine (HB.out _).mono ?_); rintro e w2 ⟨rfl, n2, rfl⟩))
  all_goals
    go_wp2
    have hle : w.heap.size ≤ w.heap.size + 1 := by omega
    refine bodyPost_ret (v := .agg #[.int .i64 a, .int .i64 b, .int .i64 B]) (results_cell_row Try.results18 _ _ (w.heap.size + 1) 46 #[.int .i64 a, .int .i64 b, .int .i64 B] (0, 0) _ rfl ?_ Try.underlying46 rfl (by kernel_rfl)) rfl ⟨rfl, ?_⟩
    · exact (((blk_drewN KB.out _).set_ 0 _).set_ 1 _).set_ 2 _
    · exact (((below_drewN (below_next (below_drewN HBe.out _) K1.out) _).setCell hle _).setCell hle _).setCell hle _
theorem run_equalIn_bits {P : Program} (d : Nat) {t p e : TypeId} {i ip : TypeInfo} {f g : Field} (ht : P.underlying t = some (.struct (P.fieldsOf t))) (hp : P.stoodInHeld t = false) (hf : (P.fieldsOf t).toList = [f, g])
    (n1 : f.name ≠ "_") (t1 : f.type = p) (o1 : f.offset = 0) (n2 : g.name ≠ "_") (t2 : g.type = e) (o2 : g.offset = 2)
    (hu : P.underlying p = some (.array 2 e)) (he : P.underlying e = some (.int .i64)) (hi : P.info? e = some i) (hc : P.cellsOf e = 1) (hip : P.info? p = some ip) (hpc : P.cellsOf p = 2) (a b c a' b' c' : Int) (w : World) :
    (Op.equalIn (d + 3) t (.agg #[.int .i64 a, .int .i64 b, .int .i64 c]) (.agg #[.int .i64 a', .int .i64 b', .int .i64 c'])).run P w = .ok (((a == a') && (b == b')) && (c == c')) w := by
  have hpl : P.plainKey e = true := by simp [Program.plainKey, he]
  have q1 : ∀ x y z : Int, (part p #[.int .i64 x, .int .i64 y, .int .i64 z] 0).run P w = .ok (.agg #[.int .i64 x, .int .i64 y]) w := by
    intro x y z
    simp [part, isAgg, run_underlying hu, run_sizeOf w hip, hpc]
  have q2 : ∀ x y z : Int, (part e #[.int .i64 x, .int .i64 y, .int .i64 z] 2).run P w = .ok (.int .i64 z) w := fun x y z => run_part_plain w hpl (v := .int .i64 z) rfl
  rw [run_equalIn_struct w (d + 2) t _ _ ht hp, hf, Op.eqFields, if_pos n1, t1, o1]
  simp only [Sem.run_bind, q1, Result.andThen_ok, run_equalIn_int2 d hu he hi hc]
  cases h : ((a == a') && (b == b'))
  · simp
  · simp only [Bool.not_true, Bool.false_eq_true, if_false]
    rw [Op.eqFields, if_pos n2, t2, o2]
    simp only [Sem.run_bind, q2, Result.andThen_ok, run_equalIn_int w (d + 1) e .i64 .i64 _ _ he]
    cases h4 : (c == c') <;> simp [Op.eqFields]
theorem eqTouch_self (t : Tc) (w : World) :
    Calls Try.prog 19 #[.agg #[.int .i64 t.a, .int .i64 t.b, .float .f32 t.s], .agg #[.int .i64 t.a, .int .i64 t.b, .float .f32 t.s]] w fun e w' => e = .returned (.bool true) ∧ Below w.heap.size w w' := by
  obtain ⟨a, b, s⟩ := t
  dsimp only
  cases hn : nan32 s
  · have hc := fun w => run_convert_float_float (P := Try.prog) w 22 52 .f32 .f64 s (wide s) (by kernel_rfl) Try.underlying52 (wide_conv s hn)
    have HS := Lib.hid fun w => sameFloat_self (wide s) w (nan_wide s hn)
    clear hn
    go_enter Try.func19, Try.ntmps19
    go_wp2_with (go_at_call 23; (with_reducible refine (HS.out _).mono ?_); rintro e w' ⟨rfl, rfl⟩)
    go_ret
    exact ⟨rfl, ((Below.refl _ _).alloc (Nat.le_refl _) _).alloc (by simp) _⟩
  · have hc := fun w => run_widen_nan (P := Try.prog) 22 52 s w (by kernel_rfl) Try.underlying52 hn
    have HS := Lib.hid fun x y w h1 h2 => sameFloat_nan x y w h1 h2
    clear hn
    go_enter Try.func19, Try.ntmps19
    go_wp2_with (go_at_call 23; (with_reducible refine (HS.out _ _ _ (nanc64_nan _ _) (nanc64_nan _ _)).mono ?_); rintro e w' ⟨rfl, rfl⟩)
    go_ret
    exact ⟨rfl, (((Below.refl _ _).alloc (Nat.le_refl _) _).alloc (by simp) _).drew.drew⟩
end Go.Proofs.Ytpocclcijkopnab
