/- Bonds compared: by the reference, by the program, by the law. -/
import Derived.Test.YtkgijboahjiodaaJks
import Derived.Deep.RegionHeld3
namespace Go.Proofs.Ytkgijboahjiodaa
open Go.RowKit Fl

def sameK (t u : Kc) : Bool := (t.a == u.a) && ((t.b == u.b) && ((bitsOf t.s == bitsOf u.s) && (bitsOf t.q == bitsOf u.q)))
theorem szBondS_any (ao : Option Addr) (n c : Nat) (k : Nat) (w : World) (hn : n ≤ 9223372036854775807) (hk : k ≤ 1048576) :
    Calls Try.prog 28 #[.slice ao n c, .int .i64 k] w fun e w' => e = .returned (.int .i64 (if n ≤ k then (k : Int) - n else -1)) ∧ w = w' := by
  by_cases h : n ≤ k
  · rw [if_pos h]
    have h' : ¬ ((k : Int) - (n : Int) < 0) := by omega
    go_enter Try.func28, Try.ntmps28
    go_wp2
    go_ret
    exact ⟨rfl, rfl⟩
  · rw [if_neg h]
    have h' : ((k : Int) - (n : Int) < 0) := by omega
    go_enter Try.func28, Try.ntmps28
    go_wp2
    go_ret
    exact ⟨rfl, rfl⟩
theorem endsOfBond_any (t : Kc) (w : World) :
    Calls Try.prog 92 #[.agg #[.int .i64 t.a, .int .i64 t.b, .float .f32 t.s, .float .f32 t.q]] w fun e w' => e = .returned (.agg #[.int .i64 t.a, .int .i64 t.b]) ∧ Below w.heap.size w w' := by
  obtain ⟨a, b, s, q⟩ := t
  dsimp only
  go_enter Try.func92, Try.ntmps92
  go_wp2
  exact bodyPost_ret (v := .agg #[.int .i64 a, .int .i64 b]) (by simp [results, Try.results92, go_sem]) rfl ⟨rfl, ((Below.refl _ _).alloc (Nat.le_refl _) _).alloc (by simp) _⟩
set_option maxHeartbeats 3200000 in
theorem bitsOfBond_any (t : Kc) (w : World) (ht : t.s < 4294967296) (hq : t.q < 4294967296) :
    Calls Try.prog 70 #[.agg #[.int .i64 t.a, .int .i64 t.b, .float .f32 t.s, .float .f32 t.q]] w fun e w' => e = .returned (.agg #[.int .i64 t.a, .int .i64 t.b, .int .i64 (bitsOf t.s), .int .i64 (bitsOf t.q)]) ∧ Below w.heap.size w w' := by
  have HP := Lib.hid fun w => endsOfBond_any t w
  have HB := Lib.hid fun w => bitsOf_any t.s w ht
  have HQ := Lib.hid fun w => bitsOf_any t.q w hq
  obtain ⟨a, b, s, q⟩ := t
  dsimp only at HP HB HQ ht hq ⊢
  generalize bitsOf s = B at HB ⊢
  generalize bitsOf q = D at HQ ⊢
  have hblk : Blk ((w.alloc (.cells #[.int .i64 a, .int .i64 b, .float .f32 s, .float .f32 q] 110)).alloc (.cells #[.int .i64 0, .int .i64 0, .int .i64 0, .int .i64 0] 116)) w.heap.size 110 _ := (blk_new w _ _ _ rfl).alloc _
  have hbk2 : Blk ((w.alloc (.cells #[.int .i64 a, .int .i64 b, .float .f32 s, .float .f32 q] 110)).alloc (.cells #[.int .i64 0, .int .i64 0, .int .i64 0, .int .i64 0] 116)) (w.heap.size + 1) 116 _ := blk_new _ _ _ _ (by simp)
  have c0 := hblk.cell 0
  have c1 := hblk.cell 1
  have c2 := hblk.cell 2
  have c3 := hblk.cell 3
  have HBa := Lib.hid hblk
  have HBk := Lib.hid hbk2
  have HBe := Lib.hid (((Below.refl w.heap.size w).alloc (Nat.le_refl _) (.cells #[.int .i64 a, .int .i64 b, .float .f32 s, .float .f32 q] 110)).alloc (by simp) (.cells #[.int .i64 0, .int .i64 0, .int .i64 0, .int .i64 0] 116))
  clear hblk hbk2
  go_enter Try.func70, Try.ntmps70
  go_wp2
  go_region_with (first | (go_at_call 92; (with_reducible refine (HP.out _).mono ?_); rintro e w1 ⟨rfl, hb⟩; have K1 := Lib.hid hb; have KA := Lib.hid (blk_next (blk_drewN HBa.out _) hb); have KB := Lib.hid (blk_next (blk_drewN HBk.out _) hb); have d2 := KA.out.cell 2; have d3 := KA.out.cell 3; have k0 := KB.out.cell 0; have k1 := KB.out.cell 1; have k2 := KB.out.cell 2; have k3 := KB.out.cell 3; have f0 := KB.out.frozen 0; have f1 := KB.out.frozen 1; have f2 := KB.out.frozen 2; have f3 := KB.out.frozen 3; clear hb) | (go_at_call 93; (with_reducible refine (HB.out _).mono ?_); rintro e w2 ⟨rfl, n2, rfl⟩) | (go_at_call 93; (with_reducible refine (HQ.out _).mono ?_); rintro e w2 ⟨rfl, n3, rfl⟩))
  all_goals
    go_wp2
    have hle : w.heap.size ≤ w.heap.size + 1 := by omega
    refine bodyPost_ret (v := .agg #[.int .i64 a, .int .i64 b, .int .i64 B, .int .i64 D]) (results_cell_row Try.results70 _ _ (w.heap.size + 1) 116 #[.int .i64 a, .int .i64 b, .int .i64 B, .int .i64 D] (0, 0) _ rfl ?_ Try.underlying116 rfl (by kernel_rfl)) rfl ⟨rfl, ?_⟩
    · exact ((((blk_drewN KB.out _).set_ 0 _).set_ 1 _).set_ 2 _).set_ 3 _
    · exact ((((below_drewN (below_next (below_drewN HBe.out _) K1.out) _).setCell hle _).setCell hle _).setCell hle _).setCell hle _
theorem run_equalIn_bits4 {P : Program} (d : Nat) {t p e : TypeId} {i ip : TypeInfo} {f g l : Field} (ht : P.underlying t = some (.struct (P.fieldsOf t))) (hp : P.stoodInHeld t = false) (hf : (P.fieldsOf t).toList = [f, g, l])
    (n1 : f.name ≠ "_") (t1 : f.type = p) (o1 : f.offset = 0) (n2 : g.name ≠ "_") (t2 : g.type = e) (o2 : g.offset = 2) (n3 : l.name ≠ "_") (t3 : l.type = e) (o3 : l.offset = 3)
    (hu : P.underlying p = some (.array 2 e)) (he : P.underlying e = some (.int .i64)) (hi : P.info? e = some i) (hc : P.cellsOf e = 1) (hip : P.info? p = some ip) (hpc : P.cellsOf p = 2) (a b c k a' b' c' k' : Int) (w : World) :
    (Op.equalIn (d + 3) t (.agg #[.int .i64 a, .int .i64 b, .int .i64 c, .int .i64 k]) (.agg #[.int .i64 a', .int .i64 b', .int .i64 c', .int .i64 k'])).run P w = .ok ((((a == a') && (b == b')) && (c == c')) && (k == k')) w := by
  have hpl : P.plainKey e = true := by simp [Program.plainKey, he]
  have q1 : ∀ x y z u : Int, (part p #[.int .i64 x, .int .i64 y, .int .i64 z, .int .i64 u] 0).run P w = .ok (.agg #[.int .i64 x, .int .i64 y]) w := by
    intro x y z u
    simp [part, isAgg, run_underlying hu, run_sizeOf w hip, hpc]
  have q2 : ∀ x y z u : Int, (part e #[.int .i64 x, .int .i64 y, .int .i64 z, .int .i64 u] 2).run P w = .ok (.int .i64 z) w := fun x y z u => run_part_plain w hpl (v := .int .i64 z) rfl
  have q3 : ∀ x y z u : Int, (part e #[.int .i64 x, .int .i64 y, .int .i64 z, .int .i64 u] 3).run P w = .ok (.int .i64 u) w := fun x y z u => run_part_plain w hpl (v := .int .i64 u) rfl
  rw [run_equalIn_struct w (d + 2) t _ _ ht hp, hf, Op.eqFields, if_pos n1, t1, o1]
  simp only [Sem.run_bind, q1, Result.andThen_ok, run_equalIn_int2 d hu he hi hc]
  cases h : ((a == a') && (b == b'))
  · simp
  · simp only [Bool.not_true, Bool.false_eq_true, if_false]
    rw [Op.eqFields, if_pos n2, t2, o2]
    simp only [Sem.run_bind, q2, Result.andThen_ok, run_equalIn_int w (d + 1) e .i64 .i64 _ _ he]
    cases h4 : (c == c')
    · simp
    · simp only [Bool.not_true, Bool.false_eq_true, if_false]
      rw [Op.eqFields, if_pos n3, t3, o3]
      simp only [Sem.run_bind, q3, Result.andThen_ok, run_equalIn_int w (d + 1) e .i64 .i64 _ _ he]
      cases h5 : (k == k') <;> simp [Op.eqFields]
set_option maxHeartbeats 800000 in
theorem eqBond_self (t : Kc) (w : World) :
    Calls Try.prog 71 #[.agg #[.int .i64 t.a, .int .i64 t.b, .float .f32 t.s, .float .f32 t.q], .agg #[.int .i64 t.a, .int .i64 t.b, .float .f32 t.s, .float .f32 t.q]] w fun e w' => e = .returned (.bool true) ∧ Below w.heap.size w w' := by
  obtain ⟨a, b, s, q⟩ := t
  dsimp only
  have HN := Lib.hid fun x y w h1 h2 => sameFloat_nan x y w h1 h2
  cases hn : nan32 s
  · have hc := fun w => run_convert_float_float (P := Try.prog) w 29 37 .f32 .f64 s (wide s) (by kernel_rfl) Try.underlying37 (wide_conv s hn)
    have HS := Lib.hid fun w => sameFloat_self (wide s) w (nan_wide s hn)
    cases hm : nan32 q
    · have hc2 := fun w => run_convert_float_float (P := Try.prog) w 29 37 .f32 .f64 q (wide q) (by kernel_rfl) Try.underlying37 (wide_conv q hm)
      have HS2 := Lib.hid fun w => sameFloat_self (wide q) w (nan_wide q hm)
      clear hn hm
      go_enter Try.func71, Try.ntmps71
      go_wp2_with (first | (go_at_call 90; (with_reducible refine (HS.out _).mono ?_); rintro e w' ⟨rfl, rfl⟩) | (go_at_call 90; (with_reducible refine (HS2.out _).mono ?_); rintro e w' ⟨rfl, rfl⟩))
      go_ret
      exact ⟨rfl, ((Below.refl _ _).alloc (Nat.le_refl _) _).alloc (by simp) _⟩
    · have hc2 := fun w => run_widen_nan (P := Try.prog) 29 37 q w (by kernel_rfl) Try.underlying37 hm
      clear hn hm
      go_enter Try.func71, Try.ntmps71
      go_wp2_with (first | (go_at_call 90; (with_reducible refine (HS.out _).mono ?_); rintro e w' ⟨rfl, rfl⟩) | (go_at_call 90; (with_reducible refine (HN.out _ _ _ (nanc64_nan _ _) (nanc64_nan _ _)).mono ?_); rintro e w' ⟨rfl, rfl⟩))
      go_ret
      exact ⟨rfl, (((Below.refl _ _).alloc (Nat.le_refl _) _).alloc (by simp) _).drew.drew⟩
  · have hc := fun w => run_widen_nan (P := Try.prog) 29 37 s w (by kernel_rfl) Try.underlying37 hn
    cases hm : nan32 q
    · have hc2 := fun w => run_convert_float_float (P := Try.prog) w 29 37 .f32 .f64 q (wide q) (by kernel_rfl) Try.underlying37 (wide_conv q hm)
      have HS2 := Lib.hid fun w => sameFloat_self (wide q) w (nan_wide q hm)
      clear hn hm
      go_enter Try.func71, Try.ntmps71
      go_wp2_with (first | (go_at_call 90; (with_reducible refine (HS2.out _).mono ?_); rintro e w' ⟨rfl, rfl⟩) | (go_at_call 90; (with_reducible refine (HN.out _ _ _ (nanc64_nan _ _) (nanc64_nan _ _)).mono ?_); rintro e w' ⟨rfl, rfl⟩))
      go_ret
      exact ⟨rfl, (((Below.refl _ _).alloc (Nat.le_refl _) _).alloc (by simp) _).drew.drew⟩
    · have hc2 := fun w => run_widen_nan (P := Try.prog) 29 37 q w (by kernel_rfl) Try.underlying37 hm
      clear hn hm
      go_enter Try.func71, Try.ntmps71
      go_wp2_with (go_at_call 90; (with_reducible refine (HN.out _ _ _ (nanc64_nan _ _) (nanc64_nan _ _)).mono ?_); rintro e w' ⟨rfl, rfl⟩)
      go_ret
      exact ⟨rfl, (((Below.refl _ _).alloc (Nat.le_refl _) _).alloc (by simp) _).drew.drew.drew.drew⟩
end Go.Proofs.Ytkgijboahjiodaa
