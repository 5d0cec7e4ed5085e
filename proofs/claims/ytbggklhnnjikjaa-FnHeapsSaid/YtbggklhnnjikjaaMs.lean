/- MassOfHeap and TurningOf on the program's side. -/
import Derived.Test.YtbggklhnnjikjaaMo
import Derived.Deep.RegionHeld3
namespace Go.Proofs.Ytbggklhnnjikjaa
open Go.RowKit Fl

/-- sums of 32-bit numbers, one after another -/
structure SumF (n : Nat) (P S : Nat → Nat) : Prop where
  s0 : S 0 = 0
  s : ∀ k, k < n → floatBits .add .f32 (S k) (P k) = some (S (k + 1))
theorem finiteNumber_fin (a : Nat) (h : fin32 a = true) (w : World) :
    Calls Try.prog 59 #[.float .f32 a] w fun e w' => e = .returned (.tuple #[.float .f32 a, .bool true]) ∧ Quiet w w' := by
  have HF := Lib.hid fun w => (show Calls Try.prog 94 #[.float .f32 a] w fun e w' => e = .returned (.bool true) ∧ Quiet w w' by rw [← h]; exact isFinite_any a w)
  clear h
  go_enter Try.func59, Try.ntmps59
  go_wp2_with (go_at_call 94; (with_reducible refine (HF.out _).mono ?_); rintro e w4 ⟨rfl, n4, rfl⟩)
  go_ret2
  exact ⟨rfl, n4, rfl⟩
set_option maxRecDepth 100000 in
theorem massOf_of (g : Gr) (w : World) : Calls Try.prog 61 #[g.val] w fun e w' => e = .returned (.float .f32 g.m) ∧ Below w.heap.size w w' := by
  obtain ⟨ax, ay, sx, sy, r, m, t, s, hh⟩ := g
  have hsf := run_store_float' Try.prog
  have hsc := run_store_complex Try.prog
  unfold Gr.val
  dsimp only
  go_enter Try.func61, Try.ntmps61
  go_wp2
  go_ret
  exact ⟨rfl, (Below.refl _ _).alloc (Nat.le_refl _) _⟩
set_option maxRecDepth 100000 in
set_option maxHeartbeats 3200000 in
theorem sumOver_mass (b n c : Nat) (gs : List Gr) (P S : Nat → Nat) (w : World) (hl : gs.length = n) (hr : GrRow w b gs) (hn : n ≤ 24) (hw : SumF n P S)
    (hf : ∀ k W, k < n → Calls Try.prog 61 #[(gs.getD k default).val] W fun e w' => e = .returned (.float .f32 (P k)) ∧ Below W.heap.size W w') :
    Calls Try.prog 60 #[.slice (some ⟨b, 0, none⟩) n c, .func (.func 61) #[] #[]] w fun e w' => e = .returned (.float .f32 (S n)) ∧ Below w.heap.size w w' := by
  have HL := Lib.hid hl
  have HR := Lib.hid hr
  have HW := Lib.hid hw
  have HF := Lib.hid hf
  clear hl hr hw hf
  go_enter Try.func60, Try.ntmps60
  have hs0 := HW.out.s0
  have HS0 := Lib.hid hs0
  clear hs0
  go_wp2
  go_loopw [5, 10] (fun a i wr => ∃ (W : World) (k : Nat), W = wr ∧ k ≤ n ∧ i = .int .i64 k ∧ a = .float .f32 (S k) ∧ Below w.heap.size w wr) (fun _ i _ => n - (intOf i).toNat)
  case atStart => exact ⟨_, 0, rfl, Nat.zero_le _, rfl, by rw [HS0.out], Below.refl _ _⟩
  case round =>
    obtain ⟨W, k, rfl, hk, rfl, rfl, hb⟩ := hrel
    have L := Lib.hid hb
    have hl0 := hb.size
    by_cases hlt : k < n
    · have hkl : k < gs.length := by rw [HL.out]; exact hlt
      obtain ⟨h0, h1', h2, h3, h4, h5, h6⟩ := (HR.out.below hb (Nat.le_refl _)) k hkl
      have HC := Lib.hid fun W' => HF.out k W' hlt
      have ha := fun w => run_float_arith (P := Try.prog) w .add 35 .f32 _ _ _ (HW.out.s k hlt)
      generalize gs.getD k default = g at h0 h1' h2 h3 h4 h5 h6 HC
      unfold Gr.val at HC
      have HL3 := Lib.hid (hb.alloc hl0 (.cells #[.complex .f32 g.ax g.ay, .complex .f32 g.sx g.sy, .float .f32 g.r, .float .f32 g.m, .float .f32 g.t, .float .f32 g.s, .bool g.h] 37))
      have hsf := run_store_float' Try.prog
      have hsc := run_store_complex Try.prog
      clear hkl hb
      go_wp2_with fail
      refine (HC.out _).mono ?_
      rintro e w4 ⟨rfl, hb⟩
      have L4 := Lib.hid (below_next HL3.out hb)
      clear hb h0 h1' h2 h3 h4 h5 h6
      go_wp2
      go_roundw
      case rel => exact ⟨_, k + 1, rfl, by omega, by go_num, rfl, L4.out⟩
      case measure => simp [intOf]; omega
    · have hk2 : k = n := by omega
      subst hk2
      clear hb
      go_wp2
      go_ret
      exact ⟨rfl, L.out⟩
set_option maxRecDepth 100000 in
set_option maxHeartbeats 3200000 in
theorem massOfHeap_of (b n c : Nat) (gs : List Gr) (P S : Nat → Nat) (w : World) (hl : gs.length = n) (hr : GrRow w b gs) (hn : n ≤ 24) (hv : gs.all Gr.valid = true) (hw : SumF n P S)
    (hf : ∀ k W, k < n → Calls Try.prog 61 #[(gs.getD k default).val] W fun e w' => e = .returned (.float .f32 (P k)) ∧ Below W.heap.size W w') (hfin : fin32 (S n) = true) :
    Calls Try.prog 19 #[.agg #[.slice (some ⟨b, 0, none⟩) n c]] w fun e w' => e = .returned (.tuple #[.float .f32 (S n), .bool true]) ∧ Below w.heap.size w w' := by
  have hVH := fun w (h : GrRow w b gs) => validHeap_any b n c gs w hl h hn
  rw [hv] at hVH
  have HVH := Lib.hid hVH
  have HSu := Lib.hid fun w (h : GrRow w b gs) => sumOver_mass b n c gs P S w hl h hn hw hf
  have HFi := Lib.hid fun w => finiteNumber_fin (S n) hfin w
  have hbel := (Below.refl w.heap.size w).alloc (Nat.le_refl _) (.cells #[.slice (some ⟨b, 0, none⟩) n c] 26)
  have hB0 : Blk (w.alloc (.cells #[.slice (some ⟨b, 0, none⟩) n c] 26)) w.heap.size 26 _ := blk_new w _ _ _ rfl
  have HR0 := Lib.hid (hr.below hbel (Nat.le_refl _))
  have HBel := Lib.hid hbel
  have HB0 := Lib.hid hB0
  generalize S n = s at HSu HFi ⊢
  clear hVH hl hr hv hw hf hfin hbel hB0
  go_enter Try.func19, Try.ntmps19
  go_wp2_with fail
  refine (HVH.out _ HR0.out).mono ?_
  rintro e w1 ⟨rfl, hb⟩
  have L1 := Lib.hid (below_next HBel.out hb)
  have R1 := Lib.hid (HR0.out.below hb (Nat.le_refl _))
  have a0 := (blk_next HB0.out hb).cell 0
  clear hb
  go_wp2_with fail
  refine (HSu.out _ R1.out).mono ?_
  rintro e w2 ⟨rfl, hb⟩
  have L2 := Lib.hid (below_next L1.out hb)
  clear hb
  go_wp2_with (go_at_call 59; (with_reducible refine (HFi.out _).mono ?_); rintro e w4 ⟨rfl, n4, rfl⟩)
  go_ret2
  exact ⟨rfl, below_drewN L2.out _⟩
theorem cell_on {W w1 : World} (hb : Below W.heap.size W w1) {p : Addr} {v : Value} (h : W.cell? p = some v) : w1.cell? p = some v := by
  rw [hb.cell (p := p) (World.block_lt_of_cell? W _ h)]; exact h
/-- the turning momentum of a grain, word by word -/
def TurnW (g : Gr) (v : Nat) : Prop := ∃ p1 p2 ar l q1 q2 q3 q4, floatBits .mul .f32 g.ax g.sy = some p1 ∧ floatBits .mul .f32 g.ay g.sx = some p2 ∧ floatBits .sub .f32 p1 p2 = some ar ∧ floatBits .mul .f32 g.m ar = some l ∧
  floatBits .mul .f32 1056964608 g.m = some q1 ∧ floatBits .mul .f32 q1 g.r = some q2 ∧ floatBits .mul .f32 q2 g.r = some q3 ∧ floatBits .mul .f32 q3 g.s = some q4 ∧ floatBits .add .f32 l q4 = some v
set_option maxRecDepth 100000 in
set_option maxHeartbeats 1600000 in
theorem spread_of (x : Nat) (g : Gr) (q1 q2 q3 : Nat) (w : World) (h1 : floatBits .mul .f32 x g.m = some q1) (h2 : floatBits .mul .f32 q1 g.r = some q2) (h3 : floatBits .mul .f32 q2 g.r = some q3) :
    Calls Try.prog 103 #[.float .f32 x, g.val] w fun e w' => e = .returned (.float .f32 q3) ∧ Below w.heap.size w w' := by
  obtain ⟨ax, ay, sx, sy, r, m, t, s, hh⟩ := g
  dsimp only at h1 h2 h3
  have hsf := run_store_float' Try.prog
  have hsc := run_store_complex Try.prog
  have H1 := Lib.hid fun w => mulNumber_ok x m q1 h1 w
  have H2 := Lib.hid fun w => mulNumber_ok q1 r q2 h2 w
  have H3 := Lib.hid fun w => mulNumber_ok q2 r q3 h3 w
  clear h1 h2 h3
  unfold Gr.val
  dsimp only
  have HB := Lib.hid (blk_new w 37 #[.complex .f32 ax ay, .complex .f32 sx sy, .float .f32 r, .float .f32 m, .float .f32 t, .float .f32 s, .bool hh] _ rfl)
  have c2 := HB.out.cell 2
  have c3 := HB.out.cell 3
  have L := Lib.hid ((Below.refl w.heap.size w).alloc (Nat.le_refl _) (.cells #[.complex .f32 ax ay, .complex .f32 sx sy, .float .f32 r, .float .f32 m, .float .f32 t, .float .f32 s, .bool hh] 37))
  go_enter Try.func103, Try.ntmps103
  go_wp2_with fail
  go_quiet (first | (go_at_call 98; exact Calls.quiet_of_same ((H1.out _).mono (fun _ _ h => ⟨h.1, h.2.symm⟩))) | (go_at_call 98; exact Calls.quiet_of_same ((H2.out _).mono (fun _ _ h => ⟨h.1, h.2.symm⟩))) | (go_at_call 98; exact Calls.quiet_of_same ((H3.out _).mono (fun _ _ h => ⟨h.1, h.2.symm⟩))))
  go_wp2
  go_ret
  exact ⟨rfl, below_drewN L.out _⟩
set_option maxRecDepth 100000 in
set_option maxHeartbeats 1600000 in
theorem turningOf_of (g : Gr) (v : Nat) (w : World) (h : TurnW g v) : Calls Try.prog 68 #[g.val] w fun e w' => e = .returned (.float .f32 v) ∧ Below w.heap.size w w' := by
  obtain ⟨p1, p2, ar, l, q1, q2, q3, q4, h1, h2, h3, h4, h5, h6, h7, h8, h9⟩ := h
  have HS := Lib.hid fun w => spread_of 1056964608 g q1 q2 q3 w h5 h6 h7
  obtain ⟨ax, ay, sx, sy, r, m, t, s, hh⟩ := g
  unfold Gr.val at HS ⊢
  dsimp only at h1 h2 h3 h4 h5 h6 h7 h8 h9 HS ⊢
  have hsf := run_store_float' Try.prog
  have hsc := run_store_complex Try.prog
  have H1 := Lib.hid fun w => mulNumber_ok ax sy p1 h1 w
  have H2 := Lib.hid fun w => mulNumber_ok ay sx p2 h2 w
  have H3 := Lib.hid fun w => mulNumber_ok m ar l h4 w
  have H4 := Lib.hid fun w => mulNumber_ok q3 s q4 h8 w
  have e1 := fun w => run_float_arith (P := Try.prog) w .sub 35 .f32 _ _ _ h3
  have e2 := fun w => run_float_arith (P := Try.prog) w .add 35 .f32 _ _ _ h9
  clear h1 h2 h3 h4 h5 h6 h7 h8 h9
  have HB := Lib.hid (blk_new w 37 #[.complex .f32 ax ay, .complex .f32 sx sy, .float .f32 r, .float .f32 m, .float .f32 t, .float .f32 s, .bool hh] _ rfl)
  have c0 := HB.out.cell 0
  have c1 := HB.out.cell 1
  have c2 := HB.out.cell 2
  have c3 := HB.out.cell 3
  have c4 := HB.out.cell 4
  have c5 := HB.out.cell 5
  have c6 := HB.out.cell 6
  have L := Lib.hid ((Below.refl w.heap.size w).alloc (Nat.le_refl _) (.cells #[.complex .f32 ax ay, .complex .f32 sx sy, .float .f32 r, .float .f32 m, .float .f32 t, .float .f32 s, .bool hh] 37))
  go_enter Try.func68, Try.ntmps68
  go_wp2_with fail
  go_quiet (first | (go_at_call 98; exact Calls.quiet_of_same ((H1.out _).mono (fun _ _ h => ⟨h.1, h.2.symm⟩))) | (go_at_call 98; exact Calls.quiet_of_same ((H2.out _).mono (fun _ _ h => ⟨h.1, h.2.symm⟩))))
  have L2 := Lib.hid (below_drewN L.out nq)
  have HB2 := Lib.hid (blk_drewN HB.out nq)
  go_wp2_with fail
  generalize (w.alloc (.cells #[.complex .f32 ax ay, .complex .f32 sx sy, .float .f32 r, .float .f32 m, .float .f32 t, .float .f32 s, .bool hh] 37)).drewN nq = W2 at L2 HB2 ⊢
  clear c0 c1 c2 c3 c4 c5 c6 HB L H1 H2
  have k0 := HB2.out.cell 0
  have k1 := HB2.out.cell 1
  have k2 := HB2.out.cell 2
  have k3 := HB2.out.cell 3
  have k4 := HB2.out.cell 4
  have k5 := HB2.out.cell 5
  have k6 := HB2.out.cell 6
  go_region_held3 (fun w' => w'.cell? ⟨w.heap.size, 0, none⟩ = some (.complex .f32 ax ay) ∧ w'.cell? ⟨w.heap.size, 1, none⟩ = some (.complex .f32 sx sy) ∧ w'.cell? ⟨w.heap.size, 2, none⟩ = some (.float .f32 r) ∧ w'.cell? ⟨w.heap.size, 3, none⟩ = some (.float .f32 m) ∧ w'.cell? ⟨w.heap.size, 4, none⟩ = some (.float .f32 t) ∧ w'.cell? ⟨w.heap.size, 5, none⟩ = some (.float .f32 s) ∧ w'.cell? ⟨w.heap.size, 6, none⟩ = some (.bool hh))
    (first | exact ⟨k0, k1, k2, k3, k4, k5, k6⟩ | (go_split_ands; refine ⟨?_, ?_, ?_, ?_, ?_, ?_, ?_⟩ <;> (refine cell_on hb ?_; assumption)))
    (first | (go_at_call 98; (with_reducible refine (H3.out _).mono ?_); rintro e w' ⟨rfl, rfl⟩) | (go_at_call 98; (with_reducible refine (H4.out _).mono ?_); rintro e w' ⟨rfl, rfl⟩) | (go_at_call 103; (with_reducible refine (HS.out _).mono ?_); rintro e w2 ⟨rfl, hb⟩; have K2 := Lib.hid hb))
  all_goals
    go_wp2
    go_ret
    exact ⟨rfl, by first | exact below_next (below_drewN L2.out _) K2.out | exact below_drewN (below_next L2.out K2.out) _⟩
end Go.Proofs.Ytbggklhnnjikjaa
