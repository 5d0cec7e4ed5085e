/- CentreOfHeap on the program's side. -/
import Derived.Test.YtbggklhnnjikjaaMs
import Derived.Test.YtbggklhnnjikjaaCh
import Derived.BigRegion
import Derived.Test.YtbggklhnnjikjaaQo
namespace Go.Proofs.Ytbggklhnnjikjaa
open Go.RowKit Fl

set_option maxRecDepth 100000 in
set_option maxHeartbeats 3200000 in
theorem sumOver_turn (b n c : Nat) (gs : List Gr) (P S : Nat → Nat) (w : World) (hl : gs.length = n) (hr : GrRow w b gs) (hn : n ≤ 24) (hw : SumF n P S)
    (hf : ∀ k W, k < n → Calls Try.prog 68 #[(gs.getD k default).val] W fun e w' => e = .returned (.float .f32 (P k)) ∧ Below W.heap.size W w') :
    Calls Try.prog 60 #[.slice (some ⟨b, 0, none⟩) n c, .func (.func 68) #[] #[]] w fun e w' => e = .returned (.float .f32 (S n)) ∧ Below w.heap.size w w' := by
  have HL := Lib.hid hl
  have HR := Lib.hid hr
  have HW := Lib.hid hw
  have HF := Lib.hid hf
  clear hl hr hw hf
  go_enter Try.func60, Try.ntmps60
  have hs0 := HW.out.s0
  have HS0 := Lib.hid hs0
  clear hs0
  go_wp2
  go_loopw [5, 10] (fun a i wr => ∃ (W : World) (k : Nat), W = wr ∧ k ≤ n ∧ i = .int .i64 k ∧ a = .float .f32 (S k) ∧ Below w.heap.size w wr) (fun _ i _ => n - (intOf i).toNat)
  case atStart => exact ⟨_, 0, rfl, Nat.zero_le _, rfl, by rw [HS0.out], Below.refl _ _⟩
  case round =>
    obtain ⟨W, k, rfl, hk, rfl, rfl, hb⟩ := hrel
    have L := Lib.hid hb
    have hl0 := hb.size
    by_cases hlt : k < n
    · have hkl : k < gs.length := by rw [HL.out]; exact hlt
      obtain ⟨h0, h1', h2, h3, h4, h5, h6⟩ := (HR.out.below hb (Nat.le_refl _)) k hkl
      have HC := Lib.hid fun W' => HF.out k W' hlt
      have ha := fun w => run_float_arith (P := Try.prog) w .add 35 .f32 _ _ _ (HW.out.s k hlt)
      generalize gs.getD k default = g at h0 h1' h2 h3 h4 h5 h6 HC
      unfold Gr.val at HC
      have HL3 := Lib.hid (hb.alloc hl0 (.cells #[.complex .f32 g.ax g.ay, .complex .f32 g.sx g.sy, .float .f32 g.r, .float .f32 g.m, .float .f32 g.t, .float .f32 g.s, .bool g.h] 37))
      have hsf := run_store_float' Try.prog
      have hsc := run_store_complex Try.prog
      clear hkl hb
      go_wp2_with fail
      refine (HC.out _).mono ?_
      rintro e w4 ⟨rfl, hb⟩
      have L4 := Lib.hid (below_next HL3.out hb)
      clear hb h0 h1' h2 h3 h4 h5 h6
      go_wp2
      go_roundw
      case rel => exact ⟨_, k + 1, rfl, by omega, by go_num, rfl, L4.out⟩
      case measure => simp [intOf]; omega
    · have hk2 : k = n := by omega
      subst hk2
      clear hb
      go_wp2
      go_ret
      exact ⟨rfl, L.out⟩
set_option maxRecDepth 100000 in
set_option maxHeartbeats 3200000 in
theorem turningOfHeap_of (b n c : Nat) (gs : List Gr) (P S : Nat → Nat) (w : World) (hl : gs.length = n) (hr : GrRow w b gs) (hn : n ≤ 24) (hv : gs.all Gr.valid = true) (hw : SumF n P S)
    (hf : ∀ k W, k < n → Calls Try.prog 68 #[(gs.getD k default).val] W fun e w' => e = .returned (.float .f32 (P k)) ∧ Below W.heap.size W w') (hfin : fin32 (S n) = true) :
    Calls Try.prog 22 #[.agg #[.slice (some ⟨b, 0, none⟩) n c]] w fun e w' => e = .returned (.tuple #[.float .f32 (S n), .bool true]) ∧ Below w.heap.size w w' := by
  have hVH := fun w (h : GrRow w b gs) => validHeap_any b n c gs w hl h hn
  rw [hv] at hVH
  have HVH := Lib.hid hVH
  have HSu := Lib.hid fun w (h : GrRow w b gs) => sumOver_turn b n c gs P S w hl h hn hw hf
  have HFi := Lib.hid fun w => finiteNumber_fin (S n) hfin w
  have hbel := (Below.refl w.heap.size w).alloc (Nat.le_refl _) (.cells #[.slice (some ⟨b, 0, none⟩) n c] 26)
  have hB0 : Blk (w.alloc (.cells #[.slice (some ⟨b, 0, none⟩) n c] 26)) w.heap.size 26 _ := blk_new w _ _ _ rfl
  have HR0 := Lib.hid (hr.below hbel (Nat.le_refl _))
  have HBel := Lib.hid hbel
  have HB0 := Lib.hid hB0
  generalize S n = s at HSu HFi ⊢
  clear hVH hl hr hv hw hf hfin hbel hB0
  go_enter Try.func22, Try.ntmps22
  go_wp2_with fail
  refine (HVH.out _ HR0.out).mono ?_
  rintro e w1 ⟨rfl, hb⟩
  have L1 := Lib.hid (below_next HBel.out hb)
  have R1 := Lib.hid (HR0.out.below hb (Nat.le_refl _))
  have a0 := (blk_next HB0.out hb).cell 0
  clear hb
  go_wp2_with fail
  refine (HSu.out _ R1.out).mono ?_
  rintro e w2 ⟨rfl, hb⟩
  have L2 := Lib.hid (below_next L1.out hb)
  clear hb
  go_wp2_with (go_at_call 59; (with_reducible refine (HFi.out _).mono ?_); rintro e w4 ⟨rfl, n4, rfl⟩)
  go_ret2
  exact ⟨rfl, below_drewN L2.out _⟩
/-- the energy of a grain, word by word; pw is the power of its speed -/
def EnergyW (g : Gr) (x y pw v : Nat) : Prop := ∃ a1 mv q1 q2 q3 t1 t2 p1 p2 p e1 e2, floatBits .mul .f32 1056964608 g.m = some a1 ∧ floatBits .mul .f32 a1 pw = some mv ∧ floatBits .mul .f32 1048576000 g.m = some q1 ∧ floatBits .mul .f32 q1 g.r = some q2 ∧ floatBits .mul .f32 q2 g.r = some q3 ∧
  floatBits .mul .f32 q3 g.s = some t1 ∧ floatBits .mul .f32 t1 g.s = some t2 ∧ floatBits .mul .f32 x g.ax = some p1 ∧ floatBits .mul .f32 y g.ay = some p2 ∧ floatBits .add .f32 p1 p2 = some p ∧ floatBits .add .f32 mv t2 = some e1 ∧ floatBits .mul .f32 g.m p = some e2 ∧ floatBits .sub .f32 e1 e2 = some v
set_option maxRecDepth 100000 in
set_option maxHeartbeats 3200000 in
theorem energyOf_of (g : Gr) (x y pw v : Nat) (w : World) (h : EnergyW g x y pw v) (hp : ∀ w, Calls Try.prog 104 #[.complex .f32 g.sx g.sy] w fun e w' => e = .returned (.float .f32 pw) ∧ w = w') :
    Calls Try.prog 70 #[g.val, .complex .f32 x y] w fun e w' => e = .returned (.float .f32 v) ∧ Below w.heap.size w w' := by
  obtain ⟨a1, mv, q1, q2, q3, t1, t2, p1, p2, p, e1, e2, h1, h2, h3, h4, h5, h6, h7, h8, h9, h10, h11, h12, h13⟩ := h
  have HS := Lib.hid fun w => spread_of 1048576000 g q1 q2 q3 w h3 h4 h5
  have HP := Lib.hid hp
  obtain ⟨ax, ay, sx, sy, r, m, t, s, hh⟩ := g
  unfold Gr.val at HS ⊢
  dsimp only at h1 h2 h3 h4 h5 h6 h7 h8 h9 h10 h11 h12 h13 HS HP hp ⊢
  have hsf := run_store_float' Try.prog
  have hsc := run_store_complex Try.prog
  have M2 := Lib.hid fun w => mulNumber_ok a1 pw mv h2 w
  have M6 := Lib.hid fun w => mulNumber_ok q3 s t1 h6 w
  have M7 := Lib.hid fun w => mulNumber_ok t1 s t2 h7 w
  have M8 := Lib.hid fun w => mulNumber_ok x ax p1 h8 w
  have M9 := Lib.hid fun w => mulNumber_ok y ay p2 h9 w
  have M12 := Lib.hid fun w => mulNumber_ok m p e2 h12 w
  have r1 := fun w => run_float_arith (P := Try.prog) w .mul 35 .f32 _ _ _ h1
  have r10 := fun w => run_float_arith (P := Try.prog) w .add 35 .f32 _ _ _ h10
  have r11 := fun w => run_float_arith (P := Try.prog) w .add 35 .f32 _ _ _ h11
  have r13 := fun w => run_float_arith (P := Try.prog) w .sub 35 .f32 _ _ _ h13
  clear h1 h2 h3 h4 h5 h6 h7 h8 h9 h10 h11 h12 h13 hp
  have HB := Lib.hid (blk_new w 37 #[.complex .f32 ax ay, .complex .f32 sx sy, .float .f32 r, .float .f32 m, .float .f32 t, .float .f32 s, .bool hh] _ rfl)
  have c0 := HB.out.cell 0
  have c1 := HB.out.cell 1
  have c2 := HB.out.cell 2
  have c3 := HB.out.cell 3
  have c4 := HB.out.cell 4
  have c5 := HB.out.cell 5
  have c6 := HB.out.cell 6
  have L := Lib.hid ((Below.refl w.heap.size w).alloc (Nat.le_refl _) (.cells #[.complex .f32 ax ay, .complex .f32 sx sy, .float .f32 r, .float .f32 m, .float .f32 t, .float .f32 s, .bool hh] 37))
  go_enter Try.func70, Try.ntmps70
  go_wp2_with fail
  go_quiet (first | (go_at_call 104; exact Calls.quiet_of_same ((HP.out _).mono (fun _ _ h => ⟨h.1, h.2.symm⟩))) | (go_at_call 98; exact Calls.quiet_of_same ((M2.out _).mono (fun _ _ h => ⟨h.1, h.2.symm⟩))))
  have L2 := Lib.hid (below_drewN L.out nq)
  have HB2 := Lib.hid (blk_drewN HB.out nq)
  go_wp2_with fail
  generalize (w.alloc (.cells #[.complex .f32 ax ay, .complex .f32 sx sy, .float .f32 r, .float .f32 m, .float .f32 t, .float .f32 s, .bool hh] 37)).drewN nq = W2 at L2 HB2 ⊢
  clear c0 c1 c2 c3 c4 c5 c6 HB L M2 HP
  have k0 := HB2.out.cell 0
  have k1 := HB2.out.cell 1
  have k2 := HB2.out.cell 2
  have k3 := HB2.out.cell 3
  have k4 := HB2.out.cell 4
  have k5 := HB2.out.cell 5
  have k6 := HB2.out.cell 6
  go_region_held3 (fun w' => w'.cell? ⟨w.heap.size, 0, none⟩ = some (.complex .f32 ax ay) ∧ w'.cell? ⟨w.heap.size, 1, none⟩ = some (.complex .f32 sx sy) ∧ w'.cell? ⟨w.heap.size, 2, none⟩ = some (.float .f32 r) ∧ w'.cell? ⟨w.heap.size, 3, none⟩ = some (.float .f32 m) ∧ w'.cell? ⟨w.heap.size, 4, none⟩ = some (.float .f32 t) ∧ w'.cell? ⟨w.heap.size, 5, none⟩ = some (.float .f32 s) ∧ w'.cell? ⟨w.heap.size, 6, none⟩ = some (.bool hh))
    (first | exact ⟨k0, k1, k2, k3, k4, k5, k6⟩ | (go_split_ands; refine ⟨?_, ?_, ?_, ?_, ?_, ?_, ?_⟩ <;> (refine cell_on hb ?_; assumption)))
    (first | (go_at_call 98; (with_reducible refine (M6.out _).mono ?_); rintro e w' ⟨rfl, rfl⟩) | (go_at_call 98; (with_reducible refine (M7.out _).mono ?_); rintro e w' ⟨rfl, rfl⟩) | (go_at_call 103; (with_reducible refine (HS.out _).mono ?_); rintro e w2 ⟨rfl, hb⟩; have K2 := Lib.hid hb))
  have L3 := Lib.hid (by first | exact below_next L2.out K2.out | exact below_next (below_drewN L2.out _) K2.out : Below w.heap.size w w2)
  have HB3 := Lib.hid (by first | exact blk_next HB2.out K2.out | exact blk_next (blk_drewN HB2.out _) K2.out : Blk w2 w.heap.size 37 #[.complex .f32 ax ay, .complex .f32 sx sy, .float .f32 r, .float .f32 m, .float .f32 t, .float .f32 s, .bool hh])
  clear k0 k1 k2 k3 k4 k5 k6 HB2 L2 K2 M6 M7 HS
  have c0 := HB3.out.cell 0
  have c3 := HB3.out.cell 3
  go_wp2_with fail
  go_quiet (first | ((go_at_call 98; first | exact Calls.quiet_of_same ((M8.out _).mono (fun _ _ h => ⟨h.1, h.2.symm⟩)) | exact (M8.out _).mono (fun _ _ h => ⟨h.1, _, h.2.symm⟩))) | ((go_at_call 98; first | exact Calls.quiet_of_same ((M9.out _).mono (fun _ _ h => ⟨h.1, h.2.symm⟩)) | exact (M9.out _).mono (fun _ _ h => ⟨h.1, _, h.2.symm⟩))))
  go_wp2_with (go_at_call 98; (with_reducible refine (M12.out _).mono ?_); rintro e w' ⟨rfl, rfl⟩)
  go_ret
  exact ⟨rfl, below_drewN L3.out _⟩
set_option maxRecDepth 100000 in
theorem energyOne_of (B : Nat) (g : Gr) (x y pw v : Nat) (w : World) (hc : w.cell? ⟨B, 0, none⟩ = some (.complex .f32 x y)) (h : EnergyW g x y pw v) (hp : ∀ w, Calls Try.prog 104 #[.complex .f32 g.sx g.sy] w fun e w' => e = .returned (.float .f32 pw) ∧ w = w') :
    Calls Try.prog 69 #[g.val, .pointer (some ⟨B, 0, none⟩)] w fun e w' => e = .returned (.float .f32 v) ∧ Below w.heap.size w w' := by
  have HE := Lib.hid fun w => energyOf_of g x y pw v w h hp
  obtain ⟨ax, ay, sx, sy, r, m, t, s, hh⟩ := g
  unfold Gr.val at HE ⊢
  dsimp only at HE ⊢
  have hB := World.block_lt_of_cell? w _ hc
  dsimp only at hB
  have hsf := run_store_float' Try.prog
  have hsc := run_store_complex Try.prog
  have HL := Lib.hid ((Below.refl w.heap.size w).alloc (Nat.le_refl _) (.cells #[.complex .f32 ax ay, .complex .f32 sx sy, .float .f32 r, .float .f32 m, .float .f32 t, .float .f32 s, .bool hh] 37))
  clear h hp
  go_enter Try.func69, Try.ntmps69
  go_wp2_with fail
  refine (HE.out _).mono ?_
  rintro e w1 ⟨rfl, hb⟩
  have L1 := Lib.hid (below_next HL.out hb)
  clear hb
  go_wp2
  go_ret
  exact ⟨rfl, L1.out⟩
set_option maxRecDepth 100000 in
set_option maxHeartbeats 3200000 in
theorem sumOver_energy (B b n c : Nat) (gs : List Gr) (P S : Nat → Nat) (w : World) (hl : gs.length = n) (hr : GrRow w b gs) (hn : n ≤ 24) (hw : SumF n P S)
    (hf : ∀ k W, k < n → Below w.heap.size w W → Calls Try.prog 69 #[(gs.getD k default).val, .pointer (some ⟨B, 0, none⟩)] W fun e w' => e = .returned (.float .f32 (P k)) ∧ Below W.heap.size W w') :
    Calls Try.prog 60 #[.slice (some ⟨b, 0, none⟩) n c, .func (.func 69) #[] #[.pointer (some ⟨B, 0, none⟩)]] w fun e w' => e = .returned (.float .f32 (S n)) ∧ Below w.heap.size w w' := by
  have HL := Lib.hid hl
  have HR := Lib.hid hr
  have HW := Lib.hid hw
  have HF := Lib.hid hf
  clear hl hr hw hf
  go_enter Try.func60, Try.ntmps60
  have hs0 := HW.out.s0
  have HS0 := Lib.hid hs0
  clear hs0
  go_wp2
  go_loopw [5, 10] (fun a i wr => ∃ (W : World) (k : Nat), W = wr ∧ k ≤ n ∧ i = .int .i64 k ∧ a = .float .f32 (S k) ∧ Below w.heap.size w wr) (fun _ i _ => n - (intOf i).toNat)
  case atStart => exact ⟨_, 0, rfl, Nat.zero_le _, rfl, by rw [HS0.out], Below.refl _ _⟩
  case round =>
    obtain ⟨W, k, rfl, hk, rfl, rfl, hb⟩ := hrel
    have L := Lib.hid hb
    have hl0 := hb.size
    by_cases hlt : k < n
    · have hkl : k < gs.length := by rw [HL.out]; exact hlt
      obtain ⟨h0, h1', h2, h3, h4, h5, h6⟩ := (HR.out.below hb (Nat.le_refl _)) k hkl
      have HC := Lib.hid fun W' (h' : Below w.heap.size w W') => HF.out k W' hlt h'
      have ha := fun w => run_float_arith (P := Try.prog) w .add 35 .f32 _ _ _ (HW.out.s k hlt)
      generalize gs.getD k default = g at h0 h1' h2 h3 h4 h5 h6 HC
      unfold Gr.val at HC
      have HL3 := Lib.hid (hb.alloc hl0 (.cells #[.complex .f32 g.ax g.ay, .complex .f32 g.sx g.sy, .float .f32 g.r, .float .f32 g.m, .float .f32 g.t, .float .f32 g.s, .bool g.h] 37))
      have hsf := run_store_float' Try.prog
      have hsc := run_store_complex Try.prog
      clear hkl hb
      go_wp2_with fail
      refine (HC.out _ HL3.out).mono ?_
      rintro e w4 ⟨rfl, hb⟩
      have L4 := Lib.hid (below_next HL3.out hb)
      clear hb h0 h1' h2 h3 h4 h5 h6
      go_wp2
      go_roundw
      case rel => exact ⟨_, k + 1, rfl, by omega, by go_num, rfl, L4.out⟩
      case measure => simp [intOf]; omega
    · have hk2 : k = n := by omega
      subst hk2
      clear hb
      go_wp2
      go_ret
      exact ⟨rfl, L.out⟩
set_option maxRecDepth 100000 in
set_option maxHeartbeats 3200000 in
theorem energyOfHeap_of (b n c : Nat) (gs : List Gr) (P S : Nat → Nat) (x y : Nat) (w : World) (hl : gs.length = n) (hr : GrRow w b gs) (hn : n ≤ 24) (hv : gs.all Gr.valid = true) (hw : SumF n P S)
    (hxy : (fin32 x && fin32 y) = true) (hf : ∀ k B W, k < n → W.cell? ⟨B, 0, none⟩ = some (.complex .f32 x y) → Calls Try.prog 69 #[(gs.getD k default).val, .pointer (some ⟨B, 0, none⟩)] W fun e w' => e = .returned (.float .f32 (P k)) ∧ Below W.heap.size W w') (hfin : fin32 (S n) = true) :
    Calls Try.prog 23 #[.agg #[.slice (some ⟨b, 0, none⟩) n c], .complex .f32 x y] w fun e w' => e = .returned (.tuple #[.float .f32 (S n), .bool true]) ∧ Below w.heap.size w w' := by
  have hVH := fun w (h : GrRow w b gs) => validHeap_any b n c gs w hl h hn
  rw [hv] at hVH
  have HVH := Lib.hid hVH
  have HXy := Lib.hid fun w => (show Calls Try.prog 52 #[.complex .f32 x y] w fun e w' => e = .returned (.bool true) ∧ Quiet w w' by rw [← hxy]; exact isFiniteComplex_any x y w)
  have HSu := Lib.hid fun (B : Nat) W (h : GrRow W b gs) (hB : W.cell? ⟨B, 0, none⟩ = some (.complex .f32 x y)) => sumOver_energy B b n c gs P S W hl h hn hw (fun k W' hk hb' => hf k B W' hk (by rw [hb'.cell (p := ⟨B, 0, none⟩) (World.block_lt_of_cell? W _ hB)]; exact hB))
  have HFi := Lib.hid fun w => finiteNumber_fin (S n) hfin w
  have hbel := ((Below.refl w.heap.size w).alloc (Nat.le_refl _) (.cells #[.slice (some ⟨b, 0, none⟩) n c] 26)).alloc (by simp) (.cells #[.complex .f32 x y] 31)
  have hB0 : Blk ((w.alloc (.cells #[.slice (some ⟨b, 0, none⟩) n c] 26)).alloc (.cells #[.complex .f32 x y] 31)) w.heap.size 26 _ := (blk_new w _ _ _ rfl).alloc _
  have hB1 : Blk ((w.alloc (.cells #[.slice (some ⟨b, 0, none⟩) n c] 26)).alloc (.cells #[.complex .f32 x y] 31)) (w.heap.size + 1) 31 _ := blk_new _ _ _ _ (by simp)
  have HR0 := Lib.hid (hr.below hbel (Nat.le_refl _))
  have HBel := Lib.hid hbel
  have HB0 := Lib.hid hB0
  have HB1 := Lib.hid hB1
  have hsc := run_store_complex Try.prog
  generalize S n = s at HSu HFi ⊢
  clear hVH hl hr hv hw hf hfin hbel hB0 hB1 hxy
  go_enter Try.func23, Try.ntmps23
  go_wp2_with fail
  refine (HVH.out _ HR0.out).mono ?_
  rintro e w1 ⟨rfl, hb⟩
  have L1 := Lib.hid (below_next HBel.out hb)
  have R1 := Lib.hid (HR0.out.below hb (Nat.le_refl _))
  have A1 := Lib.hid (blk_next HB0.out hb)
  have P1 := Lib.hid (blk_next HB1.out hb)
  have p0 := P1.out.cell 0
  have a0 := A1.out.cell 0
  clear hb
  go_wp2_with (go_at_call 52; (with_reducible refine (HXy.out _).mono ?_); rintro e w3 ⟨rfl, n3, rfl⟩)
  refine (HSu.out (w.heap.size + 1) _ (R1.out.quiet ⟨n3, rfl⟩) p0).mono ?_
  rintro e w2 ⟨rfl, hb⟩
  have L2 := Lib.hid (below_over L1.out hb)
  clear hb
  go_wp2_with (go_at_call 59; (with_reducible refine (HFi.out _).mono ?_); rintro e w4 ⟨rfl, n4, rfl⟩)
  go_ret2
  exact ⟨rfl, below_drewN L2.out _⟩
end Go.Proofs.Ytbggklhnnjikjaa

namespace Go.Proofs.Ytbggklhnnjikjaa
open Go.RowKit Fl

theorem bnd {a b : Int} {A B : Nat} (h1 : a.natAbs ≤ A) (h2 : b.natAbs ≤ B) : (a * b).natAbs ≤ A * B := by
  rw [Int.natAbs_mul]; exact Nat.mul_le_mul h1 h2
/-- an exact number that is not great -/
def ExB (p : Int) (x : Nat) (n : Int) (N : Nat) : Prop := Exa Ieee.single p x n ∧ n.natAbs ≤ N
theorem mulB {p q : Int} {x y : Nat} {a b : Int} {A B : Nat} (hx : ExB p x a A) (hy : ExB q y b B) (s : Int) (hs : p + q = s) (h1 : -70 ≤ p) (h2 : p ≤ 0) (h3 : -70 ≤ q) (h4 : q ≤ 0) (hA : A < 4000) (hB : B < 4000) : ∃ r, floatBits .mul .f32 x y = some r ∧ ExB s r (a * b) (A * B) := by
  obtain ⟨r, e, f⟩ := mul32 hx.1 hy.1 h1 h2 h3 h4 (Nat.lt_of_le_of_lt hx.2 hA) (Nat.lt_of_le_of_lt hy.2 hB)
  exact ⟨r, e, hs ▸ f, bnd hx.2 hy.2⟩
theorem addB {p : Int} {x y : Nat} {a b : Int} {A B : Nat} (hx : ExB p x a A) (hy : ExB p y b B) (h1 : -149 ≤ p) (h2 : p ≤ 0) (hA : A < 1000000) (hB : B < 1000000) : ∃ r, floatBits .add .f32 x y = some r ∧ ExB p r (a + b) (A + B) := by
  obtain ⟨r, e, f⟩ := add32 hx.1 hy.1 h1 h2 (Nat.lt_of_le_of_lt hx.2 hA) (Nat.lt_of_le_of_lt hy.2 hB)
  exact ⟨r, e, f, Nat.le_trans (Int.natAbs_add_le _ _) (Nat.add_le_add hx.2 hy.2)⟩
theorem subB {p : Int} {x y : Nat} {a b : Int} {A B : Nat} (hx : ExB p x a A) (hy : ExB p y b B) (h1 : -149 ≤ p) (h2 : p ≤ 0) (hA : A < 1000000) (hB : B < 1000000) : ∃ r, floatBits .sub .f32 x y = some r ∧ ExB p r (a - b) (A + B) := by
  obtain ⟨r, e, f⟩ := sub32 hx.1 hy.1 h1 h2 (Nat.lt_of_le_of_lt hx.2 hA) (Nat.lt_of_le_of_lt hy.2 hB)
  refine ⟨r, e, f, ?_⟩
  have := Int.natAbs_sub_le a b
  exact Nat.le_trans this (Nat.add_le_add hx.2 hy.2)
theorem ExB.down {p : Int} {x : Nat} {n : Int} {N : Nat} (h : ExB p x n N) (j : Nat) (s : Int) (hs : p - j = s) (h1 : -100 ≤ p) (h2 : p ≤ 0) (hN : N < 1000000) : ExB s x (n * ((2 ^ j : Nat) : Int)) (N * 2 ^ j) := by
  subst hs
  refine ⟨h.1.down (fits32 (Nat.lt_trans (Nat.lt_of_le_of_lt h.2 hN) (by decide)) (by omega) (by omega)) j, ?_⟩
  have := bnd h.2 (Nat.le_refl ((2 ^ j : Nat) : Int).natAbs)
  rwa [Int.natAbs_natCast] at this
theorem exb_h : ExB (-1) 1056964608 1 1 := ⟨⟨fun _ => by decide +kernel, fun h => by cases h⟩, by decide⟩
theorem exb_q : ExB (-2) 1048576000 1 1 := ⟨⟨fun _ => by decide +kernel, fun h => by cases h⟩, by decide⟩
theorem exb_z (p : Int) : ExB p 0 0 0 := ⟨exa_zero _ _, Nat.le_refl _⟩
structure GrB (g : Gr) (i : GrI) : Prop where
  ax : ExB (-2) g.ax i.x 64
  ay : ExB (-2) g.ay i.y 16
  sx : ExB (-2) g.sx i.u 4
  sy : ExB (-2) g.sy i.v 4
  r : ExB (-2) g.r i.r 6
  m : ExB (-2) g.m i.m 8
  t : ExB (-4) g.t i.t 8
  s : ExB (-1) g.s i.s 4
theorem GrQ.b {g : Gr} {i : GrI} (h : GrQ g i) : GrB g i :=
  ⟨⟨h.ax, by have := h.bx; omega⟩, ⟨h.ay, by have := h.by_; omega⟩, ⟨h.sx, by have := h.bu; omega⟩, ⟨h.sy, by have := h.bv; omega⟩, ⟨h.r, by have := h.br; omega⟩, ⟨h.m, by have := h.bm; omega⟩, ⟨h.t, by have := h.bt; omega⟩, ⟨h.s, by have := h.bs; omega⟩⟩
def turnI (i : GrI) : Int := i.m * (i.x * i.v - i.y * i.u) * ((2 ^ 2 : Nat) : Int) + i.m * i.r * i.r * i.s
theorem turnW_exa {g : Gr} {i : GrI} (h : GrQ g i) : ∃ v, TurnW g v ∧ ExB (-8) v (turnI i) 11392 := by
  have b := h.b
  obtain ⟨p1, e1, f1⟩ := mulB b.ax b.sy (-4) rfl (by decide) (by decide) (by decide) (by decide) (by decide) (by decide)
  obtain ⟨p2, e2, f2⟩ := mulB b.ay b.sx (-4) rfl (by decide) (by decide) (by decide) (by decide) (by decide) (by decide)
  obtain ⟨ar, e3, f3⟩ := subB f1 f2 (by decide) (by decide) (by decide) (by decide)
  obtain ⟨l, e4, f4⟩ := mulB b.m f3 (-6) rfl (by decide) (by decide) (by decide) (by decide) (by decide) (by decide)
  obtain ⟨q1, e5, f5⟩ := mulB exb_h b.m (-3) rfl (by decide) (by decide) (by decide) (by decide) (by decide) (by decide)
  rw [Int.one_mul] at f5
  obtain ⟨q2, e6, f6⟩ := mulB f5 b.r (-5) rfl (by decide) (by decide) (by decide) (by decide) (by decide) (by decide)
  obtain ⟨q3, e7, f7⟩ := mulB f6 b.r (-7) rfl (by decide) (by decide) (by decide) (by decide) (by decide) (by decide)
  obtain ⟨q4, e8, f8⟩ := mulB f7 b.s (-8) rfl (by decide) (by decide) (by decide) (by decide) (by decide) (by decide)
  have f4' := f4.down 2 (-8) rfl (by decide) (by decide) (by decide)
  obtain ⟨v, e9, f9⟩ := addB f4' f8 (by decide) (by decide) (by decide) (by decide)
  exact ⟨v, ⟨p1, p2, ar, l, q1, q2, q3, q4, e1, e2, e3, e4, e5, e6, e7, e8, e9⟩, f9⟩
theorem powF_exa {x y : Nat} {a b : Int} {A B : Nat} (hx : ExB (-2) x a A) (hy : ExB (-2) y b B) (hA : A ≤ 100) (hB : B ≤ 100) : ∃ r, powF (x, y) = some r ∧ ExB (-4) r (a * a + b * b) (A * A + B * B) ∧ nan32 x = false ∧ nan32 y = false := by
  have ha : a.natAbs ≤ 100 := Nat.le_trans hx.2 hA
  have hb : b.natAbs ≤ 100 := Nat.le_trans hy.2 hB
  have b1 := bnd ha ha
  have b2 := bnd hb hb
  have s1 := fits32 (p := -2) (n := a) (by omega) (by omega) (by omega)
  have s2 := fits32 (p := -2) (n := b) (by omega) (by omega) (by omega)
  have d1 := fits64 (p := -2) (n := a) (by omega) (by omega) (by omega)
  have d2 := fits64 (p := -2) (n := b) (by omega) (by omega) (by omega)
  have wx := hx.1.wide s1 d1
  have wy := hy.1.wide s2 d2
  have k1 : (a * a).natAbs < 20000 := Nat.lt_of_le_of_lt b1 (by decide)
  have k2 : (b * b).natAbs < 20000 := Nat.lt_of_le_of_lt b2 (by decide)
  have k3 : (a * a + b * b).natAbs < 40000 := by
    have := Int.natAbs_add_le (a * a) (b * b)
    generalize (a * a).natAbs = u at *
    generalize (b * b).natAbs = v at *
    omega
  obtain ⟨p, e1, f1⟩ := exa_mul he64 wx wx d1 d1 (fits64 (Nat.lt_trans k1 (by decide)) (by decide) (by decide))
  obtain ⟨q, e2, f2⟩ := exa_mul he64 wy wy d2 d2 (fits64 (Nat.lt_trans k2 (by decide)) (by decide) (by decide))
  obtain ⟨s, e3, f3⟩ := exa_add he64 f1 f2 (fits64 (Nat.lt_trans k1 (by decide)) (by decide) (by decide)) (fits64 (Nat.lt_trans k2 (by decide)) (by decide) (by decide)) (fits64 (Nat.lt_trans k3 (by decide)) (by decide) (by decide))
  obtain ⟨r, e4, f4⟩ := f3.narrow (fits64 (Nat.lt_trans k3 (by decide)) (by decide) (by decide)) (fits32 (Nat.lt_trans k3 (by decide)) (by decide) (by decide))
  refine ⟨r, ?_, ⟨f4, ?_⟩, hx.1.num s1, hy.1.num s2⟩
  · unfold powF
    show ((floatBits .mul .f64 (wide x) (wide x)).bind fun a => (floatBits .mul .f64 (wide y) (wide y)).bind fun b => (floatBits .add .f64 a b).bind fun s => floatToFloatBits .f64 s .f32) = some r
    rw [show floatBits .mul .f64 (wide x) (wide x) = some p from e1, Option.bind_some, show floatBits .mul .f64 (wide y) (wide y) = some q from e2, Option.bind_some, show floatBits .add .f64 p q = some s from e3, Option.bind_some]
    exact e4
  · exact Nat.le_trans (Int.natAbs_add_le _ _) (Nat.add_le_add (bnd hx.2 hx.2) (bnd hy.2 hy.2))
def energyI (i : GrI) : Int := i.m * (i.u * i.u + i.v * i.v) * ((2 ^ 3 : Nat) : Int) + i.m * i.r * i.r * i.s * i.s
theorem energyW_exa {g : Gr} {i : GrI} (h : GrQ g i) : ∃ pw v, powF (g.sx, g.sy) = some pw ∧ nan32 g.sx = false ∧ nan32 g.sy = false ∧ EnergyW g 0 0 pw v ∧ ExB (-10) v (energyI i) 6656 := by
  have b := h.b
  obtain ⟨pw, e0, f0, n1, n2⟩ := powF_exa b.sx b.sy (by decide) (by decide)
  obtain ⟨a1, e1, f1⟩ := mulB exb_h b.m (-3) rfl (by decide) (by decide) (by decide) (by decide) (by decide) (by decide)
  rw [Int.one_mul] at f1
  obtain ⟨mv, e2, f2⟩ := mulB f1 f0 (-7) rfl (by decide) (by decide) (by decide) (by decide) (by decide) (by decide)
  obtain ⟨q1, e3, f3⟩ := mulB exb_q b.m (-4) rfl (by decide) (by decide) (by decide) (by decide) (by decide) (by decide)
  rw [Int.one_mul] at f3
  obtain ⟨q2, e4, f4⟩ := mulB f3 b.r (-6) rfl (by decide) (by decide) (by decide) (by decide) (by decide) (by decide)
  obtain ⟨q3, e5, f5⟩ := mulB f4 b.r (-8) rfl (by decide) (by decide) (by decide) (by decide) (by decide) (by decide)
  obtain ⟨t1, e6, f6⟩ := mulB f5 b.s (-9) rfl (by decide) (by decide) (by decide) (by decide) (by decide) (by decide)
  obtain ⟨t2, e7, f7⟩ := mulB f6 b.s (-10) rfl (by decide) (by decide) (by decide) (by decide) (by decide) (by decide)
  obtain ⟨p1, e8, f8⟩ := mulB (exb_z (-2)) b.ax (-4) rfl (by decide) (by decide) (by decide) (by decide) (by decide) (by decide)
  obtain ⟨p2, e9, f9⟩ := mulB (exb_z (-2)) b.ay (-4) rfl (by decide) (by decide) (by decide) (by decide) (by decide) (by decide)
  rw [Int.zero_mul] at f8 f9
  obtain ⟨p, e10, f10⟩ := addB f8 f9 (by decide) (by decide) (by decide) (by decide)
  rw [Int.add_zero] at f10
  obtain ⟨x2, e12, f12⟩ := mulB b.m f10 (-6) rfl (by decide) (by decide) (by decide) (by decide) (by decide) (by decide)
  rw [Int.mul_zero] at f12
  have f2' := f2.down 3 (-10) rfl (by decide) (by decide) (by decide)
  obtain ⟨x1, e11, f11⟩ := addB f2' f7 (by decide) (by decide) (by decide) (by decide)
  have f12' : ExB (-10) x2 0 0 := ⟨⟨fun h => absurd rfl h, f12.1.2⟩, Nat.le_refl _⟩
  obtain ⟨v, e13, f13⟩ := subB f11 f12' (by decide) (by decide) (by decide) (by decide)
  rw [Int.sub_zero] at f13
  exact ⟨pw, v, e0, n1, n2, ⟨a1, mv, q1, q2, q3, t1, t2, p1, p2, p, x1, x2, e1, e2, e3, e4, e5, e6, e7, e8, e9, e10, e11, e12, e13⟩, f13⟩
end Go.Proofs.Ytbggklhnnjikjaa

namespace Go.Proofs.Ytbggklhnnjikjaa
open Go.RowKit Fl

/-- the grains of an order -/
def ordF (gs : List Gr) (zs : List Nat) : List Gr := zs.map fun i => gs.getD i default
/-- 24 marks in an array -/
def TArr (W : World) (g : Nat) (p : Nat → Bool) : Prop := ∃ cs : Array Value, Blk W g 85 cs ∧ cs.size = 24 ∧ ∀ j, j < 24 → cs[j]? = some (.bool (p j))
theorem TArr.set {W : World} {g k : Nat} {p : Nat → Bool} (h : TArr W g p) (hk : k < 24) : TArr (W.setCell ⟨g, k, none⟩ (.bool true)) g (fun j => decide (j = k) || p j) := by
  obtain ⟨cs, h1, h2, h3⟩ := h
  refine ⟨_, h1.set_ k _, by simp [h2], fun j hj => ?_⟩
  rw [Array.getElem?_setIfInBounds]
  by_cases e : k = j
  · subst e; simp [h2, hk]
  · rw [if_neg e, h3 j hj]; simp [show ¬ j = k by omega]
theorem TArr.far {W : World} {g : Nat} {p : Nat → Bool} (h : TArr W g p) {q : Addr} (hp : g ≠ q.block) (u : Value) : TArr (W.setCell q u) g p := by
  obtain ⟨cs, h1, h2, h3⟩ := h; exact ⟨cs, h1.far hp u, h2, h3⟩
theorem TArr.alloc {W : World} {g : Nat} {p : Nat → Bool} (h : TArr W g p) (o : Obj) : TArr (W.alloc o) g p := by
  obtain ⟨cs, h1, h2, h3⟩ := h; exact ⟨cs, h1.alloc o, h2, h3⟩
theorem TArr.drewN {W : World} {g : Nat} {p : Nat → Bool} (h : TArr W g p) (m : Nat) : TArr (W.drewN m) g p := h
theorem TArr.drew {W : World} {g : Nat} {p : Nat → Bool} (h : TArr W g p) : TArr W.drew g p := h
theorem TArr.next {W W' : World} {g : Nat} {p : Nat → Bool} (h : TArr W g p) (hb : Below W.heap.size W W') : TArr W' g p := by
  obtain ⟨cs, h1, h2, h3⟩ := h; exact ⟨cs, blk_next h1 hb, h2, h3⟩
theorem TArr.cell {W : World} {g : Nat} {p : Nat → Bool} (h : TArr W g p) {j : Nat} (hj : j < 24) : W.cell? ⟨g, j, none⟩ = some (.bool (p j)) := by
  obtain ⟨cs, h1, _, h3⟩ := h; rw [h1.cell j]; exact h3 j hj
theorem TArr.frozen {W : World} {g : Nat} {p : Nat → Bool} (h : TArr W g p) (j : Nat) : W.frozen? ⟨g, j, none⟩ = false := by
  obtain ⟨cs, h1, _, _⟩ := h; exact h1.frozen j
theorem TArr.lt {W : World} {g : Nat} {p : Nat → Bool} (h : TArr W g p) : g < W.heap.size := by
  obtain ⟨cs, h1, _, _⟩ := h; exact h1.lt
def false24 : Array Value := #[.bool false, .bool false, .bool false, .bool false, .bool false, .bool false, .bool false, .bool false, .bool false, .bool false, .bool false, .bool false, .bool false, .bool false, .bool false, .bool false, .bool false, .bool false, .bool false, .bool false, .bool false, .bool false, .bool false, .bool false]
theorem false_get : ∀ j : Fin 24, false24[j.val]? = some (.bool false) := by
  intro ⟨j, h⟩
  match j, h with
  | 0, _ => rfl
  | 1, _ => rfl
  | 2, _ => rfl
  | 3, _ => rfl
  | 4, _ => rfl
  | 5, _ => rfl
  | 6, _ => rfl
  | 7, _ => rfl
  | 8, _ => rfl
  | 9, _ => rfl
  | 10, _ => rfl
  | 11, _ => rfl
  | 12, _ => rfl
  | 13, _ => rfl
  | 14, _ => rfl
  | 15, _ => rfl
  | 16, _ => rfl
  | 17, _ => rfl
  | 18, _ => rfl
  | 19, _ => rfl
  | 20, _ => rfl
  | 21, _ => rfl
  | 22, _ => rfl
  | 23, _ => rfl
  | _ + 24, h => exact absurd h (by omega)
theorem TArr.new (W : World) (g : Nat) (h : W.heap.size = g) : TArr (W.alloc (.cells #[.bool false, .bool false, .bool false, .bool false, .bool false, .bool false, .bool false, .bool false, .bool false, .bool false, .bool false, .bool false, .bool false, .bool false, .bool false, .bool false, .bool false, .bool false, .bool false, .bool false, .bool false, .bool false, .bool false, .bool false] 85)) g (fun _ => false) :=
  ⟨false24, blk_new W _ _ _ h, rfl, fun j hj => false_get ⟨j, hj⟩⟩
structure OgInv (w W : World) (T R : Nat) (b n c : Nat) (gs : List Gr) (zs : List Nat) (k : Nat) : Prop where
  own : W.ownsRow w.heap.size 37 7 (.slice (some ⟨R, 0, none⟩) n n) n (gcells ((ordF gs zs).take k ++ List.replicate (n - k) zGr))
  t : TArr W T (fun j => decide (j ∈ zs.take k))
  h : Blk W w.heap.size 26 #[.slice (some ⟨b, 0, none⟩) n c]
  p : Blk W (w.heap.size + 1) 26 #[.slice none 0 0]
  l : Below w.heap.size w W
theorem OgInv.next {w W W' : World} {T R b n c : Nat} {gs : List Gr} {zs : List Nat} {k : Nat} (h : OgInv w W T R b n c gs zs k) (hb : Below W.heap.size W W') : OgInv w W' T R b n c gs zs k :=
  ⟨own_below h.own hb (Nat.le_refl _), h.t.next hb, blk_next h.h hb, blk_next h.p hb, below_next h.l hb⟩
theorem TArr.stored7 {W : World} {g g' : Nat} {p : Nat → Bool} (h : TArr W g p) (hne : g ≠ g') (k : Nat) (x : Gr) : TArr (stored7 W g' k x) g p := by
  obtain ⟨cs, h1, h2, h3⟩ := h; exact ⟨cs, stored7_blk h1 hne k x, h2, h3⟩
set_option maxRecDepth 100000 in
set_option maxHeartbeats 6400000 in
theorem orderGrains_of (b n c bo co : Nat) (gs : List Gr) (zs : List Nat) (w : World) (hl : gs.length = n) (hz : zs.length = n) (hr : GrRow w b gs) (ho : NRow w (some ⟨bo, 0, none⟩) n zs) (h1 : 1 ≤ n) (hn : n ≤ 24) (hv : gs.all Gr.valid = true) (hv2 : (ordF gs zs).all Gr.valid = true)
    (hlt : ∀ k, k < n → zs.getD k 0 < n) (hnd : ∀ j k, j < k → k < n → zs.getD j 0 ≠ zs.getD k 0) :
    Calls Try.prog 17 #[.agg #[.slice (some ⟨b, 0, none⟩) n c], .slice (some ⟨bo, 0, none⟩) n co] w (GaveHeap w (ordF gs zs)) := by
  obtain ⟨i0, hi, hz0, hz1, hz2⟩ := info_parts ginfo
  have hVH := fun w (h : GrRow w b gs) => validHeap_any b n c gs w hl h hn
  rw [hv] at hVH
  have HVH := Lib.hid hVH
  have hlo : (ordF gs zs).length = n := by unfold ordF; rw [List.length_map, hz]
  have HHe := Lib.hid fun w b' c' (h : GrRow w b' (ordF gs zs)) => heapOf_of b' n c' (ordF gs zs) w hlo h hn
  have HL := Lib.hid hl
  have HR := Lib.hid hr
  have HO := Lib.hid ho
  have hbl : b < w.heap.size := by
    obtain ⟨c0', _⟩ := hr 0 (by omega)
    exact World.block_lt_of_cell? w ⟨b, 0 * 7, none⟩ c0'
  have HV2 := Lib.hid hv2
  have hbel := ((Below.refl w.heap.size w).alloc (Nat.le_refl _) (.cells #[.slice (some ⟨b, 0, none⟩) n c] 26)).alloc (by simp) (.cells #[.slice none 0 0] 26)
  have hB0 : Blk ((w.alloc (.cells #[.slice (some ⟨b, 0, none⟩) n c] 26)).alloc (.cells #[.slice none 0 0] 26)) w.heap.size 26 _ := (blk_new w _ _ _ rfl).alloc _
  have hB1 : Blk ((w.alloc (.cells #[.slice (some ⟨b, 0, none⟩) n c] 26)).alloc (.cells #[.slice none 0 0] 26)) (w.heap.size + 1) 26 _ := blk_new _ _ _ _ (by simp)
  have HR0 := Lib.hid (hr.below hbel (Nat.le_refl _))
  have HBel := Lib.hid hbel
  have HB0 := Lib.hid hB0
  have HB1 := Lib.hid hB1
  clear hVH hl hr ho hv hv2 hbel hB0 hB1
  go_enter Try.func17, Try.ntmps17
  go_wp2_with fail
  refine (HVH.out _ HR0.out).mono ?_
  rintro e w1 ⟨rfl, hb⟩
  have L1 := Lib.hid (below_next HBel.out hb)
  have R1 := Lib.hid (HR0.out.below hb (Nat.le_refl _))
  have A1 := Lib.hid (blk_next HB0.out hb)
  have P1 := Lib.hid (blk_next HB1.out hb)
  have a0 := A1.out.cell 0
  have hw1 := L1.out.size
  have hne : ((n : Int) != (n : Int)) = false := by simp
  clear hb
  have T1 := Lib.hid (TArr.new w1 w1.heap.size rfl)
  have A2 := Lib.hid (A1.out.alloc (.cells #[.bool false, .bool false, .bool false, .bool false, .bool false, .bool false, .bool false, .bool false, .bool false, .bool false, .bool false, .bool false, .bool false, .bool false, .bool false, .bool false, .bool false, .bool false, .bool false, .bool false, .bool false, .bool false, .bool false, .bool false] 85))
  have P2 := Lib.hid (P1.out.alloc (.cells #[.bool false, .bool false, .bool false, .bool false, .bool false, .bool false, .bool false, .bool false, .bool false, .bool false, .bool false, .bool false, .bool false, .bool false, .bool false, .bool false, .bool false, .bool false, .bool false, .bool false, .bool false, .bool false, .bool false, .bool false] 85))
  have L2 := Lib.hid (L1.out.alloc L1.out.size (.cells #[.bool false, .bool false, .bool false, .bool false, .bool false, .bool false, .bool false, .bool false, .bool false, .bool false, .bool false, .bool false, .bool false, .bool false, .bool false, .bool false, .bool false, .bool false, .bool false, .bool false, .bool false, .bool false, .bool false, .bool false] 85))
  go_wp2_with (at_make; go_loud (refine wpList_make_full _ rfl _ _ 24 rfl w.heap.size 37 i0 _ 7 Try.underlying24 hi hz0 hz1 .i64 .i64 _ _ n rfl rfl rfl rfl (by rw [hz2]; omega) (by unfold maxLen; omega) (by simp; omega) ?_); intro w3 hown hgrow)
  rw [made_gr] at hown
  have hsz : (w1.alloc (.cells #[.bool false, .bool false, .bool false, .bool false, .bool false, .bool false, .bool false, .bool false, .bool false, .bool false, .bool false, .bool false, .bool false, .bool false, .bool false, .bool false, .bool false, .bool false, .bool false, .bool false, .bool false, .bool false, .bool false, .bool false] 85)).heap.size = w1.heap.size + 1 := by simp
  rw [hsz] at hown
  have O3 := Lib.hid (show w3.ownsRow w.heap.size 37 7 (.slice (some ⟨w1.heap.size + 1, 0, none⟩) n n) n (gcells (List.replicate n zGr)) by simpa using hown)
  have L3 := Lib.hid (L2.out.grown hgrow (by simp; omega) (by simp))
  have P3 := Lib.hid (P2.out.grown hgrow (by simp))
  have A3 := Lib.hid (A2.out.grown hgrow (by simp))
  have T3 := Lib.hid (show TArr w3 w1.heap.size (fun _ => false) by obtain ⟨cs, t1, t2, t3⟩ := T1.out; exact ⟨cs, t1.grown hgrow (by simp), t2, t3⟩)
  clear hown hgrow hsz
  have hp1 := P1.out.lt
  have ha1 := A1.out.lt
  generalize eT : w1.heap.size = T0 at *
  generalize eR : T0 + 1 = R0 at *
  go_loopw [27] (fun i wr => ∃ (W : World) (k : Nat), W = wr ∧ k ≤ n ∧ i = .int .i64 k ∧ OgInv w wr T0 R0 b n c gs zs k) (fun i _ => n - (intOf i).toNat)
  case atStart => exact ⟨_, 0, rfl, Nat.zero_le _, rfl, ⟨by simpa using O3.out, by simpa using T3.out, A3.out, P3.out, L3.out⟩⟩
  case round =>
    obtain ⟨W, k, rfl, hk, rfl, hI⟩ := hrel
    have HI := Lib.hid hI
    have hl0 := hI.l.size
    clear hI
    by_cases hlk : k < n
    · obtain ⟨bo', hbo, hoc⟩ := (HO.out.below HI.out.l (Nat.le_refl _)).2 (by omega)
      obtain rfl : bo = bo' := by simpa using hbo
      have oc := hoc k hlk
      have hq := hlt k hlk
      have hni : decide (zs.getD k 0 ∈ zs.take k) = false := by
        refine decide_eq_false (fun hm => ?_)
        obtain ⟨j, hj, e⟩ := List.getElem_of_mem hm
        have hjk : j < k := by simp at hj; omega
        refine hnd j k hjk hlk ?_
        rw [List.getElem_take] at e
        rw [List.getD_eq_getElem?_getD, List.getElem?_eq_getElem (by omega), Option.getD_some]
        exact e
      have HTk := Lib.hid (show ∀ j, decide (j ∈ zs.take (k + 1)) = (decide (j = zs.getD k 0) || decide (j ∈ zs.take k)) by
        have ht : zs.take (k + 1) = zs.take k ++ [zs.getD k 0] := by
          rw [List.take_succ_eq_append_getElem (by omega), List.getD_eq_getElem?_getD, List.getElem?_eq_getElem (by omega), Option.getD_some]
        intro j
        rw [Bool.eq_iff_iff, ht]
        simp [Or.comm])
      have HSet := Lib.hid (show ((ordF gs zs).take k ++ List.replicate (n - k) zGr).set k (gs.getD (zs.getD k 0) default) = (ordF gs zs).take (k + 1) ++ List.replicate (n - (k + 1)) zGr by
        have h1 : ((ordF gs zs).take k).length = k := by rw [List.length_take, hlo]; omega
        rw [List.set_append_right _ _ (by omega), h1, Nat.sub_self, show n - k = (n - (k + 1)) + 1 by omega, List.replicate_succ, List.set_cons_zero, List.take_succ_eq_append_getElem (by omega)]
        simp [ordF, List.getD, List.getElem?_eq_getElem (show k < zs.length by omega)])
      generalize zs.getD k 0 = q at oc hq hni HTk HSet
      have HIx := Lib.hid fun W => isIndex_yes (some ⟨b, 0, none⟩) n c q W hq hn
      have hh := HI.out.h.cell 0
      clear hoc hbo
      go_wp2_with fail
      refine (HIx.out _).mono ?_
      rintro e w4 ⟨rfl, hb⟩
      have I4 := Lib.hid (HI.out.next hb)
      have h4 := I4.out.h.cell 0
      have t4 := I4.out.t.cell (j := q) (by omega)
      rw [hni] at t4
      have tf := I4.out.t.frozen q
      obtain ⟨q0, q1, q2, q3, q4, q5, q6⟩ := (HR.out.below I4.out.l (Nat.le_refl _)) q (by rw [HL.out]; exact hq)
      have hgl : ((ordF gs zs).take k ++ List.replicate (n - k) zGr).length = n := by simp; omega
      obtain ⟨c0, c1, c2, c3, c4, c5, c6⟩ := row_of_own I4.out.own hgl k (by rw [hgl]; exact hlk)
      have f0 := I4.out.own.frozenAt (k * 7)
      have f1 := I4.out.own.frozenAt (k * 7 + 1)
      have f2 := I4.out.own.frozenAt (k * 7 + 2)
      have f3 := I4.out.own.frozenAt (k * 7 + 3)
      have f4 := I4.out.own.frozenAt (k * 7 + 4)
      have f5 := I4.out.own.frozenAt (k * 7 + 5)
      have f6 := I4.out.own.frozenAt (k * 7 + 6)
      generalize ((ordF gs zs).take k ++ List.replicate (n - k) zGr).getD k default = old at c0 c1 c2 c3 c4 c5 c6
      have HGl := Lib.hid hgl
      generalize gs.getD q default = g at q0 q1 q2 q3 q4 q5 q6 HSet
      obtain ⟨ax, ay, sx, sy, r, m, t, s, hh'⟩ := g
      dsimp only at q0 q1 q2 q3 q4 q5 q6
      have hsf := run_store_float' Try.prog
      have hsc := run_store_complex Try.prog
      have hqi : (q : Int) < 24 := by omega
      have hq0 : (0 : Int) ≤ (q : Int) := by omega
      have hqn : (q : Int) < (n : Int) := by omega
      have hTb : T0 ≠ b := by omega
      clear hb hgl oc hh
      go_wp2_with fail
      go_roundw
      case rel =>
        obtain ⟨ts, tb1, tb2, tb3⟩ := I4.out.t
        refine ⟨_, k + 1, rfl, by omega, by go_num, ?_, ?_, stored7_blk (g := R0) (I4.out.h.far (p := ⟨T0, q, none⟩) (show w.heap.size ≠ T0 by omega) (.bool true)) (by omega) k ⟨ax, ay, sx, sy, r, m, t, s, hh'⟩, stored7_blk (g := R0) (I4.out.p.far (p := ⟨T0, q, none⟩) (show w.heap.size + 1 ≠ T0 by omega) (.bool true)) (by omega) k ⟨ax, ay, sx, sy, r, m, t, s, hh'⟩, stored7_below (g := R0) (I4.out.l.setCell (p := ⟨T0, q, none⟩) (show w.heap.size ≤ T0 by omega) (.bool true)) (by omega) k ⟨ax, ay, sx, sy, r, m, t, s, hh'⟩⟩
        · rw [← HSet.out]
          exact stored7_own (own_far I4.out.own tb1 (by decide) q (.bool true)) (k := k) (by rw [HGl.out]; exact hlk) ⟨ax, ay, sx, sy, r, m, t, s, hh'⟩
        · rw [show (fun j => decide (j ∈ zs.take (k + 1))) = fun j => decide (j = q) || decide (j ∈ zs.take k) from funext HTk.out]
          exact (I4.out.t.set (by omega)).stored7 (g' := R0) (by omega) k ⟨ax, ay, sx, sy, r, m, t, s, hh'⟩
      case measure => simp [intOf]; omega
    · have hk2 : k = n := by omega
      have hown := HI.out.own
      rw [hk2, Nat.sub_self, List.replicate_zero, List.append_nil, List.take_of_length_le (by rw [hlo]; exact Nat.le_refl _)] at hown
      have hHe := HHe.out W R0 n (row_of_own hown hlo)
      rw [HV2.out] at hHe
      have HG' := Lib.hid (give_yes hHe)
      have HOw := Lib.hid hown
      clear hk2 hown hHe
      go_wp2_with fail
      refine HG'.out.mono ?_
      rintro e w4 ⟨rfl, hb⟩
      have O5 := Lib.hid (own_below HOw.out hb (Nat.le_refl _))
      have P5 := Lib.hid (blk_next HI.out.p hb)
      have L5 := Lib.hid (below_next HI.out.l hb)
      have p0 := P5.out.cell 0
      have q0 := P5.out.frozen 0
      clear hb
      go_wp2
      refine bodyPost_ret (v := .tuple #[.agg #[.slice (some ⟨R0, 0, none⟩) n n], .bool true]) (results_row_tmp Try.results17 _ _ (w.heap.size + 1) 26 #[.slice (some ⟨R0, 0, none⟩) n n] _ _ rfl (P5.out.set_ 0 _) rfl Try.underlying26 rfl (by kernel_rfl)) rfl ?_
      unfold GaveHeap
      rw [hlo]
      exact ⟨_, _, rfl, own_far O5.out P5.out neGH' 0 _, L5.out.setCell (by show w.heap.size ≤ w.heap.size + 1; omega) _⟩
end Go.Proofs.Ytbggklhnnjikjaa

namespace Go.Proofs.Ytbggklhnnjikjaa
open Go.RowKit Fl

set_option maxRecDepth 100000 in
theorem ctrOne_of (g : Gr) (p q : Nat) (w : World) (h1 : floatBits .mul .f32 g.ax g.m = some p) (h2 : floatBits .mul .f32 g.ay g.m = some q) :
    Calls Try.prog 66 #[g.val] w fun e w' => e = .returned (.complex .f32 p q) ∧ Below w.heap.size w w' := by
  obtain ⟨ax, ay, sx, sy, r, m, t, s, hh⟩ := g
  have HP := Lib.hid fun w => scale_of ax ay m p q h1 h2 w
  have hsf := run_store_float' Try.prog
  have hsc := run_store_complex Try.prog
  clear h1 h2
  unfold Gr.val
  dsimp only
  go_enter Try.func66, Try.ntmps66
  go_wp2_with (go_at_call 65; (with_reducible refine (HP.out _).mono ?_); rintro e w' ⟨rfl, rfl⟩)
  go_ret
  exact ⟨rfl, (Below.refl _ _).alloc (Nat.le_refl _) _⟩
/-- what is summed up: the parts' words, and the sums' -/
structure SumC (gs : List Gr) (n : Nat) (P Q S T : Nat → Nat) : Prop where
  s0 : S 0 = 0
  t0 : T 0 = 0
  p : ∀ k, k < n → floatBits .mul .f32 (gs.getD k default).ax (gs.getD k default).m = some (P k)
  q : ∀ k, k < n → floatBits .mul .f32 (gs.getD k default).ay (gs.getD k default).m = some (Q k)
  s : ∀ k, k < n → floatBits .add .f32 (S k) (P k) = some (S (k + 1))
  t : ∀ k, k < n → floatBits .add .f32 (T k) (Q k) = some (T (k + 1))
set_option maxRecDepth 100000 in
set_option maxHeartbeats 3200000 in
theorem sumOver_ctr (b n c : Nat) (gs : List Gr) (P Q S T : Nat → Nat) (w : World) (hl : gs.length = n) (hr : GrRow w b gs) (hn : n ≤ 24) (hw : SumC gs n P Q S T) :
    Calls Try.prog 63 #[.slice (some ⟨b, 0, none⟩) n c, .func (.func 66) #[] #[]] w fun e w' => e = .returned (.complex .f32 (S n) (T n)) ∧ Below w.heap.size w w' := by
  have HL := Lib.hid hl
  have HR := Lib.hid hr
  have HW := Lib.hid hw
  clear hl hr hw
  go_enter Try.func63, Try.ntmps63
  have hs0 := HW.out.s0
  have ht0 := HW.out.t0
  have HS0 := Lib.hid hs0
  have HT0 := Lib.hid ht0
  clear hs0 ht0
  go_wp2
  go_loopw [5, 10] (fun a i wr => ∃ (W : World) (k : Nat), W = wr ∧ k ≤ n ∧ i = .int .i64 k ∧ a = .complex .f32 (S k) (T k) ∧ Below w.heap.size w wr) (fun _ i _ => n - (intOf i).toNat)
  case atStart => exact ⟨_, 0, rfl, Nat.zero_le _, rfl, by rw [HS0.out, HT0.out], Below.refl _ _⟩
  case round =>
    obtain ⟨W, k, rfl, hk, rfl, rfl, hb⟩ := hrel
    have L := Lib.hid hb
    have hl0 := hb.size
    by_cases hlt : k < n
    · have hkl : k < gs.length := by rw [HL.out]; exact hlt
      obtain ⟨h0, h1', h2, h3, h4, h5, h6⟩ := (HR.out.below hb (Nat.le_refl _)) k hkl
      have HC := Lib.hid fun W' => ctrOne_of (gs.getD k default) (P k) (Q k) W' (HW.out.p k hlt) (HW.out.q k hlt)
      have ha := fun w => run_csum (P := Try.prog) .add (Or.inl rfl) 31 (S k) (T k) (P k) (Q k) (S (k + 1)) (T (k + 1)) (HW.out.s k hlt) (HW.out.t k hlt) w
      generalize gs.getD k default = g at h0 h1' h2 h3 h4 h5 h6 HC
      unfold Gr.val at HC
      have HL3 := Lib.hid (hb.alloc hl0 (.cells #[.complex .f32 g.ax g.ay, .complex .f32 g.sx g.sy, .float .f32 g.r, .float .f32 g.m, .float .f32 g.t, .float .f32 g.s, .bool g.h] 37))
      have hsf := run_store_float' Try.prog
      have hsc := run_store_complex Try.prog
      clear hkl hb
      go_wp2_with fail
      refine (HC.out _).mono ?_
      rintro e w4 ⟨rfl, hb⟩
      have L4 := Lib.hid (below_next HL3.out hb)
      clear hb h0 h1' h2 h3 h4 h5 h6
      go_wp2
      go_roundw
      case rel => exact ⟨_, k + 1, rfl, by omega, by go_num, rfl, L4.out⟩
      case measure => simp [intOf]; omega
    · have hk2 : k = n := by omega
      subst hk2
      clear hb
      go_wp2
      go_ret
      exact ⟨rfl, L.out⟩
set_option maxRecDepth 100000 in
set_option maxHeartbeats 3200000 in
theorem centreOf_of (b n c : Nat) (gs : List Gr) (P Q S T M : Nat → Nat) (R I : Nat) (w : World) (hl : gs.length = n) (hr : GrRow w b gs) (hn : n ≤ 24) (hv : gs.all Gr.valid = true) (hw : SumC gs n P Q S T) (hm : SumF n (fun k => (gs.getD k default).m) M) (hq : QuoW (S n) (T n) (M n) 0 R I) (hf : (fin32 R && fin32 I) = true) :
    Calls Try.prog 21 #[.agg #[.slice (some ⟨b, 0, none⟩) n c]] w fun e w' => e = .returned (.tuple #[.complex .f32 R I, .bool true]) ∧ Below w.heap.size w w' := by
  have hVH := fun w (h : GrRow w b gs) => validHeap_any b n c gs w hl h hn
  rw [hv] at hVH
  have HVH := Lib.hid hVH
  have HSu := Lib.hid fun w (h : GrRow w b gs) => sumOver_ctr b n c gs P Q S T w hl h hn hw
  have HSm := Lib.hid fun w (h : GrRow w b gs) => sumOver_mass b n c gs _ M w hl h hn hm (fun k W hk => massOf_of (gs.getD k default) W)
  have HFi := Lib.hid fun w => finiteComplex_yes R I hf w
  have HQu := Lib.hid fun w => quotient_of (S n) (T n) (M n) 0 R I w hq
  have hbel := (Below.refl w.heap.size w).alloc (Nat.le_refl _) (.cells #[.slice (some ⟨b, 0, none⟩) n c] 26)
  have hB0 : Blk (w.alloc (.cells #[.slice (some ⟨b, 0, none⟩) n c] 26)) w.heap.size 26 _ := blk_new w _ _ _ rfl
  have HR0 := Lib.hid (hr.below hbel (Nat.le_refl _))
  have HBel := Lib.hid hbel
  have HB0 := Lib.hid hB0
  generalize S n = s at HSu HQu
  generalize T n = t at HSu HQu
  generalize M n = m at HSm HQu
  clear hVH hl hr hv hw hm hq hf hbel hB0
  go_enter Try.func21, Try.ntmps21
  go_wp2_with fail
  refine (HVH.out _ HR0.out).mono ?_
  rintro e w1 ⟨rfl, hb⟩
  have L1 := Lib.hid (below_next HBel.out hb)
  have R1 := Lib.hid (HR0.out.below hb (Nat.le_refl _))
  have A1 := Lib.hid (blk_next HB0.out hb)
  have a0 := A1.out.cell 0
  clear hb
  go_wp2_with fail
  refine (HSu.out _ R1.out).mono ?_
  rintro e w2 ⟨rfl, hb⟩
  have L2 := Lib.hid (below_next L1.out hb)
  have R2 := Lib.hid (R1.out.below hb (Nat.le_refl _))
  have a2 := (blk_next A1.out hb).cell 0
  clear hb a0
  go_wp2_with fail
  refine (HSm.out _ R2.out).mono ?_
  rintro e w3 ⟨rfl, hb⟩
  have L3 := Lib.hid (below_next L2.out hb)
  clear hb a2
  go_wp2_with (first | (go_at_call 67; (with_reducible refine (HQu.out _).mono ?_); rintro e w' ⟨rfl, rfl⟩) | (go_at_call 62; (with_reducible refine (HFi.out _).mono ?_); rintro e w4 ⟨rfl, n4, rfl⟩))
  go_ret2
  exact ⟨rfl, below_drewN L3.out _⟩
end Go.Proofs.Ytbggklhnnjikjaa
