/- Grains and rows of grains on the program's side: valid or not; a row is made, and given if it is valid. -/
import Derived.Test.YtljcgfgkfkoeeaaGreatDoorGrw
namespace Go.Proofs.YtljcgfgkfkoeeaaGreatDoor
open Go.RowKit Fl

theorem allf_take (zs : List Nat) (k : Nat) (h : k < zs.length) : (zs.take (k + 1)).all fin32 = ((zs.take k).all fin32 && fin32 (zs.getD k 0)) := by
  rw [List.take_succ_eq_append_getElem h, List.all_append]
  simp [List.getD, List.getElem?_eq_getElem h]
theorem allf_no (zs : List Nat) (k : Nat) (h : k < zs.length) (hv : fin32 (zs.getD k 0) = false) : zs.all fin32 = false := by
  rw [List.all_eq_false]
  refine ⟨zs[k], List.getElem_mem h, ?_⟩
  simp only [List.getD, List.getElem?_eq_getElem h, Option.getD_some] at hv
  simp [hv]
set_option maxHeartbeats 800000 in
theorem areFinite_any (b n c : Nat) (zs : List Nat) (w : World) (hr : FRow w (some ⟨b, 0, none⟩) n zs) (hn : n ≤ 1048576) :
    Calls Tryz.prog 54 #[.slice (some ⟨b, 0, none⟩) n c] w fun e w' => e = .returned (.bool (zs.all fin32)) ∧ Quiet w w' := by
  have HL := Lib.hid hr.len
  have HR := Lib.hid hr
  clear hr
  go_enter Tryz.func54, Tryz.ntmps54
  go_wp2
  go_loopw [7, 4] (fun i _ wr => ∃ k : Nat, k ≤ n ∧ i = .int .i64 k ∧ Hid ((zs.take k).all fin32 = true) ∧ Quiet w wr) (fun i _ _ => n - (intOf i).toNat)
  case atStart => exact ⟨0, Nat.zero_le _, rfl, rfl, Quiet.refl _⟩
  case round =>
    obtain ⟨k, hk, rfl, hv, m, rfl⟩ := hrel
    by_cases hlt : k < n
    · have hx := HR.out.cell _ rfl k hlt
      have e1 : (⟨b, 0, none⟩ : Addr).add k = ⟨b, k, none⟩ := by unfold Addr.add; split <;> simp_all
      rw [e1] at hx
      clear e1
      have HT := Lib.hid (allf_take zs k (by rw [HL.out]; omega))
      have HF := Lib.hid (allf_no zs k (by rw [HL.out]; omega))
      generalize zs.getD k 0 = z at hx HT HF
      have HC := Lib.hid fun w' => isFinite_any z w'
      cases hb : fin32 z
      · rw [hb] at HC HF
        have HF' := Lib.hid (HF.out rfl)
        clear hb HF HT
        go_wp2_with (go_at_call 63; go_loud (refine (HC.out _).mono ?_); rintro e w1 ⟨rfl, m1, rfl⟩)
        go_ret
        exact ⟨by rw [HF'.out]; rfl, _, rfl⟩
      · rw [hb] at HC HT
        have HT' := Lib.hid (show (zs.take (k + 1)).all fin32 = true by rw [HT.out, hv.out]; rfl)
        clear hb HF HT hv
        go_wp2_with (go_at_call 63; go_loud (refine (HC.out _).mono ?_); rintro e w1 ⟨rfl, m1, rfl⟩)
        go_roundw
        case rel => exact ⟨k + 1, by omega, by go_num, HT', _, rfl⟩
        case measure => simp [intOf]; omega
    · have HV := Lib.hid (show zs.all fin32 = true by have := hv.out; rwa [List.take_of_length_le (by rw [HL.out]; omega)] at this)
      clear hv
      go_wp2
      go_ret
      exact ⟨by rw [HV.out]; rfl, _, rfl⟩
theorem frow_four (w : World) (t : TypeId) (a b c d : Nat) : FRow (w.alloc (.cells #[.float .f32 a, .float .f32 b, .float .f32 c, .float .f32 d] t)) (some ⟨w.heap.size, 0, none⟩) 4 [a, b, c, d] :=
  ⟨rfl, fun _ => ⟨_, rfl⟩, fun x hx i hi => by
    obtain rfl := Option.some.inj hx
    have h := (World.ownsRow_lit (base := 0) (e := t) (size := 1) w #[.float .f32 a, .float .f32 b, .float .f32 c, .float .f32 d] 4 (Nat.zero_le _) (by decide) rfl).cells rfl i (.float .f32 ([a, b, c, d].getD i 0))
    refine h ?_
    match i, hi with
    | 0, _ => rfl
    | 1, _ => rfl
    | 2, _ => rfl
    | 3, _ => rfl⟩
theorem frow_four' (w : World) (t : TypeId) (a b c d g : Nat) (hg : w.heap.size = g) : FRow (w.alloc (.cells #[.float .f32 a, .float .f32 b, .float .f32 c, .float .f32 d] t)) (some ⟨g, 0, none⟩) 4 [a, b, c, d] := by
  subst hg; exact frow_four w t a b c d
theorem size_one (w : World) (o : Obj) (k : Nat) : ((w.alloc o).drewN k).heap.size = w.heap.size + 1 := by show (w.alloc o).heap.size = _; simp
theorem Gr.valid_eq2 (g : Gr) : g.valid = ((fin32 g.ax && fin32 g.ay) && ((fin32 g.sx && fin32 g.sy) && ([g.r, g.m, g.t, g.s].all fin32 && (pos32 g.r && pos32 g.m)))) := by
  have : [g.r, g.m, g.t, g.s].all fin32 = (fin32 g.r && (fin32 g.m && (fin32 g.t && fin32 g.s))) := by simp
  rw [this]
  unfold Gr.valid
  generalize fin32 g.ax = a; generalize fin32 g.ay = b; generalize fin32 g.sx = c; generalize fin32 g.sy = d
  generalize fin32 g.r = e; generalize fin32 g.m = f; generalize fin32 g.t = h; generalize fin32 g.s = i
  generalize pos32 g.r = j; generalize pos32 g.m = k
  revert a b c d e f h i j k; decide
set_option maxHeartbeats 1600000 in
theorem validGrain_any (g : Gr) (w : World) :
    Calls Tryz.prog 37 #[g.val] w fun e w' => e = .returned (.bool g.valid) ∧ Below w.heap.size w w' := by
  rw [g.valid_eq2]
  obtain ⟨ax, ay, sx, sy, r, m, t, s, h⟩ := g
  unfold Gr.val
  dsimp only
  have HA := fun w => isFiniteComplex_any ax ay w
  have HB := fun w => isFiniteComplex_any sx sy w
  have HC := fun w b c hr => areFinite_any b 4 c [r, m, t, s] w hr (by decide)
  have hD : (FloatKind.f32.format.order r 0 == some .gt) = pos32 r := rfl
  have hE : (FloatKind.f32.format.order m 0 == some .gt) = pos32 m := rfl
  have hbel := (Below.refl w.heap.size w).alloc (Nat.le_refl _) (.cells #[.complex .f32 ax ay, .complex .f32 sx sy, .float .f32 r, .float .f32 m, .float .f32 t, .float .f32 s, .bool h] 39)
  have HBel := Lib.hid hbel
  clear hbel
  generalize (fin32 ax && fin32 ay) = A at HA ⊢
  generalize (fin32 sx && fin32 sy) = B at HB ⊢
  generalize ([r, m, t, s].all fin32) = C at HC ⊢
  generalize pos32 r = D at hD ⊢
  generalize pos32 m = E at hE ⊢
  have HA' := Lib.hid HA
  have HB' := Lib.hid HB
  have HC' := Lib.hid HC
  clear HA HB HC
  have hcase : A = false ∨ A = true ∧ (B = false ∨ B = true ∧ (C = false ∨ C = true ∧ (D = false ∨ D = true))) := by
    clear HA' HB' HC' hD hE
    cases A <;> cases B <;> cases C <;> cases D <;> simp
  rcases hcase with rfl | ⟨rfl, rfl | ⟨rfl, rfl | ⟨rfl, rfl | rfl⟩⟩⟩
  all_goals
    go_enter Tryz.func37, Tryz.ntmps37
    go_wp2_with (first | (go_at_call 53; (with_reducible refine (HA'.out _).mono ?_); rintro e w1 ⟨rfl, n1, rfl⟩) | (go_at_call 53; (with_reducible refine (HB'.out _).mono ?_); rintro e w2 ⟨rfl, n2, rfl⟩) | (go_at_call 54; ((with_reducible refine (HC'.out _ _ _ (frow_four' ((w.alloc _).drewN _) _ _ _ _ _ _ (size_one w _ _))).mono ?_)); rintro e w3 ⟨rfl, n3, rfl⟩))
    go_ret
    first | exact ⟨rfl, below_drewN ((below_drewN HBel.out _).alloc (by simp) _) _⟩ | exact ⟨rfl, below_drewN HBel.out _⟩

theorem run_store_complex (P : Program) (w : World) (a : Addr) (k : FloatKind) (x y : Nat) (m : Mode) : (store a (.complex k x y) m).run P w = stored P w a (.complex k x y) m := run_store P w a _ m rfl
theorem run_store_float' (P : Program) (w : World) (a : Addr) (k : FloatKind) (b : Nat) (m : Mode) : (store a (.float k b) m).run P w = stored P w a (.float k b) m := run_store P w a _ m rfl
set_option maxHeartbeats 1600000 in
theorem validHeap_any (b n c : Nat) (gs : List Gr) (w : World) (hl : gs.length = n) (hr : GrRow w b gs) (hn : n ≤ 24) :
    Calls Tryz.prog 30 #[.agg #[.slice (some ⟨b, 0, none⟩) n c]] w fun e w' => e = .returned (.bool (gs.all Gr.valid)) ∧ Below w.heap.size w w' := by
  have hbel := (Below.refl w.heap.size w).alloc (Nat.le_refl _) (.cells #[.slice (some ⟨b, 0, none⟩) n c] 24)
  have HBel := Lib.hid hbel
  have HL := Lib.hid hl
  have HR := Lib.hid hr
  clear hbel hl hr
  go_enter Tryz.func30, Tryz.ntmps30
  go_wp2
  go_loopw [12, 4] (fun i _ wr => ∃ k : Nat, k ≤ n ∧ i = .int .i64 k ∧ Hid ((gs.take k).all Gr.valid = true) ∧ Below w.heap.size w wr) (fun i _ _ => n - (intOf i).toNat)
  case atStart => exact ⟨0, Nat.zero_le _, rfl, rfl, HBel.out⟩
  case round =>
    obtain ⟨k, hk, rfl, hv, hb⟩ := hrel
    by_cases hlt : k < n
    · have HG := Lib.hid (HR.out k (by rw [HL.out]; omega))
      have HT := Lib.hid (all_take gs k (by rw [HL.out]; omega))
      have HF := Lib.hid (all_no gs k (by rw [HL.out]; omega))
      generalize gs.getD k default = g at HG HT HF
      obtain ⟨h0, h1, h2, h3, h4, h5, h6⟩ := HG.out.below hb (Nat.le_refl _)
      have HC := fun w' => (show Calls Tryz.prog 37 #[.agg #[.complex .f32 g.ax g.ay, .complex .f32 g.sx g.sy, .float .f32 g.r, .float .f32 g.m, .float .f32 g.t, .float .f32 g.s, .bool g.h]] w' fun e w'' => e = .returned (.bool g.valid) ∧ Below w'.heap.size w' w'' from validGrain_any g w')
      have hsf := run_store_float' Tryz.prog
      have hsc := run_store_complex Tryz.prog
      have HBa := Lib.hid (hb.alloc hb.size (.cells #[.complex .f32 g.ax g.ay, .complex .f32 g.sx g.sy, .float .f32 g.r, .float .f32 g.m, .float .f32 g.t, .float .f32 g.s, .bool g.h] 39))
      cases hgv : g.valid
      · rw [hgv] at HC HF
        have HF' := Lib.hid (HF.out rfl)
        have HC' := Lib.hid HC
        clear HC hgv HF HT HG hb hv
        go_wp2_with (go_at_call 37; ((with_reducible refine (HC'.out _).mono ?_); rintro e w1 ⟨rfl, hb1⟩))
        go_ret
        exact ⟨by rw [HF'.out]; rfl, below_next HBa.out hb1⟩
      · rw [hgv] at HC HT
        have HT' := Lib.hid (show (gs.take (k + 1)).all Gr.valid = true by rw [HT.out, hv.out]; rfl)
        have HC' := Lib.hid HC
        clear HC hgv HF HT HG hb hv
        go_wp2_with (go_at_call 37; ((with_reducible refine (HC'.out _).mono ?_); rintro e w1 ⟨rfl, hb1⟩))
        go_roundw
        case rel => exact ⟨k + 1, by omega, by go_num, HT', below_next HBa.out hb1⟩
        case measure => simp [intOf]; omega
    · have HV := Lib.hid (show gs.all Gr.valid = true by have := hv.out; rwa [List.take_of_length_le (by rw [HL.out]; omega)] at this)
      have HB' := Lib.hid hb
      clear hv hb
      go_wp2
      go_ret
      exact ⟨by rw [HV.out]; rfl, HB'.out⟩
set_option maxHeartbeats 800000 in
theorem heapOf_of (b n c : Nat) (gs : List Gr) (w : World) (hl : gs.length = n) (hr : GrRow w b gs) (hn : n ≤ 24) :
    Calls Tryz.prog 20 #[.slice (some ⟨b, 0, none⟩) n c] w fun e w' => e = gave b n c (gs.all Gr.valid) ∧ Below w.heap.size w w' := by
  have hbel := ((Below.refl w.heap.size w).alloc (Nat.le_refl _) (.cells #[.slice none 0 0] 24)).alloc (by simp) (.cells #[.slice (some ⟨b, 0, none⟩) n c] 24)
  have hB0 : Blk ((w.alloc (.cells #[.slice none 0 0] 24)).alloc (.cells #[.slice (some ⟨b, 0, none⟩) n c] 24)) w.heap.size 24 _ := (blk_new w _ _ _ rfl).alloc _
  have hB1 : Blk ((w.alloc (.cells #[.slice none 0 0] 24)).alloc (.cells #[.slice (some ⟨b, 0, none⟩) n c] 24)) (w.heap.size + 1) 24 _ := blk_new _ _ _ _ (by simp)
  have HC := validHeap_any b n c gs _ hl (hr.below hbel (Nat.le_refl _)) hn
  have HB := Lib.hid hbel
  have HB0 := Lib.hid hB0
  have HB1 := Lib.hid hB1
  generalize gs.all Gr.valid = ok at HC ⊢
  have HC' := Lib.hid HC
  clear HC hl hr hbel hB0 hB1
  cases ok
  · go_enter Tryz.func20, Tryz.ntmps20
    go_wp2_with (go_at_call 30; go_loud (refine HC'.out.mono ?_); rintro e w1 ⟨rfl, hb1⟩; have hc0 := (blk_next HB0.out hb1).cell 0; have hf0 := (blk_next HB0.out hb1).frozen 0; have hc1 := (blk_next HB1.out hb1).cell 0; have HBx := Lib.hid (blk_next HB0.out hb1); have HBe := Lib.hid (below_next HB.out hb1); clear hb1)
    refine bodyPost_ret (v := .tuple #[.agg #[.slice none 0 0], .bool false]) (results_row_tmp Tryz.results20 _ _ w.heap.size 24 #[.slice none 0 0] _ _ rfl (HBx.out.set_ 0 _) rfl Tryz.underlying24 rfl (by kernel_rfl)) rfl ⟨rfl, HBe.out.setCell (Nat.le_refl _) _⟩
  · go_enter Tryz.func20, Tryz.ntmps20
    go_wp2_with (go_at_call 30; go_loud (refine HC'.out.mono ?_); rintro e w1 ⟨rfl, hb1⟩; have hc0 := (blk_next HB0.out hb1).cell 0; have hf0 := (blk_next HB0.out hb1).frozen 0; have hc1 := (blk_next HB1.out hb1).cell 0; have HBx := Lib.hid (blk_next HB0.out hb1); have HBe := Lib.hid (below_next HB.out hb1); clear hb1)
    refine bodyPost_ret (v := .tuple #[.agg #[.slice (some ⟨b, 0, none⟩) n c], .bool true]) (results_row_tmp Tryz.results20 _ _ w.heap.size 24 #[.slice (some ⟨b, 0, none⟩) n c] _ _ rfl (HBx.out.set_ 0 _) rfl Tryz.underlying24 rfl (by kernel_rfl)) rfl ⟨rfl, HBe.out.setCell (Nat.le_refl _) _⟩

def zGr : Gr := ⟨0, 0, 0, 0, 0, 0, 0, 0, false⟩
theorem gcells_set : ∀ (gs : List Gr) (i : Nat) (g : Gr), i < gs.length →
    (((((((gcells gs).set (i * 7) (.complex .f32 g.ax g.ay)).set (i * 7 + 1) (.complex .f32 g.sx g.sy)).set (i * 7 + 2) (.float .f32 g.r)).set (i * 7 + 3) (.float .f32 g.m)).set (i * 7 + 4) (.float .f32 g.t)).set (i * 7 + 5) (.float .f32 g.s)).set (i * 7 + 6) (.bool g.h) = gcells (gs.set i g)
  | [], i, g, h => by simp at h
  | x :: gs, 0, g, _ => by simp [gcells, Gr.cells]
  | x :: gs, i + 1, g, h => by
    have ih := gcells_set gs i g (by simpa using h)
    have e : gcells (x :: gs) = x.cells ++ gcells gs := by simp [gcells]
    have e2 : gcells ((x :: gs).set (i + 1) g) = x.cells ++ gcells (gs.set i g) := by simp [gcells]
    rw [e, e2, ← ih]
    have hl : x.cells.length = 7 := rfl
    have a0 : (i + 1) * 7 - 7 = i * 7 := by omega
    have a1 : (i + 1) * 7 + 1 - 7 = i * 7 + 1 := by omega
    have a2 : (i + 1) * 7 + 2 - 7 = i * 7 + 2 := by omega
    have a3 : (i + 1) * 7 + 3 - 7 = i * 7 + 3 := by omega
    have a4 : (i + 1) * 7 + 4 - 7 = i * 7 + 4 := by omega
    have a5 : (i + 1) * 7 + 5 - 7 = i * 7 + 5 := by omega
    have a6 : (i + 1) * 7 + 6 - 7 = i * 7 + 6 := by omega
    rw [List.set_append_right _ _ (by omega), List.set_append_right _ _ (by omega), List.set_append_right _ _ (by omega), List.set_append_right _ _ (by omega), List.set_append_right _ _ (by omega), List.set_append_right _ _ (by omega), List.set_append_right _ _ (by omega), hl, a0, a1, a2, a3, a4, a5, a6]
theorem made_get (z : Array Value) (n j : Nat) (h : j < n) : (madeCells z n).toList[j]? = some (z[j % z.size]!) := by
  unfold madeCells
  simp [h]
theorem made_gr (n : Nat) : (madeCells (Value.agg #[.complex .f32 0 0, .complex .f32 0 0, .float .f32 0, .float .f32 0, .float .f32 0, .float .f32 0, .bool false]).cells (n * 7)).toList = gcells (List.replicate n zGr) := by
  have hl : (gcells (List.replicate n zGr)).length = n * 7 := by rw [gcells_length, List.length_replicate]
  apply List.ext_getElem?
  intro j
  by_cases hj : j < n * 7
  · have hd : j / 7 < n := by omega
    have hm : j % 7 < 7 := Nat.mod_lt _ (by decide)
    have h := gcells_at (List.replicate n zGr) (j / 7) (j % 7) (by simpa using hd) hm
    have e : j / 7 * 7 + j % 7 = j := by omega
    have ez : (List.replicate n zGr).getD (j / 7) default = zGr := by
      rw [List.getD_eq_getElem?_getD, List.getElem?_replicate, if_pos hd]; rfl
    rw [e, ez] at h
    rw [h, made_get _ _ _ hj]
    show some (#[Value.complex .f32 0 0, .complex .f32 0 0, .float .f32 0, .float .f32 0, .float .f32 0, .float .f32 0, .bool false][j % 7]!) = _
    generalize j % 7 = q at *
    match q, hm with
    | 0, _ => rfl
    | 1, _ => rfl
    | 2, _ => rfl
    | 3, _ => rfl
    | 4, _ => rfl
    | 5, _ => rfl
    | 6, _ => rfl
  · have h2 : (gcells (List.replicate n zGr))[j]? = none := List.getElem?_eq_none (by rw [hl]; omega)
    rw [h2]
    exact List.getElem?_eq_none (by rw [Array.length_toList, size_madeCells]; omega)

def stored7 (w : World) (g k : Nat) (x : Gr) : World := (((((((w.setCell ⟨g, k * 7, none⟩ (.complex .f32 x.ax x.ay)).setCell ⟨g, k * 7 + 1, none⟩ (.complex .f32 x.sx x.sy)).setCell ⟨g, k * 7 + 2, none⟩ (.float .f32 x.r)).setCell ⟨g, k * 7 + 3, none⟩ (.float .f32 x.m)).setCell ⟨g, k * 7 + 4, none⟩ (.float .f32 x.t)).setCell ⟨g, k * 7 + 5, none⟩ (.float .f32 x.s)).setCell ⟨g, k * 7 + 6, none⟩ (.bool x.h))
theorem gaveRow_no {w w' : World} {gs : List Gr} {ok : Bool} (h : ok = false) (hb : Below w.heap.size w w') : GaveRow w gs ok (.returned (.tuple #[.agg #[.slice none 0 0], .bool false])) w' := by
  subst h; exact ⟨rfl, hb⟩
theorem gaveRow_yes {w w' : World} {gs : List Gr} {ok : Bool} {b c n : Nat} (h : ok = true) (hl : gs.length = n) (ho : w'.ownsRow w.heap.size 39 7 (.slice (some ⟨b, 0, none⟩) n c) n (gcells gs)) (hb : Below w.heap.size w w') : GaveRow w gs ok (.returned (.tuple #[.agg #[.slice (some ⟨b, 0, none⟩) n c], .bool true])) w' := by
  subst h; subst hl; exact ⟨b, c, rfl, ho, hb⟩
theorem stored7_own {w : World} {base e g n c : Nat} {gs : List Gr} {k : Nat} (h : w.ownsRow base e 7 (.slice (some ⟨g, 0, none⟩) n c) n (gcells gs)) (hk : k < gs.length) (x : Gr) : (stored7 w g k x).ownsRow base e 7 (.slice (some ⟨g, 0, none⟩) n c) n (gcells (gs.set k x)) := by
  rw [← gcells_set gs k x hk]
  exact ((((((((h.stored _ _).1.stored _ _).1.stored _ _).1.stored _ _).1.stored _ _).1.stored _ _).1.stored _ _).1)
theorem stored7_blk {w : World} {g g' : Nat} {t : TypeId} {cs : Array Value} (h : Blk w g' t cs) (hne : g' ≠ g) (k : Nat) (x : Gr) : Blk (stored7 w g k x) g' t cs :=
  ((((((h.far hne _).far hne _).far hne _).far hne _).far hne _).far hne _).far hne _
theorem stored7_below {w0 w : World} {B g : Nat} (h : Below B w0 w) (hg : B ≤ g) (k : Nat) (x : Gr) : Below B w0 (stored7 w g k x) :=
  ((((((h.setCell hg _).setCell hg _).setCell hg _).setCell hg _).setCell hg _).setCell hg _).setCell hg _
theorem set_row (r m : Nat) (vs : List Nat) (n k x : Nat) (hl : vs.length = k) (hk : k < n) : (vs.map (mkGr r m) ++ List.replicate (n - k) zGr).set k (mkGr r m x) = (vs ++ [x]).map (mkGr r m) ++ List.replicate (n - (k + 1)) zGr := by
  rw [List.set_append_right _ _ (by simp [hl]), List.length_map, hl, Nat.sub_self, show n - k = (n - (k + 1)) + 1 by omega, List.replicate_succ, List.set_cons_zero]
  simp
end Go.Proofs.YtljcgfgkfkoeeaaGreatDoor
