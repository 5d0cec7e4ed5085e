/- Walls as cells: rows of walls; two lists of walls compared, marked, the marks found again. -/
import Derived.Test.YtljcgfgkfkoeeaaGrm
namespace Go.Proofs.Ytljcgfgkfkoeeaa
open Go.RowKit Fl

structure Wl where
  fx : Nat
  fy : Nat
  tx : Nat
  ty : Nat
  sx : Nat
  sy : Nat
def Wl.cells (g : Wl) : List Value := [.complex .f32 g.fx g.fy, .complex .f32 g.tx g.ty, .complex .f32 g.sx g.sy]
def Wl.val (g : Wl) : Value := .agg #[.complex .f32 g.fx g.fy, .complex .f32 g.tx g.ty, .complex .f32 g.sx g.sy]
instance : Inhabited Wl := ⟨⟨0, 0, 0, 0, 0, 0⟩⟩
/-- no number of a wall is a not-a-number -/
def Wl.nums (g : Wl) : Bool := !nan32 g.fx && !nan32 g.fy && !nan32 g.tx && !nan32 g.ty && !nan32 g.sx && !nan32 g.sy
structure WlAt (w : World) (b o : Nat) (g : Wl) : Prop where
  c0 : w.cell? ⟨b, o, none⟩ = some (.complex .f32 g.fx g.fy)
  c1 : w.cell? ⟨b, o + 1, none⟩ = some (.complex .f32 g.tx g.ty)
  c2 : w.cell? ⟨b, o + 2, none⟩ = some (.complex .f32 g.sx g.sy)
theorem WlAt.quiet {w w' : World} {b o : Nat} {g : Wl} (h : WlAt w b o g) (hq : Quiet w w') : WlAt w' b o g := by
  obtain ⟨m, rfl⟩ := hq; exact ⟨h.c0, h.c1, h.c2⟩
theorem WlAt.below {w w' : World} {b o : Nat} {g : Wl} (h : WlAt w b o g) {B : Nat} (hb : Below B w w') (hB : w.heap.size ≤ B) : WlAt w' b o g := by
  have key : ∀ {p : Addr} {v : Value}, w.cell? p = some v → w'.cell? p = some v := fun {p v} hc => by
    rw [hb.cell (p := p) (Nat.lt_of_lt_of_le (World.block_lt_of_cell? w _ hc) hB)]; exact hc
  exact ⟨key h.c0, key h.c1, key h.c2⟩
def WRow (w : World) (b : Nat) (gs : List Wl) : Prop := ∀ i, i < gs.length → WlAt w b (i * 3) (gs.getD i default)
theorem WRow.quiet {w w' : World} {b : Nat} {gs : List Wl} (h : WRow w b gs) (hq : Quiet w w') : WRow w' b gs := fun i hi => (h i hi).quiet hq
theorem WRow.below {w w' : World} {b : Nat} {gs : List Wl} (h : WRow w b gs) {B : Nat} (hb : Below B w w') (hB : w.heap.size ≤ B) : WRow w' b gs := fun i hi => (h i hi).below hb hB
theorem WRow.block {w w' : World} {b B : Nat} {gs : List Wl} (h : WRow w b gs) (hb : Below B w w') (hB : b < B) : WRow w' b gs := by
  intro i hi
  have key : ∀ {o : Nat} {v : Value}, w.cell? ⟨b, o, none⟩ = some v → w'.cell? ⟨b, o, none⟩ = some v := fun {o v} hc => by
    rw [hb.cell (p := ⟨b, o, none⟩) hB]; exact hc
  obtain ⟨c0, c1, c2⟩ := h i hi
  exact ⟨key c0, key c1, key c2⟩
def wcells (gs : List Wl) : List Value := gs.flatMap Wl.cells
theorem wcells_length : ∀ gs : List Wl, (wcells gs).length = gs.length * 3
  | [] => rfl
  | g :: gs => by
    have := wcells_length gs
    unfold wcells at this ⊢
    rw [List.flatMap_cons, List.length_append, this, List.length_cons]
    have : g.cells.length = 3 := rfl
    omega
theorem wcells_at : ∀ (gs : List Wl) (i j : Nat), i < gs.length → j < 3 → (wcells gs)[i * 3 + j]? = (gs.getD i default).cells[j]?
  | [], i, j, hi, _ => by simp at hi
  | g :: gs, 0, j, _, hj => by
    unfold wcells
    rw [List.flatMap_cons, List.getElem?_append_left (by show 0 * 3 + j < 3; omega)]
    simp
  | g :: gs, i + 1, j, hi, hj => by
    have ih := wcells_at gs i j (by simpa using hi) hj
    unfold wcells at ih ⊢
    rw [List.flatMap_cons, List.getElem?_append_right (by show 3 ≤ _; omega)]
    have e : (i + 1) * 3 + j - g.cells.length = i * 3 + j := by show (i + 1) * 3 + j - 3 = _; omega
    rw [e, ih]
    simp
theorem wcells_snoc (gs : List Wl) (g : Wl) : wcells (gs ++ [g]) = wcells gs ++ g.cells := by simp [wcells]
theorem wl_one (g : Wl) : ∀ u ∈ g.cells, u.oneCell' = true := by
  intro u hu
  simp only [Wl.cells, List.mem_cons, List.not_mem_nil, or_false] at hu
  rcases hu with rfl | rfl | rfl <;> rfl
theorem wrow_of_own {w : World} {base e b n cap : Nat} {gs : List Wl} (h : w.ownsRow base e 3 (.slice (some ⟨b, 0, none⟩) n cap) n (wcells gs)) (hl : gs.length = n) : WRow w b gs := by
  intro i hi
  have key : ∀ j v, j < 3 → (gs.getD i default).cells[j]? = some v → w.cell? ⟨b, i * 3 + j, none⟩ = some v := by
    intro j v hj hv
    rw [h.cellAt (i * 3 + j) (by omega), wcells_at gs i j hi hj]; exact hv
  exact ⟨key 0 _ (by decide) rfl, key 1 _ (by decide) rfl, key 2 _ (by decide) rfl⟩
theorem own_form3 {w : World} {base e n : Nat} {v : Value} {xs : List Value} (h : w.ownsRow base e 3 v n xs) (hn : 0 < n) : ∃ b cap, v = .slice (some ⟨b, 0, none⟩) n cap ∧ base ≤ b ∧ b < w.heap.size := by
  rcases h.2 with ⟨_, h0⟩ | ⟨g, cap, cur, hv, hb, hg, _⟩
  · omega
  · exact ⟨g, cap, hv, hb, (Array.getElem?_eq_some_iff.1 hg).1⟩
theorem winfo : (Try.prog.info? 62).map (fun i => (i.zero, i.size, i.bytes)) = some (some (.agg #[.complex .f32 0 0, .complex .f32 0 0, .complex .f32 0 0]), 3, 24) := by kernel_rfl
theorem wcells_set : ∀ (gs : List Wl) (k : Nat) (x : Wl), k < gs.length → (((wcells gs).set (k * 3) (.complex .f32 x.fx x.fy)).set (k * 3 + 1) (.complex .f32 x.tx x.ty)).set (k * 3 + 2) (.complex .f32 x.sx x.sy) = wcells (gs.set k x)
  | [], k, x, h => by simp at h
  | g :: gs, 0, x, _ => by simp [wcells, Wl.cells]
  | g :: gs, k + 1, x, h => by
    have ih := wcells_set gs k x (by simpa using h)
    unfold wcells at ih ⊢
    rw [List.set_cons_succ, List.flatMap_cons, List.flatMap_cons, ← ih]
    have e : (k + 1) * 3 = k * 3 + 2 + 1 := by omega
    rw [e]
    simp [Wl.cells]
def stored3 (w : World) (g k : Nat) (x : Wl) : World := ((w.setCell ⟨g, k * 3, none⟩ (.complex .f32 x.fx x.fy)).setCell ⟨g, k * 3 + 1, none⟩ (.complex .f32 x.tx x.ty)).setCell ⟨g, k * 3 + 2, none⟩ (.complex .f32 x.sx x.sy)
theorem stored3_own {w : World} {base e g n c : Nat} {gs : List Wl} {k : Nat} (h : w.ownsRow base e 3 (.slice (some ⟨g, 0, none⟩) n c) n (wcells gs)) (hk : k < gs.length) (x : Wl) : (stored3 w g k x).ownsRow base e 3 (.slice (some ⟨g, 0, none⟩) n c) n (wcells (gs.set k x)) := by
  rw [← wcells_set gs k x hk]
  exact (((h.stored _ _).1.stored _ _).1.stored _ _).1
theorem stored3_blk {w : World} {g g' : Nat} {t : TypeId} {cs : Array Value} (h : Blk w g' t cs) (hne : g' ≠ g) (k : Nat) (x : Wl) : Blk (stored3 w g k x) g' t cs :=
  ((h.far hne _).far hne _).far hne _
theorem stored3_below {w0 w : World} {B g : Nat} (h : Below B w0 w) (hg : B ≤ g) (k : Nat) (x : Wl) : Below B w0 (stored3 w g k x) :=
  ((h.setCell hg _).setCell hg _).setCell hg _
theorem cell_far3 (w : World) (p : Addr) (g k : Nat) (x : Wl) (h : p.block ≠ g) : (stored3 w g k x).cell? p = w.cell? p := by
  unfold stored3
  have key : ∀ (w : World) (o : Nat) (v : Value), (w.setCell ⟨g, o, none⟩ v).cell? p = w.cell? p := fun w o v => World.cell?_setCell_other _ _ _ _ (fun e => h (congrArg Addr.block e).symm)
  rw [key, key, key]
theorem Wl.nums_parts {g : Wl} (h : g.nums = true) : nan32 g.fx = false ∧ nan32 g.fy = false ∧ nan32 g.tx = false ∧ nan32 g.ty = false ∧ nan32 g.sx = false ∧ nan32 g.sy = false := by
  unfold Wl.nums at h
  generalize nan32 g.fx = a at h ⊢; generalize nan32 g.fy = b at h ⊢; generalize nan32 g.tx = c at h ⊢
  generalize nan32 g.ty = d at h ⊢; generalize nan32 g.sx = e at h ⊢; generalize nan32 g.sy = f at h ⊢
  revert a b c d e f; decide
set_option maxHeartbeats 3200000 in
theorem eqWall_nums (g : Wl) (w : World) (hv : g.nums = true) :
    Calls Try.prog 29 #[g.val, g.val] w fun e w' => e = .returned (.bool true) ∧ Below w.heap.size w w' := by
  obtain ⟨n1, n2, n3, n4, n5, n6⟩ := Wl.nums_parts hv
  clear hv
  obtain ⟨fx, fy, tx, ty, sx, sy⟩ := g
  unfold Wl.val
  dsimp only at n1 n2 n3 n4 n5 n6 ⊢
  have hc1 := fun w => run_cwiden (P := Try.prog) 38 67 fx fy w (by kernel_rfl) Try.underlying67 n1 n2
  have hc2 := fun w => run_cwiden (P := Try.prog) 38 67 tx ty w (by kernel_rfl) Try.underlying67 n3 n4
  have hc3 := fun w => run_cwiden (P := Try.prog) 38 67 sx sy w (by kernel_rfl) Try.underlying67 n5 n6
  have C1 := Lib.hid fun w => sameComplex_self (wide fx) (wide fy) w (nan_wide fx n1) (nan_wide fy n2)
  have C2 := Lib.hid fun w => sameComplex_self (wide tx) (wide ty) w (nan_wide tx n3) (nan_wide ty n4)
  have C3 := Lib.hid fun w => sameComplex_self (wide sx) (wide sy) w (nan_wide sx n5) (nan_wide sy n6)
  clear n1 n2 n3 n4 n5 n6
  go_enter Try.func29, Try.ntmps29
  go_wp2_with (first | (go_at_call 36; ((with_reducible refine (C1.out _).mono ?_); rintro e w' ⟨rfl, rfl⟩)) | (go_at_call 36; ((with_reducible refine (C2.out _).mono ?_); rintro e w' ⟨rfl, rfl⟩)) | (go_at_call 36; ((with_reducible refine (C3.out _).mono ?_); rintro e w' ⟨rfl, rfl⟩)))
  go_ret
  exact ⟨rfl, ((Below.refl _ _).alloc (Nat.le_refl _) _).alloc (by simp) _⟩
set_option maxHeartbeats 3200000 in
theorem eqWallS_self (b1 b2 n c1 c2 : Nat) (gs : List Wl) (w : World) (hl : gs.length = n) (h1 : WRow w b1 gs) (h2 : WRow w b2 gs) (hv : gs.all Wl.nums = true) (hn : n ≤ 64) :
    Calls Try.prog 15 #[.slice (some ⟨b1, 0, none⟩) n c1, .slice (some ⟨b2, 0, none⟩) n c2] w fun e w' => e = .returned (.bool true) ∧ Below w.heap.size w w' := by
  have HL := Lib.hid hl
  have HR1 := Lib.hid h1
  have HR2 := Lib.hid h2
  have HV := Lib.hid hv
  clear hl h1 h2 hv
  go_enter Try.func15, Try.ntmps15
  go_wp2
  go_loopw [5] (fun i wr => ∃ k : Nat, k ≤ n ∧ i = .int .i64 k ∧ Below w.heap.size w wr) (fun i _ => n - (intOf i).toNat)
  case atStart => exact ⟨0, Nat.zero_le _, rfl, Below.refl _ _⟩
  case round =>
    obtain ⟨k, hk, rfl, hb⟩ := hrel
    by_cases hlt : k < n
    · have HG1 := Lib.hid (HR1.out k (by rw [HL.out]; omega))
      have HG2 := Lib.hid (HR2.out k (by rw [HL.out]; omega))
      have hgv : (gs.getD k default).nums = true := by
        have := List.all_eq_true.1 HV.out (gs.getD k default) (by rw [List.getD_eq_getElem?_getD, List.getElem?_eq_getElem (by rw [HL.out]; omega)]; exact List.getElem_mem _)
        exact this
      generalize gs.getD k default = g at HG1 HG2 hgv
      obtain ⟨h0, h1, h2⟩ := HG1.out.below hb (Nat.le_refl _)
      obtain ⟨g0, g1, g2⟩ := HG2.out.below hb (Nat.le_refl _)
      have HC := Lib.hid fun w' => (show Calls Try.prog 29 #[.agg #[.complex .f32 g.fx g.fy, .complex .f32 g.tx g.ty, .complex .f32 g.sx g.sy], .agg #[.complex .f32 g.fx g.fy, .complex .f32 g.tx g.ty, .complex .f32 g.sx g.sy]] w' fun e w'' => e = .returned (.bool true) ∧ Below w'.heap.size w' w'' from eqWall_nums g w' hgv)
      have HB := Lib.hid hb
      clear hgv hb HG1 HG2
      go_wp2
      go_region_with (go_at_call 29; ((with_reducible refine (HC.out _).mono ?_); rintro e w1 ⟨rfl, hb1⟩))
      all_goals
        go_wp2
        go_roundw
        case rel => exact ⟨k + 1, by omega, by go_num, Below.trans (below_drewN HB.out _) (hb1.mono HB.out.size)⟩
        case measure => simp [intOf]; omega
    · have HB := Lib.hid hb
      clear hb
      go_wp2
      go_ret
      exact ⟨rfl, HB.out⟩
/-- the wall that the marks from k on make -/
def mkw (k : Nat) : Wl := ⟨floatOfInt .f32 k, 1065353216, floatOfInt .f32 ((k : Int) + 1), 1065353216, floatOfInt .f32 ((k : Int) + 1 + 1), 1065353216⟩
theorem mark_conv2 (k : Nat) (h : k + 2 < 256) (w : World) : (convert 67 38 (.complex .f64 (floatOfInt .f64 ((k : Int) + 1 + 1)) 4607182418800017408)).run Try.prog w = .ok (.complex .f32 (floatOfInt .f32 ((k : Int) + 1 + 1)) 1065353216) w := mark_conv (k + 2) h w
def wmarked (gs : List Wl) (k i : Nat) : List Wl := (List.range i).map (fun j => mkw (k + 3 * j)) ++ gs.drop i
theorem wmarked_length (gs : List Wl) (k i : Nat) (h : i ≤ gs.length) : (wmarked gs k i).length = gs.length := by simp [wmarked]; omega
theorem wmarked_set (gs : List Wl) (k i : Nat) (h : i < gs.length) : (wmarked gs k i).set i (mkw (k + 3 * i)) = wmarked gs k (i + 1) := by
  unfold wmarked
  rw [List.set_append_right _ _ (by simp), List.length_map, List.length_range, Nat.sub_self, List.drop_eq_getElem_cons h, List.set_cons_zero, List.range_succ, List.map_append, List.append_assoc]
  rfl
theorem wmarked_all (gs : List Wl) (k n : Nat) (hl : gs.length = n) : (wmarked gs k n).length = n ∧ ∀ j, j < n → (wmarked gs k n).getD j default = mkw (k + 3 * j) := by
  refine ⟨by rw [wmarked_length gs k n (by omega), hl], fun j hj => ?_⟩
  unfold wmarked
  rw [List.getD_eq_getElem?_getD, List.getElem?_append_left (by simp; exact hj), List.getElem?_map, List.getElem?_range hj]
  rfl
set_option maxHeartbeats 3200000 in
theorem markWallS_of (base b n c k : Nat) (gs : List Wl) (w : World) (hl : gs.length = n) (hown : w.ownsRow base 62 3 (.slice (some ⟨b, 0, none⟩) n c) n (wcells gs)) (hk : k + 3 * n < 200) :
    Calls Try.prog 18 #[.slice (some ⟨b, 0, none⟩) n c, .int .i64 k] w fun e w' => e = .returned (.int .i64 ((k + 3 * n : Nat) : Int)) ∧
      w'.ownsRow base 62 3 (.slice (some ⟨b, 0, none⟩) n c) n (wcells (wmarked gs k n)) ∧ (∀ B w0, Below B w0 w → B ≤ b → Below B w0 w') ∧ (∀ g' t cs, Blk w g' t cs → g' ≠ b → Blk w' g' t cs) ∧
      (∀ g' gr, g' ≠ b → GrRow w g' gr → GrRow w' g' gr) := by
  have HL := Lib.hid hl
  have HO := Lib.hid hown
  clear hl hown
  go_enter Try.func18, Try.ntmps18
  go_wp2
  go_loopw [1, 5] (fun kk i wr => ∃ j q : Nat, j ≤ n ∧ i = .int .i64 j ∧ kk = .int .i64 q ∧ Hid (q = k + 3 * j) ∧ q < 200 ∧
      wr.ownsRow base 62 3 (.slice (some ⟨b, 0, none⟩) n c) n (wcells (wmarked gs k j)) ∧ (∀ B w0, Below B w0 w → B ≤ b → Below B w0 wr) ∧ (∀ g' t cs, Blk w g' t cs → g' ≠ b → Blk wr g' t cs) ∧ (∀ p : Addr, p.block ≠ b → wr.cell? p = w.cell? p)) (fun _ i _ => n - (intOf i).toNat)
  case atStart => exact ⟨0, k, Nat.zero_le _, rfl, rfl, rfl, by omega, HO.out, fun _ _ h _ => h, fun _ _ _ h _ => h, fun _ _ => rfl⟩
  case round =>
    obtain ⟨j, q, hj, rfl, rfl, hq, hq2, hown, hb, hblk, hcel⟩ := hrel
    by_cases hlt : j < n
    · have hgl := wmarked_length gs k j (by rw [HL.out]; exact hj)
      obtain ⟨c0, c1, c2⟩ := wrow_of_own hown (by rw [hgl, HL.out]) j (by rw [hgl, HL.out]; exact hlt)
      have f0 := hown.frozenAt (j * 3)
      have f1 := hown.frozenAt (j * 3 + 1)
      have f2 := hown.frozenAt (j * 3 + 2)
      generalize (wmarked gs k j).getD j default = old at c0 c1 c2
      have HOw := Lib.hid hown
      have HBb := Lib.hid hb
      have HBk := Lib.hid hblk
      have HCe := Lib.hid hcel
      have HQ := Lib.hid (show q + 3 < 256 by rw [hq.out]; omega)
      have m0 := fun w => mark_conv q (by have := HQ.out; omega) w
      have m1 := fun w => mark_conv' q (by have := HQ.out; omega) w
      have m2 := fun w => mark_conv2 q (by have := HQ.out; omega) w
      clear hown hb hblk hgl hcel
      have hsc := run_store_complex Try.prog
      go_wp2
      go_roundw
      case rel =>
        refine ⟨j + 1, q + 3, by omega, by go_num, congrArg (Value.int .i64) (by omega), by show q + 3 = _; rw [hq.out]; omega, by have := hq.out; omega, ?_, ?_, ?_, ?_⟩
        · have h7 := stored3_own HOw.out (k := j) (by rw [wmarked_length gs k j (by rw [HL.out]; exact hj), HL.out]; exact hlt) (mkw q)
          have e : (wmarked gs k j).set j (mkw q) = wmarked gs k (j + 1) := by rw [hq.out]; exact wmarked_set gs k j (by rw [HL.out]; exact hlt)
          rw [e] at h7
          exact h7
        · exact fun B w0 h hB => stored3_below (HBb.out B w0 h hB) hB j (mkw q)
        · exact fun g' t cs h hne => stored3_blk (HBk.out g' t cs h hne) hne j (mkw q)
        · intro p hp
          refine Eq.trans ?_ (HCe.out p hp)
          exact (cell_far3 _ p b j (mkw q) hp)
      case measure => simp [intOf]; omega
    · obtain rfl : j = n := by omega
      have HOw := Lib.hid hown
      have HBb := Lib.hid hb
      have HBk := Lib.hid hblk
      have HCe := Lib.hid hcel
      clear hown hb hblk hcel
      go_wp2
      go_ret
      refine ⟨by rw [← hq.out]; rfl, HOw.out, HBb.out, HBk.out, fun g' gr hne hg i hi => ?_⟩
      obtain ⟨c0, c1, c2, c3, c4, c5, c6⟩ := hg i hi
      exact ⟨(HCe.out _ hne).trans c0, (HCe.out _ hne).trans c1, (HCe.out _ hne).trans c2, (HCe.out _ hne).trans c3, (HCe.out _ hne).trans c4, (HCe.out _ hne).trans c5, (HCe.out _ hne).trans c6⟩
set_option maxRecDepth 100000 in
set_option maxHeartbeats 3200000 in
theorem heldWallS_of (b n c k : Nat) (gs : List Wl) (w : World) (hl : gs.length = n) (hr : WRow w b gs) (hm : ∀ j, j < n → gs.getD j default = mkw (k + 3 * j)) (hk : k + 3 * n < 200) :
    Calls Try.prog 21 #[.slice (some ⟨b, 0, none⟩) n c, .int .i64 k] w fun e w' => e = .returned (.int .i64 ((k + 3 * n : Nat) : Int)) ∧ w = w' := by
  have HL := Lib.hid hl
  have HR := Lib.hid hr
  have HM := Lib.hid hm
  clear hl hr hm
  go_enter Try.func21, Try.ntmps21
  go_wp2
  go_loop [1, 5] (fun kk i => ∃ j q : Nat, j ≤ n ∧ i = .int .i64 j ∧ kk = .int .i64 q ∧ Hid (q = k + 3 * j) ∧ q < 200) (fun _ i => n - (intOf i).toNat)
  case atStart => exact ⟨0, k, Nat.zero_le _, rfl, rfl, rfl, by omega⟩
  case round =>
    obtain ⟨j, q, hj, rfl, rfl, hq, hq2⟩ := hrel
    by_cases hlt : j < n
    · obtain ⟨c0, c1, c2⟩ := HR.out j (by rw [HL.out]; exact hlt)
      rw [HM.out j hlt, ← hq.out] at c0 c1 c2
      have HQ := Lib.hid (show q + 3 < 256 by rw [hq.out]; omega)
      have m0 := fun w => mark_conv q (by have := HQ.out; omega) w
      have m1 := fun w => mark_conv' q (by have := HQ.out; omega) w
      have m2 := fun w => mark_conv2 q (by have := HQ.out; omega) w
      have o1 : FloatKind.f32.format.order 1065353216 1065353216 = some .eq := by decide
      have q0 := small_ord q (by omega)
      have q1 := small_ord' (q + 1) ((q : Int) + 1) (by omega) (by omega)
      have q2 := small_ord' (q + 2) ((q : Int) + 1 + 1) (by omega) (by omega)
      dsimp only [mkw] at c0 c1 c2
      go_wp2
      go_round
      case rel => exact ⟨j + 1, q + 3, by omega, by go_num, congrArg (Value.int .i64) (by omega), by show q + 3 = _; rw [hq.out]; omega, by have := hq.out; omega⟩
      case measure => simp [intOf]; omega
    · obtain rfl : j = n := by omega
      go_wp2
      go_ret
      exact ⟨by have h9 := hq.out; show Ending.returned (Value.int .i64 (q : Int)) = _; rw [h9]; rfl, rfl⟩
end Go.Proofs.Ytljcgfgkfkoeeaa
