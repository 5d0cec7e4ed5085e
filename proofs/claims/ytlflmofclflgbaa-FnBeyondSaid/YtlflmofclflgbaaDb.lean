/- The heap without the grains beyond a wall. -/
import Derived.Test.YtlflmofclflgbaaCt
namespace Go.Proofs.Ytlflmofclflgbaa
open Go.RowKit Fl

theorem results_row_tmp2 {P : Program} {fn : Func} {p u v : Tmp} {ty : TypeId} (h : fn.results = #[.cell p ty, .tmp u, .tmp v]) (tmps : Array Value) (w : World) (g : Nat) (t : TypeId) (cs : Array Value) (d : TypeDesc) (b c : Value)
    (hp : tmps.getD p undef = .pointer (some ⟨g, 0, none⟩)) (hg : Blk w g t cs) (hb : tmps.getD u undef = b) (hc : tmps.getD v undef = c)
    (hu : P.underlying ty = some d) (hd : (match d with | .struct _ | .array _ _ => true | _ => false) = true) (hi : (P.info? ty).map (·.size) = some cs.size) :
    (results fn tmps).run P w = .ok (.tuple #[.agg cs, b, c]) w := by
  subst hb hc
  have hp' : tmps[p]?.getD undef = .pointer (some ⟨g, 0, none⟩) := by simpa using hp
  simp [results, h, hp', asAddr, run_loadVar_row w g t ty cs (0, 0) d hg hu hd hi]
def leftB (fx fy tx ty : Nat) (gs : List Gr) (k : Nat) : List Gr := (gs.take k).filter fun g => !beyB fx fy tx ty g
/-- the heap that is left, in memory of the call's own, and how many were dropped -/
def GaveLeft (w : World) (gs : List Gr) (n : Nat) (e : Ending) (w' : World) : Prop := ∃ v, e = .returned (.tuple #[.agg #[v], .int .i64 (n : Int), .bool true]) ∧ w'.ownsRow w.heap.size 37 7 v gs.length (gcells gs) ∧ Below w.heap.size w w'
theorem own_value {w : World} {base e size n : Nat} {v : Value} {xs : List Value} (h : w.ownsRow base e size v n xs) : ∃ ao c, v = .slice ao n c := by
  rcases h.2 with ⟨rfl, rfl⟩ | ⟨g, cap, cur, rfl, _⟩
  · exact ⟨_, _, rfl⟩
  · exact ⟨_, _, rfl⟩
theorem own_apart {w : World} {base base' e e' size size' n n' : Nat} {v v' : Value} {xs xs' : List Value} (h : w.ownsRow base e size v n xs) (h' : w.ownsRow base' e' size' v' n' xs') (hne : e ≠ e') : v.ownBlock = none ∨ v.ownBlock ≠ v'.ownBlock := by
  rcases h.2 with ⟨rfl, _⟩ | ⟨g, cap, cur, rfl, _, hg, _⟩
  · exact .inl rfl
  · right
    rcases h'.2 with ⟨rfl, _⟩ | ⟨g', cap', cur', rfl, _, hg', _⟩
    · simp [Value.ownBlock]
    · intro he
      have : g = g' := by simpa [Value.ownBlock] using he
      subst this
      rw [hg] at hg'
      injection hg' with hg'
      injection hg' with _ ht
      exact hne ht
theorem own_app {w3 w5 : World} {base base' e e' size size' n n' : Nat} {v v' : Value} {xs xs' : List Value} {o : Obj} (h : w3.ownsRow base e size v n xs) (hO : w3.ownsRow base' e' size' v' n' xs') (hne : e ≠ e') (hg : (w3.alloc o).grownBy w5 v'.ownBlock) : w5.ownsRow base e size v n xs :=
  (h.alloc o).kept hg (own_apart (h.alloc o) (hO.alloc o) hne)
structure DbInv (w W : World) (fx fy tx ty : Nat) (az : Option Addr) (cz : Nat) (zs : List Nat) (gs : List Gr) (v : Value) (k : Nat) : Prop where
  own : W.ownsRow w.heap.size 37 7 v (leftB fx fy tx ty gs k).length (gcells (leftB fx fy tx ty gs k))
  z : W.ownsRow w.heap.size 2 1 (.slice az zs.length cz) zs.length (ints zs)
  b : Blk W (w.heap.size + 1 + 1) 26 #[.slice none 0 0]
  l : Below w.heap.size w W
set_option maxRecDepth 100000 in
set_option maxHeartbeats 3200000 in
theorem dropBeyond_of (fx fy tx ty sx sy : Nat) (ao : Option Addr) (n c : Nat) (gs : List Gr) (w : World) (hW : WallW fx fy tx ty sx sy) (hr : HRow w ao n gs) (hn : n ≤ 24) (hv : gs.all Gr.valid = true) (hs : Sides fx fy tx ty gs) :
    Calls Try.prog 62 #[.agg #[.slice ao n c], wallV fx fy tx ty sx sy] w (GaveLeft w (leftB fx fy tx ty gs n) (idxB (beyB fx fy tx ty) gs n).length) := by
  obtain ⟨i0, hi, hz0, hz1, hz2⟩ := info_parts ginfo
  have HG := Lib.hid fun w (h : HRow w ao n gs) => grainsBeyond_of fx fy tx ty sx sy ao n c gs w hW h hn hv hs
  have HR := Lib.hid hr
  obtain ⟨zs, hzs⟩ : ∃ zs, idxB (beyB fx fy tx ty) gs n = zs := ⟨_, rfl⟩
  have hzl := idxB_le (beyB fx fy tx ty) gs n
  have hmem : ∀ k, k < n → zs.contains k = beyB fx fy tx ty (gs.getD k default) := fun k hk => by rw [← hzs]; exact idxB_mem _ _ _ _ hk
  rw [hzs] at HG hzl ⊢
  have HM := Lib.hid hmem
  clear hr hv hs hW hzs hmem
  unfold wallV at HG ⊢
  go_enter Try.func62, Try.ntmps62
  have hbel := (((Below.refl w.heap.size w).alloc (Nat.le_refl _) (.cells #[.slice ao n c] 26)).alloc (by simp) (.cells #[.complex .f32 fx fy, .complex .f32 tx ty, .complex .f32 sx sy] 66)).alloc (by simp; omega) (.cells #[.slice none 0 0] 26)
  have hB0 : Blk (((w.alloc (.cells #[.slice ao n c] 26)).alloc (.cells #[.complex .f32 fx fy, .complex .f32 tx ty, .complex .f32 sx sy] 66)).alloc (.cells #[.slice none 0 0] 26)) w.heap.size 26 _ := ((blk_new w _ _ _ rfl).alloc _).alloc _
  have hB2 : Blk (((w.alloc (.cells #[.slice ao n c] 26)).alloc (.cells #[.complex .f32 fx fy, .complex .f32 tx ty, .complex .f32 sx sy] 66)).alloc (.cells #[.slice none 0 0] 26)) (w.heap.size + 1 + 1) 26 _ := blk_new _ _ _ _ (by simp)
  have HR0 := Lib.hid (HR.out.below hbel (Nat.le_refl _))
  have HBel := Lib.hid hbel
  have HB0 := Lib.hid hB0
  have HB2 := Lib.hid hB2
  clear hbel hB0 hB2
  go_wp2_with fail
  refine (HG.out _ HR0.out).mono ?_
  rintro e w1 ⟨vz, rfl, ho, hb⟩
  have L1 := Lib.hid (below_next HBel.out hb)
  have P1 := Lib.hid (blk_next HB0.out hb)
  have R1 := Lib.hid (blk_next HB2.out hb)
  have ho' := own_from ho HBel.out.size
  obtain ⟨az, cz, rfl⟩ := own_value ho'
  have Z1 := Lib.hid ho'
  have p0 := P1.out.cell 0
  clear hb ho ho'
  go_wp2
  go_loopw [9, 24] (fun v i wr => ∃ (W : World) (k : Nat) (vv : Value), W = wr ∧ k ≤ n ∧ i = .int .i64 k ∧ v = vv ∧ DbInv w wr fx fy tx ty az cz zs gs vv k) (fun _ i _ => n - (intOf i).toNat)
  case atStart => exact ⟨_, 0, _, rfl, Nat.zero_le _, rfl, rfl, ⟨show w1.ownsRow w.heap.size 37 7 (.slice none 0 0) 0 [] from World.ownsRow_nil _ _ _ _, Z1.out, R1.out, L1.out⟩⟩
  case round =>
    obtain ⟨W, k, _, rfl, hk, rfl, rfl, hI⟩ := hrel
    have HI := Lib.hid hI
    have hl0 := hI.l.size
    clear hI
    by_cases hlt : k < n
    · have hRW := HR.out.next HI.out.l
      obtain ⟨b, rfl, hrow⟩ := hRW.2 (by omega)
      have hkl : k < gs.length := by rw [HR.out.1]; exact hlt
      obtain ⟨h0, h1, h2, h3, h4, h5, h6⟩ := hrow k hkl
      have hcc := HM.out k hlt
      have HIx := Lib.hid (left_succ (beyB fx fy tx ty) gs k hkl)
      generalize hG : gs.getD k default = g at h0 h1 h2 h3 h4 h5 h6 hcc HIx
      obtain ⟨B, hB⟩ : ∃ B, beyB fx fy tx ty g = B := ⟨_, rfl⟩
      rw [hB] at hcc
      have HBy := Lib.hid hB
      have HC := Lib.hid fun W' (h : W'.ownsRow w.heap.size 2 1 (.slice az zs.length cz) zs.length (ints zs)) => contains_of az zs.length cz k zs W' (NRow.of_own h rfl) (by omega) B hcc
      have hsf := run_store_float' Try.prog
      have hsc := run_store_complex Try.prog
      have HL3 := Lib.hid (HI.out.l.alloc hl0 (.cells #[.complex .f32 g.ax g.ay, .complex .f32 g.sx g.sy, .float .f32 g.r, .float .f32 g.m, .float .f32 g.t, .float .f32 g.s, .bool g.h] 37))
      have HO3 := Lib.hid (HI.out.own.alloc (.cells #[.complex .f32 g.ax g.ay, .complex .f32 g.sx g.sy, .float .f32 g.r, .float .f32 g.m, .float .f32 g.t, .float .f32 g.s, .bool g.h] 37))
      have HZ3 := Lib.hid (HI.out.z.alloc (.cells #[.complex .f32 g.ax g.ay, .complex .f32 g.sx g.sy, .float .f32 g.r, .float .f32 g.m, .float .f32 g.t, .float .f32 g.s, .bool g.h] 37))
      have HB3 := Lib.hid (HI.out.b.alloc (.cells #[.complex .f32 g.ax g.ay, .complex .f32 g.sx g.sy, .float .f32 g.r, .float .f32 g.m, .float .f32 g.t, .float .f32 g.s, .bool g.h] 37))
      have hll := List.length_filter_le (fun g => !beyB fx fy tx ty g) (gs.take k)
      have hlk : (leftB fx fy tx ty gs k).length ≤ 24 := by
        have h9 : (gs.take k).length ≤ k := List.length_take_le _ _
        show ((gs.take k).filter _).length ≤ 24
        omega
      clear hrow hRW hkl hcc hB hG hll
      go_wp2_with fail
      refine (HC.out _ HZ3.out).mono ?_
      rintro e w3 ⟨rfl, m3, rfl⟩
      clear h0 h1 h2 h3 h4 h5 h6
      cases B
      · have HIx' := Lib.hid (show leftB fx fy tx ty gs (k + 1) = leftB fx fy tx ty gs k ++ [g] by show (gs.take (k + 1)).filter _ = _; rw [HIx.out, HBy.out]; rfl)
        go_wp2_with (at_builtin; go_loud (refine wpList_append_own _ rfl _ _ 24 rfl w.heap.size 37 i0 _ 7 36 Try.underlying24 hi hz0 hz1 hz2 rfl (by decide) u9 (leftB fx fy tx ty gs k).length (gcells (leftB fx fy tx ty gs k)) rfl ((own_drewN HO3.out _).alloc _) ⟨W.heap.size + 1, 0, none⟩ 1 1 g.cells rfl rfl (gr_at _ _ g _ (by simp)) (cells_one _) (by unfold maxLen; omega) (by omega) (by simp; omega) ?_); intro v' w5 hown' hgrow hnil; have B5 := Lib.hid (blk_app (HB3.out.drewN m3) (own_drewN HO3.out m3) neGH' hgrow); have L5 := Lib.hid (below_app (below_drewN HL3.out m3) (own_drewN HO3.out m3) hgrow); have Z5 := Lib.hid (own_app (own_drewN HZ3.out m3) (own_drewN HO3.out m3) neIG hgrow); have O5 := Lib.hid hown'; clear hown' hgrow hnil)
        go_roundw
        case rel => exact ⟨_, k + 1, _, rfl, by omega, by go_num, rfl, by rw [HIx'.out, gcells_snoc, List.length_append]; exact O5.out, Z5.out, B5.out, L5.out⟩
        case measure => simp [intOf]; omega
      · have HIx' := Lib.hid (show leftB fx fy tx ty gs (k + 1) = leftB fx fy tx ty gs k by show (gs.take (k + 1)).filter _ = _; rw [HIx.out, HBy.out]; rfl)
        go_wp2
        go_roundw
        case rel => exact ⟨_, k + 1, _, rfl, by omega, by go_num, rfl, by rw [HIx'.out]; exact own_drewN HO3.out m3, own_drewN HZ3.out m3, HB3.out.drewN m3, below_drewN HL3.out m3⟩
        case measure => simp [intOf]; omega
    · have hk2 : k = n := by omega
      have HO := Lib.hid (show W.ownsRow w.heap.size 37 7 u9 (leftB fx fy tx ty gs n).length (gcells (leftB fx fy tx ty gs n)) by have := HI.out.own; rwa [hk2] at this)
      have b0 := HI.out.b.cell 0
      have d0 := HI.out.b.frozen 0
      obtain ⟨al, cl, hal⟩ := own_value HO.out
      subst hal
      clear hk2
      go_wp2
      refine bodyPost_ret (v := .tuple #[.agg #[.slice al (leftB fx fy tx ty gs n).length cl], .int .i64 (zs.length : Int), .bool true]) (results_row_tmp2 Try.results62 _ _ (w.heap.size + 1 + 1) 26 #[.slice al (leftB fx fy tx ty gs n).length cl] _ _ _ rfl (HI.out.b.set_ 0 _) rfl rfl Try.underlying26 rfl (by kernel_rfl)) rfl ?_
      exact ⟨_, rfl, own_far HO.out HI.out.b neGH' 0 _, HI.out.l.setCell (by show w.heap.size ≤ w.heap.size + 1 + 1; omega) _⟩
end Go.Proofs.Ytlflmofclflgbaa
