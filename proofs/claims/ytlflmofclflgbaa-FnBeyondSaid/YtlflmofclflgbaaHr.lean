/- Heaps with or without grains: valid ones; which grains are beyond a wall. -/
import Derived.Test.YtlflmofclflgbaaRp
import Derived.Test.YtlflmofclflgbaaSd
import Derived.Test.YtlflmofclflgbaaIdx
namespace Go.Proofs.Ytlflmofclflgbaa
open Go.RowKit Fl

/-- a slice of grains that reads as gs -/
def HRow (w : World) (ao : Option Addr) (n : Nat) (gs : List Gr) : Prop := gs.length = n ∧ (0 < n → ∃ b, ao = some ⟨b, 0, none⟩ ∧ GrRow w b gs)
theorem HRow.below {w w' : World} {ao : Option Addr} {n : Nat} {gs : List Gr} (h : HRow w ao n gs) {B : Nat} (hb : Below B w w') (hB : w.heap.size ≤ B) : HRow w' ao n gs :=
  ⟨h.1, fun hn => by obtain ⟨b, hb1, hb2⟩ := h.2 hn; exact ⟨b, hb1, hb2.below hb hB⟩⟩
theorem HRow.next {w w' : World} {ao : Option Addr} {n : Nat} {gs : List Gr} (h : HRow w ao n gs) (hb : Below w.heap.size w w') : HRow w' ao n gs := h.below hb (Nat.le_refl _)
theorem HRow.of_own {w : World} {base n c : Nat} {ao : Option Addr} {gs : List Gr} (h : w.ownsRow base 37 7 (.slice ao n c) n (gcells gs)) (hl : gs.length = n) : HRow w ao n gs := by
  refine ⟨hl, fun hn => ?_⟩
  obtain ⟨b, cap, hv, _, _⟩ := own_form h hn
  have : ao = some ⟨b, 0, none⟩ ∧ c = cap := by simpa using hv
  obtain ⟨rfl, rfl⟩ := this
  exact ⟨b, rfl, row_of_own h hl⟩
set_option maxHeartbeats 1600000 in
theorem validHeap_row (ao : Option Addr) (n c : Nat) (gs : List Gr) (w : World) (h : HRow w ao n gs) (hn : n ≤ 24) :
    Calls Try.prog 93 #[.agg #[.slice ao n c]] w fun e w' => e = .returned (.bool (gs.all Gr.valid)) ∧ Below w.heap.size w w' := by
  by_cases h0 : 0 < n
  · obtain ⟨b, rfl, hr⟩ := h.2 h0
    exact validHeap_any b n c gs w h.1 hr hn
  · have hn0 : n = 0 := by omega
    subst hn0
    have hg : gs = [] := List.eq_nil_of_length_eq_zero h.1
    subst hg
    clear h h0 hn
    have hbel := (Below.refl w.heap.size w).alloc (Nat.le_refl _) (.cells #[.slice ao 0 c] 26)
    have HBel := Lib.hid hbel
    clear hbel
    go_enter Try.func93, Try.ntmps93
    go_wp2
    refine wp_loop_rounds 1 ?_
    rw [rounds_succ]
    go_wp2
    go_ret
    exact ⟨rfl, HBel.out⟩
/-- is a grain beyond the wall? -/
def beyB (fx fy tx ty : Nat) (g : Gr) : Bool := match sideO fx fy tx ty g.ax g.ay with
  | some r => FloatKind.f32.format.order r 0 == some .lt
  | none => false
/-- the sides of all grains are told -/
def Sides (fx fy tx ty : Nat) (gs : List Gr) : Prop := ∀ k, k < gs.length → ∃ r, sideO fx fy tx ty (gs.getD k default).ax (gs.getD k default).ay = some r ∧ fin32 r = true
def ints (zs : List Nat) : List Value := zs.map fun (i : Nat) => Value.int .i64 (i : Int)
theorem iinfo : (Try.prog.info? 2).map (fun i => (i.zero, i.size, i.bytes)) = some (some (.int .i64 0), 1, 8) := by kernel_rfl
theorem int_new (w : World) (t : TypeId) (z : Value) (q : Nat) (hq : w.heap.size = q) : ∀ j u, [z][j]? = some u → (w.alloc (.cells #[z] t)).cell? ((⟨q, 0, none⟩ : Addr).add j) = some u := by
  subst hq; exact (World.ownsRow_lit (base := 0) (e := t) (size := 1) w #[z] 1 (Nat.zero_le _) (by decide) rfl).cells rfl
theorem ints_snoc (zs : List Nat) (k : Nat) : ints (zs ++ [k]) = ints zs ++ [.int .i64 (k : Int)] := by simp [ints]
theorem blk_app {w3 w5 : World} {g : Nat} {o : Obj} {t e : TypeId} {cs : Array Value} {v : Value} {base size n : Nat} {xs : List Value} (h : Blk w3 g t cs) (hO : w3.ownsRow base e size v n xs) (hne : e ≠ t) (hg : (w3.alloc o).grownBy w5 v.ownBlock) : Blk w5 g t cs :=
  (h.alloc o).grown hg (own_blk_ne (hO.alloc o) (h.alloc o) hne)
theorem below_app {w w3 w5 : World} {o : Obj} {e : TypeId} {v : Value} {size n : Nat} {xs : List Value} (h : Below w.heap.size w w3) (hO : w3.ownsRow w.heap.size e size v n xs) (hg : (w3.alloc o).grownBy w5 v.ownBlock) : Below w.heap.size w w5 :=
  (h.alloc h.size o).grown hg (by have := h.size; simp; omega) (fun k hk => (hO.lt k hk).1)
structure GbInv (w W : World) (fx fy tx ty sx sy : Nat) (ao : Option Addr) (n c : Nat) (gs : List Gr) (v : Value) (k : Nat) : Prop where
  own : W.ownsRow w.heap.size 2 1 v (idxB (beyB fx fy tx ty) gs k).length (ints (idxB (beyB fx fy tx ty) gs k))
  q : Blk W (w.heap.size + 1) 66 #[.complex .f32 fx fy, .complex .f32 tx ty, .complex .f32 sx sy]
  r : HRow W ao n gs
  l : Below w.heap.size w W
theorem neIW : 2 ≠ 66 := by decide
theorem neIG : 2 ≠ 37 := by decide
/-- a list of indices in memory of the call's own -/
def GaveIdx (w : World) (zs : List Nat) (e : Ending) (w' : World) : Prop := ∃ v, e = .returned (.tuple #[v, .bool true]) ∧ w'.ownsRow w.heap.size 2 1 v zs.length (ints zs) ∧ Below w.heap.size w w'
theorem Gr.valid_at {g : Gr} (h : g.valid = true) : (fin32 g.ax && fin32 g.ay) = true := by
  rw [g.valid_eq] at h
  simp only [Bool.and_eq_true] at h ⊢
  exact h.1
theorem valid_get {gs : List Gr} (h : gs.all Gr.valid = true) {k : Nat} (hk : k < gs.length) : (gs.getD k default).valid = true := by
  rw [List.all_eq_true] at h
  rw [List.getD_eq_getElem?_getD, List.getElem?_eq_getElem hk]
  exact h _ (List.getElem_mem _)
set_option maxRecDepth 100000 in
set_option maxHeartbeats 3200000 in
theorem grainsBeyond_of (fx fy tx ty sx sy : Nat) (ao : Option Addr) (n c : Nat) (gs : List Gr) (w : World) (hW : WallW fx fy tx ty sx sy) (hr : HRow w ao n gs) (hn : n ≤ 24) (hv : gs.all Gr.valid = true) (hs : Sides fx fy tx ty gs) :
    Calls Try.prog 61 #[.agg #[.slice ao n c], wallV fx fy tx ty sx sy] w (GaveIdx w (idxB (beyB fx fy tx ty) gs n)) := by
  obtain ⟨i0, hi, hz0, hz1, hz2⟩ := info_parts iinfo
  have hVH := fun w (h : HRow w ao n gs) => validHeap_row ao n c gs w h hn
  rw [hv] at hVH
  have HVH := Lib.hid hVH
  have HVW := Lib.hid fun w => validWall_yes fx fy tx ty sx sy w hW
  have HSd := Lib.hid fun ax ay r w h1 h2 h3 => sideOf_yes fx fy tx ty sx sy ax ay r w hW h1 h2 h3
  have HR := Lib.hid hr
  have HV := Lib.hid hv
  have HS := Lib.hid hs
  clear hVH hr hv hs hW
  unfold wallV at HVW HSd ⊢
  go_enter Try.func61, Try.ntmps61
  have hbel := ((Below.refl w.heap.size w).alloc (Nat.le_refl _) (.cells #[.slice ao n c] 26)).alloc (by simp) (.cells #[.complex .f32 fx fy, .complex .f32 tx ty, .complex .f32 sx sy] 66)
  have hB0 : Blk ((w.alloc (.cells #[.slice ao n c] 26)).alloc (.cells #[.complex .f32 fx fy, .complex .f32 tx ty, .complex .f32 sx sy] 66)) w.heap.size 26 _ := (blk_new w _ _ _ rfl).alloc _
  have hB1 : Blk ((w.alloc (.cells #[.slice ao n c] 26)).alloc (.cells #[.complex .f32 fx fy, .complex .f32 tx ty, .complex .f32 sx sy] 66)) (w.heap.size + 1) 66 _ := blk_new _ _ _ _ (by simp)
  have HR0 := Lib.hid (HR.out.below hbel (Nat.le_refl _))
  have HBel := Lib.hid hbel
  have HB0 := Lib.hid hB0
  have HB1 := Lib.hid hB1
  clear hbel hB0 hB1
  go_wp2_with fail
  refine (HVH.out _ HR0.out).mono ?_
  rintro e w1 ⟨rfl, hb⟩
  have L1 := Lib.hid (below_next HBel.out hb)
  have R1 := Lib.hid (HR0.out.next hb)
  have P1 := Lib.hid (blk_next HB0.out hb)
  have Q1 := Lib.hid (blk_next HB1.out hb)
  have q0 := Q1.out.cell 0
  have q1 := Q1.out.cell 1
  have q2 := Q1.out.cell 2
  clear hb
  go_wp2_with fail
  refine (HVW.out _).mono ?_
  rintro e w2 ⟨rfl, hb⟩
  have L2 := Lib.hid (below_next L1.out hb)
  have R2 := Lib.hid (R1.out.next hb)
  have P2 := Lib.hid (blk_next P1.out hb)
  have Q2 := Lib.hid (blk_next Q1.out hb)
  have p0 := P2.out.cell 0
  clear hb q0 q1 q2
  go_wp2
  go_loopw [6, 22] (fun v i wr => ∃ (W : World) (k : Nat) (vv : Value), W = wr ∧ k ≤ n ∧ i = .int .i64 k ∧ v = vv ∧ GbInv w wr fx fy tx ty sx sy ao n c gs vv k) (fun _ i _ => n - (intOf i).toNat)
  case atStart => exact ⟨_, 0, _, rfl, Nat.zero_le _, rfl, rfl, ⟨show w2.ownsRow w.heap.size 2 1 (.slice none 0 0) 0 [] from World.ownsRow_nil _ _ _ _, Q2.out, R2.out, L2.out⟩⟩
  case round =>
    obtain ⟨W, k, _, rfl, hk, rfl, rfl, hI⟩ := hrel
    have HI := Lib.hid hI
    clear hI
    by_cases hlt : k < n
    · obtain ⟨b, rfl, hrow⟩ := HI.out.r.2 (by omega)
      have hkl : k < gs.length := by rw [HI.out.r.1]; exact hlt
      obtain ⟨h0, h1, h2, h3, h4, h5, h6⟩ := hrow k hkl
      have hva := Gr.valid_at (valid_get HV.out hkl)
      obtain ⟨r, hr1, hr2⟩ := HS.out k hkl
      have HC := Lib.hid fun w => HSd.out _ _ r w hva hr1 hr2
      have HBy := Lib.hid (show beyB fx fy tx ty (gs.getD k default) = (FloatKind.f32.format.order r 0 == some .lt) by unfold beyB; rw [hr1])
      have HIx := Lib.hid (idxB_succ (beyB fx fy tx ty) gs k)
      have HQ3 := Lib.hid (HI.out.q.alloc (.cells #[.complex .f32 (gs.getD k default).ax (gs.getD k default).ay, .complex .f32 (gs.getD k default).sx (gs.getD k default).sy, .float .f32 (gs.getD k default).r, .float .f32 (gs.getD k default).m, .float .f32 (gs.getD k default).t, .float .f32 (gs.getD k default).s, .bool (gs.getD k default).h] 37))
      generalize gs.getD k default = g at h0 h1 h2 h3 h4 h5 h6 HC HBy HIx HQ3
      have q0 := HQ3.out.cell 0
      have q1 := HQ3.out.cell 1
      have q2 := HQ3.out.cell 2
      have hq0 := HI.out.q.lt
      have hl0 := HI.out.l.size
      have HL3 := Lib.hid (HI.out.l.alloc hl0 (.cells #[.complex .f32 g.ax g.ay, .complex .f32 g.sx g.sy, .float .f32 g.r, .float .f32 g.m, .float .f32 g.t, .float .f32 g.s, .bool g.h] 37))
      have HR3 := Lib.hid (HI.out.r.next ((Below.refl _ _).alloc (Nat.le_refl _) (.cells #[.complex .f32 g.ax g.ay, .complex .f32 g.sx g.sy, .float .f32 g.r, .float .f32 g.m, .float .f32 g.t, .float .f32 g.s, .bool g.h] 37)))
      have HO3 := Lib.hid (HI.out.own.alloc (.cells #[.complex .f32 g.ax g.ay, .complex .f32 g.sx g.sy, .float .f32 g.r, .float .f32 g.m, .float .f32 g.t, .float .f32 g.s, .bool g.h] 37))
      have hsf := run_store_float' Try.prog
      have hsc := run_store_complex Try.prog
      clear hva hr1 hr2 hkl hrow
      go_wp2_with fail
      refine (HC.out _).mono ?_
      rintro e w3 ⟨rfl, hb⟩
      have Q4 := Lib.hid (blk_next HQ3.out hb)
      have L4 := Lib.hid (below_next HL3.out hb)
      have R4 := Lib.hid (HR3.out.next hb)
      have O4 := Lib.hid (own_below HO3.out hb (Nat.le_refl _))
      have hl4 := L4.out.size
      have hzl := idxB_le (beyB fx fy tx ty) gs k
      clear hb q0 q1 q2 h0 h1 h2 h3 h4 h5 h6
      generalize hB : (FloatKind.f32.format.order r 0 == some .lt) = B at HBy
      cases B
      · have HIx' := Lib.hid (show idxB (beyB fx fy tx ty) gs (k + 1) = idxB (beyB fx fy tx ty) gs k by rw [HIx.out, HBy.out]; rfl)
        go_wp2
        go_roundw
        case rel => exact ⟨_, k + 1, u6, rfl, by omega, by go_num, rfl, by rw [HIx'.out]; exact O4.out, Q4.out, R4.out, L4.out⟩
        case measure => simp [intOf]; omega
      · have HIx' := Lib.hid (show idxB (beyB fx fy tx ty) gs (k + 1) = idxB (beyB fx fy tx ty) gs k ++ [k] by rw [HIx.out, HBy.out]; rfl)
        go_wp2_with (at_builtin; go_loud (refine wpList_append_own _ rfl _ _ 39 rfl w.heap.size 2 i0 _ 1 8 Try.underlying39 hi hz0 hz1 hz2 rfl (by decide) u6 (idxB (beyB fx fy tx ty) gs k).length (ints (idxB (beyB fx fy tx ty) gs k)) rfl (O4.out.alloc _) ⟨w3.heap.size, 0, none⟩ 1 1 [.int .i64 (k : Int)] rfl rfl (int_new _ _ _ _ rfl) (fun x hx => by simp at hx; subst hx; rfl) (by unfold maxLen; omega) (by omega) (by simp; omega) ?_); intro v' w5 hown' hgrow hnil; have Q5 := Lib.hid (blk_app Q4.out O4.out neIW hgrow); have L5 := Lib.hid (below_app L4.out O4.out hgrow); have O5 := Lib.hid hown'; clear hown' hgrow hnil)
        go_roundw
        case rel => exact ⟨_, k + 1, _, rfl, by omega, by go_num, rfl, by rw [HIx'.out, ints_snoc, List.length_append]; exact O5.out, Q5.out, HR.out.next L5.out, L5.out⟩
        case measure => simp [intOf]; omega
    · have hk2 : k = n := by omega
      have HO := Lib.hid (show W.ownsRow w.heap.size 2 1 u6 (idxB (beyB fx fy tx ty) gs n).length (ints (idxB (beyB fx fy tx ty) gs n)) by have := HI.out.own; rwa [hk2] at this)
      clear hk2
      go_wp2
      go_ret2
      exact ⟨u6, rfl, HO.out, HI.out.l⟩
end Go.Proofs.Ytlflmofclflgbaa
