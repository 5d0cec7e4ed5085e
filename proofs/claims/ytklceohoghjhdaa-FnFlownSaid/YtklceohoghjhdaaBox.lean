/- BoxOfHeap on the program's side. -/
import Derived.Test.YtklceohoghjhdaaFg
import Derived.BigRegion
import Derived.Deep.RegionHeld3
import Derived.StillTailTactics
namespace Go.Proofs.Ytklceohoghjhdaa
open Go.RowKit Fl

/-- an array of 24 numbers of which the first k are laid -/
def Arr (W : World) (g : Nat) (F : Nat → Nat) (k : Nat) : Prop := ∃ cs : Array Value, Blk W g 101 cs ∧ cs.size = 24 ∧ ∀ j, j < 24 → cs[j]? = some (.float .f32 (if j < k then F j else 0))
theorem Arr.set {W : World} {g k : Nat} {F : Nat → Nat} (h : Arr W g F k) (hk : k < 24) : Arr (W.setCell ⟨g, k, none⟩ (.float .f32 (F k))) g F (k + 1) := by
  obtain ⟨cs, h1, h2, h3⟩ := h
  refine ⟨_, h1.set_ k _, by simp [h2], fun j hj => ?_⟩
  rw [Array.getElem?_setIfInBounds]
  by_cases e : k = j
  · subst e; simp [h2, hk]
  · rw [if_neg e, h3 j hj]
    by_cases hjk : j < k
    · rw [if_pos hjk, if_pos (by omega)]
    · rw [if_neg hjk, if_neg (by omega)]
theorem Arr.far {W : World} {g k : Nat} {F : Nat → Nat} (h : Arr W g F k) {p : Addr} (hp : g ≠ p.block) (u : Value) : Arr (W.setCell p u) g F k := by
  obtain ⟨cs, h1, h2, h3⟩ := h; exact ⟨cs, h1.far hp u, h2, h3⟩
theorem Arr.alloc {W : World} {g k : Nat} {F : Nat → Nat} (h : Arr W g F k) (o : Obj) : Arr (W.alloc o) g F k := by
  obtain ⟨cs, h1, h2, h3⟩ := h; exact ⟨cs, h1.alloc o, h2, h3⟩
theorem Arr.drewN {W : World} {g k : Nat} {F : Nat → Nat} (h : Arr W g F k) (m : Nat) : Arr (W.drewN m) g F k := h
theorem Arr.drew {W : World} {g k : Nat} {F : Nat → Nat} (h : Arr W g F k) : Arr W.drew g F k := h
theorem Arr.next {W W' : World} {g k : Nat} {F : Nat → Nat} (h : Arr W g F k) (hb : Below W.heap.size W W') : Arr W' g F k := by
  obtain ⟨cs, h1, h2, h3⟩ := h; exact ⟨cs, blk_next h1 hb, h2, h3⟩
theorem Arr.cell {W : World} {g k : Nat} {F : Nat → Nat} (h : Arr W g F k) {j : Nat} (hj : j < 24) : W.cell? ⟨g, j, none⟩ = some (.float .f32 (if j < k then F j else 0)) := by
  obtain ⟨cs, h1, _, h3⟩ := h; rw [h1.cell j]; exact h3 j hj
theorem Arr.cells {W : World} {g n : Nat} {F : Nat → Nat} (h : Arr W g F n) (hn : n ≤ 24) : ∀ j, j < n → W.cell? ⟨g, j, none⟩ = some (.float .f32 (F j)) := by
  intro j hj
  obtain ⟨cs, h1, h2, h3⟩ := h
  rw [h1.cell j, h3 j (by omega), if_pos hj]
theorem Arr.frozen {W : World} {g k : Nat} {F : Nat → Nat} (h : Arr W g F k) (j : Nat) : W.frozen? ⟨g, j, none⟩ = false := by
  obtain ⟨cs, h1, _, _⟩ := h; exact h1.frozen j
def zeros24 : Array Value := #[.float .f32 0, .float .f32 0, .float .f32 0, .float .f32 0, .float .f32 0, .float .f32 0, .float .f32 0, .float .f32 0, .float .f32 0, .float .f32 0, .float .f32 0, .float .f32 0, .float .f32 0, .float .f32 0, .float .f32 0, .float .f32 0, .float .f32 0, .float .f32 0, .float .f32 0, .float .f32 0, .float .f32 0, .float .f32 0, .float .f32 0, .float .f32 0]
theorem zeros_get : ∀ j : Fin 24, zeros24[j.val]? = some (.float .f32 0) := by
  intro ⟨j, h⟩
  match j, h with
  | 0, _ => rfl
  | 1, _ => rfl
  | 2, _ => rfl
  | 3, _ => rfl
  | 4, _ => rfl
  | 5, _ => rfl
  | 6, _ => rfl
  | 7, _ => rfl
  | 8, _ => rfl
  | 9, _ => rfl
  | 10, _ => rfl
  | 11, _ => rfl
  | 12, _ => rfl
  | 13, _ => rfl
  | 14, _ => rfl
  | 15, _ => rfl
  | 16, _ => rfl
  | 17, _ => rfl
  | 18, _ => rfl
  | 19, _ => rfl
  | 20, _ => rfl
  | 21, _ => rfl
  | 22, _ => rfl
  | 23, _ => rfl
  | _ + 24, h => exact absurd h (by omega)
theorem Arr.new (W : World) (F : Nat → Nat) (g : Nat) (h : W.heap.size = g) : Arr (W.alloc (.cells zeros24 101)) g F 0 :=
  ⟨zeros24, blk_new W _ _ _ h, rfl, fun j hj => by rw [if_neg (Nat.not_lt_zero j)]; exact zeros_get ⟨j, hj⟩⟩
/-- an end that is the normal one, and holds then -/
def onlyOn (K : Act → World → Prop) (e : Exit) (a : Act) (w : World) : Prop := match e with
  | .normal => K a w
  | _ => False
theorem wp_to {P : Program} {c : Code} {Q : Exit → Act → World → Prop} {a : Act} {w : World} (F : Act) (V : World) (h1 : c.wp P (onlyOn (fun a w' => a = F ∧ w' = V)) a w) (h2 : Q .normal F V) : c.wp P Q a w :=
  Code.wp_mono (fun e a w h => by
    cases e
    case normal => obtain ⟨rfl, rfl⟩ := h; exact h2
    all_goals exact h.elim) h1
theorem array_to (n : Nat) (V : World) (l : Nat) (hn : n ≤ 24) : (Instr.sliceAt 101 (.pointer (some ⟨l, 0, none⟩)) none (some (.int .i64 (n : Int))) none).run Try.prog V = .ok (.slice (some ⟨l, 0, none⟩) n 24) V := by
  have hl : Try.prog.arrayLen 101 = 24 := by kernel_rfl
  have he : Try.prog.elem 101 = 35 := by kernel_rfl
  have hu : Try.prog.underlying 101 = some (.array (Try.prog.arrayLen 101) (Try.prog.elem 101)) := by kernel_rfl
  have hip : Try.prog.info? 35 = some ((Try.prog.info? 35).getD default) := by kernel_rfl
  have hc : Try.prog.cellsOf 35 = 1 := by kernel_rfl
  rw [run_sliceAt_array_h V _ _ hu .i64 n (by omega) (by rw [hl]; omega), he, run_sizeOf V hip, hc, hl]
  simp [slicedAt, Addr.add]
theorem fcells_heap {V W : World} {l n : Nat} {F : Nat → Nat} (h : V.heap = W.heap) (hf : FCells W l n F) : FCells V l n F := by
  intro k hk
  rw [← hf k hk]
  unfold World.cell?
  rw [h]
structure BxInv (w W : World) (l0 l1 l2 l3 : Nat) (b n c : Nat) (A B C D : Nat → Nat) (k : Nat) : Prop where
  h : Blk W w.heap.size 26 #[.slice (some ⟨b, 0, none⟩) n c]
  a : Arr W l0 A k
  b : Arr W l1 B k
  c : Arr W l2 C k
  d : Arr W l3 D k
  l : Below w.heap.size w W
set_option maxRecDepth 100000 in
set_option maxHeartbeats 25600000 in
theorem boxOfHeap_of (b n c : Nat) (gs : List Gr) (A B C D : Nat → Nat) (w : World) (hl : gs.length = n) (hr : GrRow w b gs) (h1 : 1 ≤ n) (hn : n ≤ 24) (hv : gs.all Gr.valid = true) (hw : BoxW gs n A B C D) (mA : MinW n A) (mB : MinW n B) (mC : MaxW n C) (mD : MaxW n D) :
    Calls Try.prog 27 #[.agg #[.slice (some ⟨b, 0, none⟩) n c]] w fun e w' => e = .returned (.tuple #[.complex .f32 (minsW A (n - 1)) (minsW B (n - 1)), .complex .f32 (maxsW C (n - 1)) (maxsW D (n - 1)), .bool true]) ∧ Below w.heap.size w w' := by
  have hVH := fun w (h : GrRow w b gs) => validHeap_any b n c gs w hl h hn
  rw [hv] at hVH
  have HVH := Lib.hid hVH
  have HL := Lib.hid hl
  have HR := Lib.hid hr
  have HW := Lib.hid hw
  have HMA := Lib.hid mA
  have HMB := Lib.hid mB
  have HMC := Lib.hid mC
  have HMD := Lib.hid mD
  have hbel := (Below.refl w.heap.size w).alloc (Nat.le_refl _) (.cells #[.slice (some ⟨b, 0, none⟩) n c] 26)
  have hB0 : Blk (w.alloc (.cells #[.slice (some ⟨b, 0, none⟩) n c] 26)) w.heap.size 26 _ := blk_new w _ _ _ rfl
  have HR0 := Lib.hid (hr.below hbel (Nat.le_refl _))
  have HBel := Lib.hid hbel
  have HB0 := Lib.hid hB0
  clear hVH hl hr hv hw hbel hB0 mA mB mC mD
  go_enter Try.func27, Try.ntmps27
  go_wp2_with fail
  refine (HVH.out _ HR0.out).mono ?_
  rintro e w1 ⟨rfl, hb⟩
  have L1 := Lib.hid (below_next HBel.out hb)
  have R1 := Lib.hid (HR0.out.below hb (Nat.le_refl _))
  have a0 := (blk_next HB0.out hb).cell 0
  have A1 := Lib.hid (blk_next HB0.out hb)
  have hn0 : ((n : Int) == 0) = false := by simp; omega
  have HZ : Hid (zeros24 = #[.float .f32 0, .float .f32 0, .float .f32 0, .float .f32 0, .float .f32 0, .float .f32 0, .float .f32 0, .float .f32 0, .float .f32 0, .float .f32 0, .float .f32 0, .float .f32 0, .float .f32 0, .float .f32 0, .float .f32 0, .float .f32 0, .float .f32 0, .float .f32 0, .float .f32 0, .float .f32 0, .float .f32 0, .float .f32 0, .float .f32 0, .float .f32 0]) := rfl
  have A4 := ((((blk_next HB0.out hb).alloc (.cells zeros24 101)).alloc (.cells zeros24 101)).alloc (.cells zeros24 101)).alloc (.cells zeros24 101)
  have a4 := A4.cell 0
  unfold zeros24 at a4
  have hl1 := L1.out.size
  clear hb A4
  go_wp2_with fail
  generalize e3 : w1.heap.size + 1 + 1 + 1 = l3
  generalize e2 : w1.heap.size + 1 + 1 = l2
  generalize e1 : w1.heap.size + 1 = l1
  generalize e0 : w1.heap.size = l0
  have E0 := Lib.hid e0
  have E1 := Lib.hid e1
  have E2 := Lib.hid e2
  have E3 := Lib.hid e3
  have o1 : l0 < l1 := by omega
  have o2 : l1 < l2 := by omega
  have o3 : l2 < l3 := by omega
  have oz : w.heap.size < l0 := by have := (A1.out).lt; omega
  clear e0 e1 e2 e3
  clear a0 a4 HZ
  go_loopw [28] (fun i wr => ∃ (W : World) (k : Nat), W = wr ∧ k ≤ n ∧ i = .int .i64 k ∧ BxInv w wr l0 l1 l2 l3 b n c A B C D k) (fun i _ => n - (intOf i).toNat)
  case atStart =>
    refine ⟨_, 0, rfl, Nat.zero_le _, rfl, (((A1.out.alloc _).alloc _).alloc _).alloc _, ?_, ?_, ?_, ?_, ?_⟩
    · exact (((Arr.new w1 A l0 E0.out).alloc _).alloc _).alloc _
    · exact ((Arr.new (w1.alloc _) B l1 (by have := E1.out; simp; omega)).alloc _).alloc _
    · exact (Arr.new ((w1.alloc _).alloc _) C l2 (by have := E2.out; simp; omega)).alloc _
    · exact Arr.new (((w1.alloc _).alloc _).alloc _) D l3 (by have := E3.out; simp; omega)
    · exact (((L1.out.alloc L1.out.size _).alloc (by simp; omega) _).alloc (by simp; omega) _).alloc (by simp; omega) _
  case round =>
    obtain ⟨W, k, rfl, hk, rfl, hI⟩ := hrel
    have HI := Lib.hid hI
    have hl0 := hI.l.size
    by_cases hlt : k < n
    · have hkl : k < gs.length := by rw [HL.out]; exact hlt
      obtain ⟨h0, h1', h2, h3, h4, h5, h6⟩ := (HR.out.below hI.l (Nat.le_refl _)) k hkl
      have e1 := fun w => run_float_arith (P := Try.prog) w .sub 35 .f32 _ _ _ (HW.out.a k hlt)
      have e2 := fun w => run_float_arith (P := Try.prog) w .sub 35 .f32 _ _ _ (HW.out.b k hlt)
      have e3 := fun w => run_float_arith (P := Try.prog) w .add 35 .f32 _ _ _ (HW.out.c k hlt)
      have e4 := fun w => run_float_arith (P := Try.prog) w .add 35 .f32 _ _ _ (HW.out.d k hlt)
      generalize gs.getD k default = g at h0 h1' h2 h3 h4 h5 h6 e1 e2 e3 e4
      obtain ⟨gax, gay, gsx, gsy, gr, gm, gt, gs', gh⟩ := g
      dsimp only at h0 h1' h2 h3 h4 h5 h6 e1 e2 e3 e4
      have hsf := run_store_float' Try.prog
      have hsc := run_store_complex Try.prog
      have Aa := Lib.hid (hI.a.alloc (.cells #[.complex .f32 gax gay, .complex .f32 gsx gsy, .float .f32 gr, .float .f32 gm, .float .f32 gt, .float .f32 gs', .bool gh] 37))
      have Ab := Lib.hid (hI.b.alloc (.cells #[.complex .f32 gax gay, .complex .f32 gsx gsy, .float .f32 gr, .float .f32 gm, .float .f32 gt, .float .f32 gs', .bool gh] 37))
      have Ac := Lib.hid (hI.c.alloc (.cells #[.complex .f32 gax gay, .complex .f32 gsx gsy, .float .f32 gr, .float .f32 gm, .float .f32 gt, .float .f32 gs', .bool gh] 37))
      have Ad := Lib.hid (hI.d.alloc (.cells #[.complex .f32 gax gay, .complex .f32 gsx gsy, .float .f32 gr, .float .f32 gm, .float .f32 gt, .float .f32 gs', .bool gh] 37))
      have Ha := Lib.hid (hI.h.alloc (.cells #[.complex .f32 gax gay, .complex .f32 gsx gsy, .float .f32 gr, .float .f32 gm, .float .f32 gt, .float .f32 gs', .bool gh] 37))
      have lh := hI.h.lt
      have La := Lib.hid (hI.l.alloc hI.l.size (.cells #[.complex .f32 gax gay, .complex .f32 gsx gsy, .float .f32 gr, .float .f32 gm, .float .f32 gt, .float .f32 gs', .bool gh] 37))
      have la := hI.a.choose_spec.1.lt
      have lb := hI.b.choose_spec.1.lt
      have lc := hI.c.choose_spec.1.lt
      have ld := hI.d.choose_spec.1.lt
      have Gx := Lib.hid (blk_new W 37 #[.complex .f32 gax gay, .complex .f32 gsx gsy, .float .f32 gr, .float .f32 gm, .float .f32 gt, .float .f32 gs', .bool gh] _ rfl)
      have hk24 : k < 24 := by omega
      clear hI hkl
      go_wp2_with fail
      generalize W.alloc (.cells #[.complex .f32 gax gay, .complex .f32 gsx gsy, .float .f32 gr, .float .f32 gm, .float .f32 gt, .float .f32 gs', .bool gh] 37) = W2 at Aa Ab Ac Ad La Ha Gx ⊢
      have ca := Aa.out.cell (j := k) hk24
      have cb := Ab.out.cell (j := k) hk24
      have fa := Aa.out.frozen k
      have fb := Ab.out.frozen k
      have g0 := Gx.out.cell 0
      have g2 := Gx.out.cell 2
      go_big_region
      have hx1 : l0 ≠ l1 := by omega
      have hx2 : l1 ≠ l0 := by omega
      have hx3 : l2 ≠ l0 := by omega
      have hx4 : l2 ≠ l1 := by omega
      have hx5 : l3 ≠ l0 := by omega
      have hx6 : l3 ≠ l1 := by omega
      have hx7 : l2 ≠ l3 := by omega
      have hx8 : l0 ≠ l2 := by omega
      have hx9 : l0 ≠ l3 := by omega
      have hxa : l1 ≠ l2 := by omega
      have hxb : l1 ≠ l3 := by omega
      have Aa3 := Lib.hid (((Aa.out.set hk24).far (p := ⟨l1, k, none⟩) hx1 (.float .f32 (B k))).drew)
      have Ab3 := Lib.hid (((Ab.out.far (p := ⟨l0, k, none⟩) hx2 (.float .f32 (A k))).set hk24).drew)
      have Ac3 := Lib.hid (((Ac.out.far (p := ⟨l0, k, none⟩) hx3 (.float .f32 (A k))).far (p := ⟨l1, k, none⟩) hx4 (.float .f32 (B k))).drew)
      have Ad3 := Lib.hid (((Ad.out.far (p := ⟨l0, k, none⟩) hx5 (.float .f32 (A k))).far (p := ⟨l1, k, none⟩) hx6 (.float .f32 (B k))).drew)
      have Gx3 := Lib.hid (blk_drew ((Gx.out.far (p := ⟨l0, k, none⟩) (show W.heap.size ≠ l0 by omega) (.float .f32 (A k))).far (p := ⟨l1, k, none⟩) (show W.heap.size ≠ l1 by omega) (.float .f32 (B k))))
      have Hh3 := Lib.hid (blk_drew ((Ha.out.far (p := ⟨l0, k, none⟩) (show w.heap.size ≠ l0 by omega) (.float .f32 (A k))).far (p := ⟨l1, k, none⟩) (show w.heap.size ≠ l1 by omega) (.float .f32 (B k))))
      have L3 := Lib.hid (below_drew ((La.out.setCell (p := ⟨l0, k, none⟩) (Nat.le_of_lt oz) (.float .f32 (A k))).setCell (p := ⟨l1, k, none⟩) (show w.heap.size ≤ l1 by omega) (.float .f32 (B k))))
      generalize ((W2.setCell ⟨l0, k, none⟩ (.float .f32 (A k))).setCell ⟨l1, k, none⟩ (.float .f32 (B k))).drew = W3 at Aa3 Ab3 Ac3 Ad3 Gx3 L3 Hh3 ⊢
      clear Aa Ab Ac Ad Gx La Ha ca cb fa fb g0 g2 e1 e2 la lb h0 h1' h2 h3 h4 h5 h6
      have cc := Ac3.out.cell (j := k) hk24
      have cd := Ad3.out.cell (j := k) hk24
      have fc := Ac3.out.frozen k
      have fd := Ad3.out.frozen k
      have g0 := Gx3.out.cell 0
      have g2 := Gx3.out.cell 2
      clear hx1 hx2 hx3 hx4 hx5 hx6 hx7 hx8 hx9 hxa hxb
      go_wp2_with fail
      have n2 : W.heap.size ≠ l2 := by omega
      have n3 : W.heap.size ≠ l3 := by omega
      have HE := Lib.hid (show BxInv w (((W3.setCell ⟨l2, k, none⟩ (.float .f32 (C k))).setCell ⟨l3, k, none⟩ (.float .f32 (D k))).drew) l0 l1 l2 l3 b n c A B C D (k + 1) from
        ⟨blk_drew ((Hh3.out.far (p := ⟨l2, k, none⟩) (show w.heap.size ≠ l2 by omega) _).far (p := ⟨l3, k, none⟩) (show w.heap.size ≠ l3 by omega) _),
          ((Aa3.out.far (p := ⟨l2, k, none⟩) (show l0 ≠ l2 by omega) _).far (p := ⟨l3, k, none⟩) (show l0 ≠ l3 by omega) _).drew,
          ((Ab3.out.far (p := ⟨l2, k, none⟩) (show l1 ≠ l2 by omega) _).far (p := ⟨l3, k, none⟩) (show l1 ≠ l3 by omega) _).drew,
          ((Ac3.out.set hk24).far (p := ⟨l3, k, none⟩) (show l2 ≠ l3 by omega) _).drew,
          ((Ad3.out.far (p := ⟨l2, k, none⟩) (show l3 ≠ l2 by omega) _).set hk24).drew,
          below_drew ((L3.out.setCell (p := ⟨l2, k, none⟩) (show w.heap.size ≤ l2 by omega) _).setCell (p := ⟨l3, k, none⟩) (show w.heap.size ≤ l3 by omega) _)⟩)
      clear Aa3 Ab3 Ac3 Ad3 L3 Hh3
      rename_i Qx Kx ax
      have hk24i : (k : Int) < 24 := by omega
      have hk0i : (0 : Int) ≤ (k : Int) := by omega
      have hk24j : (k : Int) < ((24 : Nat) : Int) := by omega
      apply wp_to
      case h1 =>
        go_region_held3 (fun w' => w'.cell? ⟨W.heap.size, 0, none⟩ = some (.complex .f32 gax gay) ∧ w'.cell? ⟨W.heap.size, 2, none⟩ = some (.float .f32 gr))
          (first | exact ⟨g0, g2⟩ | exact ⟨(blk_drew (Gx3.out.far (p := ⟨l2, k, none⟩) n2 _)).cell 0, (blk_drew (Gx3.out.far (p := ⟨l2, k, none⟩) n2 _)).cell 2⟩ | exact ⟨(blk_drew ((Gx3.out.far (p := ⟨l2, k, none⟩) n2 _).far (p := ⟨l3, k, none⟩) n3 _)).cell 0, (blk_drew ((Gx3.out.far (p := ⟨l2, k, none⟩) n2 _).far (p := ⟨l3, k, none⟩) n3 _)).cell 2⟩ | go_keep | (trace_state; fail))
          (fail)
        all_goals exact ⟨rfl, rfl⟩
      case h2 =>
        refine ax _ _ ?_
        clear Gx3 cc cd fc fd
        go_wp2
        go_roundw
        case rel => exact ⟨_, k + 1, rfl, by omega, by go_num, HE.out⟩
        case measure => simp [intOf]; omega
    · have hkn : k = n := by omega
      rw [hkn] at hI
      have HI := Lib.hid hI
      have hh := hI.h.cell 0
      clear hI hkn
      go_wp2_with fail
      have hsl := fun V l => array_to n V l hn
      have F0 := Lib.hid (HI.out.a.cells hn)
      have F1 := Lib.hid (HI.out.b.cells hn)
      have F2 := Lib.hid (HI.out.c.cells hn)
      have F3 := Lib.hid (HI.out.d.cells hn)
      have M0 := Lib.hid (min_of l0 n 24 A W.drew (fcells_heap rfl F0.out) h1 hn HMA.out.o)
      have M0n := Lib.hid fun m => min_of l0 n 24 A (W.drewN m) (fcells_heap rfl F0.out) h1 hn HMA.out.o
      have M1 := Lib.hid (min_of l1 n 24 B W.drew (fcells_heap rfl F1.out) h1 hn HMB.out.o)
      have M1n := Lib.hid fun m => min_of l1 n 24 B (W.drewN m) (fcells_heap rfl F1.out) h1 hn HMB.out.o
      have M2 := Lib.hid (max_of l2 n 24 C W.drew (fcells_heap rfl F2.out) h1 hn HMC.out.o)
      have M2n := Lib.hid fun m => max_of l2 n 24 C (W.drewN m) (fcells_heap rfl F2.out) h1 hn HMC.out.o
      have M3 := Lib.hid (max_of l3 n 24 D W.drew (fcells_heap rfl F3.out) h1 hn HMD.out.o)
      have M3n := Lib.hid fun m => max_of l3 n 24 D (W.drewN m) (fcells_heap rfl F3.out) h1 hn HMD.out.o
      have fAB : (fin32 (minsW A (n - 1)) && fin32 (minsW B (n - 1))) = true := by rw [HMA.out.f, HMB.out.f]; rfl
      have fCD : (fin32 (maxsW C (n - 1)) && fin32 (maxsW D (n - 1))) = true := by rw [HMC.out.f, HMD.out.f]; rfl
      have G0 := Lib.hid fun V => finiteComplex_yes _ _ fAB V
      have G1 := Lib.hid fun V => finiteComplex_yes _ _ fCD V
      clear fAB fCD hh
      generalize hx0 : minsW A (n - 1) = x0 at M0 M0n G0
      have X0 := Lib.hid hx0
      clear hx0
      generalize hx1 : minsW B (n - 1) = x1 at M1 M1n G0
      have X1 := Lib.hid hx1
      clear hx1
      generalize hx2 : maxsW C (n - 1) = x2 at M2 M2n G1
      have X2 := Lib.hid hx2
      clear hx2
      generalize hx3 : maxsW D (n - 1) = x3 at M3 M3n G1
      have X3 := Lib.hid hx3
      clear hx3
      have L := Lib.hid HI.out.l
      go_region_with (first | (go_at_call 71; (with_reducible refine M0.out.mono ?_); rintro e w' ⟨rfl, m0, rfl⟩) | (go_at_call 71; (with_reducible refine (M0n.out _).mono ?_); rintro e w' ⟨rfl, m0, rfl⟩) | (go_at_call 71; (with_reducible refine M1.out.mono ?_); rintro e w' ⟨rfl, m1, rfl⟩) | (go_at_call 71; (with_reducible refine (M1n.out _).mono ?_); rintro e w' ⟨rfl, m1, rfl⟩) | (go_at_call 57; (with_reducible refine (G0.out _).mono ?_); rintro e w' ⟨rfl, q0, rfl⟩))
      all_goals
        go_wp2_with fail
        go_region_with (first | (go_at_call 72; (with_reducible refine M2.out.mono ?_); rintro e w' ⟨rfl, m2, rfl⟩) | (go_at_call 72; (with_reducible refine (M2n.out _).mono ?_); rintro e w' ⟨rfl, m2, rfl⟩) | (go_at_call 72; (with_reducible refine M3.out.mono ?_); rintro e w' ⟨rfl, m3, rfl⟩) | (go_at_call 72; (with_reducible refine (M3n.out _).mono ?_); rintro e w' ⟨rfl, m3, rfl⟩) | (go_at_call 57; (with_reducible refine (G1.out _).mono ?_); rintro e w' ⟨rfl, q1, rfl⟩))
        go_wp2_with fail
        all_goals
          exact bodyPost_ret (v := .tuple #[.complex .f32 x0 x1, .complex .f32 x2 x3, .bool true]) (by simp [results, Try.results27, go_sem]) rfl ⟨by rw [X0.out, X1.out, X2.out, X3.out], by first | exact below_drewN L.out _ | exact below_drewN (below_drewN L.out _) _ | exact below_drewN (below_drewN (below_drewN L.out _) _) _⟩
end Go.Proofs.Ytklceohoghjhdaa
