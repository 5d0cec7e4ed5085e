/- The law FnHeaps: what its walk keeps, and the contracts of what it calls. -/
import Derived.Test.YtbggklhnnjikjaaCh
import Derived.Lib.AppendZeros
import Derived.Test.YtbggklhnnjikjaaBrow
import Derived.Lib.Hide
import Derived.Deep.Slices
import Derived.ProofKit
import Derived.OpenShut
import Derived.Test.YtbggklhnnjikjaaJc
import Derived.Test.YtbggklhnnjikjaaMv
import Derived.Test.YtbggklhnnjikjaaJb
import Derived.Test.YtbggklhnnjikjaaRp
import Derived.Deep.RegionHeld
namespace Go.Proofs.Ytbggklhnnjikjaa
open Go.RowKit Fl

set_option maxRecDepth 100000 in
set_option maxHeartbeats 3200000 in
theorem grow_of (m : Nat) (w : World) (h1 : 1 ≤ m) (hm : m ≤ 30) :
    Calls Try.prog 96 #[.slice none 0 0, .int .i64 m] w fun e w' => ∃ g c, e = .returned (.slice (some ⟨g, 0, none⟩) 0 c) ∧ w'.ownsRow w.heap.size 37 7 (.slice (some ⟨g, 0, none⟩) 0 c) 0 [] ∧ Below w.heap.size w w' := by
  obtain ⟨i0, hi, hz0, hz1, hz2⟩ := info_parts ginfo
  have hpos : ¬ ((m : Int) < 0) := by omega
  have hpos2 : (0 : Int) < (m : Int) := by omega
  have hge : m ≤ grownCap w m 0 37 := grownCap_ge w m 0 _
  have hle : grownCap w m 0 37 ≤ maxLen := grownCap_le_maxLen w m 0 _ (by unfold maxLen; omega)
  have hap := Lib.run_append_nil_zeros (P := Try.prog) w 24 3 24 37 i0 _ .i64 .i64 Try.underlying24 Try.underlying3 hi hz0 m (by omega) (by omega) (by omega) (by rw [hz2]; omega)
  generalize hc : grownCap w m 0 37 = cap at hge hle hap
  have HAp := Lib.hid hap
  have HC := Lib.hid hc
  clear hap hc
  go_enter Try.func96, Try.ntmps96
  go_wp2_with (at_builtin; go_loud (refine Lib.wpList_append_run _ rfl _ _ 24 3 rfl _ _ rfl rfl _ _ HAp.out ?_))
  go_ret
  refine ⟨w.heap.size, cap, rfl, ?_, ((Below.refl w.heap.size w).alloc (Nat.le_refl _) _).drew⟩
  exact World.ownsRow_made w _ cap (Nat.le_refl _) hle (by rw [Array.size_append, size_zeroCells, size_zeroCells]; simp; omega)
/-- a row of the call's own, and only new memory -/
def CoInv (w W : World) (v : Value) (n : Nat) (l : List Value) : Prop := W.ownsRow w.heap.size 37 7 v n l ∧ Below w.heap.size w W
/-- a part: grains in memory, from an address on -/
def PartOf (W : World) (ad : Addr) (n : Nat) (gs : List Gr) : Prop := gs.length = n ∧ ∀ j u, (gcells gs)[j]? = some u → W.cell? (ad.add j) = some u
theorem PartOf.next {W W' : World} {ad : Addr} {n : Nat} {gs : List Gr} (h : PartOf W ad n gs) (hb : Below W.heap.size W W') : PartOf W' ad n gs :=
  ⟨h.1, fun j u hu => by
    have hc := h.2 j u hu
    rw [hb.cell (p := ad.add j) (World.block_lt_of_cell? W _ hc)]; exact hc⟩
set_option maxRecDepth 100000 in
set_option maxHeartbeats 3200000 in
theorem concat_of (pb pc : Nat) (a0 a1 : Addr) (n0 c0 n1 c1 : Nat) (xs ys : List Gr) (w : World) (hp0 : w.cell? ⟨pb, 0, none⟩ = some (.slice (some a0) n0 c0)) (hp1 : w.cell? ⟨pb, 1, none⟩ = some (.slice (some a1) n1 c1)) (hx : PartOf w a0 n0 xs) (hy : PartOf w a1 n1 ys) (h1 : 1 ≤ n0 + n1) (h2 : n0 + n1 ≤ 30) :
    Calls Try.prog 56 #[.slice (some ⟨pb, 0, none⟩) 2 pc] w fun e w' => ∃ v', e = .returned v' ∧ w'.ownsRow w.heap.size 37 7 v' (n0 + n1) (gcells (xs ++ ys)) ∧ Below w.heap.size w w' := by
  obtain ⟨i0, hi, hz0, hz1, hz2⟩ := info_parts ginfo
  have hgr := fun W => grow_of (n0 + n1) W h1 h2
  simp only [Int.natCast_add] at hgr
  have HGr := Lib.hid hgr
  clear hgr
  have hP0 := Lib.hid hp0
  have hP1 := Lib.hid hp1
  have HX := Lib.hid hx
  have HY := Lib.hid hy
  clear hp0 hp1 hx hy
  go_enter Try.func56, Try.ntmps56
  go_wp2_with fail
  go_loop [3, 11] (fun z i => ∃ k : Nat, k ≤ 2 ∧ i = .int .i64 k ∧ z = .int .i64 (if k = 0 then (0 : Int) else if k = 1 then n0 else (n0 : Int) + n1)) (fun _ i => 2 - (intOf i).toNat)
  case atStart => exact ⟨0, by omega, rfl, rfl⟩
  case round =>
    obtain ⟨k, hk, rfl, rfl⟩ := hrel
    have hc : k = 0 ∨ k = 1 ∨ k = 2 := by omega
    rcases hc with rfl | rfl | rfl
    · have q := hP0.out
      go_wp2
      go_round
      case rel => exact ⟨1, by omega, rfl, by simp⟩
      case measure => simp [intOf]
    · have q := hP1.out
      have hnn : ¬ ((n0 : Int) + n1 < 0) := by omega
      go_wp2
      go_round
      case rel => exact ⟨2, by omega, rfl, by simp⟩
      case measure => simp [intOf]
    · go_wp2_with fail
      refine (HGr.out _).mono ?_
      rintro e w1 ⟨g, c, rfl, hown, hb⟩
      have O1 := Lib.hid hown
      have L1 := Lib.hid hb
      clear hown hb
      go_wp2_with fail
      go_loopw [6, 27] (fun v i wr => ∃ (W : World) (k : Nat), W = wr ∧ k ≤ 2 ∧ i = .int .i64 k ∧ CoInv w wr v (if k = 0 then 0 else if k = 1 then n0 else n0 + n1) (if k = 0 then [] else if k = 1 then gcells xs else gcells xs ++ gcells ys)) (fun _ i _ => 2 - (intOf i).toNat)
      case atStart => exact ⟨_, 0, rfl, by omega, rfl, O1.out, L1.out⟩
      case round =>
        obtain ⟨W, k, rfl, hk, rfl, hI⟩ := hrel
        have hc : k = 0 ∨ k = 1 ∨ k = 2 := by omega
        rcases hc with rfl | rfl | rfl
        · have HI := Lib.hid (show CoInv w W _ 0 [] from hI)
          have q : W.cell? ⟨pb, 0, none⟩ = some (.slice (some a0) n0 c0) := by rw [HI.out.2.cell (p := ⟨pb, 0, none⟩) (World.block_lt_of_cell? w _ hP0.out)]; exact hP0.out
          clear hI
          go_wp2_with (at_builtin; go_loud (refine wpList_append_own _ rfl _ _ 24 rfl w.heap.size 37 i0 _ 7 36 Try.underlying24 hi hz0 hz1 hz2 rfl (by decide) _ 0 [] rfl HI.out.1 a0 n0 c0 (gcells xs) rfl (by rw [gcells_length, HX.out.1]) (HX.out.next HI.out.2).2 (fun u hu => by obtain ⟨g, _, hg⟩ := List.mem_flatMap.1 hu; exact cells_one g u hg) (by unfold maxLen; omega) (by omega) HI.out.2.size ?_); intro v' w2 hown hgrow hnil; have HO := Lib.hid hown; have HG := Lib.hid hgrow; clear hown hgrow hnil)
          go_roundw
          case rel => exact ⟨_, 1, rfl, by omega, rfl, by simpa using HO.out, HI.out.2.grown HG.out HI.out.2.size (fun k hk => (HI.out.1.lt k hk).1)⟩
          case measure => simp [intOf]
        · have HI := Lib.hid (show CoInv w W _ n0 (gcells xs) from hI)
          have q : W.cell? ⟨pb, 1, none⟩ = some (.slice (some a1) n1 c1) := by rw [HI.out.2.cell (p := ⟨pb, 1, none⟩) (World.block_lt_of_cell? w _ hP1.out)]; exact hP1.out
          clear hI
          go_wp2_with (at_builtin; go_loud (refine wpList_append_own _ rfl _ _ 24 rfl w.heap.size 37 i0 _ 7 36 Try.underlying24 hi hz0 hz1 hz2 rfl (by decide) _ n0 (gcells xs) rfl HI.out.1 a1 n1 c1 (gcells ys) rfl (by rw [gcells_length, HY.out.1]) (HY.out.next HI.out.2).2 (fun u hu => by obtain ⟨g, _, hg⟩ := List.mem_flatMap.1 hu; exact cells_one g u hg) (by unfold maxLen; omega) (by omega) HI.out.2.size ?_); intro v' w2 hown hgrow hnil; have HO := Lib.hid hown; have HG := Lib.hid hgrow; clear hown hgrow hnil)
          go_roundw
          case rel => exact ⟨_, 2, rfl, by omega, rfl, HO.out, HI.out.2.grown HG.out HI.out.2.size (fun k hk => (HI.out.1.lt k hk).1)⟩
          case measure => simp [intOf]
        · have HI := Lib.hid (show CoInv w W _ (n0 + n1) (gcells xs ++ gcells ys) from hI)
          clear hI
          go_wp2_with fail
          go_ret
          exact ⟨_, rfl, by have h := HI.out.1; rw [show gcells (xs ++ ys) = gcells xs ++ gcells ys by simp [gcells]]; exact h, HI.out.2⟩
end Go.Proofs.Ytbggklhnnjikjaa

namespace Go.Proofs.Ytbggklhnnjikjaa
open Go.RowKit Fl

theorem part_at {w : World} {b : Nat} {gs : List Gr} (h : GrRow w b gs) (o m : Nat) (hm : o + m ≤ gs.length) : PartOf w ⟨b, o * 7, none⟩ m ((gs.drop o).take m) := by
  have hl : ((gs.drop o).take m).length = m := by rw [List.length_take, List.length_drop]; omega
  refine ⟨hl, fun j u hu => ?_⟩
  have hj : j < m * 7 := by
    have := (List.getElem?_eq_some_iff.1 hu).1
    rw [gcells_length, hl] at this; exact this
  have hj7 : j / 7 < m := by omega
  have hq : j % 7 < 7 := Nat.mod_lt _ (by decide)
  have e := gcells_at ((gs.drop o).take m) (j / 7) (j % 7) (by rw [hl]; exact hj7) hq
  rw [show j / 7 * 7 + j % 7 = j by omega, hu, show ((gs.drop o).take m).getD (j / 7) default = gs.getD (o + j / 7) default by simp [List.getD, hj7]] at e
  obtain ⟨c0, c1, c2, c3, c4, c5, c6⟩ := h (o + j / 7) (by omega)
  rw [Addr.add_lit, show o * 7 + j = (o + j / 7) * 7 + j % 7 by omega]
  generalize j % 7 = q at *
  generalize (o + j / 7) * 7 = p at *
  match q, hq with
  | 0, _ => rw [Nat.add_zero, c0]; exact e.symm
  | 1, _ => rw [c1]; exact e.symm
  | 2, _ => rw [c2]; exact e.symm
  | 3, _ => rw [c3]; exact e.symm
  | 4, _ => rw [c4]; exact e.symm
  | 5, _ => rw [c5]; exact e.symm
  | 6, _ => rw [c6]; exact e.symm
theorem part_row {w : World} {b n : Nat} {gs : List Gr} (h : GrRow w b gs) (hl : gs.length = n) : PartOf w ⟨b, 0, none⟩ n gs := by
  have := part_at h 0 n (by omega)
  rwa [List.drop_zero, List.take_of_length_le (by omega)] at this
set_option maxRecDepth 100000 in
set_option maxHeartbeats 3200000 in
theorem addGrain_of (b n c : Nat) (gs : List Gr) (g : Gr) (w : World) (hl : gs.length = n) (hr : GrRow w b gs) (h1 : 1 ≤ n) (hn : n ≤ 23) (hv : gs.all Gr.valid = true) (hv2 : (gs ++ [g]).all Gr.valid = true) :
    Calls Try.prog 15 #[.agg #[.slice (some ⟨b, 0, none⟩) n c], g.val] w (GaveHeap w (gs ++ [g])) := by
  have hVH := fun w (h : GrRow w b gs) => validHeap_any b n c gs w hl h (by omega)
  rw [hv] at hVH
  have HVH := Lib.hid hVH
  have hlo : (gs ++ [g]).length = n + 1 := by simp [hl]
  have HHe := Lib.hid fun w b' c' (h : GrRow w b' (gs ++ [g])) => heapOf_of b' (n + 1) c' (gs ++ [g]) w hlo h (by omega)
  have HL := Lib.hid hl
  have HR := Lib.hid hr
  have HV2 := Lib.hid hv2
  clear hVH hl hr hv hv2
  obtain ⟨ax, ay, sx, sy, r, m, t, s, hh⟩ := g
  unfold Gr.val
  dsimp only
  have hsf := run_store_float' Try.prog
  have hsc := run_store_complex Try.prog
  have hbel := (((Below.refl w.heap.size w).alloc (Nat.le_refl _) (.cells #[.slice (some ⟨b, 0, none⟩) n c] 26)).alloc (by simp) (.cells #[.complex .f32 ax ay, .complex .f32 sx sy, .float .f32 r, .float .f32 m, .float .f32 t, .float .f32 s, .bool hh] 37)).alloc (by simp; omega) (.cells #[.slice none 0 0] 26)
  have HB0 := Lib.hid (show Blk (((w.alloc (.cells #[.slice (some ⟨b, 0, none⟩) n c] 26)).alloc (.cells #[.complex .f32 ax ay, .complex .f32 sx sy, .float .f32 r, .float .f32 m, .float .f32 t, .float .f32 s, .bool hh] 37)).alloc (.cells #[.slice none 0 0] 26)) w.heap.size 26 _ from ((blk_new w _ _ _ rfl).alloc _).alloc _)
  have HB1 := Lib.hid (show Blk (((w.alloc (.cells #[.slice (some ⟨b, 0, none⟩) n c] 26)).alloc (.cells #[.complex .f32 ax ay, .complex .f32 sx sy, .float .f32 r, .float .f32 m, .float .f32 t, .float .f32 s, .bool hh] 37)).alloc (.cells #[.slice none 0 0] 26)) (w.heap.size + 1) 37 _ from (blk_new (w.alloc (.cells #[.slice (some ⟨b, 0, none⟩) n c] 26)) _ _ _ (by simp)).alloc _)
  have HB2 := Lib.hid (show Blk (((w.alloc (.cells #[.slice (some ⟨b, 0, none⟩) n c] 26)).alloc (.cells #[.complex .f32 ax ay, .complex .f32 sx sy, .float .f32 r, .float .f32 m, .float .f32 t, .float .f32 s, .bool hh] 37)).alloc (.cells #[.slice none 0 0] 26)) (w.heap.size + 1 + 1) 26 _ from blk_new _ _ _ _ (by simp))
  have HR0 := Lib.hid (HR.out.below hbel (Nat.le_refl _))
  have HBel := Lib.hid hbel
  clear hbel
  go_enter Try.func15, Try.ntmps15
  go_wp2_with fail
  refine (HVH.out _ HR0.out).mono ?_
  rintro e w1 ⟨rfl, hb⟩
  have L1 := Lib.hid (below_next HBel.out hb)
  have R1 := Lib.hid (HR0.out.below hb (Nat.le_refl _))
  have A1 := Lib.hid (blk_next HB0.out hb)
  have G1 := Lib.hid (blk_next HB1.out hb)
  have P1 := Lib.hid (blk_next HB2.out hb)
  have a0 := A1.out.cell 0
  have g0 := G1.out.cell 0
  have g1 := G1.out.cell 1
  have g2 := G1.out.cell 2
  have g3 := G1.out.cell 3
  have g4 := G1.out.cell 4
  have g5 := G1.out.cell 5
  have g6 := G1.out.cell 6
  clear hb
  go_wp2_with fail
  have hC : Blk ((w1.alloc (.cells #[.complex .f32 ax ay, .complex .f32 sx sy, .float .f32 r, .float .f32 m, .float .f32 t, .float .f32 s, .bool hh] 37)).alloc (.cells #[.slice (some ⟨b, 0, none⟩) n c, .slice (some ⟨w1.heap.size, 0, none⟩) 1 1] 24)) (w1.heap.size + 1) 24 _ := blk_new _ _ _ _ (by simp)
  have hY : PartOf ((w1.alloc (.cells #[.complex .f32 ax ay, .complex .f32 sx sy, .float .f32 r, .float .f32 m, .float .f32 t, .float .f32 s, .bool hh] 37)).alloc (.cells #[.slice (some ⟨b, 0, none⟩) n c, .slice (some ⟨w1.heap.size, 0, none⟩) 1 1] 24)) ⟨w1.heap.size, 0, none⟩ 1 [⟨ax, ay, sx, sy, r, m, t, s, hh⟩] := by
    have hy : PartOf (w1.alloc (.cells #[.complex .f32 ax ay, .complex .f32 sx sy, .float .f32 r, .float .f32 m, .float .f32 t, .float .f32 s, .bool hh] 37)) ⟨w1.heap.size, 0, none⟩ 1 [⟨ax, ay, sx, sy, r, m, t, s, hh⟩] := ⟨rfl, fun j u hu => gr_at w1 37 ⟨ax, ay, sx, sy, r, m, t, s, hh⟩ w1.heap.size rfl j u (by simpa [gcells] using hu)⟩
    exact hy.next ((Below.refl _ _).alloc (Nat.le_refl _) _)
  have hX : PartOf ((w1.alloc (.cells #[.complex .f32 ax ay, .complex .f32 sx sy, .float .f32 r, .float .f32 m, .float .f32 t, .float .f32 s, .bool hh] 37)).alloc (.cells #[.slice (some ⟨b, 0, none⟩) n c, .slice (some ⟨w1.heap.size, 0, none⟩) 1 1] 24)) ⟨b, 0, none⟩ n gs := part_row ((R1.out.alloc _).alloc _) HL.out
  have HCo := Lib.hid (concat_of (w1.heap.size + 1) 2 ⟨b, 0, none⟩ ⟨w1.heap.size, 0, none⟩ n c 1 1 gs [⟨ax, ay, sx, sy, r, m, t, s, hh⟩] _ (hC.cell 0) (hC.cell 1) hX hY (by omega) (by omega))
  have L2 := Lib.hid ((L1.out.alloc L1.out.size (.cells #[.complex .f32 ax ay, .complex .f32 sx sy, .float .f32 r, .float .f32 m, .float .f32 t, .float .f32 s, .bool hh] 37)).alloc (by have := L1.out.size; simp; omega) (.cells #[.slice (some ⟨b, 0, none⟩) n c, .slice (some ⟨w1.heap.size, 0, none⟩) 1 1] 24))
  have P2 := Lib.hid ((P1.out.alloc (.cells #[.complex .f32 ax ay, .complex .f32 sx sy, .float .f32 r, .float .f32 m, .float .f32 t, .float .f32 s, .bool hh] 37)).alloc (.cells #[.slice (some ⟨b, 0, none⟩) n c, .slice (some ⟨w1.heap.size, 0, none⟩) 1 1] 24))
  clear hC hX hY a0 g0 g1 g2 g3 g4 g5 g6
  refine HCo.out.mono ?_
  rintro e w2 ⟨v', rfl, hown, hb⟩
  have hown2 := own_from hown L2.out.size
  obtain ⟨b2, c2, hv, _⟩ := own_form hown2 (by omega)
  subst hv
  have hHe := HHe.out w2 b2 c2 (row_of_own hown2 hlo)
  rw [HV2.out] at hHe
  have HG' := Lib.hid (give_yes hHe)
  have O2 := Lib.hid hown2
  have L3 := Lib.hid (below_next L2.out hb)
  have P3 := Lib.hid (blk_next P2.out hb)
  clear hown hown2 hb hHe
  go_wp2_with fail
  refine HG'.out.mono ?_
  rintro e w4 ⟨rfl, hb⟩
  have O5 := Lib.hid (own_below O2.out hb (Nat.le_refl _))
  have P5 := Lib.hid (blk_next P3.out hb)
  have L5 := Lib.hid (below_next L3.out hb)
  have p0 := P5.out.cell 0
  have q0 := P5.out.frozen 0
  clear hb
  go_wp2
  refine bodyPost_ret (v := .tuple #[.agg #[.slice (some ⟨b2, 0, none⟩) (n + 1) c2], .bool true]) (results_row_tmp Try.results15 _ _ (w.heap.size + 1 + 1) 26 #[.slice (some ⟨b2, 0, none⟩) (n + 1) c2] _ _ rfl (P5.out.set_ 0 _) rfl Try.underlying26 rfl (by kernel_rfl)) rfl ?_
  unfold GaveHeap
  rw [hlo]
  exact ⟨_, _, rfl, own_far O5.out P5.out neGH' 0 _, L5.out.setCell (by show w.heap.size ≤ w.heap.size + 1 + 1; omega) _⟩
end Go.Proofs.Ytbggklhnnjikjaa

namespace Go.Proofs.Ytbggklhnnjikjaa
open Go.RowKit Fl

/-- a row of the call's own, with the result's variable as it was -/
def RowGave (w : World) (n : Nat) (gs : List Gr) (e : Ending) (w' : World) : Prop := ∃ b c, e = .returned (.slice (some ⟨b, 0, none⟩) n c) ∧ w'.ownsRow w.heap.size 37 7 (.slice (some ⟨b, 0, none⟩) n c) n (gcells gs) ∧ Below w.heap.size w w' ∧ Blk w' (w.heap.size + 1) 26 #[.slice none 0 0]
set_option maxRecDepth 100000 in
set_option maxHeartbeats 3200000 in
theorem dropLast_of (b n c : Nat) (gs : List Gr) (w : World) (hl : gs.length = n + 1) (hr : GrRow w b gs) (h1 : 1 ≤ n) (hn : n ≤ 23) (hc : n + 1 ≤ c) (hv : gs.all Gr.valid = true) (hv2 : (gs.take n).all Gr.valid = true) :
    Calls Try.prog 16 #[.agg #[.slice (some ⟨b, 0, none⟩) (n + 1) c], .int .i64 n] w (GaveHeap w (gs.take n)) := by
  have hVH := fun w (h : GrRow w b gs) => validHeap_any b (n + 1) c gs w hl h (by omega)
  rw [hv] at hVH
  have HVH := Lib.hid hVH
  have hlo : (gs.take n).length = n := by rw [List.length_take]; omega
  have HHe := Lib.hid fun w b' c' (h : GrRow w b' (gs.take n)) => heapOf_of b' n c' (gs.take n) w hlo h (by omega)
  have HIx := Lib.hid fun W => isIndex_yes (some ⟨b, 0, none⟩) (n + 1) c n W (by omega) (by omega)
  have HL := Lib.hid hl
  have HV2 := Lib.hid hv2
  have hbel := ((Below.refl w.heap.size w).alloc (Nat.le_refl _) (.cells #[.slice (some ⟨b, 0, none⟩) (n + 1) c] 26)).alloc (by simp) (.cells #[.slice none 0 0] 26)
  have HB0 := Lib.hid (show Blk ((w.alloc (.cells #[.slice (some ⟨b, 0, none⟩) (n + 1) c] 26)).alloc (.cells #[.slice none 0 0] 26)) w.heap.size 26 _ from (blk_new w _ _ _ rfl).alloc _)
  have HB2 := Lib.hid (show Blk ((w.alloc (.cells #[.slice (some ⟨b, 0, none⟩) (n + 1) c] 26)).alloc (.cells #[.slice none 0 0] 26)) (w.heap.size + 1) 26 _ from blk_new _ _ _ _ (by simp))
  have HR0 := Lib.hid (hr.below hbel (Nat.le_refl _))
  have HBel := Lib.hid hbel
  clear hVH hl hr hv hv2 hbel
  go_enter Try.func16, Try.ntmps16
  go_wp2_with fail
  refine (HVH.out _ HR0.out).mono ?_
  rintro e w1 ⟨rfl, hb⟩
  have L1 := Lib.hid (below_next HBel.out hb)
  have R1 := Lib.hid (HR0.out.below hb (Nat.le_refl _))
  have A1 := Lib.hid (blk_next HB0.out hb)
  have P1 := Lib.hid (blk_next HB2.out hb)
  have a0 := A1.out.cell 0
  have i1 : (0 : Int) ≤ (n : Int) := by omega
  have i2 : (n : Int) ≤ ((n + 1 : Nat) : Int) := by omega
  have i3 : (n : Int) ≤ (c : Int) := by omega
  have i4 : ((n + 1 : Nat) : Int) ≤ (c : Int) := by omega
  clear hb
  go_wp2_with fail
  refine (HIx.out _).mono ?_
  rintro e w2 ⟨rfl, hb⟩
  have L2 := Lib.hid (below_next L1.out hb)
  have R2 := Lib.hid (R1.out.below hb (Nat.le_refl _))
  have A2 := Lib.hid (blk_next A1.out hb)
  have P2 := Lib.hid (blk_next P1.out hb)
  have a2 := A2.out.cell 0
  clear hb a0
  go_wp2_with fail
  have hX : PartOf w2 ⟨b, 0, none⟩ n (gs.take n) := by
    have := part_at R2.out 0 n (by rw [HL.out]; omega)
    rwa [List.drop_zero] at this
  have HCo := Lib.hid fun (a2 : Addr) (c2 : Nat) => (show Calls Try.prog 56 #[.slice (some ⟨w2.heap.size, 0, none⟩) 2 2] (w2.alloc (.cells #[.slice (some ⟨b, 0, none⟩) n c, .slice (some a2) 0 c2] 24)).drew (RowGave w n (gs.take n)) from by
    refine (concat_of w2.heap.size 2 ⟨b, 0, none⟩ a2 n c 0 c2 (gs.take n) [] (w2.alloc (.cells #[.slice (some ⟨b, 0, none⟩) n c, .slice (some a2) 0 c2] 24)).drew ((blk_new w2 24 #[.slice (some ⟨b, 0, none⟩) n c, .slice (some a2) 0 c2] _ rfl).cell 0) ((blk_new w2 24 #[.slice (some ⟨b, 0, none⟩) n c, .slice (some a2) 0 c2] _ rfl).cell 1) (hX.next ((Below.refl _ _).alloc (Nat.le_refl _) _).drew) ⟨rfl, fun j u hu => by simp [gcells] at hu⟩ (by omega) (by omega)).mono ?_
    rintro e w3 ⟨v', rfl, hown, hb⟩
    rw [Nat.add_zero, List.append_nil] at hown
    have hsz := L2.out.size
    have hown2 := own_from hown (show w.heap.size ≤ _ by show w.heap.size ≤ (w2.alloc _).heap.size; simp; omega)
    obtain ⟨b3, c3, hv3, _⟩ := own_form hown2 (by omega)
    subst hv3
    exact ⟨b3, c3, rfl, hown2, below_next (L2.out.alloc hsz _).drew hb, blk_next (show Blk (w2.alloc _).drew _ _ _ from P2.out.alloc _) hb⟩)
  have HHf := Lib.hid fun (W : World) (b' c' : Nat) (h : GrRow W b' (gs.take n)) => (show Calls Try.prog 55 #[.slice (some ⟨b', 0, none⟩) n c'] W fun e w' => e = .returned (.tuple #[.agg #[.slice (some ⟨b', 0, none⟩) n c'], .bool true]) ∧ Below W.heap.size W w' by have h9 := HHe.out W b' c' h; rw [HV2.out] at h9; exact give_yes h9)
  have hwr : IntKind.i64.wrap ((n : Int) + 1) = (n : Int) + 1 := by rw [IntKind.wrap_i64]; omega
  clear hX
  by_cases hcc : c = n + 1
  · subst hcc
    go_region_with (first
      | (go_at_call 56; (with_reducible refine (HCo.out _ _).mono ?_); rintro e w3 ⟨b3, c3, rfl, hown, hb, hp⟩; have L3 := Lib.hid hb; have P3 := Lib.hid hp; have O3 := Lib.hid hown; have R3 := Lib.hid (row_of_own hown hlo); clear hown hb hp)
      | (go_at_call 55; (with_reducible refine (HHf.out _ _ _ R3.out).mono ?_); rintro e w4 ⟨rfl, hb⟩; have L4 := Lib.hid (below_next L3.out hb); have P4 := Lib.hid (blk_next P3.out hb); have O4 := Lib.hid (own_below O3.out hb (Nat.le_refl _)); have p0 := P4.out.cell 0; have q0 := P4.out.frozen 0; clear hb))
    all_goals
      go_wp2
      refine bodyPost_ret (v := .tuple #[.agg #[.slice (some ⟨b3, 0, none⟩) n c3], .bool true]) (results_row_tmp Try.results16 _ _ (w.heap.size + 1) 26 #[.slice (some ⟨b3, 0, none⟩) n c3] _ _ rfl (P4.out.set_ 0 _) rfl Try.underlying26 rfl (by kernel_rfl)) rfl ?_
      unfold GaveHeap
      rw [hlo]
      exact ⟨_, _, rfl, own_far O4.out P4.out neGH' 0 _, L4.out.setCell (by show w.heap.size ≤ w.heap.size + 1; omega) _⟩
  · have hcc2 : n + 1 < c := by omega
    go_region_with (first
      | (go_at_call 56; (with_reducible refine (HCo.out _ _).mono ?_); rintro e w3 ⟨b3, c3, rfl, hown, hb, hp⟩; have L3 := Lib.hid hb; have P3 := Lib.hid hp; have O3 := Lib.hid hown; have R3 := Lib.hid (row_of_own hown hlo); clear hown hb hp)
      | (go_at_call 55; (with_reducible refine (HHf.out _ _ _ R3.out).mono ?_); rintro e w4 ⟨rfl, hb⟩; have L4 := Lib.hid (below_next L3.out hb); have P4 := Lib.hid (blk_next P3.out hb); have O4 := Lib.hid (own_below O3.out hb (Nat.le_refl _)); have p0 := P4.out.cell 0; have q0 := P4.out.frozen 0; clear hb))
    all_goals
      go_wp2
      refine bodyPost_ret (v := .tuple #[.agg #[.slice (some ⟨b3, 0, none⟩) n c3], .bool true]) (results_row_tmp Try.results16 _ _ (w.heap.size + 1) 26 #[.slice (some ⟨b3, 0, none⟩) n c3] _ _ rfl (P4.out.set_ 0 _) rfl Try.underlying26 rfl (by kernel_rfl)) rfl ?_
      unfold GaveHeap
      rw [hlo]
      exact ⟨_, _, rfl, own_far O4.out P4.out neGH' 0 _, L4.out.setCell (by show w.heap.size ≤ w.heap.size + 1; omega) _⟩
end Go.Proofs.Ytbggklhnnjikjaa

namespace Go.Proofs.Ytbggklhnnjikjaa
open Go.RowKit Fl

theorem r8Long_of (ao bo : Option Addr) (n c n' c' : Nat) (w : World) :
    Calls Try.prog 9 #[.slice ao n c, .slice bo n' c'] w fun e w' => e = .returned (.bool (decide (48 < n) || decide (48 < n'))) ∧ w = w' := by
  by_cases h : 48 < n <;> by_cases h' : 48 < n'
  all_goals
    go_enter Try.func9, Try.ntmps9
    go_wp2
    go_ret
    exact ⟨by first | rfl | (simp [h, h']; done) | (simp [h, h']; omega), rfl⟩
/-- a number below k -/
def At8 (k : Int) (w : World) (e : Ending) (w' : World) : Prop := ∃ x : Int, 0 ≤ x ∧ x < k ∧ e = .returned (.int .i64 x) ∧ w = w'
set_option maxHeartbeats 800000 in
theorem r8At_of (ao : Option Addr) (n c i : Nat) (k : Int) (w : World) (hr : BRow w ao n) (hn : n ≤ 1048576) (hi : i ≤ 1000) (h1 : 1 ≤ k) (h2 : k ≤ 1000000) :
    Calls Try.prog 11 #[.slice ao n c, .int .i64 i, .int .i64 k] w (At8 k w) := by
  have HR := Lib.hid hr
  clear hr
  by_cases hk : k ≤ 1
  · go_enter Try.func11, Try.ntmps11
    go_wp2
    go_ret
    exact ⟨0, by omega, by omega, rfl, rfl⟩
  · by_cases hin : i < n
    · obtain ⟨a, rfl⟩ := HR.out.addr (by omega)
      obtain ⟨v, hv, hc⟩ := HR.out.cell a rfl i hin
      go_enter Try.func11, Try.ntmps11
      go_wp2
      go_ret
      exact ⟨_, Int.emod_nonneg _ (by omega), Int.emod_lt_of_pos _ (by omega), rfl, rfl⟩
    · go_enter Try.func11, Try.ntmps11
      go_wp2
      go_ret
      exact ⟨0, by omega, by omega, rfl, rfl⟩
end Go.Proofs.Ytbggklhnnjikjaa

namespace Go.Proofs.Ytbggklhnnjikjaa
open Go.ChangeShapes Go.WideShapes Go.Deep Go.RowKit Go.ChangeAt

theorem trod_byte {H : Type} {enc : TypeId × Value → H} {P : Program} {w : World} {base : Nat} {spare : Nat → Bool} {held : Bool} {t : TypeId} {fuel : Nat} {v : Value} {x : DataW H × List MemPlace}
    (ht : P.underlying t = some (.int .u8)) (h : DataW.trod enc P w base spare held fuel t [v] = some x) : ∃ b : Nat, v = .int .u8 b ∧ b < 256 := by
  have key : ∃ b : Int, v = .int .u8 b ∧ (Lit.int .u8 b).wf = true := by
    cases fuel with
    | zero => simp [DataW.trod] at h
    | succ n =>
      unfold DataW.trod at h
      rw [ht] at h
      split at h <;> simp_all
  obtain ⟨b, hb, hw⟩ := key
  have hr := bounds_u8 hw
  obtain ⟨n, rfl⟩ := Int.eq_ofNat_of_zero_le hr.1
  exact ⟨n, hb, by omega⟩
theorem open_brow {H : Type} {enc : TypeId × Value → H} {P : Program} {W : World} {t e : TypeId} {ao : Option Addr} {n c : Nat} {d : DataW H} {ps : List MemPlace}
    (ht : P.underlying t = some (.slice e)) (he : P.underlying e = some (.int .u8)) (hc : P.cellsOf e = 1) (h : DataW.Trod enc P W 0 (fun _ => true) true t (.slice ao n c) d ps) : BRow W ao n := by
  obtain ⟨fuel, hf⟩ := h
  rcases open_slice1 ht hc hf with ⟨hcs, _⟩ | ⟨a, len, cap, m, k, V, D, Pl, hcs, _, hl, hcap, hm, _, hx⟩
  · simp [Value.cells] at hcs
    obtain ⟨rfl, rfl, rfl⟩ := hcs
    exact ⟨by omega, fun h => by omega, fun a ha => by cases ha⟩
  · simp [Value.cells] at hcs
    obtain ⟨rfl, rfl, rfl⟩ := hcs
    have hnm : n ≤ m := by rw [hm]; simp; exact hl
    refine ⟨by unfold maxLen at hcap; omega, fun _ => ⟨a, rfl⟩, fun a' ha' i hi => ?_⟩
    obtain rfl := Option.some.inj ha'
    obtain ⟨b, hb, hlt⟩ := trod_byte he (hx i (by omega)).2
    exact ⟨b, hlt, by rw [(hx i (by omega)).1, hb]⟩
end Go.Proofs.Ytbggklhnnjikjaa

namespace Go.Proofs.Ytbggklhnnjikjaa
open Go.RowKit Fl

/-- a variable that holds a heap -/
structure HVn (W : World) (B b n c : Nat) (gs : List Gr) : Prop where
  d : Blk W B 26 #[.slice (some ⟨b, 0, none⟩) n c]
  r : GrRow W b gs
theorem HVn.next {W W' : World} {B b n c : Nat} {gs : List Gr} (h : HVn W B b n c gs) (hb : Below W.heap.size W W') : HVn W' B b n c gs := ⟨blk_next h.d hb, h.r.below hb (Nat.le_refl _)⟩
theorem HVn.alloc {W : World} {B b n c : Nat} {gs : List Gr} (h : HVn W B b n c gs) (o : Obj) : HVn (W.alloc o) B b n c gs := ⟨h.d.alloc o, h.r.alloc o⟩
theorem HVn.drewN {W : World} {B b n c : Nat} {gs : List Gr} (h : HVn W B b n c gs) (m : Nat) : HVn (W.drewN m) B b n c gs := ⟨h.d, h.r.quiet ⟨m, rfl⟩⟩
structure HVar where
  B : Nat
  b : Nat
  n : Nat
  c : Nat
  gs : List Gr
structure KeepN (w W : World) (hv : List HVar) : Prop where
  l : Below w.heap.size w W
  v : ∀ x ∈ hv, HVn W x.B x.b x.n x.c x.gs
theorem KeepN.nil {w W : World} (h : Below w.heap.size w W) : KeepN w W [] := ⟨h, fun x hx => by cases hx⟩
theorem KeepN.next {w W W' : World} {hv : List HVar} (h : KeepN w W hv) (hb : Below W.heap.size W W') : KeepN w W' hv := ⟨below_next h.l hb, fun x hx => (h.v x hx).next hb⟩
theorem KeepN.drewN {w W : World} {hv : List HVar} (h : KeepN w W hv) (m : Nat) : KeepN w (W.drewN m) hv := ⟨below_drewN h.l m, fun x hx => (h.v x hx).drewN m⟩
theorem KeepN.push {w W : World} {hv : List HVar} (h : KeepN w W hv) (b n c : Nat) (gs : List Gr) (hr : GrRow W b gs) : KeepN w (W.alloc (.cells #[.slice (some ⟨b, 0, none⟩) n c] 26)) (⟨W.heap.size, b, n, c, gs⟩ :: hv) :=
  ⟨h.l.alloc h.l.size _, fun x hx => by
    rcases List.mem_cons.1 hx with rfl | hx
    · exact ⟨blk_new W _ _ _ rfl, hr.alloc _⟩
    · exact (h.v x hx).alloc _⟩
theorem KeepN.far {w W : World} {hv : List HVar} (h : KeepN w W hv) {p : Addr} (u : Value) (hp : w.heap.size ≤ p.block) (hq : ∀ x ∈ hv, x.B ≠ p.block ∧ x.b ≠ p.block) : KeepN w (W.setCell p u) hv :=
  ⟨h.l.setCell hp u, fun x hx => ⟨(h.v x hx).d.far (hq x hx).1 u, fun k hk => by
    obtain ⟨q0, q1, q2, q3, q4, q5, q6⟩ := (h.v x hx).r k hk
    have hne : ∀ o, p.block ≠ (⟨x.b, o, none⟩ : Addr).block := fun o => fun e => (hq x hx).2 e.symm
    exact ⟨by rw [World.cell?_setCell_far _ _ _ _ (hne _)]; exact q0, by rw [World.cell?_setCell_far _ _ _ _ (hne _)]; exact q1, by rw [World.cell?_setCell_far _ _ _ _ (hne _)]; exact q2, by rw [World.cell?_setCell_far _ _ _ _ (hne _)]; exact q3, by rw [World.cell?_setCell_far _ _ _ _ (hne _)]; exact q4, by rw [World.cell?_setCell_far _ _ _ _ (hne _)]; exact q5, by rw [World.cell?_setCell_far _ _ _ _ (hne _)]; exact q6⟩⟩⟩
theorem KeepN.alloc {w W : World} {hv : List HVar} (h : KeepN w W hv) (o : Obj) : KeepN w (W.alloc o) hv := ⟨h.l.alloc h.l.size o, fun x hx => (h.v x hx).alloc o⟩
/-- all variables' blocks are there -/
theorem KeepN.lt {w W : World} {hv : List HVar} (h : KeepN w W hv) (hg : ∀ x ∈ hv, 0 < x.gs.length) : ∀ x ∈ hv, x.B < W.heap.size ∧ x.b < W.heap.size := fun x hx =>
  ⟨(h.v x hx).d.lt, World.block_lt_of_cell? W _ ((h.v x hx).r 0 (hg x hx)).c0⟩
/-- a variable that was laid ahead of the call, and filled behind it -/
theorem KeepN.fill {w W W' : World} {hv : List HVar} {B b n c : Nat} {gs : List Gr} {t0 : Value} (h : KeepN w W hv) (hg : ∀ x ∈ hv, 0 < x.gs.length) (hB : B = W.heap.size) (hb : Below (W.alloc (.cells #[t0] 26)).heap.size (W.alloc (.cells #[t0] 26)) W') (hr : GrRow W' b gs) (hbB : b ≠ B) :
    KeepN w (W'.setCell ⟨B, 0, none⟩ (.slice (some ⟨b, 0, none⟩) n c)) (⟨B, b, n, c, gs⟩ :: hv) := by
  subst hB
  have h1 := h.alloc (.cells #[t0] 26)
  have h2 := h1.next hb
  have hlt := h.lt hg
  have h3 := h2.far (p := ⟨W.heap.size, 0, none⟩) (.slice (some ⟨b, 0, none⟩) n c) h.l.size (fun x hx => ⟨Nat.ne_of_lt (hlt x hx).1, Nat.ne_of_lt (hlt x hx).2⟩)
  refine ⟨h3.l, fun x hx => ?_⟩
  rcases List.mem_cons.1 hx with rfl | hx
  · refine ⟨?_, ?_⟩
    · have hblk := blk_next (blk_new W 26 #[t0] _ rfl) hb
      exact hblk.set_ 0 _
    · intro k hk'
      obtain ⟨q0, q1, q2, q3, q4, q5, q6⟩ := hr k hk'
      have hne : ∀ o, (⟨W.heap.size, 0, none⟩ : Addr).block ≠ (⟨b, o, none⟩ : Addr).block := fun o => fun e => hbB e.symm
      exact ⟨by rw [World.cell?_setCell_far _ _ _ _ (hne _)]; exact q0, by rw [World.cell?_setCell_far _ _ _ _ (hne _)]; exact q1, by rw [World.cell?_setCell_far _ _ _ _ (hne _)]; exact q2, by rw [World.cell?_setCell_far _ _ _ _ (hne _)]; exact q3, by rw [World.cell?_setCell_far _ _ _ _ (hne _)]; exact q4, by rw [World.cell?_setCell_far _ _ _ _ (hne _)]; exact q5, by rw [World.cell?_setCell_far _ _ _ _ (hne _)]; exact q6⟩
  · exact h3.v x hx
/-- a statement that ends in one frame but for three numbers -/
theorem wp_over {P : Program} {c : Code} {Q : Exit → Act → World → Prop} {a : Act} {w : World} (F : Nat → Nat → Nat → Act) (X : Nat → Nat → Nat → World → Prop) (h1 : c.wp P (onEnd (fun a w' => ∃ B b d, a = F B b d ∧ X B b d w')) a w) (h2 : ∀ B b d w', X B b d w' → Q .normal (F B b d) w') : c.wp P Q a w :=
  Code.wp_mono (fun e a w h => by
    cases e
    case normal => obtain ⟨B, b, d, rfl, hx⟩ := h; exact h2 B b d w hx
    all_goals exact h.elim) h1
theorem new_kept {W W' : World} {t : TypeId} {v : Value} (hb : Below (W.alloc (.cells #[v] t)).drew.heap.size (W.alloc (.cells #[v] t)).drew W') : W'.cell? ⟨W.heap.size, 0, none⟩ = some v ∧ W'.frozen? ⟨W.heap.size, 0, none⟩ = false := by
  have h : Blk W' W.heap.size t #[v] := blk_next (w0 := (W.alloc (.cells #[v] t)).drew) (show Blk (W.alloc (.cells #[v] t)) W.heap.size t #[v] from blk_new W t #[v] _ rfl) hb
  exact ⟨h.cell 0, h.frozen 0⟩
/-- the cells of a heap's variable and of its first grain -/
@[reducible] def HCells (B bh n ch : Nat) (ax ay sx sy rr mm tt ss : Nat) (hh : Bool) (w' : World) : Prop := w'.cell? ⟨B, 0, none⟩ = some (.slice (some ⟨bh, 0, none⟩) n ch) ∧ w'.cell? ⟨bh, 0, none⟩ = some (.complex .f32 ax ay) ∧ w'.cell? ⟨bh, 1, none⟩ = some (.complex .f32 sx sy) ∧ w'.cell? ⟨bh, 2, none⟩ = some (.float .f32 rr) ∧ w'.cell? ⟨bh, 3, none⟩ = some (.float .f32 mm) ∧ w'.cell? ⟨bh, 4, none⟩ = some (.float .f32 tt) ∧ w'.cell? ⟨bh, 5, none⟩ = some (.float .f32 ss) ∧ w'.cell? ⟨bh, 6, none⟩ = some (.bool hh)
theorem HCells.keep {B bh n ch ax ay sx sy rr mm tt ss : Nat} {hh : Bool} {V W : World} (f : ∀ a v, V.cell? a = some v → (a.block = B ∨ a.block = bh) → W.cell? a = some v) (h : HCells B bh n ch ax ay sx sy rr mm tt ss hh V) : HCells B bh n ch ax ay sx sy rr mm tt ss hh W :=
  ⟨f _ _ h.1 (.inl rfl), f _ _ h.2.1 (.inr rfl), f _ _ h.2.2.1 (.inr rfl), f _ _ h.2.2.2.1 (.inr rfl), f _ _ h.2.2.2.2.1 (.inr rfl), f _ _ h.2.2.2.2.2.1 (.inr rfl), f _ _ h.2.2.2.2.2.2.1 (.inr rfl), f _ _ h.2.2.2.2.2.2.2 (.inr rfl)⟩
theorem HCells.next {B bh n ch ax ay sx sy rr mm tt ss : Nat} {hh : Bool} {V W : World} (hb : Below V.heap.size V W) (h : HCells B bh n ch ax ay sx sy rr mm tt ss hh V) : HCells B bh n ch ax ay sx sy rr mm tt ss hh W := h.keep (fun _ _ hc _ => cell_keep hb hc)
theorem HCells.alloc {B bh n ch ax ay sx sy rr mm tt ss : Nat} {hh : Bool} {V : World} (o : Obj) (h : HCells B bh n ch ax ay sx sy rr mm tt ss hh V) : HCells B bh n ch ax ay sx sy rr mm tt ss hh (V.alloc o) := h.next ((Below.refl V.heap.size V).alloc (Nat.le_refl _) o)
theorem HCells.far {B bh n ch ax ay sx sy rr mm tt ss : Nat} {hh : Bool} {V : World} {p : Addr} {u : Value} (h1 : p.block ≠ B) (h2 : p.block ≠ bh) (h : HCells B bh n ch ax ay sx sy rr mm tt ss hh V) : HCells B bh n ch ax ay sx sy rr mm tt ss hh (V.setCell p u) :=
  h.keep (fun _ _ hc ha => by
    rw [World.cell?_setCell_far _ _ _ _ (by rcases ha with e | e <;> rw [e] <;> assumption)]; exact hc)
theorem HCells.realloc {B bh n ch ax ay sx sy rr mm tt ss : Nat} {hh : Bool} {V : World} {o : Obj} (o' : Obj) (h1 : B < V.heap.size) (h2 : bh < V.heap.size) (h : HCells B bh n ch ax ay sx sy rr mm tt ss hh (V.alloc o)) : HCells B bh n ch ax ay sx sy rr mm tt ss hh (V.alloc o') :=
  h.keep (fun a v hc ha => by
    have h3 : a.block < V.heap.size := by rcases ha with e | e <;> rw [e] <;> assumption
    rw [World.cell?_alloc_lt _ _ _ h3] at hc ⊢; exact hc)
/-- a heap is given -/
def GaveN (w : World) (n : Nat) (gs : List Gr) (e : Ending) (w' : World) : Prop := ∃ b c, e = .returned (.tuple #[.agg #[.slice (some ⟨b, 0, none⟩) n c], .bool true]) ∧ n ≤ c ∧ w.heap.size ≤ b ∧ GrRow w' b gs ∧ Below w.heap.size w w'
theorem gaveN {w : World} {n : Nat} {gs : List Gr} (hl : gs.length = n) (e : Ending) (w' : World) (h : GaveHeap w gs e w') : GaveN w n gs e w' := by
  unfold GaveHeap at h
  rw [hl] at h
  obtain ⟨b, c, h1, h2, h3⟩ := h
  rcases h2.2 with ⟨h0, hn⟩ | ⟨g, cap, cur, hv, hge, _, hle, _⟩
  · cases h0
  · injection hv with e1 e2 e3
    injection e1 with e1
    injection e1 with e1
    exact ⟨b, c, h1, by omega, by omega, row_of_own h2 hl, h3⟩
/-- the contracts of all calls, and what their answers become -/
structure HeapsC (fx fy n : Nat) (gs mi tw mv bk ad ot : List Gr) (ma mb cx cy dx dy R I R' I' tu tv ex ey i j v gt ge : Nat) : Prop where
  mir : ∀ (W : World) (b c : Nat), GrRow W b gs → Calls Try.prog 12 #[.agg #[.slice (some ⟨b, 0, none⟩) n c]] W (GaveN W n mi)
  twi : ∀ (W : World) (b c : Nat), GrRow W b mi → Calls Try.prog 12 #[.agg #[.slice (some ⟨b, 0, none⟩) n c]] W (GaveN W n tw)
  mov : ∀ (W : World) (b c : Nat), GrRow W b gs → Calls Try.prog 14 #[.agg #[.slice (some ⟨b, 0, none⟩) n c], .complex .f32 fx fy] W (GaveN W n mv)
  bck : ∀ (W : World) (b c : Nat), GrRow W b mv → Calls Try.prog 14 #[.agg #[.slice (some ⟨b, 0, none⟩) n c], .complex .f32 (Op.negFloat .f32 fx) (Op.negFloat .f32 fy)] W (GaveN W n bk)
  add : ∀ (W : World) (b c : Nat), GrRow W b gs → Calls Try.prog 15 #[.agg #[.slice (some ⟨b, 0, none⟩) n c], (gs.getD 0 default).val] W (GaveN W (n + 1) ad)
  drop : ∀ (W : World) (b c : Nat), n + 1 ≤ c → GrRow W b ad → Calls Try.prog 16 #[.agg #[.slice (some ⟨b, 0, none⟩) (n + 1) c], .int .i64 n] W (GaveN W n gs)
  ord : ∀ (W : World) (b c bo co : Nat), GrRow W b gs → NRow W (some ⟨bo, 0, none⟩) n (revN n) → Calls Try.prog 17 #[.agg #[.slice (some ⟨b, 0, none⟩) n c], .slice (some ⟨bo, 0, none⟩) n co] W (GaveN W n ot)
  orb : ∀ (W : World) (b c bo co : Nat), GrRow W b ot → NRow W (some ⟨bo, 0, none⟩) n (revN n) → Calls Try.prog 17 #[.agg #[.slice (some ⟨b, 0, none⟩) n c], .slice (some ⟨bo, 0, none⟩) n co] W (GaveN W n gs)
  same : ∀ (W : World) (b c b' c' : Nat), GrRow W b gs → GrRow W b' gs → Calls Try.prog 18 #[.agg #[.slice (some ⟨b, 0, none⟩) n c], .agg #[.slice (some ⟨b', 0, none⟩) n c']] W fun e w' => e = .returned (.bool true) ∧ Below W.heap.size W w'
  msA : ∀ (W : World) (b c : Nat), GrRow W b gs → Calls Try.prog 19 #[.agg #[.slice (some ⟨b, 0, none⟩) n c]] W fun e w' => e = .returned (.tuple #[.float .f32 ma, .bool true]) ∧ Below W.heap.size W w'
  msB : ∀ (W : World) (b c : Nat), GrRow W b ot → Calls Try.prog 19 #[.agg #[.slice (some ⟨b, 0, none⟩) n c]] W fun e w' => e = .returned (.tuple #[.float .f32 mb, .bool true]) ∧ Below W.heap.size W w'
  mmA : ∀ (W : World) (b c : Nat), GrRow W b gs → Calls Try.prog 20 #[.agg #[.slice (some ⟨b, 0, none⟩) n c]] W fun e w' => e = .returned (.tuple #[.complex .f32 cx cy, .bool true]) ∧ Below W.heap.size W w'
  mmB : ∀ (W : World) (b c : Nat), GrRow W b ot → Calls Try.prog 20 #[.agg #[.slice (some ⟨b, 0, none⟩) n c]] W fun e w' => e = .returned (.tuple #[.complex .f32 dx dy, .bool true]) ∧ Below W.heap.size W w'
  ctA : ∀ (W : World) (b c : Nat), GrRow W b gs → Calls Try.prog 21 #[.agg #[.slice (some ⟨b, 0, none⟩) n c]] W fun e w' => e = .returned (.tuple #[.complex .f32 R I, .bool true]) ∧ Below W.heap.size W w'
  ctB : ∀ (W : World) (b c : Nat), GrRow W b mv → Calls Try.prog 21 #[.agg #[.slice (some ⟨b, 0, none⟩) n c]] W fun e w' => e = .returned (.tuple #[.complex .f32 R' I', .bool true]) ∧ Below W.heap.size W w'
  tuA : ∀ (W : World) (b c : Nat), GrRow W b gs → Calls Try.prog 22 #[.agg #[.slice (some ⟨b, 0, none⟩) n c]] W fun e w' => e = .returned (.tuple #[.float .f32 tu, .bool true]) ∧ Below W.heap.size W w'
  tuB : ∀ (W : World) (b c : Nat), GrRow W b mi → Calls Try.prog 22 #[.agg #[.slice (some ⟨b, 0, none⟩) n c]] W fun e w' => e = .returned (.tuple #[.float .f32 tv, .bool true]) ∧ Below W.heap.size W w'
  enA : ∀ (W : World) (b c : Nat), GrRow W b gs → Calls Try.prog 23 #[.agg #[.slice (some ⟨b, 0, none⟩) n c], .complex .f32 0 0] W fun e w' => e = .returned (.tuple #[.float .f32 ex, .bool true]) ∧ Below W.heap.size W w'
  enB : ∀ (W : World) (b c : Nat), GrRow W b mi → Calls Try.prog 23 #[.agg #[.slice (some ⟨b, 0, none⟩) n c], .complex .f32 0 0] W fun e w' => e = .returned (.tuple #[.float .f32 ey, .bool true]) ∧ Below W.heap.size W w'
  eqm : FloatKind.f32.format.order ma mb = some .eq
  apC : ∀ W, Calls Try.prog 24 #[.complex .f32 cx cy, .complex .f32 dx dy] W fun e w' => e = .returned (.float .f64 0) ∧ W = w'
  pi : floatBits .add .f32 R fx = some i
  pj : floatBits .add .f32 I fy = some j
  apF : ∀ W, Calls Try.prog 24 #[.complex .f32 R' I', .complex .f32 i j] W fun e w' => e = .returned (.float .f64 (wide v)) ∧ Quiet W w'
  lv : FloatKind.f64.format.order (wide v) 4562254508917369340 = some .lt
  nu : nan32 tu = false
  nv : nan32 tv = false
  gpT : ∀ W, Calls Try.prog 25 #[.float .f64 (wide tu), .float .f64 (Op.negFloat .f64 (wide tv))] W fun e w' => e = .returned (.float .f64 gt) ∧ W = w'
  lt : FloatKind.f64.format.order gt 4562254508917369340 = some .lt
  nx : nan32 ex = false
  ny : nan32 ey = false
  gpE : ∀ W, Calls Try.prog 25 #[.float .f64 (wide ex), .float .f64 (wide ey)] W fun e w' => e = .returned (.float .f64 ge) ∧ W = w'
  le : FloatKind.f64.format.order ge 4562254508917369340 = some .lt
  pos : (FloatKind.f32.format.order ex 0 == some .gt || FloatKind.f32.format.order ex 0 == some .eq) = true
theorem heapsC_of {fx fy n : Nat} {gs mi tw mv bk ad ot : List Gr} (hl : gs.length = n) (h1 : 1 ≤ n) (hn : n ≤ 6) (hg : ad = gs ++ [gs.getD 0 default]) (hmi : mi = gs.map mirrorF) (htw : tw = mi.map mirrorF) (hmv : mv = gs.map (moveF fx fy)) (hbk : bk = mv.map (moveF (Op.negFloat .f32 fx) (Op.negFloat .f32 fy))) (hot : ot = ordF gs (revN n)) (F : HeapsF fx fy n gs mi tw mv bk ad ot) :
    ∃ ma mb cx cy dx dy R I R' I' tu tv ex ey i j v gt ge, HeapsC fx fy n gs mi tw mv bk ad ot ma mb cx cy dx dy R I R' I' tu tv ex ey i j v gt ge := by
  obtain ⟨S1, S2, a1, a2, a3, a4, a5⟩ := F.mass
  obtain ⟨P3, Q3, S3, T3, P4, Q4, S4, T4, z, z', b1, b2, b3, b4, b5, b6, b7, b8⟩ := F.mom
  obtain ⟨P5, Q5, S5, T5, M5, R, I, P6, Q6, S6, T6, M6, R', I', i, j, x, y, p, q, s, v, c1, c2, c3, c4, c5, c6, c7, c8, c9, c10, c11, c12, c13, c14, c15, c16, c17⟩ := F.ctr
  obtain ⟨P7, S7, P8, S8, d, e, d1, d2, d3, d4, d5, d6, d7, d8, d9, d10⟩ := F.turn
  obtain ⟨P9, S9, P0, S0, d', e', e1, e2, e3, e4, e5, e6, e7, e8, e9, e10, e11⟩ := F.energy
  have z0 : (fin32 0 && fin32 0) = true := by decide
  refine ⟨S1 n, S2 n, S3 n, T3 n, S4 n, T4 n, R, I, R', I', S7 n, S8 n, S9 n, S0 n, i, j, v, maxD d e, maxD d' e', ?_⟩
  refine ⟨?_, ?_, ?_, ?_, ?_, ?_, ?_, ?_, ?_, ?_, ?_, ?_, ?_, ?_, ?_, ?_, ?_, ?_, ?_, a5, ?_, c9, c10, ?_, c17, fin_not_nan d5, fin_not_nan d6, fun W => r8Gap_of _ _ d e W d7 d8 d9, d10, fin_not_nan e5, fin_not_nan e6, fun W => r8Gap_of _ _ d' e' W e7 e8 e9, e10, e11⟩
  · intro W b c hr
    subst hmi
    exact (mirrorHeap_of b n c gs W hl hr h1 (by omega) F.vg F.vmi).mono (gaveN F.lmi)
  · intro W b c hr
    subst htw
    exact (mirrorHeap_of b n c mi W F.lmi hr h1 (by omega) F.vmi F.vtw).mono (gaveN F.ltw)
  · intro W b c hr
    subst hmv
    exact (moveHeap_of b n c fx fy gs W F.finM hl hr h1 (by omega) F.vg F.vmv F.isM).mono (gaveN F.lmv)
  · intro W b c hr
    subst hbk
    exact (moveHeap_of b n c _ _ mv W F.finB F.lmv hr h1 (by omega) F.vmv F.vbk F.isB).mono (gaveN F.lbk)
  · intro W b c hr
    subst hg
    exact (addGrain_of b n c gs _ W hl hr h1 (by omega) F.vg F.vad).mono (gaveN F.lad)
  · intro W b c hc hr
    have hd := dropLast_of b n c ad W F.lad hr h1 (by omega) hc F.vad (by rw [F.tk]; exact F.vg)
    rw [F.tk] at hd
    exact hd.mono (gaveN hl)
  · intro W b c bo co hr ho
    subst hot
    exact (orderGrains_of b n c bo co gs (revN n) W hl (revN_length n) hr ho h1 (by omega) F.vg F.vot (fun k hk => by rw [revN_at hk]; omega) (fun j k hjk hk => by rw [revN_at hk, revN_at (by omega)]; omega)).mono (gaveN F.lot)
  · intro W b c bo co hr ho
    have hd := orderGrains_of b n c bo co ot (revN n) W F.lot (revN_length n) hr ho h1 (by omega) F.vot (by rw [F.ag]; exact F.vg) (fun k hk => by rw [revN_at hk]; omega) (fun j k hjk hk => by rw [revN_at hk, revN_at (by omega)]; omega)
    rw [F.ag] at hd
    exact hd.mono (gaveN hl)
  · intro W b c b' c' hr hr'
    exact sameHeap_self b n c b' c' gs W hl hr hr' (by omega) F.sm
  · intro W b c hr
    exact massOfHeap_of b n c gs _ S1 W hl hr (by omega) F.vg a1 (fun k W' _ => massOf_of _ W') a3
  · intro W b c hr
    exact massOfHeap_of b n c ot _ S2 W F.lot hr (by omega) F.vot a2 (fun k W' _ => massOf_of _ W') a4
  · intro W b c hr
    exact momentumOf_of b n c gs P3 Q3 S3 T3 W hl hr (by omega) F.vg b1 b3
  · intro W b c hr
    exact momentumOf_of b n c ot P4 Q4 S4 T4 W F.lot hr (by omega) F.vot b2 b4
  · intro W b c hr
    exact centreOf_of b n c gs P5 Q5 S5 T5 M5 R I W hl hr (by omega) F.vg c1 c2 c3 c4
  · intro W b c hr
    exact centreOf_of b n c mv P6 Q6 S6 T6 M6 R' I' W F.lmv hr (by omega) F.vmv c5 c6 c7 c8
  · intro W b c hr
    exact turningOfHeap_of b n c gs P7 S7 W hl hr (by omega) F.vg d1 (fun k W' hk => turningOf_of _ _ W' (d2 k hk)) d5
  · intro W b c hr
    exact turningOfHeap_of b n c mi P8 S8 W F.lmi hr (by omega) F.vmi d3 (fun k W' hk => turningOf_of _ _ W' (d4 k hk)) d6
  · intro W b c hr
    refine energyOfHeap_of b n c gs P9 S9 0 0 W hl hr (by omega) F.vg e1 z0 (fun k B W' hk hc => ?_) e5
    obtain ⟨pw, q1, q2, q3, q4⟩ := e2 k hk
    exact energyOne_of B _ 0 0 pw _ W' hc q4 (fun W'' => powF_of _ pw q2 q3 q1 W'')
  · intro W b c hr
    refine energyOfHeap_of b n c mi P0 S0 0 0 W F.lmi hr (by omega) F.vmi e3 z0 (fun k B W' hk hc => ?_) e6
    obtain ⟨pw, q1, q2, q3, q4⟩ := e4 k hk
    exact energyOne_of B _ 0 0 pw _ W' hc q4 (fun W'' => powF_of _ pw q2 q3 q1 W'')
  · intro W
    exact apart_zero _ _ _ _ z z' W b5 b6 b7 b8
  · intro W
    exact apart_small _ _ _ _ x y p q s v W c11 c12 c13 c14 c15 c16
end Go.Proofs.Ytbggklhnnjikjaa
