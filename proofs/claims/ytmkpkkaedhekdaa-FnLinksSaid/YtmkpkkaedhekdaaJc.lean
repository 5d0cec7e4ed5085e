/- Strengths of links, in a list. -/
import Derived.Test.YtmkpkkaedhekdaaJb
import Derived.Test.YtmkpkkaedhekdaaFh
import Derived.Test.YtmkpkkaedhekdaaPw
import Derived.StillTailTactics
import Derived.Deep.Cut
import Derived.Test.YtmkpkkaedhekdaaLs
namespace Go.Proofs.Ytmkpkkaedhekdaa
open Go.RowKit Fl

def upd {α : Type} (F : Nat → α) (a : Nat) (v : α) (j : Nat) : α := if j = a then v else F j
theorem upd_at {α : Type} (F : Nat → α) (a : Nat) (v : α) : upd F a v a = v := if_pos rfl
theorem upd_ne {α : Type} (F : Nat → α) {a j : Nat} (v : α) (h : j ≠ a) : upd F a v j = F j := if_neg h
def addW (x y : Nat) : Nat := (floatBits .add .f32 x y).getD 0
def subW (x y : Nat) : Nat := (floatBits .sub .f32 x y).getD 0
/-- the cells of n complex numbers -/
def cm (F : Nat → Nat × Nat) (n : Nat) : List Value := (List.range n).map (fun k => Value.complex .f32 (F k).1 (F k).2)
theorem cm_at {F : Nat → Nat × Nat} {n k : Nat} (h : k < n) : (cm F n)[k]? = some (.complex .f32 (F k).1 (F k).2) := by simp [cm, h]
theorem cm_set (F : Nat → Nat × Nat) (n a : Nat) (x y : Nat) : (cm F n).set a (.complex .f32 x y) = cm (upd F a (x, y)) n := by
  apply List.ext_getElem?
  intro j
  rw [List.getElem?_set]
  by_cases hj : j < n
  · rw [cm_at hj]
    by_cases e : a = j
    · subst e
      rw [if_pos rfl, if_pos (by simp [cm]; exact hj), cm_at hj, upd_at]
    · rw [if_neg e, cm_at hj, upd_ne _ _ (fun h => e h.symm)]
  · have h1 : (cm (upd F a (x, y)) n)[j]? = none := by simp [cm]; omega
    have h2 : (cm F n)[j]? = none := by simp [cm]; omega
    rw [h1]
    by_cases e : a = j
    · rw [if_pos e, if_neg (by simp [cm]; omega)]
    · rw [if_neg e, h2]
theorem made_c64 (n : Nat) : (madeCells (Value.complex .f32 0 0).cells (n * 1)).toList = cm (fun _ => (0, 0)) n := by
  rw [Nat.mul_one]
  apply List.ext_getElem
  · simp [madeCells, cm, Value.cells]
  · intro i h1 h2
    simp [madeCells, cm, Value.cells, Nat.mod_one]
/-- exact quarters, bounded -/
def CQ (F : Nat × Nat) (I : Int × Int) (B : Int) : Prop := Exa Ieee.single (-2) F.1 I.1 ∧ Exa Ieee.single (-2) F.2 I.2 ∧ (-B ≤ I.1 ∧ I.1 ≤ B) ∧ (-B ≤ I.2 ∧ I.2 ≤ B)
theorem CQ.mono {F : Nat × Nat} {I : Int × Int} {B C : Int} (h : CQ F I B) (hB : B ≤ C) : CQ F I C := ⟨h.1, h.2.1, by have := h.2.2.1; omega, by have := h.2.2.2; omega⟩
theorem add_cq {F G : Nat × Nat} {I J : Int × Int} {B : Int} (h : CQ F I B) (g : CQ G J 16) (hB : B ≤ 1000) : floatBits .add .f32 F.1 G.1 = some (addW F.1 G.1) ∧ floatBits .add .f32 F.2 G.2 = some (addW F.2 G.2) ∧ CQ (addW F.1 G.1, addW F.2 G.2) (I.1 + J.1, I.2 + J.2) (B + 16) := by
  obtain ⟨f1, f2, b1, b2⟩ := h
  obtain ⟨g1, g2, c1, c2⟩ := g
  obtain ⟨r, hr, hx⟩ := add32 f1 g1 (by omega) (by omega) (by omega) (by omega)
  obtain ⟨s, hs, hy⟩ := add32 f2 g2 (by omega) (by omega) (by omega) (by omega)
  have e1 : addW F.1 G.1 = r := by unfold addW; rw [hr]; rfl
  have e2 : addW F.2 G.2 = s := by unfold addW; rw [hs]; rfl
  rw [e1, e2]
  exact ⟨hr, hs, hx, hy, by show -(B + 16) ≤ I.1 + J.1 ∧ I.1 + J.1 ≤ B + 16; omega, by show -(B + 16) ≤ I.2 + J.2 ∧ I.2 + J.2 ≤ B + 16; omega⟩
theorem sub_cq {F G : Nat × Nat} {I J : Int × Int} {B : Int} (h : CQ F I B) (g : CQ G J 16) (hB : B ≤ 1000) : floatBits .sub .f32 F.1 G.1 = some (subW F.1 G.1) ∧ floatBits .sub .f32 F.2 G.2 = some (subW F.2 G.2) ∧ CQ (subW F.1 G.1, subW F.2 G.2) (I.1 - J.1, I.2 - J.2) (B + 16) := by
  obtain ⟨f1, f2, b1, b2⟩ := h
  obtain ⟨g1, g2, c1, c2⟩ := g
  obtain ⟨r, hr, hx⟩ := sub32 f1 g1 (by omega) (by omega) (by omega) (by omega)
  obtain ⟨s, hs, hy⟩ := sub32 f2 g2 (by omega) (by omega) (by omega) (by omega)
  have e1 : subW F.1 G.1 = r := by unfold subW; rw [hr]; rfl
  have e2 : subW F.2 G.2 = s := by unfold subW; rw [hs]; rfl
  rw [e1, e2]
  exact ⟨hr, hs, hx, hy, by show -(B + 16) ≤ I.1 - J.1 ∧ I.1 - J.1 ≤ B + 16; omega, by show -(B + 16) ≤ I.2 - J.2 ∧ I.2 - J.2 ≤ B + 16; omega⟩
/-- one link's push, taken from A and added to B -/
def fA (F : Nat → Nat × Nat) (l : Lk) : Nat → Nat × Nat := upd F l.a (subW (F l.a).1 l.x, subW (F l.a).2 l.y)
def fB (F : Nat → Nat × Nat) (l : Lk) : Nat → Nat × Nat := upd F l.b (addW (F l.b).1 l.x, addW (F l.b).2 l.y)
def fput (F : Nat → Nat × Nat) (l : Lk) : Nat → Nat × Nat := fB (fA F l) l
def iA (I : Nat → Int × Int) (l : Lk) (i : Int × Int) : Nat → Int × Int := upd I l.a ((I l.a).1 - i.1, (I l.a).2 - i.2)
def iB (I : Nat → Int × Int) (l : Lk) (i : Int × Int) : Nat → Int × Int := upd I l.b ((I l.b).1 + i.1, (I l.b).2 + i.2)
def iput (I : Nat → Int × Int) (l : Lk) (i : Int × Int) : Nat → Int × Int := iB (iA I l i) l i
def forceW (ls : List Lk) : Nat → Nat → Nat × Nat
  | 0 => fun _ => (0, 0)
  | k + 1 => fput (forceW ls k) (ls.getD k default)
def forceI (ls : List Lk) (is : List (Int × Int)) : Nat → Nat → Int × Int
  | 0 => fun _ => (0, 0)
  | k + 1 => iput (forceI ls is k) (ls.getD k default) (is.getD k default)
theorem LkQ.cq {l : Lk} {i : Int × Int} (h : LkQ l i) : CQ (l.x, l.y) i 16 := ⟨h.hx, h.hy, h.bx, h.by_⟩
theorem fA_cq {F : Nat → Nat × Nat} {I : Nat → Int × Int} {B : Int} {l : Lk} {i : Int × Int} (h : ∀ j, j < 4 → CQ (F j) (I j) B) (hl : LkQ l i) (hB : B ≤ 1000) : ∀ j, j < 4 → CQ (fA F l j) (iA I l i j) (B + 16) := fun j hj => by
  unfold fA iA
  by_cases e : j = l.a
  · subst e
    rw [upd_at, upd_at]
    exact (sub_cq (h _ hj) hl.cq hB).2.2
  · rw [upd_ne _ _ e, upd_ne _ _ e]
    exact (h j hj).mono (by omega)
theorem fB_cq {F : Nat → Nat × Nat} {I : Nat → Int × Int} {B : Int} {l : Lk} {i : Int × Int} (h : ∀ j, j < 4 → CQ (F j) (I j) B) (hl : LkQ l i) (hB : B ≤ 1000) : ∀ j, j < 4 → CQ (fB F l j) (iB I l i j) (B + 16) := fun j hj => by
  unfold fB iB
  by_cases e : j = l.b
  · subst e
    rw [upd_at, upd_at]
    exact (add_cq (h _ hj) hl.cq hB).2.2
  · rw [upd_ne _ _ e, upd_ne _ _ e]
    exact (h j hj).mono (by omega)
theorem force_cq {ls : List Lk} {is : List (Int × Int)} (h : LksQ ls is) (hl : ls.length ≤ 6) : ∀ k, k ≤ ls.length → ∀ j, j < 4 → CQ (forceW ls k j) (forceI ls is k j) (32 * (k : Int))
  | 0, _, j, _ => ⟨exa_zero _ _, exa_zero _ _, by simp [forceI], by simp [forceI]⟩
  | k + 1, hk, j, hj => by
    have h1 := force_cq h hl k (by omega)
    exact (fB_cq (fA_cq h1 (h.2 k hk) (by omega)) (h.2 k hk) (by omega) j hj).mono (by omega)
/-- links that go back push the same -/
theorem iput_back (I : Nat → Int × Int) (l : Lk) (i : Int × Int) (h : l.a ≠ l.b) : iput I l.back (-i.1, -i.2) = iput I l i := by
  funext j
  unfold iput iB iA Lk.back
  dsimp only
  by_cases e1 : j = l.a
  · subst e1
    rw [upd_at, upd_ne _ _ h, upd_ne _ _ h, upd_at]
    ext <;> simp <;> omega
  · by_cases e2 : j = l.b
    · subst e2
      rw [upd_ne _ _ e1, upd_at, upd_at, upd_ne _ _ e1]
      ext <;> simp <;> omega
    · rw [upd_ne _ _ e1, upd_ne _ _ e2, upd_ne _ _ e2, upd_ne _ _ e1]
theorem forceI_back {ls : List Lk} {is : List (Int × Int)} (h : LksQ ls is) : ∀ k, k ≤ ls.length → forceI (ls.map Lk.back) (is.map fun i => (-i.1, -i.2)) k = forceI ls is k
  | 0, _ => rfl
  | k + 1, hk => by
    have hk2 : k < is.length := by rw [h.1]; omega
    have e1 : (ls.map Lk.back).getD k default = (ls.getD k default).back := by simp [List.getD, List.getElem?_eq_getElem (show k < ls.length by omega)]
    have e2 : (is.map fun i => (-i.1, -i.2)).getD k default = (-(is.getD k default).1, -(is.getD k default).2) := by simp [List.getD, List.getElem?_eq_getElem hk2]
    show iput _ _ _ = iput _ _ _
    rw [forceI_back h k (by omega), e1, e2, iput_back _ _ _ (h.2 k hk).hne]
/-- the sums of both parts -/
def tot (I : Nat → Int × Int) : Int × Int := ((I 0).1 + (I 1).1 + (I 2).1 + (I 3).1, (I 0).2 + (I 1).2 + (I 2).2 + (I 3).2)
theorem tot_upd (I : Nat → Int × Int) (a : Nat) (ha : a < 4) (v : Int × Int) : tot (upd I a v) = ((tot I).1 + v.1 - (I a).1, (tot I).2 + v.2 - (I a).2) := by
  have h : a = 0 ∨ a = 1 ∨ a = 2 ∨ a = 3 := by omega
  unfold tot upd
  rcases h with rfl | rfl | rfl | rfl <;> ext <;> simp <;> omega
theorem tot_iput (I : Nat → Int × Int) (l : Lk) (i : Int × Int) (ha : l.a < 4) (hb : l.b < 4) : tot (iput I l i) = tot I := by
  unfold iput iB
  rw [tot_upd _ _ hb]
  unfold iA
  rw [tot_upd _ _ ha]
  ext <;> simp <;> omega
theorem forceI_tot {ls : List Lk} {is : List (Int × Int)} (h : LksQ ls is) : ∀ k, k ≤ ls.length → tot (forceI ls is k) = (0, 0)
  | 0, _ => rfl
  | k + 1, hk => by
    show tot (iput _ _ _) = _
    rw [tot_iput _ _ _ (h.2 k hk).ha (h.2 k hk).hb, forceI_tot h k (by omega)]
end Go.Proofs.Ytmkpkkaedhekdaa

namespace Go.Proofs.Ytmkpkkaedhekdaa
open Go.RowKit Fl

theorem c64_info : (Try.prog.info? 35).map (fun i => (i.zero, i.size, i.bytes)) = some (some (.complex .f32 0 0), 1, 8) := by kernel_rfl
theorem upd_same {α : Type} (F : Nat → α) (a : Nat) : upd F a (F a) = F := by
  funext j
  unfold upd
  split
  · rename_i h; rw [h]
  · rfl
theorem zero_mass {m : Nat} {k : Int} (h : Exa Ieee.single (-2) m k) (hb : 1 ≤ k ∧ k ≤ 8) : floatBits .mul .f32 0 m = some 0 := by
  have e := h.word (by omega)
  have hk : k = 1 ∨ k = 2 ∨ k = 3 ∨ k = 4 ∨ k = 5 ∨ k = 6 ∨ k = 7 ∨ k = 8 := by omega
  rw [e]
  rcases hk with rfl | rfl | rfl | rfl | rfl | rfl | rfl | rfl <;> decide +kernel
set_option maxRecDepth 100000 in
set_option maxHeartbeats 6400000 in
theorem forcesOfLinks_of (hb_ hc : Nat) (gs : List Gr) (gi : List GrI) (ao : Option Addr) (n c : Nat) (ls : List Lk) (is : List (Int × Int)) (w : World) (hg : GrsQ gs gi) (hl : gs.length = 4) (hr : GrRow w hb_ gs) (hL : LRow w ao n ls) (hq : LksQ ls is) (hn : n ≤ 6) :
    Calls Try.prog 8 #[.agg #[.slice (some ⟨hb_, 0, none⟩) 4 hc], .slice ao n c, .complex .f32 0 0] w fun e w' => Below w.heap.size w w' ∧ ∃ b, e = .returned (.tuple #[.slice (some ⟨b, 0, none⟩) 4 4, .bool true]) ∧ w'.ownsRow w.heap.size 35 1 (.slice (some ⟨b, 0, none⟩) 4 4) 4 (cm (forceW ls n) 4) := by
  obtain ⟨i0, hi, hz0, hz1, hz2⟩ := info_parts c64_info
  have hv := hg.valid
  have HA := Lib.hid fun w (h : GrRow w hb_ gs) (h' : LRow w ao n ls) => areLinks_yes hb_ hc gs ao n c ls is w hv hl h h' hq hn
  have hbel := (Below.refl w.heap.size w).alloc (Nat.le_refl _) (.cells #[.slice (some ⟨hb_, 0, none⟩) 4 hc] 26)
  have hb1 := blk_new w 26 #[.slice (some ⟨hb_, 0, none⟩) 4 hc] _ rfl
  have L0 := Lib.hid hbel
  have K0 := Lib.hid hb1
  have R0 := Lib.hid (hr.below hbel (Nat.le_refl _))
  have A0 := Lib.hid (hL.below hbel (Nat.le_refl _))
  have HLen := Lib.hid hL.len
  have HQ := Lib.hid hq
  have HG := Lib.hid hg
  have HGl := Lib.hid hl
  have a0 := hb1.cell 0
  clear hbel hb1 hr hL hq hv hl hg
  go_enter Try.func8, Try.ntmps8
  go_wp2_with fail
  refine (HA.out _ R0.out A0.out).mono ?_
  rintro e w1 ⟨rfl, hb⟩
  have L1 := Lib.hid (below_next L0.out hb)
  have A1 := Lib.hid (A0.out.next hb)
  have R1 := Lib.hid (R0.out.below hb (Nat.le_refl _))
  have K1 := Lib.hid (blk_next K0.out hb)
  clear hb L0 K0 R0 A0 HA a0
  have HF0 := Lib.hid fun w => (show Calls Try.prog 22 #[.complex .f32 0 0] w fun e w' => e = .returned (.bool true) ∧ Quiet w w' from isFiniteComplex_any 0 0 w)
  go_wp2_with fail
  refine (HF0.out _).mono ?_
  rintro e w2 ⟨rfl, m2, rfl⟩
  have L2 := Lib.hid (below_drewN L1.out m2)
  have A2 := Lib.hid (A1.out.drewN m2)
  have R2 := Lib.hid (R1.out.below (below_drewN (Below.refl w1.heap.size w1) m2) (Nat.le_refl _))
  have K2 := Lib.hid (K1.out.drewN m2)
  clear L1 A1 R1 K1 HF0
  generalize w1.drewN m2 = w2 at L2 A2 R2 K2 ⊢
  have a0 := K2.out.cell 0
  go_wp2_with (at_make; go_loud (refine wpList_make_full _ rfl _ _ 32 rfl w2.heap.size 35 i0 (.complex .f32 0 0) 1 Try.underlying32 hi hz0 hz1 .i64 .i64 _ _ 4 rfl rfl rfl rfl (by rw [hz2]; omega) (by unfold maxLen; omega) (Nat.le_refl _) ?_); intro w3 hown hgrow; have a0 := (K2.out.grown hgrow (by simp)).cell 0)
  rw [made_c64] at hown
  have B3 := Lib.hid ((Below.refl w2.heap.size w2).grown hgrow (Nat.le_refl _) (by simp) : Below w2.heap.size w2 w3)
  have O3 := Lib.hid hown
  clear hown hgrow a0
  go_loopw [31] (fun i wr => ∃ (W : World) (k : Nat), W = wr ∧ k ≤ 4 ∧ i = .int .i64 k ∧ wr.ownsRow w2.heap.size 35 1 (.slice (some ⟨w2.heap.size, 0, none⟩) 4 4) 4 (cm (fun _ => (0, 0)) 4) ∧ Below w2.heap.size w2 wr) (fun i _ => 4 - (intOf i).toNat)
  case atStart => exact ⟨_, 0, rfl, by omega, rfl, O3.out, B3.out⟩
  case round =>
    clear O3 B3
    obtain ⟨W, k, rfl, hk, rfl, hO, hB⟩ := hrel
    by_cases hlt : k < 4
    · obtain ⟨g0, g1, g2, g3, g4, g5, g6⟩ := (R2.out.below hB (Nat.le_refl _)) k (by rw [HGl.out]; exact hlt)
      have hgq := HG.out.2 k (by rw [HGl.out]; exact hlt)
      have hzm := zero_mass hgq.m hgq.bm
      have HS := Lib.hid fun w => scale_of 0 0 (gs.getD k default).m 0 0 hzm hzm w
      generalize gs.getD k default = g at g0 g1 g2 g3 g4 g5 g6 HS
      obtain ⟨ax, ay, sx, sy, gr, gm, gt, gs', gh⟩ := g
      dsimp only at g0 g1 g2 g3 g4 g5 g6 HS
      have hO2 := hO.alloc (.cells #[.complex .f32 ax ay, .complex .f32 sx sy, .float .f32 gr, .float .f32 gm, .float .f32 gt, .float .f32 gs', .bool gh] 57)
      have hX := blk_new W 57 #[.complex .f32 ax ay, .complex .f32 sx sy, .float .f32 gr, .float .f32 gm, .float .f32 gt, .float .f32 gs', .bool gh] _ rfl
      have hB2 := hB.alloc hB.size (.cells #[.complex .f32 ax ay, .complex .f32 sx sy, .float .f32 gr, .float .f32 gm, .float .f32 gt, .float .f32 gs', .bool gh] 57)
      have O2 := Lib.hid hO2
      have X2 := Lib.hid hX
      have B2 := Lib.hid hB2
      have hsf := run_store_float' Try.prog
      have hsc := run_store_complex Try.prog
      clear hO hB hO2 hX hB2 hgq hzm
      go_wp2_with fail
      generalize W.alloc (.cells #[.complex .f32 ax ay, .complex .f32 sx sy, .float .f32 gr, .float .f32 gm, .float .f32 gt, .float .f32 gs', .bool gh] 57) = W2 at O2 X2 B2 ⊢
      refine wp_region_still_tail 10 (by kernel_rfl) (by kernel_rfl) ?_
      simp only [List.take_succ_cons, List.take_zero, List.drop_succ_cons, List.drop_zero]
      generalize hV : ({ W2 with drawn := W2.drawn + 1 } : World) = V
      have bV : Below W2.heap.size W2 V := by rw [← hV]; exact ⟨rfl, rfl, rfl, Nat.le_refl _, fun _ _ => rfl⟩
      have O4 := Lib.hid (own_below O2.out bV (Nat.le_refl _))
      have B4 := Lib.hid (B2.out.trans (bV.mono B2.out.size))
      have m0 := (blk_next X2.out bV).cell 3
      have hcl := (O4.out.cellAt k (by omega)).trans (cm_at hlt)
      have hfr := O4.out.frozenAt k
      have hst := (O4.out.stored k (.complex .f32 0 0)).1
      rw [cm_set, show upd (fun _ => ((0 : Nat), (0 : Nat))) k (0, 0) = (fun _ => (0, 0)) from upd_same (fun _ => ((0 : Nat), (0 : Nat))) k] at hst
      have O5 := Lib.hid hst
      have B5 := Lib.hid (B4.out.setCell (p := ⟨w2.heap.size, k, none⟩) (Nat.le_refl _) (.complex .f32 0 0))
      have HS2 : Hid (∀ w, Calls Try.prog 23 #[.complex .f32 0 0, .float .f32 gm] w fun e w' => e = .returned (.complex .f32 0 0) ∧ w' = w) := Lib.hid fun w => (HS.out w).mono (fun _ _ h => ⟨h.1, h.2.symm⟩)
      have hcs := fun w => run_csum (P := Try.prog) .add (Or.inl rfl) 35 0 0 0 0 0 0 (by decide +kernel) (by decide +kernel) w
      clear hV bV O2 B2 X2 hst HS O4 B4 g0 g1 g2 g3 g4 g5 g6
      still_step
      still_step
      still_step
      still_step
      still_step
      still_step
      still_step
      still_call (HS2.out _)
      still_step
      still_step
      refine wpStill_nil ?_
      go_wp2_with fail
      go_roundw
      case rel => exact ⟨_, k + 1, rfl, by omega, by go_num, O5.out, B5.out⟩
      case measure => simp [intOf]; omega
    · obtain rfl : k = 4 := by omega
      have O4 := Lib.hid hO
      have B4 := Lib.hid hB
      clear hO hB
      go_wp2_with fail
      go_loopw [49] (fun i wr => ∃ (W : World) (k : Nat), W = wr ∧ k ≤ n ∧ i = .int .i64 k ∧ wr.ownsRow w2.heap.size 35 1 (.slice (some ⟨w2.heap.size, 0, none⟩) 4 4) 4 (cm (forceW ls k) 4) ∧ Below w2.heap.size w2 wr) (fun i _ => n - (intOf i).toNat)
      case atStart => exact ⟨_, 0, rfl, Nat.zero_le _, rfl, O4.out, B4.out⟩
      case round =>
        clear O4 B4
        obtain ⟨W, k, rfl, hk, rfl, hO, hB⟩ := hrel
        by_cases hlt : k < n
        · obtain ⟨b, rfl⟩ := A2.out.addr (by omega)
          obtain ⟨c0, c1, c2⟩ := (A2.out.below hB (Nat.le_refl _)).cell b rfl k hlt
          have hkl : k < ls.length := by rw [HLen.out]; exact hlt
          have hq := HQ.out.2 k hkl
          have hF := force_cq HQ.out (by rw [HLen.out]; exact hn) k (by omega)
          have hnx : forceW ls (k + 1) = fput (forceW ls k) (ls.getD k default) := rfl
          generalize ls.getD k default = l at c0 c1 c2 hq hnx
          generalize is.getD k default = i2 at hq
          obtain ⟨la, lb, lx, ly⟩ := l
          have h1 := hq.ha
          have h2 := hq.hb
          have hs1 := sub_cq (hF la h1) hq.cq (by omega)
          have hF2 := fA_cq hF hq (by omega)
          have hs2 := add_cq (hF2 lb h2) hq.cq (by omega)
          dsimp only at c0 c1 c2 h1 h2 hs1 hs2
          have h1i : (la : Int) < 4 := by omega
          have h2i : (lb : Int) < 4 := by omega
          have hfa : fA (forceW ls k) ⟨la, lb, lx, ly⟩ = upd (forceW ls k) la (subW (forceW ls k la).1 lx, subW (forceW ls k la).2 ly) := rfl
          have hfb : fput (forceW ls k) ⟨la, lb, lx, ly⟩ = upd (fA (forceW ls k) ⟨la, lb, lx, ly⟩) lb (addW (fA (forceW ls k) ⟨la, lb, lx, ly⟩ lb).1 lx, addW (fA (forceW ls k) ⟨la, lb, lx, ly⟩ lb).2 ly) := rfl
          rw [hfb] at hnx
          generalize fA (forceW ls k) ⟨la, lb, lx, ly⟩ = G at hfa hnx hs2
          have e1 := fun w => run_csum (P := Try.prog) .sub (Or.inr rfl) 35 _ _ _ _ _ _ hs1.1 hs1.2.1 w
          have e2 := fun w => run_csum (P := Try.prog) .add (Or.inl rfl) 35 _ _ _ _ _ _ hs2.1 hs2.2.1 w
          have HFa := Lib.hid hfa
          have HNx := Lib.hid hnx
          clear hfa hnx hfb hs1 hs2 hF hF2 hq
          have O2 := Lib.hid (hO.alloc (.cells #[.int .i64 la, .int .i64 lb, .complex .f32 lx ly] 48))
          have X2 := Lib.hid (blk_new W 48 #[.int .i64 la, .int .i64 lb, .complex .f32 lx ly] _ rfl)
          have B2 := Lib.hid (hB.alloc hB.size (.cells #[.int .i64 la, .int .i64 lb, .complex .f32 lx ly] 48))
          have hwl : w2.heap.size < W.heap.size := (hO.lt _ rfl).2
          have hsc := run_store_complex Try.prog
          clear hO hB
          go_wp2_with fail
          generalize W.alloc (.cells #[.int .i64 la, .int .i64 lb, .complex .f32 lx ly] 48) = W2 at O2 X2 B2 ⊢
          clear c0 c1 c2
          refine wp_region_still_tail 9 (by kernel_rfl) (by kernel_rfl) ?_
          simp only [List.take_succ_cons, List.take_zero, List.drop_succ_cons, List.drop_zero]
          generalize hV : ({ W2 with drawn := W2.drawn + 1 } : World) = V
          have bV : Below W2.heap.size W2 V := by rw [← hV]; exact ⟨rfl, rfl, rfl, Nat.le_refl _, fun _ _ => rfl⟩
          have O4 := Lib.hid (own_below O2.out bV (Nat.le_refl _))
          have B4 := Lib.hid (B2.out.trans (bV.mono B2.out.size))
          have X4 := Lib.hid (blk_next X2.out bV)
          have x0 := X4.out.cell 0
          have x2 := X4.out.cell 2
          have hcl := (O4.out.cellAt la (by omega)).trans (cm_at h1)
          have hfr := O4.out.frozenAt la
          have hst := (O4.out.stored la (.complex .f32 (subW (forceW ls k la).1 lx) (subW (forceW ls k la).2 ly))).1
          rw [cm_set, ← HFa.out] at hst
          have O5 := Lib.hid hst
          have B5 := Lib.hid (B4.out.setCell (p := ⟨w2.heap.size, la, none⟩) (Nat.le_refl _) (.complex .f32 (subW (forceW ls k la).1 lx) (subW (forceW ls k la).2 ly)))
          have X5 := Lib.hid (X4.out.far (p := ⟨w2.heap.size, la, none⟩) (by show W.heap.size ≠ w2.heap.size; omega) (.complex .f32 (subW (forceW ls k la).1 lx) (subW (forceW ls k la).2 ly)))
          clear hV bV O2 B2 X2 hst O4 B4 X4 HFa
          generalize subW (forceW ls k la).1 lx = p1 at e1 O5 B5 X5
          generalize subW (forceW ls k la).2 ly = p2 at e1 O5 B5 X5
          still_step
          still_step
          still_step
          still_step
          still_step
          still_step
          still_step
          still_step
          still_step
          refine wpStill_nil ?_
          go_upto_region 13 with fail
          clear x0 x2 hcl hfr e1
          generalize V.setCell ⟨w2.heap.size, la, none⟩ (.complex .f32 p1 p2) = W5 at O5 B5 X5 ⊢
          refine wp_region_still_tail 9 (by kernel_rfl) (by kernel_rfl) ?_
          simp only [List.take_succ_cons, List.take_zero, List.drop_succ_cons, List.drop_zero]
          generalize hV : ({ W5 with drawn := W5.drawn + 1 } : World) = V2
          have bV : Below W5.heap.size W5 V2 := by rw [← hV]; exact ⟨rfl, rfl, rfl, Nat.le_refl _, fun _ _ => rfl⟩
          have O6 := Lib.hid (own_below O5.out bV (Nat.le_refl _))
          have B6 := Lib.hid (B5.out.trans (bV.mono B5.out.size))
          have x1 := (blk_next X5.out bV).cell 1
          have x2 := (blk_next X5.out bV).cell 2
          have hcl := (O6.out.cellAt lb (by omega)).trans (cm_at h2)
          have hfr := O6.out.frozenAt lb
          have hst := (O6.out.stored lb (.complex .f32 (addW (G lb).1 lx) (addW (G lb).2 ly))).1
          rw [cm_set, ← HNx.out] at hst
          have O7 := Lib.hid hst
          have B7 := Lib.hid (B6.out.setCell (p := ⟨w2.heap.size, lb, none⟩) (Nat.le_refl _) (.complex .f32 (addW (G lb).1 lx) (addW (G lb).2 ly)))
          clear hV bV O5 B5 X5 hst O6 B6 HNx
          generalize addW (G lb).1 lx = q1 at e2 O7 B7
          generalize addW (G lb).2 ly = q2 at e2 O7 B7
          still_step
          still_step
          still_step
          still_step
          still_step
          still_step
          still_step
          still_step
          still_step
          refine wpStill_nil ?_
          go_wp2_with fail
          go_roundw
          case rel => (repeat apply Exists.intro); exact ⟨⟨_, k + 1, rfl, by omega, by go_num, O7.out, B7.out⟩, rfl⟩
          case measure => simp [intOf]; omega
        · obtain rfl : n = k := by omega
          have O4 := Lib.hid hO
          have B4 := Lib.hid hB
          clear hO hB
          go_wp2_with fail
          go_loopw [74] (fun i wr => ∃ (Wd : World) (k : Nat), Wd = wr ∧ k ≤ 4 ∧ i = .int .i64 k ∧ Below W.heap.size W wr) (fun i _ => 4 - (intOf i).toNat)
          case atStart => exact ⟨_, 0, rfl, by omega, rfl, Below.refl _ _⟩
          case round =>
            obtain ⟨Wd, k, rfl, hk, rfl, hB⟩ := hrel
            by_cases hlt : k < 4
            · have hF := force_cq HQ.out (by rw [HLen.out]; exact hn) n (by rw [HLen.out]; exact Nat.le_refl _) k hlt
              have hfin : (fin32 (forceW ls n k).1 && fin32 (forceW ls n k).2) = true := by
                have f1 := fin_exa hF.1 (by omega) (by omega) (by have := hF.2.2.1; omega)
                have f2 := fin_exa hF.2.1 (by omega) (by omega) (by have := hF.2.2.2; omega)
                rw [f1, f2]; rfl
              have hcl := ((own_below O4.out hB (Nat.le_refl _)).cellAt k (by omega)).trans (cm_at hlt)
              have hfc := fun w => isFiniteComplex_any (forceW ls n k).1 (forceW ls n k).2 w
              rw [hfin] at hfc
              generalize (forceW ls n k).1 = p1 at hcl hfc
              generalize (forceW ls n k).2 = p2 at hcl hfc
              have HFc := Lib.hid hfc
              have HB := Lib.hid hB
              clear hF hfin hfc hB
              go_wp2_with fail
              refine (HFc.out _).mono ?_
              rintro e w9 ⟨rfl, m, rfl⟩
              go_wp2_with fail
              go_roundw
              case rel => (repeat apply Exists.intro); exact ⟨⟨_, k + 1, rfl, by omega, by go_num, below_drewN HB.out m⟩, rfl⟩
              case measure => simp [intOf]; omega
            · obtain rfl : k = 4 := by omega
              have HB := Lib.hid hB
              clear hB
              go_wp2_with fail
              go_ret2
              exact ⟨below_next L2.out (below_next B4.out HB.out), _, rfl, vi_base (own_below O4.out HB.out (Nat.le_refl _)) L2.out.size⟩
end Go.Proofs.Ytmkpkkaedhekdaa

namespace Go.Proofs.Ytmkpkkaedhekdaa
open Go.RowKit Fl
open Ieee (double single)

theorem bd_quarter {x : Nat} {n : Int} (h : Exa single (-2) x n) (hn : n.natAbs ≤ 256) : Bd (wide x) 1080 := by
  have hw := h.wide (fits32 (by omega) (by omega) (by omega)) (fits64 (by omega) (by omega) (by omega))
  obtain ⟨s, m, k, hr, _, _, hm, _⟩ := hw.read he64 (fits64 (by omega) (by omega) (by omega))
  have hp := (read_number _ he64 _ _ _ _ hr).2.1
  have hlp : Ieee.double.leastPlace = -1074 := by decide
  rw [hlp] at hp
  refine ⟨s, m, _, hr, hp, ?_⟩
  obtain ⟨Z, hZ⟩ : ∃ Z : Nat, Z = 1072 := ⟨_, rfl⟩
  have e1 : (-2 - (k : Int) + 1074).toNat + k = Z := by omega
  generalize (-2 - (k : Int) + 1074).toNat = j at e1
  rw [hm, Nat.mul_assoc, Nat.mul_comm (2 ^ k), ← Nat.pow_add, e1]
  have e2 : (1080 : Nat) = 8 + Z := by omega
  rw [e2, Nat.pow_add]
  exact Nat.mul_le_mul_right _ hn
/-- the word of N sixteenths, in 64 bits -/
def sW (N : Nat) : Nat := if N = 0 then 0 else double.nearest false N (-4)
def rootT (N : Nat) : Nat := ((double.sqrt (sW N)).bind (fun r => floatToFloatBits .f64 r .f32)).getD 0
def pw (i : Int × Int) : Nat := i.1.natAbs * i.1.natAbs + i.2.natAbs * i.2.natAbs
theorem exa_sW (N : Nat) : Exa double (-4) (sW N) N := by
  unfold sW
  by_cases h : N = 0
  · rw [if_pos h, h]; exact exa_zero _ _
  · rw [if_neg h]
    refine ⟨fun _ => ?_, fun h0 => by omega⟩
    rw [show decide ((N : Int) < 0) = false by simp]
    rfl
theorem exa_sW_uniq {r : Nat} {N : Nat} (h : Exa double (-4) r N) (hN : N ≠ 0) : r = sW N := by
  unfold sW
  rw [if_neg hN, h.word (by omega), show decide ((N : Int) < 0) = false by simp]
  rfl
theorem sq_word {x : Nat} {u : Int} (h : Exa double (-2) x u) (hu : u.natAbs ≤ 256) : floatBits .mul .f64 x x = some (sW (u.natAbs * u.natAbs)) := by
  by_cases h0 : u = 0
  · subst h0
    rcases h.2 rfl with rfl | rfl <;> decide +kernel
  · have hb : u.natAbs * u.natAbs ≤ 256 * 256 := Nat.mul_le_mul hu hu
    have e : u * u = ((u.natAbs * u.natAbs : Nat) : Int) := by rw [Int.natAbs_mul_self]
    obtain ⟨r, hr, hx⟩ := exa_mul he64 h h (fits64 (by omega) (by omega) (by omega)) (fits64 (by omega) (by omega) (by omega)) (fits64 (by rw [e]; omega) (by omega) (by omega))
    rw [e] at hx
    have hn : u.natAbs * u.natAbs ≠ 0 := by
      have : 0 < u.natAbs := by omega
      exact Nat.mul_ne_zero (by omega) (by omega)
    rw [← exa_sW_uniq hx hn]
    exact hr
theorem add_word {A B : Nat} (hA : A ≤ 65536) (hB : B ≤ 65536) : floatBits .add .f64 (sW A) (sW B) = some (sW (A + B)) := by
  by_cases h0 : A + B = 0
  · have hA0 : A = 0 := by omega
    have hB0 : B = 0 := by omega
    subst hA0 hB0
    decide +kernel
  · obtain ⟨r, hr, hx⟩ := exa_add he64 (exa_sW A) (exa_sW B) (fits64 (by omega) (by omega) (by omega)) (fits64 (by omega) (by omega) (by omega)) (fits64 (by omega) (by omega) (by omega))
    rw [← Int.natCast_add] at hx
    rw [← exa_sW_uniq hx h0]
    exact hr
theorem bd_fin {y K : Nat} (h : Bd (wide y) K) (hn : nan32 y = false) (hK : K ≤ 1082) : fin32 y = true := by
  rcases not_nan_cases hn with ⟨s, m, e, h1⟩ | ⟨s, h1⟩
  · exact fin32_of h1
  · obtain ⟨r, hr, m, e, h2, _⟩ := nn_sq 1100 h (by omega) (by omega) (by omega)
    rw [inf_sq h1] at hr
    injection hr with hr
    rw [← hr, read_inf64] at h2
    cases h2
theorem long_q {F : Nat × Nat} {i : Int × Int} {B : Int} (h : CQ F i B) (hB : B ≤ 200) : LongW F.1 F.2 (sW (i.1.natAbs * i.1.natAbs)) (sW (i.2.natAbs * i.2.natAbs)) (sW (pw i)) (some (rootT (pw i))) ∧ fin32 (rootT (pw i)) = true := by
  obtain ⟨f1, f2, b1, b2⟩ := h
  have hp := sq_word (f1.wide (fits32 (by omega) (by omega) (by omega)) (fits64 (by omega) (by omega) (by omega))) (by omega)
  have hq := sq_word (f2.wide (fits32 (by omega) (by omega) (by omega)) (fits64 (by omega) (by omega) (by omega))) (by omega)
  have q1 : i.1.natAbs * i.1.natAbs ≤ 200 * 200 := Nat.mul_le_mul (by omega) (by omega)
  have q2 : i.2.natAbs * i.2.natAbs ≤ 200 * 200 := Nat.mul_le_mul (by omega) (by omega)
  have hs : floatBits .add .f64 (sW (i.1.natAbs * i.1.natAbs)) (sW (i.2.natAbs * i.2.natAbs)) = some (sW (pw i)) := add_word (by omega) (by omega)
  obtain ⟨p, hp', np⟩ := nn_sq 1086 (bd_quarter f1 (by omega)) (by omega) (by omega) (by omega)
  obtain ⟨q, hq', nq⟩ := nn_sq 1086 (bd_quarter f2 (by omega)) (by omega) (by omega) (by omega)
  rw [hp] at hp'; injection hp' with hp'
  rw [hq] at hq'; injection hq' with hq'
  rw [← hp'] at np
  rw [← hq'] at nq
  obtain ⟨s, hs', ns⟩ := nn_add np nq (by omega) (by omega)
  rw [hs] at hs'; injection hs' with hs'
  rw [← hs'] at ns
  obtain ⟨r, hr, br⟩ := nn_sqrt (H := 1082) ns (by omega) (by omega) (by omega)
  obtain ⟨n1, n2⟩ := narrow_ok br (by omega) (by omega)
  have hT : rootT (pw i) = narrow r := by unfold rootT; rw [hr]; simp [n1]
  rw [hT]
  exact ⟨⟨hp, hq, hs, .inr ⟨r, _, hr, n1, rfl, n2⟩⟩, bd_fin (narrow_bd br (by omega) (by omega)) n2 (by omega)⟩
theorem longOf_q {F : Nat × Nat} {i : Int × Int} {B : Int} (h : CQ F i B) (hB : B ≤ 200) (w : World) :
    Calls Try.prog 15 #[.complex .f32 F.1 F.2] w fun e w' => e = .returned (.float .f32 (rootT (pw i))) ∧ Quiet w w' := by
  obtain ⟨f1, f2, b1, b2⟩ := h
  have hl := (long_q ⟨f1, f2, b1, b2⟩ hB).1
  have n1 := fin_not_nan (fin_exa f1 (by omega) (by omega) (by omega))
  have n2 := fin_not_nan (fin_exa f2 (by omega) (by omega) (by omega))
  refine (longOf_w _ _ _ _ _ _ w n1 n2 hl).mono ?_
  rintro e w' ⟨⟨v, rfl, hv⟩, hq⟩
  obtain ⟨rfl, _⟩ := hv
  exact ⟨rfl, hq⟩
end Go.Proofs.Ytmkpkkaedhekdaa

namespace Go.Proofs.Ytmkpkkaedhekdaa
open Go.RowKit Fl

set_option maxRecDepth 100000 in
set_option maxHeartbeats 6400000 in
theorem worstOff_of (hb_ hc : Nat) (gs : List Gr) (gi : List GrI) (ao : Option Addr) (n c : Nat) (ls : List Lk) (is : List (Int × Int)) (w : World) (hg : GrsQ gs gi) (hfr : ∀ g ∈ gs, g.h = false) (hl : gs.length = 4) (hr : GrRow w hb_ gs) (hL : LRow w ao n ls) (hq : LksQ ls is) (hn : n ≤ 6) :
    Calls Try.prog 14 #[.agg #[.slice (some ⟨hb_, 0, none⟩) 4 hc], .slice ao n c, .complex .f32 0 0] w fun e w' => Below w.heap.size w w' ∧ ∃ j, j < 4 ∧ e = .returned (.tuple #[.int .i64 (j : Nat), .float .f32 (rootT (pw (forceI ls is n j))), .bool true]) := by
  have HA := Lib.hid fun w (h : GrRow w hb_ gs) (h' : LRow w ao n ls) => forcesOfLinks_of hb_ hc gs gi ao n c ls is w hg hl h h' hq hn
  have hbel := (Below.refl w.heap.size w).alloc (Nat.le_refl _) (.cells #[.slice (some ⟨hb_, 0, none⟩) 4 hc] 26)
  have hb1 := blk_new w 26 #[.slice (some ⟨hb_, 0, none⟩) 4 hc] _ rfl
  have L0 := Lib.hid hbel
  have K0 := Lib.hid hb1
  have R0 := Lib.hid (hr.below hbel (Nat.le_refl _))
  have A0 := Lib.hid (hL.below hbel (Nat.le_refl _))
  have HLen := Lib.hid hL.len
  have HGl := Lib.hid hl
  have HFr := Lib.hid hfr
  have HF := Lib.hid fun j (hj : j < 4) => force_cq hq (by rw [hL.len]; exact hn) n (by rw [hL.len]; exact Nat.le_refl _) j hj
  have a0 := hb1.cell 0
  clear hbel hb1 hr hL hq hl hg hfr
  go_enter Try.func14, Try.ntmps14
  go_wp2_with fail
  refine (HA.out _ R0.out A0.out).mono ?_
  rintro e w1 ⟨hb, fb, rfl, ho⟩
  have L1 := Lib.hid (below_next L0.out hb)
  have R1 := Lib.hid (R0.out.below hb (Nat.le_refl _))
  have K1 := Lib.hid (blk_next K0.out hb)
  have O1 := Lib.hid ho
  have a0 := K1.out.cell 0
  clear hb L0 K0 R0 A0 HA ho
  go_wp2_with fail
  clear a0
  go_loopw [11, 12, 28] (fun v g i wr => ∃ (W : World) (k : Nat) (wi : Int) (gv : Nat), W = wr ∧ k ≤ 4 ∧ i = .int .i64 k ∧ v = .int .i64 wi ∧ g = .float .f32 gv ∧ ((k = 0 ∧ wi = -1) ∨ ∃ j, j < k ∧ wi = (j : Nat) ∧ Hid (gv = rootT (pw (forceI ls is n j)))) ∧ Below w1.heap.size w1 wr) (fun _ _ i _ => 4 - (intOf i).toNat)
  case atStart => exact ⟨_, 0, -1, 0, rfl, by omega, rfl, rfl, rfl, .inl ⟨rfl, rfl⟩, Below.refl _ _⟩
  case round =>
    obtain ⟨W, k, wi, gv, rfl, hk, rfl, rfl, rfl, hst, hB⟩ := hrel
    by_cases hlt : k < 4
    · obtain ⟨g0, g1, g2, g3, g4, g5, g6⟩ := (R1.out.below hB (Nat.le_refl _)) k (by rw [HGl.out]; exact hlt)
      have hgh : (gs.getD k default).h = false := HFr.out _ (by rw [List.getD_eq_getElem?_getD, List.getElem?_eq_getElem (by rw [HGl.out]; exact hlt)]; exact List.getElem_mem _)
      generalize gs.getD k default = g at g0 g1 g2 g3 g4 g5 g6 hgh
      obtain ⟨ax, ay, sx, sy, gr, gm, gt, gs', gh⟩ := g
      dsimp only at g0 g1 g2 g3 g4 g5 g6 hgh
      subst hgh
      have hB2 := hB.alloc hB.size (.cells #[.complex .f32 ax ay, .complex .f32 sx sy, .float .f32 gr, .float .f32 gm, .float .f32 gt, .float .f32 gs', .bool false] 57)
      have hO2 := own_below O1.out hB2 (Nat.le_refl _)
      have hcl := (hO2.cellAt k (by omega)).trans (cm_at hlt)
      have hlo := fun w => longOf_q (HF.out k hlt) (by omega) w
      have HB2 := Lib.hid hB2
      have hX := Lib.hid (blk_new W 57 #[.complex .f32 ax ay, .complex .f32 sx sy, .float .f32 gr, .float .f32 gm, .float .f32 gt, .float .f32 gs', .bool false] _ rfl)
      have hsf := run_store_float' Try.prog
      have hsc := run_store_complex Try.prog
      generalize hrt : rootT (pw (forceI ls is n k)) = v at hlo
      have HRt := Lib.hid hrt
      generalize (forceW ls n k).1 = p1 at hcl hlo
      generalize (forceW ls n k).2 = p2 at hcl hlo
      have HLo := Lib.hid hlo
      clear hB hB2 hO2 hlo hrt
      go_wp2_with fail
      refine (HLo.out _).mono ?_
      rintro e w3 ⟨rfl, m, rfl⟩
      have HB3 := Lib.hid (below_drewN HB2.out m)
      have x6 := (hX.out.drewN m).cell 6
      clear HB2 hX HLo g0 g1 g2 g3 g4 g5 g6 hcl
      rcases hst with ⟨h0, rfl⟩ | ⟨j, hj, rfl, hgv⟩
      · have h0' := Lib.hid h0
        clear h0
        go_wp2_with fail
        go_roundw
        case rel => exact ⟨_, k + 1, k, v, rfl, by omega, by go_num, rfl, rfl, .inr ⟨k, by omega, rfl, HRt.out.symm⟩, HB3.out⟩
        case measure => simp [intOf]; omega
      · have HGv := hgv
        have hjn : ¬ ((j : Int) < 0) := by omega
        cases hcmp : (FloatKind.f32.format.order v gv == some .gt)
        · go_wp2_with fail
          go_roundw
          case rel => exact ⟨_, k + 1, j, gv, rfl, by omega, by go_num, rfl, rfl, .inr ⟨j, by omega, rfl, HGv⟩, HB3.out⟩
          case measure => simp [intOf]; omega
        · go_wp2_with fail
          go_roundw
          case rel => exact ⟨_, k + 1, k, v, rfl, by omega, by go_num, rfl, rfl, .inr ⟨k, by omega, rfl, HRt.out.symm⟩, HB3.out⟩
          case measure => simp [intOf]; omega
    · obtain rfl : k = 4 := by omega
      rcases hst with ⟨h0, _⟩ | ⟨j, hj, rfl, hgv⟩
      · omega
      · have hfin := (long_q (HF.out j hj) (by omega)).2
        rw [← hgv.out] at hfin
        have hjn : ¬ ((j : Int) < 0) := by omega
        have hF := fun w => isFinite_any gv w
        rw [hfin] at hF
        have HFi := Lib.hid hF
        have HB := Lib.hid hB
        clear hF hB hfin
        go_wp2_with fail
        refine (HFi.out _).mono ?_
        rintro e w3 ⟨rfl, hq3⟩
        go_wp2_with fail
        go_ret3
        exact ⟨below_next L1.out (below_next HB.out (hq3.below _)), j, hj, by rw [← hgv.out]; rfl⟩
end Go.Proofs.Ytmkpkkaedhekdaa

namespace Go.Proofs.Ytmkpkkaedhekdaa
open Go.RowKit Fl

theorem frow_own {w : World} {base b n c : Nat} {zs : List Nat} (h : w.ownsRow base 46 1 (.slice (some ⟨b, 0, none⟩) n c) n (zs.map (Value.float .f32))) (hl : zs.length = n) : FRow w (some ⟨b, 0, none⟩) n zs :=
  ⟨hl, fun _ => ⟨_, rfl⟩, fun a ha i hi => by
    obtain rfl := Option.some.inj ha
    have h1 := h.cellAt i (by omega)
    rw [show (⟨b, 0, none⟩ : Addr).add i = ⟨b, i, none⟩ by unfold Addr.add; split <;> simp_all]
    rw [h1]; simp [List.getD, List.getElem?_eq_getElem (show i < zs.length by omega)]⟩
def fcop (zs : List Nat) (n k : Nat) : List Value := (zs.take k).map (Value.float .f32) ++ List.replicate (n - k) (.float .f32 0)
theorem fcop_zero (zs : List Nat) (n : Nat) : fcop zs n 0 = List.replicate n (.float .f32 0) := by simp [fcop]
theorem fcop_all (zs : List Nat) (n : Nat) (h : zs.length = n) : fcop zs n n = zs.map (Value.float .f32) := by
  simp [fcop, ← h]
theorem fcop_succ (zs : List Nat) (n k : Nat) (h : zs.length = n) (hk : k < n) : (fcop zs n k).set k (.float .f32 (zs.getD k 0)) = fcop zs n (k + 1) := by
  unfold fcop
  have h1 : ((zs.take k).map (Value.float .f32)).length = k := by simp; omega
  have h2 : n - k = (n - (k + 1)) + 1 := by omega
  rw [h2, List.replicate_succ, List.set_append_right _ _ (by omega), h1, Nat.sub_self, List.set_cons_zero]
  rw [List.take_succ_eq_append_getElem (by omega), List.map_append, List.append_assoc]
  congr 1
  simp [List.getD, List.getElem?_eq_getElem (show k < zs.length by omega)]

theorem run_store_float (P : Program) (w : World) (a : Addr) (k : FloatKind) (b : Nat) (m : Mode) : (store a (.float k b) m).run P w = stored P w a (.float k b) m := run_store P w a _ m rfl

theorem made_f32 (n : Nat) : (madeCells (Value.float .f32 0).cells (n * 1)).toList = List.replicate n (.float .f32 0) := by
  rw [Nat.mul_one]
  simp only [madeCells, Value.cells]
  apply List.ext_getElem
  · simp
  · intro i h1 h2
    simp [Nat.mod_one]

theorem f32info : (Try.prog.info? 46).map (fun i => (i.zero, i.size, i.bytes)) = some (some (.float .f32 0), 1, 4) := by kernel_rfl
theorem f32inf : (Try.prog.info? 46).map (fun i => (i.zero, i.size, i.bytes)) = some (some (.float .f32 0), 1, 4) := by kernel_rfl
def strs (is : List (Int × Int)) : List Nat := is.map (fun i => rootT (pw i))
theorem strs_at {is : List (Int × Int)} {k : Nat} (h : k < is.length) : (strs is).getD k 0 = rootT (pw (is.getD k default)) := by
  simp [strs, List.getD, List.getElem?_eq_getElem h]
theorem strength_of (l : Lk) (i : Int × Int) (h : LkQ l i) (w : World) :
    Calls Try.prog 29 #[.agg #[.int .i64 l.a, .int .i64 l.b, .complex .f32 l.x l.y]] w fun e w' => e = .returned (.float .f32 (rootT (pw i))) ∧ Below w.heap.size w w' := by
  have HL := Lib.hid fun w => longOf_q h.cq (by omega) w
  obtain ⟨a, b, x, y⟩ := l
  dsimp only at HL ⊢
  clear h
  have L0 := Lib.hid ((Below.refl w.heap.size w).alloc (Nat.le_refl _) (.cells #[.int .i64 a, .int .i64 b, .complex .f32 x y] 48))
  have c2 := (blk_new w 48 #[.int .i64 a, .int .i64 b, .complex .f32 x y] _ rfl).cell 2
  go_enter Try.func29, Try.ntmps29
  go_wp2_with fail
  refine (HL.out _).mono ?_
  rintro e w1 ⟨rfl, m, rfl⟩
  go_wp2_with fail
  go_ret
  exact ⟨rfl, below_drewN L0.out m⟩
set_option maxRecDepth 100000 in
set_option maxHeartbeats 3200000 in
theorem eachStrength_of (ao : Option Addr) (n c : Nat) (ls : List Lk) (is : List (Int × Int)) (w : World) (hL : LRow w ao n ls) (hq : LksQ ls is) (hn : n ≤ 6) :
    Calls Try.prog 28 #[.slice ao n c, .func (.func 29) #[] #[]] w fun e w' => e = .returned (.slice (some ⟨w.heap.size, 0, none⟩) n n) ∧ FRow w' (some ⟨w.heap.size, 0, none⟩) n (strs is) ∧ Below w.heap.size w w' := by
  obtain ⟨i0, hi, hz0, hz1, hz2⟩ := info_parts f32inf
  have HL := Lib.hid hL
  have HN := Lib.hid hL.len
  have HQ := Lib.hid hq
  have HZ := Lib.hid (show (strs is).length = n by unfold strs; rw [List.length_map, hq.1, hL.len])
  clear hL hq
  go_enter Try.func28, Try.ntmps28
  go_wp2_with (at_make; go_loud (refine wpList_make_full _ rfl _ _ 41 rfl w.heap.size 46 i0 (.float .f32 0) 1 Try.underlying41 hi hz0 hz1 .i64 .i64 _ _ n rfl rfl rfl rfl (by rw [hz2]; omega) (by unfold maxLen; omega) (Nat.le_refl _) ?_); intro w1 hown hgrow)
  have B1 := Lib.hid ((Below.refl w.heap.size w).grown hgrow (Nat.le_refl _) (by simp) : Below w.heap.size w w1)
  have O1 := Lib.hid hown
  clear hown hgrow
  go_loopw [13] (fun i wr => ∃ (W : World) (k : Nat), W = wr ∧ k ≤ n ∧ i = .int .i64 k ∧ wr.ownsRow w.heap.size 46 1 (.slice (some ⟨w.heap.size, 0, none⟩) n n) n (fcop (strs is) n k) ∧ Below w.heap.size w wr) (fun i _ => n - (intOf i).toNat)
  case atStart => exact ⟨_, 0, rfl, Nat.zero_le _, rfl, by rw [fcop_zero, ← made_f32]; exact O1.out, B1.out⟩
  case round =>
    clear O1 B1
    obtain ⟨W, k, rfl, hk, rfl, hO, hB⟩ := hrel
    by_cases hlt : k < n
    · obtain ⟨b, rfl⟩ := HL.out.addr (by omega)
      obtain ⟨c0, c1, c2⟩ := (HL.out.below hB (Nat.le_refl _)).cell b rfl k hlt
      have hkl : k < ls.length := by rw [HN.out]; exact hlt
      have hq := HQ.out.2 k hkl
      have HS := Lib.hid fun w => strength_of _ _ hq w
      rw [← strs_at (by rw [HQ.out.1]; exact hkl)] at HS
      have hsc2 := Lib.hid (fcop_succ (strs is) n k HZ.out hlt)
      generalize ls.getD k default = l at c0 c1 c2 HS
      obtain ⟨la, lb, lx, ly⟩ := l
      dsimp only at c0 c1 c2 HS
      generalize (strs is).getD k 0 = z at HS hsc2
      have O2 := Lib.hid (hO.alloc (.cells #[.int .i64 la, .int .i64 lb, .complex .f32 lx ly] 48))
      have B2 := Lib.hid (hB.alloc hB.size (.cells #[.int .i64 la, .int .i64 lb, .complex .f32 lx ly] 48))
      have hsc := run_store_complex Try.prog
      have hsf := run_store_float Try.prog
      clear hO hB hq
      go_wp2_with fail
      generalize W.alloc (.cells #[.int .i64 la, .int .i64 lb, .complex .f32 lx ly] 48) = W2 at O2 B2 ⊢
      refine (HS.out _).mono ?_
      rintro e w3 ⟨rfl, hb⟩
      have hO3 := own_below O2.out hb (Nat.le_refl _)
      have hB3 := B2.out.trans (hb.mono B2.out.size)
      have hst := (hO3.stored k (.float .f32 z)).1
      rw [hsc2.out] at hst
      have hfr := hO3.frozenAt k
      have hcl := hO3.cellAt k (by omega)
      rw [List.getElem?_eq_getElem (by rw [hO3.1]; omega)] at hcl
      generalize (fcop (strs is) n k)[k]'_ = old at hcl
      have O4 := Lib.hid hst
      have B4 := Lib.hid (hB3.setCell (p := ⟨w.heap.size, k, none⟩) (Nat.le_refl _) (.float .f32 z))
      clear hO3 hB3 hst hb O2 B2 hsc2 HS
      go_wp2_with fail
      go_roundw
      case rel => exact ⟨_, k + 1, rfl, by omega, by go_num, O4.out, B4.out⟩
      case measure => simp [intOf]; omega
    · obtain rfl : n = k := by omega
      have h3 := hO
      rw [fcop_all (strs is) n HZ.out] at h3
      have HR := Lib.hid (frow_own h3 HZ.out)
      have HB := Lib.hid hB
      clear h3 hO hB
      go_wp2_with fail
      go_ret
      exact ⟨rfl, HR.out, HB.out⟩
end Go.Proofs.Ytmkpkkaedhekdaa
