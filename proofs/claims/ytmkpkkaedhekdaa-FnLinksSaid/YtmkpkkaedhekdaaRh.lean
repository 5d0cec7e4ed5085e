/- The drawn heap: a bent row of grains at different places. -/
import Derived.Test.YtmkpkkaedhekdaaDg
import Derived.Test.YtmkpkkaedhekdaaBrow
namespace Go.Proofs.Ytmkpkkaedhekdaa
open Go.RowKit Fl

set_option maxHeartbeats 1600000 in
theorem from_row (ao : Option Addr) (n c : Nat) (w : World) (hr : BRow w ao n) :
    Calls Try.prog 18 #[.slice ao n c] w fun e w' => e = .returned (.pointer (some ⟨w.heap.size, 0, none⟩)) ∧ Src w' w.heap.size 0 ∧ Below w.heap.size w w' := by
  have HA := Lib.hid hr.addr
  have HC := Lib.hid hr.cell
  have hn := hr.len
  clear hr
  go_enter Try.func18, Try.ntmps18
  go_wp2
  go_ret
  have hb := (Below.refl w.heap.size w).alloc (Nat.le_refl _) (.cells #[.slice ao n c, .int .i64 0, .int .u64 0] 84)
  exact ⟨rfl, Src.put (k := 0) (blk_new w _ _ _ rfl) hb (Nat.le_refl _) hn (by omega) HA.out (fun a h i hi => by
    obtain ⟨v, hv, he⟩ := HC.out a h i hi
    exact ⟨World.block_lt_of_cell? w _ he, v, hv, he⟩), hb⟩
/-- the grains stand in a bent row: from left to right, the last one at x or before it -/
def Bent (is : List GrI) (x : Int) : Prop := (∀ j, j < is.length → (is.getD j default).x ≤ x ∧ -14 ≤ (is.getD j default).x ∧ -4 ≤ (is.getD j default).y ∧ (is.getD j default).y ≤ 4) ∧ ∀ i j, i < j → j < is.length → (is.getD i default).x + 2 ≤ (is.getD j default).x
theorem Bent.nil (x : Int) : Bent [] x := ⟨fun j hj => absurd hj (Nat.not_lt_zero j), fun _ j _ hj => absurd hj (Nat.not_lt_zero j)⟩
theorem getD_snoc {α : Type} [Inhabited α] (l : List α) (a : α) (k : Nat) (h : k < l.length) : (l ++ [a]).getD k default = l.getD k default := by simp [List.getD, List.getElem?_append_left h]
theorem getD_last {α : Type} [Inhabited α] (l : List α) (a : α) : (l ++ [a]).getD l.length default = a := by simp [List.getD]
theorem Bent.snoc {is : List GrI} {x : Int} (h : Bent is x) (i : GrI) (h0 : -16 ≤ x) (h1 : x + 2 ≤ i.x) (h2 : -4 ≤ i.y ∧ i.y ≤ 4) : Bent (is ++ [i]) i.x := by
  refine ⟨fun j hj => ?_, fun a b hab hb => ?_⟩
  · by_cases hlt : j < is.length
    · rw [getD_snoc _ _ _ hlt]; have := h.1 j hlt; omega
    · obtain rfl : j = is.length := by simp at hj; omega
      rw [getD_last]; omega
  · by_cases hlt : b < is.length
    · rw [getD_snoc _ _ _ hlt, getD_snoc _ _ _ (by omega)]; exact h.2 a b hab hlt
    · obtain rfl : b = is.length := by simp at hb; omega
      rw [getD_last, getD_snoc _ _ _ hab]; have := (h.1 a hab).1; omega
theorem own_put {w : World} {base e size n : Nat} {v : Value} {xs : List Value} (h : w.ownsRow base e size v n xs) {p : Addr} (hne : v.ownBlock ≠ some p.block) (u : Value) : (w.setCell p u).ownsRow base e size v n xs :=
  h.kept (row := some p.block) ⟨rfl, rfl, rfl, by simp [World.setCell], fun k _ hk => heap_setCell_other w p k u (fun e => hk (by simp [e]))⟩ (Or.inr (Ne.symm (Ne.symm hne)))
theorem Src.grow {b m : Nat} {w w1 : World} {row : Option Nat} (h : Src w b m) (hg : w.grownBy w1 row) (hr : ∀ k, row = some k → b < k) : Src w1 b m := by
  obtain ⟨ao, n, c, k, sd, h1, h2, h3, h4, h5, h6⟩ := h
  refine Src.put (w := w) (h1.grown hg (fun e => by have := hr b e.symm; omega)) ?_ h2 h3 h4 h5 h6
  exact (Below.refl _ _).grown hg (Nat.le_of_lt h1.lt) (fun k hk => Nat.le_of_lt (hr k hk))
theorem gr_at (w : World) (t : TypeId) (g : Gr) (q : Nat) (hq : w.heap.size = q) : ∀ j u, g.cells[j]? = some u → (w.alloc (.cells #[.complex .f32 g.ax g.ay, .complex .f32 g.sx g.sy, .float .f32 g.r, .float .f32 g.m, .float .f32 g.t, .float .f32 g.s, .bool g.h] t)).cell? ((⟨q, 0, none⟩ : Addr).add j) = some u := by subst hq; exact gr_new w t g 0
theorem neGS : 57 ≠ 84 := by decide
theorem neGH' : 57 ≠ 26 := by decide
/-- a heap of k drawn grains, in memory of the call's own -/
def HeapQ (w : World) (k : Nat) (e : Ending) (w' : World) : Prop := ∃ (gs : List Gr) (is : List GrI) (b c : Nat), gs.length = k ∧ GrsQ gs is ∧ Bent is 64 ∧ (∀ g ∈ gs, g.h = false) ∧ e = .returned (.agg #[.slice (some ⟨b, 0, none⟩) k c]) ∧
  w'.ownsRow w.heap.size 57 7 (.slice (some ⟨b, 0, none⟩) k c) k (gcells gs) ∧ Below w.heap.size w w'
theorem Bent.most {is : List GrI} {x : Int} (h : Bent is x) (hx : x ≤ 64) : Bent is 64 := ⟨fun j hj => by have := h.1 j hj; omega, h.2⟩
/-- what the loop keeps -/
structure RhInv (w wr : World) (b H R k : Nat) (bk ck : Nat) (X : Nat) (nx : Int) (gs : List Gr) (is : List GrI) : Prop where
  len : gs.length = k
  ex : Exa Ieee.single (-2) X nx
  bx : -16 ≤ nx ∧ nx ≤ -16 + 6 * (k : Int)
  q : GrsQ gs is
  bent : Bent is nx
  free : ∀ g ∈ gs, g.h = false
  bh : Blk wr H 26 #[.slice (some ⟨bk, 0, none⟩) k ck]
  br : Blk wr R 26 #[.slice none 0 0]
  own : wr.ownsRow w.heap.size 57 7 (.slice (some ⟨bk, 0, none⟩) k ck) k (gcells gs)
  src : Src wr b (50 * k)
  below : Below w.heap.size w wr
set_option maxRecDepth 100000 in
set_option maxHeartbeats 3200000 in
theorem r8Heap_of (ao : Option Addr) (n c k0 : Nat) (w : World) (hr : BRow w ao n) (hk0 : k0 ≤ 6) :
    Calls Try.prog 5 #[.slice ao n c, .int .i64 k0] w (HeapQ w k0) := by
  obtain ⟨i0, hi, hz0, hz1, hz2⟩ := info_parts ginfo
  have HF := Lib.hid fun w (h : BRow w ao n) => from_row ao n c w h
  have HR := Lib.hid hr
  clear hr
  go_enter Try.func5, Try.ntmps5
  go_wp2_with fail
  refine (HF.out _ (HR.out.next ((Below.refl w.heap.size w).alloc (Nat.le_refl _) _))).mono ?_
  rintro e w1 ⟨rfl, hs, hb⟩
  have hsz : (w.alloc (.cells #[.slice none 0 0] 26)).heap.size = w.heap.size + 1 := by simp
  rw [hsz] at hs hb ⊢
  have HS1 := Lib.hid hs
  have HL1 := Lib.hid (((Below.refl w.heap.size w).alloc (Nat.le_refl _) (.cells #[.slice none 0 0] 26)).trans (hb.mono (by omega)))
  have HR1 := Lib.hid ((blk_new w 26 #[.slice none 0 0] _ rfl).below hb (by omega))
  clear hs hb hsz
  go_wp2
  go_loopw [1, 7] (fun i x wr => ∃ (W : World) (k j bk ck X : Nat) (nx : Int) (gs : List Gr) (is : List GrI), W = wr ∧ Hid (k + j = k0) ∧ k ≤ k0 ∧ j ≤ k0 ∧ i = .int .i64 j ∧ x = .float .f32 X ∧ RhInv w wr (w.heap.size + 1) (w1.heap.size + 1) w.heap.size k bk ck X nx gs is) (fun i _ _ => (intOf i).toNat)
  case atStart =>
    have hb1 := HS1.out.lt
    refine ⟨_, 0, k0, w1.heap.size, 0, 3229614080, -16, [], [], rfl, by show 0 + k0 = k0; omega, Nat.zero_le _, Nat.le_refl _, rfl, rfl, ?_⟩
    refine ⟨rfl, ⟨fun _ => by decide +kernel, fun h => by cases h⟩, by omega, GrsQ.nil, Bent.nil _, fun g hg => by simp at hg, ?_, ?_, ?_, ?_, ?_⟩
    · exact blk_new _ _ _ _ (by simp)
    · exact (HR1.out.alloc _).alloc _
    · exact own_from ((own_nil_lit w1 57 w1.heap.size (Nat.le_refl _)).alloc _) HL1.out.size
    · exact (HS1.out.over (((Below.refl w1.heap.size w1).alloc (Nat.le_refl _) _).alloc (by simp) _) hb1).mono (by omega)
    · exact (HL1.out.alloc HL1.out.size _).alloc (by have := HL1.out.size; simp; omega) _
  case round =>
    obtain ⟨W, k, j, bk, ck, X, nx, gs, is, rfl, hkj, hk, hj, rfl, rfl, hI⟩ := hrel
    have HI := Lib.hid hI
    have hbs := hI.src.lt
    have hsz := hI.below.size
    clear hI
    rcases j with _ | j
    · have c0 := HI.out.bh.cell 0
      have r0 := HI.out.br.cell 0
      have d0 := HI.out.br.frozen 0
      have hk0 : k = k0 := by have := hkj.out; omega
      have HI' := Lib.hid (show RhInv w W (w.heap.size + 1) (w1.heap.size + 1) w.heap.size k bk ck X nx gs is from HI.out)
      have HK := Lib.hid hk0
      clear hk0
      go_wp2
      refine bodyPost_ret (v := .agg #[.slice (some ⟨bk, 0, none⟩) k ck]) (results_cell_row Try.results5 _ _ w.heap.size 26 #[.slice (some ⟨bk, 0, none⟩) k ck] (0, 0) _ rfl (HI.out.br.set_ 0 _) Try.underlying26 rfl (by kernel_rfl)) rfl ?_
      obtain rfl := HK.out
      have hb := HI.out.bx
      exact ⟨gs, is, bk, ck, HI.out.len, HI.out.q, HI.out.bent.most (by omega), HI.out.free, rfl, own_far HI.out.own HI.out.br neGH' 0 _, HI.out.below.setCell (Nat.le_refl _) _⟩
    · have hj0 : (0 : Int) < ((j + 1 : Nat) : Int) := by omega
      have hk1 : k < k0 := by have := hkj.out; omega
      have hsf := run_store_float' Try.prog
      have hsc := run_store_complex Try.prog
      have HD := Lib.hid (drawGrain_of (w.heap.size + 1) (50 * k) W (by omega) HI.out.src)
      go_wp2_with fail
      refine HD.out.mono ?_
      rintro e w2 ⟨g, gi, hq, rfl, hs, ho⟩
      obtain ⟨ax, ay, sx, sy, gr, gm, gt, gs', gh⟩ := g
      unfold Gr.val
      dsimp only at hq ⊢
      have HQ := Lib.hid hq
      have hG := ho.below.size
      have hlH := HI.out.bh.lt
      have hHb : w1.heap.size + 1 ≠ w.heap.size + 1 := by have := HS1.out.lt; omega
      have hw1 := HS1.out.lt
      have HS2 := Lib.hid (hs.next ((Below.refl w2.heap.size w2).alloc (Nat.le_refl _) (.cells #[.complex .f32 ax ay, .complex .f32 sx sy, .float .f32 gr, .float .f32 gm, .float .f32 gt, .float .f32 gs', .bool gh] 57)))
      have HH2 := Lib.hid ((ho.blk HI.out.bh hHb).alloc (.cells #[.complex .f32 ax ay, .complex .f32 sx sy, .float .f32 gr, .float .f32 gm, .float .f32 gt, .float .f32 gs', .bool gh] 57))
      have HR2 := Lib.hid ((ho.blk HI.out.br (by omega)).alloc (.cells #[.complex .f32 ax ay, .complex .f32 sx sy, .float .f32 gr, .float .f32 gm, .float .f32 gt, .float .f32 gs', .bool gh] 57))
      have HG2 := Lib.hid (blk_new w2 57 #[.complex .f32 ax ay, .complex .f32 sx sy, .float .f32 gr, .float .f32 gm, .float .f32 gt, .float .f32 gs', .bool gh] _ rfl)
      have hne : (Value.slice (some ⟨bk, 0, none⟩) k ck).ownBlock ≠ some (w.heap.size + 1) := by
        obtain ⟨ao', n', c', k', sd', hb', _⟩ := HI.out.src
        exact (own_blk_ne HI.out.own hb' neGS).symm
      have HNE := Lib.hid hne
      have HOw2 := Lib.hid ((ho.own HI.out.own hne).alloc (.cells #[.complex .f32 ax ay, .complex .f32 sx sy, .float .f32 gr, .float .f32 gm, .float .f32 gt, .float .f32 gs', .bool gh] 57))
      have HB2 := Lib.hid ((ho.under HI.out.below (by omega)).alloc (by omega) (.cells #[.complex .f32 ax ay, .complex .f32 sx sy, .float .f32 gr, .float .f32 gm, .float .f32 gt, .float .f32 gs', .bool gh] 57))
      have hlG : w.heap.size + 1 < w2.heap.size := hs.lt
      clear hs ho hq hne
      have HP := Lib.hid fun W' m n (hm : m < 2000000) (h : Src W' (w.heap.size + 1) m) (h1 : 1 ≤ n) (h2 : n ≤ 65536) => pick_of (w.heap.size + 1) m n W' (by omega) h h1 h2
      go_wp2_with fail
      refine (HP.out _ _ 5 (by omega) HS2.out (by omega) (by omega)).mono ?_
      rintro e w3 ⟨z3, l3, u3, rfl, hs, ho⟩
      obtain ⟨r3, hq3, hx3⟩ := quo4 (2 + z3) (by omega)
      obtain ⟨X', hq4, hx4⟩ := add32 HI.out.ex hx3 (by omega) (by omega) (by have := HI.out.bx; omega) (by omega)
      have e3 := fun w => run_float_arith (P := Try.prog) w .quo 46 .f32 _ _ _ hq3
      have e4 := fun w => run_float_arith (P := Try.prog) w .add 46 .f32 _ _ _ hq4
      have HX := Lib.hid hx4
      have HS3 := Lib.hid hs
      have HH3 := Lib.hid (ho.blk HH2.out hHb)
      have HR3 := Lib.hid (ho.blk HR2.out (by omega))
      have HG3 := Lib.hid (ho.blk HG2.out (by omega))
      have HOw3 := Lib.hid (ho.own HOw2.out HNE.out)
      have HB3 := Lib.hid (ho.under HB2.out (by omega))
      clear hs ho hq3 hq4 hx3 hx4
      go_wp2_with fail
      refine (HP.out _ _ 9 (by omega) HS3.out (by omega) (by omega)).mono ?_
      rintro e w4 ⟨z4, l4, u4, rfl, hs, ho⟩
      obtain ⟨r4, hq3, hx3⟩ := quo4 (z4 - 4) (by omega)
      have e5 := fun w => run_float_arith (P := Try.prog) w .quo 46 .f32 _ _ _ hq3
      have HY := Lib.hid hx3
      have HG4 := Lib.hid (ho.blk HG3.out (by omega))
      have HS4 := Lib.hid hs
      have HH4 := Lib.hid (ho.blk HH3.out hHb)
      have HR4 := Lib.hid (ho.blk HR3.out (by omega))
      have HOw4 := Lib.hid (ho.own HOw3.out HNE.out)
      have HB4 := Lib.hid (ho.under HB3.out (by omega))
      have c0 := HG4.out.cell 0
      have c1 := HG4.out.cell 1
      have c2 := HG4.out.cell 2
      have c3 := HG4.out.cell 3
      have c4 := HG4.out.cell 4
      have c5 := HG4.out.cell 5
      have c6 := HG4.out.cell 6
      have f0 := HG4.out.frozen 0
      have f6 := HG4.out.frozen 6
      have ch := HH4.out.cell 0
      have fh := HH4.out.frozen 0
      clear hs ho hq3 hx3
      have hbk : w.heap.size + 1 < bk ∧ bk < W.heap.size := by
        have h1 := HI.out.own.lt bk rfl
        have h2 : some w.heap.size ≠ some bk := own_blk_ne HI.out.own HI.out.br neGH'
        have h3 : some bk ≠ some (w.heap.size + 1) := HNE.out
        have h4 : w.heap.size ≠ bk := fun e => h2 (by rw [e])
        have h5 : bk ≠ w.heap.size + 1 := fun e => h3 (by rw [e])
        omega
      have HOw5 := Lib.hid (own_put (own_put HOw4.out (p := ⟨w2.heap.size, 0, none⟩) (by intro e; have h9 : bk = w2.heap.size := (by simpa [Value.ownBlock] using e); omega) (.complex .f32 X' r4)) (p := ⟨w2.heap.size, 6, none⟩) (by intro e; have h9 : bk = w2.heap.size := (by simpa [Value.ownBlock] using e); omega) (.bool false))
      have hH2 : w1.heap.size + 1 < w2.heap.size := by omega
      have HH5 := Lib.hid (((HH4.out.far (p := ⟨w2.heap.size, 0, none⟩) (by show w1.heap.size + 1 ≠ w2.heap.size; omega) (.complex .f32 X' r4)).far (p := ⟨w2.heap.size, 6, none⟩) (by show w1.heap.size + 1 ≠ w2.heap.size; omega) (.bool false)).alloc (.cells #[.complex .f32 X' r4, .complex .f32 sx sy, .float .f32 gr, .float .f32 gm, .float .f32 gt, .float .f32 gs', .bool false] 57))
      have HR5 := Lib.hid (((HR4.out.far (p := ⟨w2.heap.size, 0, none⟩) (by show w.heap.size ≠ w2.heap.size; omega) (.complex .f32 X' r4)).far (p := ⟨w2.heap.size, 6, none⟩) (by show w.heap.size ≠ w2.heap.size; omega) (.bool false)).alloc (.cells #[.complex .f32 X' r4, .complex .f32 sx sy, .float .f32 gr, .float .f32 gm, .float .f32 gt, .float .f32 gs', .bool false] 57))
      have hs5 := HS4.out.over (((Below.refl w2.heap.size w4).setCell (p := ⟨w2.heap.size, 0, none⟩) (Nat.le_refl _) (.complex .f32 X' r4)).setCell (p := ⟨w2.heap.size, 6, none⟩) (Nat.le_refl _) (.bool false)) hlG
      have HS5 := Lib.hid (hs5.next ((Below.refl _ _).alloc (Nat.le_refl _) (.cells #[.complex .f32 X' r4, .complex .f32 sx sy, .float .f32 gr, .float .f32 gm, .float .f32 gt, .float .f32 gs', .bool false] 57)))
      have hb5 := (HB4.out.setCell (p := ⟨w2.heap.size, 0, none⟩) (by show w.heap.size ≤ w2.heap.size; omega) (.complex .f32 X' r4)).setCell (p := ⟨w2.heap.size, 6, none⟩) (by show w.heap.size ≤ w2.heap.size; omega) (.bool false)
      have HB5 := Lib.hid (hb5.alloc hb5.size (.cells #[.complex .f32 X' r4, .complex .f32 sx sy, .float .f32 gr, .float .f32 gm, .float .f32 gt, .float .f32 gs', .bool false] 57))
      have hk6 : k ≤ 6 := by omega
      have hw4 : w.heap.size ≤ w4.heap.size := HB4.out.size
      clear hs5 hb5
      go_wp2_with (at_builtin; go_loud (refine wpList_append_own _ rfl _ _ 24 rfl w.heap.size 57 i0 _ 7 36 Try.underlying24 hi hz0 hz1 hz2 rfl (by decide) (.slice (some ⟨bk, 0, none⟩) k ck) k _ rfl (HOw5.out.alloc _) ⟨w4.heap.size, 0, none⟩ 1 1 (⟨X', r4, sx, sy, gr, gm, gt, gs', false⟩ : Gr).cells rfl rfl (gr_at ((w4.setCell ⟨w2.heap.size, 0, none⟩ (.complex .f32 X' r4)).setCell ⟨w2.heap.size, 6, none⟩ (.bool false)) _ ⟨X', r4, sx, sy, gr, gm, gt, gs', false⟩ _ (by simp [World.setCell])) (cells_one _) (by unfold maxLen; omega) (by omega) (by simp; omega) ?_); intro v' w5 hown' hgrow hnil; go_must (obtain ⟨b', c', rfl, hb', -⟩ := own_form hown' (by omega)); have HH6 := Lib.hid (HH5.out.grown hgrow (by exact own_blk_ne HI.out.own HI.out.bh neGH')); have HR6 := Lib.hid (HR5.out.grown hgrow (by exact own_blk_ne HI.out.own HI.out.br neGH')); have HS6 := Lib.hid (HS5.out.grow hgrow (fun q hq => by (have h9 : bk = q := (by simpa [Value.ownBlock] using hq); omega))); have HB6 := Lib.hid (HB5.out.grown hgrow (by simp; omega) (fun q hq => by (have h9 : bk = q := (by simpa [Value.ownBlock] using hq); omega))); have HOw6 := Lib.hid hown'; have ch6 := HH6.out.cell 0; have fh6 := HH6.out.frozen 0; clear hown' hgrow hnil)
      go_roundw
      case rel =>
        have hH : w.heap.size + 1 < w1.heap.size + 1 := by omega
        refine ⟨_, k + 1, j, b', c', X', nx + (2 + z3), gs ++ [⟨X', r4, sx, sy, gr, gm, gt, gs', false⟩], is ++ [{ gi with x := nx + (2 + z3), y := z4 - 4 }], rfl, by have := hkj.out; show k + 1 + j = k0; omega, hk1, by omega, by go_num, rfl, ?_⟩
        have hbx := HI.out.bx
        refine ⟨by simp [HI.out.len], HX.out, by omega, HI.out.q.snoc ?_, HI.out.bent.snoc { gi with x := nx + (2 + z3), y := z4 - 4 } (by omega) (by show nx + 2 ≤ nx + (2 + z3); omega) (by show -4 ≤ z4 - 4 ∧ z4 - 4 ≤ 4; omega), ?_, HH6.out.set_ 0 _, HR6.out.far (by show w.heap.size ≠ w1.heap.size + 1; omega) _, ?_, (HS6.out.over ((Below.refl (w1.heap.size + 1) _).setCell (p := ⟨w1.heap.size + 1, 0, none⟩) (Nat.le_refl _) _) hH).mono (by omega), HB6.out.setCell (by show w.heap.size ≤ w1.heap.size + 1; omega) _⟩
        · have q := HQ.out
          exact ⟨HX.out, by show -64 ≤ nx + (2 + z3) ∧ nx + (2 + z3) ≤ 64; omega, HY.out, by show -16 ≤ z4 - 4 ∧ z4 - 4 ≤ 16; omega, q.sx, q.bu, q.sy, q.bv, q.r, q.br, q.m, q.bm, q.t, q.bt, q.s, q.bs⟩
        · intro g hg
          rcases List.mem_append.1 hg with h1 | h1
          · exact HI.out.free g h1
          · have : g = ⟨X', r4, sx, sy, gr, gm, gt, gs', false⟩ := by simpa using h1
            rw [this]
        · rw [gcells_snoc]
          exact own_far HOw6.out HH6.out neGH' 0 _
      case measure => simp [intOf]
end Go.Proofs.Ytmkpkkaedhekdaa
