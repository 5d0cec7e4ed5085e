/- Links that go back. -/
import Derived.Test.YtmkpkkaedhekdaaRh
import Derived.Test.YtmkpkkaedhekdaaHr
import Derived.Test.YtmkpkkaedhekdaaExa
import Derived.Deep.Slices
import Derived.Deep.MidRow
namespace Go.Proofs.Ytmkpkkaedhekdaa
open Go.RowKit Fl

structure Lk where
  a : Nat
  b : Nat
  x : Nat
  y : Nat
instance : Inhabited Lk := ⟨⟨0, 0, 0, 0⟩⟩
def Lk.cells (l : Lk) : List Value := [.int .i64 l.a, .int .i64 l.b, .complex .f32 l.x l.y]
abbrev Lk.val (l : Lk) : Value := .agg #[.int .i64 l.a, .int .i64 l.b, .complex .f32 l.x l.y]
/-- the push, in quarters -/
structure LkQ (l : Lk) (i : Int × Int) : Prop where
  ha : l.a < 4
  hb : l.b < 4
  hne : l.a ≠ l.b
  hx : Exa Ieee.single (-2) l.x i.1
  hy : Exa Ieee.single (-2) l.y i.2
  bx : -16 ≤ i.1 ∧ i.1 ≤ 16
  by_ : -16 ≤ i.2 ∧ i.2 ≤ 16
def LksQ (ls : List Lk) (is : List (Int × Int)) : Prop := is.length = ls.length ∧ ∀ k, k < ls.length → LkQ (ls.getD k default) (is.getD k default)
theorem LksQ.nil : LksQ [] [] := ⟨rfl, fun k hk => absurd hk (Nat.not_lt_zero k)⟩
theorem LksQ.snoc {ls : List Lk} {is : List (Int × Int)} {l : Lk} {i : Int × Int} (h : LksQ ls is) (hl : LkQ l i) : LksQ (ls ++ [l]) (is ++ [i]) := by
  refine ⟨by simp [h.1], fun k hk => ?_⟩
  by_cases hlt : k < ls.length
  · rw [getD_snoc _ _ _ hlt, getD_snoc _ _ _ (by rw [h.1]; exact hlt)]; exact h.2 k hlt
  · obtain rfl : k = ls.length := by simp at hk; omega
    rw [getD_last, ← h.1, getD_last]; exact hl
def lcells (ls : List Lk) : List Value := ls.flatMap Lk.cells
theorem lcells_snoc (ls : List Lk) (l : Lk) : lcells (ls ++ [l]) = lcells ls ++ l.cells := by simp [lcells, List.flatMap_append]
theorem lcells_length : ∀ ls : List Lk, (lcells ls).length = ls.length * 3
  | [] => rfl
  | g :: gs => by
    have := lcells_length gs
    unfold lcells at this ⊢
    rw [List.flatMap_cons, List.length_append, this, List.length_cons]
    have : g.cells.length = 3 := rfl
    omega
theorem lcells_at : ∀ (ls : List Lk) (i j : Nat), i < ls.length → j < 3 → (lcells ls)[i * 3 + j]? = (ls.getD i default).cells[j]?
  | [], i, j, hi, _ => by simp at hi
  | g :: gs, 0, j, _, hj => by
    unfold lcells
    rw [List.flatMap_cons, List.getElem?_append_left (by show 0 * 3 + j < 3; omega)]
    simp
  | g :: gs, i + 1, j, hi, hj => by
    have ih := lcells_at gs i j (by simpa using hi) hj
    unfold lcells at ih ⊢
    rw [List.flatMap_cons, List.getElem?_append_right (by show 3 ≤ _; omega)]
    have e : (i + 1) * 3 + j - g.cells.length = i * 3 + j := by show (i + 1) * 3 + j - 3 = _; omega
    rw [e, ih]
    simp
/-- a slice value of n links -/
structure LRow (w : World) (ao : Option Addr) (n : Nat) (ls : List Lk) : Prop where
  len : ls.length = n
  addr : 0 < n → ∃ b, ao = some ⟨b, 0, none⟩
  cell : ∀ b, ao = some ⟨b, 0, none⟩ → ∀ i, i < n → w.cell? ⟨b, i * 3, none⟩ = some (.int .i64 (ls.getD i default).a) ∧ w.cell? ⟨b, i * 3 + 1, none⟩ = some (.int .i64 (ls.getD i default).b) ∧ w.cell? ⟨b, i * 3 + 2, none⟩ = some (.complex .f32 (ls.getD i default).x (ls.getD i default).y)
theorem LRow.below {w w' : World} {ao : Option Addr} {n : Nat} {ls : List Lk} (h : LRow w ao n ls) {B : Nat} (hb : Below B w w') (hB : w.heap.size ≤ B) : LRow w' ao n ls :=
  ⟨h.len, h.addr, fun b hb' i hi => by
    have key : ∀ {p : Addr} {v : Value}, w.cell? p = some v → w'.cell? p = some v := fun {p v} hc => by
      rw [hb.cell (p := p) (Nat.lt_of_lt_of_le (World.block_lt_of_cell? w _ hc) hB)]; exact hc
    obtain ⟨c0, c1, c2⟩ := h.cell b hb' i hi
    exact ⟨key c0, key c1, key c2⟩⟩
theorem LRow.next {w w' : World} {ao : Option Addr} {n : Nat} {ls : List Lk} (h : LRow w ao n ls) (hb : Below w.heap.size w w') : LRow w' ao n ls := h.below hb (Nat.le_refl _)
theorem LRow.drewN {w : World} {ao : Option Addr} {n : Nat} {ls : List Lk} (h : LRow w ao n ls) (m : Nat) : LRow (w.drewN m) ao n ls := h.next (below_drewN (Below.refl w.heap.size w) m)
theorem lrow_own {w : World} {base n c : Nat} {ao : Option Addr} {ls : List Lk} (h : w.ownsRow base 48 3 (.slice ao n c) n (lcells ls)) (hl : ls.length = n) : LRow w ao n ls := by
  refine ⟨hl, fun hn => ?_, fun b hb i hi => ?_⟩
  · rcases h.2 with ⟨hv, _⟩ | ⟨g, cap, cur, hv, _⟩
    · injection hv with _ h2 _; omega
    · injection hv with h1 _ _; exact ⟨g, h1⟩
  · subst hb
    have key : ∀ j v, j < 3 → (ls.getD i default).cells[j]? = some v → w.cell? ⟨b, i * 3 + j, none⟩ = some v := by
      intro j v hj hv
      rw [h.cellAt (i * 3 + j) (by omega), lcells_at ls i j (by omega) hj]; exact hv
    exact ⟨key 0 _ (by decide) rfl, key 1 _ (by decide) rfl, key 2 _ (by decide) rfl⟩
theorem linkInfo : (Try.prog.info? 48).map (fun i => (i.zero, i.size, i.bytes)) = some (some (.agg #[.int .i64 0, .int .i64 0, .complex .f32 0 0]), 3, 24) := by kernel_rfl
theorem lk_at (w : World) (t : TypeId) (l : Lk) (q : Nat) (hq : w.heap.size = q) : ∀ j u, l.cells[j]? = some u → (w.alloc (.cells #[.int .i64 l.a, .int .i64 l.b, .complex .f32 l.x l.y] t)).cell? ((⟨q, 0, none⟩ : Addr).add j) = some u := by
  intro j u hj
  have hB := blk_new w t #[.int .i64 l.a, .int .i64 l.b, .complex .f32 l.x l.y] q hq
  rw [show (⟨q, 0, none⟩ : Addr).add j = ⟨q, j, none⟩ by unfold Addr.add; split <;> simp_all, hB.cell j]
  match j, hj with
  | 0, h => exact h
  | 1, h => exact h
  | 2, h => exact h
  | j + 3, h => simp [Lk.cells] at h
theorem neLS : 48 ≠ 84 := by decide
theorem neLH : 48 ≠ 26 := by decide
/-- drawn links, in memory of the call's own -/
def LinksQ (w : World) (e : Ending) (w' : World) : Prop := ∃ (ls : List Lk) (is : List (Int × Int)) (ao : Option Addr) (c : Nat), ls.length ≤ 6 ∧ LksQ ls is ∧ e = .returned (.slice ao ls.length c) ∧
  w'.ownsRow w.heap.size 48 3 (.slice ao ls.length c) ls.length (lcells ls) ∧ Below w.heap.size w w'
/-- what the loop keeps -/
structure RlInv (w wr : World) (b : Nat) (ao : Option Addr) (ck : Nat) (ls : List Lk) (is : List (Int × Int)) : Prop where
  q : LksQ ls is
  own : wr.ownsRow (w.heap.size + 1 + 1) 48 3 (.slice ao ls.length ck) ls.length (lcells ls)
  src : Src wr b (50 * ls.length + 10)
  below : Below w.heap.size w wr
theorem own_slice {w : World} {base e size n : Nat} {v : Value} {xs : List Value} (h : w.ownsRow base e size v n xs) : ∃ ao cap, v = .slice ao n cap := by
  rcases h.2 with ⟨rfl, rfl⟩ | ⟨g, cap, cur, hv, _⟩
  · exact ⟨none, 0, rfl⟩
  · exact ⟨_, cap, hv⟩
set_option maxRecDepth 100000 in
set_option maxHeartbeats 3200000 in
theorem r8Links_of (ao : Option Addr) (n c hb_ hc : Nat) (w : World) (hr : BRow w ao n) :
    Calls Try.prog 6 #[.slice ao n c, .agg #[.slice (some ⟨hb_, 0, none⟩) 4 hc]] w (LinksQ w) := by
  obtain ⟨i0, hi, hz0, hz1, hz2⟩ := info_parts linkInfo
  have HF := Lib.hid fun w (h : BRow w ao n) => from_row ao n c w h
  have HR := Lib.hid hr
  clear hr
  go_enter Try.func6, Try.ntmps6
  go_wp2_with fail
  have hbx := blk_new w 26 #[.slice (some ⟨hb_, 0, none⟩) 4 hc] _ rfl
  refine (HF.out _ (HR.out.next ((Below.refl w.heap.size w).alloc (Nat.le_refl _) _))).mono ?_
  rintro e w1 ⟨rfl, hs, hb⟩
  have hsz : (w.alloc (.cells #[.slice (some ⟨hb_, 0, none⟩) 4 hc] 26)).heap.size = w.heap.size + 1 := by simp
  rw [hsz] at hs hb ⊢
  have HS1 := Lib.hid hs
  have HL1 := Lib.hid (((Below.refl w.heap.size w).alloc (Nat.le_refl _) (.cells #[.slice (some ⟨hb_, 0, none⟩) 4 hc] 26)).trans (hb.mono (by omega)))
  have HK1 := Lib.hid (hbx.below hb (by omega))
  have a0 := (HK1.out.alloc (.cells #[] 48)).cell 0
  clear hs hb hsz hbx
  go_wp2_with fail
  have HP := Lib.hid fun W' m n (hm : m < 2000000) (h : Src W' (w.heap.size + 1) m) (h1 : 1 ≤ n) (h2 : n ≤ 65536) => pick_of (w.heap.size + 1) m n W' (by omega) h h1 h2
  have hbs := HS1.out.lt
  refine (HP.out _ _ 7 (by omega) (HS1.out.next ((Below.refl w1.heap.size w1).alloc (Nat.le_refl _) _)) (by omega) (by omega)).mono ?_
  rintro e w2 ⟨z, l0, u0, rfl, hs, ho⟩
  obtain ⟨k0, rfl⟩ := Int.eq_ofNat_of_zero_le l0
  have I0 : RlInv w w2 (w.heap.size + 1) (some ⟨w1.heap.size, 0, none⟩) 0 [] [] :=
    ⟨.nil, ho.own ((World.ownsRow_lit w1 #[] 0 (by omega) (by decide) rfl : (w1.alloc (.cells #[] 48)).ownsRow (w.heap.size + 1 + 1) 48 3 (.slice (some ⟨w1.heap.size, 0, none⟩) 0 0) 0 (lcells []))) (by intro e; simp [Value.ownBlock] at e; omega), hs.mono (by simp), ho.under (HL1.out.alloc (by have := HL1.out.size; omega) _) (by omega)⟩
  have HI0 := Lib.hid I0
  clear hs ho I0 HS1 HL1 HK1 HF HR a0
  go_wp2_with fail
  go_loopw [6, 8] (fun v i wr => ∃ (W : World) (j ck : Nat) (ao' : Option Addr) (ls : List Lk) (is : List (Int × Int)), W = wr ∧ Hid (ls.length + j ≤ 6) ∧ j ≤ 6 ∧ i = .int .i64 j ∧ v = .slice ao' ls.length ck ∧ RlInv w wr (w.heap.size + 1) ao' ck ls is) (fun _ i _ => (intOf i).toNat)
  case atStart => exact ⟨_, k0, 0, _, [], [], rfl, by show 0 + k0 ≤ 6; omega, by omega, rfl, rfl, HI0.out⟩
  case round =>
    clear HI0
    obtain ⟨W, j, ck, ao', ls, is, rfl, hkj, hj, rfl, rfl, hI⟩ := hrel
    have HI := Lib.hid hI
    have hbs := hI.src.lt
    have hsz := hI.below.size
    clear hI
    rcases j with _ | j
    · go_wp2_with fail
      go_ret
      exact ⟨ls, is, ao', ck, by have := hkj.out; omega, HI.out.q, rfl, own_from HI.out.own (by omega), HI.out.below⟩
    · have hj0 : (0 : Int) < ((j + 1 : Nat) : Int) := by omega
      have hl6 : ls.length ≤ 5 := by have := hkj.out; omega
      go_wp2_with fail
      refine (HP.out _ _ 4 (by omega) HI.out.src (by omega) (by omega)).mono ?_
      rintro e w3 ⟨z, l3, u3, rfl, hs, ho⟩
      obtain ⟨a, rfl⟩ := Int.eq_ofNat_of_zero_le l3
      have hne : (Value.slice ao' ls.length ck).ownBlock ≠ some (w.heap.size + 1) := by
        obtain ⟨_, _, _, _, _, hb', _⟩ := HI.out.src
        exact (own_blk_ne HI.out.own hb' neLS).symm
      have HNE := Lib.hid hne
      have S3 := Lib.hid hs
      have O3 := Lib.hid (ho.own HI.out.own hne)
      have B3 := Lib.hid (ho.under HI.out.below (by omega))
      have hq3 := ho.below.size
      clear hs ho hne
      go_wp2_with fail
      refine (HP.out _ _ 3 (by omega) S3.out (by omega) (by omega)).mono ?_
      rintro e w4 ⟨z, l4, u4, rfl, hs, ho⟩
      have S4 := Lib.hid hs
      have O4 := Lib.hid (ho.own O3.out HNE.out)
      have B4 := Lib.hid (ho.under B3.out (by omega))
      have hq4 := ho.below.size
      clear hs ho S3 O3 B3
      obtain ⟨z, rfl⟩ := Int.eq_ofNat_of_zero_le l4
      have hsc := run_store_complex Try.prog
      have hbb : ((a : Int) + 1 + (z : Int)) % 4 = (((a + 1 + z) % 4 : Nat) : Int) := by omega
      have hb1 : (a + 1 + z) % 4 < 4 := by omega
      have hb2 : a ≠ (a + 1 + z) % 4 := by omega
      have hrb : (Value.slice ao' ls.length ck).ownBlock ≠ some w4.heap.size := fun e => absurd (O4.out.lt _ e).2 (Nat.lt_irrefl _)
      have HRb := Lib.hid hrb
      clear hrb
      have HD := Lib.hid fun W' m (hm : m < 2000000) (h : Src W' (w.heap.size + 1) m) => drawSmall_of (w.heap.size + 1) m W' (by omega) h
      have ha4 : a < 4 := by omega
      have hz3 : z < 3 := by omega
      clear l3 l4 u3 u4
      generalize (a + 1 + z) % 4 = b at hbb hb1 hb2
      go_wp2_with fail
      have hbx := blk_new w4 48 #[.int .i64 a, .int .i64 b, .complex .f32 0 0] _ rfl
      have hbe := (Below.refl w4.heap.size w4).alloc (Nat.le_refl _) (.cells #[.int .i64 a, .int .i64 b, .complex .f32 0 0] 48)
      have hsz5 : (w4.alloc (.cells #[.int .i64 a, .int .i64 b, .complex .f32 0 0] 48)).heap.size = w4.heap.size + 1 := by simp
      have S5 := Lib.hid (S4.out.next hbe)
      have O5 := Lib.hid (O4.out.alloc (.cells #[.int .i64 a, .int .i64 b, .complex .f32 0 0] 48))
      have B5 := Lib.hid (B4.out.alloc B4.out.size (.cells #[.int .i64 a, .int .i64 b, .complex .f32 0 0] 48))
      have X5 := Lib.hid hbx
      generalize (w4.alloc (.cells #[.int .i64 a, .int .i64 b, .complex .f32 0 0] 48)) = w5 at S5 O5 B5 X5 hsz5 ⊢
      clear hbx hbe S4 O4 B4
      refine (HD.out _ _ (by omega) S5.out).mono ?_
      rintro e w6 ⟨x, nx, lx, ux, ex, rfl, hs, ho⟩
      have EX := Lib.hid ex
      have S6 := Lib.hid hs
      have O6 := Lib.hid (ho.own O5.out HNE.out)
      have B6 := Lib.hid (ho.under B5.out (by omega))
      have X6 := Lib.hid (ho.blk X5.out (by omega))
      have hq6 := ho.below.size
      clear hs ho ex S5 O5 B5 X5
      go_wp2_with fail
      refine (HD.out _ _ (by omega) S6.out).mono ?_
      rintro e w7 ⟨y, ny, ly, uy, ey, rfl, hs, ho⟩
      have EY := Lib.hid ey
      have S7 := Lib.hid hs
      have O7 := Lib.hid (ho.own O6.out HNE.out)
      have B7 := Lib.hid (ho.under B6.out (by omega))
      have X7 := Lib.hid (ho.blk X6.out (by omega))
      have hq7 := ho.below.size
      clear hs ho ey S6 O6 B6 X6
      have c2 := X7.out.cell 2
      have f2 := X7.out.frozen 2
      have X8 := Lib.hid (X7.out.set_ 2 (.complex .f32 x y))
      have hlt := X7.out.lt
      have c8 := X8.out.cell 0
      have c9 := X8.out.cell 1
      have c10 := X8.out.cell 2
      have O8 := Lib.hid (own_put O7.out (p := ⟨w4.heap.size, 2, none⟩) HRb.out (.complex .f32 x y))
      have B8 := Lib.hid (B7.out.setCell (p := ⟨w4.heap.size, 2, none⟩) (by show w.heap.size ≤ w4.heap.size; omega) (.complex .f32 x y))
      have S8 := Lib.hid (S7.out.over ((Below.refl w4.heap.size w7).setCell (p := ⟨w4.heap.size, 2, none⟩) (Nat.le_refl _) (.complex .f32 x y)) (by omega))
      have hs8 : (w7.setCell ⟨w4.heap.size, 2, none⟩ (.complex .f32 x y)).heap.size = w7.heap.size := by simp [World.setCell]
      have S9 := Lib.hid (S8.out.next ((Below.refl _ _).alloc (Nat.le_refl _) (.cells #[.int .i64 a, .int .i64 b, .complex .f32 x y] 48)))
      have B9 := Lib.hid (B8.out.alloc B8.out.size (.cells #[.int .i64 a, .int .i64 b, .complex .f32 x y] 48))
      have hbb9 := B8.out.size
      have hrow : ∀ q, (Value.slice ao' ls.length ck).ownBlock = some q → w.heap.size + 1 < q := fun q hq => (HI.out.own.lt q hq).1
      have HRow := Lib.hid hrow
      clear hrow hbb X7 X8 O7 B7 S7 hbs
      go_wp2_with (at_builtin; go_loud (refine wpList_append_own _ rfl _ _ 28 rfl (w.heap.size + 1 + 1) 48 i0 _ 3 24 Try.underlying28 hi hz0 hz1 hz2 rfl (by decide) (.slice ao' ls.length ck) ls.length _ rfl (O8.out.alloc _) ⟨w7.heap.size, 0, none⟩ 1 1 (⟨a, b, x, y⟩ : Lk).cells rfl rfl (lk_at (w7.setCell ⟨w4.heap.size, 2, none⟩ (.complex .f32 x y)) _ ⟨a, b, x, y⟩ _ hs8) (by intro x hx; simp [Lk.cells] at hx; rcases hx with rfl | rfl | rfl <;> rfl) (by unfold maxLen; omega) (by omega) (by simp; omega) ?_); intro v' w9 hown' hgrow hnil; have S10 := Lib.hid (S9.out.grow hgrow HRow.out); have B10 := Lib.hid (B9.out.grown hgrow (by simp; omega) (fun q hq => by have := HRow.out q hq; omega)); have O10 := Lib.hid hown'; clear hown' hgrow hnil)
      obtain ⟨aw, cw, rfl⟩ := own_slice O10.out
      go_roundw
      case rel =>
        refine ⟨_, j, cw, aw, ls ++ [⟨a, b, x, y⟩], is ++ [(nx, ny)], rfl, by have := hkj.out; show (ls ++ [_]).length + j ≤ 6; simp; omega, by omega, by go_num, by simp, ?_⟩
        refine ⟨HI.out.q.snoc ⟨ha4, hb1, hb2, EX.out, EY.out, ⟨lx, ux⟩, ⟨ly, uy⟩⟩, ?_, S10.out.mono (by simp; omega), B10.out⟩
        rw [lcells_snoc, List.length_append]; exact O10.out
      case measure => simp [intOf]
end Go.Proofs.Ytmkpkkaedhekdaa

namespace Go.Proofs.Ytmkpkkaedhekdaa
open Go.RowKit Fl

theorem LkQ.fin {l : Lk} {i : Int × Int} (h : LkQ l i) : (fin32 l.x && fin32 l.y) = true := by
  have h1 := fin_exa h.hx (by omega) (by omega) (by have := h.bx; omega)
  have h2 := fin_exa h.hy (by omega) (by omega) (by have := h.by_; omega)
  rw [h1, h2]; rfl
theorem isIdx_yes (ao : Option Addr) (c i : Nat) (w : World) (hi : i < 4) :
    Calls Try.prog 45 #[.agg #[.slice ao 4 c], .int .i64 i] w fun e w' => e = .returned (.bool true) ∧ Below w.heap.size w w' := by
  have hbel := (Below.refl w.heap.size w).alloc (Nat.le_refl _) (.cells #[.slice ao 4 c] 26)
  have a0 := (blk_new w 26 #[.slice ao 4 c] _ rfl).cell 0
  have h4 : (i : Int) < 4 := by omega
  go_enter Try.func45, Try.ntmps45
  go_wp2
  go_ret
  exact ⟨rfl, hbel⟩
set_option maxHeartbeats 1600000 in
theorem isLink_yes (hb_ hc : Nat) (l : Lk) (i : Int × Int) (w : World) (h : LkQ l i) :
    Calls Try.prog 33 #[.agg #[.slice (some ⟨hb_, 0, none⟩) 4 hc], .agg #[.int .i64 l.a, .int .i64 l.b, .complex .f32 l.x l.y]] w fun e w' => e = .returned (.bool true) ∧ Below w.heap.size w w' := by
  have hf := h.fin
  have ha := h.ha
  have hb' := h.hb
  have hne : ((l.a : Int) != (l.b : Int)) = true := by have := h.hne; simp; omega
  have HA := Lib.hid fun w => isIdx_yes (some ⟨hb_, 0, none⟩) hc l.a w ha
  have HB := Lib.hid fun w => isIdx_yes (some ⟨hb_, 0, none⟩) hc l.b w hb'
  have HC := fun w => isFiniteComplex_any l.x l.y w
  rw [hf] at HC
  have HF := Lib.hid HC
  clear HC hf ha hb' h
  obtain ⟨a, b, x, y⟩ := l
  dsimp only at HA HB HF hne ⊢
  have hbel := ((Below.refl w.heap.size w).alloc (Nat.le_refl _) (.cells #[.slice (some ⟨hb_, 0, none⟩) 4 hc] 26)).alloc (by simp) (.cells #[.int .i64 a, .int .i64 b, .complex .f32 x y] 48)
  have hb1 : Blk ((w.alloc (.cells #[.slice (some ⟨hb_, 0, none⟩) 4 hc] 26)).alloc (.cells #[.int .i64 a, .int .i64 b, .complex .f32 x y] 48)) w.heap.size 26 _ := (blk_new w _ _ _ rfl).alloc _
  have hb2 : Blk ((w.alloc (.cells #[.slice (some ⟨hb_, 0, none⟩) 4 hc] 26)).alloc (.cells #[.int .i64 a, .int .i64 b, .complex .f32 x y] 48)) (w.heap.size + 1) 48 _ := blk_new _ _ _ _ (by simp)
  have L0 := Lib.hid hbel
  have K1 := Lib.hid hb1
  have K2 := Lib.hid hb2
  have a0 := hb1.cell 0
  have c0 := hb2.cell 0
  clear hbel hb1 hb2
  go_enter Try.func33, Try.ntmps33
  go_wp2_with fail
  refine (HA.out _).mono ?_
  rintro e w1 ⟨rfl, hb⟩
  have L1 := Lib.hid (below_next L0.out hb)
  have K11 := Lib.hid (blk_next K1.out hb)
  have K21 := Lib.hid (blk_next K2.out hb)
  have a0 := K11.out.cell 0
  have c1 := K21.out.cell 1
  clear hb
  go_wp2_with fail
  refine (HB.out _).mono ?_
  rintro e w2 ⟨rfl, hb⟩
  have L2 := Lib.hid (below_next L1.out hb)
  have K22 := Lib.hid (blk_next K21.out hb)
  have c0 := K22.out.cell 0
  have c1 := K22.out.cell 1
  have c2 := K22.out.cell 2
  clear hb
  go_wp2_with fail
  refine (HF.out _).mono ?_
  rintro e w3 ⟨rfl, m, rfl⟩
  go_wp2_with fail
  go_ret
  exact ⟨rfl, below_drewN L2.out m⟩
set_option maxHeartbeats 1600000 in
theorem areLinks_yes (hb_ hc : Nat) (gs : List Gr) (ao : Option Addr) (n c : Nat) (ls : List Lk) (is : List (Int × Int)) (w : World) (hv : gs.all Gr.valid = true) (hl : gs.length = 4) (hr : GrRow w hb_ gs) (hL : LRow w ao n ls) (hq : LksQ ls is) (hn : n ≤ 6) :
    Calls Try.prog 13 #[.agg #[.slice (some ⟨hb_, 0, none⟩) 4 hc], .slice ao n c] w fun e w' => e = .returned (.bool true) ∧ Below w.heap.size w w' := by
  have HVH := fun w (h : GrRow w hb_ gs) => validHeap_any hb_ 4 hc gs w hl h (by omega)
  rw [hv] at HVH
  have HV := Lib.hid HVH
  have hbel := (Below.refl w.heap.size w).alloc (Nat.le_refl _) (.cells #[.slice (some ⟨hb_, 0, none⟩) 4 hc] 26)
  have hb1 := blk_new w 26 #[.slice (some ⟨hb_, 0, none⟩) 4 hc] _ rfl
  have L0 := Lib.hid hbel
  have K0 := Lib.hid hb1
  have R0 := Lib.hid (hr.below hbel (Nat.le_refl _))
  have A0 := Lib.hid (hL.below hbel (Nat.le_refl _))
  have HLen := Lib.hid hL.len
  have HQ := Lib.hid hq
  have a0 := hb1.cell 0
  clear hbel hb1 hr hL hq hv hl HVH
  go_enter Try.func13, Try.ntmps13
  go_wp2_with fail
  refine (HV.out _ R0.out).mono ?_
  rintro e w1 ⟨rfl, hb1⟩
  have L1 := Lib.hid (below_next L0.out hb1)
  have K1 := Lib.hid (blk_next K0.out hb1)
  have A1 := Lib.hid (A0.out.next hb1)
  clear hb1 L0 K0 R0 A0 HV a0
  go_wp2_with fail
  go_loopw [17] (fun i wr => ∃ (W : World) (k : Nat), W = wr ∧ k ≤ n ∧ i = .int .i64 k ∧ Below w1.heap.size w1 wr) (fun i _ => n - (intOf i).toNat)
  case atStart => exact ⟨_, 0, rfl, Nat.zero_le _, rfl, Below.refl _ _⟩
  case round =>
    obtain ⟨W, k, rfl, hk, rfl, hb⟩ := hrel
    by_cases hlt : k < n
    · obtain ⟨b, rfl⟩ := A1.out.addr (by omega)
      obtain ⟨c0, c1, c2⟩ := (A1.out.next hb).cell b rfl k hlt
      have hq := HQ.out.2 k (by rw [HLen.out]; exact hlt)
      generalize ls.getD k default = l at c0 c1 c2 hq
      have HI := Lib.hid fun w => isLink_yes hb_ hc l _ w hq
      have HB := Lib.hid hb
      have B2 := Lib.hid (hb.alloc hb.size (.cells #[.int .i64 l.a, .int .i64 l.b, .complex .f32 l.x l.y] 48))
      have X2 := Lib.hid (blk_new W 48 #[.int .i64 l.a, .int .i64 l.b, .complex .f32 l.x l.y] _ rfl)
      have a0 := ((blk_next K1.out hb).alloc (.cells #[.int .i64 l.a, .int .i64 l.b, .complex .f32 l.x l.y] 48)).cell 0
      clear hb hq
      have hsf := run_store_complex Try.prog
      go_wp2_with fail
      refine (HI.out _).mono ?_
      rintro e w3 ⟨rfl, hb3⟩
      have B3 := Lib.hid (below_next B2.out hb3)
      clear hb3
      go_wp2_with fail
      go_roundw
      case rel => exact ⟨_, k + 1, rfl, by omega, by go_num, B3.out⟩
      case measure => simp [intOf]; omega
    · obtain rfl : k = n := by omega
      have HB := Lib.hid hb
      clear hb
      go_wp2_with fail
      go_ret
      exact ⟨rfl, below_next L1.out HB.out⟩
end Go.Proofs.Ytmkpkkaedhekdaa

namespace Go.Proofs.Ytmkpkkaedhekdaa
open Go.RowKit Fl

theorem neg_word (k : FloatKind) (s : Bool) (r : Nat) (h : r < k.format.signWeight) : Op.negFloat k (k.format.word s r) = k.format.word (!s) r := by
  have hn : Op.negFloat k (k.format.word s r) = k.format.word s r ^^^ k.format.signWeight := rfl
  obtain ⟨W, hW⟩ : ∃ W, k.format.signWeight = 2 ^ W := ⟨_, rfl⟩
  rw [hn]
  unfold Ieee.Format.word
  rw [hW] at h ⊢
  have hp := Nat.two_pow_pos W
  have key : ∀ x : Nat, (x ^^^ 2 ^ W) = 2 ^ W * (x / 2 ^ W ^^^ 1) + x % 2 ^ W := by
    intro x
    have h1 : (x ^^^ 2 ^ W) % 2 ^ W = x % 2 ^ W := by rw [Nat.xor_mod_two_pow, Nat.mod_self, Nat.xor_zero]
    have h2 : (x ^^^ 2 ^ W) / 2 ^ W = x / 2 ^ W ^^^ 1 := by rw [Nat.xor_div_two_pow, Nat.div_self hp]
    have := Nat.div_add_mod (x ^^^ 2 ^ W) (2 ^ W)
    rw [h1, h2] at this
    exact this.symm
  cases s
  · simp only [Bool.false_eq_true, if_false, Bool.not_false, if_true]
    rw [key, Nat.div_eq_of_lt h, Nat.mod_eq_of_lt h]
    simp
  · simp only [Bool.not_true, Bool.false_eq_true, if_false, if_true]
    rw [key, Nat.add_div_left _ hp, Nat.add_mod_left, Nat.div_eq_of_lt h, Nat.mod_eq_of_lt h]
    simp
theorem nearest_flip (f : Ieee.Format) (s : Bool) (m : Nat) (p : Int) : ∃ r, r ≤ f.infRung ∧ f.nearest s m p = f.word s r ∧ f.nearest (!s) m p = f.word (!s) r := by
  by_cases hm : m = 0
  · exact ⟨0, Nat.zero_le _, by unfold Ieee.Format.nearest; rw [if_pos hm], by unfold Ieee.Format.nearest; rw [if_pos hm]⟩
  · unfold Ieee.Format.nearest
    rw [if_neg hm, if_neg hm]
    refine ⟨_, Nat.min_le_right _ _, rfl, ?_⟩
    cases s <;> rfl
/-- the opposite of an exact number -/
theorem exa_neg (k : FloatKind) {p : Int} {x : Nat} {n : Int} (h : Ieee.Format.infRung k.format < k.format.signWeight) (hx : Exa k.format p x n) : Exa k.format p (Op.negFloat k x) (-n) := by
  constructor
  · intro h0
    have h0' : n ≠ 0 := by omega
    rw [hx.1 h0']
    obtain ⟨r, r1, r2, r3⟩ := nearest_flip k.format (decide (n < 0)) n.natAbs p
    rw [r2, neg_word k _ r (Nat.lt_of_le_of_lt r1 h), ← r3, Int.natAbs_neg]
    congr 1
    by_cases hn : n < 0
    · rw [decide_eq_true hn, decide_eq_false (show ¬ -n < 0 by omega)]; rfl
    · rw [decide_eq_false hn, decide_eq_true (show -n < 0 by omega)]; rfl
  · intro h0
    have h0' : n = 0 := by omega
    have hp : 0 < k.format.signWeight := sw_pos _
    rcases hx.2 h0' with e | e
    · rw [e, neg_word k false 0 hp]; exact .inr rfl
    · rw [e, neg_word k true 0 hp]; exact .inl rfl
theorem exa_neg32 {p : Int} {x : Nat} {n : Int} (hx : Exa Ieee.single p x n) : Exa Ieee.single p (Op.negFloat .f32 x) (-n) := exa_neg .f32 (by decide) hx
end Go.Proofs.Ytmkpkkaedhekdaa

namespace Go.Proofs.Ytmkpkkaedhekdaa
open Go.RowKit Fl

def Lk.back (l : Lk) : Lk := ⟨l.b, l.a, Op.negFloat .f32 l.x, Op.negFloat .f32 l.y⟩
def zLk : Lk := ⟨0, 0, 0, 0⟩
theorem LkQ.back {l : Lk} {i : Int × Int} (h : LkQ l i) : LkQ l.back (-i.1, -i.2) :=
  ⟨h.hb, h.ha, fun e => h.hne e.symm, exa_neg32 h.hx, exa_neg32 h.hy, by have := h.bx; show -16 ≤ -i.1 ∧ -i.1 ≤ 16; omega, by have := h.by_; show -16 ≤ -i.2 ∧ -i.2 ≤ 16; omega⟩
theorem LksQ.back {ls : List Lk} {is : List (Int × Int)} (h : LksQ ls is) : LksQ (ls.map Lk.back) (is.map fun i => (-i.1, -i.2)) := by
  refine ⟨by simp [h.1], fun k hk => ?_⟩
  have hk' : k < ls.length := by simpa using hk
  have hk2 : k < is.length := by rw [h.1]; exact hk'
  have := (h.2 k hk').back
  simp only [List.getD, List.getElem?_map, List.getElem?_eq_getElem hk', List.getElem?_eq_getElem hk2, Option.map_some, Option.getD_some] at this ⊢
  exact this
theorem lcells_set : ∀ (ls : List Lk) (i : Nat) (g : Lk), i < ls.length →
    (((lcells ls).set (i * 3) (.int .i64 g.a)).set (i * 3 + 1) (.int .i64 g.b)).set (i * 3 + 2) (.complex .f32 g.x g.y) = lcells (ls.set i g)
  | [], i, g, h => by simp at h
  | x :: gs, 0, g, _ => by simp [lcells, Lk.cells]
  | x :: gs, i + 1, g, h => by
    have ih := lcells_set gs i g (by simpa using h)
    have e : lcells (x :: gs) = x.cells ++ lcells gs := by simp [lcells]
    have e2 : lcells ((x :: gs).set (i + 1) g) = x.cells ++ lcells (gs.set i g) := by simp [lcells]
    rw [e, e2, ← ih]
    have hl : x.cells.length = 3 := rfl
    have a0 : (i + 1) * 3 - 3 = i * 3 := by omega
    have a1 : (i + 1) * 3 + 1 - 3 = i * 3 + 1 := by omega
    have a2 : (i + 1) * 3 + 2 - 3 = i * 3 + 2 := by omega
    rw [List.set_append_right _ _ (by omega), List.set_append_right _ _ (by omega), List.set_append_right _ _ (by omega), hl, a0, a1, a2]
theorem made_get3 (z : Array Value) (n j : Nat) (h : j < n) : (madeCells z n).toList[j]? = some (z[j % z.size]!) := by
  unfold madeCells
  simp [h]
theorem made_lk (n : Nat) : (madeCells (Value.agg #[.int .i64 0, .int .i64 0, .complex .f32 0 0]).cells (n * 3)).toList = lcells (List.replicate n zLk) := by
  have hl : (lcells (List.replicate n zLk)).length = n * 3 := by rw [lcells_length, List.length_replicate]
  apply List.ext_getElem?
  intro j
  by_cases hj : j < n * 3
  · have hd : j / 3 < n := by omega
    have hm : j % 3 < 3 := Nat.mod_lt _ (by decide)
    have h := lcells_at (List.replicate n zLk) (j / 3) (j % 3) (by simpa using hd) hm
    have e : j / 3 * 3 + j % 3 = j := by omega
    have ez : (List.replicate n zLk).getD (j / 3) default = zLk := by
      rw [List.getD_eq_getElem?_getD, List.getElem?_replicate, if_pos hd]; rfl
    rw [e, ez] at h
    rw [h, made_get3 _ _ _ hj]
    show some (#[Value.int .i64 0, .int .i64 0, .complex .f32 0 0][j % 3]!) = _
    generalize j % 3 = q at *
    match q, hm with
    | 0, _ => rfl
    | 1, _ => rfl
    | 2, _ => rfl
  · have h2 : (lcells (List.replicate n zLk))[j]? = none := List.getElem?_eq_none (by rw [hl]; omega)
    rw [h2]
    exact List.getElem?_eq_none (by rw [Array.length_toList, size_madeCells]; omega)
def stored3 (w : World) (g k : Nat) (x : Lk) : World := ((w.setCell ⟨g, k * 3, none⟩ (.int .i64 x.a)).setCell ⟨g, k * 3 + 1, none⟩ (.int .i64 x.b)).setCell ⟨g, k * 3 + 2, none⟩ (.complex .f32 x.x x.y)
theorem stored3_own {w : World} {base e g n c : Nat} {ls : List Lk} {k : Nat} (h : w.ownsRow base e 3 (.slice (some ⟨g, 0, none⟩) n c) n (lcells ls)) (hk : k < ls.length) (x : Lk) : (stored3 w g k x).ownsRow base e 3 (.slice (some ⟨g, 0, none⟩) n c) n (lcells (ls.set k x)) := by
  rw [← lcells_set ls k x hk]
  exact (((h.stored _ _).1.stored _ _).1.stored _ _).1
theorem set_lk (ls : List Lk) (n k : Nat) (hl : ls.length = n) (hk : k < n) : ((ls.map Lk.back).take k ++ List.replicate (n - k) zLk).set k (ls.getD k default).back = (ls.map Lk.back).take (k + 1) ++ List.replicate (n - (k + 1)) zLk := by
  have h1 : ((ls.map Lk.back).take k).length = k := by simp; omega
  rw [List.set_append_right _ _ (by omega), h1, Nat.sub_self, show n - k = (n - (k + 1)) + 1 by omega, List.replicate_succ, List.set_cons_zero, List.take_succ_eq_append_getElem (by simp; omega)]
  simp [List.getD, List.getElem?_eq_getElem (show k < ls.length by omega)]
theorem run_neg32 (b : Nat) : Op.unary .neg (.float .f32 b) = pure (.float .f32 (Op.negFloat .f32 b)) := rfl
set_option maxRecDepth 100000 in
set_option maxHeartbeats 3200000 in
theorem backLinks_of (ao : Option Addr) (n c : Nat) (ls : List Lk) (w : World) (hL : LRow w ao n ls) (hn : n ≤ 6) :
    Calls Try.prog 7 #[.slice ao n c] w fun e w' => Below w.heap.size w w' ∧ e = .returned (.tuple #[.slice (some ⟨w.heap.size, 0, none⟩) n n, .bool true]) ∧ w'.ownsRow w.heap.size 48 3 (.slice (some ⟨w.heap.size, 0, none⟩) n n) n (lcells (ls.map Lk.back)) := by
  obtain ⟨i0, hi, hz0, hz1, hz2⟩ := info_parts linkInfo
  have HL := Lib.hid hL
  have HN := Lib.hid hL.len
  clear hL
  go_enter Try.func7, Try.ntmps7
  go_wp2_with (at_make; go_loud (refine wpList_make_full _ rfl _ _ 28 rfl w.heap.size 48 i0 (.agg #[.int .i64 0, .int .i64 0, .complex .f32 0 0]) 3 Try.underlying28 hi hz0 hz1 .i64 .i64 _ _ n rfl rfl rfl rfl (by rw [hz2]; omega) (by unfold maxLen; omega) (Nat.le_refl _) ?_); intro w1 hown hgrow)
  rw [made_lk] at hown
  have O1 := Lib.hid hown
  have B1 := Lib.hid ((Below.refl w.heap.size w).grown hgrow (Nat.le_refl _) (by simp) : Below w.heap.size w w1)
  clear hown hgrow
  go_loopw [15] (fun i wr => ∃ (W : World) (k : Nat), W = wr ∧ k ≤ n ∧ i = .int .i64 k ∧ wr.ownsRow w.heap.size 48 3 (.slice (some ⟨w.heap.size, 0, none⟩) n n) n (lcells ((ls.map Lk.back).take k ++ List.replicate (n - k) zLk)) ∧ Below w.heap.size w wr) (fun i _ => n - (intOf i).toNat)
  case atStart => exact ⟨_, 0, rfl, Nat.zero_le _, rfl, by simpa using O1.out, B1.out⟩
  case round =>
    clear O1 B1
    obtain ⟨W, k, rfl, hk, rfl, hO, hB⟩ := hrel
    by_cases hlt : k < n
    · obtain ⟨b, rfl⟩ := HL.out.addr (by omega)
      obtain ⟨c0, c1, c2⟩ := (HL.out.below hB (Nat.le_refl _)).cell b rfl k hlt
      have hs := Lib.hid (set_lk ls n k HN.out hlt)
      generalize ls.getD k default = l at c0 c1 c2 hs
      obtain ⟨la, lb, lx, ly⟩ := l
      dsimp only at c0 c1 c2
      have hgl : ((ls.map Lk.back).take k ++ List.replicate (n - k) zLk).length = n := by have := HN.out; simp; omega
      have hO2 := hO.alloc (.cells #[.int .i64 la, .int .i64 lb, .complex .f32 lx ly] 48)
      obtain ⟨e0, e1, e2⟩ := (lrow_own hO2 hgl).cell _ rfl k hlt
      generalize ((ls.map Lk.back).take k ++ List.replicate (n - k) zLk).getD k default = old at e0 e1 e2
      have f0 := hO2.frozenAt (k * 3)
      have f1 := hO2.frozenAt (k * 3 + 1)
      have f2 := hO2.frozenAt (k * 3 + 2)
      have hX := blk_new W 48 #[.int .i64 la, .int .i64 lb, .complex .f32 lx ly] _ rfl
      have x0 := hX.cell 0
      have x1 := hX.cell 1
      have x2 := hX.cell 2
      have O2 := Lib.hid hO2
      have B2 := Lib.hid (hB.alloc hB.size (.cells #[.int .i64 la, .int .i64 lb, .complex .f32 lx ly] 48))
      have HGl := Lib.hid hgl
      have hsc := run_store_complex Try.prog
      have hng := run_neg32
      clear hO hB hO2 hX hgl
      go_wp2_with fail
      go_roundw
      case rel =>
        have h3 := stored3_own O2.out (k := k) (by rw [HGl.out]; exact hlt) ⟨lb, la, Op.negFloat .f32 lx, Op.negFloat .f32 ly⟩
        have hs' := hs.out
        rw [show (⟨la, lb, lx, ly⟩ : Lk).back = ⟨lb, la, Op.negFloat .f32 lx, Op.negFloat .f32 ly⟩ from rfl] at hs'
        rw [hs'] at h3
        have hle := Nat.le_refl w.heap.size
        exact ⟨_, k + 1, rfl, by omega, by go_num, h3, ((B2.out.setCell hle _).setCell hle _).setCell hle _⟩
      case measure => simp [intOf]; omega
    · obtain rfl : k = n := by omega
      have HO := Lib.hid hO
      have HB := Lib.hid hB
      clear hO hB
      go_wp2_with fail
      go_ret2
      have h3 := HO.out
      rw [Nat.sub_self, List.replicate_zero, List.append_nil, List.take_of_length_le (by rw [List.length_map, HN.out]; omega)] at h3
      exact ⟨HB.out, rfl, h3⟩
end Go.Proofs.Ytmkpkkaedhekdaa
