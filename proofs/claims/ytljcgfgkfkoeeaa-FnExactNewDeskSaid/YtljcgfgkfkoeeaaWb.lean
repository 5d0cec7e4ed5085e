/- The box of walls from -4-4i to 4+4i: both sides. -/
import Derived.Test.YtljcgfgkfkoeeaaWa
import Derived.Test.YtljcgfgkfkoeeaaSd
import Derived.Test.YtljcgfgkfkoeeaaPi
namespace Go.Proofs.Ytljcgfgkfkoeeaa
open Go.RowKit Fl

def m4 : Nat := 3229614080
def p4 : Nat := 1082130432
def cw : Nat → Nat × Nat
  | 0 => (3229614080, 3229614080)
  | 1 => (1082130432, 3229614080)
  | 2 => (1082130432, 1082130432)
  | _ => (3229614080, 1082130432)
def cor (j : Nat) : Value := .complex .f32 (cw j).1 (cw j).2
def boxAt (k : Nat) : Wl := ⟨(cw k).1, (cw k).2, (cw ((k + 1) % 4)).1, (cw ((k + 1) % 4)).2, 0, 0⟩
def boxW : List Wl := [boxAt 0, boxAt 1, boxAt 2, boxAt 3]
theorem box_nums : boxW.all Wl.nums = true := by decide +kernel
def Wl.ok (g : Wl) : Prop := WallW g.fx g.fy g.tx g.ty g.sx g.sy
theorem box_ok0 : (boxAt 0).ok := ⟨by decide +kernel, by decide +kernel, by decide +kernel, 1090519040, 0, 1115684864, by decide +kernel, by decide +kernel, by decide +kernel, by decide +kernel, by decide +kernel, by decide +kernel, by decide +kernel⟩
theorem box_ok1 : (boxAt 1).ok := ⟨by decide +kernel, by decide +kernel, by decide +kernel, 0, 1090519040, 1115684864, by decide +kernel, by decide +kernel, by decide +kernel, by decide +kernel, by decide +kernel, by decide +kernel, by decide +kernel⟩
theorem box_ok2 : (boxAt 2).ok := ⟨by decide +kernel, by decide +kernel, by decide +kernel, 3238002688, 0, 1115684864, by decide +kernel, by decide +kernel, by decide +kernel, by decide +kernel, by decide +kernel, by decide +kernel, by decide +kernel⟩
theorem box_ok3 : (boxAt 3).ok := ⟨by decide +kernel, by decide +kernel, by decide +kernel, 0, 3238002688, 1115684864, by decide +kernel, by decide +kernel, by decide +kernel, by decide +kernel, by decide +kernel, by decide +kernel, by decide +kernel⟩
theorem box_ok : ∀ i, i < 4 → (boxW.getD i default).ok
  | 0, _ => box_ok0
  | 1, _ => box_ok1
  | 2, _ => box_ok2
  | 3, _ => box_ok3
  | i + 4, h => by omega
theorem own_nil3 (w : World) (e : TypeId) (base : Nat) (hb : base ≤ w.heap.size) : (w.alloc (.cells #[] e)).ownsRow base e 3 (.slice (some ⟨w.heap.size, 0, none⟩) 0 0) 0 (wcells []) := World.ownsRow_lit w #[] 0 hb (by decide) rfl
theorem wl_new (w : World) (t : TypeId) (l : Wl) (q : Nat) (hq : w.heap.size = q) : ∀ j u, l.cells[j]? = some u → (w.alloc (.cells #[.complex .f32 l.fx l.fy, .complex .f32 l.tx l.ty, .complex .f32 l.sx l.sy] t)).cell? ((⟨q, 0, none⟩ : Addr).add j) = some u := by
  intro j u hj
  have hB := blk_new w t #[.complex .f32 l.fx l.fy, .complex .f32 l.tx l.ty, .complex .f32 l.sx l.sy] q hq
  rw [show (⟨q, 0, none⟩ : Addr).add j = ⟨q, j, none⟩ by unfold Addr.add; split <;> simp_all, hB.cell j]
  match j, hj with
  | 0, h => exact h
  | 1, h => exact h
  | 2, h => exact h
  | j + 3, h => simp [Wl.cells] at h
def zWl : Wl := ⟨0, 0, 0, 0, 0, 0⟩
theorem made_wl4 : (madeCells (Value.agg #[.complex .f32 0 0, .complex .f32 0 0, .complex .f32 0 0]).cells (4 * 3)).toList = wcells (List.replicate 4 zWl) := by kernel_rfl
theorem below_aftr {w wr w1 : World} {o : Obj} {e : TypeId} {v : Value} {size n : Nat} {xs : List Value} (h : Below w.heap.size w wr) (hO : wr.ownsRow w.heap.size e size v n xs) (hg : (wr.alloc o).grownBy w1 v.ownBlock) : Below w.heap.size w w1 := by
  refine grown_below (h.alloc h.size o) hg ?_
  intro k hk
  rcases hO.2 with ⟨hv, _⟩ | ⟨g, cap, cur, hv, hb, _⟩
  · rw [hv] at hk; simp [Value.ownBlock] at hk
  · rw [hv] at hk; simp [Value.ownBlock] at hk; omega
set_option maxHeartbeats 1600000 in
theorem areWalls_yes (b n c : Nat) (gs : List Wl) (w : World) (hl : gs.length = n) (hr : WRow w b gs) (hv : ∀ i, i < n → (gs.getD i default).ok) (hn : n ≤ 12) :
    Calls Try.prog 38 #[.slice (some ⟨b, 0, none⟩) n c] w fun e w' => e = .returned (.bool true) ∧ Below w.heap.size w w' := by
  have HL := Lib.hid hl
  have HR := Lib.hid hr
  have HV := Lib.hid hv
  clear hl hr hv
  go_enter Try.func38, Try.ntmps38
  go_wp2
  go_loopw [10, 4] (fun i _ wr => ∃ k : Nat, k ≤ n ∧ i = .int .i64 k ∧ Below w.heap.size w wr) (fun i _ _ => n - (intOf i).toNat)
  case atStart => exact ⟨0, Nat.zero_le _, rfl, Below.refl _ _⟩
  case round =>
    obtain ⟨k, hk, rfl, hb⟩ := hrel
    by_cases hlt : k < n
    · have HG := Lib.hid (HR.out k (by rw [HL.out]; omega))
      have HC := Lib.hid (HV.out k hlt)
      generalize gs.getD k default = g at HG HC
      obtain ⟨h0, h1, h2⟩ := HG.out.below hb (Nat.le_refl _)
      have HC' := Lib.hid fun w' => (show Calls Try.prog 41 #[.agg #[.complex .f32 g.fx g.fy, .complex .f32 g.tx g.ty, .complex .f32 g.sx g.sy]] w' fun e w'' => e = .returned (.bool true) ∧ Below w'.heap.size w' w'' from validWall_yes _ _ _ _ _ _ w' HC.out)
      have hsc := run_store_complex Try.prog
      have HBa := Lib.hid (hb.alloc hb.size (.cells #[.complex .f32 g.fx g.fy, .complex .f32 g.tx g.ty, .complex .f32 g.sx g.sy] 62))
      clear HG hb
      go_wp2_with (go_at_call 41; ((with_reducible refine (HC'.out _).mono ?_); rintro e w1 ⟨rfl, hb1⟩))
      go_roundw
      case rel => exact ⟨k + 1, by omega, by go_num, below_next HBa.out hb1⟩
      case measure => simp [intOf]; omega
    · have HB' := Lib.hid hb
      clear hb
      go_wp2
      go_ret
      exact ⟨rfl, HB'.out⟩
theorem wallsOf_yes (b n c : Nat) (gs : List Wl) (w : World) (hl : gs.length = n) (hr : WRow w b gs) (hv : ∀ i, i < n → (gs.getD i default).ok) (hn : n ≤ 12) :
    Calls Try.prog 34 #[.slice (some ⟨b, 0, none⟩) n c] w fun e w' => e = .returned (.tuple #[.slice (some ⟨b, 0, none⟩) n c, .bool true]) ∧ Below w.heap.size w w' := by
  have HC := Lib.hid (areWalls_yes b n c gs w hl hr hv hn)
  clear hl hr hv
  go_enter Try.func34, Try.ntmps34
  go_wp2_with (go_at_call 38; ((with_reducible refine (HC.out).mono ?_); rintro e w1 ⟨rfl, hb1⟩))
  go_ret2
  exact ⟨rfl, hb1⟩
set_option maxRecDepth 100000 in
set_option maxHeartbeats 3200000 in
theorem ringOfWalls_box (cb : Nat) (w : World) (h : ∀ j, j < 4 → w.cell? ⟨cb, j, none⟩ = some (cor j)) :
    Calls Try.prog 26 #[.slice (some ⟨cb, 0, none⟩) 4 4] w fun e w' => ∃ b, e = .returned (.tuple #[.slice (some ⟨b, 0, none⟩) 4 4, .bool true]) ∧
      w'.ownsRow w.heap.size 62 3 (.slice (some ⟨b, 0, none⟩) 4 4) 4 (wcells boxW) ∧ Below w.heap.size w w' := by
  obtain ⟨i0, hi, hz0, hz1, hz2⟩ := info_parts winfo
  have hcb : cb < w.heap.size := World.block_lt_of_cell? w _ (h 0 (by decide))
  have HH := Lib.hid h
  have HCb := Lib.hid hcb
  clear h hcb
  go_enter Try.func26, Try.ntmps26
  go_wp2_with (at_make; go_loud (refine wpList_make_full _ rfl _ _ 28 rfl w.heap.size 62 i0 _ 3 Try.underlying28 hi hz0 hz1 .i64 .i64 _ _ 4 rfl rfl rfl rfl (by rw [hz2]; omega) (by unfold maxLen; omega) (by simp) ?_); intro w3 hown hgrow)
  have HL3 := Lib.hid (((Below.refl w.heap.size w).grown hgrow (by simp) (by simp) : Below w.heap.size w w3))
  rw [made_wl4] at hown
  have HO3 := Lib.hid hown
  clear hown hgrow
  go_loopw [12, 5, 6] (fun i _ _ wr => ∃ k : Nat, k ≤ 4 ∧ i = .int .i64 k ∧
      wr.ownsRow w.heap.size 62 3 (.slice (some ⟨w.heap.size, 0, none⟩) 4 4) 4 (wcells (boxW.take k ++ List.replicate (4 - k) zWl)) ∧ Below w.heap.size w wr) (fun i _ _ _ => 4 - (intOf i).toNat)
  case atStart => exact ⟨0, by decide, rfl, HO3.out, HL3.out⟩
  case round =>
    obtain ⟨k, hk, rfl, hown, hbel⟩ := hrel
    by_cases hlt : k < 4
    · have hc : ∀ j, j < 4 → wr.cell? ⟨cb, j, none⟩ = some (cor j) := fun j hj => (hbel.cell (p := ⟨cb, j, none⟩) HCb.out).trans (HH.out j hj)
      have hgl : (boxW.take k ++ List.replicate (4 - k) zWl).length = 4 := by simp [boxW]; omega
      have k0 := hc k hlt
      have k1 := hc ((k + 1) % 4) (Nat.mod_lt _ (by decide))
      have hat := wrow_of_own hown hgl k (by omega)
      generalize (boxW.take k ++ List.replicate (4 - k) zWl).getD k default = old at hat
      obtain ⟨c0, c1, c2⟩ := hat
      have f0 := hown.frozenAt (k * 3)
      have f1 := hown.frozenAt (k * 3 + 1)
      have f2 := hown.frozenAt (k * 3 + 2)
      have HO := Lib.hid hown
      have HL := Lib.hid hbel
      have HGL := Lib.hid hgl
      clear hown hbel hgl hc
      unfold cor at k0 k1
      have hbx := Lib.hid (show boxAt k = ⟨(cw k).1, (cw k).2, (cw ((k + 1) % 4)).1, (cw ((k + 1) % 4)).2, 0, 0⟩ from rfl)
      generalize (cw k).1 = a at k0 hbx
      generalize (cw k).2 = b at k0 hbx
      generalize (cw ((k + 1) % 4)).1 = a' at k1 hbx
      generalize (cw ((k + 1) % 4)).2 = b' at k1 hbx
      have hsc := run_store_complex Try.prog
      obtain ⟨q, hq, hq4⟩ : ∃ q, q = (k + 1) % 4 ∧ q < 4 := ⟨_, rfl, by omega⟩
      rw [← hq] at k1
      have hmod : ((k : Int) + 1) % 4 = (q : Int) := by omega
      clear hq
      go_wp2_with fail
      go_roundw
      case rel =>
        refine ⟨k + 1, by omega, by go_num, ?_, ?_⟩
        · have := stored3_own HO.out (k := k) (by rw [HGL.out]; exact hlt) (boxAt k)
          have e : (boxW.take k ++ List.replicate (4 - k) zWl).set k (boxAt k) = boxW.take (k + 1) ++ List.replicate (4 - (k + 1)) zWl := by
            match k, hlt with
            | 0, _ => rfl
            | 1, _ => rfl
            | 2, _ => rfl
            | 3, _ => rfl
          rw [e, hbx.out] at this
          exact this
        · exact stored3_below (g := w.heap.size) HL.out (Nat.le_refl _) k ⟨a, b, a', b', 0, 0⟩
      case measure => simp [intOf]; omega
    · obtain rfl : k = 4 := by omega
      have HW := Lib.hid (wallsOf_yes w.heap.size 4 4 boxW wr rfl (wrow_of_own (gs := boxW) hown rfl) box_ok (by decide))
      have HO := Lib.hid hown
      have HL := Lib.hid hbel
      clear hown hbel
      go_wp2_with (go_at_call 34; ((with_reducible refine (HW.out).mono ?_); rintro e w1 ⟨rfl, hb1⟩))
      go_ret2
      exact ⟨w.heap.size, rfl, own_below (show wr.ownsRow w.heap.size 62 3 (.slice (some ⟨w.heap.size, 0, none⟩) 4 4) 4 (wcells boxW) from HO.out) hb1 (Nat.le_refl _), below_next HL.out hb1⟩
theorem cor_lit (w : World) (t : TypeId) (q : Nat) (h : w.heap.size = q) : ∀ j, j < 4 → (w.alloc (.cells #[.complex .f32 3229614080 3229614080, .complex .f32 1082130432 3229614080, .complex .f32 1082130432 1082130432, .complex .f32 3229614080 1082130432] t)).cell? ⟨q, j, none⟩ = some (cor j) := by
  intro j hj
  have hB := blk_new w t #[.complex .f32 3229614080 3229614080, .complex .f32 1082130432 3229614080, .complex .f32 1082130432 1082130432, .complex .f32 3229614080 1082130432] q h
  rw [hB.cell j]
  match j, hj with
  | 0, _ => rfl
  | 1, _ => rfl
  | 2, _ => rfl
  | 3, _ => rfl
set_option maxHeartbeats 800000 in
theorem boxOfWalls_of (w : World) :
    Calls Try.prog 12 #[.complex .f32 3229614080 3229614080, .complex .f32 1082130432 1082130432] w fun e w' => ∃ b, e = .returned (.tuple #[.slice (some ⟨b, 0, none⟩) 4 4, .bool true]) ∧
      w'.ownsRow w.heap.size 62 3 (.slice (some ⟨b, 0, none⟩) 4 4) 4 (wcells boxW) ∧ Below w.heap.size w w' := by
  have HC := Lib.hid (ringOfWalls_box w.heap.size _ (cor_lit w 38 _ rfl))
  have HB := Lib.hid ((Below.refl w.heap.size w).alloc (Nat.le_refl _) (.cells #[.complex .f32 3229614080 3229614080, .complex .f32 1082130432 3229614080, .complex .f32 1082130432 1082130432, .complex .f32 3229614080 1082130432] 38))
  go_enter Try.func12, Try.ntmps12
  go_wp2_with (go_at_call 26; ((with_reducible refine (HC.out).mono ?_); rintro e w1 ⟨b, rfl, ho, hb1⟩; have HO := Lib.hid ho; have H1 := Lib.hid hb1; clear ho hb1))
  go_ret2
  exact ⟨b, rfl, own_from HO.out (by simp), below_next HB.out H1.out⟩
end Go.Proofs.Ytljcgfgkfkoeeaa
