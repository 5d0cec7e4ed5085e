/- The law of links: what its sums are. Plain. -/
import Derived.Test.YtmkpkkaedhekdaaJe
import Derived.Test.YtmkpkkaedhekdaaCts
import Derived.Test.YtmkpkkaedhekdaaCtr
namespace Go.Proofs.Ytmkpkkaedhekdaa
open Go.RowKit Fl
open Ieee (Datum Format single signed)

/-- at least 0, and at most U of 8192ths -/
abbrev Pos (x : Nat) (U : Int) : Prop := Btw single x 136 0 U
def bOk (N : Nat) : Bool := match single.read (rootT N) with
  | .number s m e => decide (-149 ≤ e) && decide (0 ≤ Ieee.signed s m (e + 149).toNat) && decide (Ieee.signed s m (e + 149).toNat ≤ 49152 * ((2 ^ 136 : Nat) : Int))
  | _ => false
set_option maxRecDepth 100000 in
theorem b_all : (List.range 513).all bOk = true := by decide +kernel
theorem strength_pos {N : Nat} (h : N ≤ 512) : Pos (rootT N) 49152 := by
  have hb : bOk N = true := List.all_eq_true.1 b_all N (List.mem_range.2 (by omega))
  unfold bOk at hb
  split at hb
  · rename_i s m e he
    simp only [Bool.and_eq_true, decide_eq_true_eq] at hb
    obtain ⟨⟨h1, h2⟩, h3⟩ := hb
    have hlp : single.leastPlace = -149 := by decide
    refine ⟨s, m, e, he, by rw [hlp]; exact h1, ?_, ?_⟩
    · rw [hlp, Int.zero_mul]; simpa using h2
    · rw [hlp]; simpa using h3
  · cases hb
/-- a quotient by a number of at least 1 is at most as great -/
theorem pos_quo {x y n : Nat} {g U : Int} (hx : Pos x U) (hy : single.read y = .number false n g) (hn : n.log2 = 23) (hg : -23 ≤ g) (hg2 : g ≤ 100) (hU0 : 0 ≤ U) (hU : U < 8388608) : ∃ r, floatBits .quo .f32 x y = some r ∧ Pos r U := by
  obtain ⟨s, m, i, h1, h2, h3, h4⟩ := hx
  have hn0 : n ≠ 0 := by intro e; subst e; simp at hn
  have hlp : single.leastPlace = -149 := by decide
  rw [hlp] at h2 h3 h4
  have h0 : floatBits .quo .f32 x y = ((Datum.number s m i).quotient 25 (.number false n g)).map single.write := by
    show ((single.read x).quotient (23 + 2) (single.read y)).map single.write = _
    rw [h1, hy]
  rw [h0]
  simp only [Datum.quotient, if_neg hn0, Option.map_some, Bool.xor_false]
  refine ⟨_, rfl, ?_⟩
  have hml : m.log2 ≤ 23 := (read_number _ he32 _ _ _ _ h1).1
  obtain ⟨M, hM⟩ : ∃ M, 25 + n.log2 - m.log2 = M := ⟨_, rfl⟩
  rw [hM]
  have hM1 : 25 ≤ M := by omega
  show Btw single (single.nearest s (2 * (m <<< M / n) + (m <<< M % n != 0).toNat) (i - g - M - 1)) 136 0 U
  have hmag : 2 * (m <<< M / n) + (m <<< M % n != 0).toNat ≤ m * 2 ^ (M - 22) := by
    refine sticky_le (Nat.pos_of_ne_zero hn0) ?_
    have hn23 : 2 ^ 23 ≤ n := by rw [← hn]; exact Nat.log2_self_le hn0
    rw [shl_eq]
    calc 2 * (m * 2 ^ M) = m * 2 ^ (M - 22) * 2 ^ 23 := by
          rw [Nat.mul_assoc m, ← Nat.pow_add, show M - 22 + 23 = M + 1 by omega, Nat.pow_succ, Nat.mul_left_comm, Nat.mul_comm 2]
      _ ≤ m * 2 ^ (M - 22) * n := Nat.mul_le_mul_left _ hn23
  have hzero : m = 0 → 2 * (m <<< M / n) + (m <<< M % n != 0).toNat = 0 := fun e => by
    have := hmag; rw [e, Nat.zero_mul] at this; rw [e]; omega
  generalize 2 * (m <<< M / n) + (m <<< M % n != 0).toNat = mag at hmag hzero
  obtain ⟨J, hJ⟩ : ∃ J : Nat, J = M + 200 := ⟨_, rfl⟩
  have hb : single.binade = 8388608 := by decide
  have hi : single.infRung = 255 * 8388608 := by decide
  have hf : single.fractionBits = 23 := rfl
  obtain ⟨E, hE⟩ : ∃ E : Nat, E = 136 := ⟨_, rfl⟩
  have hE' : (136 : Nat) = E := hE.symm
  rw [hE'] at h3 h4 ⊢
  have hbnd : signed s mag (i - g - M - 1 - single.leastPlace + (J : Nat)).toNat ≤ U * ((2 ^ (E + J) : Nat) : Int) ∧ 0 ≤ signed s mag (i - g - M - 1 - single.leastPlace + (J : Nat)).toNat := by
    rw [hlp]
    have e1 : (i - g - (M : Int) - 1 - -149 + (J : Nat)).toNat ≤ (i - -149).toNat + J + 22 - M := by omega
    have e2 : M - 22 + ((i - -149).toNat + J + 22 - M) = (i - -149).toNat + J := by omega
    generalize (i - g - (M : Int) - 1 - -149 + (J : Nat)).toNat = q at e1 ⊢
    cases s
    · rw [signed_false] at h3 h4 ⊢
      refine ⟨?_, Int.natCast_nonneg _⟩
      have k1 : mag * 2 ^ q ≤ m * 2 ^ (i - -149).toNat * 2 ^ J := by
        calc mag * 2 ^ q ≤ m * 2 ^ (M - 22) * 2 ^ ((i - -149).toNat + J + 22 - M) := Nat.mul_le_mul hmag (Nat.pow_le_pow_right (by decide) e1)
          _ = m * 2 ^ (i - -149).toNat * 2 ^ J := by rw [Nat.mul_assoc, ← Nat.pow_add, e2, Nat.pow_add, Nat.mul_assoc]
      have k2 : ((mag * 2 ^ q : Nat) : Int) ≤ ((m * 2 ^ (i - -149).toNat * 2 ^ J : Nat) : Int) := Int.ofNat_le.2 k1
      refine Int.le_trans k2 ?_
      have k3 : ((m * 2 ^ (i - -149).toNat * 2 ^ J : Nat) : Int) = ((m * 2 ^ (i - -149).toNat : Nat) : Int) * ((2 ^ J : Nat) : Int) := Int.natCast_mul _ _
      have k4 : U * ((2 ^ (E + J) : Nat) : Int) = U * ((2 ^ E : Nat) : Int) * ((2 ^ J : Nat) : Int) := by rw [Nat.pow_add, Int.natCast_mul, ← Int.mul_assoc]
      rw [k3, k4]
      exact Int.mul_le_mul_of_nonneg_right h4 (Int.natCast_nonneg _)
    · have hm0 : m = 0 := by
        rw [signed_true] at h3
        rw [Int.zero_mul] at h3
        have h5 : m * 2 ^ (i - -149).toNat = 0 := by omega
        rcases Nat.mul_eq_zero.1 h5 with h6 | h6
        · exact h6
        · exact absurd h6 (Nat.ne_of_gt (Nat.two_pow_pos _))
      rw [hzero hm0]
      have e0 : signed true 0 q = 0 := by simp [signed]
      rw [e0]
      exact ⟨Int.mul_nonneg hU0 (Int.natCast_nonneg _), Int.le_refl _⟩
  refine btw_nearest single s mag (i - g - M - 1) 0 U E J (.inl (Int.le_refl _)) (by rw [hb]; decide) (by rw [hb]; omega) (by rw [hf]; omega) (by rw [hb, hi]; omega) (by rw [hlp]; omega) ?_ hbnd.1
  rw [Int.zero_mul]; exact hbnd.2
/-- such a number is not less than 0 -/
theorem pos_order {x : Nat} {U : Int} (h : Pos x U) : (FloatKind.f32.format.order x 0 == some .lt) = false := by
  obtain ⟨s, m, i, h1, h2, h3, _⟩ := h
  have hlp : single.leastPlace = -149 := by decide
  rw [hlp] at h2 h3
  rw [Int.zero_mul] at h3
  have h0 : single.read 0 = .number false 0 (-149) := by decide
  have ho : single.order x 0 = some (compare (signed s m (i - -149).toNat) 0) := by
    unfold Format.order
    rw [h1, h0]
    simp only [Datum.order]
    have e1 : min i (-149) = -149 := by omega
    rw [e1]
    have e2 : signed false 0 ((-149 : Int) - -149).toNat = 0 := by simp [signed]
    rw [e2]
  show (single.order x 0 == some .lt) = false
  rw [ho]
  generalize signed s m (i - -149).toNat = z at h3
  simp only [compare, compareOfLessAndEq]
  rw [if_neg (by omega)]
  split <;> rfl
/-- the divisor of a radius -/
def divW (r : Nat) : Nat := (floatBits .mul .f32 1086918619 r).getD 0
def divOk (d : Nat) : Bool := match single.read d with
  | .number s n g => (s == false) && (n.log2 == 23) && decide (-23 ≤ g) && decide (g ≤ 100)
  | _ => false
theorem divOk_num {d : Nat} (h : divOk d = true) : ∃ n g, single.read d = .number false n g ∧ n.log2 = 23 ∧ -23 ≤ g ∧ g ≤ 100 := by
  unfold divOk at h
  split at h
  · rename_i s n g he
    simp only [Bool.and_eq_true, decide_eq_true_eq, beq_iff_eq] at h
    obtain ⟨⟨⟨rfl, h2⟩, h3⟩, h4⟩ := h
    exact ⟨n, g, he, h2, h3, h4⟩
  · cases h
theorem div_ok {r : Nat} {k : Int} (h : Exa single (-2) r k) (hb : 1 ≤ k ∧ k ≤ 6) : floatBits .mul .f32 1086918619 r = some (divW r) ∧ divOk (divW r) = true ∧ floatBits .quo .f32 0 (divW r) = some 0 := by
  have e := h.word (by omega)
  have hk : k = 1 ∨ k = 2 ∨ k = 3 ∨ k = 4 ∨ k = 5 ∨ k = 6 := by omega
  rw [e]
  rcases hk with rfl | rfl | rfl | rfl | rfl | rfl
  all_goals exact ⟨by decide +kernel, by decide +kernel, by decide +kernel⟩
/-- sums of strengths at both grains of each link, in words -/
def pstep (P : Nat → Nat) (l : Lk) (s : Nat) : Nat → Nat := upd (upd P l.a (addW (P l.a) s)) l.b (addW (upd P l.a (addW (P l.a) s) l.b) s)
def pressW (ls : List Lk) (is : List (Int × Int)) : Nat → Nat → Nat
  | 0 => fun _ => 0
  | k + 1 => pstep (pressW ls is k) (ls.getD k default) (rootT (pw (is.getD k default)))
theorem Pos.mono {x : Nat} {U V : Int} (h : Pos x U) (hU : U ≤ V) : Pos x V := by
  obtain ⟨s, m, i, h1, h2, h3, h4⟩ := h
  exact ⟨s, m, i, h1, h2, h3, Int.le_trans h4 (Int.mul_le_mul_of_nonneg_right hU (Int.natCast_nonneg _))⟩
theorem pos_add {x s : Nat} {U : Int} (hx : Pos x U) (hs : Pos s 49152) (h0 : 0 ≤ U) (hU : U ≤ 8000000) : floatBits .add .f32 x s = some (addW x s) ∧ Pos (addW x s) (U + 49152) := by
  obtain ⟨r, hr, hb⟩ := btw_add 136 rfl hx hs (.inl (by omega)) (by omega) (by omega)
  have e : addW x s = r := by unfold addW; rw [hr]; rfl
  rw [e]
  exact ⟨hr, by simpa using hb⟩
theorem pos_zero : Pos 0 0 := ⟨false, 0, -149, by decide, by decide, by decide, by decide⟩
theorem pstep_pos {P : Nat → Nat} {l : Lk} {s : Nat} {U : Int} (h : ∀ j, j < 4 → Pos (P j) U) (hs : Pos s 49152) (h0 : 0 ≤ U) (hU : U ≤ 4000000) (ha : l.a < 4) (hb : l.b < 4) : (∀ j, j < 4 → Pos (upd P l.a (addW (P l.a) s) j) (U + 49152)) ∧ ∀ j, j < 4 → Pos (pstep P l s j) (U + 98304) := by
  have k1 : ∀ j, j < 4 → Pos (upd P l.a (addW (P l.a) s) j) (U + 49152) := fun j hj => by
    by_cases e : j = l.a
    · subst e; rw [upd_at]; exact (pos_add (h _ hj) hs h0 (by omega)).2
    · rw [upd_ne _ _ e]; exact (h j hj).mono (by omega)
  refine ⟨k1, fun j hj => ?_⟩
  unfold pstep
  by_cases e : j = l.b
  · subst e; rw [upd_at]; exact (pos_add (k1 _ hj) hs (by omega) (by omega)).2.mono (by omega)
  · rw [upd_ne _ _ e]; exact (k1 j hj).mono (by omega)
theorem press_pos {ls : List Lk} {is : List (Int × Int)} (h : LksQ ls is) (hl : ls.length ≤ 6) : ∀ k, k ≤ ls.length → ∀ j, j < 4 → Pos (pressW ls is k j) (98304 * (k : Int))
  | 0, _, j, _ => pos_zero
  | k + 1, hk, j, hj => by
    have hq := h.2 k hk
    exact ((pstep_pos (press_pos h hl k (by omega)) (strength_pos (pw_le hq.bx hq.by_)) (by omega) (by omega) hq.ha hq.hb).2 j hj).mono (by omega)
/-- a grain without a link has no pressure -/
theorem press_none {ls : List Lk} {is : List (Int × Int)} {j : Nat} (hz : cntF ls j = 0) : ∀ k, k ≤ ls.length → pressW ls is k j = 0
  | 0, _ => rfl
  | k + 1, hk => by
    have h1 : ls.countP (fun l => l.a == j) = 0 ∧ ls.countP (fun l => l.b == j) = 0 := by unfold cntF at hz; omega
    have hm : ls.getD k default ∈ ls := by rw [List.getD_eq_getElem?_getD, List.getElem?_eq_getElem hk]; exact List.getElem_mem _
    have ha := List.countP_eq_zero.1 h1.1 _ hm
    have hb := List.countP_eq_zero.1 h1.2 _ hm
    have ha' : j ≠ (ls.getD k default).a := fun e => ha (by simp [e])
    have hb' : j ≠ (ls.getD k default).b := fun e => hb (by simp [e])
    show pstep _ _ _ j = 0
    unfold pstep
    rw [upd_ne _ _ hb', upd_ne _ _ ha']
    exact press_none hz k (by omega)
end Go.Proofs.Ytmkpkkaedhekdaa

namespace Go.Proofs.Ytmkpkkaedhekdaa
open Go.RowKit Fl

/-- the cells of n numbers -/
def fm (P : Nat → Nat) (n : Nat) : List Value := (List.range n).map (fun k => Value.float .f32 (P k))
theorem fm_at {P : Nat → Nat} {n k : Nat} (h : k < n) : (fm P n)[k]? = some (.float .f32 (P k)) := by simp [fm, h]
theorem fm_set (P : Nat → Nat) (n a x : Nat) : (fm P n).set a (.float .f32 x) = fm (upd P a x) n := by
  apply List.ext_getElem?
  intro j
  rw [List.getElem?_set]
  by_cases hj : j < n
  · rw [fm_at hj]
    by_cases e : a = j
    · subst e
      rw [if_pos rfl, if_pos (by simp [fm]; exact hj), fm_at hj, upd_at]
    · rw [if_neg e, fm_at hj, upd_ne _ _ (fun h => e h.symm)]
  · have h1 : (fm (upd P a x) n)[j]? = none := by simp [fm]; omega
    have h2 : (fm P n)[j]? = none := by simp [fm]; omega
    rw [h1]
    by_cases e : a = j
    · rw [if_pos e, if_neg (by simp [fm]; omega)]
    · rw [if_neg e, h2]
theorem made_fm (n : Nat) : (madeCells (Value.float .f32 0).cells (n * 1)).toList = fm (fun _ => 0) n := by
  rw [Nat.mul_one]
  apply List.ext_getElem
  · simp [madeCells, fm, Value.cells]
  · intro i h1 h2
    simp [madeCells, fm, Value.cells, Nat.mod_one]
theorem fm_map (P : Nat → Nat) (n : Nat) : fm P n = ((List.range n).map P).map (Value.float .f32) := by simp [fm, List.map_map]
def quoW (x y : Nat) : Nat := (floatBits .quo .f32 x y).getD 0
/-- the first k divided -/
def qAt (P D : Nat → Nat) (k : Nat) : Nat → Nat := fun j => if j < k then quoW (P j) (D j) else P j
theorem qAt_zero (P D : Nat → Nat) : qAt P D 0 = P := by funext j; simp [qAt]
theorem qAt_succ (P D : Nat → Nat) (k : Nat) : upd (qAt P D k) k (quoW (P k) (D k)) = qAt P D (k + 1) := by
  funext j
  unfold upd qAt
  by_cases h : j = k
  · subst h; rw [if_pos rfl, if_pos (by omega)]
  · rw [if_neg h]
    by_cases h2 : j < k
    · rw [if_pos h2, if_pos (by omega)]
    · rw [if_neg h2, if_neg (by omega)]
theorem qAt_self (P D : Nat → Nat) (k : Nat) : qAt P D k k = P k := by unfold qAt; rw [if_neg (by omega)]
/-- pressures: none is less than nothing, and a grain without a link has none -/
structure PrQ (ls : List Lk) (P : Nat → Nat) : Prop where
  l : ∀ j, j < 4 → (FloatKind.f32.format.order (P j) 0 == some .lt) = false
  z : ∀ j, j < 4 → cntF ls j = 0 → P j = 0
set_option maxRecDepth 100000 in
set_option maxHeartbeats 6400000 in
theorem pressuresOf_of (hb_ hc : Nat) (gs : List Gr) (gi : List GrI) (ao : Option Addr) (n c : Nat) (ls : List Lk) (is : List (Int × Int)) (w : World) (hg : GrsQ gs gi) (hl : gs.length = 4) (hr : GrRow w hb_ gs) (hL : LRow w ao n ls) (hq : LksQ ls is) (hn : n ≤ 6) :
    Calls Try.prog 11 #[.agg #[.slice (some ⟨hb_, 0, none⟩) 4 hc], .slice ao n c] w fun e w' => Below w.heap.size w w' ∧ ∃ b P, e = .returned (.tuple #[.slice (some ⟨b, 0, none⟩) 4 4, .bool true]) ∧ PrQ ls P ∧ w'.ownsRow w.heap.size 46 1 (.slice (some ⟨b, 0, none⟩) 4 4) 4 (fm P 4) := by
  obtain ⟨i0, hi, hz0, hz1, hz2⟩ := info_parts f32inf
  have HA := Lib.hid fun w (h : GrRow w hb_ gs) (h' : LRow w ao n ls) => areLinks_yes hb_ hc gs ao n c ls is w hg.valid hl h h' hq hn
  have HE := Lib.hid fun w (h : LRow w ao n ls) => eachStrength_of ao n c ls is w h hq hn
  have hbel := (Below.refl w.heap.size w).alloc (Nat.le_refl _) (.cells #[.slice (some ⟨hb_, 0, none⟩) 4 hc] 26)
  have hb1 := blk_new w 26 #[.slice (some ⟨hb_, 0, none⟩) 4 hc] _ rfl
  have L0 := Lib.hid hbel
  have K0 := Lib.hid hb1
  have R0 := Lib.hid (hr.below hbel (Nat.le_refl _))
  have A0 := Lib.hid (hL.below hbel (Nat.le_refl _))
  have HN := Lib.hid hL.len
  have HQ := Lib.hid hq
  have HG := Lib.hid hg
  have HGl := Lib.hid hl
  have a0 := hb1.cell 0
  clear hbel hb1 hr hL hq hl hg
  go_enter Try.func11, Try.ntmps11
  go_wp2_with fail
  refine (HA.out _ R0.out A0.out).mono ?_
  rintro e w1 ⟨rfl, hb⟩
  have L1 := Lib.hid (below_next L0.out hb)
  have A1 := Lib.hid (A0.out.next hb)
  have R1 := Lib.hid (R0.out.below hb (Nat.le_refl _))
  have K1 := Lib.hid (blk_next K0.out hb)
  have a0 := K1.out.cell 0
  clear hb L0 K0 R0 A0 HA
  go_wp2_with (at_make; go_loud (refine wpList_make_full _ rfl _ _ 41 rfl w1.heap.size 46 i0 (.float .f32 0) 1 Try.underlying41 hi hz0 hz1 .i64 .i64 _ _ 4 rfl rfl rfl rfl (by rw [hz2]; omega) (by unfold maxLen; omega) (Nat.le_refl _) ?_); intro w2 hown hgrow)
  rw [made_fm] at hown
  have hb2 := ((Below.refl w1.heap.size w1).grown hgrow (Nat.le_refl _) (by simp) : Below w1.heap.size w1 w2)
  have B2 := Lib.hid hb2
  have O2 := Lib.hid hown
  have A2 := Lib.hid (A1.out.next hb2)
  clear hown hgrow hb2 a0
  refine (HE.out _ A2.out).mono ?_
  rintro e w3 ⟨rfl, hf, hb⟩
  have F3 := Lib.hid hf
  have O3 := Lib.hid (own_below O2.out hb (Nat.le_refl _))
  have B3 := Lib.hid (below_next B2.out hb)
  have hw12 : w1.heap.size < w2.heap.size := (O2.out.lt _ rfl).2
  clear hf hb A2 O2 B2
  generalize w2.heap.size = R2 at F3 hw12 ⊢
  go_wp2_with fail
  go_loopw [22] (fun i wr => ∃ (W : World) (k : Nat), W = wr ∧ k ≤ n ∧ i = .int .i64 k ∧ wr.ownsRow w1.heap.size 46 1 (.slice (some ⟨w1.heap.size, 0, none⟩) 4 4) 4 (fm (pressW ls is k) 4) ∧ But w1.heap.size w3 wr) (fun i _ => n - (intOf i).toNat)
  case atStart => exact ⟨_, 0, rfl, Nat.zero_le _, rfl, O3.out, But.refl _ _⟩
  case round =>
    clear O3
    obtain ⟨W, k, rfl, hk, rfl, hO, hB⟩ := hrel
    by_cases hlt : k < n
    · have hkl : k < ls.length := by rw [HN.out]; exact hlt
      have hkI : k < is.length := by rw [HQ.out.1]; exact hkl
      have hq := HQ.out.2 k hkl
      have hBW := hB.below B3.out (by have := B3.out.size; omega) (Nat.le_refl _)
      have hx : W.cell? ⟨R2, k, none⟩ = some (.float .f32 ((strs is).getD k 0)) := by
        have h1 := F3.out.cell _ rfl k hlt
        rw [show (⟨R2, 0, none⟩ : Addr).add k = ⟨R2, k, none⟩ by unfold Addr.add; split <;> simp_all] at h1
        rw [World.cell?_of_block (w := w3) (hB.block R2 (World.block_lt_of_cell? w3 _ h1) (by intro e; injection e with e; omega))]
        exact h1
      rw [strs_at hkI] at hx
      obtain ⟨b, rfl⟩ := A1.out.addr (by omega)
      have hA := A1.out.below hBW (Nat.le_refl _)
      obtain ⟨c0, _, _⟩ := hA.cell b rfl k hlt
      have hP := press_pos HQ.out (by rw [HN.out]; exact hn) k (by omega)
      have hs := strength_pos (pw_le hq.bx hq.by_)
      have hnx : pressW ls is (k + 1) = pstep (pressW ls is k) (ls.getD k default) (rootT (pw (is.getD k default))) := rfl
      have h1 := hq.ha
      have h2 := hq.hb
      have p1 := pos_add (hP _ h1) hs (by omega) (by omega)
      have p2 := pos_add ((pstep_pos hP hs (by omega) (by omega) h1 h2).1 _ h2) hs (by omega) (by omega)
      have hA2 := fun u => A1.out.below (hBW.setCell (p := ⟨w1.heap.size, (ls.getD k default).a, none⟩) (Nat.le_refl _) u) (Nat.le_refl _)
      have d1 := fun u => ((hA2 u).cell b rfl k hlt).2.1
      unfold pstep at hnx
      generalize rootT (pw (is.getD k default)) = v at hx hnx p1 p2
      generalize ls.getD k default = l at c0 hnx h1 h2 p1 p2 d1
      have e1 := fun w => run_float_arith (P := Try.prog) w .add 46 .f32 _ _ _ p1.1
      have e2 := fun w => run_float_arith (P := Try.prog) w .add 46 .f32 _ _ _ p2.1
      have hcl := (hO.cellAt l.a (by omega)).trans (fm_at h1)
      have hfr := hO.frozenAt l.a
      have hst := (hO.stored l.a (.float .f32 (addW (pressW ls is k l.a) v))).1
      rw [fm_set] at hst
      have hcl2 := (hst.cellAt l.b (by omega)).trans (fm_at h2)
      have hfr2 := hst.frozenAt l.b
      have hst2 := (hst.stored l.b (.float .f32 (addW (upd (pressW ls is k) l.a (addW (pressW ls is k l.a) v) l.b) v))).1
      rw [fm_set, ← hnx] at hst2
      have hb5 := (hB.setCell l.a (.float .f32 (addW (pressW ls is k l.a) v))).setCell l.b (.float .f32 (addW (upd (pressW ls is k) l.a (addW (pressW ls is k l.a) v) l.b) v))
      have x1 := d1 (.float .f32 (addW (pressW ls is k l.a) v))
      have O5 := Lib.hid hst2
      have B5 := Lib.hid hb5
      have h1i : (l.a : Int) < 4 := by omega
      have h2i : (l.b : Int) < 4 := by omega
      have hsf := run_store_float Try.prog
      clear hst hst2 hb5 hnx p1 p2 hP hs hA2 d1 hA hBW hO hB hq
      generalize addW (upd (pressW ls is k) l.a (addW (pressW ls is k l.a) v) l.b) v = y2 at e2 O5 B5
      generalize upd (pressW ls is k) l.a (addW (pressW ls is k l.a) v) l.b = y1 at e2 hcl2
      generalize addW (pressW ls is k l.a) v = y0 at e1 O5 B5 hcl2 hfr2 x1
      generalize pressW ls is k l.a = z0 at e1 hcl
      obtain ⟨la, lb, lx, ly⟩ := l
      dsimp only at *
      go_wp2_with fail
      go_roundw
      case rel => exact ⟨_, k + 1, rfl, by omega, by go_num, O5.out, B5.out⟩
      case measure => simp [intOf]; omega
    · obtain rfl : n = k := by omega
      have hBW := hB.below B3.out (by have := B3.out.size; omega) (Nat.le_refl _)
      have O5 := Lib.hid hO
      have B5 := Lib.hid hBW
      have a0 := (blk_next K1.out hBW).cell 0
      clear hO hB hBW
      go_wp2_with fail
      have HD := Lib.hid fun k (hk : k < 4) => div_ok (HG.out.2 k (by rw [HGl.out]; exact hk)).r (HG.out.2 k (by rw [HGl.out]; exact hk)).br
      have hPp := press_pos HQ.out (by rw [HN.out]; exact hn) n (by rw [HN.out]; exact Nat.le_refl _)
      have HPp := Lib.hid hPp
      clear hPp a0
      go_loopw [53] (fun i wr => ∃ (Wd : World) (k : Nat), Wd = wr ∧ k ≤ 4 ∧ i = .int .i64 k ∧ wr.ownsRow w1.heap.size 46 1 (.slice (some ⟨w1.heap.size, 0, none⟩) 4 4) 4 (fm (qAt (pressW ls is n) (fun j => divW (gs.getD j default).r) k) 4) ∧ Below w1.heap.size w1 wr) (fun i _ => 4 - (intOf i).toNat)
      case atStart => exact ⟨_, 0, rfl, by omega, rfl, by rw [qAt_zero]; exact O5.out, B5.out⟩
      case round =>
        clear O5 B5
        obtain ⟨W, k, rfl, hk, rfl, hO, hB⟩ := hrel
        by_cases hlt : k < 4
        · obtain ⟨g0, g1, g2, g3, g4, g5, g6⟩ := (R1.out.below hB (Nat.le_refl _)) k (by rw [HGl.out]; exact hlt)
          have hd := HD.out k hlt
          obtain ⟨nn, g, hr1, hr2, hr3, hr4⟩ := divOk_num hd.2.1
          obtain ⟨r, hq, _⟩ := pos_quo (HPp.out k hlt) hr1 hr2 hr3 hr4 (by omega) (by omega)
          have hqw : quoW (pressW ls is n k) (divW (gs.getD k default).r) = r := by unfold quoW; rw [hq]; rfl
          have hnx := qAt_succ (pressW ls is n) (fun j => divW (gs.getD j default).r) k
          rw [hqw] at hnx
          have HM := Lib.hid fun w => (mulNumber_ok _ _ _ hd.1 w).mono (fun e w' h => (⟨h.1, h.2.symm⟩ : e = .returned (.float .f32 (divW (gs.getD k default).r)) ∧ w' = w))
          have eq1 := fun w => run_float_arith (P := Try.prog) w .quo 46 .f32 _ _ _ hq
          have hself := qAt_self (pressW ls is n) (fun j => divW (gs.getD j default).r) k
          have HNx := Lib.hid hnx
          have HSelf := Lib.hid hself
          clear hnx hself hqw hq hr1 hr2 hr3 hr4 hd
          generalize hQ1 : qAt (pressW ls is n) (fun j => divW (gs.getD j default).r) (k + 1) = Q1 at HNx
          have HQ1 := Lib.hid hQ1
          clear hQ1
          generalize qAt (pressW ls is n) (fun j => divW (gs.getD j default).r) k = Q0 at HNx HSelf hO
          generalize divW (gs.getD k default).r = d at HM eq1
          generalize pressW ls is n k = x at eq1 HSelf
          generalize gs.getD k default = gg at g0 g1 g2 g3 g4 g5 g6 HM
          obtain ⟨ax, ay, sx, sy, gr, gm, gt, gs', gh⟩ := gg
          dsimp only at g0 g1 g2 g3 g4 g5 g6 HM
          have O2 := Lib.hid (hO.alloc (.cells #[.complex .f32 ax ay, .complex .f32 sx sy, .float .f32 gr, .float .f32 gm, .float .f32 gt, .float .f32 gs', .bool gh] 57))
          have X2 := Lib.hid (blk_new W 57 #[.complex .f32 ax ay, .complex .f32 sx sy, .float .f32 gr, .float .f32 gm, .float .f32 gt, .float .f32 gs', .bool gh] _ rfl)
          have B2 := Lib.hid (hB.alloc hB.size (.cells #[.complex .f32 ax ay, .complex .f32 sx sy, .float .f32 gr, .float .f32 gm, .float .f32 gt, .float .f32 gs', .bool gh] 57))
          have hsf := run_store_float Try.prog
          have hsc := run_store_complex Try.prog
          clear hO hB
          go_wp2_with fail
          generalize W.alloc (.cells #[.complex .f32 ax ay, .complex .f32 sx sy, .float .f32 gr, .float .f32 gm, .float .f32 gt, .float .f32 gs', .bool gh] 57) = W2 at O2 X2 B2 ⊢
          clear g0 g1 g2 g3 g4 g5 g6
          refine wp_region_still_tail 9 (by kernel_rfl) (by kernel_rfl) ?_
          simp only [List.take_succ_cons, List.take_zero, List.drop_succ_cons, List.drop_zero]
          generalize hV : ({ W2 with drawn := W2.drawn + 1 } : World) = V
          have bV : Below W2.heap.size W2 V := by rw [← hV]; exact ⟨rfl, rfl, rfl, Nat.le_refl _, fun _ _ => rfl⟩
          have O4 := Lib.hid (own_below O2.out bV (Nat.le_refl _))
          have B4 := Lib.hid (B2.out.trans (bV.mono B2.out.size))
          have x2 := (blk_next X2.out bV).cell 2
          have hcl := (O4.out.cellAt k (by omega)).trans (fm_at hlt)
          rw [HSelf.out] at hcl
          have hfr := O4.out.frozenAt k
          have hst := (O4.out.stored k (.float .f32 r)).1
          rw [fm_set, HNx.out] at hst
          have O6 := Lib.hid hst
          have B6 := Lib.hid (B4.out.setCell (p := ⟨w1.heap.size, k, none⟩) (Nat.le_refl _) (.float .f32 r))
          clear hV bV O2 B2 X2 hst O4 B4 HNx HSelf
          still_step
          still_step
          still_step
          still_step
          still_step
          still_step
          still_call (HM.out _)
          still_step
          still_step
          refine wpStill_nil ?_
          go_wp2_with fail
          go_roundw
          case rel => exact ⟨_, k + 1, rfl, by omega, by go_num, by rw [HQ1.out]; exact O6.out, B6.out⟩
          case measure => simp [intOf]; omega
        · obtain rfl : k = 4 := by omega
          have hzl : ((List.range 4).map (qAt (pressW ls is n) (fun j => divW (gs.getD j default).r) 4)).length = 4 := by simp
          have hF := frow_own (zs := (List.range 4).map (qAt (pressW ls is n) (fun j => divW (gs.getD j default).r) 4)) (by rw [← fm_map]; exact hO) hzl
          have hpq : ∀ j, j < 4 → Pos (qAt (pressW ls is n) (fun j => divW (gs.getD j default).r) 4 j) (98304 * (n : Int)) := fun j hj => by
            have hd := HD.out j hj
            obtain ⟨nn, g, hr1, hr2, hr3, hr4⟩ := divOk_num hd.2.1
            obtain ⟨r, hq, hp⟩ := pos_quo (HPp.out j hj) hr1 hr2 hr3 hr4 (by omega) (by omega)
            unfold qAt
            rw [if_pos hj]
            show Pos (quoW (pressW ls is n j) (divW (gs.getD j default).r)) _
            unfold quoW
            rw [hq]; exact hp
          have hfin : ((List.range 4).map (qAt (pressW ls is n) (fun j => divW (gs.getD j default).r) 4)).all fin32 = true := by
            rw [List.all_eq_true]
            intro x hx
            obtain ⟨j, hj, rfl⟩ := List.mem_map.1 hx
            exact (hpq j (List.mem_range.1 hj)).fin
          have hpr : PrQ ls (qAt (pressW ls is n) (fun j => divW (gs.getD j default).r) 4) := ⟨fun j hj => pos_order (hpq j hj), fun j hj hz => by
            have h0 := press_none (is := is) hz n (by rw [HN.out]; exact Nat.le_refl _)
            unfold qAt
            rw [if_pos hj, h0]
            show quoW 0 (divW (gs.getD j default).r) = 0
            unfold quoW
            rw [(HD.out j hj).2.2]; rfl⟩
          have hAF := fun w (h : FRow w (some ⟨w1.heap.size, 0, none⟩) 4 _) => areFinite_any w1.heap.size 4 4 ((List.range 4).map (qAt (pressW ls is n) (fun j => divW (gs.getD j default).r) 4)) w h (by omega)
          rw [hfin] at hAF
          generalize qAt (pressW ls is n) (fun j => divW (gs.getD j default).r) 4 = Q at hO hF hpr hAF
          have HAF := Lib.hid hAF
          have HF := Lib.hid hF
          have HPr := Lib.hid hpr
          have HO := Lib.hid hO
          have HB := Lib.hid hB
          clear hAF hF hpr hO hB hfin hpq hzl
          go_wp2_with fail
          refine (HAF.out _ HF.out).mono ?_
          rintro e w9 ⟨rfl, m, rfl⟩
          go_wp2_with fail
          go_ret2
          exact ⟨below_next L1.out (below_drewN HB.out m), w1.heap.size, Q, rfl, HPr.out, vi_base (own_below HO.out (below_drewN (Below.refl _ W) m) (Nat.le_refl _)) L1.out.size⟩
end Go.Proofs.Ytmkpkkaedhekdaa

namespace Go.Proofs.Ytmkpkkaedhekdaa
open Go.RowKit Fl

/-- the cells of a row -/
def RowAt (W : World) (b : Nat) (xs : List Value) : Prop := ∀ k v, xs[k]? = some v → W.cell? ⟨b, k, none⟩ = some v
theorem RowAt.of_own {W : World} {base e b n c : Nat} {xs : List Value} (h : W.ownsRow base e 1 (.slice (some ⟨b, 0, none⟩) n c) n xs) : RowAt W b xs := fun k v hk => by
  have hl : xs.length = n := by have := h.1; omega
  have hkl : k < xs.length := by
    rcases Nat.lt_or_ge k xs.length with h1 | h1
    · exact h1
    · rw [List.getElem?_eq_none h1] at hk; cases hk
  rw [h.cellAt k (by omega)]; exact hk
theorem RowAt.next {W W' : World} {b : Nat} {xs : List Value} (h : RowAt W b xs) (hb : Below W.heap.size W W') : RowAt W' b xs := fun k v hk => by
  have h1 := h k v hk
  rw [hb.cell (World.block_lt_of_cell? W _ h1)]; exact h1
/-- what the law's heap and links are -/
structure LV (W : World) (hv hb_ hc : Nat) (gs : List Gr) (ao : Option Addr) (n : Nat) (ls : List Lk) : Prop where
  v : Blk W hv 26 #[.slice (some ⟨hb_, 0, none⟩) 4 hc]
  g : GrRow W hb_ gs
  l : LRow W ao n ls
theorem LV.next {W W' : World} {hv hb_ hc : Nat} {gs : List Gr} {ao : Option Addr} {n : Nat} {ls : List Lk} (h : LV W hv hb_ hc gs ao n ls) (hb : Below W.heap.size W W') : LV W' hv hb_ hc gs ao n ls :=
  ⟨blk_next h.v hb, h.g.below hb (Nat.le_refl _), h.l.next hb⟩
/-- the sum of the first k forces -/
def sumF (F : Nat → Nat × Nat) : Nat → Nat × Nat
  | 0 => (0, 0)
  | k + 1 => (addW (sumF F k).1 (F k).1, addW (sumF F k).2 (F k).2)
def sumI (I : Nat → Int × Int) : Nat → Int × Int
  | 0 => (0, 0)
  | k + 1 => ((sumI I k).1 + (I k).1, (sumI I k).2 + (I k).2)
theorem add_cq2 {F G : Nat × Nat} {I J : Int × Int} {B C : Int} (h : CQ F I B) (g : CQ G J C) (h1 : B ≤ 10000) (h2 : C ≤ 10000) : floatBits .add .f32 F.1 G.1 = some (addW F.1 G.1) ∧ floatBits .add .f32 F.2 G.2 = some (addW F.2 G.2) ∧ CQ (addW F.1 G.1, addW F.2 G.2) (I.1 + J.1, I.2 + J.2) (B + C) := by
  obtain ⟨f1, f2, b1, b2⟩ := h
  obtain ⟨g1, g2, c1, c2⟩ := g
  obtain ⟨r, hr, hx⟩ := add32 f1 g1 (by omega) (by omega) (by omega) (by omega)
  obtain ⟨s, hs, hy⟩ := add32 f2 g2 (by omega) (by omega) (by omega) (by omega)
  have e1 : addW F.1 G.1 = r := by unfold addW; rw [hr]; rfl
  have e2 : addW F.2 G.2 = s := by unfold addW; rw [hs]; rfl
  rw [e1, e2]
  exact ⟨hr, hs, hx, hy, by show -(B + C) ≤ I.1 + J.1 ∧ I.1 + J.1 ≤ B + C; omega, by show -(B + C) ≤ I.2 + J.2 ∧ I.2 + J.2 ≤ B + C; omega⟩
theorem sum_cq {F : Nat → Nat × Nat} {I : Nat → Int × Int} {B : Int} (h : ∀ j, j < 4 → CQ (F j) (I j) B) (hB : B ≤ 200) (h0 : 0 ≤ B) : ∀ k, k ≤ 4 → CQ (sumF F k) (sumI I k) (200 * (k : Int))
  | 0, _ => ⟨exa_zero _ _, exa_zero _ _, by simp [sumI], by simp [sumI]⟩
  | k + 1, hk => (add_cq2 (sum_cq h hB h0 k (by omega)) (h k (by omega)) (by omega) (by omega)).2.2.mono (by omega)
theorem sumI_tot (I : Nat → Int × Int) : sumI I 4 = tot I := by
  unfold tot
  simp [sumI]
/-- nothing together -/
theorem sum_none {ls : List Lk} {is : List (Int × Int)} (h : LksQ ls is) (hl : ls.length ≤ 6) : ((sumF (forceW ls ls.length) 4).1 = 0 ∨ (sumF (forceW ls ls.length) 4).1 = 2147483648) ∧ ((sumF (forceW ls ls.length) 4).2 = 0 ∨ (sumF (forceW ls ls.length) 4).2 = 2147483648) := by
  have hs := sum_cq (fun j hj => force_cq h hl ls.length (Nat.le_refl _) j hj) (by omega) (by omega) 4 (Nat.le_refl _)
  rw [sumI_tot, forceI_tot h _ (Nat.le_refl _)] at hs
  exact ⟨zero_word hs.1, zero_word hs.2.1⟩
/-- forces of links that go back are equal -/
theorem back_eq {ls : List Lk} {is : List (Int × Int)} (h : LksQ ls is) (hl : ls.length ≤ 6) (k : Nat) (hk : k < 4) : FloatKind.f32.format.order (forceW ls ls.length k).1 (forceW (ls.map Lk.back) ls.length k).1 = some .eq ∧ FloatKind.f32.format.order (forceW ls ls.length k).2 (forceW (ls.map Lk.back) ls.length k).2 = some .eq := by
  have h1 := force_cq h hl ls.length (Nat.le_refl _) k hk
  have h2 := force_cq h.back (by simpa using hl) ls.length (by simp) k hk
  rw [forceI_back h _ (Nat.le_refl _)] at h2
  have self : ∀ a : Int, compare a a = Ordering.eq := fun a => by simp [compare, compareOfLessAndEq]
  refine ⟨?_, ?_⟩
  · rw [order32 h1.1 h2.1 (by omega) (by omega) (by have := h1.2.2.1; omega) (by have := h1.2.2.1; omega), self]
  · rw [order32 h1.2.1 h2.2.1 (by omega) (by omega) (by have := h1.2.2.2; omega) (by have := h1.2.2.2; omega), self]
/-- counts, summed up -/
def totC (ls : List Lk) : Nat → Int
  | 0 => 0
  | k + 1 => totC ls k + cntF ls k
theorem cntF_cons (l : Lk) (ls : List Lk) (j : Nat) : cntF (l :: ls) j = cntF ls j + (if l.a = j then 1 else 0) + (if l.b = j then 1 else 0) := by
  unfold cntF
  simp only [List.countP_cons, beq_iff_eq]
  split <;> split <;> omega
theorem totC_four : ∀ (ls : List Lk), (∀ l ∈ ls, l.a < 4 ∧ l.b < 4) → totC ls 4 = 2 * (ls.length : Int)
  | [], _ => by simp [totC, cntF]
  | l :: ls, h => by
    have ih := totC_four ls (fun x hx => h x (.tail _ hx))
    obtain ⟨ha, hb⟩ := h l (.head _)
    have e : totC (l :: ls) 4 = totC ls 4 + 2 := by
      show 0 + cntF (l :: ls) 0 + cntF (l :: ls) 1 + cntF (l :: ls) 2 + cntF (l :: ls) 3 = 0 + cntF ls 0 + cntF ls 1 + cntF ls 2 + cntF ls 3 + 2
      simp only [cntF_cons]
      have h1 : l.a = 0 ∨ l.a = 1 ∨ l.a = 2 ∨ l.a = 3 := by omega
      have h2 : l.b = 0 ∨ l.b = 1 ∨ l.b = 2 ∨ l.b = 3 := by omega
      rcases h1 with h1 | h1 | h1 | h1 <;> rcases h2 with h2 | h2 | h2 | h2 <;> rw [h1, h2] <;> simp <;> omega
    rw [e, ih]
    simp only [List.length_cons]
    omega
theorem totC_is {ls : List Lk} {is : List (Int × Int)} (h : LksQ ls is) : totC ls 4 = 2 * (ls.length : Int) := totC_four ls (fun l hl => by
  obtain ⟨m, hm, rfl⟩ := List.getElem_of_mem hl
  have hq := h.2 m hm
  rw [List.getD_eq_getElem?_getD, List.getElem?_eq_getElem hm, Option.getD_some] at hq
  exact ⟨hq.ha, hq.hb⟩)
theorem totC_bounds (ls : List Lk) (hl : ls.length ≤ 6) : ∀ k, k ≤ 4 → 0 ≤ totC ls k ∧ totC ls k ≤ 12 * (k : Int)
  | 0, _ => ⟨Int.le_refl _, Int.le_refl _⟩
  | k + 1, hk => by
    have := totC_bounds ls hl k (by omega)
    have := cntF_bounds ls k
    show 0 ≤ totC ls k + cntF ls k ∧ totC ls k + cntF ls k ≤ _
    omega
end Go.Proofs.Ytmkpkkaedhekdaa
