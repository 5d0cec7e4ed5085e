/- Bonds copied by the law, compared by it. -/
import Derived.Test.YtkgijboahjiodaaRs
import Derived.Test.YtkgijboahjiodaaList
import Derived.Deep.Slices
import Derived.Deep.MidRow
namespace Go.Proofs.Ytkgijboahjiodaa
open Go.RowKit Fl

structure Kc where
  a : Int
  b : Int
  s : Nat
  q : Nat
instance : Inhabited Kc := ⟨⟨0, 0, 0, 0⟩⟩
def Kc.ok (t : Kc) : Prop := (-9223372036854775808 ≤ t.a ∧ t.a ≤ 9223372036854775807) ∧ (-9223372036854775808 ≤ t.b ∧ t.b ≤ 9223372036854775807) ∧ t.s < 4294967296 ∧ t.q < 4294967296
def Kc.val (t : Kc) : Value := .agg #[.int .i64 t.a, .int .i64 t.b, .float .f32 t.s, .float .f32 t.q]
def Kc.cells (t : Kc) : List Value := [.int .i64 t.a, .int .i64 t.b, .float .f32 t.s, .float .f32 t.q]
/-- A slice value of n bonds, whose cells hold ts. -/
structure KRow (w : World) (ao : Option Addr) (n : Nat) (ts : List Kc) : Prop where
  len : ts.length = n
  addr : 0 < n → ∃ a : Addr, ao = some a
  cell : ∀ a : Addr, ao = some a → ∀ i, i < n → w.cell? (a.add (i * 4)) = some (.int .i64 (ts.getD i default).a) ∧ w.cell? (a.add (i * 4 + 1)) = some (.int .i64 (ts.getD i default).b) ∧ w.cell? (a.add (i * 4 + 2)) = some (.float .f32 (ts.getD i default).s) ∧ w.cell? (a.add (i * 4 + 3)) = some (.float .f32 (ts.getD i default).q)
theorem KRow.below {w w' : World} {ao : Option Addr} {n : Nat} {ts : List Kc} (h : KRow w ao n ts) {B : Nat} (hb : Below B w w') (hB : w.heap.size ≤ B) : KRow w' ao n ts :=
  ⟨h.len, h.addr, fun a ha i hi => by
    have key : ∀ {p : Addr} {v : Value}, w.cell? p = some v → w'.cell? p = some v := fun {p v} hc => by
      rw [hb.cell (p := p) (Nat.lt_of_lt_of_le (World.block_lt_of_cell? w _ hc) hB)]; exact hc
    obtain ⟨c0, c1, c2, c3⟩ := h.cell a ha i hi
    exact ⟨key c0, key c1, key c2, key c3⟩⟩
theorem KRow.drewN {w : World} {ao : Option Addr} {n : Nat} {ts : List Kc} (h : KRow w ao n ts) (m : Nat) : KRow (w.drewN m) ao n ts := h.below (below_drewN (Below.refl w.heap.size w) m) (Nat.le_refl _)
set_option maxHeartbeats 800000 in
theorem toBond_any (t : Kc) (w : World) :
    Calls Try.prog 67 #[.agg #[.int .i64 t.a, .int .i64 t.b, .float .f32 t.s, .float .f32 t.q]] w fun e w' => e = .returned (.agg #[.int .i64 t.a, .int .i64 t.b, .float .f32 t.s, .float .f32 t.q]) ∧ Below w.heap.size w w' := by
  obtain ⟨a, b, s, q⟩ := t
  have hsf := run_store_fl Try.prog
  dsimp only
  go_enter Try.func67, Try.ntmps67
  go_wp2
  exact bodyPost_ret (v := .agg #[.int .i64 a, .int .i64 b, .float .f32 s, .float .f32 q]) (by simp [results, Try.results67, go_sem]) rfl ⟨rfl, (((Below.refl _ _).alloc (Nat.le_refl _) _).alloc (by simp) _).alloc (by simp; omega) _⟩
theorem bondInfo : (Try.prog.info? 110).map (fun i => (i.zero, i.size, i.bytes)) = some (some (.agg #[.int .i64 0, .int .i64 0, .float .f32 0, .float .f32 0]), 4, 24) := by kernel_rfl
def kcells (ts : List Kc) : List Value := ts.flatMap Kc.cells
def zKc : Kc := ⟨0, 0, 0, 0⟩
theorem kcells_length : ∀ ts : List Kc, (kcells ts).length = ts.length * 4
  | [] => rfl
  | g :: gs => by
    have := kcells_length gs
    unfold kcells at this ⊢
    rw [List.flatMap_cons, List.length_append, this, List.length_cons]
    have : g.cells.length = 4 := rfl
    omega
theorem kcells_at : ∀ (ts : List Kc) (i j : Nat), i < ts.length → j < 4 → (kcells ts)[i * 4 + j]? = (ts.getD i default).cells[j]?
  | [], i, j, hi, _ => by simp at hi
  | g :: gs, 0, j, _, hj => by
    unfold kcells
    rw [List.flatMap_cons, List.getElem?_append_left (by show 0 * 4 + j < 4; omega)]
    simp
  | g :: gs, i + 1, j, hi, hj => by
    have ih := kcells_at gs i j (by simpa using hi) hj
    unfold kcells at ih ⊢
    rw [List.flatMap_cons, List.getElem?_append_right (by show 4 ≤ _; omega)]
    have e : (i + 1) * 4 + j - g.cells.length = i * 4 + j := by show (i + 1) * 4 + j - 4 = _; omega
    rw [e, ih]
    simp
theorem kcells_set : ∀ (ts : List Kc) (i : Nat) (g : Kc), i < ts.length →
    ((((kcells ts).set (i * 4) (.int .i64 g.a)).set (i * 4 + 1) (.int .i64 g.b)).set (i * 4 + 2) (.float .f32 g.s)).set (i * 4 + 3) (.float .f32 g.q) = kcells (ts.set i g)
  | [], i, g, h => by simp at h
  | x :: gs, 0, g, _ => by simp [kcells, Kc.cells]
  | x :: gs, i + 1, g, h => by
    have ih := kcells_set gs i g (by simpa using h)
    have e : kcells (x :: gs) = x.cells ++ kcells gs := by simp [kcells]
    have e2 : kcells ((x :: gs).set (i + 1) g) = x.cells ++ kcells (gs.set i g) := by simp [kcells]
    rw [e, e2, ← ih]
    have hl : x.cells.length = 4 := rfl
    have a0 : (i + 1) * 4 - 4 = i * 4 := by omega
    have a1 : (i + 1) * 4 + 1 - 4 = i * 4 + 1 := by omega
    have a2 : (i + 1) * 4 + 2 - 4 = i * 4 + 2 := by omega
    have a3 : (i + 1) * 4 + 3 - 4 = i * 4 + 3 := by omega
    rw [List.set_append_right _ _ (by omega), List.set_append_right _ _ (by omega), List.set_append_right _ _ (by omega), List.set_append_right _ _ (by omega), hl, a0, a1, a2, a3]
theorem made_get4 (z : Array Value) (n j : Nat) (h : j < n) : (madeCells z n).toList[j]? = some (z[j % z.size]!) := by
  unfold madeCells
  simp [h]
theorem made_kc (n : Nat) : (madeCells (Value.agg #[.int .i64 0, .int .i64 0, .float .f32 0, .float .f32 0]).cells (n * 4)).toList = kcells (List.replicate n zKc) := by
  have hl : (kcells (List.replicate n zKc)).length = n * 4 := by rw [kcells_length, List.length_replicate]
  apply List.ext_getElem?
  intro j
  by_cases hj : j < n * 4
  · have hd : j / 4 < n := by omega
    have hm : j % 4 < 4 := Nat.mod_lt _ (by decide)
    have h := kcells_at (List.replicate n zKc) (j / 4) (j % 4) (by simpa using hd) hm
    have e : j / 4 * 4 + j % 4 = j := by omega
    have ez : (List.replicate n zKc).getD (j / 4) default = zKc := by
      rw [List.getD_eq_getElem?_getD, List.getElem?_replicate, if_pos hd]; rfl
    rw [e, ez] at h
    rw [h, made_get4 _ _ _ hj]
    show some (#[Value.int .i64 0, .int .i64 0, .float .f32 0, .float .f32 0][j % 4]!) = _
    generalize j % 4 = q at *
    match q, hm with
    | 0, _ => rfl
    | 1, _ => rfl
    | 2, _ => rfl
    | 3, _ => rfl
  · have h2 : (kcells (List.replicate n zKc))[j]? = none := List.getElem?_eq_none (by rw [hl]; omega)
    rw [h2]
    exact List.getElem?_eq_none (by rw [Array.length_toList, size_madeCells]; omega)
theorem krow_own {w : World} {base e b n cap : Nat} {ts : List Kc} (h : w.ownsRow base e 4 (.slice (some ⟨b, 0, none⟩) n cap) n (kcells ts)) (hl : ts.length = n) : KRow w (some ⟨b, 0, none⟩) n ts := by
  refine ⟨hl, fun _ => ⟨_, rfl⟩, fun a ha i hi => ?_⟩
  obtain rfl := Option.some.inj ha
  have key : ∀ j v, j < 4 → (ts.getD i default).cells[j]? = some v → w.cell? ((⟨b, 0, none⟩ : Addr).add (i * 4 + j)) = some v := by
    intro j v hj hv
    rw [show (⟨b, 0, none⟩ : Addr).add (i * 4 + j) = ⟨b, i * 4 + j, none⟩ by unfold Addr.add; split <;> simp_all]
    rw [h.cellAt (i * 4 + j) (by omega), kcells_at ts i j (by omega) hj]; exact hv
  exact ⟨key 0 _ (by decide) rfl, key 1 _ (by decide) rfl, key 2 _ (by decide) rfl, key 3 _ (by decide) rfl⟩
def stored4 (w : World) (g k : Nat) (x : Kc) : World := (((w.setCell ⟨g, k * 4, none⟩ (.int .i64 x.a)).setCell ⟨g, k * 4 + 1, none⟩ (.int .i64 x.b)).setCell ⟨g, k * 4 + 2, none⟩ (.float .f32 x.s)).setCell ⟨g, k * 4 + 3, none⟩ (.float .f32 x.q)
theorem stored4_own {w : World} {base e g n c : Nat} {ts : List Kc} {k : Nat} (h : w.ownsRow base e 4 (.slice (some ⟨g, 0, none⟩) n c) n (kcells ts)) (hk : k < ts.length) (x : Kc) : (stored4 w g k x).ownsRow base e 4 (.slice (some ⟨g, 0, none⟩) n c) n (kcells (ts.set k x)) := by
  rw [← kcells_set ts k x hk]
  exact ((((h.stored _ _).1.stored _ _).1.stored _ _).1.stored _ _).1
theorem set_kc (ts : List Kc) (n k : Nat) (hl : ts.length = n) (hk : k < n) : (ts.take k ++ List.replicate (n - k) zKc).set k (ts.getD k default) = ts.take (k + 1) ++ List.replicate (n - (k + 1)) zKc := by
  rw [List.set_append_right _ _ (by rw [List.length_take]; omega), List.length_take, show min k ts.length = k by omega, Nat.sub_self, show n - k = (n - (k + 1)) + 1 by omega, List.replicate_succ, List.set_cons_zero, List.take_succ_eq_append_getElem (by omega), List.append_assoc]
  simp [List.getD, List.getElem?_eq_getElem (show k < ts.length by omega)]
theorem addr_add (a : Addr) (j : Nat) (h : j ≠ 0) : a.add j = ⟨a.block, a.off + j, none⟩ := by unfold Addr.add; rw [if_neg h]
set_option maxHeartbeats 1600000 in
theorem toBondS_any (ao : Option Addr) (n c : Nat) (ts : List Kc) (w : World) (ha : KRow w ao n ts) (hm : n ≤ 1048576) :
    Calls Try.prog 30 #[.slice ao n c] w fun e w' => e = .returned (.slice (some ⟨w.heap.size, 0, none⟩) n n) ∧ KRow w' (some ⟨w.heap.size, 0, none⟩) n ts ∧ Below w.heap.size w w' ∧ w.heap.size < w'.heap.size := by
  obtain ⟨i0, hi, hz0, hz1, hz2⟩ := info_parts bondInfo
  have HA := Lib.hid ha
  have HN := Lib.hid ha.len
  clear ha
  go_enter Try.func30, Try.ntmps30
  go_wp2_with (at_make; go_loud (refine wpList_make_full _ rfl _ _ 65 rfl w.heap.size 110 i0 (.agg #[.int .i64 0, .int .i64 0, .float .f32 0, .float .f32 0]) 4 Try.underlying65 hi hz0 hz1 .i64 .i64 _ _ n rfl rfl rfl rfl (by rw [hz2]; omega) (by unfold maxLen; omega) (Nat.le_refl _) ?_); intro w1 hown hgrow)
  have HB1 := Lib.hid (((Below.refl w.heap.size w).grown hgrow (Nat.le_refl _) (by simp) : Below w.heap.size w w1))
  have hsz1 : w.heap.size < w1.heap.size := by
    rcases hown.2 with ⟨h', _⟩ | ⟨g', cap', cur, h', _, hg, _⟩
    · simp at h'
    · simp only [Value.slice.injEq, Option.some.injEq, Addr.mk.injEq, and_true, true_and] at h'
      obtain ⟨rfl, rfl⟩ := h'
      exact (Array.getElem?_eq_some_iff.1 hg).1
  rw [made_kc] at hown
  have HO1 := Lib.hid hown
  clear hown hgrow
  go_loopw [4] (fun i wr => ∃ (W : World) (k : Nat), W = wr ∧ k ≤ n ∧ i = .int .i64 k ∧ wr.ownsRow w.heap.size 110 4 (.slice (some ⟨w.heap.size, 0, none⟩) n n) n (kcells (ts.take k ++ List.replicate (n - k) zKc)) ∧ Below w.heap.size w wr ∧ w1.heap.size ≤ wr.heap.size) (fun i _ => n - (intOf i).toNat)
  case atStart => exact ⟨_, 0, rfl, Nat.zero_le _, rfl, HO1.out, HB1.out, Nat.le_refl _⟩
  case round =>
    clear HO1 HB1
    obtain ⟨W, k, rfl, hk, rfl, hown, hb, hszk⟩ := hrel
    by_cases hlt : k < n
    · obtain ⟨a, rfl⟩ := HA.out.addr (by omega)
      obtain ⟨c0, c1, c2, c3⟩ := (HA.out.below hb (Nat.le_refl _)).cell a rfl k hlt
      have hs := Lib.hid (set_kc ts n k HN.out hlt)
      generalize ts.getD k default = t at c0 c1 c2 c3 hs
      have HC := Lib.hid fun w => toBond_any t w
      have HO := Lib.hid hown
      have HB := Lib.hid hb
      clear hown hb
      have d1 : W.cell? ⟨(a.add (k * 4)).block, (a.add (k * 4)).off + 1, none⟩ = some (.int .i64 t.b) := by
        rw [← addr_add _ 1 (by decide), Go.Deep.add_add]; exact c1
      have d2 : W.cell? ⟨(a.add (k * 4)).block, (a.add (k * 4)).off + 2, none⟩ = some (.float .f32 t.s) := by
        rw [← addr_add _ 2 (by decide), Go.Deep.add_add]; exact c2
      have d3 : W.cell? ⟨(a.add (k * 4)).block, (a.add (k * 4)).off + 3, none⟩ = some (.float .f32 t.q) := by
        rw [← addr_add _ 3 (by decide), Go.Deep.add_add]; exact c3
      go_wp2_with fail
      refine (HC.out _).mono ?_
      rintro e w2 ⟨rfl, hb2⟩
      have HO2 := Lib.hid (own_below HO.out hb2 (Nat.le_refl _))
      have HB2 := Lib.hid (below_next HB.out hb2)
      have hsz2 : w1.heap.size ≤ w2.heap.size := Nat.le_trans hszk hb2.size
      have hgl : (ts.take k ++ List.replicate (n - k) zKc).length = n := by rw [List.length_append, List.length_take, List.length_replicate, HN.out]; omega
      obtain ⟨e0, e1, e2, e3⟩ := (krow_own HO2.out hgl).cell _ rfl k hlt
      rw [Addr.add_mid, Nat.zero_add] at e0 e1 e2 e3
      generalize (ts.take k ++ List.replicate (n - k) zKc).getD k default = old at e0 e1 e2 e3
      have f0 := HO2.out.frozenAt (k * 4)
      have f1 := HO2.out.frozenAt (k * 4 + 1)
      have f2 := HO2.out.frozenAt (k * 4 + 2)
      have f3 := HO2.out.frozenAt (k * 4 + 3)
      have hsf := run_store_fl Try.prog
      have HGl := Lib.hid hgl
      clear hb2 hgl c0 c1 c2 c3 d1 d2 d3
      go_wp2
      go_roundw
      case rel =>
        have h3 := stored4_own HO2.out (k := k) (by rw [HGl.out]; exact hlt) t
        rw [hs.out] at h3
        have hle := Nat.le_refl w.heap.size
        exact ⟨_, k + 1, rfl, by omega, by go_num, h3, (((HB2.out.setCell hle _).setCell hle _).setCell hle _).setCell hle _, by simpa using hsz2⟩
      case measure => simp [intOf]; omega
    · obtain rfl : k = n := by omega
      have HO := Lib.hid hown
      have HB := Lib.hid hb
      clear hown hb
      go_wp2
      go_ret
      have h3 := HO.out
      rw [Nat.sub_self, List.replicate_zero, List.append_nil, List.take_of_length_le (by rw [HN.out]; omega)] at h3
      exact ⟨rfl, krow_own h3 HN.out, HB.out, by omega⟩
end Go.Proofs.Ytkgijboahjiodaa
