/- Lists of bonds: the law's comparison of a list with itself; a list that came in, opened. -/
import Derived.Test.YtkgijboahjiodaaJkx
import Derived.Test.YtkgijboahjiodaaOpr
import Derived.Deep.Slices
import Derived.Deep.Fields
import Derived.ChangeSame
namespace Go.Proofs.Ytkgijboahjiodaa
open Go.RowKit Fl

theorem szBondS_int (ao : Option Addr) (n c : Nat) (k : Int) (w : World) (hn : n ≤ 9223372036854775807) (hk : 0 ≤ k) (hk' : k ≤ 1048576) :
    Calls Try.prog 28 #[.slice ao n c, .int .i64 k] w fun e w' => e = .returned (.int .i64 (if (n : Int) ≤ k then k - n else -1)) ∧ w = w' := by
  have h := szBondS_any ao n c k.toNat w hn (by omega)
  rw [show ((k.toNat : Nat) : Int) = k by omega] at h
  refine h.mono ?_
  rintro e w' ⟨rfl, rfl⟩
  refine ⟨?_, rfl⟩
  by_cases hc : n ≤ k.toNat
  · rw [if_pos hc, if_pos (by omega)]
  · rw [if_neg hc, if_neg (by omega)]
set_option maxHeartbeats 1600000 in
theorem eqBondS_self (ao bo : Option Addr) (n c c' : Nat) (ts : List Kc) (w : World) (ha : KRow w ao n ts) (hb : KRow w bo n ts) (hm : n ≤ 1048576) :
    Calls Try.prog 32 #[.slice ao n c, .slice bo n c'] w fun e w' => e = .returned (.bool true) ∧ Below w.heap.size w w' := by
  have HA := Lib.hid ha
  have HB := Lib.hid hb
  have hc : ((n : Int) != (n : Int)) = false := by simp
  clear ha hb
  go_enter Try.func32, Try.ntmps32
  go_wp2
  go_loopw [5] (fun i wr => ∃ (W : World) (k : Nat), W = wr ∧ k ≤ n ∧ i = .int .i64 k ∧ Below w.heap.size w wr) (fun i _ => n - (intOf i).toNat)
  case atStart => exact ⟨_, 0, rfl, Nat.zero_le _, rfl, Below.refl _ _⟩
  case round =>
    obtain ⟨W, k, rfl, hk, rfl, hb⟩ := hrel
    by_cases hlt : k < n
    · obtain ⟨a, rfl⟩ := HA.out.addr (by omega)
      obtain ⟨a', rfl⟩ := HB.out.addr (by omega)
      obtain ⟨c0, c1, c2, c3⟩ := (HA.out.below hb (Nat.le_refl _)).at_ a rfl k hlt
      obtain ⟨d0, d1, d2, d3⟩ := (HB.out.below hb (Nat.le_refl _)).at_ a' rfl k hlt
      generalize ts.getD k default = t at c0 c1 c2 c3 d0 d1 d2 d3
      have HC := Lib.hid fun w => eqBond_self t w
      have HBl := Lib.hid hb
      clear hb
      go_wp2
      go_region_with (go_at_call 71; ((with_reducible refine (HC.out _).mono ?_); rintro e w1 ⟨rfl, hb1⟩))
      all_goals
        go_wp2
        go_roundw
        case rel => exact ⟨_, k + 1, rfl, by omega, by go_num, Below.trans (below_drewN HBl.out _) (hb1.mono HBl.out.size)⟩
        case measure => simp [intOf]; omega
    · obtain rfl : k = n := by omega
      have HBl := Lib.hid hb
      clear hb
      go_wp2
      go_ret
      exact ⟨rfl, HBl.out⟩
section
open Go.ChangeShapes Go.WideShapes Go.Deep
variable {H : Type} {enc : TypeId × Value → H} {P : Program} {w : World} {base : Nat} {spare : Nat → Bool} {held : Bool}
/-- A list of structs of one-cell fields, opened cell by cell. -/
theorem open_structs {t e : TypeId} {fs : Array Field} {fuel : Nat} {cs : List Value} {x : DataW H × List MemPlace} (ht : P.underlying t = some (.slice e)) (he : P.underlying e = some (.struct fs))
    (hone : oneCellFields P fs = true) (hC : P.cellsOf e = fs.size) (h : DataW.trod enc P w base spare held fuel t cs = some x) :
    cs = [.slice none 0 0] ∨ ∃ (a : Addr) (len cap m : Nat), cs = [.slice (some a) len cap] ∧ len ≤ cap ∧ cap ≤ maxLen ∧ m = (if spare a.block then cap else len) ∧
      ∀ i, i < m → ∀ (j : Nat) (f : Field), fs[j]? = some f → ∃ (v : Value) (y : DataW H × List MemPlace) (n : Nat), w.cell? (a.add (i * fs.size + j)) = some v ∧ DataW.trod enc P w base spare held n f.type [v] = some y := by
  rcases open_slice ht h with h0 | ⟨a, len, cap, m, n, D, Pl, hcs, _, hl, hm, hmm, _, hi⟩
  · exact .inl h0.1
  · refine .inr ⟨a, len, cap, m, hcs, hl, hm, hmm, fun i him j f hj => ?_⟩
    obtain ⟨cs', hc, ht'⟩ := hi i him
    rw [hC] at hc
    obtain ⟨ys, n', _, _, hlen, hyl, hf⟩ := DataW.trod_struct he ht'
    obtain ⟨_, hcl, hat⟩ := World.cells?_some hc
    obtain ⟨ho, hk⟩ := hone_of hone j f hj
    have hjl : j < fs.size := (Array.getElem?_eq_some_iff.1 hj).1
    have hcell := hat j hjl
    have hv : cs'[j]? = some (cs'[j]'(by omega)) := List.getElem?_eq_getElem (by omega)
    have h1 := hf j f hj
    rw [ho, hk] at h1
    have hone' : (cs'.drop j).take 1 = [cs'[j]'(by omega)] := by
      rw [List.drop_eq_getElem_cons (by omega)]
      rfl
    rw [hone'] at h1
    have hys : ys[j]? = some (ys[j]'(by omega)) := List.getElem?_eq_getElem (by omega)
    exact ⟨_, _, n', by rw [← Go.Deep.add_add, hcell, hv], h1.trans hys⟩
end
section
open Go.ChangeShapes Go.WideShapes Go.Deep
theorem trod_i64 {H : Type} {enc : TypeId × Value → H} {P : Program} {w : World} {base : Nat} {spare : Nat → Bool} {held : Bool} {t : TypeId} {fuel : Nat} {v : Value} {x : DataW H × List MemPlace}
    (ht : P.underlying t = some (.int .i64)) (h : DataW.trod enc P w base spare held fuel t [v] = some x) : ∃ b : Int, v = .int .i64 b := by
  cases fuel with
  | zero => simp [DataW.trod] at h
  | succ n =>
    unfold DataW.trod at h
    rw [ht] at h
    split at h <;> simp_all
set_option maxRecDepth 100000 in
theorem open_bonds {H : Type} {enc : TypeId × Value → H} {W : World} {ao : Option Addr} {n c : Nat} {d : DataW H} {ps : List MemPlace}
    (h : DataW.Trod enc Try.prog W 0 (fun _ => true) true 62 (.slice ao n c) d ps) :
    ∃ ts : List Kc, KRow W ao n ts ∧ (∀ t ∈ ts, t.s < 4294967296 ∧ t.q < 4294967296) ∧ n ≤ 9223372036854775807 := by
  obtain ⟨fuel, hf⟩ := h
  rcases open_structs Try.underlying62 Try.underlying112 (by kernel_rfl) (by kernel_rfl) hf with hcs | ⟨a, len, cap, m, hcs, hl, hcm, hm, hx⟩
  · simp [Value.cells] at hcs
    obtain ⟨rfl, rfl, rfl⟩ := hcs
    exact ⟨[], ⟨rfl, fun h => by omega, fun a ha => by cases ha⟩, by simp, by omega⟩
  · simp [Value.cells] at hcs
    obtain ⟨rfl, rfl, rfl⟩ := hcs
    have hnm : n ≤ m := by rw [hm]; simp; exact hl
    obtain ⟨g, hg⟩ := choose_lt (n := n) (p := fun i (t : Kc) => (W.cell? (a.add (i * 4)) = some (.int .i64 t.a) ∧ W.cell? (a.add (i * 4 + 1)) = some (.int .i64 t.b) ∧ W.cell? (a.add (i * 4 + 2)) = some (.float .f32 t.s) ∧ W.cell? (a.add (i * 4 + 3)) = some (.float .f32 t.q)) ∧ t.s < 4294967296 ∧ t.q < 4294967296) (fun i hi => by
      obtain ⟨v0, y0, m0, k0, t0⟩ := hx i (by omega) 0 _ rfl
      obtain ⟨v1, y1, m1, k1, t1⟩ := hx i (by omega) 1 _ rfl
      obtain ⟨v2, y2, m2, k2, t2⟩ := hx i (by omega) 2 _ rfl
      obtain ⟨v3, y3, m3, k3, t3⟩ := hx i (by omega) 3 _ rfl
      obtain ⟨x0, rfl⟩ := trod_i64 Try.underlying2 t0
      obtain ⟨x1, rfl⟩ := trod_i64 Try.underlying2 t1
      obtain ⟨x2, rfl, hs⟩ := trod_f32 Try.underlying29 t2
      obtain ⟨x3, rfl, hs3⟩ := trod_f32 Try.underlying29 t3
      exact ⟨⟨x0, x1, x2, x3⟩, ⟨k0, k1, k2, k3⟩, hs, hs3⟩)
    refine ⟨(List.range n).map g, ⟨by simp, fun _ => ⟨a, rfl⟩, fun a' ha' i hi => ?_⟩, ?_, ?_⟩
    · obtain rfl := Option.some.inj ha'
      have e : ((List.range n).map g).getD i default = g i := by simp [List.getD, hi]
      rw [e]
      exact (hg i hi).1
    · intro x hx'
      simp only [List.mem_map, List.mem_range] at hx'
      obtain ⟨i, hi, rfl⟩ := hx'
      exact (hg i hi).2
    · unfold maxLen at hcm; omega
end
end Go.Proofs.Ytkgijboahjiodaa
