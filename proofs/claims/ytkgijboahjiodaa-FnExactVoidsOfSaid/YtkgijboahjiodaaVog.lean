/- The voids of a view: one answer, both sides; lists of marks. -/
import Derived.Test.YtkgijboahjiodaaVof
import Derived.Test.YtkgijboahjiodaaIm
namespace Go.Proofs.Ytkgijboahjiodaa
open Go.RowKit Fl

/-- the answer for a valid view: marks and their number -/
def Vans (W H : Int) (n : Nat) (zs : List Nat) (lv : Nat) (r : Bool) (ms : List Int) (m : Nat) : Prop :=
  if r then ∃ p, VoS n (voidIn zs lv) (voidNb W.toNat H.toNat) n p m ∧ ms = (List.range n).map p else m = 0 ∧ ms = []
theorem Vans.uniq {W H : Int} {n : Nat} {zs : List Nat} {lv : Nat} {r : Bool} {ms ms' : List Int} {m m' : Nat} (h : Vans W H n zs lv r ms m) (h' : Vans W H n zs lv r ms' m') : ms = ms' ∧ m = m' := by
  unfold Vans at h h'
  cases r
  · simp at h h'
    exact ⟨h.2.trans h'.2.symm, h.1.trans h'.1.symm⟩
  · simp at h h'
    obtain ⟨p, h1, rfl⟩ := h
    obtain ⟨p', h1', rfl⟩ := h'
    obtain ⟨rfl, rfl⟩ := h1.uniq h1'
    exact ⟨rfl, rfl⟩
theorem vm_ms (p : Nat → Int) (n : Nat) : vm p n = ((List.range n).map p).map (Value.int .i64) := by simp [vm, List.map_map]
/-- what both sides give -/
def GaveV (w : World) (W H : Int) (n : Nat) (zs : List Nat) (lv : Nat) (r : Bool) (e : Ending) (w' : World) : Prop :=
  Below w.heap.size w w' ∧ ∃ ao c ms m, e = .returned (.tuple #[.slice ao ms.length c, .int .i64 (m : Nat), .bool r]) ∧ ms.length ≤ 256 ∧ Vans W H n zs lv r ms m ∧ w'.ownsRow w.heap.size 2 1 (.slice ao ms.length c) ms.length (ms.map (Value.int .i64))
theorem gave_of {w w' : World} {W H : Int} {n : Nat} {zs : List Nat} {lv : Nat} {e : Ending} (hz : zs.length = n)
    (h : Below w.heap.size w w' ∧ (if okView W H zs then ∃ v p m, e = .returned (.tuple #[v, .int .i64 (m : Nat), .bool true]) ∧ VoS n (voidIn zs lv) (voidNb W.toNat H.toNat) n p m ∧ w'.ownsRow w.heap.size 2 1 v n (vm p n) else e = .returned (.tuple #[.slice none 0 0, .int .i64 0, .bool false]))) : GaveV w W H n zs lv (okView W H zs) e w' := by
  refine ⟨h.1, ?_⟩
  have h2 := h.2
  cases hok : okView W H zs
  · rw [hok] at h2
    simp at h2
    exact ⟨none, 0, [], 0, h2, by simp, by simp [Vans], World.ownsRow_nil _ _ _ _⟩
  · have hl := okView_len hok
    rw [hok] at h2
    simp at h2
    obtain ⟨v, p, m, rfl, hS, ho⟩ := h2
    obtain ⟨ao, c, rfl⟩ := row_form ho
    have hlm : ((List.range n).map p).length = n := by simp
    refine ⟨ao, c, (List.range n).map p, m, by rw [hlm], by rw [hlm]; omega, by unfold Vans; exact ⟨p, hS, rfl⟩, ?_⟩
    rw [hlm, ← vm_ms]; exact ho
theorem IRow.but {w w' : World} {ao : Option Addr} {n R : Nat} {zs : List Int} (h : IRow w ao n zs) (hb : But R w w') (hB : ∀ a, ao = some a → a.block ≠ R) : IRow w' ao n zs :=
  ⟨h.len, h.addr, fun a ha i hi => by
    have hc := h.cell a ha i hi
    have h1 := World.block_lt_of_cell? w _ hc
    have h2 : (a.add i).block ≠ R := by rw [add_block]; exact hB a ha
    rw [World.cell?_of_block (w := w) (hb.block _ h1 (fun e => h2 (by injection e)))]; exact hc⟩
theorem IRow.quiet_ {w : World} {ao : Option Addr} {n : Nat} {zs : List Int} (h : IRow w ao n zs) (m : Nat) : IRow (w.drewN m) ao n zs := h.quiet ⟨m, rfl⟩
end Go.Proofs.Ytkgijboahjiodaa
