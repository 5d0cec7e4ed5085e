/- Is an integer among some indices? -/
import Derived.Test.YtlflmofclflgbaaHr
namespace Go.Proofs.Ytlflmofclflgbaa
open Go.RowKit Fl

/-- a slice of integers that reads as zs -/
def NRow (w : World) (ao : Option Addr) (n : Nat) (zs : List Nat) : Prop := zs.length = n ∧ (0 < n → ∃ b, ao = some ⟨b, 0, none⟩ ∧ ∀ k, k < n → w.cell? ⟨b, k, none⟩ = some (.int .i64 ((zs.getD k 0 : Nat) : Int)))
theorem NRow.below {w w' : World} {ao : Option Addr} {n : Nat} {zs : List Nat} (h : NRow w ao n zs) {B : Nat} (hb : Below B w w') (hB : w.heap.size ≤ B) : NRow w' ao n zs :=
  ⟨h.1, fun hn => by
    obtain ⟨b, hb1, hb2⟩ := h.2 hn
    exact ⟨b, hb1, fun k hk => by
      have hc := hb2 k hk
      rw [hb.cell (p := ⟨b, k, none⟩) (Nat.lt_of_lt_of_le (World.block_lt_of_cell? w _ hc) hB)]; exact hc⟩⟩
theorem NRow.next {w w' : World} {ao : Option Addr} {n : Nat} {zs : List Nat} (h : NRow w ao n zs) (hb : Below w.heap.size w w') : NRow w' ao n zs := h.below hb (Nat.le_refl _)
theorem NRow.quiet {w w' : World} {ao : Option Addr} {n : Nat} {zs : List Nat} (h : NRow w ao n zs) (hq : Quiet w w') : NRow w' ao n zs := by obtain ⟨m, rfl⟩ := hq; exact h
theorem own_form' {w : World} {base e size n : Nat} {v : Value} {xs : List Value} (h : w.ownsRow base e size v n xs) (hn : 0 < n) : ∃ b cap, v = .slice (some ⟨b, 0, none⟩) n cap ∧ base ≤ b ∧ b < w.heap.size := by
  rcases h.2 with ⟨_, h0⟩ | ⟨g, cap, cur, hv, hb, hg, _⟩
  · omega
  · exact ⟨g, cap, hv, hb, (Array.getElem?_eq_some_iff.1 hg).1⟩
theorem NRow.of_own {w : World} {base n c : Nat} {ao : Option Addr} {zs : List Nat} (h : w.ownsRow base 2 1 (.slice ao n c) n (ints zs)) (hl : zs.length = n) : NRow w ao n zs := by
  refine ⟨hl, fun hn => ?_⟩
  obtain ⟨b, cap, hv, _, _⟩ := own_form' h hn
  have : ao = some ⟨b, 0, none⟩ ∧ c = cap := by simpa using hv
  obtain ⟨rfl, rfl⟩ := this
  refine ⟨b, rfl, fun k hk => ?_⟩
  rw [h.cellAt k (by omega)]
  simp [ints, List.getD, List.getElem?_eq_getElem (show k < zs.length by omega)]
theorem contains_take (zs : List Nat) (x k : Nat) (h : k < zs.length) : (zs.take (k + 1)).contains x = ((zs.take k).contains x || x == zs.getD k 0) := by
  rw [List.take_succ_eq_append_getElem h, List.contains_append]
  simp [List.getD, List.getElem?_eq_getElem h]
  rfl
/-- an index of at least 0 if there is one, else -1 -/
def IdxAns (c : Bool) (w : World) (e : Ending) (w' : World) : Prop := ∃ r : Int, (-1 ≤ r ∧ r < 1000) ∧ (decide (0 ≤ r)) = c ∧ e = .returned (.int .i64 r) ∧ Quiet w w'
set_option maxHeartbeats 1600000 in
theorem index_of (ao : Option Addr) (n c x : Nat) (zs : List Nat) (w : World) (h : NRow w ao n zs) (hn : n ≤ 100) :
    Calls Try.prog 202 #[.slice ao n c, .int .i64 (x : Int)] w (IdxAns (zs.contains x) w) := by
  have HR := Lib.hid h
  obtain ⟨cc, hcc⟩ : ∃ cc, zs.contains x = cc := ⟨_, rfl⟩
  rw [hcc]
  have HCC := Lib.hid hcc
  clear h hcc
  go_enter Try.func202, Try.ntmps202
  go_wp2
  go_loopw [8] (fun i wr => ∃ k : Nat, k ≤ n ∧ i = .int .i64 k ∧ Hid ((zs.take k).contains x = false) ∧ Quiet w wr) (fun i _ => n - (intOf i).toNat)
  case atStart => exact ⟨0, Nat.zero_le _, rfl, rfl, Quiet.refl _⟩
  case round =>
    obtain ⟨k, hk, rfl, hv, m, rfl⟩ := hrel
    by_cases hlt : k < n
    · obtain ⟨b, rfl, hc⟩ := HR.out.2 (by omega)
      have hx := hc k hlt
      have HT := Lib.hid (contains_take zs x k (by rw [HR.out.1]; exact hlt))
      have HZ : Hid (zs.contains x = (zs.take n).contains x) := by show _ = _; rw [List.take_of_length_le (by rw [HR.out.1]; exact Nat.le_refl _)]
      have HM : Hid (x = zs.getD k 0 → zs.contains x = true) := by
        intro he
        rw [List.contains_iff_mem, he, List.getD_eq_getElem?_getD, List.getElem?_eq_getElem (by rw [HR.out.1]; exact hlt)]
        exact List.getElem_mem _
      generalize zs.getD k 0 = z at hx HT HM
      clear hc
      by_cases he : x = z
      · subst he
        have HC := Lib.hid (HM.out rfl)
        go_wp2
        go_ret
        exact ⟨k, by omega, by rw [← HCC.out, HC.out]; simp, rfl, _, rfl⟩
      · have hne : ((x : Int) == (z : Int)) = false := by simp; omega
        have HC := Lib.hid (show (zs.take (k + 1)).contains x = false by rw [HT.out, hv.out]; simp; exact he)
        go_wp2
        go_roundw
        case rel => exact ⟨k + 1, by omega, by go_num, HC.out, _, rfl⟩
        case measure => simp [intOf]; omega
    · have HC := Lib.hid (show zs.contains x = false by have := hv.out; rwa [List.take_of_length_le (by rw [HR.out.1]; omega)] at this)
      go_wp2
      go_ret
      exact ⟨-1, by omega, by rw [← HCC.out, HC.out]; rfl, rfl, _, rfl⟩
theorem contains_of (ao : Option Addr) (n c x : Nat) (zs : List Nat) (w : World) (h : NRow w ao n zs) (hn : n ≤ 100) (cc : Bool) (hcc : zs.contains x = cc) :
    Calls Try.prog 161 #[.slice ao n c, .int .i64 (x : Int)] w fun e w' => e = .returned (.bool cc) ∧ Quiet w w' := by
  have HI := Lib.hid (index_of ao n c x zs w h hn)
  rw [hcc] at HI
  clear h hcc
  go_enter Try.func161, Try.ntmps161
  go_wp2_with fail
  refine HI.out.mono ?_
  rintro e w1 ⟨r, hr, hb, rfl, m, rfl⟩
  have HB := Lib.hid hb
  clear hb
  go_wp2
  go_ret
  exact ⟨by show Ending.returned (.bool (decide (0 ≤ r))) = _; rw [HB.out], _, rfl⟩
end Go.Proofs.Ytlflmofclflgbaa
