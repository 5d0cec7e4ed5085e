/- Eight digits read: the program's side. -/
import Derived.Test.YtjcjijfemedojaaGreatDoorRnf
import Derived.Test.YtjcjijfemedojaaGreatDoorShelperr
namespace Go.Proofs.YtjcjijfemedojaaGreatDoor
open Go.RowKit Fl

theorem gErrS : Tryz.prog.globalNamed "strconv.ErrSyntax" = some 3 := by kernel_rfl
theorem gErrR : Tryz.prog.globalNamed "strconv.ErrRange" = some 4 := by kernel_rfl
theorem errs_cells {w : World} (he : Errs w) : ∃ e1 e2, w.cell? ⟨3, 0, none⟩ = some e1 ∧ (e1 = .nilIface ∨ ∃ te pe, e1 = .iface te pe) ∧ w.cell? ⟨4, 0, none⟩ = some e2 ∧ (e2 = .nilIface ∨ ∃ te pe, e2 = .iface te pe) := by
  obtain ⟨t1, p1, t2, p2, h1, h2⟩ := he
  refine ⟨_, _, ?_, Or.inr ⟨t1, p1, rfl⟩, ?_, Or.inr ⟨t2, p2, rfl⟩⟩
  · simpa using World.var?_cell gErrS h1 0
  · simpa using World.var?_cell gErrR h2 0
set_option maxRecDepth 100000 in
set_option maxHeartbeats 800000 in
theorem parseUint_none (w : World) :
    Calls Tryz.prog 85 #[.string ⟨#[]⟩, .int .i64 16, .int .i64 32] w fun e w' => e = puEnd .bad ∧ Below w.heap.size w w' := by
  go_enter Tryz.func85, Tryz.ntmps85
  go_wp2
  go_ret2
  exact ⟨rfl, Below.refl _ _⟩
/-- what the inner reading gives -/
def puT (l : List UInt8) : Pu := if l = [] then .bad else pu 0 l
theorem parseUint_all (t : ByteArray) (w : World) (hs : t.size ≤ 1048576) :
    Calls Tryz.prog 85 #[.string t, .int .i64 16, .int .i64 32] w fun e w' => e = puEnd (puT t.data.toList) ∧ Below w.heap.size w w' := by
  by_cases h : t.data.toList = []
  · have e : t = ⟨#[]⟩ := by
      cases t with
      | mk d => congr 1; exact Array.toList_eq_nil_iff.1 h
    rw [puT, if_pos h, e]
    exact parseUint_none w
  · rw [puT, if_neg h]
    exact parseUint_in t w hs (by
      rcases Nat.eq_zero_or_pos t.size with h0 | h0
      · exact absurd (List.eq_nil_of_length_eq_zero (by simpa using h0)) h
      · exact h0)
set_option maxRecDepth 100000 in
set_option maxHeartbeats 800000 in
theorem parse16_ok (t : ByteArray) (w : World) (n : Nat) (hs : t.size ≤ 1048576) (h : puT t.data.toList = .ok n) :
    Calls Tryz.prog 75 #[.string t, .int .i64 16, .int .i64 32] w fun e w' => e = .returned (.tuple #[.int .u64 n, .nilIface]) ∧ Below w.heap.size w w' := by
  have HC := parseUint_all t w hs
  rw [h] at HC
  have H := Lib.hid HC
  unfold puEnd at H
  clear HC h
  go_enter Tryz.func75, Tryz.ntmps75
  go_wp2_with (go_at_call 85; (with_reducible refine H.out.mono ?_); rintro e w1 ⟨rfl, hb⟩)
  go_ret2
  exact ⟨rfl, hb⟩
set_option maxRecDepth 100000 in
set_option maxHeartbeats 1600000 in
theorem parse16_bad (t : ByteArray) (w : World) (hs : t.size ≤ 1048576) (h : ∀ n, puT t.data.toList ≠ .ok n) (he : ∀ w', Below w.heap.size w w' → Errs w') :
    Calls Tryz.prog 75 #[.string t, .int .i64 16, .int .i64 32] w fun e w' => (∃ v p, e = .returned (.tuple #[.int .u64 v, .iface 130 p])) ∧ Below w.heap.size w w' := by
  have HC := parseUint_all t w hs
  have HE := Lib.hid fun w' h => errs_cells (he w' h)
  clear he
  rcases hp : puT t.data.toList with n | _ | _
  · exact absurd hp (h n)
  · rw [hp] at HC
    have H := Lib.hid HC
    unfold puEnd at H
    have HT := Lib.hid fun fn ev w h1 h2 => Tryz.strconv_toError_syntax fn t 16 32 ev w (by omega) h1 h2
    clear HC hp h
    go_enter Tryz.func75, Tryz.ntmps75
    go_wp2_with (first | (go_at_call 85; (with_reducible refine H.out.mono ?_); rintro e w1 ⟨rfl, hb⟩; have K1 := Lib.hid hb; obtain ⟨e1, e2, c1, i1, c2, i2⟩ := HE.out _ hb; have C1 := Lib.hid c1; have I1 := Lib.hid i1; clear hb c1 i1 c2 i2) | (go_at_call 86; (with_reducible refine (HT.out _ _ _ C1.out I1.out).mono ?_); rintro e w2 ⟨N, rfl, _, _, hb2⟩; have K2 := Lib.hid (below_next K1.out hb2); clear hb2))
    go_ret2
    exact ⟨⟨_, _, rfl⟩, K2.out⟩
  · rw [hp] at HC
    have H := Lib.hid HC
    unfold puEnd at H
    have HT := Lib.hid fun fn ev w h1 h2 => Tryz.strconv_toError_range fn t 16 32 ev w (by omega) h1 h2
    clear HC hp h
    go_enter Tryz.func75, Tryz.ntmps75
    go_wp2_with (first | (go_at_call 85; (with_reducible refine H.out.mono ?_); rintro e w1 ⟨rfl, hb⟩; have K1 := Lib.hid hb; obtain ⟨e1, e2, c1, i1, c2, i2⟩ := HE.out _ hb; have C2 := Lib.hid c2; have I2 := Lib.hid i2; clear hb c1 i1 c2 i2) | (go_at_call 86; (with_reducible refine (HT.out _ _ _ C2.out I2.out).mono ?_); rintro e w2 ⟨N, rfl, _, _, hb2⟩; have K2 := Lib.hid (below_next K1.out hb2); clear hb2))
    go_ret2
    exact ⟨⟨_, _, rfl⟩, K2.out⟩
end Go.Proofs.YtjcjijfemedojaaGreatDoor
