/- Journals recovered: both sides, any text. -/
import Derived.Test.YtokllkngikcoiaaDoorRm
import Derived.Test.YtokllkngikcoiaaDoorMkS
namespace Go.Proofs.YtokllkngikcoiaaDoor
open Go.RowKit

def rjOk (l : List UInt8) : Bool := decide (l.length ≤ 16000)
def rjL (l : List UInt8) : List (List UInt8) := if l.length ≤ 16000 then rcv 0 (lns l) else []
def rjQ (l : List UInt8) : Nat := if l.length ≤ 16000 then rln 0 (lns l) else 0
theorem rj_yes {l : List UInt8} (h : l.length ≤ 16000) : rjOk l = true ∧ rjL l = rcv 0 (lns l) ∧ rjQ l = rln 0 (lns l) := by
  unfold rjOk rjL rjQ; rw [if_pos h, if_pos h]; exact ⟨decide_eq_true h, rfl, rfl⟩
theorem rj_no {l : List UInt8} (h : ¬ l.length ≤ 16000) : rjOk l = false ∧ rjL l = [] ∧ rjQ l = 0 := by
  unfold rjOk rjL rjQ; rw [if_neg h, if_neg h]; exact ⟨decide_eq_false h, rfl, rfl⟩
theorem rjL_len (l : List UInt8) : (rjL l).length ≤ 16000 := by
  unfold rjL
  split
  · have h1 := rcv_len 0 (lns l)
    have h2 := lns_len l
    omega
  · simp
def ofL (L : List (List UInt8)) : List ByteArray := L.map fun l => ⟨l.toArray⟩
theorem ofL_bts (P : List ByteArray) : ofL (bts P) = P := by
  unfold ofL bts
  rw [List.map_map]
  conv => rhs; rw [← List.map_id P]
  rfl
theorem ofL_len (L : List (List UInt8)) : (ofL L).length = L.length := by simp [ofL]
/-- what both sides give, opened -/
def Got8 (n : Nat) (zs : List ByteArray) (q : Nat) (ok : Bool) (w : World) (e : Ending) (w' : World) : Prop := ∃ (ao : Option Addr) (c : Nat), e = .returned (.tuple #[.slice ao n c, .int .i64 (q : Int), .bool ok]) ∧
  w'.ownsRow w.heap.size 9 1 (.slice ao n c) n (zs.map Value.string) ∧ SRow w' ao n zs ∧ (∀ a, ao = some a → w.heap.size ≤ a.block ∧ a.block < w'.heap.size) ∧ Below w.heap.size w w'
theorem got8_of {n q : Nat} {L : List (List UInt8)} {zs : List ByteArray} {ok : Bool} {w : World} {e : Ending} {w' : World} (hz : zs = ofL L) (hn : L.length = n) (h : RcAns L q ok w e w') : Got8 n zs q ok w e w' := by
  obtain ⟨v, P, rfl, hP, ho, hb⟩ := h
  have hPz : P = zs := by rw [hz, ← hP, ofL_bts]
  have hPn : P.length = n := by rw [← hn, ← hP]; simp [bts]
  subst hPz
  rw [hPn] at ho
  obtain ⟨ao, c, rfl, hr, hx⟩ := srow_own (show w'.ownsRow w.heap.size 9 1 v n (P.map Value.string) from ho)
  exact ⟨ao, c, rfl, ho, hr, hx, hb⟩
set_option maxRecDepth 100000 in
set_option maxHeartbeats 1600000 in
theorem specRecover_of (s : ByteArray) (w : World) : Calls Tryd.prog 13 #[.string s] w (RcAns (rjL s.data.toList) (rjQ s.data.toList) (rjOk s.data.toList) w) := by
  have hlen : s.data.toList.length = s.size := by simp
  by_cases h16 : s.size ≤ 16000
  · obtain ⟨h1, h2, h3⟩ := rj_yes (l := s.data.toList) (by omega)
    rw [h1, h2, h3]
    have HC := Lib.hid (l08Recover_of s w h16)
    clear h1 h2 h3 hlen
    generalize rcv 0 (lns s.data.toList) = L at HC ⊢
    generalize rln 0 (lns s.data.toList) = q at HC ⊢
    go_enter Tryd.func13, Tryd.ntmps13
    go_wp2_with (go_at_call 25; ((with_reducible refine HC.out.mono ?_); rintro e w1 ⟨v, P, rfl, hP, ho, hb⟩; have HP := Lib.hid hP; have HO := Lib.hid ho; have HB := Lib.hid hb; clear hP ho hb))
    go_ret3
    exact ⟨v, P, rfl, HP.out, HO.out, HB.out⟩
  · obtain ⟨h1, h2, h3⟩ := rj_no (l := s.data.toList) (by omega)
    rw [h1, h2, h3]
    clear h1 h2 h3 hlen
    go_enter Tryd.func13, Tryd.ntmps13
    go_wp2
    go_ret3
    exact ⟨_, [], rfl, rfl, World.ownsRow_nil _ _ _ _, Below.refl _ _⟩
set_option maxRecDepth 100000 in
set_option maxHeartbeats 1600000 in
theorem recover_any (s : ByteArray) (w : World) (m : Int) (hm : w.cell? ⟨0, 0, none⟩ = some (.int .i64 m)) (htab : PowT w) : Calls Tryd.prog 14 #[.string s] w (RcAns (rjL s.data.toList) (rjQ s.data.toList) (rjOk s.data.toList) w) := by
  have hlen : s.data.toList.length = s.size := by simp
  by_cases h16 : s.size ≤ 16000
  · obtain ⟨h1, h2, h3⟩ := rj_yes (l := s.data.toList) (by omega)
    rw [h1, h2, h3]
    exact recover_of s w m h16 hm htab
  · obtain ⟨h1, h2, h3⟩ := rj_no (l := s.data.toList) (by omega)
    rw [h1, h2, h3]
    clear h1 h2 h3 hlen hm htab
    go_enter Tryd.func14, Tryd.ntmps14
    go_wp2
    go_ret3
    exact ⟨_, [], rfl, rfl, World.ownsRow_nil _ _ _ _, Below.refl _ _⟩
end Go.Proofs.YtokllkngikcoiaaDoor
