/- The same number, told of numbers that fit or are not-a-numbers; sums of lists, of a list that is read back; FromBits; bytes. -/
import Derived.Test.YtpocclcijkopnaaGreatDoorSrl
import Derived.Test.YtpocclcijkopnaaGreatDoorNw
import Derived.Test.YtpocclcijkopnaaGreatDoorSq
import Derived.Test.YtpocclcijkopnaaGreatDoorNrt
import Derived.Test.YtpocclcijkopnaaGreatDoorNj
namespace Go.Proofs.YtpocclcijkopnaaGreatDoor
open Go.RowKit Fl

/-- fits in 32 bits, or is a not-a-number -/
def Fit (a : Nat) : Prop := nan32 a = true ∨ a < 4294967296
theorem l01Bits_ok (a : Nat) (w : World) (h : Fit a) : Calls Tryz.prog 87 #[.float .f32 a] w fun e w' => e = .returned (.int .i64 (bitsOf a)) ∧ w = w' := by
  rcases h with h | h
  · have ho := ord32 a
    rw [h, if_pos rfl] at ho
    have hb : Hid (bitsOf a = 2143289344) := by show bitsOf a = _; simp [bitsOf, h]
    clear h
    go_enter Tryz.func87, Tryz.ntmps87
    go_wp2
    go_ret
    exact ⟨by rw [hb.out]; rfl, rfl⟩
  · exact l01Bits_any a w h
theorem l01Same_ok (a b : Nat) (w : World) (ha : Fit a) (hb : Fit b) : Calls Tryz.prog 53 #[.float .f32 a, .float .f32 b] w fun e w' => e = .returned (.bool (bitsOf a == bitsOf b)) ∧ w = w' := by
  have HA := Lib.hid fun w => l01Bits_ok a w ha
  have HB := Lib.hid fun w => l01Bits_ok b w hb
  clear ha hb
  go_enter Tryz.func53, Tryz.ntmps53
  go_wp2_with (first | (go_at_call 87; (with_reducible refine (HA.out _).mono ?_); rintro e w' ⟨rfl, rfl⟩) | (go_at_call 87; (with_reducible refine (HB.out _).mono ?_); rintro e w' ⟨rfl, rfl⟩))
  go_ret
  exact ⟨rfl, rfl⟩
theorem same_ok (a b : Nat) (w : World) (ha : Fit a) (hb : Fit b) : Calls Tryz.prog 15 #[.float .f32 a, .float .f32 b] w fun e w' => e = .returned (.bool (bitsOf a == bitsOf b)) ∧ w = w' := by
  have H := Lib.hid fun w => l01Same_ok a b w ha hb
  clear ha hb
  go_enter Tryz.func15, Tryz.ntmps15
  go_wp2_with (go_at_call 53; (with_reducible refine (H.out _).mono ?_); rintro e w' ⟨rfl, rfl⟩)
  go_ret
  exact ⟨rfl, rfl⟩
/-- two results that are told by one option are the same number -/
theorem rep_same {a b : Nat} {o : Option Nat} (ha : Rep a o) (hb : Rep b o) : bitsOf a = bitsOf b := by
  cases o with
  | none => simp only [Rep] at ha hb; simp [bitsOf, ha, hb]
  | some r => obtain ⟨rfl, _⟩ := ha; obtain ⟨rfl, _⟩ := hb; rfl
theorem repR_same {a b : Nat} {o : Option Nat} (ha : RepR a o) (hb : RepR b o) : bitsOf a = bitsOf b := by
  cases o with
  | none => simp only [RepR] at ha hb; simp [bitsOf, ha, hb]
  | some r => obtain ⟨rfl, _⟩ := ha; obtain ⟨rfl, _⟩ := hb; rfl
theorem rep_fit {a : Nat} {o : Option Nat} (ha : Rep a o) (ho : ∀ r, o = some r → r < 4294967296) : Fit a := by
  cases o with
  | none => exact .inl ha
  | some r => obtain ⟨rfl, _⟩ := ha; exact .inr (ho _ rfl)
theorem addO_lt {o : Option Nat} {x r : Nat} (h : addO o x = some r) : r < 4294967296 := by
  cases o with
  | none => cases h
  | some s => exact Ieee.Format.add_lt Ieee.single h
theorem sumO_lt : ∀ (zs : List Nat) (r : Nat), sumO zs = some r → r < 4294967296 := by
  intro zs
  unfold sumO
  suffices ∀ (zs : List Nat) (o : Option Nat), (∀ r, o = some r → r < 4294967296) → ∀ r, zs.foldl addO o = some r → r < 4294967296 from this zs (some 0) (fun r h => by cases h; decide)
  intro zs
  induction zs with
  | nil => exact fun o h => h
  | cons z zs ih => exact fun o _ => ih (addO o z) (fun r h => addO_lt h)
theorem sub_flush (a : Nat) (ha : a < 4294967296) : sub32 (flush32 a) = false ∧ flush32 a < 4294967296 ∧ (sub32 a == (bitsOf a == bitsOf (flush32 a))) = false := by
  unfold flush32 sub32
  by_cases hl : low32 a = true
  · have hl' : a % 2 ^ 31 < 2 ^ 23 := by simpa [low32] using hl
    have hn : nan32 a = false := by rw [nan32_iff]; simp; omega
    have hz2 : zer32 (a / 2 ^ 31 % 2 * 2 ^ 31) = true := by simp [zer32]
    have hn2 : nan32 (a / 2 ^ 31 % 2 * 2 ^ 31) = false := by rw [nan32_iff]; simp
    rw [if_pos hl, hz2, hl]
    refine ⟨rfl, by omega, ?_⟩
    unfold bitsOf
    rw [hn, hn2]
    by_cases hz : zer32 a = true
    · have hz' : a % 2 ^ 31 = 0 := by simpa [zer32] using hz
      rw [hz]
      have : a / 2 ^ 31 % 2 * 2 ^ 31 = a := by omega
      rw [this]; simp
    · have hz' : a % 2 ^ 31 ≠ 0 := by simpa [zer32] using hz
      have hz'' : zer32 a = false := by simpa using hz
      rw [hz'']
      have : ¬ a = a / 2 ^ 31 % 2 * 2 ^ 31 := by omega
      simp
      omega
  · have hl'' : low32 a = false := by simpa using hl
    rw [if_neg hl, hl'']
    simp [ha]
set_option maxHeartbeats 800000 in
theorem readNumbers_of (s : ByteArray) (w : World) (m : Int) (hs : s.size ≤ 1048576) (hm : w.cell? ⟨1, 0, none⟩ = some (.int .i64 m)) (ht : Tz w) (he : ∀ w', Below w.heap.size w w' → Errs w') :
    Calls Tryz.prog 14 #[.string s] w (FlAns (flZ s.data.toList) (flOk s.data.toList) w) := by
  have HC := Lib.hid (splitNums_of s w m hs hm ht he)
  clear hm ht he
  generalize flZ s.data.toList = zs at HC ⊢
  generalize flOk s.data.toList = b at HC ⊢
  go_enter Tryz.func14, Tryz.ntmps14
  go_wp2_with (go_at_call 51; (with_reducible refine HC.out.mono ?_); rintro e w' ⟨v, rfl, ho, hb⟩; have HO := Lib.hid ho; have HB := Lib.hid hb; clear ho hb)
  go_ret2
  exact ⟨v, rfl, HO.out, HB.out⟩
theorem b10Long_of (ao bo : Option Addr) (n c n' c' : Nat) (w : World) :
    Calls Tryz.prog 5 #[.slice ao n c, .slice bo n' c'] w fun e w' => e = .returned (.bool (decide (1048576 < n) || decide (1048576 < n'))) ∧ w = w' := by
  by_cases h : 1048576 < n <;> by_cases h' : 1048576 < n'
  all_goals
    go_enter Tryz.func5, Tryz.ntmps5
    go_wp2
    go_ret
    exact ⟨by first | rfl | (simp [h, h']; done) | (simp [h, h']; omega), rfl⟩
/-- a number below k -/
def At (k : Int) (w : World) (e : Ending) (w' : World) : Prop := ∃ x : Int, 0 ≤ x ∧ x < k ∧ e = .returned (.int .i64 x) ∧ w = w'
set_option maxHeartbeats 800000 in
theorem b10At_of (ao : Option Addr) (n c i : Nat) (k : Int) (w : World) (hr : BRow w ao n) (hn : n ≤ 1048576) (hi : i ≤ 1000) (h1 : 1 ≤ k) (h2 : k ≤ 1000000) :
    Calls Tryz.prog 11 #[.slice ao n c, .int .i64 i, .int .i64 k] w (At k w) := by
  have HR := Lib.hid hr
  clear hr
  by_cases hk : k ≤ 1
  · go_enter Tryz.func11, Tryz.ntmps11
    go_wp2
    go_ret
    exact ⟨0, by omega, by omega, rfl, rfl⟩
  · by_cases hin : i < n
    · obtain ⟨a, rfl⟩ := HR.out.addr (by omega)
      obtain ⟨v, hv, hc⟩ := HR.out.cell a rfl i hin
      go_enter Tryz.func11, Tryz.ntmps11
      go_wp2
      go_ret
      exact ⟨_, Int.emod_nonneg _ (by omega), Int.emod_lt_of_pos _ (by omega), rfl, rfl⟩
    · go_enter Tryz.func11, Tryz.ntmps11
      go_wp2
      go_ret
      exact ⟨_, Int.emod_nonneg _ (by omega), Int.emod_lt_of_pos _ (by omega), rfl, rfl⟩
end Go.Proofs.YtpocclcijkopnaaGreatDoor
