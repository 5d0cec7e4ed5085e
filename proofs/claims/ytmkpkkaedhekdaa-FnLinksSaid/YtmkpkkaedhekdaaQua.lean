/- Numbers in quarters, halves and sixteenths: what is drawn of them, exactly. -/
import Derived.Test.YtmkpkkaedhekdaaSrc
import Derived.Test.YtmkpkkaedhekdaaExa
namespace Go.Proofs.Ytmkpkkaedhekdaa
open Go.RowKit Fl

theorem quo_pow (k : Nat) (hk : k ≤ 6) (y : Nat) (hy : Exa Ieee.single 0 y ((2 ^ k : Nat) : Int)) (n : Int) (hn : n.natAbs ≤ 4000) : ∃ r, floatBits .quo .f32 (floatOfInt .f32 n) y = some r ∧ Exa Ieee.single (-(k : Int)) r n := by
  have h2 : 2 ^ k ≤ 64 := Nat.pow_le_pow_right (by decide) hk
  have h0 : 0 < 2 ^ k := Nat.two_pow_pos k
  have hx := (exa_ofInt .f32 n).down (fits32 (by omega) (by omega) (by omega)) k
  have hm : (n * ((2 ^ k : Nat) : Int)).natAbs < 16777216 := by
    rw [Int.natAbs_mul, Int.natAbs_natCast]
    have := Nat.mul_le_mul hn h2
    omega
  obtain ⟨r, h1, h3⟩ := exa_quo he32 hx hy (fits32 hm (by omega) (by omega)) (fits32 (by rw [Int.natAbs_natCast]; omega) (by omega) (by omega)) (by omega) rfl (fits32 (n := n) (by omega) (by omega) (by omega))
  refine ⟨r, h1, ?_⟩
  have e : (0 : Int) - (k : Int) - 0 = -(k : Int) := by omega
  rwa [e] at h3
theorem exa2 : Exa Ieee.single 0 1073741824 2 := ⟨fun _ => by decide +kernel, fun h => by cases h⟩
theorem exa4 : Exa Ieee.single 0 1082130432 4 := ⟨fun _ => by decide +kernel, fun h => by cases h⟩
theorem exa16 : Exa Ieee.single 0 1098907648 16 := ⟨fun _ => by decide +kernel, fun h => by cases h⟩
theorem quo2 (n : Int) (hn : n.natAbs ≤ 4000) : ∃ r, floatBits .quo .f32 (floatOfInt .f32 n) 1073741824 = some r ∧ Exa Ieee.single (-1) r n := quo_pow 1 (by decide) _ exa2 n hn
theorem quo4 (n : Int) (hn : n.natAbs ≤ 4000) : ∃ r, floatBits .quo .f32 (floatOfInt .f32 n) 1082130432 = some r ∧ Exa Ieee.single (-2) r n := quo_pow 2 (by decide) _ exa4 n hn
theorem quo16 (n : Int) (hn : n.natAbs ≤ 4000) : ∃ r, floatBits .quo .f32 (floatOfInt .f32 n) 1098907648 = some r ∧ Exa Ieee.single (-4) r n := quo_pow 4 (by decide) _ exa16 n hn
/-- sums, differences and products of numbers that are small integers of places -/
theorem add32 {p : Int} {x y : Nat} {a b : Int} (hx : Exa Ieee.single p x a) (hy : Exa Ieee.single p y b) (h1 : -149 ≤ p) (h2 : p ≤ 0) (ha : a.natAbs < 1000000) (hb : b.natAbs < 1000000) : ∃ r, floatBits .add .f32 x y = some r ∧ Exa Ieee.single p r (a + b) :=
  exa_add he32 hx hy (fits32 (by omega) h1 (by omega)) (fits32 (by omega) h1 (by omega)) (fits32 (by omega) h1 (by omega))
theorem sub32 {p : Int} {x y : Nat} {a b : Int} (hx : Exa Ieee.single p x a) (hy : Exa Ieee.single p y b) (h1 : -149 ≤ p) (h2 : p ≤ 0) (ha : a.natAbs < 1000000) (hb : b.natAbs < 1000000) : ∃ r, floatBits .sub .f32 x y = some r ∧ Exa Ieee.single p r (a - b) :=
  exa_sub he32 hx hy (fits32 (by omega) h1 (by omega)) (fits32 (by omega) h1 (by omega)) (fits32 (by omega) h1 (by omega))
theorem mul32 {p q : Int} {x y : Nat} {a b : Int} (hx : Exa Ieee.single p x a) (hy : Exa Ieee.single q y b) (h1 : -70 ≤ p) (h2 : p ≤ 0) (h3 : -70 ≤ q) (h4 : q ≤ 0) (ha : a.natAbs < 4000) (hb : b.natAbs < 4000) : ∃ r, floatBits .mul .f32 x y = some r ∧ Exa Ieee.single (p + q) r (a * b) := by
  have hm : (a * b).natAbs < 16777216 := by
    rw [Int.natAbs_mul]
    have := Nat.mul_le_mul (Nat.le_of_lt ha) (Nat.le_of_lt hb)
    omega
  exact exa_mul he32 hx hy (fits32 (by omega) (by omega) (by omega)) (fits32 (by omega) (by omega) (by omega)) (fits32 hm (by omega) (by omega))
theorem order32 {p : Int} {x y : Nat} {a b : Int} (hx : Exa Ieee.single p x a) (hy : Exa Ieee.single p y b) (h1 : -149 ≤ p) (h2 : p ≤ 0) (ha : a.natAbs < 16777216) (hb : b.natAbs < 16777216) : FloatKind.f32.format.order x y = some (compare a b) :=
  exa_order he32 hx hy (fits32 ha h1 (by omega)) (fits32 hb h1 (by omega))
theorem fin_exa {p : Int} {x : Nat} {a : Int} (hx : Exa Ieee.single p x a) (h1 : -149 ≤ p) (h2 : p ≤ 0) (ha : a.natAbs < 16777216) : fin32 x = true := hx.fin (fits32 ha h1 (by omega))

/-- a number n * 2 ^ p is drawn -/
def DrewQ (w : World) (b m : Nat) (p lo hi : Int) (e : Ending) (w' : World) : Prop := ∃ (r : Nat) (n : Int), lo ≤ n ∧ n ≤ hi ∧ Exa Ieee.single p r n ∧ e = .returned (.float .f32 r) ∧ Src w' b m ∧ Only b w w'
set_option maxHeartbeats 1600000 in
theorem drawSmall_of (b m : Nat) (w : World) (hm : m < 10000000) (h : Src w b m) :
    Calls Try.prog 21 #[.pointer (some ⟨b, 0, none⟩)] w (DrewQ w b (m + 2) (-2) (-16) 16) := by
  have HP := Lib.hid (pick_of b m 33 w (by omega) h (by omega) (by omega))
  clear h
  go_enter Try.func21, Try.ntmps21
  go_wp2_with fail
  refine HP.out.mono ?_
  rintro e w1 ⟨x, hx0, hx1, rfl, hs, ho⟩
  obtain ⟨r, h4, hq⟩ := quo4 (x - 16) (by omega)
  have e4 := fun w => run_float_arith (P := Try.prog) w .quo 46 .f32 _ _ _ h4
  have HS := Lib.hid hs
  have HO := Lib.hid ho
  have HQ := Lib.hid hq
  clear hs ho h4 hq
  go_wp2
  go_ret
  exact ⟨r, x - 16, by omega, by omega, HQ.out, rfl, HS.out, HO.out⟩
end Go.Proofs.Ytmkpkkaedhekdaa
