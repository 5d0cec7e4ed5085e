/- A drawn grain behind a tick of a half: its speed and its place are exact. Plain facts. -/
import Derived.Test.YtklceohoghjhdaaTn
import Derived.Test.YtklceohoghjhdaaFy
namespace Go.Proofs.Ytklceohoghjhdaa
open Go.RowKit Fl

/-- one coordinate of a flight: pull, tick, speed, place -/
theorem fly_coord {x q sx ax : Nat} {a τ U X : Int} (hx : Exa Ieee.single (-2) x a) (hq : Exa Ieee.single (-1) q τ) (hs : Exa Ieee.single (-3) sx U) (hp : Exa Ieee.single (-4) ax X) (ha : -16 ≤ a ∧ a ≤ 16) (ht : τ = 1 ∨ τ = -1) (hU : -64 ≤ U ∧ U ≤ 64) (hX : -4096 ≤ X ∧ X ≤ 4096) :
    ∃ px sx' qx ax', floatBits .mul .f32 x q = some px ∧ floatBits .add .f32 sx px = some sx' ∧ floatBits .mul .f32 sx' q = some qx ∧ floatBits .add .f32 ax qx = some ax' ∧ Exa Ieee.single (-3) sx' (U + a * τ) ∧ Exa Ieee.single (-4) ax' (X + (U + a * τ) * τ) := by
  have hb : -16 ≤ a * τ ∧ a * τ ≤ 16 := by rcases ht with rfl | rfl <;> omega
  have hc : -80 ≤ (U + a * τ) * τ ∧ (U + a * τ) * τ ≤ 80 := by rcases ht with rfl | rfl <;> omega
  have e1 : (-2 : Int) + -1 = -3 := by decide
  have e2 : (-3 : Int) + -1 = -4 := by decide
  obtain ⟨px, g1, g2⟩ := mul32 hx hq (by omega) (by omega) (by omega) (by omega) (by omega) (by omega)
  rw [e1] at g2
  obtain ⟨sx', g3, g4⟩ := add32 hs g2 (by omega) (by omega) (by omega) (by omega)
  obtain ⟨qx, g5, g6⟩ := mul32 g4 hq (by omega) (by omega) (by omega) (by omega) (by omega) (by omega)
  rw [e2] at g6
  obtain ⟨ax', g7, g8⟩ := add32 hp g6 (by omega) (by omega) (by omega) (by omega)
  exact ⟨px, sx', qx, ax', g1, g3, g5, g7, g4, g8⟩
theorem exa_half : Exa Ieee.single (-1) 1056964608 1 := ⟨fun _ => by decide +kernel, fun h => by cases h⟩
theorem exa_back : Exa Ieee.single (-1) 3204448256 (-1) := ⟨fun _ => by decide +kernel, fun h => by cases h⟩
/-- a grain that is not held flies -/
theorem fly_free {x y q : Nat} {g : Gr} {a b τ U V X Y : Int} (hx : Exa Ieee.single (-2) x a) (hy : Exa Ieee.single (-2) y b) (hq : Exa Ieee.single (-1) q τ) (hsx : Exa Ieee.single (-3) g.sx U) (hsy : Exa Ieee.single (-3) g.sy V) (hax : Exa Ieee.single (-4) g.ax X) (hay : Exa Ieee.single (-4) g.ay Y)
    (ha : -16 ≤ a ∧ a ≤ 16) (hb : -16 ≤ b ∧ b ≤ 16) (ht : τ = 1 ∨ τ = -1) (hU : -64 ≤ U ∧ U ≤ 64) (hV : -64 ≤ V ∧ V ≤ 64) (hX : -4096 ≤ X ∧ X ≤ 4096) (hY : -4096 ≤ Y ∧ Y ≤ 4096) (u : Nat) (hu : turnO g.s g.t q = some u) (hh : g.h = false) :
    ∃ h, FlyW x y q g h ∧ Exa Ieee.single (-3) h.sx (U + a * τ) ∧ Exa Ieee.single (-3) h.sy (V + b * τ) ∧ Exa Ieee.single (-4) h.ax (X + (U + a * τ) * τ) ∧ Exa Ieee.single (-4) h.ay (Y + (V + b * τ) * τ) ∧ h.t = u ∧ h.r = g.r ∧ h.m = g.m ∧ h.s = g.s ∧ h.h = false := by
  obtain ⟨px, sx', qx, ax', e1, e2, e3, e4, e5, e6⟩ := fly_coord hx hq hsx hax ha ht hU hX
  obtain ⟨py, sy', qy, ay', f1, f2, f3, f4, f5, f6⟩ := fly_coord hy hq hsy hay hb ht hV hY
  obtain ⟨qs, t1, hu⟩ := Option.bind_eq_some_iff.1 hu
  obtain ⟨t', t2, t3⟩ := Option.bind_eq_some_iff.1 hu
  exact ⟨⟨ax', ay', sx', sy', g.r, g.m, u, g.s, false⟩, ⟨fun h => absurd (hh.symm.trans h) (by decide), fun _ => ⟨px, py, qx, qy, qs, t', e1, f1, e2, f2, e3, f3, e4, f4, t1, t2, t3, rfl, rfl, rfl, rfl⟩⟩, e5, f5, e6, f6, rfl, rfl, rfl, rfl, rfl⟩
/-- a grain that is held stays -/
theorem fly_held {x y q : Nat} {g : Gr} (hh : g.h = true) : FlyW x y q g g := ⟨fun _ => rfl, fun h => absurd (hh.symm.trans h) (by decide)⟩
end Go.Proofs.Ytklceohoghjhdaa
