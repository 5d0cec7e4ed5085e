/- The momentum of drawn grains is exact: plain facts. -/
import Derived.Test.YtklceohoghjhdaaMo
namespace Go.Proofs.Ytklceohoghjhdaa
open Go.RowKit Fl

/-- the sums of the first k products of speeds and masses -/
def sumI (f : GrI → Int) (is : List GrI) : Nat → Int
  | 0 => 0
  | k + 1 => sumI f is k + f (is.getD k default)
theorem sumI_small (f : GrI → Int) (is : List GrI) (B : Nat) (h : ∀ k, k < is.length → (f (is.getD k default)).natAbs ≤ B) : ∀ k, k ≤ is.length → (sumI f is k).natAbs ≤ k * B
  | 0, _ => by simp [sumI]
  | k + 1, hk => by
    have ih := sumI_small f is B h k (by omega)
    have h2 := h k (by omega)
    show (sumI f is k + f (is.getD k default)).natAbs ≤ (k + 1) * B
    rw [Nat.add_mul]
    have := Int.natAbs_add_le (sumI f is k) (f (is.getD k default))
    omega
/-- a chain of exact sums -/
theorem sum_chain (P : Nat → Nat) (V : Nat → Int) (n : Nat) (p : Int) (h1 : -149 ≤ p) (h2 : p ≤ 0) (hP : ∀ k, k < n → ∃ v : Int, Exa Ieee.single p (P k) v ∧ V (k + 1) = V k + v ∧ v.natAbs < 1000000) (h0 : V 0 = 0) (hV : ∀ k, k ≤ n → (V k).natAbs < 1000000) :
    ∃ S : Nat → Nat, S 0 = 0 ∧ (∀ k, k < n → floatBits .add .f32 (S k) (P k) = some (S (k + 1))) ∧ ∀ k, k ≤ n → Exa Ieee.single p (S k) (V k) := by
  refine ⟨fun k => Nat.rec 0 (fun j s => (floatBits .add .f32 s (P j)).getD 0) k, rfl, ?_⟩
  generalize hS : (fun k => (Nat.rec 0 (fun j s => (floatBits .add .f32 s (P j)).getD 0) k : Nat)) = S
  have hs0 : S 0 = 0 := by subst hS; rfl
  have hs : ∀ k, S (k + 1) = (floatBits .add .f32 (S k) (P k)).getD 0 := fun k => by subst hS; rfl
  have key : ∀ k, k ≤ n → Exa Ieee.single p (S k) (V k) := by
    intro k
    induction k with
    | zero => intro _; rw [hs0, h0]; exact exa_zero _ p
    | succ k ih =>
      intro hk
      obtain ⟨v, e1, e2, e3⟩ := hP k (by omega)
      obtain ⟨r, g1, g2⟩ := add32 (ih (by omega)) e1 h1 h2 (hV k (by omega)) e3
      rw [hs, g1, e2]; exact g2
  refine ⟨fun k hk => ?_, key⟩
  obtain ⟨v, e1, e2, e3⟩ := hP k hk
  obtain ⟨r, g1, g2⟩ := add32 (key k (by omega)) e1 h1 h2 (hV k (by omega)) e3
  rw [hs, g1]; rfl
theorem mom_exact {gs : List Gr} {is : List GrI} (h : GrsQ gs is) (n : Nat) (hl : gs.length = n) (hn : n ≤ 24) :
    ∃ P Q S T, SumW gs n P Q S T ∧ Exa Ieee.single (-2 + -2) (S n) (sumI (fun i => i.u * i.m) is n) ∧ Exa Ieee.single (-2 + -2) (T n) (sumI (fun i => i.v * i.m) is n) := by
  have hb : ∀ (a m : Int), -4 ≤ a ∧ a ≤ 4 → 1 ≤ m ∧ m ≤ 8 → (a * m).natAbs ≤ 32 := by
    intro a m ha hm
    rw [Int.natAbs_mul]
    exact Nat.mul_le_mul (show a.natAbs ≤ 4 by omega) (show m.natAbs ≤ 8 by omega)
  have hlen := h.1
  have b1 := sumI_small (fun i => i.u * i.m) is 32 (fun k hk => hb _ _ (h.2 k (by omega)).bu (h.2 k (by omega)).bm)
  have b2 := sumI_small (fun i => i.v * i.m) is 32 (fun k hk => hb _ _ (h.2 k (by omega)).bv (h.2 k (by omega)).bm)
  have hp : ∀ k, k < n → ∃ r, floatBits .mul .f32 (gs.getD k default).sx (gs.getD k default).m = some r ∧ Exa Ieee.single (-2 + -2) r ((is.getD k default).u * (is.getD k default).m) := fun k hk => by
    have q := h.2 k (by omega)
    have := q.bu; have := q.bm
    exact mul32 q.sx q.m (by omega) (by omega) (by omega) (by omega) (by omega) (by omega)
  have hq : ∀ k, k < n → ∃ r, floatBits .mul .f32 (gs.getD k default).sy (gs.getD k default).m = some r ∧ Exa Ieee.single (-2 + -2) r ((is.getD k default).v * (is.getD k default).m) := fun k hk => by
    have q := h.2 k (by omega)
    have := q.bv; have := q.bm
    exact mul32 q.sy q.m (by omega) (by omega) (by omega) (by omega) (by omega) (by omega)
  obtain ⟨S, s0, s1, s2⟩ := sum_chain (fun k => (floatBits .mul .f32 (gs.getD k default).sx (gs.getD k default).m).getD 0) (sumI (fun i => i.u * i.m) is) n (-2 + -2) (by omega) (by omega) (fun k hk => by
    obtain ⟨r, e1, e2⟩ := hp k hk
    refine ⟨_, by show Exa _ _ ((floatBits .mul .f32 (gs.getD k default).sx (gs.getD k default).m).getD 0) _; rw [e1]; exact e2, rfl, ?_⟩
    have h9 := hb _ _ (h.2 k (by omega)).bu (h.2 k (by omega)).bm
    exact Nat.lt_of_le_of_lt h9 (by decide)) rfl (fun k hk => by have := b1 k (by omega); omega)
  obtain ⟨T, t0, t1, t2⟩ := sum_chain (fun k => (floatBits .mul .f32 (gs.getD k default).sy (gs.getD k default).m).getD 0) (sumI (fun i => i.v * i.m) is) n (-2 + -2) (by omega) (by omega) (fun k hk => by
    obtain ⟨r, e1, e2⟩ := hq k hk
    refine ⟨_, by show Exa _ _ ((floatBits .mul .f32 (gs.getD k default).sy (gs.getD k default).m).getD 0) _; rw [e1]; exact e2, rfl, ?_⟩
    have h9 := hb _ _ (h.2 k (by omega)).bv (h.2 k (by omega)).bm
    exact Nat.lt_of_le_of_lt h9 (by decide)) rfl (fun k hk => by have := b2 k (by omega); omega)
  refine ⟨_, _, S, T, ⟨s0, t0, fun k hk => ?_, fun k hk => ?_, s1, t1⟩, s2 n (Nat.le_refl _), t2 n (Nat.le_refl _)⟩
  · obtain ⟨r, e1, _⟩ := hp k hk; rw [e1]; rfl
  · obtain ⟨r, e1, _⟩ := hq k hk; rw [e1]; rfl
end Go.Proofs.Ytklceohoghjhdaa
