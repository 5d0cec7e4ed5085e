/- slices.Min and slices.Max of a list of 32-bit numbers. -/
import Derived.Test.YtklceohoghjhdaaMn
import Derived.Test.YtklceohoghjhdaaHg
namespace Go.Proofs.Ytklceohoghjhdaa
open Go.RowKit Fl

/-- the cells of some numbers that begin at a block -/
def FCells (w : World) (b n : Nat) (zs : Nat → Nat) : Prop := ∀ k, k < n → w.cell? ⟨b, k, none⟩ = some (.float .f32 (zs k))
/-- the least of the first k + 1 numbers -/
def minsW (zs : Nat → Nat) : Nat → Nat
  | 0 => zs 0
  | k + 1 => minW (minsW zs k) (zs (k + 1))
def maxsW (zs : Nat → Nat) : Nat → Nat
  | 0 => zs 0
  | k + 1 => maxW (maxsW zs k) (zs (k + 1))
theorem minW_one (x y : Nat) : minW x y = x ∨ minW x y = y := by
  unfold minW; split
  · exact .inl rfl
  · exact .inr rfl
  · split
    · exact .inl rfl
    · exact .inr rfl
theorem maxW_one (x y : Nat) : maxW x y = x ∨ maxW x y = y := by
  unfold maxW; split
  · exact .inr rfl
  · exact .inl rfl
  · split
    · exact .inr rfl
    · exact .inl rfl
set_option maxHeartbeats 1600000 in
theorem min_of (b n c : Nat) (zs : Nat → Nat) (w : World) (hc : FCells w b n zs) (h1 : 1 ≤ n) (hn : n ≤ 24) (ho : ∀ k, k + 1 < n → (FloatKind.f32.format.order (minsW zs k) (zs (k + 1))).isSome = true) :
    Calls Try.prog 71 #[.slice (some ⟨b, 0, none⟩) n c] w fun e w' => e = .returned (.float .f32 (minsW zs (n - 1))) ∧ Quiet w w' := by
  have HC := Lib.hid hc
  have HO := Lib.hid ho
  have hc0 := hc 0 (by omega)
  clear hc ho
  go_enter Try.func71, Try.ntmps71
  go_wp2
  go_loop [3, 4] (fun m i => ∃ k : Nat, k + 1 ≤ n ∧ i = .int .i64 ((k : Int) + 1) ∧ m = .float .f32 (minsW zs k)) (fun _ i => n - (intOf i).toNat)
  case atStart => exact ⟨0, h1, rfl, rfl⟩
  case round =>
    obtain ⟨k, hk, rfl, rfl⟩ := hrel
    by_cases hlt : k + 1 < n
    · have hx := HC.out (k + 1) hlt
      have hm := fun w ts t => run_min_float (P := Try.prog) ts t (minsW zs k) (zs (k + 1)) w (HO.out k hlt)
      have HS : Hid (minW (minsW zs k) (zs (k + 1)) = minsW zs (k + 1)) := rfl
      generalize zs (k + 1) = z at hx hm HS
      go_wp2
      go_round
      case rel => exact ⟨k + 1, hlt, rfl, by rw [← HS.out]⟩
      case measure => simp [intOf]; omega
    · have hk2 : n - 1 = k := by omega
      have HK := Lib.hid hk2
      clear hk2
      go_wp2
      go_ret
      exact ⟨by rw [HK.out]; rfl, Quiet.refl _⟩
set_option maxHeartbeats 1600000 in
theorem max_of (b n c : Nat) (zs : Nat → Nat) (w : World) (hc : FCells w b n zs) (h1 : 1 ≤ n) (hn : n ≤ 24) (ho : ∀ k, k + 1 < n → (FloatKind.f32.format.order (maxsW zs k) (zs (k + 1))).isSome = true) :
    Calls Try.prog 72 #[.slice (some ⟨b, 0, none⟩) n c] w fun e w' => e = .returned (.float .f32 (maxsW zs (n - 1))) ∧ Quiet w w' := by
  have HC := Lib.hid hc
  have HO := Lib.hid ho
  have hc0 := hc 0 (by omega)
  clear hc ho
  go_enter Try.func72, Try.ntmps72
  go_wp2
  go_loop [3, 4] (fun m i => ∃ k : Nat, k + 1 ≤ n ∧ i = .int .i64 ((k : Int) + 1) ∧ m = .float .f32 (maxsW zs k)) (fun _ i => n - (intOf i).toNat)
  case atStart => exact ⟨0, h1, rfl, rfl⟩
  case round =>
    obtain ⟨k, hk, rfl, rfl⟩ := hrel
    by_cases hlt : k + 1 < n
    · have hx := HC.out (k + 1) hlt
      have hm := fun w ts t => run_max_float (P := Try.prog) ts t (maxsW zs k) (zs (k + 1)) w (HO.out k hlt)
      have HS : Hid (maxW (maxsW zs k) (zs (k + 1)) = maxsW zs (k + 1)) := rfl
      generalize zs (k + 1) = z at hx hm HS
      go_wp2
      go_round
      case rel => exact ⟨k + 1, hlt, rfl, by rw [← HS.out]⟩
      case measure => simp [intOf]; omega
    · have hk2 : n - 1 = k := by omega
      have HK := Lib.hid hk2
      clear hk2
      go_wp2
      go_ret
      exact ⟨by rw [HK.out]; rfl, Quiet.refl _⟩
end Go.Proofs.Ytklceohoghjhdaa
