/- The text of numbers read back: plain facts. -/
import Derived.Test.YtjcjijfemedojaaGreatDoorRfi
import Derived.Test.YtjcjijfemedojaaGreatDoorNn
namespace Go.Proofs.YtjcjijfemedojaaGreatDoor
open Fl

theorem hdig_ne : ∀ d : Fin 16, hdig d.val ≠ 44 := by decide
theorem hexk_free : ∀ k n, (44 : UInt8) ∉ hexk k n
  | 0, n => by simp [hexk]
  | k + 1, n => by
    rw [hexk]
    intro h
    rcases List.mem_append.1 h with h | h
    · exact hexk_free k _ h
    · have : (44 : UInt8) = hdig (n % 16) := by simpa using h
      exact hdig_ne ⟨n % 16, Nat.mod_lt _ (by decide)⟩ this.symm
theorem parts_word (x r : List UInt8) (h : (44 : UInt8) ∉ x) : parts (x ++ 44 :: r) = x :: parts r := by
  have h1 := parts_hit x.length (x ++ 44 :: r) (by simp) (fun k hk => by
    rw [List.getElem?_append_left hk]
    intro e
    exact h (List.mem_of_getElem? e))
  rw [h1, List.take_left, show x ++ 44 :: r = (x ++ [44]) ++ r by simp, show x.length + 1 = (x ++ [44]).length by simp, List.drop_left]
theorem parts_alone (x : List UInt8) (h : (44 : UInt8) ∉ x) : parts x = [x] := parts_free x (fun _ e => h (List.mem_of_getElem? e))
theorem parts_tail (f : Nat → List UInt8) : ∀ (x : List UInt8) (zs : List Nat), (44 : UInt8) ∉ x → (∀ z, (44 : UInt8) ∉ f z) → parts (x ++ Lib.joinTail [44] (zs.map f)) = x :: zs.map f
  | x, [], hx, _ => by simpa [Lib.joinTail] using parts_alone x hx
  | x, z :: zs, hx, hf => by
    have e : x ++ Lib.joinTail [44] ((z :: zs).map f) = x ++ 44 :: (f z ++ Lib.joinTail [44] (zs.map f)) := by simp [Lib.joinTail]
    rw [e, parts_word _ _ hx, parts_tail f (f z) zs (hf z) hf]; rfl
theorem hx8_free (a : Nat) : (44 : UInt8) ∉ hx8 a := hexk_free 8 _
theorem bitsN_bitsN (a : Nat) : bitsN (bitsN a) = bitsN a := by
  unfold bitsN
  cases h : nan32 a
  · simp [h]
  · have : nan32 2143289344 = true := by decide
    simp [this]
theorem rn_hx8 (a : Nat) (h : a < 4294967296) : rn (hx8 a) = some (bitsN a) := by
  refine rn_mk (hx8_len a) ?_ (bitsN_bitsN a)
  unfold hx8
  rw [hv_hexk, Nat.zero_mul, Nat.zero_add, Nat.mod_eq_of_lt (show bitsN a < 16 ^ 8 from bitsN_lt h)]
theorem ntext_parts (zs : List Nat) (h : zs ≠ []) : parts (ntext zs) = zs.map hx8 := by
  cases zs with
  | nil => exact absurd rfl h
  | cons z zs =>
    unfold ntext
    rw [if_neg (by simp), List.map_cons, Lib.join_cons]
    exact parts_tail hx8 (hx8 z) zs (hx8_free z) hx8_free
theorem ntext_none (zs : List Nat) (h : zs ≠ []) : ¬ ntext zs = noneL := by
  intro e
  have h1 := ntext_parts zs h
  rw [e] at h1
  have h2 : parts noneL = [noneL] := by decide
  rw [h2] at h1
  cases zs with
  | nil => exact absurd rfl h
  | cons z zs =>
    simp only [List.map_cons, List.cons.injEq] at h1
    have := hx8_len z
    rw [← h1.1] at this
    simp [noneL] at this
/-- the text of numbers is read, and gives them back -/
theorem fl_ntext (zs : List Nat) (hn : zs.length ≤ 256) (hv : ∀ z ∈ zs, z < 4294967296) : flOk (ntext zs) = true ∧ flZ (ntext zs) = zs.map bitsN := by
  by_cases h : zs = []
  · subst h
    exact fl_none rfl
  · have h1 := ntext_parts zs h
    have hall : (parts (ntext zs)).all rnOk = true := by
      rw [h1, List.all_map, List.all_eq_true]
      intro z hz
      show (rn (hx8 z)).isSome = true
      rw [rn_hx8 z (hv z hz)]; rfl
    obtain ⟨e1, e2⟩ := fl_yes (ntext_none zs h) (by rw [h1]; simpa using hn) hall
    refine ⟨e1, ?_⟩
    rw [e2, h1, List.map_map]
    refine List.map_congr_left (fun z hz => ?_)
    show (rn (hx8 z)).getD 0 = bitsN z
    rw [rn_hx8 z (hv z hz)]; rfl
end Go.Proofs.YtjcjijfemedojaaGreatDoor
