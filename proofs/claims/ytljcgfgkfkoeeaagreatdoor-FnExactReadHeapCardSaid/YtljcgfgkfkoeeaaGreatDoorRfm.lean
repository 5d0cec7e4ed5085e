/- Lists of numbers that are given: marked and found again by the law. -/
import Derived.Test.YtljcgfgkfkoeeaaGreatDoorRfs
namespace Go.Proofs.YtljcgfgkfkoeeaaGreatDoor
open Go.RowKit Fl

theorem frow_own {w : World} {base n : Nat} {v : Value} {zs : List Nat} (h : w.ownsRow base 37 1 v n (zs.map (Value.float .f32))) :
    ∃ (ao : Option Addr) (c : Nat), v = .slice ao n c ∧ FRow w ao n zs ∧ (∀ a, ao = some a → base ≤ a.block ∧ a.block < w.heap.size) := by
  obtain ⟨h1, h2⟩ := h
  have hl : zs.length = n := by simpa using h1
  rcases h2 with ⟨rfl, rfl⟩ | ⟨g, cap, cur, rfl, hb, hh, _, _, hs, ht⟩
  · exact ⟨none, 0, rfl, ⟨hl, fun h => by omega, fun a ha => by cases ha⟩, fun a ha => by cases ha⟩
  · refine ⟨_, _, rfl, ⟨hl, fun _ => ⟨_, rfl⟩, fun a ha i hi => ?_⟩, fun a ha => ?_⟩
    · obtain rfl := Option.some.inj ha
      rw [show (⟨g, 0, none⟩ : Addr).add i = ⟨g, i, none⟩ by unfold Addr.add; split <;> simp_all]
      have h3 : (cur.toList.take (n * 1))[i]? = some (.float .f32 (zs.getD i 0)) := by rw [ht]; simp [List.getD, List.getElem?_eq_getElem (show i < zs.length by omega)]
      rw [List.getElem?_take, if_pos (by omega)] at h3
      rw [cell_of_row w g i cur 37 (0, 0) hh]
      simpa using h3
    · obtain rfl := Option.some.inj ha
      exact ⟨hb, (Array.getElem?_eq_some_iff.1 hh).1⟩
theorem FRow.keep {w w' : World} {ao : Option Addr} {n B : Nat} {zs : List Nat} (h : FRow w ao n zs) (hb : Below B w w') (hB : ∀ a, ao = some a → a.block < B) : FRow w' ao n zs :=
  ⟨h.len, h.addr, fun a ha i hi => by
    have hc := h.cell a ha i hi
    rw [hb.cell (p := a.add i) (by have := hB a ha; unfold Addr.add; split <;> exact this)]; exact hc⟩
theorem small_num : ∀ k : Fin 512, nan32 (floatOfInt .f32 k.val) = false := by decide +kernel
theorem small_ord (k : Nat) (h : k < 512) : FloatKind.f32.format.order (floatOfInt .f32 k) (floatOfInt .f32 k) = some .eq := by
  have := small_num ⟨k, h⟩
  rw [ord32, this]; rfl
/-- the first k numbers marked -/
def mkf (zs : List Nat) (k : Nat) : List Nat := (List.range k).map (fun j => floatOfInt .f32 ((1 + j : Nat) : Int)) ++ zs.drop k
theorem mkf_len (zs : List Nat) (k : Nat) (h : k ≤ zs.length) : (mkf zs k).length = zs.length := by simp [mkf]; omega
theorem mkf_set (zs : List Nat) (k : Nat) (h : k < zs.length) : ((mkf zs k).map (Value.float .f32)).set k (.float .f32 (floatOfInt .f32 ((1 + k : Nat) : Int))) = (mkf zs (k + 1)).map (Value.float .f32) := by
  have e : (zs.drop k).map (Value.float .f32) = .float .f32 zs[k] :: (zs.drop (k + 1)).map (Value.float .f32) := by rw [List.drop_eq_getElem_cons h]; rfl
  unfold mkf
  rw [List.map_append, e, List.set_append_right _ _ (by simp), List.length_map, List.length_map, List.length_range, Nat.sub_self, List.set_cons_zero, List.range_succ, List.map_append, List.map_append, List.map_append, List.append_assoc]
  rfl
theorem mkf_get (zs : List Nat) (n : Nat) (j : Nat) (hj : j < n) : (mkf zs n).getD j 0 = floatOfInt .f32 ((1 + j : Nat) : Int) := by
  unfold mkf
  rw [List.getD_eq_getElem?_getD, List.getElem?_append_left (by simp; exact hj), List.getElem?_map, List.getElem?_range hj]
  rfl

end Go.Proofs.YtljcgfgkfkoeeaaGreatDoor
