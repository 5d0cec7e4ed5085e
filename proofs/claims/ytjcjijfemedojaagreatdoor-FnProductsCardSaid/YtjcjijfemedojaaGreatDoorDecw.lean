/- Contracts of l01Dec: the decimal text of a number. -/
import Derived.Test.YtjcjijfemedojaaGreatDoorDecf
import Derived.Test.YtjcjijfemedojaaGreatDoorProg
import Derived.WalkKit
import Derived.WalkSpells
import Derived.WalkLawsBesides
import Derived.BigCall
import Derived.Lib.Hide
namespace Go.Proofs.YtjcjijfemedojaaGreatDoor
open Go.RowKit

def u8s (l : List UInt8) : List Value := l.map fun (b : UInt8) => Value.int .u8 (b.toNat : Int)
def noneYet : Value → Nat
  | .slice _ 0 _ => 1
  | _ => 0

theorem nDigits_le : ∀ (k u : Nat), u < 10 ^ (k + 1) → Lib.nDigits u ≤ k + 1
  | 0, u, h => by rw [Lib.nDigits_small (by simpa using h)]; exact Nat.le_refl _
  | k + 1, u, h => by
    by_cases h1 : u < 10
    · rw [Lib.nDigits_small h1]; omega
    · rw [Lib.nDigits_big h1]
      have := nDigits_le k (u / 10) (by rw [Nat.pow_succ] at h; omega)
      omega

theorem dec_len {n r : Int} {out : List UInt8} (h : DecRel n r out) (hn : n.natAbs < 10 ^ 20) : out.length ≤ 20 := by
  rcases h with ⟨rfl, _⟩ | ⟨_, h2⟩
  · simp
  · have h3 := congrArg List.length h2
    rw [List.length_append, Lib.decDigits_length] at h3
    have := nDigits_le 19 n.natAbs hn
    omega

theorem Tryz.info8 : (Tryz.prog.info? 5).map (fun i => (i.zero, i.size, i.bytes)) = some (some (.int .u8 0), 1, 1) := by kernel_rfl

theorem dec_next {B : Nat} {w w3 : World} {n r X : Int} {out : List UInt8} {v' : Value} (g cap : Nat) (hd : DecRel n r out) (hgo : out = [] ∨ r ≠ 0) (hn : n.natAbs ≤ 9223372036854775808)
    (hown' : w3.ownsRow B 5 1 v' (1 + out.length) ([.int .u8 X] ++ u8s out)) (hX : X = ((UInt8.ofNat (48 + r.natAbs % 10)).toNat : Int)) (hb : Below B w w3) (hrn : r.natAbs ≤ n.natAbs) :
    (∃ (out' : List UInt8) (r' : Int) (g cap : Nat), DecRel n r' out' ∧ Value.int .i64 (wrap64 (r.tdiv 10)) = .int .i64 r' ∧ v' = .slice (some ⟨g, 0, none⟩) out'.length cap ∧ r'.natAbs ≤ n.natAbs ∧ w3.ownsRow B 5 1 v' out'.length (u8s out') ∧ Below B w w3) ∧
      (intOf (Value.int .i64 (wrap64 (r.tdiv 10)))).natAbs + noneYet v' < (intOf (Value.int .i64 r)).natAbs + noneYet (.slice (some ⟨g, 0, none⟩) out.length cap) := by
  obtain ⟨g3, cap3, hv3⟩ : ∃ g3 cap3, v' = .slice (some ⟨g3, 0, none⟩) (1 + out.length) cap3 := by
    rcases hown'.2 with ⟨_, h⟩ | ⟨g3, cap3, _, h, _⟩
    · omega
    · exact ⟨g3, cap3, h⟩
  have hq : (r.tdiv 10).natAbs = r.natAbs / 10 := by rw [Int.natAbs_tdiv]; rfl
  have hw : wrap64 (r.tdiv 10) = r.tdiv 10 := by unfold wrap64; omega
  rw [hw]
  refine ⟨⟨UInt8.ofNat (48 + r.natAbs % 10) :: out, r.tdiv 10, g3, cap3, dec_round hd hgo, rfl, ?_, by omega, ?_, hb⟩, ?_⟩
  · rw [hv3, List.length_cons, Nat.add_comm]
  · rw [List.length_cons, Nat.add_comm]
    have : u8s (UInt8.ofNat (48 + r.natAbs % 10) :: out) = [.int .u8 X] ++ u8s out := by rw [hX]; rfl
    rw [this]; exact hown'
  · have h1 : noneYet v' = 0 := by rw [hv3, Nat.add_comm]; rfl
    rw [h1]
    show (r.tdiv 10).natAbs + 0 < r.natAbs + _
    rw [hq]
    rcases hgo with rfl | h
    · show r.natAbs / 10 + 0 < r.natAbs + 1
      omega
    · omega

theorem conv_own {P : Program} {w : World} {B g len cap : Nat} {out : List UInt8} (src e dst : TypeId) (hs : P.underlying src = some (.slice e)) (he : P.underlying e = some (.int .u8)) (hd : P.underlying dst = some .string)
    (h : w.ownsRow B e 1 (.slice (some ⟨g, 0, none⟩) len cap) len (u8s out)) (hl : out.length = len) : (convert src dst (.slice (some ⟨g, 0, none⟩) len cap)).run P w = .ok (.string ⟨out.toArray⟩) w := by
  have hx := run_convert_bytes_arg (P := P) w src e hs he g 0 len cap (out.map fun (b : UInt8) => (b.toNat : Int)) (by simpa using hl) (fun i hi => by
    rw [Nat.zero_add, h.cellAt i (by omega)]
    unfold u8s
    rw [List.getElem?_map, List.getElem?_eq_getElem (by omega)]
    simp [List.getD, List.getElem?_eq_getElem (show i < out.length by omega)]) dst hd
  rw [hx]
  have : strOfNums (out.map fun (b : UInt8) => (b.toNat : Int)) = ⟨out.toArray⟩ := by
    unfold strOfNums
    congr 2
    rw [List.map_map]
    conv => rhs; rw [← List.map_id out]
    refine List.map_congr_left fun b _ => ?_
    simp
  rw [this]

theorem conv_next {P : Program} {w : World} {B : Nat} {v' : Value} {out : List UInt8} {c : UInt8} (src e dst : TypeId) (hs : P.underlying src = some (.slice e)) (he : P.underlying e = some (.int .u8)) (hd : P.underlying dst = some .string)
    (h : w.ownsRow B e 1 v' (1 + out.length) ([.int .u8 (c.toNat : Int)] ++ u8s out)) : ∃ g cap N S, v' = .slice (some ⟨g, 0, none⟩) N cap ∧ (convert src dst (.slice (some ⟨g, 0, none⟩) N cap)).run P w = .ok (.string S) w ∧ S = ⟨(c :: out).toArray⟩ := by
  obtain ⟨g, cap, hv⟩ : ∃ g cap, v' = .slice (some ⟨g, 0, none⟩) (1 + out.length) cap := by
    rcases h.2 with ⟨_, h⟩ | ⟨g3, cap3, _, h, _⟩
    · omega
    · exact ⟨g3, cap3, h⟩
  subst hv
  exact ⟨g, cap, _, _, rfl, conv_own src e dst hs he hd (out := c :: out) h (by simp; omega), rfl⟩

theorem dec_dig_lt (r : Int) : ((UInt8.ofNat (48 + r.natAbs % 10)).toNat : Int) = ((48 + r.natAbs % 10 : Nat) : Int) := by
  have : (48 + r.natAbs % 10) < 256 := by omega
  have h2 : (UInt8.ofNat (48 + r.natAbs % 10)).toNat = (48 + r.natAbs % 10) % 256 := by first | rfl | simp
  rw [h2, Nat.mod_eq_of_lt this]
theorem dec_neg {r : Int} (h : r.tmod 10 < 0) : wrap64 (48 + wrap64 (-r.tmod 10)) % 256 = ((UInt8.ofNat (48 + r.natAbs % 10)).toNat : Int) := by
  have h1 := dec_digit r
  rw [if_pos h] at h1
  rw [dec_dig_lt, h1]
  have : r.natAbs % 10 < 10 := Nat.mod_lt _ (by decide)
  unfold wrap64
  omega
theorem dec_pos {r : Int} (h : ¬ r.tmod 10 < 0) : wrap64 (48 + r.tmod 10) % 256 = ((UInt8.ofNat (48 + r.natAbs % 10)).toNat : Int) := by
  have h1 := dec_digit r
  rw [if_neg h] at h1
  rw [dec_dig_lt, h1]
  have : r.natAbs % 10 < 10 := Nat.mod_lt _ (by decide)
  unfold wrap64
  omega
theorem u8s_one (l : List UInt8) : ∀ u ∈ u8s l, u.oneCell' = true := by
  intro u hu
  obtain ⟨b, _, rfl⟩ := List.mem_map.1 hu
  rfl
theorem u8s_length (l : List UInt8) : (u8s l).length = l.length := List.length_map ..

end Go.Proofs.YtjcjijfemedojaaGreatDoor
