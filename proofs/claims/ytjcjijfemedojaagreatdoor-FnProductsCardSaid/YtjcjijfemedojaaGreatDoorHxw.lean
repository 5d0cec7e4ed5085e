/- strconv.FormatInt to the base of 16, at numbers of 32 bits. -/
import Derived.Test.YtjcjijfemedojaaGreatDoorHx
import Derived.Test.YtjcjijfemedojaaGreatDoorBlk
import Derived.Test.YtjcjijfemedojaaGreatDoorErr
import Derived.Laws.Bits64b
namespace Go.Proofs.YtjcjijfemedojaaGreatDoor
open Go.RowKit

/-- the entry of the table that tells how many zeros 16 ends in -/
def Tz (w : World) : Prop := w.cell? ⟨8, 15, none⟩ = some (.int .u8 4)
theorem Tz.below {w w' : World} {B : Nat} (h : Tz w) (hb : Below B w w') (hB : w.heap.size ≤ B) : Tz w' := by
  unfold Tz at h ⊢
  rw [hb.cell (p := ⟨8, 15, none⟩) (Nat.lt_of_lt_of_le (World.block_lt_of_cell? w _ h) hB)]; exact h
theorem tz64_of (w : World) (ht : Tz w) : Calls Tryz.prog 122 #[.int .u64 16] w fun e w' => e = .returned (.int .i64 4) ∧ w = w' := by
  have h1 : bits .and .u64 16 (IntKind.u64.wrap (-16)) = 16 := by decide
  have h2 : IntKind.u64.wrap (16 * 285870213051353865) / 288230376151711744 = 15 := by decide
  unfold Tz at ht
  go_enter Tryz.func122, Tryz.ntmps122
  go_wp2
  go_ret
  exact ⟨rfl, rfl⟩
theorem pow2_of (w : World) : Calls Tryz.prog 113 #[.int .i64 16] w fun e w' => e = .returned (.bool true) ∧ w = w' := by
  have h1 : bits .and .i64 16 15 = 0 := by decide
  go_enter Tryz.func113, Tryz.ntmps113
  go_wp2
  go_ret
  exact ⟨rfl, rfl⟩
theorem tz_of (w : World) (ht : Tz w) : Calls Tryz.prog 114 #[.int .u64 16] w fun e w' => e = .returned (.int .i64 4) ∧ w = w' := by
  have H := Lib.hid (tz64_of w ht)
  clear ht
  go_enter Tryz.func114, Tryz.ntmps114
  go_wp2_with (go_at_call 122; (with_reducible refine H.out.mono ?_); rintro e w2 ⟨rfl, rfl⟩)
  go_ret
  exact ⟨rfl, rfl⟩

theorem Blk.set_ {w : World} {g : Nat} {t : TypeId} {cs : Array Value} (h : Blk w g t cs) (i : Nat) (u : Value) : Blk (w.setCell ⟨g, i, none⟩ u) g t (cs.setIfInBounds i u) := by
  unfold Blk at h ⊢
  simp [World.setCell, Array.getElem?_modify, h]
theorem and15 (m : Nat) (h : m < 4294967296) : bits .and .u64 (m : Int) 15 = ((m % 16 : Nat) : Int) := by
  have := bits_and_u64_nat m 15 (by omega) (by decide)
  rw [show ((15 : Nat) : Int) = 15 from rfl] at this
  rw [this, show (15 : Nat) = 2 ^ 4 - 1 from rfl, Nat.and_two_pow_sub_one_eq_mod]
theorem hdigs : ∀ d : Fin 16, (⟨#[48, 49, 50, 51, 52, 53, 54, 55, 56, 57, 97, 98, 99, 100, 101, 102, 103, 104, 105, 106, 107, 108, 109, 110, 111, 112, 113, 114, 115, 116, 117, 118, 119, 120, 121, 122]⟩ : ByteArray).data.toList[d.val]? = some (hdig d.val) := by decide
set_option maxRecDepth 100000 in
theorem dig_at (d : Nat) (h : d < 16) (h' : d < (⟨#[48, 49, 50, 51, 52, 53, 54, 55, 56, 57, 97, 98, 99, 100, 101, 102, 103, 104, 105, 106, 107, 108, 109, 110, 111, 112, 113, 114, 115, 116, 117, 118, 119, 120, 121, 122]⟩ : ByteArray).size) :
    (⟨#[48, 49, 50, 51, 52, 53, 54, 55, 56, 57, 97, 98, 99, 100, 101, 102, 103, 104, 105, 106, 107, 108, 109, 110, 111, 112, 113, 114, 115, 116, 117, 118, 119, 120, 121, 122]⟩ : ByteArray)[d] = hdig d := by
  have := hdigs ⟨d, h⟩
  exact (Array.getElem?_eq_some_iff.1 ((Array.getElem?_toList ..).symm.trans this)).2
set_option maxRecDepth 100000 in
theorem slice65 (g k : Nat) (hk : k < 8) (wx : World) : (Instr.sliceAt 137 (.pointer (some ⟨g, 0, none⟩)) (some (.int .i64 (((65 - k : Nat) : Int) - 1))) none none).run Tryz.prog wx = .ok (.slice (some ⟨g, 65 - k - 1, none⟩) (k + 1) (k + 1)) wx := by
  have h := run_sliceAt_array_l (P := Tryz.prog) wx 137 ⟨g, 0, none⟩ Tryz.underlying137 .i64 (((65 - k : Nat) : Int) - 1) (by omega) (by show _ ≤ ((65 : Nat) : Int); omega)
  have e : (((65 - k : Nat) : Int) - 1).toNat = 65 - k - 1 := by omega
  have e1 : Tryz.prog.elem 137 = 5 := by kernel_rfl
  have e2 : Tryz.prog.arrayLen 137 = 65 := by kernel_rfl
  rw [h, e, e1, e2]
  have hs : (sizeOf 5).run Tryz.prog wx = .ok 1 wx := Tryz.sizeOf5 ..
  rw [hs]
  show Result.ok (slicedAt ⟨g, 0, none⟩ (65 - k - 1) 65 65 1) wx = _
  unfold slicedAt
  rw [if_neg (by omega), Nat.mul_one, show 65 - (65 - k - 1) = k + 1 by omega]
  unfold Addr.add
  split <;> simp_all
set_option maxRecDepth 100000 in
theorem conv65 (g k : Nat) (cs : Array Value) (out : List UInt8) (w : World) (hB : Blk w g 137 cs) (hd : cs.toList.drop (65 - k - 1) = u8s out) (hl : out.length = k + 1) :
    (convert 22 9 (.slice (some ⟨g, 65 - k - 1, none⟩) (k + 1) (k + 1))).run Tryz.prog w = .ok (.string ⟨out.toArray⟩) w := by
  have hx := run_convert_bytes_arg (P := Tryz.prog) w 22 5 Tryz.underlying22 Tryz.underlying5 g (65 - k - 1) (k + 1) (k + 1) (out.map fun (b : UInt8) => (b.toNat : Int)) (by simpa using hl) (fun i hi => by
    rw [hB.cell]
    have h1 : (cs.toList.drop (65 - k - 1))[i]? = (u8s out)[i]? := by rw [hd]
    rw [List.getElem?_drop] at h1
    rw [← Array.getElem?_toList, h1]
    unfold u8s
    rw [List.getElem?_map, List.getElem?_eq_getElem (by omega)]
    simp [List.getD, List.getElem?_eq_getElem (show i < out.length by omega)]) 9 Tryz.underlying9
  rw [hx]
  have : strOfNums (out.map fun (b : UInt8) => (b.toNat : Int)) = ⟨out.toArray⟩ := by
    unfold strOfNums
    congr 2
    rw [List.map_map]
    conv => rhs; rw [← List.map_id out]
    refine List.map_congr_left fun b _ => ?_
    simp
  rw [this]
set_option maxRecDepth 100000 in
theorem set65 (cs : Array Value) (k : Nat) (suf : List UInt8) (d : UInt8) (hs : cs.size = 65) (hk : k < 8) (hd : cs.toList.drop (65 - k) = u8s suf) : (cs.setIfInBounds (65 - k - 1) (.int .u8 (d.toNat : Int))).toList.drop (65 - k - 1) = u8s (d :: suf) := by
  rw [Array.toList_setIfInBounds, drop_set _ _ _ (by simp [hs]; omega), show 65 - k - 1 + 1 = 65 - k by omega, hd]; rfl

set_option maxRecDepth 100000 in
set_option maxHeartbeats 3200000 in
theorem formatBits_of (n : Nat) (w : World) (hn : n < 4294967296) (ht : Tz w) :
    Calls Tryz.prog 93 #[.slice none 0 0, .int .u64 n, .int .i64 16, .bool false, .bool false] w fun e w' => e = .returned (.tuple #[.slice none 0 0, .string ⟨(hexf 8 n).toArray⟩]) ∧ Below w.heap.size w w' := by
  have hbel : Below w.heap.size w (w.alloc (.cells Tryz.zeroCells137 137)) := (Below.refl _ _).alloc (Nat.le_refl _) _
  have HP := Lib.hid pow2_of
  have HT := Lib.hid (tz_of (w.alloc (.cells Tryz.zeroCells137 137)) (ht.below hbel (Nat.le_refl _)))
  have HBel := Lib.hid hbel
  have HZ := Lib.hid (show Tryz.zeroCells137.size = 65 by kernel_rfl)
  clear ht hbel
  go_enter Tryz.func93, Tryz.ntmps93
  go_wp2_with (first | (go_at_call 113; (with_reducible refine (HP.out _).mono ?_); rintro e w2 ⟨rfl, rfl⟩) | (go_at_call 114; (with_reducible refine (HT.out).mono ?_); rintro e w3 ⟨rfl, rfl⟩))
  go_loopw [1, 13] (fun u i wr => ∃ (W : World) (m k : Nat) (cs : Array Value) (suf : List UInt8), W = wr ∧ u = .int .u64 m ∧ m < 4294967296 ∧ k < 8 ∧ i = .int .i64 ((65 - k : Nat) : Int) ∧ Hid (HexRel n m k suf) ∧ Hid (cs.size = 65) ∧ Hid (cs.toList.drop (65 - k) = u8s suf) ∧
      Blk wr w.heap.size 137 cs ∧ Below w.heap.size w wr) (fun u _ _ => (intOf u).toNat)
  case atStart => exact ⟨_, n, 0, _, [], rfl, rfl, hn, by omega, rfl, HexRel.start hn, HZ.out, List.drop_eq_nil_of_le (by simp [HZ.out]), blk_new w _ _ _ rfl, HBel.out⟩
  case round =>
    clear HZ HBel
    obtain ⟨W, m, k, cs, suf, rfl, rfl, hm, hk, rfl, hR, hs, hd, hB, hb⟩ := hrel
    have hbits := and15 m hm
    have hm16 : m % 16 < 16 := Nat.mod_lt _ (by decide)
    have hcl : W.cell? ⟨w.heap.size, 65 - k - 1, none⟩ = some (cs[65 - k - 1]'(by rw [hs.out]; omega)) := by rw [hB.cell, Array.getElem?_eq_getElem]
    have hfr := hB.frozen (65 - k - 1)
    have HS := Lib.hid fun u => hB.set_ (65 - k - 1) u
    have HBs := Lib.hid fun u => hb.setCell (p := ⟨w.heap.size, 65 - k - 1, none⟩) (Nat.le_refl _) u
    generalize cs[65 - k - 1]'_ = old at hcl
    clear hB hb
    by_cases h16 : 16 ≤ m
    · have hdg := fun h' => dig_at (m % 16) hm16 h'
      have HR2 := Lib.hid (hR.out.round h16)
      have HD2 := Lib.hid (set65 cs k suf (hdig (m % 16)) hs.out hk hd.out)
      go_wp2
      go_roundw
      case rel => exact ⟨_, m / 16, k + 1, _, hdig (m % 16) :: suf, rfl, by go_num, by omega, HR2.out.2.1, by go_num, HR2.out, by show Array.size _ = _; rw [Array.size_setIfInBounds]; exact hs.out, by have := HD2.out; rw [show 65 - k - 1 = 65 - (k + 1) by omega] at this; exact this, HS.out _, HBs.out _⟩
      case measure => simp [intOf]; omega
    · have hdg := fun h' => dig_at m (by omega) h'
      have HR2 := Lib.hid (hR.out.last (by omega))
      have hsl := slice65 w.heap.size k hk
      have hcv := conv65 w.heap.size k _ (hdig m :: suf) _ (HS.out (.int .u8 ((hdig m).toNat : Int))) (set65 cs k suf (hdig m) hs.out hk hd.out) (by simp [hR.out.1])
      rw [← HR2.out] at hcv
      go_wp2
      go_ret2
      exact ⟨rfl, HBs.out _⟩
theorem formatBits_b (n : Nat) (w : World) (hn : n < 4294967296) (ht : Tz w) (b : Bool) (hb : b = false) :
    Calls Tryz.prog 93 #[.slice none 0 0, .int .u64 n, .int .i64 16, .bool b, .bool false] w fun e w' => e = .returned (.tuple #[.slice none 0 0, .string ⟨(hexf 8 n).toArray⟩]) ∧ Below w.heap.size w w' := by
  subst hb; exact formatBits_of n w hn ht
set_option maxRecDepth 100000 in
set_option maxHeartbeats 800000 in
theorem formatInt16_in (n : Nat) (w : World) (hn : n < 4294967296) (ht : Tz w) :
    Calls Tryz.prog 79 #[.int .i64 n, .int .i64 16] w fun e w' => e = .returned (.string ⟨(hexf 8 n).toArray⟩) ∧ Below w.heap.size w w' := by
  have HF := Lib.hid (formatBits_b n w hn ht (decide ((n : Int) < 0)) (decide_eq_false (by omega)))
  clear ht
  obtain ⟨S, hS⟩ : ∃ S : ByteArray, S = ⟨(hexf 8 n).toArray⟩ := ⟨_, rfl⟩
  rw [← hS] at HF ⊢
  clear hS
  go_enter Tryz.func79, Tryz.ntmps79
  go_wp2_with (go_at_call 93; (with_reducible refine HF.out.mono ?_); rintro e w2 ⟨rfl, hb⟩)
  go_ret
  exact ⟨rfl, hb⟩
set_option maxHeartbeats 800000 in
theorem formatInt16_of (n : Nat) (w : World) (hn : n < 4294967296) (ht : Tz w) :
    Calls Tryz.prog 69 #[.int .i64 n, .int .i64 16] w fun e w' => e = .returned (.string ⟨(hexf 8 n).toArray⟩) ∧ Below w.heap.size w w' := by
  have HF := Lib.hid (formatInt16_in n w hn ht)
  clear ht
  obtain ⟨S, hS⟩ : ∃ S : ByteArray, S = ⟨(hexf 8 n).toArray⟩ := ⟨_, rfl⟩
  rw [← hS] at HF ⊢
  clear hS
  go_enter Tryz.func69, Tryz.ntmps69
  go_wp2_with (go_at_call 79; (with_reducible refine HF.out.mono ?_); rintro e w2 ⟨rfl, hb⟩)
  go_ret
  exact ⟨rfl, hb⟩
end Go.Proofs.YtjcjijfemedojaaGreatDoor
