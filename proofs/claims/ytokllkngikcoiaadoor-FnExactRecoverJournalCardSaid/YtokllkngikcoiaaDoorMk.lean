/- The law's texts that mark: markText, markStringS, heldStringS. -/
import Derived.Test.YtokllkngikcoiaaDoorSL
import Derived.Test.YtokllkngikcoiaaDoorCs
namespace Go.Proofs.YtokllkngikcoiaaDoor
open Go.RowKit

def mkT (k : Nat) : ByteArray := ⟨(109 :: Lib.decDigits k).toArray⟩
theorem mk_step (r : Nat) (h : 0 < r) (l : List UInt8) : digs (r / 10) ++ (UInt8.ofNat (48 + r % 10) :: l) = digs r ++ l := by
  have := digs_step r
  have hd : digs r = Lib.decDigits r := by unfold digs; rw [if_neg (by omega)]
  rw [hd, ← this]; simp
theorem mk_conv (W : World) (r : Nat) : (convert 40 9 (.slice (some ⟨W.heap.size, 0, none⟩) 1 1)).run Tryd.prog (W.alloc (.cells #[.int .u8 (48 + (r : Int) % 10)] 5)) = .ok (.string ⟨#[UInt8.ofNat (48 + r % 10)]⟩) (W.alloc (.cells #[.int .u8 (48 + (r : Int) % 10)] 5)) := by
  have e : (48 + (r : Int) % 10) = ((UInt8.ofNat (48 + r % 10)).toNat : Int) := by
    rw [UInt8.toNat_ofNat']
    omega
  rw [e]
  exact conv_own (P := Tryd.prog) (B := W.heap.size) (out := [UInt8.ofNat (48 + r % 10)]) 40 5 9 Tryd.underlying40 Tryd.underlying5 Tryd.underlying9 (World.ownsRow_lit W #[_] 1 (Nat.le_refl _) (by decide) rfl) rfl
set_option maxRecDepth 100000 in
set_option maxHeartbeats 1600000 in
theorem markText_of (n : Nat) (w : World) (h1 : 1 ≤ n) (h2 : n ≤ 100000) :
    Calls Tryd.prog 28 #[.int .i64 (n : Int)] w fun e w' => e = .returned (.string (mkT n)) ∧ Below w.heap.size w w' := by
  have hn1 : decide (n = 0) = false := decide_eq_false (by omega)
  have hn2 : ¬ n = 0 := by omega
  go_enter Tryd.func28, Tryd.ntmps28
  go_wp2
  go_loopw [0, 3] (fun kk out wr => ∃ (W : World) (r : Nat) (S : ByteArray), W = wr ∧ kk = .int .i64 (r : Int) ∧ out = .string S ∧ S.size + r ≤ n ∧ Hid (digs r ++ S.data.toList = Lib.decDigits n) ∧ Below w.heap.size w wr) (fun kk _ _ => (intOf kk).toNat)
  case atStart => exact ⟨_, n, ⟨#[]⟩, rfl, rfl, rfl, Nat.le_of_eq (Nat.zero_add n), by show _ = _; unfold digs; rw [if_neg (by omega)]; simp, Below.refl _ _⟩
  case round =>
    obtain ⟨W, r, S, rfl, rfl, rfl, hs, hD, hb⟩ := hrel
    by_cases hr : 0 < r
    · have HB := Lib.hid hb
      have hWs := hb.size
      have HS := Lib.hid (mk_step r hr S.data.toList)
      have hm : (r : Int) % 10 < 10 := by omega
      have hm0 : 0 ≤ (r : Int) % 10 := by omega
      have hc := mk_conv W r
      obtain ⟨C, hC⟩ : ∃ C : ByteArray, C = ⟨#[UInt8.ofNat (48 + r % 10)]⟩ := ⟨_, rfl⟩
      rw [← hC] at hc
      have HC := Lib.hid hC
      have hcs : C.size = 1 := by rw [hC]; rfl
      have HCs := Lib.hid hcs
      have hcl : C.size ≤ 1 := Nat.le_of_eq hcs
      clear hb hC hcs
      go_wp2
      go_roundw
      case rel =>
        refine ⟨_, r / 10, C ++ S, rfl, by go_num, rfl, ?_, ?_, HB.out.alloc hWs _⟩
        · rw [ByteArray.size_append, HCs.out]; omega
        · show _ = _
          rw [ByteArray.data_append, Array.toList_append, HC.out, ← hD.out, ← HS.out]; rfl
      case measure => simp [intOf]; omega
    · obtain rfl : r = 0 := by omega
      have HE := Lib.hid (show S.data.toList = Lib.decDigits n by rw [← hD.out]; rfl)
      have HB := Lib.hid hb
      clear hb hD
      go_wp2
      go_ret
      refine ⟨?_, HB.out⟩
      show Ending.returned (.string (⟨#[109]⟩ ++ S)) = _
      have : (⟨#[109]⟩ ++ S : ByteArray) = mkT n := by
        apply ByteArray.ext
        apply Array.toList_inj.1
        rw [ByteArray.data_append, Array.toList_append, HE.out]; rfl
      rw [this]
end Go.Proofs.YtokllkngikcoiaaDoor
