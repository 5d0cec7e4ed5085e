/- Eight digits read: readNumber. -/
import Derived.Test.YtjcjijfemedojaaGreatDoorRnw
namespace Go.Proofs.YtjcjijfemedojaaGreatDoor
open Go.RowKit Fl

def rnEnd (o : Option Nat) : Ending := match o with
  | none => .returned (.tuple #[.float .f32 0, .bool false])
  | some n => .returned (.tuple #[.float .f32 n, .bool true])
theorem pu_le : ∀ (l : List UInt8) (n m : Nat), n ≤ 4294967295 → pu n l = .ok m → m ≤ 4294967295
  | [], n, m, hn, h => by
    have e : n = m := by injection h
    omega
  | c :: r, n, m, hn, h => by
    cases hd : dv c with
    | none => rw [pu_none hd] at h; cases h
    | some d =>
      by_cases ho : 16 * n + d ≤ 4294967295
      · rw [pu_step hd ho] at h; exact pu_le r _ m ho h
      · rw [pu_over hd ho] at h; cases h
theorem puT_ok {l : List UInt8} {n : Nat} (h : puT l = .ok n) : pu 0 l = .ok n ∧ n < 4294967296 := by
  unfold puT at h
  split at h
  · cases h
  · exact ⟨h, by have := pu_le l 0 n (by omega) h; omega⟩
theorem rn_puT {l : List UInt8} {n : Nat} (h : rn l = some n) : puT l = .ok n ∧ hx8 n = l := by
  obtain ⟨h1, _, h3⟩ := rn_pu h
  have hne : l ≠ [] := fun e => by have := (rn_yes h).1; rw [e] at this; simp at this
  exact ⟨by rw [puT, if_neg hne]; exact h1, h3⟩
theorem rn_same {l : List UInt8} {n : Nat} (h : puT l = .ok n) (he : hx8 n = l) : rn l = some n := pu_rn (puT_ok h).1 (puT_ok h).2 he
theorem rn_other {l : List UInt8} {n : Nat} (h : puT l = .ok n) (he : hx8 n ≠ l) : rn l = none := by
  cases hr : rn l with
  | none => rfl
  | some m =>
    obtain ⟨h1, h2⟩ := rn_puT hr
    rw [h] at h1
    have e : n = m := by injection h1
    exact absurd (by rw [e]; exact h2) he
theorem rn_bad {l : List UInt8} (h : ∀ n, puT l ≠ .ok n) : rn l = none := by
  cases hr : rn l with
  | none => rfl
  | some m => exact absurd (rn_puT hr).1 (h m)
theorem beq_yes {T t : ByteArray} {l : List UInt8} (h : (T.toList == t.toList) = true) (hT : T.data.toList = l) : l = t.data.toList := by
  rw [ByteArray.toList_eq, ByteArray.toList_eq, hT] at h; simpa using h
theorem beq_no {T t : ByteArray} {l : List UInt8} (h : (T.toList == t.toList) = false) (hT : T.data.toList = l) : l ≠ t.data.toList := by
  rw [ByteArray.toList_eq, ByteArray.toList_eq, hT] at h; simpa using h
set_option maxHeartbeats 1600000 in
theorem readNumber_of (t : ByteArray) (w : World) (hs : t.size ≤ 1048576) (ht : Tz w) (he : ∀ w', Below w.heap.size w w' → Errs w') :
    Calls Tryz.prog 61 #[.string t] w fun e w' => e = rnEnd (rn t.data.toList) ∧ Below w.heap.size w w' := by
  by_cases hx : ∃ n, puT t.data.toList = .ok n
  · obtain ⟨n, hn⟩ := hx
    have hlt := (puT_ok hn).2
    have HP := Lib.hid (parse16_ok t w n hs hn)
    have HS := Lib.hid (fun h => rn_same hn h)
    have HO := Lib.hid (fun h => rn_other hn h)
    have HN := Lib.hid fun w h => numberText_of n w hlt h
    have HT := Lib.hid fun w' (h : Below w.heap.size w w') => ht.below h (Nat.le_refl _)
    have hfrom := call_from32
    clear hn ht he
    go_enter Tryz.func61, Tryz.ntmps61
    go_wp2_with (first | (go_at_call 75; (with_reducible refine HP.out.mono ?_); rintro e w1 ⟨rfl, hb⟩; have K1 := Lib.hid hb; clear hb) | (go_at_call 58; (with_reducible refine (HN.out _ (HT.out _ K1.out)).mono ?_); rintro e w2 ⟨T, hT, rfl, hb2⟩; have HT2 := Lib.hid hT; have K2 := Lib.hid (below_next K1.out hb2); clear hb2 hT))
    · rename_i h
      go_ret2
      exact ⟨by rw [HO.out (beq_no (by simpa using h) HT2.out)]; rfl, K2.out⟩
    · rename_i h
      go_ret2
      exact ⟨by rw [HS.out (beq_yes (by simpa using h) HT2.out)]; rfl, K2.out⟩
  · have hno : ∀ n, puT t.data.toList ≠ .ok n := fun n h => hx ⟨n, h⟩
    have HP := Lib.hid (parse16_bad t w hs hno he)
    have HR := Lib.hid (rn_bad hno)
    clear hno hx ht he
    go_enter Tryz.func61, Tryz.ntmps61
    go_wp2_with (go_at_call 75; (with_reducible refine HP.out.mono ?_); rintro e w1 ⟨⟨v, p, rfl⟩, hb⟩)
    go_ret2
    exact ⟨by rw [HR.out]; rfl, hb⟩
end Go.Proofs.YtjcjijfemedojaaGreatDoor
