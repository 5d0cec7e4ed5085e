/- Rules: copied by the law, told valid or not, told the same or not. -/
import Derived.Test.YtkgijboahjiodaaRs
import Derived.Test.YtkgijboahjiodaaList
namespace Go.Proofs.Ytkgijboahjiodaa
open Go.RowKit Fl

def nng32 (x : Nat) : Bool := FloatKind.f32.format.order x 0 == some .gt || FloatKind.f32.format.order x 0 == some .eq
def okRules (a b c d : Nat) : Bool := (fin32 a && nng32 a) && ((fin32 b && nng32 b) && ((fin32 c && nng32 c) && (fin32 d && nng32 d)))
theorem okRules_eq (a b c d : Nat) : okRules a b c d = ([a, b, c, d].all fin32 && (nng32 a && (nng32 b && (nng32 c && nng32 d)))) := by
  have : [a, b, c, d].all fin32 = (fin32 a && (fin32 b && (fin32 c && fin32 d))) := by simp
  rw [this]
  unfold okRules
  generalize fin32 a = e; generalize fin32 b = f; generalize fin32 c = g; generalize fin32 d = h
  generalize nng32 a = i; generalize nng32 b = j; generalize nng32 c = k; generalize nng32 d = l
  revert e f g h i j k l; decide

theorem allf_take (zs : List Nat) (k : Nat) (h : k < zs.length) : (zs.take (k + 1)).all fin32 = ((zs.take k).all fin32 && fin32 (zs.getD k 0)) := by
  rw [List.take_succ_eq_append_getElem h, List.all_append]
  simp [List.getD, List.getElem?_eq_getElem h]
theorem allf_no (zs : List Nat) (k : Nat) (h : k < zs.length) (hv : fin32 (zs.getD k 0) = false) : zs.all fin32 = false := by
  rw [List.all_eq_false]
  refine ⟨zs[k], List.getElem_mem h, ?_⟩
  simp only [List.getD, List.getElem?_eq_getElem h, Option.getD_some] at hv
  simp [hv]
set_option maxHeartbeats 800000 in
theorem areFin_any (b n c : Nat) (zs : List Nat) (w : World) (hr : FRow w (some ⟨b, 0, none⟩) n zs) (hn : n ≤ 1048576) :
    Calls Try.prog 42 #[.slice (some ⟨b, 0, none⟩) n c] w fun e w' => e = .returned (.bool (zs.all fin32)) ∧ Quiet w w' := by
  have HL := Lib.hid hr.len
  have HR := Lib.hid hr
  clear hr
  go_enter Try.func42, Try.ntmps42
  go_wp2
  go_loopw [7, 4] (fun i _ wr => ∃ k : Nat, k ≤ n ∧ i = .int .i64 k ∧ Hid ((zs.take k).all fin32 = true) ∧ Quiet w wr) (fun i _ _ => n - (intOf i).toNat)
  case atStart => exact ⟨0, Nat.zero_le _, rfl, rfl, Quiet.refl _⟩
  case round =>
    obtain ⟨k, hk, rfl, hv, m, rfl⟩ := hrel
    by_cases hlt : k < n
    · have hx := HR.out.cell _ rfl k hlt
      have e1 : (⟨b, 0, none⟩ : Addr).add k = ⟨b, k, none⟩ := by unfold Addr.add; split <;> simp_all
      rw [e1] at hx
      clear e1
      have HT := Lib.hid (allf_take zs k (by rw [HL.out]; omega))
      have HF := Lib.hid (allf_no zs k (by rw [HL.out]; omega))
      generalize zs.getD k 0 = z at hx HT HF
      have HC := Lib.hid fun w' => isFinite_any z w'
      cases hb : fin32 z
      · rw [hb] at HC HF
        have HF' := Lib.hid (HF.out rfl)
        clear hb HF HT
        go_wp2_with (go_at_call 47; go_loud (refine (HC.out _).mono ?_); rintro e w1 ⟨rfl, m1, rfl⟩)
        go_ret
        exact ⟨by rw [HF'.out]; rfl, _, rfl⟩
      · rw [hb] at HC HT
        have HT' := Lib.hid (show (zs.take (k + 1)).all fin32 = true by rw [HT.out, hv.out]; rfl)
        clear hb HF HT hv
        go_wp2_with (go_at_call 47; go_loud (refine (HC.out _).mono ?_); rintro e w1 ⟨rfl, m1, rfl⟩)
        go_roundw
        case rel => exact ⟨k + 1, by omega, by go_num, HT', _, rfl⟩
        case measure => simp [intOf]; omega
    · have HV := Lib.hid (show zs.all fin32 = true by have := hv.out; rwa [List.take_of_length_le (by rw [HL.out]; omega)] at this)
      clear hv
      go_wp2
      go_ret
      exact ⟨by rw [HV.out]; rfl, _, rfl⟩
theorem frow_four (w : World) (t : TypeId) (a b c d : Nat) : FRow (w.alloc (.cells #[.float .f32 a, .float .f32 b, .float .f32 c, .float .f32 d] t)) (some ⟨w.heap.size, 0, none⟩) 4 [a, b, c, d] :=
  ⟨rfl, fun _ => ⟨_, rfl⟩, fun x hx i hi => by
    obtain rfl := Option.some.inj hx
    have h := (World.ownsRow_lit (base := 0) (e := t) (size := 1) w #[.float .f32 a, .float .f32 b, .float .f32 c, .float .f32 d] 4 (Nat.zero_le _) (by decide) rfl).cells rfl i (.float .f32 ([a, b, c, d].getD i 0))
    refine h ?_
    match i, hi with
    | 0, _ => rfl
    | 1, _ => rfl
    | 2, _ => rfl
    | 3, _ => rfl⟩
theorem frow_four' (w : World) (t : TypeId) (a b c d g : Nat) (hg : w.heap.size = g) : FRow (w.alloc (.cells #[.float .f32 a, .float .f32 b, .float .f32 c, .float .f32 d] t)) (some ⟨g, 0, none⟩) 4 [a, b, c, d] := by
  subst hg; exact frow_four w t a b c d
theorem size_one (w : World) (o : Obj) (k : Nat) : ((w.alloc o).drewN k).heap.size = w.heap.size + 1 := by show (w.alloc o).heap.size = _; simp
end Go.Proofs.Ytkgijboahjiodaa
