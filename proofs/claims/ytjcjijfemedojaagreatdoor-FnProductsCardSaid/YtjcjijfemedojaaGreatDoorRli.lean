/- Lists read: the program's side. -/
import Derived.Test.YtjcjijfemedojaaGreatDoorRlt
import Derived.Test.YtjcjijfemedojaaGreatDoorErr
import Derived.Test.YtjcjijfemedojaaGreatDoorShelsplit
import Derived.Lib.SplitLaws
namespace Go.Proofs.YtjcjijfemedojaaGreatDoor
open Go.RowKit

theorem count_of (s : ByteArray) (w : World) : Calls Tryz.prog 59 #[.string s, .string ⟨#[44]⟩] w fun e w' => e = .returned (.int .i64 ((s.data.toList.count 44 : Nat) : Int)) ∧ w = w' := (Tryz.strings_Count_one s 44 w).mono fun _ _ ⟨h1, h2⟩ => ⟨h1, h2.symm⟩
theorem split_of (s : ByteArray) (w : World) (m : Int) (hs : s.size ≤ 1048576) (hm : w.cell? ⟨1, 0, none⟩ = some (.int .i64 m)) :
    Calls Tryz.prog 60 #[.string s, .string ⟨#[44]⟩] w fun e w' => ∃ P : List ByteArray, bts P = parts s.data.toList ∧ e = .returned (.slice (some ⟨w.heap.size, 0, none⟩) P.length P.length) ∧ Txt w' w.heap.size P ∧ Below w.heap.size w w' := by
  refine (Tryz.strings_Split s ⟨#[44]⟩ m w (by omega) hm (Nat.le_refl _)).mono ?_
  rintro e w' ⟨rfl, rfl⟩
  have hP : bts (Lib.splitB ⟨#[44]⟩ 0 (Lib.countB s ⟨#[44]⟩) s) = parts s.data.toList := by
    unfold bts
    rw [Lib.splitB_data]
    exact splitK_parts _ _ (Nat.le_refl _)
  have hl : (Lib.splitB ⟨#[44]⟩ 0 (Lib.countB s ⟨#[44]⟩) s).length = Lib.countB s ⟨#[44]⟩ + 1 := by
    have h := congrArg List.length hP
    rw [parts_len, ← Lib.count_one] at h
    simpa [bts] using h
  refine ⟨_, hP, by rw [hl], ⟨_, blk_new w _ _ _ rfl, fun j hj => ?_⟩, (Below.refl _ _).alloc (Nat.le_refl _) _⟩
  simp [List.getD, List.getElem?_eq_getElem hj]

end Go.Proofs.YtjcjijfemedojaaGreatDoor
