/- Contracts of the sums of lists of 32-bit numbers: what both sides give is the same number, or a not-a-number. -/
import Derived.Test.YtjcjijfemedojaaGreatDoorList
namespace Go.Proofs.YtjcjijfemedojaaGreatDoor
open Go.RowKit Fl

theorem write_not_nan (f : Ieee.Format) (_hb : f.binade ≤ f.infRung) (d : Ieee.Datum) (h : d.isNaN = false) : (f.read (f.write d)).isNaN = false := by
  have key : ∀ neg r, r ≤ f.infRung → (f.read (f.word neg r)).isNaN = false := by
    intro neg r hr
    rw [read_word f neg r (Nat.lt_of_le_of_lt hr f.infRung_lt)]
    by_cases h1 : r < f.binade
    · rw [if_pos h1]; rfl
    · rw [if_neg h1]
      by_cases h2 : r < f.infRung
      · rw [if_pos h2]; rfl
      · rw [if_neg h2, if_pos (by omega)]; rfl
  cases d with
  | nan s t => simp [Ieee.Datum.isNaN] at h
  | infinity s => exact key s _ (Nat.le_refl _)
  | number s m e =>
    show (f.read (f.nearest s m e)).isNaN = false
    unfold Ieee.Format.nearest
    split
    · exact key s 0 (Nat.zero_le _)
    · exact key s _ (Nat.min_le_right _ _)

theorem sum_not_nan (a b d : Ieee.Datum) (h : a.sum b = some d) : d.isNaN = false := by
  cases a <;> cases b <;> simp only [Ieee.Datum.sum] at h <;> first | (cases h; rfl) | (split at h <;> first | (cases h; rfl) | cases h) | cases h
theorem product_not_nan (a b d : Ieee.Datum) (h : a.product b = some d) : d.isNaN = false := by
  cases a <;> cases b <;> simp only [Ieee.Datum.product] at h <;> first | (cases h; rfl) | (split at h <;> first | (cases h; rfl) | cases h) | cases h

theorem map_write_not_nan (f : Ieee.Format) (hb : f.binade ≤ f.infRung) {d : Option Ieee.Datum} {r : Nat} (h : d.map f.write = some r) (hd : ∀ x, d = some x → x.isNaN = false) : (f.read r).isNaN = false := by
  cases d with
  | none => cases h
  | some x => cases h; exact write_not_nan f hb x (hd x rfl)

theorem add32_not_nan {x y r : Nat} (h : floatBits .add .f32 x y = some r) : nan32 r = false :=
  map_write_not_nan Ieee.single (by decide) (d := (Ieee.single.read x).sum (Ieee.single.read y)) h (fun _ hd => sum_not_nan _ _ _ hd)
theorem mul32_not_nan {x y r : Nat} (h : floatBits .mul .f32 x y = some r) : nan32 r = false :=
  map_write_not_nan Ieee.single (by decide) (d := (Ieee.single.read x).product (Ieee.single.read y)) h (fun _ hd => product_not_nan _ _ _ hd)

theorem nan_read {f : Ieee.Format} {x : Nat} (h : (f.read x).isNaN = true) : ∃ s t, f.read x = .nan s t := by
  cases hx : f.read x with
  | nan s t => exact ⟨s, t, rfl⟩
  | number s m e => simp [hx, Ieee.Datum.isNaN] at h
  | infinity s => simp [hx, Ieee.Datum.isNaN] at h
theorem add32_nan_left {x : Nat} (y : Nat) (h : nan32 x = true) : floatBits .add .f32 x y = none := by
  obtain ⟨s, t, hx⟩ := nan_read h
  show Ieee.single.add x y = none
  unfold Ieee.Format.add; rw [hx]; cases Ieee.single.read y <;> rfl
theorem add32_nan_right (x : Nat) {y : Nat} (h : nan32 y = true) : floatBits .add .f32 x y = none := by
  obtain ⟨s, t, hx⟩ := nan_read h
  show Ieee.single.add x y = none
  unfold Ieee.Format.add; rw [hx]; cases Ieee.single.read x <;> rfl

/-- 'v is the number o, or a not-a-number where o is none' -/
def Rep (v : Nat) : Option Nat → Prop
  | none => nan32 v = true
  | some r => v = r ∧ nan32 r = false

def addO (o : Option Nat) (x : Nat) : Option Nat := o.bind fun s => floatBits .add .f32 s x
theorem addO_nan {o : Option Nat} {x r : Nat} (h : addO o x = some r) : nan32 r = false := by
  cases o with
  | none => cases h
  | some s => exact add32_not_nan h
theorem foldl_addO_nan (zs : List Nat) : ∀ (o : Option Nat), (∀ r, o = some r → nan32 r = false) → ∀ r, zs.foldl addO o = some r → nan32 r = false := by
  induction zs with
  | nil => intro o h r hr; exact h r hr
  | cons x zs ih => intro o h r hr; exact ih (addO o x) (fun r h => addO_nan h) r hr
def sumO (zs : List Nat) : Option Nat := zs.foldl addO (some 0)
theorem sumO_snoc (zs : List Nat) (x : Nat) : sumO (zs ++ [x]) = addO (sumO zs) x := by simp [sumO, List.foldl_append]
theorem sumO_nan {zs : List Nat} {r : Nat} (h : sumO zs = some r) : nan32 r = false := foldl_addO_nan zs _ (fun r h => by cases h; decide) r h
theorem rep_start : Rep 0 (some 0) := ⟨rfl, by decide⟩

/-- one addition: its result, in whatever world; the world has drawn, or not -/
theorem add_step {P : Program} (t : TypeId) (v x : Nat) (o : Option Nat) (w : World) (h : Rep v o) :
    ∃ r w', (binOp .add t (.float .f32 v) (.float .f32 x)).run P w = .ok (.float .f32 r) w' ∧ Rep r (addO o x) ∧ Quiet w w' := by
  cases hf : floatBits .add .f32 v x with
  | none =>
    refine ⟨_, _, run_arith_nan .add t .f32 v x w (by simp) hf, ?_, Quiet.one _⟩
    have : addO o x = none := by
      cases o with
      | none => rfl
      | some r => obtain ⟨rfl, _⟩ := h; exact hf
    rw [this]
    exact nanb32_nan _ _ _
  | some r =>
    refine ⟨r, w, run_float_arith w .add t .f32 v x r hf, ?_, Quiet.refl _⟩
    cases o with
    | none => have := add32_nan_left x h; rw [hf] at this; cases this
    | some s => obtain ⟨rfl, _⟩ := h; exact (show Rep r (floatBits .add .f32 v x) by rw [hf]; exact ⟨rfl, add32_not_nan hf⟩)

theorem take_snocN (zs : List Nat) (k : Nat) (h : k < zs.length) : zs.take (k + 1) = zs.take k ++ [zs.getD k 0] := by
  rw [List.take_succ_eq_append_getElem h]; simp [List.getD, List.getElem?_eq_getElem h]



/-- 'what was given is the number r' -/
theorem Calls.rep_some {P : Program} {f : FuncId} {args : Array Value} {w : World} {o : Option Nat} {r : Nat} (ho : o = some r)
    (h : Calls P f args w fun e w' => (∃ v, e = .returned (.tuple #[.float .f32 v, .bool true]) ∧ Rep v o) ∧ Quiet w w') :
    Calls P f args w fun e w' => e = .returned (.tuple #[.float .f32 r, .bool true]) ∧ Quiet w w' :=
  h.mono fun e w' ⟨⟨v, he, hv⟩, hq⟩ => by subst ho; obtain ⟨rfl, _⟩ := hv; exact ⟨he, hq⟩
theorem Calls.rep_none {P : Program} {f : FuncId} {args : Array Value} {w : World} {o : Option Nat} (ho : o = none)
    (h : Calls P f args w fun e w' => (∃ v, e = .returned (.tuple #[.float .f32 v, .bool true]) ∧ Rep v o) ∧ Quiet w w') :
    Calls P f args w fun e w' => (∃ v, e = .returned (.tuple #[.float .f32 v, .bool true]) ∧ nan32 v = true) ∧ Quiet w w' :=
  h.mono fun e w' ⟨⟨v, he, hv⟩, hq⟩ => by subst ho; exact ⟨⟨v, he, hv⟩, hq⟩
theorem rep_nan {o : Option Nat} {v r : Nat} (h : Rep v o) (ho : o = some r) : nan32 r = false := by subst ho; exact h.1 ▸ h.2

end Go.Proofs.YtjcjijfemedojaaGreatDoor
