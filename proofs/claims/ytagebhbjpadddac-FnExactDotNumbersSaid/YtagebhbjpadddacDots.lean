/- Contracts of the sums of products of two lists of 32-bit numbers. -/
import Derived.Test.YtagebhbjpadddacSums
namespace Go.Proofs.Ytagebhbjpadddac
open Go.RowKit Fl

theorem mul32_nan_none {x y : Nat} (s : Nat) {b : Nat} (h : nan32 b = true) (_hm : floatBits .mul .f32 x y = none) : floatBits .add .f32 s b = none := add32_nan_right s h

def dotStep (o : Option Nat) (x y : Nat) : Option Nat := o.bind fun s => (floatBits .mul .f32 x y).bind fun p => floatBits .add .f32 s p
def dotO (zs : List (Nat × Nat)) : Option Nat := zs.foldl (fun o p => dotStep o p.1 p.2) (some 0)
theorem dotO_snoc (zs : List (Nat × Nat)) (p : Nat × Nat) : dotO (zs ++ [p]) = dotStep (dotO zs) p.1 p.2 := by simp [dotO, List.foldl_append]
theorem dotStep_nan {o : Option Nat} {x y r : Nat} (h : dotStep o x y = some r) : nan32 r = false := by
  unfold dotStep at h
  cases o with
  | none => cases h
  | some s =>
    cases hm : floatBits .mul .f32 x y with
    | none => rw [hm] at h; cases h
    | some p => rw [hm] at h; exact add32_not_nan h
theorem foldl_dot_nan (zs : List (Nat × Nat)) : ∀ (o : Option Nat), (∀ r, o = some r → nan32 r = false) → ∀ r, zs.foldl (fun o p => dotStep o p.1 p.2) o = some r → nan32 r = false := by
  induction zs with
  | nil => intro o h r hr; exact h r hr
  | cons x zs ih => intro o h r hr; exact ih (dotStep o x.1 x.2) (fun r h => dotStep_nan h) r hr
theorem dotO_nan {zs : List (Nat × Nat)} {r : Nat} (h : dotO zs = some r) : nan32 r = false := foldl_dot_nan zs _ (fun r h => by cases h; decide) r h

theorem take_zip (xs ys : List Nat) (k : Nat) (h1 : k < xs.length) (h2 : k < ys.length) : (xs.zip ys).take (k + 1) = (xs.zip ys).take k ++ [(xs.getD k 0, ys.getD k 0)] := by
  have hk : k < (xs.zip ys).length := by simp; omega
  rw [List.take_succ_eq_append_getElem hk]
  simp [List.getD, List.getElem?_eq_getElem h1, List.getElem?_eq_getElem h2]

theorem rep_mul_none {v x y : Nat} {o : Option Nat} (_h : Rep v o) (hm : floatBits .mul .f32 x y = none) : dotStep o x y = none := by
  unfold dotStep; cases o <;> simp [hm]
theorem rep_add {v x y p : Nat} {o : Option Nat} (h : Rep v o) (hm : floatBits .mul .f32 x y = some p) : floatBits .add .f32 v p = dotStep o x y := by
  unfold dotStep
  cases o with
  | none => rw [add32_nan_left p h]; rfl
  | some r => obtain ⟨rfl, _⟩ := h; simp [hm]

set_option maxHeartbeats 1600000 in
theorem l01Dot_any (ao bo : Option Addr) (n c c' : Nat) (xs ys : List Nat) (w : World) (ha : FRow w ao n xs) (hb : FRow w bo n ys) (hm : n ≤ 9223372036854775807) :
    Calls Try.prog 48 #[.slice ao n c, .slice bo n c'] w fun e w' => (∃ v, e = .returned (.float .f32 v) ∧ Rep v (dotO (xs.zip ys))) ∧ Quiet w w' := by
  have hn : xs.length = n := ha.len
  have hn' : ys.length = n := hb.len
  go_enter Try.func48, Try.ntmps48
  go_wp2
  go_loopw [5, 6] (fun s i wr => ∃ k v : Nat, k ≤ n ∧ i = .int .i64 k ∧ s = .float .f32 v ∧ Hid (Rep v (dotO ((xs.zip ys).take k))) ∧ Quiet w wr) (fun _ i _ => n - (intOf i).toNat)
  case atStart => exact ⟨0, 0, Nat.zero_le _, rfl, rfl, rep_start, Quiet.refl _⟩
  case round =>
    obtain ⟨k, v, hk, rfl, rfl, hr, hq⟩ := hrel
    by_cases hlt : k < n
    · obtain ⟨a, rfl⟩ := ha.addr (by omega)
      obtain ⟨b, rfl⟩ := hb.addr (by omega)
      have hx := (ha.quiet hq).cell a rfl k hlt
      have hy := (hb.quiet hq).cell b rfl k hlt
      have hs := Lib.hid (take_zip xs ys k (by omega) (by omega))
      rename_i wr
      clear ha hb
      generalize xs.getD k 0 = x at hx hs
      generalize ys.getD k 0 = y at hy hs
      have hxn : ∀ m, (wr.drewN m).cell? (a.add k) = some (.float .f32 x) := fun m => hx
      have hyn : ∀ m, (wr.drewN m).cell? (b.add k) = some (.float .f32 y) := fun m => hy
      cases hmul : floatBits .mul .f32 x y with
      | none =>
        have hN : Hid (dotStep (dotO ((xs.zip ys).take k)) x y = none) := rep_mul_none hr.out hmul
        have h1 := fun w => run_arith_nan (P := Try.prog) .mul 26 .f32 x y w (by simp) hmul
        have h2 := fun w' w => run_arith_nan (P := Try.prog) .add 26 .f32 v (nanb .f32 x y w') w (by simp) (add32_nan_right v (nanb32_nan x y w'))
        clear hmul hxn hyn
        go_wp2
        go_region_with (fail)
        all_goals
          go_wp2
          go_roundw
          case rel => exact ⟨k + 1, _, by omega, by go_num, rfl, by show Rep _ _; rw [hs.out, dotO_snoc, hN.out]; exact nanb32_nan _ _ _, hq.trans ⟨3, rfl⟩⟩
          case measure => simp [intOf]; omega
      | some p =>
        have hN : Hid (floatBits .add .f32 v p = dotStep (dotO ((xs.zip ys).take k)) x y) := rep_add hr.out hmul
        have h1 := fun w => run_float_arith (P := Try.prog) w .mul 26 .f32 x y p hmul
        clear hmul
        cases hadd : floatBits .add .f32 v p with
        | none =>
          have h2 := fun w => run_arith_nan (P := Try.prog) .add 26 .f32 v p w (by simp) hadd
          have hA := Lib.hid hadd
          clear hadd hxn hyn
          go_wp2
          go_region_with (fail)
          all_goals
            go_wp2
            go_roundw
            case rel => exact ⟨k + 1, _, by omega, by go_num, rfl, by show Rep _ _; rw [hs.out, dotO_snoc, ← hN.out, hA.out]; exact nanb32_nan _ _ _, hq.trans ⟨2, rfl⟩⟩
            case measure => simp [intOf]; omega
        | some r =>
          have h2 := fun w => run_float_arith (P := Try.prog) w .add 26 .f32 v p r hadd
          have hA := Lib.hid hadd
          clear hadd
          go_wp2
          go_quiet (fail)
          go_wp2
          go_roundw
          case rel => exact ⟨k + 1, r, by omega, by go_num, rfl, by show Rep _ _; rw [hs.out, dotO_snoc, ← hN.out, hA.out]; exact ⟨rfl, add32_not_nan hA.out⟩, hq.trans ⟨_, rfl⟩⟩
          case measure => simp [intOf]; omega
    · go_wp2
      go_ret
      exact ⟨⟨v, rfl, by have := hr.out; rwa [List.take_of_length_le (by simp; omega)] at this⟩, hq⟩
theorem mul_step {P : Program} (t : TypeId) (x y : Nat) (w : World) :
    ∃ r w', (binOp .mul t (.float .f32 x) (.float .f32 y)).run P w = .ok (.float .f32 r) w' ∧ Rep r (floatBits .mul .f32 x y) ∧ Quiet w w' := by
  cases hf : floatBits .mul .f32 x y with
  | none => exact ⟨_, _, run_arith_nan .mul t .f32 x y w (by simp) hf, nanb32_nan _ _ _, Quiet.one _⟩
  | some r => exact ⟨r, w, run_float_arith w .mul t .f32 x y r hf, ⟨rfl, mul32_not_nan hf⟩, Quiet.refl _⟩

theorem mulNumber_any (x y : Nat) (w : World) :
    Calls Try.prog 50 #[.float .f32 x, .float .f32 y] w fun e w' => (∃ v, e = .returned (.float .f32 v) ∧ Rep v (floatBits .mul .f32 x y)) ∧ Quiet w w' := by
  obtain ⟨r, w', h1, h2, h3⟩ := mul_step (P := Try.prog) 26 x y w
  have h2' := Lib.hid h2
  clear h2
  go_enter Try.func50, Try.ntmps50
  go_wp2
  go_ret
  exact ⟨⟨r, rfl, h2'.out⟩, h3⟩
theorem rep_dot {v x y p : Nat} {o : Option Nat} {w : World} {P : Program} {t : TypeId} (h : Rep v o) (hp : Rep p (floatBits .mul .f32 x y))
    : ∃ r w', (binOp .add t (.float .f32 v) (.float .f32 p)).run P w = .ok (.float .f32 r) w' ∧ Rep r (dotStep o x y) ∧ Quiet w w' := by
  cases hm : floatBits .mul .f32 x y with
  | none =>
    rw [hm] at hp
    refine ⟨_, _, run_arith_nan .add t .f32 v p w (by simp) (add32_nan_right v hp), ?_, Quiet.one _⟩
    rw [rep_mul_none h hm]
    exact nanb32_nan _ _ _
  | some q =>
    rw [hm] at hp
    obtain ⟨rfl, _⟩ := hp
    have hN := rep_add h hm
    cases hadd : floatBits .add .f32 v p with
    | none =>
      refine ⟨_, _, run_arith_nan .add t .f32 v p w (by simp) hadd, ?_, Quiet.one _⟩
      rw [← hN, hadd]
      exact nanb32_nan _ _ _
    | some r =>
      refine ⟨r, w, run_float_arith w .add t .f32 v p r hadd, ?_, Quiet.refl _⟩
      rw [← hN, hadd]
      exact ⟨rfl, add32_not_nan hadd⟩

set_option maxHeartbeats 1600000 in
theorem dotOf_few (ao bo : Option Addr) (n c c' : Nat) (xs ys : List Nat) (w : World) (ha : FRow w ao n xs) (hb : FRow w bo n ys) (hm : n ≤ 256) :
    Calls Try.prog 49 #[.slice ao n c, .slice bo n c', .func (.func 50) #[] #[]] w fun e w' => (∃ v, e = .returned (.tuple #[.float .f32 v, .bool true]) ∧ Rep v (dotO (xs.zip ys))) ∧ Quiet w w' := by
  have hn : xs.length = n := ha.len
  have hn' : ys.length = n := hb.len
  go_enter Try.func49, Try.ntmps49
  go_wp2
  go_loopw [8, 24] (fun s i wr => ∃ k v : Nat, k ≤ n ∧ i = .int .i64 k ∧ s = .float .f32 v ∧ Hid (Rep v (dotO ((xs.zip ys).take k))) ∧ Quiet w wr) (fun _ i _ => n - (intOf i).toNat)
  case atStart => exact ⟨0, 0, Nat.zero_le _, rfl, rfl, rep_start, Quiet.refl _⟩
  case round =>
    obtain ⟨k, v, hk, rfl, rfl, hr, hq⟩ := hrel
    by_cases hlt : k < n
    · obtain ⟨a, rfl⟩ := ha.addr (by omega)
      obtain ⟨b, rfl⟩ := hb.addr (by omega)
      have hx := (ha.quiet hq).cell a rfl k hlt
      have hy := (hb.quiet hq).cell b rfl k hlt
      have hs := Lib.hid (take_zip xs ys k (by omega) (by omega))
      rename_i wr
      clear ha hb
      generalize xs.getD k 0 = x at hx hs
      generalize ys.getD k 0 = y at hy hs
      go_wp2_with (go_at_call 50; go_loud (refine (mulNumber_any _ _ _).mono ?_); rintro e w2 ⟨⟨p, rfl, hp⟩, hq2⟩; obtain ⟨r, w3, h1, h2, h3⟩ := rep_dot (P := Try.prog) (t := 26) (w := w2) hr.out hp; have h2' := Lib.hid h2; clear h2 hp)
      go_roundw
      case rel => exact ⟨k + 1, r, by omega, by go_num, rfl, by show Rep _ _; rw [hs.out, dotO_snoc]; exact h2'.out, (hq.trans hq2).trans h3⟩
      case measure => simp [intOf]; omega
    · go_wp2
      go_ret2
      exact ⟨⟨v, rfl, by have := hr.out; rwa [List.take_of_length_le (by simp; omega)] at this⟩, hq⟩
set_option maxHeartbeats 800000 in
theorem dotOf_no (ao bo : Option Addr) (n n' c c' : Nat) (f : Value) (w : World) (hm : ¬ (n ≤ 256 ∧ n = n')) (h1 : n ≤ 9223372036854775807) (h2 : n' ≤ 9223372036854775807) :
    Calls Try.prog 49 #[.slice ao n c, .slice bo n' c', f] w fun e w' => e = .returned (.tuple #[.float .f32 0, .bool false]) ∧ w = w' := by
  by_cases he : n = n'
  · subst he
    have h3 : 256 < n := by omega
    clear hm
    go_enter Try.func49, Try.ntmps49
    go_wp2
    go_ret2
    exact ⟨rfl, rfl⟩
  · have he' : ((n : Int) != (n' : Int)) = true := by simp; omega
    clear hm he
    go_enter Try.func49, Try.ntmps49
    go_wp2
    go_ret2
    exact ⟨rfl, rfl⟩
set_option maxHeartbeats 800000 in
theorem dotNumbers_few (ao bo : Option Addr) (n c c' : Nat) (xs ys : List Nat) (w : World) (ha : FRow w ao n xs) (hb : FRow w bo n ys) (hm : n ≤ 256) :
    Calls Try.prog 29 #[.slice ao n c, .slice bo n c'] w fun e w' => (∃ v, e = .returned (.tuple #[.float .f32 v, .bool true]) ∧ Rep v (dotO (xs.zip ys))) ∧ Quiet w w' := by
  go_enter Try.func29, Try.ntmps29
  go_wp2_with (go_at_call 49; go_loud (refine (dotOf_few _ _ _ _ _ xs ys _ ha hb hm).mono ?_); rintro e w' ⟨⟨v, rfl, hv⟩, hq⟩)
  go_ret2
  exact ⟨⟨_, rfl, by assumption⟩, by assumption⟩
set_option maxHeartbeats 800000 in
theorem dotNumbers_no (ao bo : Option Addr) (n n' c c' : Nat) (w : World) (hm : ¬ (n ≤ 256 ∧ n = n')) (h1 : n ≤ 9223372036854775807) (h2 : n' ≤ 9223372036854775807) :
    Calls Try.prog 29 #[.slice ao n c, .slice bo n' c'] w fun e w' => e = .returned (.tuple #[.float .f32 0, .bool false]) ∧ w = w' := by
  go_enter Try.func29, Try.ntmps29
  go_wp2_with (go_at_call 49; go_loud (refine (dotOf_no _ _ _ _ _ _ _ _ hm h1 h2).mono ?_); rintro e w' ⟨rfl, rfl⟩)
  go_ret2
  exact ⟨rfl, rfl⟩
set_option maxHeartbeats 800000 in
theorem specDotNumbers_few (ao bo : Option Addr) (n c c' : Nat) (xs ys : List Nat) (w : World) (ha : FRow w ao n xs) (hb : FRow w bo n ys) (hm : n ≤ 256) :
    Calls Try.prog 28 #[.slice ao n c, .slice bo n c'] w fun e w' => (∃ v, e = .returned (.tuple #[.float .f32 v, .bool true]) ∧ Rep v (dotO (xs.zip ys))) ∧ Quiet w w' := by
  go_enter Try.func28, Try.ntmps28
  go_wp2_with (first | (go_at_call 45; go_loud (refine (l01Few_any _ _ _ _ true (by simp [hm])).mono ?_); rintro e w' ⟨rfl, rfl⟩) | (go_at_call 48; go_loud (refine (l01Dot_any _ _ _ _ _ xs ys _ ha hb (by omega)).mono ?_); rintro e w' ⟨⟨v, rfl, hv⟩, hq⟩))
  go_ret2
  exact ⟨⟨_, rfl, by assumption⟩, by assumption⟩
set_option maxHeartbeats 800000 in
theorem specDotNumbers_no (ao bo : Option Addr) (n n' c c' : Nat) (w : World) (hm : ¬ (n ≤ 256 ∧ n = n')) (h1 : n ≤ 9223372036854775807) (_h2 : n' ≤ 9223372036854775807) :
    Calls Try.prog 28 #[.slice ao n c, .slice bo n' c'] w fun e w' => e = .returned (.tuple #[.float .f32 0, .bool false]) ∧ w = w' := by
  by_cases hf : n ≤ 256
  · have he' : ((n : Int) != (n' : Int)) = true := by simp; omega
    clear hm
    go_enter Try.func28, Try.ntmps28
    go_wp2_with (go_at_call 45; go_loud (refine (l01Few_any _ _ _ _ true (by simp; omega)).mono ?_); rintro e w' ⟨rfl, rfl⟩)
    go_ret2
    exact ⟨rfl, rfl⟩
  · clear hm
    go_enter Try.func28, Try.ntmps28
    go_wp2_with (go_at_call 45; go_loud (refine (l01Few_any _ _ _ _ false (by simp; omega)).mono ?_); rintro e w' ⟨rfl, rfl⟩)
    go_ret2
    exact ⟨rfl, rfl⟩

end Go.Proofs.Ytagebhbjpadddac
