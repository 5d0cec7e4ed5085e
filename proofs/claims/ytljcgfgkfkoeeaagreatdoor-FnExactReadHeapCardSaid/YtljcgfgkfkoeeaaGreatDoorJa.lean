/- A grain read: the reference's side, walked: lists that are not what they must be. -/
import Derived.Test.YtljcgfgkfkoeeaaGreatDoorSpn
import Derived.Test.YtljcgfgkfkoeeaaGreatDoorCrm
import Derived.Test.YtljcgfgkfkoeeaaGreatDoorRfm
import Derived.Test.YtljcgfgkfkoeeaaGreatDoorGri
import Derived.BigRegion
namespace Go.Proofs.YtljcgfgkfkoeeaaGreatDoor
open Go.RowKit

structure Env (w : World) (m : Int) (p : Value) : Prop where
  mx : w.cell? ⟨2, 0, none⟩ = some (.int .i64 m)
  tz : Tz w
  er : ∀ w', Below w.heap.size w w' → Errs w'
  rf : Ref w p
theorem Env.below {w w' : World} {m : Int} {p : Value} (h : Env w m p) (hb : Below w.heap.size w w') : Env w' m p :=
  ⟨by rw [hb.cell (p := ⟨2, 0, none⟩) (World.block_lt_of_cell? w _ h.mx)]; exact h.mx, h.tz.below hb (Nat.le_refl _), fun w2 h2 => h.er w2 (hb.trans (h2.mono hb.size)), h.rf.below hb⟩
theorem Env.drewN {w : World} {m : Int} {p : Value} (h : Env w m p) (n : Nat) : Env (w.drewN n) m p := h.below (below_drewN (Below.refl _ _) n)
set_option maxHeartbeats 800000 in
theorem readComplex8_of (s : ByteArray) (w : World) (m : Int) (p : Value) (hs : s.size ≤ 1048576) (hE : Env w m p) :
    Calls Tryz.prog 34 #[.string s] w (ClAns (clZ s.data.toList) (clOk s.data.toList) w) := by
  have HC := Lib.hid (splitComplex_of s w m hs hE.mx hE.tz hE.er)
  clear hE
  generalize clZ s.data.toList = zs at HC ⊢
  generalize clOk s.data.toList = b at HC ⊢
  go_enter Tryz.func34, Tryz.ntmps34
  go_wp2_with (go_at_call 48; (with_reducible refine HC.out.mono ?_); rintro e w' ⟨v, rfl, ho, hb⟩; have HO := Lib.hid ho; have HB := Lib.hid hb; clear ho hb)
  go_ret2
  exact ⟨v, rfl, HO.out, HB.out⟩
set_option maxHeartbeats 800000 in
theorem readNumbers8_of (s : ByteArray) (w : World) (m : Int) (p : Value) (hs : s.size ≤ 1048576) (hE : Env w m p) :
    Calls Tryz.prog 36 #[.string s] w (FlAns (flZ s.data.toList) (flOk s.data.toList) w) := by
  have HC := Lib.hid (splitNums_of s w m hs hE.mx hE.tz hE.er)
  clear hE
  generalize flZ s.data.toList = zs at HC ⊢
  generalize flOk s.data.toList = b at HC ⊢
  go_enter Tryz.func36, Tryz.ntmps36
  go_wp2_with (go_at_call 51; (with_reducible refine HC.out.mono ?_); rintro e w' ⟨v, rfl, ho, hb⟩; have HO := Lib.hid ho; have HB := Lib.hid hb; clear ho hb)
  go_ret2
  exact ⟨v, rfl, HO.out, HB.out⟩
set_option maxHeartbeats 400000 in
theorem mustF_yes (v : Value) (w : World) : Calls Tryz.prog 50 #[v, .bool true] w fun e w' => e = .returned v ∧ w = w' := by
  have H := Lib.hid fun w => require_yes w
  go_enter Tryz.func50, Tryz.ntmps50
  go_wp2_with (go_at_call 29; ((with_reducible refine (H.out _).mono ?_); rintro e w1 ⟨rfl, rfl⟩))
  go_ret
  exact ⟨rfl, rfl⟩
set_option maxHeartbeats 400000 in
theorem mustF_no (v p : Value) (w : World) (h : Ref w p) : Calls Tryz.prog 50 #[v, .bool false] w fun e w' => e = refused p ∧ w = w' := by
  have H := Lib.hid (require_no w p h)
  unfold refused at H ⊢
  go_enter Tryz.func50, Tryz.ntmps50
  go_wp2_with (go_at_call 29; ((with_reducible refine (H.out).mono ?_); rintro e w1 ⟨rfl, rfl⟩))
  exact ⟨rfl, rfl, rfl⟩
/-- a list of n points, or a refusal -/
def ExC (l : List UInt8) (n : Nat) : Bool := clOk l && decide ((clZ l).length = n)
def ExF (l : List UInt8) (n : Nat) : Bool := flOk l && decide ((flZ l).length = n)
theorem own_len {w : World} {base e n : Nat} {v : Value} {xs : List Value} (h : w.ownsRow base e 1 v n xs) : ∃ ao c, v = .slice ao n c := by
  rcases h.2 with ⟨h1, h2⟩ | ⟨g, cap, cur, hv, _⟩
  · exact ⟨none, 0, by rw [h1, h2]⟩
  · exact ⟨_, _, hv⟩
set_option maxRecDepth 100000 in
set_option maxHeartbeats 1600000 in
theorem exactC_yes (s : ByteArray) (n : Nat) (w : World) (m : Int) (p : Value) (hs : s.size ≤ 1048576) (hE : Env w m p) (hx : ExC s.data.toList n = true) :
    Calls Tryz.prog 33 #[.int .i64 (n : Int), .func (.func 34) #[] #[], .string s] w fun e w' => ∃ ao c, e = .returned (.slice ao n c) ∧ w'.ownsRow w.heap.size 36 1 (.slice ao n c) n ((clZ s.data.toList).map cval) ∧ Below w.heap.size w w' := by
  have HR := readComplex8_of s w m p hs hE
  obtain ⟨h1, h2⟩ : clOk s.data.toList = true ∧ (clZ s.data.toList).length = n := by simpa [ExC] using hx
  rw [h1] at HR
  generalize clZ s.data.toList = zs at HR h2 ⊢
  have HM := Lib.hid fun v w => mustC_yes v w
  have HQ := Lib.hid fun w => require_yes w
  have HR' := Lib.hid HR
  have hnn : ((n : Int) == (n : Int)) = true := beq_self_eq_true _
  clear HR hE hx h1
  subst h2
  go_enter Tryz.func33, Tryz.ntmps33
  go_wp2_with (first | (go_at_call 34; ((with_reducible refine HR'.out.mono ?_); rintro e w1 ⟨v, rfl, ho, hb⟩; go_must (obtain ⟨ao, c, rfl⟩ := own_len ho); have HO := Lib.hid ho; have HB := Lib.hid hb; clear ho hb)) | (go_at_call 47; ((with_reducible refine (HM.out _ _).mono ?_); rintro e w2 ⟨rfl, rfl⟩)) | (go_at_call 29; ((with_reducible refine (HQ.out _).mono ?_); rintro e w2 ⟨rfl, rfl⟩)))
  go_ret
  exact ⟨ao, c, rfl, HO.out, HB.out⟩
set_option maxRecDepth 100000 in
set_option maxHeartbeats 1600000 in
theorem exactC_no (s : ByteArray) (n : Nat) (w : World) (m : Int) (p : Value) (hs : s.size ≤ 1048576) (hE : Env w m p) (hx : ExC s.data.toList n = false) :
    Calls Tryz.prog 33 #[.int .i64 (n : Int), .func (.func 34) #[] #[], .string s] w fun e w' => e = refused p ∧ Below w.heap.size w w' := by
  have HR := readComplex8_of s w m p hs hE
  have HE := Lib.hid fun w' h => (hE.below (w' := w') h).rf
  cases h1 : clOk s.data.toList
  · rw [h1] at HR
    generalize clZ s.data.toList = zs at HR
    have HM := Lib.hid fun v w h => mustC_no v p w h
    have HR' := Lib.hid HR
    clear HR hE hx h1
    unfold refused at HM ⊢
    go_enter Tryz.func33, Tryz.ntmps33
    go_wp2_with (first | (go_at_call 34; ((with_reducible refine HR'.out.mono ?_); rintro e w1 ⟨v, rfl, ho, hb⟩; have HB := Lib.hid hb; have HEr := Lib.hid (HE.out w1 hb); clear ho hb)) | (go_at_call 47; ((with_reducible refine (HM.out _ _ HEr.out).mono ?_); rintro e w2 ⟨rfl, rfl⟩)))
    exact ⟨rfl, rfl, HB.out⟩
  · have h2 : ¬ (clZ s.data.toList).length = n := by simpa [ExC, h1] using hx
    rw [h1] at HR
    generalize clZ s.data.toList = zs at HR h2
    obtain ⟨k, hk⟩ : ∃ k, zs.length = k := ⟨_, rfl⟩
    unfold ClAns at HR
    rw [hk] at HR h2
    have HM := Lib.hid fun v w => mustC_yes v w
    have HQ := Lib.hid fun w h => require_no w p h
    have HR' := Lib.hid HR
    have hne : ((k : Int) == (n : Int)) = false := beq_eq_false_iff_ne.2 (by omega)
    have hne2 : (k == n) = false := beq_eq_false_iff_ne.2 h2
    clear HR hE hx h1 hk
    unfold refused at HQ ⊢
    go_enter Tryz.func33, Tryz.ntmps33
    go_wp2_with (first | (go_at_call 34; ((with_reducible refine HR'.out.mono ?_); rintro e w1 ⟨v, rfl, ho, hb⟩; go_must (obtain ⟨ao, c, rfl⟩ := own_len ho); have HB := Lib.hid hb; have HEr := Lib.hid (HE.out w1 hb); clear ho hb)) | (go_at_call 47; ((with_reducible refine (HM.out _ _).mono ?_); rintro e w2 ⟨rfl, rfl⟩)) | (go_at_call 29; ((with_reducible refine (HQ.out _ HEr.out).mono ?_); rintro e w2 ⟨rfl, rfl⟩)))
    exact ⟨rfl, rfl, HB.out⟩
set_option maxRecDepth 100000 in
set_option maxHeartbeats 1600000 in
theorem exactF_yes (s : ByteArray) (n : Nat) (w : World) (m : Int) (p : Value) (hs : s.size ≤ 1048576) (hE : Env w m p) (hx : ExF s.data.toList n = true) :
    Calls Tryz.prog 35 #[.int .i64 (n : Int), .func (.func 36) #[] #[], .string s] w fun e w' => ∃ ao c, e = .returned (.slice ao n c) ∧ w'.ownsRow w.heap.size 37 1 (.slice ao n c) n ((flZ s.data.toList).map (Value.float .f32)) ∧ Below w.heap.size w w' := by
  have HR := readNumbers8_of s w m p hs hE
  obtain ⟨h1, h2⟩ : flOk s.data.toList = true ∧ (flZ s.data.toList).length = n := by simpa [ExF] using hx
  rw [h1] at HR
  generalize flZ s.data.toList = zs at HR h2 ⊢
  have HM := Lib.hid fun v w => mustF_yes v w
  have HQ := Lib.hid fun w => require_yes w
  have HR' := Lib.hid HR
  have hnn : ((n : Int) == (n : Int)) = true := beq_self_eq_true _
  clear HR hE hx h1
  subst h2
  go_enter Tryz.func35, Tryz.ntmps35
  go_wp2_with (first | (go_at_call 36; ((with_reducible refine HR'.out.mono ?_); rintro e w1 ⟨v, rfl, ho, hb⟩; go_must (obtain ⟨ao, c, rfl⟩ := own_len ho); have HO := Lib.hid ho; have HB := Lib.hid hb; clear ho hb)) | (go_at_call 50; ((with_reducible refine (HM.out _ _).mono ?_); rintro e w2 ⟨rfl, rfl⟩)) | (go_at_call 29; ((with_reducible refine (HQ.out _).mono ?_); rintro e w2 ⟨rfl, rfl⟩)))
  go_ret
  exact ⟨ao, c, rfl, HO.out, HB.out⟩
set_option maxRecDepth 100000 in
set_option maxHeartbeats 1600000 in
theorem exactF_no (s : ByteArray) (n : Nat) (w : World) (m : Int) (p : Value) (hs : s.size ≤ 1048576) (hE : Env w m p) (hx : ExF s.data.toList n = false) :
    Calls Tryz.prog 35 #[.int .i64 (n : Int), .func (.func 36) #[] #[], .string s] w fun e w' => e = refused p ∧ Below w.heap.size w w' := by
  have HR := readNumbers8_of s w m p hs hE
  have HE := Lib.hid fun w' h => (hE.below (w' := w') h).rf
  cases h1 : flOk s.data.toList
  · rw [h1] at HR
    generalize flZ s.data.toList = zs at HR
    have HM := Lib.hid fun v w h => mustF_no v p w h
    have HR' := Lib.hid HR
    clear HR hE hx h1
    unfold refused at HM ⊢
    go_enter Tryz.func35, Tryz.ntmps35
    go_wp2_with (first | (go_at_call 36; ((with_reducible refine HR'.out.mono ?_); rintro e w1 ⟨v, rfl, ho, hb⟩; have HB := Lib.hid hb; have HEr := Lib.hid (HE.out w1 hb); clear ho hb)) | (go_at_call 50; ((with_reducible refine (HM.out _ _ HEr.out).mono ?_); rintro e w2 ⟨rfl, rfl⟩)))
    exact ⟨rfl, rfl, HB.out⟩
  · have h2 : ¬ (flZ s.data.toList).length = n := by simpa [ExF, h1] using hx
    rw [h1] at HR
    generalize flZ s.data.toList = zs at HR h2
    obtain ⟨k, hk⟩ : ∃ k, zs.length = k := ⟨_, rfl⟩
    unfold FlAns at HR
    rw [hk] at HR h2
    have HM := Lib.hid fun v w => mustF_yes v w
    have HQ := Lib.hid fun w h => require_no w p h
    have HR' := Lib.hid HR
    have hne : ((k : Int) == (n : Int)) = false := beq_eq_false_iff_ne.2 (by omega)
    have hne2 : (k == n) = false := beq_eq_false_iff_ne.2 h2
    clear HR hE hx h1 hk
    unfold refused at HQ ⊢
    go_enter Tryz.func35, Tryz.ntmps35
    go_wp2_with (first | (go_at_call 36; ((with_reducible refine HR'.out.mono ?_); rintro e w1 ⟨v, rfl, ho, hb⟩; go_must (obtain ⟨ao, c, rfl⟩ := own_len ho); have HB := Lib.hid hb; have HEr := Lib.hid (HE.out w1 hb); clear ho hb)) | (go_at_call 50; ((with_reducible refine (HM.out _ _).mono ?_); rintro e w2 ⟨rfl, rfl⟩)) | (go_at_call 29; ((with_reducible refine (HQ.out _ HEr.out).mono ?_); rintro e w2 ⟨rfl, rfl⟩)))
    exact ⟨rfl, rfl, HB.out⟩
end Go.Proofs.YtljcgfgkfkoeeaaGreatDoor

namespace Go.Proofs.YtljcgfgkfkoeeaaGreatDoor
open Go.RowKit

def heldL : List UInt8 := [104, 101, 108, 100]
def freeL : List UInt8 := [102, 114, 101, 101]
def gOf (a b c : List UInt8) : Gr := ⟨((clZ a).getD 0 (0, 0)).1, ((clZ a).getD 0 (0, 0)).2, ((clZ a).getD 1 (0, 0)).1, ((clZ a).getD 1 (0, 0)).2, (flZ b).getD 0 0, (flZ b).getD 1 0, (flZ b).getD 2 0, (flZ b).getD 3 0, decide (c = heldL)⟩
def zg : Gr := ⟨0, 0, 0, 0, 0, 0, 0, 0, false⟩
def rg3 (a b c : List UInt8) : Option Gr := if (decide (c = heldL) || decide (c = freeL)) && (ExC a 2 && (ExF b 4 && (gOf a b c).valid)) then some (gOf a b c) else none
def rgF (l : List UInt8) : Option Gr := match cparts 58 l with
  | [a, b, c] => rg3 a b c
  | _ => none
def RgAns (l : List UInt8) : Ending := .returned (.tuple #[((rgF l).getD zg).val, .bool (rgF l).isSome])
theorem rg_short {l : List UInt8} (h : (cparts 58 l).length ≠ 3) : rgF l = none := by
  unfold rgF
  split
  · rename_i e; rw [e] at h; simp at h
  · rfl
theorem rg_three {l a b c : List UInt8} (h : cparts 58 l = [a, b, c]) : rgF l = rg3 a b c := by
  unfold rgF; rw [h]
theorem three_of {α : Type} {L : List α} (h : L.length = 3) : ∃ a b c, L = [a, b, c] := by
  match L, h with
  | [a, b, c], _ => exact ⟨a, b, c, rfl⟩
theorem rg_ans_none {l : List UInt8} (h : rgF l = none) : RgAns l = .returned (.tuple #[zg.val, .bool false]) := by
  unfold RgAns; rw [h]; rfl
theorem rg_ans_some {l : List UInt8} {g : Gr} (h : rgF l = some g) : RgAns l = .returned (.tuple #[g.val, .bool true]) := by
  unfold RgAns; rw [h]; rfl
theorem rg3_state {a b c : List UInt8} (h1 : c ≠ heldL) (h2 : c ≠ freeL) : rg3 a b c = none := by
  unfold rg3; rw [decide_eq_false h1, decide_eq_false h2]; rfl
theorem rg3_points {a b c : List UInt8} (h : ExC a 2 = false) : rg3 a b c = none := by
  unfold rg3; rw [h, Bool.false_and, Bool.and_false]; rfl
theorem rg3_sizes {a b c : List UInt8} (h : ExF b 4 = false) : rg3 a b c = none := by
  unfold rg3; rw [h, Bool.false_and, Bool.and_false, Bool.and_false]; rfl
theorem rg3_bad {a b c : List UInt8} (h : (gOf a b c).valid = false) : rg3 a b c = none := by
  unfold rg3; rw [h, Bool.and_false, Bool.and_false, Bool.and_false]; rfl
theorem rg3_good {a b c : List UInt8} (h0 : c = heldL ∨ c = freeL) (h1 : ExC a 2 = true) (h2 : ExF b 4 = true) (h3 : (gOf a b c).valid = true) : rg3 a b c = some (gOf a b c) := by
  unfold rg3
  rw [h1, h2, h3]
  rcases h0 with h | h <;> simp [h]
/-- three parts in memory -/
theorem txt_three {w : World} {g : Nat} {x y z : ByteArray} (h : Txt w g [x, y, z]) : w.cell? ⟨g, 0, none⟩ = some (.string x) ∧ w.cell? ⟨g, 1, none⟩ = some (.string y) ∧ w.cell? ⟨g, 2, none⟩ = some (.string z) :=
  ⟨h.cell (j := 0) (by simp), h.cell (j := 1) (by simp), h.cell (j := 2) (by simp)⟩
theorem bts_three {P : List ByteArray} {a b c : List UInt8} (h : bts P = [a, b, c]) : ∃ x y z, P = [x, y, z] ∧ x.data.toList = a ∧ y.data.toList = b ∧ z.data.toList = c := by
  have hl : P.length = 3 := by have := congrArg List.length h; simpa [bts] using this
  obtain ⟨x, y, z, rfl⟩ := three_of hl
  simp [bts] at h
  exact ⟨x, y, z, rfl, h.1, h.2.1, h.2.2⟩
theorem c58_le (l p : List UInt8) (h : p ∈ cparts 58 l) : p.length ≤ l.length := by
  induction l generalizing p with
  | nil => have : p = [] := by simpa [cparts] using h
           simp [this]
  | cons c r ih =>
    by_cases hc : c = 58
    · subst hc
      rw [cparts_comma] at h
      rcases List.mem_cons.1 h with rfl | h
      · simp
      · have := ih p h; simp; omega
    · cases hr : cparts 58 r with
      | nil => exact absurd hr (cparts_ne r)
      | cons q qs =>
        rw [cparts_cons hc hr] at h
        rcases List.mem_cons.1 h with rfl | h
        · have := ih q (by rw [hr]; simp); simp; omega
        · have := ih p (by rw [hr]; simp [h]); simp; omega
end Go.Proofs.YtljcgfgkfkoeeaaGreatDoor

namespace Go.Proofs.YtljcgfgkfkoeeaaGreatDoor
open Go.RowKit

theorem bts_len0 (P : List ByteArray) : (bts P).length = P.length := by simp [bts]
theorem own_two {w : World} {base e b c : Nat} {zs : List (Nat × Nat)} (h : w.ownsRow base e 1 (.slice (some ⟨b, 0, none⟩) 2 c) 2 (zs.map cval)) :
    w.cell? ⟨b, 0, none⟩ = some (.complex .f32 (zs.getD 0 (0, 0)).1 (zs.getD 0 (0, 0)).2) ∧ w.cell? ⟨b, 1, none⟩ = some (.complex .f32 (zs.getD 1 (0, 0)).1 (zs.getD 1 (0, 0)).2) := by
  have hl : zs.length = 2 := by have := h.1; simpa using this
  have h0 := h.cellAt 0 (by omega)
  have h1 := h.cellAt 1 (by omega)
  rw [h0, h1]
  match zs, hl with
  | [x, y], _ => exact ⟨rfl, rfl⟩
theorem own_four {w : World} {base e b c : Nat} {zs : List Nat} (h : w.ownsRow base e 1 (.slice (some ⟨b, 0, none⟩) 4 c) 4 (zs.map (Value.float .f32))) :
    w.cell? ⟨b, 0, none⟩ = some (.float .f32 (zs.getD 0 0)) ∧ w.cell? ⟨b, 1, none⟩ = some (.float .f32 (zs.getD 1 0)) ∧ w.cell? ⟨b, 2, none⟩ = some (.float .f32 (zs.getD 2 0)) ∧ w.cell? ⟨b, 3, none⟩ = some (.float .f32 (zs.getD 3 0)) := by
  have hl : zs.length = 4 := by have := h.1; simpa using this
  have h0 := h.cellAt 0 (by omega)
  have h1 := h.cellAt 1 (by omega)
  have h2 := h.cellAt 2 (by omega)
  have h3 := h.cellAt 3 (by omega)
  rw [h0, h1, h2, h3]
  match zs, hl with
  | [x, y, z, t], _ => exact ⟨rfl, rfl, rfl, rfl⟩
/-- a grain stored cell by cell -/
def put7 (w : World) (g : Nat) (x : Gr) : World := ((((((w.setCell ⟨g, 0, none⟩ (.complex .f32 x.ax x.ay)).setCell ⟨g, 1, none⟩ (.complex .f32 x.sx x.sy)).setCell ⟨g, 2, none⟩ (.float .f32 x.r)).setCell ⟨g, 3, none⟩ (.float .f32 x.m)).setCell ⟨g, 4, none⟩ (.float .f32 x.t)).setCell ⟨g, 5, none⟩ (.float .f32 x.s)).setCell ⟨g, 6, none⟩ (.bool x.h)
def arr7 (x : Gr) : Array Value := #[.complex .f32 x.ax x.ay, .complex .f32 x.sx x.sy, .float .f32 x.r, .float .f32 x.m, .float .f32 x.t, .float .f32 x.s, .bool x.h]
theorem arr7_set (a b c d e f g a' b' c' d' e' f' g' : Value) : ((((((((#[a, b, c, d, e, f, g] : Array Value).setIfInBounds 0 a').setIfInBounds 1 b').setIfInBounds 2 c').setIfInBounds 3 d').setIfInBounds 4 e').setIfInBounds 5 f').setIfInBounds 6 g') = #[a', b', c', d', e', f', g'] := by
  simp
theorem put7_blk {w : World} {g : Nat} {t : TypeId} {y : Gr} (h : Blk w g t (arr7 y)) (x : Gr) : Blk (put7 w g x) g t (arr7 x) := by
  have h1 := h.set_ 0 (.complex .f32 x.ax x.ay)
  have h2 := h1.set_ 1 (.complex .f32 x.sx x.sy)
  have h3 := h2.set_ 2 (.float .f32 x.r)
  have h4 := h3.set_ 3 (.float .f32 x.m)
  have h5 := h4.set_ 4 (.float .f32 x.t)
  have h6 := h5.set_ 5 (.float .f32 x.s)
  have h7 := h6.set_ 6 (.bool x.h)
  unfold arr7 at h7
  rw [arr7_set] at h7
  exact h7
theorem put7_below {w0 w : World} {B g : Nat} (h : Below B w0 w) (hg : B ≤ g) (x : Gr) : Below B w0 (put7 w g x) :=
  ((((((h.setCell (p := ⟨g, 0, none⟩) hg _).setCell (p := ⟨g, 1, none⟩) hg _).setCell (p := ⟨g, 2, none⟩) hg _).setCell (p := ⟨g, 3, none⟩) hg _).setCell (p := ⟨g, 4, none⟩) hg _).setCell (p := ⟨g, 5, none⟩) hg _).setCell (p := ⟨g, 6, none⟩) hg _
theorem put7_far {w : World} {g g' : Nat} {t : TypeId} {cs : Array Value} (h : Blk w g' t cs) (hne : g' ≠ g) (x : Gr) : Blk (put7 w g x) g' t cs :=
  ((((((h.far (p := ⟨g, 0, none⟩) hne _).far (p := ⟨g, 1, none⟩) hne _).far (p := ⟨g, 2, none⟩) hne _).far (p := ⟨g, 3, none⟩) hne _).far (p := ⟨g, 4, none⟩) hne _).far (p := ⟨g, 5, none⟩) hne _).far (p := ⟨g, 6, none⟩) hne _
/-- the cells of a grain's block -/
theorem blk7_cells {w : World} {g : Nat} {t : TypeId} {x : Gr} (h : Blk w g t (arr7 x)) : w.cell? ⟨g, 0, none⟩ = some (.complex .f32 x.ax x.ay) ∧ w.cell? ⟨g, 1, none⟩ = some (.complex .f32 x.sx x.sy) ∧ w.cell? ⟨g, 2, none⟩ = some (.float .f32 x.r) ∧ w.cell? ⟨g, 3, none⟩ = some (.float .f32 x.m) ∧
    w.cell? ⟨g, 4, none⟩ = some (.float .f32 x.t) ∧ w.cell? ⟨g, 5, none⟩ = some (.float .f32 x.s) ∧ w.cell? ⟨g, 6, none⟩ = some (.bool x.h) ∧ ∀ j, w.frozen? ⟨g, j, none⟩ = false :=
  ⟨h.cell 0, h.cell 1, h.cell 2, h.cell 3, h.cell 4, h.cell 5, h.cell 6, h.frozen⟩
theorem blk7_new (w : World) (t : TypeId) : Blk (w.alloc (.cells #[.complex .f32 0 0, .complex .f32 0 0, .float .f32 0, .float .f32 0, .float .f32 0, .float .f32 0, .bool false] t)) w.heap.size t (arr7 zg) := blk_new w t _ _ rfl
end Go.Proofs.YtljcgfgkfkoeeaaGreatDoor

namespace Go.Proofs.YtljcgfgkfkoeeaaGreatDoor
open Go.RowKit

theorem str_ne {z : ByteArray} {c l : List UInt8} (hz : z.data.toList = c) (h : c ≠ l) : (z.toList == l) = false ∧ (z.toList != l) = true ∧ ¬ z.toList = l := by
  have e : z.toList = c := by rw [ByteArray.toList_eq, hz]
  rw [e]
  exact ⟨beq_eq_false_iff_ne.2 h, bne_iff_ne.2 h, h⟩
theorem str_eq {z : ByteArray} {c l : List UInt8} (hz : z.data.toList = c) (h : c = l) : (z.toList == l) = true ∧ (z.toList != l) = false ∧ z.toList = l := by
  have e : z.toList = c := by rw [ByteArray.toList_eq, hz]
  rw [e, h]
  exact ⟨beq_self_eq_true _, by simp, rfl⟩
theorem int_ne {n : Nat} {k : Int} (h : (n : Int) ≠ k) : ((n : Int) != k) = true := bne_iff_ne.2 h
set_option maxRecDepth 100000 in
set_option maxHeartbeats 3200000 in
theorem l08RG_state (s : ByteArray) (w : World) (a b c : List UInt8) (hs : s.size ≤ 1048576) (habc : cparts 58 s.data.toList = [a, b, c]) (h1 : c ≠ heldL) (h2 : c ≠ freeL) :
    Calls Tryz.prog 16 #[.string s] w fun e w' => e = RgAns s.data.toList ∧ Below w.heap.size w w' := by
  have HC := Lib.hid fun w => ccut_of 58 58 s w (Lib.hid rfl) hs
  have HA := Lib.hid (rg_ans_none ((rg_three habc).trans (rg3_state h1 h2)))
  have HAbc := Lib.hid habc
  have H1 := Lib.hid h1
  have H2 := Lib.hid h2
  have hsc := run_store_complex Tryz.prog
  have hsf := run_store_float' Tryz.prog
  have HZ := Lib.hid (blk7_new w 39)
  clear habc h1 h2
  go_enter Tryz.func16, Tryz.ntmps16
  go_wp2_with (go_at_call 15; (with_reducible refine (HC.out _).mono ?_); rintro e w2 ⟨P, bp, cp, hP, rfl, hown, hb⟩; go_must (obtain ⟨x, y, z, rfl, hx, hy, hz⟩ := bts_three (hP.trans HAbc.out)); go_must (obtain ⟨q1, q2, q3⟩ := str_ne (l := [102, 114, 101, 101]) hz H2.out); go_must (obtain ⟨q4, q5, q6⟩ := str_ne (l := [104, 101, 108, 100]) hz H1.out); go_must (obtain ⟨x0, x1, x2⟩ := txt_three (txt_own hown)); have HZ2 := Lib.hid (blk_next HZ.out hb); go_must (obtain ⟨z0, z1, z2, z3, z4, z5, z6, zf⟩ := blk7_cells HZ2.out); have HB := Lib.hid (below_next ((Below.refl w.heap.size w).alloc (Nat.le_refl _) _) hb); clear hP hown hb hx hy hz)
  refine bodyPost_ret (v := .tuple #[zg.val, .bool false]) (results_row_tmp Tryz.results16 _ _ w.heap.size 39 (arr7 zg) _ _ rfl (put7_blk HZ2.out zg) rfl Tryz.underlying39 rfl (by kernel_rfl)) rfl ⟨HA.out.symm, put7_below HB.out (Nat.le_refl _) zg⟩
set_option maxRecDepth 100000 in
set_option maxHeartbeats 3200000 in
theorem l08RG_short (s : ByteArray) (w : World) (hs : s.size ≤ 1048576) (h3 : ¬ (cparts 58 s.data.toList).length = 3) :
    Calls Tryz.prog 16 #[.string s] w fun e w' => e = RgAns s.data.toList ∧ Below w.heap.size w w' := by
  have HC := Lib.hid fun w => ccut_of 58 58 s w (Lib.hid rfl) hs
  have HA := Lib.hid (rg_ans_none (rg_short h3))
  have HN := Lib.hid h3
  have hsc := run_store_complex Tryz.prog
  have hsf := run_store_float' Tryz.prog
  have HZ := Lib.hid (blk7_new w 39)
  clear h3
  go_enter Tryz.func16, Tryz.ntmps16
  go_wp2_with (go_at_call 15; (with_reducible refine (HC.out _).mono ?_); rintro e w2 ⟨P, b, c, hP, rfl, hown, hb⟩; have HZ2 := Lib.hid (blk_next HZ.out hb); go_must (obtain ⟨z0, z1, z2, z3, z4, z5, z6, zf⟩ := blk7_cells HZ2.out); have HB := Lib.hid (below_next ((Below.refl w.heap.size w).alloc (Nat.le_refl _) _) hb); have hn3 : P.length ≠ 3 := (by have := congrArg List.length hP; rw [bts_len0] at this; rw [this]; exact HN.out); have hn4 : ((P.length : Int) != 3) = true := (bne_iff_ne.2 (by omega)); have hn5 : (P.length != 3) = true := (bne_iff_ne.2 hn3); clear hP hown hb)
  refine bodyPost_ret (v := .tuple #[zg.val, .bool false]) (results_row_tmp Tryz.results16 _ _ w.heap.size 39 (arr7 zg) _ _ rfl (put7_blk HZ2.out zg) rfl Tryz.underlying39 rfl (by kernel_rfl)) rfl ⟨HA.out.symm, put7_below HB.out (Nat.le_refl _) zg⟩
end Go.Proofs.YtljcgfgkfkoeeaaGreatDoor

namespace Go.Proofs.YtljcgfgkfkoeeaaGreatDoor
open Go.RowKit

/-- what l01CRead, l01NRead and their like give, opened -/
def Cl2 (n : Nat) (zs : List (Nat × Nat)) (b : Bool) (w : World) (e : Ending) (w' : World) : Prop := ∃ ao c, e = .returned (.tuple #[.slice ao n c, .bool b]) ∧ w'.ownsRow w.heap.size 36 1 (.slice ao n c) n (zs.map cval) ∧ Below w.heap.size w w'
def Fl2 (n : Nat) (zs : List Nat) (b : Bool) (w : World) (e : Ending) (w' : World) : Prop := ∃ ao c, e = .returned (.tuple #[.slice ao n c, .bool b]) ∧ w'.ownsRow w.heap.size 37 1 (.slice ao n c) n (zs.map (Value.float .f32)) ∧ Below w.heap.size w w'
theorem cl2_of {n : Nat} {zs : List (Nat × Nat)} {b : Bool} {w : World} {e : Ending} {w' : World} (hn : zs.length = n) (h : ClAns zs b w e w') : Cl2 n zs b w e w' := by
  obtain ⟨v, rfl, ho, hb⟩ := h
  obtain ⟨ao, c, rfl⟩ := own_len ho
  subst hn
  exact ⟨ao, c, rfl, ho, hb⟩
theorem fl2_of {n : Nat} {zs : List Nat} {b : Bool} {w : World} {e : Ending} {w' : World} (hn : zs.length = n) (h : FlAns zs b w e w') : Fl2 n zs b w e w' := by
  obtain ⟨v, rfl, ho, hb⟩ := h
  obtain ⟨ao, c, rfl⟩ := own_len ho
  subst hn
  exact ⟨ao, c, rfl, ho, hb⟩
/-- how a state is told from others -/
def StQ (c : List UInt8) (f h : Bool) : Prop := ∀ z : ByteArray, z.data.toList = c → ((z.toList == [102, 114, 101, 101]) = f ∧ (z.toList != [102, 114, 101, 101]) = !f) ∧ ((z.toList == [104, 101, 108, 100]) = h ∧ (z.toList != [104, 101, 108, 100]) = !h)
theorem stq_free {c : List UInt8} (h : c = freeL) : StQ c true false := fun z hz => by
  have h1 := str_eq (l := [102, 114, 101, 101]) hz h
  have h2 := str_ne (l := [104, 101, 108, 100]) hz (by rw [h]; decide)
  exact ⟨⟨h1.1, h1.2.1⟩, h2.1, h2.2.1⟩
theorem stq_held {c : List UInt8} (h : c = heldL) : StQ c false true := fun z hz => by
  have h1 := str_ne (l := [102, 114, 101, 101]) hz (by rw [h]; decide)
  have h2 := str_eq (l := [104, 101, 108, 100]) hz h
  exact ⟨⟨h1.1, h1.2.1⟩, h2.1, h2.2.1⟩
theorem mem_le {a b c : List UInt8} {s : ByteArray} (hs : s.size ≤ 1048576) (habc : cparts 58 s.data.toList = [a, b, c]) : a.length ≤ 1048576 ∧ b.length ≤ 1048576 := by
  have h1 := c58_le s.data.toList a (by rw [habc]; simp)
  have h2 := c58_le s.data.toList b (by rw [habc]; simp)
  rw [show s.data.toList.length = s.size by simp] at h1 h2
  omega
theorem size8_of {x : ByteArray} {a : List UInt8} (h : x.data.toList = a) (ha : a.length ≤ 1048576) : x.size ≤ 1048576 := by
  rw [← h] at ha
  simpa using ha
theorem cread_at {a : List UInt8} (ha : a.length ≤ 1048576) {n : Nat} (hn : (clZ a).length = n) (x : ByteArray) (w : World) (hx : x.data.toList = a) : Calls Tryz.prog 25 #[.string x] w (Cl2 n (clZ a) (clOk a) w) := by
  have := (l01CRead_of x w (size8_of hx ha)).mono fun e w' h => cl2_of (n := n) (by rw [hx]; exact hn) h
  rw [hx] at this; exact this
theorem nread_at {a : List UInt8} (ha : a.length ≤ 1048576) {n : Nat} (hn : (flZ a).length = n) (x : ByteArray) (w : World) (hx : x.data.toList = a) : Calls Tryz.prog 26 #[.string x] w (Fl2 n (flZ a) (flOk a) w) := by
  have := (l01NRead_of x w (size8_of hx ha)).mono fun e w' h => fl2_of (n := n) (by rw [hx]; exact hn) h
  rw [hx] at this; exact this
/-- which lists are not what they must be -/
theorem bad_cases {a b : List UInt8} (h : ExC a 2 = false ∨ ExF b 4 = false) :
    clOk a = false ∨ (clOk a = true ∧ flOk b = false) ∨ (clOk a = true ∧ flOk b = true ∧ (clZ a).length ≠ 2) ∨ (clOk a = true ∧ flOk b = true ∧ (clZ a).length = 2 ∧ (flZ b).length ≠ 4) := by
  unfold ExC ExF at h
  cases h1 : clOk a <;> cases h2 : flOk b <;> simp [h1, h2] at h ⊢
  omega
set_option maxRecDepth 100000 in
set_option maxHeartbeats 12800000 in
theorem l08RG_lists (s : ByteArray) (w : World) (a b c : List UInt8) (hs : s.size ≤ 1048576) (habc : cparts 58 s.data.toList = [a, b, c]) (h0 : c = freeL ∨ c = heldL) (hbad : ExC a 2 = false ∨ ExF b 4 = false) :
    Calls Tryz.prog 16 #[.string s] w fun e w' => e = RgAns s.data.toList ∧ Below w.heap.size w w' := by
  have HC := Lib.hid fun w => ccut_of 58 58 s w (Lib.hid rfl) hs
  have HA := Lib.hid (rg_ans_none ((rg_three habc).trans (hbad.elim rg3_points rg3_sizes)))
  have HAbc := Lib.hid habc
  obtain ⟨ha, hb⟩ := mem_le hs habc
  obtain ⟨n1, hn1⟩ : ∃ n, (clZ a).length = n := ⟨_, rfl⟩
  obtain ⟨n2, hn2⟩ : ∃ n, (flZ b).length = n := ⟨_, rfl⟩
  have HCR := Lib.hid fun x w => cread_at ha hn1 x w
  have HNR := Lib.hid fun x w => nread_at hb hn2 x w
  have hcs := bad_cases hbad
  rw [hn1, hn2] at hcs
  have hsc := run_store_complex Tryz.prog
  have hsf := run_store_float' Tryz.prog
  have HZ := Lib.hid (blk7_new w 39)
  obtain ⟨f, h, hQ, hfh⟩ : ∃ f h, StQ c f h ∧ ((f = true ∧ h = false) ∨ (f = false ∧ h = true)) := h0.elim (fun h => ⟨_, _, stq_free h, Or.inl ⟨rfl, rfl⟩⟩) (fun h => ⟨_, _, stq_held h, Or.inr ⟨rfl, rfl⟩⟩)
  have HQ := Lib.hid hQ
  clear habc h0 hbad hn1 hn2 hQ ha hb
  generalize clZ a = zs1 at HCR
  generalize flZ b = zs2 at HNR
  generalize clOk a = b1 at HCR hcs
  generalize flOk b = b2 at HNR hcs
  rcases hfh with ⟨rfl, rfl⟩ | ⟨rfl, rfl⟩ <;> rcases hcs with rfl | ⟨rfl, rfl⟩ | ⟨rfl, rfl, hne⟩ | ⟨rfl, rfl, rfl, hne⟩
  all_goals
    try (have hne1 := int_ne (n := n1) (k := 2) (by omega))
    try (have hne2 := int_ne (n := n2) (k := 4) (by omega))
    try (have hne3 : (n1 != 2) = true := bne_iff_ne.2 hne)
    try (have hne4 : (n2 != 4) = true := bne_iff_ne.2 hne)
    go_enter Tryz.func16, Tryz.ntmps16
    go_wp2_with (first | (go_at_call 15; (with_reducible refine (HC.out _).mono ?_); rintro e w2 ⟨P, bp, cp, hP, rfl, hown, hb⟩; go_must (obtain ⟨x, y, z, rfl, hx, hy, hz⟩ := bts_three (hP.trans HAbc.out)); go_must (obtain ⟨⟨q1, q2⟩, q3, q4⟩ := HQ.out z hz); go_must (obtain ⟨x0, x1, x2⟩ := txt_three (txt_own hown)); have HX := Lib.hid hx; have HY := Lib.hid hy; have HT := Lib.hid (txt_own hown); have HZ2 := Lib.hid (blk_next HZ.out hb); have HB := Lib.hid (below_next ((Below.refl w.heap.size w).alloc (Nat.le_refl _) _) hb); clear hP hown hb hx hy hz) | (go_at_call 25; (with_reducible refine (HCR.out _ _ HX.out).mono ?_); rintro e w3 ⟨a1, c1, rfl, ho, hb⟩; go_must (obtain ⟨y0, y1, y2⟩ := txt_three (HT.out.next hb)); have HZ3 := Lib.hid (blk_next HZ2.out hb); have HB3 := Lib.hid (below_next HB.out hb); clear ho hb) | (go_at_call 26; (with_reducible refine (HNR.out _ _ HY.out).mono ?_); rintro e w4 ⟨a2, c2, rfl, ho, hb⟩; have HZ4 := Lib.hid (blk_next HZ3.out hb); go_must (obtain ⟨z0, z1, z2, z3, z4, z5, z6, zf⟩ := blk7_cells HZ4.out); have HB4 := Lib.hid (below_next HB3.out hb); clear ho hb))
    refine bodyPost_ret (v := .tuple #[zg.val, .bool false]) (results_row_tmp Tryz.results16 _ _ w.heap.size 39 (arr7 zg) _ _ rfl (put7_blk HZ4.out zg) rfl Tryz.underlying39 rfl (by kernel_rfl)) rfl ⟨HA.out.symm, put7_below HB4.out (Nat.le_refl _) zg⟩
end Go.Proofs.YtljcgfgkfkoeeaaGreatDoor
