/- The program's numbered parts: the closure's walk in depth. -/
import Derived.Test.YtkgijboahjiodaaVoc
import Derived.Handy
namespace Go.Proofs.Ytkgijboahjiodaa
open Go.RowKit Fl

/-- the contract of the closure -/
def ReachC (V : World) (fI fB : Value) (isIn : Nat → Bool) (nb : Nat → Nat → Prop) (n m P Q R N : Nat) : Prop :=
  ∀ (p : Nat → Int) (k : Nat) (W : World), RInv V W fI fB n m P Q R p → k < n → Left n isIn p N →
      Calls Try.prog 89 #[.int .i64 k, .pointer (some ⟨P, 0, none⟩), .pointer (some ⟨V.heap.size, 0, none⟩), .pointer (some ⟨V.heap.size + 1 + 1, 0, none⟩), .pointer (some ⟨V.heap.size + 1, 0, none⟩), .pointer (some ⟨Q, 0, none⟩)] W fun e W' => e = .returned (.tuple #[]) ∧ But R W W' ∧ ∃ q, Lab p (Rch (White n isIn p) nb k) (m : Int) q ∧ W'.ownsRow V.heap.size 2 1 (.slice (some ⟨R, 0, none⟩) n n) n (vm q n)
/-- the contract of the test -/
def InC (V : World) (vb lb n : Nat) (isIn : Nat → Bool) : Prop :=
  ∀ k W, k < n → Below V.heap.size V W → Calls Try.prog 61 #[.int .i64 k, .pointer (some ⟨vb, 0, none⟩), .pointer (some ⟨lb, 0, none⟩)] W fun e w' => e = .returned (.bool (isIn k)) ∧ Quiet W w'
abbrev fIn (vb lb : Nat) : Value := .func (.func 61) #[] #[.pointer (some ⟨vb, 0, none⟩), .pointer (some ⟨lb, 0, none⟩)]
abbrev fBe (X Y b n c : Nat) : Value := .func (.func 63) #[.agg #[.int .i64 X, .int .i64 Y, .slice (some ⟨b, 0, none⟩) n c]] #[]
theorem deep_end {W : Nat → Prop} {nb : Nat → Nat → Prop} {p1 q : Nat → Int} {ks : List Nat} {c : Int} (h : Deep W nb p1 (ks.take ks.length) c q) : Deep W nb p1 ks c q := by rwa [List.take_length] at h
theorem take_one (ks : List Nat) (j : Nat) (h : j < ks.length) : ks.take (j + 1) = ks.take j ++ [ks.getD j 0] := by
  rw [List.take_succ_eq_append_getElem h]; simp [List.getD, List.getElem?_eq_getElem h]
theorem side_len (W H i : Nat) : (sideL W H i).length ≤ 4 := by
  have e : ∀ (c : Prop) [Decidable c] (a : Nat), (if c then [a] else []).length ≤ 1 := fun c _ a => by by_cases h : c <;> simp [h]
  unfold sideL
  simp only [List.length_append]
  have h1 := e (0 < i / W) (i - W)
  have h2 := e (0 < i % W) (i - 1)
  have h3 := e (i % W < W - 1) (i + 1)
  have h4 := e (i / W < H - 1) (i + W)
  omega
set_option maxRecDepth 100000 in
set_option maxHeartbeats 6400000 in
theorem reach_skip (V : World) (vb lb n m P Q R : Nat) (fB : Value) (isIn : Nat → Bool) (nb : Nat → Nat → Prop) (hIn : InC V vb lb n isIn) (p : Nat → Int) (k : Nat) (W : World) (hI : RInv V W (fIn vb lb) fB n m P Q R p) (hk : k < n) (hw : ¬White n isIn p k) :
      Calls Try.prog 89 #[.int .i64 k, .pointer (some ⟨P, 0, none⟩), .pointer (some ⟨V.heap.size, 0, none⟩), .pointer (some ⟨V.heap.size + 1 + 1, 0, none⟩), .pointer (some ⟨V.heap.size + 1, 0, none⟩), .pointer (some ⟨Q, 0, none⟩)] W fun e W' => e = .returned (.tuple #[]) ∧ But R W W' ∧ ∃ q, Lab p (Rch (White n isIn p) nb k) (m : Int) q ∧ W'.ownsRow V.heap.size 2 1 (.slice (some ⟨R, 0, none⟩) n n) n (vm q n) := by
  have HI := Lib.hid hI
  have hsk := Lib.hid (deep_skip (nb := nb) (c := (m : Int)) hw)
  have hic := hIn k W hk hI.b
  have hcl := (hI.o.cellAt k (by omega)).trans (vm_at hk)
  have b0 := hI.pv.cell 0
  have b1 := hI.i.cell 0
  clear hI hIn
  by_cases hp : p k < 0
  · have hi : isIn k = false := by
      cases h : isIn k
      · rfl
      · exact absurd ⟨hk, hp, h⟩ hw
    rw [hi] at hic
    have HC := Lib.hid hic
    clear hic hi hw
    generalize p k = z at hcl hp
    have hp2 : ¬ (0 ≤ z) := by omega
    go_enter Try.func89, Try.ntmps89
    go_wp2_with fail
    refine (HC.out).mono ?_
    rintro e w1 ⟨rfl, j, rfl⟩
    go_wp2_with fail
    go_returns
    exact ⟨rfl, .of_below (below_drewN (Below.refl _ _) j), _, hsk.out, HI.out.o⟩
  · clear hic hw
    generalize p k = z at hcl hp
    have hp2 : 0 ≤ z := by omega
    go_enter Try.func89, Try.ntmps89
    go_wp2_with fail
    go_returns
    exact ⟨rfl, .refl _ _, _, hsk.out, HI.out.o⟩
set_option maxRecDepth 100000 in
set_option maxHeartbeats 6400000 in
theorem reach_step (V : World) (vb lb X Y b c n m P Q R N : Nat) (isIn : Nat → Bool) (x1 : 1 ≤ X) (x2 : X ≤ 16) (y1 : 1 ≤ Y) (y2 : Y ≤ 16) (hn : n = X * Y) (hIn : InC V vb lb n isIn)
    (ih : ReachC V (fIn vb lb) (fBe X Y b n c) isIn (voidNb X Y) n m P Q R N) (p : Nat → Int) (k : Nat) (W : World) (hI : RInv V W (fIn vb lb) (fBe X Y b n c) n m P Q R p) (hk : k < n) (hL : Left n isIn p (N + 1)) (hw : White n isIn p k) :
      Calls Try.prog 89 #[.int .i64 k, .pointer (some ⟨P, 0, none⟩), .pointer (some ⟨V.heap.size, 0, none⟩), .pointer (some ⟨V.heap.size + 1 + 1, 0, none⟩), .pointer (some ⟨V.heap.size + 1, 0, none⟩), .pointer (some ⟨Q, 0, none⟩)] W fun e W' => e = .returned (.tuple #[]) ∧ But R W W' ∧ ∃ q, Lab p (Rch (White n isIn p) (voidNb X Y) k) (m : Int) q ∧ W'.ownsRow V.heap.size 2 1 (.slice (some ⟨R, 0, none⟩) n n) n (vm q n) := by
  have HXY := Lib.hid hn
  have HIH := Lib.hid ih
  have HW := Lib.hid hw
  have HI := Lib.hid hI
  have hic := hIn k W hk hI.b
  have hcl := (hI.o.cellAt k (by omega)).trans (vm_at hk)
  have b0 := hI.pv.cell 0
  have b1 := hI.i.cell 0
  have hq := lab_one p k (m : Int)
  generalize (fun j => if j = k then (m : Int) else p j) = p1 at hq
  have HL1 := Lib.hid (hL.mark (Int.natCast_nonneg m) hw hq)
  rw [hw.2.2] at hic
  have HC := Lib.hid hic
  have hp := hw.2.1
  have HQ := Lib.hid hq
  have HS := Lib.hid fun W => sideBySide_of X Y k b n c W x1 x2 y1 y2 (by rw [← hn]; exact hk)
  have hcm : (0 : Int) ≤ m := Int.natCast_nonneg m
  clear hI ih hIn hL hw hic hq hn
  generalize hzz : p k = z at hcl hp
  have HZ := Lib.hid hzz
  clear hzz
  have hp2 : ¬ (0 ≤ z) := by omega
  unfold fIn fBe at *
  go_enter Try.func89, Try.ntmps89
  go_wp2_with fail
  refine (HC.out).mono ?_
  rintro e w1 ⟨rfl, j, rfl⟩
  have hI2 := HI.out.next (below_drewN (Below.refl _ W) j)
  have HB2 := Lib.hid (But.of_below (R := R) (below_drewN (Below.refl _ W) j))
  generalize W.drewN j = W2 at hI2 HB2 ⊢
  have hcl := (hI2.o.cellAt k (by omega)).trans (vm_at hk)
  rw [HZ.out] at hcl
  have b0 := hI2.pv.cell 0
  have b3 := hI2.f.cell 0
  have hst := (hI2.o.stored k (.int .i64 (m : Int))).1
  rw [vm_set HQ.out] at hst
  have hI3 : RInv V (W2.setCell ⟨R, k, none⟩ (.int .i64 (m : Int))) _ _ n m P Q R p1 := hI2.but ((But.refl R W2).setCell k _) hst
  have HB3 := Lib.hid (HB2.out.setCell k (.int .i64 (m : Int)))
  have hfr := hI2.o.frozenAt k
  have b2 := hI3.s.cell 0
  have HI3 := Lib.hid hI3
  clear hI2 hst hI3 HB2 HI
  go_wp2_with fail
  refine (HS.out _).mono ?_
  rintro e w3 ⟨hb3, v, rfl, ho⟩
  have HI4 := Lib.hid (HI3.out.next hb3)
  have HB4 := Lib.hid (HB3.out.trans (But.of_below hb3))
  obtain ⟨ao, cap, rfl⟩ := row_form ho
  have hRw : R < (W2.setCell ⟨R, k, none⟩ (.int .i64 (m : Int))).heap.size := (HI3.out.o.lt R rfl).2
  generalize (W2.setCell ⟨R, k, none⟩ (.int .i64 (m : Int))).heap.size = base at ho hRw
  have HO := Lib.hid ho
  have hks : ∀ x ∈ sideL X Y k, x < n := fun x hx => by rw [HXY.out]; exact side_lt (by omega) (by rw [← HXY.out]; exact hk) hx
  have HKS := Lib.hid hks
  have HD : Hid (∀ x, x ∈ sideL X Y k ↔ voidNb X Y k x) := Lib.hid fun x => Iff.rfl
  have hkl := side_len X Y k
  generalize sideL X Y k = ks at HO ho HKS HD hkl
  clear hb3 ho hks HI3 HB3 HS HC b0 b1 b2 b3 hcl hfr
  go_wp2_with fail
  go_loopw [28] (fun i wr => ∃ (Wd : World) (j : Nat) (q : Nat → Int), Wd = wr ∧ j ≤ ks.length ∧ i = .int .i64 j ∧ Deep (White n isIn p1) (voidNb X Y) p1 (ks.take j) (m : Int) q ∧ RInv V wr (fIn vb lb) (fBe X Y b n c) n m P Q R q ∧ wr.ownsRow base 2 1 (.slice ao ks.length cap) ks.length (vi ks) ∧ But R W wr) (fun i _ => ks.length - (intOf i).toNat)
  case atStart => exact ⟨_, 0, p1, rfl, Nat.zero_le _, rfl, deep_nil, HI4.out, HO.out, HB4.out⟩
  case round =>
    clear HI4 HO HB4
    obtain ⟨W, j, q, rfl, hj, rfl, hD, hI, hO, hB⟩ := hrel
    have HI := Lib.hid hI
    have HO := Lib.hid hO
    have HB := Lib.hid hB
    have HDp := Lib.hid hD
    by_cases hlt : j < ks.length
    · obtain ⟨b9, c9, e9, hb9, _⟩ := vi_form hO (by omega)
      injection e9 with e91 e92 e93
      subst e91 e93
      clear e92
      have hx := (hO.cellAt j (by omega)).trans (vi_at hlt)
      have hkn : ks.getD j 0 < n := HKS.out _ (by rw [List.getD_eq_getElem?_getD, List.getElem?_eq_getElem hlt]; exact List.getElem_mem _)
      have hcall := HIH.out q (ks.getD j 0) W hI hkn (HL1.out.lab hcm hD)
      have hsn := fun r h' => deep_snoc hcm hD (r := r) (k := ks.getD j 0) h'
      rw [← take_one ks j hlt] at hsn
      have HSn := Lib.hid hsn
      have b5 := hI.qv.cell 0
      generalize ks.getD j 0 = x at hx hcall HSn
      have HC2 := Lib.hid hcall
      clear hsn hcall hI hO hB hD hkn
      go_wp2_with fail
      refine (HC2.out).mono ?_
      rintro e w4 ⟨rfl, hb, r, hl, ho⟩
      have I5 := Lib.hid (HI.out.but hb ho)
      have B5 := Lib.hid (HB.out.trans hb)
      have O5 := Lib.hid (But.own hb HO.out hRw)
      have D5 := Lib.hid (HSn.out r hl)
      clear hb hl ho HI HO HB HDp
      go_wp2_with fail
      go_roundw
      case rel => exact ⟨_, j + 1, r, rfl, by omega, by go_num, D5.out, I5.out, O5.out, B5.out⟩
      case measure => simp [intOf]; omega
    · obtain rfl : j = ks.length := by omega
      have hdone := Lib.hid (deep_done hcm HW.out HD.out HQ.out (deep_end hD))
      clear hD hI hO hB
      go_wp2_with fail
      go_returns
      exact ⟨rfl, HB.out, q, hdone.out, HI.out.o⟩
theorem reach_of (V : World) (vb lb X Y b c n m P Q R : Nat) (isIn : Nat → Bool) (x1 : 1 ≤ X) (x2 : X ≤ 16) (y1 : 1 ≤ Y) (y2 : Y ≤ 16) (hn : n = X * Y) (hIn : InC V vb lb n isIn) : ∀ N, ReachC V (fIn vb lb) (fBe X Y b n c) isIn (voidNb X Y) n m P Q R N
  | 0 => fun p k W hI hk hL => reach_skip V vb lb n m P Q R _ isIn _ hIn p k W hI hk hL.none
  | N + 1 => fun p k W hI hk hL => by
    by_cases hw : White n isIn p k
    · exact reach_step V vb lb X Y b c n m P Q R N isIn x1 x2 y1 y2 hn hIn (reach_of V vb lb X Y b c n m P Q R isIn x1 x2 y1 y2 hn hIn N) p k W hI hk hL hw
    · exact reach_skip V vb lb n m P Q R _ isIn _ hIn p k W hI hk hw
end Go.Proofs.Ytkgijboahjiodaa
