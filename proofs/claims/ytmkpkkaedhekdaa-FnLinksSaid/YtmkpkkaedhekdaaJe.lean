/- Islands of links. -/
import Derived.Test.YtmkpkkaedhekdaaJd
namespace Go.Proofs.Ytmkpkkaedhekdaa
open Go.RowKit Fl

/-- the other grain of a link -/
def otherL (l : Lk) (i : Nat) : Option Nat := if i = l.a then some l.b else if i = l.b then some l.a else none
def besideL (ls : List Lk) (i : Nat) : List Nat := ls.filterMap (fun l => otherL l i)
def linkNb (ls : List Lk) (i k : Nat) : Prop := k ∈ besideL ls i
theorem besideL_lt {ls : List Lk} {is : List (Int × Int)} (h : LksQ ls is) {i k : Nat} (hk : k ∈ besideL ls i) : k < 4 := by
  obtain ⟨l, hl, ho⟩ := List.mem_filterMap.1 hk
  obtain ⟨m, hm, rfl⟩ := List.getElem_of_mem hl
  have hq := h.2 m hm
  rw [List.getD_eq_getElem?_getD, List.getElem?_eq_getElem hm, Option.getD_some] at hq
  unfold otherL at ho
  split at ho
  · injection ho with ho; rw [← ho]; exact hq.hb
  · split at ho
    · injection ho with ho; rw [← ho]; exact hq.ha
    · cases ho
theorem linkNb_symm {ls : List Lk} {is : List (Int × Int)} (h : LksQ ls is) {i k : Nat} (hk : linkNb ls i k) : linkNb ls k i := by
  obtain ⟨l, hl, ho⟩ := List.mem_filterMap.1 hk
  obtain ⟨m, hm, e⟩ := List.getElem_of_mem hl
  have hq := h.2 m hm
  rw [List.getD_eq_getElem?_getD, List.getElem?_eq_getElem hm, Option.getD_some, e] at hq
  refine List.mem_filterMap.2 ⟨l, hl, ?_⟩
  have hne := hq.hne
  unfold otherL at ho ⊢
  split at ho
  · rename_i h1
    injection ho with ho
    rw [if_neg (by omega), if_pos ho.symm, h1]
  · split at ho
    · rename_i h1 h2
      injection ho with ho
      rw [if_pos ho.symm, h2]
    · cases ho
theorem linkNb_of {ls : List Lk} {l : Lk} (h : l ∈ ls) : linkNb ls l.a l.b := List.mem_filterMap.2 ⟨l, h, if_pos rfl⟩
theorem otherThan_of (l : Lk) (i : Nat) (w : World) :
    Calls Try.prog 27 #[.agg #[.int .i64 l.a, .int .i64 l.b, .complex .f32 l.x l.y], .int .i64 i] w fun e w' => e = .returned (.tuple #[.int .i64 ((otherL l i).getD 0 : Nat), .bool (otherL l i).isSome]) ∧ Below w.heap.size w w' := by
  obtain ⟨a, b, x, y⟩ := l
  have L0 := Lib.hid ((Below.refl w.heap.size w).alloc (Nat.le_refl _) (.cells #[.int .i64 a, .int .i64 b, .complex .f32 x y] 48))
  have hB := blk_new w 48 #[.int .i64 a, .int .i64 b, .complex .f32 x y] _ rfl
  have c0 := hB.cell 0
  have c1 := hB.cell 1
  clear hB
  unfold otherL
  dsimp only
  by_cases h1 : i = a
  · rw [if_pos h1]
    subst h1
    go_enter Try.func27, Try.ntmps27
    go_wp2_with fail
    go_ret2
    exact ⟨rfl, L0.out⟩
  · rw [if_neg h1]
    have e1 : ((i : Int) == (a : Int)) = false := by simp; omega
    by_cases h2 : i = b
    · rw [if_pos h2]
      subst h2
      go_enter Try.func27, Try.ntmps27
      go_wp2_with fail
      go_ret2
      exact ⟨rfl, L0.out⟩
    · rw [if_neg h2]
      have e2 : ((i : Int) == (b : Int)) = false := by simp; omega
      go_enter Try.func27, Try.ntmps27
      go_wp2_with fail
      go_ret2
      exact ⟨rfl, L0.out⟩
end Go.Proofs.Ytmkpkkaedhekdaa

namespace Go.Proofs.Ytmkpkkaedhekdaa
open Go.RowKit Fl

theorem besideL_snoc (ls : List Lk) (l : Lk) (i : Nat) : besideL (ls ++ [l]) i = besideL ls i ++ (otherL l i).toList := by
  unfold besideL
  rw [List.filterMap_append]
  congr 1
theorem besideL_len (ls : List Lk) (i : Nat) : (besideL ls i).length ≤ ls.length := List.length_filterMap_le _ _
set_option maxRecDepth 100000 in
set_option maxHeartbeats 6400000 in
theorem besideLinks_of (lb : Nat) (ao : Option Addr) (n c : Nat) (ls : List Lk) (i : Nat) (w : World) (hb : Blk w lb 28 #[.slice ao n c]) (hL : LRow w ao n ls) (hn : n ≤ 6) :
    Calls Try.prog 26 #[.int .i64 i, .pointer (some ⟨lb, 0, none⟩)] w fun e w' => Below w.heap.size w w' ∧ ∃ v, e = .returned v ∧ w'.ownsRow w.heap.size 2 1 v (besideL ls i).length (vi (besideL ls i)) := by
  obtain ⟨i0, hi, hz0, hz1, hz2⟩ := info_parts vi_info
  have HL := Lib.hid hL
  have HN := Lib.hid hL.len
  have b0 := hb.cell 0
  clear hL hb
  go_enter Try.func26, Try.ntmps26
  go_wp2_with fail
  go_loopw [4, 11] (fun v iv wr => ∃ (W : World) (k : Nat) (vv : Value), W = wr ∧ k ≤ n ∧ iv = .int .i64 k ∧ v = vv ∧ wr.ownsRow w.heap.size 2 1 vv (besideL (ls.take k) i).length (vi (besideL (ls.take k) i)) ∧ Below w.heap.size w wr) (fun _ iv _ => n - (intOf iv).toNat)
  case atStart => exact ⟨_, 0, _, rfl, Nat.zero_le _, rfl, rfl, World.ownsRow_nil _ _ _ _, Below.refl _ _⟩
  case round =>
    obtain ⟨W, k, _, rfl, hk, rfl, rfl, hO, hB⟩ := hrel
    by_cases hlt : k < n
    · obtain ⟨b, rfl⟩ := HL.out.addr (by omega)
      obtain ⟨c0, c1, c2⟩ := (HL.out.below hB (Nat.le_refl _)).cell b rfl k hlt
      have hkl : k < ls.length := by rw [HN.out]; exact hlt
      have hsn : besideL (ls.take (k + 1)) i = besideL (ls.take k) i ++ (otherL (ls.getD k default) i).toList := by rw [take_snoc ls k hkl, besideL_snoc]
      have hlen := besideL_len (ls.take k) i
      have htl : (ls.take k).length ≤ 6 := by rw [List.length_take, HN.out]; omega
      have HS := Lib.hid hsn
      have HT := Lib.hid fun w => otherThan_of (ls.getD k default) i w
      clear hsn
      generalize ls.getD k default = l at c0 c1 c2 HS HT
      obtain ⟨la, lb', lx, ly⟩ := l
      dsimp only at c0 c1 c2 HT
      have hB2 := hB.alloc hB.size (.cells #[.int .i64 la, .int .i64 lb', .complex .f32 lx ly] 48)
      have hX := blk_new W 48 #[.int .i64 la, .int .i64 lb', .complex .f32 lx ly] _ rfl
      have O2 := Lib.hid (hO.alloc (.cells #[.int .i64 la, .int .i64 lb', .complex .f32 lx ly] 48))
      have x0 := hX.cell 0
      have x1 := hX.cell 1
      have x2 := hX.cell 2
      have B2 := Lib.hid hB2
      have hsc := run_store_complex Try.prog
      clear hO hB hB2 hX
      cases ho : otherL ⟨la, lb', lx, ly⟩ i with
      | none =>
        rw [ho] at HT HS
        have HT2 := Lib.hid HT.out
        clear ho HT
        go_wp2_with fail
        refine (HT2.out _).mono ?_
        rintro e w2 ⟨rfl, hb⟩
        have O3 := Lib.hid (own_below O2.out hb (Nat.le_refl _))
        have B3 := Lib.hid (B2.out.trans (hb.mono B2.out.size))
        clear hb O2 B2
        go_wp2_with fail
        go_roundw
        case rel => exact ⟨_, k + 1, _, rfl, by omega, by go_num, rfl, by rw [HS.out]; simpa using O3.out, B3.out⟩
        case measure => simp [intOf]; omega
      | some o =>
        rw [ho] at HT HS
        have HT2 := Lib.hid HT.out
        clear ho HT
        go_wp2_with fail
        refine (HT2.out _).mono ?_
        rintro e w2 ⟨rfl, hb⟩
        have O3 := Lib.hid (own_below O2.out hb (Nat.le_refl _))
        have B3 := Lib.hid (B2.out.trans (hb.mono B2.out.size))
        have hsz := B3.out.size
        clear hb O2 B2
        go_wp2_with (at_builtin; go_loud (refine wpList_append_own _ rfl _ _ 36 rfl w.heap.size 2 i0 _ 1 8 Try.underlying36 hi hz0 hz1 hz2 rfl (by decide) _ _ _ rfl (O3.out.alloc _) ⟨w2.heap.size, 0, none⟩ 1 1 [.int .i64 (o : Int)] rfl rfl (vi_new _ _ _ _ rfl) (fun x hx => by simp at hx; subst hx; rfl) (by unfold maxLen; omega) (by omega) (by simp; omega) ?_); intro v' w5 hown' hgrow hnil; have L5 := Lib.hid (vi_app2 B3.out hsz O3.out hgrow); have O5 := Lib.hid hown'; clear hown' hgrow hnil)
        go_roundw
        case rel => exact ⟨_, k + 1, _, rfl, by omega, by go_num, rfl, by rw [HS.out, Option.toList_some, vi_snoc, List.length_append]; exact O5.out, L5.out⟩
        case measure => simp [intOf]; omega
    · obtain rfl : n = k := by omega
      have h3 := hO
      rw [List.take_of_length_le (by rw [HN.out]; exact Nat.le_refl _)] at h3
      have HO := Lib.hid h3
      have HB := Lib.hid hB
      clear h3 hO hB
      go_wp2_with fail
      go_ret
      exact ⟨HB.out, _, rfl, HO.out⟩
end Go.Proofs.Ytmkpkkaedhekdaa

namespace Go.Proofs.Ytmkpkkaedhekdaa
open Go.RowKit Fl

/-- the contract of the closure -/
def ReachC (V : World) (fI fB : Value) (isIn : Nat → Bool) (nb : Nat → Nat → Prop) (n m P Q R N : Nat) : Prop :=
  ∀ (p : Nat → Int) (k : Nat) (W : World), RInv V W fI fB n m P Q R p → k < n → Left n isIn p N →
      Calls Try.prog 43 #[.int .i64 k, .pointer (some ⟨P, 0, none⟩), .pointer (some ⟨V.heap.size, 0, none⟩), .pointer (some ⟨V.heap.size + 1 + 1, 0, none⟩), .pointer (some ⟨V.heap.size + 1, 0, none⟩), .pointer (some ⟨Q, 0, none⟩)] W fun e W' => e = .returned (.tuple #[]) ∧ But R W W' ∧ ∃ q, Lab p (Rch (White n isIn p) nb k) (m : Int) q ∧ W'.ownsRow V.heap.size 2 1 (.slice (some ⟨R, 0, none⟩) n n) n (vm q n)
/-- the contract of the test -/
def InC (V : World) (n : Nat) (isIn : Nat → Bool) : Prop :=
  ∀ k W, k < n → Below V.heap.size V W → Calls Try.prog 24 #[.int .i64 k] W fun e w' => e = .returned (.bool (isIn k)) ∧ Quiet W w'
/-- the contract of the list beside a thing -/
structure BesC (V : World) (lb n : Nat) (nbL : Nat → List Nat) : Prop where
  h1 : ∀ k W, k < n → Below V.heap.size V W → Calls Try.prog 26 #[.int .i64 k, .pointer (some ⟨lb, 0, none⟩)] W fun e w' => Below W.heap.size W w' ∧ ∃ v, e = .returned v ∧ w'.ownsRow W.heap.size 2 1 v (nbL k).length (vi (nbL k))
  h2 : ∀ k x, k < n → x ∈ nbL k → x < n
  h3 : ∀ k, k < n → (nbL k).length ≤ 6
abbrev fIn : Value := .func (.func 24) #[] #[]
abbrev fBe (lb : Nat) : Value := .func (.func 26) #[] #[.pointer (some ⟨lb, 0, none⟩)]
set_option maxRecDepth 100000 in
set_option maxHeartbeats 6400000 in
theorem reach_skip (V : World) (n m P Q R : Nat) (fB : Value) (isIn : Nat → Bool) (nb : Nat → Nat → Prop) (hIn : InC V n isIn) (p : Nat → Int) (k : Nat) (W : World) (hI : RInv V W fIn fB n m P Q R p) (hk : k < n) (hw : ¬White n isIn p k) :
      Calls Try.prog 43 #[.int .i64 k, .pointer (some ⟨P, 0, none⟩), .pointer (some ⟨V.heap.size, 0, none⟩), .pointer (some ⟨V.heap.size + 1 + 1, 0, none⟩), .pointer (some ⟨V.heap.size + 1, 0, none⟩), .pointer (some ⟨Q, 0, none⟩)] W fun e W' => e = .returned (.tuple #[]) ∧ But R W W' ∧ ∃ q, Lab p (Rch (White n isIn p) nb k) (m : Int) q ∧ W'.ownsRow V.heap.size 2 1 (.slice (some ⟨R, 0, none⟩) n n) n (vm q n) := by
  have HI := Lib.hid hI
  have hsk := Lib.hid (deep_skip (nb := nb) (c := (m : Int)) hw)
  have hic := hIn k W hk hI.b
  have hcl := (hI.o.cellAt k (by omega)).trans (vm_at hk)
  have b0 := hI.pv.cell 0
  have b1 := hI.i.cell 0
  clear hI hIn
  by_cases hp : p k < 0
  · have hi : isIn k = false := by
      cases h : isIn k
      · rfl
      · exact absurd ⟨hk, hp, h⟩ hw
    rw [hi] at hic
    have HC := Lib.hid hic
    clear hic hi hw
    generalize p k = z at hcl hp
    have hp2 : ¬ (0 ≤ z) := by omega
    go_enter Try.func43, Try.ntmps43
    go_wp2_with fail
    refine (HC.out).mono ?_
    rintro e w1 ⟨rfl, j, rfl⟩
    go_wp2_with fail
    go_returns
    exact ⟨rfl, .of_below (below_drewN (Below.refl _ _) j), _, hsk.out, HI.out.o⟩
  · clear hic hw
    generalize p k = z at hcl hp
    have hp2 : 0 ≤ z := by omega
    go_enter Try.func43, Try.ntmps43
    go_wp2_with fail
    go_returns
    exact ⟨rfl, .refl _ _, _, hsk.out, HI.out.o⟩
set_option maxRecDepth 100000 in
set_option maxHeartbeats 6400000 in
theorem reach_step (V : World) (lb n m P Q R N : Nat) (isIn : Nat → Bool) (nbL : Nat → List Nat) (hbs : BesC V lb n nbL) (hIn : InC V n isIn)
    (ih : ReachC V fIn (fBe lb) isIn (fun i k => k ∈ nbL i) n m P Q R N) (p : Nat → Int) (k : Nat) (W : World) (hI : RInv V W fIn (fBe lb) n m P Q R p) (hk : k < n) (hL : Left n isIn p (N + 1)) (hw : White n isIn p k) :
      Calls Try.prog 43 #[.int .i64 k, .pointer (some ⟨P, 0, none⟩), .pointer (some ⟨V.heap.size, 0, none⟩), .pointer (some ⟨V.heap.size + 1 + 1, 0, none⟩), .pointer (some ⟨V.heap.size + 1, 0, none⟩), .pointer (some ⟨Q, 0, none⟩)] W fun e W' => e = .returned (.tuple #[]) ∧ But R W W' ∧ ∃ q, Lab p (Rch (White n isIn p) (fun i k => k ∈ nbL i) k) (m : Int) q ∧ W'.ownsRow V.heap.size 2 1 (.slice (some ⟨R, 0, none⟩) n n) n (vm q n) := by
  have HIH := Lib.hid ih
  have HW := Lib.hid hw
  have HI := Lib.hid hI
  have hic := hIn k W hk hI.b
  have hcl := (hI.o.cellAt k (by omega)).trans (vm_at hk)
  have b0 := hI.pv.cell 0
  have b1 := hI.i.cell 0
  have hq := lab_one p k (m : Int)
  generalize (fun j => if j = k then (m : Int) else p j) = p1 at hq
  have HL1 := Lib.hid (hL.mark (Int.natCast_nonneg m) hw hq)
  rw [hw.2.2] at hic
  have HC := Lib.hid hic
  have hp := hw.2.1
  have HQ := Lib.hid hq
  have HS := Lib.hid fun W (h : Below V.heap.size V W) => hbs.h1 k W hk h
  have hks0 := fun x hx => hbs.h2 k x hk hx
  have hkl0 := hbs.h3 k hk
  have hcm : (0 : Int) ≤ m := Int.natCast_nonneg m
  clear hI ih hIn hL hw hic hq hbs
  generalize hzz : p k = z at hcl hp
  have HZ := Lib.hid hzz
  clear hzz
  have hp2 : ¬ (0 ≤ z) := by omega
  unfold fIn fBe at *
  go_enter Try.func43, Try.ntmps43
  go_wp2_with fail
  refine (HC.out).mono ?_
  rintro e w1 ⟨rfl, j, rfl⟩
  have hI2 := HI.out.next (below_drewN (Below.refl _ W) j)
  have HB2 := Lib.hid (But.of_below (R := R) (below_drewN (Below.refl _ W) j))
  generalize W.drewN j = W2 at hI2 HB2 ⊢
  have hcl := (hI2.o.cellAt k (by omega)).trans (vm_at hk)
  rw [HZ.out] at hcl
  have b0 := hI2.pv.cell 0
  have b3 := hI2.f.cell 0
  have hst := (hI2.o.stored k (.int .i64 (m : Int))).1
  rw [vm_set HQ.out] at hst
  have hI3 : RInv V (W2.setCell ⟨R, k, none⟩ (.int .i64 (m : Int))) _ _ n m P Q R p1 := hI2.but ((But.refl R W2).setCell k _) hst
  have HB3 := Lib.hid (HB2.out.setCell k (.int .i64 (m : Int)))
  have hfr := hI2.o.frozenAt k
  have b2 := hI3.s.cell 0
  have HI3 := Lib.hid hI3
  clear hI2 hst hI3 HB2 HI
  go_wp2_with fail
  refine (HS.out _ HI3.out.b).mono ?_
  rintro e w3 ⟨hb3, v, rfl, ho⟩
  have HI4 := Lib.hid (HI3.out.next hb3)
  have HB4 := Lib.hid (HB3.out.trans (But.of_below hb3))
  obtain ⟨ao, cap, rfl⟩ := row_form ho
  have hRw : R < (W2.setCell ⟨R, k, none⟩ (.int .i64 (m : Int))).heap.size := (HI3.out.o.lt R rfl).2
  generalize (W2.setCell ⟨R, k, none⟩ (.int .i64 (m : Int))).heap.size = base at ho hRw
  have HO := Lib.hid ho
  have hks := hks0
  have HKS := Lib.hid hks
  have HD : Hid (∀ x, x ∈ nbL k ↔ (fun i k => k ∈ nbL i) k x) := Lib.hid fun x => Iff.rfl
  have hkl := hkl0
  clear hks0 hkl0
  generalize nbL k = ks at HO ho HKS HD hkl
  clear hb3 ho hks HI3 HB3 HS HC b0 b1 b2 b3 hcl hfr
  go_wp2_with fail
  go_loopw [28] (fun i wr => ∃ (Wd : World) (j : Nat) (q : Nat → Int), Wd = wr ∧ j ≤ ks.length ∧ i = .int .i64 j ∧ Deep (White n isIn p1) (fun i k => k ∈ nbL i) p1 (ks.take j) (m : Int) q ∧ RInv V wr fIn (fBe lb) n m P Q R q ∧ wr.ownsRow base 2 1 (.slice ao ks.length cap) ks.length (vi ks) ∧ But R W wr) (fun i _ => ks.length - (intOf i).toNat)
  case atStart => exact ⟨_, 0, p1, rfl, Nat.zero_le _, rfl, deep_nil, HI4.out, HO.out, HB4.out⟩
  case round =>
    clear HI4 HO HB4
    obtain ⟨W, j, q, rfl, hj, rfl, hD, hI, hO, hB⟩ := hrel
    have HI := Lib.hid hI
    have HO := Lib.hid hO
    have HB := Lib.hid hB
    have HDp := Lib.hid hD
    by_cases hlt : j < ks.length
    · obtain ⟨b9, c9, e9, hb9, _⟩ := vi_form hO (by omega)
      injection e9 with e91 e92 e93
      subst e91 e93
      clear e92
      have hx := (hO.cellAt j (by omega)).trans (vi_at hlt)
      have hkn : ks.getD j 0 < n := HKS.out _ (by rw [List.getD_eq_getElem?_getD, List.getElem?_eq_getElem hlt]; exact List.getElem_mem _)
      have hcall := HIH.out q (ks.getD j 0) W hI hkn (HL1.out.lab hcm hD)
      have hsn := fun r h' => deep_snoc hcm hD (r := r) (k := ks.getD j 0) h'
      rw [← take_one ks j hlt] at hsn
      have HSn := Lib.hid hsn
      have b5 := hI.qv.cell 0
      generalize ks.getD j 0 = x at hx hcall HSn
      have HC2 := Lib.hid hcall
      clear hsn hcall hI hO hB hD hkn
      go_wp2_with fail
      refine (HC2.out).mono ?_
      rintro e w4 ⟨rfl, hb, r, hl, ho⟩
      have I5 := Lib.hid (HI.out.but hb ho)
      have B5 := Lib.hid (HB.out.trans hb)
      have O5 := Lib.hid (But.own hb HO.out hRw)
      have D5 := Lib.hid (HSn.out r hl)
      clear hb hl ho HI HO HB HDp
      go_wp2_with fail
      go_roundw
      case rel => exact ⟨_, j + 1, r, rfl, by omega, by go_num, D5.out, I5.out, O5.out, B5.out⟩
      case measure => simp [intOf]; omega
    · obtain rfl : j = ks.length := by omega
      have hdone := Lib.hid (deep_done hcm HW.out HD.out HQ.out (deep_end hD))
      clear hD hI hO hB
      go_wp2_with fail
      go_returns
      exact ⟨rfl, HB.out, q, hdone.out, HI.out.o⟩
theorem reach_of (V : World) (lb n m P Q R : Nat) (isIn : Nat → Bool) (nbL : Nat → List Nat) (hbs : BesC V lb n nbL) (hIn : InC V n isIn) : ∀ N, ReachC V fIn (fBe lb) isIn (fun i k => k ∈ nbL i) n m P Q R N
  | 0 => fun p k W hI hk hL => reach_skip V n m P Q R _ isIn _ hIn p k W hI hk hL.none
  | N + 1 => fun p k W hI hk hL => by
    by_cases hw : White n isIn p k
    · exact reach_step V lb n m P Q R N isIn nbL hbs hIn (reach_of V lb n m P Q R isIn nbL hbs hIn N) p k W hI hk hL hw
    · exact reach_skip V n m P Q R _ isIn _ hIn p k W hI hk hw
set_option maxRecDepth 100000 in
set_option maxHeartbeats 6400000 in
theorem numberParts_of (lb n : Nat) (isIn : Nat → Bool) (nbL : Nat → List Nat) (w : World) (hn2 : n ≤ 256) (hbs : BesC w lb n nbL) (hIn : InC w n isIn) :
    Calls Try.prog 25 #[.int .i64 n, fIn, fBe lb] w fun e w' => Below w.heap.size w w' ∧ ∃ v p m, e = .returned (.tuple #[v, .int .i64 (m : Nat)]) ∧ VoS n isIn (fun i k => k ∈ nbL i) n p m ∧ w'.ownsRow w.heap.size 2 1 v n (vm p n) := by
  obtain ⟨i0, hi, hz0, hz1, hz2⟩ := info_parts vi_info
  have HR := Lib.hid fun m P Q R => reach_of w lb n m P Q R isIn nbL hbs hIn n
  have HI := Lib.hid hIn
  have w0 : World := ((w.alloc (.cells #[fIn] 63)).alloc (.cells #[fBe lb] 68)).alloc (.cells #[.int .i64 0] 2)
  have hb1 : Blk (((w.alloc (.cells #[fIn] 63)).alloc (.cells #[fBe lb] 68)).alloc (.cells #[.int .i64 0] 2)) w.heap.size 63 #[fIn] := ((blk_new w _ _ _ rfl).alloc _).alloc _
  have hb2 : Blk (((w.alloc (.cells #[fIn] 63)).alloc (.cells #[fBe lb] 68)).alloc (.cells #[.int .i64 0] 2)) (w.heap.size + 1) 68 #[fBe lb] := (blk_new _ _ _ _ (by simp)).alloc _
  have hb3 : Blk (((w.alloc (.cells #[fIn] 63)).alloc (.cells #[fBe lb] 68)).alloc (.cells #[.int .i64 0] 2)) (w.heap.size + 1 + 1) 2 #[.int .i64 0] := blk_new _ _ _ _ (by simp)
  have hbel := (((Below.refl w.heap.size w).alloc (Nat.le_refl _) (.cells #[fIn] 63)).alloc (by simp) (.cells #[fBe lb] 68)).alloc (by simp; omega) (.cells #[.int .i64 0] 2)
  have hsz : (((w.alloc (.cells #[fIn] 63)).alloc (.cells #[fBe lb] 68)).alloc (.cells #[.int .i64 0] 2)).heap.size = w.heap.size + 3 := by simp
  have B1 := Lib.hid hb1
  have B2 := Lib.hid hb2
  have B3 := Lib.hid hb3
  have L0 := Lib.hid hbel
  have HSz := Lib.hid hsz
  clear hb1 hb2 hb3 hbel hsz hbs hIn w0
  unfold fIn fBe at *
  go_enter Try.func25, Try.ntmps25
  go_wp2_with (at_make; go_loud (refine wpList_make_full _ rfl _ _ 36 rfl w.heap.size 2 i0 (.int .i64 0) 1 Try.underlying36 hi hz0 hz1 .i64 .i64 _ _ n rfl rfl rfl rfl (by rw [hz2]; omega) (by unfold maxLen; omega) (by simp; omega) ?_); intro w1 hown hgrow)
  have hRs : (((w.alloc (.cells #[.func (.func 24) #[] #[]] 63)).alloc (.cells #[.func (.func 26) #[] #[.pointer (some ⟨lb, 0, none⟩)]] 68)).alloc (.cells #[.int .i64 0] 2)).heap.size = w.heap.size + 1 + 1 + 1 := by simp
  rw [made_i64, hRs] at hown
  have hRl : w.heap.size + 1 + 1 + 1 < w1.heap.size := (hown.lt _ rfl).2
  have hP : w1.heap.size ≠ w.heap.size + 1 + 1 + 1 := by omega
  have I0 : PInv w (w1.alloc (.cells #[.slice (some ⟨w.heap.size + 1 + 1 + 1, 0, none⟩) n n] 36)) fIn (fBe lb) n w1.heap.size (w.heap.size + 1 + 1 + 1) (minus 0) :=
    ⟨((L0.out.grown hgrow (by rw [hRs]; omega) (by simp))).alloc (by omega) _, (B1.out.grown hgrow (by simp)).alloc _, (B2.out.grown hgrow (by simp)).alloc _, (B3.out.grown hgrow (by simp)).alloc _, blk_new _ _ _ _ rfl, by rw [← minus_zero]; exact hown.alloc _, rfl, hP, by simp; omega⟩
  have H0 := Lib.hid I0
  generalize w1.alloc (.cells #[.slice (some ⟨w.heap.size + 1 + 1 + 1, 0, none⟩) n n] 36) = W0 at H0 ⊢
  clear hown hgrow hRs B1 B2 B3 L0 HSz I0 hRl
  generalize w1.heap.size = P at H0 hP ⊢
  go_loopw [17] (fun i wr => ∃ (Wd : World) (k : Nat), Wd = wr ∧ k ≤ n ∧ i = .int .i64 k ∧ PInv w wr fIn (fBe lb) n P (w.heap.size + 1 + 1 + 1) (minus k)) (fun i _ => n - (intOf i).toNat)
  case atStart => exact ⟨_, 0, rfl, Nat.zero_le _, rfl, H0.out⟩
  case round =>
    clear H0
    obtain ⟨W, k, rfl, hk, rfl, hI⟩ := hrel
    by_cases hlt : k < n
    · have hcl := (hI.o.cellAt k (by omega)).trans (vm_at hlt)
      have hfr := hI.o.frozenAt k
      have b0 := hI.pv.cell 0
      have hst := (hI.o.stored k (.int .i64 (-1))).1
      rw [vm_set (minus_step k)] at hst
      obtain ⟨r1, r2, r3⟩ := hI.r
      have H1 : PInv w (W.setCell ⟨w.heap.size + 1 + 1 + 1, k, none⟩ (.int .i64 (-1))) fIn (fBe lb) n P (w.heap.size + 1 + 1 + 1) (minus (k + 1)) :=
        ⟨hI.b.setCell (by show w.heap.size ≤ w.heap.size + 1 + 1 + 1; omega) _, hI.i.far (by show w.heap.size ≠ w.heap.size + 1 + 1 + 1; omega) _, hI.s.far (by show w.heap.size + 1 ≠ w.heap.size + 1 + 1 + 1; omega) _, hI.f.far (by show w.heap.size + 1 + 1 ≠ w.heap.size + 1 + 1 + 1; omega) _, hI.pv.far r2 _, hst, rfl, r2, by simp [World.setCell]; omega⟩
      have HH := Lib.hid H1
      generalize minus k k = z at hcl
      clear hI hst r1 r2 r3 H1
      go_wp2_with fail
      go_roundw
      case rel => exact ⟨_, k + 1, rfl, by omega, by go_num, HH.out⟩
      case measure => simp [intOf]; omega
    · obtain rfl : n = k := by omega
      have b0 := hI.pv.cell 0
      have hsf := run_store_func Try.prog
      have hnb := blk_new W 86 #[Value.nilFunc] _ rfl
      have n0 := hnb.cell 0
      have n1 := hnb.frozen 0
      have hne : W.heap.size ≠ w.heap.size + 1 + 1 + 1 := by
        have : w.heap.size + 1 + 1 + 1 < W.heap.size := (hI.o.lt _ rfl).2
        omega
      have I1 : RInv w (W.alloc (.cells #[.func (.func 43) #[] #[.pointer (some ⟨P, 0, none⟩), .pointer (some ⟨w.heap.size, 0, none⟩), .pointer (some ⟨w.heap.size + 1 + 1, 0, none⟩), .pointer (some ⟨w.heap.size + 1, 0, none⟩), .pointer (some ⟨W.heap.size, 0, none⟩)]] 86)) fIn (fBe lb) n 0 P W.heap.size (w.heap.size + 1 + 1 + 1) (fun _ => -1) :=
        ⟨hI.b.alloc hI.r.2.2 _, hI.i.alloc _, hI.s.alloc _, hI.f.alloc _, hI.pv.alloc _, blk_new _ _ _ _ rfl, by rw [← minus_all]; exact hI.o.alloc _, Nat.le_refl _, hI.r.2.1, hne, by have := hI.r.2.2; simp; omega⟩
      have b0 := I1.pv.cell 0
      have HH := Lib.hid I1
      clear hI I1 hnb hne hP
      go_wp2_with fail
      generalize W.alloc (.cells #[.func (.func 43) #[] #[.pointer (some ⟨P, 0, none⟩), .pointer (some ⟨w.heap.size, 0, none⟩), .pointer (some ⟨w.heap.size + 1 + 1, 0, none⟩), .pointer (some ⟨w.heap.size + 1, 0, none⟩), .pointer (some ⟨W.heap.size, 0, none⟩)]] 86) = W1 at HH ⊢
      generalize W.heap.size = Q at HH ⊢
      clear b0 n0 n1 hlt hk
      go_loopw [27] (fun i wr => ∃ (Wd : World) (k m : Nat) (p : Nat → Int), Wd = wr ∧ k ≤ n ∧ i = .int .i64 k ∧ VoS n isIn (fun i k => k ∈ nbL i) k p m ∧ RInv w wr fIn (fBe lb) n m P Q (w.heap.size + 1 + 1 + 1) p) (fun i _ => n - (intOf i).toNat)
      case atStart => exact ⟨_, 0, 0, _, rfl, Nat.zero_le _, rfl, .zero, HH.out⟩
      case round =>
        clear HH
        obtain ⟨W, k, m, p, rfl, hk, rfl, hS, hI⟩ := hrel
        have HS := Lib.hid hS
        have HR1 := Lib.hid hI
        have b0 := hI.pv.cell 0
        have b1 := hI.i.cell 0
        have hmk := hS.count
        by_cases hlt : k < n
        · have hcl := (hI.o.cellAt k (by omega)).trans (vm_at hlt)
          have hic := HI.out k W hlt hI.b
          by_cases hp : p k < 0
          · cases hin : isIn k
            · rw [hin] at hic
              have HC := Lib.hid hic
              have HS2 := Lib.hid (VoS.skip hS (fun h => by rw [h.2.2] at hin; cases hin))
              clear hic hin hS hI
              generalize p k = z at hcl hp
              go_wp2_with fail
              refine (HC.out).mono ?_
              rintro e w1 ⟨rfl, j, rfl⟩
              have HR2 := Lib.hid (HR1.out.next (below_drewN (Below.refl _ W) j))
              clear HR1 hcl b0 b1
              go_wp2_with fail
              go_roundw
              case rel => exact ⟨_, k + 1, m, p, rfl, by omega, by go_num, HS2.out, HR2.out⟩
              case measure => simp [intOf]; omega
            · rw [hin] at hic
              have HC := Lib.hid hic
              have hw : White n isIn p k := ⟨hlt, hp, hin⟩
              have HW := Lib.hid hw
              clear hic hin hS hI hw
              generalize p k = z at hcl hp
              go_wp2_with fail
              refine (HC.out).mono ?_
              rintro e w1 ⟨rfl, j, rfl⟩
              have hR2 := HR1.out.next (below_drewN (Below.refl _ W) j)
              generalize W.drewN j = W2 at hR2 ⊢
              have b5 := hR2.qv.cell 0
              have hcall := HR.out m P Q (w.heap.size + 1 + 1 + 1) p k W2 hR2 hlt (Left.all n isIn p)
              have HR2 := Lib.hid hR2
              have HC2 := Lib.hid hcall
              clear hR2 hcall HC HR1 b0 b1 hcl
              go_wp2_with fail
              refine (HC2.out).mono ?_
              rintro e w4 ⟨rfl, hb, q, hl, ho⟩
              have hR3 := HR2.out.but hb ho
              have HS2 := Lib.hid (VoS.mark HS.out HW.out hl)
              have b6 := hR3.f.cell 0
              have f6 := hR3.f.frozen 0
              have hR4 : RInv w (w4.setCell ⟨w.heap.size + 1 + 1, 0, none⟩ (.int .i64 ((m : Int) + 1))) fIn (fBe lb) n (m + 1) P Q (w.heap.size + 1 + 1 + 1) q :=
                ⟨hR3.b.setCell (by show w.heap.size ≤ w.heap.size + 1 + 1; omega) _, hR3.i.far (by show w.heap.size ≠ w.heap.size + 1 + 1; omega) _, hR3.s.far (by show w.heap.size + 1 ≠ w.heap.size + 1 + 1; omega) _, hR3.f.set_ 0 _, hR3.pv.far (hR3.pv.ne_ hR3.f (by decide)) _, hR3.qv.far (hR3.qv.ne_ hR3.f (by decide)) _, ownsRow_setCell_other hR3.o (far3 (by omega)) _, hR3.r.1, hR3.r.2.1, hR3.r.2.2.1, by have := hR3.r.2.2.2; simp [World.setCell]; omega⟩
              have HR4 := Lib.hid hR4
              clear hb hl ho hR3 hR4 HR2 HC2
              go_wp2_with fail
              go_roundw
              case rel => exact ⟨_, k + 1, m + 1, q, rfl, by omega, by go_num, HS2.out, HR4.out⟩
              case measure => simp [intOf]; omega
          · have HS2 := Lib.hid (VoS.skip hS (fun h => hp h.2.1))
            clear hic hS hI
            generalize p k = z at hcl hp
            go_wp2_with fail
            go_roundw
            case rel => exact ⟨_, k + 1, m, p, rfl, by omega, by go_num, HS2.out, HR1.out⟩
            case measure => simp [intOf]; omega
        · obtain rfl : n = k := by omega
          have b3 := hI.f.cell 0
          clear hS hI
          go_wp2_with fail
          go_quiet (fail)
          go_wp2_with fail
          go_ret2
          exact ⟨below_drewN HR1.out.b _, _, p, m, rfl, HS.out, HR1.out.o⟩
end Go.Proofs.Ytmkpkkaedhekdaa

namespace Go.Proofs.Ytmkpkkaedhekdaa
open Go.RowKit Fl

/-- what is beside a marked thing that is in is marked the same -/
theorem VoS.same {N : Nat} {isIn : Nat → Bool} {nb : Nat → Nat → Prop} (hs : ∀ i k, nb i k → nb k i) {k : Nat} {p : Nat → Int} {n : Nat} (h : VoS N isIn nb k p n) : ∀ x y, nb x y → y < N → isIn y = true → 0 ≤ p x → x < N → isIn x = true → p y = p x := by
  induction h with
  | zero => intro x y _ _ _ h0; have h1 : (0 : Int) ≤ -1 := h0; omega
  | skip _ _ ih => exact ih
  | @mark a p q n hS hw hl ih =>
    intro x y hn hy hyi hx hxN hxi
    by_cases hrx : Rch (White N isIn p) nb a x
    · have hry : Rch (White N isIn p) nb a y ∨ ¬ White N isIn p y := by
        by_cases hwy : White N isIn p y
        · exact .inl (.step hrx hn hwy)
        · exact .inr hwy
      rcases hry with hry | hwy
      · rw [(hl x).1 hrx, (hl y).1 hry]
      · have hpy : 0 ≤ p y := by
          by_cases h9 : p y < 0
          · exact absurd ⟨hy, h9, hyi⟩ hwy
          · omega
        have := ih y x (hs _ _ hn) hxN hxi hpy hy hyi
        have hwx := hrx.end_.2.1
        omega
    · have hqx := (hl x).2 hrx
      have hnr : ¬ Rch (White N isIn p) nb a y := fun hry => by
        by_cases hwx : White N isIn p x
        · exact hrx (.step hry (hs _ _ hn) hwx)
        · have hpx : 0 ≤ p x := by
            by_cases h9 : p x < 0
            · exact absurd ⟨hxN, h9, hxi⟩ hwx
            · omega
          have := ih x y hn hy hyi hpx hxN hxi
          have hwy := hry.end_.2.1
          omega
      rw [hqx, (hl y).2 hnr]
      exact ih x y hn hy hyi (by rw [← hqx]; exact hx) hxN hxi
/-- what has been gone through and is in is marked -/
theorem VoS.done {N : Nat} {isIn : Nat → Bool} {nb : Nat → Nat → Prop} {k : Nat} {p : Nat → Int} {n : Nat} (h : VoS N isIn nb k p n) (hk : k ≤ N) : ∀ j, j < k → isIn j = true → 0 ≤ p j := by
  induction h with
  | zero => intro j hj; omega
  | @skip a p n hS hw ih =>
    intro j hj hi
    by_cases hja : j < a
    · exact ih (by omega) j hja hi
    · obtain rfl : j = a := by omega
      by_cases h9 : p j < 0
      · exact absurd ⟨by omega, h9, hi⟩ hw
      · omega
  | @mark a p q n hS hw hl ih =>
    intro j hj hi
    by_cases hr : Rch (White N isIn p) nb a j
    · rw [(hl j).1 hr]; omega
    · rw [(hl j).2 hr]
      by_cases hja : j < a
      · exact ih (by omega) j hja hi
      · obtain rfl : j = a := by omega
        exact absurd (.base hw) hr
/-- islands: a mark for each of four grains -/
structure IslQ (ls : List Lk) (p : Nat → Int) (m : Nat) : Prop where
  b : ∀ j, j < 4 → 0 ≤ p j ∧ p j < m
  m : 1 ≤ m ∧ m ≤ 4
  l : ∀ k, k < ls.length → p (ls.getD k default).a = p (ls.getD k default).b
theorem islQ_of {ls : List Lk} {is : List (Int × Int)} (h : LksQ ls is) {p : Nat → Int} {m : Nat} (hv : VoS 4 (fun _ => true) (fun i k => k ∈ besideL ls i) 4 p m) : IslQ ls p m := by
  have hd := hv.done (Nat.le_refl 4)
  have hb : ∀ j, j < 4 → 0 ≤ p j ∧ p j < m := fun j hj => ⟨hd j hj rfl, (hv.marks j).2⟩
  refine ⟨hb, ⟨by have := hb 0 (by omega); omega, hv.count⟩, fun k hk => ?_⟩
  have hq := h.2 k hk
  have hmem : ls.getD k default ∈ ls := by rw [List.getD_eq_getElem?_getD, List.getElem?_eq_getElem hk]; exact List.getElem_mem _
  exact (hv.same (fun i k => linkNb_symm h) _ _ (linkNb_of hmem) hq.hb rfl (hd _ hq.ha rfl) hq.ha rfl).symm
set_option maxRecDepth 100000 in
set_option maxHeartbeats 3200000 in
theorem islandsOf_of (hb_ hc : Nat) (gs : List Gr) (ao : Option Addr) (n c : Nat) (ls : List Lk) (is : List (Int × Int)) (w : World) (hv : gs.all Gr.valid = true) (hl : gs.length = 4) (hr : GrRow w hb_ gs) (hL : LRow w ao n ls) (hq : LksQ ls is) (hn : n ≤ 6) :
    Calls Try.prog 10 #[.agg #[.slice (some ⟨hb_, 0, none⟩) 4 hc], .slice ao n c] w fun e w' => Below w.heap.size w w' ∧ ∃ b cb p m, e = .returned (.tuple #[.slice (some ⟨b, 0, none⟩) 4 cb, .int .i64 (m : Nat), .bool true]) ∧ IslQ ls p m ∧ w'.ownsRow w.heap.size 2 1 (.slice (some ⟨b, 0, none⟩) 4 cb) 4 (vm p 4) := by
  have HA := Lib.hid fun w (h : GrRow w hb_ gs) (h' : LRow w ao n ls) => areLinks_yes hb_ hc gs ao n c ls is w hv hl h h' hq hn
  have hbel := ((Below.refl w.heap.size w).alloc (Nat.le_refl _) (.cells #[.slice (some ⟨hb_, 0, none⟩) 4 hc] 26)).alloc (by simp) (.cells #[.slice ao n c] 28)
  have hb1 : Blk ((w.alloc (.cells #[.slice (some ⟨hb_, 0, none⟩) 4 hc] 26)).alloc (.cells #[.slice ao n c] 28)) w.heap.size 26 _ := (blk_new w _ _ _ rfl).alloc _
  have hb2 : Blk ((w.alloc (.cells #[.slice (some ⟨hb_, 0, none⟩) 4 hc] 26)).alloc (.cells #[.slice ao n c] 28)) (w.heap.size + 1) 28 #[.slice ao n c] := blk_new _ _ _ _ (by simp)
  have L0 := Lib.hid hbel
  have K0 := Lib.hid hb1
  have K1 := Lib.hid hb2
  have R0 := Lib.hid (hr.below hbel (Nat.le_refl _))
  have A0 := Lib.hid (hL.below hbel (Nat.le_refl _))
  have HN := Lib.hid hL.len
  have HQ := Lib.hid hq
  have a0 := hb1.cell 0
  have a1 := hb2.cell 0
  clear hbel hb1 hb2 hr hL hq hv hl
  go_enter Try.func10, Try.ntmps10
  go_wp2_with fail
  refine (HA.out _ R0.out A0.out).mono ?_
  rintro e w1 ⟨rfl, hb⟩
  have L1 := Lib.hid (below_next L0.out hb)
  have hA1 := A0.out.next hb
  have hK1 := blk_next K1.out hb
  have a0 := (blk_next K0.out hb).cell 0
  have hbs : BesC w1 (w.heap.size + 1) 4 (besideL ls) :=
    ⟨fun k W hk hW => besideLinks_of (w.heap.size + 1) ao n c ls k W (hK1.below hW hK1.lt) (hA1.below hW (Nat.le_refl _)) hn, fun k x _ hx => besideL_lt HQ.out hx, fun k _ => Nat.le_trans (besideL_len ls k) (by rw [HN.out]; exact hn)⟩
  have hin : InC w1 4 (fun _ => true) := fun k W _ _ => by
    go_enter Try.func24, Try.ntmps24
    go_wp2
    go_ret
    exact ⟨rfl, Quiet.refl _⟩
  have HP := Lib.hid (numberParts_of (w.heap.size + 1) 4 (fun _ => true) (besideL ls) w1 (by omega) hbs hin)
  clear hb hA1 hK1 hbs hin L0 K0 K1 R0 A0 HA a1
  unfold fIn fBe at HP
  go_wp2_with fail
  refine (HP.out).mono ?_
  rintro e w2 ⟨hb, v, p, m, rfl, hS, ho⟩
  obtain ⟨b, cb, rfl, _, _⟩ := vi_form ho (by omega)
  have L2 := Lib.hid (below_next L1.out hb)
  have HI := Lib.hid (islQ_of HQ.out hS)
  have HO := Lib.hid (vi_base ho L1.out.size)
  clear hb hS ho a0
  go_wp2_with fail
  go_ret3
  exact ⟨L2.out, b, cb, p, m, rfl, HI.out, HO.out⟩
end Go.Proofs.Ytmkpkkaedhekdaa
