/- The program's numbered parts. -/
import Derived.Test.YtkgijboahjiodaaVod
import Derived.Test.YtkgijboahjiodaaVoi

namespace Go.Proofs.Ytkgijboahjiodaa
open Go.RowKit Fl

theorem made_i64 (n : Nat) : (madeCells (Value.int .i64 0).cells (n * 1)).toList = vm (fun _ => 0) n := by
  rw [Nat.mul_one]
  apply List.ext_getElem
  · simp [madeCells, vm, Value.cells]
  · intro i h1 h2
    simp [madeCells, vm, Value.cells, Nat.mod_one]
def minus (k : Nat) (j : Nat) : Int := if j < k then -1 else 0
theorem minus_step (k : Nat) : Lab (minus k) (fun j => j = k) (-1) (minus (k + 1)) := fun j => ⟨fun h => by unfold minus; rw [if_pos (by omega)], fun h => by
  unfold minus
  by_cases h2 : j < k
  · rw [if_pos h2, if_pos (by omega)]
  · rw [if_neg h2, if_neg (by omega)]⟩
theorem minus_zero (n : Nat) : vm (fun _ => 0) n = vm (minus 0) n := rfl
theorem minus_all (n : Nat) : vm (minus n) n = vm (fun _ => -1) n := by
  unfold vm
  apply List.map_congr_left
  intro j hj
  have := List.mem_range.1 hj
  unfold minus
  rw [if_pos this]
/-- the blocks before the closure is made -/
structure PInv (V W : World) (fI fB : Value) (n P R : Nat) (p : Nat → Int) : Prop where
  b : Below V.heap.size V W
  i : Blk W V.heap.size 105 #[fI]
  s : Blk W (V.heap.size + 1) 88 #[fB]
  f : Blk W (V.heap.size + 1 + 1) 2 #[.int .i64 0]
  pv : Blk W P 45 #[.slice (some ⟨R, 0, none⟩) n n]
  o : W.ownsRow V.heap.size 2 1 (.slice (some ⟨R, 0, none⟩) n n) n (vm p n)
  r : R = V.heap.size + 1 + 1 + 1 ∧ P ≠ R ∧ V.heap.size ≤ W.heap.size
theorem run_store_func (P : Program) (w : World) (a : Addr) (f : Fn) (x y : Array Value) (m : Mode) : (store a (.func f x y) m).run P w = stored P w a (.func f x y) m := run_store P w a _ m rfl
set_option maxRecDepth 100000 in
set_option maxHeartbeats 6400000 in
theorem numberParts_of (vb lb X Y b n c : Nat) (isIn : Nat → Bool) (w : World) (x1 : 1 ≤ X) (x2 : X ≤ 16) (y1 : 1 ≤ Y) (y2 : Y ≤ 16) (hn : n = X * Y) (hn2 : n ≤ 256) (hIn : InC w vb lb n isIn) :
    Calls Try.prog 62 #[.int .i64 n, fIn vb lb, fBe X Y b n c] w fun e w' => Below w.heap.size w w' ∧ ∃ v p m, e = .returned (.tuple #[v, .int .i64 (m : Nat)]) ∧ VoS n isIn (voidNb X Y) n p m ∧ w'.ownsRow w.heap.size 2 1 v n (vm p n) := by
  obtain ⟨i0, hi, hz0, hz1, hz2⟩ := info_parts vi_info
  have HR := Lib.hid fun m P Q R => reach_of w vb lb X Y b c n m P Q R isIn x1 x2 y1 y2 hn hIn n
  have HI := Lib.hid hIn
  have w0 : World := ((w.alloc (.cells #[fIn vb lb] 105)).alloc (.cells #[fBe X Y b n c] 88)).alloc (.cells #[.int .i64 0] 2)
  have hb1 : Blk (((w.alloc (.cells #[fIn vb lb] 105)).alloc (.cells #[fBe X Y b n c] 88)).alloc (.cells #[.int .i64 0] 2)) w.heap.size 105 #[fIn vb lb] := ((blk_new w _ _ _ rfl).alloc _).alloc _
  have hb2 : Blk (((w.alloc (.cells #[fIn vb lb] 105)).alloc (.cells #[fBe X Y b n c] 88)).alloc (.cells #[.int .i64 0] 2)) (w.heap.size + 1) 88 #[fBe X Y b n c] := (blk_new _ _ _ _ (by simp)).alloc _
  have hb3 : Blk (((w.alloc (.cells #[fIn vb lb] 105)).alloc (.cells #[fBe X Y b n c] 88)).alloc (.cells #[.int .i64 0] 2)) (w.heap.size + 1 + 1) 2 #[.int .i64 0] := blk_new _ _ _ _ (by simp)
  have hbel := (((Below.refl w.heap.size w).alloc (Nat.le_refl _) (.cells #[fIn vb lb] 105)).alloc (by simp) (.cells #[fBe X Y b n c] 88)).alloc (by simp; omega) (.cells #[.int .i64 0] 2)
  have hsz : (((w.alloc (.cells #[fIn vb lb] 105)).alloc (.cells #[fBe X Y b n c] 88)).alloc (.cells #[.int .i64 0] 2)).heap.size = w.heap.size + 3 := by simp
  have B1 := Lib.hid hb1
  have B2 := Lib.hid hb2
  have B3 := Lib.hid hb3
  have L0 := Lib.hid hbel
  have HSz := Lib.hid hsz
  clear hb1 hb2 hb3 hbel hsz hn hIn w0
  unfold fIn fBe at *
  go_enter Try.func62, Try.ntmps62
  go_wp2_with (at_make; go_loud (refine wpList_make_full _ rfl _ _ 45 rfl w.heap.size 2 i0 (.int .i64 0) 1 Try.underlying45 hi hz0 hz1 .i64 .i64 _ _ n rfl rfl rfl rfl (by rw [hz2]; omega) (by unfold maxLen; omega) (by simp; omega) ?_); intro w1 hown hgrow)
  have hRs : (((w.alloc (.cells #[.func (.func 61) #[] #[.pointer (some ⟨vb, 0, none⟩), .pointer (some ⟨lb, 0, none⟩)]] 105)).alloc (.cells #[.func (.func 63) #[.agg #[.int .i64 X, .int .i64 Y, .slice (some ⟨b, 0, none⟩) n c]] #[]] 88)).alloc (.cells #[.int .i64 0] 2)).heap.size = w.heap.size + 1 + 1 + 1 := by simp
  rw [made_i64, hRs] at hown
  have hRl : w.heap.size + 1 + 1 + 1 < w1.heap.size := (hown.lt _ rfl).2
  have hP : w1.heap.size ≠ w.heap.size + 1 + 1 + 1 := by omega
  have I0 : PInv w (w1.alloc (.cells #[.slice (some ⟨w.heap.size + 1 + 1 + 1, 0, none⟩) n n] 45)) (fIn vb lb) (fBe X Y b n c) n w1.heap.size (w.heap.size + 1 + 1 + 1) (minus 0) :=
    ⟨((L0.out.grown hgrow (by rw [hRs]; omega) (by simp))).alloc (by omega) _, (B1.out.grown hgrow (by simp)).alloc _, (B2.out.grown hgrow (by simp)).alloc _, (B3.out.grown hgrow (by simp)).alloc _, blk_new _ _ _ _ rfl, by rw [← minus_zero]; exact hown.alloc _, rfl, hP, by simp; omega⟩
  have H0 := Lib.hid I0
  generalize w1.alloc (.cells #[.slice (some ⟨w.heap.size + 1 + 1 + 1, 0, none⟩) n n] 45) = W0 at H0 ⊢
  clear hown hgrow hRs B1 B2 B3 L0 HSz I0 hRl
  generalize w1.heap.size = P at H0 hP ⊢
  go_loopw [17] (fun i wr => ∃ (Wd : World) (k : Nat), Wd = wr ∧ k ≤ n ∧ i = .int .i64 k ∧ PInv w wr (fIn vb lb) (fBe X Y b n c) n P (w.heap.size + 1 + 1 + 1) (minus k)) (fun i _ => n - (intOf i).toNat)
  case atStart => exact ⟨_, 0, rfl, Nat.zero_le _, rfl, H0.out⟩
  case round =>
    clear H0
    obtain ⟨W, k, rfl, hk, rfl, hI⟩ := hrel
    by_cases hlt : k < n
    · have hcl := (hI.o.cellAt k (by omega)).trans (vm_at hlt)
      have hfr := hI.o.frozenAt k
      have b0 := hI.pv.cell 0
      have hst := (hI.o.stored k (.int .i64 (-1))).1
      rw [vm_set (minus_step k)] at hst
      obtain ⟨r1, r2, r3⟩ := hI.r
      have H1 : PInv w (W.setCell ⟨w.heap.size + 1 + 1 + 1, k, none⟩ (.int .i64 (-1))) (fIn vb lb) (fBe X Y b n c) n P (w.heap.size + 1 + 1 + 1) (minus (k + 1)) :=
        ⟨hI.b.setCell (by show w.heap.size ≤ w.heap.size + 1 + 1 + 1; omega) _, hI.i.far (by show w.heap.size ≠ w.heap.size + 1 + 1 + 1; omega) _, hI.s.far (by show w.heap.size + 1 ≠ w.heap.size + 1 + 1 + 1; omega) _, hI.f.far (by show w.heap.size + 1 + 1 ≠ w.heap.size + 1 + 1 + 1; omega) _, hI.pv.far r2 _, hst, rfl, r2, by simp [World.setCell]; omega⟩
      have HH := Lib.hid H1
      generalize minus k k = z at hcl
      clear hI hst r1 r2 r3 H1
      go_wp2_with fail
      go_roundw
      case rel => exact ⟨_, k + 1, rfl, by omega, by go_num, HH.out⟩
      case measure => simp [intOf]; omega
    · obtain rfl : n = k := by omega
      have b0 := hI.pv.cell 0
      have hsf := run_store_func Try.prog
      have hnb := blk_new W 134 #[Value.nilFunc] _ rfl
      have n0 := hnb.cell 0
      have n1 := hnb.frozen 0
      have hne : W.heap.size ≠ w.heap.size + 1 + 1 + 1 := by
        have : w.heap.size + 1 + 1 + 1 < W.heap.size := (hI.o.lt _ rfl).2
        omega
      have I1 : RInv w (W.alloc (.cells #[.func (.func 89) #[] #[.pointer (some ⟨P, 0, none⟩), .pointer (some ⟨w.heap.size, 0, none⟩), .pointer (some ⟨w.heap.size + 1 + 1, 0, none⟩), .pointer (some ⟨w.heap.size + 1, 0, none⟩), .pointer (some ⟨W.heap.size, 0, none⟩)]] 134)) (fIn vb lb) (fBe X Y b n c) n 0 P W.heap.size (w.heap.size + 1 + 1 + 1) (fun _ => -1) :=
        ⟨hI.b.alloc hI.r.2.2 _, hI.i.alloc _, hI.s.alloc _, hI.f.alloc _, hI.pv.alloc _, blk_new _ _ _ _ rfl, by rw [← minus_all]; exact hI.o.alloc _, Nat.le_refl _, hI.r.2.1, hne, by have := hI.r.2.2; simp; omega⟩
      have b0 := I1.pv.cell 0
      have HH := Lib.hid I1
      clear hI I1 hnb hne hP
      go_wp2_with fail
      generalize W.alloc (.cells #[.func (.func 89) #[] #[.pointer (some ⟨P, 0, none⟩), .pointer (some ⟨w.heap.size, 0, none⟩), .pointer (some ⟨w.heap.size + 1 + 1, 0, none⟩), .pointer (some ⟨w.heap.size + 1, 0, none⟩), .pointer (some ⟨W.heap.size, 0, none⟩)]] 134) = W1 at HH ⊢
      generalize W.heap.size = Q at HH ⊢
      clear b0 n0 n1 hlt hk
      go_loopw [27] (fun i wr => ∃ (Wd : World) (k m : Nat) (p : Nat → Int), Wd = wr ∧ k ≤ n ∧ i = .int .i64 k ∧ VoS n isIn (voidNb X Y) k p m ∧ RInv w wr (fIn vb lb) (fBe X Y b n c) n m P Q (w.heap.size + 1 + 1 + 1) p) (fun i _ => n - (intOf i).toNat)
      case atStart => exact ⟨_, 0, 0, _, rfl, Nat.zero_le _, rfl, .zero, HH.out⟩
      case round =>
        clear HH
        obtain ⟨W, k, m, p, rfl, hk, rfl, hS, hI⟩ := hrel
        have HS := Lib.hid hS
        have HR1 := Lib.hid hI
        have b0 := hI.pv.cell 0
        have b1 := hI.i.cell 0
        have hmk := hS.count
        by_cases hlt : k < n
        · have hcl := (hI.o.cellAt k (by omega)).trans (vm_at hlt)
          have hic := HI.out k W hlt hI.b
          by_cases hp : p k < 0
          · cases hin : isIn k
            · rw [hin] at hic
              have HC := Lib.hid hic
              have HS2 := Lib.hid (VoS.skip hS (fun h => by rw [h.2.2] at hin; cases hin))
              clear hic hin hS hI
              generalize p k = z at hcl hp
              go_wp2_with fail
              refine (HC.out).mono ?_
              rintro e w1 ⟨rfl, j, rfl⟩
              have HR2 := Lib.hid (HR1.out.next (below_drewN (Below.refl _ W) j))
              clear HR1 hcl b0 b1
              go_wp2_with fail
              go_roundw
              case rel => exact ⟨_, k + 1, m, p, rfl, by omega, by go_num, HS2.out, HR2.out⟩
              case measure => simp [intOf]; omega
            · rw [hin] at hic
              have HC := Lib.hid hic
              have hw : White n isIn p k := ⟨hlt, hp, hin⟩
              have HW := Lib.hid hw
              clear hic hin hS hI hw
              generalize p k = z at hcl hp
              go_wp2_with fail
              refine (HC.out).mono ?_
              rintro e w1 ⟨rfl, j, rfl⟩
              have hR2 := HR1.out.next (below_drewN (Below.refl _ W) j)
              generalize W.drewN j = W2 at hR2 ⊢
              have b5 := hR2.qv.cell 0
              have hcall := HR.out m P Q (w.heap.size + 1 + 1 + 1) p k W2 hR2 hlt (Left.all n isIn p)
              have HR2 := Lib.hid hR2
              have HC2 := Lib.hid hcall
              clear hR2 hcall HC HR1 b0 b1 hcl
              go_wp2_with fail
              refine (HC2.out).mono ?_
              rintro e w4 ⟨rfl, hb, q, hl, ho⟩
              have hR3 := HR2.out.but hb ho
              have HS2 := Lib.hid (VoS.mark HS.out HW.out hl)
              have b6 := hR3.f.cell 0
              have f6 := hR3.f.frozen 0
              have hR4 : RInv w (w4.setCell ⟨w.heap.size + 1 + 1, 0, none⟩ (.int .i64 ((m : Int) + 1))) (fIn vb lb) (fBe X Y b n c) n (m + 1) P Q (w.heap.size + 1 + 1 + 1) q :=
                ⟨hR3.b.setCell (by show w.heap.size ≤ w.heap.size + 1 + 1; omega) _, hR3.i.far (by show w.heap.size ≠ w.heap.size + 1 + 1; omega) _, hR3.s.far (by show w.heap.size + 1 ≠ w.heap.size + 1 + 1; omega) _, hR3.f.set_ 0 _, hR3.pv.far (hR3.pv.ne_ hR3.f (by decide)) _, hR3.qv.far (hR3.qv.ne_ hR3.f (by decide)) _, ownsRow_setCell_other hR3.o (far3 (by omega)) _, hR3.r.1, hR3.r.2.1, hR3.r.2.2.1, by have := hR3.r.2.2.2; simp [World.setCell]; omega⟩
              have HR4 := Lib.hid hR4
              clear hb hl ho hR3 hR4 HR2 HC2
              go_wp2_with fail
              go_roundw
              case rel => exact ⟨_, k + 1, m + 1, q, rfl, by omega, by go_num, HS2.out, HR4.out⟩
              case measure => simp [intOf]; omega
          · have HS2 := Lib.hid (VoS.skip hS (fun h => hp h.2.1))
            clear hic hS hI
            generalize p k = z at hcl hp
            go_wp2_with fail
            go_roundw
            case rel => exact ⟨_, k + 1, m, p, rfl, by omega, by go_num, HS2.out, HR1.out⟩
            case measure => simp [intOf]; omega
        · obtain rfl : n = k := by omega
          have b3 := hI.f.cell 0
          clear hS hI
          go_wp2_with fail
          go_quiet (fail)
          go_wp2_with fail
          go_ret2
          exact ⟨below_drewN HR1.out.b _, _, p, m, rfl, HS.out, HR1.out.o⟩
end Go.Proofs.Ytkgijboahjiodaa
