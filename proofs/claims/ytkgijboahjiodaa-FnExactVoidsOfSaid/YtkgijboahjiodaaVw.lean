/- Views: opened, measured, copied and compared by the law, told valid or not by both sides. -/
import Derived.Test.YtkgijboahjiodaaBk
import Derived.Test.YtkgijboahjiodaaRu
import Derived.Test.YtkgijboahjiodaaOpr
import Derived.Test.YtkgijboahjiodaaOpen
import Derived.Deep.RegionHeld
namespace Go.Proofs.Ytkgijboahjiodaa
open Go.RowKit Fl

def vwVal (W H : Int) (ao : Option Addr) (n c : Nat) : Value := .agg #[.int .i64 W, .int .i64 H, .slice ao n c]
def okSize (k : Int) : Bool := decide (1 ≤ k) && decide (k ≤ 16)
def okView (W H : Int) (zs : List Nat) : Bool := okSize W && (okSize H && (decide ((zs.length : Int) = W * H) && zs.all fin32))

theorem add_block (a : Addr) (i : Nat) : (a.add i).block = a.block := by unfold Addr.add; split <;> rfl
theorem FRow.far {w : World} {b n : Nat} {zs : List Nat} (h : FRow w (some ⟨b, 0, none⟩) n zs) {p : Addr} (hp : p.block ≠ b) (u : Value) : FRow (w.setCell p u) (some ⟨b, 0, none⟩) n zs :=
  ⟨h.len, h.addr, fun a ha i hi => by
    obtain rfl := Option.some.inj ha
    rw [World.cell?_setCell_far _ _ _ _ (by rw [add_block]; exact hp)]
    exact h.cell _ rfl i hi⟩
theorem szFloat32S_any (ao : Option Addr) (n c : Nat) (k : Int) (w : World) (hn : n ≤ 9223372036854775807) (hk : 0 ≤ k) (hk' : k ≤ 1048576) :
    Calls Try.prog 56 #[.slice ao n c, .int .i64 k] w fun e w' => e = .returned (.int .i64 (if (n : Int) ≤ k then k - n else -1)) ∧ w = w' := by
  by_cases h : (n : Int) ≤ k
  · have h2 : ¬ (k - (n : Int) < 0) := by omega
    rw [if_pos h]
    go_enter Try.func56, Try.ntmps56
    go_wp2
    go_ret
    exact ⟨rfl, rfl⟩
  · have h2 : k - (n : Int) < 0 := by omega
    rw [if_neg h]
    go_enter Try.func56, Try.ntmps56
    go_wp2
    go_ret
    exact ⟨rfl, rfl⟩
theorem szView_any (W H : Int) (ao : Option Addr) (n c : Nat) (k : Int) (w : World) (hn : n ≤ 9223372036854775807) (hk : 0 ≤ k) (hk' : k ≤ 1048576) :
    Calls Try.prog 19 #[vwVal W H ao n c, .int .i64 k] w fun e w' => e = .returned (.int .i64 (if (n : Int) ≤ k then k - n else -1)) ∧ Below w.heap.size w w' := by
  have HS := Lib.hid fun w => szFloat32S_any ao n c k w hn hk hk'
  have hbel := Lib.hid ((Below.refl w.heap.size w).alloc (Nat.le_refl _) (.cells #[.int .i64 W, .int .i64 H, .slice ao n c] 51))
  unfold vwVal
  by_cases h : (n : Int) ≤ k
  · have h2 : ¬ (k - (n : Int) < 0) := by omega
    rw [if_pos h] at HS ⊢
    go_enter Try.func19, Try.ntmps19
    go_wp2_with (go_at_call 56; (with_reducible refine (HS.out _).mono ?_); rintro e w' ⟨rfl, rfl⟩)
    go_ret
    exact ⟨rfl, hbel.out⟩
  · rw [if_neg h] at HS ⊢
    go_enter Try.func19, Try.ntmps19
    go_wp2_with (go_at_call 56; (with_reducible refine (HS.out _).mono ?_); rintro e w' ⟨rfl, rfl⟩)
    go_ret
    exact ⟨rfl, hbel.out⟩
theorem isViewSize_any (k : Int) (w : World) :
    Calls Try.prog 88 #[.int .i64 k] w fun e w' => e = .returned (.bool (okSize k)) ∧ w = w' := by
  by_cases h1 : 1 ≤ k <;> by_cases h2 : k ≤ 16
  all_goals
    go_enter Try.func88, Try.ntmps88
    go_wp2
    go_ret
    exact ⟨by simp [okSize, h1, h2], rfl⟩
theorem okSize_bounds {k : Int} (h : okSize k = true) : 1 ≤ k ∧ k ≤ 16 := by
  simpa [okSize] using h
theorem mul_bounds {W H : Int} (h : okSize W = true) (h' : okSize H = true) : 1 ≤ W * H ∧ W * H ≤ 256 := by
  obtain ⟨a, b⟩ := okSize_bounds h
  obtain ⟨c, d⟩ := okSize_bounds h'
  exact ⟨Int.le_trans (by omega) (Int.mul_le_mul a c (by omega) (by omega)), Int.le_trans (Int.mul_le_mul b d (by omega) (by omega)) (by omega)⟩
set_option maxHeartbeats 1600000 in
theorem toView_any (W H : Int) (ao : Option Addr) (n c : Nat) (zs : List Nat) (w : World) (ha : FRow w ao n zs) (hm : n ≤ 1048576) :
    Calls Try.prog 21 #[vwVal W H ao n c] w fun e w' => ∃ b, e = .returned (vwVal W H (some ⟨b, 0, none⟩) n n) ∧ w.heap.size ≤ b ∧ b < w'.heap.size ∧ FRow w' (some ⟨b, 0, none⟩) n zs ∧ Below w.heap.size w w' := by
  have HT := Lib.hid fun w (h : FRow w ao n zs) => toFloat32S_any ao n c zs w h (by omega)
  have hbel := (((Below.refl w.heap.size w).alloc (Nat.le_refl _) (.cells #[.int .i64 W, .int .i64 H, .slice ao n c] 51)).alloc (by simp) (.cells #[.int .i64 0, .int .i64 0, .slice none 0 0] 55)).alloc (by simp; omega) (.cells #[.int .i64 W, .int .i64 H, .slice none 0 0] 55)
  have hblk : Blk (((w.alloc (.cells #[.int .i64 W, .int .i64 H, .slice ao n c] 51)).alloc (.cells #[.int .i64 0, .int .i64 0, .slice none 0 0] 55)).alloc (.cells #[.int .i64 W, .int .i64 H, .slice none 0 0] 55)) (w.heap.size + 1 + 1) 55 _ := blk_new _ _ _ _ (by simp)
  have hres : Blk (((w.alloc (.cells #[.int .i64 W, .int .i64 H, .slice ao n c] 51)).alloc (.cells #[.int .i64 0, .int .i64 0, .slice none 0 0] 55)).alloc (.cells #[.int .i64 W, .int .i64 H, .slice none 0 0] 55)) (w.heap.size + 1) 55 _ := (blk_new (w.alloc (.cells #[.int .i64 W, .int .i64 H, .slice ao n c] 51)) _ _ _ (by simp)).alloc _
  have HF := Lib.hid (ha.below hbel (Nat.le_refl _))
  have HR := Lib.hid hres
  have HB := Lib.hid hblk
  have HBel := Lib.hid hbel
  clear hblk hbel hres
  unfold vwVal
  go_enter Try.func21, Try.ntmps21
  go_wp2_with fail
  refine (HT.out _ HF.out).mono ?_
  rintro e w1 ⟨rfl, f, b, s⟩
  have F1 := Lib.hid f
  have K1 := Lib.hid (below_next HBel.out b)
  have KB := Lib.hid (blk_next HB.out b)
  have S1 := Lib.hid s
  have KR := Lib.hid (blk_next HR.out b)
  have d0 := KB.out.cell 0
  have d1 := KB.out.cell 1
  have d2 := KB.out.cell 2
  have f2 := KB.out.frozen 2
  have r0 := KR.out.cell 0
  have r1 := KR.out.cell 1
  have r2 := KR.out.cell 2
  have g0 := KR.out.frozen 0
  have g1 := KR.out.frozen 1
  have g2 := KR.out.frozen 2
  clear f b s
  go_wp2
  have hset := (((KR.out.far (p := ⟨w.heap.size + 1 + 1, 2, none⟩) (by simp) (.slice (some ⟨w.heap.size + 1 + 1 + 1, 0, none⟩) n n)).set_ 0 (.int .i64 W)).set_ 1 (.int .i64 H)).set_ 2 (.slice (some ⟨w.heap.size + 1 + 1 + 1, 0, none⟩) n n)
  have e3 : (((w.alloc (.cells #[.int .i64 W, .int .i64 H, .slice ao n c] 51)).alloc (.cells #[.int .i64 0, .int .i64 0, .slice none 0 0] 55)).alloc (.cells #[.int .i64 W, .int .i64 H, .slice none 0 0] 55)).heap.size = w.heap.size + 1 + 1 + 1 := by simp
  have F2 := F1.out
  rw [e3] at F2
  have S2 := S1.out
  rw [e3] at S2
  refine bodyPost_ret (v := .agg #[.int .i64 W, .int .i64 H, .slice (some ⟨w.heap.size + 1 + 1 + 1, 0, none⟩) n n]) (results_cell_row Try.results21 _ _ (w.heap.size + 1) 55 #[.int .i64 W, .int .i64 H, .slice (some ⟨w.heap.size + 1 + 1 + 1, 0, none⟩) n n] (0, 0) _ rfl hset Try.underlying55 rfl (by kernel_rfl)) rfl ⟨_, rfl, by omega, by simpa using S2, (((F2.far (by simp) _).far (by simp) _).far (by simp) _).far (by simp) _, ?_⟩
  exact (((K1.out.setCell (p := ⟨w.heap.size + 1 + 1, 2, none⟩) (by simp; omega) _).setCell (p := ⟨w.heap.size + 1, 0, none⟩) (by simp) _).setCell (p := ⟨w.heap.size + 1, 1, none⟩) (by simp) _).setCell (p := ⟨w.heap.size + 1, 2, none⟩) (by simp) _
set_option maxHeartbeats 800000 in
theorem eqView_self (W H : Int) (ao bo : Option Addr) (n c c' : Nat) (zs : List Nat) (w : World) (ha : FRow w ao n zs) (hb : FRow w bo n zs) (hm : n ≤ 1048576) :
    Calls Try.prog 24 #[vwVal W H ao n c, vwVal W H bo n c'] w fun e w' => e = .returned (.bool true) ∧ Below w.heap.size w w' := by
  have HE := Lib.hid fun w (h : FRow w ao n zs) (h' : FRow w bo n zs) => eqFloat32S_same ao bo n c c' zs w h h' (by omega)
  have hbel := ((Below.refl w.heap.size w).alloc (Nat.le_refl _) (.cells #[.int .i64 W, .int .i64 H, .slice ao n c] 55)).alloc (by simp) (.cells #[.int .i64 W, .int .i64 H, .slice bo n c'] 55)
  have HA := Lib.hid (ha.below hbel (Nat.le_refl _))
  have HB := Lib.hid (hb.below hbel (Nat.le_refl _))
  have HBel := Lib.hid hbel
  clear hbel ha hb
  unfold vwVal
  go_enter Try.func24, Try.ntmps24
  go_wp2_with (go_at_call 64; (with_reducible refine (HE.out _ HA.out HB.out).mono ?_); rintro e w1 ⟨rfl, q⟩)
  go_ret
  exact ⟨rfl, below_next HBel.out (q.below _)⟩
set_option maxHeartbeats 800000 in
theorem validView_any (W H : Int) (b n c : Nat) (zs : List Nat) (w : World) (hr : FRow w (some ⟨b, 0, none⟩) n zs) (hm : n ≤ 1048576) :
    Calls Try.prog 60 #[vwVal W H (some ⟨b, 0, none⟩) n c] w fun e w' => e = .returned (.bool (okView W H zs)) ∧ Below w.heap.size w w' := by
  have HW := Lib.hid fun w => isViewSize_any W w
  have HH := Lib.hid fun w => isViewSize_any H w
  have hbel := ((Below.refl w.heap.size w).alloc (Nat.le_refl _) (.cells #[.int .i64 W, .int .i64 H, .slice (some ⟨b, 0, none⟩) n c] 55))
  have hok : okView W H zs = (okSize W && (okSize H && (decide ((n : Int) = W * H) && zs.all fin32))) := by unfold okView; rw [hr.len]
  rw [hok]
  have HF := fun w (h : FRow w (some ⟨b, 0, none⟩) n zs) => areFin_any b n c zs w h hm
  have HR := Lib.hid (hr.below hbel (Nat.le_refl _))
  have HBel := Lib.hid hbel
  clear hr hbel hok
  generalize zs.all fin32 = F at HF ⊢
  have HF' := Lib.hid HF
  clear HF
  unfold vwVal
  have hcase : okSize W = false ∨ okSize W = true ∧ (okSize H = false ∨ okSize H = true) := by
    cases okSize W <;> cases okSize H <;> simp
  rcases hcase with h1 | ⟨h1, h2 | h2⟩
  · rw [h1] at HW ⊢
    go_enter Try.func60, Try.ntmps60
    go_wp2_with (go_at_call 88; (with_reducible refine (HW.out _).mono ?_); rintro e w1 ⟨rfl, rfl⟩)
    go_ret
    exact ⟨rfl, HBel.out⟩
  · rw [h1] at HW ⊢
    rw [h2] at HH ⊢
    go_enter Try.func60, Try.ntmps60
    go_wp2_with (first | (go_at_call 88; (with_reducible refine (HW.out _).mono ?_); rintro e w1 ⟨rfl, rfl⟩) | (go_at_call 88; (with_reducible refine (HH.out _).mono ?_); rintro e w1 ⟨rfl, rfl⟩))
    go_ret
    exact ⟨rfl, HBel.out⟩
  · have hb := mul_bounds h1 h2
    have hwr : wrap64 (W * H) = W * H := by unfold wrap64; omega
    rw [h1] at HW ⊢
    rw [h2] at HH ⊢
    clear h1 h2
    obtain ⟨q, hq⟩ : ∃ q, W * H = q := ⟨_, rfl⟩
    rw [hq] at hb hwr ⊢
    have hwr2 : wrap64 (W * H) = q := by rw [hq]; exact hwr
    clear hq hwr
    by_cases h3 : (n : Int) = q
    · rw [decide_eq_true h3]
      go_enter Try.func60, Try.ntmps60
      go_wp2_with (first | (go_at_call 88; (with_reducible refine (HW.out _).mono ?_); rintro e w1 ⟨rfl, rfl⟩) | (go_at_call 88; (with_reducible refine (HH.out _).mono ?_); rintro e w1 ⟨rfl, rfl⟩) | (go_at_call 42; (with_reducible refine (HF'.out _ HR.out).mono ?_); rintro e w1 ⟨rfl, q⟩))
      go_ret
      exact ⟨rfl, below_next HBel.out (q.below _)⟩
    · rw [decide_eq_false h3]
      go_enter Try.func60, Try.ntmps60
      go_wp2_with (first | (go_at_call 88; (with_reducible refine (HW.out _).mono ?_); rintro e w1 ⟨rfl, rfl⟩) | (go_at_call 88; (with_reducible refine (HH.out _).mono ?_); rintro e w1 ⟨rfl, rfl⟩))
      go_ret
      exact ⟨rfl, HBel.out⟩
set_option maxHeartbeats 1600000 in
theorem l06View_any (g : Nat) (W H : Int) (b n c : Nat) (zs : List Nat) (w : World) (hr : FRow w (some ⟨b, 0, none⟩) n zs) (hm : n ≤ 1048576) (c0 : w.cell? ⟨g, 0, none⟩ = some (.int .i64 W)) (c1 : w.cell? ⟨g, 1, none⟩ = some (.int .i64 H)) (c2 : w.cell? ⟨g, 2, none⟩ = some (.slice (some ⟨b, 0, none⟩) n c)) :
    Calls Try.prog 57 #[.pointer (some ⟨g, 0, none⟩)] w fun e w' => e = .returned (.bool (okView W H zs)) ∧ Quiet w w' := by
  have eW : inB W 1 16 = okSize W := rfl
  have eH : inB H 1 16 = okSize H := rfl
  have hok : okView W H zs = (okSize W && (okSize H && (decide ((n : Int) = W * H) && zs.all fin32))) := by unfold okView; rw [hr.len]
  rw [hok]
  have HW := fun w => l00In_any W 1 16 w
  have HH := fun w => l00In_any H 1 16 w
  rw [eW] at HW
  rw [eH] at HH
  have HL := Lib.hid hr.len
  have HR := Lib.hid hr
  clear hr hok eW eH
  have hcase : okSize W = false ∨ okSize W = true ∧ (okSize H = false ∨ okSize H = true) := by
    cases okSize W <;> cases okSize H <;> simp
  rcases hcase with h1 | ⟨h1, h2 | h2⟩
  · rw [h1] at HW ⊢
    have HW' := Lib.hid HW
    clear HW HH
    go_enter Try.func57, Try.ntmps57
    go_wp2
    go_quiet ((go_at_call 86; (with_reducible refine (HW'.out _).mono ?_); exact (fun _ _ h => ⟨h.1, _, h.2.symm⟩)))
    go_wp2
    go_ret
    exact ⟨rfl, _, rfl⟩
  · rw [h1] at HW ⊢
    rw [h2] at HH ⊢
    have HW' := Lib.hid HW
    have HH' := Lib.hid HH
    clear HW HH
    go_enter Try.func57, Try.ntmps57
    go_wp2
    go_quiet (first | (go_at_call 86; (with_reducible refine (HW'.out _).mono ?_); exact (fun _ _ h => ⟨h.1, _, h.2.symm⟩)) | (go_at_call 86; (with_reducible refine (HH'.out _).mono ?_); exact (fun _ _ h => ⟨h.1, _, h.2.symm⟩)))
    go_wp2
    go_ret
    exact ⟨rfl, _, rfl⟩
  · have hb := mul_bounds h1 h2
    have hwr : wrap64 (W * H) = W * H := by unfold wrap64; omega
    rw [h1] at HW ⊢
    rw [h2] at HH ⊢
    have HW' := Lib.hid HW
    have HH' := Lib.hid HH
    clear h1 h2 HW HH
    obtain ⟨q, hq⟩ : ∃ q, W * H = q := ⟨_, rfl⟩
    rw [hq] at hb hwr ⊢
    have hwr2 : wrap64 (W * H) = q := by rw [hq]; exact hwr
    clear hq hwr
    by_cases h3 : (n : Int) = q
    · rw [decide_eq_true h3]
      go_enter Try.func57, Try.ntmps57
      go_wp2
      go_quiet (first | (go_at_call 86; (with_reducible refine (HW'.out _).mono ?_); exact (fun _ _ h => ⟨h.1, _, h.2.symm⟩)) | (go_at_call 86; (with_reducible refine (HH'.out _).mono ?_); exact (fun _ _ h => ⟨h.1, _, h.2.symm⟩)))
      go_wp2
      clear h3 hwr2
      go_loopw [3, 2] (fun i _ wr => ∃ k : Nat, k ≤ n ∧ i = .int .i64 k ∧ Hid ((zs.take k).all fin32 = true) ∧ Quiet w wr) (fun i _ _ => n - (intOf i).toNat)
      case atStart => exact ⟨0, Nat.zero_le _, rfl, rfl, _, rfl⟩
      case round =>
        obtain ⟨k, hk, rfl, hv, m, rfl⟩ := hrel
        by_cases hlt : k < n
        · have hx := HR.out.cell _ rfl k hlt
          have e1 : (⟨b, 0, none⟩ : Addr).add k = ⟨b, k, none⟩ := by unfold Addr.add; split <;> simp_all
          rw [e1] at hx
          clear e1
          have HT := Lib.hid (allf_take zs k (by rw [HL.out]; omega))
          have HF := Lib.hid (allf_no zs k (by rw [HL.out]; omega))
          generalize zs.getD k 0 = z at hx HT HF
          have HC := Lib.hid fun w' => l01Finite_any z w'
          cases hb : fin32 z
          · rw [hb] at HC HF
            have HF' := Lib.hid (HF.out rfl)
            clear hb HF HT
            go_wp2_with (go_at_call 87; go_loud (refine (HC.out _).mono ?_); rintro e w1 ⟨rfl, m1, rfl⟩)
            go_ret
            exact ⟨by rw [HF'.out]; rfl, _, rfl⟩
          · rw [hb] at HC HT
            have HT' := Lib.hid (show (zs.take (k + 1)).all fin32 = true by rw [HT.out, hv.out]; rfl)
            clear hb HF HT hv
            go_wp2_with (go_at_call 87; go_loud (refine (HC.out _).mono ?_); rintro e w1 ⟨rfl, m1, rfl⟩)
            go_roundw
            case rel => exact ⟨k + 1, by omega, by go_num, HT', _, rfl⟩
            case measure => simp [intOf]; omega
        · have HV := Lib.hid (show zs.all fin32 = true by have := hv.out; rwa [List.take_of_length_le (by rw [HL.out]; omega)] at this)
          clear hv
          go_wp2
          go_ret
          exact ⟨by rw [HV.out]; rfl, _, rfl⟩
    · rw [decide_eq_false h3]
      go_enter Try.func57, Try.ntmps57
      go_wp2
      go_quiet (first | (go_at_call 86; (with_reducible refine (HW'.out _).mono ?_); exact (fun _ _ h => ⟨h.1, _, h.2.symm⟩)) | (go_at_call 86; (with_reducible refine (HH'.out _).mono ?_); exact (fun _ _ h => ⟨h.1, _, h.2.symm⟩)))
      go_wp2
      go_ret
      exact ⟨rfl, _, rfl⟩
section
open Go.ChangeShapes Go.WideShapes Go.Deep Go.Joins Go.ChangeAt
theorem trod_int64 {H : Type} {enc : TypeId × Value → H} {P : Program} {w : World} {base : Nat} {spare : Nat → Bool} {held : Bool} {t : TypeId} {fuel : Nat} {v : Value} {x : DataW H × List MemPlace}
    (ht : P.underlying t = some (.int .i64)) (h : DataW.trod enc P w base spare held fuel t [v] = some x) : ∃ b : Int, v = .int .i64 b := by
  cases fuel with
  | zero => simp [DataW.trod] at h
  | succ n =>
    unfold DataW.trod at h
    rw [ht] at h
    split at h <;> simp_all
set_option maxRecDepth 100000 in
theorem open_view {H : Type} {enc : TypeId × Value → H} {W : World} {b0 : Nat} {v : Value} {d : DataW H} {p : List MemPlace}
    (hv : Value.okWide Try.prog W .any b0 51 v) (h : DataW.Trod enc Try.prog W 0 (fun _ => true) true 51 v d p) :
    ∃ (X Y : Int) (ao : Option Addr) (n c : Nat) (zs : List Nat), v = vwVal X Y ao n c ∧ FRow W ao n zs ∧ (∀ x ∈ zs, x < 4294967296) ∧ n ≤ 9223372036854775807 := by
  obtain ⟨c0, c1, c2, y0, y1, y2, m, rfl, -, -, t0, t1, t2⟩ := open_agg3 Try.underlying51 (by kernel_rfl) (by kernel_rfl) hv h
  obtain ⟨X, rfl⟩ := trod_int64 Try.underlying2 t0
  obtain ⟨Y, rfl⟩ := trod_int64 Try.underlying2 t1
  have hs : ∃ ao n c, c2 = .slice ao n c ∧ n ≤ 9223372036854775807 := by
    rcases open_slice1 Try.underlying49 (by kernel_rfl) t2 with ⟨hcs, _⟩ | ⟨a, len, cap, m', k, V, D, Pl, hcs, _, hl, hcm, hm, _, hx⟩
    · exact ⟨none, 0, 0, by simpa using hcs, by omega⟩
    · exact ⟨some a, len, cap, by simpa using hcs, by unfold maxLen at hcm; omega⟩
  obtain ⟨ao, n, c, rfl, hn⟩ := hs
  obtain ⟨zs, hr, hz⟩ := open_floats (d := y2.1) (ps := y2.2) Try.underlying49 Try.underlying29 (by kernel_rfl) ⟨m, t2⟩
  exact ⟨X, Y, ao, n, c, zs, rfl, hr, hz, hn⟩
end
end Go.Proofs.Ytkgijboahjiodaa
