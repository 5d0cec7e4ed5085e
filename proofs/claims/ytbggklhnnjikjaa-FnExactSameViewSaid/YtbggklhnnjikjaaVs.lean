/- Views told the same or not by both sides. -/
import Derived.Test.YtbggklhnnjikjaaVw
namespace Go.Proofs.Ytbggklhnnjikjaa
open Go.RowKit Fl

def sameN (a b : Nat) : Bool := bitsOf a == bitsOf b
def sameF (zs us : List Nat) : Bool := decide (zs.length = us.length) && (zs.zip us).all (fun p => sameN p.1 p.2)
theorem zipf_take (ts us : List Nat) (k : Nat) (h : k < ts.length) (h' : k < us.length) : ((ts.zip us).take (k + 1)).all (fun p => sameN p.1 p.2) = (((ts.zip us).take k).all (fun p => sameN p.1 p.2) && sameN (ts.getD k 0) (us.getD k 0)) := by
  rw [List.take_succ_eq_append_getElem (by simp; omega), List.all_append]
  simp [List.getD, List.getElem?_eq_getElem h, List.getElem?_eq_getElem h']
theorem zipf_no (ts us : List Nat) (k : Nat) (h : k < ts.length) (h' : k < us.length) (hv : sameN (ts.getD k 0) (us.getD k 0) = false) : sameF ts us = false := by
  have : (ts.zip us).all (fun p => sameN p.1 p.2) = false := by
    rw [List.all_eq_false]
    refine ⟨(ts.zip us)[k]'(by simp; omega), List.getElem_mem _, ?_⟩
    simp only [List.getD, List.getElem?_eq_getElem h, List.getElem?_eq_getElem h', Option.getD_some] at hv
    simp [hv]
  simp [sameF, this]
theorem zipf_yes (ts us : List Nat) (h : ts.length = us.length) (hv : ((ts.zip us).take ts.length).all (fun p => sameN p.1 p.2) = true) : sameF ts us = true := by
  rw [List.take_of_length_le (by simp; omega)] at hv
  simp [sameF, h, hv]
theorem zipf_len (ts us : List Nat) (h : ts.length ≠ us.length) : sameF ts us = false := by simp [sameF, h]
theorem num_small {zs : List Nat} (h : ∀ x ∈ zs, x < 4294967296) (k : Nat) : zs.getD k 0 < 4294967296 := by
  rw [List.getD_eq_getElem?_getD]
  cases hk : zs[k]? with
  | none => decide
  | some x => exact h x (List.mem_of_getElem? hk)
set_option maxHeartbeats 1600000 in
theorem equalFuncF_of (b b' : Nat) (n c n' c' : Nat) (zs us : List Nat) (w : World) (ha : FRow w (some ⟨b, 0, none⟩) n zs) (hb : FRow w (some ⟨b', 0, none⟩) n' us) (hv : ∀ t ∈ zs, t < 4294967296) (hv' : ∀ t ∈ us, t < 4294967296) (hm : n ≤ 1048576) (hm' : n' ≤ 1048576) :
    Calls Try.prog 82 #[.slice (some ⟨b, 0, none⟩) n c, .slice (some ⟨b', 0, none⟩) n' c', .func (.func 83) #[] #[]] w fun e w' => e = .returned (.bool (sameF zs us)) ∧ Quiet w w' := by
  have HA := Lib.hid ha
  have HB := Lib.hid hb
  have HN := Lib.hid ha.len
  have HN' := Lib.hid hb.len
  have HV := Lib.hid hv
  have HV' := Lib.hid hv'
  clear ha hb hv hv'
  by_cases hl : n = n'
  · subst hl
    have hc : ((n : Int) != (n : Int)) = false := by simp
    go_enter Try.func82, Try.ntmps82
    go_wp2
    go_loopw [17] (fun i wr => ∃ (k : Nat), k ≤ n ∧ i = .int .i64 k ∧ Hid (((zs.zip us).take k).all (fun p => sameN p.1 p.2) = true) ∧ Quiet w wr) (fun i _ => n - (intOf i).toNat)
    case atStart => exact ⟨0, Nat.zero_le _, rfl, rfl, Quiet.refl _⟩
    case round =>
      obtain ⟨k, hk, rfl, hall, m, rfl⟩ := hrel
      by_cases hlt : k < n
      · have hx := HA.out.cell _ rfl k hlt
        have hy := HB.out.cell _ rfl k hlt
        have s1 := num_small HV.out k
        have s2 := num_small HV'.out k
        have HT := Lib.hid (zipf_take zs us k (by rw [HN.out]; exact hlt) (by rw [HN'.out]; exact hlt))
        have HNo := Lib.hid (zipf_no zs us k (by rw [HN.out]; exact hlt) (by rw [HN'.out]; exact hlt))
        have e1 : ∀ b, (⟨b, 0, none⟩ : Addr).add k = ⟨b, k, none⟩ := by intro b; unfold Addr.add; split <;> simp_all
        rw [e1] at hx hy
        clear e1
        generalize zs.getD k 0 = x at hx s1 HT HNo
        generalize us.getD k 0 = y at hy s2 HT HNo
        have hC := fun w => sameNumber_any x y w s1 s2
        rw [show (bitsOf x == bitsOf y) = sameN x y from rfl] at hC
        clear s1 s2
        cases hr : sameN x y
        · rw [hr] at hC
          have HC := Lib.hid hC
          have HF := Lib.hid (HNo.out hr)
          clear hC hr HT HNo
          go_wp2_with fail
          refine (HC.out _).mono ?_
          rintro e w2 ⟨rfl, m2, rfl⟩
          go_wp2
          go_ret
          exact ⟨by rw [HF.out]; rfl, _, rfl⟩
        · rw [hr] at hC HT
          have HC := Lib.hid hC
          have HT' := Lib.hid (show ((zs.zip us).take (k + 1)).all (fun p => sameN p.1 p.2) = true by rw [HT.out, hall.out]; rfl)
          clear hC hr HT HNo hall
          go_wp2_with fail
          refine (HC.out _).mono ?_
          rintro e w2 ⟨rfl, m2, rfl⟩
          go_wp2
          go_roundw
          case rel => exact ⟨k + 1, by omega, by go_num, HT', _, rfl⟩
          case measure => simp [intOf]; omega
      · have hkn : k = n := by omega
        have HY := Lib.hid (zipf_yes zs us (by rw [HN.out, HN'.out]) (by rw [HN.out, ← hkn]; exact hall.out))
        subst hkn
        clear hall
        go_wp2
        go_ret
        exact ⟨by rw [HY.out]; rfl, _, rfl⟩
  · have HF := Lib.hid (zipf_len zs us (by rw [HN.out, HN'.out]; exact hl))
    have hc : ((n : Int) != (n' : Int)) = true := by simp; omega
    go_enter Try.func82, Try.ntmps82
    go_wp2
    go_ret
    exact ⟨by rw [HF.out]; rfl, Quiet.refl _⟩
set_option maxHeartbeats 1600000 in
theorem l01SameAll_of (b b' : Nat) (n c n' c' : Nat) (zs us : List Nat) (w : World) (ha : FRow w (some ⟨b, 0, none⟩) n zs) (hb : FRow w (some ⟨b', 0, none⟩) n' us) (hv : ∀ t ∈ zs, t < 4294967296) (hv' : ∀ t ∈ us, t < 4294967296) (hm : n ≤ 1048576) (hm' : n' ≤ 1048576) :
    Calls Try.prog 81 #[.slice (some ⟨b, 0, none⟩) n c, .slice (some ⟨b', 0, none⟩) n' c'] w fun e w' => e = .returned (.bool (sameF zs us)) ∧ Quiet w w' := by
  have HA := Lib.hid ha
  have HB := Lib.hid hb
  have HN := Lib.hid ha.len
  have HN' := Lib.hid hb.len
  have HV := Lib.hid hv
  have HV' := Lib.hid hv'
  clear ha hb hv hv'
  by_cases hl : n = n'
  · subst hl
    have hc : ((n : Int) != (n : Int)) = false := by simp
    go_enter Try.func81, Try.ntmps81
    go_wp2
    go_loopw [5, 4] (fun i _ wr => ∃ (k : Nat), k ≤ n ∧ i = .int .i64 k ∧ Hid (((zs.zip us).take k).all (fun p => sameN p.1 p.2) = true) ∧ Quiet w wr) (fun i _ _ => n - (intOf i).toNat)
    case atStart => exact ⟨0, Nat.zero_le _, rfl, rfl, Quiet.refl _⟩
    case round =>
      obtain ⟨k, hk, rfl, hall, m, rfl⟩ := hrel
      by_cases hlt : k < n
      · have hx := HA.out.cell _ rfl k hlt
        have hy := HB.out.cell _ rfl k hlt
        have s1 := num_small HV.out k
        have s2 := num_small HV'.out k
        have HT := Lib.hid (zipf_take zs us k (by rw [HN.out]; exact hlt) (by rw [HN'.out]; exact hlt))
        have HNo := Lib.hid (zipf_no zs us k (by rw [HN.out]; exact hlt) (by rw [HN'.out]; exact hlt))
        have e1 : ∀ b, (⟨b, 0, none⟩ : Addr).add k = ⟨b, k, none⟩ := by intro b; unfold Addr.add; split <;> simp_all
        rw [e1] at hx hy
        clear e1
        generalize zs.getD k 0 = x at hx s1 HT HNo
        generalize us.getD k 0 = y at hy s2 HT HNo
        have hC := fun w => l01Same_any x y w s1 s2
        rw [show (bitsOf x == bitsOf y) = sameN x y from rfl] at hC
        clear s1 s2
        cases hr : sameN x y
        · rw [hr] at hC
          have HC := Lib.hid hC
          have HF := Lib.hid (HNo.out hr)
          clear hC hr HT HNo
          go_wp2
          go_quiet ((go_at_call 112; exact (HC.out _).mono (fun _ _ h => ⟨h.1, _, h.2.symm⟩)))
          go_wp2
          go_ret
          exact ⟨by rw [HF.out]; rfl, Quiet.trans ⟨m, rfl⟩ ⟨nq, rfl⟩⟩
        · rw [hr] at hC HT
          have HC := Lib.hid hC
          have HT' := Lib.hid (show ((zs.zip us).take (k + 1)).all (fun p => sameN p.1 p.2) = true by rw [HT.out, hall.out]; rfl)
          clear hC hr HT HNo hall
          go_wp2
          go_quiet ((go_at_call 112; exact (HC.out _).mono (fun _ _ h => ⟨h.1, _, h.2.symm⟩)))
          go_wp2
          go_roundw
          case rel => exact ⟨k + 1, by omega, by go_num, HT', by first | exact ⟨_, rfl⟩ | exact Quiet.trans ⟨m, rfl⟩ ⟨nq, rfl⟩⟩
          case measure => simp [intOf]; omega
      · have hkn : k = n := by omega
        have HY := Lib.hid (zipf_yes zs us (by rw [HN.out, HN'.out]) (by rw [HN.out, ← hkn]; exact hall.out))
        subst hkn
        clear hall
        go_wp2
        go_ret
        exact ⟨by rw [HY.out]; rfl, _, rfl⟩
  · have HF := Lib.hid (zipf_len zs us (by rw [HN.out, HN'.out]; exact hl))
    have hc : ((n : Int) != (n' : Int)) = true := by simp; omega
    go_enter Try.func81, Try.ntmps81
    go_wp2
    go_ret
    exact ⟨by rw [HF.out]; rfl, Quiet.refl _⟩
def sameV (W H : Int) (zs : List Nat) (X Y : Int) (us : List Nat) : Bool := (W == X) && ((H == Y) && sameF zs us)
set_option maxHeartbeats 1600000 in
theorem specSameView_any (W H : Int) (b n c : Nat) (zs : List Nat) (X Y : Int) (b' n' c' : Nat) (us : List Nat) (w : World) (hr : FRow w (some ⟨b, 0, none⟩) n zs) (hr' : FRow w (some ⟨b', 0, none⟩) n' us) (hm : n ≤ 1048576) (hm' : n' ≤ 1048576) (hv : ∀ t ∈ zs, t < 4294967296) (hv' : ∀ t ∈ us, t < 4294967296) :
    Calls Try.prog 36 #[vwVal W H (some ⟨b, 0, none⟩) n c, vwVal X Y (some ⟨b', 0, none⟩) n' c'] w fun e w' => e = .returned (.bool (sameV W H zs X Y us)) ∧ Below w.heap.size w w' := by
  have hC := fun w (h : FRow w (some ⟨b, 0, none⟩) n zs) (h' : FRow w (some ⟨b', 0, none⟩) n' us) => l01SameAll_of b b' n c n' c' zs us w h h' hv hv' hm hm'
  have hbel := ((Below.refl w.heap.size w).alloc (Nat.le_refl _) (.cells #[.int .i64 W, .int .i64 H, .slice (some ⟨b, 0, none⟩) n c] 61)).alloc (by simp) (.cells #[.int .i64 X, .int .i64 Y, .slice (some ⟨b', 0, none⟩) n' c'] 61)
  have HR := Lib.hid (hr.below hbel (Nat.le_refl _))
  have HR' := Lib.hid (hr'.below hbel (Nat.le_refl _))
  have HBel := Lib.hid hbel
  clear hbel hr hr' hv hv'
  unfold sameV
  generalize sameF zs us = F at hC ⊢
  have HC := Lib.hid hC
  clear hC
  unfold vwVal
  by_cases h1 : W = X
  · subst h1
    by_cases h2 : H = Y
    · subst h2
      have e1 : (W == W) = true := by simp
      have e2 : (H == H) = true := by simp
      rw [e1, e2]
      go_enter Try.func36, Try.ntmps36
      go_wp2_with fail
      refine (HC.out _ HR.out HR'.out).mono ?_
      rintro e w1 ⟨rfl, q⟩
      go_wp2
      go_ret
      exact ⟨rfl, below_next HBel.out (q.below _)⟩
    · have e1 : (W == W) = true := by simp
      have e2 : (H == Y) = false := by simp [h2]
      rw [e1, e2]
      clear h2
      go_enter Try.func36, Try.ntmps36
      go_wp2
      go_ret
      exact ⟨rfl, HBel.out⟩
  · have e1 : (W == X) = false := by simp [h1]
    rw [e1]
    clear h1
    go_enter Try.func36, Try.ntmps36
    go_wp2
    go_ret
    exact ⟨rfl, HBel.out⟩
set_option maxHeartbeats 1600000 in
theorem sameView_any (W H : Int) (b n c : Nat) (zs : List Nat) (X Y : Int) (b' n' c' : Nat) (us : List Nat) (w : World) (hr : FRow w (some ⟨b, 0, none⟩) n zs) (hr' : FRow w (some ⟨b', 0, none⟩) n' us) (hm : n ≤ 1048576) (hm' : n' ≤ 1048576) (hv : ∀ t ∈ zs, t < 4294967296) (hv' : ∀ t ∈ us, t < 4294967296) :
    Calls Try.prog 37 #[vwVal W H (some ⟨b, 0, none⟩) n c, vwVal X Y (some ⟨b', 0, none⟩) n' c'] w fun e w' => e = .returned (.bool (sameV W H zs X Y us)) ∧ Below w.heap.size w w' := by
  have hC := fun w (h : FRow w (some ⟨b, 0, none⟩) n zs) (h' : FRow w (some ⟨b', 0, none⟩) n' us) => equalFuncF_of b b' n c n' c' zs us w h h' hv hv' hm hm'
  have hbel := ((Below.refl w.heap.size w).alloc (Nat.le_refl _) (.cells #[.int .i64 W, .int .i64 H, .slice (some ⟨b, 0, none⟩) n c] 61)).alloc (by simp) (.cells #[.int .i64 X, .int .i64 Y, .slice (some ⟨b', 0, none⟩) n' c'] 61)
  have HR := Lib.hid (hr.below hbel (Nat.le_refl _))
  have HR' := Lib.hid (hr'.below hbel (Nat.le_refl _))
  have HBel := Lib.hid hbel
  clear hbel hr hr' hv hv'
  unfold sameV
  generalize sameF zs us = F at hC ⊢
  have HC := Lib.hid hC
  clear hC
  unfold vwVal
  by_cases h1 : W = X
  · subst h1
    by_cases h2 : H = Y
    · subst h2
      have e1 : (W == W) = true := by simp
      have e2 : (H == H) = true := by simp
      rw [e1, e2]
      go_enter Try.func37, Try.ntmps37
      go_wp2_with fail
      refine (HC.out _ HR.out HR'.out).mono ?_
      rintro e w1 ⟨rfl, q⟩
      go_wp2
      go_ret
      exact ⟨rfl, below_next HBel.out (q.below _)⟩
    · have e1 : (W == W) = true := by simp
      have e2 : (H == Y) = false := by simp [h2]
      rw [e1, e2]
      clear h2
      go_enter Try.func37, Try.ntmps37
      go_wp2
      go_ret
      exact ⟨rfl, HBel.out⟩
  · have e1 : (W == X) = false := by simp [h1]
    rw [e1]
    clear h1
    go_enter Try.func37, Try.ntmps37
    go_wp2
    go_ret
    exact ⟨rfl, HBel.out⟩
end Go.Proofs.Ytbggklhnnjikjaa
