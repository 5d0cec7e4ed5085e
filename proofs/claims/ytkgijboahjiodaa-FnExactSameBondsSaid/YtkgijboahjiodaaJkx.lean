/- Lists of bonds compared: the program's side, the reference's side, the law's own. -/
import Derived.Test.YtkgijboahjiodaaJkw
namespace Go.Proofs.Ytkgijboahjiodaa
open Go.RowKit Fl

theorem eqBits (a b c k a' b' c' k' : Int) (w : World) : (Op.equalIn 10000 116 (.agg #[.int .i64 a, .int .i64 b, .int .i64 c, .int .i64 k]) (.agg #[.int .i64 a', .int .i64 b', .int .i64 c', .int .i64 k'])).run Try.prog w = .ok ((((a == a') && (b == b')) && (c == c')) && (k == k')) w :=
  run_equalIn_bits4 (P := Try.prog) 9997 (t := 116) (p := 114) (e := 2) (i := (Try.prog.info? 2).getD default) (ip := (Try.prog.info? 114).getD default)
    (by unfold Program.fieldsOf; rw [Try.underlying116]) (by kernel_rfl) (by unfold Program.fieldsOf; rw [Try.underlying116]) (by decide) rfl rfl (by decide) rfl rfl (by decide) rfl rfl Try.underlying114 Try.underlying2 (by kernel_rfl) (by kernel_rfl) (by kernel_rfl) (by kernel_rfl) a b c k a' b' c' k' w
theorem sameK_eq (t u : Kc) : ((((t.a == u.a) && (t.b == u.b)) && (bitsOf t.s == bitsOf u.s)) && (bitsOf t.q == bitsOf u.q)) = sameK t u := by unfold sameK; rw [Bool.and_assoc, Bool.and_assoc]
set_option maxHeartbeats 1600000 in
theorem sameClosure (t u : Kc) (w : World) (ht : t.s < 4294967296) (hu : u.s < 4294967296) (ht2 : t.q < 4294967296) (hu2 : u.q < 4294967296) :
    Calls Try.prog 69 #[.agg #[.int .i64 t.a, .int .i64 t.b, .float .f32 t.s, .float .f32 t.q], .agg #[.int .i64 u.a, .int .i64 u.b, .float .f32 u.s, .float .f32 u.q]] w fun e w' => e = .returned (.bool (sameK t u)) ∧ Below w.heap.size w w' := by
  have HA := Lib.hid fun w => bitsOfBond_any t w ht ht2
  have HB := Lib.hid fun w => bitsOfBond_any u w hu hu2
  have hE := fun w => eqBits t.a t.b (bitsOf t.s) (bitsOf t.q) u.a u.b (bitsOf u.s) (bitsOf u.q) w
  rw [sameK_eq] at hE
  obtain ⟨a, b, c, d⟩ := t
  obtain ⟨a', b', c', d'⟩ := u
  dsimp only at HA HB hE ht hu ht2 hu2 ⊢
  generalize sameK ⟨a, b, c, d⟩ ⟨a', b', c', d'⟩ = r at hE ⊢
  have hblk : Blk ((w.alloc (.cells #[.int .i64 a, .int .i64 b, .float .f32 c, .float .f32 d] 110)).alloc (.cells #[.int .i64 a', .int .i64 b', .float .f32 c', .float .f32 d'] 110)) w.heap.size 110 _ := (blk_new w _ _ _ rfl).alloc _
  have hblk2 : Blk ((w.alloc (.cells #[.int .i64 a, .int .i64 b, .float .f32 c, .float .f32 d] 110)).alloc (.cells #[.int .i64 a', .int .i64 b', .float .f32 c', .float .f32 d'] 110)) (w.heap.size + 1) 110 _ := blk_new _ _ _ _ (by simp)
  have HBe := Lib.hid (((Below.refl w.heap.size w).alloc (Nat.le_refl _) (.cells #[.int .i64 a, .int .i64 b, .float .f32 c, .float .f32 d] 110)).alloc (by simp) (.cells #[.int .i64 a', .int .i64 b', .float .f32 c', .float .f32 d'] 110))
  have c0 := hblk.cell 0
  have c1 := hblk.cell 1
  have c2 := hblk.cell 2
  have c6 := hblk.cell 3
  have c3 := hblk2.cell 0
  have c4 := hblk2.cell 1
  have c5 := hblk2.cell 2
  have c7 := hblk2.cell 3
  clear hblk hblk2 ht hu ht2 hu2
  go_enter Try.func69, Try.ntmps69
  go_wp2
  go_region_held3 (fun w' => w'.cell? ⟨w.heap.size, 0, none⟩ = some (.int .i64 a) ∧ w'.cell? ⟨w.heap.size, 1, none⟩ = some (.int .i64 b) ∧ w'.cell? ⟨w.heap.size, 2, none⟩ = some (.float .f32 c) ∧ w'.cell? ⟨w.heap.size, 3, none⟩ = some (.float .f32 d) ∧ w'.cell? ⟨w.heap.size + 1, 0, none⟩ = some (.int .i64 a') ∧ w'.cell? ⟨w.heap.size + 1, 1, none⟩ = some (.int .i64 b') ∧ w'.cell? ⟨w.heap.size + 1, 2, none⟩ = some (.float .f32 c') ∧ w'.cell? ⟨w.heap.size + 1, 3, none⟩ = some (.float .f32 d'))
    (first | go_keep | exact ⟨c0, c1, c2, c6, c3, c4, c5, c7⟩ | (go_split_ands; refine ⟨?_, ?_, ?_, ?_, ?_, ?_, ?_, ?_⟩ <;> (refine cell_next hb ?_; assumption)))
    (first | (go_at_call 70; (with_reducible refine (HA.out _).mono ?_); rintro e w1 ⟨rfl, hb⟩; have K1 := Lib.hid hb) | (go_at_call 70; (with_reducible refine (HB.out _).mono ?_); rintro e w2 ⟨rfl, hb⟩; have K2 := Lib.hid hb))
  go_wp2
  go_ret
  exact ⟨rfl, below_next (below_next (below_drewN HBe.out _) K1.out) K2.out⟩
/-- two lists are the same, bond by bond -/
def sameL (ts us : List Kc) : Bool := decide (ts.length = us.length) && (ts.zip us).all (fun p => sameK p.1 p.2)
theorem zip_take (ts us : List Kc) (k : Nat) (h : k < ts.length) (h' : k < us.length) : ((ts.zip us).take (k + 1)).all (fun p => sameK p.1 p.2) = (((ts.zip us).take k).all (fun p => sameK p.1 p.2) && sameK (ts.getD k default) (us.getD k default)) := by
  rw [List.take_succ_eq_append_getElem (by simp; omega), List.all_append]
  simp [List.getD, List.getElem?_eq_getElem h, List.getElem?_eq_getElem h']
theorem zip_no (ts us : List Kc) (k : Nat) (h : k < ts.length) (h' : k < us.length) (hb : sameK (ts.getD k default) (us.getD k default) = false) : sameL ts us = false := by
  unfold sameL
  have : (ts.zip us).all (fun p => sameK p.1 p.2) = false := by
    rw [← List.take_append_drop (k + 1) (ts.zip us), List.all_append, zip_take ts us k h h', hb]; simp
  rw [this]; simp
theorem zip_yes (ts us : List Kc) (hl : ts.length = us.length) (h : ((ts.zip us).take ts.length).all (fun p => sameK p.1 p.2) = true) : sameL ts us = true := by
  unfold sameL
  rw [List.take_of_length_le (by simp; omega)] at h
  simp [hl, h]
theorem zip_len (ts us : List Kc) (h : ts.length ≠ us.length) : sameL ts us = false := by unfold sameL; simp [h]
/-- the cells of a bond, as a load of the whole finds them -/
theorem KRow.at_ {w : World} {ao : Option Addr} {n : Nat} {ts : List Kc} (h : KRow w ao n ts) (a : Addr) (ha : ao = some a) (k : Nat) (hk : k < n) :
    w.cell? (a.add (k * 4)) = some (.int .i64 (ts.getD k default).a) ∧ w.cell? ⟨(a.add (k * 4)).block, (a.add (k * 4)).off + 1, none⟩ = some (.int .i64 (ts.getD k default).b) ∧ w.cell? ⟨(a.add (k * 4)).block, (a.add (k * 4)).off + 2, none⟩ = some (.float .f32 (ts.getD k default).s) ∧ w.cell? ⟨(a.add (k * 4)).block, (a.add (k * 4)).off + 3, none⟩ = some (.float .f32 (ts.getD k default).q) := by
  obtain ⟨c0, c1, c2, c3⟩ := h.cell a ha k hk
  exact ⟨c0, by rw [← addr_add _ 1 (by decide), Go.Deep.add_add]; exact c1, by rw [← addr_add _ 2 (by decide), Go.Deep.add_add]; exact c2, by rw [← addr_add _ 3 (by decide), Go.Deep.add_add]; exact c3⟩
theorem kc_small {ts : List Kc} (h : ∀ t ∈ ts, t.s < 4294967296 ∧ t.q < 4294967296) (k : Nat) : (ts.getD k default).s < 4294967296 ∧ (ts.getD k default).q < 4294967296 := by
  rw [List.getD_eq_getElem?_getD]
  cases hk : ts[k]? with
  | none => decide
  | some x => exact h x (List.mem_of_getElem? hk)
set_option maxHeartbeats 1600000 in
theorem equalFunc_of (ao bo : Option Addr) (n c n' c' : Nat) (ts us : List Kc) (w : World) (ha : KRow w ao n ts) (hb : KRow w bo n' us) (hv : ∀ t ∈ ts, t.s < 4294967296 ∧ t.q < 4294967296) (hv' : ∀ t ∈ us, t.s < 4294967296 ∧ t.q < 4294967296) (hm : n ≤ 1048576) (hm' : n' ≤ 1048576) :
    Calls Try.prog 68 #[.slice ao n c, .slice bo n' c', .func (.func 69) #[] #[]] w fun e w' => e = .returned (.bool (sameL ts us)) ∧ Below w.heap.size w w' := by
  have HA := Lib.hid ha
  have HB := Lib.hid hb
  have HN := Lib.hid ha.len
  have HN' := Lib.hid hb.len
  have HV := Lib.hid hv
  have HV' := Lib.hid hv'
  clear ha hb hv hv'
  by_cases hl : n = n'
  · subst hl
    have hc : ((n : Int) != (n : Int)) = false := by simp
    go_enter Try.func68, Try.ntmps68
    go_wp2
    go_loopw [17] (fun i wr => ∃ (W : World) (k : Nat), W = wr ∧ k ≤ n ∧ i = .int .i64 k ∧ Hid (((ts.zip us).take k).all (fun p => sameK p.1 p.2) = true) ∧ Below w.heap.size w wr) (fun i _ => n - (intOf i).toNat)
    case atStart => exact ⟨_, 0, rfl, Nat.zero_le _, rfl, rfl, Below.refl _ _⟩
    case round =>
      obtain ⟨W, k, rfl, hk, rfl, hall, hb⟩ := hrel
      by_cases hlt : k < n
      · obtain ⟨a, rfl⟩ := HA.out.addr (by omega)
        obtain ⟨a', rfl⟩ := HB.out.addr (by omega)
        obtain ⟨c0, c1, c2, c3⟩ := (HA.out.below hb (Nat.le_refl _)).at_ a rfl k hlt
        obtain ⟨d0, d1, d2, d3⟩ := (HB.out.below hb (Nat.le_refl _)).at_ a' rfl k hlt
        have s1 := kc_small HV.out k
        have s2 := kc_small HV'.out k
        have HT := Lib.hid (zip_take ts us k (by rw [HN.out]; exact hlt) (by rw [HN'.out]; exact hlt))
        have HNo := Lib.hid (zip_no ts us k (by rw [HN.out]; exact hlt) (by rw [HN'.out]; exact hlt))
        generalize ts.getD k default = t at c0 c1 c2 c3 s1 HT HNo
        generalize us.getD k default = u at d0 d1 d2 d3 s2 HT HNo
        have hC := fun w => sameClosure t u w s1.1 s2.1 s1.2 s2.2
        have HBl := Lib.hid hb
        have hsf := run_store_fl Try.prog
        have hal := (Below.refl W.heap.size W).alloc (Nat.le_refl _) (.cells #[.int .i64 t.a, .int .i64 t.b, .float .f32 t.s, .float .f32 t.q] 110)
        have g0 := cell_next hal d0
        have g1 := cell_next hal d1
        have g2 := cell_next hal d2
        have g3 := cell_next hal d3
        have HB1 := Lib.hid ((hb.alloc hb.size (.cells #[.int .i64 t.a, .int .i64 t.b, .float .f32 t.s, .float .f32 t.q] 110)).alloc (by have := hb.size; simp; omega) (.cells #[.int .i64 u.a, .int .i64 u.b, .float .f32 u.s, .float .f32 u.q] 110))
        clear hb s1 s2 hal
        cases hr : sameK t u
        · rw [hr] at hC
          have HC := Lib.hid hC
          have HF := Lib.hid (HNo.out hr)
          clear hC hr HT HNo
          go_wp2_with fail
          refine (HC.out _).mono ?_
          rintro e w2 ⟨rfl, hb2⟩
          have HB2 := Lib.hid (below_next HB1.out hb2)
          clear hb2
          go_wp2
          go_ret
          exact ⟨by rw [HF.out]; rfl, HB2.out⟩
        · rw [hr] at hC HT
          have HC := Lib.hid hC
          have HT' := Lib.hid (show ((ts.zip us).take (k + 1)).all (fun p => sameK p.1 p.2) = true by rw [HT.out, hall.out]; rfl)
          clear hC hr HT HNo hall
          go_wp2_with fail
          refine (HC.out _).mono ?_
          rintro e w2 ⟨rfl, hb2⟩
          have HB2 := Lib.hid (below_next HB1.out hb2)
          clear hb2
          go_wp2
          go_roundw
          case rel => exact ⟨_, k + 1, rfl, by omega, by go_num, HT', HB2.out⟩
          case measure => simp [intOf]; omega
      · obtain rfl : k = n := by omega
        have HY := Lib.hid (zip_yes ts us (by rw [HN.out, HN'.out]) (by rw [HN.out]; exact hall.out))
        have HBl := Lib.hid hb
        clear hall hb
        go_wp2
        go_ret
        exact ⟨by rw [HY.out]; rfl, HBl.out⟩
  · have HF := Lib.hid (zip_len ts us (by rw [HN.out, HN'.out]; exact hl))
    have hc : ((n : Int) != (n' : Int)) = true := by simp; omega
    go_enter Try.func68, Try.ntmps68
    go_wp2
    go_ret
    exact ⟨by rw [HF.out]; rfl, Below.refl _ _⟩
theorem sameBonds_of (ao bo : Option Addr) (n c n' c' : Nat) (ts us : List Kc) (w : World) (ha : KRow w ao n ts) (hb : KRow w bo n' us) (hv : ∀ t ∈ ts, t.s < 4294967296 ∧ t.q < 4294967296) (hv' : ∀ t ∈ us, t.s < 4294967296 ∧ t.q < 4294967296) (hm : n ≤ 1048576) (hm' : n' ≤ 1048576) :
    Calls Try.prog 31 #[.slice ao n c, .slice bo n' c'] w fun e w' => e = .returned (.bool (sameL ts us)) ∧ Below w.heap.size w w' := by
  have H := Lib.hid (equalFunc_of ao bo n c n' c' ts us w ha hb hv hv' hm hm')
  clear ha hb hv hv'
  generalize sameL ts us = r at H ⊢
  go_enter Try.func31, Try.ntmps31
  go_wp2_with fail
  refine H.out.mono ?_
  rintro e w1 ⟨rfl, hb⟩
  go_wp2
  go_ret
  exact ⟨rfl, hb⟩
set_option maxHeartbeats 12800000 in
set_option maxRecDepth 100000 in
theorem l07Same_of (ao bo : Option Addr) (n c n' c' : Nat) (ts us : List Kc) (w : World) (ha : KRow w ao n ts) (hb : KRow w bo n' us) (hv : ∀ t ∈ ts, t.s < 4294967296 ∧ t.q < 4294967296) (hv' : ∀ t ∈ us, t.s < 4294967296 ∧ t.q < 4294967296) (hm : n ≤ 1048576) (hm' : n' ≤ 1048576) :
    Calls Try.prog 66 #[.slice ao n c, .slice bo n' c'] w fun e w' => e = .returned (.bool (sameL ts us)) ∧ Quiet w w' := by
  have HA := Lib.hid ha
  have HB := Lib.hid hb
  have HN := Lib.hid ha.len
  have HN' := Lib.hid hb.len
  have HV := Lib.hid hv
  have HV' := Lib.hid hv'
  clear ha hb hv hv'
  by_cases hl : n = n'
  · subst hl
    have hc : ((n : Int) != (n : Int)) = false := by simp
    go_enter Try.func66, Try.ntmps66
    go_wp2
    go_loopw [13] (fun i wr => ∃ (W : World) (k : Nat), W = wr ∧ k ≤ n ∧ i = .int .i64 k ∧ Hid (((ts.zip us).take k).all (fun p => sameK p.1 p.2) = true) ∧ Quiet w wr) (fun i _ => n - (intOf i).toNat)
    case atStart => exact ⟨_, 0, rfl, Nat.zero_le _, rfl, rfl, Quiet.refl _⟩
    case round =>
      obtain ⟨W, k, rfl, hk, rfl, hall, hq⟩ := hrel
      by_cases hlt : k < n
      · obtain ⟨a, rfl⟩ := HA.out.addr (by omega)
        obtain ⟨a', rfl⟩ := HB.out.addr (by omega)
        have HQ := Lib.hid hq
        have HWa := Lib.hid ((HA.out.below (hq.below _) (Nat.le_refl _)))
        have HWb := Lib.hid ((HB.out.below (hq.below _) (Nat.le_refl _)))
        have s1 := kc_small HV.out k
        have s2 := kc_small HV'.out k
        have HT := Lib.hid (zip_take ts us k (by rw [HN.out]; exact hlt) (by rw [HN'.out]; exact hlt))
        have HNo := Lib.hid (zip_no ts us k (by rw [HN.out]; exact hlt) (by rw [HN'.out]; exact hlt))
        have HC1 := Lib.hid (fun m => (HWa.out.drewN m).at_ a rfl k hlt)
        have HC2 := Lib.hid (fun m => (HWb.out.drewN m).at_ a' rfl k hlt)
        generalize ts.getD k default = t at s1 HT HNo HC1
        generalize us.getD k default = u at s2 HT HNo HC2
        have HS := Lib.hid fun w => l01Same_any t.s u.s w s1.1 s2.1
        have HS2 := Lib.hid fun w => l01Same_any t.q u.q w s1.2 s2.2
        have d0 := fun m => (HC1.out m).1
        have d1 := fun m => (HC1.out m).2.1
        have d2 := fun m => (HC1.out m).2.2.1
        have d3 := fun m => (HC1.out m).2.2.2
        have g0 := fun m => (HC2.out m).1
        have g1 := fun m => (HC2.out m).2.1
        have g2 := fun m => (HC2.out m).2.2.1
        have g3 := fun m => (HC2.out m).2.2.2
        clear hq s1 s2
        obtain ⟨ta, tb, tS, tq⟩ := t
        obtain ⟨ua, ub, uS, uq⟩ := u
        dsimp only at d0 d1 d2 d3 g0 g1 g2 g3 HS HS2
        by_cases hA : ta = ua
        · subst hA
          by_cases hB : tb = ub
          · subst hB
            have hr : sameK ⟨ta, tb, tS, tq⟩ ⟨ta, tb, uS, uq⟩ = ((bitsOf tS == bitsOf uS) && (bitsOf tq == bitsOf uq)) := by simp [sameK]
            rw [hr] at HT HNo
            clear hr HC1 HC2
            generalize (bitsOf tS == bitsOf uS) = r at HT HNo HS
            generalize (bitsOf tq == bitsOf uq) = r2 at HT HNo HS2
            have hx1 : (ta != ta) = false := by simp
            have hx2 : (tb != tb) = false := by simp
            cases r
            · have HF := Lib.hid (HNo.out rfl)
              clear HT HNo hall HS2
              go_wp2
              go_quiet ((go_at_call 91; exact Calls.quiet_of_same ((HS.out _).mono (fun _ _ h => ⟨h.1, h.2.symm⟩))))
              go_wp2
              go_ret
              exact ⟨by rw [HF.out]; rfl, HQ.out.trans ⟨_, rfl⟩⟩
            · cases r2
              · have HF := Lib.hid (HNo.out rfl)
                clear HT HNo hall
                go_wp2
                go_quiet (first | (go_at_call 91; exact Calls.quiet_of_same ((HS.out _).mono (fun _ _ h => ⟨h.1, h.2.symm⟩))) | (go_at_call 91; exact Calls.quiet_of_same ((HS2.out _).mono (fun _ _ h => ⟨h.1, h.2.symm⟩))))
                go_wp2
                go_ret
                exact ⟨by rw [HF.out]; rfl, HQ.out.trans ⟨_, rfl⟩⟩
              · have HT' := Lib.hid (show ((ts.zip us).take (k + 1)).all (fun p => sameK p.1 p.2) = true by rw [HT.out, hall.out]; rfl)
                clear HT HNo hall
                go_wp2
                go_quiet (first | (go_at_call 91; exact Calls.quiet_of_same ((HS.out _).mono (fun _ _ h => ⟨h.1, h.2.symm⟩))) | (go_at_call 91; exact Calls.quiet_of_same ((HS2.out _).mono (fun _ _ h => ⟨h.1, h.2.symm⟩))))
                go_wp2
                go_roundw
                case rel => exact ⟨_, k + 1, rfl, by omega, by go_num, HT', HQ.out.trans ⟨_, rfl⟩⟩
                case measure => simp [intOf]; omega
          · have hx1 : (ta != ta) = false := by simp
            have hx2 : (tb != ub) = true := by simpa using hB
            have HF := Lib.hid (HNo.out (by simp [sameK, hB]))
            clear HT HNo hall hB HC1 HC2 HS HS2
            go_wp2
            go_quiet (fail)
            go_wp2
            go_ret
            exact ⟨by rw [HF.out]; rfl, HQ.out.trans ⟨_, rfl⟩⟩
        · have hx1 : (ta != ua) = true := by simpa using hA
          have HF := Lib.hid (HNo.out (by simp [sameK, hA]))
          clear HT HNo hall hA HC1 HC2 HS HS2
          go_wp2
          go_quiet (fail)
          go_wp2
          go_ret
          exact ⟨by rw [HF.out]; rfl, HQ.out.trans ⟨_, rfl⟩⟩
      · obtain rfl : k = n := by omega
        have HY := Lib.hid (zip_yes ts us (by rw [HN.out, HN'.out]) (by rw [HN.out]; exact hall.out))
        have HQ := Lib.hid hq
        clear hall hq
        go_wp2
        go_ret
        exact ⟨by rw [HY.out]; rfl, HQ.out⟩
  · have HF := Lib.hid (zip_len ts us (by rw [HN.out, HN'.out]; exact hl))
    have hc : ((n : Int) != (n' : Int)) = true := by simp; omega
    go_enter Try.func66, Try.ntmps66
    go_wp2
    go_ret
    exact ⟨by rw [HF.out]; rfl, Quiet.refl _⟩
theorem specSameBonds_of (ao bo : Option Addr) (n c n' c' : Nat) (ts us : List Kc) (w : World) (ha : KRow w ao n ts) (hb : KRow w bo n' us) (hv : ∀ t ∈ ts, t.s < 4294967296 ∧ t.q < 4294967296) (hv' : ∀ t ∈ us, t.s < 4294967296 ∧ t.q < 4294967296) (hm : n ≤ 1048576) (hm' : n' ≤ 1048576) :
    Calls Try.prog 29 #[.slice ao n c, .slice bo n' c'] w fun e w' => e = .returned (.bool (sameL ts us)) ∧ Quiet w w' := by
  have H := Lib.hid (l07Same_of ao bo n c n' c' ts us w ha hb hv hv' hm hm')
  clear ha hb hv hv'
  generalize sameL ts us = r at H ⊢
  go_enter Try.func29, Try.ntmps29
  go_wp2_with fail
  refine H.out.mono ?_
  rintro e w1 ⟨rfl, hb⟩
  go_wp2
  go_ret
  exact ⟨rfl, hb⟩
end Go.Proofs.Ytkgijboahjiodaa
