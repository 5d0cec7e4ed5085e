/- The law FnHeaps is true at every input that its row speaks of. No condition beyond the given row's. -/
import Derived.Test.YtbggklhnnjikjaaJd
import Derived.Deep.RegionHeld3
import Derived.ProofKit
import Derived.OpenShut
import Derived.Laws.Cover2
import Derived.ShutString
import Derived.ChangeOld
import Derived.Below
namespace Go.Proofs.Ytbggklhnnjikjaa.pFnHeaps
open Go.RowKit Fl

theorem revN_snoc {n j p : Nat} (hj : j < n) (hp : (p : Int) = n - 1 - j) : ints ((revN n).take (j + 1)) = ints ((revN n).take j) ++ [.int .i64 (p : Int)] := by
  have e : p = n - 1 - j := by omega
  subst e
  have h : (revN n)[j]? = some (n - 1 - j) := by simp [revN, hj]
  rw [List.take_add_one, h]
  exact ints_snoc _ _
/-- the order, as it grows -/
def OrdInv (V W : World) (n j : Nat) (v : Value) : Prop := W.ownsRow V.heap.size 2 1 v j (ints ((revN n).take j)) ∧ Below V.heap.size V W
theorem OrdInv.end_ {V W : World} {n : Nat} {v : Value} (h : OrdInv V W n n v) (hn : 0 < n) : ∃ b c, v = .slice (some ⟨b, 0, none⟩) n c ∧ b < W.heap.size ∧ NRow W (some ⟨b, 0, none⟩) n (revN n) ∧ Below V.heap.size V W := by
  obtain ⟨b, c, rfl, _, hb⟩ := own_form' h.1 hn
  have h1 := h.1
  rw [List.take_of_length_le (by rw [revN_length]; exact Nat.le_refl _)] at h1
  exact ⟨b, c, rfl, hb, NRow.of_own h1 (revN_length n), h.2⟩
theorem neq_sameC {a b c d : Nat} (h1 : FloatKind.f32.format.order a c = some .eq) (h2 : FloatKind.f32.format.order b d = some .eq) (P : Program) (t : TypeId) (w : World) : (binOp .neq t (.complex .f32 a b) (.complex .f32 c d)).run P w = .ok (.bool false) w := by
  rw [run_neq_complex, h1, h2]; rfl
set_option maxRecDepth 100000 in
set_option maxHeartbeats 25600000 in
theorem walk (a0 : Option Addr) (n0 c0 : Nat) (a1 : Option Addr) (n1 c1 : Nat) (w : World) (h0 : BRow w a0 n0) (h1 : BRow w a1 n1) :
    Calls Try.prog 3 #[.slice a0 n0 c0, .slice a1 n1 c1] w fun e w' => e = .returned (.bool true) ∧ Below w.heap.size w w' := by
  have HL := Lib.hid fun w => r8Long_of a0 a1 n0 c0 n1 c1 w
  by_cases hlong : 48 < n0 ∨ 48 < n1
  · have hb : (decide (48 < n0) || decide (48 < n1)) = true := by simp; exact hlong
    rw [hb] at HL
    clear hb hlong h0 h1
    go_enter Try.func3, Try.ntmps3
    go_wp2_with (go_at_call 9; (with_reducible refine (HL.out _).mono ?_); rintro e w' ⟨rfl, rfl⟩)
    go_ret
    exact ⟨rfl, Below.refl _ _⟩
  · have hb : (decide (48 < n0) || decide (48 < n1)) = false := by simp; omega
    rw [hb] at HL
    have hn1 : n1 ≤ 48 := by omega
    have HH := Lib.hid fun k w (h : BRow w a0 n0) (hk : k ≤ 6) => r8Heap_of a0 n0 c0 k w h hk
    have HA := Lib.hid fun w (h : BRow w a1 n1) => r8At_of a1 n1 c1 0 4 w h (by omega) (by omega) (by omega) (by omega)
    obtain ⟨o0, ho0⟩ := ByteAt.of_row h1 1
    obtain ⟨o1, ho1⟩ := ByteAt.of_row h1 2
    obtain ⟨qa, hqa, hqa1, hqa2⟩ := placeW_exa o0 _ 4 exa_one4 (by omega)
    obtain ⟨qb, hqb, hqb1, hqb2⟩ := placeW_exa o1 _ (-2) exa_half4 (by omega)
    have HP := Lib.hid fun w' (h : Below w.heap.size w w') => r8Place_of a1 n1 c1 1 o0 o1 w' hn1 (by omega) (ho0.next h) (ho1.next h)
    generalize placeW o0 1065353216 = fx at *
    generalize placeW o1 3204448256 = fy at *
    have HX := Lib.hid hqa
    have HY := Lib.hid hqb
    have HQ := Lib.hid (show (-16 ≤ qa ∧ qa ≤ 16) ∧ -16 ≤ qb ∧ qb ≤ 16 from ⟨⟨hqa1, hqa2⟩, hqb1, hqb2⟩)
    have H0 := Lib.hid h0
    have H1 := Lib.hid h1
    have hsf := run_store_float' Try.prog
    have hsc := run_store_complex Try.prog
    clear hb hlong h0 h1 ho0 ho1 hqa hqb hqa1 hqa2 hqb1 hqb2
    go_enter Try.func3, Try.ntmps3
    go_wp2_with (go_at_call 9; (with_reducible refine (HL.out _).mono ?_); rintro e w' ⟨rfl, rfl⟩)
    go_wp2_with fail
    refine (HA.out _ H1.out).mono ?_
    rintro e w0 ⟨x, hx0, hx1, rfl, rfl⟩
    obtain ⟨m, rfl⟩ := Int.eq_ofNat_of_zero_le hx0
    have hwx : wrap64 (2 + (m : Int)) = ((m + 2 : Nat) : Int) := by unfold wrap64; omega
    have hm4 : m + 2 ≤ 6 := by omega
    have hm1 : 1 ≤ m + 2 := by omega
    obtain ⟨n, hmn⟩ : ∃ n, n = m + 2 := ⟨_, rfl⟩
    rw [← hmn] at hwx hm4 hm1
    clear hmn hx0 hx1
    go_wp2_with fail
    refine (HH.out _ _ H0.out hm4).mono ?_
    rintro e w1 ⟨gs, is, bh, ch, hl, hq, hbent, hfree, rfl, ho, hb⟩
    have hF := heapsF_of n hl hm1 hm4 hq HX.out HY.out HQ.out.1 HQ.out.2
    have hC := heapsC_of hl hm1 hm4 rfl rfl rfl rfl rfl rfl hF
    generalize hmi : gs.map mirrorF = mi at hC hF
    generalize htw : mi.map mirrorF = tw at hC hF
    generalize hmv : gs.map (moveF fx fy) = mv at hC hF
    generalize hbk : mv.map (moveF (Op.negFloat .f32 fx) (Op.negFloat .f32 fy)) = bk at hC hF
    generalize had : gs ++ [gs.getD 0 default] = ad at hC hF
    generalize hot : ordF gs (revN n) = ot at hC hF
    obtain ⟨ma, mb, cx, cy, dx, dy, R, I, R', I', tu, tv, ex, ey, i, j, v, gt, ge, hC⟩ := hC
    have F := Lib.hid hF
    have C := Lib.hid hC
    have GL := Lib.hid hl
    have N4 := Lib.hid hm4
    have K1 := Lib.hid ((KeepN.nil hb).push bh n ch gs (row_of_own ho hl))
    clear hl hq hbent hfree ho hb hF hC HX HY HQ HH H0 H1 HL HA hmi htw hmv hbk had hot

    have d0 := (K1.out.v _ (.head _)).d.cell 0
    go_wp2_with fail
    refine (C.out.mir _ _ _ (K1.out.v _ (.head _)).r).mono ?_
    rintro e w2 ⟨b2, c2, rfl, hcap, hbs, hr, hb⟩
    have K2 := Lib.hid ((K1.out.next hb).push b2 n c2 mi hr)
    clear hr hb hcap hbs K1 d0
    have d0 := (K2.out.v _ (.head _)).d.cell 0
    go_wp2_with fail
    refine (C.out.twi _ _ _ (K2.out.v _ (.head _)).r).mono ?_
    rintro e w3 ⟨b3, c3, rfl, hcap, hbs, hr, hb⟩
    have K3 := Lib.hid ((K2.out.next hb).push b3 n c3 tw hr)
    clear hr hb hcap hbs K2 d0
    go_wp2_with fail
    refine (HP.out _ K3.out.l).mono ?_
    rintro e w4 ⟨rfl, hb⟩
    have K4 := Lib.hid (K3.out.next hb)
    clear hb K3 HP
    have d0 := (K4.out.v _ (.tail _ (.tail _ (.head _)))).d.cell 0
    go_wp2_with fail
    refine (C.out.mov _ _ _ (K4.out.v _ (.tail _ (.tail _ (.head _)))).r).mono ?_
    rintro e w5 ⟨b5, c5, rfl, hcap, hbs, hr, hb⟩
    have K5 := Lib.hid ((K4.out.next hb).push b5 n c5 mv hr)
    clear hr hb hcap hbs K4 d0
    have d0 := (K5.out.v _ (.head _)).d.cell 0
    have hneg : Op.unary .neg (.complex .f32 fx fy) = pure (.complex .f32 (Op.negFloat .f32 fx) (Op.negFloat .f32 fy)) := rfl
    go_wp2_with fail
    refine (C.out.bck _ _ _ (K5.out.v _ (.head _)).r).mono ?_
    rintro e w6 ⟨b6, c6, rfl, hcap, hbs, hr, hb⟩
    have K6 := Lib.hid ((K5.out.next hb).push b6 n c6 bk hr)
    clear hr hb hcap hbs K5 d0
    have d0 := (K6.out.v _ (.tail _ (.tail _ (.tail _ (.tail _ (.head _)))))).d.cell 0
    obtain ⟨q0, q1, q2, q3, q4, q5, q6⟩ := (K6.out.v _ (.tail _ (.tail _ (.tail _ (.tail _ (.head _)))))).r 0 (by show 0 < gs.length; rw [GL.out]; omega)
    have HAd := Lib.hid C.out.add
    generalize gs.getD 0 default = g0 at q0 q1 q2 q3 q4 q5 q6 HAd
    unfold Gr.val at HAd
    obtain ⟨ax, ay, sx, sy, rr, mm, tt, ss, hh⟩ := g0
    dsimp only at q0 q1 q2 q3 q4 q5 q6 HAd
    simp only [Nat.zero_mul, Nat.zero_add] at q0 q1 q2 q3 q4 q5 q6
    have hn0 : (0 : Int) < (n : Int) := by omega
    go_wp2_with fail
    have Rh := Lib.hid (K6.out.v _ (.tail _ (.tail _ (.tail _ (.tail _ (.head _)))))).r
    generalize w6.alloc (.cells #[.slice (some ⟨b6, 0, none⟩) n c6] 26) = W6 at K6 d0 q0 q1 q2 q3 q4 q5 q6 Rh ⊢
    have l1 : w1.heap.size < W6.heap.size := (K6.out.v _ (.tail _ (.tail _ (.tail _ (.tail _ (.head _)))))).d.lt
    have l2 : bh < W6.heap.size := World.block_lt_of_cell? W6 _ q0
    have h8 : (W6.alloc (.cells #[.slice none 0 0] 26)).heap.size = W6.heap.size + 1 := by show (W6.heap.push _).size = _; simp
    have hg1 : 0 < n := by omega
    have D0 : HCells w1.heap.size bh n ch ax ay sx sy rr mm tt ss hh (W6.drew) := ⟨d0, q0, q1, q2, q3, q4, q5, q6⟩
    apply wp_over (X := fun B b c w' => n + 1 ≤ c ∧ KeepN w w' (⟨B, b, n + 1, c, ad⟩ :: [⟨w6.heap.size, b6, n, c6, bk⟩, ⟨w5.heap.size, b5, n, c5, mv⟩, ⟨w3.heap.size, b3, n, c3, tw⟩, ⟨w2.heap.size, b2, n, c2, mi⟩, ⟨w1.heap.size, bh, n, ch, gs⟩]))
    · go_region_held3 (HCells w1.heap.size bh n ch ax ay sx sy rr mm tt ss hh)
        (first | with_reducible exact D0 | exact HCells.next hb (by with_reducible assumption) | exact HCells.alloc (.cells #[.slice none 0 0] 26) D0 | exact HCells.realloc _ (by omega) (by omega) (by with_reducible assumption) | exact HCells.alloc _ (by with_reducible assumption) | exact HCells.far (show W6.heap.size ≠ w1.heap.size by omega) (show W6.heap.size ≠ bh by omega) (by with_reducible assumption))
        (first | (go_at_call 15; (with_reducible refine (HAd.out _ _ _ (by first | exact Rh.out.quiet (Quiet.one _) | exact (Rh.out.alloc _).quiet (Quiet.one _))).mono ?_); rintro e w7 ⟨b7, c7, rfl, hcap, hbs, hr, hb⟩; have hsz : W6.heap.size ≤ w7.heap.size := (by have h9 := hb.size; first | exact h9 | (rw [show (W6.alloc (.cells #[.slice none 0 0] 26)).drew.heap.size = W6.heap.size + 1 from h8] at h9; exact Nat.le_of_succ_le h9)); try (have d7 := (new_kept hb).1; have d8 := (new_kept hb).2)))
      · obtain ⟨B, hB⟩ : ∃ B, B = w7.heap.size := ⟨_, rfl⟩
        rw [← hB]
        refine ⟨B, b7, c7, rfl, hcap, ?_⟩
        subst hB
        exact ((K6.out.drewN 1).next hb).push b7 (n + 1) c7 ad hr
      · obtain ⟨B, hB⟩ : ∃ B, B = W6.heap.size := ⟨_, rfl⟩
        rw [← hB]
        refine ⟨B, b7, c7, rfl, hcap, ?_⟩
        have h9 : W6.heap.size + 1 ≤ b7 := by rw [← h8]; exact hbs
        refine (K6.out.drewN 1).fill (fun x hx => ?_) hB hb hr (by omega)
        simp only [List.mem_cons, List.not_mem_nil, or_false] at hx
        rcases hx with rfl | rfl | rfl | rfl | rfl
        · show 0 < List.length _; rw [F.out.lbk]; exact hg1
        · show 0 < List.length _; rw [F.out.lmv]; exact hg1
        · show 0 < List.length _; rw [F.out.ltw]; exact hg1
        · show 0 < List.length _; rw [F.out.lmi]; exact hg1
        · show 0 < List.length _; rw [GL.out]; exact hg1
    · intro B7 b7 c7 w7 hX
      obtain ⟨hcap, hK⟩ := hX
      have K7 := Lib.hid hK
      have HCap := Lib.hid hcap
      clear hK hcap K6 D0 d0 q0 q1 q2 q3 q4 q5 q6 Rh l1 l2 h8 HAd
      have d0 := (K7.out.v _ (.head _)).d.cell 0
      go_wp2_with fail
      refine (C.out.drop _ _ _ HCap.out (K7.out.v _ (.head _)).r).mono ?_
      rintro e w8 ⟨b8, c8, rfl, hcap, hbs, hr, hb⟩
      have K8 := Lib.hid ((K7.out.next hb).push b8 n c8 gs hr)
      clear hr hb hcap hbs K7 d0
      obtain ⟨i0, hi, hz0, hz1, hz2⟩ := info_parts iinfo
      go_wp2
      have hV : (w8.alloc (.cells #[.slice (some ⟨b8, 0, none⟩) n c8] 26)).heap.size = w8.heap.size + 1 := by show (w8.heap.push _).size = _; simp
      generalize w8.alloc (.cells #[.slice (some ⟨b8, 0, none⟩) n c8] 26) = V at K8 hV ⊢
      rw [← hV]
      clear hV
      go_loopw [20, 21] (fun v i wr => ∃ (W : World) (j : Nat) (z : Int) (vv : Value), W = wr ∧ j ≤ n ∧ i = .int .i64 z ∧ z = (n : Int) - 1 - j ∧ v = vv ∧ OrdInv V wr n j vv) (fun _ i _ => (intOf i + 1).toNat)
      case atStart => exact ⟨_, 0, _, _, rfl, Nat.zero_le _, rfl, by first | omega | (unfold wrap64; omega), rfl, ⟨World.ownsRow_lit V #[] 0 (Nat.le_refl _) (by decide) rfl, (Below.refl _ V).alloc (Nat.le_refl _) _⟩⟩
      case round =>
        obtain ⟨W, j, z, _, rfl, hj, rfl, hz, rfl, hI⟩ := hrel
        have HI := Lib.hid hI
        clear hI
        by_cases hlt : j < n
        · obtain ⟨p, rfl⟩ := Int.eq_ofNat_of_zero_le (show 0 ≤ z by omega)
          have hsz := HI.out.2.size
          have HS := Lib.hid (revN_snoc hlt hz)
          have HZ := Lib.hid hz
          clear hz
          go_wp2_with (at_builtin; go_loud (refine wpList_append_own _ rfl _ _ 39 rfl V.heap.size 2 i0 _ 1 8 Try.underlying39 hi hz0 hz1 hz2 rfl (by decide) _ _ _ rfl (HI.out.1.alloc _) ⟨W.heap.size, 0, none⟩ 1 1 [.int .i64 (p : Int)] rfl rfl (int_new _ _ _ _ rfl) (fun x hx => by simp at hx; subst hx; rfl) (by unfold maxLen; omega) (by omega) (by simp; omega) ?_); intro v' w5 hown' hgrow hnil; have L5 := Lib.hid (below_app HI.out.2 HI.out.1 hgrow); have O5 := Lib.hid hown'; clear hown' hgrow hnil)
          go_roundw
          case rel => exact ⟨_, j + 1, _, _, rfl, by omega, rfl, by have hz := HZ.out; first | omega | (unfold wrap64; omega), rfl, ⟨by rw [HS.out]; exact O5.out, L5.out⟩⟩
          case measure => have hz := HZ.out; simp [intOf]; first | omega | (unfold wrap64; omega)
        · obtain rfl : n = j := by omega
          obtain ⟨bo, co, rfl, hbo, hro, hbel⟩ := HI.out.end_ hg1
          have K9 := Lib.hid (K8.out.next hbel)
          have RO := Lib.hid hro
          obtain rfl : z = -1 := by omega
          clear hro hbel HI K8 hlt hz hj
          have d0 := (K9.out.v _ (.tail _ (.tail _ (.tail _ (.tail _ (.tail _ (.tail _ (.head _)))))))).d.cell 0
          go_wp2_with fail
          refine (C.out.ord _ _ _ _ _ (K9.out.v _ (.tail _ (.tail _ (.tail _ (.tail _ (.tail _ (.tail _ (.head _)))))))).r RO.out).mono ?_
          rintro e w10 ⟨b10, c10, rfl, hcap, hbs, hr, hb⟩
          have K10 := Lib.hid ((K9.out.next hb).push b10 n c10 ot hr)
          have RO := Lib.hid ((RO.out.next hb).next ((Below.refl _ _).alloc (Nat.le_refl _) (.cells #[.slice (some ⟨b10, 0, none⟩) n c10] 26)))
          clear hr hb hcap hbs K9 d0
          have d0 := (K10.out.v _ (.head _)).d.cell 0
          go_wp2_with fail
          refine (C.out.orb _ _ _ _ _ (K10.out.v _ (.head _)).r RO.out).mono ?_
          rintro e w11 ⟨b11, c11, rfl, hcap, hbs, hr, hb⟩
          have K11 := Lib.hid ((K10.out.next hb).push b11 n c11 gs hr)
          clear hr hb hcap hbs K10 d0 RO
          have d0 := (K11.out.v _ (.tail _ (.tail _ (.head _)))).d.cell 0
          have d1 := (K11.out.v _ (.tail _ (.tail _ (.tail _ (.tail _ (.tail _ (.tail _ (.tail _ (.tail _ (.head _)))))))))).d.cell 0
          go_wp2_with fail
          refine (C.out.same _ _ _ _ _ (K11.out.v _ (.tail _ (.tail _ (.head _)))).r (K11.out.v _ (.tail _ (.tail _ (.tail _ (.tail _ (.tail _ (.tail _ (.tail _ (.tail _ (.head _)))))))))).r).mono ?_
          rintro e w12 ⟨rfl, hb⟩
          have K12 := Lib.hid (K11.out.next hb)
          clear hb K11 d0 d1
          have d0 := (K12.out.v _ (.head _)).d.cell 0
          have d1 := (K12.out.v _ (.tail _ (.tail _ (.tail _ (.tail _ (.tail _ (.tail _ (.tail _ (.tail _ (.head _)))))))))).d.cell 0
          go_wp2_with fail
          refine (C.out.same _ _ _ _ _ (K12.out.v _ (.head _)).r (K12.out.v _ (.tail _ (.tail _ (.tail _ (.tail _ (.tail _ (.tail _ (.tail _ (.tail _ (.head _)))))))))).r).mono ?_
          rintro e w13 ⟨rfl, hb⟩
          have K13 := Lib.hid (K12.out.next hb)
          clear hb K12 d0 d1
          have d0 := (K13.out.v _ (.tail _ (.tail _ (.tail _ (.tail _ (.tail _ (.tail _ (.head _)))))))).d.cell 0
          have d1 := (K13.out.v _ (.tail _ (.tail _ (.tail _ (.tail _ (.tail _ (.tail _ (.tail _ (.tail _ (.head _)))))))))).d.cell 0
          have d2 := (K13.out.v _ (.tail _ (.tail _ (.tail _ (.tail _ (.head _)))))).d.cell 0
          go_wp2
          clear d0 d1 d2 RO
          go_loopw [26] (fun i wr => ∃ (W : World) (k : Nat), W = wr ∧ k ≤ n ∧ i = .int .i64 k ∧ KeepN w wr [⟨w11.heap.size, b11, n, c11, gs⟩, ⟨w10.heap.size, b10, n, c10, ot⟩, ⟨w8.heap.size, b8, n, c8, gs⟩, ⟨B7, b7, n + 1, c7, ad⟩, ⟨w6.heap.size, b6, n, c6, bk⟩, ⟨w5.heap.size, b5, n, c5, mv⟩, ⟨w3.heap.size, b3, n, c3, tw⟩, ⟨w2.heap.size, b2, n, c2, mi⟩, ⟨w1.heap.size, bh, n, ch, gs⟩]) (fun i _ => n - (intOf i).toNat)
          case atStart => exact ⟨_, 0, rfl, Nat.zero_le _, rfl, by first | exact K13.out | exact K13.out.drewN _⟩
          case round =>
            obtain ⟨W, k, rfl, hk, rfl, hI⟩ := hrel
            have K14 := Lib.hid hI
            clear hI K13
            by_cases hlt : k < n
            · have nq1 := neq_sameC (F.out.tax k hlt) (F.out.tay k hlt)
              have nq2 := neq_sameC (F.out.bax k hlt) (F.out.bay k hlt)
              have hs := F.out.tsp k hlt
              have d0 := (K14.out.v _ (.tail _ (.tail _ (.tail _ (.tail _ (.tail _ (.tail _ (.head _)))))))).d.cell 0
              have d1 := (K14.out.v _ (.tail _ (.tail _ (.tail _ (.tail _ (.tail _ (.tail _ (.tail _ (.tail _ (.head _)))))))))).d.cell 0
              have d2 := (K14.out.v _ (.tail _ (.tail _ (.tail _ (.tail _ (.head _)))))).d.cell 0
              obtain ⟨t0, _, _, _, _, t5, _⟩ := (K14.out.v _ (.tail _ (.tail _ (.tail _ (.tail _ (.tail _ (.tail _ (.head _)))))))).r k (by show k < tw.length; rw [F.out.ltw]; exact hlt)
              obtain ⟨q0, _, _, _, _, q5, _⟩ := (K14.out.v _ (.tail _ (.tail _ (.tail _ (.tail _ (.tail _ (.tail _ (.tail _ (.tail _ (.head _)))))))))).r k (by show k < gs.length; rw [GL.out]; exact hlt)
              obtain ⟨k0, _, _, _, _, _, _⟩ := (K14.out.v _ (.tail _ (.tail _ (.tail _ (.tail _ (.head _)))))).r k (by show k < bk.length; rw [F.out.lbk]; exact hlt)
              generalize tw.getD k default = g1 at t0 t5 nq1 hs
              generalize gs.getD k default = g2 at q0 q5 nq1 nq2 hs
              generalize bk.getD k default = g3 at k0 nq2
              have hkn : (k : Int) < (n : Int) := by omega
              have hk0 : (0 : Int) ≤ (k : Int) := by omega
              go_wp2_with fail
              go_quiet (fail)
              go_wp2_with fail
              clear d0 d1 d2 t0 t5 q0 q5 k0 nq1 nq2 hs
              go_roundw
              case rel => exact ⟨_, k + 1, rfl, by omega, by go_num, K14.out.drewN _⟩
              case measure => simp [intOf]; omega
            · obtain rfl : n = k := by omega
              clear hlt hk
              have d0 := (K14.out.v _ (.tail _ (.tail _ (.tail _ (.tail _ (.tail _ (.tail _ (.tail _ (.tail _ (.head _)))))))))).d.cell 0
              go_wp2_with fail
              refine (C.out.msA _ _ _ (K14.out.v _ (.tail _ (.tail _ (.tail _ (.tail _ (.tail _ (.tail _ (.tail _ (.tail _ (.head _)))))))))).r).mono ?_
              rintro e w15 ⟨rfl, hb⟩
              have K15 := Lib.hid (K14.out.next hb)
              clear hb K14 d0
              have d0 := (K15.out.v _ (.tail _ (.head _))).d.cell 0
              go_wp2_with fail
              refine (C.out.msB _ _ _ (K15.out.v _ (.tail _ (.head _))).r).mono ?_
              rintro e w16 ⟨rfl, hb⟩
              have K16 := Lib.hid (K15.out.next hb)
              clear hb K15 d0
              have d0 := (K16.out.v _ (.tail _ (.tail _ (.tail _ (.tail _ (.tail _ (.tail _ (.tail _ (.tail _ (.head _)))))))))).d.cell 0
              go_wp2_with fail
              refine (C.out.mmA _ _ _ (K16.out.v _ (.tail _ (.tail _ (.tail _ (.tail _ (.tail _ (.tail _ (.tail _ (.tail _ (.head _)))))))))).r).mono ?_
              rintro e w17 ⟨rfl, hb⟩
              have K17 := Lib.hid (K16.out.next hb)
              clear hb K16 d0
              have d0 := (K17.out.v _ (.tail _ (.head _))).d.cell 0
              go_wp2_with fail
              refine (C.out.mmB _ _ _ (K17.out.v _ (.tail _ (.head _))).r).mono ?_
              rintro e w18 ⟨rfl, hb⟩
              have K18 := Lib.hid (K17.out.next hb)
              clear hb K17 d0
              have d0 := (K18.out.v _ (.tail _ (.tail _ (.tail _ (.tail _ (.tail _ (.tail _ (.tail _ (.tail _ (.head _)))))))))).d.cell 0
              go_wp2_with fail
              refine (C.out.ctA _ _ _ (K18.out.v _ (.tail _ (.tail _ (.tail _ (.tail _ (.tail _ (.tail _ (.tail _ (.tail _ (.head _)))))))))).r).mono ?_
              rintro e w19 ⟨rfl, hb⟩
              have K19 := Lib.hid (K18.out.next hb)
              clear hb K18 d0
              have d0 := (K19.out.v _ (.tail _ (.tail _ (.tail _ (.tail _ (.tail _ (.head _))))))).d.cell 0
              go_wp2_with fail
              refine (C.out.ctB _ _ _ (K19.out.v _ (.tail _ (.tail _ (.tail _ (.tail _ (.tail _ (.head _))))))).r).mono ?_
              rintro e w20 ⟨rfl, hb⟩
              have K20 := Lib.hid (K19.out.next hb)
              clear hb K19 d0
              have d0 := (K20.out.v _ (.tail _ (.tail _ (.tail _ (.tail _ (.tail _ (.tail _ (.tail _ (.tail _ (.head _)))))))))).d.cell 0
              go_wp2_with fail
              refine (C.out.tuA _ _ _ (K20.out.v _ (.tail _ (.tail _ (.tail _ (.tail _ (.tail _ (.tail _ (.tail _ (.tail _ (.head _)))))))))).r).mono ?_
              rintro e w21 ⟨rfl, hb⟩
              have K21 := Lib.hid (K20.out.next hb)
              clear hb K20 d0
              have d0 := (K21.out.v _ (.tail _ (.tail _ (.tail _ (.tail _ (.tail _ (.tail _ (.tail _ (.head _))))))))).d.cell 0
              go_wp2_with fail
              refine (C.out.tuB _ _ _ (K21.out.v _ (.tail _ (.tail _ (.tail _ (.tail _ (.tail _ (.tail _ (.tail _ (.head _))))))))).r).mono ?_
              rintro e w22 ⟨rfl, hb⟩
              have K22 := Lib.hid (K21.out.next hb)
              clear hb K21 d0
              have d0 := (K22.out.v _ (.tail _ (.tail _ (.tail _ (.tail _ (.tail _ (.tail _ (.tail _ (.tail _ (.head _)))))))))).d.cell 0
              go_wp2_with fail
              refine (C.out.enA _ _ _ (K22.out.v _ (.tail _ (.tail _ (.tail _ (.tail _ (.tail _ (.tail _ (.tail _ (.tail _ (.head _)))))))))).r).mono ?_
              rintro e w23 ⟨rfl, hb⟩
              have K23 := Lib.hid (K22.out.next hb)
              clear hb K22 d0
              have d0 := (K23.out.v _ (.tail _ (.tail _ (.tail _ (.tail _ (.tail _ (.tail _ (.tail _ (.head _))))))))).d.cell 0
              go_wp2_with fail
              refine (C.out.enB _ _ _ (K23.out.v _ (.tail _ (.tail _ (.tail _ (.tail _ (.tail _ (.tail _ (.tail _ (.head _))))))))).r).mono ?_
              rintro e w24 ⟨rfl, hb⟩
              have K24 := Lib.hid (K23.out.next hb)
              clear hb K23 d0
              have he := C.out.eqm
              have hca := fun w => run_csum (P := Try.prog) .add (Or.inl rfl) 31 R I fx fy i j C.out.pi C.out.pj w
              have hctu := fun w => run_convert_float_float (P := Try.prog) w 35 47 .f32 .f64 tu (wide tu) (by kernel_rfl) Try.underlying47 (wide_conv tu C.out.nu)
              have hctv := fun w => run_convert_float_float (P := Try.prog) w 35 47 .f32 .f64 tv (wide tv) (by kernel_rfl) Try.underlying47 (wide_conv tv C.out.nv)
              have hcex := fun w => run_convert_float_float (P := Try.prog) w 35 47 .f32 .f64 ex (wide ex) (by kernel_rfl) Try.underlying47 (wide_conv ex C.out.nx)
              have hcey := fun w => run_convert_float_float (P := Try.prog) w 35 47 .f32 .f64 ey (wide ey) (by kernel_rfl) Try.underlying47 (wide_conv ey C.out.ny)
              have hn2 : Op.unary .neg (.float .f64 (wide tv)) = pure (.float .f64 (Op.negFloat .f64 (wide tv))) := rfl
              have hz := (by decide +kernel : FloatKind.f64.format.order 0 4562254508917369340 = some .lt)
              have hl1 := C.out.lv
              have hl2 := C.out.lt
              have hl3 := C.out.le
              have hpos := C.out.pos
              have HL := Lib.hid K24.out.l
              clear K24
              go_wp2_with fail
              refine (C.out.apC _).mono ?_
              rintro e w25 ⟨rfl, rfl⟩
              go_wp2_with fail
              refine (C.out.apF _).mono ?_
              rintro e w26 ⟨rfl, ⟨m26, rfl⟩⟩
              go_wp2_with fail
              refine (C.out.gpT _).mono ?_
              rintro e w27 ⟨rfl, rfl⟩
              go_wp2_with fail
              refine (C.out.gpE _).mono ?_
              rintro e w28 ⟨rfl, rfl⟩
              go_wp2_with fail
              go_ret
              exact ⟨by first | rfl | simp [hpos], below_drewN HL.out _⟩
end Go.Proofs.Ytbggklhnnjikjaa.pFnHeaps

namespace Go.Proofs.Ytbggklhnnjikjaa.pFnHeaps
open Go.ChangeShapes Go.WideShapes Go.ChangeAt Go.RowKit Fl
open Go.ChangeMaps (open_string shut_string)

theorem own : ownKnob Try.prog.godebug = none := by kernel_rfl
theorem laidOut : laidOutB Try.prog = true := by kernel_rfl


set_option maxRecDepth 100000 in
theorem lifted (os : Os) (started : os.Started) (H : Type) (enc : TypeId × Value → H) :
    ReturnsInHanded {} Try.checked os 3 .any (Rows.fnHeapsSpec.pre6 enc Try.prog Try.f3 Rows.fnHeapsRow.domain false) (Rows.fnHeapsSpec.post enc Try.prog Try.f3 false true false false) := by
  refine returnsInHanded_of_change (C := Try.checked) own started (by kernel_rfl) Try.func3
    (ChangeSpec.witness6 (enc := enc) (C := Try.checked) false ⟨#[], #[.slice none 0 0, .slice none 0 0], []⟩ 8 (by kernel_rfl) (by kernel_rfl) (by kernel_rfl) (by kernel_rfl)) ?_
  intro W base args ds gs before hval0 hW hcnd _
  have hval : ∀ (j : Nat) t v, Try.f3.params[j]? = some t → args[j]? = some v → Value.okWide Try.prog W .any base t v := hval0
  have hW' := hW
  obtain ⟨p, q, hA0, hV, rfl, hfz, hnd⟩ := hW
  have hA : DataW.TrodAll enc Try.prog W 0 (fun _ => true) true Try.f3.params.toList args.toList ds p := hA0
  rw [Try.params3] at hA hval
  obtain ⟨v0, vs0, d0, ds0, p0, q0, hargs, rfl, rfl, h0, r0⟩ := trodAll_cons hA
  obtain ⟨v1, vs1, d1, ds1, p1, q1, rfl, rfl, rfl, h1, r1⟩ := trodAll_cons r0
  obtain ⟨rfl, rfl, rfl⟩ := trodAll_nil r1
  obtain rfl : args = #[v0, v1] := by cases args; simp_all
  obtain ⟨rfl, rfl⟩ := trodVars_none hV
  obtain ⟨a0, n0, c0, rfl⟩ := okWide_slice Try.underlying22 (hval 0 22 v0 rfl rfl)
  have k0 := h0
  have lt0 : ∀ x ∈ p0, x.block < W.heap.size := by obtain ⟨m, hm⟩ := k0; exact DataW.trod_lt m _ _ _ hm
  have br0 := open_brow Try.underlying22 Try.underlying5 (by kernel_rfl) h0
  obtain ⟨a1, n1, c1, rfl⟩ := okWide_slice Try.underlying22 (hval 1 22 v1 rfl rfl)
  have k1 := h1
  have lt1 : ∀ x ∈ p1, x.block < W.heap.size := by obtain ⟨m, hm⟩ := k1; exact DataW.trod_lt m _ _ _ hm
  have br1 := open_brow Try.underlying22 Try.underlying5 (by kernel_rfl) h1
  clear hA0 hval0
  refine (walk a0 n0 c0 a1 n1 c1 W br0 br1).mono fun e W' ⟨he, bel⟩ => ?_
  subst he
  exact ⟨_, rfl, _, _, _, [], _, [], hW', trodAll_mk1 (shut_bool Try.underlying4 _), (trodAll_cons_mk (Below.trod laidOut (by kernel_rfl) (of_decide_eq_true (by kernel_rfl)) k0 bel lt0) (trodAll_cons_mk (Below.trod laidOut (by kernel_rfl) (of_decide_eq_true (by kernel_rfl)) k1 bel lt1) trodAll_mk0)), rfl, bel.frame _, fun h => by cases h⟩

theorem fnHeaps_holds : Rows.FnHeapsSaid :=
  OpenClaim.holds_of_wide 3 Try.f3 rfl rfl rfl rfl rfl rfl rfl ⟨rfl, rfl, rfl, rfl, rfl⟩ rfl rfl rfl rfl rfl (by kernel_rfl) Try.func3 (by kernel_rfl)
    (of_decide_eq_true (by kernel_rfl)) (by unfold Func.isWrapper; rw [if_neg (of_decide_eq_false (by kernel_rfl))]; exact ⟨rfl, rfl⟩)
    (fun os started H enc _ => lifted os started H enc)

end Go.Proofs.Ytbggklhnnjikjaa.pFnHeaps
