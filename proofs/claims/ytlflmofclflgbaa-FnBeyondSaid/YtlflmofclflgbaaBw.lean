/- The law FnBeyond: the walk. -/
import Derived.Test.YtlflmofclflgbaaBy
import Derived.Test.YtlflmofclflgbaaR8
namespace Go.Proofs.Ytlflmofclflgbaa.pFnBeyond
open Go.RowKit Fl

/-- what stays through the law's loops -/
structure Inv (w W : World) (hB wB lB bh ch : Nat) (fx fy tx ty : Nat) (gs ls : List Gr) (zs : List Nat) (al az : Option Addr) (cl : Nat) : Prop where
  l : Below w.heap.size w W
  h : Blk W hB 26 #[.slice (some ⟨bh, 0, none⟩) 4 ch]
  q : Blk W wB 66 #[.complex .f32 fx fy, .complex .f32 tx ty, .complex .f32 0 0]
  n : Blk W lB 26 #[.slice al ls.length cl]
  r : GrRow W bh gs
  z : NRow W az zs.length zs
  y : HRow W al ls.length ls
theorem Inv.next {w W W' : World} {hB wB lB bh ch : Nat} {fx fy tx ty : Nat} {gs ls : List Gr} {zs : List Nat} {al az : Option Addr} {cl : Nat} (h : Inv w W hB wB lB bh ch fx fy tx ty gs ls zs al az cl) (hb : Below W.heap.size W W') : Inv w W' hB wB lB bh ch fx fy tx ty gs ls zs al az cl :=
  ⟨below_next h.l hb, blk_next h.h hb, blk_next h.q hb, blk_next h.n hb, h.r.below hb (Nat.le_refl _), h.z.next hb, h.y.next hb⟩
theorem Inv.drewN {w W : World} {hB wB lB bh ch : Nat} {fx fy tx ty : Nat} {gs ls : List Gr} {zs : List Nat} {al az : Option Addr} {cl : Nat} (h : Inv w W hB wB lB bh ch fx fy tx ty gs ls zs al az cl) (m : Nat) : Inv w (W.drewN m) hB wB lB bh ch fx fy tx ty gs ls zs al az cl :=
  ⟨below_drewN h.l m, h.h, h.q, h.n, h.r.quiet ⟨m, rfl⟩, h.z.quiet ⟨m, rfl⟩, h.y.1, fun hn => by obtain ⟨b, h1, h2⟩ := h.y.2 hn; exact ⟨b, h1, h2.quiet ⟨m, rfl⟩⟩⟩
theorem GrsQ.hold {gs : List Gr} {is : List GrI} (h : GrsQ gs is) (i : Nat) (g : Gr) (hg : gs.getD i default = g) (hi : i < gs.length) (q : Bool) : GrsQ (gs.set i { g with h := q }) is := by
  refine ⟨by rw [List.length_set]; exact h.1, fun k hk => ?_⟩
  rw [List.length_set] at hk
  have hk' := h.2 k hk
  by_cases e : i = k
  · subst e
    rw [show (gs.set i { g with h := q }).getD i default = { g with h := q } by simp [List.getD, hi]]
    rw [hg] at hk'
    exact ⟨hk'.ax, hk'.bx, hk'.ay, hk'.by_, hk'.sx, hk'.bu, hk'.sy, hk'.bv, hk'.r, hk'.br, hk'.m, hk'.bm, hk'.t, hk'.bt, hk'.s, hk'.bs⟩
  · rw [show (gs.set i { g with h := q }).getD k default = gs.getD k default by simp [List.getD, List.getElem?_set_ne e]]
    exact hk'
theorem GrRow.far {w : World} {b : Nat} {gs : List Gr} (h : GrRow w b gs) {p : Addr} (hp : b ≠ p.block) (u : Value) : GrRow (w.setCell p u) b gs := by
  intro i hi
  have key : ∀ {o : Nat} {v : Value}, w.cell? ⟨b, o, none⟩ = some v → (w.setCell p u).cell? ⟨b, o, none⟩ = some v := fun {o v} hc => by
    rw [World.cell?_of_block (Below.heap_setCell w p u b hp)]; exact hc
  obtain ⟨c0, c1, c2, c3, c4, c5, c6⟩ := h i hi
  exact ⟨key c0, key c1, key c2, key c3, key c4, key c5, key c6⟩
/-- the heap whose first j grains are held -/
structure HoldInv (W V : World) (bk ck : Nat) (hs : List Gr) (is : List GrI) (j : Nat) : Prop where
  l : Below W.heap.size W V
  d : Blk V W.heap.size 26 #[.slice (some ⟨bk, 0, none⟩) 4 ck]
  ne : bk ≠ W.heap.size
  r : GrRow V bk hs
  len : hs.length = 4
  q : GrsQ hs is
  held : ∀ m, m < j → (hs.getD m default).h = true
set_option maxRecDepth 100000 in
set_option maxHeartbeats 6400000 in
theorem walk (a0 : Option Addr) (n0 c0 : Nat) (a1 : Option Addr) (n1 c1 : Nat) (w : World) (h0 : BRow w a0 n0) (h1 : BRow w a1 n1) :
    Calls Try.prog 8 #[.slice a0 n0 c0, .slice a1 n1 c1] w fun e w' => e = .returned (.bool true) ∧ Below w.heap.size w w' := by
  have HL := Lib.hid fun w => r8Long_of a0 a1 n0 c0 n1 c1 w
  by_cases hlong : 48 < n0 ∨ 48 < n1
  · have hb : (decide (48 < n0) || decide (48 < n1)) = true := by simp; exact hlong
    rw [hb] at HL
    clear hb hlong h0 h1
    go_enter Try.func8, Try.ntmps8
    go_wp2_with (go_at_call 12; (with_reducible refine (HL.out _).mono ?_); rintro e w' ⟨rfl, rfl⟩)
    go_ret
    exact ⟨rfl, Below.refl _ _⟩
  · have hb : (decide (48 < n0) || decide (48 < n1)) = false := by simp; omega
    rw [hb] at HL
    have hn1 : n1 ≤ 48 := by omega
    have HH := Lib.hid fun w (h : BRow w a0 n0) => r8Heap_of a0 n0 c0 4 w h (by omega)
    obtain ⟨o0, ho0⟩ := ByteAt.of_row h1 0
    obtain ⟨o1, ho1⟩ := ByteAt.of_row h1 1
    obtain ⟨qa, hqa, hqa1, hqa2⟩ := placeW_exa o0 _ 4 exa_one4 (by omega)
    obtain ⟨qb, hqb, hqb1, hqb2⟩ := placeW_exa o1 _ (-2) exa_half4 (by omega)
    have HP := Lib.hid fun w' (h : Below w.heap.size w w') => r8Place_of a1 n1 c1 0 o0 o1 w' hn1 (by omega) (ho0.next h) (ho1.next h)
    obtain ⟨tx, ty, ht1, ht2, hW, hS⟩ := place_wall _ _ qa qb hqa ⟨hqa1, hqa2⟩ hqb ⟨hqb1, hqb2⟩
    generalize placeW o0 1065353216 = fx at *
    generalize placeW o1 3204448256 = fy at *
    have hcadd := fun w => run_csum (P := Try.prog) .add (Or.inl rfl) 31 fx fy 1073741824 1065353216 tx ty ht1 ht2 w
    have HW := Lib.hid hW
    have HS := Lib.hid hS
    have H0 := Lib.hid h0
    have hsf := run_store_float' Try.prog
    have hsc := run_store_complex Try.prog
    clear hb hlong h0 h1 ho0 ho1 hqa hqb hqa1 hqa2 hqb1 hqb2 ht1 ht2 hW hS
    go_enter Try.func8, Try.ntmps8
    go_wp2_with (go_at_call 12; (with_reducible refine (HL.out _).mono ?_); rintro e w' ⟨rfl, rfl⟩)
    go_wp2_with fail
    refine (HH.out _ H0.out).mono ?_
    rintro e w1 ⟨gs, is, bh, ch, hl, hq, hbent, hfree, rfl, ho, hb⟩
    have L1 := Lib.hid hb
    have O1 := Lib.hid ho
    have GL := Lib.hid hl
    have GQ := Lib.hid hq
    have GF := Lib.hid hfree
    clear hl hq hbent hfree ho hb
    have Hb1 := Lib.hid (blk_new w1 26 #[.slice (some ⟨bh, 0, none⟩) 4 ch] _ rfl)
    have L1a := Lib.hid (L1.out.alloc L1.out.size (.cells #[.slice (some ⟨bh, 0, none⟩) 4 ch] 26))
    have R1 := Lib.hid (GrRow.alloc (row_of_own O1.out GL.out) (.cells #[.slice (some ⟨bh, 0, none⟩) 4 ch] 26))
    go_wp2_with fail
    refine (HP.out _ L1a.out).mono ?_
    rintro e w2 ⟨rfl, hb⟩
    have L2 := Lib.hid (below_next L1a.out hb)
    have Hb2 := Lib.hid (blk_next Hb1.out hb)
    have R2 := Lib.hid (R1.out.below hb (Nat.le_refl _))
    clear hb
    go_wp2_with fail
    refine (HP.out _ L2.out).mono ?_
    rintro e w3 ⟨rfl, hb⟩
    have L3 := Lib.hid ((below_next L2.out hb).alloc (below_next L2.out hb).size (.cells #[.complex .f32 fx fy, .complex .f32 tx ty, .complex .f32 0 0] 66))
    have Hb3 := Lib.hid ((blk_next Hb2.out hb).alloc (.cells #[.complex .f32 fx fy, .complex .f32 tx ty, .complex .f32 0 0] 66))
    have R3 := Lib.hid ((R2.out.below hb (Nat.le_refl _)).alloc (.cells #[.complex .f32 fx fy, .complex .f32 tx ty, .complex .f32 0 0] 66))
    have Wb3 := Lib.hid (blk_new w3 66 #[.complex .f32 fx fy, .complex .f32 tx ty, .complex .f32 0 0] _ rfl)
    have c3 := Hb3.out.cell 0
    have z3 : w1.heap.size < w3.heap.size := (blk_next Hb2.out hb).lt
    clear hb
    have hcnt := cnt_of fx fy tx ty gs
    have LL := idx_left (beyB fx fy tx ty) gs 4 (by rw [GL.out]; exact Nat.le_refl _)
    have hsl := sides_left (n := 4) (HS.out gs is GQ.out)
    have hvl := valid_left (fx := fx) (fy := fy) (tx := tx) (ty := ty) (n := 4) GQ.out.valid
    have hnl := none_left fx fy tx ty 4 gs
    have hGb := fun W (h : GrRow W bh gs) => grainsBeyond_of fx fy tx ty 0 0 (some ⟨bh, 0, none⟩) 4 ch gs W HW.out ⟨GL.out, fun _ => ⟨bh, rfl, h⟩⟩ (by omega) GQ.out.valid (HS.out gs is GQ.out)
    have hDb := fun W (h : GrRow W bh gs) => dropBeyond_of fx fy tx ty 0 0 (some ⟨bh, 0, none⟩) 4 ch gs W HW.out ⟨GL.out, fun _ => ⟨bh, rfl, h⟩⟩ (by omega) GQ.out.valid (HS.out gs is GQ.out)
    have HLf := Lib.hid fun W (h : GrRow W bh gs) => lowestFree_of (some ⟨bh, 0, none⟩) 4 ch gs is W ⟨GL.out, fun _ => ⟨bh, rfl, h⟩⟩ (by omega) (by omega) GQ.out GF.out
    have hlll : ((gs.take 4).filter fun g => !beyB fx fy tx ty g) = leftB fx fy tx ty gs 4 := rfl
    rw [hlll] at LL
    generalize leftB fx fy tx ty gs 4 = ls at hDb LL hsl hvl hnl hlll
    generalize idxB (beyB fx fy tx ty) gs 4 = zs at hGb hDb LL hcnt
    generalize (fun i => (idxB (beyB fx fy tx ty) gs i).length) = cnt at hcnt
    have HGr := Lib.hid fun W al cl (h : HRow W al ls.length ls) => (show Calls Try.prog 61 #[.agg #[.slice al ls.length cl], wallV fx fy tx ty 0 0] W (GaveIdx W []) by rw [← hnl]; exact grainsBeyond_of fx fy tx ty 0 0 al ls.length cl ls W HW.out h (by omega) hvl hsl)
    unfold wallV at hGb hDb HGr
    have HGb := Lib.hid hGb
    have HDb := Lib.hid hDb
    have HCn := Lib.hid hcnt
    have hll1 : zs.length + ls.length = 4 := LL
    clear hGb hDb hsl hvl hnl hcnt hlll LL
    go_wp2_with fail
    refine (HGb.out _ R3.out).mono ?_
    rintro e w4 ⟨vz, rfl, ho, hb⟩
    have L4 := Lib.hid (below_next L3.out hb)
    have Hb4 := Lib.hid (blk_next Hb3.out hb)
    have Wb4 := Lib.hid (blk_next Wb3.out hb)
    have R4 := Lib.hid (R3.out.below hb (Nat.le_refl _))
    obtain ⟨az, cz, rfl⟩ := own_value ho
    have Z4 := Lib.hid (NRow.of_own ho rfl)
    have h4 := Hb4.out.cell 0
    have v40 := Wb4.out.cell 0
    have v41 := Wb4.out.cell 1
    have v42 := Wb4.out.cell 2
    clear hb ho c3
    go_wp2_with fail
    refine (HDb.out _ R4.out).mono ?_
    rintro e w5 ⟨vl, rfl, ho, hb⟩
    have L5 := Lib.hid (below_next L4.out hb)
    have Hb5 := Lib.hid (blk_next Hb4.out hb)
    have Wb5 := Lib.hid (blk_next Wb4.out hb)
    have R5 := Lib.hid (R4.out.below hb (Nat.le_refl _))
    have Z5 := Lib.hid (Z4.out.next hb)
    obtain ⟨al, cl, rfl⟩ := own_value ho
    have Q5 := Lib.hid (HRow.of_own ho rfl)
    have N5 := Lib.hid (blk_new w5 26 #[.slice al ls.length cl] _ rfl)
    have h5 := (Hb5.out.alloc (.cells #[.slice al ls.length cl] 26)).cell 0
    have L5a := Lib.hid (L5.out.alloc L5.out.size (.cells #[.slice al ls.length cl] 26))
    have Hb5a := Lib.hid (Hb5.out.alloc (.cells #[.slice al ls.length cl] 26))
    have Wb5a := Lib.hid (Wb5.out.alloc (.cells #[.slice al ls.length cl] 26))
    have R5a := Lib.hid (R5.out.alloc (.cells #[.slice al ls.length cl] 26))
    have Z5a := Lib.hid (Z5.out.next ((Below.refl _ _).alloc (Nat.le_refl _) (.cells #[.slice al ls.length cl] 26)))
    have Q5a := Lib.hid (Q5.out.next ((Below.refl _ _).alloc (Nat.le_refl _) (.cells #[.slice al ls.length cl] 26)))
    clear hb ho h4 v40 v41 v42
    go_wp2_with fail
    refine (HLf.out _ R5a.out).mono ?_
    rintro e w6 ⟨jl, yl, vl, hjl, hyl, hvl, hal, rfl, hb⟩
    have L6 := Lib.hid (below_next L5a.out hb)
    have Hb6 := Lib.hid (blk_next Hb5a.out hb)
    have Wb6 := Lib.hid (blk_next Wb5a.out hb)
    have N6 := Lib.hid (blk_next N5.out hb)
    have R6 := Lib.hid (R5a.out.below hb (Nat.le_refl _))
    have Z6 := Lib.hid (Z5a.out.next hb)
    have Q6 := Lib.hid (Q5a.out.next hb)
    have HYl := Lib.hid hyl
    have HAl := Lib.hid hal
    have n6 := N6.out.cell 0
    clear hb h5 hyl hal
    have HSd := Lib.hid fun ax ay r W h1 h2 h3 => (show Calls Try.prog 42 #[.agg #[.complex .f32 fx fy, .complex .f32 tx ty, .complex .f32 0 0], .complex .f32 ax ay] W fun e w' => e = .returned (.tuple #[.float .f32 r, .bool true]) ∧ Below W.heap.size W w' from sideOf_yes fx fy tx ty 0 0 ax ay r W HW.out h1 h2 h3)
    have HSides := Lib.hid (HS.out gs is GQ.out)
    have I6 := Lib.hid (show Inv w w6 w1.heap.size w3.heap.size w5.heap.size bh ch fx fy tx ty gs ls zs al az cl from ⟨L6.out, Hb6.out, Wb6.out, N6.out, R6.out, Z6.out, Q6.out⟩)
    have hz0 := HCn.out.zero
    have HZ0 := Lib.hid hz0
    clear hz0
    go_wp2
    go_loopw [15, 16] (fun a i wr => ∃ (W : World) (k : Nat), W = wr ∧ k ≤ 4 ∧ i = .int .i64 k ∧ a = .int .i64 (cnt k : Nat) ∧ Inv w wr w1.heap.size w3.heap.size w5.heap.size bh ch fx fy tx ty gs ls zs al az cl) (fun _ i _ => 4 - (intOf i).toNat)
    case atStart => exact ⟨_, 0, rfl, Nat.zero_le _, rfl, by rw [HZ0.out]; rfl, I6.out⟩
    case round =>
      obtain ⟨W, k, rfl, hk, rfl, rfl, hI⟩ := hrel
      have HI := Lib.hid hI
      by_cases hlt : k < 4
      · have hkl : k < gs.length := by rw [GL.out]; exact hlt
        obtain ⟨g0, _, g2, _, _, _, _⟩ := hI.r k hkl
        have hgq := GQ.out.2 k hkl
        have hva := Gr.valid_at hgq.valid
        obtain ⟨r, hr1, hr2⟩ := HSides.out k hkl
        obtain ⟨bw, hbs, hbx⟩ := sub32 hgq.ay hgq.r (by omega) (by omega) (by have := hgq.by_; omega) (by have := hgq.br; omega)
        have e1 := fun w => run_float_arith (P := Try.prog) w .sub 35 .f32 _ _ _ hbs
        have hord := order32 hbx HYl.out (by omega) (by omega) (by have := hgq.by_; have := hgq.br; omega) (by omega)
        have hc := cmp_lt' ((is.getD k default).y - (is.getD k default).r) vl
        rw [← hord, decide_eq_false (by have := HAl.out k hlt; omega)] at hc
        have HC := Lib.hid fun W => HSd.out _ _ r W hva hr1 hr2
        have HBy := Lib.hid (show beyB fx fy tx ty (gs.getD k default) = (FloatKind.f32.format.order r 0 == some .lt) by unfold beyB; rw [hr1])
        have HNo := Lib.hid (HCn.out.no k hlt)
        have HYe := Lib.hid (HCn.out.yes k hlt)
        have HRk := Lib.hid fun W' (h : GrRow W' bh gs) => h k hkl
        generalize gs.getD k default = g at g0 g2 hgq hva hr1 e1 hbs HC HBy HNo HYe HRk
        generalize hB : (FloatKind.f32.format.order r 0 == some .lt) = B at HBy
        have hh := hI.h.cell 0
        have q0 := hI.q.cell 0
        have q1 := hI.q.cell 1
        have q2 := hI.q.cell 2
        clear hva hr1 hr2 hkl hgq hbs hbx hord hI
        go_wp2
        go_region_with (go_at_call 42; ((with_reducible refine (HC.out _).mono ?_); rintro e w7 ⟨rfl, hb7⟩))
        all_goals
          have I7 := Lib.hid (by first | exact HI.out.next hb7 | exact (HI.out.drewN _).next hb7 : Inv w w7 w1.heap.size w3.heap.size w5.heap.size bh ch fx fy tx ty gs ls zs al az cl)
          have h7 := I7.out.h.cell 0
          obtain ⟨k0, _, k2, _, _, _, _⟩ := HRk.out _ I7.out.r
          clear hb7 g0 g2 hh q0 q1 q2
          go_wp2_with fail
          go_quiet (fail)
          cases B
          · have HN := Lib.hid (HNo.out HBy.out)
            go_wp2
            go_roundw
            case rel => exact ⟨_, k + 1, rfl, by omega, by go_num, by rw [HN.out], I7.out.drewN _⟩
            case measure => simp [intOf]; omega
          · obtain ⟨y1, y2, y3⟩ := HYe.out HBy.out
            obtain ⟨bz, rfl, hzc⟩ := I7.out.z.2 (by omega)
            have hz := hzc (cnt k) y2
            rw [y3] at hz
            have HN := Lib.hid y1
            clear y1 y3 hzc
            go_wp2
            go_roundw
            case rel => exact ⟨_, k + 1, rfl, by omega, by go_num, by rw [HN.out]; go_num, I7.out.drewN _⟩
            case measure => simp [intOf]; omega
      · have hk4 : cnt k = zs.length := by
          have : k = 4 := by omega
          rw [this]; exact HCn.out.all
        have HK4 := Lib.hid hk4
        have hh := HI.out.h.cell 0
        have hbl : bh < W.heap.size := by
          obtain ⟨c0', _⟩ := HI.out.r 0 (by rw [GL.out]; omega)
          exact World.block_lt_of_cell? W ⟨bh, 0 * 7, none⟩ c0'
        clear hk4 hI
        go_wp2_with fail
        go_loopw [20] (fun i wr => ∃ (V : World) (j bk ck : Nat) (hs : List Gr), V = wr ∧ j ≤ 4 ∧ i = .int .i64 j ∧ HoldInv W wr bk ck hs is j) (fun i _ => 4 - (intOf i).toNat)
        case atStart => exact ⟨_, 0, bh, ch, gs, rfl, Nat.zero_le _, rfl, ⟨(Below.refl _ _).alloc (Nat.le_refl _) _, blk_new W _ _ _ rfl, by omega, HI.out.r.alloc _, GL.out, GQ.out, fun m hm => absurd hm (Nat.not_lt_zero m)⟩⟩
        case round =>
          obtain ⟨V, j, bk, ck, hs, rfl, hj, rfl, hJ⟩ := hrel
          have HJ := Lib.hid hJ
          have d0 := hJ.d.cell 0
          have hdl := hJ.d.lt
          clear hJ
          by_cases hj4 : j < 4
          · have hjl : j < hs.length := by rw [HJ.out.len]; exact hj4
            have hq' := GrsQ.hold HJ.out.q j (hs.getD j default) rfl hjl true
            have HG := Lib.hid (holdGrain_of bk 4 ck j true (hs.getD j default) hs V HJ.out.len HJ.out.r (by omega) hj4 HJ.out.q.valid rfl hq'.valid)
            have HQ' := Lib.hid hq'
            clear hq' hjl
            go_wp2_with fail
            refine HG.out.mono ?_
            unfold GaveHeap
            rw [List.length_set, HJ.out.len]
            rintro e w8 ⟨bn, cn, rfl, ho, hb⟩
            have O8 := Lib.hid ho
            have D8 := Lib.hid (blk_next HJ.out.d hb)
            have L8 := Lib.hid (below_next HJ.out.l hb)
            have f8 := (D8.out.alloc (.cells #[.slice (some ⟨bn, 0, none⟩) 4 cn] 26)).frozen 0
            have d8 := (D8.out.alloc (.cells #[.slice (some ⟨bn, 0, none⟩) 4 cn] 26)).cell 0
            have hbn := ho.lt bn rfl
            clear hb ho
            go_wp2
            go_roundw
            case rel =>
              refine ⟨_, j + 1, bn, cn, hs.set j { hs.getD j default with h := true }, rfl, by omega, by go_num, ?_⟩
              refine ⟨(L8.out.alloc L8.out.size _).setCell (Nat.le_refl _) _, (D8.out.alloc _).set_ 0 _, by omega, GrRow.far (GrRow.alloc (row_of_own O8.out (by rw [List.length_set]; exact HJ.out.len)) _) (by show bn ≠ W.heap.size; omega) _, by rw [List.length_set]; exact HJ.out.len, HQ'.out, ?_⟩
              intro m hm
              by_cases e : j = m
              · subst e
                rw [show ∀ g : Gr, (hs.set j g).getD j default = g by intro g; simp [List.getD, HJ.out.len, hj4]]
              · rw [show ∀ g : Gr, (hs.set j g).getD m default = hs.getD m default by intro g; simp [List.getD, List.getElem?_set_ne e]]
                exact HJ.out.held m (by omega)
            case measure => simp [intOf]; omega
          · have hall : ∀ g ∈ hs, g.h = true := by
              intro g hg
              obtain ⟨m, hm, rfl⟩ := List.getElem_of_mem hg
              have h9 := HJ.out.held m (by have := HJ.out.len; omega)
              rwa [List.getD_eq_getElem?_getD, List.getElem?_eq_getElem hm, Option.getD_some] at h9
            have HLn := Lib.hid (lowestFree_none (some ⟨bk, 0, none⟩) 4 ck hs is V ⟨HJ.out.len, fun _ => ⟨bk, rfl, HJ.out.r⟩⟩ (by omega) HJ.out.q hall)
            clear hall
            go_wp2_with fail
            refine HLn.out.mono ?_
            rintro e w9 ⟨rfl, hb⟩
            have I9 := Lib.hid (HI.out.next (below_next HJ.out.l hb))
            have n9 := I9.out.n.cell 0
            have v0 := I9.out.q.cell 0
            have v1 := I9.out.q.cell 1
            have v2 := I9.out.q.cell 2
            clear hb
            go_wp2_with fail
            refine (HGr.out _ _ _ I9.out.y).mono ?_
            rintro e w10 ⟨vr, rfl, ho, hb⟩
            obtain ⟨ar, cr, rfl⟩ := own_value ho
            have L10 := Lib.hid (below_next I9.out.l hb)
            have hk5 : ((cnt k : Nat) : Int) = (zs.length : Nat) := by rw [HK4.out]
            clear hb ho
            go_wp2
            go_ret
            exact ⟨rfl, L10.out⟩
end Go.Proofs.Ytlflmofclflgbaa.pFnBeyond
