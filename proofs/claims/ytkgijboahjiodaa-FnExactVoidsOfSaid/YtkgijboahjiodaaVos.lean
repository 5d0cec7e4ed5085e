/- The voids of a view, the given side. -/
import Derived.Test.YtkgijboahjiodaaVm
import Derived.Test.YtkgijboahjiodaaVo
import Derived.Lib.Hide
import Derived.OneCell
namespace Go.Proofs.Ytkgijboahjiodaa
open Go.RowKit Fl

def vi (zs : List Nat) : List Value := zs.map fun (i : Nat) => Value.int .i64 (i : Int)
theorem vi_snoc (zs : List Nat) (k : Nat) : vi (zs ++ [k]) = vi zs ++ [.int .i64 (k : Int)] := by simp [vi]
theorem vi_at {zs : List Nat} {k : Nat} (h : k < zs.length) : (vi zs)[k]? = some (.int .i64 ((zs.getD k 0 : Nat) : Int)) := by simp [vi, List.getD, List.getElem?_eq_getElem h]
theorem vi_info : (Try.prog.info? 2).map (fun i => (i.zero, i.size, i.bytes)) = some (some (.int .i64 0), 1, 8) := by kernel_rfl
theorem vi_new (w : World) (t : TypeId) (z : Value) (q : Nat) (hq : w.heap.size = q) : ∀ j u, [z][j]? = some u → (w.alloc (.cells #[z] t)).cell? ((⟨q, 0, none⟩ : Addr).add j) = some u := by
  subst hq; exact (World.ownsRow_lit (base := 0) (e := t) (size := 1) w #[z] 1 (Nat.zero_le _) (by decide) rfl).cells rfl
theorem vi_form {w : World} {base e size n : Nat} {v : Value} {xs : List Value} (h : w.ownsRow base e size v n xs) (hn : 0 < n) : ∃ b cap, v = .slice (some ⟨b, 0, none⟩) n cap ∧ base ≤ b ∧ b < w.heap.size := by
  rcases h.2 with ⟨_, h0⟩ | ⟨g, cap, cur, hv, hb, hg, _⟩
  · omega
  · exact ⟨g, cap, hv, hb, (Array.getElem?_eq_some_iff.1 hg).1⟩
theorem vi_app {w V w3 w5 : World} {o : Obj} {e : TypeId} {v : Value} {size n : Nat} {xs : List Value} (h : Below w.heap.size w w3) (hV : w.heap.size ≤ V.heap.size) (hO : w3.ownsRow V.heap.size e size v n xs) (hg : (w3.alloc o).grownBy w5 v.ownBlock) : Below w.heap.size w w5 :=
  (h.alloc h.size o).grown hg (by have := h.size; simp; omega) (fun k hk => Nat.le_trans hV (hO.lt k hk).1)
/-- a row of an earlier block is kept while a later row grows -/
theorem vi_keep {V w3 w5 : World} {base e e' size size' n n' b l c : Nat} {v' : Value} {xs xs' : List Value} {o : Obj} (h : w3.ownsRow base e size (.slice (some ⟨b, 0, none⟩) l c) n xs) (hb : b < V.heap.size) (hO : w3.ownsRow V.heap.size e' size' v' n' xs') (hg : (w3.alloc o).grownBy w5 v'.ownBlock) : w5.ownsRow base e size (.slice (some ⟨b, 0, none⟩) l c) n xs :=
  (h.alloc o).kept hg (.inr (fun he => by
    have h1 := (hO.lt b (by rw [← he]; rfl)).1
    omega))
/-- the marks of n things -/
def vm (p : Nat → Int) (n : Nat) : List Value := (List.range n).map (fun k => Value.int .i64 (p k))
theorem vm_at {p : Nat → Int} {n k : Nat} (h : k < n) : (vm p n)[k]? = some (.int .i64 (p k)) := by simp [vm, h]
theorem vm_set {p q : Nat → Int} {n k : Nat} {c : Int} (h : Lab p (fun j => j = k) c q) : (vm p n).set k (.int .i64 c) = vm q n := by
  apply List.ext_getElem?
  intro j
  rw [List.getElem?_set]
  by_cases hj : j < n
  · rw [vm_at hj]
    by_cases e : k = j
    · subst e
      rw [if_pos rfl, if_pos (by simp [vm]; exact hj), vm_at hj, (h k).1 rfl]
    · rw [if_neg e, vm_at hj, (h j).2 (fun h2 => e h2.symm)]
  · have h1 : (vm q n)[j]? = none := by simp [vm]; omega
    have h2 : (vm p n)[j]? = none := by simp [vm]; omega
    rw [h1]
    by_cases e : k = j
    · rw [if_pos e, if_neg (by simp [vm]; omega)]
    · rw [if_neg e, h2]
theorem vm_succ (p : Nat → Int) (n : Nat) : vm p (n + 1) = vm p n ++ [.int .i64 (p n)] := by simp [vm, List.range_succ]
/-- one mark -/
theorem lab_one (p : Nat → Int) (k : Nat) (c : Int) : Lab p (fun j => j = k) c (fun j => if j = k then c else p j) := fun j => ⟨fun h => by show (if j = k then c else p j) = c; rw [if_pos h], fun h => by show (if j = k then c else p j) = p j; rw [if_neg h]⟩
theorem sqB (x : Int) (N : Nat) (h1 : -(N : Int) ≤ x) (h2 : x ≤ N) : 0 ≤ x * x ∧ x * x ≤ ((N * N : Nat) : Int) := by
  have ha : x * x = ((x.natAbs * x.natAbs : Nat) : Int) := by rw [Int.natAbs_mul_self]
  rw [ha]
  have : x.natAbs * x.natAbs ≤ N * N := Nat.mul_le_mul (by omega) (by omega)
  omega
theorem wrapS {x : Int} (h1 : -1000000 ≤ x) (h2 : x ≤ 1000000) : wrap64 x = x := by unfold wrap64; omega
theorem beside_wrap {a b c d : Nat} (ha : a < 256) (hb : b < 256) (hc : c < 256) (hd : d < 256) :
    (wrap64 (wrap64 (wrap64 ((a : Int) - b) * wrap64 ((a : Int) - b)) + wrap64 (wrap64 (wrap64 (c : Int) - wrap64 (d : Int)) * wrap64 (wrap64 (c : Int) - wrap64 (d : Int)))) == 1) = decide (((a : Int) - b) * ((a : Int) - b) + ((c : Int) - d) * ((c : Int) - d) = 1) := by
  have h1 := sqB ((a : Int) - b) 256 (by omega) (by omega)
  have h2 := sqB ((c : Int) - d) 256 (by omega) (by omega)
  have e1 : wrap64 ((a : Int) - b) = (a : Int) - b := wrapS (by omega) (by omega)
  have e2 : wrap64 (c : Int) = c := wrapS (by omega) (by omega)
  have e3 : wrap64 (d : Int) = d := wrapS (by omega) (by omega)
  have e4 : wrap64 ((c : Int) - d) = (c : Int) - d := wrapS (by omega) (by omega)
  rw [e2, e3, e1, e4]
  generalize ((a : Int) - b) * ((a : Int) - b) = x at *
  generalize ((c : Int) - d) * ((c : Int) - d) = y at *
  rw [wrapS (x := x) (by omega) (by omega), wrapS (x := y) (by omega) (by omega), wrapS (by omega) (by omega)]
  by_cases h : x + y = 1
  · simp [h]
  · simp [h]
theorem vi_blk {w3 w5 : World} {g : Nat} {o : Obj} {t e : TypeId} {cs : Array Value} {v : Value} {base size n : Nat} {xs : List Value} (h : Blk w3 g t cs) (hO : w3.ownsRow base e size v n xs) (hne : e ≠ t) (hg : (w3.alloc o).grownBy w5 v.ownBlock) : Blk w5 g t cs := by
  refine (h.alloc o).grown hg ?_
  rcases hO.2 with ⟨rfl, _⟩ | ⟨g', cap, cur, rfl, _, hh, _⟩
  · simp [Value.ownBlock]
  · intro he
    have : g' = g := by simpa [Value.ownBlock] using he.symm
    subst this
    exact Blk.ne_ (t := e) hh h hne rfl
theorem neIV : 2 ≠ 55 := by decide
theorem okView_dims {W H : Int} {zs : List Nat} (h : okView W H zs = true) : ∃ a b : Nat, W = a ∧ H = b ∧ 1 ≤ a ∧ a ≤ 16 ∧ 1 ≤ b ∧ b ≤ 16 ∧ zs.length = a * b ∧ zs.length ≤ 256 ∧ zs.all fin32 = true := by
  have hl := okView_len h
  simp only [okView, Bool.and_eq_true, decide_eq_true_eq] at h
  obtain ⟨h1, h2, h3, h4⟩ := h
  obtain ⟨a1, a2⟩ := okSize_bounds h1
  obtain ⟨b1, b2⟩ := okSize_bounds h2
  obtain ⟨a, rfl⟩ := Int.eq_ofNat_of_zero_le (show 0 ≤ W by omega)
  obtain ⟨b, rfl⟩ := Int.eq_ofNat_of_zero_le (show 0 ≤ H by omega)
  exact ⟨a, b, rfl, rfl, by omega, by omega, by omega, by omega, by exact_mod_cast h3, hl.2, h4⟩
/-- a cell is of a void -/
def voidIn (zs : List Nat) (lv : Nat) (k : Nat) : Bool := FloatKind.f32.format.order (zs.getD k 0) lv == some .lt
def voidNb (W H : Nat) (i k : Nat) : Prop := k ∈ sideL W H i
set_option maxHeartbeats 1600000 in
theorem l06Beside_of (W i k : Nat) (w : World) (hW : 1 ≤ W) (hW2 : W ≤ 16) (hi : i < 256) (hk : k < 256) :
    Calls Try.prog 58 #[.int .i64 W, .int .i64 i, .int .i64 k] w fun e w' => e = .returned (.bool (decide (((i % W : Nat) - (k % W : Nat) : Int) * ((i % W : Nat) - (k % W : Nat) : Int) + ((i / W : Nat) - (k / W : Nat) : Int) * ((i / W : Nat) - (k / W : Nat) : Int) = 1))) ∧ Quiet w w' := by
  have hz : (W : Int) ≠ 0 := by omega
  have hp : (0 : Int) < (W : Int) := by omega
  have hi0 : (0 : Int) ≤ (i : Int) := by omega
  have hk0 : (0 : Int) ≤ (k : Int) := by omega
  go_enter Try.func58, Try.ntmps58
  go_wp2_with fail
  go_quiet (fail)
  go_wp2_with fail
  go_quiet (fail)
  go_wp2_with fail
  go_ret
  refine ⟨congrArg (fun b => Ending.returned (.bool b)) ?_, _, rfl⟩
  exact beside_wrap (a := i % W) (b := k % W) (c := i / W) (d := k / W) (Nat.lt_of_le_of_lt (Nat.mod_le _ _) hi) (Nat.lt_of_le_of_lt (Nat.mod_le _ _) hk) (Nat.lt_of_le_of_lt (Nat.div_le_self _ _) hi) (Nat.lt_of_le_of_lt (Nat.div_le_self _ _) hk)
theorem vi_base {w : World} {base base' e size n : Nat} {v : Value} {xs : List Value} (h : w.ownsRow base' e size v n xs) (hb : base ≤ base') : w.ownsRow base e size v n xs := by
  refine ⟨h.1, ?_⟩
  rcases h.2 with h0 | ⟨g, cap, cur, hv, hg, hh⟩
  · exact .inl h0
  · exact .inr ⟨g, cap, cur, hv, Nat.le_trans hb hg, hh⟩
/-- what stands while one void is gone through -/
structure VfInv (V V2 W : World) (n : Nat) (isIn : Nat → Bool) (nb : Nat → Nat → Prop) (p : Nat → Int) (k m bo co : Nat) (L : List Nat) (q : Nat → Int) (vv : Value) : Prop where
  f : Bfs n isIn nb p k (m : Int) L q
  o : W.ownsRow V.heap.size 2 1 (.slice (some ⟨bo, 0, none⟩) n co) n (vm q n)
  l : W.ownsRow V2.heap.size 2 1 vv L.length (vi L)
  b : Below V.heap.size V W
  s : V2.heap.size ≤ W.heap.size
theorem VfInv.drewN {V V2 W : World} {n : Nat} {isIn : Nat → Bool} {nb : Nat → Nat → Prop} {p : Nat → Int} {k m bo co : Nat} {L : List Nat} {q : Nat → Int} {vv : Value} (h : VfInv V V2 W n isIn nb p k m bo co L q vv) (j : Nat) : VfInv V V2 (W.drewN j) n isIn nb p k m bo co L q vv := ⟨h.f, h.o, h.l, below_drewN h.b j, h.s⟩
set_option maxRecDepth 100000 in
set_option maxHeartbeats 6400000 in
theorem specVoidsOf_any (W H : Int) (b n c : Nat) (zs : List Nat) (lv : Nat) (w : World) (hr : FRow w (some ⟨b, 0, none⟩) n zs) (hm : n ≤ 1048576) :
    Calls Try.prog 20 #[vwVal W H (some ⟨b, 0, none⟩) n c, .float .f32 lv] w fun e w' => Below w.heap.size w w' ∧ (if okView W H zs then ∃ v p m, e = .returned (.tuple #[v, .int .i64 (m : Nat), .bool true]) ∧ VoS n (voidIn zs lv) (voidNb W.toNat H.toNat) n p m ∧ w'.ownsRow w.heap.size 2 1 v n (vm p n) else e = .returned (.tuple #[.slice none 0 0, .int .i64 0, .bool false])) := by
  have hbel := (Below.refl w.heap.size w).alloc (Nat.le_refl _) (.cells #[.int .i64 W, .int .i64 H, .slice (some ⟨b, 0, none⟩) n c] 55)
  have hblk := blk_new w 55 #[.int .i64 W, .int .i64 H, .slice (some ⟨b, 0, none⟩) n c] _ rfl
  have HV := (l06View_any w.heap.size W H b n c zs _ (hr.below hbel (Nat.le_refl _)) hm (hblk.cell 0) (hblk.cell 1) (hblk.cell 2))
  have HR := Lib.hid (hr.below hbel (Nat.le_refl _))
  have HK := Lib.hid hblk
  have HL := Lib.hid hr.len
  have HBel := Lib.hid hbel
  clear hbel hr hblk
  cases hok : okView W H zs
  · rw [hok] at HV
    have HV' := Lib.hid HV
    clear hok HV
    unfold vwVal at *
    go_enter Try.func20, Try.ntmps20
    go_wp2_with (go_at_call 57; (with_reducible refine (HV'.out).mono ?_); rintro e w1 ⟨rfl, hb⟩)
    go_ret3
    exact ⟨below_next HBel.out (hb.below _), rfl⟩
  · rw [hok] at HV
    have HV' := Lib.hid HV
    obtain ⟨X, Y, rfl, rfl, x1, x2, y1, y2, hxy, hl, hall⟩ := okView_dims hok
    rw [HL.out] at hl hxy
    have HA := Lib.hid hall
    have HXY := Lib.hid hxy
    clear hok HV hall hxy
    unfold vwVal at *
    obtain ⟨i0, hi, hz0, hz1, hz2⟩ := info_parts vi_info
    go_enter Try.func20, Try.ntmps20
    go_wp2_with fail
    refine (HV'.out).mono ?_
    rintro e w1 ⟨rfl, m1, rfl⟩
    have F1 := Lib.hid (HR.out.quiet ⟨m1, rfl⟩)
    have a0 := HK.out.cell 0
    have a1 := HK.out.cell 1
    have a2 := HK.out.cell 2
    go_wp2
    have K1 := Lib.hid (HK.out.drewN m1)
    have L1 := Lib.hid (below_drewN HBel.out m1)
    have hV : ((w.alloc (.cells #[.int .i64 X, .int .i64 Y, .slice (some ⟨b, 0, none⟩) n c] 55)).drewN m1).heap.size = w.heap.size + 1 := by show (w.heap.push _).size = _; simp
    generalize (w.alloc (.cells #[.int .i64 X, .int .i64 Y, .slice (some ⟨b, 0, none⟩) n c] 55)).drewN m1 = V at F1 K1 L1 hV ⊢
    clear a0 a1 a2 HK HR HBel HV'
    rw [← hV]
    have HSz := Lib.hid hV
    clear hV
    go_loopw [7, 8] (fun v i wr => ∃ (Wd : World) (k : Nat) (vv : Value), Wd = wr ∧ k ≤ n ∧ i = .int .i64 k ∧ v = vv ∧ wr.ownsRow V.heap.size 2 1 vv k (vm (fun _ => -1) k) ∧ Below V.heap.size V wr) (fun _ i _ => n - (intOf i).toNat)
    case atStart => exact ⟨_, 0, _, rfl, Nat.zero_le _, rfl, rfl, World.ownsRow_lit V #[] 0 (Nat.le_refl _) (by decide) rfl, (Below.refl _ V).alloc (Nat.le_refl _) _⟩
    case round =>
      obtain ⟨Wd, k, _, rfl, hk, rfl, rfl, hO, hB⟩ := hrel
      have HO := Lib.hid hO
      have HB := Lib.hid hB
      have a0 := (blk_next K1.out hB).cell 0
      have a1 := (blk_next K1.out hB).cell 1
      have a2 := (blk_next K1.out hB).cell 2
      have hsz := hB.size
      clear hO hB
      by_cases hlt : k < n
      · go_wp2_with (at_builtin; go_loud (refine wpList_append_own _ rfl _ _ 45 rfl V.heap.size 2 i0 _ 1 8 Try.underlying45 hi hz0 hz1 hz2 rfl (by decide) _ _ _ rfl (HO.out.alloc _) ⟨Wd.heap.size, 0, none⟩ 1 1 [.int .i64 (-1)] rfl rfl (vi_new _ _ _ _ rfl) (fun x hx => by simp at hx; subst hx; rfl) (by unfold maxLen; omega) (by omega) (by simp; omega) ?_); intro v' w5 hown' hgrow hnil; have L5 := Lib.hid (vi_app HB.out (Nat.le_refl _) HO.out hgrow); have O5 := Lib.hid hown'; clear hown' hgrow hnil)
        go_roundw
        case rel => exact ⟨_, k + 1, _, rfl, by omega, by go_num, rfl, by rw [vm_succ]; exact O5.out, L5.out⟩
        case measure => simp [intOf]; omega
      · obtain rfl : n = k := by omega
        obtain ⟨bo, co, rfl, hbo, hbs⟩ := vi_form HO.out (by have := HXY.out; have : 1 * 1 ≤ X * Y := Nat.mul_le_mul x1 y1; omega)
        go_wp2
        clear a0 a1 a2 hsz hlt hk
        go_loopw [9, 10] (fun cnt i wr => ∃ (We : World) (k : Nat) (p : Nat → Int) (m : Nat), We = wr ∧ k ≤ n ∧ i = .int .i64 k ∧ cnt = .int .i64 m ∧ VoS n (voidIn zs lv) (voidNb X Y) k p m ∧ wr.ownsRow V.heap.size 2 1 (.slice (some ⟨bo, 0, none⟩) n co) n (vm p n) ∧ Below V.heap.size V wr) (fun _ i _ => n - (intOf i).toNat)
        case atStart => exact ⟨_, 0, _, 0, rfl, Nat.zero_le _, rfl, rfl, .zero, HO.out, HB.out⟩
        case round =>
          obtain ⟨We, k, p, m, rfl, hk, rfl, rfl, hS, hO, hB⟩ := hrel
          have HS := Lib.hid hS
          have HO' := Lib.hid hO
          have HB' := Lib.hid hB
          have a0 := (blk_next K1.out hB).cell 0
          have a1 := (blk_next K1.out hB).cell 1
          have a2 := (blk_next K1.out hB).cell 2
          have hsz := hB.size
          have hmk := hS.count
          clear hO hB hS HO HB
          by_cases hlt : k < n
          · have hfr := HO'.out.frozenAt k
            have hcl := (HO'.out.cellAt k (by omega)).trans (vm_at hlt)
            have hx := (F1.out.below HB'.out (Nat.le_refl _)).cell _ rfl k hlt
            have e1 : (⟨b, 0, none⟩ : Addr).add k = ⟨b, k, none⟩ := by unfold Addr.add; split <;> simp_all
            rw [e1] at hx
            clear e1
            have hmk1 := HS.out.marks k
            by_cases hw : White n (voidIn zs lv) p k
            · have hp1 : p k < 0 := hw.2.1
              have hp2 : (FloatKind.f32.format.order (zs.getD k 0) lv == some .lt) = true := hw.2.2
              have hq := lab_one p k (m : Int)
              have hB1 := bfs_start (nb := voidNb X Y) hw hq
              generalize (fun j => if j = k then (m : Int) else p j) = q at hq hB1
              have hst := (HO'.out.stored k (.int .i64 (m : Int))).1
              rw [vm_set hq] at hst
              have hB2 := hB1
              have HB2 := Lib.hid hB1
              have hb2 := HB'.out.setCell (p := ⟨bo, k, none⟩) hbo (.int .i64 (m : Int))
              have hs2 : (We.setCell ⟨bo, k, none⟩ (.int .i64 (m : Int))).heap.size = We.heap.size := by simp [World.setCell]
              have hbo2 : bo < We.heap.size := by
                obtain ⟨b9, c9, e9, _, h9⟩ := vi_form HO'.out (by omega)
                injection e9 with e9
                injection e9 with e9
                injection e9 with e9
                omega
              have HQ := Lib.hid hq
              have HW := Lib.hid hw
              clear hB1 hB2 hq hw
              generalize zs.getD k 0 = z at hx hp2
              go_wp2_with fail
              have hs9 := HB'.out.size
              have HB3 := Lib.hid hb2
              have HSt := Lib.hid hst
              generalize We.setCell ⟨bo, k, none⟩ (.int .i64 (m : Int)) = V2 at HSt HB3 hs2 ⊢
              rw [← hs2]
              have hs3 : V.heap.size ≤ V2.heap.size := HB3.out.size
              have hbo3 : bo < V2.heap.size := by rw [hs2]; exact hbo2
              clear hst hb2 hs2 hbo2 hs9 hfr hcl hx a0 a1 a2 hsz hmk1 hp1 hp2 HO' HB' HQ
              go_loopw [11, 12] (fun v i wr => ∃ (Wf : World) (at_ : Nat) (L : List Nat) (q : Nat → Int) (vv : Value), Wf = wr ∧ i = .int .i64 at_ ∧ v = vv ∧ at_ ≤ L.length ∧ VfInv V V2 wr n (voidIn zs lv) (voidNb X Y) p k m bo co L q vv ∧ BfsAt n (voidIn zs lv) (voidNb X Y) p L at_) (fun _ i _ => n - (intOf i).toNat)
              case atStart => exact ⟨_, 0, [k], q, _, rfl, rfl, rfl, Nat.zero_le _, ⟨HB2.out, HSt.out.alloc _, World.ownsRow_lit V2 #[.int .i64 (k : Int)] 1 (Nat.le_refl _) (by decide) rfl, HB3.out.alloc hs3 _, by simp⟩, bfsAt_zero⟩
              case round =>
                obtain ⟨Wf, at_, L, q, vv, rfl, rfl, rfl, hat, hF, hAt⟩ := hrel
                have hLn := bfs_len hF.f
                have hLp : 0 < L.length := List.length_pos_of_mem hF.f.i
                have HF := Lib.hid hF
                have HAt := Lib.hid hAt
                clear hF hAt HB2 HSt
                obtain ⟨bl, cl, rfl, hbl, hbl2⟩ := vi_form HF.out.l hLp
                by_cases hlt3 : at_ < L.length
                · go_wp2_with fail
                  have HX0 : Hid (L.getD at_ 0 = L.getD at_ 0) := rfl
                  generalize hxx : L.getD at_ 0 = x at HX0
                  have HX1 := Lib.hid hxx
                  clear hxx HX0
                  go_loopw [11, 13] (fun v i wr => ∃ (Wg : World) (k2 : Nat) (L : List Nat) (q : Nat → Int) (vv : Value), Wg = wr ∧ k2 ≤ n ∧ i = .int .i64 k2 ∧ v = vv ∧ at_ < L.length ∧ Hid (L.getD at_ 0 = x) ∧ VfInv V V2 wr n (voidIn zs lv) (voidNb X Y) p k m bo co L q vv ∧ BfsAt n (voidIn zs lv) (voidNb X Y) p L at_ ∧ BfsK n (voidIn zs lv) (voidNb X Y) p L x k2) (fun _ i _ => n - (intOf i).toNat)
                  case atStart => exact ⟨_, 0, L, q, _, rfl, Nat.zero_le _, rfl, rfl, hlt3, HX1, HF.out, HAt.out, bfsK_zero⟩
                  case round =>
                    clear HX1 HF HAt hbl hbl2 hLp hLn hat hlt3
                    obtain ⟨Wg, k2, L, q, vv, rfl, hk2, rfl, rfl, hat4, hX, hF, hAt, hK2⟩ := hrel
                    have HX := hX
                    have HF4 := Lib.hid hF
                    have HAt4 := Lib.hid hAt
                    have HK4 := Lib.hid hK2
                    have hLn := bfs_len hF.f
                    clear hX hF hAt hK2
                    obtain ⟨bl, cl, rfl, hbl, hbl2⟩ := vi_form HF4.out.l (by omega)
                    have a0 := (blk_next K1.out HF4.out.b).cell 0
                    have a1 := (blk_next K1.out HF4.out.b).cell 1
                    have a2 := (blk_next K1.out HF4.out.b).cell 2
                    by_cases hlt4 : k2 < n
                    · have hfr := HF4.out.o.frozenAt k2
                      have hcl := (HF4.out.o.cellAt k2 (by omega)).trans (vm_at hlt4)
                      have hli := (HF4.out.l.cellAt at_ (by omega)).trans (vi_at hat4)
                      rw [HX.out] at hli
                      have hx := (F1.out.below HF4.out.b (Nat.le_refl _)).cell _ rfl k2 hlt4
                      have e1 : (⟨b, 0, none⟩ : Addr).add k2 = ⟨b, k2, none⟩ := by unfold Addr.add; split <;> simp_all
                      rw [e1] at hx
                      clear e1
                      have hxL : x ∈ L := by
                        have h9 := HX.out
                        rw [List.getD_eq_getElem?_getD, List.getElem?_eq_getElem hat4, Option.getD_some] at h9
                        rw [← h9]
                        exact List.getElem_mem _
                      have hxn : x < n := (HF4.out.f.r x hxL).end_.1
                      have HBs0 := fun w => l06Beside_of X x k2 w x1 x2 (by omega) (by omega)
                      have hnb := side_iff (W := X) (H := Y) (i := x) (k := k2) (by omega) (by rw [← HXY.out]; exact hxn) (by rw [← HXY.out]; exact hlt4)
                      rw [show (decide (((x % X : Nat) - (k2 % X : Nat) : Int) * ((x % X : Nat) - (k2 % X : Nat) : Int) + ((x / X : Nat) - (k2 / X : Nat) : Int) * ((x / X : Nat) - (k2 / X : Nat) : Int) = 1)) = decide (k2 ∈ sideL X Y x) from decide_eq_decide.2 hnb.symm] at HBs0
                      have HBs := Lib.hid HBs0
                      clear HBs0 hnb
                      have HxL := Lib.hid hxL
                      by_cases hA : q k2 < 0
                      · by_cases hV : voidIn zs lv k2 = true
                        · have hp2 : (FloatKind.f32.format.order (zs.getD k2 0) lv == some .lt) = true := hV
                          by_cases hN : k2 ∈ sideL X Y x
                          · have HAdd := Lib.hid (fun q' (h' : Lab q (fun j => j = k2) (m : Int) q') => bfs_add (by omega) HF4.out.f HAt4.out (Nat.le_of_lt hat4) HK4.out hxL hlt4 hA hV hN h')
                            have hd : decide (k2 ∈ sideL X Y x) = true := by simp [hN]
                            rw [hd] at HBs
                            clear hd hN hV hxL
                            generalize zs.getD k2 0 = z at hx hp2
                            go_wp2_with fail
                            go_quiet ((go_at_call 58; exact Calls.quiet_of ((HBs.out _).mono (fun _ _ h => ⟨h.1, h.2⟩))))
                            have HF5 := Lib.hid (HF4.out.drewN nq)
                            clear hcl hfr hx hli a0 a1 a2 HF4 hp2 hA
                            generalize Wg.drewN nq = Wh at HF5 ⊢
                            have hfr := HF5.out.o.frozenAt k2
                            have hcl := (HF5.out.o.cellAt k2 (by omega)).trans (vm_at hlt4)
                            have hq := lab_one q k2 (m : Int)
                            generalize (fun j => if j = k2 then (m : Int) else q j) = q' at hq
                            obtain ⟨HF6, HA6, HK6⟩ := HAdd.out q' hq
                            have hst := (HF5.out.o.stored k2 (.int .i64 (m : Int))).1
                            rw [vm_set hq] at hst
                            have hls := ownsRow_setCell_other HF5.out.l (a := ⟨bo, k2, none⟩) (by simp [Value.ownBlock]; omega) (.int .i64 (m : Int))
                            have hbs := HF5.out.b.setCell (p := ⟨bo, k2, none⟩) hbo (.int .i64 (m : Int))
                            have hss : (Wh.setCell ⟨bo, k2, none⟩ (.int .i64 (m : Int))).heap.size = Wh.heap.size := by simp [World.setCell]
                            have hss2 := HF5.out.s
                            have HT := Lib.hid hst
                            have HLs := Lib.hid hls
                            have HBe := Lib.hid hbs
                            have G6 := Lib.hid HF6
                            have A6 := Lib.hid HA6
                            have B6 := Lib.hid HK6
                            clear hst hls hbs HF6 HA6 HK6 hq HAdd
                            go_wp2_with (at_builtin; go_loud (refine wpList_append_own _ rfl _ _ 45 rfl V2.heap.size 2 i0 _ 1 8 Try.underlying45 hi hz0 hz1 hz2 rfl (by decide) _ _ _ rfl (HLs.out.alloc _) ⟨Wh.heap.size, 0, none⟩ 1 1 [.int .i64 (k2 : Int)] rfl rfl (vi_new _ _ _ _ hss) (fun x hx => by simp at hx; subst hx; rfl) (by unfold maxLen; omega) (by omega) (by simp [World.setCell]; omega) ?_); intro v' w5 hown' hgrow hnil; have L5 := Lib.hid (vi_app HBe.out hs3 HLs.out hgrow); have T5 := Lib.hid (vi_keep HT.out hbo3 HLs.out hgrow); have O5 := Lib.hid hown'; have S5 := Lib.hid (Nat.le_trans (by simp [World.setCell]; omega : V2.heap.size ≤ _) hgrow.size); clear hown' hgrow hnil)
                            go_roundw
                            case rel => exact ⟨_, k2 + 1, L ++ [k2], q', _, rfl, by omega, by go_num, rfl, by simp; omega, by show (L ++ [k2]).getD at_ 0 = x; rw [List.getD_eq_getElem?_getD, List.getElem?_append_left hat4, ← List.getD_eq_getElem?_getD]; exact HX.out, ⟨G6.out, T5.out, by rw [vi_snoc, List.length_append]; exact O5.out, L5.out, S5.out⟩, A6.out, B6.out⟩
                            case measure => simp [intOf]; omega
                          · have HSk := Lib.hid (bfs_skip (by omega) HF4.out.f HK4.out (fun h => hN h.2.2))
                            have hd : decide (k2 ∈ sideL X Y x) = false := by simp [hN]
                            rw [hd] at HBs
                            clear hd hN hV hxL
                            generalize zs.getD k2 0 = z at hx hp2
                            go_wp2_with fail
                            go_quiet ((go_at_call 58; exact Calls.quiet_of ((HBs.out _).mono (fun _ _ h => ⟨h.1, h.2⟩))))
                            go_wp2_with fail
                            go_roundw
                            case rel => exact ⟨_, k2 + 1, L, q, _, rfl, by omega, by go_num, rfl, hat4, HX.out, HF4.out.drewN _, HAt4.out, HSk.out⟩
                            case measure => simp [intOf]; omega
                        · have HSk := Lib.hid (bfs_skip (by omega) HF4.out.f HK4.out (fun h => hV h.2.1))
                          have hp2 : (FloatKind.f32.format.order (zs.getD k2 0) lv == some .lt) = false := by
                            have h9 := Bool.eq_false_iff.2 hV
                            exact h9
                          clear hV hxL
                          generalize zs.getD k2 0 = z at hx hp2
                          go_wp2_with fail
                          go_quiet ((go_at_call 58; exact Calls.quiet_of ((HBs.out _).mono (fun _ _ h => ⟨h.1, h.2⟩))))
                          go_wp2_with fail
                          go_roundw
                          case rel => exact ⟨_, k2 + 1, L, q, _, rfl, by omega, by go_num, rfl, hat4, HX.out, HF4.out.drewN _, HAt4.out, HSk.out⟩
                          case measure => simp [intOf]; omega
                      · have HSk := Lib.hid (bfs_skip (by omega) HF4.out.f HK4.out (fun h => hA h.1))
                        have hA0 : 0 ≤ q k2 := by omega
                        have hA1 : decide (q k2 < 0) = false := decide_eq_false hA
                        clear hxL hA
                        generalize zs.getD k2 0 = z at hx
                        go_wp2_with fail
                        go_quiet ((go_at_call 58; exact Calls.quiet_of ((HBs.out _).mono (fun _ _ h => ⟨h.1, h.2⟩))))
                        go_wp2_with fail
                        go_roundw
                        case rel => exact ⟨_, k2 + 1, L, q, _, rfl, by omega, by go_num, rfl, hat4, HX.out, HF4.out.drewN _, HAt4.out, HSk.out⟩
                        case measure => simp [intOf]; omega
                    · obtain rfl : n = k2 := by omega
                      go_wp2_with fail
                      go_roundw
                      case rel => exact ⟨_, at_ + 1, L, q, _, rfl, by go_num, rfl, by omega, HF4.out, bfs_next HAt4.out (by rw [HX.out]; exact HK4.out)⟩
                      case measure => simp [intOf]; omega
                · obtain rfl : at_ = L.length := by omega
                  have HS2 := Lib.hid (VoS.mark HS.out HW.out (bfs_done HF.out.f HAt.out))
                  go_wp2_with fail
                  go_roundw
                  case rel => exact ⟨_, k + 1, q, m + 1, rfl, by omega, by go_num, by go_num, HS2.out, HF.out.o, HF.out.b⟩
                  case measure => simp [intOf]; omega
            · have HS2 := Lib.hid (VoS.skip HS.out hw)
              by_cases hp : p k < 0
              · have hp2 : (FloatKind.f32.format.order (zs.getD k 0) lv == some .lt) = false := by
                  by_cases h9 : voidIn zs lv k = true
                  · exact absurd ⟨hlt, hp, h9⟩ hw
                  · exact Bool.eq_false_iff.2 h9
                clear hw
                generalize zs.getD k 0 = z at hx hp2
                go_wp2_with fail
                go_roundw
                case rel => exact ⟨_, k + 1, p, m, rfl, by omega, by go_num, rfl, HS2.out, HO'.out, HB'.out⟩
                case measure => simp [intOf]; omega
              · clear hw
                generalize zs.getD k 0 = z at hx
                go_wp2_with fail
                go_roundw
                case rel => exact ⟨_, k + 1, p, m, rfl, by omega, by go_num, rfl, HS2.out, HO'.out, HB'.out⟩
                case measure => simp [intOf]; omega
          · obtain rfl : n = k := by omega
            go_wp2
            go_ret3
            exact ⟨below_next L1.out HB'.out, _, _, _, rfl, HS.out, vi_base HO'.out L1.out.size⟩
end Go.Proofs.Ytkgijboahjiodaa
