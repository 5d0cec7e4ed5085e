/- The law FnHeaps: all that its walk asks of the drawn grains. Plain facts. -/
import Derived.Test.YtbggklhnnjikjaaSh
import Derived.ChangeKeysEq
import Derived.Laws.StructEq
import Derived.Deep.RegionHeld3
import Derived.Test.YtbggklhnnjikjaaJb
import Derived.Test.YtbggklhnnjikjaaJa
namespace Go.Proofs.Ytbggklhnnjikjaa
open Go.RowKit Fl

theorem eqItems_self {P : Program} (d : Nat) {e : TypeId} (he : P.underlying e = some (.int .i64)) (xs : Array Value) (w : World) : ∀ (l : List Nat), (∀ i ∈ l, ∃ n : Int, xs[i]? = some (.int .i64 n)) → (Op.eqItems (d + 1) e 1 xs xs l).run P w = .ok true w
  | [], _ => by simp [Op.eqItems]
  | i :: l, h => by
    have hp : P.plainKey e = true := by simp [Program.plainKey, he]
    obtain ⟨n, hn⟩ := h i (.head _)
    simp only [Op.eqItems, Sem.run_bind, Nat.mul_one]
    rw [run_part_plain w hp (v := .int .i64 n) hn]
    simp only [Result.andThen_ok]
    rw [run_part_plain w hp (v := .int .i64 n) hn]
    simp only [Result.andThen_ok, run_equalIn_int w d e .i64 .i64 _ _ he]
    have := eqItems_self d he xs w l (fun j hj => h j (.tail _ hj))
    simp [this]
theorem run_equalIn_gbits {P : Program} (d : Nat) {t p e b : TypeId} {i ip : TypeInfo} {f g : Field} (ht : P.underlying t = some (.struct (P.fieldsOf t))) (hp : P.stoodInHeld t = false) (hf : (P.fieldsOf t).toList = [f, g])
    (n1 : f.name ≠ "_") (t1 : f.type = p) (o1 : f.offset = 0) (n2 : g.name ≠ "_") (t2 : g.type = b) (o2 : g.offset = 8)
    (hu : P.underlying p = some (.array 8 e)) (he : P.underlying e = some (.int .i64)) (hi : P.info? e = some i) (hc : P.cellsOf e = 1) (hip : P.info? p = some ip) (hpc : P.cellsOf p = 8) (hb : P.underlying b = some .bool)
    (a0 a1 a2 a3 a4 a5 a6 a7 : Int) (h : Bool) (w : World) :
    (Op.equalIn (d + 3) t (.agg #[.int .i64 a0, .int .i64 a1, .int .i64 a2, .int .i64 a3, .int .i64 a4, .int .i64 a5, .int .i64 a6, .int .i64 a7, .bool h]) (.agg #[.int .i64 a0, .int .i64 a1, .int .i64 a2, .int .i64 a3, .int .i64 a4, .int .i64 a5, .int .i64 a6, .int .i64 a7, .bool h])).run P w = .ok true w := by
  have hpl : P.plainKey b = true := by simp [Program.plainKey, hb]
  have q1 : (part p #[.int .i64 a0, .int .i64 a1, .int .i64 a2, .int .i64 a3, .int .i64 a4, .int .i64 a5, .int .i64 a6, .int .i64 a7, .bool h] 0).run P w = .ok (.agg #[.int .i64 a0, .int .i64 a1, .int .i64 a2, .int .i64 a3, .int .i64 a4, .int .i64 a5, .int .i64 a6, .int .i64 a7]) w := by
    simp [part, isAgg, run_underlying hu, run_sizeOf w hip, hpc]
  have q2 : (part b #[.int .i64 a0, .int .i64 a1, .int .i64 a2, .int .i64 a3, .int .i64 a4, .int .i64 a5, .int .i64 a6, .int .i64 a7, .bool h] 8).run P w = .ok (.bool h) w := run_part_plain w hpl (v := .bool h) rfl
  have q3 : (Op.equalIn (d + 2) p (.agg #[.int .i64 a0, .int .i64 a1, .int .i64 a2, .int .i64 a3, .int .i64 a4, .int .i64 a5, .int .i64 a6, .int .i64 a7]) (.agg #[.int .i64 a0, .int .i64 a1, .int .i64 a2, .int .i64 a3, .int .i64 a4, .int .i64 a5, .int .i64 a6, .int .i64 a7])).run P w = .ok true w := by
    rw [run_equalIn_array w (d + 1) _ _ hu hi, hc]
    refine eqItems_self d he _ w _ (fun j hj => ?_)
    have hr : List.range 8 = [0, 1, 2, 3, 4, 5, 6, 7] := by decide
    rw [hr] at hj
    simp only [List.mem_cons, List.not_mem_nil, or_false] at hj
    rcases hj with rfl | rfl | rfl | rfl | rfl | rfl | rfl | rfl <;> exact ⟨_, rfl⟩
  rw [run_equalIn_struct w (d + 2) t _ _ ht hp, hf, Op.eqFields, if_pos n1, t1, o1]
  simp only [Sem.run_bind, q1, Result.andThen_ok, q3]
  simp only [Bool.not_true, Bool.false_eq_true, if_false]
  rw [Op.eqFields, if_pos n2, t2, o2]
  simp only [Sem.run_bind, q2, Result.andThen_ok, run_equalIn_bool w (d + 1) b _ _ hb]
  simp [Op.eqFields]
theorem cell_keep {W w1 : World} (hb : Below W.heap.size W w1) {p : Addr} {v : Value} (h : W.cell? p = some v) : w1.cell? p = some v := by
  rw [hb.cell (p := p) (World.block_lt_of_cell? W _ h)]; exact h
theorem keep15 {V V' : World} (hb : Below V.heap.size V V') {a0 a1 a2 a3 a4 a5 a6 a7 a8 a9 a10 a11 a12 a13 a14 : Addr} {v0 v1 v2 v3 v4 v5 v6 v7 v8 v9 v10 v11 v12 v13 v14 : Value} (h : V.cell? a0 = some v0 ∧ V.cell? a1 = some v1 ∧ V.cell? a2 = some v2 ∧ V.cell? a3 = some v3 ∧ V.cell? a4 = some v4 ∧ V.cell? a5 = some v5 ∧ V.cell? a6 = some v6 ∧ V.cell? a7 = some v7 ∧ V.cell? a8 = some v8 ∧ V.cell? a9 = some v9 ∧ V.cell? a10 = some v10 ∧ V.cell? a11 = some v11 ∧ V.cell? a12 = some v12 ∧ V.cell? a13 = some v13 ∧ V.cell? a14 = some v14) : V'.cell? a0 = some v0 ∧ V'.cell? a1 = some v1 ∧ V'.cell? a2 = some v2 ∧ V'.cell? a3 = some v3 ∧ V'.cell? a4 = some v4 ∧ V'.cell? a5 = some v5 ∧ V'.cell? a6 = some v6 ∧ V'.cell? a7 = some v7 ∧ V'.cell? a8 = some v8 ∧ V'.cell? a9 = some v9 ∧ V'.cell? a10 = some v10 ∧ V'.cell? a11 = some v11 ∧ V'.cell? a12 = some v12 ∧ V'.cell? a13 = some v13 ∧ V'.cell? a14 = some v14 :=
  ⟨cell_keep hb h.1, cell_keep hb h.2.1, cell_keep hb h.2.2.1, cell_keep hb h.2.2.2.1, cell_keep hb h.2.2.2.2.1, cell_keep hb h.2.2.2.2.2.1, cell_keep hb h.2.2.2.2.2.2.1, cell_keep hb h.2.2.2.2.2.2.2.1, cell_keep hb h.2.2.2.2.2.2.2.2.1, cell_keep hb h.2.2.2.2.2.2.2.2.2.1, cell_keep hb h.2.2.2.2.2.2.2.2.2.2.1, cell_keep hb h.2.2.2.2.2.2.2.2.2.2.2.1, cell_keep hb h.2.2.2.2.2.2.2.2.2.2.2.2.1, cell_keep hb h.2.2.2.2.2.2.2.2.2.2.2.2.2.1, cell_keep hb h.2.2.2.2.2.2.2.2.2.2.2.2.2.2⟩
theorem drew_cell {V : World} {a : Addr} {o : Option Value} (h : V.cell? a = o) : V.drew.cell? a = o := h
theorem gbits_eq (g : Gr) (w : World) : (Op.equalIn 10000 88 g.bits g.bits).run Try.prog w = .ok true w :=
  run_equalIn_gbits (P := Try.prog) 9997 (t := 88) (p := 86) (e := 2) (b := 4) (i := (Try.prog.info? 2).getD default) (ip := (Try.prog.info? 86).getD default)
    (by unfold Program.fieldsOf; rw [Try.underlying88]) (by kernel_rfl) (by unfold Program.fieldsOf; rw [Try.underlying88]) (by decide) rfl rfl (by decide) rfl rfl Try.underlying86 Try.underlying2 (by kernel_rfl) (by kernel_rfl) (by kernel_rfl) (by kernel_rfl) Try.underlying4 _ _ _ _ _ _ _ _ _ w
set_option maxRecDepth 100000 in
set_option maxHeartbeats 3200000 in
theorem sameHeap_self (b n c b' c' : Nat) (gs : List Gr) (w : World) (hl : gs.length = n) (hr : GrRow w b gs) (hr' : GrRow w b' gs) (hn : n ≤ 24) (hs : ∀ g ∈ gs, g.small) :
    Calls Try.prog 18 #[.agg #[.slice (some ⟨b, 0, none⟩) n c], .agg #[.slice (some ⟨b', 0, none⟩) n c']] w fun e w' => e = .returned (.bool true) ∧ Below w.heap.size w w' := by
  have HR := Lib.hid hr
  have HR' := Lib.hid hr'
  have HL := Lib.hid hl
  have HS := Lib.hid hs
  clear hr hr' hs hl
  have hbel := ((Below.refl w.heap.size w).alloc (Nat.le_refl _) (.cells #[.slice (some ⟨b, 0, none⟩) n c] 26)).alloc (by simp) (.cells #[.slice (some ⟨b', 0, none⟩) n c'] 26)
  have HBel := Lib.hid hbel
  have hB : Blk ((w.alloc (.cells #[.slice (some ⟨b, 0, none⟩) n c] 26)).alloc (.cells #[.slice (some ⟨b', 0, none⟩) n c'] 26)) (w.heap.size + 1) 26 _ := blk_new _ _ _ _ (by simp)
  have HB := Lib.hid hB
  clear hbel hB
  have hc : ((n : Int) != (n : Int)) = false := by simp
  have hsf := run_store_float' Try.prog
  have hsc := run_store_complex Try.prog
  go_enter Try.func18, Try.ntmps18
  go_wp2_with fail
  have HG := Lib.hid (HR.out.below HBel.out (Nat.le_refl _))
  have HG' := Lib.hid (HR'.out.below HBel.out (Nat.le_refl _))
  go_loopw [17] (fun i wr => ∃ (W : World) (k : Nat), W = wr ∧ k ≤ n ∧ i = .int .i64 k ∧ Below w.heap.size w wr ∧ Blk wr (w.heap.size + 1) 26 #[.slice (some ⟨b', 0, none⟩) n c'] ∧ GrRow wr b gs ∧ GrRow wr b' gs) (fun i _ => n - (intOf i).toNat)
  case atStart => exact ⟨_, 0, rfl, Nat.zero_le _, rfl, HBel.out, HB.out, HG.out, HG'.out⟩
  case round =>
    obtain ⟨W, k, rfl, hk, rfl, hb, hB, hg, hg'⟩ := hrel
    by_cases hlt : k < n
    · obtain ⟨q0, q1, q2, q3, q4, q5, q6⟩ := hg k (by rw [HL.out]; exact hlt)
      have hsm := HS.out (gs.getD k default) (by rw [List.getD_eq_getElem?_getD, List.getElem?_eq_getElem (show k < gs.length by rw [HL.out]; exact hlt), Option.getD_some]; exact List.getElem_mem _)
      have hlk : (k : Int) < (n : Int) := by omega
      have hl0 : (0 : Int) ≤ (k : Int) := by omega
      have hal := fun o => (Below.refl W.heap.size W).alloc (Nat.le_refl _) o
      have N0 := Lib.hid fun o => below_next hb (hal o)
      have N1 := Lib.hid fun o => blk_next hB (hal o)
      have N2 := Lib.hid fun o => hg.below (hal o) (Nat.le_refl _)
      have N3 := Lib.hid fun o => hg'.below (hal o) (Nat.le_refl _)
      have R' := Lib.hid fun o => hg'.below (hal o) (Nat.le_refl _) k (by rw [HL.out]; exact hlt)
      clear hb hB hg hg' hal
      generalize gs.getD k default = g at q0 q1 q2 q3 q4 q5 q6 hsm R'
      have HBG := Lib.hid fun w => bitsOfGrain_of g w hsm
      have hE := fun w => gbits_eq g w
      clear hsm
      obtain ⟨ax, ay, sx, sy, r, m, t, s, hh⟩ := g
      dsimp only at q0 q1 q2 q3 q4 q5 q6
      unfold Gr.val at HBG
      dsimp only at HBG
      have Gx := blk_new W 37 #[.complex .f32 ax ay, .complex .f32 sx sy, .float .f32 r, .float .f32 m, .float .f32 t, .float .f32 s, .bool hh] _ rfl
      obtain ⟨p0, p1, p2, p3, p4, p5, p6⟩ := R'.out (.cells #[.complex .f32 ax ay, .complex .f32 sx sy, .float .f32 r, .float .f32 m, .float .f32 t, .float .f32 s, .bool hh] 37)
      dsimp only at p0 p1 p2 p3 p4 p5 p6
      have d0 := Gx.cell 0
      have d1 := Gx.cell 1
      have d2 := Gx.cell 2
      have d3 := Gx.cell 3
      have d4 := Gx.cell 4
      have d5 := Gx.cell 5
      have d6 := Gx.cell 6
      have e0 := (N1.out (.cells #[.complex .f32 ax ay, .complex .f32 sx sy, .float .f32 r, .float .f32 m, .float .f32 t, .float .f32 s, .bool hh] 37)).cell 0
      clear Gx R'
      unfold Gr.bits at HBG hE
      dsimp only at HBG hE
      generalize bitsOf ax = B0 at HBG hE
      generalize bitsOf ay = B1 at HBG hE
      generalize bitsOf sx = B2 at HBG hE
      generalize bitsOf sy = B3 at HBG hE
      generalize bitsOf r = B4 at HBG hE
      generalize bitsOf m = B5 at HBG hE
      generalize bitsOf t = B6 at HBG hE
      generalize bitsOf s = B7 at HBG hE
      have M0 := Lib.hid (N0.out (.cells #[.complex .f32 ax ay, .complex .f32 sx sy, .float .f32 r, .float .f32 m, .float .f32 t, .float .f32 s, .bool hh] 37))
      have M1 := Lib.hid (N1.out (.cells #[.complex .f32 ax ay, .complex .f32 sx sy, .float .f32 r, .float .f32 m, .float .f32 t, .float .f32 s, .bool hh] 37))
      have M2 := Lib.hid (N2.out (.cells #[.complex .f32 ax ay, .complex .f32 sx sy, .float .f32 r, .float .f32 m, .float .f32 t, .float .f32 s, .bool hh] 37))
      have M3 := Lib.hid (N3.out (.cells #[.complex .f32 ax ay, .complex .f32 sx sy, .float .f32 r, .float .f32 m, .float .f32 t, .float .f32 s, .bool hh] 37))
      clear N0 N1 N2 N3
      go_wp2_with fail
      generalize W.alloc (.cells #[.complex .f32 ax ay, .complex .f32 sx sy, .float .f32 r, .float .f32 m, .float .f32 t, .float .f32 s, .bool hh] 37) = V at M0 M1 M2 M3 d0 d1 d2 d3 d4 d5 d6 e0 p0 p1 p2 p3 p4 p5 p6 ⊢
      have MD := Lib.hid (below_drew_ M0.out)
      have MB := Lib.hid (blk_drew_ M1.out)
      have MG := Lib.hid (M2.out.quiet (Quiet.one _))
      have MH := Lib.hid (M3.out.quiet (Quiet.one _))
      clear M0 M1 M2 M3
      have hS0 : V.drew.cell? ⟨W.heap.size, 0, none⟩ = some (.complex .f32 ax ay) ∧ V.drew.cell? ⟨W.heap.size, 1, none⟩ = some (.complex .f32 sx sy) ∧ V.drew.cell? ⟨W.heap.size, 2, none⟩ = some (.float .f32 r) ∧ V.drew.cell? ⟨W.heap.size, 3, none⟩ = some (.float .f32 m) ∧ V.drew.cell? ⟨W.heap.size, 4, none⟩ = some (.float .f32 t) ∧ V.drew.cell? ⟨W.heap.size, 5, none⟩ = some (.float .f32 s) ∧ V.drew.cell? ⟨W.heap.size, 6, none⟩ = some (.bool hh) ∧ V.drew.cell? ⟨w.heap.size + 1, 0, none⟩ = some (.slice (some ⟨b', 0, none⟩) n c') ∧ V.drew.cell? ⟨b', k * 7, none⟩ = some (.complex .f32 ax ay) ∧ V.drew.cell? ⟨b', k * 7 + 1, none⟩ = some (.complex .f32 sx sy) ∧ V.drew.cell? ⟨b', k * 7 + 2, none⟩ = some (.float .f32 r) ∧ V.drew.cell? ⟨b', k * 7 + 3, none⟩ = some (.float .f32 m) ∧ V.drew.cell? ⟨b', k * 7 + 4, none⟩ = some (.float .f32 t) ∧ V.drew.cell? ⟨b', k * 7 + 5, none⟩ = some (.float .f32 s) ∧ V.drew.cell? ⟨b', k * 7 + 6, none⟩ = some (.bool hh) := ⟨d0, d1, d2, d3, d4, d5, d6, e0, p0, p1, p2, p3, p4, p5, p6⟩
      clear d0 d1 d2 d3 d4 d5 d6 e0 p0 p1 p2 p3 p4 p5 p6
      go_region_held3 (fun w' => w'.cell? ⟨W.heap.size, 0, none⟩ = some (.complex .f32 ax ay) ∧ w'.cell? ⟨W.heap.size, 1, none⟩ = some (.complex .f32 sx sy) ∧ w'.cell? ⟨W.heap.size, 2, none⟩ = some (.float .f32 r) ∧ w'.cell? ⟨W.heap.size, 3, none⟩ = some (.float .f32 m) ∧ w'.cell? ⟨W.heap.size, 4, none⟩ = some (.float .f32 t) ∧ w'.cell? ⟨W.heap.size, 5, none⟩ = some (.float .f32 s) ∧ w'.cell? ⟨W.heap.size, 6, none⟩ = some (.bool hh) ∧
        w'.cell? ⟨w.heap.size + 1, 0, none⟩ = some (.slice (some ⟨b', 0, none⟩) n c') ∧ w'.cell? ⟨b', k * 7, none⟩ = some (.complex .f32 ax ay) ∧ w'.cell? ⟨b', k * 7 + 1, none⟩ = some (.complex .f32 sx sy) ∧ w'.cell? ⟨b', k * 7 + 2, none⟩ = some (.float .f32 r) ∧ w'.cell? ⟨b', k * 7 + 3, none⟩ = some (.float .f32 m) ∧ w'.cell? ⟨b', k * 7 + 4, none⟩ = some (.float .f32 t) ∧ w'.cell? ⟨b', k * 7 + 5, none⟩ = some (.float .f32 s) ∧ w'.cell? ⟨b', k * 7 + 6, none⟩ = some (.bool hh))
        (first | with_reducible exact hS0 | with_reducible exact keep15 hb (by with_reducible assumption))
        (first | (go_at_call 58; (with_reducible refine (HBG.out _).mono ?_); rintro e w1 ⟨rfl, hb⟩; have MD := Lib.hid (below_next MD.out hb); have MB := Lib.hid (blk_next MB.out hb); have MG := Lib.hid (MG.out.below hb (Nat.le_refl _)); have MH := Lib.hid (MH.out.below hb (Nat.le_refl _))))
      clear hS0
      go_wp2_with fail
      go_roundw
      case rel => exact ⟨_, k + 1, rfl, by omega, by go_num, MD.out, MB.out, MG.out, MH.out⟩
      case measure => simp [intOf]; omega
    · obtain rfl : k = n := by omega
      have HBl := Lib.hid hb
      clear hb hB hg hg'
      go_wp2
      go_ret
      exact ⟨rfl, HBl.out⟩
end Go.Proofs.Ytbggklhnnjikjaa

namespace Go.Proofs.Ytbggklhnnjikjaa
open Go.RowKit Fl

theorem neg_word (k : FloatKind) (s : Bool) (r : Nat) (h : r < k.format.signWeight) : Op.negFloat k (k.format.word s r) = k.format.word (!s) r := by
  have hn : Op.negFloat k (k.format.word s r) = k.format.word s r ^^^ k.format.signWeight := rfl
  obtain ⟨W, hW⟩ : ∃ W, k.format.signWeight = 2 ^ W := ⟨_, rfl⟩
  rw [hn]
  unfold Ieee.Format.word
  rw [hW] at h ⊢
  have hp := Nat.two_pow_pos W
  have key : ∀ x : Nat, (x ^^^ 2 ^ W) = 2 ^ W * (x / 2 ^ W ^^^ 1) + x % 2 ^ W := by
    intro x
    have h1 : (x ^^^ 2 ^ W) % 2 ^ W = x % 2 ^ W := by rw [Nat.xor_mod_two_pow, Nat.mod_self, Nat.xor_zero]
    have h2 : (x ^^^ 2 ^ W) / 2 ^ W = x / 2 ^ W ^^^ 1 := by rw [Nat.xor_div_two_pow, Nat.div_self hp]
    have := Nat.div_add_mod (x ^^^ 2 ^ W) (2 ^ W)
    rw [h1, h2] at this
    exact this.symm
  cases s
  · simp only [Bool.false_eq_true, if_false, Bool.not_false, if_true]
    rw [key, Nat.div_eq_of_lt h, Nat.mod_eq_of_lt h]
    simp
  · simp only [Bool.not_true, Bool.false_eq_true, if_false, if_true]
    rw [key, Nat.add_div_left _ hp, Nat.add_mod_left, Nat.div_eq_of_lt h, Nat.mod_eq_of_lt h]
    simp
theorem nearest_flip (f : Ieee.Format) (s : Bool) (m : Nat) (p : Int) : ∃ r, r ≤ f.infRung ∧ f.nearest s m p = f.word s r ∧ f.nearest (!s) m p = f.word (!s) r := by
  by_cases hm : m = 0
  · exact ⟨0, Nat.zero_le _, by unfold Ieee.Format.nearest; rw [if_pos hm], by unfold Ieee.Format.nearest; rw [if_pos hm]⟩
  · unfold Ieee.Format.nearest
    rw [if_neg hm, if_neg hm]
    refine ⟨_, Nat.min_le_right _ _, rfl, ?_⟩
    cases s <;> rfl
/-- the opposite of an exact number -/
theorem exa_neg (k : FloatKind) {p : Int} {x : Nat} {n : Int} (h : Ieee.Format.infRung k.format < k.format.signWeight) (hx : Exa k.format p x n) : Exa k.format p (Op.negFloat k x) (-n) := by
  constructor
  · intro h0
    have h0' : n ≠ 0 := by omega
    rw [hx.1 h0']
    obtain ⟨r, r1, r2, r3⟩ := nearest_flip k.format (decide (n < 0)) n.natAbs p
    rw [r2, neg_word k _ r (Nat.lt_of_le_of_lt r1 h), ← r3, Int.natAbs_neg]
    congr 1
    by_cases hn : n < 0
    · rw [decide_eq_true hn, decide_eq_false (show ¬ -n < 0 by omega)]; rfl
    · rw [decide_eq_false hn, decide_eq_true (show -n < 0 by omega)]; rfl
  · intro h0
    have h0' : n = 0 := by omega
    have hp : 0 < k.format.signWeight := sw_pos _
    rcases hx.2 h0' with e | e
    · rw [e, neg_word k false 0 hp]; exact .inr rfl
    · rw [e, neg_word k true 0 hp]; exact .inl rfl
theorem exa_neg32 {p : Int} {x : Nat} {n : Int} (hx : Exa Ieee.single p x n) : Exa Ieee.single p (Op.negFloat .f32 x) (-n) := exa_neg .f32 (by decide) hx
theorem exa_neg64 {p : Int} {x : Nat} {n : Int} (hx : Exa Ieee.double p x n) : Exa Ieee.double p (Op.negFloat .f64 x) (-n) := exa_neg .f64 (by decide) hx

def sumH (f : Nat → Int) : Nat → Int
  | 0 => 0
  | k + 1 => sumH f k + f k
theorem sumH_first (f : Nat → Int) : ∀ n, sumH f (n + 1) = f 0 + sumH (fun k => f (k + 1)) n
  | 0 => by simp [sumH]
  | n + 1 => by
    have := sumH_first f n
    show sumH f (n + 1) + f (n + 1) = f 0 + (sumH (fun k => f (k + 1)) n + f (n + 1))
    omega
theorem sumH_ext {f g : Nat → Int} : ∀ n, (∀ k, k < n → f k = g k) → sumH f n = sumH g n
  | 0, _ => rfl
  | n + 1, h => by
    show sumH f n + f n = sumH g n + g n
    rw [sumH_ext n (fun k hk => h k (by omega)), h n (by omega)]
theorem sumH_rev : ∀ (n : Nat) (f : Nat → Int), sumH (fun k => f (n - 1 - k)) n = sumH f n
  | 0, _ => rfl
  | n + 1, f => by
    rw [sumH_first]
    have e : sumH (fun k => f (n + 1 - 1 - (k + 1))) n = sumH (fun k => f (n - 1 - k)) n := sumH_ext n (fun k hk => by congr 1; omega)
    rw [e, sumH_rev n f]
    show f (n + 1 - 1 - 0) + sumH f n = sumH f n + f n
    rw [show n + 1 - 1 - 0 = n by omega]; omega
theorem sumH_neg (f : Nat → Int) : ∀ n, sumH (fun k => -f k) n = -sumH f n
  | 0 => by simp [sumH]
  | n + 1 => by
    have := sumH_neg f n
    show sumH (fun k => -f k) n + -f n = -(sumH f n + f n)
    omega
theorem sumH_nonneg (f : Nat → Int) : ∀ n, (∀ k, k < n → 0 ≤ f k) → 0 ≤ sumH f n
  | 0, _ => Int.le_refl _
  | n + 1, h => by
    have h1 := sumH_nonneg f n (fun k hk => h k (by omega))
    have h2 := h n (by omega)
    show 0 ≤ sumH f n + f n
    omega
theorem sumH_small (f : Nat → Int) (N : Nat) : ∀ n, (∀ k, k < n → (f k).natAbs ≤ N) → (sumH f n).natAbs ≤ n * N
  | 0, _ => by simp [sumH]
  | n + 1, h => by
    have h1 := sumH_small f N n (fun k hk => h k (by omega))
    have h2 := h n (by omega)
    have h3 := Int.natAbs_add_le (sumH f n) (f n)
    show (sumH f n + f n).natAbs ≤ (n + 1) * N
    rw [Nat.add_mul, Nat.one_mul]
    omega
/-- a chain of exact sums -/
theorem chain_exb {p : Int} {N : Nat} (P : Nat → Nat) (I : Nat → Int) (n : Nat) (h1 : -149 ≤ p) (h2 : p ≤ 0) (hn : n ≤ 6) (hN : N < 100000) (hP : ∀ k, k < n → ExB p (P k) (I k) N) :
    ∃ S : Nat → Nat, S 0 = 0 ∧ (∀ k, k < n → floatBits .add .f32 (S k) (P k) = some (S (k + 1))) ∧ ∀ k, k ≤ n → ExB p (S k) (sumH I k) (6 * N) := by
  have hb : ∀ k, k ≤ n → (sumH I k).natAbs ≤ 6 * N := fun k hk => by
    have := sumH_small I N k (fun j hj => (hP j (by omega)).2)
    exact Nat.le_trans this (Nat.mul_le_mul_right _ (by omega))
  refine ⟨fun k => Nat.rec 0 (fun j s => (floatBits .add .f32 s (P j)).getD 0) k, rfl, ?_⟩
  generalize hS : (fun k => (Nat.rec 0 (fun j s => (floatBits .add .f32 s (P j)).getD 0) k : Nat)) = S
  have hs0 : S 0 = 0 := by subst hS; rfl
  have hs : ∀ k, S (k + 1) = (floatBits .add .f32 (S k) (P k)).getD 0 := fun k => by subst hS; rfl
  have step : ∀ k, k < n → Exa Ieee.single p (S k) (sumH I k) → ∃ r, floatBits .add .f32 (S k) (P k) = some r ∧ Exa Ieee.single p r (sumH I (k + 1)) := fun k hk h =>
    add32 h (hP k hk).1 h1 h2 (by have := hb k (by omega); omega) (by have := (hP k hk).2; omega)
  have key : ∀ k, k ≤ n → Exa Ieee.single p (S k) (sumH I k) := by
    intro k
    induction k with
    | zero => intro _; rw [hs0]; exact exa_zero _ p
    | succ k ih =>
      intro hk
      obtain ⟨r, g1, g2⟩ := step k (by omega) (ih (by omega))
      rw [hs, g1]; exact g2
  refine ⟨fun k hk => ?_, fun k hk => ⟨key k hk, hb k hk⟩⟩
  obtain ⟨r, g1, g2⟩ := step k hk (key k (by omega))
  rw [hs, g1]; rfl
theorem exa_same {p : Int} {x y : Nat} {a : Int} (hx : Exa Ieee.single p x a) (hy : Exa Ieee.single p y a) (h1 : -149 ≤ p) (h2 : p ≤ 0) (ha : a.natAbs < 16777216) : FloatKind.f32.format.order x y = some .eq := by
  rw [order32 hx hy h1 h2 ha ha]; simp [compare, compareOfLessAndEq]
theorem exa_none {p : Int} {x y : Nat} {a : Int} (hx : Exa Ieee.single p x a) (hy : Exa Ieee.single p y a) (h1 : -149 ≤ p) (h2 : p ≤ 0) (ha : a.natAbs < 1000000) : ∃ z, floatBits .sub .f32 x y = some z ∧ (z = 0 ∨ z = 2147483648) := by
  obtain ⟨z, h3, h4⟩ := sub32 hx hy h1 h2 ha ha
  rw [Int.sub_self] at h4
  refine ⟨z, h3, ?_⟩
  rcases h4.2 rfl with rfl | rfl
  · left; decide
  · right; decide
/-- two 64-bit numbers that are the same lie in no gap -/
theorem gap_none {p : Int} {x y : Nat} {a : Int} (hx : Exa Ieee.double p x a) (hy : Exa Ieee.double p y a) (h1 : -1000 ≤ p) (h2 : p ≤ 0) (ha : a.natAbs < 1000000) :
    ∃ d e, floatBits .sub .f64 x y = some d ∧ floatBits .sub .f64 y x = some e ∧ (FloatKind.f64.format.order d e).isSome = true ∧ FloatKind.f64.format.order (maxD d e) 4562254508917369340 = some .lt := by
  have f1 := fits64 (p := p) (n := a) (by omega) (by omega) (by omega)
  have f0 := fits64 (p := p) (n := a - a) (by omega) (by omega) (by omega)
  obtain ⟨d, d1, d2⟩ := exa_sub he64 hx hy f1 f1 f0
  obtain ⟨e, e1, e2⟩ := exa_sub he64 hy hx f1 f1 f0
  rw [Int.sub_self] at d2 e2
  have hz : ∀ z : Nat, Exa Ieee.double p z 0 → z = 0 ∨ z = 9223372036854775808 := fun z hz => by
    rcases hz.2 rfl with rfl | rfl
    · left; decide
    · right; decide
  refine ⟨d, e, d1, e1, ?_, ?_⟩
  · rcases hz d d2 with rfl | rfl <;> rcases hz e e2 with rfl | rfl <;> decide
  · rcases maxD_one d e with h | h <;> rw [h]
    · rcases hz d d2 with rfl | rfl <;> decide
    · rcases hz e e2 with rfl | rfl <;> decide
end Go.Proofs.Ytbggklhnnjikjaa

namespace Go.Proofs.Ytbggklhnnjikjaa
open Go.RowKit Fl

def mirI (i : GrI) : GrI := { i with x := -i.x, u := -i.u, t := -i.t, s := -i.s }
theorem GrQ.mirror {g : Gr} {i : GrI} (h : GrQ g i) : GrQ (mirrorF g) (mirI i) :=
  ⟨exa_neg32 h.ax, by have := h.bx; show -64 ≤ -i.x ∧ -i.x ≤ 64; omega, h.ay, h.by_, exa_neg32 h.sx, by have := h.bu; show -4 ≤ -i.u ∧ -i.u ≤ 4; omega, h.sy, h.bv, h.r, h.br, h.m, h.bm, exa_neg32 h.t, by have := h.bt; show -8 ≤ -i.t ∧ -i.t ≤ 8; omega, exa_neg32 h.s, by have := h.bs; show -4 ≤ -i.s ∧ -i.s ≤ 4; omega⟩
theorem turnI_mir (i : GrI) : turnI (mirI i) = -turnI i := by
  show i.m * (-i.x * i.v - i.y * -i.u) * ((2 ^ 2 : Nat) : Int) + i.m * i.r * i.r * -i.s = -(i.m * (i.x * i.v - i.y * i.u) * ((2 ^ 2 : Nat) : Int) + i.m * i.r * i.r * i.s)
  have e : -i.x * i.v - i.y * -i.u = -(i.x * i.v - i.y * i.u) := by
    rw [Int.neg_mul, Int.mul_neg]; omega
  rw [e, Int.mul_neg, Int.neg_mul, Int.mul_neg]
  generalize i.m * (i.x * i.v - i.y * i.u) * ((2 ^ 2 : Nat) : Int) = A
  generalize i.m * i.r * i.r * i.s = B
  omega
theorem energyI_mir (i : GrI) : energyI (mirI i) = energyI i := by
  show i.m * (-i.u * -i.u + i.v * i.v) * ((2 ^ 3 : Nat) : Int) + i.m * i.r * i.r * -i.s * -i.s = energyI i
  rw [Int.neg_mul_neg, Int.mul_neg, Int.mul_neg, Int.neg_mul, Int.neg_neg]; rfl
theorem energyI_nonneg {g : Gr} {i : GrI} (h : GrQ g i) : 0 ≤ energyI i := by
  have hm := h.bm
  have hr := h.br
  have sq : ∀ a : Int, 0 ≤ a * a := fun a => by
    rcases Int.le_total 0 a with h | h
    · exact Int.mul_nonneg h h
    · have := Int.mul_nonneg (show 0 ≤ -a by omega) (show 0 ≤ -a by omega)
      rwa [Int.neg_mul_neg] at this
  unfold energyI
  have h1 : 0 ≤ i.m * (i.u * i.u + i.v * i.v) := Int.mul_nonneg (by omega) (Int.add_nonneg (sq _) (sq _))
  have h2 : 0 ≤ i.m * i.r * i.r := Int.mul_nonneg (Int.mul_nonneg (by omega) (by omega)) (by omega)
  have h3 : 0 ≤ i.m * i.r * i.r * i.s * i.s := by rw [Int.mul_assoc _ i.s]; exact Int.mul_nonneg h2 (sq _)
  exact Int.add_nonneg (Int.mul_nonneg h1 (nonneg_pow 3)) h3
theorem getD_mapg {α β : Type} [Inhabited α] [Inhabited β] (f : α → β) {gs : List α} (k : Nat) (hk : k < gs.length) : (gs.map f).getD k default = f (gs.getD k default) := by
  simp [List.getD, List.getElem?_map, List.getElem?_eq_getElem hk]
theorem GrsQ.mirror {gs : List Gr} {is : List GrI} (h : GrsQ gs is) : GrsQ (gs.map mirrorF) (is.map mirI) := by
  refine ⟨by rw [List.length_map, List.length_map, h.1], fun k hk => ?_⟩
  rw [List.length_map] at hk
  rw [getD_mapg _ k hk, getD_mapg _ k (by rw [h.1]; exact hk)]
  exact (h.2 k hk).mirror
/-- the sums of turnings and of energies -/
theorem turn_sum {gs : List Gr} {is : List GrI} (h : GrsQ gs is) (n : Nat) (hl : gs.length = n) (hn : n ≤ 6) :
    ∃ P S, SumF n P S ∧ (∀ k, k < n → TurnW (gs.getD k default) (P k)) ∧ ExB (-8) (S n) (sumH (fun k => turnI (is.getD k default)) n) 68352 := by
  have hP : ∀ k, ∃ v, k < n → TurnW (gs.getD k default) v ∧ ExB (-8) v (turnI (is.getD k default)) 11392 := fun k => by
    by_cases hk : k < n
    · obtain ⟨v, h1, h2⟩ := turnW_exa (h.2 k (by omega))
      exact ⟨v, fun _ => ⟨h1, h2⟩⟩
    · exact ⟨0, fun h => absurd h hk⟩
  obtain ⟨P, hP⟩ := Classical.axiomOfChoice hP
  obtain ⟨S, s0, s1, s2⟩ := chain_exb P (fun k => turnI (is.getD k default)) n (by decide) (by decide) hn (by decide) (fun k hk => (hP k hk).2)
  exact ⟨P, S, ⟨s0, s1⟩, fun k hk => (hP k hk).1, s2 n (Nat.le_refl _)⟩
theorem energy_sum {gs : List Gr} {is : List GrI} (h : GrsQ gs is) (n : Nat) (hl : gs.length = n) (hn : n ≤ 6) :
    ∃ P S, SumF n P S ∧ (∀ k, k < n → ∃ pw, powF ((gs.getD k default).sx, (gs.getD k default).sy) = some pw ∧ nan32 (gs.getD k default).sx = false ∧ nan32 (gs.getD k default).sy = false ∧ EnergyW (gs.getD k default) 0 0 pw (P k)) ∧ ExB (-10) (S n) (sumH (fun k => energyI (is.getD k default)) n) 39936 := by
  have hP : ∀ k, ∃ v, k < n → (∃ pw, powF ((gs.getD k default).sx, (gs.getD k default).sy) = some pw ∧ nan32 (gs.getD k default).sx = false ∧ nan32 (gs.getD k default).sy = false ∧ EnergyW (gs.getD k default) 0 0 pw v) ∧ ExB (-10) v (energyI (is.getD k default)) 6656 := fun k => by
    by_cases hk : k < n
    · obtain ⟨pw, v, h1, h2, h3, h4, h5⟩ := energyW_exa (h.2 k (by omega))
      exact ⟨v, fun _ => ⟨⟨pw, h1, h2, h3, h4⟩, h5⟩⟩
    · exact ⟨0, fun h => absurd h hk⟩
  obtain ⟨P, hP⟩ := Classical.axiomOfChoice hP
  obtain ⟨S, s0, s1, s2⟩ := chain_exb P (fun k => energyI (is.getD k default)) n (by decide) (by decide) hn (by decide) (fun k hk => (hP k hk).2)
  exact ⟨P, S, ⟨s0, s1⟩, fun k hk => (hP k hk).1, s2 n (Nat.le_refl _)⟩
/-- the sum of masses, each told as an integer -/
theorem mass_sum {gs : List Gr} {M : Nat → Int} (n : Nat) (hn : n ≤ 6) (h : ∀ k, k < n → ExB (-2) (gs.getD k default).m (M k) 8) :
    ∃ S, SumF n (fun k => (gs.getD k default).m) S ∧ ExB (-2) (S n) (sumH M n) 48 := by
  obtain ⟨S, s0, s1, s2⟩ := chain_exb (fun k => (gs.getD k default).m) M n (by decide) (by decide) hn (by decide) h
  exact ⟨S, ⟨s0, s1⟩, s2 n (Nat.le_refl _)⟩
/-- the sums of speeds times masses -/
theorem momh_sum {gs : List Gr} {U V M : Nat → Int} (n : Nat) (hn : n ≤ 6) (h : ∀ k, k < n → ExB (-2) (gs.getD k default).sx (U k) 4 ∧ ExB (-2) (gs.getD k default).sy (V k) 4 ∧ ExB (-2) (gs.getD k default).m (M k) 8) :
    ∃ P Q S T, SumW gs n P Q S T ∧ ExB (-4) (S n) (sumH (fun k => U k * M k) n) 192 ∧ ExB (-4) (T n) (sumH (fun k => V k * M k) n) 192 := by
  have hP : ∀ k, ∃ p : Nat × Nat, k < n → (floatBits .mul .f32 (gs.getD k default).sx (gs.getD k default).m = some p.1 ∧ ExB (-4) p.1 (U k * M k) 32) ∧ floatBits .mul .f32 (gs.getD k default).sy (gs.getD k default).m = some p.2 ∧ ExB (-4) p.2 (V k * M k) 32 := fun k => by
    by_cases hk : k < n
    · obtain ⟨q1, q2, q3⟩ := h k hk
      obtain ⟨p, e1, f1⟩ := mulB q1 q3 (-4) rfl (by decide) (by decide) (by decide) (by decide) (by decide) (by decide)
      obtain ⟨q, e2, f2⟩ := mulB q2 q3 (-4) rfl (by decide) (by decide) (by decide) (by decide) (by decide) (by decide)
      exact ⟨(p, q), fun _ => ⟨⟨e1, f1⟩, e2, f2⟩⟩
    · exact ⟨(0, 0), fun h => absurd h hk⟩
  obtain ⟨P, hP⟩ := Classical.axiomOfChoice hP
  obtain ⟨S, s0, s1, s2⟩ := chain_exb (fun k => (P k).1) (fun k => U k * M k) n (by decide) (by decide) hn (by decide) (fun k hk => (hP k hk).1.2)
  obtain ⟨T, t0, t1, t2⟩ := chain_exb (fun k => (P k).2) (fun k => V k * M k) n (by decide) (by decide) hn (by decide) (fun k hk => (hP k hk).2.2)
  exact ⟨fun k => (P k).1, fun k => (P k).2, S, T, ⟨s0, t0, fun k hk => (hP k hk).1.1, fun k hk => (hP k hk).2.1, s1, t1⟩, s2 n (Nat.le_refl _), t2 n (Nat.le_refl _)⟩
/-- the sums of places times masses -/
theorem ctr_sum {gs : List Gr} {X Y M : Nat → Int} (n : Nat) (hn : n ≤ 6) (h : ∀ k, k < n → ExB (-2) (gs.getD k default).ax (X k) 80 ∧ ExB (-2) (gs.getD k default).ay (Y k) 80 ∧ ExB (-2) (gs.getD k default).m (M k) 8) :
    ∃ P Q S T, SumC gs n P Q S T ∧ ExB (-4) (S n) (sumH (fun k => X k * M k) n) 3840 ∧ ExB (-4) (T n) (sumH (fun k => Y k * M k) n) 3840 := by
  have hP : ∀ k, ∃ p : Nat × Nat, k < n → (floatBits .mul .f32 (gs.getD k default).ax (gs.getD k default).m = some p.1 ∧ ExB (-4) p.1 (X k * M k) 640) ∧ floatBits .mul .f32 (gs.getD k default).ay (gs.getD k default).m = some p.2 ∧ ExB (-4) p.2 (Y k * M k) 640 := fun k => by
    by_cases hk : k < n
    · obtain ⟨q1, q2, q3⟩ := h k hk
      obtain ⟨p, e1, f1⟩ := mulB q1 q3 (-4) rfl (by decide) (by decide) (by decide) (by decide) (by decide) (by decide)
      obtain ⟨q, e2, f2⟩ := mulB q2 q3 (-4) rfl (by decide) (by decide) (by decide) (by decide) (by decide) (by decide)
      exact ⟨(p, q), fun _ => ⟨⟨e1, f1⟩, e2, f2⟩⟩
    · exact ⟨(0, 0), fun h => absurd h hk⟩
  obtain ⟨P, hP⟩ := Classical.axiomOfChoice hP
  obtain ⟨S, s0, s1, s2⟩ := chain_exb (fun k => (P k).1) (fun k => X k * M k) n (by decide) (by decide) hn (by decide) (fun k hk => (hP k hk).1.2)
  obtain ⟨T, t0, t1, t2⟩ := chain_exb (fun k => (P k).2) (fun k => Y k * M k) n (by decide) (by decide) hn (by decide) (fun k hk => (hP k hk).2.2)
  exact ⟨fun k => (P k).1, fun k => (P k).2, S, T, ⟨s0, t0, fun k hk => (hP k hk).1.1, fun k hk => (hP k hk).2.1, s1, t1⟩, s2 n (Nat.le_refl _), t2 n (Nat.le_refl _)⟩
/-- a quotient of sums by a mass: between two neighbours -/
theorem quo_btw {a b c : Nat} {x y m : Int} {A : Nat} (hx : ExB (-4) a x 3840) (hy : ExB (-4) b y 3840) (hc : ExB (-2) c m 48) (hm : 0 < m) (D E : Nat) (hD : D = 1061) (hE : E = 136) (_hA : A = 0) :
    ∃ R I, QuoW a b c 0 R I ∧ Btw Ieee.single R E (x * 2048 / m) (x * 2048 / m + 1) ∧ Btw Ieee.single I E (y * 2048 / m) (y * 2048 / m + 1) := by
  have nx := hx.2
  have ny := hy.2
  have nm := hc.2
  have s1 := fits32 (p := -4) (n := x) (by omega) (by omega) (by omega)
  have s2 := fits32 (p := -4) (n := y) (by omega) (by omega) (by omega)
  have s3 := fits32 (p := -2) (n := m) (by omega) (by omega) (by omega)
  have d1 := fits64 (p := -4) (n := x) (by omega) (by omega) (by omega)
  have d2 := fits64 (p := -4) (n := y) (by omega) (by omega) (by omega)
  have d3 := fits64 (p := -2) (n := m) (by omega) (by omega) (by omega)
  have d0 := fits64 (p := -2) (n := 0) (by omega) (by omega) (by omega)
  have wx := hx.1.wide s1 d1
  have wy := hy.1.wide s2 d2
  have wc := hc.1.wide s3 d3
  have z0 : Exa Ieee.single (-2) 0 0 := exa_zero _ _
  have zn : Exa Ieee.single (-2) (Op.negFloat .f32 0) 0 := exa_neg32 z0
  have f0 := fits32 (p := -2) (n := 0) (by omega) (by omega) (by omega)
  have w0 := z0.wide f0 d0
  have wn := zn.wide f0 d0
  have bx := bnd hx.2 hc.2
  have by_ := bnd hy.2 hc.2
  have bm := bnd hc.2 hc.2
  have kx : (x * m).natAbs < 1000000 := Nat.lt_of_le_of_lt bx (by decide)
  have ky : (y * m).natAbs < 1000000 := Nat.lt_of_le_of_lt by_ (by decide)
  have km : (m * m).natAbs < 1000000 := Nat.lt_of_le_of_lt bm (by decide)
  have gx := fits64 (p := -6) (n := x * m) (Nat.lt_trans kx (by decide)) (by decide) (by decide)
  have gy := fits64 (p := -6) (n := y * m) (Nat.lt_trans ky (by decide)) (by decide) (by decide)
  have gm := fits64 (p := -4) (n := m * m) (Nat.lt_trans km (by decide)) (by decide) (by decide)
  have g0 := fits64 (p := -6) (n := 0) (by decide) (by decide) (by decide)
  have g0' := fits64 (p := -4) (n := 0) (by decide) (by decide) (by decide)
  obtain ⟨ac, e1, f1⟩ := exa_mul he64 wx wc d1 d3 gx
  obtain ⟨bd, e2, f2⟩ := exa_mul he64 wy wn d2 d0 (by rw [Int.mul_zero]; exact g0)
  obtain ⟨ad, e3, f3⟩ := exa_mul he64 wx wn d1 d0 (by rw [Int.mul_zero]; exact g0)
  obtain ⟨bc, e4, f4⟩ := exa_mul he64 wy wc d2 d3 gy
  rw [Int.mul_zero] at f2 f3
  obtain ⟨re, e5, f5⟩ := exa_sub he64 f1 f2 gx g0 (by rw [Int.sub_zero]; exact gx)
  obtain ⟨im, e6, f6⟩ := exa_add he64 f3 f4 g0 gy (by rw [Int.zero_add]; exact gy)
  rw [Int.sub_zero] at f5
  rw [Int.zero_add] at f6
  obtain ⟨cc, e7, f7⟩ := exa_mul he64 wc wc d3 d3 gm
  obtain ⟨dd, e8, f8⟩ := exa_mul he64 w0 w0 d0 d0 (by rw [Int.mul_zero]; exact g0')
  rw [Int.mul_zero] at f8
  obtain ⟨pw, e9, f9⟩ := exa_add he64 f7 f8 gm g0' (by rw [Int.add_zero]; exact gm)
  rw [Int.add_zero] at f9
  have hmm : 0 < m * m := Int.mul_pos hm hm
  have fl : ∀ z : Int, z.natAbs ≤ 3840 → (z * 2048 / m * (m * m) ≤ z * m * 2048 ∧ z * m * 2048 ≤ (z * 2048 / m + 1) * (m * m)) ∧ (0 ≤ z * 2048 / m ∨ z * 2048 / m + 1 ≤ 0) ∧ (z * 2048 / m).natAbs < 8000000 ∧ (z * 2048 / m + 1).natAbs < 8000000 := by
    intro z hz
    have h1 : m * (z * 2048 / m) ≤ z * 2048 := Int.mul_ediv_self_le (by omega)
    have h2 : z * 2048 < m * (z * 2048 / m) + m := Int.lt_mul_ediv_self_add hm
    have h3 : (z * 2048 / m).natAbs ≤ (z * 2048).natAbs := Int.natAbs_ediv_le_natAbs _ _
    generalize z * 2048 / m = q at *
    have e1 : q * (m * m) = m * q * m := by rw [Int.mul_comm m q, Int.mul_assoc]
    have e2 : z * m * 2048 = z * 2048 * m := by rw [Int.mul_assoc, Int.mul_comm m, ← Int.mul_assoc]
    have e3 : (q + 1) * (m * m) = (m * q + m) * m := by rw [Int.add_mul, Int.one_mul, Int.add_mul, e1]
    refine ⟨⟨?_, ?_⟩, by omega, by omega, by omega⟩
    · rw [e1, e2]; exact Int.mul_le_mul_of_nonneg_right h1 (by omega)
    · rw [e2, e3]; exact Int.mul_le_mul_of_nonneg_right (by omega) (by omega)
  obtain ⟨⟨x1, x2⟩, x3, x4, x5⟩ := fl x nx
  obtain ⟨⟨y1, y2⟩, y3, y4, y5⟩ := fl y ny
  obtain ⟨p, p1, p2⟩ := btw_quo D hD f5 f9 (by omega) hmm (by omega) x3 x1 x2 (by omega) (by omega)
  obtain ⟨q, q1, q2⟩ := btw_quo D hD f6 f9 (by omega) hmm (by omega) y3 y1 y2 (by omega) (by omega)
  obtain ⟨R, r1, r2⟩ := btw_narrow D E hD hE p2 x3 (by omega) (by omega)
  obtain ⟨I, i1, i2⟩ := btw_narrow D E hD hE q2 y3 (by omega) (by omega)
  exact ⟨R, I, ⟨hx.1.num s1, hy.1.num s2, hc.1.num s3, by decide, by decide, ac, bd, ad, bc, re, im, cc, dd, pw, p, q, e1, e2, e3, e4, e5, e6, e7, e8, e9, p1, q1, r1, i1⟩, r2, i2⟩
end Go.Proofs.Ytbggklhnnjikjaa

namespace Go.Proofs.Ytbggklhnnjikjaa
open Go.RowKit Fl

/-- n - 1, .., 0 -/
def revN (n : Nat) : List Nat := (List.range n).map (fun k => n - 1 - k)
theorem revN_length (n : Nat) : (revN n).length = n := by simp [revN]
theorem revN_at {n k : Nat} (hk : k < n) : (revN n).getD k 0 = n - 1 - k := by simp [revN, List.getD, hk]
theorem ordF_length (gs : List Gr) (zs : List Nat) : (ordF gs zs).length = zs.length := by simp [ordF]
theorem ordF_at (gs : List Gr) {zs : List Nat} {k : Nat} (hk : k < zs.length) : (ordF gs zs).getD k default = gs.getD (zs.getD k 0) default := by
  simp [ordF, List.getD, List.getElem?_map, List.getElem?_eq_getElem hk]
theorem ordF_rev (gs : List Gr) {n k : Nat} (hk : k < n) : (ordF gs (revN n)).getD k default = gs.getD (n - 1 - k) default := by
  rw [ordF_at gs (by rw [revN_length]; exact hk), revN_at hk]
theorem list_getD_ext {gs hs : List Gr} (h : gs.length = hs.length) (e : ∀ k, k < gs.length → gs.getD k default = hs.getD k default) : gs = hs := by
  refine List.ext_getElem h (fun k h1 h2 => ?_)
  have := e k h1
  rwa [List.getD_eq_getElem?_getD, List.getD_eq_getElem?_getD, List.getElem?_eq_getElem h1, List.getElem?_eq_getElem h2] at this
theorem ordF_twice (gs : List Gr) (n : Nat) (hl : gs.length = n) : ordF (ordF gs (revN n)) (revN n) = gs := by
  have h1 : (ordF (ordF gs (revN n)) (revN n)).length = n := by rw [ordF_length, revN_length]
  refine list_getD_ext (by rw [h1, hl]) (fun k hk => ?_)
  rw [h1] at hk
  rw [ordF_rev _ hk, ordF_rev _ (by omega)]
  congr 1; omega
theorem all_ofN {hs : List Gr} {n : Nat} (hl : hs.length = n) (h : ∀ k, k < n → (hs.getD k default).valid = true) : hs.all Gr.valid = true := by
  rw [List.all_eq_true]
  intro g hg
  obtain ⟨k, hk, rfl⟩ := List.getElem_of_mem hg
  have := h k (by omega)
  rwa [List.getD_eq_getElem?_getD, List.getElem?_eq_getElem hk, Option.getD_some] at this
theorem placed_valid {g : Gr} {x y : Nat} (hg : g.valid = true) (h1 : fin32 x = true) (h2 : fin32 y = true) : ({ g with ax := x, ay := y } : Gr).valid = true := by
  unfold Gr.valid at hg ⊢
  simp only [Bool.and_eq_true] at hg
  simp_all
theorem GrQ.small {g : Gr} {i : GrI} (h : GrQ g i) (hw : ∀ x ∈ [g.ax, g.ay, g.sx, g.sy, g.r, g.m, g.t, g.s], x < 4294967296) : g.small := by
  have b := h.b
  have nn : ∀ {p : Int} {x : Nat} {n : Int} {N : Nat}, ExB p x n N → -100 ≤ p → p ≤ 0 → N < 1000000 → nan32 x = false := fun hx h1 h2 hN => hx.1.num (fits32 (by have := hx.2; omega) (by omega) (by omega))
  refine ⟨?_, nn b.ax (by decide) (by decide) (by decide), nn b.ay (by decide) (by decide) (by decide), nn b.sx (by decide) (by decide) (by decide), nn b.sy (by decide) (by decide) (by decide), nn b.r (by decide) (by decide) (by decide), nn b.m (by decide) (by decide) (by decide), nn b.t (by decide) (by decide) (by decide), nn b.s (by decide) (by decide) (by decide)⟩
  simp only [List.mem_cons, List.not_mem_nil, or_false] at hw
  exact ⟨hw _ (.inl rfl), hw _ (.inr (.inl rfl)), hw _ (.inr (.inr (.inl rfl))), hw _ (.inr (.inr (.inr (.inl rfl)))), hw _ (.inr (.inr (.inr (.inr (.inl rfl))))), hw _ (.inr (.inr (.inr (.inr (.inr (.inl rfl)))))), hw _ (.inr (.inr (.inr (.inr (.inr (.inr (.inl rfl))))))), hw _ (.inr (.inr (.inr (.inr (.inr (.inr (.inr rfl))))))) ⟩
theorem exa_word {p : Int} {x : Nat} {n : Int} (h : Exa Ieee.single p x n) : x < 4294967296 := by
  by_cases h0 : n = 0
  · rcases h.2 h0 with rfl | rfl <;> decide
  · rw [h.1 h0]
    obtain ⟨r, r1, r2, _⟩ := nearest_flip Ieee.single (decide (n < 0)) n.natAbs p
    rw [r2]
    have hi : Ieee.single.infRung = 2139095040 := by decide
    have hs : Ieee.single.signWeight = 2147483648 := by decide
    unfold Ieee.Format.word
    split <;> omega
theorem GrQ.small' {g : Gr} {i : GrI} (h : GrQ g i) : g.small := h.small (by
  intro x hx
  simp only [List.mem_cons, List.not_mem_nil, or_false] at hx
  rcases hx with rfl | rfl | rfl | rfl | rfl | rfl | rfl | rfl
  · exact exa_word h.ax
  · exact exa_word h.ay
  · exact exa_word h.sx
  · exact exa_word h.sy
  · exact exa_word h.r
  · exact exa_word h.m
  · exact exa_word h.t
  · exact exa_word h.s)
structure HeapsF (fx fy n : Nat) (gs mi tw mv bk ad ot : List Gr) : Prop where
  lmi : mi.length = n
  ltw : tw.length = n
  lmv : mv.length = n
  lbk : bk.length = n
  lad : ad.length = n + 1
  lot : ot.length = n
  vg : gs.all Gr.valid = true
  vmi : mi.all Gr.valid = true
  vtw : tw.all Gr.valid = true
  vmv : mv.all Gr.valid = true
  vbk : bk.all Gr.valid = true
  vad : ad.all Gr.valid = true
  vot : ot.all Gr.valid = true
  tk : ad.take n = gs
  ag : ordF ot (revN n) = gs
  isM : ∀ k, k < n → (floatBits .add .f32 (gs.getD k default).ax fx).isSome = true ∧ (floatBits .add .f32 (gs.getD k default).ay fy).isSome = true
  isB : ∀ k, k < n → (floatBits .add .f32 (mv.getD k default).ax (Op.negFloat .f32 fx)).isSome = true ∧ (floatBits .add .f32 (mv.getD k default).ay (Op.negFloat .f32 fy)).isSome = true
  finM : (fin32 fx && fin32 fy) = true
  finB : (fin32 (Op.negFloat .f32 fx) && fin32 (Op.negFloat .f32 fy)) = true
  sm : ∀ g ∈ gs, g.small
  tax : ∀ k, k < n → FloatKind.f32.format.order (tw.getD k default).ax (gs.getD k default).ax = some .eq
  tay : ∀ k, k < n → FloatKind.f32.format.order (tw.getD k default).ay (gs.getD k default).ay = some .eq
  tsp : ∀ k, k < n → FloatKind.f32.format.order (tw.getD k default).s (gs.getD k default).s = some .eq
  bax : ∀ k, k < n → FloatKind.f32.format.order (bk.getD k default).ax (gs.getD k default).ax = some .eq
  bay : ∀ k, k < n → FloatKind.f32.format.order (bk.getD k default).ay (gs.getD k default).ay = some .eq
  mass : ∃ S S', SumF n (fun k => (gs.getD k default).m) S ∧ SumF n (fun k => (ot.getD k default).m) S' ∧ fin32 (S n) = true ∧ fin32 (S' n) = true ∧ FloatKind.f32.format.order (S n) (S' n) = some .eq
  mom : ∃ P Q S T P' Q' S' T' z z', SumW gs n P Q S T ∧ SumW ot n P' Q' S' T' ∧ (fin32 (S n) && fin32 (T n)) = true ∧ (fin32 (S' n) && fin32 (T' n)) = true ∧ floatBits .sub .f32 (S n) (S' n) = some z ∧ floatBits .sub .f32 (T n) (T' n) = some z' ∧ (z = 0 ∨ z = 2147483648) ∧ (z' = 0 ∨ z' = 2147483648)
  ctr : ∃ P Q S T M R I P' Q' S' T' M' R' I' i j x y p q s v, SumC gs n P Q S T ∧ SumF n (fun k => (gs.getD k default).m) M ∧ QuoW (S n) (T n) (M n) 0 R I ∧ (fin32 R && fin32 I) = true ∧ SumC mv n P' Q' S' T' ∧ SumF n (fun k => (mv.getD k default).m) M' ∧ QuoW (S' n) (T' n) (M' n) 0 R' I' ∧ (fin32 R' && fin32 I') = true ∧
    floatBits .add .f32 R fx = some i ∧ floatBits .add .f32 I fy = some j ∧ floatBits .sub .f32 R' i = some x ∧ floatBits .sub .f32 I' j = some y ∧ nan32 x = false ∧ nan32 y = false ∧ LongW x y p q s (some v) ∧ nan32 v = false ∧ FloatKind.f64.format.order (wide v) 4562254508917369340 = some .lt
  turn : ∃ P S P' S' d e, SumF n P S ∧ (∀ k, k < n → TurnW (gs.getD k default) (P k)) ∧ SumF n P' S' ∧ (∀ k, k < n → TurnW (mi.getD k default) (P' k)) ∧ fin32 (S n) = true ∧ fin32 (S' n) = true ∧ floatBits .sub .f64 (wide (S n)) (Op.negFloat .f64 (wide (S' n))) = some d ∧ floatBits .sub .f64 (Op.negFloat .f64 (wide (S' n))) (wide (S n)) = some e ∧ (FloatKind.f64.format.order d e).isSome = true ∧ FloatKind.f64.format.order (maxD d e) 4562254508917369340 = some .lt
  energy : ∃ P S P' S' d e, SumF n P S ∧ (∀ k, k < n → ∃ pw, powF ((gs.getD k default).sx, (gs.getD k default).sy) = some pw ∧ nan32 (gs.getD k default).sx = false ∧ nan32 (gs.getD k default).sy = false ∧ EnergyW (gs.getD k default) 0 0 pw (P k)) ∧ SumF n P' S' ∧ (∀ k, k < n → ∃ pw, powF ((mi.getD k default).sx, (mi.getD k default).sy) = some pw ∧ nan32 (mi.getD k default).sx = false ∧ nan32 (mi.getD k default).sy = false ∧ EnergyW (mi.getD k default) 0 0 pw (P' k)) ∧
    fin32 (S n) = true ∧ fin32 (S' n) = true ∧ floatBits .sub .f64 (wide (S n)) (wide (S' n)) = some d ∧ floatBits .sub .f64 (wide (S' n)) (wide (S n)) = some e ∧ (FloatKind.f64.format.order d e).isSome = true ∧ FloatKind.f64.format.order (maxD d e) 4562254508917369340 = some .lt ∧ (FloatKind.f32.format.order (S n) 0 == some .gt || FloatKind.f32.format.order (S n) 0 == some .eq) = true
theorem negneg {p : Int} {x : Nat} {n : Int} (h : Exa Ieee.single p x n) : Exa Ieee.single p (Op.negFloat .f32 (Op.negFloat .f32 x)) n := by
  have := exa_neg32 (exa_neg32 h); rwa [Int.neg_neg] at this
theorem ExB.fin' {p : Int} {x : Nat} {n : Int} {N : Nat} (h : ExB p x n N) (h1 : -100 ≤ p) (h2 : p ≤ 0) (hN : N < 1000000) : fin32 x = true := fin_exa h.1 (by omega) h2 (by have := h.2; omega)
theorem wideB {p : Int} {x : Nat} {n : Int} {N : Nat} (h : ExB p x n N) (h1 : -100 ≤ p) (h2 : p ≤ 0) (hN : N < 1000000) : Exa Ieee.double p (wide x) n := h.1.wide (fits32 (by have := h.2; omega) (by omega) (by omega)) (fits64 (by have := h.2; omega) (by omega) (by omega))
set_option maxHeartbeats 3200000 in
theorem heapsF_of {fx fy : Nat} {gs : List Gr} {is : List GrI} {a b : Int} (n : Nat) (hl : gs.length = n) (hn1 : 1 ≤ n) (hn : n ≤ 6) (h : GrsQ gs is) (hx : Exa Ieee.single (-2) fx a) (hy : Exa Ieee.single (-2) fy b) (ha : -16 ≤ a ∧ a ≤ 16) (hb : -16 ≤ b ∧ b ≤ 16) :
    HeapsF fx fy n gs (gs.map mirrorF) ((gs.map mirrorF).map mirrorF) (gs.map (moveF fx fy)) ((gs.map (moveF fx fy)).map (moveF (Op.negFloat .f32 fx) (Op.negFloat .f32 fy))) (gs ++ [gs.getD 0 default]) (ordF gs (revN n)) := by
  have hq : ∀ k, k < n → GrQ (gs.getD k default) (is.getD k default) := fun k hk => h.2 k (by omega)
  have hm := h.mirror
  have ht := hm.mirror
  have nx := exa_neg32 hx
  have ny := exa_neg32 hy
  have hlm : (gs.map mirrorF).length = n := by rw [List.length_map, hl]
  have hlv : (gs.map (moveF fx fy)).length = n := by rw [List.length_map, hl]
  have hlo : (ordF gs (revN n)).length = n := by rw [ordF_length, revN_length]
  -- the moved grains
  have hadd : ∀ k, k < n → ∃ s t, floatBits .add .f32 (gs.getD k default).ax fx = some s ∧ floatBits .add .f32 (gs.getD k default).ay fy = some t ∧ Exa Ieee.single (-2) s ((is.getD k default).x + a) ∧ Exa Ieee.single (-2) t ((is.getD k default).y + b) := fun k hk => by
    have q := hq k hk; have := q.bx; have := q.by_
    obtain ⟨s, e1, e2⟩ := add32 q.ax hx (by omega) (by omega) (by omega) (by omega)
    obtain ⟨t, e3, e4⟩ := add32 q.ay hy (by omega) (by omega) (by omega) (by omega)
    exact ⟨s, t, e1, e3, e2, e4⟩
  have hmv : ∀ k, k < n → ∃ s t, (gs.map (moveF fx fy)).getD k default = { gs.getD k default with ax := s, ay := t } ∧ Exa Ieee.single (-2) s ((is.getD k default).x + a) ∧ Exa Ieee.single (-2) t ((is.getD k default).y + b) := fun k hk => by
    obtain ⟨s, t, e1, e2, e3, e4⟩ := hadd k hk
    refine ⟨s, t, ?_, e3, e4⟩
    rw [getD_mapg _ k (by omega)]
    unfold moveF
    rw [e1, e2]; rfl
  have hback : ∀ k, k < n → ∃ s t, floatBits .add .f32 ((gs.map (moveF fx fy)).getD k default).ax (Op.negFloat .f32 fx) = some s ∧ floatBits .add .f32 ((gs.map (moveF fx fy)).getD k default).ay (Op.negFloat .f32 fy) = some t ∧ Exa Ieee.single (-2) s (is.getD k default).x ∧ Exa Ieee.single (-2) t (is.getD k default).y := fun k hk => by
    obtain ⟨s, t, e1, e2, e3⟩ := hmv k hk
    have q := hq k hk; have := q.bx; have := q.by_
    obtain ⟨s', g1, g2⟩ := add32 e2 nx (by omega) (by omega) (by omega) (by omega)
    obtain ⟨t', g3, g4⟩ := add32 e3 ny (by omega) (by omega) (by omega) (by omega)
    rw [e1]
    refine ⟨s', t', g1, g3, ?_, ?_⟩
    · rwa [show (is.getD k default).x + a + -a = (is.getD k default).x by omega] at g2
    · rwa [show (is.getD k default).y + b + -b = (is.getD k default).y by omega] at g4
  have hbk : ∀ k, k < n → ∃ s t, ((gs.map (moveF fx fy)).map (moveF (Op.negFloat .f32 fx) (Op.negFloat .f32 fy))).getD k default = { (gs.map (moveF fx fy)).getD k default with ax := s, ay := t } ∧ Exa Ieee.single (-2) s (is.getD k default).x ∧ Exa Ieee.single (-2) t (is.getD k default).y := fun k hk => by
    obtain ⟨s, t, e1, e2, e3, e4⟩ := hback k hk
    refine ⟨s, t, ?_, e3, e4⟩
    rw [getD_mapg _ k (by rw [hlv]; exact hk)]
    generalize (gs.map (moveF fx fy)).getD k default = g at e1 e2 ⊢
    unfold moveF
    rw [e1, e2]; rfl
  have vmv : ∀ k, k < n → ((gs.map (moveF fx fy)).getD k default).valid = true := fun k hk => by
    obtain ⟨s, t, e1, e2, e3⟩ := hmv k hk
    have q := hq k hk; have := q.bx; have := q.by_
    rw [e1]
    exact placed_valid q.valid (fin_exa e2 (by omega) (by omega) (by omega)) (fin_exa e3 (by omega) (by omega) (by omega))
  have vbk : ∀ k, k < n → (((gs.map (moveF fx fy)).map (moveF (Op.negFloat .f32 fx) (Op.negFloat .f32 fy))).getD k default).valid = true := fun k hk => by
    obtain ⟨s, t, e1, e2, e3⟩ := hbk k hk
    have q := hq k hk; have := q.bx; have := q.by_
    rw [e1]
    exact placed_valid (vmv k hk) (fin_exa e2 (by omega) (by omega) (by omega)) (fin_exa e3 (by omega) (by omega) (by omega))
  have htw : ∀ k, k < n → ((gs.map mirrorF).map mirrorF).getD k default = mirrorF (mirrorF (gs.getD k default)) := fun k hk => by
    rw [getD_mapg _ k (by rw [hlm]; exact hk), getD_mapg _ k (by omega)]
  have vg := h.valid
  refine ⟨hlm, by rw [List.length_map, hlm], hlv, by rw [List.length_map, hlv], by rw [List.length_append, hl]; rfl, hlo, vg, hm.valid, ht.valid, all_ofN hlv vmv, all_ofN (by rw [List.length_map, hlv]) vbk, ?_, ?_, by rw [← hl]; exact List.take_left, ordF_twice gs n hl, ?_, ?_, ?_, ?_, ?_, ?_, ?_, ?_, ?_, ?_, ?_, ?_, ?_, ?_, ?_⟩
  · rw [List.all_append, vg]
    simp only [List.all_cons, List.all_nil, Bool.and_true, Bool.true_and]
    exact (hq 0 (by omega)).valid
  · exact all_ofN hlo (fun k hk => by rw [ordF_rev _ hk]; exact (hq _ (by omega)).valid)
  · intro k hk
    obtain ⟨s, t, e1, e2, _⟩ := hadd k hk
    rw [e1, e2]; exact ⟨rfl, rfl⟩
  · intro k hk
    obtain ⟨s, t, e1, e2, _⟩ := hback k hk
    rw [e1, e2]; exact ⟨rfl, rfl⟩
  · rw [fin_exa hx (by omega) (by omega) (by omega), fin_exa hy (by omega) (by omega) (by omega)]; rfl
  · rw [fin_exa nx (by omega) (by omega) (by omega), fin_exa ny (by omega) (by omega) (by omega)]; rfl
  · intro g hg
    obtain ⟨k, hk, rfl⟩ := List.getElem_of_mem hg
    have := (hq k (by omega)).small'
    rwa [List.getD_eq_getElem?_getD, List.getElem?_eq_getElem hk, Option.getD_some] at this
  · intro k hk
    have q := hq k hk; have := q.bx
    rw [htw k hk]
    exact exa_same (negneg q.ax) q.ax (by omega) (by omega) (by omega)
  · intro k hk
    have q := hq k hk; have := q.by_
    rw [htw k hk]
    exact exa_same q.ay q.ay (by omega) (by omega) (by omega)
  · intro k hk
    have q := hq k hk; have := q.bs
    rw [htw k hk]
    exact exa_same (negneg q.s) q.s (by omega) (by omega) (by omega)
  · intro k hk
    obtain ⟨s, t, e1, e2, e3⟩ := hbk k hk
    have q := hq k hk; have := q.bx
    rw [e1]
    exact exa_same e2 q.ax (by omega) (by omega) (by omega)
  · intro k hk
    obtain ⟨s, t, e1, e2, e3⟩ := hbk k hk
    have q := hq k hk; have := q.by_
    rw [e1]
    exact exa_same e3 q.ay (by omega) (by omega) (by omega)
  · -- masses
    obtain ⟨S, s1, s2⟩ := mass_sum (gs := gs) (M := fun k => (is.getD k default).m) n hn (fun k hk => (hq k hk).b.m)
    obtain ⟨S', t1, t2⟩ := mass_sum (gs := ordF gs (revN n)) (M := fun k => (is.getD (n - 1 - k) default).m) n hn (fun k hk => by rw [ordF_rev _ hk]; exact (hq _ (by omega)).b.m)
    rw [sumH_rev n (fun k => (is.getD k default).m)] at t2
    exact ⟨S, S', s1, t1, s2.fin' (by decide) (by decide) (by decide), t2.fin' (by decide) (by decide) (by decide), exa_same s2.1 t2.1 (by decide) (by decide) (by have := s2.2; omega)⟩
  · -- momenta
    obtain ⟨P, Q, S, T, s1, s2, s3⟩ := momh_sum (gs := gs) (U := fun k => (is.getD k default).u) (V := fun k => (is.getD k default).v) (M := fun k => (is.getD k default).m) n hn (fun k hk => ⟨(hq k hk).b.sx, (hq k hk).b.sy, (hq k hk).b.m⟩)
    obtain ⟨P', Q', S', T', t1, t2, t3⟩ := momh_sum (gs := ordF gs (revN n)) (U := fun k => (is.getD (n - 1 - k) default).u) (V := fun k => (is.getD (n - 1 - k) default).v) (M := fun k => (is.getD (n - 1 - k) default).m) n hn (fun k hk => by rw [ordF_rev _ hk]; exact ⟨(hq _ (by omega)).b.sx, (hq _ (by omega)).b.sy, (hq _ (by omega)).b.m⟩)
    rw [sumH_rev n (fun k => (is.getD k default).u * (is.getD k default).m)] at t2
    rw [sumH_rev n (fun k => (is.getD k default).v * (is.getD k default).m)] at t3
    obtain ⟨z, z1, z2⟩ := exa_none s2.1 t2.1 (by decide) (by decide) (by have := s2.2; omega)
    obtain ⟨z', z3, z4⟩ := exa_none s3.1 t3.1 (by decide) (by decide) (by have := s3.2; omega)
    refine ⟨P, Q, S, T, P', Q', S', T', z, z', s1, t1, ?_, ?_, z1, z3, z2, z4⟩
    · rw [s2.fin' (by decide) (by decide) (by decide), s3.fin' (by decide) (by decide) (by decide)]; rfl
    · rw [t2.fin' (by decide) (by decide) (by decide), t3.fin' (by decide) (by decide) (by decide)]; rfl
  · -- centres
    obtain ⟨D, hD⟩ : ∃ D, D = 1061 := ⟨_, rfl⟩
    obtain ⟨E, hE⟩ : ∃ E, E = 136 := ⟨_, rfl⟩
    obtain ⟨P, Q, S, T, s1, s2, s3⟩ := ctr_sum (gs := gs) (X := fun k => (is.getD k default).x) (Y := fun k => (is.getD k default).y) (M := fun k => (is.getD k default).m) n hn (fun k hk => ⟨⟨(hq k hk).ax, by have := (hq k hk).bx; omega⟩, ⟨(hq k hk).ay, by have := (hq k hk).by_; omega⟩, (hq k hk).b.m⟩)
    obtain ⟨M, m1, m2⟩ := mass_sum (gs := gs) (M := fun k => (is.getD k default).m) n hn (fun k hk => (hq k hk).b.m)
    obtain ⟨P', Q', S', T', t1, t2, t3⟩ := ctr_sum (gs := gs.map (moveF fx fy)) (X := fun k => (is.getD k default).x + a) (Y := fun k => (is.getD k default).y + b) (M := fun k => (is.getD k default).m) n hn (fun k hk => by
      obtain ⟨s, t, e1, e2, e3⟩ := hmv k hk
      rw [e1]
      exact ⟨⟨e2, by have := (hq k hk).bx; omega⟩, ⟨e3, by have := (hq k hk).by_; omega⟩, (hq k hk).b.m⟩)
    obtain ⟨M', m3, m4⟩ := mass_sum (gs := gs.map (moveF fx fy)) (M := fun k => (is.getD k default).m) n hn (fun k hk => by
      obtain ⟨s, t, e1, e2, e3⟩ := hmv k hk
      rw [e1]
      exact (hq k hk).b.m)
    have hpos : 0 < sumH (fun k => (is.getD k default).m) n := by
      obtain ⟨n', rfl⟩ : ∃ n', n = n' + 1 := ⟨n - 1, by omega⟩
      have h1 := sumH_nonneg (fun k => (is.getD k default).m) n' (fun k hk => by have := (hq k (by omega)).bm; show 0 ≤ (is.getD k default).m; omega)
      have h2 := (hq n' (by omega)).bm
      show 0 < sumH (fun k => (is.getD k default).m) n' + (is.getD n' default).m
      omega
    have shift : ∀ (f : Nat → Int) (c : Int), sumH (fun k => (f k + c) * (is.getD k default).m) n = sumH (fun k => f k * (is.getD k default).m) n + c * sumH (fun k => (is.getD k default).m) n := by
      intro f c
      clear hpos
      generalize hN : n = N
      clear hN
      induction N with
      | zero => simp [sumH]
      | succ N ih =>
        show sumH (fun k => (f k + c) * (is.getD k default).m) N + (f N + c) * (is.getD N default).m = sumH (fun k => f k * (is.getD k default).m) N + f N * (is.getD N default).m + c * (sumH (fun k => (is.getD k default).m) N + (is.getD N default).m)
        rw [ih, Int.add_mul, Int.mul_add]; omega
    rw [shift (fun k => (is.getD k default).x) a] at t2
    rw [shift (fun k => (is.getD k default).y) b] at t3
    obtain ⟨R, I, q1, q2, q3⟩ := quo_btw (A := 0) s2 s3 m2 hpos D E hD hE rfl
    obtain ⟨R', I', q4, q5, q6⟩ := quo_btw (A := 0) t2 t3 m4 hpos D E hD hE rfl
    have bs2 := s2.2
    have bs3 := s3.2
    have cut : ∀ (z c m : Int), 0 < m → (z + c * m) * 2048 / m = z * 2048 / m + c * 2048 := by
      intro z c m h0
      rw [Int.add_mul, Int.mul_assoc c, Int.mul_comm m, ← Int.mul_assoc, Int.add_mul_ediv_right _ _ (by omega)]
    rw [cut _ _ _ hpos] at q5 q6
    generalize hX : sumH (fun k => (is.getD k default).x * (is.getD k default).m) n = zx at *
    generalize hY : sumH (fun k => (is.getD k default).y * (is.getD k default).m) n = zy at *
    generalize hMm : sumH (fun k => (is.getD k default).m) n = mm at *
    have dx : (zx * 2048 / mm).natAbs ≤ 7864320 := Nat.le_trans (Int.natAbs_ediv_le_natAbs _ _) (by omega)
    have dy : (zy * 2048 / mm).natAbs ≤ 7864320 := Nat.le_trans (Int.natAbs_ediv_le_natAbs _ _) (by omega)
    generalize zx * 2048 / mm = lx at *
    generalize zy * 2048 / mm = ly at *
    obtain ⟨i, i1, i2⟩ := btw_add E hE q2 (exa_btw E hE hx (by omega)) (by omega) (by omega) (by omega)
    obtain ⟨j, j1, j2⟩ := btw_add E hE q3 (exa_btw E hE hy (by omega)) (by omega) (by omega) (by omega)
    rw [show lx + 1 + a * 2048 = lx + a * 2048 + 1 by omega] at i2
    rw [show ly + 1 + b * 2048 = ly + b * 2048 + 1 by omega] at j2
    obtain ⟨x, x1, x2, x3⟩ := btw_diff E hE q5 i2
    obtain ⟨y, y1, y2, y3⟩ := btw_diff E hE q6 j2
    obtain ⟨p, q, s, v, w1, w2, w3⟩ := long_small x2 y2
    refine ⟨P, Q, S, T, M, R, I, P', Q', S', T', M', R', I', i, j, x, y, p, q, s, v, s1, m1, q1, ?_, t1, m3, q4, ?_, i1, j1, x1, y1, x3, y3, w1, w2, lt_milli w3⟩
    · rw [q2.fin, q3.fin]; rfl
    · rw [q5.fin, q6.fin]; rfl
  · -- turnings
    obtain ⟨P, S, s1, s2, s3⟩ := turn_sum h n hl hn
    obtain ⟨P', S', t1, t2, t3⟩ := turn_sum hm n hlm hn
    have e : sumH (fun k => turnI ((is.map mirI).getD k default)) n = -sumH (fun k => turnI (is.getD k default)) n := by
      rw [← sumH_neg]
      exact sumH_ext n (fun k hk => by rw [getD_mapg _ k (by rw [h.1, hl]; exact hk), turnI_mir])
    rw [e] at t3
    have w1 := wideB s3 (by decide) (by decide) (by decide)
    have w2 := exa_neg64 (wideB t3 (by decide) (by decide) (by decide))
    rw [Int.neg_neg] at w2
    obtain ⟨d, e', d1, d2, d3, d4⟩ := gap_none w1 w2 (by decide) (by decide) (by have := s3.2; omega)
    exact ⟨P, S, P', S', d, e', s1, s2, t1, t2, s3.fin' (by decide) (by decide) (by decide), t3.fin' (by decide) (by decide) (by decide), d1, d2, d3, d4⟩
  · -- energies
    obtain ⟨P, S, s1, s2, s3⟩ := energy_sum h n hl hn
    obtain ⟨P', S', t1, t2, t3⟩ := energy_sum hm n hlm hn
    have e : sumH (fun k => energyI ((is.map mirI).getD k default)) n = sumH (fun k => energyI (is.getD k default)) n :=
      sumH_ext n (fun k hk => by rw [getD_mapg _ k (by rw [h.1, hl]; exact hk), energyI_mir])
    rw [e] at t3
    have w1 := wideB s3 (by decide) (by decide) (by decide)
    have w2 := wideB t3 (by decide) (by decide) (by decide)
    obtain ⟨d, e', d1, d2, d3, d4⟩ := gap_none w1 w2 (by decide) (by decide) (by have := s3.2; omega)
    have h0 := sumH_nonneg (fun k => energyI (is.getD k default)) n (fun k hk => energyI_nonneg (hq k hk))
    refine ⟨P, S, P', S', d, e', s1, s2, t1, t2, s3.fin' (by decide) (by decide) (by decide), t3.fin' (by decide) (by decide) (by decide), d1, d2, d3, d4, ?_⟩
    rw [order32 s3.1 (exa_zero _ _) (by decide) (by decide) (by have := s3.2; omega) (by decide)]
    generalize sumH (fun k => energyI (is.getD k default)) n = z at h0
    rcases Int.lt_or_eq_of_le h0 with h1 | h1
    · simp only [compare, compareOfLessAndEq, if_neg (show ¬ z < 0 by omega), if_neg (show ¬ z = 0 by omega)]; rfl
    · rw [← h1]; rfl
end Go.Proofs.Ytbggklhnnjikjaa
