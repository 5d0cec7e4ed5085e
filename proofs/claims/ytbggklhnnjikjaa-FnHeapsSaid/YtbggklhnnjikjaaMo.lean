/- MomentumOf on the program's side. -/
import Derived.Test.YtbggklhnnjikjaaFh
namespace Go.Proofs.Ytbggklhnnjikjaa
open Go.RowKit Fl

set_option maxRecDepth 100000 in
theorem momOne_of (g : Gr) (p q : Nat) (w : World) (h1 : floatBits .mul .f32 g.sx g.m = some p) (h2 : floatBits .mul .f32 g.sy g.m = some q) :
    Calls Try.prog 64 #[g.val] w fun e w' => e = .returned (.complex .f32 p q) ∧ Below w.heap.size w w' := by
  obtain ⟨ax, ay, sx, sy, r, m, t, s, hh⟩ := g
  have HP := Lib.hid fun w => scale_of sx sy m p q h1 h2 w
  have hsf := run_store_float' Try.prog
  have hsc := run_store_complex Try.prog
  clear h1 h2
  unfold Gr.val
  dsimp only
  go_enter Try.func64, Try.ntmps64
  go_wp2_with (go_at_call 65; (with_reducible refine (HP.out _).mono ?_); rintro e w' ⟨rfl, rfl⟩)
  go_ret
  exact ⟨rfl, (Below.refl _ _).alloc (Nat.le_refl _) _⟩
/-- what is summed up: the parts' words, and the sums' -/
structure SumW (gs : List Gr) (n : Nat) (P Q S T : Nat → Nat) : Prop where
  s0 : S 0 = 0
  t0 : T 0 = 0
  p : ∀ k, k < n → floatBits .mul .f32 (gs.getD k default).sx (gs.getD k default).m = some (P k)
  q : ∀ k, k < n → floatBits .mul .f32 (gs.getD k default).sy (gs.getD k default).m = some (Q k)
  s : ∀ k, k < n → floatBits .add .f32 (S k) (P k) = some (S (k + 1))
  t : ∀ k, k < n → floatBits .add .f32 (T k) (Q k) = some (T (k + 1))
set_option maxRecDepth 100000 in
set_option maxHeartbeats 3200000 in
theorem sumOver_mom (b n c : Nat) (gs : List Gr) (P Q S T : Nat → Nat) (w : World) (hl : gs.length = n) (hr : GrRow w b gs) (hn : n ≤ 24) (hw : SumW gs n P Q S T) :
    Calls Try.prog 63 #[.slice (some ⟨b, 0, none⟩) n c, .func (.func 64) #[] #[]] w fun e w' => e = .returned (.complex .f32 (S n) (T n)) ∧ Below w.heap.size w w' := by
  have HL := Lib.hid hl
  have HR := Lib.hid hr
  have HW := Lib.hid hw
  clear hl hr hw
  go_enter Try.func63, Try.ntmps63
  have hs0 := HW.out.s0
  have ht0 := HW.out.t0
  have HS0 := Lib.hid hs0
  have HT0 := Lib.hid ht0
  clear hs0 ht0
  go_wp2
  go_loopw [5, 10] (fun a i wr => ∃ (W : World) (k : Nat), W = wr ∧ k ≤ n ∧ i = .int .i64 k ∧ a = .complex .f32 (S k) (T k) ∧ Below w.heap.size w wr) (fun _ i _ => n - (intOf i).toNat)
  case atStart => exact ⟨_, 0, rfl, Nat.zero_le _, rfl, by rw [HS0.out, HT0.out], Below.refl _ _⟩
  case round =>
    obtain ⟨W, k, rfl, hk, rfl, rfl, hb⟩ := hrel
    have L := Lib.hid hb
    have hl0 := hb.size
    by_cases hlt : k < n
    · have hkl : k < gs.length := by rw [HL.out]; exact hlt
      obtain ⟨h0, h1', h2, h3, h4, h5, h6⟩ := (HR.out.below hb (Nat.le_refl _)) k hkl
      have HC := Lib.hid fun W' => momOne_of (gs.getD k default) (P k) (Q k) W' (HW.out.p k hlt) (HW.out.q k hlt)
      have ha := fun w => run_csum (P := Try.prog) .add (Or.inl rfl) 31 (S k) (T k) (P k) (Q k) (S (k + 1)) (T (k + 1)) (HW.out.s k hlt) (HW.out.t k hlt) w
      generalize gs.getD k default = g at h0 h1' h2 h3 h4 h5 h6 HC
      unfold Gr.val at HC
      have HL3 := Lib.hid (hb.alloc hl0 (.cells #[.complex .f32 g.ax g.ay, .complex .f32 g.sx g.sy, .float .f32 g.r, .float .f32 g.m, .float .f32 g.t, .float .f32 g.s, .bool g.h] 37))
      have hsf := run_store_float' Try.prog
      have hsc := run_store_complex Try.prog
      clear hkl hb
      go_wp2_with fail
      refine (HC.out _).mono ?_
      rintro e w4 ⟨rfl, hb⟩
      have L4 := Lib.hid (below_next HL3.out hb)
      clear hb h0 h1' h2 h3 h4 h5 h6
      go_wp2
      go_roundw
      case rel => exact ⟨_, k + 1, rfl, by omega, by go_num, rfl, L4.out⟩
      case measure => simp [intOf]; omega
    · have hk2 : k = n := by omega
      subst hk2
      clear hb
      go_wp2
      go_ret
      exact ⟨rfl, L.out⟩
theorem finiteComplex_yes (a b : Nat) (h : (fin32 a && fin32 b) = true) (w : World) :
    Calls Try.prog 62 #[.complex .f32 a b] w fun e w' => e = .returned (.tuple #[.complex .f32 a b, .bool true]) ∧ Quiet w w' := by
  have HF := Lib.hid fun w => (show Calls Try.prog 52 #[.complex .f32 a b] w fun e w' => e = .returned (.bool true) ∧ Quiet w w' by rw [← h]; exact isFiniteComplex_any a b w)
  clear h
  go_enter Try.func62, Try.ntmps62
  go_wp2_with (go_at_call 52; (with_reducible refine (HF.out _).mono ?_); rintro e w4 ⟨rfl, n4, rfl⟩)
  go_ret2
  exact ⟨rfl, n4, rfl⟩
set_option maxRecDepth 100000 in
set_option maxHeartbeats 3200000 in
theorem momentumOf_of (b n c : Nat) (gs : List Gr) (P Q S T : Nat → Nat) (w : World) (hl : gs.length = n) (hr : GrRow w b gs) (hn : n ≤ 24) (hv : gs.all Gr.valid = true) (hw : SumW gs n P Q S T) (hf : (fin32 (S n) && fin32 (T n)) = true) :
    Calls Try.prog 20 #[.agg #[.slice (some ⟨b, 0, none⟩) n c]] w fun e w' => e = .returned (.tuple #[.complex .f32 (S n) (T n), .bool true]) ∧ Below w.heap.size w w' := by
  have hVH := fun w (h : GrRow w b gs) => validHeap_any b n c gs w hl h hn
  rw [hv] at hVH
  have HVH := Lib.hid hVH
  have HSu := Lib.hid fun w (h : GrRow w b gs) => sumOver_mom b n c gs P Q S T w hl h hn hw
  have HFi := Lib.hid fun w => finiteComplex_yes (S n) (T n) hf w
  have hbel := (Below.refl w.heap.size w).alloc (Nat.le_refl _) (.cells #[.slice (some ⟨b, 0, none⟩) n c] 26)
  have hB0 : Blk (w.alloc (.cells #[.slice (some ⟨b, 0, none⟩) n c] 26)) w.heap.size 26 _ := blk_new w _ _ _ rfl
  have HR0 := Lib.hid (hr.below hbel (Nat.le_refl _))
  have HBel := Lib.hid hbel
  have HB0 := Lib.hid hB0
  generalize S n = s at HSu HFi ⊢
  generalize T n = t at HSu HFi ⊢
  clear hVH hl hr hv hw hf hbel hB0
  go_enter Try.func20, Try.ntmps20
  go_wp2_with fail
  refine (HVH.out _ HR0.out).mono ?_
  rintro e w1 ⟨rfl, hb⟩
  have L1 := Lib.hid (below_next HBel.out hb)
  have R1 := Lib.hid (HR0.out.below hb (Nat.le_refl _))
  have a0 := (blk_next HB0.out hb).cell 0
  clear hb
  go_wp2_with fail
  refine (HSu.out _ R1.out).mono ?_
  rintro e w2 ⟨rfl, hb⟩
  have L2 := Lib.hid (below_next L1.out hb)
  clear hb
  go_wp2_with (go_at_call 62; (with_reducible refine (HFi.out _).mono ?_); rintro e w4 ⟨rfl, n4, rfl⟩)
  go_ret2
  exact ⟨rfl, below_drewN L2.out _⟩
end Go.Proofs.Ytbggklhnnjikjaa
