/- The law FnFlown: what its walk keeps, and the contracts of what it calls. -/
import Derived.Test.YtklceohoghjhdaaFg
import Derived.Test.YtklceohoghjhdaaPs
import Derived.Test.YtklceohoghjhdaaLz
import Derived.Test.YtklceohoghjhdaaR8
import Derived.Test.YtklceohoghjhdaaGp
import Derived.Test.YtklceohoghjhdaaObr
namespace Go.Proofs.Ytklceohoghjhdaa
open Go.RowKit Fl

/-- a variable that holds a heap of three grains -/
structure HV (W : World) (B b c : Nat) (gs : List Gr) : Prop where
  d : Blk W B 26 #[.slice (some ⟨b, 0, none⟩) 3 c]
  r : GrRow W b gs
theorem HV.next {W W' : World} {B b c : Nat} {gs : List Gr} (h : HV W B b c gs) (hb : Below W.heap.size W W') : HV W' B b c gs := ⟨blk_next h.d hb, h.r.below hb (Nat.le_refl _)⟩
theorem HV.alloc {W : World} {B b c : Nat} {gs : List Gr} (h : HV W B b c gs) (o : Obj) : HV (W.alloc o) B b c gs := ⟨h.d.alloc o, h.r.alloc o⟩
theorem HV.drewN {W : World} {B b c : Nat} {gs : List Gr} (h : HV W B b c gs) (m : Nat) : HV (W.drewN m) B b c gs := ⟨h.d, h.r.quiet ⟨m, rfl⟩⟩
/-- the cells of a grain -/
theorem HV.at_ {W : World} {B b c : Nat} {gs : List Gr} (h : HV W B b c gs) (k : Nat) (hk : k < gs.length) : ∃ g, gs.getD k default = g ∧ W.cell? ⟨b, k * 7, none⟩ = some (.complex .f32 g.ax g.ay) ∧ W.cell? ⟨b, k * 7 + 1, none⟩ = some (.complex .f32 g.sx g.sy) ∧ W.cell? ⟨b, k * 7 + 2, none⟩ = some (.float .f32 g.r) ∧ W.cell? ⟨b, k * 7 + 3, none⟩ = some (.float .f32 g.m) ∧ W.cell? ⟨b, k * 7 + 4, none⟩ = some (.float .f32 g.t) := by
  obtain ⟨h0, h1, h2, h3, h4, _, _⟩ := h.r k hk
  exact ⟨_, rfl, h0, h1, h2, h3, h4⟩
theorem neq_same {a b c d : Nat} (h1 : FloatKind.f32.format.order a c = some .eq) (h2 : FloatKind.f32.format.order b d = some .eq) (P : Program) (t : TypeId) (w : World) : (binOp .neq t (.complex .f32 a b) (.complex .f32 c d)).run P w = .ok (.bool false) w := by
  rw [run_neq_complex, h1, h2]; rfl
theorem MinW.no {n : Nat} {A : Nat → Nat} (h : MinW n A) (k : Nat) (hk : k < n) : (FloatKind.f32.format.order (A k) (minsW A (n - 1)) == some .lt) = false := by
  rcases h.l k hk with e | e <;> rw [e] <;> rfl
theorem MaxW.no {n : Nat} {A : Nat → Nat} (h : MaxW n A) (k : Nat) (hk : k < n) : (FloatKind.f32.format.order (A k) (maxsW A (n - 1)) == some .gt) = false := by
  rcases h.l k hk with e | e <;> rw [e] <;> rfl
structure Keep (w W : World) (hv : List (Nat × Nat × Nat × List Gr)) : Prop where
  l : Below w.heap.size w W
  v : ∀ x ∈ hv, HV W x.1 x.2.1 x.2.2.1 x.2.2.2
theorem Keep.nil {w W : World} (h : Below w.heap.size w W) : Keep w W [] := ⟨h, fun x hx => by cases hx⟩
theorem Keep.next {w W W' : World} {hv : List (Nat × Nat × Nat × List Gr)} (h : Keep w W hv) (hb : Below W.heap.size W W') : Keep w W' hv := ⟨below_next h.l hb, fun x hx => (h.v x hx).next hb⟩
theorem Keep.drewN {w W : World} {hv : List (Nat × Nat × Nat × List Gr)} (h : Keep w W hv) (m : Nat) : Keep w (W.drewN m) hv := ⟨below_drewN h.l m, fun x hx => (h.v x hx).drewN m⟩
theorem Keep.push {w W : World} {hv : List (Nat × Nat × Nat × List Gr)} (h : Keep w W hv) (b c : Nat) (gs : List Gr) (hr : GrRow W b gs) : Keep w (W.alloc (.cells #[.slice (some ⟨b, 0, none⟩) 3 c] 26)) ((W.heap.size, b, c, gs) :: hv) :=
  ⟨h.l.alloc h.l.size _, fun x hx => by
    rcases List.mem_cons.1 hx with rfl | hx
    · exact ⟨blk_new W _ _ _ rfl, hr.alloc _⟩
    · exact (h.v x hx).alloc _⟩
/-- a heap of three grains is given -/
def Gave3 (w : World) (gs : List Gr) (e : Ending) (w' : World) : Prop := ∃ b c, e = .returned (.tuple #[.agg #[.slice (some ⟨b, 0, none⟩) 3 c], .bool true]) ∧ GrRow w' b gs ∧ Below w.heap.size w w'
theorem gave3 {w : World} {gs : List Gr} (hl : gs.length = 3) (e : Ending) (w' : World) (h : GaveHeap w gs e w') : Gave3 w gs e w' := by
  unfold GaveHeap at h
  rw [hl] at h
  obtain ⟨b, c, h1, h2, h3⟩ := h
  exact ⟨b, c, h1, row_of_own h2 hl, h3⟩
theorem finHalf : fin32 1056964608 = true := by decide +kernel
theorem finBack : fin32 3204448256 = true := by decide +kernel
theorem finZero : (fin32 0 && fin32 0) = true := by decide +kernel
/-- the contracts of all calls that make heaps -/
structure FlownC (fx fy : Nat) (gs hs fl fr bk ps : List Gr) : Prop where
  hold : ∀ (W : World) (b c : Nat), GrRow W b gs → Calls Try.prog 24 #[.agg #[.slice (some ⟨b, 0, none⟩) 3 c], .int .i64 1, .bool true] W (Gave3 W hs)
  fly : ∀ (W : World) (b c : Nat), GrRow W b hs → Calls Try.prog 25 #[.agg #[.slice (some ⟨b, 0, none⟩) 3 c], .complex .f32 fx fy, .float .f32 1056964608] W (Gave3 W fl)
  free : ∀ (W : World) (b c : Nat), GrRow W b gs → Calls Try.prog 25 #[.agg #[.slice (some ⟨b, 0, none⟩) 3 c], .complex .f32 0 0, .float .f32 1056964608] W (Gave3 W fr)
  back : ∀ (W : World) (b c : Nat), GrRow W b fr → Calls Try.prog 25 #[.agg #[.slice (some ⟨b, 0, none⟩) 3 c], .complex .f32 0 0, .float .f32 3204448256] W (Gave3 W bk)
  push : ∀ (W : World) (b c : Nat), GrRow W b hs → Calls Try.prog 26 #[.agg #[.slice (some ⟨b, 0, none⟩) 3 c], .complex .f32 fx fy] W (Gave3 W ps)
theorem flownC_of {fx fy : Nat} {gs : List Gr} {is : List GrI} {a b : Int} (hl : gs.length = 3) (h : GrsQ gs is) (hf : ∀ g ∈ gs, g.h = false) (hx : Exa Ieee.single (-2) fx a) (hy : Exa Ieee.single (-2) fy b) (ha : -16 ≤ a ∧ a ≤ 16) (hb : -16 ≤ b ∧ b ≤ 16) :
    ∃ hs fl fr bk ps, FlownF fx fy gs hs fl fr bk ps ∧ FlownC fx fy gs hs fl fr bk ps := by
  obtain ⟨g1, hg1⟩ : ∃ g1, gs.getD 1 default = g1 := ⟨_, rfl⟩
  have F := flownF_of g1 hg1 hl h hf hx hy ha hb
  have hfin : (fin32 fx && fin32 fy) = true := by
    rw [fin_exa hx (by omega) (by omega) (by omega), fin_exa hy (by omega) (by omega) (by omega)]; rfl
  refine ⟨_, _, _, _, _, F, ⟨fun W b c hr => ?_, fun W b c hr => ?_, fun W b c hr => ?_, fun W b c hr => ?_, fun W b c hr => ?_⟩⟩
  · exact (holdGrain_of b 3 c 1 true g1 gs W hl hr (by omega) (by omega) F.vg hg1 F.vh).mono (gave3 F.lh)
  · exact (flyHeap_of b 3 c fx fy 1056964608 _ W hfin finHalf F.lh hr (by omega) (by omega) F.vh F.vfl F.haP).mono (gave3 F.lfl)
  · exact (flyHeap_of b 3 c 0 0 1056964608 _ W finZero finHalf hl hr (by omega) (by omega) F.vg F.vfr F.haF).mono (gave3 F.lfr)
  · exact (flyHeap_of b 3 c 0 0 3204448256 _ W finZero finBack F.lfr hr (by omega) (by omega) F.vfr F.vbk F.haB).mono (gave3 F.lbk)
  · exact (pushHeap_of b 3 c fx fy _ W hfin F.lh hr (by omega) (by omega) F.vh F.vps F.isP).mono (gave3 F.lps)
end Go.Proofs.Ytklceohoghjhdaa
