/- Heaps with or without grains: valid ones; which grains are beyond a wall. -/
import Derived.Test.YtmkpkkaedhekdaaRp
import Derived.Test.YtmkpkkaedhekdaaSd
import Derived.Test.YtmkpkkaedhekdaaIdx
namespace Go.Proofs.Ytmkpkkaedhekdaa
open Go.RowKit Fl

/-- a slice of grains that reads as gs -/
def HRow (w : World) (ao : Option Addr) (n : Nat) (gs : List Gr) : Prop := gs.length = n ∧ (0 < n → ∃ b, ao = some ⟨b, 0, none⟩ ∧ GrRow w b gs)
theorem HRow.below {w w' : World} {ao : Option Addr} {n : Nat} {gs : List Gr} (h : HRow w ao n gs) {B : Nat} (hb : Below B w w') (hB : w.heap.size ≤ B) : HRow w' ao n gs :=
  ⟨h.1, fun hn => by obtain ⟨b, hb1, hb2⟩ := h.2 hn; exact ⟨b, hb1, hb2.below hb hB⟩⟩
theorem HRow.next {w w' : World} {ao : Option Addr} {n : Nat} {gs : List Gr} (h : HRow w ao n gs) (hb : Below w.heap.size w w') : HRow w' ao n gs := h.below hb (Nat.le_refl _)
theorem HRow.of_own {w : World} {base n c : Nat} {ao : Option Addr} {gs : List Gr} (h : w.ownsRow base 57 7 (.slice ao n c) n (gcells gs)) (hl : gs.length = n) : HRow w ao n gs := by
  refine ⟨hl, fun hn => ?_⟩
  obtain ⟨b, cap, hv, _, _⟩ := own_form h hn
  have : ao = some ⟨b, 0, none⟩ ∧ c = cap := by simpa using hv
  obtain ⟨rfl, rfl⟩ := this
  exact ⟨b, rfl, row_of_own h hl⟩
set_option maxHeartbeats 1600000 in
theorem validHeap_row (ao : Option Addr) (n c : Nat) (gs : List Gr) (w : World) (h : HRow w ao n gs) (hn : n ≤ 24) :
    Calls Try.prog 32 #[.agg #[.slice ao n c]] w fun e w' => e = .returned (.bool (gs.all Gr.valid)) ∧ Below w.heap.size w w' := by
  by_cases h0 : 0 < n
  · obtain ⟨b, rfl, hr⟩ := h.2 h0
    exact validHeap_any b n c gs w h.1 hr hn
  · have hn0 : n = 0 := by omega
    subst hn0
    have hg : gs = [] := List.eq_nil_of_length_eq_zero h.1
    subst hg
    clear h h0 hn
    have hbel := (Below.refl w.heap.size w).alloc (Nat.le_refl _) (.cells #[.slice ao 0 c] 26)
    have HBel := Lib.hid hbel
    clear hbel
    go_enter Try.func32, Try.ntmps32
    go_wp2
    refine wp_loop_rounds 1 ?_
    rw [rounds_succ]
    go_wp2
    go_ret
    exact ⟨rfl, HBel.out⟩
/-- is a grain beyond the wall? -/
def beyB (fx fy tx ty : Nat) (g : Gr) : Bool := match sideO fx fy tx ty g.ax g.ay with
  | some r => FloatKind.f32.format.order r 0 == some .lt
  | none => false
/-- the sides of all grains are told -/
def Sides (fx fy tx ty : Nat) (gs : List Gr) : Prop := ∀ k, k < gs.length → ∃ r, sideO fx fy tx ty (gs.getD k default).ax (gs.getD k default).ay = some r ∧ fin32 r = true
def ints (zs : List Nat) : List Value := zs.map fun (i : Nat) => Value.int .i64 (i : Int)
theorem iinfo : (Try.prog.info? 2).map (fun i => (i.zero, i.size, i.bytes)) = some (some (.int .i64 0), 1, 8) := by kernel_rfl
theorem int_new (w : World) (t : TypeId) (z : Value) (q : Nat) (hq : w.heap.size = q) : ∀ j u, [z][j]? = some u → (w.alloc (.cells #[z] t)).cell? ((⟨q, 0, none⟩ : Addr).add j) = some u := by
  subst hq; exact (World.ownsRow_lit (base := 0) (e := t) (size := 1) w #[z] 1 (Nat.zero_le _) (by decide) rfl).cells rfl
theorem ints_snoc (zs : List Nat) (k : Nat) : ints (zs ++ [k]) = ints zs ++ [.int .i64 (k : Int)] := by simp [ints]
theorem blk_app {w3 w5 : World} {g : Nat} {o : Obj} {t e : TypeId} {cs : Array Value} {v : Value} {base size n : Nat} {xs : List Value} (h : Blk w3 g t cs) (hO : w3.ownsRow base e size v n xs) (hne : e ≠ t) (hg : (w3.alloc o).grownBy w5 v.ownBlock) : Blk w5 g t cs :=
  (h.alloc o).grown hg (own_blk_ne (hO.alloc o) (h.alloc o) hne)
theorem below_app {w w3 w5 : World} {o : Obj} {e : TypeId} {v : Value} {size n : Nat} {xs : List Value} (h : Below w.heap.size w w3) (hO : w3.ownsRow w.heap.size e size v n xs) (hg : (w3.alloc o).grownBy w5 v.ownBlock) : Below w.heap.size w w5 :=
  (h.alloc h.size o).grown hg (by have := h.size; simp; omega) (fun k hk => (hO.lt k hk).1)
theorem neIG : 2 ≠ 57 := by decide
/-- a list of indices in memory of the call's own -/
def GaveIdx (w : World) (zs : List Nat) (e : Ending) (w' : World) : Prop := ∃ v, e = .returned (.tuple #[v, .bool true]) ∧ w'.ownsRow w.heap.size 2 1 v zs.length (ints zs) ∧ Below w.heap.size w w'
theorem Gr.valid_at {g : Gr} (h : g.valid = true) : (fin32 g.ax && fin32 g.ay) = true := by
  rw [g.valid_eq] at h
  simp only [Bool.and_eq_true] at h ⊢
  exact h.1
theorem valid_get {gs : List Gr} (h : gs.all Gr.valid = true) {k : Nat} (hk : k < gs.length) : (gs.getD k default).valid = true := by
  rw [List.all_eq_true] at h
  rw [List.getD_eq_getElem?_getD, List.getElem?_eq_getElem hk]
  exact h _ (List.getElem_mem _)
end Go.Proofs.Ytmkpkkaedhekdaa
