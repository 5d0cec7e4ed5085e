/- The program's numbered parts: the closure that calls itself. -/
import Derived.Test.YtkgijboahjiodaaVob
namespace Go.Proofs.Ytkgijboahjiodaa
open Go.RowKit Fl

/-- all but block R is kept; new memory may come -/
abbrev But (R : Nat) (w w' : World) : Prop := w.grownBy w' (some R)
theorem But.refl (R : Nat) (w : World) : But R w w := ⟨rfl, rfl, rfl, Nat.le_refl _, fun _ _ _ => rfl⟩
theorem But.trans {R : Nat} {a b c : World} (h : But R a b) (k : But R b c) : But R a c :=
  ⟨k.os.trans h.os, k.tape.trans h.tape, k.output.trans h.output, Nat.le_trans h.size k.size, fun i hi hr => (k.block i (Nat.lt_of_lt_of_le hi h.size) hr).trans (h.block i hi hr)⟩
theorem But.of_below {R : Nat} {w w' : World} (h : Below w.heap.size w w') : But R w w' := ⟨h.os, h.tape, h.output, h.size, fun i hi _ => h.block i hi⟩
theorem But.setCell {R : Nat} {a w : World} (h : But R a w) (k : Nat) (u : Value) : But R a (w.setCell ⟨R, k, none⟩ u) :=
  h.trans (b := w) ⟨rfl, rfl, rfl, by simp [World.setCell], fun i _ hr => Below.heap_setCell w ⟨R, k, none⟩ u i (fun e => hr (by rw [e]))⟩
theorem But.below {R B : Nat} {a w w' : World} (h : But R w w') (hb : Below B a w) (hB : B ≤ w.heap.size) (hR : B ≤ R) : Below B a w' :=
  hb.grown h hB (fun k hk => by injection hk with hk; omega)
theorem But.blk {R g : Nat} {t : TypeId} {cs : Array Value} {w w' : World} (h : But R w w') (hb : Blk w g t cs) (hg : g ≠ R) : Blk w' g t cs := hb.grown h (fun e => hg (by injection e))
theorem But.own {R base e size n : Nat} {v : Value} {xs : List Value} {w w' : World} (h : But R w w') (hb : w.ownsRow base e size v n xs) (hR : R < base) : w'.ownsRow base e size v n xs :=
  hb.kept h (.inr (fun he => by have := (hb.lt R he).1; omega))
/-- the blocks of a call of numberParts: the boxes of both functions, what is found, the list's variable, the closure's, the list's row -/
structure RInv (V W : World) (fI fB : Value) (n m P Q R : Nat) (p : Nat → Int) : Prop where
  b : Below V.heap.size V W
  i : Blk W V.heap.size 105 #[fI]
  s : Blk W (V.heap.size + 1) 88 #[fB]
  f : Blk W (V.heap.size + 1 + 1) 2 #[.int .i64 m]
  pv : Blk W P 45 #[.slice (some ⟨R, 0, none⟩) n n]
  qv : Blk W Q 134 #[.func (.func 89) #[] #[.pointer (some ⟨P, 0, none⟩), .pointer (some ⟨V.heap.size, 0, none⟩), .pointer (some ⟨V.heap.size + 1 + 1, 0, none⟩), .pointer (some ⟨V.heap.size + 1, 0, none⟩), .pointer (some ⟨Q, 0, none⟩)]]
  o : W.ownsRow V.heap.size 2 1 (.slice (some ⟨R, 0, none⟩) n n) n (vm p n)
  r : V.heap.size + 3 ≤ R ∧ P ≠ R ∧ Q ≠ R ∧ V.heap.size ≤ W.heap.size
theorem RInv.but {V W W' : World} {fI fB : Value} {n m P Q R : Nat} {p q : Nat → Int} (h : RInv V W fI fB n m P Q R p) (hb : But R W W') (ho : W'.ownsRow V.heap.size 2 1 (.slice (some ⟨R, 0, none⟩) n n) n (vm q n)) : RInv V W' fI fB n m P Q R q := by
  obtain ⟨r1, r2, r3, r4⟩ := h.r
  exact ⟨hb.below h.b r4 (by omega), hb.blk h.i (by omega), hb.blk h.s (by omega), hb.blk h.f (by omega), hb.blk h.pv r2, hb.blk h.qv r3, ho, r1, r2, r3, Nat.le_trans r4 hb.size⟩
theorem RInv.next {V W W' : World} {fI fB : Value} {n m P Q R : Nat} {p : Nat → Int} (h : RInv V W fI fB n m P Q R p) (hb : Below W.heap.size W W') : RInv V W' fI fB n m P Q R p :=
  h.but (.of_below hb) (own_below h.o hb (Nat.le_refl _))
/-- a bound on what is unmarked -/
def Left (n : Nat) (isIn : Nat → Bool) (p : Nat → Int) (N : Nat) : Prop := ∃ S : List Nat, (∀ j, White n isIn p j → j ∈ S) ∧ S.length ≤ N
theorem Left.none {n : Nat} {isIn : Nat → Bool} {p : Nat → Int} {k : Nat} (h : Left n isIn p 0) : ¬White n isIn p k := fun hw => by
  obtain ⟨S, h1, h2⟩ := h
  have := h1 k hw
  cases S with
  | nil => cases this
  | cons _ _ => simp at h2
theorem Left.mark {n : Nat} {isIn : Nat → Bool} {p q : Nat → Int} {k N : Nat} {c : Int} (h : Left n isIn p (N + 1)) (hc : 0 ≤ c) (hw : White n isIn p k) (hl : Lab p (fun j => j = k) c q) : Left n isIn q N := by
  obtain ⟨S, h1, h2⟩ := h
  refine ⟨S.erase k, fun j hj => ?_, ?_⟩
  · obtain ⟨h3, h4⟩ := (white_lab hc hl j).1 hj
    exact (List.mem_erase_of_ne h4).2 (h1 j h3)
  · rw [List.length_erase_of_mem (h1 k hw)]; omega
theorem Left.lab {n : Nat} {isIn : Nat → Bool} {p q : Nat → Int} {N : Nat} {c : Int} {R : Nat → Prop} (h : Left n isIn p N) (hc : 0 ≤ c) (hl : Lab p R c q) : Left n isIn q N := by
  obtain ⟨S, h1, h2⟩ := h
  exact ⟨S, fun j hj => h1 j ((white_lab hc hl j).1 hj).1, h2⟩
theorem Left.all (n : Nat) (isIn : Nat → Bool) (p : Nat → Int) : Left n isIn p n := ⟨List.range n, fun j hj => List.mem_range.2 hj.1, by simp⟩
/-- the form of a row of the call's own, told by its length -/
theorem row_form {w : World} {base e size n : Nat} {v : Value} {xs : List Value} (h : w.ownsRow base e size v n xs) : ∃ ao cap, v = .slice ao n cap := by
  rcases h.2 with ⟨rfl, rfl⟩ | ⟨g, cap, cur, hv, _⟩
  · exact ⟨none, 0, rfl⟩
  · exact ⟨_, cap, hv⟩
set_option maxRecDepth 100000 in
theorem isLess_of (W H : Int) (b n c vb lb k : Nat) (zs : List Nat) (lv : Nat) (w : World) (hr : FRow w (some ⟨b, 0, none⟩) n zs) (hv : Blk w vb 55 #[.int .i64 W, .int .i64 H, .slice (some ⟨b, 0, none⟩) n c]) (hl : Blk w lb 29 #[.float .f32 lv]) (hk : k < n) :
    Calls Try.prog 61 #[.int .i64 k, .pointer (some ⟨vb, 0, none⟩), .pointer (some ⟨lb, 0, none⟩)] w fun e w' => e = .returned (.bool (voidIn zs lv k)) ∧ Quiet w w' := by
  have a2 := hv.cell 2
  have l0 := hl.cell 0
  have hx := hr.cell _ rfl k hk
  have e1 : (⟨b, 0, none⟩ : Addr).add k = ⟨b, k, none⟩ := by unfold Addr.add; split <;> simp_all
  rw [e1] at hx
  have he : (FloatKind.f32.format.order (zs.getD k 0) lv == some .lt) = voidIn zs lv k := rfl
  clear e1 hr hv hl
  generalize voidIn zs lv k = r at he ⊢
  generalize zs.getD k 0 = z at hx he
  have HE := Lib.hid he
  clear he
  go_enter Try.func61, Try.ntmps61
  go_wp2_with fail
  go_quiet (fail)
  go_wp2_with fail
  go_ret
  exact ⟨congrArg (fun b => Ending.returned (.bool b)) HE.out, _, rfl⟩
end Go.Proofs.Ytkgijboahjiodaa
