/- Grains with few links. -/
import Derived.Test.YtmkpkkaedhekdaaGrw
import Derived.Test.YtmkpkkaedhekdaaVo
import Derived.Lib.Hide
import Derived.OneCell
import Derived.Handy
import Derived.WalkSmall
import Derived.Test.YtmkpkkaedhekdaaJa
import Derived.Deep.Cut
import Derived.Lib.AppendZeros
namespace Go.Proofs.Ytmkpkkaedhekdaa
open Go.RowKit Fl

def vi (zs : List Nat) : List Value := zs.map fun (i : Nat) => Value.int .i64 (i : Int)
theorem vi_snoc (zs : List Nat) (k : Nat) : vi (zs ++ [k]) = vi zs ++ [.int .i64 (k : Int)] := by simp [vi]
theorem vi_at {zs : List Nat} {k : Nat} (h : k < zs.length) : (vi zs)[k]? = some (.int .i64 ((zs.getD k 0 : Nat) : Int)) := by simp [vi, List.getD, List.getElem?_eq_getElem h]
theorem vi_info : (Try.prog.info? 2).map (fun i => (i.zero, i.size, i.bytes)) = some (some (.int .i64 0), 1, 8) := by kernel_rfl
theorem vi_new (w : World) (t : TypeId) (z : Value) (q : Nat) (hq : w.heap.size = q) : ∀ j u, [z][j]? = some u → (w.alloc (.cells #[z] t)).cell? ((⟨q, 0, none⟩ : Addr).add j) = some u := by
  subst hq; exact (World.ownsRow_lit (base := 0) (e := t) (size := 1) w #[z] 1 (Nat.zero_le _) (by decide) rfl).cells rfl
theorem vi_form {w : World} {base e size n : Nat} {v : Value} {xs : List Value} (h : w.ownsRow base e size v n xs) (hn : 0 < n) : ∃ b cap, v = .slice (some ⟨b, 0, none⟩) n cap ∧ base ≤ b ∧ b < w.heap.size := by
  rcases h.2 with ⟨_, h0⟩ | ⟨g, cap, cur, hv, hb, hg, _⟩
  · omega
  · exact ⟨g, cap, hv, hb, (Array.getElem?_eq_some_iff.1 hg).1⟩
theorem vi_app {w V w3 w5 : World} {o : Obj} {e : TypeId} {v : Value} {size n : Nat} {xs : List Value} (h : Below w.heap.size w w3) (hV : w.heap.size ≤ V.heap.size) (hO : w3.ownsRow V.heap.size e size v n xs) (hg : (w3.alloc o).grownBy w5 v.ownBlock) : Below w.heap.size w w5 :=
  (h.alloc h.size o).grown hg (by have := h.size; simp; omega) (fun k hk => Nat.le_trans hV (hO.lt k hk).1)
/-- a row of an earlier block is kept while a later row grows -/
theorem vi_keep {V w3 w5 : World} {base e e' size size' n n' b l c : Nat} {v' : Value} {xs xs' : List Value} {o : Obj} (h : w3.ownsRow base e size (.slice (some ⟨b, 0, none⟩) l c) n xs) (hb : b < V.heap.size) (hO : w3.ownsRow V.heap.size e' size' v' n' xs') (hg : (w3.alloc o).grownBy w5 v'.ownBlock) : w5.ownsRow base e size (.slice (some ⟨b, 0, none⟩) l c) n xs :=
  (h.alloc o).kept hg (.inr (fun he => by
    have h1 := (hO.lt b (by rw [← he]; rfl)).1
    omega))
/-- the marks of n things -/
def vm (p : Nat → Int) (n : Nat) : List Value := (List.range n).map (fun k => Value.int .i64 (p k))
theorem vm_at {p : Nat → Int} {n k : Nat} (h : k < n) : (vm p n)[k]? = some (.int .i64 (p k)) := by simp [vm, h]
theorem vm_set {p q : Nat → Int} {n k : Nat} {c : Int} (h : Lab p (fun j => j = k) c q) : (vm p n).set k (.int .i64 c) = vm q n := by
  apply List.ext_getElem?
  intro j
  rw [List.getElem?_set]
  by_cases hj : j < n
  · rw [vm_at hj]
    by_cases e : k = j
    · subst e
      rw [if_pos rfl, if_pos (by simp [vm]; exact hj), vm_at hj, (h k).1 rfl]
    · rw [if_neg e, vm_at hj, (h j).2 (fun h2 => e h2.symm)]
  · have h1 : (vm q n)[j]? = none := by simp [vm]; omega
    have h2 : (vm p n)[j]? = none := by simp [vm]; omega
    rw [h1]
    by_cases e : k = j
    · rw [if_pos e, if_neg (by simp [vm]; omega)]
    · rw [if_neg e, h2]
theorem vm_succ (p : Nat → Int) (n : Nat) : vm p (n + 1) = vm p n ++ [.int .i64 (p n)] := by simp [vm, List.range_succ]
/-- one mark -/
theorem lab_one (p : Nat → Int) (k : Nat) (c : Int) : Lab p (fun j => j = k) c (fun j => if j = k then c else p j) := fun j => ⟨fun h => by show (if j = k then c else p j) = c; rw [if_pos h], fun h => by show (if j = k then c else p j) = p j; rw [if_neg h]⟩
theorem vi_blk {w3 w5 : World} {g : Nat} {o : Obj} {t e : TypeId} {cs : Array Value} {v : Value} {base size n : Nat} {xs : List Value} (h : Blk w3 g t cs) (hO : w3.ownsRow base e size v n xs) (hne : e ≠ t) (hg : (w3.alloc o).grownBy w5 v.ownBlock) : Blk w5 g t cs := by
  refine (h.alloc o).grown hg ?_
  rcases hO.2 with ⟨rfl, _⟩ | ⟨g', cap, cur, rfl, _, hh, _⟩
  · simp [Value.ownBlock]
  · intro he
    have : g' = g := by simpa [Value.ownBlock] using he.symm
    subst this
    exact Blk.ne_ (t := e) hh h hne rfl
theorem vi_base {w : World} {base base' e size n : Nat} {v : Value} {xs : List Value} (h : w.ownsRow base' e size v n xs) (hb : base ≤ base') : w.ownsRow base e size v n xs := by
  refine ⟨h.1, ?_⟩
  rcases h.2 with h0 | ⟨g, cap, cur, hv, hg, hh⟩
  · exact .inl h0
  · exact .inr ⟨g, cap, cur, hv, Nat.le_trans hb hg, hh⟩
/-- all but block R is kept; new memory may come -/
abbrev But (R : Nat) (w w' : World) : Prop := w.grownBy w' (some R)
theorem But.refl (R : Nat) (w : World) : But R w w := ⟨rfl, rfl, rfl, Nat.le_refl _, fun _ _ _ => rfl⟩
theorem But.trans {R : Nat} {a b c : World} (h : But R a b) (k : But R b c) : But R a c :=
  ⟨k.os.trans h.os, k.tape.trans h.tape, k.output.trans h.output, Nat.le_trans h.size k.size, fun i hi hr => (k.block i (Nat.lt_of_lt_of_le hi h.size) hr).trans (h.block i hi hr)⟩
theorem But.of_below {R : Nat} {w w' : World} (h : Below w.heap.size w w') : But R w w' := ⟨h.os, h.tape, h.output, h.size, fun i hi _ => h.block i hi⟩
theorem But.setCell {R : Nat} {a w : World} (h : But R a w) (k : Nat) (u : Value) : But R a (w.setCell ⟨R, k, none⟩ u) :=
  h.trans (b := w) ⟨rfl, rfl, rfl, by simp [World.setCell], fun i _ hr => Below.heap_setCell w ⟨R, k, none⟩ u i (fun e => hr (by rw [e]))⟩
theorem But.below {R B : Nat} {a w w' : World} (h : But R w w') (hb : Below B a w) (hB : B ≤ w.heap.size) (hR : B ≤ R) : Below B a w' :=
  hb.grown h hB (fun k hk => by injection hk with hk; omega)
theorem But.blk {R g : Nat} {t : TypeId} {cs : Array Value} {w w' : World} (h : But R w w') (hb : Blk w g t cs) (hg : g ≠ R) : Blk w' g t cs := hb.grown h (fun e => hg (by injection e))
theorem But.own {R base e size n : Nat} {v : Value} {xs : List Value} {w w' : World} (h : But R w w') (hb : w.ownsRow base e size v n xs) (hR : R < base) : w'.ownsRow base e size v n xs :=
  hb.kept h (.inr (fun he => by have := (hb.lt R he).1; omega))
/-- the blocks of a call of numberParts: the boxes of both functions, what is found, the list's variable, the closure's, the list's row -/
structure RInv (V W : World) (fI fB : Value) (n m P Q R : Nat) (p : Nat → Int) : Prop where
  b : Below V.heap.size V W
  i : Blk W V.heap.size 63 #[fI]
  s : Blk W (V.heap.size + 1) 68 #[fB]
  f : Blk W (V.heap.size + 1 + 1) 2 #[.int .i64 m]
  pv : Blk W P 36 #[.slice (some ⟨R, 0, none⟩) n n]
  qv : Blk W Q 86 #[.func (.func 43) #[] #[.pointer (some ⟨P, 0, none⟩), .pointer (some ⟨V.heap.size, 0, none⟩), .pointer (some ⟨V.heap.size + 1 + 1, 0, none⟩), .pointer (some ⟨V.heap.size + 1, 0, none⟩), .pointer (some ⟨Q, 0, none⟩)]]
  o : W.ownsRow V.heap.size 2 1 (.slice (some ⟨R, 0, none⟩) n n) n (vm p n)
  r : V.heap.size + 3 ≤ R ∧ P ≠ R ∧ Q ≠ R ∧ V.heap.size ≤ W.heap.size
theorem RInv.but {V W W' : World} {fI fB : Value} {n m P Q R : Nat} {p q : Nat → Int} (h : RInv V W fI fB n m P Q R p) (hb : But R W W') (ho : W'.ownsRow V.heap.size 2 1 (.slice (some ⟨R, 0, none⟩) n n) n (vm q n)) : RInv V W' fI fB n m P Q R q := by
  obtain ⟨r1, r2, r3, r4⟩ := h.r
  exact ⟨hb.below h.b r4 (by omega), hb.blk h.i (by omega), hb.blk h.s (by omega), hb.blk h.f (by omega), hb.blk h.pv r2, hb.blk h.qv r3, ho, r1, r2, r3, Nat.le_trans r4 hb.size⟩
theorem RInv.next {V W W' : World} {fI fB : Value} {n m P Q R : Nat} {p : Nat → Int} (h : RInv V W fI fB n m P Q R p) (hb : Below W.heap.size W W') : RInv V W' fI fB n m P Q R p :=
  h.but (.of_below hb) (own_below h.o hb (Nat.le_refl _))
/-- a bound on what is unmarked -/
def Left (n : Nat) (isIn : Nat → Bool) (p : Nat → Int) (N : Nat) : Prop := ∃ S : List Nat, (∀ j, White n isIn p j → j ∈ S) ∧ S.length ≤ N
theorem Left.none {n : Nat} {isIn : Nat → Bool} {p : Nat → Int} {k : Nat} (h : Left n isIn p 0) : ¬White n isIn p k := fun hw => by
  obtain ⟨S, h1, h2⟩ := h
  have := h1 k hw
  cases S with
  | nil => cases this
  | cons _ _ => simp at h2
theorem Left.mark {n : Nat} {isIn : Nat → Bool} {p q : Nat → Int} {k N : Nat} {c : Int} (h : Left n isIn p (N + 1)) (hc : 0 ≤ c) (hw : White n isIn p k) (hl : Lab p (fun j => j = k) c q) : Left n isIn q N := by
  obtain ⟨S, h1, h2⟩ := h
  refine ⟨S.erase k, fun j hj => ?_, ?_⟩
  · obtain ⟨h3, h4⟩ := (white_lab hc hl j).1 hj
    exact (List.mem_erase_of_ne h4).2 (h1 j h3)
  · rw [List.length_erase_of_mem (h1 k hw)]; omega
theorem Left.lab {n : Nat} {isIn : Nat → Bool} {p q : Nat → Int} {N : Nat} {c : Int} {R : Nat → Prop} (h : Left n isIn p N) (hc : 0 ≤ c) (hl : Lab p R c q) : Left n isIn q N := by
  obtain ⟨S, h1, h2⟩ := h
  exact ⟨S, fun j hj => h1 j ((white_lab hc hl j).1 hj).1, h2⟩
theorem Left.all (n : Nat) (isIn : Nat → Bool) (p : Nat → Int) : Left n isIn p n := ⟨List.range n, fun j hj => List.mem_range.2 hj.1, by simp⟩
/-- the form of a row of the call's own, told by its length -/
theorem row_form {w : World} {base e size n : Nat} {v : Value} {xs : List Value} (h : w.ownsRow base e size v n xs) : ∃ ao cap, v = .slice ao n cap := by
  rcases h.2 with ⟨rfl, rfl⟩ | ⟨g, cap, cur, hv, _⟩
  · exact ⟨none, 0, rfl⟩
  · exact ⟨_, cap, hv⟩
theorem deep_end {W : Nat → Prop} {nb : Nat → Nat → Prop} {p1 q : Nat → Int} {ks : List Nat} {c : Int} (h : Deep W nb p1 (ks.take ks.length) c q) : Deep W nb p1 ks c q := by rwa [List.take_length] at h
theorem take_one (ks : List Nat) (j : Nat) (h : j < ks.length) : ks.take (j + 1) = ks.take j ++ [ks.getD j 0] := by
  rw [List.take_succ_eq_append_getElem h]; simp [List.getD, List.getElem?_eq_getElem h]
theorem made_i64 (n : Nat) : (madeCells (Value.int .i64 0).cells (n * 1)).toList = vm (fun _ => 0) n := by
  rw [Nat.mul_one]
  apply List.ext_getElem
  · simp [madeCells, vm, Value.cells]
  · intro i h1 h2
    simp [madeCells, vm, Value.cells, Nat.mod_one]
def minus (k : Nat) (j : Nat) : Int := if j < k then -1 else 0
theorem minus_step (k : Nat) : Lab (minus k) (fun j => j = k) (-1) (minus (k + 1)) := fun j => ⟨fun h => by unfold minus; rw [if_pos (by omega)], fun h => by
  unfold minus
  by_cases h2 : j < k
  · rw [if_pos h2, if_pos (by omega)]
  · rw [if_neg h2, if_neg (by omega)]⟩
theorem minus_zero (n : Nat) : vm (fun _ => 0) n = vm (minus 0) n := rfl
theorem minus_all (n : Nat) : vm (minus n) n = vm (fun _ => -1) n := by
  unfold vm
  apply List.map_congr_left
  intro j hj
  have := List.mem_range.1 hj
  unfold minus
  rw [if_pos this]
/-- the blocks before the closure is made -/
structure PInv (V W : World) (fI fB : Value) (n P R : Nat) (p : Nat → Int) : Prop where
  b : Below V.heap.size V W
  i : Blk W V.heap.size 63 #[fI]
  s : Blk W (V.heap.size + 1) 68 #[fB]
  f : Blk W (V.heap.size + 1 + 1) 2 #[.int .i64 0]
  pv : Blk W P 36 #[.slice (some ⟨R, 0, none⟩) n n]
  o : W.ownsRow V.heap.size 2 1 (.slice (some ⟨R, 0, none⟩) n n) n (vm p n)
  r : R = V.heap.size + 1 + 1 + 1 ∧ P ≠ R ∧ V.heap.size ≤ W.heap.size
theorem run_store_func (P : Program) (w : World) (a : Addr) (f : Fn) (x y : Array Value) (m : Mode) : (store a (.func f x y) m).run P w = stored P w a (.func f x y) m := run_store P w a _ m rfl
theorem far3 {a b n c j : Nat} (h : a ≠ b) : (Value.slice (some ⟨a, 0, none⟩) n c).ownBlock ≠ some (⟨b, j, none⟩ : Addr).block := fun e => h (by injection e)
theorem wrapS {x : Int} (h1 : -1000000 ≤ x) (h2 : x ≤ 1000000) : wrap64 x = x := by unfold wrap64; omega
end Go.Proofs.Ytmkpkkaedhekdaa

namespace Go.Proofs.Ytmkpkkaedhekdaa
open Go.RowKit Fl

/-- in how many links a grain is -/
def cntF (ls : List Lk) (i : Nat) : Int := ((ls.countP (fun l => l.a == i) + ls.countP (fun l => l.b == i) : Nat) : Int)
theorem cntF_nil : cntF [] = fun _ => 0 := by funext i; simp [cntF]
theorem cntF_snoc (ls : List Lk) (l : Lk) (hne : l.a ≠ l.b) (p q : Nat → Int) (hp : Lab (cntF ls) (fun j => j = l.a) (cntF ls l.a + 1) p) (hq : Lab p (fun j => j = l.b) (p l.b + 1) q) : q = cntF (ls ++ [l]) := by
  funext j
  have e : cntF (ls ++ [l]) j = cntF ls j + (if l.a = j then 1 else 0) + (if l.b = j then 1 else 0) := by
    unfold cntF
    simp only [List.countP_append, List.countP_cons, List.countP_nil, beq_iff_eq]
    split <;> split <;> omega
  rw [e]
  by_cases h1 : j = l.a
  · have h2 : ¬ j = l.b := by omega
    rw [(hq j).2 h2, (hp j).1 h1, if_pos h1.symm, if_neg (fun e => h2 e.symm), h1]; omega
  · by_cases h2 : j = l.b
    · rw [(hq j).1 h2, if_neg (fun e => h1 e.symm), if_pos h2.symm, ← h2, (hp j).2 h1]; omega
    · rw [(hq j).2 h2, (hp j).2 h1, if_neg (fun e => h1 e.symm), if_neg (fun e => h2 e.symm)]; omega
theorem cntF_bounds (ls : List Lk) (i : Nat) : 0 ≤ cntF ls i ∧ cntF ls i ≤ 2 * (ls.length : Int) := by
  unfold cntF
  have h1 := List.countP_le_length (p := fun l : Lk => l.a == i) (l := ls)
  have h2 := List.countP_le_length (p := fun l : Lk => l.b == i) (l := ls)
  omega
theorem take_snoc {α : Type} [Inhabited α] (ls : List α) (k : Nat) (h : k < ls.length) : ls.take (k + 1) = ls.take k ++ [ls.getD k default] := by
  rw [List.take_succ_eq_append_getElem h]; simp [List.getD, List.getElem?_eq_getElem h]
set_option maxRecDepth 100000 in
set_option maxHeartbeats 3200000 in
theorem countsOfLinks_of (hb_ hc : Nat) (gs : List Gr) (ao : Option Addr) (n c : Nat) (ls : List Lk) (is : List (Int × Int)) (w : World) (hv : gs.all Gr.valid = true) (hl : gs.length = 4) (hr : GrRow w hb_ gs) (hL : LRow w ao n ls) (hq : LksQ ls is) (hn : n ≤ 6) :
    Calls Try.prog 9 #[.agg #[.slice (some ⟨hb_, 0, none⟩) 4 hc], .slice ao n c] w fun e w' => Below w.heap.size w w' ∧ ∃ b, e = .returned (.tuple #[.slice (some ⟨b, 0, none⟩) 4 4, .bool true]) ∧ w'.ownsRow w.heap.size 2 1 (.slice (some ⟨b, 0, none⟩) 4 4) 4 (vm (cntF ls) 4) := by
  obtain ⟨i0, hi, hz0, hz1, hz2⟩ := info_parts vi_info
  have HA := Lib.hid fun w (h : GrRow w hb_ gs) (h' : LRow w ao n ls) => areLinks_yes hb_ hc gs ao n c ls is w hv hl h h' hq hn
  have hbel := (Below.refl w.heap.size w).alloc (Nat.le_refl _) (.cells #[.slice (some ⟨hb_, 0, none⟩) 4 hc] 26)
  have hb1 := blk_new w 26 #[.slice (some ⟨hb_, 0, none⟩) 4 hc] _ rfl
  have L0 := Lib.hid hbel
  have K0 := Lib.hid hb1
  have R0 := Lib.hid (hr.below hbel (Nat.le_refl _))
  have A0 := Lib.hid (hL.below hbel (Nat.le_refl _))
  have HLen := Lib.hid hL.len
  have HQ := Lib.hid hq
  have a0 := hb1.cell 0
  clear hbel hb1 hr hL hq hv hl
  go_enter Try.func9, Try.ntmps9
  go_wp2_with fail
  refine (HA.out _ R0.out A0.out).mono ?_
  rintro e w1 ⟨rfl, hb⟩
  have L1 := Lib.hid (below_next L0.out hb)
  have A1 := Lib.hid (A0.out.next hb)
  have a0 := (blk_next K0.out hb).cell 0
  clear hb L0 K0 R0 A0 HA
  go_wp2_with (at_make; go_loud (refine wpList_make_full _ rfl _ _ 36 rfl w1.heap.size 2 i0 (.int .i64 0) 1 Try.underlying36 hi hz0 hz1 .i64 .i64 _ _ 4 rfl rfl rfl rfl (by rw [hz2]; omega) (by unfold maxLen; omega) (Nat.le_refl _) ?_); intro w2 hown hgrow)
  rw [made_i64] at hown
  have B2 := Lib.hid ((Below.refl w1.heap.size w1).grown hgrow (Nat.le_refl _) (by simp) : Below w1.heap.size w1 w2)
  have O2 := Lib.hid hown
  clear hown hgrow a0
  go_loopw [19] (fun i wr => ∃ (W : World) (k : Nat), W = wr ∧ k ≤ n ∧ i = .int .i64 k ∧ wr.ownsRow w1.heap.size 2 1 (.slice (some ⟨w1.heap.size, 0, none⟩) 4 4) 4 (vm (cntF (ls.take k)) 4) ∧ Below w1.heap.size w1 wr) (fun i _ => n - (intOf i).toNat)
  case atStart => exact ⟨_, 0, rfl, Nat.zero_le _, rfl, by rw [List.take_zero, cntF_nil]; exact O2.out, B2.out⟩
  case round =>
    clear O2 B2
    obtain ⟨W, k, rfl, hk, rfl, hO, hB⟩ := hrel
    by_cases hlt : k < n
    · obtain ⟨b, rfl⟩ := A1.out.addr (by omega)
      obtain ⟨c0, c1, c2⟩ := (A1.out.below hB (Nat.le_refl _)).cell b rfl k hlt
      have hq := HQ.out.2 k (by rw [HLen.out]; exact hlt)
      have hsn := cntF_snoc (ls.take k) (ls.getD k default) hq.hne
      rw [← take_snoc ls k (by rw [HLen.out]; exact hlt)] at hsn
      have HSn := Lib.hid hsn
      have hbd := cntF_bounds (ls.take k)
      have htl : (ls.take k).length ≤ 6 := by rw [List.length_take, HLen.out]; omega
      generalize ls.getD k default = l at c0 c1 c2 hq HSn
      obtain ⟨la, lb, lx, ly⟩ := l
      have h1 := hq.ha
      have h2 := hq.hb
      dsimp only at c0 c1 c2 h1 h2
      have hO2 := hO.alloc (.cells #[.int .i64 la, .int .i64 lb, .complex .f32 lx ly] 48)
      have hX := blk_new W 48 #[.int .i64 la, .int .i64 lb, .complex .f32 lx ly] _ rfl
      have x0 := hX.cell 0
      have x1 := hX.cell 1
      have hp := lab_one (cntF (ls.take k)) la (cntF (ls.take k) la + 1)
      have hcl := (hO2.cellAt la (by omega)).trans (vm_at h1)
      have hfr := hO2.frozenAt la
      have hb1 := hbd la
      generalize (fun j => if j = la then cntF (ls.take k) la + 1 else cntF (ls.take k) j) = p at hp
      have hst0 := (hO.stored la (.int .i64 (cntF (ls.take k) la + 1))).1
      rw [vm_set hp] at hst0
      have hst := hst0.alloc (.cells #[.int .i64 la, .int .i64 lb, .complex .f32 lx ly] 48)
      clear hst0
      have hlt9 : w1.heap.size < W.heap.size := (hO.lt _ rfl).2
      have hs9 : (W.setCell ⟨w1.heap.size, la, none⟩ (.int .i64 (cntF (ls.take k) la + 1))).heap.size = W.heap.size := by simp [World.setCell]
      have hX3 := blk_new (W.setCell ⟨w1.heap.size, la, none⟩ (.int .i64 (cntF (ls.take k) la + 1))) 48 #[.int .i64 la, .int .i64 lb, .complex .f32 lx ly] _ hs9
      have hb30 := hB.setCell (p := ⟨w1.heap.size, la, none⟩) (Nat.le_refl _) (.int .i64 (cntF (ls.take k) la + 1))
      have hb3 := hb30.alloc hb30.size (.cells #[.int .i64 la, .int .i64 lb, .complex .f32 lx ly] 48)
      clear hs9 hb30
      have O3 := Lib.hid hst
      have X3 := Lib.hid hX3
      have B3 := Lib.hid hb3
      have HP := Lib.hid hp
      have hpb : 0 ≤ p lb ∧ p lb ≤ 100 := by
        have h3 := hbd lb
        by_cases e : lb = la
        · rw [(hp lb).1 e]; omega
        · rw [(hp lb).2 e]; omega
      clear hO hB hO2 hX hst hX3 hb3 hp hq hbd x1
      generalize cntF (ls.take k) la = z at hcl O3 X3 B3 hb1 HP HSn
      have hsc := run_store_complex Try.prog
      go_upto_region 8 with fail
      clear hcl hfr x0
      generalize (W.setCell ⟨w1.heap.size, la, none⟩ (.int .i64 (z + 1))).alloc (.cells #[.int .i64 la, .int .i64 lb, .complex .f32 lx ly] 48) = W3 at O3 X3 B3 ⊢
      have x1 := X3.out.cell 1
      have hcl := (O3.out.cellAt lb (by omega)).trans (vm_at h2)
      have hfr := O3.out.frozenAt lb
      have hq2 := lab_one p lb (p lb + 1)
      generalize (fun j => if j = lb then p lb + 1 else p j) = q at hq2
      have hst2 := (O3.out.stored lb (.int .i64 (p lb + 1))).1
      rw [vm_set hq2, HSn.out p q HP.out hq2] at hst2
      have O5 := Lib.hid hst2
      have B5 := Lib.hid (B3.out.setCell (p := ⟨w1.heap.size, lb, none⟩) (Nat.le_refl _) (.int .i64 (p lb + 1)))
      clear hst2 hq2 HSn HP O3 B3 X3
      generalize p lb = z2 at hcl O5 B5 hpb
      go_wp2_with fail
      go_roundw
      case rel => exact ⟨_, k + 1, rfl, by omega, by go_num, O5.out, B5.out⟩
      case measure => simp [intOf]; omega
    · obtain rfl : k = n := by omega
      have HO := Lib.hid hO
      have HB := Lib.hid hB
      clear hO hB
      go_wp2_with fail
      go_ret2
      have h3 := HO.out
      rw [List.take_of_length_le (by rw [HLen.out]; omega)] at h3
      exact ⟨below_next L1.out HB.out, _, rfl, vi_base h3 L1.out.size⟩
end Go.Proofs.Ytmkpkkaedhekdaa

namespace Go.Proofs.Ytmkpkkaedhekdaa
open Go.RowKit Fl

/-- the first k grains without a link -/
def looseL (ls : List Lk) (k : Nat) : List Nat := (List.range k).filter (fun i => decide (cntF ls i < 1))
theorem looseL_yes {ls : List Lk} {k : Nat} (h : cntF ls k < 1) : looseL ls (k + 1) = looseL ls k ++ [k] := by unfold looseL; rw [List.range_succ, List.filter_append]; simp [h]
theorem looseL_no {ls : List Lk} {k : Nat} (h : ¬ cntF ls k < 1) : looseL ls (k + 1) = looseL ls k := by unfold looseL; rw [List.range_succ, List.filter_append]; simp [h]
theorem looseL_len (ls : List Lk) (k : Nat) : (looseL ls k).length ≤ k := by unfold looseL; have := List.length_filter_le (fun i => decide (cntF ls i < 1)) (List.range k); simpa using this
theorem vi_app2 {w w3 w5 : World} {B : Nat} {o : Obj} {e : TypeId} {v : Value} {size n : Nat} {xs : List Value} (h : Below B w w3) (hB : B ≤ w3.heap.size) (hO : w3.ownsRow B e size v n xs) (hg : (w3.alloc o).grownBy w5 v.ownBlock) : Below B w w5 :=
  (h.alloc hB o).grown hg (by simp; omega) (fun k hk => (hO.lt k hk).1)
set_option maxRecDepth 100000 in
set_option maxHeartbeats 3200000 in
theorem looseGrains_of (hb_ hc : Nat) (gs : List Gr) (ao : Option Addr) (n c : Nat) (ls : List Lk) (is : List (Int × Int)) (w : World) (hv : gs.all Gr.valid = true) (hl : gs.length = 4) (hr : GrRow w hb_ gs) (hL : LRow w ao n ls) (hq : LksQ ls is) (hn : n ≤ 6) :
    Calls Try.prog 12 #[.agg #[.slice (some ⟨hb_, 0, none⟩) 4 hc], .slice ao n c, .int .i64 1] w fun e w' => Below w.heap.size w w' ∧ ∃ ao' c', e = .returned (.tuple #[.slice ao' (looseL ls 4).length c', .bool true]) := by
  obtain ⟨i0, hi, hz0, hz1, hz2⟩ := info_parts vi_info
  have HA := Lib.hid fun w (h : GrRow w hb_ gs) (h' : LRow w ao n ls) => countsOfLinks_of hb_ hc gs ao n c ls is w hv hl h h' hq hn
  have hbel := (Below.refl w.heap.size w).alloc (Nat.le_refl _) (.cells #[.slice (some ⟨hb_, 0, none⟩) 4 hc] 26)
  have L0 := Lib.hid hbel
  have R0 := Lib.hid (hr.below hbel (Nat.le_refl _))
  have A0 := Lib.hid (hL.below hbel (Nat.le_refl _))
  have a0 := (blk_new w 26 #[.slice (some ⟨hb_, 0, none⟩) 4 hc] _ rfl).cell 0
  clear hbel hr hL hq hv hl
  go_enter Try.func12, Try.ntmps12
  go_wp2_with fail
  refine (HA.out _ R0.out A0.out).mono ?_
  rintro e w1 ⟨hb, cb, rfl, ho⟩
  have L1 := Lib.hid (below_next L0.out hb)
  have O1 := Lib.hid ho
  clear hb ho L0 R0 A0 HA a0
  go_wp2_with fail
  go_loopw [10, 31] (fun v i wr => ∃ (W : World) (k : Nat) (vv : Value), W = wr ∧ k ≤ 4 ∧ i = .int .i64 k ∧ v = vv ∧ wr.ownsRow w1.heap.size 2 1 vv (looseL ls k).length (vi (looseL ls k)) ∧ Below w1.heap.size w1 wr) (fun _ i _ => 4 - (intOf i).toNat)
  case atStart => exact ⟨_, 0, _, rfl, by omega, rfl, rfl, World.ownsRow_nil _ _ _ _, Below.refl _ _⟩
  case round =>
    obtain ⟨W, k, _, rfl, hk, rfl, rfl, hO, hB⟩ := hrel
    by_cases hlt : k < 4
    · have hcl := ((own_below O1.out hB (Nat.le_refl _)).cellAt k (by omega)).trans (vm_at hlt)
      have hk4 := looseL_len ls k
      have HO := Lib.hid hO
      have HB := Lib.hid hB
      have hsz := hB.size
      clear hO hB
      by_cases hc : cntF ls k < 1
      · have hst := Lib.hid (looseL_yes hc)
        generalize cntF ls k = z at hcl hc
        go_wp2_with (at_builtin; go_loud (refine wpList_append_own _ rfl _ _ 36 rfl w1.heap.size 2 i0 _ 1 8 Try.underlying36 hi hz0 hz1 hz2 rfl (by decide) _ _ _ rfl (HO.out.alloc _) ⟨W.heap.size, 0, none⟩ 1 1 [.int .i64 (k : Int)] rfl rfl (vi_new _ _ _ _ rfl) (fun x hx => by simp at hx; subst hx; rfl) (by unfold maxLen; omega) (by omega) (by simp; omega) ?_); intro v' w5 hown' hgrow hnil; have L5 := Lib.hid (vi_app2 HB.out hsz HO.out hgrow); have O5 := Lib.hid hown'; clear hown' hgrow hnil)
        go_roundw
        case rel => exact ⟨_, k + 1, _, rfl, by omega, by go_num, rfl, by rw [hst.out, vi_snoc, List.length_append]; exact O5.out, L5.out⟩
        case measure => simp [intOf]; omega
      · have hst := Lib.hid (looseL_no hc)
        generalize cntF ls k = z at hcl hc
        go_wp2_with fail
        go_roundw
        case rel => exact ⟨_, k + 1, _, rfl, by omega, by go_num, rfl, by rw [hst.out]; exact HO.out, HB.out⟩
        case measure => simp [intOf]; omega
    · obtain rfl : k = 4 := by omega
      obtain ⟨ao', c', rfl⟩ := own_slice hO
      have HB := Lib.hid hB
      clear hO hB
      go_wp2_with fail
      go_ret2
      exact ⟨below_next L1.out HB.out, _, _, rfl⟩
end Go.Proofs.Ytmkpkkaedhekdaa
