/- Rows of grains on the spec's side: made, and given if they are valid. -/
import Derived.Test.YtljcgfgkfkoeeaaGreatDoorGr
import Derived.Test.YtljcgfgkfkoeeaaGreatDoorSums
import Derived.Laws.ResultCell
import Derived.OwnWalk
namespace Go.Proofs.YtljcgfgkfkoeeaaGreatDoor
open Go.RowKit Fl

theorem mul32_nan_left {x : Nat} (y : Nat) (h : nan32 x = true) : floatBits .mul .f32 x y = none := by
  obtain ⟨s, t, hx⟩ := nan_read h
  show Ieee.single.mul x y = none
  unfold Ieee.Format.mul; rw [hx]; cases Ieee.single.read y <;> rfl
theorem mul32_nan_right (x : Nat) {y : Nat} (h : nan32 y = true) : floatBits .mul .f32 x y = none := by
  obtain ⟨s, t, hx⟩ := nan_read h
  show Ieee.single.mul x y = none
  unfold Ieee.Format.mul; rw [hx]; cases Ieee.single.read x <;> rfl

def opO (op : BinOp) (a b : Option Nat) : Option Nat := a.bind fun x => b.bind fun y => floatBits op .f32 x y
/-- the number, or none for a not-a-number -/
def numO (x : Nat) : Option Nat := if nan32 x then none else some x
theorem rep_num (x : Nat) : Rep x (numO x) := by
  unfold numO
  cases h : nan32 x
  · exact ⟨rfl, h⟩
  · exact h
theorem op_step {P : Program} (op : BinOp) (hop : op = .add ∨ op = .mul) (t : TypeId) {a b : Nat} {oa ob : Option Nat} (w : World) (ha : Rep a oa) (hb : Rep b ob) :
    ∃ r m, (binOp op t (.float .f32 a) (.float .f32 b)).run P w = .ok (.float .f32 r) (w.drewN m) ∧ Rep r (opO op oa ob) := by
  have nl : nan32 a = true → floatBits op .f32 a b = none := by rcases hop with rfl | rfl; exact add32_nan_left b; exact mul32_nan_left b
  have nr : nan32 b = true → floatBits op .f32 a b = none := by rcases hop with rfl | rfl; exact add32_nan_right a; exact mul32_nan_right a
  have nn : ∀ r, floatBits op .f32 a b = some r → nan32 r = false := by rcases hop with rfl | rfl; exact fun r h => add32_not_nan h; exact fun r h => mul32_not_nan h
  cases hf : floatBits op .f32 a b with
  | none =>
    refine ⟨_, 1, run_arith_nan op t .f32 a b w (by rcases hop with rfl | rfl <;> simp) hf, ?_⟩
    have : opO op oa ob = none := by
      cases oa with
      | none => rfl
      | some x => cases ob with
        | none => rfl
        | some y => obtain ⟨rfl, _⟩ := ha; obtain ⟨rfl, _⟩ := hb; exact hf
    rw [this]
    exact nanb32_nan _ _ _
  | some r =>
    refine ⟨r, 0, run_float_arith w op t .f32 a b r hf, ?_⟩
    cases oa with
    | none => have := nl ha; rw [hf] at this; cases this
    | some x => cases ob with
      | none => have := nr hb; rw [hf] at this; cases this
      | some y => obtain ⟨rfl, _⟩ := ha; obtain ⟨rfl, _⟩ := hb; exact (show Rep r (floatBits op .f32 a b) by rw [hf]; exact ⟨rfl, nn r hf⟩)

def gcells (gs : List Gr) : List Value := gs.flatMap Gr.cells
theorem gcells_length : ∀ gs : List Gr, (gcells gs).length = gs.length * 7
  | [] => rfl
  | g :: gs => by
    have := gcells_length gs
    unfold gcells at this ⊢
    rw [List.flatMap_cons, List.length_append, this, List.length_cons]
    have : g.cells.length = 7 := rfl
    omega
theorem gcells_at : ∀ (gs : List Gr) (i j : Nat), i < gs.length → j < 7 → (gcells gs)[i * 7 + j]? = (gs.getD i default).cells[j]?
  | [], i, j, hi, _ => by simp at hi
  | g :: gs, 0, j, _, hj => by
    unfold gcells
    rw [List.flatMap_cons, List.getElem?_append_left (by show 0 * 7 + j < 7; omega)]
    simp
  | g :: gs, i + 1, j, hi, hj => by
    have ih := gcells_at gs i j (by simpa using hi) hj
    unfold gcells at ih ⊢
    rw [List.flatMap_cons, List.getElem?_append_right (by show 7 ≤ _; omega)]
    have e : (i + 1) * 7 + j - g.cells.length = i * 7 + j := by show (i + 1) * 7 + j - 7 = _; omega
    rw [e, ih]
    simp
theorem gcells_snoc (gs : List Gr) (g : Gr) : gcells (gs ++ [g]) = gcells gs ++ g.cells := by simp [gcells]
theorem cells_one (g : Gr) : ∀ u ∈ g.cells, u.oneCell' = true := by
  intro u hu
  simp only [Gr.cells, List.mem_cons, List.not_mem_nil, or_false] at hu
  rcases hu with rfl | rfl | rfl | rfl | rfl | rfl | rfl <;> rfl

/-- a row of the call's own reads as its grains -/
theorem row_of_own {w : World} {base e b n cap : Nat} {gs : List Gr} (h : w.ownsRow base e 7 (.slice (some ⟨b, 0, none⟩) n cap) n (gcells gs)) (hl : gs.length = n) : GrRow w b gs := by
  intro i hi
  have key : ∀ j v, j < 7 → (gs.getD i default).cells[j]? = some v → w.cell? ⟨b, i * 7 + j, none⟩ = some v := by
    intro j v hj hv
    rw [h.cellAt (i * 7 + j) (by omega), gcells_at gs i j hi hj]; exact hv
  exact ⟨key 0 _ (by decide) rfl, key 1 _ (by decide) rfl, key 2 _ (by decide) rfl, key 3 _ (by decide) rfl, key 4 _ (by decide) rfl, key 5 _ (by decide) rfl, key 6 _ (by decide) rfl⟩
theorem own_form {w : World} {base e n : Nat} {v : Value} {xs : List Value} (h : w.ownsRow base e 7 v n xs) (hn : 0 < n) : ∃ b cap, v = .slice (some ⟨b, 0, none⟩) n cap ∧ base ≤ b ∧ b < w.heap.size := by
  rcases h.2 with ⟨_, h0⟩ | ⟨g, cap, cur, hv, hb, hg, _⟩
  · omega
  · exact ⟨g, cap, hv, hb, (Array.getElem?_eq_some_iff.1 hg).1⟩

theorem ginfo : (Tryz.prog.info? 39).map (fun i => (i.zero, i.size, i.bytes)) = some (some (.agg #[.complex .f32 0 0, .complex .f32 0 0, .float .f32 0, .float .f32 0, .float .f32 0, .float .f32 0, .bool false]), 7, 36) := by kernel_rfl

def mkGr (r m x : Nat) : Gr := ⟨x, 0, 0, 0, r, m, 0, 0, false⟩
def two32 : Nat := 1073741824
/-- the place of grain k of a row -/
def xO (r g : Nat) (k : Nat) : Option Nat := opO .mul (numO (floatOfInt .f32 k)) (opO .add (opO .mul (numO two32) (numO r)) (numO g))
theorem xstep {P : Program} (t : TypeId) (r g k : Nat) (w : World) : ∃ a b x m1 m2 m3, (binOp .mul t (.float .f32 1073741824) (.float .f32 r)).run P w = .ok (.float .f32 a) (w.drewN m1) ∧
    (binOp .add t (.float .f32 a) (.float .f32 g)).run P (w.drewN m1) = .ok (.float .f32 b) (w.drewN (m1 + m2)) ∧
    (binOp .mul t (.float .f32 (floatOfInt .f32 k)) (.float .f32 b)).run P (w.drewN (m1 + m2)) = .ok (.float .f32 x) (w.drewN (m1 + m2 + m3)) ∧ Rep x (xO r g k) := by
  obtain ⟨a, m1, h1, r1⟩ := op_step (P := P) .mul (Or.inr rfl) t (a := 1073741824) (b := r) w (rep_num two32) (rep_num r)
  obtain ⟨b, m2, h2, r2⟩ := op_step (P := P) .add (Or.inl rfl) t (w.drewN m1) r1 (rep_num g)
  obtain ⟨x, m3, h3, r3⟩ := op_step (P := P) .mul (Or.inr rfl) t ((w.drewN m1).drewN m2) (rep_num (floatOfInt .f32 k)) r2
  exact ⟨a, b, x, m1, m2, m3, h1, by simpa [World.drewN_drewN] using h2, by simpa [World.drewN_drewN] using h3, r3⟩

theorem own_drewN {w : World} {base e size n : Nat} {v : Value} {xs : List Value} (h : w.ownsRow base e size v n xs) (k : Nat) : (w.drewN k).ownsRow base e size v n xs := h
def Blk (w : World) (g : Nat) (t : TypeId) (cs : Array Value) : Prop := w.heap[g]? = some (.cells cs t (0, 0))
theorem Blk.lt {w : World} {g : Nat} {t : TypeId} {cs : Array Value} (h : Blk w g t cs) : g < w.heap.size := (Array.getElem?_eq_some_iff.1 h).1
theorem Blk.cell {w : World} {g : Nat} {t : TypeId} {cs : Array Value} (h : Blk w g t cs) (i : Nat) : w.cell? ⟨g, i, none⟩ = cs[i]? := cell_of_row w g i cs t (0, 0) h
theorem Blk.frozen {w : World} {g : Nat} {t : TypeId} {cs : Array Value} (h : Blk w g t cs) (i : Nat) : w.frozen? ⟨g, i, none⟩ = false := by
  unfold Blk at h; simp [World.frozen?, h]
theorem Blk.drewN {w : World} {g : Nat} {t : TypeId} {cs : Array Value} (h : Blk w g t cs) (k : Nat) : Blk (w.drewN k) g t cs := h
theorem Blk.alloc {w : World} {g : Nat} {t : TypeId} {cs : Array Value} (h : Blk w g t cs) (o : Obj) : Blk (w.alloc o) g t cs := (Below.heap_alloc w o g h.lt).trans h
theorem Blk.set_ {w : World} {g : Nat} {t : TypeId} {cs : Array Value} (h : Blk w g t cs) (i : Nat) (u : Value) : Blk (w.setCell ⟨g, i, none⟩ u) g t (cs.setIfInBounds i u) := by
  unfold Blk at h ⊢
  simp [World.setCell, Array.getElem?_modify, h]
theorem Blk.far {w : World} {g : Nat} {t : TypeId} {cs : Array Value} (h : Blk w g t cs) {p : Addr} (hp : g ≠ p.block) (u : Value) : Blk (w.setCell p u) g t cs := (Below.heap_setCell w p u g hp).trans h
theorem Blk.below {w w' : World} {g : Nat} {t : TypeId} {cs : Array Value} {B : Nat} (h : Blk w g t cs) (hb : Below B w w') (hg : g < B) : Blk w' g t cs := (hb.block g hg).trans h
theorem Blk.grown {w w' : World} {g : Nat} {t : TypeId} {cs : Array Value} {row : Option Nat} (h : Blk w g t cs) (hb : w.grownBy w' row) (hg : some g ≠ row) : Blk w' g t cs := (hb.block g h.lt hg).trans h
theorem Blk.ne_ {w : World} {g g' : Nat} {t t' : TypeId} {cs cs' : Array Value} (h : Blk w g t cs) (h' : Blk w g' t' cs') (hne : t ≠ t') : g ≠ g' := by
  rintro rfl
  unfold Blk at h h'
  rw [h] at h'
  injection h' with h'
  injection h' with _ ht
  exact hne ht
theorem own_blk_ne {w : World} {base g : Nat} {e t : TypeId} {size n : Nat} {v : Value} {xs : List Value} {cs : Array Value} (h : w.ownsRow base e size v n xs) (hg : Blk w g t cs) (hne : e ≠ t) : some g ≠ v.ownBlock := by
  rcases h.2 with ⟨rfl, _⟩ | ⟨g', cap, cur, rfl, _, hh, _⟩
  · simp [Value.ownBlock]
  · intro he
    have : g' = g := by simpa [Value.ownBlock] using he.symm
    subst this
    exact Blk.ne_ (t := e) hh hg hne rfl
theorem own_far {w : World} {base g : Nat} {e t : TypeId} {size n : Nat} {v : Value} {xs : List Value} {cs : Array Value} (h : w.ownsRow base e size v n xs) (hg : Blk w g t cs) (hne : e ≠ t) (i : Nat) (u : Value) : (w.setCell ⟨g, i, none⟩ u).ownsRow base e size v n xs := by
  have hb := own_blk_ne h hg hne
  refine h.kept (row := some g) ⟨rfl, rfl, rfl, by simp [World.setCell], fun k _ hk => heap_setCell_other w ⟨g, i, none⟩ k u (fun e => hk (by simp [e]))⟩ (Or.inr (Ne.symm hb))

theorem blk_new (w : World) (t : TypeId) (cs : Array Value) (n : Nat) (h : w.heap.size = n) : Blk (w.alloc (.cells cs t)) n t cs := by subst h; exact heap_alloc_new w _
theorem gr_new (w : World) (t : TypeId) (g : Gr) (k : Nat) : ∀ j u, g.cells[j]? = some u → ((w.drewN k).alloc (.cells #[.complex .f32 g.ax g.ay, .complex .f32 g.sx g.sy, .float .f32 g.r, .float .f32 g.m, .float .f32 g.t, .float .f32 g.s, .bool g.h] t)).cell? ((⟨w.heap.size, 0, none⟩ : Addr).add j) = some u :=
  (World.ownsRow_lit (base := 0) (e := t) (size := 7) (w.drewN k) #[.complex .f32 g.ax g.ay, .complex .f32 g.sx g.sy, .float .f32 g.r, .float .f32 g.m, .float .f32 g.t, .float .f32 g.s, .bool g.h] 1 (Nat.zero_le _) (by decide) rfl).cells rfl
theorem own_nil_lit (w : World) (e : TypeId) (base : Nat) (hb : base ≤ w.heap.size) : (w.alloc (.cells #[] e)).ownsRow base e 7 (.slice (some ⟨w.heap.size, 0, none⟩) 0 0) 0 (gcells []) := World.ownsRow_lit w #[] 0 hb (by decide) rfl
theorem grown_below {w w1 w2 : World} {row : Option Nat} (h : Below w.heap.size w w1) (hg : w1.grownBy w2 row) (hr : ∀ k, row = some k → w.heap.size ≤ k) : Below w.heap.size w w2 := h.grown hg h.size hr
theorem reps_snoc {vs : List Nat} {k x : Nat} {o : Nat → Option Nat} (h : ∀ j, j < k → Rep (vs.getD j 0) (o j)) (hl : vs.length = k) (hx : Rep x (o k)) : ∀ j, j < k + 1 → Rep ((vs ++ [x]).getD j 0) (o j) := by
  intro j hj
  by_cases hjk : j < k
  · have := h j hjk
    rw [show (vs ++ [x]).getD j 0 = vs.getD j 0 by simp [List.getD, List.getElem?_append_left (show j < vs.length by omega)]]; exact this
  · obtain rfl : j = k := by omega
    rw [show (vs ++ [x]).getD j 0 = x by simp [List.getD, ← hl]]; exact hx

theorem blk_after {wr w1 : World} {m g : Nat} {o : Obj} {t e : TypeId} {cs : Array Value} {v : Value} {base size n : Nat} {xs : List Value} (h : Blk wr g t cs) (hO : wr.ownsRow base e size v n xs) (hne : e ≠ t) (hg : ((wr.drewN m).alloc o).grownBy w1 v.ownBlock) : Blk w1 g t cs :=
  ((h.drewN m).alloc o).grown hg (own_blk_ne ((own_drewN hO m).alloc o) ((h.drewN m).alloc o) hne)
theorem below_after {w wr w1 : World} {m : Nat} {o : Obj} {e : TypeId} {v : Value} {size n : Nat} {xs : List Value} (h : Below w.heap.size w wr) (hO : wr.ownsRow w.heap.size e size v n xs) (hg : ((wr.drewN m).alloc o).grownBy w1 v.ownBlock) : Below w.heap.size w w1 :=
  ((below_drewN h m).alloc h.size o).grown hg (by have := h.size; simp; omega) (fun k hk => (hO.lt k hk).1)
theorem neGH : 39 ≠ 24 := by decide


theorem results_row_tmp {P : Program} {fn : Func} {p u : Tmp} {ty : TypeId} (h : fn.results = #[.cell p ty, .tmp u]) (tmps : Array Value) (w : World) (g : Nat) (t : TypeId) (cs : Array Value) (d : TypeDesc) (b : Value)
    (hp : tmps.getD p undef = .pointer (some ⟨g, 0, none⟩)) (hg : Blk w g t cs) (hb : tmps.getD u undef = b)
    (hu : P.underlying ty = some d) (hd : (match d with | .struct _ | .array _ _ => true | _ => false) = true) (hi : (P.info? ty).map (·.size) = some cs.size) :
    (results fn tmps).run P w = .ok (.tuple #[.agg cs, b]) w := by
  subst hb
  have hp' : tmps[p]?.getD undef = .pointer (some ⟨g, 0, none⟩) := by simpa using hp
  simp [results, h, hp', asAddr, run_loadVar_row w g t ty cs (0, 0) d hg hu hd hi]

/-- what is given: the heap if it is valid, else none -/
def gave (b n c : Nat) (ok : Bool) : Ending := .returned (.tuple #[.agg #[if ok then .slice (some ⟨b, 0, none⟩) n c else .slice none 0 0], .bool ok])

set_option maxHeartbeats 800000 in
theorem l02Give_of (b n c : Nat) (gs : List Gr) (w : World) (hl : gs.length = n) (hr : GrRow w b gs) (hn : n ≤ 24) :
    Calls Tryz.prog 17 #[.agg #[.slice (some ⟨b, 0, none⟩) n c]] w fun e w' => e = gave b n c (gs.all Gr.valid) ∧ Below w.heap.size w w' := by
  have hbel := ((Below.refl w.heap.size w).alloc (Nat.le_refl _) (.cells #[.slice (some ⟨b, 0, none⟩) n c] 24)).alloc (by simp) (.cells #[.slice none 0 0] 24)
  have hB0 : Blk ((w.alloc (.cells #[.slice (some ⟨b, 0, none⟩) n c] 24)).alloc (.cells #[.slice none 0 0] 24)) w.heap.size 24 _ := (blk_new w _ _ _ rfl).alloc _
  have hB1 : Blk ((w.alloc (.cells #[.slice (some ⟨b, 0, none⟩) n c] 24)).alloc (.cells #[.slice none 0 0] 24)) (w.heap.size + 1) 24 _ := blk_new _ _ _ _ (by simp)
  have HC := l02Is_any w.heap.size b n c gs _ (hB0.cell 0) hl (hr.below hbel (Nat.le_refl _)) hn
  have HB := Lib.hid hbel
  have HB0 := Lib.hid hB0
  have HB1 := Lib.hid hB1
  have hc0 := hB0.cell 0
  have hf1 := hB1.frozen 0
  have hc1 := hB1.cell 0
  generalize gs.all Gr.valid = ok at HC ⊢
  have HC' := Lib.hid HC
  clear HC hl hr hbel hB0 hB1
  cases ok
  · go_enter Tryz.func17, Tryz.ntmps17
    go_wp2_with (go_at_call 28; go_loud (refine HC'.out.mono ?_); rintro e w1 ⟨rfl, m1, rfl⟩)
    refine bodyPost_ret (v := .tuple #[.agg #[.slice none 0 0], .bool false]) (results_row_tmp Tryz.results17 _ _ (w.heap.size + 1) 24 #[.slice none 0 0] _ _ rfl ?_ rfl Tryz.underlying24 rfl (by kernel_rfl)) rfl ⟨rfl, ?_⟩
    · exact (HB1.out.drewN _).set_ 0 _
    · exact (below_drewN HB.out _).setCell (by show w.heap.size ≤ w.heap.size + 1; omega) _
  · go_enter Tryz.func17, Tryz.ntmps17
    go_wp2_with (go_at_call 28; go_loud (refine HC'.out.mono ?_); rintro e w1 ⟨rfl, m1, rfl⟩)
    refine bodyPost_ret (v := .tuple #[.agg #[.slice (some ⟨b, 0, none⟩) n c], .bool true]) (results_row_tmp Tryz.results17 _ _ (w.heap.size + 1) 24 #[.slice (some ⟨b, 0, none⟩) n c] _ _ rfl ?_ rfl Tryz.underlying24 rfl (by kernel_rfl)) rfl ⟨rfl, ?_⟩
    · exact (HB1.out.drewN _).set_ 0 _
    · exact (below_drewN HB.out _).setCell (by show w.heap.size ≤ w.heap.size + 1; omega) _

def finO : Option Nat → Bool
  | none => false
  | some y => fin32 y
theorem fin_rep {x : Nat} {o : Option Nat} (h : Rep x o) : fin32 x = finO o := by
  cases o with
  | none => have : nan32 x = true := h; simp [fin32, finO, this]
  | some y => obtain ⟨rfl, _⟩ := h; rfl
/-- is the row of n grains valid, and its places -/
def okRow (r g m n : Nat) : Bool := (List.range n).all fun k => (mkGr r m ((xO r g k).getD 0)).valid && finO (xO r g k)
def placesO (r g n : Nat) : List Nat := (List.range n).map fun k => (xO r g k).getD 0
theorem mk_valid (r m x : Nat) : (mkGr r m x).valid = (fin32 x && (fin32 r && fin32 m && pos32 r && pos32 m)) := by
  have h0 : fin32 0 = true := by decide
  simp only [Gr.valid, mkGr, h0]
  generalize fin32 x = a; generalize fin32 r = b; generalize fin32 m = c; generalize pos32 r = d; generalize pos32 m = e
  revert a b c d e; decide
theorem all_range {n : Nat} {vs : List Nat} (hl : vs.length = n) (p : Nat → Bool) (q : Nat → Bool) (h : ∀ j, j < n → p (vs.getD j 0) = q j) : vs.all p = (List.range n).all q := by
  rw [Bool.eq_iff_iff, List.all_eq_true, List.all_eq_true]
  constructor
  · intro h1 j hj
    have hj' : j < n := List.mem_range.1 hj
    rw [← h j hj']
    exact h1 _ (by rw [List.getD_eq_getElem?_getD, List.getElem?_eq_getElem (by omega)]; exact List.getElem_mem _)
  · intro h1 x hx
    obtain ⟨j, hj, rfl⟩ := List.getElem_of_mem hx
    have := h j (by omega)
    rw [List.getD_eq_getElem?_getD, List.getElem?_eq_getElem hj] at this
    simp only [Option.getD_some] at this
    rw [this]
    exact h1 j (List.mem_range.2 (by omega))
theorem row_valid {r g m n : Nat} {vs : List Nat} (hl : vs.length = n) (h : ∀ j, j < n → Rep (vs.getD j 0) (xO r g j)) : (vs.map (mkGr r m)).all Gr.valid = okRow r g m n := by
  rw [List.all_map]
  refine all_range hl _ _ fun j hj => ?_
  have hr := h j hj
  have hf := fin_rep hr
  show (mkGr r m (vs.getD j 0)).valid = _
  rw [mk_valid, mk_valid, hf]
  cases ho : xO r g j with
  | none => simp [finO]
  | some y => simp only [finO, Option.getD_some]; generalize fin32 y = a; generalize (fin32 r && fin32 m && pos32 r && pos32 m) = b; revert a b; decide
theorem row_places {r g m n : Nat} {vs : List Nat} (hl : vs.length = n) (h : ∀ j, j < n → Rep (vs.getD j 0) (xO r g j)) (hok : okRow r g m n = true) : vs = placesO r g n := by
  apply List.ext_getElem
  · simp [placesO, hl]
  · intro j h1 h2
    have hj : j < n := by omega
    have hr := h j hj
    unfold okRow at hok
    rw [List.all_eq_true] at hok
    have := hok j (List.mem_range.2 hj)
    rw [Bool.and_eq_true] at this
    cases ho : xO r g j with
    | none => rw [ho] at this; exact absurd this.2 (by simp [finO])
    | some y =>
      rw [ho] at hr
      obtain ⟨hr, _⟩ := hr
      rw [List.getD_eq_getElem?_getD, List.getElem?_eq_getElem h1] at hr
      simp only [Option.getD_some] at hr
      simp [placesO, ho, hr]

/-- a heap in memory of the call's own, or none -/
def GaveRow (w : World) (gs : List Gr) (ok : Bool) (e : Ending) (w' : World) : Prop :=
  if ok then ∃ b c, e = .returned (.tuple #[.agg #[.slice (some ⟨b, 0, none⟩) gs.length c], .bool true]) ∧ w'.ownsRow w.heap.size 39 7 (.slice (some ⟨b, 0, none⟩) gs.length c) gs.length (gcells gs) ∧ Below w.heap.size w w'
  else e = .returned (.tuple #[.agg #[.slice none 0 0], .bool false]) ∧ Below w.heap.size w w'
def inRow (n : Int) (g : Nat) : Bool := decide (1 ≤ n) && decide (n ≤ 24) && fin32 g
def rowGs (r g m n : Nat) : List Gr := (placesO r g n).map (mkGr r m)
theorem rowGs_length (r g m n : Nat) : (rowGs r g m n).length = n := by simp [rowGs, placesO]

theorem own_from {w : World} {base base' e size n : Nat} {v : Value} {xs : List Value} (h : w.ownsRow base e size v n xs) (hb : base' ≤ base) : w.ownsRow base' e size v n xs := by
  rcases h with ⟨h1, h2 | ⟨g, cap, cur, hv, hg, rest⟩⟩
  · exact ⟨h1, Or.inl h2⟩
  · exact ⟨h1, Or.inr ⟨g, cap, cur, hv, Nat.le_trans hb hg, rest⟩⟩
theorem own_below {w w' : World} {base e size n : Nat} {v : Value} {xs : List Value} (h : w.ownsRow base e size v n xs) {B : Nat} (hb : Below B w w') (hB : w.heap.size ≤ B) : w'.ownsRow base e size v n xs :=
  h.kept (row := none) ⟨hb.os, hb.tape, hb.output, hb.size, fun i hi _ => hb.block i (Nat.lt_of_lt_of_le hi hB)⟩ (by cases hv : v.ownBlock <;> simp)

theorem blk_over {w0 w2 : World} {g : Nat} {t : TypeId} {cs : Array Value} (h : Blk w0 g t cs) {m : Nat} (hb : Below (w0.drewN m).heap.size (w0.drewN m) w2) : Blk w2 g t cs := (h.drewN m).below hb h.lt
theorem below_over {w w0 w2 : World} (h : Below w.heap.size w w0) {m : Nat} (hb : Below (w0.drewN m).heap.size (w0.drewN m) w2) : Below w.heap.size w w2 := (below_drewN h m).trans (hb.mono h.size)
theorem blk_next {w0 w2 : World} {g : Nat} {t : TypeId} {cs : Array Value} (h : Blk w0 g t cs) (hb : Below w0.heap.size w0 w2) : Blk w2 g t cs := h.below hb h.lt
theorem below_next {w w0 w2 : World} (h : Below w.heap.size w w0) (hb : Below w0.heap.size w0 w2) : Below w.heap.size w w2 := h.trans (hb.mono h.size)

theorem give_no {P : Program} {f : FuncId} {args : Array Value} {w : World} {b n c : Nat} {R : World → Prop} (h : Calls P f args w fun e w' => e = gave b n c false ∧ R w') :
    Calls P f args w fun e w' => e = .returned (.tuple #[.agg #[.slice none 0 0], .bool false]) ∧ R w' := h
theorem give_yes {P : Program} {f : FuncId} {args : Array Value} {w : World} {b n c : Nat} {R : World → Prop} (h : Calls P f args w fun e w' => e = gave b n c true ∧ R w') :
    Calls P f args w fun e w' => e = .returned (.tuple #[.agg #[.slice (some ⟨b, 0, none⟩) n c], .bool true]) ∧ R w' := h

end Go.Proofs.YtljcgfgkfkoeeaaGreatDoor
