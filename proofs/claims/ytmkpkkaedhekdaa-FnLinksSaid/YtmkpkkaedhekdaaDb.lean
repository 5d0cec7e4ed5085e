/- The heap without the grains beyond a wall. -/
import Derived.Test.YtmkpkkaedhekdaaCt
namespace Go.Proofs.Ytmkpkkaedhekdaa
open Go.RowKit Fl

theorem results_row_tmp2 {P : Program} {fn : Func} {p u v : Tmp} {ty : TypeId} (h : fn.results = #[.cell p ty, .tmp u, .tmp v]) (tmps : Array Value) (w : World) (g : Nat) (t : TypeId) (cs : Array Value) (d : TypeDesc) (b c : Value)
    (hp : tmps.getD p undef = .pointer (some ⟨g, 0, none⟩)) (hg : Blk w g t cs) (hb : tmps.getD u undef = b) (hc : tmps.getD v undef = c)
    (hu : P.underlying ty = some d) (hd : (match d with | .struct _ | .array _ _ => true | _ => false) = true) (hi : (P.info? ty).map (·.size) = some cs.size) :
    (results fn tmps).run P w = .ok (.tuple #[.agg cs, b, c]) w := by
  subst hb hc
  have hp' : tmps[p]?.getD undef = .pointer (some ⟨g, 0, none⟩) := by simpa using hp
  simp [results, h, hp', asAddr, run_loadVar_row w g t ty cs (0, 0) d hg hu hd hi]
def leftB (fx fy tx ty : Nat) (gs : List Gr) (k : Nat) : List Gr := (gs.take k).filter fun g => !beyB fx fy tx ty g
/-- the heap that is left, in memory of the call's own, and how many were dropped -/
def GaveLeft (w : World) (gs : List Gr) (n : Nat) (e : Ending) (w' : World) : Prop := ∃ v, e = .returned (.tuple #[.agg #[v], .int .i64 (n : Int), .bool true]) ∧ w'.ownsRow w.heap.size 57 7 v gs.length (gcells gs) ∧ Below w.heap.size w w'
theorem own_value {w : World} {base e size n : Nat} {v : Value} {xs : List Value} (h : w.ownsRow base e size v n xs) : ∃ ao c, v = .slice ao n c := by
  rcases h.2 with ⟨rfl, rfl⟩ | ⟨g, cap, cur, rfl, _⟩
  · exact ⟨_, _, rfl⟩
  · exact ⟨_, _, rfl⟩
theorem own_apart {w : World} {base base' e e' size size' n n' : Nat} {v v' : Value} {xs xs' : List Value} (h : w.ownsRow base e size v n xs) (h' : w.ownsRow base' e' size' v' n' xs') (hne : e ≠ e') : v.ownBlock = none ∨ v.ownBlock ≠ v'.ownBlock := by
  rcases h.2 with ⟨rfl, _⟩ | ⟨g, cap, cur, rfl, _, hg, _⟩
  · exact .inl rfl
  · right
    rcases h'.2 with ⟨rfl, _⟩ | ⟨g', cap', cur', rfl, _, hg', _⟩
    · simp [Value.ownBlock]
    · intro he
      have : g = g' := by simpa [Value.ownBlock] using he
      subst this
      rw [hg] at hg'
      injection hg' with hg'
      injection hg' with _ ht
      exact hne ht
theorem own_app {w3 w5 : World} {base base' e e' size size' n n' : Nat} {v v' : Value} {xs xs' : List Value} {o : Obj} (h : w3.ownsRow base e size v n xs) (hO : w3.ownsRow base' e' size' v' n' xs') (hne : e ≠ e') (hg : (w3.alloc o).grownBy w5 v'.ownBlock) : w5.ownsRow base e size v n xs :=
  (h.alloc o).kept hg (own_apart (h.alloc o) (hO.alloc o) hne)
structure DbInv (w W : World) (fx fy tx ty : Nat) (az : Option Addr) (cz : Nat) (zs : List Nat) (gs : List Gr) (v : Value) (k : Nat) : Prop where
  own : W.ownsRow w.heap.size 57 7 v (leftB fx fy tx ty gs k).length (gcells (leftB fx fy tx ty gs k))
  z : W.ownsRow w.heap.size 2 1 (.slice az zs.length cz) zs.length (ints zs)
  b : Blk W (w.heap.size + 1 + 1) 26 #[.slice none 0 0]
  l : Below w.heap.size w W
end Go.Proofs.Ytmkpkkaedhekdaa
