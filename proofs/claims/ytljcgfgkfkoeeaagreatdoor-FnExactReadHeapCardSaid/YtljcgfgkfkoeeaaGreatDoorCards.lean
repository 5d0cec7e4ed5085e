/-
  DERIVED. GIVEN WITH THE SEED: THE CARDS: each row of YtljcgfgkfkoeeaaGreatDoorRows.lean that lists a variable, with what it lists TIED to the program's text (the seventh form; the later family's looks); each row that meets fmt, with fmt's text TOLD by the authors' own Lean function (tested against real Go, not proved from fmt's source: count such statements apart). THE CARD IS WHAT COUNTS. Prove the row's statement (the work); the ties are given (YtljcgfgkfkoeeaaGreatDoorTie.lean); close each card by the builder's one call (the guide's Derived/Test/ToyasCard.lean, 'card_holds'). Laid BY PROGRAM, IN A SANDBOX (cutbox-door.mjs). By AI agents, Wed Nov 11 2026. No macro, syntax, notation, axiom, sorry.
-/
import Derived.Test.YtljcgfgkfkoeeaaGreatDoorRows
import GoSem.ClaimSeven
namespace Go.Proofs.YtljcgfgkfkoeeaaGreatDoor
namespace Rows

/-- THE TIED CARD OF 'laws.FnExactReadHeap'. -/
def fnExactReadHeapCard : Claim7 := { stood := { row := fnExactReadHeapRow, standIns := [], harness := (true, "1e8a48dfb8cc6761ce45ed84130cc9163a5d4cd1717b7cd850780dc34f4d35bb"), looks := true }, kinds := [], alts := [], laidByText := true, laidKinds := [.data, .data, .data, .data, .sentinel, .sentinel, .sentinel, .pinned], laidTests := true, laidLooks := .later }
def FnExactReadHeapCardSaid : Prop := Claim7.holds Tryz.pinned (.plain (OpenSpec.ofChange fnExactReadHeapSpec)) fnExactReadHeapCard

/-- THE SECOND FORM's CARD OF 'laws.FnExactReadHeap'. -/
def fnExactReadHeapUptoCard : Claim7 := { stood := { row := fnExactReadHeapUptoRow, standIns := [], harness := (true, "1e8a48dfb8cc6761ce45ed84130cc9163a5d4cd1717b7cd850780dc34f4d35bb"), looks := true }, kinds := [], alts := [], laidByText := true, laidKinds := [.data, .data, .data, .data, .sentinel, .sentinel, .sentinel, .pinned], laidTests := true, laidLooks := .later }
def FnExactReadHeapUptoCardSaid : Prop := Claim7.holds Tryz.pinned (.plain (OpenSpec.upto fnExactReadHeapSpec)) fnExactReadHeapUptoCard
end Rows
end Go.Proofs.YtljcgfgkfkoeeaaGreatDoor
