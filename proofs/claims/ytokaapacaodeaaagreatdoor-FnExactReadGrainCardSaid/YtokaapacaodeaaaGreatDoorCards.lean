/-
  DERIVED. GIVEN WITH THE SEED: THE CARDS: each row of YtokaapacaodeaaaGreatDoorRows.lean that lists a variable, with what it lists TIED to the program's text (the seventh form; the later family's looks); each row that meets fmt, with fmt's text TOLD by the authors' own Lean function (tested against real Go, not proved from fmt's source: count such statements apart). THE CARD IS WHAT COUNTS. Prove the row's statement (the work); the ties are given (YtokaapacaodeaaaGreatDoorTie.lean); close each card by the builder's one call (the guide's Derived/Test/ToyasCard.lean, 'card_holds'). Laid BY PROGRAM, IN A SANDBOX (cutbox-door.mjs). By AI agents, Wed Nov 11 2026. No macro, syntax, notation, axiom, sorry.
-/
import Derived.Test.YtokaapacaodeaaaGreatDoorRows
import GoSem.ClaimSeven
namespace Go.Proofs.YtokaapacaodeaaaGreatDoor
namespace Rows

/-- THE TIED CARD OF 'laws.FnExactReadWalls'. -/
def fnExactReadWallsCard : Claim7 := { stood := { row := fnExactReadWallsRow, standIns := [], harness := (true, "cc7662365655a72ad1eaea39a427f91f78903b0712c1db5f5605c2ce929c4da8"), looks := true }, kinds := [], alts := [], laidByText := true, laidKinds := [.data, .data, .data, .data, .sentinel, .sentinel, .sentinel, .pinned], laidTests := true, laidLooks := .later }
def FnExactReadWallsCardSaid : Prop := Claim7.holds Tryz.pinned (.plain (OpenSpec.ofChange fnExactReadWallsSpec)) fnExactReadWallsCard

/-- THE TIED CARD OF 'laws.FnExactReadGrain'. -/
def fnExactReadGrainCard : Claim7 := { stood := { row := fnExactReadGrainRow, standIns := [], harness := (true, "cc7662365655a72ad1eaea39a427f91f78903b0712c1db5f5605c2ce929c4da8"), looks := true }, kinds := [], alts := [], laidByText := true, laidKinds := [.data, .data, .data, .data, .sentinel, .sentinel, .sentinel, .pinned], laidTests := true, laidLooks := .later }
def FnExactReadGrainCardSaid : Prop := Claim7.holds Tryz.pinned (.plain (OpenSpec.ofChange fnExactReadGrainSpec)) fnExactReadGrainCard

/-- THE TIED CARD OF 'laws.FnExactReadHeap'. -/
def fnExactReadHeapCard : Claim7 := { stood := { row := fnExactReadHeapRow, standIns := [], harness := (true, "cc7662365655a72ad1eaea39a427f91f78903b0712c1db5f5605c2ce929c4da8"), looks := true }, kinds := [], alts := [], laidByText := true, laidKinds := [.data, .data, .data, .data, .sentinel, .sentinel, .sentinel, .pinned], laidTests := true, laidLooks := .later }
def FnExactReadHeapCardSaid : Prop := Claim7.holds Tryz.pinned (.plain (OpenSpec.ofChange fnExactReadHeapSpec)) fnExactReadHeapCard

/-- THE SECOND FORM's CARD OF 'laws.FnExactReadWalls'. -/
def fnExactReadWallsUptoCard : Claim7 := { stood := { row := fnExactReadWallsUptoRow, standIns := [], harness := (true, "cc7662365655a72ad1eaea39a427f91f78903b0712c1db5f5605c2ce929c4da8"), looks := true }, kinds := [], alts := [], laidByText := true, laidKinds := [.data, .data, .data, .data, .sentinel, .sentinel, .sentinel, .pinned], laidTests := true, laidLooks := .later }
def FnExactReadWallsUptoCardSaid : Prop := Claim7.holds Tryz.pinned (.plain (OpenSpec.upto fnExactReadWallsSpec)) fnExactReadWallsUptoCard

/-- THE SECOND FORM's CARD OF 'laws.FnExactReadGrain'. -/
def fnExactReadGrainUptoCard : Claim7 := { stood := { row := fnExactReadGrainUptoRow, standIns := [], harness := (true, "cc7662365655a72ad1eaea39a427f91f78903b0712c1db5f5605c2ce929c4da8"), looks := true }, kinds := [], alts := [], laidByText := true, laidKinds := [.data, .data, .data, .data, .sentinel, .sentinel, .sentinel, .pinned], laidTests := true, laidLooks := .later }
def FnExactReadGrainUptoCardSaid : Prop := Claim7.holds Tryz.pinned (.plain (OpenSpec.upto fnExactReadGrainSpec)) fnExactReadGrainUptoCard

/-- THE SECOND FORM's CARD OF 'laws.FnExactReadHeap'. -/
def fnExactReadHeapUptoCard : Claim7 := { stood := { row := fnExactReadHeapUptoRow, standIns := [], harness := (true, "cc7662365655a72ad1eaea39a427f91f78903b0712c1db5f5605c2ce929c4da8"), looks := true }, kinds := [], alts := [], laidByText := true, laidKinds := [.data, .data, .data, .data, .sentinel, .sentinel, .sentinel, .pinned], laidTests := true, laidLooks := .later }
def FnExactReadHeapUptoCardSaid : Prop := Claim7.holds Tryz.pinned (.plain (OpenSpec.upto fnExactReadHeapSpec)) fnExactReadHeapUptoCard
end Rows
end Go.Proofs.YtokaapacaodeaaaGreatDoor
