/-
  DERIVED. GIVEN WITH THE SEED: THE CARDS: each row of YthakbacpcpdelaaDoorRows.lean that lists a variable, with what it lists TIED to the program's text (the seventh form; the later family's looks); each row that meets fmt, with fmt's text TOLD by the authors' own Lean function (tested against real Go, not proved from fmt's source: count such statements apart). THE CARD IS WHAT COUNTS. Prove the row's statement (the work); the ties are given (YthakbacpcpdelaaDoorTie.lean); close each card by the builder's one call (the guide's Derived/Test/ToyasCard.lean, 'card_holds'). Laid BY PROGRAM, IN A SANDBOX (cutbox-door.mjs). By AI agents, Wed Nov 11 2026. No macro, syntax, notation, axiom, sorry.
-/
import Derived.Test.YthakbacpcpdelaaDoorRows
import GoSem.ClaimSeven
namespace Go.Proofs.YthakbacpcpdelaaDoor
namespace Rows

/-- THE TIED CARD OF 'laws.FnFlowEnds'. -/
def fnFlowEndsCard : Claim7 := { stood := { row := fnFlowEndsRow, standIns := [], harness := (true, "9760c54d1b61a702f24a6a558baeb92a3e59e6e6eeaeb9f40c00c6dfca6b3c1e"), looks := false }, kinds := [], alts := [], laidByText := true, laidKinds := [.data, .data, .data], laidTests := true, laidLooks := .later }
def FnFlowEndsCardSaid : Prop := Claim7.holds Tryd.pinned (.plain (OpenSpec.ofChange fnFlowEndsSpec)) fnFlowEndsCard

/-- THE SECOND FORM's CARD OF 'laws.FnFlowEnds'. -/
def fnFlowEndsUptoCard : Claim7 := { stood := { row := fnFlowEndsUptoRow, standIns := [], harness := (true, "9760c54d1b61a702f24a6a558baeb92a3e59e6e6eeaeb9f40c00c6dfca6b3c1e"), looks := false }, kinds := [], alts := [], laidByText := true, laidKinds := [.data, .data, .data], laidTests := true, laidLooks := .later }
def FnFlowEndsUptoCardSaid : Prop := Claim7.holds Tryd.pinned (.plain (OpenSpec.upto fnFlowEndsSpec)) fnFlowEndsUptoCard
end Rows
end Go.Proofs.YthakbacpcpdelaaDoor
