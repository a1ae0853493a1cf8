/-
  DERIVED. GIVEN WITH THE SEED: THE CARDS: each row of YthbainbgimbjeaaDoorRows.lean that lists a variable, with what it lists TIED to the program's text (the seventh form; the later family's looks); each row that meets fmt, with fmt's text TOLD by the authors' own Lean function (tested against real Go, not proved from fmt's source: count such statements apart). THE CARD IS WHAT COUNTS. Prove the row's statement (the work); the ties are given (YthbainbgimbjeaaDoorTie.lean); close each card by the builder's one call (the guide's Derived/Test/ToyasCard.lean, 'card_holds'). Laid BY PROGRAM, IN A SANDBOX (cutbox-door.mjs). By AI agents, Wed Nov 11 2026. No macro, syntax, notation, axiom, sorry.
-/
import Derived.Test.YthbainbgimbjeaaDoorRows
import GoSem.ClaimSeven
namespace Go.Proofs.YthbainbgimbjeaaDoor
namespace Rows

/-- THE TIED CARD OF 'laws.FnFeedsAll'. -/
def fnFeedsAllCard : Claim7 := { stood := { row := fnFeedsAllRow, standIns := [], harness := (true, "4651eab332fbdc17ba63bf9a955cb3c6cda6fe57b4ba80af1b470605c21f6def"), looks := false }, kinds := [], alts := [], laidByText := true, laidKinds := [.data, .data, .data], laidTests := true, laidLooks := .later }
def FnFeedsAllCardSaid : Prop := Claim7.holds Tryd.pinned (.plain (OpenSpec.ofChange fnFeedsAllSpec)) fnFeedsAllCard

/-- THE TIED CARD OF 'laws.FnDishesLeast'. -/
def fnDishesLeastCard : Claim7 := { stood := { row := fnDishesLeastRow, standIns := [], harness := (true, "4651eab332fbdc17ba63bf9a955cb3c6cda6fe57b4ba80af1b470605c21f6def"), looks := false }, kinds := [], alts := [], laidByText := true, laidKinds := [.data, .data, .data], laidTests := true, laidLooks := .later }
def FnDishesLeastCardSaid : Prop := Claim7.holds Tryd.pinned (.plain (OpenSpec.ofChange fnDishesLeastSpec)) fnDishesLeastCard

/-- THE TIED CARD OF 'laws.FnDishesGreedy'. -/
def fnDishesGreedyCard : Claim7 := { stood := { row := fnDishesGreedyRow, standIns := [], harness := (true, "4651eab332fbdc17ba63bf9a955cb3c6cda6fe57b4ba80af1b470605c21f6def"), looks := false }, kinds := [], alts := [], laidByText := true, laidKinds := [.data, .data, .data], laidTests := true, laidLooks := .later }
def FnDishesGreedyCardSaid : Prop := Claim7.holds Tryd.pinned (.plain (OpenSpec.ofChange fnDishesGreedySpec)) fnDishesGreedyCard

/-- THE TIED CARD OF 'laws.FnApartMost'. -/
def fnApartMostCard : Claim7 := { stood := { row := fnApartMostRow, standIns := [], harness := (true, "4651eab332fbdc17ba63bf9a955cb3c6cda6fe57b4ba80af1b470605c21f6def"), looks := false }, kinds := [], alts := [], laidByText := true, laidKinds := [.data, .data, .data], laidTests := true, laidLooks := .later }
def FnApartMostCardSaid : Prop := Claim7.holds Tryd.pinned (.plain (OpenSpec.ofChange fnApartMostSpec)) fnApartMostCard

/-- THE TIED CARD OF 'laws.FnSeatsMany'. -/
def fnSeatsManyCard : Claim7 := { stood := { row := fnSeatsManyRow, standIns := [], harness := (true, "4651eab332fbdc17ba63bf9a955cb3c6cda6fe57b4ba80af1b470605c21f6def"), looks := false }, kinds := [], alts := [], laidByText := true, laidKinds := [.data, .data, .data], laidTests := true, laidLooks := .later }
def FnSeatsManyCardSaid : Prop := Claim7.holds Tryd.pinned (.plain (OpenSpec.ofChange fnSeatsManySpec)) fnSeatsManyCard

/-- THE SECOND FORM's CARD OF 'laws.FnFeedsAll'. -/
def fnFeedsAllUptoCard : Claim7 := { stood := { row := fnFeedsAllUptoRow, standIns := [], harness := (true, "4651eab332fbdc17ba63bf9a955cb3c6cda6fe57b4ba80af1b470605c21f6def"), looks := false }, kinds := [], alts := [], laidByText := true, laidKinds := [.data, .data, .data], laidTests := true, laidLooks := .later }
def FnFeedsAllUptoCardSaid : Prop := Claim7.holds Tryd.pinned (.plain (OpenSpec.upto fnFeedsAllSpec)) fnFeedsAllUptoCard

/-- THE SECOND FORM's CARD OF 'laws.FnDishesLeast'. -/
def fnDishesLeastUptoCard : Claim7 := { stood := { row := fnDishesLeastUptoRow, standIns := [], harness := (true, "4651eab332fbdc17ba63bf9a955cb3c6cda6fe57b4ba80af1b470605c21f6def"), looks := false }, kinds := [], alts := [], laidByText := true, laidKinds := [.data, .data, .data], laidTests := true, laidLooks := .later }
def FnDishesLeastUptoCardSaid : Prop := Claim7.holds Tryd.pinned (.plain (OpenSpec.upto fnDishesLeastSpec)) fnDishesLeastUptoCard

/-- THE SECOND FORM's CARD OF 'laws.FnDishesGreedy'. -/
def fnDishesGreedyUptoCard : Claim7 := { stood := { row := fnDishesGreedyUptoRow, standIns := [], harness := (true, "4651eab332fbdc17ba63bf9a955cb3c6cda6fe57b4ba80af1b470605c21f6def"), looks := false }, kinds := [], alts := [], laidByText := true, laidKinds := [.data, .data, .data], laidTests := true, laidLooks := .later }
def FnDishesGreedyUptoCardSaid : Prop := Claim7.holds Tryd.pinned (.plain (OpenSpec.upto fnDishesGreedySpec)) fnDishesGreedyUptoCard

/-- THE SECOND FORM's CARD OF 'laws.FnApartMost'. -/
def fnApartMostUptoCard : Claim7 := { stood := { row := fnApartMostUptoRow, standIns := [], harness := (true, "4651eab332fbdc17ba63bf9a955cb3c6cda6fe57b4ba80af1b470605c21f6def"), looks := false }, kinds := [], alts := [], laidByText := true, laidKinds := [.data, .data, .data], laidTests := true, laidLooks := .later }
def FnApartMostUptoCardSaid : Prop := Claim7.holds Tryd.pinned (.plain (OpenSpec.upto fnApartMostSpec)) fnApartMostUptoCard

/-- THE SECOND FORM's CARD OF 'laws.FnSeatsMany'. -/
def fnSeatsManyUptoCard : Claim7 := { stood := { row := fnSeatsManyUptoRow, standIns := [], harness := (true, "4651eab332fbdc17ba63bf9a955cb3c6cda6fe57b4ba80af1b470605c21f6def"), looks := false }, kinds := [], alts := [], laidByText := true, laidKinds := [.data, .data, .data], laidTests := true, laidLooks := .later }
def FnSeatsManyUptoCardSaid : Prop := Claim7.holds Tryd.pinned (.plain (OpenSpec.upto fnSeatsManySpec)) fnSeatsManyUptoCard
end Rows
end Go.Proofs.YthbainbgimbjeaaDoor
