/-
  DERIVED. GIVEN WITH THE SEED: THE CARDS: each row of YtgjomknpjigkhaaGreatDoorRows.lean that lists a variable, with what it lists TIED to the program's text (the seventh form; the later family's looks); each row that meets fmt, with fmt's text TOLD by the authors' own Lean function (tested against real Go, not proved from fmt's source: count such statements apart). THE CARD IS WHAT COUNTS. Prove the row's statement (the work); the ties are given (YtgjomknpjigkhaaGreatDoorTie.lean); close each card by the builder's one call (the guide's Derived/Test/ToyasCard.lean, 'card_holds'). Laid BY PROGRAM, IN A SANDBOX (cutbox-door.mjs). By AI agents, Wed Nov 11 2026. No macro, syntax, notation, axiom, sorry.
-/
import Derived.Test.YtgjomknpjigkhaaGreatDoorRows
import GoSem.ClaimSeven
namespace Go.Proofs.YtgjomknpjigkhaaGreatDoor
namespace Rows

/-- THE TIED CARD OF 'threshlaw.Kernels'. -/
def kernelsCard : Claim7 := { stood := { row := kernelsRow, standIns := [], harness := (true, "d471a1c28ffe048a78958a59f4dc8942ff7fe4d6601e36d59944cdab392b482c"), looks := true }, kinds := [], alts := [], laidByText := true, laidKinds := [.data, .data, .data], laidTests := true, laidLooks := .later }
def KernelsCardSaid : Prop := Claim7.holds Tryz.pinned (.plain (OpenSpec.ofChange kernelsSpec)) kernelsCard

/-- THE TIED CARD OF 'threshlaw.Texts'. -/
def textsCard : Claim7 := { stood := { row := textsRow, standIns := [], harness := (true, "d471a1c28ffe048a78958a59f4dc8942ff7fe4d6601e36d59944cdab392b482c"), looks := true }, kinds := [], alts := [], laidByText := true, laidKinds := [.data, .data, .data], laidTests := true, laidLooks := .later }
def TextsCardSaid : Prop := Claim7.holds Tryz.pinned (.plain (OpenSpec.ofChange textsSpec)) textsCard

/-- THE TIED CARD OF 'threshlaw.Follows'. -/
def followsCard : Claim7 := { stood := { row := followsRow, standIns := [], harness := (true, "d471a1c28ffe048a78958a59f4dc8942ff7fe4d6601e36d59944cdab392b482c"), looks := true }, kinds := [], alts := [], laidByText := true, laidKinds := [.data, .data, .data], laidTests := true, laidLooks := .later }
def FollowsCardSaid : Prop := Claim7.holds Tryz.pinned (.plain (OpenSpec.ofChange followsSpec)) followsCard

/-- THE TIED CARD OF 'threshlaw.All'. -/
def allCard : Claim7 := { stood := { row := allRow, standIns := [], harness := (true, "d471a1c28ffe048a78958a59f4dc8942ff7fe4d6601e36d59944cdab392b482c"), looks := true }, kinds := [], alts := [], laidByText := true, laidKinds := [.data, .data, .data], laidTests := true, laidLooks := .later }
def AllCardSaid : Prop := Claim7.holds Tryz.pinned (.plain (OpenSpec.ofChange allSpec)) allCard

/-- THE TIED CARD OF 'threshkeep.Printed'. -/
def printedCard : Claim7 := { stood := { row := printedRow, standIns := [], harness := (true, "d471a1c28ffe048a78958a59f4dc8942ff7fe4d6601e36d59944cdab392b482c"), looks := true }, kinds := [], alts := [], laidByText := true, laidKinds := [.data, .data, .data], laidTests := true, laidLooks := .later }
def PrintedCardSaid : Prop := Claim7.holds Tryz.pinned (.plain (OpenSpec.ofChange printedSpec)) printedCard

/-- THE TIED CARD OF 'threshkeep.Shuffled'. -/
def shuffledCard : Claim7 := { stood := { row := shuffledRow, standIns := [], harness := (true, "d471a1c28ffe048a78958a59f4dc8942ff7fe4d6601e36d59944cdab392b482c"), looks := true }, kinds := [], alts := [], laidByText := true, laidKinds := [.data, .data, .data], laidTests := true, laidLooks := .later }
def ShuffledCardSaid : Prop := Claim7.holds Tryz.pinned (.plain (OpenSpec.ofChange shuffledSpec)) shuffledCard

/-- THE TIED CARD OF 'threshkeep.Coming'. -/
def comingCard : Claim7 := { stood := { row := comingRow, standIns := [], harness := (true, "d471a1c28ffe048a78958a59f4dc8942ff7fe4d6601e36d59944cdab392b482c"), looks := true }, kinds := [], alts := [], laidByText := true, laidKinds := [.data, .data, .data], laidTests := true, laidLooks := .later }
def ComingCardSaid : Prop := Claim7.holds Tryz.pinned (.plain (OpenSpec.ofChange comingSpec)) comingCard

/-- THE TIED CARD OF 'threshkeep.Growing'. -/
def growingCard : Claim7 := { stood := { row := growingRow, standIns := [], harness := (true, "d471a1c28ffe048a78958a59f4dc8942ff7fe4d6601e36d59944cdab392b482c"), looks := true }, kinds := [], alts := [], laidByText := true, laidKinds := [.data, .data, .data], laidTests := true, laidLooks := .later }
def GrowingCardSaid : Prop := Claim7.holds Tryz.pinned (.plain (OpenSpec.ofChange growingSpec)) growingCard

/-- THE TIED CARD OF 'threshkeep.Reached'. -/
def reachedCard : Claim7 := { stood := { row := reachedRow, standIns := [], harness := (true, "d471a1c28ffe048a78958a59f4dc8942ff7fe4d6601e36d59944cdab392b482c"), looks := true }, kinds := [], alts := [], laidByText := true, laidKinds := [.data, .data, .data], laidTests := true, laidLooks := .later }
def ReachedCardSaid : Prop := Claim7.holds Tryz.pinned (.plain (OpenSpec.ofChange reachedSpec)) reachedCard

/-- THE SECOND FORM's CARD OF 'threshlaw.Kernels'. -/
def kernelsUptoCard : Claim7 := { stood := { row := kernelsUptoRow, standIns := [], harness := (true, "d471a1c28ffe048a78958a59f4dc8942ff7fe4d6601e36d59944cdab392b482c"), looks := true }, kinds := [], alts := [], laidByText := true, laidKinds := [.data, .data, .data], laidTests := true, laidLooks := .later }
def KernelsUptoCardSaid : Prop := Claim7.holds Tryz.pinned (.plain (OpenSpec.upto kernelsSpec)) kernelsUptoCard

/-- THE SECOND FORM's CARD OF 'threshlaw.Texts'. -/
def textsUptoCard : Claim7 := { stood := { row := textsUptoRow, standIns := [], harness := (true, "d471a1c28ffe048a78958a59f4dc8942ff7fe4d6601e36d59944cdab392b482c"), looks := true }, kinds := [], alts := [], laidByText := true, laidKinds := [.data, .data, .data], laidTests := true, laidLooks := .later }
def TextsUptoCardSaid : Prop := Claim7.holds Tryz.pinned (.plain (OpenSpec.upto textsSpec)) textsUptoCard

/-- THE SECOND FORM's CARD OF 'threshlaw.Follows'. -/
def followsUptoCard : Claim7 := { stood := { row := followsUptoRow, standIns := [], harness := (true, "d471a1c28ffe048a78958a59f4dc8942ff7fe4d6601e36d59944cdab392b482c"), looks := true }, kinds := [], alts := [], laidByText := true, laidKinds := [.data, .data, .data], laidTests := true, laidLooks := .later }
def FollowsUptoCardSaid : Prop := Claim7.holds Tryz.pinned (.plain (OpenSpec.upto followsSpec)) followsUptoCard

/-- THE SECOND FORM's CARD OF 'threshlaw.All'. -/
def allUptoCard : Claim7 := { stood := { row := allUptoRow, standIns := [], harness := (true, "d471a1c28ffe048a78958a59f4dc8942ff7fe4d6601e36d59944cdab392b482c"), looks := true }, kinds := [], alts := [], laidByText := true, laidKinds := [.data, .data, .data], laidTests := true, laidLooks := .later }
def AllUptoCardSaid : Prop := Claim7.holds Tryz.pinned (.plain (OpenSpec.upto allSpec)) allUptoCard

/-- THE SECOND FORM's CARD OF 'threshkeep.Printed'. -/
def printedUptoCard : Claim7 := { stood := { row := printedUptoRow, standIns := [], harness := (true, "d471a1c28ffe048a78958a59f4dc8942ff7fe4d6601e36d59944cdab392b482c"), looks := true }, kinds := [], alts := [], laidByText := true, laidKinds := [.data, .data, .data], laidTests := true, laidLooks := .later }
def PrintedUptoCardSaid : Prop := Claim7.holds Tryz.pinned (.plain (OpenSpec.upto printedSpec)) printedUptoCard

/-- THE SECOND FORM's CARD OF 'threshkeep.Shuffled'. -/
def shuffledUptoCard : Claim7 := { stood := { row := shuffledUptoRow, standIns := [], harness := (true, "d471a1c28ffe048a78958a59f4dc8942ff7fe4d6601e36d59944cdab392b482c"), looks := true }, kinds := [], alts := [], laidByText := true, laidKinds := [.data, .data, .data], laidTests := true, laidLooks := .later }
def ShuffledUptoCardSaid : Prop := Claim7.holds Tryz.pinned (.plain (OpenSpec.upto shuffledSpec)) shuffledUptoCard

/-- THE SECOND FORM's CARD OF 'threshkeep.Coming'. -/
def comingUptoCard : Claim7 := { stood := { row := comingUptoRow, standIns := [], harness := (true, "d471a1c28ffe048a78958a59f4dc8942ff7fe4d6601e36d59944cdab392b482c"), looks := true }, kinds := [], alts := [], laidByText := true, laidKinds := [.data, .data, .data], laidTests := true, laidLooks := .later }
def ComingUptoCardSaid : Prop := Claim7.holds Tryz.pinned (.plain (OpenSpec.upto comingSpec)) comingUptoCard

/-- THE SECOND FORM's CARD OF 'threshkeep.Growing'. -/
def growingUptoCard : Claim7 := { stood := { row := growingUptoRow, standIns := [], harness := (true, "d471a1c28ffe048a78958a59f4dc8942ff7fe4d6601e36d59944cdab392b482c"), looks := true }, kinds := [], alts := [], laidByText := true, laidKinds := [.data, .data, .data], laidTests := true, laidLooks := .later }
def GrowingUptoCardSaid : Prop := Claim7.holds Tryz.pinned (.plain (OpenSpec.upto growingSpec)) growingUptoCard

/-- THE SECOND FORM's CARD OF 'threshkeep.Reached'. -/
def reachedUptoCard : Claim7 := { stood := { row := reachedUptoRow, standIns := [], harness := (true, "d471a1c28ffe048a78958a59f4dc8942ff7fe4d6601e36d59944cdab392b482c"), looks := true }, kinds := [], alts := [], laidByText := true, laidKinds := [.data, .data, .data], laidTests := true, laidLooks := .later }
def ReachedUptoCardSaid : Prop := Claim7.holds Tryz.pinned (.plain (OpenSpec.upto reachedSpec)) reachedUptoCard
end Rows
end Go.Proofs.YtgjomknpjigkhaaGreatDoor
