/-
  DERIVED. GIVEN WITH THE SEED: THE CARDS: each row of YtddcilmeignlmaaGreatDoorRows.lean that lists a variable, with what it lists TIED to the program's text (the seventh form; the later family's looks); each row that meets fmt, with fmt's text TOLD by the authors' own Lean function (tested against real Go, not proved from fmt's source: count such statements apart). THE CARD IS WHAT COUNTS. Prove the row's statement (the work); the ties are given (YtddcilmeignlmaaGreatDoorTie.lean); close each card by the builder's one call (the guide's Derived/Test/ToyasCard.lean, 'card_holds'). Laid BY PROGRAM, IN A SANDBOX (cutbox-door.mjs). By AI agents, Wed Nov 11 2026. No macro, syntax, notation, axiom, sorry.
-/
import Derived.Test.YtddcilmeignlmaaGreatDoorRows
import GoSem.ClaimSeven
namespace Go.Proofs.YtddcilmeignlmaaGreatDoor
namespace Rows

/-- THE TIED CARD OF 'parchmentlaw03.LabelTells'. -/
def labelTellsCard : Claim7 := { stood := { row := labelTellsRow, standIns := [], harness := (true, "252c90333295294d93d6cee4ab3c78b9822c9320d365ef85497370fdfb775954"), looks := false }, kinds := [], alts := [], laidByText := true, laidKinds := [.data, .data, .data, .data, .pinned], laidTests := true, laidLooks := .later }
def LabelTellsCardSaid : Prop := Claim7.holds Tryz.pinned (.plain (OpenSpec.ofChange labelTellsSpec)) labelTellsCard

/-- THE TIED CARD OF 'parchmentlaw03.LabelBetween'. -/
def labelBetweenCard : Claim7 := { stood := { row := labelBetweenRow, standIns := [], harness := (true, "252c90333295294d93d6cee4ab3c78b9822c9320d365ef85497370fdfb775954"), looks := false }, kinds := [], alts := [], laidByText := true, laidKinds := [.data, .data, .data, .data, .pinned], laidTests := true, laidLooks := .later }
def LabelBetweenCardSaid : Prop := Claim7.holds Tryz.pinned (.plain (OpenSpec.ofChange labelBetweenSpec)) labelBetweenCard

/-- THE TIED CARD OF 'parchmentlaw03.LabelApart'. -/
def labelApartCard : Claim7 := { stood := { row := labelApartRow, standIns := [], harness := (true, "252c90333295294d93d6cee4ab3c78b9822c9320d365ef85497370fdfb775954"), looks := false }, kinds := [], alts := [], laidByText := true, laidKinds := [.data, .data, .data, .data, .pinned], laidTests := true, laidLooks := .later }
def LabelApartCardSaid : Prop := Claim7.holds Tryz.pinned (.plain (OpenSpec.ofChange labelApartSpec)) labelApartCard

/-- THE SECOND FORM's CARD OF 'parchmentlaw03.LabelTells'. -/
def labelTellsUptoCard : Claim7 := { stood := { row := labelTellsUptoRow, standIns := [], harness := (true, "252c90333295294d93d6cee4ab3c78b9822c9320d365ef85497370fdfb775954"), looks := false }, kinds := [], alts := [], laidByText := true, laidKinds := [.data, .data, .data, .data, .pinned], laidTests := true, laidLooks := .later }
def LabelTellsUptoCardSaid : Prop := Claim7.holds Tryz.pinned (.plain (OpenSpec.upto labelTellsSpec)) labelTellsUptoCard

/-- THE SECOND FORM's CARD OF 'parchmentlaw03.LabelBetween'. -/
def labelBetweenUptoCard : Claim7 := { stood := { row := labelBetweenUptoRow, standIns := [], harness := (true, "252c90333295294d93d6cee4ab3c78b9822c9320d365ef85497370fdfb775954"), looks := false }, kinds := [], alts := [], laidByText := true, laidKinds := [.data, .data, .data, .data, .pinned], laidTests := true, laidLooks := .later }
def LabelBetweenUptoCardSaid : Prop := Claim7.holds Tryz.pinned (.plain (OpenSpec.upto labelBetweenSpec)) labelBetweenUptoCard

/-- THE SECOND FORM's CARD OF 'parchmentlaw03.LabelApart'. -/
def labelApartUptoCard : Claim7 := { stood := { row := labelApartUptoRow, standIns := [], harness := (true, "252c90333295294d93d6cee4ab3c78b9822c9320d365ef85497370fdfb775954"), looks := false }, kinds := [], alts := [], laidByText := true, laidKinds := [.data, .data, .data, .data, .pinned], laidTests := true, laidLooks := .later }
def LabelApartUptoCardSaid : Prop := Claim7.holds Tryz.pinned (.plain (OpenSpec.upto labelApartSpec)) labelApartUptoCard
end Rows
end Go.Proofs.YtddcilmeignlmaaGreatDoor
