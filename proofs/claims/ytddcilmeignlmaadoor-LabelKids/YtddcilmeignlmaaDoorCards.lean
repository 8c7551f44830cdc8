/-
  DERIVED. GIVEN WITH THE SEED: THE CARDS: each row of YtddcilmeignlmaaDoorRows.lean that lists a variable, with what it lists TIED to the program's text (the seventh form; the later family's looks); each row that meets fmt, with fmt's text TOLD by the authors' own Lean function (tested against real Go, not proved from fmt's source: count such statements apart). THE CARD IS WHAT COUNTS. Prove the row's statement (the work); the ties are given (YtddcilmeignlmaaDoorTie.lean); close each card by the builder's one call (the guide's Derived/Test/ToyasCard.lean, 'card_holds'). Laid BY PROGRAM, IN A SANDBOX (cutbox-door.mjs). By AI agents, Wed Nov 11 2026. No macro, syntax, notation, axiom, sorry.
-/
import Derived.Test.YtddcilmeignlmaaDoorRows
import GoSem.ClaimSeven
namespace Go.Proofs.YtddcilmeignlmaaDoor
namespace Rows

/-- THE TIED CARD OF 'parchmentlaw03.LabelKids'. -/
def labelKidsCard : Claim7 := { stood := { row := labelKidsRow, standIns := [], harness := (true, "24e057eda23eee0099546fefbff934ba3bbe9256453b7183ab58b310329ad61a"), looks := false }, kinds := [], alts := [], laidByText := true, laidKinds := [.data, .data, .data, .data, .pinned], laidTests := true, laidLooks := .later }
def LabelKidsCardSaid : Prop := Claim7.holds Tryd.pinned (.plain (OpenSpec.ofChange labelKidsSpec)) labelKidsCard

/-- THE TIED CARD OF 'parchmentlaw03.LabelGoesOn'. -/
def labelGoesOnCard : Claim7 := { stood := { row := labelGoesOnRow, standIns := [], harness := (true, "24e057eda23eee0099546fefbff934ba3bbe9256453b7183ab58b310329ad61a"), looks := false }, kinds := [], alts := [], laidByText := true, laidKinds := [.data, .data, .data, .data, .pinned], laidTests := true, laidLooks := .later }
def LabelGoesOnCardSaid : Prop := Claim7.holds Tryd.pinned (.plain (OpenSpec.ofChange labelGoesOnSpec)) labelGoesOnCard

/-- THE TIED CARD OF 'parchmentlaw03.LabelTree'. -/
def labelTreeCard : Claim7 := { stood := { row := labelTreeRow, standIns := [], harness := (true, "24e057eda23eee0099546fefbff934ba3bbe9256453b7183ab58b310329ad61a"), looks := false }, kinds := [], alts := [], laidByText := true, laidKinds := [.data, .data, .data, .data, .pinned], laidTests := true, laidLooks := .later }
def LabelTreeCardSaid : Prop := Claim7.holds Tryd.pinned (.plain (OpenSpec.ofChange labelTreeSpec)) labelTreeCard

/-- THE SECOND FORM's CARD OF 'parchmentlaw03.LabelKids'. -/
def labelKidsUptoCard : Claim7 := { stood := { row := labelKidsUptoRow, standIns := [], harness := (true, "24e057eda23eee0099546fefbff934ba3bbe9256453b7183ab58b310329ad61a"), looks := false }, kinds := [], alts := [], laidByText := true, laidKinds := [.data, .data, .data, .data, .pinned], laidTests := true, laidLooks := .later }
def LabelKidsUptoCardSaid : Prop := Claim7.holds Tryd.pinned (.plain (OpenSpec.upto labelKidsSpec)) labelKidsUptoCard

/-- THE SECOND FORM's CARD OF 'parchmentlaw03.LabelGoesOn'. -/
def labelGoesOnUptoCard : Claim7 := { stood := { row := labelGoesOnUptoRow, standIns := [], harness := (true, "24e057eda23eee0099546fefbff934ba3bbe9256453b7183ab58b310329ad61a"), looks := false }, kinds := [], alts := [], laidByText := true, laidKinds := [.data, .data, .data, .data, .pinned], laidTests := true, laidLooks := .later }
def LabelGoesOnUptoCardSaid : Prop := Claim7.holds Tryd.pinned (.plain (OpenSpec.upto labelGoesOnSpec)) labelGoesOnUptoCard

/-- THE SECOND FORM's CARD OF 'parchmentlaw03.LabelTree'. -/
def labelTreeUptoCard : Claim7 := { stood := { row := labelTreeUptoRow, standIns := [], harness := (true, "24e057eda23eee0099546fefbff934ba3bbe9256453b7183ab58b310329ad61a"), looks := false }, kinds := [], alts := [], laidByText := true, laidKinds := [.data, .data, .data, .data, .pinned], laidTests := true, laidLooks := .later }
def LabelTreeUptoCardSaid : Prop := Claim7.holds Tryd.pinned (.plain (OpenSpec.upto labelTreeSpec)) labelTreeUptoCard
end Rows
end Go.Proofs.YtddcilmeignlmaaDoor
