/-
  DERIVED. GIVEN WITH THE SEED: THE CARDS: each row of YtolpjncmjokniaaDoorRows.lean that lists a variable, with what it lists TIED to the program's text (the seventh form; the later family's looks); each row that meets fmt, with fmt's text TOLD by the authors' own Lean function (tested against real Go, not proved from fmt's source: count such statements apart). THE CARD IS WHAT COUNTS. Prove the row's statement (the work); the ties are given (YtolpjncmjokniaaDoorTie.lean); close each card by the builder's one call (the guide's Derived/Test/ToyasCard.lean, 'card_holds'). Laid BY PROGRAM, IN A SANDBOX (cutbox-door.mjs). By AI agents, Wed Nov 11 2026. No macro, syntax, notation, axiom, sorry.
-/
import Derived.Test.YtolpjncmjokniaaDoorRows
import GoSem.ClaimSeven
namespace Go.Proofs.YtolpjncmjokniaaDoor
namespace Rows

/-- THE TIED CARD OF 'valiselaw08.ModelPlays'. -/
def modelPlaysCard : Claim7 := { stood := { row := modelPlaysRow, standIns := [], harness := (true, "bb50c3ee959bc681252a19cd03d2b0412e9a9b921a0c082f4d30dafe5854a3ce"), looks := false }, kinds := [], alts := [], laidByText := true, laidKinds := [.data], laidTests := true, laidLooks := .later }
def ModelPlaysCardSaid : Prop := Claim7.holds Tryd.pinned (.plain (OpenSpec.ofChange modelPlaysSpec)) modelPlaysCard

/-- THE TIED CARD OF 'valiselaw08.ModelLearns'. -/
def modelLearnsCard : Claim7 := { stood := { row := modelLearnsRow, standIns := [], harness := (true, "bb50c3ee959bc681252a19cd03d2b0412e9a9b921a0c082f4d30dafe5854a3ce"), looks := false }, kinds := [], alts := [], laidByText := true, laidKinds := [.data], laidTests := true, laidLooks := .later }
def ModelLearnsCardSaid : Prop := Claim7.holds Tryd.pinned (.plain (OpenSpec.ofChange modelLearnsSpec)) modelLearnsCard

/-- THE TIED CARD OF 'valiselaw08.ModelNil'. -/
def modelNilCard : Claim7 := { stood := { row := modelNilRow, standIns := [], harness := (true, "bb50c3ee959bc681252a19cd03d2b0412e9a9b921a0c082f4d30dafe5854a3ce"), looks := false }, kinds := [], alts := [], laidByText := true, laidKinds := [.data], laidTests := true, laidLooks := .later }
def ModelNilCardSaid : Prop := Claim7.holds Tryd.pinned (.plain (OpenSpec.ofChange modelNilSpec)) modelNilCard

/-- THE TIED CARD OF 'valiselaw08.ModelSame'. -/
def modelSameCard : Claim7 := { stood := { row := modelSameRow, standIns := [], harness := (true, "bb50c3ee959bc681252a19cd03d2b0412e9a9b921a0c082f4d30dafe5854a3ce"), looks := false }, kinds := [], alts := [], laidByText := true, laidKinds := [.data], laidTests := true, laidLooks := .later }
def ModelSameCardSaid : Prop := Claim7.holds Tryd.pinned (.plain (OpenSpec.ofChange modelSameSpec)) modelSameCard

/-- THE SECOND FORM's CARD OF 'valiselaw08.ModelPlays'. -/
def modelPlaysUptoCard : Claim7 := { stood := { row := modelPlaysUptoRow, standIns := [], harness := (true, "bb50c3ee959bc681252a19cd03d2b0412e9a9b921a0c082f4d30dafe5854a3ce"), looks := false }, kinds := [], alts := [], laidByText := true, laidKinds := [.data], laidTests := true, laidLooks := .later }
def ModelPlaysUptoCardSaid : Prop := Claim7.holds Tryd.pinned (.plain (OpenSpec.upto modelPlaysSpec)) modelPlaysUptoCard

/-- THE SECOND FORM's CARD OF 'valiselaw08.ModelLearns'. -/
def modelLearnsUptoCard : Claim7 := { stood := { row := modelLearnsUptoRow, standIns := [], harness := (true, "bb50c3ee959bc681252a19cd03d2b0412e9a9b921a0c082f4d30dafe5854a3ce"), looks := false }, kinds := [], alts := [], laidByText := true, laidKinds := [.data], laidTests := true, laidLooks := .later }
def ModelLearnsUptoCardSaid : Prop := Claim7.holds Tryd.pinned (.plain (OpenSpec.upto modelLearnsSpec)) modelLearnsUptoCard

/-- THE SECOND FORM's CARD OF 'valiselaw08.ModelNil'. -/
def modelNilUptoCard : Claim7 := { stood := { row := modelNilUptoRow, standIns := [], harness := (true, "bb50c3ee959bc681252a19cd03d2b0412e9a9b921a0c082f4d30dafe5854a3ce"), looks := false }, kinds := [], alts := [], laidByText := true, laidKinds := [.data], laidTests := true, laidLooks := .later }
def ModelNilUptoCardSaid : Prop := Claim7.holds Tryd.pinned (.plain (OpenSpec.upto modelNilSpec)) modelNilUptoCard

/-- THE SECOND FORM's CARD OF 'valiselaw08.ModelSame'. -/
def modelSameUptoCard : Claim7 := { stood := { row := modelSameUptoRow, standIns := [], harness := (true, "bb50c3ee959bc681252a19cd03d2b0412e9a9b921a0c082f4d30dafe5854a3ce"), looks := false }, kinds := [], alts := [], laidByText := true, laidKinds := [.data], laidTests := true, laidLooks := .later }
def ModelSameUptoCardSaid : Prop := Claim7.holds Tryd.pinned (.plain (OpenSpec.upto modelSameSpec)) modelSameUptoCard
end Rows
end Go.Proofs.YtolpjncmjokniaaDoor
