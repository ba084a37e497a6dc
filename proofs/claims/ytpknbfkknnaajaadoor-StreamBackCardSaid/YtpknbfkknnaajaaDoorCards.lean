/-
  DERIVED. GIVEN WITH THE SEED: THE CARDS: each row of YtpknbfkknnaajaaDoorRows.lean that lists a variable, with what it lists TIED to the program's text (the seventh form; the later family's looks); each row that meets fmt, with fmt's text TOLD by the authors' own Lean function (tested against real Go, not proved from fmt's source: count such statements apart). THE CARD IS WHAT COUNTS. Prove the row's statement (the work); the ties are given (YtpknbfkknnaajaaDoorTie.lean); close each card by the builder's one call (the guide's Derived/Test/ToyasCard.lean, 'card_holds'). Laid BY PROGRAM, IN A SANDBOX (cutbox-door.mjs). By AI agents, Wed Nov 11 2026. No macro, syntax, notation, axiom, sorry.
-/
import Derived.Test.YtpknbfkknnaajaaDoorRows
import GoSem.ClaimSeven
namespace Go.Proofs.YtpknbfkknnaajaaDoor
namespace Rows

/-- THE TIED CARD OF 'valiselaw09.StreamPacks'. -/
def streamPacksCard : Claim7 := { stood := { row := streamPacksRow, standIns := [], harness := (true, "8330b7bf38052f90f88a9fa0d9cd396e9b05c0988097ea5622d998c1e3d70067"), looks := false }, kinds := [], alts := [], laidByText := true, laidKinds := [.data], laidTests := true, laidLooks := .later }
def StreamPacksCardSaid : Prop := Claim7.holds Tryd.pinned (.plain (OpenSpec.ofChange streamPacksSpec)) streamPacksCard

/-- THE TIED CARD OF 'valiselaw09.StreamUnpacks'. -/
def streamUnpacksCard : Claim7 := { stood := { row := streamUnpacksRow, standIns := [], harness := (true, "8330b7bf38052f90f88a9fa0d9cd396e9b05c0988097ea5622d998c1e3d70067"), looks := false }, kinds := [], alts := [], laidByText := true, laidKinds := [.data], laidTests := true, laidLooks := .later }
def StreamUnpacksCardSaid : Prop := Claim7.holds Tryd.pinned (.plain (OpenSpec.ofChange streamUnpacksSpec)) streamUnpacksCard

/-- THE TIED CARD OF 'valiselaw09.StreamBack'. -/
def streamBackCard : Claim7 := { stood := { row := streamBackRow, standIns := [], harness := (true, "8330b7bf38052f90f88a9fa0d9cd396e9b05c0988097ea5622d998c1e3d70067"), looks := false }, kinds := [], alts := [], laidByText := true, laidKinds := [.data], laidTests := true, laidLooks := .later }
def StreamBackCardSaid : Prop := Claim7.holds Tryd.pinned (.plain (OpenSpec.ofChange streamBackSpec)) streamBackCard

/-- THE TIED CARD OF 'valiselaw09.StreamSmall'. -/
def streamSmallCard : Claim7 := { stood := { row := streamSmallRow, standIns := [], harness := (true, "8330b7bf38052f90f88a9fa0d9cd396e9b05c0988097ea5622d998c1e3d70067"), looks := false }, kinds := [], alts := [], laidByText := true, laidKinds := [.data], laidTests := true, laidLooks := .later }
def StreamSmallCardSaid : Prop := Claim7.holds Tryd.pinned (.plain (OpenSpec.ofChange streamSmallSpec)) streamSmallCard

/-- THE TIED CARD OF 'valiselaw09.StreamLimits'. -/
def streamLimitsCard : Claim7 := { stood := { row := streamLimitsRow, standIns := [], harness := (true, "8330b7bf38052f90f88a9fa0d9cd396e9b05c0988097ea5622d998c1e3d70067"), looks := false }, kinds := [], alts := [], laidByText := true, laidKinds := [.data], laidTests := true, laidLooks := .later }
def StreamLimitsCardSaid : Prop := Claim7.holds Tryd.pinned (.plain (OpenSpec.ofChange streamLimitsSpec)) streamLimitsCard

/-- THE SECOND FORM's CARD OF 'valiselaw09.StreamPacks'. -/
def streamPacksUptoCard : Claim7 := { stood := { row := streamPacksUptoRow, standIns := [], harness := (true, "8330b7bf38052f90f88a9fa0d9cd396e9b05c0988097ea5622d998c1e3d70067"), looks := false }, kinds := [], alts := [], laidByText := true, laidKinds := [.data], laidTests := true, laidLooks := .later }
def StreamPacksUptoCardSaid : Prop := Claim7.holds Tryd.pinned (.plain (OpenSpec.upto streamPacksSpec)) streamPacksUptoCard

/-- THE SECOND FORM's CARD OF 'valiselaw09.StreamUnpacks'. -/
def streamUnpacksUptoCard : Claim7 := { stood := { row := streamUnpacksUptoRow, standIns := [], harness := (true, "8330b7bf38052f90f88a9fa0d9cd396e9b05c0988097ea5622d998c1e3d70067"), looks := false }, kinds := [], alts := [], laidByText := true, laidKinds := [.data], laidTests := true, laidLooks := .later }
def StreamUnpacksUptoCardSaid : Prop := Claim7.holds Tryd.pinned (.plain (OpenSpec.upto streamUnpacksSpec)) streamUnpacksUptoCard

/-- THE SECOND FORM's CARD OF 'valiselaw09.StreamBack'. -/
def streamBackUptoCard : Claim7 := { stood := { row := streamBackUptoRow, standIns := [], harness := (true, "8330b7bf38052f90f88a9fa0d9cd396e9b05c0988097ea5622d998c1e3d70067"), looks := false }, kinds := [], alts := [], laidByText := true, laidKinds := [.data], laidTests := true, laidLooks := .later }
def StreamBackUptoCardSaid : Prop := Claim7.holds Tryd.pinned (.plain (OpenSpec.upto streamBackSpec)) streamBackUptoCard

/-- THE SECOND FORM's CARD OF 'valiselaw09.StreamSmall'. -/
def streamSmallUptoCard : Claim7 := { stood := { row := streamSmallUptoRow, standIns := [], harness := (true, "8330b7bf38052f90f88a9fa0d9cd396e9b05c0988097ea5622d998c1e3d70067"), looks := false }, kinds := [], alts := [], laidByText := true, laidKinds := [.data], laidTests := true, laidLooks := .later }
def StreamSmallUptoCardSaid : Prop := Claim7.holds Tryd.pinned (.plain (OpenSpec.upto streamSmallSpec)) streamSmallUptoCard

/-- THE SECOND FORM's CARD OF 'valiselaw09.StreamLimits'. -/
def streamLimitsUptoCard : Claim7 := { stood := { row := streamLimitsUptoRow, standIns := [], harness := (true, "8330b7bf38052f90f88a9fa0d9cd396e9b05c0988097ea5622d998c1e3d70067"), looks := false }, kinds := [], alts := [], laidByText := true, laidKinds := [.data], laidTests := true, laidLooks := .later }
def StreamLimitsUptoCardSaid : Prop := Claim7.holds Tryd.pinned (.plain (OpenSpec.upto streamLimitsSpec)) streamLimitsUptoCard
end Rows
end Go.Proofs.YtpknbfkknnaajaaDoor
