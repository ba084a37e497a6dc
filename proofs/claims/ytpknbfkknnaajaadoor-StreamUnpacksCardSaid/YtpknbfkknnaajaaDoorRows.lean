/-
  NARROWER THAN 'FOR EVERY INPUT', by the rows' own cells (each row's printed sentence says how): StreamPacks: laid · StreamUnpacks: laid · StreamBack: laid · StreamSmall: laid · StreamLimits: laid.
  DERIVED. THE GIVEN ROWS OF THIS SEAT. 5 by the template 'for every input the law returns true; each argument reads behind the call as it read before'; 0 by the template 'total and deterministic' (their statements: YtpknbfkknnaajaaDoorTotals.lean).
  GIVEN WITH THE SEED: the statements are not yours to turn. If you find one false, say at which input.
  Laid BY PROGRAM, IN A SANDBOX (cutbox-rows.mjs): the forced cells as the released guide's own fill.sh prints them over the translation 7524f3c92dd480e1… (all of the seat's roots in one cut). By AI agents, Wed Nov 11 2026. No macro, syntax, notation, axiom, sorry.
-/
import Derived.Test.YtpknbfkknnaajaaDoorChecked
import GoSem.Claim
import GoSem.ClaimJoined
import GoSem.ClaimMapViews
import Derived.JoinedTies
import Derived.KernelRfl
namespace Go.Proofs.YtpknbfkknnaajaaDoor
/- THE CELL 'sum', in the pinned program and in every row, IS THE sha256 OF THE DUMP (.gsa) THAT YtpknbfkknnaajaaDoorProg.lean LOADS. Nothing in Lean hashes anything: it is a label: what it is worth is what the hold of that sum in a sandbox is worth. -/
noncomputable def Tryd.pinned : Pinned := { name := "ytpknbfkknnaajaadoor", sum := "7524f3c92dd480e199486c2af10978ffe6205b51dabf0c1dddeeb497218c87ab", checked := Tryd.checked }
namespace Rows
def none {H : Type} : Left H := { results := [], args := [] }

/- WHAT THE LISTED PACKAGE-LEVEL VARIABLES READ AS WHEN THE CALL BEGINS. Each datum BY PROGRAM (the guide's laid-datum.mjs) off the statement by which the dump's own 'gosem.cut.vars' lays the variable. In a bare row this is a premise. The card (YtpknbfkknnaajaaDoorCards.lean) ties it to the program's text. -/
def laid_valise_model_kinds {H : Type} : DataW H := .agg [.agg [.lit (.int .i64 256), .lit (.int .i64 4)], .agg [.lit (.int .i64 65536), .lit (.int .i64 4)], .agg [.lit (.int .i64 65536), .lit (.int .i64 3)]]

/-- 'valiselaw09.StreamPacks': WHATEVER THE INPUT: true; the input reads as it did. -/
def streamPacksSpec : ChangeSpec := { name := "streamPacks", fn := fun _ => fun
  | [d1, d2] => { results := [.lit (.bool true)], args := [d1, d2] }
  | _ => none }
def streamPacksRow : OpenClaim := { program := "ytpknbfkknnaajaadoor", sum := "7524f3c92dd480e199486c2af10978ffe6205b51dabf0c1dddeeb497218c87ab", func := "valise/valiselaw09.StreamPacks", spec := "streamPacks", unfollowed := true, recurses := true, named := ["valise/model.kinds"], apart := false, laid := [("valise/model.kinds", laid_valise_model_kinds)] }
def StreamPacksSaid : Prop := streamPacksRow.holds Tryd.pinned (OpenSpec.ofChange streamPacksSpec)

/-- ITS FALSE NEIGHBOUR: 'it returns false'. Refute it at one input. -/
def streamPacksWrong : ChangeSpec := { name := "streamPacks", fn := fun _ => fun
  | [d1, d2] => { results := [.lit (.bool false)], args := [d1, d2] }
  | _ => none }
def StreamPacksWrongFalsely : Prop := streamPacksRow.holds Tryd.pinned (OpenSpec.ofChange streamPacksWrong)

/-- 'valiselaw09.StreamUnpacks': WHATEVER THE INPUT: true; the input reads as it did. -/
def streamUnpacksSpec : ChangeSpec := { name := "streamUnpacks", fn := fun _ => fun
  | [d1, d2, d3] => { results := [.lit (.bool true)], args := [d1, d2, d3] }
  | _ => none }
def streamUnpacksRow : OpenClaim := { program := "ytpknbfkknnaajaadoor", sum := "7524f3c92dd480e199486c2af10978ffe6205b51dabf0c1dddeeb497218c87ab", func := "valise/valiselaw09.StreamUnpacks", spec := "streamUnpacks", unfollowed := true, recurses := true, named := ["valise/model.kinds"], apart := false, laid := [("valise/model.kinds", laid_valise_model_kinds)] }
def StreamUnpacksSaid : Prop := streamUnpacksRow.holds Tryd.pinned (OpenSpec.ofChange streamUnpacksSpec)

/-- ITS FALSE NEIGHBOUR: 'it returns false'. Refute it at one input. -/
def streamUnpacksWrong : ChangeSpec := { name := "streamUnpacks", fn := fun _ => fun
  | [d1, d2, d3] => { results := [.lit (.bool false)], args := [d1, d2, d3] }
  | _ => none }
def StreamUnpacksWrongFalsely : Prop := streamUnpacksRow.holds Tryd.pinned (OpenSpec.ofChange streamUnpacksWrong)

/-- 'valiselaw09.StreamBack': WHATEVER THE INPUT: true; the input reads as it did. -/
def streamBackSpec : ChangeSpec := { name := "streamBack", fn := fun _ => fun
  | [d1, d2, d3] => { results := [.lit (.bool true)], args := [d1, d2, d3] }
  | _ => none }
def streamBackRow : OpenClaim := { program := "ytpknbfkknnaajaadoor", sum := "7524f3c92dd480e199486c2af10978ffe6205b51dabf0c1dddeeb497218c87ab", func := "valise/valiselaw09.StreamBack", spec := "streamBack", named := ["valise/model.kinds"], apart := false, laid := [("valise/model.kinds", laid_valise_model_kinds)] }
def StreamBackSaid : Prop := streamBackRow.holds Tryd.pinned (OpenSpec.ofChange streamBackSpec)

/-- ITS FALSE NEIGHBOUR: 'it returns false'. Refute it at one input. -/
def streamBackWrong : ChangeSpec := { name := "streamBack", fn := fun _ => fun
  | [d1, d2, d3] => { results := [.lit (.bool false)], args := [d1, d2, d3] }
  | _ => none }
def StreamBackWrongFalsely : Prop := streamBackRow.holds Tryd.pinned (OpenSpec.ofChange streamBackWrong)

/-- 'valiselaw09.StreamSmall': WHATEVER THE INPUT: true; the input reads as it did. -/
def streamSmallSpec : ChangeSpec := { name := "streamSmall", fn := fun _ => fun
  | [d1, d2, d3] => { results := [.lit (.bool true)], args := [d1, d2, d3] }
  | _ => none }
def streamSmallRow : OpenClaim := { program := "ytpknbfkknnaajaadoor", sum := "7524f3c92dd480e199486c2af10978ffe6205b51dabf0c1dddeeb497218c87ab", func := "valise/valiselaw09.StreamSmall", spec := "streamSmall", named := ["valise/model.kinds"], apart := false, laid := [("valise/model.kinds", laid_valise_model_kinds)] }
def StreamSmallSaid : Prop := streamSmallRow.holds Tryd.pinned (OpenSpec.ofChange streamSmallSpec)

/-- ITS FALSE NEIGHBOUR: 'it returns false'. Refute it at one input. -/
def streamSmallWrong : ChangeSpec := { name := "streamSmall", fn := fun _ => fun
  | [d1, d2, d3] => { results := [.lit (.bool false)], args := [d1, d2, d3] }
  | _ => none }
def StreamSmallWrongFalsely : Prop := streamSmallRow.holds Tryd.pinned (OpenSpec.ofChange streamSmallWrong)

/-- 'valiselaw09.StreamLimits': WHATEVER THE INPUT: true; the input reads as it did. -/
def streamLimitsSpec : ChangeSpec := { name := "streamLimits", fn := fun _ => fun
  | [d1, d2] => { results := [.lit (.bool true)], args := [d1, d2] }
  | _ => none }
def streamLimitsRow : OpenClaim := { program := "ytpknbfkknnaajaadoor", sum := "7524f3c92dd480e199486c2af10978ffe6205b51dabf0c1dddeeb497218c87ab", func := "valise/valiselaw09.StreamLimits", spec := "streamLimits", named := ["valise/model.kinds"], apart := false, laid := [("valise/model.kinds", laid_valise_model_kinds)] }
def StreamLimitsSaid : Prop := streamLimitsRow.holds Tryd.pinned (OpenSpec.ofChange streamLimitsSpec)

/-- ITS FALSE NEIGHBOUR: 'it returns false'. Refute it at one input. -/
def streamLimitsWrong : ChangeSpec := { name := "streamLimits", fn := fun _ => fun
  | [d1, d2] => { results := [.lit (.bool false)], args := [d1, d2] }
  | _ => none }
def StreamLimitsWrongFalsely : Prop := streamLimitsRow.holds Tryd.pinned (OpenSpec.ofChange streamLimitsWrong)

/- THE SECOND FORM. 'bulk': how many values and letters a reading holds, each counted each time it is reached (what is shared counts as often as it is met; a slice's spare places count too). A statement '..UptoSaid' is the law's where the arguments, and the package variables that the reading takes, are together of bulk at most 1048576: NARROWER than '..Said'. Prove '..Said' where nothing that the law and all that it calls make is longer than what came in: it says more and counts as full. Else prove '..UptoSaid'. A law counts once. -/
mutual
def uptoBulk {H : Type} : DataW H → Nat
  | .lit (.string bytes) => bytes.length + 1
  | .lit _ => 1
  | .nil => 1
  | .ptr d => uptoBulk d + 1
  | .slice elems spare => uptoBulkAll elems + uptoBulkAll spare + 1
  | .agg parts => uptoBulkAll parts + 1
  | .iface _ d => uptoBulk d + 1
  | .map entries => uptoBulkEntries entries + 1
  | .held _ => 1
def uptoBulkAll {H : Type} : List (DataW H) → Nat
  | [] => 0
  | d :: r => uptoBulk d + uptoBulkAll r
def uptoBulkEntries {H : Type} : List (Lit × DataW H) → Nat
  | [] => 0
  | x :: r => uptoBulkEntry x + uptoBulkEntries r
def uptoBulkEntry {H : Type} : Lit × DataW H → Nat
  | (.string bytes, d) => bytes.length + uptoBulk d + 1
  | (_, d) => uptoBulk d + 1
 end
def uptoSmall : (H : Type) → List (DataW H) → Bool := fun _ ds => decide (uptoBulkAll ds ≤ 1048576)
def OpenSpec.upto (s : _root_.Go.ChangeSpec) : _root_.Go.OpenSpec := { _root_.Go.OpenSpec.ofChange s with cond := some uptoSmall }

/-- 'valiselaw09.StreamPacks', WHERE WHAT IT READS IS OF BULK AT MOST 1048576: true; the input reads as it did. -/
def streamPacksUptoRow : OpenClaim := { program := "ytpknbfkknnaajaadoor", sum := "7524f3c92dd480e199486c2af10978ffe6205b51dabf0c1dddeeb497218c87ab", func := "valise/valiselaw09.StreamPacks", spec := "streamPacks", unfollowed := true, recurses := true, named := ["valise/model.kinds"], apart := false, laid := [("valise/model.kinds", laid_valise_model_kinds)], narrowed := true }
def StreamPacksUptoSaid : Prop := streamPacksUptoRow.holds Tryd.pinned (OpenSpec.upto streamPacksSpec)

/-- 'valiselaw09.StreamUnpacks', WHERE WHAT IT READS IS OF BULK AT MOST 1048576: true; the input reads as it did. -/
def streamUnpacksUptoRow : OpenClaim := { program := "ytpknbfkknnaajaadoor", sum := "7524f3c92dd480e199486c2af10978ffe6205b51dabf0c1dddeeb497218c87ab", func := "valise/valiselaw09.StreamUnpacks", spec := "streamUnpacks", unfollowed := true, recurses := true, named := ["valise/model.kinds"], apart := false, laid := [("valise/model.kinds", laid_valise_model_kinds)], narrowed := true }
def StreamUnpacksUptoSaid : Prop := streamUnpacksUptoRow.holds Tryd.pinned (OpenSpec.upto streamUnpacksSpec)

/-- 'valiselaw09.StreamBack', WHERE WHAT IT READS IS OF BULK AT MOST 1048576: true; the input reads as it did. -/
def streamBackUptoRow : OpenClaim := { program := "ytpknbfkknnaajaadoor", sum := "7524f3c92dd480e199486c2af10978ffe6205b51dabf0c1dddeeb497218c87ab", func := "valise/valiselaw09.StreamBack", spec := "streamBack", named := ["valise/model.kinds"], apart := false, laid := [("valise/model.kinds", laid_valise_model_kinds)], narrowed := true }
def StreamBackUptoSaid : Prop := streamBackUptoRow.holds Tryd.pinned (OpenSpec.upto streamBackSpec)

/-- 'valiselaw09.StreamSmall', WHERE WHAT IT READS IS OF BULK AT MOST 1048576: true; the input reads as it did. -/
def streamSmallUptoRow : OpenClaim := { program := "ytpknbfkknnaajaadoor", sum := "7524f3c92dd480e199486c2af10978ffe6205b51dabf0c1dddeeb497218c87ab", func := "valise/valiselaw09.StreamSmall", spec := "streamSmall", named := ["valise/model.kinds"], apart := false, laid := [("valise/model.kinds", laid_valise_model_kinds)], narrowed := true }
def StreamSmallUptoSaid : Prop := streamSmallUptoRow.holds Tryd.pinned (OpenSpec.upto streamSmallSpec)

/-- 'valiselaw09.StreamLimits', WHERE WHAT IT READS IS OF BULK AT MOST 1048576: true; the input reads as it did. -/
def streamLimitsUptoRow : OpenClaim := { program := "ytpknbfkknnaajaadoor", sum := "7524f3c92dd480e199486c2af10978ffe6205b51dabf0c1dddeeb497218c87ab", func := "valise/valiselaw09.StreamLimits", spec := "streamLimits", named := ["valise/model.kinds"], apart := false, laid := [("valise/model.kinds", laid_valise_model_kinds)], narrowed := true }
def StreamLimitsUptoSaid : Prop := streamLimitsUptoRow.holds Tryd.pinned (OpenSpec.upto streamLimitsSpec)

end Rows
end Go.Proofs.YtpknbfkknnaajaaDoor
