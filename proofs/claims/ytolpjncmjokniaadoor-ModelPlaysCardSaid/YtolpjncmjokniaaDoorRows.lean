/-
  NARROWER THAN 'FOR EVERY INPUT', by the rows' own cells (each row's printed sentence says how): ModelPlays: laid · ModelLearns: laid · ModelNil: laid · ModelSame: laid.
  DERIVED. THE GIVEN ROWS OF THIS SEAT. 4 by the template 'for every input the law returns true; each argument reads behind the call as it read before'; 0 by the template 'total and deterministic' (their statements: YtolpjncmjokniaaDoorTotals.lean).
  GIVEN WITH THE SEED: the statements are not yours to turn. If you find one false, say at which input.
  Laid BY PROGRAM, IN A SANDBOX (cutbox-rows.mjs): the forced cells as the released guide's own fill.sh prints them over the translation c8661d0da1222f10… (all of the seat's roots in one cut). By AI agents, Wed Nov 11 2026. No macro, syntax, notation, axiom, sorry.
-/
import Derived.Test.YtolpjncmjokniaaDoorChecked
import GoSem.Claim
import GoSem.ClaimJoined
import GoSem.ClaimMapViews
import Derived.JoinedTies
import Derived.KernelRfl
namespace Go.Proofs.YtolpjncmjokniaaDoor
/- THE CELL 'sum', in the pinned program and in every row, IS THE sha256 OF THE DUMP (.gsa) THAT YtolpjncmjokniaaDoorProg.lean LOADS. Nothing in Lean hashes anything: it is a label: what it is worth is what the hold of that sum in a sandbox is worth. -/
noncomputable def Tryd.pinned : Pinned := { name := "ytolpjncmjokniaadoor", sum := "c8661d0da1222f104ada6d899bc162a16a27ddffc25976585d84927a8700182b", checked := Tryd.checked }
namespace Rows
def none {H : Type} : Left H := { results := [], args := [] }

/- WHAT THE LISTED PACKAGE-LEVEL VARIABLES READ AS WHEN THE CALL BEGINS. Each datum BY PROGRAM (the guide's laid-datum.mjs) off the statement by which the dump's own 'gosem.cut.vars' lays the variable. In a bare row this is a premise. The card (YtolpjncmjokniaaDoorCards.lean) ties it to the program's text. -/
def laid_valise_model_kinds {H : Type} : DataW H := .agg [.agg [.lit (.int .i64 256), .lit (.int .i64 4)], .agg [.lit (.int .i64 65536), .lit (.int .i64 4)], .agg [.lit (.int .i64 65536), .lit (.int .i64 3)]]

/-- 'valiselaw08.ModelPlays': WHATEVER THE INPUT: true; the input reads as it did. -/
def modelPlaysSpec : ChangeSpec := { name := "modelPlays", fn := fun _ => fun
  | [d1, d2, d3] => { results := [.lit (.bool true)], args := [d1, d2, d3] }
  | _ => none }
def modelPlaysRow : OpenClaim := { program := "ytolpjncmjokniaadoor", sum := "c8661d0da1222f104ada6d899bc162a16a27ddffc25976585d84927a8700182b", func := "valise/valiselaw08.ModelPlays", spec := "modelPlays", named := ["valise/model.kinds"], apart := false, laid := [("valise/model.kinds", laid_valise_model_kinds)] }
def ModelPlaysSaid : Prop := modelPlaysRow.holds Tryd.pinned (OpenSpec.ofChange modelPlaysSpec)

/-- ITS FALSE NEIGHBOUR: 'it returns false'. Refute it at one input. -/
def modelPlaysWrong : ChangeSpec := { name := "modelPlays", fn := fun _ => fun
  | [d1, d2, d3] => { results := [.lit (.bool false)], args := [d1, d2, d3] }
  | _ => none }
def ModelPlaysWrongFalsely : Prop := modelPlaysRow.holds Tryd.pinned (OpenSpec.ofChange modelPlaysWrong)

/-- 'valiselaw08.ModelLearns': WHATEVER THE INPUT: true; the input reads as it did. -/
def modelLearnsSpec : ChangeSpec := { name := "modelLearns", fn := fun _ => fun
  | [d1, d2] => { results := [.lit (.bool true)], args := [d1, d2] }
  | _ => none }
def modelLearnsRow : OpenClaim := { program := "ytolpjncmjokniaadoor", sum := "c8661d0da1222f104ada6d899bc162a16a27ddffc25976585d84927a8700182b", func := "valise/valiselaw08.ModelLearns", spec := "modelLearns", named := ["valise/model.kinds"], apart := false, laid := [("valise/model.kinds", laid_valise_model_kinds)] }
def ModelLearnsSaid : Prop := modelLearnsRow.holds Tryd.pinned (OpenSpec.ofChange modelLearnsSpec)

/-- ITS FALSE NEIGHBOUR: 'it returns false'. Refute it at one input. -/
def modelLearnsWrong : ChangeSpec := { name := "modelLearns", fn := fun _ => fun
  | [d1, d2] => { results := [.lit (.bool false)], args := [d1, d2] }
  | _ => none }
def ModelLearnsWrongFalsely : Prop := modelLearnsRow.holds Tryd.pinned (OpenSpec.ofChange modelLearnsWrong)

/-- 'valiselaw08.ModelNil': WHATEVER THE INPUT: true; the input reads as it did. -/
def modelNilSpec : ChangeSpec := { name := "modelNil", fn := fun _ => fun
  | [d] => { results := [.lit (.bool true)], args := [d] }
  | _ => none }
def modelNilRow : OpenClaim := { program := "ytolpjncmjokniaadoor", sum := "c8661d0da1222f104ada6d899bc162a16a27ddffc25976585d84927a8700182b", func := "valise/valiselaw08.ModelNil", spec := "modelNil", named := ["valise/model.kinds"], apart := false, laid := [("valise/model.kinds", laid_valise_model_kinds)] }
def ModelNilSaid : Prop := modelNilRow.holds Tryd.pinned (OpenSpec.ofChange modelNilSpec)

/-- ITS FALSE NEIGHBOUR: 'it returns false'. Refute it at one input. -/
def modelNilWrong : ChangeSpec := { name := "modelNil", fn := fun _ => fun
  | [d] => { results := [.lit (.bool false)], args := [d] }
  | _ => none }
def ModelNilWrongFalsely : Prop := modelNilRow.holds Tryd.pinned (OpenSpec.ofChange modelNilWrong)

/-- 'valiselaw08.ModelSame': WHATEVER THE INPUT: true; the input reads as it did. -/
def modelSameSpec : ChangeSpec := { name := "modelSame", fn := fun _ => fun
  | [d1, d2, d3] => { results := [.lit (.bool true)], args := [d1, d2, d3] }
  | _ => none }
def modelSameRow : OpenClaim := { program := "ytolpjncmjokniaadoor", sum := "c8661d0da1222f104ada6d899bc162a16a27ddffc25976585d84927a8700182b", func := "valise/valiselaw08.ModelSame", spec := "modelSame", named := ["valise/model.kinds"], apart := false, laid := [("valise/model.kinds", laid_valise_model_kinds)] }
def ModelSameSaid : Prop := modelSameRow.holds Tryd.pinned (OpenSpec.ofChange modelSameSpec)

/-- ITS FALSE NEIGHBOUR: 'it returns false'. Refute it at one input. -/
def modelSameWrong : ChangeSpec := { name := "modelSame", fn := fun _ => fun
  | [d1, d2, d3] => { results := [.lit (.bool false)], args := [d1, d2, d3] }
  | _ => none }
def ModelSameWrongFalsely : Prop := modelSameRow.holds Tryd.pinned (OpenSpec.ofChange modelSameWrong)

/- THE SECOND FORM. 'bulk': how many values and letters a reading holds, each counted each time it is reached (what is shared counts as often as it is met; a slice's spare places count too). A statement '..UptoSaid' is the law's where the arguments, and the package variables that the reading takes, are together of bulk at most 1048576: NARROWER than '..Said'. Prove '..Said' where nothing that the law and all that it calls make is longer than what came in: it says more and counts as full. Else prove '..UptoSaid'. A law counts once. -/
mutual
def uptoBulk {H : Type} : DataW H → Nat
  | .lit (.string bytes) => bytes.length + 1
  | .lit _ => 1
  | .nil => 1
  | .ptr d => uptoBulk d + 1
  | .slice elems spare => uptoBulkAll elems + uptoBulkAll spare + 1
  | .agg parts => uptoBulkAll parts + 1
  | .iface _ d => uptoBulk d + 1
  | .map entries => uptoBulkEntries entries + 1
  | .held _ => 1
def uptoBulkAll {H : Type} : List (DataW H) → Nat
  | [] => 0
  | d :: r => uptoBulk d + uptoBulkAll r
def uptoBulkEntries {H : Type} : List (Lit × DataW H) → Nat
  | [] => 0
  | x :: r => uptoBulkEntry x + uptoBulkEntries r
def uptoBulkEntry {H : Type} : Lit × DataW H → Nat
  | (.string bytes, d) => bytes.length + uptoBulk d + 1
  | (_, d) => uptoBulk d + 1
 end
def uptoSmall : (H : Type) → List (DataW H) → Bool := fun _ ds => decide (uptoBulkAll ds ≤ 1048576)
def OpenSpec.upto (s : _root_.Go.ChangeSpec) : _root_.Go.OpenSpec := { _root_.Go.OpenSpec.ofChange s with cond := some uptoSmall }

/-- 'valiselaw08.ModelPlays', WHERE WHAT IT READS IS OF BULK AT MOST 1048576: true; the input reads as it did. -/
def modelPlaysUptoRow : OpenClaim := { program := "ytolpjncmjokniaadoor", sum := "c8661d0da1222f104ada6d899bc162a16a27ddffc25976585d84927a8700182b", func := "valise/valiselaw08.ModelPlays", spec := "modelPlays", named := ["valise/model.kinds"], apart := false, laid := [("valise/model.kinds", laid_valise_model_kinds)], narrowed := true }
def ModelPlaysUptoSaid : Prop := modelPlaysUptoRow.holds Tryd.pinned (OpenSpec.upto modelPlaysSpec)

/-- 'valiselaw08.ModelLearns', WHERE WHAT IT READS IS OF BULK AT MOST 1048576: true; the input reads as it did. -/
def modelLearnsUptoRow : OpenClaim := { program := "ytolpjncmjokniaadoor", sum := "c8661d0da1222f104ada6d899bc162a16a27ddffc25976585d84927a8700182b", func := "valise/valiselaw08.ModelLearns", spec := "modelLearns", named := ["valise/model.kinds"], apart := false, laid := [("valise/model.kinds", laid_valise_model_kinds)], narrowed := true }
def ModelLearnsUptoSaid : Prop := modelLearnsUptoRow.holds Tryd.pinned (OpenSpec.upto modelLearnsSpec)

/-- 'valiselaw08.ModelNil', WHERE WHAT IT READS IS OF BULK AT MOST 1048576: true; the input reads as it did. -/
def modelNilUptoRow : OpenClaim := { program := "ytolpjncmjokniaadoor", sum := "c8661d0da1222f104ada6d899bc162a16a27ddffc25976585d84927a8700182b", func := "valise/valiselaw08.ModelNil", spec := "modelNil", named := ["valise/model.kinds"], apart := false, laid := [("valise/model.kinds", laid_valise_model_kinds)], narrowed := true }
def ModelNilUptoSaid : Prop := modelNilUptoRow.holds Tryd.pinned (OpenSpec.upto modelNilSpec)

/-- 'valiselaw08.ModelSame', WHERE WHAT IT READS IS OF BULK AT MOST 1048576: true; the input reads as it did. -/
def modelSameUptoRow : OpenClaim := { program := "ytolpjncmjokniaadoor", sum := "c8661d0da1222f104ada6d899bc162a16a27ddffc25976585d84927a8700182b", func := "valise/valiselaw08.ModelSame", spec := "modelSame", named := ["valise/model.kinds"], apart := false, laid := [("valise/model.kinds", laid_valise_model_kinds)], narrowed := true }
def ModelSameUptoSaid : Prop := modelSameUptoRow.holds Tryd.pinned (OpenSpec.upto modelSameSpec)

end Rows
end Go.Proofs.YtolpjncmjokniaaDoor
