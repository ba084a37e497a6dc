/-
  No cell of these rows narrows 'for every input' (looked for: loops, veiled, ifaces, maps, wideKeys, modest, calm, conditions, laid).
  DERIVED. THE GIVEN ROWS OF THIS SEAT. 3 by the template 'for every input the law returns true; each argument reads behind the call as it read before'; 0 by the template 'total and deterministic' (their statements: YtodmchjdflpbpaaGreatTotals.lean).
  GIVEN WITH THE SEED: the statements are not yours to turn. If you find one false, say at which input.
  Laid BY PROGRAM, IN A SANDBOX (cutbox-rows.mjs): the forced cells as the released guide's own fill.sh prints them over the translation 0523d4c55a3fdfe1… (all of the seat's roots in one cut). By AI agents, Wed Nov 11 2026. No macro, syntax, notation, axiom, sorry.
-/
import Derived.Test.YtodmchjdflpbpaaGreatChecked
import GoSem.Claim
import GoSem.ClaimJoined
import GoSem.ClaimMapViews
import Derived.JoinedTies
import Derived.KernelRfl
namespace Go.Proofs.YtodmchjdflpbpaaGreat
/- THE CELL 'sum', in the pinned program and in every row, IS THE sha256 OF THE DUMP (.gsa) THAT YtodmchjdflpbpaaGreatProg.lean LOADS. Nothing in Lean hashes anything: it is a label: what it is worth is what the hold of that sum in a sandbox is worth. -/
noncomputable def Tryz.pinned : Pinned := { name := "ytodmchjdflpbpaagreat", sum := "0523d4c55a3fdfe1d65790d5fc87b8cec919026800cdaeb1049c4ac822425102", checked := Tryz.checked }
namespace Rows
def none {H : Type} : Left H := { results := [], args := [] }

/-- 'valiselaw15.AudioBack': WHATEVER THE INPUT: true; the input reads as it did. -/
def audioBackSpec : ChangeSpec := { name := "audioBack", fn := fun _ => fun
  | [d1, d2] => { results := [.lit (.bool true)], args := [d1, d2] }
  | _ => none }
def audioBackRow : OpenClaim := { program := "ytodmchjdflpbpaagreat", sum := "0523d4c55a3fdfe1d65790d5fc87b8cec919026800cdaeb1049c4ac822425102", func := "valise/valiselaw15.AudioBack", spec := "audioBack", unfollowed := true, recurses := true, apart := false }
def AudioBackSaid : Prop := audioBackRow.holds Tryz.pinned (OpenSpec.ofChange audioBackSpec)

/-- ITS FALSE NEIGHBOUR: 'it returns false'. Refute it at one input. -/
def audioBackWrong : ChangeSpec := { name := "audioBack", fn := fun _ => fun
  | [d1, d2] => { results := [.lit (.bool false)], args := [d1, d2] }
  | _ => none }
def AudioBackWrongFalsely : Prop := audioBackRow.holds Tryz.pinned (OpenSpec.ofChange audioBackWrong)

/-- 'valiselaw15.AudioTotal': WHATEVER THE INPUT: true; the input reads as it did. -/
def audioTotalSpec : ChangeSpec := { name := "audioTotal", fn := fun _ => fun
  | [d1, d2] => { results := [.lit (.bool true)], args := [d1, d2] }
  | _ => none }
def audioTotalRow : OpenClaim := { program := "ytodmchjdflpbpaagreat", sum := "0523d4c55a3fdfe1d65790d5fc87b8cec919026800cdaeb1049c4ac822425102", func := "valise/valiselaw15.AudioTotal", spec := "audioTotal", unfollowed := true, recurses := true, apart := false }
def AudioTotalSaid : Prop := audioTotalRow.holds Tryz.pinned (OpenSpec.ofChange audioTotalSpec)

/-- ITS FALSE NEIGHBOUR: 'it returns false'. Refute it at one input. -/
def audioTotalWrong : ChangeSpec := { name := "audioTotal", fn := fun _ => fun
  | [d1, d2] => { results := [.lit (.bool false)], args := [d1, d2] }
  | _ => none }
def AudioTotalWrongFalsely : Prop := audioTotalRow.holds Tryz.pinned (OpenSpec.ofChange audioTotalWrong)

/-- 'valiselaw15.AudioChanged': WHATEVER THE INPUT: true; the input reads as it did. -/
def audioChangedSpec : ChangeSpec := { name := "audioChanged", fn := fun _ => fun
  | [d1, d2, d3, d4, d5, d6] => { results := [.lit (.bool true)], args := [d1, d2, d3, d4, d5, d6] }
  | _ => none }
def audioChangedRow : OpenClaim := { program := "ytodmchjdflpbpaagreat", sum := "0523d4c55a3fdfe1d65790d5fc87b8cec919026800cdaeb1049c4ac822425102", func := "valise/valiselaw15.AudioChanged", spec := "audioChanged", unfollowed := true, recurses := true, apart := false }
def AudioChangedSaid : Prop := audioChangedRow.holds Tryz.pinned (OpenSpec.ofChange audioChangedSpec)

/-- ITS FALSE NEIGHBOUR: 'it returns false'. Refute it at one input. -/
def audioChangedWrong : ChangeSpec := { name := "audioChanged", fn := fun _ => fun
  | [d1, d2, d3, d4, d5, d6] => { results := [.lit (.bool false)], args := [d1, d2, d3, d4, d5, d6] }
  | _ => none }
def AudioChangedWrongFalsely : Prop := audioChangedRow.holds Tryz.pinned (OpenSpec.ofChange audioChangedWrong)

/- THE SECOND FORM. 'bulk': how many values and letters a reading holds, each counted each time it is reached (what is shared counts as often as it is met; a slice's spare places count too). A statement '..UptoSaid' is the law's where the arguments, and the package variables that the reading takes, are together of bulk at most 1048576: NARROWER than '..Said'. Prove '..Said' where nothing that the law and all that it calls make is longer than what came in: it says more and counts as full. Else prove '..UptoSaid'. A law counts once. -/
mutual
def uptoBulk {H : Type} : DataW H → Nat
  | .lit (.string bytes) => bytes.length + 1
  | .lit _ => 1
  | .nil => 1
  | .ptr d => uptoBulk d + 1
  | .slice elems spare => uptoBulkAll elems + uptoBulkAll spare + 1
  | .agg parts => uptoBulkAll parts + 1
  | .iface _ d => uptoBulk d + 1
  | .map entries => uptoBulkEntries entries + 1
  | .held _ => 1
def uptoBulkAll {H : Type} : List (DataW H) → Nat
  | [] => 0
  | d :: r => uptoBulk d + uptoBulkAll r
def uptoBulkEntries {H : Type} : List (Lit × DataW H) → Nat
  | [] => 0
  | x :: r => uptoBulkEntry x + uptoBulkEntries r
def uptoBulkEntry {H : Type} : Lit × DataW H → Nat
  | (.string bytes, d) => bytes.length + uptoBulk d + 1
  | (_, d) => uptoBulk d + 1
 end
def uptoSmall : (H : Type) → List (DataW H) → Bool := fun _ ds => decide (uptoBulkAll ds ≤ 1048576)
def OpenSpec.upto (s : _root_.Go.ChangeSpec) : _root_.Go.OpenSpec := { _root_.Go.OpenSpec.ofChange s with cond := some uptoSmall }

/-- 'valiselaw15.AudioBack', WHERE WHAT IT READS IS OF BULK AT MOST 1048576: true; the input reads as it did. -/
def audioBackUptoRow : OpenClaim := { program := "ytodmchjdflpbpaagreat", sum := "0523d4c55a3fdfe1d65790d5fc87b8cec919026800cdaeb1049c4ac822425102", func := "valise/valiselaw15.AudioBack", spec := "audioBack", unfollowed := true, recurses := true, apart := false, narrowed := true }
def AudioBackUptoSaid : Prop := audioBackUptoRow.holds Tryz.pinned (OpenSpec.upto audioBackSpec)

/-- 'valiselaw15.AudioTotal', WHERE WHAT IT READS IS OF BULK AT MOST 1048576: true; the input reads as it did. -/
def audioTotalUptoRow : OpenClaim := { program := "ytodmchjdflpbpaagreat", sum := "0523d4c55a3fdfe1d65790d5fc87b8cec919026800cdaeb1049c4ac822425102", func := "valise/valiselaw15.AudioTotal", spec := "audioTotal", unfollowed := true, recurses := true, apart := false, narrowed := true }
def AudioTotalUptoSaid : Prop := audioTotalUptoRow.holds Tryz.pinned (OpenSpec.upto audioTotalSpec)

/-- 'valiselaw15.AudioChanged', WHERE WHAT IT READS IS OF BULK AT MOST 1048576: true; the input reads as it did. -/
def audioChangedUptoRow : OpenClaim := { program := "ytodmchjdflpbpaagreat", sum := "0523d4c55a3fdfe1d65790d5fc87b8cec919026800cdaeb1049c4ac822425102", func := "valise/valiselaw15.AudioChanged", spec := "audioChanged", unfollowed := true, recurses := true, apart := false, narrowed := true }
def AudioChangedUptoSaid : Prop := audioChangedUptoRow.holds Tryz.pinned (OpenSpec.upto audioChangedSpec)

end Rows
end Go.Proofs.YtodmchjdflpbpaaGreat
