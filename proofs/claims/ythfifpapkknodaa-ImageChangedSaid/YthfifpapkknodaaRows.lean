/-
  No cell of these rows narrows 'for every input' (looked for: loops, veiled, ifaces, maps, wideKeys, modest, calm, conditions, laid).
  DERIVED. THE GIVEN ROWS OF THIS SEAT. 3 by the template 'for every input the law returns true; each argument reads behind the call as it read before'; 0 by the template 'total and deterministic' (their statements: YthfifpapkknodaaTotals.lean).
  GIVEN WITH THE SEED: the statements are not yours to turn. If you find one false, say at which input.
  Laid BY PROGRAM, IN A SANDBOX (cutbox-rows.mjs): the forced cells as the released guide's own fill.sh prints them over the translation 562e56b4fd280d81… (all of the seat's roots in one cut). By AI agents, Wed Nov 11 2026. No macro, syntax, notation, axiom, sorry.
-/
import Derived.Test.YthfifpapkknodaaChecked
import GoSem.Claim
import GoSem.ClaimJoined
import GoSem.ClaimMapViews
import Derived.JoinedTies
import Derived.KernelRfl
namespace Go.Proofs.Ythfifpapkknodaa
/- THE CELL 'sum', in the pinned program and in every row, IS THE sha256 OF THE DUMP (.gsa) THAT YthfifpapkknodaaProg.lean LOADS. Nothing in Lean hashes anything: it is a label: what it is worth is what the hold of that sum in a sandbox is worth. -/
noncomputable def Try.pinned : Pinned := { name := "ythfifpapkknodaa", sum := "562e56b4fd280d81070d5d29b17b14e23500970dcd0407697c26a1943a3785d2", checked := Try.checked }
namespace Rows
def none {H : Type} : Left H := { results := [], args := [] }

/-- 'valiselaw19.ImageBack': WHATEVER THE INPUT: true; the input reads as it did. -/
def imageBackSpec : ChangeSpec := { name := "imageBack", fn := fun _ => fun
  | [d1, d2] => { results := [.lit (.bool true)], args := [d1, d2] }
  | _ => none }
def imageBackRow : OpenClaim := { program := "ythfifpapkknodaa", sum := "562e56b4fd280d81070d5d29b17b14e23500970dcd0407697c26a1943a3785d2", func := "valise/valiselaw19.ImageBack", spec := "imageBack", unfollowed := true, recurses := true, apart := false }
def ImageBackSaid : Prop := imageBackRow.holds Try.pinned (OpenSpec.ofChange imageBackSpec)

/-- ITS FALSE NEIGHBOUR: 'it returns false'. Refute it at one input. -/
def imageBackWrong : ChangeSpec := { name := "imageBack", fn := fun _ => fun
  | [d1, d2] => { results := [.lit (.bool false)], args := [d1, d2] }
  | _ => none }
def ImageBackWrongFalsely : Prop := imageBackRow.holds Try.pinned (OpenSpec.ofChange imageBackWrong)

/-- 'valiselaw19.ImageTotal': WHATEVER THE INPUT: true; the input reads as it did. -/
def imageTotalSpec : ChangeSpec := { name := "imageTotal", fn := fun _ => fun
  | [d1, d2] => { results := [.lit (.bool true)], args := [d1, d2] }
  | _ => none }
def imageTotalRow : OpenClaim := { program := "ythfifpapkknodaa", sum := "562e56b4fd280d81070d5d29b17b14e23500970dcd0407697c26a1943a3785d2", func := "valise/valiselaw19.ImageTotal", spec := "imageTotal", unfollowed := true, recurses := true, apart := false }
def ImageTotalSaid : Prop := imageTotalRow.holds Try.pinned (OpenSpec.ofChange imageTotalSpec)

/-- ITS FALSE NEIGHBOUR: 'it returns false'. Refute it at one input. -/
def imageTotalWrong : ChangeSpec := { name := "imageTotal", fn := fun _ => fun
  | [d1, d2] => { results := [.lit (.bool false)], args := [d1, d2] }
  | _ => none }
def ImageTotalWrongFalsely : Prop := imageTotalRow.holds Try.pinned (OpenSpec.ofChange imageTotalWrong)

/-- 'valiselaw19.ImageChanged': WHATEVER THE INPUT: true; the input reads as it did. -/
def imageChangedSpec : ChangeSpec := { name := "imageChanged", fn := fun _ => fun
  | [d1, d2, d3, d4] => { results := [.lit (.bool true)], args := [d1, d2, d3, d4] }
  | _ => none }
def imageChangedRow : OpenClaim := { program := "ythfifpapkknodaa", sum := "562e56b4fd280d81070d5d29b17b14e23500970dcd0407697c26a1943a3785d2", func := "valise/valiselaw19.ImageChanged", spec := "imageChanged", unfollowed := true, recurses := true, apart := false }
def ImageChangedSaid : Prop := imageChangedRow.holds Try.pinned (OpenSpec.ofChange imageChangedSpec)

/-- ITS FALSE NEIGHBOUR: 'it returns false'. Refute it at one input. -/
def imageChangedWrong : ChangeSpec := { name := "imageChanged", fn := fun _ => fun
  | [d1, d2, d3, d4] => { results := [.lit (.bool false)], args := [d1, d2, d3, d4] }
  | _ => none }
def ImageChangedWrongFalsely : Prop := imageChangedRow.holds Try.pinned (OpenSpec.ofChange imageChangedWrong)

/- THE SECOND FORM. 'bulk': how many values and letters a reading holds, each counted each time it is reached (what is shared counts as often as it is met; a slice's spare places count too). A statement '..UptoSaid' is the law's where the arguments, and the package variables that the reading takes, are together of bulk at most 1048576: NARROWER than '..Said'. Prove '..Said' where nothing that the law and all that it calls make is longer than what came in: it says more and counts as full. Else prove '..UptoSaid'. A law counts once. -/
mutual
def uptoBulk {H : Type} : DataW H → Nat
  | .lit (.string bytes) => bytes.length + 1
  | .lit _ => 1
  | .nil => 1
  | .ptr d => uptoBulk d + 1
  | .slice elems spare => uptoBulkAll elems + uptoBulkAll spare + 1
  | .agg parts => uptoBulkAll parts + 1
  | .iface _ d => uptoBulk d + 1
  | .map entries => uptoBulkEntries entries + 1
  | .held _ => 1
def uptoBulkAll {H : Type} : List (DataW H) → Nat
  | [] => 0
  | d :: r => uptoBulk d + uptoBulkAll r
def uptoBulkEntries {H : Type} : List (Lit × DataW H) → Nat
  | [] => 0
  | x :: r => uptoBulkEntry x + uptoBulkEntries r
def uptoBulkEntry {H : Type} : Lit × DataW H → Nat
  | (.string bytes, d) => bytes.length + uptoBulk d + 1
  | (_, d) => uptoBulk d + 1
 end
def uptoSmall : (H : Type) → List (DataW H) → Bool := fun _ ds => decide (uptoBulkAll ds ≤ 1048576)
def OpenSpec.upto (s : _root_.Go.ChangeSpec) : _root_.Go.OpenSpec := { _root_.Go.OpenSpec.ofChange s with cond := some uptoSmall }

/-- 'valiselaw19.ImageBack', WHERE WHAT IT READS IS OF BULK AT MOST 1048576: true; the input reads as it did. -/
def imageBackUptoRow : OpenClaim := { program := "ythfifpapkknodaa", sum := "562e56b4fd280d81070d5d29b17b14e23500970dcd0407697c26a1943a3785d2", func := "valise/valiselaw19.ImageBack", spec := "imageBack", unfollowed := true, recurses := true, apart := false, narrowed := true }
def ImageBackUptoSaid : Prop := imageBackUptoRow.holds Try.pinned (OpenSpec.upto imageBackSpec)

/-- 'valiselaw19.ImageTotal', WHERE WHAT IT READS IS OF BULK AT MOST 1048576: true; the input reads as it did. -/
def imageTotalUptoRow : OpenClaim := { program := "ythfifpapkknodaa", sum := "562e56b4fd280d81070d5d29b17b14e23500970dcd0407697c26a1943a3785d2", func := "valise/valiselaw19.ImageTotal", spec := "imageTotal", unfollowed := true, recurses := true, apart := false, narrowed := true }
def ImageTotalUptoSaid : Prop := imageTotalUptoRow.holds Try.pinned (OpenSpec.upto imageTotalSpec)

/-- 'valiselaw19.ImageChanged', WHERE WHAT IT READS IS OF BULK AT MOST 1048576: true; the input reads as it did. -/
def imageChangedUptoRow : OpenClaim := { program := "ythfifpapkknodaa", sum := "562e56b4fd280d81070d5d29b17b14e23500970dcd0407697c26a1943a3785d2", func := "valise/valiselaw19.ImageChanged", spec := "imageChanged", unfollowed := true, recurses := true, apart := false, narrowed := true }
def ImageChangedUptoSaid : Prop := imageChangedUptoRow.holds Try.pinned (OpenSpec.upto imageChangedSpec)

end Rows
end Go.Proofs.Ythfifpapkknodaa
