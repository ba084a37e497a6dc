/-
  No cell of these rows narrows 'for every input' (looked for: loops, veiled, ifaces, maps, wideKeys, modest, calm, conditions, laid).
  DERIVED. THE GIVEN ROWS OF THIS SEAT. 4 by the template 'for every input the law returns true; each argument reads behind the call as it read before'; 0 by the template 'total and deterministic' (their statements: YtlmhodkdcllcjaaTotals.lean).
  GIVEN WITH THE SEED: the statements are not yours to turn. If you find one false, say at which input.
  Laid BY PROGRAM, IN A SANDBOX (cutbox-rows.mjs): the forced cells as the released guide's own fill.sh prints them over the translation 55fa8613e083c475… (all of the seat's roots in one cut). By AI agents, Wed Nov 11 2026. No macro, syntax, notation, axiom, sorry.
-/
import Derived.Test.YtlmhodkdcllcjaaChecked
import GoSem.Claim
import GoSem.ClaimJoined
import GoSem.ClaimMapViews
import Derived.JoinedTies
import Derived.KernelRfl
namespace Go.Proofs.Ytlmhodkdcllcjaa
/- THE CELL 'sum', in the pinned program and in every row, IS THE sha256 OF THE DUMP (.gsa) THAT YtlmhodkdcllcjaaProg.lean LOADS. Nothing in Lean hashes anything: it is a label: what it is worth is what the hold of that sum in a sandbox is worth. -/
noncomputable def Try.pinned : Pinned := { name := "ytlmhodkdcllcjaa", sum := "55fa8613e083c475294d45ab84bdd458d11a9f49636566efa1f063cdfe238183", checked := Try.checked }
namespace Rows
def none {H : Type} : Left H := { results := [], args := [] }

/-- 'valiselaw16.PictureParses': WHATEVER THE INPUT: true; the input reads as it did. -/
def pictureParsesSpec : ChangeSpec := { name := "pictureParses", fn := fun _ => fun
  | [d] => { results := [.lit (.bool true)], args := [d] }
  | _ => none }
def pictureParsesRow : OpenClaim := { program := "ytlmhodkdcllcjaa", sum := "55fa8613e083c475294d45ab84bdd458d11a9f49636566efa1f063cdfe238183", func := "valise/valiselaw16.PictureParses", spec := "pictureParses", unfollowed := true, recurses := true, apart := false }
def PictureParsesSaid : Prop := pictureParsesRow.holds Try.pinned (OpenSpec.ofChange pictureParsesSpec)

/-- ITS FALSE NEIGHBOUR: 'it returns false'. Refute it at one input. -/
def pictureParsesWrong : ChangeSpec := { name := "pictureParses", fn := fun _ => fun
  | [d] => { results := [.lit (.bool false)], args := [d] }
  | _ => none }
def PictureParsesWrongFalsely : Prop := pictureParsesRow.holds Try.pinned (OpenSpec.ofChange pictureParsesWrong)

/-- 'valiselaw16.PictureWithin': WHATEVER THE INPUT: true; the input reads as it did. -/
def pictureWithinSpec : ChangeSpec := { name := "pictureWithin", fn := fun _ => fun
  | [d] => { results := [.lit (.bool true)], args := [d] }
  | _ => none }
def pictureWithinRow : OpenClaim := { program := "ytlmhodkdcllcjaa", sum := "55fa8613e083c475294d45ab84bdd458d11a9f49636566efa1f063cdfe238183", func := "valise/valiselaw16.PictureWithin", spec := "pictureWithin", apart := false }
def PictureWithinSaid : Prop := pictureWithinRow.holds Try.pinned (OpenSpec.ofChange pictureWithinSpec)

/-- ITS FALSE NEIGHBOUR: 'it returns false'. Refute it at one input. -/
def pictureWithinWrong : ChangeSpec := { name := "pictureWithin", fn := fun _ => fun
  | [d] => { results := [.lit (.bool false)], args := [d] }
  | _ => none }
def PictureWithinWrongFalsely : Prop := pictureWithinRow.holds Try.pinned (OpenSpec.ofChange pictureWithinWrong)

/-- 'valiselaw16.PictureSays': WHATEVER THE INPUT: true; the input reads as it did. -/
def pictureSaysSpec : ChangeSpec := { name := "pictureSays", fn := fun _ => fun
  | [d1, d2, d3, d4, d5, d6] => { results := [.lit (.bool true)], args := [d1, d2, d3, d4, d5, d6] }
  | _ => none }
def pictureSaysRow : OpenClaim := { program := "ytlmhodkdcllcjaa", sum := "55fa8613e083c475294d45ab84bdd458d11a9f49636566efa1f063cdfe238183", func := "valise/valiselaw16.PictureSays", spec := "pictureSays", recurses := true, apart := false }
def PictureSaysSaid : Prop := pictureSaysRow.holds Try.pinned (OpenSpec.ofChange pictureSaysSpec)

/-- ITS FALSE NEIGHBOUR: 'it returns false'. Refute it at one input. -/
def pictureSaysWrong : ChangeSpec := { name := "pictureSays", fn := fun _ => fun
  | [d1, d2, d3, d4, d5, d6] => { results := [.lit (.bool false)], args := [d1, d2, d3, d4, d5, d6] }
  | _ => none }
def PictureSaysWrongFalsely : Prop := pictureSaysRow.holds Try.pinned (OpenSpec.ofChange pictureSaysWrong)

/-- 'valiselaw16.PictureBmp': WHATEVER THE INPUT: true; the input reads as it did. -/
def pictureBmpSpec : ChangeSpec := { name := "pictureBmp", fn := fun _ => fun
  | [d1, d2, d3, d4, d5, d6] => { results := [.lit (.bool true)], args := [d1, d2, d3, d4, d5, d6] }
  | _ => none }
def pictureBmpRow : OpenClaim := { program := "ytlmhodkdcllcjaa", sum := "55fa8613e083c475294d45ab84bdd458d11a9f49636566efa1f063cdfe238183", func := "valise/valiselaw16.PictureBmp", spec := "pictureBmp", apart := false }
def PictureBmpSaid : Prop := pictureBmpRow.holds Try.pinned (OpenSpec.ofChange pictureBmpSpec)

/-- ITS FALSE NEIGHBOUR: 'it returns false'. Refute it at one input. -/
def pictureBmpWrong : ChangeSpec := { name := "pictureBmp", fn := fun _ => fun
  | [d1, d2, d3, d4, d5, d6] => { results := [.lit (.bool false)], args := [d1, d2, d3, d4, d5, d6] }
  | _ => none }
def PictureBmpWrongFalsely : Prop := pictureBmpRow.holds Try.pinned (OpenSpec.ofChange pictureBmpWrong)

/- THE SECOND FORM. 'bulk': how many values and letters a reading holds, each counted each time it is reached (what is shared counts as often as it is met; a slice's spare places count too). A statement '..UptoSaid' is the law's where the arguments, and the package variables that the reading takes, are together of bulk at most 1048576: NARROWER than '..Said'. Prove '..Said' where nothing that the law and all that it calls make is longer than what came in: it says more and counts as full. Else prove '..UptoSaid'. A law counts once. -/
mutual
def uptoBulk {H : Type} : DataW H → Nat
  | .lit (.string bytes) => bytes.length + 1
  | .lit _ => 1
  | .nil => 1
  | .ptr d => uptoBulk d + 1
  | .slice elems spare => uptoBulkAll elems + uptoBulkAll spare + 1
  | .agg parts => uptoBulkAll parts + 1
  | .iface _ d => uptoBulk d + 1
  | .map entries => uptoBulkEntries entries + 1
  | .held _ => 1
def uptoBulkAll {H : Type} : List (DataW H) → Nat
  | [] => 0
  | d :: r => uptoBulk d + uptoBulkAll r
def uptoBulkEntries {H : Type} : List (Lit × DataW H) → Nat
  | [] => 0
  | x :: r => uptoBulkEntry x + uptoBulkEntries r
def uptoBulkEntry {H : Type} : Lit × DataW H → Nat
  | (.string bytes, d) => bytes.length + uptoBulk d + 1
  | (_, d) => uptoBulk d + 1
 end
def uptoSmall : (H : Type) → List (DataW H) → Bool := fun _ ds => decide (uptoBulkAll ds ≤ 1048576)
def OpenSpec.upto (s : _root_.Go.ChangeSpec) : _root_.Go.OpenSpec := { _root_.Go.OpenSpec.ofChange s with cond := some uptoSmall }

/-- 'valiselaw16.PictureParses', WHERE WHAT IT READS IS OF BULK AT MOST 1048576: true; the input reads as it did. -/
def pictureParsesUptoRow : OpenClaim := { program := "ytlmhodkdcllcjaa", sum := "55fa8613e083c475294d45ab84bdd458d11a9f49636566efa1f063cdfe238183", func := "valise/valiselaw16.PictureParses", spec := "pictureParses", unfollowed := true, recurses := true, apart := false, narrowed := true }
def PictureParsesUptoSaid : Prop := pictureParsesUptoRow.holds Try.pinned (OpenSpec.upto pictureParsesSpec)

/-- 'valiselaw16.PictureWithin', WHERE WHAT IT READS IS OF BULK AT MOST 1048576: true; the input reads as it did. -/
def pictureWithinUptoRow : OpenClaim := { program := "ytlmhodkdcllcjaa", sum := "55fa8613e083c475294d45ab84bdd458d11a9f49636566efa1f063cdfe238183", func := "valise/valiselaw16.PictureWithin", spec := "pictureWithin", apart := false, narrowed := true }
def PictureWithinUptoSaid : Prop := pictureWithinUptoRow.holds Try.pinned (OpenSpec.upto pictureWithinSpec)

/-- 'valiselaw16.PictureSays', WHERE WHAT IT READS IS OF BULK AT MOST 1048576: true; the input reads as it did. -/
def pictureSaysUptoRow : OpenClaim := { program := "ytlmhodkdcllcjaa", sum := "55fa8613e083c475294d45ab84bdd458d11a9f49636566efa1f063cdfe238183", func := "valise/valiselaw16.PictureSays", spec := "pictureSays", recurses := true, apart := false, narrowed := true }
def PictureSaysUptoSaid : Prop := pictureSaysUptoRow.holds Try.pinned (OpenSpec.upto pictureSaysSpec)

/-- 'valiselaw16.PictureBmp', WHERE WHAT IT READS IS OF BULK AT MOST 1048576: true; the input reads as it did. -/
def pictureBmpUptoRow : OpenClaim := { program := "ytlmhodkdcllcjaa", sum := "55fa8613e083c475294d45ab84bdd458d11a9f49636566efa1f063cdfe238183", func := "valise/valiselaw16.PictureBmp", spec := "pictureBmp", apart := false, narrowed := true }
def PictureBmpUptoSaid : Prop := pictureBmpUptoRow.holds Try.pinned (OpenSpec.upto pictureBmpSpec)

end Rows
end Go.Proofs.Ytlmhodkdcllcjaa
