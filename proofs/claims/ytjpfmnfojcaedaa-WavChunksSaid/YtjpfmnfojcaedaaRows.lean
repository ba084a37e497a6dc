/-
  No cell of these rows narrows 'for every input' (looked for: loops, veiled, ifaces, maps, wideKeys, modest, calm, conditions, laid).
  DERIVED. THE GIVEN ROWS OF THIS SEAT. 5 by the template 'for every input the law returns true; each argument reads behind the call as it read before'; 0 by the template 'total and deterministic' (their statements: YtjpfmnfojcaedaaTotals.lean).
  GIVEN WITH THE SEED: the statements are not yours to turn. If you find one false, say at which input.
  Laid BY PROGRAM, IN A SANDBOX (cutbox-rows.mjs): the forced cells as the released guide's own fill.sh prints them over the translation 01b7fb8106357a42… (all of the seat's roots in one cut). By AI agents, Wed Nov 11 2026. No macro, syntax, notation, axiom, sorry.
-/
import Derived.Test.YtjpfmnfojcaedaaChecked
import GoSem.Claim
import GoSem.ClaimJoined
import GoSem.ClaimMapViews
import Derived.JoinedTies
import Derived.KernelRfl
namespace Go.Proofs.Ytjpfmnfojcaedaa
/- THE CELL 'sum', in the pinned program and in every row, IS THE sha256 OF THE DUMP (.gsa) THAT YtjpfmnfojcaedaaProg.lean LOADS. Nothing in Lean hashes anything: it is a label: what it is worth is what the hold of that sum in a sandbox is worth. -/
noncomputable def Try.pinned : Pinned := { name := "ytjpfmnfojcaedaa", sum := "01b7fb8106357a428a87c0d9d234dd1cbac83ffc65f7c0bfe03a4e7475822774", checked := Try.checked }
namespace Rows
def none {H : Type} : Left H := { results := [], args := [] }

/-- 'valiselaw13.WavParses': WHATEVER THE INPUT: true; the input reads as it did. -/
def wavParsesSpec : ChangeSpec := { name := "wavParses", fn := fun _ => fun
  | [d] => { results := [.lit (.bool true)], args := [d] }
  | _ => none }
def wavParsesRow : OpenClaim := { program := "ytjpfmnfojcaedaa", sum := "01b7fb8106357a428a87c0d9d234dd1cbac83ffc65f7c0bfe03a4e7475822774", func := "valise/valiselaw13.WavParses", spec := "wavParses", unfollowed := true, recurses := true, apart := false }
def WavParsesSaid : Prop := wavParsesRow.holds Try.pinned (OpenSpec.ofChange wavParsesSpec)

/-- ITS FALSE NEIGHBOUR: 'it returns false'. Refute it at one input. -/
def wavParsesWrong : ChangeSpec := { name := "wavParses", fn := fun _ => fun
  | [d] => { results := [.lit (.bool false)], args := [d] }
  | _ => none }
def WavParsesWrongFalsely : Prop := wavParsesRow.holds Try.pinned (OpenSpec.ofChange wavParsesWrong)

/-- 'valiselaw13.WavMakes': WHATEVER THE INPUT: true; the input reads as it did. -/
def wavMakesSpec : ChangeSpec := { name := "wavMakes", fn := fun _ => fun
  | [d1, d2] => { results := [.lit (.bool true)], args := [d1, d2] }
  | _ => none }
def wavMakesRow : OpenClaim := { program := "ytjpfmnfojcaedaa", sum := "01b7fb8106357a428a87c0d9d234dd1cbac83ffc65f7c0bfe03a4e7475822774", func := "valise/valiselaw13.WavMakes", spec := "wavMakes", unfollowed := true, recurses := true, apart := false }
def WavMakesSaid : Prop := wavMakesRow.holds Try.pinned (OpenSpec.ofChange wavMakesSpec)

/-- ITS FALSE NEIGHBOUR: 'it returns false'. Refute it at one input. -/
def wavMakesWrong : ChangeSpec := { name := "wavMakes", fn := fun _ => fun
  | [d1, d2] => { results := [.lit (.bool false)], args := [d1, d2] }
  | _ => none }
def WavMakesWrongFalsely : Prop := wavMakesRow.holds Try.pinned (OpenSpec.ofChange wavMakesWrong)

/-- 'valiselaw13.WavBack': WHATEVER THE INPUT: true; the input reads as it did. -/
def wavBackSpec : ChangeSpec := { name := "wavBack", fn := fun _ => fun
  | [d1, d2, d3, d4] => { results := [.lit (.bool true)], args := [d1, d2, d3, d4] }
  | _ => none }
def wavBackRow : OpenClaim := { program := "ytjpfmnfojcaedaa", sum := "01b7fb8106357a428a87c0d9d234dd1cbac83ffc65f7c0bfe03a4e7475822774", func := "valise/valiselaw13.WavBack", spec := "wavBack", apart := false }
def WavBackSaid : Prop := wavBackRow.holds Try.pinned (OpenSpec.ofChange wavBackSpec)

/-- ITS FALSE NEIGHBOUR: 'it returns false'. Refute it at one input. -/
def wavBackWrong : ChangeSpec := { name := "wavBack", fn := fun _ => fun
  | [d1, d2, d3, d4] => { results := [.lit (.bool false)], args := [d1, d2, d3, d4] }
  | _ => none }
def WavBackWrongFalsely : Prop := wavBackRow.holds Try.pinned (OpenSpec.ofChange wavBackWrong)

/-- 'valiselaw13.WavWithin': WHATEVER THE INPUT: true; the input reads as it did. -/
def wavWithinSpec : ChangeSpec := { name := "wavWithin", fn := fun _ => fun
  | [d] => { results := [.lit (.bool true)], args := [d] }
  | _ => none }
def wavWithinRow : OpenClaim := { program := "ytjpfmnfojcaedaa", sum := "01b7fb8106357a428a87c0d9d234dd1cbac83ffc65f7c0bfe03a4e7475822774", func := "valise/valiselaw13.WavWithin", spec := "wavWithin", apart := false }
def WavWithinSaid : Prop := wavWithinRow.holds Try.pinned (OpenSpec.ofChange wavWithinSpec)

/-- ITS FALSE NEIGHBOUR: 'it returns false'. Refute it at one input. -/
def wavWithinWrong : ChangeSpec := { name := "wavWithin", fn := fun _ => fun
  | [d] => { results := [.lit (.bool false)], args := [d] }
  | _ => none }
def WavWithinWrongFalsely : Prop := wavWithinRow.holds Try.pinned (OpenSpec.ofChange wavWithinWrong)

/-- 'valiselaw13.WavChunks': WHATEVER THE INPUT: true; the input reads as it did. -/
def wavChunksSpec : ChangeSpec := { name := "wavChunks", fn := fun _ => fun
  | [d1, d2, d3, d4, d5] => { results := [.lit (.bool true)], args := [d1, d2, d3, d4, d5] }
  | _ => none }
def wavChunksRow : OpenClaim := { program := "ytjpfmnfojcaedaa", sum := "01b7fb8106357a428a87c0d9d234dd1cbac83ffc65f7c0bfe03a4e7475822774", func := "valise/valiselaw13.WavChunks", spec := "wavChunks", apart := false }
def WavChunksSaid : Prop := wavChunksRow.holds Try.pinned (OpenSpec.ofChange wavChunksSpec)

/-- ITS FALSE NEIGHBOUR: 'it returns false'. Refute it at one input. -/
def wavChunksWrong : ChangeSpec := { name := "wavChunks", fn := fun _ => fun
  | [d1, d2, d3, d4, d5] => { results := [.lit (.bool false)], args := [d1, d2, d3, d4, d5] }
  | _ => none }
def WavChunksWrongFalsely : Prop := wavChunksRow.holds Try.pinned (OpenSpec.ofChange wavChunksWrong)

/- THE SECOND FORM. 'bulk': how many values and letters a reading holds, each counted each time it is reached (what is shared counts as often as it is met; a slice's spare places count too). A statement '..UptoSaid' is the law's where the arguments, and the package variables that the reading takes, are together of bulk at most 1048576: NARROWER than '..Said'. Prove '..Said' where nothing that the law and all that it calls make is longer than what came in: it says more and counts as full. Else prove '..UptoSaid'. A law counts once. -/
mutual
def uptoBulk {H : Type} : DataW H → Nat
  | .lit (.string bytes) => bytes.length + 1
  | .lit _ => 1
  | .nil => 1
  | .ptr d => uptoBulk d + 1
  | .slice elems spare => uptoBulkAll elems + uptoBulkAll spare + 1
  | .agg parts => uptoBulkAll parts + 1
  | .iface _ d => uptoBulk d + 1
  | .map entries => uptoBulkEntries entries + 1
  | .held _ => 1
def uptoBulkAll {H : Type} : List (DataW H) → Nat
  | [] => 0
  | d :: r => uptoBulk d + uptoBulkAll r
def uptoBulkEntries {H : Type} : List (Lit × DataW H) → Nat
  | [] => 0
  | x :: r => uptoBulkEntry x + uptoBulkEntries r
def uptoBulkEntry {H : Type} : Lit × DataW H → Nat
  | (.string bytes, d) => bytes.length + uptoBulk d + 1
  | (_, d) => uptoBulk d + 1
 end
def uptoSmall : (H : Type) → List (DataW H) → Bool := fun _ ds => decide (uptoBulkAll ds ≤ 1048576)
def OpenSpec.upto (s : _root_.Go.ChangeSpec) : _root_.Go.OpenSpec := { _root_.Go.OpenSpec.ofChange s with cond := some uptoSmall }

/-- 'valiselaw13.WavParses', WHERE WHAT IT READS IS OF BULK AT MOST 1048576: true; the input reads as it did. -/
def wavParsesUptoRow : OpenClaim := { program := "ytjpfmnfojcaedaa", sum := "01b7fb8106357a428a87c0d9d234dd1cbac83ffc65f7c0bfe03a4e7475822774", func := "valise/valiselaw13.WavParses", spec := "wavParses", unfollowed := true, recurses := true, apart := false, narrowed := true }
def WavParsesUptoSaid : Prop := wavParsesUptoRow.holds Try.pinned (OpenSpec.upto wavParsesSpec)

/-- 'valiselaw13.WavMakes', WHERE WHAT IT READS IS OF BULK AT MOST 1048576: true; the input reads as it did. -/
def wavMakesUptoRow : OpenClaim := { program := "ytjpfmnfojcaedaa", sum := "01b7fb8106357a428a87c0d9d234dd1cbac83ffc65f7c0bfe03a4e7475822774", func := "valise/valiselaw13.WavMakes", spec := "wavMakes", unfollowed := true, recurses := true, apart := false, narrowed := true }
def WavMakesUptoSaid : Prop := wavMakesUptoRow.holds Try.pinned (OpenSpec.upto wavMakesSpec)

/-- 'valiselaw13.WavBack', WHERE WHAT IT READS IS OF BULK AT MOST 1048576: true; the input reads as it did. -/
def wavBackUptoRow : OpenClaim := { program := "ytjpfmnfojcaedaa", sum := "01b7fb8106357a428a87c0d9d234dd1cbac83ffc65f7c0bfe03a4e7475822774", func := "valise/valiselaw13.WavBack", spec := "wavBack", apart := false, narrowed := true }
def WavBackUptoSaid : Prop := wavBackUptoRow.holds Try.pinned (OpenSpec.upto wavBackSpec)

/-- 'valiselaw13.WavWithin', WHERE WHAT IT READS IS OF BULK AT MOST 1048576: true; the input reads as it did. -/
def wavWithinUptoRow : OpenClaim := { program := "ytjpfmnfojcaedaa", sum := "01b7fb8106357a428a87c0d9d234dd1cbac83ffc65f7c0bfe03a4e7475822774", func := "valise/valiselaw13.WavWithin", spec := "wavWithin", apart := false, narrowed := true }
def WavWithinUptoSaid : Prop := wavWithinUptoRow.holds Try.pinned (OpenSpec.upto wavWithinSpec)

/-- 'valiselaw13.WavChunks', WHERE WHAT IT READS IS OF BULK AT MOST 1048576: true; the input reads as it did. -/
def wavChunksUptoRow : OpenClaim := { program := "ytjpfmnfojcaedaa", sum := "01b7fb8106357a428a87c0d9d234dd1cbac83ffc65f7c0bfe03a4e7475822774", func := "valise/valiselaw13.WavChunks", spec := "wavChunks", apart := false, narrowed := true }
def WavChunksUptoSaid : Prop := wavChunksUptoRow.holds Try.pinned (OpenSpec.upto wavChunksSpec)

end Rows
end Go.Proofs.Ytjpfmnfojcaedaa
