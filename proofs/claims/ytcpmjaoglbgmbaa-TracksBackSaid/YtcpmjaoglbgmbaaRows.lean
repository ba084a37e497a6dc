/-
  No cell of these rows narrows 'for every input' (looked for: loops, veiled, ifaces, maps, wideKeys, modest, calm, conditions, laid).
  DERIVED. THE GIVEN ROWS OF THIS SEAT. 4 by the template 'for every input the law returns true; each argument reads behind the call as it read before'; 0 by the template 'total and deterministic' (their statements: YtcpmjaoglbgmbaaTotals.lean).
  GIVEN WITH THE SEED: the statements are not yours to turn. If you find one false, say at which input.
  Laid BY PROGRAM, IN A SANDBOX (cutbox-rows.mjs): the forced cells as the released guide's own fill.sh prints them over the translation 4a714d24097d40d2… (all of the seat's roots in one cut). By AI agents, Wed Nov 11 2026. No macro, syntax, notation, axiom, sorry.
-/
import Derived.Test.YtcpmjaoglbgmbaaChecked
import GoSem.Claim
import GoSem.ClaimJoined
import GoSem.ClaimMapViews
import Derived.JoinedTies
import Derived.KernelRfl
namespace Go.Proofs.Ytcpmjaoglbgmbaa
/- THE CELL 'sum', in the pinned program and in every row, IS THE sha256 OF THE DUMP (.gsa) THAT YtcpmjaoglbgmbaaProg.lean LOADS. Nothing in Lean hashes anything: it is a label: what it is worth is what the hold of that sum in a sandbox is worth. -/
noncomputable def Try.pinned : Pinned := { name := "ytcpmjaoglbgmbaa", sum := "4a714d24097d40d20626bc0b9b997c51c9751a250ba64d28decca14fe139434a", checked := Try.checked }
namespace Rows
def none {H : Type} : Left H := { results := [], args := [] }

/-- 'valiselaw14.TracksSplit': WHATEVER THE INPUT: true; the input reads as it did. -/
def tracksSplitSpec : ChangeSpec := { name := "tracksSplit", fn := fun _ => fun
  | [d1, d2, d3] => { results := [.lit (.bool true)], args := [d1, d2, d3] }
  | _ => none }
def tracksSplitRow : OpenClaim := { program := "ytcpmjaoglbgmbaa", sum := "4a714d24097d40d20626bc0b9b997c51c9751a250ba64d28decca14fe139434a", func := "valise/valiselaw14.TracksSplit", spec := "tracksSplit", unfollowed := true, recurses := true, apart := false }
def TracksSplitSaid : Prop := tracksSplitRow.holds Try.pinned (OpenSpec.ofChange tracksSplitSpec)

/-- ITS FALSE NEIGHBOUR: 'it returns false'. Refute it at one input. -/
def tracksSplitWrong : ChangeSpec := { name := "tracksSplit", fn := fun _ => fun
  | [d1, d2, d3] => { results := [.lit (.bool false)], args := [d1, d2, d3] }
  | _ => none }
def TracksSplitWrongFalsely : Prop := tracksSplitRow.holds Try.pinned (OpenSpec.ofChange tracksSplitWrong)

/-- 'valiselaw14.TracksJoin': WHATEVER THE INPUT: true; the input reads as it did. -/
def tracksJoinSpec : ChangeSpec := { name := "tracksJoin", fn := fun _ => fun
  | [d1, d2] => { results := [.lit (.bool true)], args := [d1, d2] }
  | _ => none }
def tracksJoinRow : OpenClaim := { program := "ytcpmjaoglbgmbaa", sum := "4a714d24097d40d20626bc0b9b997c51c9751a250ba64d28decca14fe139434a", func := "valise/valiselaw14.TracksJoin", spec := "tracksJoin", apart := false }
def TracksJoinSaid : Prop := tracksJoinRow.holds Try.pinned (OpenSpec.ofChange tracksJoinSpec)

/-- ITS FALSE NEIGHBOUR: 'it returns false'. Refute it at one input. -/
def tracksJoinWrong : ChangeSpec := { name := "tracksJoin", fn := fun _ => fun
  | [d1, d2] => { results := [.lit (.bool false)], args := [d1, d2] }
  | _ => none }
def TracksJoinWrongFalsely : Prop := tracksJoinRow.holds Try.pinned (OpenSpec.ofChange tracksJoinWrong)

/-- 'valiselaw14.TracksMid': WHATEVER THE INPUT: true; the input reads as it did. -/
def tracksMidSpec : ChangeSpec := { name := "tracksMid", fn := fun _ => fun
  | [d1, d2] => { results := [.lit (.bool true)], args := [d1, d2] }
  | _ => none }
def tracksMidRow : OpenClaim := { program := "ytcpmjaoglbgmbaa", sum := "4a714d24097d40d20626bc0b9b997c51c9751a250ba64d28decca14fe139434a", func := "valise/valiselaw14.TracksMid", spec := "tracksMid", unfollowed := true, recurses := true, apart := false }
def TracksMidSaid : Prop := tracksMidRow.holds Try.pinned (OpenSpec.ofChange tracksMidSpec)

/-- ITS FALSE NEIGHBOUR: 'it returns false'. Refute it at one input. -/
def tracksMidWrong : ChangeSpec := { name := "tracksMid", fn := fun _ => fun
  | [d1, d2] => { results := [.lit (.bool false)], args := [d1, d2] }
  | _ => none }
def TracksMidWrongFalsely : Prop := tracksMidRow.holds Try.pinned (OpenSpec.ofChange tracksMidWrong)

/-- 'valiselaw14.TracksBack': WHATEVER THE INPUT: true; the input reads as it did. -/
def tracksBackSpec : ChangeSpec := { name := "tracksBack", fn := fun _ => fun
  | [d1, d2, d3, d4, d5] => { results := [.lit (.bool true)], args := [d1, d2, d3, d4, d5] }
  | _ => none }
def tracksBackRow : OpenClaim := { program := "ytcpmjaoglbgmbaa", sum := "4a714d24097d40d20626bc0b9b997c51c9751a250ba64d28decca14fe139434a", func := "valise/valiselaw14.TracksBack", spec := "tracksBack", unfollowed := true, recurses := true, apart := false }
def TracksBackSaid : Prop := tracksBackRow.holds Try.pinned (OpenSpec.ofChange tracksBackSpec)

/-- ITS FALSE NEIGHBOUR: 'it returns false'. Refute it at one input. -/
def tracksBackWrong : ChangeSpec := { name := "tracksBack", fn := fun _ => fun
  | [d1, d2, d3, d4, d5] => { results := [.lit (.bool false)], args := [d1, d2, d3, d4, d5] }
  | _ => none }
def TracksBackWrongFalsely : Prop := tracksBackRow.holds Try.pinned (OpenSpec.ofChange tracksBackWrong)

/- THE SECOND FORM. 'bulk': how many values and letters a reading holds, each counted each time it is reached (what is shared counts as often as it is met; a slice's spare places count too). A statement '..UptoSaid' is the law's where the arguments, and the package variables that the reading takes, are together of bulk at most 1048576: NARROWER than '..Said'. Prove '..Said' where nothing that the law and all that it calls make is longer than what came in: it says more and counts as full. Else prove '..UptoSaid'. A law counts once. -/
mutual
def uptoBulk {H : Type} : DataW H → Nat
  | .lit (.string bytes) => bytes.length + 1
  | .lit _ => 1
  | .nil => 1
  | .ptr d => uptoBulk d + 1
  | .slice elems spare => uptoBulkAll elems + uptoBulkAll spare + 1
  | .agg parts => uptoBulkAll parts + 1
  | .iface _ d => uptoBulk d + 1
  | .map entries => uptoBulkEntries entries + 1
  | .held _ => 1
def uptoBulkAll {H : Type} : List (DataW H) → Nat
  | [] => 0
  | d :: r => uptoBulk d + uptoBulkAll r
def uptoBulkEntries {H : Type} : List (Lit × DataW H) → Nat
  | [] => 0
  | x :: r => uptoBulkEntry x + uptoBulkEntries r
def uptoBulkEntry {H : Type} : Lit × DataW H → Nat
  | (.string bytes, d) => bytes.length + uptoBulk d + 1
  | (_, d) => uptoBulk d + 1
 end
def uptoSmall : (H : Type) → List (DataW H) → Bool := fun _ ds => decide (uptoBulkAll ds ≤ 1048576)
def OpenSpec.upto (s : _root_.Go.ChangeSpec) : _root_.Go.OpenSpec := { _root_.Go.OpenSpec.ofChange s with cond := some uptoSmall }

/-- 'valiselaw14.TracksSplit', WHERE WHAT IT READS IS OF BULK AT MOST 1048576: true; the input reads as it did. -/
def tracksSplitUptoRow : OpenClaim := { program := "ytcpmjaoglbgmbaa", sum := "4a714d24097d40d20626bc0b9b997c51c9751a250ba64d28decca14fe139434a", func := "valise/valiselaw14.TracksSplit", spec := "tracksSplit", unfollowed := true, recurses := true, apart := false, narrowed := true }
def TracksSplitUptoSaid : Prop := tracksSplitUptoRow.holds Try.pinned (OpenSpec.upto tracksSplitSpec)

/-- 'valiselaw14.TracksJoin', WHERE WHAT IT READS IS OF BULK AT MOST 1048576: true; the input reads as it did. -/
def tracksJoinUptoRow : OpenClaim := { program := "ytcpmjaoglbgmbaa", sum := "4a714d24097d40d20626bc0b9b997c51c9751a250ba64d28decca14fe139434a", func := "valise/valiselaw14.TracksJoin", spec := "tracksJoin", apart := false, narrowed := true }
def TracksJoinUptoSaid : Prop := tracksJoinUptoRow.holds Try.pinned (OpenSpec.upto tracksJoinSpec)

/-- 'valiselaw14.TracksMid', WHERE WHAT IT READS IS OF BULK AT MOST 1048576: true; the input reads as it did. -/
def tracksMidUptoRow : OpenClaim := { program := "ytcpmjaoglbgmbaa", sum := "4a714d24097d40d20626bc0b9b997c51c9751a250ba64d28decca14fe139434a", func := "valise/valiselaw14.TracksMid", spec := "tracksMid", unfollowed := true, recurses := true, apart := false, narrowed := true }
def TracksMidUptoSaid : Prop := tracksMidUptoRow.holds Try.pinned (OpenSpec.upto tracksMidSpec)

/-- 'valiselaw14.TracksBack', WHERE WHAT IT READS IS OF BULK AT MOST 1048576: true; the input reads as it did. -/
def tracksBackUptoRow : OpenClaim := { program := "ytcpmjaoglbgmbaa", sum := "4a714d24097d40d20626bc0b9b997c51c9751a250ba64d28decca14fe139434a", func := "valise/valiselaw14.TracksBack", spec := "tracksBack", unfollowed := true, recurses := true, apart := false, narrowed := true }
def TracksBackUptoSaid : Prop := tracksBackUptoRow.holds Try.pinned (OpenSpec.upto tracksBackSpec)

end Rows
end Go.Proofs.Ytcpmjaoglbgmbaa
