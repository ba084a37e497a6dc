/- The contract of num.Reader's Text: it goes ahead by a trial, which is settled behind it. -/
import Derived.Test.YtbbkdgbgfncjaaaNumR3
namespace Go.Proofs.Ytbbkdgbgfncjaaa
open Go.RowKit
set_option maxRecDepth 100000





theorem mine_of_trial {w w0 w2 w3 : World} {g gt : Nat} (h : w.heap.size ≤ gt) (h0 : Fresh w w0) (h1 : Mine gt w0 w2) (h2 : Mine g w2 w3) : Mine g w w3 :=
  ((h0.mono (T := fun k => k = g) fun _ _ h => h.elim).trans h1 (fun i hi e => by omega)).trans h2 fun _ _ h => h

/-- The next text: it, the place, and the fault behind. -/
def txt (bs : List Int) (p : Nat) (err most : Int) : List Int × Nat × Int :=
  if max most 0 < ((nx bs p err).1 : Int) then ([], p, 4) else
    ((tk bs (nx bs p err).2.1 (nx bs p err).2.2 (nx bs p err).1).1, if (tk bs (nx bs p err).2.1 (nx bs p err).2.2 (nx bs p err).1).2.2 = 0 then (tk bs (nx bs p err).2.1 (nx bs p err).2.2 (nx bs p err).1).2.1 else p, (tk bs (nx bs p err).2.1 (nx bs p err).2.2 (nx bs p err).1).2.2)



end Go.Proofs.Ytbbkdgbgfncjaaa
