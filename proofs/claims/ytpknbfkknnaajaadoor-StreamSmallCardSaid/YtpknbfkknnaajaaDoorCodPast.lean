/- The contract of coder.Decoder's Past (a seat in which nothing calls it has no body of it). -/
import Derived.Test.YtpknbfkknnaajaaDoorCodD
namespace Go.Proofs.YtpknbfkknnaajaaDoor
set_option maxRecDepth 100000
open Go.RowKit

attribute [local go_sem ↓] Go.wp_at_zero Go.wp_at_succ

set_option maxHeartbeats 800000 in
theorem past_any (g l h : Nat) (A : Option Addr) (c : Nat) (bs : List Int) (x p : Nat) (w : World) (d : DecC w g l h A c bs x p) (hp : p ≤ 1000000000) :
    Calls Tryd.prog 30 #[.pointer (some ⟨g, 0, none⟩)] w fun e w' => e = .returned (.int .i64 (pastN bs p)) ∧ ∃ n, w' = w.drewN n := by
  have c2 : w.cell? ⟨g, 2, none⟩ = some (.slice A bs.length c) := by simpa [cC] using d.blk.cell 2
  have c4 : w.cell? ⟨g, 4, none⟩ = some (.int .i64 p) := by simpa [cC] using d.blk.cell 4
  have hsm := d.small
  clear d
  have e1 : IntKind.i64.wrap (4 + (p : Int)) = 4 + (p : Int) := IntWalk.i64_in _ (by omega)
  have e2 : IntKind.i64.wrap (4 + (p : Int) - bs.length) = 4 + (p : Int) - bs.length := IntWalk.i64_in _ (by omega)
  go_enter Tryd.func30, Tryd.ntmps30
  go_wp2
  go_quiet (fail)
  go_wp2
  go_ret
  exact ⟨rfl, _, rfl⟩

end Go.Proofs.YtpknbfkknnaajaaDoor
