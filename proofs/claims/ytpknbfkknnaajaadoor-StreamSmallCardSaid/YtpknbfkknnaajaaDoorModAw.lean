/- What the listed variable gives (Kin), a start that meets the condition, and the contract of valiselaw08.awake. -/
import Derived.Test.YtpknbfkknnaajaaDoorModO
import Derived.Test.YtpknbfkknnaajaaDoorLaw
import Derived.LaidMore
import Derived.Stop.Joined
namespace Go.Proofs.YtpknbfkknnaajaaDoor
set_option maxRecDepth 100000
open Go.ChangeShapes Go.WideShapes Go.ChangeAt Go.RowKit

attribute [local go_sem ↓] Go.wp_at_zero Go.wp_at_succ

def laidK : List (String × DataW Unit) := [("valise/model.kinds", Rows.laid_valise_model_kinds)]
theorem gKinds : Tryd.prog.globalNamed "valise/model.kinds" = some 0 := by kernel_rfl
theorem tKinds : (Tryd.prog.globals[0]?).map (·.type) = some 126 := by kernel_rfl
theorem cInt : Tryd.prog.cellsOf 3 = 1 := by kernel_rfl
theorem cKind : Tryd.prog.cellsOf 125 = 2 := by kernel_rfl
theorem cKinds : Tryd.prog.cellsOf 126 = 6 := by kernel_rfl

/-- The door's own heap meets the condition. -/
theorem door_met (os : Os) (args : Array Value) : laidMetH Tryd.prog laidK ((World.doorLaid Tryd.prog 17 os).forCall (fun _ _ => 0) ⟨#[], args, []⟩).memory :=
  laidMetH_of_parts3 (fuel := 8) (laidMet_of_run' 8 (by kernel_rfl) (by kernel_rfl)) (by kernel_rfl) (by kernel_rfl)

theorem kind_of {H : Type} {enc : TypeId × Value → H} {W : World} {base : Nat} {sp : Nat → Bool} {held : Bool} {m : Nat} {a b : Value} {x : DataW H × List MemPlace} (h : DataW.trod enc Tryd.prog W base sp held m 125 [a, b] = some x) :
    ∃ i j, a = .int .i64 i ∧ b = .int .i64 j ∧ x.1 = .agg [.lit (.int .i64 i), .lit (.int .i64 j)] := by
  obtain ⟨ys, n, rfl, rfl, _, hl, hg⟩ := DataW.trod_struct Tryd.underlying125 h
  have h0 : DataW.trod enc Tryd.prog W base sp held n 3 (([a, b].drop 0).take (Tryd.prog.cellsOf 3)) = ys[0]? := hg 0 _ rfl
  have h1 : DataW.trod enc Tryd.prog W base sp held n 3 (([a, b].drop 1).take (Tryd.prog.cellsOf 3)) = ys[1]? := hg 1 _ rfl
  match ys, hl, h0, h1 with
  | [y0, y1], _, h0, h1 =>
    obtain ⟨i, e1, rfl, _⟩ := DataW.trod_int Tryd.underlying3 (show DataW.trod _ Tryd.prog W base sp held n 3 _ = some y0 from h0)
    obtain ⟨j, e2, rfl, _⟩ := DataW.trod_int Tryd.underlying3 (show DataW.trod _ Tryd.prog W base sp held n 3 _ = some y1 from h1)
    rw [cInt] at e1 e2
    simp at e1 e2
    exact ⟨i, j, e1, e2, rfl⟩

/-- What the condition gives. -/
theorem kin_of_laid {W : World} (h : laidMetH Tryd.prog laidK W) : Kin W := by
  rw [MakeChecks.laidMetH_plain _ _ _ (by kernel_rfl)] at h
  obtain ⟨ps, ⟨g0, t0, cs0, f0, p0, q0, hg0, ht0, hv0, hd0, _, _⟩, _, _⟩ := h
  obtain rfl := Option.some.inj (gKinds.symm.trans hg0)
  obtain rfl := Option.some.inj (tKinds.symm.trans ht0)
  obtain ⟨xs, m, rfl, hx, hlen, hn, hel⟩ := DataW.trod_array Tryd.underlying126 hd0
  rw [cKinds] at hlen
  have h0 := hel 0 (by decide)
  have h1 := hel 1 (by decide)
  have h2 := hel 2 (by decide)
  rw [cKind] at h0 h1 h2
  obtain ⟨l⟩ := cs0
  match xs, hn, l, hlen, hx, h0, h1, h2 with
  | [x0, x1, x2], _, [a, b, c, d, e, f], _, hx, h0, h1, h2 =>
    obtain ⟨i0, j0, rfl, rfl, e0⟩ := kind_of (show DataW.trod _ Tryd.prog W 0 _ false m 125 [a, b] = some x0 from h0)
    obtain ⟨i1, j1, rfl, rfl, e1⟩ := kind_of (show DataW.trod _ Tryd.prog W 0 _ false m 125 [c, d] = some x1 from h1)
    obtain ⟨i2, j2, rfl, rfl, e2⟩ := kind_of (show DataW.trod _ Tryd.prog W 0 _ false m 125 [e, f] = some x2 from h2)
    simp only [List.map_cons, List.map_nil, e0, e1, e2, Rows.laid_valise_model_kinds, Prod.mk.injEq, DataW.agg.injEq, List.cons.injEq, DataW.lit.injEq, Lit.int.injEq, true_and, and_true] at hx
    obtain ⟨⟨⟨rfl, rfl⟩, ⟨rfl, rfl⟩, ⟨rfl, rfl⟩⟩, _⟩ := hx
    simp only [World.var?, gKinds, Option.bind_some] at hv0
    split at hv0
    · rename_i cs t fr hh
      injection hv0 with hv0
      subst hv0
      exact ⟨t, fr, hh⟩
    · cases hv0

/-- What is left of a model in a world further on. -/
theorem Kept.new {lo hi : Nat} {w w1 w2 : World} (hf : Fresh w w1) (hk : Kept (fun k => lo ≤ k ∧ k < hi) w1 w2) (h : w.heap.size ≤ lo) : Fresh w w2 := hf.trans hk (fun i hi' e => by omega)

theorem Mdl.wide {F G : Nat → Prop} {w : World} {g lv : Nat} {m : Mo} (h : Mdl F w g lv m) (h1 : ∀ k, F k → G k) (h2 : ∀ k, G k → 0 < k) : Mdl G w g lv m := by
  obtain ⟨d, s, I, t, q, u, hb, hp, hu, hf, hl, hki, hd, hg, hF⟩ := h
  exact ⟨d, s, I, t, q, u, hb, hp, hu, hf, hl, hki, fun k e => h1 k (hd k e), h1 g hg, h2⟩

theorem mo0_chance : mo0.chance 0 = 2048 := by decide +kernel


end Go.Proofs.YtpknbfkknnaajaaDoor
