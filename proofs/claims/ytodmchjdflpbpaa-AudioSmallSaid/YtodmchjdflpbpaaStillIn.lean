/- A region that draws its order, in a round of a range over an iterator: what is shown of all its orders outside any round serves there. -/
import Derived.StillTailTactics
import Derived.Test.YtodmchjdflpbpaaRangeKit
namespace Go.Proofs.Ytodmchjdflpbpaa
open Go.RowKit Go.Shelf
set_option maxRecDepth 100000

/-- Nothing but what is normal. -/
def Calm (Q : Exit → Act → World → Prop) : Exit → Act → World → Prop := fun e a w => match e with | .normal => Q .normal a w | _ => False

theorem wpIn_calm {P : Program} {m : Nat} {c : Code} {Q : Exit → Act → World → Prop} {a : Act} {w : World} (h : Code.wp P c (Calm Q) a w) : Code.wpIn Fence.wide m P c Q a w :=
  wpIn_wide.2 (wp_mono h fun e a w hq => by cases e <;> first | exact hq | exact hq.elim)
theorem Calm.of {Q : Exit → Act → World → Prop} {a : Act} {w : World} (h : Q .normal a w) : Calm Q .normal a w := h

section
variable {P : Program} {ops : Array Oper} {L m : Nat} {Q : Exit → Act → World → Prop}

/-- No operation defers. -/
def NoDefer (ops : Array Oper) : Prop := ∀ (i : Nat) o c, ops[i]? = some o → o.op ≠ .defer c
theorem NoDefer.of {l : List Oper} (h : (l.all fun o => match o.op with | .defer _ => false | _ => true) = true) : NoDefer l.toArray := fun i o c ho e => by
  have := List.all_eq_true.1 h o (List.mem_of_getElem? (by simpa using ho))
  rw [e] at this
  cases this

theorem upon_round {o : Oper} {a : Act} {K : Act → World → Prop} {r : Result Next} (h : o.upon P a K Q r) : o.uponIn (Fence.wide.inRound L) m P a K Q r := by
  rcases r with ⟨x, w'⟩ | ⟨x, w'⟩
  · cases x with
    | enter f args => exact ⟨fun e => (by cases e), callsIn_wide.2 h⟩
    | row s args => exact ⟨fun e => (by cases e), fun c cs _ => let ⟨v, w'', k, st⟩ := h c cs; ⟨v, w'', k, stepsIn_wide.2 st⟩⟩
    | round _ _ _ _ _ => exact h.elim
    | _ => exact h
  · cases x <;> exact h

theorem op_round {i : Nat} {K : Act → World → Prop} {a : Act} {w : World} (hnd : NoDefer ops) (h : wpOp P ops (Calm Q) i K a w) : wpOpIn (Fence.wide.inRound L) m P ops (Calm Q) i K a w := by
  unfold wpOp at h
  unfold wpOpIn
  cases ho : ops[i]? with
  | none => simpa only [ho] using h
  | some o =>
    simp only [ho] at h ⊢
    by_cases hw : Region.wanted o (yielded ops a.tmps) = true
    · rw [if_pos hw] at h ⊢
      rcases h with h | ⟨_, h⟩
      · refine ⟨fun _ _ => trivial, ?_⟩
        rw [Oper.semAt_plain _ _ _ (fun c => hnd i o c ho)]
        exact upon_round h
      · obtain ⟨_, _, h⟩ := h
        exact h.elim
    · rw [if_neg hw] at h ⊢
      exact ⟨fun _ _ => trivial, h⟩

theorem any_round {md : Region.Mode} (hnd : NoDefer ops) : ∀ (fuel : Nat) (listed : Array Bool) (a : Act) (w : World), wpAny P md ops (Calm Q) fuel listed a w → wpAnyIn (Fence.wide.inRound L) m P md ops (Calm Q) fuel listed a w
  | 0, _, _, _, h => h
  | f + 1, _, _, _, h => ⟨h.1, fun i hi => op_round hnd (wpOp_mono (fun a w => any_round hnd f _ a w) (h.2 i hi))⟩

/-- All its orders, each without a panic. -/
theorem wpIn_region_plain {id : Nat} {a : Act} {w : World} (hm : P.follows .mixedOrders = true) (hnd : NoDefer ops)
    (h : wpAny P .any ops (Calm Q) ops.size (Array.replicate ops.size false) a w.drew) : (Code.region id ops true).wpIn (Fence.wide.inRound L) m P Q a w :=
  wpIn_mono (wpIn_region_any hm (any_round hnd _ _ _ _ h)) fun e a w hq => by
    cases e <;> first | exact hq | exact hq.elim

/-- The first k operations only read (or call what only reads), the others come in one order. -/
theorem wpIn_region_tail {id : Nat} {a : Act} {w : World} {l : List Oper} (k : Nat) (hm : P.follows .mixedOrders = true) (hB : Region.lexTailB .any l.toArray k = true) (hnd : NoDefer l.toArray)
    (h : wpStill P l.toArray w.drew (fun a' => wpList P l.toArray (Calm Q) (l.drop k) a' w.drew) (l.take k) a) : (Code.region id l.toArray true).wpIn (Fence.wide.inRound L) m P Q a w := by
  refine wpIn_region_plain hm hnd ?_
  unfold Region.lexTailB at hB
  rw [Bool.and_eq_true, Bool.and_eq_true, Bool.and_eq_true, Bool.and_eq_true, decide_eq_true_eq] at hB
  have hk : k < l.length := by simpa using hB.1.1.1.2
  have e1 : (l.take k).length = k := by rw [List.length_take]; omega
  have e2 : (l.drop k).length = l.toArray.size - k := by rw [List.length_drop, List.size_toArray]
  have e3 : ∀ j, (Array.replicate l.toArray.size false).getD j false = false := getD_replicate_false _
  have hh := wpAnyL_lex (md := .any) (g := l.toArray.size - k) hB.1.1.1.1 hB.1.1.2 hB.1.2 hB.1.1.1.2 (l.take k) 0 (Array.replicate l.toArray.size false) a
    (fun j hj => by rw [List.getElem?_take_of_lt (by omega), List.getElem?_toArray, Nat.zero_add]) (by omega)
    { size := Array.size_replicate, closed := fun j _ _ hl => absurd hl (by rw [e3 j]; decide), tail := fun t _ ht => getD_in (by rw [Array.size_replicate]; exact ht) (e3 t) } (by rw [e1]; exact hB.2) h
  have hq := wpAny_of_head (Q' := Calm Q) (g := (l.drop k).length) (fun li a' hL => wpAny_of_seq (md := .any) (l.drop k) k li a' w.drew (fun j => by rw [List.getElem?_drop, List.getElem?_toArray]) (by rw [e2]; exact hL.1) hL.2) _ _ _ hh
  rwa [e1, e2, show k + (l.toArray.size - k) = l.toArray.size by rw [List.size_toArray]; omega] at hq

end

end Go.Proofs.Ytodmchjdflpbpaa
