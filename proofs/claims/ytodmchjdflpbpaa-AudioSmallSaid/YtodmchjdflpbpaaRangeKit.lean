/- What a range over an iterator keeps: blocks that are no cells, the iterator's boxes, results in cells. -/
import Derived.RangeFuncNested
import Derived.RangeFuncBound
import Derived.RangeFuncCalls
import Derived.RangeFuncLeaves
import Derived.Shelf.Abstract
import Derived.Shelf.RegionOpen
import Derived.WalkKit
import Derived.OwnWalkIn
import Derived.TacticsInMore
import Derived.LoopNIn
import Derived.LoopIn
import Derived.Lib.MinMax
import Derived.Test.YtodmchjdflpbpaaZeros
namespace Go.Proofs.Ytodmchjdflpbpaa
open Go.RowKit Go.Shelf
set_option maxRecDepth 100000

attribute [local go_sem] Oper.semAt_some

/-- What a round keeps: the two boxes of the iterator. -/
def BoxesAt (B : Nat) (W W' : World) : Prop := W'.heap[B]? = W.heap[B]? ∧ W'.heap[B + 1]? = W.heap[B + 1]?

/-- A block that is no cells. -/
def NoCells (w : World) (k : Nat) : Prop := ∃ o, w.heap[k]? = some o ∧ o.isCells = false
theorem NoCells.lt {w : World} {k : Nat} (h : NoCells w k) : k < w.heap.size := by
  obtain ⟨o, ho, _⟩ := h
  exact (Array.getElem?_eq_some_iff.1 ho).1
theorem Blk.cells {w : World} {g : Nat} {t : TypeId} {cs : Array Value} (h : Blk w g t cs) : ¬ NoCells w g := by
  rintro ⟨o, ho, hc⟩
  unfold Blk at h
  rw [h] at ho
  cases ho
  cases hc
theorem Own.cells {w : World} {e : TypeId} {k : IntKind} {v : Value} {xs : List Int} {g : Nat} (h : Own w e k v xs) (hg : v.ownBlock = some g) : ¬ NoCells w g := by
  rintro ⟨o, ho, hc⟩
  rcases h.2 with ⟨rfl, _⟩ | ⟨g', cap, cur, rfl, _, hh, _⟩
  · cases hg
  · have e : g' = g := by simpa [Value.ownBlock] using hg
    subst e
    rw [hh] at ho
    cases ho
    cases hc
theorem KeepsFrom.of {S : Nat → Prop} {w w' : World} (B : Nat) (h : Kept S w w') (hS : ∀ k, S k → ¬ NoCells w k) : KeepsFrom B w w' :=
  ⟨h.size, fun k o _ ho hc => (h.block k (Array.getElem?_eq_some_iff.1 ho).1 (fun e => hS k e ⟨o, ho, hc⟩)).trans ho⟩
/-- The iterator's and the loop's own book-keeping. -/
theorem kept_of_grown {w w' : World} {row : Option Nat} (h : w.grownBy w' row) : Kept (fun k => row = some k) w w' := (Kept.refl _ _).grown h fun _ e _ => e
theorem boxes_t {B : Nat} {X Y Z : World} (h : BoxesAt B X Y) (h' : BoxesAt B Y Z) : BoxesAt B X Z := ⟨h'.1.trans h.1, h'.2.trans h.2⟩
theorem boxes_b {B : Nat} {w : World} (hB : B + 1 < w.heap.size) (W : World) (l : Nat) (o o' : Obj) (hl : w.heap.size ≤ l) (_ : W.heap[l]? = some o) (_ : o.isCells = false) (_ : o.isWalk = false) : BoxesAt B W (W.putObj l o') :=
  ⟨World.putObj_heap_other (by omega), World.putObj_heap_other (by omega)⟩

theorem wpListIn_make_zeros {F : Fence} {d : Nat} {P : Program} (w : World) {ops : Array Oper} {rest : List Oper} {o : Oper} {a : Act} {Q : Exit → Act → World → Prop}
    (hg : o.guard = none) (l c : Operand) (t : TypeId) (hop : o.op = Op.makeSlice t l c)
    (e : TypeId) (i : TypeInfo) (k : IntKind) (bytes : Nat) (h1 : P.underlying t = some (.slice e)) (h2 : P.info? e = some i) (h3 : i.zero = some (.int k 0)) (h4 : i.size = 1) (h5 : i.bytes = bytes)
    (kl kc : IntKind) (L C : Int) (n : Nat) (hl : a.eval l = .int kl L) (hc : a.eval c = .int kc C) (hL : L = (n : Int)) (hC : C = (n : Int)) (b2 : bytes * n ≤ 281474976710656) (b3 : n ≤ maxLen)
    (hK : ∀ w', Own w' e k (.slice (some ⟨w.heap.size, 0, none⟩) n n) (List.replicate n 0) → Fresh w w' → wpListIn F d P ops Q rest (a.put o.dst (.slice (some ⟨w.heap.size, 0, none⟩) n n)) w') :
    wpListIn F d P ops Q (o :: rest) a w := by
  refine wpListIn_plain hg fun K hK' => ?_
  obtain ⟨w', hrun, r1, r2⟩ := run_make_full (P := P) w 0 t e i (.int k 0) 1 h1 h2 h3 h4 kl kc n (by rw [h5]; exact b2) b3 (by omega)
  subst hL
  subst hC
  unfold Oper.wpIn
  refine ⟨?_, ?_⟩
  · simp [Oper.about, hop]
  · rw [Oper.semAt_plain F _ _ (by rw [hop]; intro c hc'; cases hc')]
    simp [execOp, hop, hl, hc, hrun, Result.andThen]
    refine hK' _ _ (hK w' ?_ ((Kept.refl _ _).grown r2 (fun k e _ => by cases e)))
    rw [Nat.mul_one, show (Value.int k 0).cells = #[Value.int k 0] from rfl, made_zeros] at r1
    unfold Own
    rw [List.length_replicate]
    exact r1

theorem Row.cells {w : World} {k : IntKind} {b o n : Nat} {xs : List Int} (h : Row w k (some ⟨b, o, none⟩) n xs) (h0 : 0 < n) : ¬ NoCells w b := by
  obtain ⟨b', o', e, _, hc⟩ := h.at_ 0 h0
  injection e with e
  injection e with e1 e2
  subst e1 e2
  obtain ⟨q, hq, hc2⟩ := cells_of_cell hc
  rintro ⟨q', hq', hc3⟩
  simp only [] at hq
  rw [hq] at hq'
  injection hq' with hq'
  subst hq'
  rw [hc2] at hc3
  cases hc3

/-- The two results are written, the rounds' deferred calls are shut. -/
theorem results_from {w W : World} {r D : Nat} {cs ds : Array Value} {t0 t1 : TypeId} (h0 : Blk W r t0 cs) (h1 : Blk W (r + 1) t1 ds) (hc : cs.size = 1) (hd : ds.size = 1) (hK : W.heap[D]? = some (.deferred (some []))) (hr : w.heap.size ≤ r) (hD : w.heap.size ≤ D) (hf : Fresh w W) (v : Value) (er : Int) :
    ((W.setCell ⟨r, 0, none⟩ v).setCell ⟨r + 1, 0, none⟩ (.int .i64 er)).heap[D]? = some (.deferred (some [])) ∧
    (((W.setCell ⟨r, 0, none⟩ v).setCell ⟨r + 1, 0, none⟩ (.int .i64 er)).putObj D (.deferred none)).cell? ⟨r, 0, none⟩ = some v ∧
    (((W.setCell ⟨r, 0, none⟩ v).setCell ⟨r + 1, 0, none⟩ (.int .i64 er)).putObj D (.deferred none)).cell? ⟨r + 1, 0, none⟩ = some (.int .i64 er) ∧
    Kept (fun k => k = r ∨ k = r + 1 ∨ k = D) W (((W.setCell ⟨r, 0, none⟩ v).setCell ⟨r + 1, 0, none⟩ (.int .i64 er)).putObj D (.deferred none)) ∧
    Fresh w (((W.setCell ⟨r, 0, none⟩ v).setCell ⟨r + 1, 0, none⟩ (.int .i64 er)).putObj D (.deferred none)) := by
  have n0 : D ≠ r := by
    rintro rfl
    exact h0.cells ⟨_, hK, rfl⟩
  have n1 : D ≠ r + 1 := by
    rintro rfl
    exact h1.cells ⟨_, hK, rfl⟩
  have k1 : Kept (fun k => k = r ∨ k = r + 1) W ((W.setCell ⟨r, 0, none⟩ v).setCell ⟨r + 1, 0, none⟩ (.int .i64 er)) :=
    ((Kept.refl _ _).setCell (p := ⟨r, 0, none⟩) (fun _ => .inl rfl) v).setCell (p := ⟨r + 1, 0, none⟩) (fun _ => .inr rfl) (.int .i64 er)
  have hK2 : ((W.setCell ⟨r, 0, none⟩ v).setCell ⟨r + 1, 0, none⟩ (.int .i64 er)).heap[D]? = some (.deferred (some [])) := (k1.block D (Array.getElem?_eq_some_iff.1 hK).1 (by omega)).trans hK
  have g0 := ((h0.set_ 0 v).far (p := ⟨r + 1, 0, none⟩) (by simp) (.int .i64 er)).kept (kept_of_grown (grownBy_putObj' _ D (.deferred none))) (fun e => by injection e with e; exact n0 e)
  have g1 := ((h1.far (p := ⟨r, 0, none⟩) (by simp) v).set_ 0 (.int .i64 er)).kept (kept_of_grown (grownBy_putObj' _ D (.deferred none))) (fun e => by injection e with e; exact n1 e)
  refine ⟨hK2, ?_, ?_, ?_, ?_⟩
  · rw [g0.cell 0]; simp [hc]
  · rw [g1.cell 0]; simp [hd]
  · exact (k1.mono (T := fun k => k = r ∨ k = r + 1 ∨ k = D) fun i _ e => by rcases e with e | e <;> simp [e]).trans (kept_of_grown (grownBy_putObj' _ D (.deferred none))) fun i _ e => by injection e with e; simp [e]
  · exact (hf.trans k1 fun i hi e => by omega).trans (kept_of_grown (grownBy_putObj' _ D (.deferred none))) fun i hi e => by injection e with e; omega

/-- .. that lie at the head of what is new. -/
theorem results_at {w W : World} {D : Nat} {cs ds : Array Value} {t0 t1 : TypeId} (h0 : Blk W w.heap.size t0 cs) (h1 : Blk W (w.heap.size + 1) t1 ds) (hc : cs.size = 1) (hd : ds.size = 1) (hK : W.heap[D]? = some (.deferred (some []))) (hD : w.heap.size ≤ D) (hf : Fresh w W) (v : Value) (er : Int) :
    ((W.setCell ⟨w.heap.size, 0, none⟩ v).setCell ⟨w.heap.size + 1, 0, none⟩ (.int .i64 er)).heap[D]? = some (.deferred (some [])) ∧
    (((W.setCell ⟨w.heap.size, 0, none⟩ v).setCell ⟨w.heap.size + 1, 0, none⟩ (.int .i64 er)).putObj D (.deferred none)).cell? ⟨w.heap.size, 0, none⟩ = some v ∧
    (((W.setCell ⟨w.heap.size, 0, none⟩ v).setCell ⟨w.heap.size + 1, 0, none⟩ (.int .i64 er)).putObj D (.deferred none)).cell? ⟨w.heap.size + 1, 0, none⟩ = some (.int .i64 er) ∧
    Kept (fun k => k = w.heap.size ∨ k = w.heap.size + 1 ∨ k = D) W (((W.setCell ⟨w.heap.size, 0, none⟩ v).setCell ⟨w.heap.size + 1, 0, none⟩ (.int .i64 er)).putObj D (.deferred none)) ∧
    Fresh w (((W.setCell ⟨w.heap.size, 0, none⟩ v).setCell ⟨w.heap.size + 1, 0, none⟩ (.int .i64 er)).putObj D (.deferred none)) := results_from h0 h1 hc hd hK (Nat.le_refl _) hD hf v er

end Go.Proofs.Ytodmchjdflpbpaa
