/- Whole arrays out of a block and into one; copy into a block that is known whole; make whose cells are known. -/
import Derived.Test.YtodmchjdflpbpaaKit
import Derived.Deep.WholeRow
import Derived.Laws.CopyOwn
import Derived.OwnWalk
import Derived.Still
namespace Go.Proofs.Ytodmchjdflpbpaa
open Go.RowKit
set_option maxRecDepth 100000

section
variable {P : Program} {w : World}
theorem Blk.rowed {g : Nat} {t : TypeId} {cs cs' : Array Value} (h : Blk w g t cs) : Blk (w.setRow g cs') g t cs' := by
  unfold Blk at h ⊢
  simp [World.setRow, Array.getElem?_modify, h]
theorem Kept.rowed {S : Nat → Prop} {a : World} (h : Kept S a w) {g : Nat} (cs : Array Value) (hg : g < a.heap.size → S g) : Kept S a (w.setRow g cs) :=
  ⟨h.os, h.tape, h.output, by simpa [World.setRow] using h.size, fun i hi hn => by
    have hne : g ≠ i := by rintro rfl; exact hn (hg hi)
    rw [← h.block i hi hn]
    simp [World.setRow, Array.getElem?_modify, hne]⟩

/-- The whole array that a block is. -/
theorem run_loadAt_blk {g n : Nat} {t ty e : TypeId} {cs : Array Value} (h : Blk w g t cs) (hu : P.underlying ty = some (.array n e)) (hi : (P.info? ty).map (·.size) = some cs.size) :
    (Instr.loadAt ty (.pointer (some ⟨g, 0, none⟩))).run P w = .ok (.agg cs) w := by
  simp only [Instr.loadAt, Instr.sureAddr, Sem.run_bind, Sem.run_pure, Result.andThen]
  exact run_loadVar_row _ _ _ _ cs (0, 0) _ h hu rfl hi
theorem run_loadVar_blk {g n : Nat} {t ty e : TypeId} {cs : Array Value} (h : Blk w g t cs) (hu : P.underlying ty = some (.array n e)) (hi : (P.info? ty).map (·.size) = some cs.size) :
    (loadVar ty ⟨g, 0, none⟩).run P w = .ok (.agg cs) w :=
  run_loadVar_row _ _ _ _ cs (0, 0) _ h hu rfl hi
theorem run_storeAt_blk {g : Nat} {t ty : TypeId} {cs cs' : Array Value} (h : Blk w g t cs) (hi : (P.info? ty).map (·.size) = some cs'.size) (hs : cs.size = cs'.size) (h1 : cs'.all (·.oneCell') = true) :
    (Instr.storeAt ty (.pointer (some ⟨g, 0, none⟩)) (.agg cs')).run P w = .ok () (w.setRow g cs') := by
  simp only [Instr.storeAt, Instr.sureAddr, Sem.run_bind, Sem.run_pure, Result.andThen]
  exact run_storeVar_row _ _ _ _ cs cs' h hi hs h1

/-- .. into the middle of one. -/
theorem run_storeAt_in {g o : Nat} {t ty : TypeId} {cur cs' : Array Value} (h : Blk w g t cur) (hi : (P.info? ty).map (·.size) = some cs'.size) (hfit : o + cs'.size ≤ cur.size) (h1 : cs'.all (·.oneCell') = true) :
    (Instr.storeAt ty (.pointer (some ⟨g, o, none⟩)) (.agg cs')).run P w = .ok () (w.setRow g (cur.toList.take o ++ cs'.toList ++ cur.toList.drop (o + cs'.size)).toArray) := by
  simp only [Instr.storeAt, Instr.sureAddr, Sem.run_bind, Sem.run_pure, Result.andThen]
  have := run_storeCells_at (P := P) g o t cs'.toList 0 cur w h (by simpa using hfit) (fun v hv => (Array.all_eq_true_iff_forall_mem.1 h1) v (by simpa using hv))
  cases hq : P.info? ty with
  | none => simp [hq] at hi
  | some i =>
    have hs : cs'.size = i.size := by simp [hq] at hi; omega
    simp [storeVar, sizeOf, typeInfo, hq, Value.cells, hs, this]

theorem wpList_load_eq {ops : Array Oper} {rest : List Oper} {o : Oper} {a : Act} {Q : Exit → Act → World → Prop} (hgd : o.guard = none) (x : Operand) (t : TypeId) (ho : o.op = .load t x) (p v : Value) (hx : a.eval x = p)
    (hl : (Instr.loadAt t p).run P w = .ok v w) (h : wpList P ops Q rest (a.put o.dst v) w) : wpList P ops Q (o :: rest) a w := by
  refine wpList_plain hgd fun K hK => ?_
  unfold Oper.wp execOp
  simp only [ho, Sem.run_bind, Sem.run_pure, hx, hl, Result.andThen_ok]
  exact hK _ _ h
/-- .. behind go_still_tail. -/
theorem wpStill_load_eq {ops : Array Oper} {rest : List Oper} {o : Oper} {a : Act} {Q : Act → Prop} (hgd : o.guard = none) (x : Operand) (t : TypeId) (ho : o.op = .load t x) (p v : Value) (hx : a.eval x = p)
    (hl : (Instr.loadAt t p).run P w = .ok v w) (h : wpStill P ops w Q rest (a.put o.dst v)) : wpStill P ops w Q (o :: rest) a := by
  refine wpStill_step fun K hK => ?_
  have hw : Region.wanted o (yielded ops a.tmps) = true := by unfold Region.wanted; rw [hgd]
  rw [if_pos hw]
  unfold Oper.still execOp
  simp only [ho, Sem.run_bind, Sem.run_pure, hx, hl, Result.andThen_ok, Oper.stillUpon]
  exact ⟨trivial, hK _ h⟩
theorem wpList_store_eq {w' : World} {ops : Array Oper} {rest : List Oper} {o : Oper} {a : Act} {Q : Exit → Act → World → Prop} (hgd : o.guard = none) (x y : Operand) (t : TypeId) (ho : o.op = .store t x y) (p v : Value) (hx : a.eval x = p) (hy : a.eval y = v)
    (hl : (Instr.storeAt t p v).run P w = .ok () w') (h : wpList P ops Q rest (a.put o.dst undef) w') : wpList P ops Q (o :: rest) a w := by
  refine wpList_plain hgd fun K hK => ?_
  unfold Oper.wp execOp
  simp only [ho, Sem.run_bind, Sem.run_pure, hx, hy, hl, Result.andThen_ok]
  exact hK _ _ h

/-- Numbers laid over numbers, from a place on. -/
theorem toArray_all {cs : List Value} (h : ∀ v ∈ cs, v.oneCell' = true) : cs.toArray.all (·.oneCell') = true := by
  rw [Array.all_eq_true_iff_forall_mem]
  intro u hu
  exact h u (by simpa using hu)

/-- copy of numbers that lie anywhere (none of a nil slice) into a block of numbers that is known whole. -/
theorem wpList_copy_nums {ops : Array Oper} {rest : List Oper} {o : Oper} {a : Act} {Q : Exit → Act → World → Prop} (hgd : o.guard = none) (d s : Operand) (dT sT : TypeId)
    (ho : o.op = .call { callee := .builtin .copy, args := #[d, s], argTypes := #[dT, sT] }) (elem : TypeId) (hu : P.underlying dT = some (.slice elem)) (hsz : (P.info? elem).map (·.size) = some 1)
    (k : IntKind) (g off dLen dCap m c : Nat) (A : Option Addr) (xs cur : List Int) (t : TypeId) (hd : a.eval d = .slice (some ⟨g, off, none⟩) dLen dCap) (hs : a.eval s = .slice A m c)
    (hg : Blk w g t (ivs k cur).toArray) (hr : Row w k A m xs) (hfit : off + dLen ≤ cur.length)
    (h : ∀ w', Blk w' g t (ivs k (splice cur off (xs.take dLen))).toArray → Kept (fun i => i = g) w w' → wpList P ops Q rest (a.put o.dst (.int .i64 ((min m dLen : Nat) : Int))) w') :
    wpList P ops Q (o :: rest) a w := by
  have hlen : (xs.take dLen).length = min m dLen := by rw [List.length_take, hr.len, Nat.min_comm]
  rcases Nat.eq_zero_or_pos (min m dLen) with h0 | h0
  · refine wpList_copy_nothing hgd d s dT sT ho elem hu hsz _ _ dLen dCap m c hd hs (by simpa using h0) ?_
    have := h w (by
      have e : xs.take dLen = [] := List.eq_nil_of_length_eq_zero (by omega)
      rw [e]
      simpa [splice] using hg) (Kept.refl _ _)
    rw [h0] at this
    exact this
  · obtain ⟨b, o', e, _, _⟩ := hr.at_ 0 (by omega)
    subst e
    have hfit' : off + (xs.take dLen).length ≤ cur.length := by omega
    refine wpList_copy_own hgd d s dT sT ho elem hu hsz g off dLen dCap ⟨b, o', none⟩ m c hd hs _ t hg (ivs k (xs.take dLen)) (by rw [ivs_length, hlen]) ?_ (by simp only [List.size_toArray, ivs_length]; exact hfit') (ivs_one _ _) ?_
    · intro j v hv
      have hj : j < (xs.take dLen).length := by
        have := (List.getElem?_eq_some_iff.1 hv).1
        simpa [ivs] using this
      have h2 := hr.news j v (by
        rw [ivs_get (by rw [hr.len]; omega)]
        rw [ivs_get hj] at hv
        rw [← hv]
        have : j < dLen := by omega
        simp [List.getD, this])
      exact h2
    · rw [ivs_length, hlen]
      refine h _ ?_ ((Kept.refl _ _).rowed _ (fun _ => rfl))
      have e : ((ivs k cur).toArray.toList.take off ++ (ivs k (xs.take dLen) ++ (ivs k cur).toArray.toList.drop (off + min m dLen))).toArray = (ivs k (splice cur off (xs.take dLen))).toArray := by
        simp [splice, ivs, hlen]
      rw [← e]
      exact hg.rowed
end

/-- The cells of a slice that was made now. -/
theorem Blk.of_made {w : World} {e : TypeId} {g n size : Nat} {vs : List Value} (h : w.ownsRow 0 e size (.slice (some ⟨g, 0, none⟩) n n) n vs) : Blk w g e vs.toArray := by
  rcases h.2 with ⟨h', _⟩ | ⟨g', cap', cur, h', _, hg, _, _, hcs, ht⟩
  · simp at h'
  · simp only [Value.slice.injEq, Option.some.injEq, Addr.mk.injEq, and_true, true_and] at h'
    obtain ⟨rfl, rfl⟩ := h'
    have e : cur = vs.toArray := by
      apply Array.ext'
      rw [← ht, List.take_of_length_le (by simp [hcs])]
    rw [← e]
    exact hg

theorem wpList_make_blk {P : Program} (w : World) {ops : Array Oper} {rest : List Oper} {o : Oper} {a : Act} {Q : Exit → Act → World → Prop}
    (hg : o.guard = none) (l c : Operand) (t : TypeId) (hop : o.op = Op.makeSlice t l c)
    (e : TypeId) (i : TypeInfo) (z : Value) (size : Nat) (h1 : P.underlying t = some (.slice e)) (h2 : P.info? e = some i) (h3 : i.zero = some z) (h4 : i.size = size)
    (kl kc : IntKind) (L C : Int) (n : Nat) (hl : a.eval l = .int kl L) (hc : a.eval c = .int kc C) (hL : L = (n : Int)) (hC : C = (n : Int)) (b2 : i.bytes * n ≤ 281474976710656) (b3 : n ≤ maxLen)
    (hK : ∀ w', Blk w' w.heap.size e (madeCells z.cells (n * size)) → Fresh w w' → wpList P ops Q rest (a.put o.dst (.slice (some ⟨w.heap.size, 0, none⟩) n n)) w') :
    wpList P ops Q (o :: rest) a w := by
  refine wpList_make_full w hg l c t hop 0 e i z size h1 h2 h3 h4 kl kc L C n hl hc hL hC b2 b3 (by omega) ?_
  intro w' ho hgr
  have hb := Blk.of_made ho
  exact hK w' (by simpa using hb) ((Kept.refl _ _).grown hgr (fun k e _ => by cases e))

end Go.Proofs.Ytodmchjdflpbpaa
