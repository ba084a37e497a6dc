/- append onto a list of the call's own (NewRow): of a slice, of a constant text, behind a row that is full. -/
import Derived.Test.YtbbkdgbgfncjaaaKit
import Derived.Lib.AppendStr
namespace Go.Proofs.Ytbbkdgbgfncjaaa
open Go.RowKit
set_option maxRecDepth 100000

theorem NewRow.base {w0 w : World} {e : TypeId} {k : IntKind} {v : Value} {xs : List Int} (h : NewRow w0 w e k v xs) : w.ownsRow w0.heap.size e 1 v xs.length (ivs k xs) := by
  refine ⟨h.1.1, ?_⟩
  rcases h.1.2 with h1 | ⟨g, cap, cur, rfl, _, hg, rest⟩
  · exact .inl h1
  · exact .inr ⟨g, cap, cur, rfl, h.2.1 g rfl, hg, rest⟩
theorem NewRow.of_base {w0 w : World} {e : TypeId} {k : IntKind} {v : Value} {xs : List Int} {n : Nat} (h : w.ownsRow w0.heap.size e 1 v n (ivs k xs)) (hn : xs.length = n) (hf : Fresh w0 w) : NewRow w0 w e k v xs := by
  subst hn
  refine ⟨⟨h.1, ?_⟩, fun g hg => (World.ownsRow.lt h g hg).1, hf⟩
  rcases h.2 with h1 | ⟨g, cap, cur, rfl, _, hg, rest⟩
  · exact .inl h1
  · exact .inr ⟨g, cap, cur, rfl, Nat.zero_le _, hg, rest⟩
theorem NewRow.app {w0 w w' : World} {e : TypeId} {k : IntKind} {v v' : Value} {xs ys : List Int} (h : NewRow w0 w e k v xs) (ho : Own w' e k v' (xs ++ ys)) (hg : w.grownBy w' v.ownBlock) (hat : v'.ownBlock = v.ownBlock ∨ v'.ownBlock = some w.heap.size) : NewRow w0 w' e k v' (xs ++ ys) :=
  ⟨ho, fun g e2 => by
    rcases hat with e3 | e3
    · exact h.2.1 g (e3 ▸ e2)
    · rw [e3] at e2
      injection e2 with e2
      have := h.2.2.size
      omega, h.2.2.grown hg fun j e2 hj => absurd (h.2.1 j e2) (by omega)⟩
theorem NewRow.fresh {w0 w w' : World} {e : TypeId} {k : IntKind} {v : Value} {xs : List Int} (h : NewRow w0 w e k v xs) (hf : Fresh w w') : NewRow w0 w' e k v xs := ⟨h.1.kept hf fun _ _ => id, h.2.1, h.2.2.trans hf fun _ _ e => e⟩

section
variable {P : Program} (w : World)
/-- .. of a slice. -/
theorem wpList_new {ops : Array Oper} {rest : List Oper} {o : Oper} {a : Act} {Q : Exit → Act → World → Prop} (w0 : World) (hgd : o.guard = none) (s x : Operand) (t : TypeId)
    (ho : o.op = .call { callee := .builtin .append, args := #[s, x], argTypes := #[t, t] })
    (e : TypeId) (i : TypeInfo) (k : IntKind) (bytes : Nat) (ht : P.underlying t = some (.slice e)) (hi : P.info? e = some i) (hz : i.zero = some (.int k 0)) (hsize : i.size = 1) (hby : i.bytes = bytes)
    (v : Value) (xs : List Int) (hs : a.eval s = v) (hn : NewRow w0 w e k v xs) (A : Option Addr) (m c : Nat) (ys : List Int) (hx : a.eval x = .slice A m c) (hr : Row w k A m ys)
    (h63 : xs.length + m ≤ maxLen) (hbytes : (xs.length + m) * bytes ≤ 140737488355328)
    (h : ∀ v' w', NewRow w0 w' e k v' (xs ++ ys) → wpList P ops Q rest (a.put o.dst v') w') : wpList P ops Q (o :: rest) a w :=
  wpList_app w hgd s x t ho e i k bytes ht hi hz hsize hby v xs hs hn.1 A m c ys hx hr h63 hbytes fun v' w' h1 h2 h3 => h v' w' (hn.app h1 h2 h3)
/-- .. of a constant text. -/
theorem wpList_new_str {ops : Array Oper} {rest : List Oper} {o : Oper} {a : Act} {Q : Exit → Act → World → Prop} (w0 : World) (hgd : o.guard = none) (s x : Operand) (t u : TypeId)
    (ho : o.op = .call { callee := .builtin .append, args := #[s, x], argTypes := #[t, u] })
    (e : TypeId) (i : TypeInfo) (ht : P.underlying t = some (.slice e)) (hu : P.underlying u = some .string) (hi : P.info? e = some i) (hz : i.zero = some (.int .u8 0)) (hsize : i.size = 1) (hby : i.bytes = 1)
    (v : Value) (xs : List Int) (hs : a.eval s = v) (hn : NewRow w0 w e .u8 v xs) (b : ByteArray) (ys : List Int) (hx : a.eval x = .string b) (hb : Lib.strCells b = ivs .u8 ys)
    (h63 : xs.length + ys.length ≤ maxLen) (hbytes : xs.length + ys.length ≤ 140737488355328)
    (h : ∀ v' w', NewRow w0 w' e .u8 v' (xs ++ ys) → wpList P ops Q rest (a.put o.dst v') w') : wpList P ops Q (o :: rest) a w := by
  have hl : b.size = ys.length := by rw [← Lib.strCells_length, hb, ivs_length]
  refine Lib.wpList_append_own_string w hgd s x t u ho w0.heap.size e i ht hu hi hz hsize hby v xs.length (ivs .u8 xs) hs hn.base b hx (by omega) (by omega) hn.2.2.size fun v' w' h1 h2 _ => h v' w' ?_
  rw [hb, ← ivs_append, hl] at h1
  exact NewRow.of_base h1 (by simp) (hn.2.2.grown h2 fun j e2 hj => absurd (hn.2.1 j e2) (by omega))

/-- .. behind a row that is full (a constant's, say). -/
theorem run_app_full (t ty e : TypeId) (i : TypeInfo) (k : IntKind) (bytes : Nat) (ht : P.underlying t = some (.slice e)) (hi : P.info? e = some i) (hz : i.zero = some (.int k 0)) (hsize : i.size = 1) (hby : i.bytes = bytes)
    (B : Addr) (n : Nat) (xs : List Int) (hx : Row w k (some B) n xs) (A : Option Addr) (m c : Nat) (ys : List Int) (hr : Row w k A m ys) (hm : 0 < m) (h63 : n + m ≤ maxLen) (hbytes : (n + m) * bytes ≤ 140737488355328) :
    ∃ v' w', (Builtin.append_ #[t, t] ty #[.slice (some B) n n, .slice A m c]).run P w = .ok v' w' ∧ NewRow w w' e k v' (xs ++ ys) := by
  rcases A with _ | a
  · exact absurd hr.nil0 (by omega)
  · have hxl := hx.len
    have hyl := hr.len
    have hsmall : n + m ≤ 9223372036854775807 := by simp only [maxLen] at h63; omega
    have hrun := run_append_grow (P := P) w t ty e i (.int k 0) ht hi hz B n n (ivs k xs) (by rw [ivs_length, hsize]; omega) hx.news a m c (ivs k ys) (by rw [ivs_length, hsize]; omega) hr.news (by omega) (by omega) (by rw [hby]; exact growslice_fits (by omega) (by omega))
    have hge := grownCap_ge w (n + m) n e
    have hcm : grownCap w (n + m) n e ≤ maxLen := grownCap_le_maxLen w (n + m) n e h63
    refine ⟨_, _, hrun, NewRow.of_base (n := n + m) ⟨by rw [ivs_length]; simp; omega, .inr ⟨w.heap.size, _, _, rfl, Nat.le_refl _, heap_alloc_new w.drew _, hge, hcm, ?_, ?_⟩⟩ (by simp; omega) ((Kept.refl _ _).drew.alloc _)⟩
    · simp only [Array.size_append, List.size_toArray, size_zeroCells, ivs_length, Value.cells]
      simp
      omega
    · rw [ivs_append]
      simp only [Array.toList_append, List.append_assoc]
      rw [← List.append_assoc]
      have : (n + m) * 1 = (ivs k xs ++ ivs k ys).length := by rw [List.length_append, ivs_length, ivs_length]; omega
      rw [this]
      exact List.take_left
theorem wpList_new_full {ops : Array Oper} {rest : List Oper} {o : Oper} {a : Act} {Q : Exit → Act → World → Prop} (w0 : World) (hf : Fresh w0 w) (hgd : o.guard = none) (s x : Operand) (t : TypeId)
    (ho : o.op = .call { callee := .builtin .append, args := #[s, x], argTypes := #[t, t] })
    (e : TypeId) (i : TypeInfo) (k : IntKind) (bytes : Nat) (ht : P.underlying t = some (.slice e)) (hi : P.info? e = some i) (hz : i.zero = some (.int k 0)) (hsize : i.size = 1) (hby : i.bytes = bytes)
    (B : Addr) (n : Nat) (xs : List Int) (hs : a.eval s = .slice (some B) n n) (hrx : Row w k (some B) n xs) (A : Option Addr) (m c : Nat) (ys : List Int) (hx : a.eval x = .slice A m c) (hr : Row w k A m ys) (hm : 0 < m)
    (h63 : n + m ≤ maxLen) (hbytes : (n + m) * bytes ≤ 140737488355328)
    (h : ∀ v' w', NewRow w0 w' e k v' (xs ++ ys) → wpList P ops Q rest (a.put o.dst v') w') : wpList P ops Q (o :: rest) a w := by
  refine wpList_plain hgd fun K hK => ?_
  obtain ⟨v', w', hrun, h2⟩ := run_app_full (P := P) w t o.type e i k bytes ht hi hz hsize hby B n xs hrx A m c ys hr hm h63 hbytes
  unfold Oper.wp execOp
  simp only [ho, resolve, invoke, builtin, Sem.run_bind, Sem.run_pure, Result.andThen_ok, List.map_toArray, List.map_cons, List.map_nil, hs, hx, hrun]
  exact hK _ _ (h v' w' ⟨h2.1, fun g hg => Nat.le_trans hf.size (h2.2.1 g hg), hf.trans h2.2.2 fun _ _ e => e⟩)
/-- At a step of a region that draws its order. -/
theorem step_new {ops : Array Oper} {o : Oper} {a : Act} {K : Act → World → Prop} {Q : Exit → Act → World → Prop} {E : Prop} (w0 : World) (hgd : o.guard = none) (s x : Operand) (t : TypeId)
    (ho : o.op = .call { callee := .builtin .append, args := #[s, x], argTypes := #[t, t] })
    (e : TypeId) (i : TypeInfo) (k : IntKind) (bytes : Nat) (ht : P.underlying t = some (.slice e)) (hi : P.info? e = some i) (hz : i.zero = some (.int k 0)) (hsize : i.size = 1) (hby : i.bytes = bytes)
    (v : Value) (xs : List Int) (hs : a.eval s = v) (hn : NewRow w0 w e k v xs) (A : Option Addr) (m c : Nat) (ys : List Int) (hx : a.eval x = .slice A m c) (hr : Row w k A m ys)
    (h63 : xs.length + m ≤ maxLen) (hbytes : (xs.length + m) * bytes ≤ 140737488355328)
    (h : ∀ v' w', NewRow w0 w' e k v' (xs ++ ys) → Fresh w0 w' → Kept (fun j => v.ownBlock = some j) w w' → K (a.put o.dst v') w') : if Region.wanted o (yielded ops a.tmps) = true then Oper.wp P o a w K Q else E := by
  have hw : Region.wanted o (yielded ops a.tmps) = true := by simp [Region.wanted, hgd]
  rw [if_pos hw]
  obtain ⟨v', w', hrun, h2, h3, h4⟩ := run_app (P := P) w t o.type e i k bytes ht hi hz hsize hby v xs hn.1 A m c ys hr h63 hbytes
  unfold Oper.wp execOp
  simp only [ho, resolve, invoke, builtin, Sem.run_bind, Sem.run_pure, Result.andThen_ok, List.map_toArray, List.map_cons, List.map_nil, hs, hx, hrun]
  exact h v' w' (hn.app h2 h3 h4) (hn.app h2 h3 h4).2.2 ((Kept.refl _ _).grown h3 fun _ e2 _ => e2)
/-- .. with what append says of the block. -/
theorem step_app {ops : Array Oper} {o : Oper} {a : Act} {K : Act → World → Prop} {Q : Exit → Act → World → Prop} {E : Prop} (hgd : o.guard = none) (s x : Operand) (t : TypeId)
    (ho : o.op = .call { callee := .builtin .append, args := #[s, x], argTypes := #[t, t] })
    (e : TypeId) (i : TypeInfo) (k : IntKind) (bytes : Nat) (ht : P.underlying t = some (.slice e)) (hi : P.info? e = some i) (hz : i.zero = some (.int k 0)) (hsize : i.size = 1) (hby : i.bytes = bytes)
    (v : Value) (xs : List Int) (hs : a.eval s = v) (hown : Own w e k v xs) (A : Option Addr) (m c : Nat) (ys : List Int) (hx : a.eval x = .slice A m c) (hr : Row w k A m ys)
    (h63 : xs.length + m ≤ maxLen) (hbytes : (xs.length + m) * bytes ≤ 140737488355328)
    (h : ∀ v' w', Own w' e k v' (xs ++ ys) → w.grownBy w' v.ownBlock → (v'.ownBlock = v.ownBlock ∨ v'.ownBlock = some w.heap.size) → K (a.put o.dst v') w') : if Region.wanted o (yielded ops a.tmps) = true then Oper.wp P o a w K Q else E := by
  have hw : Region.wanted o (yielded ops a.tmps) = true := by simp [Region.wanted, hgd]
  rw [if_pos hw]
  obtain ⟨v', w', hrun, h2, h3, h4⟩ := run_app (P := P) w t o.type e i k bytes ht hi hz hsize hby v xs hown A m c ys hr h63 hbytes
  unfold Oper.wp execOp
  simp only [ho, resolve, invoke, builtin, Sem.run_bind, Sem.run_pure, Result.andThen_ok, List.map_toArray, List.map_cons, List.map_nil, hs, hx, hrun]
  exact h v' w' h2 h3 h4
end

end Go.Proofs.Ytbbkdgbgfncjaaa
