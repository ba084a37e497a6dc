/- Texts of this proof, one behind the other: Kit, FixMath, TraMath, ColMath, FilMath, PicMath, AppNew, Zeros, Cut, ColQ, FilQ, PicQ, PicN, NumMath, NumQ, WavMath, PicL, PicF, PicB, PicP. -/
import Derived.Test.YthfifpapkknodaaRows
import Derived.WalkKit
import Derived.WalkSpells
import Derived.WalkLawsBesides
import Derived.Lib.Hide
import Derived.Deep.AppendLies
import Derived.Deep.Draws
import Derived.Maps.AppendAt
import Derived.Lib.AppendStr
import Derived.OwnWalk
import Derived.Deep.RegionHeld3
import Derived.Deep.DrawnRows
import Derived.Lib.MinMax
import Derived.Deep.RegionLaw
import Derived.StillTailTactics

/- Small general facts for the walks of this seat: a frame with a footprint (Kept), blocks that are known whole (Blk), slices that read as lists of numbers (Row). -/
namespace Go.Proofs.Ythfifpapkknodaa
open Go.RowKit

theorem ret_int {k : IntKind} {a b : Int} (h : a = b) : Ending.returned (.int k a) = .returned (.int k b) := by rw [h]
theorem ret_bool {a b : Bool} (h : a = b) : Ending.returned (.bool a) = .returned (.bool b) := by rw [h]

/-- All blocks that were there, but those of S, are as they were. -/
structure Kept (S : Nat → Prop) (w w' : World) : Prop where
  os : w'.os = w.os
  tape : w'.tape = w.tape
  output : w'.output = w.output
  size : w.heap.size ≤ w'.heap.size
  block : ∀ k, k < w.heap.size → ¬ S k → w'.heap[k]? = w.heap[k]?

section
variable {S T : Nat → Prop} {a b w w' : World}
theorem Kept.refl (S : Nat → Prop) (w : World) : Kept S w w := ⟨rfl, rfl, rfl, Nat.le_refl _, fun _ _ _ => rfl⟩
theorem Kept.trans {c : World} (h : Kept S a b) (k : Kept T b c) (hs : ∀ i, i < a.heap.size → T i → S i) : Kept S a c :=
  ⟨k.os.trans h.os, k.tape.trans h.tape, k.output.trans h.output, Nat.le_trans h.size k.size,
   fun i hi hn => (k.block i (Nat.lt_of_lt_of_le hi h.size) (fun ht => hn (hs i hi ht))).trans (h.block i hi hn)⟩
theorem Kept.mono (h : Kept S w w') (hs : ∀ i, i < w.heap.size → S i → T i) : Kept T w w' :=
  ⟨h.os, h.tape, h.output, h.size, fun i hi hn => h.block i hi (fun k => hn (hs i hi k))⟩
theorem Kept.alloc (h : Kept S a w) (o : Obj) : Kept S a (w.alloc o) :=
  ⟨h.os, h.tape, h.output, Nat.le_trans h.size (by simp), fun i hi hn => (Below.heap_alloc w o i (Nat.lt_of_lt_of_le hi h.size)).trans (h.block i hi hn)⟩
theorem Kept.setCell (h : Kept S a w) {p : Addr} (hp : p.block < a.heap.size → S p.block) (u : Value) : Kept S a (w.setCell p u) :=
  ⟨h.os, h.tape, h.output, by simpa [World.setCell] using h.size, fun i hi hn =>
    (Below.heap_setCell w p u i (by rintro rfl; exact hn (hp hi))).trans (h.block i hi hn)⟩
theorem Kept.drew (h : Kept S a w) : Kept S a w.drew := ⟨h.os, h.tape, h.output, h.size, h.block⟩
theorem Kept.drewN (h : Kept S a w) (n : Nat) : Kept S a (w.drewN n) := ⟨h.os, h.tape, h.output, h.size, h.block⟩
theorem Kept.grown {row : Option Nat} (h : Kept S a w) (hg : w.grownBy w' row) (hr : ∀ k, row = some k → k < a.heap.size → S k) : Kept S a w' :=
  ⟨hg.os.trans h.os, hg.tape.trans h.tape, hg.output.trans h.output, Nat.le_trans h.size hg.size,
   fun i hi hn => (hg.block i (Nat.lt_of_lt_of_le hi h.size) (fun e => hn (hr i e.symm hi))).trans (h.block i hi hn)⟩
theorem Kept.below (h : Below w.heap.size w w') (S : Nat → Prop) : Kept S w w' := ⟨h.os, h.tape, h.output, h.size, fun i hi _ => h.block i hi⟩
theorem Kept.toBelow (h : Kept (fun _ => False) w w') : Below w.heap.size w w' := ⟨h.os, h.tape, h.output, h.size, fun i hi => h.block i hi id⟩
theorem Kept.toBelowB {B : Nat} (h : Kept S w w') (hB : B ≤ w.heap.size) (hs : ∀ i, i < B → ¬ S i) : Below B w w' := ⟨h.os, h.tape, h.output, h.size, fun i hi => h.block i (by omega) (hs i hi)⟩
theorem Kept.cell (h : Kept S w w') {p : Addr} (hp : p.block < w.heap.size) (hn : ¬ S p.block) : w'.cell? p = w.cell? p := World.cell?_of_block (h.block p.block hp hn)
theorem Kept.frozen (h : Kept S w w') {p : Addr} (hp : p.block < w.heap.size) (hn : ¬ S p.block) : w'.frozen? p = w.frozen? p := World.frozen?_of_block (h.block p.block hp hn)
end

/-- Nothing that was there has turned. -/
abbrev Fresh (w w' : World) : Prop := Kept (fun _ => False) w w'

/-- Block g is just the cells cs of element type t, none frozen. -/
def Blk (w : World) (g : Nat) (t : TypeId) (cs : Array Value) : Prop := w.heap[g]? = some (.cells cs t (0, 0))

section
variable {w w' : World} {g : Nat} {t : TypeId} {cs : Array Value}
theorem Blk.lt (h : Blk w g t cs) : g < w.heap.size := by
  rcases Nat.lt_or_ge g w.heap.size with hlt | hge
  · exact hlt
  · unfold Blk at h; rw [Array.getElem?_eq_none hge] at h; cases h
theorem Blk.cell (h : Blk w g t cs) (i : Nat) : w.cell? ⟨g, i, none⟩ = cs[i]? := cell_of_row w g i cs t (0, 0) h
theorem Blk.frozen (h : Blk w g t cs) (i : Nat) : w.frozen? ⟨g, i, none⟩ = false := by
  unfold Blk at h
  simp [World.frozen?, h]
theorem Blk.new (w : World) (t : TypeId) (cs : Array Value) : Blk (w.alloc (.cells cs t)) w.heap.size t cs := heap_alloc_new w _
theorem Blk.drew (h : Blk w g t cs) : Blk w.drew g t cs := h
theorem Blk.drewN (h : Blk w g t cs) (n : Nat) : Blk (w.drewN n) g t cs := h
theorem Blk.alloc (h : Blk w g t cs) (o : Obj) : Blk (w.alloc o) g t cs := (Below.heap_alloc w o g h.lt).trans h
theorem Blk.set_ (h : Blk w g t cs) (i : Nat) (u : Value) : Blk (w.setCell ⟨g, i, none⟩ u) g t (cs.setIfInBounds i u) := by
  unfold Blk at h ⊢
  simp [World.setCell, Array.getElem?_modify, h]
theorem Blk.far (h : Blk w g t cs) {p : Addr} (hp : g ≠ p.block) (u : Value) : Blk (w.setCell p u) g t cs := (Below.heap_setCell w p u g hp).trans h
theorem Blk.kept {S : Nat → Prop} (h : Blk w g t cs) (hk : Kept S w w') (hn : ¬ S g) : Blk w' g t cs := (hk.block g h.lt hn).trans h
theorem Blk.ne_ {g' : Nat} {t' : TypeId} {cs' : Array Value} (h : Blk w g t cs) (h' : Blk w g' t' cs') (hne : t ≠ t') : g ≠ g' := by
  rintro rfl
  unfold Blk at h h'
  rw [h] at h'
  injection h' with h'
  injection h' with _ ht
  exact hne ht
theorem Blk.grown {row : Option Nat} (h : Blk w g t cs) (hb : w.grownBy w' row) (hg : some g ≠ row) : Blk w' g t cs := (hb.block g h.lt hg).trans h
end

/-- Numbers as cells. -/
def ivs (k : IntKind) (xs : List Int) : List Value := xs.map (Value.int k)
theorem ivs_length (k : IntKind) (xs : List Int) : (ivs k xs).length = xs.length := by simp [ivs]
theorem ivs_append (k : IntKind) (xs ys : List Int) : ivs k (xs ++ ys) = ivs k xs ++ ivs k ys := by simp [ivs]
theorem ivs_one (k : IntKind) (xs : List Int) : ∀ u ∈ ivs k xs, u.oneCell' = true := by
  intro u hu; simp only [ivs, List.mem_map] at hu; obtain ⟨x, _, rfl⟩ := hu; rfl
theorem ivs_get {k : IntKind} {xs : List Int} {j : Nat} (hj : j < xs.length) : (ivs k xs)[j]? = some (.int k (xs.getD j 0)) := by simp [ivs, hj]

/-- The slice '.slice A n c' reads as the numbers xs; what it lies in is none of S. -/
structure Row (w : World) (k : IntKind) (A : Option Addr) (n : Nat) (xs : List Int) : Prop where
  len : xs.length = n
  at_ : ∀ j, j < n → ∃ b o, A = some ⟨b, o, none⟩ ∧ b < w.heap.size ∧ w.cell? ⟨b, o + j, none⟩ = some (.int k (xs.getD j 0))

theorem Row.kept {S : Nat → Prop} {w w' : World} {k : IntKind} {A : Option Addr} {n : Nat} {xs : List Int} (h : Row w k A n xs) (hk : Kept S w w') (hn : ∀ b o, A = some ⟨b, o, none⟩ → 0 < n → ¬ S b) : Row w' k A n xs :=
  ⟨h.len, fun j hj => by
    obtain ⟨b, o, e, hb, hc⟩ := h.at_ j hj
    exact ⟨b, o, e, Nat.lt_of_lt_of_le hb hk.size, (hk.cell (p := ⟨b, o + j, none⟩) hb (hn b o e (by omega))).trans hc⟩⟩

/-- The slice value v owns the numbers xs: nil and none, or at the head of a block of its own. -/
def Own (w : World) (e : TypeId) (k : IntKind) (v : Value) (xs : List Int) : Prop := w.ownsRow 0 e 1 v xs.length (ivs k xs)

section
variable {w w' : World} {e : TypeId} {k : IntKind} {v : Value} {xs : List Int}
theorem Own.nil (w : World) (e : TypeId) (k : IntKind) : Own w e k (.slice none 0 0) [] := World.ownsRow_nil w 0 e 1
theorem Own.alloc (h : Own w e k v xs) (o : Obj) : Own (w.alloc o) e k v xs := World.ownsRow.alloc h o
theorem Own.drew (h : Own w e k v xs) : Own w.drew e k v xs := h
theorem Own.drewN (h : Own w e k v xs) (n : Nat) : Own (w.drewN n) e k v xs := h
theorem Own.form (h : Own w e k v xs) (hn : 0 < xs.length) : ∃ g cap, v = .slice (some ⟨g, 0, none⟩) xs.length cap ∧ g < w.heap.size := by
  obtain ⟨g, cap, hv, _, hg⟩ := World.ownsRow.form h hn
  exact ⟨g, cap, hv, hg⟩
theorem Own.lt (h : Own w e k v xs) {g : Nat} (hg : v.ownBlock = some g) : g < w.heap.size := (World.ownsRow.lt h g hg).2
theorem Own.kept {S : Nat → Prop} (h : Own w e k v xs) (hk : Kept S w w') (hn : ∀ g, v.ownBlock = some g → ¬ S g) : Own w' e k v xs := by
  refine ⟨h.1, ?_⟩
  rcases h.2 with hn' | ⟨g, cap, cur, rfl, hb, hgg, rest⟩
  · exact .inl hn'
  · exact .inr ⟨g, cap, cur, rfl, hb, (hk.block g (Array.getElem?_eq_some_iff.1 hgg).1 (hn g rfl)).trans hgg, rest⟩
theorem Own.cell {g cap : Nat} (h : Own w e k (.slice (some ⟨g, 0, none⟩) xs.length cap) xs) {j : Nat} (hj : j < xs.length) : w.cell? ⟨g, j, none⟩ = some (.int k (xs.getD j 0)) := by
  rw [World.ownsRow.cellAt h j (by omega), ivs_get hj]
theorem Own.frozen {g cap : Nat} (h : Own w e k (.slice (some ⟨g, 0, none⟩) xs.length cap) xs) (j : Nat) : w.frozen? ⟨g, j, none⟩ = false := World.ownsRow.frozenAt h j
theorem Own.ne_blk {g : Nat} {t : TypeId} {cs : Array Value} (h : Own w e k v xs) (hg : Blk w g t cs) (hne : e ≠ t) : v.ownBlock ≠ some g := by
  rcases h.2 with ⟨rfl, _⟩ | ⟨g', cap, cur, rfl, _, hh, _⟩
  · simp [Value.ownBlock]
  · intro he
    have : g' = g := by simpa [Value.ownBlock] using he
    subst this
    exact Blk.ne_ (t := e) hh hg hne rfl
theorem Own.row (h : Own w e k v xs) : ∃ A c, v = .slice A xs.length c ∧ Row w k A xs.length xs ∧ (∀ b o, A = some ⟨b, o, none⟩ → v.ownBlock = some b) := by
  rcases h.2 with ⟨rfl, h0⟩ | ⟨g, cap, cur, rfl, _, hh, _⟩
  · exact ⟨none, 0, by rw [h0], ⟨rfl, fun j hj => by omega⟩, fun b o hb => by cases hb⟩
  · refine ⟨some ⟨g, 0, none⟩, cap, rfl, ⟨rfl, fun j hj => ⟨g, 0, rfl, (Array.getElem?_eq_some_iff.1 hh).1, ?_⟩⟩, fun b o hb => by injection hb with hb; injection hb with hb; subst hb; rfl⟩
    rw [Nat.zero_add]; exact Own.cell h hj
theorem Own.of_append {ys : List Int} {m : Nat} (h : w.ownsRow 0 e 1 v m (ivs k xs ++ ivs k ys)) (hm : m = xs.length + ys.length) : Own w e k v (xs ++ ys) := by
  unfold Own; rw [ivs_append, List.length_append, ← hm]; exact h
theorem ivs_set (k : IntKind) (xs : List Int) (j : Nat) (u : Int) : (ivs k xs).set j (.int k u) = ivs k (xs.set j u) := by simp [ivs, List.map_set]
theorem Own.stored {g cap : Nat} (h : Own w e k (.slice (some ⟨g, 0, none⟩) xs.length cap) xs) (j : Nat) (u : Int) :
    Own (w.setCell ⟨g, j, none⟩ (.int k u)) e k (.slice (some ⟨g, 0, none⟩) xs.length cap) (xs.set j u) := by
  have := World.ownsRow.stored h j (.int k u)
  unfold Own
  rw [List.length_set, ← ivs_set]
  exact this.1
theorem Own.setFar (h : Own w e k v xs) {p : Addr} (hp : v.ownBlock ≠ some p.block) (u : Value) : Own (w.setCell p u) e k v xs :=
  h.kept (S := fun i => i = p.block) (Kept.setCell (Kept.refl (fun i => i = p.block) w) (p := p) (fun _ => rfl) u) (fun g hg hs => hp (by rw [hg, hs]))
end

theorem Own.cap {w : World} {e : TypeId} {k : IntKind} {A : Option Addr} {n c : Nat} {xs : List Int} (h : Own w e k (.slice A n c) xs) : n ≤ c := by
  rcases h.2 with ⟨h', _⟩ | ⟨g', cap', cur, h', _, hg, hnc, _⟩
  · simp at h'; omega
  · simp only [Value.slice.injEq] at h'
    obtain ⟨_, rfl, rfl⟩ := h'
    exact hnc

theorem Row.take {w : World} {k : IntKind} {A : Option Addr} {n m : Nat} {xs : List Int} (h : Row w k A n xs) (hm : m ≤ n) : Row w k A m (xs.take m) :=
  ⟨by rw [List.length_take, h.len]; omega, fun j hj => by
    obtain ⟨b, o, e, hb, hc⟩ := h.at_ j (by omega)
    exact ⟨b, o, e, hb, by rw [hc]; simp [List.getD, hj]⟩⟩
theorem Row.drewN {w : World} {k : IntKind} {A : Option Addr} {n : Nat} {xs : List Int} (h : Row w k A n xs) (j : Nat) : Row (w.drewN j) k A n xs := ⟨h.len, h.at_⟩

theorem Row.news {w : World} {k : IntKind} {a : Addr} {n : Nat} {xs : List Int} (h : Row w k (some a) n xs) : ∀ j u, (ivs k xs)[j]? = some u → w.cell? (a.add j) = some u := by
  intro j u hu
  have hj : j < xs.length := by
    have := (List.getElem?_eq_some_iff.1 hu).1
    simpa [ivs] using this
  obtain ⟨b, o, e, _, hc⟩ := h.at_ j (by rw [← h.len]; exact hj)
  injection e with e
  subst e
  rw [ivs_get hj] at hu
  have hadd : (⟨b, o, none⟩ : Addr).add j = ⟨b, o + j, none⟩ := by unfold Addr.add; split <;> simp_all
  rw [hadd, hc, hu]

theorem Row.nil0 {w : World} {k : IntKind} {n : Nat} {xs : List Int} (h : Row w k none n xs) : n = 0 := by
  rcases Nat.eq_zero_or_pos n with h0 | h0
  · exact h0
  · obtain ⟨b, o, e, _⟩ := h.at_ 0 h0
    cases e

theorem Row.empty (w : World) (k : IntKind) (A : Option Addr) : Row w k A 0 [] := ⟨rfl, fun j hj => by omega⟩

section
variable {P : Program} (w : World)
theorem run_app_nothing (t ty e : TypeId) (i : TypeInfo) (ht : P.underlying t = some (.slice e)) (hi : P.info? e = some i) (k : IntKind) (v : Value) (xs : List Int) (hown : Own w e k v xs) (c : Nat) :
    (Builtin.append_ #[t, t] ty #[v, .slice none 0 c]).run P w = .ok v w := by
  rcases hown.2 with ⟨rfl, h0⟩ | ⟨g, cap, cur, rfl, _, _, hnc, _⟩
  · simp [Builtin.append_, run_underlying ht, sizeOf, typeInfo, hi, Builtin.lenOf, Builtin.firstCells]
  · simp [Builtin.append_, run_underlying ht, sizeOf, typeInfo, hi, Builtin.lenOf, Builtin.firstCells, hnc, storeCells]

/-- append of a slice that reads as ys, nil let in, onto a row of one's own. -/
theorem run_app (t ty e : TypeId) (i : TypeInfo) (k : IntKind) (bytes : Nat) (ht : P.underlying t = some (.slice e)) (hi : P.info? e = some i) (hz : i.zero = some (.int k 0)) (hsize : i.size = 1) (hby : i.bytes = bytes)
    (v : Value) (xs : List Int) (hown : Own w e k v xs) (A : Option Addr) (m c : Nat) (ys : List Int) (hr : Row w k A m ys) (h63 : xs.length + m ≤ maxLen) (hbytes : (xs.length + m) * bytes ≤ 140737488355328) :
    ∃ v' w', (Builtin.append_ #[t, t] ty #[v, .slice A m c]).run P w = .ok v' w' ∧ Own w' e k v' (xs ++ ys) ∧ w.grownBy w' v.ownBlock ∧ (v'.ownBlock = v.ownBlock ∨ v'.ownBlock = some w.heap.size) := by
  rcases A with _ | a
  · have hm := hr.nil0
    subst hm
    have hy : ys = [] := List.eq_nil_of_length_eq_zero hr.len
    subst hy
    exact ⟨v, w, run_app_nothing w t ty e i ht hi k v xs hown c, by simpa using hown, World.grownBy.refl w _, .inl rfl⟩
  · obtain ⟨v', w', hrun, h2, h3, _, h5⟩ := run_append_own_at (P := P) w 0 t ty e i (.int k 0) 1 bytes ht hi hz hsize hby rfl (by omega) v xs.length (ivs k xs) hown a m c (ivs k ys) (by rw [ivs_length, hr.len]; omega) hr.news (ivs_one k ys) h63 hbytes (by omega)
    exact ⟨v', w', hrun, Own.of_append h2 (by rw [hr.len]), h3, h5⟩

theorem wpList_app {ops : Array Oper} {rest : List Oper} {o : Oper} {a : Act} {Q : Exit → Act → World → Prop} (hgd : o.guard = none) (s x : Operand) (t : TypeId)
    (ho : o.op = .call { callee := .builtin .append, args := #[s, x], argTypes := #[t, t] })
    (e : TypeId) (i : TypeInfo) (k : IntKind) (bytes : Nat) (ht : P.underlying t = some (.slice e)) (hi : P.info? e = some i) (hz : i.zero = some (.int k 0)) (hsize : i.size = 1) (hby : i.bytes = bytes)
    (v : Value) (xs : List Int) (hs : a.eval s = v) (hown : Own w e k v xs) (A : Option Addr) (m c : Nat) (ys : List Int) (hx : a.eval x = .slice A m c) (hr : Row w k A m ys)
    (h63 : xs.length + m ≤ maxLen) (hbytes : (xs.length + m) * bytes ≤ 140737488355328)
    (h : ∀ v' w', Own w' e k v' (xs ++ ys) → w.grownBy w' v.ownBlock → (v'.ownBlock = v.ownBlock ∨ v'.ownBlock = some w.heap.size) → wpList P ops Q rest (a.put o.dst v') w') : wpList P ops Q (o :: rest) a w := by
  refine wpList_plain hgd fun K hK => ?_
  obtain ⟨v', w', hrun, h2, h3, h4⟩ := run_app (P := P) w t o.type e i k bytes ht hi hz hsize hby v xs hown A m c ys hr h63 hbytes
  unfold Oper.wp execOp
  simp only [ho, resolve, invoke, builtin, Sem.run_bind, Sem.run_pure, Result.andThen_ok, List.map_toArray, List.map_cons, List.map_nil, hs, hx, hrun]
  exact hK _ _ (h v' w' h2 h3 h4)
/-- .. at an operation that is guarded, and wanted. -/
theorem wpList_app_if {ops : Array Oper} {rest : List Oper} {o : Oper} {a : Act} {Q : Exit → Act → World → Prop} (hw : Region.wanted o (yielded ops a.tmps) = true) (s x : Operand) (t : TypeId)
    (ho : o.op = .call { callee := .builtin .append, args := #[s, x], argTypes := #[t, t] })
    (e : TypeId) (i : TypeInfo) (k : IntKind) (bytes : Nat) (ht : P.underlying t = some (.slice e)) (hi : P.info? e = some i) (hz : i.zero = some (.int k 0)) (hsize : i.size = 1) (hby : i.bytes = bytes)
    (v : Value) (xs : List Int) (hs : a.eval s = v) (hown : Own w e k v xs) (A : Option Addr) (m c : Nat) (ys : List Int) (hx : a.eval x = .slice A m c) (hr : Row w k A m ys)
    (h63 : xs.length + m ≤ maxLen) (hbytes : (xs.length + m) * bytes ≤ 140737488355328)
    (h : ∀ v' w', Own w' e k v' (xs ++ ys) → w.grownBy w' v.ownBlock → (v'.ownBlock = v.ownBlock ∨ v'.ownBlock = some w.heap.size) → wpList P ops Q rest (a.put o.dst v') w') : wpList P ops Q (o :: rest) a w := by
  refine Go.BigFrame.wpList_want hw fun K hK => ?_
  obtain ⟨v', w', hrun, h2, h3, h4⟩ := run_app (P := P) w t o.type e i k bytes ht hi hz hsize hby v xs hown A m c ys hr h63 hbytes
  unfold Oper.wp execOp
  simp only [ho, resolve, invoke, builtin, Sem.run_bind, Sem.run_pure, Result.andThen_ok, List.map_toArray, List.map_cons, List.map_nil, hs, hx, hrun]
  exact hK _ _ (h v' w' h2 h3 h4)
end

/-- What a call that makes a new list of numbers leaves. -/
def NewRow (w w' : World) (e : TypeId) (k : IntKind) (v : Value) (xs : List Int) : Prop :=
  Own w' e k v xs ∧ (∀ g, v.ownBlock = some g → w.heap.size ≤ g) ∧ Fresh w w'

end Go.Proofs.Ythfifpapkknodaa

/- Fixed predictors, as plain mathematics: residuals of every order, what they are of, what they weigh, the best order. Numbers go round at 2^32. -/
namespace Go.Proofs.Ythfifpapkknodaa
open Go.RowKit
set_option maxRecDepth 100000

/-- A number of 32 bits that goes round. -/
def w32 (x : Int) : Int := (x + 2147483648) % 4294967296 - 2147483648
theorem w32_wrap (x : Int) : IntKind.i32.wrap x = w32 x := by rw [IntKind.wrap_i32]; rfl
theorem w32_in (x : Int) : -2147483648 ≤ w32 x ∧ w32 x < 2147483648 := by unfold w32; omega
theorem w32_id {x : Int} (h : -2147483648 ≤ x ∧ x < 2147483648) : w32 x = x := by unfold w32; omega

/-- The guess, of the three numbers ahead. -/
def gp (k : Nat) (a b c : Int) : Int := if k = 0 then 0 else if k = 1 then a else if k = 2 then 2 * a - b else 3 * a - 3 * b + c
/-- The number j ahead of place i. -/
def pv (l : List Int) (i j : Nat) : Int := if j ≤ i then l.getD (i - j) 0 else 0
def gs (k : Nat) (l : List Int) (i : Nat) : Int := gp k (pv l i 1) (pv l i 2) (pv l i 3)
theorem pv_take (l : List Int) {n i j : Nat} (hi : i ≤ n) (hj : 0 < j) : pv (l.take n) i j = pv l i j := by
  unfold pv
  split
  · rcases Nat.lt_or_ge (i - j) n with h | h
    · simp [List.getD, h]
    · omega
  · rfl
theorem pv_append (l m : List Int) {i j : Nat} (hi : i ≤ l.length) (hj : 0 < j) : pv (l ++ m) i j = pv l i j := by
  unfold pv
  split
  · rcases Nat.lt_or_ge (i - j) l.length with h | h
    · simp [List.getD, List.getElem?_append_left h]
    · omega
  · rfl
theorem gs_take (k : Nat) (l : List Int) {n i : Nat} (hi : i ≤ n) : gs k (l.take n) i = gs k l i := by
  unfold gs
  rw [pv_take l hi (by decide), pv_take l hi (by decide), pv_take l hi (by decide)]

/-- The first n residuals; all. -/
def resN (k : Nat) (l : List Int) : Nat → List Int
  | 0 => []
  | n + 1 => resN k l n ++ [w32 (l.getD n 0 - gs k l n)]
def res (k : Nat) (l : List Int) : List Int := resN k l l.length
/-- The first n numbers of which l are the residuals; all. -/
def rstN (k : Nat) (l : List Int) : Nat → List Int
  | 0 => []
  | n + 1 => rstN k l n ++ [w32 (l.getD n 0 + gs k (rstN k l n) n)]
def rst (k : Nat) (l : List Int) : List Int := rstN k l l.length
theorem resN_length (k : Nat) (l : List Int) : ∀ n, (resN k l n).length = n
  | 0 => rfl
  | n + 1 => by simp [resN, resN_length k l n]
theorem res_length (k : Nat) (l : List Int) : (res k l).length = l.length := resN_length k l _
theorem rstN_length (k : Nat) (l : List Int) : ∀ n, (rstN k l n).length = n
  | 0 => rfl
  | n + 1 => by simp [rstN, rstN_length k l n]
theorem rst_length (k : Nat) (l : List Int) : (rst k l).length = l.length := rstN_length k l _
theorem resN_getD (k : Nat) (l : List Int) : ∀ n i, i < n → (resN k l n).getD i 0 = w32 (l.getD i 0 - gs k l i)
  | n + 1, i, h => by
    unfold resN
    rcases Nat.lt_or_ge i n with hi | hi
    · rw [← resN_getD k l n i hi]
      simp [List.getD, List.getElem?_append_left (show i < (resN k l n).length by rw [resN_length]; exact hi)]
    · obtain rfl : i = n := by omega
      simp [List.getD, resN_length]
theorem res_getD (k : Nat) (l : List Int) {i : Nat} (hi : i < l.length) : (res k l).getD i 0 = w32 (l.getD i 0 - gs k l i) := resN_getD k l _ i hi
theorem rstN_take (k : Nat) (l : List Int) : ∀ n m, n ≤ m → (rstN k l m).take n = rstN k l n
  | n, 0, h => by obtain rfl : n = 0 := by omega
                  rfl
  | n, m + 1, h => by
    rcases Nat.lt_or_ge m n with hm | hm
    · obtain rfl : n = m + 1 := by omega
      rw [List.take_of_length_le (by rw [rstN_length]; omega)]
    · show (rstN k l m ++ [_]).take n = _
      rw [List.take_append_of_le_length (by rw [rstN_length]; exact hm), rstN_take k l n m hm]
theorem rstN_getD (k : Nat) (l : List Int) {n i : Nat} (h : i < n) : (rstN k l n).getD i 0 = w32 (l.getD i 0 + gs k (rstN k l n) i) := by
  have h1 := rstN_take k l (i + 1) n h
  have h2 := rstN_take k l i n (by omega)
  have e : (rstN k l n).getD i 0 = ((rstN k l n).take (i + 1)).getD i 0 := by simp [List.getD]
  rw [e, h1, ← gs_take k (rstN k l n) (Nat.le_refl i), h2]
  show (rstN k l i ++ [_]).getD i 0 = _
  simp [List.getD, rstN_length]

/-- All are numbers of 32 bits. -/
def I32 (l : List Int) : Prop := ∀ v ∈ l, -2147483648 ≤ v ∧ v < 2147483648
theorem I32.at_ {l : List Int} (h : I32 l) (i : Nat) : -2147483648 ≤ l.getD i 0 ∧ l.getD i 0 < 2147483648 := by
  by_cases hi : i < l.length
  · exact h (l.getD i 0) (by simp [List.getD, hi])
  · simp [List.getD, List.getElem?_eq_none (Nat.le_of_not_lt hi)]
theorem I32.of {l : List Int} (h : ∀ i, i < l.length → -2147483648 ≤ l.getD i 0 ∧ l.getD i 0 < 2147483648) : I32 l := fun v hv => by
  obtain ⟨i, hi, rfl⟩ := List.getElem_of_mem hv
  have := h i hi
  simpa [List.getD, hi] using this
theorem res_32 (k : Nat) (l : List Int) : I32 (res k l) := I32.of fun i hi => by
  rw [res_getD k l (by rwa [res_length] at hi)]
  exact w32_in _
theorem rst_32 (k : Nat) (l : List Int) : I32 (rst k l) := I32.of fun i hi => by
  unfold rst at hi ⊢
  rw [rstN_length] at hi
  rw [rstN_getD k l hi]
  exact w32_in _

theorem eq_of_getD {l m : List Int} (hl : l.length = m.length) (h : ∀ i, i < l.length → l.getD i 0 = m.getD i 0) : l = m := by
  apply List.ext_getElem hl
  intro i h1 h2
  have := h i h1
  simpa [List.getD, h1, h2] using this

/-- What was taken away is restored. -/
theorem rst_res (k : Nat) {l : List Int} (h : I32 l) : rst k (res k l) = l := by
  have : ∀ n, n ≤ l.length → rstN k (res k l) n = l.take n := by
    intro n
    induction n with
    | zero => intro _; simp [rstN]
    | succ n ih =>
      intro hn
      unfold rstN
      rw [ih (by omega), res_getD k l (by omega), gs_take k l (Nat.le_refl n), List.take_succ_eq_append_getElem (by omega)]
      have := h.at_ n
      have e : l.getD n 0 = l[n] := by simp [List.getD, show n < l.length by omega]
      rw [e] at this ⊢
      congr 2
      unfold w32
      omega
  unfold rst
  rw [res_length, this _ (Nat.le_refl _), List.take_length]
theorem res_rst (k : Nat) {l : List Int} (h : I32 l) : res k (rst k l) = l := by
  refine eq_of_getD (by rw [res_length, rst_length]) fun i hi => ?_
  rw [res_length] at hi
  rw [res_getD k _ hi]
  rw [rst_length] at hi
  unfold rst
  rw [rstN_getD k l hi]
  have := h.at_ i
  unfold w32
  omega

/-- Residuals of residuals. -/
theorem res_zero {l : List Int} (h : I32 l) : res 0 l = l := by
  refine eq_of_getD (res_length 0 l) fun i hi => ?_
  rw [res_length] at hi
  rw [res_getD 0 l hi]
  have := h.at_ i
  unfold gs gp w32
  omega
theorem res_pv (k : Nat) (l : List Int) {i j : Nat} (hi : i < l.length) (hj : 0 < j) : pv (res k l) i j = if j ≤ i then w32 (l.getD (i - j) 0 - gs k l (i - j)) else 0 := by
  unfold pv
  split
  · rw [res_getD k l (by omega)]
  · rfl
theorem pv_pv (l : List Int) {i a b : Nat} (h : a ≤ i) : pv l (i - a) b = pv l i (a + b) := by
  unfold pv
  by_cases hb : b ≤ i - a
  · rw [if_pos hb, if_pos (by omega), Nat.sub_sub]
  · rw [if_neg hb, if_neg (by omega)]
theorem pv_none (l : List Int) {i j : Nat} (h : i < j) : pv l i j = 0 := by unfold pv; rw [if_neg (by omega)]
theorem pv_some (l : List Int) {i j : Nat} (h : j ≤ i) : pv l i j = l.getD (i - j) 0 := by unfold pv; rw [if_pos h]
theorem res_two (l : List Int) : res 1 (res 1 l) = res 2 l := by
  refine eq_of_getD (by rw [res_length, res_length, res_length]) fun i hi => ?_
  rw [res_length, res_length] at hi
  rw [res_getD 1 _ (by rw [res_length]; exact hi), res_getD 1 l hi, res_getD 2 l hi]
  have e : gs 1 (res 1 l) i = pv (res 1 l) i 1 := rfl
  rw [e, res_pv 1 l hi (by decide)]
  show w32 (w32 (l.getD i 0 - pv l i 1) - _) = w32 (l.getD i 0 - (2 * pv l i 1 - pv l i 2))
  by_cases h : 1 ≤ i
  · rw [if_pos h]
    show w32 (w32 (l.getD i 0 - pv l i 1) - w32 (l.getD (i - 1) 0 - pv l (i - 1) 1)) = _
    rw [pv_pv l h, show 1 + 1 = 2 from rfl, ← pv_some l h]
    unfold w32
    omega
  · rw [if_neg h, pv_none l (by omega), pv_none l (by omega)]
    unfold w32
    omega
theorem res_three (l : List Int) : res 1 (res 2 l) = res 3 l := by
  refine eq_of_getD (by rw [res_length, res_length, res_length]) fun i hi => ?_
  rw [res_length, res_length] at hi
  rw [res_getD 1 _ (by rw [res_length]; exact hi), res_getD 2 l hi, res_getD 3 l hi]
  have e : gs 1 (res 2 l) i = pv (res 2 l) i 1 := rfl
  rw [e, res_pv 2 l hi (by decide)]
  show w32 (w32 (l.getD i 0 - (2 * pv l i 1 - pv l i 2)) - _) = w32 (l.getD i 0 - (3 * pv l i 1 - 3 * pv l i 2 + pv l i 3))
  by_cases h : 1 ≤ i
  · rw [if_pos h]
    show w32 (w32 (l.getD i 0 - (2 * pv l i 1 - pv l i 2)) - w32 (l.getD (i - 1) 0 - (2 * pv l (i - 1) 1 - pv l (i - 1) 2))) = _
    rw [pv_pv l h, pv_pv l h, show 1 + 1 = 2 from rfl, show 1 + 2 = 3 from rfl, ← pv_some l h]
    unfold w32
    omega
  · rw [if_neg h, pv_none l (by omega), pv_none l (by omega), pv_none l (by omega)]
    unfold w32
    omega

/-- What numbers weigh, the best order. -/
def weight : List Int → Nat
  | [] => 0
  | v :: r => v.natAbs + weight r
theorem weight_append (b : List Int) : ∀ a : List Int, weight (a ++ b) = weight a + weight b
  | [] => by simp [weight]
  | v :: r => by simp only [List.cons_append, weight, weight_append b r]; omega
theorem weight_take (l : List Int) {i : Nat} (hi : i < l.length) : weight (l.take (i + 1)) = weight (l.take i) + (l.getD i 0).natAbs := by
  have e : l.take (i + 1) = l.take i ++ [l.getD i 0] := by rw [List.take_succ_eq_append_getElem hi]; simp [List.getD, hi]
  rw [e, weight_append]
  simp [weight]
theorem weight_le : ∀ {l : List Int}, I32 l → weight l ≤ 2147483648 * l.length
  | [], _ => by simp [weight]
  | v :: r, h => by
    have ih := weight_le (l := r) (fun x hx => h x (List.mem_cons_of_mem _ hx))
    have := h v (List.mem_cons_self ..)
    simp only [weight, List.length_cons]
    omega
def wres (l : List Int) (k : Nat) : Nat := weight (res k l)
def bestOr (l : List Int) : Nat → Nat
  | 0 => 0
  | k + 1 => if wres l (k + 1) < wres l (bestOr l k) then k + 1 else bestOr l k
theorem bestOr_le (l : List Int) : ∀ m, bestOr l m ≤ m
  | 0 => Nat.le_refl _
  | m + 1 => by
    have := bestOr_le l m
    unfold bestOr; split <;> omega
theorem wres_le (l : List Int) (k : Nat) : wres l k ≤ 2147483648 * l.length := by
  have := weight_le (res_32 k l)
  rwa [res_length] at this

/-- An order that may be. -/
def ko (k : Int) : Nat := (max 0 (min k 3)).toNat
theorem ko_le (k : Int) : ko k ≤ 3 := by unfold ko; omega
theorem ko_eq (k : Int) : max 0 (min k 3) = (ko k : Int) := by unfold ko; omega
theorem ko_in {k : Nat} (hk : k ≤ 3) : ko (k : Int) = k := by unfold ko; omega

end Go.Proofs.Ythfifpapkknodaa

/- Tracks, as plain mathematics: samples of bytes, tracks of bytes, bytes of tracks, middles and sides. -/
namespace Go.Proofs.Ythfifpapkknodaa
open Go.RowKit
set_option maxRecDepth 100000

/-- n numbers by their places. -/
def tn (n : Nat) (f : Nat → Int) : List Int := (List.range n).map f
theorem tn_length (n : Nat) (f : Nat → Int) : (tn n f).length = n := by simp [tn]
theorem tn_getD {n : Nat} {f : Nat → Int} {k : Nat} (h : k < n) : (tn n f).getD k 0 = f k := by simp [tn, h]
theorem tn_succ (n : Nat) (f : Nat → Int) : tn (n + 1) f = tn n f ++ [f n] := by
  unfold tn; rw [List.range_succ, List.map_append]; rfl
theorem tn_ext {n : Nat} {xs : List Int} {f : Nat → Int} (hl : xs.length = n) (h : ∀ i, i < n → xs.getD i 0 = f i) : xs = tn n f := by
  apply List.ext_getElem (by rw [hl, tn_length])
  intro i h1 h2
  have := h i (by omega)
  simp [List.getD, h1] at this
  simp [tn, this]

/-- Middle and side of a pair, and back. -/
def sdP (l r : Int) : Int := w32 (l - r)
def mdP (l r : Int) : Int := w32 (r + sdP l r / 2)
def rtP (m s : Int) : Int := w32 (m - s / 2)
def ltP (m s : Int) : Int := w32 (rtP m s + s)
theorem rt_md {l r : Int} (hr : -2147483648 ≤ r ∧ r < 2147483648) : rtP (mdP l r) (sdP l r) = r := by
  unfold rtP mdP
  generalize sdP l r / 2 = h
  unfold w32
  omega
theorem lt_md {l r : Int} (hl : -2147483648 ≤ l ∧ l < 2147483648) (hr : -2147483648 ≤ r ∧ r < 2147483648) : ltP (mdP l r) (sdP l r) = l := by
  unfold ltP
  rw [rt_md hr]
  unfold sdP w32
  omega
def mids (l r : List Int) : List Int := tn l.length fun i => mdP (l.getD i 0) (r.getD i 0)
def sids (l r : List Int) : List Int := tn l.length fun i => sdP (l.getD i 0) (r.getD i 0)
def lfts (m s : List Int) : List Int := tn m.length fun i => ltP (m.getD i 0) (s.getD i 0)
def rgts (m s : List Int) : List Int := tn m.length fun i => rtP (m.getD i 0) (s.getD i 0)
theorem lfts_mids {l r : List Int} (hl : I32 l) (hr : I32 r) : lfts (mids l r) (sids l r) = l := by
  refine (tn_ext (by rw [mids, tn_length]) fun i hi => ?_).symm
  rw [mids, tn_length] at hi
  rw [mids, sids, tn_getD hi, tn_getD hi, lt_md (hl.at_ i) (hr.at_ i)]
theorem rgts_mids {l r : List Int} (h : l.length = r.length) (hr : I32 r) : rgts (mids l r) (sids l r) = r := by
  refine (tn_ext (by rw [mids, tn_length]; exact h.symm) fun i hi => ?_).symm
  rw [mids, tn_length] at hi
  rw [mids, sids, tn_getD hi, tn_getD hi, rt_md (hr.at_ i)]
theorem I32.tn {n : Nat} {f : Nat → Int} (h : ∀ i, i < n → -2147483648 ≤ f i ∧ f i < 2147483648) : I32 (tn n f) := I32.of fun i hi => by
  rw [tn_length] at hi
  rw [tn_getD hi]
  exact h i hi

/-- May there be so many tracks of so many bits? -/
def fitT (n bt : Int) : Prop := 1 ≤ n ∧ n ≤ 8 ∧ (bt = 8 ∨ bt = 16)
instance (n bt : Int) : Decidable (fitT n bt) := by unfold fitT; infer_instance
/-- Bytes of a sample. -/
def wdT (bt : Int) : Nat := if bt = 8 then 1 else 2
/-- A number of 16 bits, with its sign. -/
def s16 (x : Int) : Int := (x + 32768) % 65536 - 32768
/-- The sample at byte p. -/
def smpT (bt : Int) (bs : List Int) (p : Nat) : Int := if bt = 8 then bs.getD p 0 - 128 else s16 (bs.getD p 0 + 256 * bs.getD (p + 1) 0)
/-- Track i of c. -/
def trkT (bt : Int) (bs : List Int) (c i : Nat) : List Int := tn (bs.length / (c * wdT bt)) fun j => smpT bt bs ((j * c + i) * wdT bt)
theorem trkT_length (bt : Int) (bs : List Int) (c i : Nat) : (trkT bt bs c i).length = bs.length / (c * wdT bt) := tn_length _ _
/-- The bytes of a sample. -/
def encT (bt v : Int) : List Int := if bt = 8 then [(v + 128) % 256] else [v % 256, (v / 256) % 256]
theorem encT_length (bt v : Int) : (encT bt v).length = wdT bt := by unfold encT wdT; split <;> rfl
/-- Is it a sample? -/
def mostT (bt : Int) : Int := if bt = 16 then 32767 else 127
def okT (bt v : Int) : Prop := -mostT bt - 1 ≤ v ∧ v ≤ mostT bt
instance (bt v : Int) : Decidable (okT bt v) := by unfold okT; infer_instance
/-- All tracks as long as the first one, all of samples. -/
def joinT (bt : Int) (n : Nat) (T : Nat → List Int) : Prop := ∀ k, k < n → (T k).length = (T 0).length ∧ ∀ j, j < (T k).length → okT bt ((T k).getD j 0)
/-- The bytes of frame j, its first k samples; of the first j frames. -/
def frmT (bt : Int) (T : Nat → List Int) (j : Nat) : Nat → List Int
  | 0 => []
  | k + 1 => frmT bt T j k ++ encT bt ((T k).getD j 0)
def bysT (bt : Int) (n : Nat) (T : Nat → List Int) : Nat → List Int
  | 0 => []
  | j + 1 => bysT bt n T j ++ frmT bt T j n
theorem frmT_length (bt : Int) (T : Nat → List Int) (j : Nat) : ∀ k, (frmT bt T j k).length = k * wdT bt
  | 0 => by simp [frmT]
  | k + 1 => by rw [frmT, List.length_append, frmT_length bt T j k, encT_length, Nat.succ_mul]
theorem bysT_length (bt : Int) (n : Nat) (T : Nat → List Int) : ∀ j, (bysT bt n T j).length = j * (n * wdT bt)
  | 0 => by simp [bysT]
  | j + 1 => by rw [bysT, List.length_append, bysT_length bt n T j, frmT_length, Nat.succ_mul]
theorem wdT_pos (bt : Int) : 0 < wdT bt ∧ wdT bt ≤ 2 := by unfold wdT; split <;> omega

/-- Bytes: from 0 to 255. -/
def B8 (bs : List Int) : Prop := ∀ x ∈ bs, 0 ≤ x ∧ x < 256
theorem B8.at_ {bs : List Int} (h : B8 bs) (i : Nat) : 0 ≤ bs.getD i 0 ∧ bs.getD i 0 < 256 := by
  simp only [List.getD]
  rcases Nat.lt_or_ge i bs.length with hi | hi
  · rw [List.getElem?_eq_getElem hi]; exact h _ (List.getElem_mem hi)
  · rw [List.getElem?_eq_none hi]; simp
theorem smpT_ok {bt : Int} {bs : List Int} (h : B8 bs) (hb : bt = 8 ∨ bt = 16) (p : Nat) : okT bt (smpT bt bs p) := by
  have h1 := h.at_ p
  have h2 := h.at_ (p + 1)
  unfold okT mostT smpT s16
  rcases hb with rfl | rfl
  · simp only [if_pos]; omega
  · simp only [if_pos, if_neg (show ¬ (16 : Int) = 8 by omega)]; omega
theorem okT_32 {bt v : Int} (h : okT bt v) : -2147483648 ≤ v ∧ v < 2147483648 := by
  unfold okT mostT at h
  split at h <;> omega
theorem take_two {bs : List Int} {p : Nat} (h : p + 2 ≤ bs.length) : (bs.drop p).take 2 = [bs.getD p 0, bs.getD (p + 1) 0] := by
  rw [List.drop_eq_getElem_cons (show p < bs.length by omega), List.drop_eq_getElem_cons (show p + 1 < bs.length by omega)]
  show [bs[p], bs[p + 1]] = _
  simp [List.getD, show p < bs.length by omega, show p + 1 < bs.length by omega]
theorem take_one {bs : List Int} {p : Nat} (h : p + 1 ≤ bs.length) : (bs.drop p).take 1 = [bs.getD p 0] := by
  rw [List.drop_eq_getElem_cons (show p < bs.length by omega)]
  show [bs[p]] = _
  simp [List.getD, show p < bs.length by omega]
/-- The bytes of the sample at p are those at p. -/
theorem enc_smp {bt : Int} {bs : List Int} (h : B8 bs) (hb : bt = 8 ∨ bt = 16) {p : Nat} (hp : p + wdT bt ≤ bs.length) : encT bt (smpT bt bs p) = (bs.drop p).take (wdT bt) := by
  have h1 := h.at_ p
  have h2 := h.at_ (p + 1)
  rcases hb with rfl | rfl
  · have e : wdT 8 = 1 := rfl
    rw [e] at hp ⊢
    rw [take_one hp]
    unfold encT smpT
    simp only [if_pos]
    congr 1
    omega
  · have e : wdT 16 = 2 := rfl
    rw [e] at hp ⊢
    rw [take_two hp]
    unfold encT smpT s16
    simp only [if_neg (show ¬ (16 : Int) = 8 by omega)]
    congr 1
    · omega
    · congr 1
      omega
theorem take_more {bs : List Int} (a b : Nat) : bs.take (a + b) = bs.take a ++ (bs.drop a).take b := by rw [List.take_add]
section
variable {bt : Int} {bs : List Int} (h : B8 bs) (hb : bt = 8 ∨ bt = 16) {c : Nat} (hm : bs.length % (c * wdT bt) = 0)
include hm in
theorem split_len : bs.length = bs.length / (c * wdT bt) * (c * wdT bt) := by
  have := Nat.div_add_mod bs.length (c * wdT bt)
  rw [hm, Nat.mul_comm] at this
  omega
include h hb hm in
theorem frm_split {j : Nat} (hj : j < bs.length / (c * wdT bt)) : ∀ k, k ≤ c → frmT bt (trkT bt bs c) j k = (bs.drop (j * (c * wdT bt))).take (k * wdT bt)
  | 0, _ => by simp [frmT]
  | k + 1, hk => by
    have hl := split_len hm
    have h1 : (j + 1) * (c * wdT bt) ≤ bs.length := by
      rw [hl]
      exact Nat.mul_le_mul_right _ hj
    have h2 : (j * c + k) * wdT bt + wdT bt ≤ bs.length := by
      refine Nat.le_trans ?_ h1
      rw [← Nat.succ_mul, ← Nat.mul_assoc]
      exact Nat.mul_le_mul_right _ (by rw [Nat.succ_mul]; omega)
    rw [frmT, frm_split hj k (by omega), trkT, tn_getD hj, enc_smp h hb h2, Nat.succ_mul, take_more, List.drop_drop]
    rw [show j * (c * wdT bt) + k * wdT bt = (j * c + k) * wdT bt by rw [Nat.add_mul, Nat.mul_assoc]]
include h hb hm in
theorem bys_split : ∀ j, j ≤ bs.length / (c * wdT bt) → bysT bt c (trkT bt bs c) j = bs.take (j * (c * wdT bt))
  | 0, _ => by simp [bysT]
  | j + 1, hj => by
    rw [bysT, bys_split j (by omega), frm_split h hb hm (by omega) c (Nat.le_refl _), Nat.succ_mul, take_more]
include h hb hm in
/-- What is split is joined. -/
theorem bys_trk : bysT bt c (trkT bt bs c) (bs.length / (c * wdT bt)) = bs := by
  rw [bys_split h hb hm _ (Nat.le_refl _), ← split_len hm, List.take_length]
include h hb in
theorem join_trk : joinT bt c (trkT bt bs c) := fun k _ => ⟨by rw [trkT_length, trkT_length], fun j hj => by
  rw [trkT_length] at hj
  rw [trkT, tn_getD hj]
  exact smpT_ok h hb _⟩
end

end Go.Proofs.Ythfifpapkknodaa

/- Colours, as plain mathematics: pixels by their green, columns apart, and back. -/
namespace Go.Proofs.Ythfifpapkknodaa
open Go.RowKit
set_option maxRecDepth 100000

theorem bs_ext {xs ys : List Int} (hl : xs.length = ys.length) (h : ∀ i, i < xs.length → xs.getD i 0 = ys.getD i 0) : xs = ys := by
  apply List.ext_getElem hl
  intro i h1 h2
  have := h i h1
  simpa [List.getD, h1, h2] using this

/-- Pixels turned (s = -1), or back (s = 1): at place i. -/
def trv (s : Int) (bs : List Int) (i : Nat) : Int :=
  if i / 3 * 3 + 3 ≤ bs.length then (if i % 3 = 0 then (bs.getD i 0 + s * bs.getD (i + 1) 0) % 256 else if i % 3 = 2 then (bs.getD i 0 + s * bs.getD (i - 1) 0) % 256 else bs.getD i 0) else bs.getD i 0
def trn (s : Int) (bs : List Int) : List Int := tn bs.length (trv s bs)
/-- .. the first q pixels alone. -/
def trnTo (s : Int) (bs : List Int) (q : Nat) : List Int := tn bs.length fun i => if i < 3 * q then trv s bs i else bs.getD i 0
theorem trn_length (s : Int) (bs : List Int) : (trn s bs).length = bs.length := tn_length _ _
theorem trnTo_length (s : Int) (bs : List Int) (q : Nat) : (trnTo s bs q).length = bs.length := tn_length _ _
theorem trnTo_zero (s : Int) (bs : List Int) : trnTo s bs 0 = bs := (tn_ext rfl fun i _ => by rw [if_neg (by omega)]).symm
theorem trnTo_all (s : Int) (bs : List Int) : trnTo s bs (bs.length / 3) = trn s bs := by
  unfold trn trnTo tn
  apply List.map_congr_left
  intro i hi
  have hi := List.mem_range.1 hi
  by_cases h : i < 3 * (bs.length / 3)
  · rw [if_pos h]
  · rw [if_neg h, trv, if_neg (by omega)]
theorem trnTo_next {s : Int} {bs : List Int} {q : Nat} (h : 3 * q + 3 ≤ bs.length) :
    ((trnTo s bs q).set (3 * q) ((bs.getD (3 * q) 0 + s * bs.getD (3 * q + 1) 0) % 256)).set (3 * q + 2) ((bs.getD (3 * q + 2) 0 + s * bs.getD (3 * q + 1) 0) % 256) = trnTo s bs (q + 1) := by
  refine tn_ext (by simp [trnTo_length]) fun i hi => ?_
  by_cases h2 : i = 3 * q + 2
  · subst h2
    rw [if_pos (by omega), trv, if_pos (by omega), if_neg (by omega), if_pos (by omega)]
    simp [List.getD, trnTo_length, hi]
  · by_cases h0 : i = 3 * q
    · subst h0
      rw [if_pos (by omega), trv, if_pos (by omega), if_pos (by omega)]
      simp [List.getD, trnTo_length, hi]
    · have e : (((trnTo s bs q).set (3 * q) ((bs.getD (3 * q) 0 + s * bs.getD (3 * q + 1) 0) % 256)).set (3 * q + 2) ((bs.getD (3 * q + 2) 0 + s * bs.getD (3 * q + 1) 0) % 256)).getD i 0 = (trnTo s bs q).getD i 0 := by
        simp only [List.getD]
        rw [List.getElem?_set_ne (by omega), List.getElem?_set_ne (by omega)]
      rw [e, trnTo, tn_getD hi]
      by_cases h3 : i < 3 * q
      · rw [if_pos h3, if_pos (by omega)]
      · rw [if_neg h3]
        by_cases h4 : i < 3 * (q + 1)
        · rw [if_pos h4, trv, if_pos (by omega), if_neg (by omega), if_neg (by omega)]
        · rw [if_neg h4]
/-- .. by the place. -/
theorem trnTo_step {s : Int} {bs : List Int} {p : Nat} (h3 : p % 3 = 0) (h : p + 3 ≤ bs.length) :
    ((trnTo s bs (p / 3)).set p ((bs.getD p 0 + s * bs.getD (p + 1) 0) % 256)).set (p + 2) ((bs.getD (p + 2) 0 + s * bs.getD (p + 1) 0) % 256) = trnTo s bs ((p + 3) / 3) := by
  have e : p = 3 * (p / 3) := by omega
  have := trnTo_next (s := s) (bs := bs) (q := p / 3) (by omega)
  rw [← e, show p / 3 + 1 = (p + 3) / 3 by omega] at this
  exact this
theorem trn_byte {s : Int} {bs : List Int} (h : B8 bs) : B8 (trn s bs) := fun x hx => by
  unfold trn tn at hx
  simp only [List.mem_map, List.mem_range] at hx
  obtain ⟨i, hi, rfl⟩ := hx
  have h1 := h.at_ i
  unfold trv
  split
  · split
    · omega
    · split
      · omega
      · exact h1
  · exact h1
/-- Turned there and back it is as it was, in both orders. -/
theorem trn_trn {s : Int} {bs : List Int} (h : B8 bs) (hs : s = 1 ∨ s = -1) : trn (-s) (trn s bs) = bs := by
  refine bs_ext (by rw [trn_length, trn_length]) fun i hi => ?_
  rw [trn_length, trn_length] at hi
  have h1 := h.at_ i
  rw [trn, tn_getD (by rw [trn_length]; exact hi), trv]
  simp only [trn_length]
  have hg : (trn s bs).getD i 0 = trv s bs i := tn_getD hi
  rw [hg]
  by_cases hin : i / 3 * 3 + 3 ≤ bs.length
  · rw [if_pos hin]
    by_cases h0 : i % 3 = 0
    · have hg1 : (trn s bs).getD (i + 1) 0 = bs.getD (i + 1) 0 := by
        rw [trn, tn_getD (by omega), trv, if_pos (by omega), if_neg (by omega), if_neg (by omega)]
      rw [if_pos h0, hg1, trv, if_pos hin, if_pos h0]
      rcases hs with rfl | rfl <;> omega
    · by_cases h2 : i % 3 = 2
      · have hg1 : (trn s bs).getD (i - 1) 0 = bs.getD (i - 1) 0 := by
          rw [trn, tn_getD (by omega), trv, if_pos (by omega), if_neg (by omega), if_neg (by omega)]
        rw [if_neg h0, if_pos h2, hg1, trv, if_pos hin, if_neg h0, if_pos h2]
        rcases hs with rfl | rfl <;> omega
      · rw [if_neg h0, if_neg h2, trv, if_pos hin, if_neg h0, if_neg h2]
  · rw [if_neg hin, trv, if_neg hin]

/-- Rows of m numbers, one behind the other. -/
def fls (m : Nat) (f : Nat → Nat → Int) : Nat → List Int
  | 0 => []
  | k + 1 => fls m f k ++ tn m (f k)
theorem fls_length (m : Nat) (f : Nat → Nat → Int) : ∀ k, (fls m f k).length = k * m
  | 0 => by simp [fls]
  | k + 1 => by rw [fls, List.length_append, fls_length m f k, tn_length, Nat.succ_mul]
theorem fls_getD (m : Nat) (f : Nat → Nat → Int) : ∀ K k i, k < K → i < m → (fls m f K).getD (k * m + i) 0 = f k i
  | K + 1, k, i, hk, hi => by
    rw [fls]
    rcases Nat.lt_or_ge k K with h | h
    · have h1 : k * m + i < (fls m f K).length := by
        rw [fls_length]
        have := Nat.mul_le_mul_right m (show k + 1 ≤ K from h)
        rw [Nat.add_mul, Nat.one_mul] at this
        omega
      rw [← fls_getD m f K k i h hi]
      simp only [List.getD]
      rw [List.getElem?_append_left h1]
    · obtain rfl : k = K := by omega
      simp only [List.getD]
      rw [List.getElem?_append_right (by rw [fls_length]; omega), fls_length, Nat.add_sub_cancel_left]
      exact tn_getD hi
/-- Rows that are a list's own. -/
theorem fls_take (m : Nat) (bs : List Int) : ∀ K, K * m ≤ bs.length → fls m (fun k i => bs.getD (k * m + i) 0) K = bs.take (K * m)
  | 0, _ => by simp [fls]
  | K + 1, h => by
    rw [Nat.add_mul, Nat.one_mul] at h
    rw [fls, fls_take m bs K (by omega), Nat.add_mul, Nat.one_mul, List.take_add]
    congr 1
    refine (tn_ext (by rw [List.length_take, List.length_drop]; omega) fun i hi => ?_).symm
    simp [List.getD, List.getElem?_drop, hi]
theorem fls_congr {m : Nat} {f g : Nat → Nat → Int} : ∀ K, (∀ k i, k < K → i < m → f k i = g k i) → fls m f K = fls m g K
  | 0, _ => rfl
  | K + 1, h => by
    rw [fls, fls, fls_congr K (fun k i hk hi => h k i (by omega) hi)]
    congr 1
    unfold tn
    apply List.map_congr_left
    intro i hi
    exact h K i (by omega) (List.mem_range.1 hi)

/-- How many columns. -/
def colC (n : Int) : Nat := (max 1 (min n 16)).toNat
theorem colC_in (n : Int) : 1 ≤ colC n ∧ colC n ≤ 16 ∧ (colC n : Int) = max 1 (min n 16) := by unfold colC; omega
/-- Columns apart, and together, c of them. -/
def aprt (bs : List Int) (c : Nat) : List Int := fls (bs.length / c) (fun k i => bs.getD (i * c + k) 0) c ++ bs.drop (bs.length / c * c)
def tgth (bs : List Int) (c : Nat) : List Int := fls c (fun i k => bs.getD (k * (bs.length / c) + i) 0) (bs.length / c) ++ bs.drop (bs.length / c * c)
theorem aprt_length (bs : List Int) (c : Nat) : (aprt bs c).length = bs.length := by
  rw [aprt, List.length_append, fls_length, List.length_drop, Nat.mul_comm]
  have := Nat.div_mul_le_self bs.length c
  omega
theorem tgth_length (bs : List Int) (c : Nat) : (tgth bs c).length = bs.length := by
  rw [tgth, List.length_append, fls_length, List.length_drop]
  have := Nat.div_mul_le_self bs.length c
  omega
theorem getD_left {xs ys : List Int} {i : Nat} (h : i < xs.length) : (xs ++ ys).getD i 0 = xs.getD i 0 := by
  simp only [List.getD]
  rw [List.getElem?_append_left h]
theorem aprt_at {bs : List Int} {c k i : Nat} (hk : k < c) (hi : i < bs.length / c) : (aprt bs c).getD (k * (bs.length / c) + i) 0 = bs.getD (i * c + k) 0 := by
  rw [aprt, getD_left ?_, fls_getD _ _ _ _ _ hk hi]
  rw [fls_length]
  have := Nat.mul_le_mul_right (bs.length / c) (show k + 1 ≤ c from hk)
  rw [Nat.add_mul, Nat.one_mul] at this
  omega
theorem tgth_at {bs : List Int} {c k i : Nat} (hk : k < c) (hi : i < bs.length / c) : (tgth bs c).getD (i * c + k) 0 = bs.getD (k * (bs.length / c) + i) 0 := by
  rw [tgth, getD_left ?_, fls_getD _ _ _ _ _ hi hk]
  rw [fls_length]
  have := Nat.mul_le_mul_right c (show i + 1 ≤ bs.length / c from hi)
  rw [Nat.add_mul, Nat.one_mul] at this
  omega
theorem tgth_aprt (bs : List Int) (c : Nat) : tgth (aprt bs c) c = bs := by
  have hl := aprt_length bs c
  rw [tgth, hl, fls_congr (g := fun i k => bs.getD (i * c + k) 0) _ (fun i k hi hk => aprt_at hk hi), fls_take c bs _ (Nat.div_mul_le_self _ _)]
  have e : (aprt bs c).drop (bs.length / c * c) = bs.drop (bs.length / c * c) := by
    rw [aprt, List.drop_append_of_le_length (by rw [fls_length, Nat.mul_comm]; omega), List.drop_of_length_le (by rw [fls_length, Nat.mul_comm]; omega)]
    rfl
  rw [e, List.take_append_drop]
theorem aprt_tgth (bs : List Int) (c : Nat) : aprt (tgth bs c) c = bs := by
  have hl := tgth_length bs c
  rw [aprt, hl, fls_congr (g := fun k i => bs.getD (k * (bs.length / c) + i) 0) _ (fun k i hk hi => tgth_at hk hi), fls_take _ bs _ (by rw [Nat.mul_comm]; exact Nat.div_mul_le_self _ _)]
  have e : (tgth bs c).drop (bs.length / c * c) = bs.drop (bs.length / c * c) := by
    rw [tgth, List.drop_append_of_le_length (by rw [fls_length]; omega), List.drop_of_length_le (by rw [fls_length]; omega)]
    rfl
  rw [e, Nat.mul_comm c, List.take_append_drop]
theorem getD_byte {bs : List Int} (h : B8 bs) (i : Nat) : 0 ≤ bs.getD i 0 ∧ bs.getD i 0 < 256 := h.at_ i
theorem fls_byte {m : Nat} {f : Nat → Nat → Int} (h : ∀ k i, 0 ≤ f k i ∧ f k i < 256) : ∀ K, B8 (fls m f K)
  | 0 => fun x hx => by cases hx
  | K + 1 => fun x hx => by
    rw [fls, List.mem_append] at hx
    rcases hx with hx | hx
    · exact fls_byte h K x hx
    · unfold tn at hx
      simp only [List.mem_map, List.mem_range] at hx
      obtain ⟨i, _, rfl⟩ := hx
      exact h K i
theorem aprt_byte {bs : List Int} (h : B8 bs) (c : Nat) : B8 (aprt bs c) := fun x hx => by
  rw [aprt, List.mem_append] at hx
  rcases hx with hx | hx
  · exact fls_byte (fun k i => h.at_ _) c x hx
  · exact h x (List.mem_of_mem_drop hx)
theorem tgth_byte {bs : List Int} (h : B8 bs) (c : Nat) : B8 (tgth bs c) := fun x hx => by
  rw [tgth, List.mem_append] at hx
  rcases hx with hx | hx
  · exact fls_byte (fun k i => h.at_ _) _ x hx
  · exact h x (List.mem_of_mem_drop hx)

end Go.Proofs.Ythfifpapkknodaa

/- Rows of pixels by their neighbours, as plain mathematics: guesses, rows turned and back, what they weigh, the best kind, and all rows. -/
namespace Go.Proofs.Ythfifpapkknodaa
open Go.RowKit
set_option maxRecDepth 100000

/-- The amount of a number. -/
def amt (v : Int) : Int := max v (-v)
/-- Of three the one that is nearest to their line. -/
def pae (a b c : Int) : Int :=
  if amt (a + b - c - a) ≤ amt (a + b - c - b) ∧ amt (a + b - c - a) ≤ amt (a + b - c - c) then a else if amt (a + b - c - b) ≤ amt (a + b - c - c) then b else c
theorem pae_in {a b c : Int} (ha : 0 ≤ a ∧ a < 256) (hb : 0 ≤ b ∧ b < 256) (hc : 0 ≤ c ∧ c < 256) : 0 ≤ pae a b c ∧ pae a b c < 256 := by
  unfold pae
  split
  · exact ha
  · split
    · exact hb
    · exact hc
theorem pae_near (a b c : Int) : (pae a b c = a ∨ pae a b c = b ∨ pae a b c = c) ∧ amt (pae a b c - (a + b - c)) ≤ amt (a - (a + b - c)) ∧ amt (pae a b c - (a + b - c)) ≤ amt (b - (a + b - c)) ∧ amt (pae a b c - (a + b - c)) ≤ amt (c - (a + b - c)) := by
  unfold pae
  split
  · rename_i h
    refine ⟨.inl rfl, ?_, ?_, ?_⟩ <;> (unfold amt at *; omega)
  · rename_i h
    split
    · rename_i h2
      refine ⟨.inr (.inl rfl), ?_, ?_, ?_⟩ <;> (unfold amt at *; omega)
    · rename_i h2
      refine ⟨.inr (.inr rfl), ?_, ?_, ?_⟩ <;> (unfold amt at *; omega)

/-- How many planes count. -/
def plN (p : Int) : Nat := (max p 1).toNat
theorem plN_in (p : Int) : 1 ≤ plN p ∧ (plN p : Int) = max p 1 := by unfold plN; omega
/-- The byte n places ahead of i. -/
def ahd (l : List Int) (i n : Nat) : Int := if n ≤ i then l.getD (i - n) 0 else 0
theorem ahd_in {l : List Int} (h : B8 l) (i n : Nat) : 0 ≤ ahd l i n ∧ ahd l i n < 256 := by
  unfold ahd
  split
  · exact h.at_ _
  · omega
/-- A guess of kind k. -/
def ges (k : Int) (row up : List Int) (i n : Nat) : Int :=
  if k = 1 then ahd row i n else if k = 2 then up.getD i 0 else if k = 3 then pae (ahd row i n) (up.getD i 0) (ahd up i n) else if k = 4 then (ahd row i n + up.getD i 0) / 2 else 0
theorem ges_in {row up : List Int} (h : B8 row) (h2 : B8 up) (k : Int) (i n : Nat) : 0 ≤ ges k row up i n ∧ ges k row up i n < 256 := by
  have a := ahd_in h i n
  have b := h2.at_ i
  have c := ahd_in h2 i n
  unfold ges
  split
  · exact a
  · split
    · exact b
    · split
      · exact pae_in a b c
      · split <;> omega
theorem ahd_congr {xs ys : List Int} {i n : Nat} (hn : 1 ≤ n) (h : ∀ j, j < i → xs.getD j 0 = ys.getD j 0) : ahd xs i n = ahd ys i n := by
  unfold ahd
  split
  · exact h _ (by omega)
  · rfl
/-- A guess hangs on what is ahead alone. -/
theorem ges_congr {k : Int} {xs ys up : List Int} {i n : Nat} (hn : 1 ≤ n) (h : ∀ j, j < i → xs.getD j 0 = ys.getD j 0) : ges k xs up i n = ges k ys up i n := by
  unfold ges
  rw [ahd_congr hn h]

/-- A row, turned by kind k. -/
def rowF (k : Int) (row up : List Int) (n : Nat) : List Int := tn row.length fun i => (row.getD i 0 - ges k row up i n) % 256
theorem rowF_length (k : Int) (row up : List Int) (n : Nat) : (rowF k row up n).length = row.length := tn_length _ _
theorem rowF_byte (k : Int) (row up : List Int) (n : Nat) : B8 (rowF k row up n) := fun x hx => by
  unfold rowF tn at hx
  simp only [List.mem_map, List.mem_range] at hx
  obtain ⟨i, _, rfl⟩ := hx
  omega
/-- .. and back: the first j bytes. -/
def unN (k : Int) (row up : List Int) (n : Nat) : Nat → List Int
  | 0 => []
  | j + 1 => unN k row up n j ++ [(row.getD j 0 + ges k (unN k row up n j) up j n) % 256]
def unF (k : Int) (row up : List Int) (n : Nat) : List Int := unN k row up n row.length
theorem unN_length (k : Int) (row up : List Int) (n : Nat) : ∀ j, (unN k row up n j).length = j
  | 0 => rfl
  | j + 1 => by rw [unN, List.length_append, unN_length k row up n j]; rfl
theorem unF_length (k : Int) (row up : List Int) (n : Nat) : (unF k row up n).length = row.length := unN_length _ _ _ _ _
theorem unN_byte (k : Int) (row up : List Int) (n : Nat) : ∀ j, B8 (unN k row up n j)
  | 0 => fun x hx => by cases hx
  | j + 1 => fun x hx => by
    rw [unN, List.mem_append] at hx
    rcases hx with hx | hx
    · exact unN_byte k row up n j x hx
    · simp only [List.mem_singleton] at hx
      omega
theorem unN_pre (k : Int) (row up : List Int) (n : Nat) : ∀ J j i, i < j → j ≤ J → (unN k row up n J).getD i 0 = (unN k row up n j).getD i 0
  | 0, j, i, hi, hj => by omega
  | J + 1, j, i, hi, hj => by
    rcases Nat.lt_or_ge J j with h | h
    · obtain rfl : j = J + 1 := by omega
      rfl
    · rw [← unN_pre k row up n J j i hi h, unN, getD_left (by rw [unN_length]; omega)]
theorem unN_at (k : Int) (row up : List Int) (n : Nat) {J i : Nat} (hi : i < J) : (unN k row up n J).getD i 0 = (row.getD i 0 + ges k (unN k row up n i) up i n) % 256 := by
  rw [unN_pre k row up n J (i + 1) i (by omega) hi, unN]
  simp [List.getD, unN_length]
/-- What is turned is turned back. -/
theorem un_row {k : Int} {row up : List Int} {n : Nat} (hn : 1 ≤ n) (h : B8 row) : unF k (rowF k row up n) up n = row := by
  have key : ∀ j, j ≤ row.length → unN k (rowF k row up n) up n j = row.take j := by
    intro j
    induction j with
    | zero => intro _; rfl
    | succ j ih =>
      intro hj
      have hx := h.at_ j
      have hg : ges k (row.take j) up j n = ges k row up j n := ges_congr hn fun i hi => by simp [List.getD, hi]
      rw [unN, ih (by omega), hg, rowF, tn_getD (by omega), List.take_succ_eq_append_getElem (by omega)]
      congr 1
      have : row.getD j 0 = row[j] := by simp [List.getD, show j < row.length by omega]
      rw [← this]
      congr 1
      omega
  unfold unF
  rw [rowF_length, key _ (Nat.le_refl _), List.take_length]
theorem row_un {k : Int} {row up : List Int} {n : Nat} (hn : 1 ≤ n) (h : B8 row) : rowF k (unF k row up n) up n = row := by
  refine (tn_ext (by rw [unF_length]) fun i hi => ?_).symm
  rw [unF_length] at hi
  have hx := h.at_ i
  have hg : ges k (unF k row up n) up i n = ges k (unN k row up n i) up i n := ges_congr hn fun j hj => unN_pre k row up n _ i j hj (by omega)
  rw [hg]
  unfold unF
  rw [unN_at k row up n hi]
  omega

/-- What bytes weigh. -/
def wgb (x : Int) : Nat := if 128 < x then (256 - x).toNat else x.toNat
def wgN (l : List Int) : Nat → Nat
  | 0 => 0
  | j + 1 => wgN l j + wgb (l.getD j 0)
def wgt (l : List Int) : Nat := wgN l l.length
theorem wgN_le {l : List Int} (h : B8 l) : ∀ j, wgN l j ≤ 128 * j
  | 0 => Nat.le_refl _
  | j + 1 => by
    have := wgN_le h j
    have hx := h.at_ j
    rw [wgN]
    unfold wgb
    split <;> omega
/-- The best kind of the first ones. -/
def bstN (row up : List Int) (n : Nat) : Nat → Nat
  | 0 => 0
  | k + 1 => if wgt (rowF ((k + 1 : Nat) : Int) row up n) < wgt (rowF (bstN row up n k : Nat) row up n) then k + 1 else bstN row up n k
def bst (row up : List Int) (n : Nat) : Nat := bstN row up n 4
theorem bstN_le (row up : List Int) (n : Nat) : ∀ k, bstN row up n k ≤ k
  | 0 => Nat.le_refl _
  | k + 1 => by
    have := bstN_le row up n k
    rw [bstN]
    split <;> omega
theorem bstN_min (row up : List Int) (n : Nat) : ∀ k j, j ≤ k → wgt (rowF (bstN row up n k : Nat) row up n) ≤ wgt (rowF (j : Nat) row up n)
  | 0, j, h => by
    obtain rfl : j = 0 := by omega
    exact Nat.le_refl _
  | k + 1, j, h => by
    have ih := bstN_min row up n k
    rw [bstN]
    split
    · rename_i hlt
      rcases Nat.lt_or_ge k j with hj | hj
      · obtain rfl : j = k + 1 := by omega
        exact Nat.le_refl _
      · have := ih j hj
        omega
    · rename_i hge
      rcases Nat.lt_or_ge k j with hj | hj
      · obtain rfl : j = k + 1 := by omega
        omega
      · exact ih j hj
theorem wgN_zero {l : List Int} (h : B8 l) : ∀ j, wgN l j = 0 → ∀ i, i < j → l.getD i 0 = 0
  | j + 1, h0, i, hi => by
    have hx := h.at_ j
    rw [wgN] at h0
    have h1 : wgN l j = 0 := by omega
    have h2 : wgb (l.getD j 0) = 0 := by omega
    rcases Nat.lt_or_ge i j with h3 | h3
    · exact wgN_zero h j h1 i h3
    · obtain rfl : i = j := by omega
      unfold wgb at h2
      split at h2 <;> omega
theorem wgN_nil {l : List Int} : ∀ j, (∀ i, i < j → l.getD i 0 = 0) → wgN l j = 0
  | 0, _ => rfl
  | j + 1, h => by
    rw [wgN, wgN_nil j (fun i hi => h i (by omega)), h j (by omega)]
    rfl
/-- A row that is like the one ahead: nothing is left by kind 2, nor by the best one, which is 2 at most. -/
theorem flat_two {row : List Int} {n i : Nat} (hi : i < row.length) : (rowF 2 row row n).getD i 0 = 0 := by
  rw [rowF, tn_getD hi]
  have : ges 2 row row i n = row.getD i 0 := rfl
  rw [this]
  omega
theorem flat_best {row : List Int} {n : Nat} : bst row row n ≤ 2 ∧ ∀ i, i < row.length → (rowF (bst row row n : Nat) row row n).getD i 0 = 0 := by
  have h2 : ∀ k, wgt (rowF (bstN row row n (k + 2) : Nat) row row n) = 0 := fun k => by
    have h1 := bstN_min row row n (k + 2) 2 (by omega)
    have h0 : wgt (rowF ((2 : Nat) : Int) row row n) = 0 := by
      unfold wgt
      rw [rowF_length]
      exact wgN_nil _ fun i hi => flat_two hi
    omega
  have e3 : bstN row row n 3 = bstN row row n 2 := by
    rw [bstN, if_neg]
    have : wgt (rowF (bstN row row n 2 : Nat) row row n) = 0 := h2 0
    omega
  have e4 : bstN row row n 4 = bstN row row n 3 := by
    rw [bstN, if_neg]
    have : wgt (rowF (bstN row row n 3 : Nat) row row n) = 0 := h2 1
    omega
  refine ⟨by unfold bst; rw [e4, e3]; exact bstN_le _ _ _ _, fun i hi => ?_⟩
  have h : wgt (rowF (bst row row n : Nat) row row n) = 0 := h2 2
  unfold wgt at h
  rw [rowF_length] at h
  exact wgN_zero (rowF_byte _ _ _ _) _ h i hi

end Go.Proofs.Ythfifpapkknodaa

/- White and numbers of a picture's head, as plain mathematics. -/
namespace Go.Proofs.Ythfifpapkknodaa
open Go.RowKit
set_option maxRecDepth 100000

/-- A byte of white. -/
def blk (c : Int) : Prop := c = 32 ∨ c = 9 ∨ c = 10 ∨ c = 13
instance (c : Int) : Decidable (blk c) := by unfold blk; infer_instance
/-- The next end of a line, or the end. -/
def eol (b : List Int) (i : Nat) : Nat := if i < b.length then (if b.getD i 0 = 10 then i else eol b (i + 1)) else i
termination_by b.length - i
theorem eol_ge (b : List Int) (i : Nat) : i ≤ eol b i := by
  rw [eol]
  split
  · split
    · exact Nat.le_refl _
    · exact Nat.le_trans (Nat.le_succ i) (eol_ge b (i + 1))
  · exact Nat.le_refl _
termination_by b.length - i
theorem eol_le (b : List Int) (i : Nat) (h : i ≤ b.length) : eol b i ≤ b.length := by
  rw [eol]
  split
  · split
    · exact h
    · exact eol_le b (i + 1) (by omega)
  · exact h
termination_by b.length - i
/-- Behind white that began at f; -1, if there is none. -/
def whi (b : List Int) (f i : Nat) : Int :=
  if i < b.length then
    if blk (b.getD i 0) then whi b f (i + 1)
    else if b.getD i 0 = 35 then (if eol b i < b.length then whi b f (eol b i + 1) else -1)
    else if i = f then -1 else i
  else -1
termination_by b.length - i
decreasing_by
  · omega
  · have := eol_ge b i
    omega
theorem whi_in (b : List Int) (f i : Nat) (h : f ≤ i) : whi b f i = -1 ∨ (f ≤ whi b f i ∧ whi b f i < b.length) := by
  rw [whi]
  split
  · split
    · exact whi_in b f (i + 1) (by omega)
    · split
      · split
        · have := eol_ge b i
          exact whi_in b f (eol b i + 1) (by omega)
        · exact .inl rfl
      · split
        · exact .inl rfl
        · right; omega
  · exact .inl rfl
termination_by b.length - i
decreasing_by
  · omega
  · have := eol_ge b i
    omega
/-- Digits from i on, so many at most: the number, the place behind, how many more there might have been. -/
def numR (b : List Int) : Nat → Nat → Int → Int × Nat × Nat
  | 0, i, v => (v, i, 0)
  | f + 1, i, v => if i < b.length ∧ 48 ≤ b.getD i 0 ∧ b.getD i 0 ≤ 57 then numR b f (i + 1) (10 * v + (b.getD i 0 - 48)) else (v, i, f + 1)
/-- A number of one to five digits, and the place behind it. -/
def numP (b : List Int) (i : Nat) : Int × Int := if (numR b 6 i 0).2.2 = 6 ∨ (numR b 6 i 0).2.2 = 0 then (-1, -1) else ((numR b 6 i 0).1, ((numR b 6 i 0).2.1 : Nat))
theorem numR_in (b : List Int) : ∀ f i v, 0 ≤ v → i ≤ b.length → 0 ≤ (numR b f i v).1 ∧ i ≤ (numR b f i v).2.1 ∧ (numR b f i v).2.1 ≤ b.length ∧ (numR b f i v).2.2 ≤ f ∧ (numR b f i v).1 + 1 ≤ (v + 1) * 10 ^ (f - (numR b f i v).2.2)
  | 0, i, v, h, hi => by simp [numR, h, hi]
  | f + 1, i, v, h, hi => by
    rw [numR]
    split
    · rename_i hc
      obtain ⟨h1, h2, h3, h4, h5⟩ := numR_in b f (i + 1) (10 * v + (b.getD i 0 - 48)) (by omega) (by omega)
      refine ⟨h1, by omega, h3, by omega, Int.le_trans h5 ?_⟩
      rw [Nat.succ_sub h4, Int.pow_succ, ← Int.mul_assoc, Int.mul_right_comm]
      exact Int.mul_le_mul_of_nonneg_right (by omega) (Int.pow_nonneg (by omega))
    · simp [h, hi]

end Go.Proofs.Ythfifpapkknodaa

/- append onto a list of the call's own (NewRow): of a slice, of a constant text, behind a row that is full. -/
namespace Go.Proofs.Ythfifpapkknodaa
open Go.RowKit

theorem NewRow.base {w0 w : World} {e : TypeId} {k : IntKind} {v : Value} {xs : List Int} (h : NewRow w0 w e k v xs) : w.ownsRow w0.heap.size e 1 v xs.length (ivs k xs) := by
  refine ⟨h.1.1, ?_⟩
  rcases h.1.2 with h1 | ⟨g, cap, cur, rfl, _, hg, rest⟩
  · exact .inl h1
  · exact .inr ⟨g, cap, cur, rfl, h.2.1 g rfl, hg, rest⟩
theorem NewRow.of_base {w0 w : World} {e : TypeId} {k : IntKind} {v : Value} {xs : List Int} {n : Nat} (h : w.ownsRow w0.heap.size e 1 v n (ivs k xs)) (hn : xs.length = n) (hf : Fresh w0 w) : NewRow w0 w e k v xs := by
  subst hn
  refine ⟨⟨h.1, ?_⟩, fun g hg => (World.ownsRow.lt h g hg).1, hf⟩
  rcases h.2 with h1 | ⟨g, cap, cur, rfl, _, hg, rest⟩
  · exact .inl h1
  · exact .inr ⟨g, cap, cur, rfl, Nat.zero_le _, hg, rest⟩
theorem NewRow.app {w0 w w' : World} {e : TypeId} {k : IntKind} {v v' : Value} {xs ys : List Int} (h : NewRow w0 w e k v xs) (ho : Own w' e k v' (xs ++ ys)) (hg : w.grownBy w' v.ownBlock) (hat : v'.ownBlock = v.ownBlock ∨ v'.ownBlock = some w.heap.size) : NewRow w0 w' e k v' (xs ++ ys) :=
  ⟨ho, fun g e2 => by
    rcases hat with e3 | e3
    · exact h.2.1 g (e3 ▸ e2)
    · rw [e3] at e2
      injection e2 with e2
      have := h.2.2.size
      omega, h.2.2.grown hg fun j e2 hj => absurd (h.2.1 j e2) (by omega)⟩
theorem NewRow.fresh {w0 w w' : World} {e : TypeId} {k : IntKind} {v : Value} {xs : List Int} (h : NewRow w0 w e k v xs) (hf : Fresh w w') : NewRow w0 w' e k v xs := ⟨h.1.kept hf fun _ _ => id, h.2.1, h.2.2.trans hf fun _ _ e => e⟩

section
variable {P : Program} (w : World)
/-- .. of a slice. -/
theorem wpList_new {ops : Array Oper} {rest : List Oper} {o : Oper} {a : Act} {Q : Exit → Act → World → Prop} (w0 : World) (hgd : o.guard = none) (s x : Operand) (t : TypeId)
    (ho : o.op = .call { callee := .builtin .append, args := #[s, x], argTypes := #[t, t] })
    (e : TypeId) (i : TypeInfo) (k : IntKind) (bytes : Nat) (ht : P.underlying t = some (.slice e)) (hi : P.info? e = some i) (hz : i.zero = some (.int k 0)) (hsize : i.size = 1) (hby : i.bytes = bytes)
    (v : Value) (xs : List Int) (hs : a.eval s = v) (hn : NewRow w0 w e k v xs) (A : Option Addr) (m c : Nat) (ys : List Int) (hx : a.eval x = .slice A m c) (hr : Row w k A m ys)
    (h63 : xs.length + m ≤ maxLen) (hbytes : (xs.length + m) * bytes ≤ 140737488355328)
    (h : ∀ v' w', NewRow w0 w' e k v' (xs ++ ys) → wpList P ops Q rest (a.put o.dst v') w') : wpList P ops Q (o :: rest) a w :=
  wpList_app w hgd s x t ho e i k bytes ht hi hz hsize hby v xs hs hn.1 A m c ys hx hr h63 hbytes fun v' w' h1 h2 h3 => h v' w' (hn.app h1 h2 h3)
/-- .. of a constant text. -/
theorem wpList_new_str {ops : Array Oper} {rest : List Oper} {o : Oper} {a : Act} {Q : Exit → Act → World → Prop} (w0 : World) (hgd : o.guard = none) (s x : Operand) (t u : TypeId)
    (ho : o.op = .call { callee := .builtin .append, args := #[s, x], argTypes := #[t, u] })
    (e : TypeId) (i : TypeInfo) (ht : P.underlying t = some (.slice e)) (hu : P.underlying u = some .string) (hi : P.info? e = some i) (hz : i.zero = some (.int .u8 0)) (hsize : i.size = 1) (hby : i.bytes = 1)
    (v : Value) (xs : List Int) (hs : a.eval s = v) (hn : NewRow w0 w e .u8 v xs) (b : ByteArray) (ys : List Int) (hx : a.eval x = .string b) (hb : Lib.strCells b = ivs .u8 ys)
    (h63 : xs.length + ys.length ≤ maxLen) (hbytes : xs.length + ys.length ≤ 140737488355328)
    (h : ∀ v' w', NewRow w0 w' e .u8 v' (xs ++ ys) → wpList P ops Q rest (a.put o.dst v') w') : wpList P ops Q (o :: rest) a w := by
  have hl : b.size = ys.length := by rw [← Lib.strCells_length, hb, ivs_length]
  refine Lib.wpList_append_own_string w hgd s x t u ho w0.heap.size e i ht hu hi hz hsize hby v xs.length (ivs .u8 xs) hs hn.base b hx (by omega) (by omega) hn.2.2.size fun v' w' h1 h2 _ => h v' w' ?_
  rw [hb, ← ivs_append, hl] at h1
  exact NewRow.of_base h1 (by simp) (hn.2.2.grown h2 fun j e2 hj => absurd (hn.2.1 j e2) (by omega))

/-- .. behind a row that is full (a constant's, say). -/
theorem run_app_full (t ty e : TypeId) (i : TypeInfo) (k : IntKind) (bytes : Nat) (ht : P.underlying t = some (.slice e)) (hi : P.info? e = some i) (hz : i.zero = some (.int k 0)) (hsize : i.size = 1) (hby : i.bytes = bytes)
    (B : Addr) (n : Nat) (xs : List Int) (hx : Row w k (some B) n xs) (A : Option Addr) (m c : Nat) (ys : List Int) (hr : Row w k A m ys) (hm : 0 < m) (h63 : n + m ≤ maxLen) (hbytes : (n + m) * bytes ≤ 140737488355328) :
    ∃ v' w', (Builtin.append_ #[t, t] ty #[.slice (some B) n n, .slice A m c]).run P w = .ok v' w' ∧ NewRow w w' e k v' (xs ++ ys) := by
  rcases A with _ | a
  · exact absurd hr.nil0 (by omega)
  · have hxl := hx.len
    have hyl := hr.len
    have hsmall : n + m ≤ 9223372036854775807 := by simp only [maxLen] at h63; omega
    have hrun := run_append_grow (P := P) w t ty e i (.int k 0) ht hi hz B n n (ivs k xs) (by rw [ivs_length, hsize]; omega) hx.news a m c (ivs k ys) (by rw [ivs_length, hsize]; omega) hr.news (by omega) (by omega) (by rw [hby]; exact growslice_fits (by omega) (by omega))
    have hge := grownCap_ge w (n + m) n e
    have hcm : grownCap w (n + m) n e ≤ maxLen := grownCap_le_maxLen w (n + m) n e h63
    refine ⟨_, _, hrun, NewRow.of_base (n := n + m) ⟨by rw [ivs_length]; simp; omega, .inr ⟨w.heap.size, _, _, rfl, Nat.le_refl _, heap_alloc_new w.drew _, hge, hcm, ?_, ?_⟩⟩ (by simp; omega) ((Kept.refl _ _).drew.alloc _)⟩
    · simp only [Array.size_append, List.size_toArray, size_zeroCells, ivs_length, Value.cells]
      simp
      omega
    · rw [ivs_append]
      simp only [Array.toList_append, List.append_assoc]
      rw [← List.append_assoc]
      have : (n + m) * 1 = (ivs k xs ++ ivs k ys).length := by rw [List.length_append, ivs_length, ivs_length]; omega
      rw [this]
      exact List.take_left
theorem wpList_new_full {ops : Array Oper} {rest : List Oper} {o : Oper} {a : Act} {Q : Exit → Act → World → Prop} (w0 : World) (hf : Fresh w0 w) (hgd : o.guard = none) (s x : Operand) (t : TypeId)
    (ho : o.op = .call { callee := .builtin .append, args := #[s, x], argTypes := #[t, t] })
    (e : TypeId) (i : TypeInfo) (k : IntKind) (bytes : Nat) (ht : P.underlying t = some (.slice e)) (hi : P.info? e = some i) (hz : i.zero = some (.int k 0)) (hsize : i.size = 1) (hby : i.bytes = bytes)
    (B : Addr) (n : Nat) (xs : List Int) (hs : a.eval s = .slice (some B) n n) (hrx : Row w k (some B) n xs) (A : Option Addr) (m c : Nat) (ys : List Int) (hx : a.eval x = .slice A m c) (hr : Row w k A m ys) (hm : 0 < m)
    (h63 : n + m ≤ maxLen) (hbytes : (n + m) * bytes ≤ 140737488355328)
    (h : ∀ v' w', NewRow w0 w' e k v' (xs ++ ys) → wpList P ops Q rest (a.put o.dst v') w') : wpList P ops Q (o :: rest) a w := by
  refine wpList_plain hgd fun K hK => ?_
  obtain ⟨v', w', hrun, h2⟩ := run_app_full (P := P) w t o.type e i k bytes ht hi hz hsize hby B n xs hrx A m c ys hr hm h63 hbytes
  unfold Oper.wp execOp
  simp only [ho, resolve, invoke, builtin, Sem.run_bind, Sem.run_pure, Result.andThen_ok, List.map_toArray, List.map_cons, List.map_nil, hs, hx, hrun]
  exact hK _ _ (h v' w' ⟨h2.1, fun g hg => Nat.le_trans hf.size (h2.2.1 g hg), hf.trans h2.2.2 fun _ _ e => e⟩)
/-- At a step of a region that draws its order. -/
theorem step_new {ops : Array Oper} {o : Oper} {a : Act} {K : Act → World → Prop} {Q : Exit → Act → World → Prop} {E : Prop} (w0 : World) (hgd : o.guard = none) (s x : Operand) (t : TypeId)
    (ho : o.op = .call { callee := .builtin .append, args := #[s, x], argTypes := #[t, t] })
    (e : TypeId) (i : TypeInfo) (k : IntKind) (bytes : Nat) (ht : P.underlying t = some (.slice e)) (hi : P.info? e = some i) (hz : i.zero = some (.int k 0)) (hsize : i.size = 1) (hby : i.bytes = bytes)
    (v : Value) (xs : List Int) (hs : a.eval s = v) (hn : NewRow w0 w e k v xs) (A : Option Addr) (m c : Nat) (ys : List Int) (hx : a.eval x = .slice A m c) (hr : Row w k A m ys)
    (h63 : xs.length + m ≤ maxLen) (hbytes : (xs.length + m) * bytes ≤ 140737488355328)
    (h : ∀ v' w', NewRow w0 w' e k v' (xs ++ ys) → Fresh w0 w' → Kept (fun j => v.ownBlock = some j) w w' → K (a.put o.dst v') w') : if Region.wanted o (yielded ops a.tmps) = true then Oper.wp P o a w K Q else E := by
  have hw : Region.wanted o (yielded ops a.tmps) = true := by simp [Region.wanted, hgd]
  rw [if_pos hw]
  obtain ⟨v', w', hrun, h2, h3, h4⟩ := run_app (P := P) w t o.type e i k bytes ht hi hz hsize hby v xs hn.1 A m c ys hr h63 hbytes
  unfold Oper.wp execOp
  simp only [ho, resolve, invoke, builtin, Sem.run_bind, Sem.run_pure, Result.andThen_ok, List.map_toArray, List.map_cons, List.map_nil, hs, hx, hrun]
  exact h v' w' (hn.app h2 h3 h4) (hn.app h2 h3 h4).2.2 ((Kept.refl _ _).grown h3 fun _ e2 _ => e2)
end

end Go.Proofs.Ythfifpapkknodaa

/- make of a list of numbers: all zeros; a store into a list of one's own. -/
namespace Go.Proofs.Ythfifpapkknodaa
open Go.RowKit

theorem made_zeros (k : IntKind) (n : Nat) : (madeCells #[Value.int k 0] n).toList = ivs k (List.replicate n 0) := by
  simp only [madeCells, ivs]
  apply List.ext_getElem <;> simp [Nat.mod_one]

theorem wpList_make_zeros {P : Program} (w : World) {ops : Array Oper} {rest : List Oper} {o : Oper} {a : Act} {Q : Exit → Act → World → Prop}
    (hg : o.guard = none) (l c : Operand) (t : TypeId) (hop : o.op = Op.makeSlice t l c)
    (e : TypeId) (i : TypeInfo) (k : IntKind) (bytes : Nat) (h1 : P.underlying t = some (.slice e)) (h2 : P.info? e = some i) (h3 : i.zero = some (.int k 0)) (h4 : i.size = 1) (h5 : i.bytes = bytes)
    (kl kc : IntKind) (L C : Int) (n : Nat) (hl : a.eval l = .int kl L) (hc : a.eval c = .int kc C) (hL : L = (n : Int)) (hC : C = (n : Int)) (b2 : bytes * n ≤ 281474976710656) (b3 : n ≤ maxLen)
    (hK : ∀ w', Own w' e k (.slice (some ⟨w.heap.size, 0, none⟩) n n) (List.replicate n 0) → Fresh w w' → wpList P ops Q rest (a.put o.dst (.slice (some ⟨w.heap.size, 0, none⟩) n n)) w') :
    wpList P ops Q (o :: rest) a w := by
  refine wpList_make_full w hg l c t hop 0 e i (.int k 0) 1 h1 h2 h3 h4 kl kc L C n hl hc hL hC (by rw [h5]; exact b2) b3 (by omega) ?_
  intro w' ho hgr
  rw [Nat.mul_one, show (Value.int k 0).cells = #[Value.int k 0] from rfl, made_zeros] at ho
  refine hK w' ?_ ((Kept.refl _ _).grown hgr (fun k e _ => by cases e))
  unfold Own
  rw [List.length_replicate]
  exact ho

theorem Own.storeN {w : World} {e : TypeId} {k : IntKind} {b n c : Nat} {xs : List Int} (h : Own w e k (.slice (some ⟨b, 0, none⟩) n c) xs) (hn : xs.length = n) (j : Nat) (x : Int) :
    Own (w.setCell ⟨b, j, none⟩ (.int k x)) e k (.slice (some ⟨b, 0, none⟩) n c) (xs.set j x) := by
  subst hn
  exact Own.stored h j x
theorem Own.cellN {w : World} {e : TypeId} {k : IntKind} {b n c : Nat} {xs : List Int} (h : Own w e k (.slice (some ⟨b, 0, none⟩) n c) xs) (hn : xs.length = n) {j : Nat} (hj : j < n) : w.cell? ⟨b, j, none⟩ = some (.int k (xs.getD j 0)) := by
  subst hn
  exact Own.cell h hj
theorem Own.frozenN {w : World} {e : TypeId} {k : IntKind} {b n c : Nat} {xs : List Int} (h : Own w e k (.slice (some ⟨b, 0, none⟩) n c) xs) (hn : xs.length = n) (j : Nat) : w.frozen? ⟨b, j, none⟩ = false := by
  subst hn
  exact Own.frozen h j
theorem set_next (xs : List Int) (m i : Nat) (x : Int) (hi : xs.length = i) (h : i < m) : (xs ++ List.replicate (m - i) 0).set i x = (xs ++ [x]) ++ List.replicate (m - (i + 1)) 0 := by
  subst hi
  obtain ⟨r, hr⟩ : ∃ r, m - xs.length = r + 1 := ⟨m - xs.length - 1, by omega⟩
  rw [hr, show m - (xs.length + 1) = r by omega, List.replicate_succ, List.append_assoc, List.set_append_right _ _ (by omega), Nat.sub_self]
  rfl
/-- The slice of one number that 'append(v, x)' builds. -/
theorem Row.one (w : World) (e : TypeId) (k : IntKind) (x : Int) : Row (w.alloc (.cells #[.int k x] e)) k (some ⟨w.heap.size, 0, none⟩) 1 [x] :=
  ⟨rfl, fun j hj => ⟨w.heap.size, 0, rfl, by simp, by
    obtain rfl : j = 0 := by omega
    exact (Blk.new w e #[.int k x]).cell 0⟩⟩
end Go.Proofs.Ythfifpapkknodaa

/- A part of a slice. -/
namespace Go.Proofs.Ythfifpapkknodaa
open Go.RowKit

/-- A part of a slice, from l on. -/
def cutAt (A : Option Addr) (l c : Nat) : Option Addr := if c = l then A else A.map (·.add l)

theorem run_slice_from {P : Program} (t e : TypeId) (ht : P.underlying t = some (.slice e)) (hc : ∀ w, (sizeOf e).run P w = .ok 1 w) (A : Option Addr) (n c l : Nat) (hh : l ≤ n) (W : World) :
    (Instr.slice t (.slice A n c) (some (.int .i64 (l : Int))) none none).run P W = .ok (.slice (cutAt A l c) (n - l) (c - l)) W := by
  have he : P.elem t = e := by simp [Program.elem, ht]
  rw [run_slice_l W t A n c (by rw [he]; exact ht) .i64 (l : Int) (by omega) (by omega), he, hc]
  simp [Result.andThen, sliced, cutAt]
theorem run_slice_part {P : Program} (t e : TypeId) (ht : P.underlying t = some (.slice e)) (hc : ∀ w, (sizeOf e).run P w = .ok 1 w) (A : Option Addr) (n c l h : Nat) (k : Int) (hk : k = h) (hl : l ≤ h) (hh : h ≤ c) (W : World) :
    (Instr.slice t (.slice A n c) (some (.int .i64 (l : Int))) (some (.int .i64 k)) none).run P W = .ok (.slice (cutAt A l c) (h - l) (c - l)) W := by
  subst hk
  have he : P.elem t = e := by simp [Program.elem, ht]
  rw [run_slice_lh W t A n c (by rw [he]; exact ht) .i64 .i64 (l : Int) (h : Int) (by omega) (by omega) (by omega), he, hc]
  simp [Result.andThen, sliced, cutAt]

theorem Row.cut {w : World} {k : IntKind} {A : Option Addr} {n : Nat} {xs : List Int} (h : Row w k A n xs) {l m c : Nat} (hl : l + m ≤ n) (hc : n ≤ c) : Row w k (cutAt A l c) m ((xs.drop l).take m) :=
  ⟨by rw [List.length_take, List.length_drop, h.len]; omega, fun j hj => by
    obtain ⟨b, o, rfl, hb, hcell⟩ := h.at_ (l + j) (by omega)
    refine ⟨b, o + l, ?_, hb, ?_⟩
    · rw [cutAt, if_neg (by omega)]
      simp [Addr.add]
    · rw [Nat.add_assoc, hcell]
      simp [List.getD, hj, List.getElem?_drop]⟩
theorem Row.cut_block {w : World} {k : IntKind} {A : Option Addr} {n : Nat} {xs : List Int} (h : Row w k A n xs) {l m c : Nat} (hl : l + m ≤ n) (hc : n ≤ c) :
    ∀ b o, cutAt A l c = some ⟨b, o, none⟩ → 0 < m → b < w.heap.size ∧ ∃ o', A = some ⟨b, o', none⟩ := by
  intro b o e hm
  obtain ⟨b0, o0, rfl, hb, _⟩ := h.at_ 0 (by omega)
  rw [cutAt, if_neg (by omega)] at e
  simp [Addr.add] at e
  have hbb : b0 = b := by
    by_cases hl0 : l = 0
    · rw [if_pos hl0] at e; injection e
    · rw [if_neg hl0] at e; injection e
  subst hbb
  exact ⟨hb, o0, rfl⟩


end Go.Proofs.Ythfifpapkknodaa

/- The document's Turn, Back, Apart, Together of colours. -/
namespace Go.Proofs.Ythfifpapkknodaa
open Go.RowKit
set_option maxRecDepth 100000

attribute [local go_sem ↓] Go.wp_at_zero Go.wp_at_succ

theorem Try.infoCol : (Try.prog.info? 5).map (fun i => (i.zero, i.size, i.bytes)) = some (some (.int .u8 0), 1, 1) := by kernel_rfl
theorem NewRow.none (w : World) (e : TypeId) (k : IntKind) : NewRow w w e k (.slice none 0 0) [] := ⟨Own.nil _ _ _, fun g e => (by cases e), Kept.refl _ _⟩





end Go.Proofs.Ythfifpapkknodaa

/- The document's Paeth, guess, Row, Unrow, Best of filters. -/
namespace Go.Proofs.Ythfifpapkknodaa
open Go.RowKit
set_option maxRecDepth 100000

attribute [local go_sem ↓] Go.wp_at_zero Go.wp_at_succ



theorem Own.sz8 {w : World} {e : TypeId} {k : IntKind} {v : Value} {xs : List Int} {n : Nat} (h : Own w e k v xs) (hn : xs.length = n) : w.ownsRow 0 e 1 v n (ivs k xs) := by
  subst hn
  exact h
theorem of_ahd (l : List Int) (i n : Nat) : (if ((i : Int) - (n : Int)) < 0 then 0 else l.getD ((i : Int) - (n : Int)).toNat 0) = ahd l i n := by
  unfold ahd
  by_cases h : n ≤ i
  · rw [if_pos h, if_neg (by omega), show ((i : Int) - (n : Int)).toNat = i - n by omega]
  · rw [if_neg h, if_pos (by omega)]

end Go.Proofs.Ythfifpapkknodaa

/- The document's blank, white, number. -/
namespace Go.Proofs.Ythfifpapkknodaa
open Go.RowKit
set_option maxRecDepth 100000

attribute [local go_sem ↓] Go.wp_at_zero Go.wp_at_succ

set_option maxHeartbeats 1600000 in
theorem qBlank_any (c : Int) (w : World) (h : 0 ≤ c ∧ c < 256) : Calls Try.prog 39 #[.int .u8 c] w fun e w' => e = .returned (.bool (decide (blk c))) ∧ w = w' := by
  have hcs : c = 32 ∨ c = 9 ∨ c = 10 ∨ c = 13 ∨ (c ≠ 32 ∧ c ≠ 9 ∧ c ≠ 10 ∧ c ≠ 13) := by omega
  rcases hcs with rfl | rfl | rfl | rfl | ⟨h1, h2, h3, h4⟩
  rotate_right
  · have hd : decide (blk c) = false := by simp [blk, h1, h2, h3, h4]
    rw [hd]
    clear hd
    have b1 : (c == 32) = false := by simp [h1]
    have b2 : (c == 9) = false := by simp [h2]
    have b3 : (c == 10) = false := by simp [h3]
    have b4 : (c == 13) = false := by simp [h4]
    go_enter Try.func39, Try.ntmps39
    go_wp2_with fail
    go_ret
    exact ⟨rfl, rfl⟩
  all_goals
    rw [show decide (blk _) = true from by simp [blk]]
    go_enter Try.func39, Try.ntmps39
    go_wp2_with fail
    go_ret
    exact ⟨rfl, rfl⟩

set_option maxHeartbeats 3200000 in
theorem qWhite_any (A : Option Addr) (n c : Nat) (l : List Int) (i : Nat) (w : World) (hr : Row w .u8 A n l) (h8 : B8 l) (hn : n ≤ 1000000000) (hi : i ≤ n) :
    Calls Try.prog 37 #[.slice A n c, .int .i64 (i : Int)] w fun e w' => e = .returned (.int .i64 (whi l i i)) ∧ Fresh w w' := by
  obtain rfl := hr.len
  have HR : Hid (∀ V, Fresh w V → Row V .u8 A l.length l) := Lib.hid fun V hV => hr.kept hV (fun _ _ _ _ => id)
  have H8 := Lib.hid h8
  clear hr h8
  go_enter Try.func37, Try.ntmps37
  go_wp2_with fail
  go_loopw [1] (fun v wr => ∃ j : Nat, i ≤ j ∧ j ≤ l.length ∧ v = .int .i64 (j : Int) ∧ Fresh w wr ∧ whi l i j = whi l i i) (fun v _ => (l.length - intOf v).toNat)
  case atStart => exact ⟨i, by omega, by omega, rfl, Kept.refl _ _, rfl⟩
  case round =>
    obtain ⟨j, hij, hj, rfl, hfr, hw⟩ := hrel
    have HF := Lib.hid hfr
    have HW := Lib.hid hw
    clear hw
    by_cases hlt : j < l.length
    · obtain ⟨b, o, rfl, hb, hc⟩ := (HR.out wr hfr).at_ j hlt
      have hx := H8.out.at_ j
      have HU : Hid (whi l i j = if blk (l.getD j 0) then whi l i (j + 1) else if l.getD j 0 = 35 then (if eol l j < l.length then whi l i (eol l j + 1) else -1) else if j = i then -1 else j) := Lib.hid (by rw [whi, if_pos hlt])
      have HE : Hid (l.getD j 0 ≠ 10 → eol l j = eol l (j + 1)) := Lib.hid fun h => by rw [eol, if_pos hlt, if_neg h]
      generalize l.getD j 0 = x at *
      have HB := Lib.hid (qBlank_any x wr hx)
      have j0 : (j : Int) < (l.length : Int) := by omega
      clear hfr
      by_cases hbk : blk x
      · rw [if_pos hbk] at HU
        rw [show decide (blk x) = true from by simp [hbk]] at HB
        go_wp2_with fail
        refine HB.out.mono ?_
        rintro e wx ⟨rfl, rfl⟩
        clear HB hc
        go_wp2_with fail
        go_roundw
        case rel => exact ⟨j + 1, by omega, by omega, by go_num, HF.out, by rw [← HU.out]; exact HW.out⟩
        case measure => simp [intOf]; omega
      · rw [if_neg hbk] at HU
        rw [show decide (blk x) = false from by simp [hbk]] at HB
        by_cases h35 : x = 35
        · subst h35
          rw [if_pos rfl] at HU
          go_wp2_with fail
          refine HB.out.mono ?_
          rintro e wx ⟨rfl, rfl⟩
          clear HB HE hx
          go_wp2_with fail
          go_loopw [1] (fun v wi => ∃ e : Nat, j ≤ e ∧ e ≤ l.length ∧ v = .int .i64 (e : Int) ∧ Fresh w wi ∧ eol l e = eol l j) (fun v _ => (l.length - intOf v).toNat)
          case atStart => exact ⟨j, by omega, by omega, rfl, HF.out, rfl⟩
          case round =>
            obtain ⟨e, hje, hel, rfl, hfr2, heq⟩ := hrel
            have HF2 := Lib.hid hfr2
            by_cases hlt2 : e < l.length
            · obtain ⟨b2, o2, eA, hb2, hc2⟩ := (HR.out wr hfr2).at_ e hlt2
              injection eA with eA
              injection eA with e1 e2
              subst e1 e2
              have hx2 := H8.out.at_ e
              have HE2 : Hid (eol l j = if l.getD e 0 = 10 then e else eol l (e + 1)) := Lib.hid (by rw [← heq, eol, if_pos hlt2])
              generalize l.getD e 0 = y at *
              have e0 : (e : Int) < (l.length : Int) := by omega
              clear heq hfr2
              by_cases h10 : y = 10
              · rw [if_pos h10] at HE2
                rw [HE2.out, if_pos hlt2] at HU
                have b10 : (y != 10) = false := by simp [h10]
                have ne : ((e : Int) == (l.length : Int)) = false := by simp; omega
                clear HE2 h10
                go_wp2_with fail
                go_roundw
                case rel => exact ⟨e + 1, by omega, by omega, by go_num, HF2.out, by rw [← HU.out]; exact HW.out⟩
                case measure => simp [intOf]; omega
              · rw [if_neg h10] at HE2
                have b10 : (y != 10) = true := by simp [h10]
                clear h10
                go_wp2_with fail
                go_roundw
                case rel => exact ⟨e + 1, by omega, by omega, by go_num, HF2.out, HE2.out.symm⟩
                case measure => simp [intOf]; omega
            · have HE2 : eol l j = e := by rw [← heq, eol, if_neg hlt2]
              rw [HE2, if_neg hlt2] at HU
              have e0 : ¬ (e : Int) < (l.length : Int) := by omega
              have ne : ((e : Int) == (l.length : Int)) = true := by simp; omega
              have HEnd : Hid (whi l i i = -1) := Lib.hid (HW.out.symm.trans HU.out)
              clear heq hfr2 HE2 HU HW
              go_wp2_with fail
              go_ret
              exact ⟨by rw [HEnd.out]; rfl, HF2.out⟩
        · rw [if_neg h35] at HU
          have b35 : (x == 35) = false := by simp [h35]
          by_cases hji : j = i
          · rw [if_pos hji] at HU
            have bji : ((j : Int) == (i : Int)) = true := by simp [hji]
            have HEnd : Hid (whi l i i = -1) := Lib.hid (HW.out.symm.trans HU.out)
            clear HW HU hji
            go_wp2_with fail
            refine HB.out.mono ?_
            rintro e wx ⟨rfl, rfl⟩
            clear HB
            go_wp2_with fail
            go_ret
            exact ⟨by rw [HEnd.out]; rfl, HF.out⟩
          · rw [if_neg hji] at HU
            have bji : ((j : Int) == (i : Int)) = false := by simp; omega
            have HEnd : Hid (whi l i i = j) := Lib.hid (HW.out.symm.trans HU.out)
            clear HW HU
            go_wp2_with fail
            refine HB.out.mono ?_
            rintro e wx ⟨rfl, rfl⟩
            clear HB
            go_wp2_with fail
            go_ret
            exact ⟨by rw [HEnd.out]; rfl, HF.out⟩
    · have j0 : ¬ (j : Int) < (l.length : Int) := by omega
      have HEnd : Hid (whi l i i = -1) := Lib.hid (HW.out.symm.trans (by rw [whi, if_neg hlt]))
      clear hfr HW
      go_wp2_with fail
      go_ret
      exact ⟨by rw [HEnd.out]; rfl, HF.out⟩

end Go.Proofs.Ythfifpapkknodaa

/- The document's number of a picture's head. -/
namespace Go.Proofs.Ythfifpapkknodaa
open Go.RowKit
set_option maxRecDepth 100000

attribute [local go_sem ↓] Go.wp_at_zero Go.wp_at_succ

theorem pow10_le {k : Nat} (h : k ≤ 6) : (10 : Int) ^ k ≤ 1000000 := by
  rcases (by omega : k = 0 ∨ k = 1 ∨ k = 2 ∨ k = 3 ∨ k = 4 ∨ k = 5 ∨ k = 6) with rfl | rfl | rfl | rfl | rfl | rfl | rfl <;> decide
theorem numP_bad {l : List Int} {i j k : Nat} {v : Int} (h : numR l 6 i 0 = (v, j, 6 - k)) (hk : k < 1 ∨ (5 < k ∧ k ≤ 6)) : numP l i = (-1, -1) := by
  rw [numP, h, if_pos (by show 6 - k = 6 ∨ 6 - k = 0; omega)]
theorem numP_good {l : List Int} {i j k : Nat} {v : Int} (h : numR l 6 i 0 = (v, j, 6 - k)) (hk : ¬ k < 1 ∧ ¬ 5 < k) : numP l i = (v, (j : Int)) := by
  rw [numP, h, if_neg (by show ¬ (6 - k = 6 ∨ 6 - k = 0); omega)]

set_option maxHeartbeats 6400000 in
theorem qNumber_any (A : Option Addr) (n c : Nat) (l : List Int) (i : Nat) (w : World) (hr : Row w .u8 A n l) (h8 : B8 l) (hn : n ≤ 1000000000) (hi : i ≤ n) :
    Calls Try.prog 38 #[.slice A n c, .int .i64 (i : Int)] w fun e w' => e = .returned (.tuple #[.int .i64 (numP l i).1, .int .i64 (numP l i).2]) ∧ Fresh w w' := by
  obtain rfl := hr.len
  have HR : Hid (∀ V, Fresh w V → Row V .u8 A l.length l) := Lib.hid fun V hV => hr.kept hV (fun _ _ _ _ => id)
  have H8 := Lib.hid h8
  clear hr h8
  go_enter Try.func38, Try.ntmps38
  go_wp2_with fail
  go_loopw [7, 6, 1] (fun u v a wr => ∃ k j : Nat, ∃ z : Int, k ≤ 6 ∧ i ≤ j ∧ j ≤ l.length ∧ u = .int .i64 (k : Int) ∧ v = .int .i64 z ∧ a = .int .i64 (j : Int) ∧ Fresh w wr ∧ numR l (6 - k) j z = numR l 6 i 0 ∧ 0 ≤ z ∧ z + 1 ≤ 10 ^ k) (fun _ _ a _ => (l.length - intOf a).toNat)
  case atStart => exact ⟨0, i, 0, by omega, by omega, by omega, rfl, rfl, rfl, Kept.refl _ _, rfl, by omega, by simp⟩
  case round =>
    obtain ⟨k, j, z, hk, hij, hj, rfl, rfl, rfl, hfr, hw, hz, hzp⟩ := hrel
    have HF := Lib.hid hfr
    have hzb : z + 1 ≤ 1000000 := Int.le_trans hzp (pow10_le hk)
    by_cases hgo : k < 6 ∧ j < l.length ∧ 48 ≤ l.getD j 0 ∧ l.getD j 0 ≤ 57
    · obtain ⟨hk6, hlt, h48, h57⟩ := hgo
      obtain ⟨b, o, rfl, hb, hc⟩ := (HR.out wr hfr).at_ j hlt
      have HW : Hid (numR l (6 - (k + 1)) (j + 1) (10 * z + (l.getD j 0 - 48)) = numR l 6 i 0 ∧ 10 * z + (l.getD j 0 - 48) + 1 ≤ 10 ^ (k + 1)) := Lib.hid ⟨by
        rw [← hw, show 6 - k = 6 - (k + 1) + 1 by omega, numR, if_pos ⟨hlt, h48, h57⟩], by rw [Int.pow_succ]; omega⟩
      generalize l.getD j 0 = x at *
      have j0 : (j : Int) < (l.length : Int) := by omega
      have k0 : (k : Int) < 6 := by omega
      clear hfr hw hzp
      go_wp2_with fail
      go_roundw
      case rel => exact ⟨k + 1, j + 1, 10 * z + (x - 48), by omega, by omega, by omega, by go_num, by go_num, by go_num, HF.out, HW.out.1, by omega, HW.out.2⟩
      case measure => simp [intOf]; omega
    · have HS : Hid (numR l 6 i 0 = (z, j, 6 - k)) := Lib.hid (by
        rw [← hw]
        rcases Nat.lt_or_ge k 6 with h | h
        · rw [show 6 - k = 6 - (k + 1) + 1 by omega, numR, if_neg (fun h2 => hgo ⟨h, h2⟩)]
        · rw [show k = 6 by omega]
          rfl)
      have hstop : ¬ j < l.length ∨ (j < l.length ∧ l.getD j 0 < 48) ∨ (j < l.length ∧ ¬ l.getD j 0 < 48 ∧ 57 < l.getD j 0) ∨ (j < l.length ∧ ¬ l.getD j 0 < 48 ∧ ¬ 57 < l.getD j 0 ∧ ¬ k < 6) := by omega
      have hend : Hid ((k < 1 ∨ (¬ k < 1 ∧ 5 < k)) ∧ numP l i = (-1, -1) ∨ (¬ k < 1 ∧ ¬ 5 < k) ∧ numP l i = (z, (j : Int))) := Lib.hid (by
        rcases (by omega : (k < 1 ∨ (5 < k ∧ k ≤ 6)) ∨ (¬ k < 1 ∧ ¬ 5 < k)) with h | h
        · exact .inl ⟨by omega, numP_bad HS.out h⟩
        · exact .inr ⟨h, numP_good HS.out h⟩)
      have hx := H8.out.at_ j
      clear hw hzp hgo HS
      have hat : j < l.length → ∃ b o, A = some ⟨b, o, none⟩ ∧ b < wr.heap.size ∧ wr.cell? ⟨b, o + j, none⟩ = some (.int .u8 (l.getD j 0)) := fun h => (HR.out wr hfr).at_ j h
      generalize l.getD j 0 = x at *
      clear hfr
      rcases hend.out with ⟨hk1 | ⟨hk1, hk2⟩, he⟩ | ⟨⟨hk1, hk2⟩, he⟩
      all_goals
        have HE := Lib.hid he
        clear he hend
        rcases hstop with h1 | hst
        · clear hat
          go_wp2_with fail
          go_ret2
          exact ⟨by rw [HE.out]; rfl, HF.out⟩
        obtain ⟨b, o, rfl, hb, hc⟩ := hat (by omega)
        clear hat
        rcases hst with ⟨h1, h2⟩ | ⟨h1, h2, h3⟩ | ⟨h1, h2, h3, h4⟩
        all_goals first
          | (exfalso; omega)
          | (go_wp2_with fail
             go_ret2
             exact ⟨by rw [HE.out]; rfl, HF.out⟩)

end Go.Proofs.Ythfifpapkknodaa

/- Numbers by sevens, and whole ones, as bytes: what is written is read, and what is read was written. Plain mathematics. -/
namespace Go.Proofs.Ythfifpapkknodaa

/-- The bytes of a number by sevens. -/
def sv (v : Nat) : List Int := if v < 128 then [(v : Int)] else ((v % 128 + 128 : Nat) : Int) :: sv (v / 128)
termination_by v
decreasing_by omega

theorem sv_lo {v : Nat} (h : v < 128) : sv v = [(v : Int)] := by rw [sv, if_pos h]
theorem sv_hi {v : Nat} (h : ¬ v < 128) : sv v = ((v % 128 + 128 : Nat) : Int) :: sv (v / 128) := by rw [sv, if_neg h]

theorem sv_pos (v : Nat) : 0 < (sv v).length := by
  rw [sv]; split <;> simp

/-- Its bytes are bytes. -/
theorem sv_byte (v : Nat) : ∀ x ∈ sv v, 0 ≤ x ∧ x < 256 := by
  induction v using sv.induct with
  | case1 v h => rw [sv_lo h]; intro x hx; simp at hx; omega
  | case2 v h ih =>
    rw [sv_hi h]
    intro x hx
    rcases List.mem_cons.1 hx with rfl | hx
    · omega
    · exact ih x hx

/-- The byte at place i, while more than one is left there. -/
theorem sv_at (v : Nat) : ∀ i, (sv v)[i]? = if 128 ^ i ≤ v ∨ i = 0 then some (((if v / 128 ^ i < 128 then v / 128 ^ i else v / 128 ^ i % 128 + 128 : Nat)) : Int) else none := by
  induction v using sv.induct with
  | case1 v h =>
    intro i
    rw [sv_lo h]
    rcases i with _ | i
    · simp [h]
    · have : 128 ≤ 128 ^ (i + 1) := by have := Nat.one_le_pow i 128 (by omega); rw [Nat.pow_succ]; omega
      rw [if_neg (by omega)]; simp
  | case2 v h ih =>
    intro i
    rw [sv_hi h]
    rcases i with _ | i
    · simp [h]
    · have hp : 0 < 128 ^ i := Nat.pow_pos (by omega)
      have e : v / 128 ^ (i + 1) = v / 128 / 128 ^ i := by rw [Nat.pow_succ, Nat.mul_comm, Nat.div_div_eq_div_mul]
      rw [List.getElem?_cons_succ, ih i, e]
      have h2 : (128 ^ (i + 1) ≤ v) ↔ (128 ^ i ≤ v / 128) := by rw [Nat.le_div_iff_mul_le (by omega), Nat.pow_succ]
      by_cases hi : i = 0
      · subst hi
        rw [if_pos (c := _ ∨ _) (.inr rfl), if_pos (c := _ ∨ _) (.inl (by omega))]
      · simp only [h2, hi, or_false, Nat.succ_ne_zero]

/-- How many bytes it has: k + 1, if what is left behind k sevens is the last byte. -/
theorem sv_length (v k : Nat) (h1 : v / 128 ^ k < 128) (h2 : k = 0 ∨ 128 ^ k ≤ v) : (sv v).length = k + 1 := by
  have a := sv_at v k
  have b := sv_at v (k + 1)
  rw [if_pos (by omega)] at a
  have hp : 0 < 128 ^ k := Nat.pow_pos (by omega)
  have : v < 128 * 128 ^ k := by rw [← Nat.div_lt_iff_lt_mul hp]; exact h1
  rw [if_neg (by rw [Nat.pow_succ]; omega)] at b
  have := (List.getElem?_eq_some_iff.1 a).1
  have := List.getElem?_eq_none_iff.1 b
  omega

theorem sv_le10 (v : Nat) (h : v < 18446744073709551616) : (sv v).length ≤ 10 := by
  have b := sv_at v 10
  rw [if_neg (by simp; omega)] at b
  exact List.getElem?_eq_none_iff.1 b

/-- The number by sevens at the beginning of some bytes, from place i on: the number, how many bytes, the fault (3: ErrShort, 4: ErrForm). -/
def rd (i acc : Nat) : List Int → Nat × Nat × Int
  | [] => (0, 0, 3)
  | c :: r => if i = 9 ∧ 1 < c then (0, 0, 4) else if c = 0 ∧ 0 < i then (0, 0, 4) else
    if c < 128 then (acc + c.toNat % 128 * 128 ^ i, i + 1, 0) else rd (i + 1) (acc + c.toNat % 128 * 128 ^ i) r

/-- What is written is read. -/
theorem rd_sv (rest : List Int) (v : Nat) : ∀ i acc, v * 128 ^ i < 18446744073709551616 → (0 < i → 0 < v) → i ≤ 9 → rd i acc (sv v ++ rest) = (acc + v * 128 ^ i, i + (sv v).length, 0) := by
  induction v using sv.induct with
  | case1 v h =>
    intro i acc hv hp hi
    have h9 : ¬ (i = 9 ∧ (1 : Int) < (v : Int)) := by
      rintro ⟨rfl, h1⟩
      have : 2 ≤ v := by omega
      simp at hv; omega
    rw [sv_lo h]
    show (if i = 9 ∧ (1 : Int) < (v : Int) then _ else _) = _
    rw [if_neg h9, if_neg (by omega), if_pos (by omega)]
    simp [Nat.mod_eq_of_lt h]
  | case2 v h ih =>
    intro i acc hv hp hi
    have h8 : i ≤ 8 := by
      by_cases e : i = 9
      · subst e; simp at hv; omega
      · omega
    rw [sv_hi h]
    rw [List.cons_append, rd, if_neg (by omega), if_neg (by omega), if_neg (by omega)]
    have e0 : ((v % 128 + 128 : Nat) : Int).toNat % 128 = v % 128 := by omega
    have e1 : v % 128 * 128 ^ i + v / 128 * 128 ^ (i + 1) = v * 128 ^ i := by
      rw [Nat.pow_succ, Nat.mul_comm (128 ^ i) 128, ← Nat.mul_assoc, ← Nat.add_mul]
      congr 1; omega
    rw [ih (i + 1) _ (by omega) (by omega) (by omega), e0]
    simp only [List.length_cons, Prod.mk.injEq, and_true]
    omega

/-- What is read was written. -/
theorem rd_back : ∀ (l : List Int) (i acc x n : Nat), (∀ c ∈ l, 0 ≤ c ∧ c < 256) → rd i acc l = (x, n, 0) →
    ∃ v, x = acc + v * 128 ^ i ∧ l.take (n - i) = sv v ∧ i < n ∧ n - i ≤ l.length ∧ (0 < i → 0 < v)
  | [], i, acc, x, n, _, h => by simp [rd] at h
  | c :: r, i, acc, x, n, hb, h => by
    have hc := hb c (by simp)
    unfold rd at h
    split at h
    · simp at h
    split at h
    · simp at h
    split at h
    · rename_i h1 h2 h3
      simp only [Prod.mk.injEq] at h
      obtain ⟨rfl, rfl, _⟩ := h
      obtain ⟨k, rfl⟩ := Int.eq_ofNat_of_zero_le hc.1
      refine ⟨k, ?_, ?_, by omega, by simp, by omega⟩
      · simp [Nat.mod_eq_of_lt (show k < 128 by omega)]
      · rw [sv_lo (by omega), show i + 1 - i = 1 from by omega]; rfl
    · rename_i h1 h2 h3
      obtain ⟨v, hx, ht, hn, hl, hv⟩ := rd_back r (i + 1) _ x n (fun c hc => hb c (by simp [hc])) h
      have hv0 := hv (by omega)
      obtain ⟨k, rfl⟩ := Int.eq_ofNat_of_zero_le hc.1
      refine ⟨k % 128 + 128 * v, ?_, ?_, by omega, by simp; omega, by omega⟩
      · rw [hx, Nat.pow_succ, Nat.add_mul, Nat.add_assoc, Int.toNat_natCast, Nat.mul_comm (128 ^ i) 128, ← Nat.mul_assoc, Nat.mul_comm v 128]
      · rw [sv_hi (by omega), show n - i = n - (i + 1) + 1 from by omega, List.take_succ_cons, ht]
        congr 1
        · omega
        · congr 1; omega

/-- The number fits, and is 0 with a fault. -/
theorem rd_fits : ∀ (l : List Int) (i acc : Nat), (∀ c ∈ l, 0 ≤ c ∧ c < 256) → i ≤ 9 → acc < 128 ^ i → (rd i acc l).1 < 18446744073709551616 ∧ (rd i acc l).2.1 ≤ i + l.length ∧ (rd i acc l).2.1 ≤ 10 ∧ ((rd i acc l).2.2 = 0 ∨ (rd i acc l).2.2 = 3 ∨ (rd i acc l).2.2 = 4) ∧ ((rd i acc l).2.2 ≠ 0 → (rd i acc l).1 = 0 ∧ (rd i acc l).2.1 = 0)
  | [], i, acc, _, _, _ => by simp [rd]
  | c :: r, i, acc, hb, hi, ha => by
    have hc := hb c (by simp)
    unfold rd
    split
    · simp
    split
    · simp
    rename_i h1 h2
    have hm : c.toNat % 128 < 128 := Nat.mod_lt _ (by omega)
    have hs : acc + c.toNat % 128 * 128 ^ i < 128 ^ (i + 1) := by
      have := Nat.mul_le_mul_right (128 ^ i) (show c.toNat % 128 ≤ 127 by omega)
      rw [Nat.pow_succ]; omega
    split
    · refine ⟨?_, by simp, by simp; omega, .inl rfl, by simp⟩
      by_cases e : i = 9
      · subst e
        have : c.toNat % 128 ≤ 1 := by omega
        simp only
        omega
      · have : 128 ^ (i + 1) ≤ 128 ^ 9 := Nat.pow_le_pow_right (by omega) (by omega)
        simp only
        omega
    · by_cases e : i = 9
      · exfalso; apply h1; omega
      · have := rd_fits r (i + 1) _ (fun c hc => hb c (by simp [hc])) (by omega) hs
        simp only [List.length_cons]
        exact ⟨this.1, by omega, this.2.2⟩

/-- The k lowest bytes of a number, the lowest first. -/
def leBytes (v k : Nat) : List Int := (List.range k).map fun i => ((v / 256 ^ i % 256 : Nat) : Int)
/-- The highest of them first. -/
def beBytes (v k : Nat) : List Int := (List.range k).map fun i => ((v / 256 ^ (k - 1 - i) % 256 : Nat) : Int)

theorem leBytes_length (v k : Nat) : (leBytes v k).length = k := by simp [leBytes]
theorem beBytes_length (v k : Nat) : (beBytes v k).length = k := by simp [beBytes]
theorem leBytes_getD (v k i : Nat) (h : i < k) : (leBytes v k).getD i 0 = ((v / 256 ^ i % 256 : Nat) : Int) := by simp [leBytes, h]
theorem beBytes_getD (v k i : Nat) (h : i < k) : (beBytes v k).getD i 0 = ((v / 256 ^ (k - 1 - i) % 256 : Nat) : Int) := by simp [beBytes, h]

/-- The number that bytes are, the lowest first. -/
def leNum : List Int → Nat
  | [] => 0
  | c :: r => c.toNat + 256 * leNum r
/-- The highest first. -/
def beNum (l : List Int) : Nat := l.foldl (fun a c => 256 * a + c.toNat) 0

theorem leNum_snoc (c : Int) : ∀ l : List Int, leNum (l ++ [c]) = leNum l + c.toNat * 256 ^ l.length
  | [] => by simp [leNum]
  | a :: r => by
    show a.toNat + 256 * leNum (r ++ [c]) = a.toNat + 256 * leNum r + c.toNat * 256 ^ (r.length + 1)
    rw [leNum_snoc c r, Nat.pow_succ, Nat.mul_add, Nat.add_assoc, Nat.mul_comm (256 ^ r.length) 256, Nat.mul_left_comm]
theorem beNum_snoc (l : List Int) (c : Int) : beNum (l ++ [c]) = 256 * beNum l + c.toNat := by simp [beNum]

theorem leNum_lt : ∀ l : List Int, (∀ c ∈ l, 0 ≤ c ∧ c < 256) → leNum l < 256 ^ l.length
  | [], _ => by simp [leNum]
  | a :: r, h => by
    have h1 := h a (by simp)
    have h2 := leNum_lt r (fun c hc => h c (by simp [hc]))
    show a.toNat + 256 * leNum r < 256 ^ (r.length + 1)
    rw [Nat.pow_succ]; omega
theorem beNum_lt' : ∀ (l : List Int) (a : Nat), (∀ c ∈ l, 0 ≤ c ∧ c < 256) → l.foldl (fun a c => 256 * a + c.toNat) a < (a + 1) * 256 ^ l.length
  | [], a, _ => by simp
  | c :: r, a, h => by
    have h1 := h c (by simp)
    have h2 := beNum_lt' r (256 * a + c.toNat) (fun c hc => h c (by simp [hc]))
    rw [List.foldl_cons, List.length_cons, Nat.pow_succ]
    refine Nat.lt_of_lt_of_le h2 ?_
    rw [Nat.mul_comm (256 ^ r.length) 256, ← Nat.mul_assoc]
    exact Nat.mul_le_mul_right _ (by omega)
theorem beNum_lt (l : List Int) (h : ∀ c ∈ l, 0 ≤ c ∧ c < 256) : beNum l < 256 ^ l.length := by
  have := beNum_lt' l 0 h
  rw [Nat.zero_add, Nat.one_mul] at this
  exact this

theorem leNum_leBytes (v : Nat) : ∀ k, leNum (leBytes v k) = v % 256 ^ k
  | 0 => by simp [leBytes, leNum, Nat.mod_one]
  | k + 1 => by
    have e : leBytes v (k + 1) = leBytes v k ++ [((v / 256 ^ k % 256 : Nat) : Int)] := by simp [leBytes, List.range_succ]
    rw [e, leNum_snoc, leNum_leBytes v k, leBytes_length, Nat.pow_succ, Nat.mod_mul, Int.toNat_natCast, Nat.mul_comm (256 ^ k)]
theorem beNum_beBytes (v k : Nat) : beNum (beBytes v k) = v % 256 ^ k := by
  have : ∀ j, j ≤ k → beNum ((beBytes v k).take j) = v / 256 ^ (k - j) % 256 ^ j := by
    intro j
    induction j with
    | zero => intro _; simp [beNum, Nat.mod_one]
    | succ j ih =>
      intro hj
      rw [List.take_succ_eq_append_getElem (by rw [beBytes_length]; omega), beNum_snoc, ih (by omega)]
      have e : (beBytes v k)[j]'(by rw [beBytes_length]; omega) = ((v / 256 ^ (k - 1 - j) % 256 : Nat) : Int) := by simp [beBytes]
      rw [e, show k - j = k - 1 - j + 1 from by omega, show k - (j + 1) = k - 1 - j from by omega]
      generalize k - 1 - j = q
      rw [Nat.pow_succ, ← Nat.div_div_eq_div_mul]
      generalize v / 256 ^ q = y
      rw [Nat.pow_succ, Nat.mul_comm (256 ^ j) 256, Nat.mod_mul]
      omega
  have h := this k (Nat.le_refl _)
  rw [List.take_of_length_le (by rw [beBytes_length]; omega)] at h
  simpa using h

theorem leBytes_byte (v k : Nat) : ∀ c ∈ leBytes v k, 0 ≤ c ∧ c < 256 := by
  intro c hc; simp only [leBytes, List.mem_map] at hc; obtain ⟨i, _, rfl⟩ := hc; omega
theorem beBytes_byte (v k : Nat) : ∀ c ∈ beBytes v k, 0 ≤ c ∧ c < 256 := by
  intro c hc; simp only [beBytes, List.mem_map] at hc; obtain ⟨i, _, rfl⟩ := hc; omega

/-- Fold and Unfold. -/
def fold (v : Int) : Nat := if 0 ≤ v then (2 * v).toNat else (-2 * v - 1).toNat
def unfold_ (u : Nat) : Int := if u % 2 = 0 then ((u / 2 : Nat) : Int) else -((u / 2 : Nat) : Int) - 1
theorem unfold_fold (v : Int) : unfold_ (fold v) = v := by unfold unfold_ fold; split <;> split <;> omega
theorem fold_unfold (u : Nat) : fold (unfold_ u) = u := by unfold unfold_ fold; split <;> split <;> omega
theorem fold_lt (v : Int) (h1 : -9223372036854775808 ≤ v) (h2 : v < 9223372036854775808) : fold v < 18446744073709551616 := by unfold fold; split <;> omega

end Go.Proofs.Ythfifpapkknodaa

/- The document's numbers in bytes: Little; its reader: New, Left, Raw, Little. -/
namespace Go.Proofs.Ythfifpapkknodaa
open Go.RowKit
set_option maxRecDepth 100000

attribute [local go_sem ↓] Go.wp_at_zero Go.wp_at_succ

theorem Try.infoByteQ : (Try.prog.info? 5).map (fun i => (i.zero, i.size, i.bytes)) = some (some (.int .u8 0), 1, 1) := by kernel_rfl

theorem leBytes_succ (v k : Nat) : leBytes v (k + 1) = leBytes v k ++ [((v / 256 ^ k % 256 : Nat) : Int)] := by simp [leBytes, List.range_succ]


/-- A reader of the document's at block g: bytes, a place, the first fault. -/
structure QN (w : World) (g : Nat) (A : Option Addr) (c : Nat) (bs : List Int) (p : Nat) (err : Int) : Prop where
  blk : Blk w g 118 #[.slice A bs.length c, .int .i64 p, .int .i64 err]
  row : Row w .u8 A bs.length bs
  byte : ∀ x ∈ bs, 0 ≤ x ∧ x < 256
  le : p ≤ bs.length
  cap : bs.length ≤ c
  small : bs.length ≤ 1000000000
theorem QN.ne_ {w : World} {g : Nat} {A : Option Addr} {c : Nat} {bs : List Int} {p : Nat} {err : Int} (h : QN w g A c bs p err) {b o : Nat} (e : A = some ⟨b, o, none⟩) (h0 : 0 < bs.length) : b ≠ g := by
  rintro rfl
  obtain ⟨b', o', e', _, hc⟩ := h.row.at_ 0 h0
  rw [e] at e'
  injection e' with e'
  injection e' with e1 e2
  subst e1 e2
  rw [h.blk.cell] at hc
  rcases Nat.lt_or_ge (o + 0) 3 with h3 | h3
  · obtain h4 | h4 | h4 : o = 0 ∨ o = 1 ∨ o = 2 := by omega
    all_goals
      subst h4
      simp at hc
  · rw [Array.getElem?_eq_none (by simpa using h3)] at hc
    cases hc
theorem QN.kept {S : Nat → Prop} {w w' : World} {g : Nat} {A : Option Addr} {c : Nat} {bs : List Int} {p : Nat} {err : Int} (h : QN w g A c bs p err) (hk : Kept S w w') (hg : ¬ S g) (hA : ∀ b o, A = some ⟨b, o, none⟩ → 0 < bs.length → ¬ S b) : QN w' g A c bs p err :=
  ⟨h.blk.kept hk hg, h.row.kept hk hA, h.byte, h.le, h.cap, h.small⟩
/-- The next n bytes, the place behind them, the fault. -/
def qtk (bs : List Int) (p : Nat) (err : Int) (n : Nat) : List Int × Nat × Int :=
  if err ≠ 0 then ([], p, err) else if n ≤ bs.length - p then ((bs.drop p).take n, p + n, 0) else ([], p, 3)
theorem qtk_len (bs : List Int) (p : Nat) (err : Int) (n : Nat) : (qtk bs p err n).1.length ≤ n ∧ (qtk bs p err n).1.length ≤ bs.length := by
  unfold qtk
  split
  · simp
  split
  · simp; omega
  · simp
theorem qtk_byte {bs : List Int} (p : Nat) (err : Int) (n : Nat) (h : ∀ c ∈ bs, 0 ≤ c ∧ c < 256) : ∀ c ∈ (qtk bs p err n).1, 0 ≤ c ∧ c < 256 := by
  unfold qtk
  split
  · simp
  split
  · intro c hc
    exact h c (List.mem_of_mem_drop (List.mem_of_mem_take hc))
  · simp

set_option maxHeartbeats 800000 in
theorem qnNew_any (A : Option Addr) (n c : Nat) (xs : List Int) (w : World) (hr : Row w .u8 A n xs) (hb : ∀ x ∈ xs, 0 ≤ x ∧ x < 256) (hn : n ≤ 1000000000) :
    Calls Try.prog 53 #[.slice A n c] w fun e w' => ∃ g B d, e = .returned (.pointer (some ⟨g, 0, none⟩)) ∧ QN w' g B d xs 0 0 ∧ w.heap.size ≤ g ∧ (∀ b o, B = some ⟨b, o, none⟩ → w.heap.size ≤ b) ∧ Fresh w w' := by
  obtain ⟨i0, hi, hz0, hz1, hz2⟩ := info_parts Try.infoByteQ
  have HR := Lib.hid (And.intro hr (And.intro hb hn))
  obtain rfl := hr.len
  clear hr hb
  go_enter Try.func53, Try.ntmps53
  go_wp2_with (at_builtin; refine wpList_app _ rfl _ _ 22 rfl 5 i0 .u8 1 Try.underlying22 hi hz0 hz1 hz2 (.slice none 0 0) [] rfl (Own.nil _ _ _) A xs.length c xs rfl HR.out.1 (by unfold maxLen; simp; omega) (by simp; omega) ?_)
  intro v' w1 hown hg hat
  have hcap0 := hown
  obtain ⟨B, d, rfl, hr, hB⟩ := hown.row
  have hcap := hcap0.cap
  have hk : Fresh w w1 := (Kept.refl _ _).grown hg (fun k e _ => by cases e)
  have hBl : ∀ b o, B = some ⟨b, o, none⟩ → w.heap.size ≤ b := by
    intro b o e
    have := hB b o e
    rcases hat with e' | e'
    · rw [e'] at this; cases this
    · rw [e'] at this; injection this with this; omega
  have Hb := Lib.hid hBl
  clear hown hB hg hat hBl hcap0
  go_wp2
  go_ret
  have hr' := hr.kept ((Kept.refl (fun _ => False) _).alloc (.cells #[.slice B xs.length d, .int .i64 0, .int .i64 0] 118)) (fun _ _ _ _ => id)
  exact ⟨w1.heap.size, B, d, rfl, ⟨Blk.new _ _ _, hr', HR.out.2.1, by omega, by simpa using hcap, HR.out.2.2⟩, hk.size, Hb.out, hk.alloc _⟩

/-- What a reading of bytes leaves. -/
def QText (g : Nat) (A : Option Addr) (c : Nat) (bs : List Int) (w : World) (r : List Int × Nat × Int) (e : Ending) (w' : World) : Prop :=
  ∃ u, e = .returned u ∧ Own w' 5 .u8 u r.1 ∧ (∀ k, u.ownBlock = some k → w.heap.size ≤ k) ∧ QN w' g A c bs r.2.1 r.2.2 ∧ Kept (fun k => k = g) w w'

set_option maxHeartbeats 1600000 in
theorem qnRaw_any (g : Nat) (A : Option Addr) (c : Nat) (bs : List Int) (p : Nat) (err : Int) (n : Int) (w : World) (h : QN w g A c bs p err) (hn : n ≤ 9223372036854775807) :
    Calls Try.prog 82 #[.pointer (some ⟨g, 0, none⟩), .int .i64 n] w (QText g A c bs w (qtk bs p err n.toNat)) := by
  obtain ⟨i0, hi, hz0, hz1, hz2⟩ := info_parts Try.infoByteQ
  have hmax : max n 0 = ((n.toNat : Nat) : Int) := by omega
  have hmle : ((n.toNat : Nat) : Int) ≤ 9223372036854775807 := by omega
  generalize n.toNat = m at *
  have HM := Lib.hid hmax
  have c0 := h.blk.cell 0
  have c1 := h.blk.cell 1
  have c2 := h.blk.cell 2
  simp only [List.getElem?_toArray, List.getElem?_cons_zero, List.getElem?_cons_succ] at c0 c1 c2
  have f1 := h.blk.frozen 1
  have f2 := h.blk.frozen 2
  have hle := h.le
  have hsm := h.small
  have hcap := h.cap
  have l0 : (p : Int) ≤ (bs.length : Int) := by omega
  have l1 : (bs.length : Int) ≤ 1000000000 := by omega
  have H := Lib.hid h
  clear h hmax
  by_cases he : err = 0
  · subst he
    by_cases hlt : m ≤ bs.length - p
    · have hq : qtk bs p 0 m = ((bs.drop p).take m, p + m, 0) := by unfold qtk; rw [if_neg (by simp), if_pos hlt]
      rw [hq]
      have m0 : ¬ (bs.length : Int) - (p : Int) < (m : Int) := by omega
      have m1 : (p : Int) + (m : Int) ≤ 1000000000 := by omega
      have e1 : (p : Int) + (m : Int) - (m : Int) = (p : Int) := by omega
      have hsl : ∀ W, (Instr.slice 22 (.slice A bs.length c) (some (.int .i64 (p : Int))) (some (.int .i64 ((p : Int) + m))) none).run Try.prog W = .ok (.slice (cutAt A p c) m (c - p)) W := fun W => by
        have := run_slice_part 22 5 Try.underlying22 (fun w => by simp [sizeOf, typeInfo, hi, hz1]) A bs.length c p (p + m) ((p : Int) + m) (by omega) (by omega) (by omega) W
        rw [this, Nat.add_sub_cancel_left]
      have Hsz := Lib.hid (show ((bs.drop p).take m).length = m from by simp; omega)
      obtain ⟨W, hW⟩ : ∃ W : World, W = (w.setCell ⟨g, 1, none⟩ (.int .i64 ((p : Int) + m))).drew := ⟨_, rfl⟩
      have c0' : W.cell? ⟨g, 0, none⟩ = some (.slice A bs.length c) := by rw [hW]; exact (World.cell?_setCell_other _ _ _ _ (by simp)).trans c0
      have hb2 : Blk W g 118 #[.slice A bs.length c, .int .i64 ((p : Int) + m), .int .i64 0] := by rw [hW]; simpa using (H.out.blk.set_ 1 (.int .i64 ((p : Int) + m))).drew
      have hk0 : Kept (fun k => k = g) w W := by rw [hW]; exact ((Kept.refl (fun k => k = g) w).setCell (p := ⟨g, 1, none⟩) (fun _ => rfl) _).drew
      have c1' := hb2.cell 1
      simp only [List.getElem?_toArray, List.getElem?_cons_succ, List.getElem?_cons_zero] at c1'
      have hq2 : QN W g A c bs (p + m) 0 := ⟨by simpa using hb2, H.out.row.kept hk0 (fun b o e h0 e2 => H.out.ne_ e h0 e2), H.out.byte, by omega, hcap, hsm⟩
      have H2 := Lib.hid (And.intro hq2 hk0)
      clear hq2 hk0
      clear hq hb2
      go_enter Try.func82, Try.ntmps82
      go_wp2_with fail
      rw [HM.out]
      go_region
      go_wp2_with fail
      rw [← hW]
      clear hW
      have w1 : IntKind.i64.wrap (p : Int) = (p : Int) := IntWalk.i64_in _ (by omega)
      go_still_tail 15, (by kernel_rfl)
      change wpList _ _ _ _ _ (World.drew _)
      refine wpList_app _ rfl _ _ 22 rfl 5 i0 .u8 1 Try.underlying22 hi hz0 hz1 hz2 (.slice none 0 0) [] rfl (Own.nil _ _ _) (cutAt A p c) m (c - p) ((bs.drop p).take m) rfl ((H2.out.1.row.kept ((Kept.refl (fun _ => False) W).drew) (fun _ _ _ _ => id)).cut (by omega) hcap) (by unfold maxLen; simp; omega) (by simp; omega) ?_
      intro v9 w9 ho9 hg9 hat9
      have hk9 : Fresh W.drew w9 := (Kept.refl _ _).grown hg9 (fun j e _ => by cases e)
      have H9 : Hid (QText g A c bs w ((bs.drop p).take m, p + m, 0) (.returned v9) w9) := Lib.hid ⟨v9, rfl, by simpa using ho9, fun j e => by
        rcases hat9 with e2 | e2
        · rw [e2] at e; cases e
        · rw [e2] at e
          injection e with e
          have := H2.out.2.size
          have e3 : W.drew.heap.size = W.heap.size := rfl
          omega, (H2.out.1.kept ((Kept.refl (fun _ => False) W).drew) id (fun _ _ _ _ => id)).kept hk9 id (fun _ _ _ _ => id), (H2.out.2.drew).trans hk9 fun _ _ e => e.elim⟩
      clear ho9 hg9 hat9 hk9
      go_wp2_with fail
      refine bodyPost_ret (results_tmp rfl _ _ _) rfl ?_
      exact H9.out
    · have hq : qtk bs p 0 m = ([], p, 3) := by unfold qtk; rw [if_neg (by simp), if_neg hlt]
      rw [hq]
      have m0 : (bs.length : Int) - (p : Int) < (m : Int) := by omega
      clear hq
      go_enter Try.func82, Try.ntmps82
      go_wp2_with fail
      rw [HM.out]
      go_region
      go_wp2_with fail
      refine bodyPost_ret (results_tmp rfl _ _ _) rfl ?_
      have hk0 : Kept (fun k => k = g) w (w.setCell ⟨g, 2, none⟩ (.int .i64 3)).drew := ((Kept.refl (fun k => k = g) w).setCell (p := ⟨g, 2, none⟩) (fun _ => rfl) _).drew
      exact ⟨_, rfl, Own.nil _ _ _, fun k e => (by cases e), ⟨by simpa using (H.out.blk.set_ 2 (.int .i64 3)).drew, H.out.row.kept hk0 (fun b o e h0 e2 => H.out.ne_ e h0 e2), H.out.byte, H.out.le, H.out.cap, H.out.small⟩, hk0⟩
  · have hq : qtk bs p err m = ([], p, err) := by unfold qtk; rw [if_pos he]
    rw [hq]
    have hb : (err != 0) = true := by simpa using he
    clear hq he
    go_enter Try.func82, Try.ntmps82
    go_wp2_with fail
    refine bodyPost_ret (results_tmp rfl _ _ _) rfl ?_
    exact ⟨_, rfl, Own.nil _ _ _, fun k e => (by cases e), H.out, Kept.refl _ _⟩

theorem leNum_cons (x : Int) (r : List Int) : leNum (x :: r) = x.toNat + 256 * leNum r := rfl
theorem leNum_drop {xs : List Int} {i : Nat} (hi : i < xs.length) : leNum (xs.drop i) = (xs.getD i 0).toNat + 256 * leNum (xs.drop (i + 1)) := by
  rw [List.drop_eq_getElem_cons hi, leNum_cons]; simp [List.getD, hi]

theorem q_or_be (acc c : Nat) (ha : acc < 72057594037927936) (hc : c < 256) : bits .or .u64 (IntKind.u64.wrap ((acc : Int) * 256)) (IntKind.u64.wrap (c : Int)) = ((c + 256 * acc : Nat) : Int) := by
  have e1 : IntKind.u64.wrap ((acc : Int) * 256) = ((256 * acc : Nat) : Int) := by rw [IntKind.wrap_u64]; omega
  have e2 : IntKind.u64.wrap (c : Int) = (c : Int) := by rw [IntKind.wrap_u64]; omega
  rw [e1, e2, u64_or_nat _ _ (by omega) (by omega), nat_join 8 (256 * acc) c (by simp) (by omega)]
  omega

set_option maxHeartbeats 1600000 in
theorem qnLittle_any (g : Nat) (A : Option Addr) (c : Nat) (bs : List Int) (p : Nat) (err : Int) (n : Nat) (w : World) (h : QN w g A c bs p err) (hn : n ≤ 8) :
    Calls Try.prog 54 #[.pointer (some ⟨g, 0, none⟩), .int .i64 n] w fun e w' => e = .returned (.int .u64 (leNum (qtk bs p err n).1)) ∧ QN w' g A c bs (qtk bs p err n).2.1 (qtk bs p err n).2.2 ∧ Kept (fun k => k = g) w w' := by
  have n0 : (n : Int) ≤ 8 := by omega
  have hmin : min (n : Int) 8 = (n : Int) := by omega
  have HR := Lib.hid (qnRaw_any g A c bs p err n w h (by omega))
  rw [Int.toNat_natCast] at HR
  have hl := (qtk_len bs p err n).1
  have Hb := Lib.hid (qtk_byte p err n h.byte)
  clear h
  generalize qtk bs p err n = r at *
  obtain ⟨xs, p1, e1⟩ := r
  simp only [] at *
  go_enter Try.func54, Try.ntmps54
  go_wp2_with fail
  refine HR.out.mono ?_
  rintro e w1 ⟨u, rfl, hown, hnew, hq, hk⟩
  simp only [] at hown hq
  obtain ⟨Au, cu, rfl, hrow, _⟩ := hown.row
  have HX := Lib.hid (And.intro hq (And.intro hk hrow))
  clear hown hnew hq hk hrow HR
  obtain ⟨k, hk⟩ : ∃ k, k = xs.length := ⟨_, rfl⟩
  rw [← hk]
  have Hk := Lib.hid hk
  have hk8 : k ≤ 8 := by omega
  clear hk hl
  go_wp2_with fail
  go_loopw [7, 6] (fun i v wr => ∃ j : Nat, j ≤ k ∧ i = .int .i64 ((j : Int) - 1) ∧ v = .int .u64 (leNum (xs.drop j)) ∧ wr = w1) (fun i _ _ => (intOf i + 1).toNat)
  case atStart => exact ⟨k, Nat.le_refl _, rfl, by rw [Hk.out, List.drop_length]; rfl, rfl⟩
  case round =>
    obtain ⟨j, hj, rfl, rfl, rfl⟩ := hrel
    by_cases h0 : j = 0
    · subst h0
      rw [List.drop_zero]
      go_wp2_with fail
      go_ret
      exact ⟨rfl, HX.out.1, HX.out.2.1⟩
    · obtain ⟨i, rfl⟩ : ∃ i, j = i + 1 := ⟨j - 1, by omega⟩
      obtain ⟨b, o, rfl, hbl, hcell⟩ := HX.out.2.2.at_ i (by have := Hk.out; omega)
      have hil : i < xs.length := by have := Hk.out; omega
      have hbd := Hb.out _ (show xs.getD i 0 ∈ xs from by simp [List.getD, hil])
      have hd := leNum_drop hil
      have hlt := leNum_lt (xs.drop (i + 1)) (fun c hc => Hb.out c (List.mem_of_mem_drop hc))
      have hpow : 256 ^ (xs.drop (i + 1)).length ≤ 256 ^ 7 := Nat.pow_le_pow_right (by omega) (by have := Hk.out; rw [List.length_drop]; omega)
      generalize leNum (xs.drop (i + 1)) = acc at *
      generalize xs.getD i 0 = cc at *
      obtain ⟨x, rfl⟩ := Int.eq_ofNat_of_zero_le hbd.1
      rw [Int.toNat_natCast] at hd
      have hor := q_or_be acc x (by omega) (by omega)
      rw [← hd] at hor
      have i0 : (0 : Int) ≤ ((i + 1 : Nat) : Int) - 1 := by omega
      have i1 : (((i + 1 : Nat) : Int) - 1) = (i : Int) := by omega
      rw [i1]
      have i2 : (0 : Int) ≤ (i : Int) := by omega
      have i3 : (i : Int) < (k : Int) := by omega
      clear hd hlt hpow hbd
      go_wp2_with fail
      go_roundw
      case rel => exact ⟨i, by omega, rfl, rfl, trivial⟩
      case measure => simp [intOf]

end Go.Proofs.Ythfifpapkknodaa

/- A WAV file, as plain mathematics: its chunks gone through; a file that is made; what is made is parsed; other chunks play no part. -/
namespace Go.Proofs.Ythfifpapkknodaa
open Go.RowKit

/-- k bytes from place p on; the number that they are. -/
def slc (bs : List Int) (p k : Nat) : List Int := (bs.drop p).take k
def leAt (bs : List Int) (p k : Nat) : Nat := leNum (slc bs p k)
theorem slc_length {bs : List Int} {p k : Nat} (h : p + k ≤ bs.length) : (slc bs p k).length = k := by simp [slc]; omega
theorem slc_byte {bs : List Int} (p k : Nat) (h : ∀ c ∈ bs, 0 ≤ c ∧ c < 256) : ∀ c ∈ slc bs p k, 0 ≤ c ∧ c < 256 := fun c hc => h c (List.mem_of_mem_drop (List.mem_of_mem_take hc))
theorem leAt_lt {bs : List Int} {p k : Nat} (h : ∀ c ∈ bs, 0 ≤ c ∧ c < 256) (hp : p + k ≤ bs.length) : leAt bs p k < 256 ^ k := by
  have := leNum_lt (slc bs p k) (slc_byte p k h)
  rwa [slc_length hp] at this
theorem slc_mid (P M R : List Int) {p k : Nat} (hp : P.length = p) (hk : M.length = k) : slc (P ++ (M ++ R)) p k = M := by
  subst hp hk
  simp [slc]
theorem leAt_mid (P R : List Int) {p k : Nat} (v : Nat) (hp : P.length = p) (hv : v < 256 ^ k) : leAt (P ++ (leBytes v k ++ R)) p k = v := by
  rw [leAt, slc_mid P _ R hp (leBytes_length v k), leNum_leBytes, Nat.mod_eq_of_lt hv]

/-- The names. -/
def nRIFF : List Int := [82, 73, 70, 70]
def nWAVE : List Int := [87, 65, 86, 69]
def nFmt : List Int := [102, 109, 116, 32]
def nData : List Int := [100, 97, 116, 97]

/-- What is known when some chunks are over: is the format there? the format, channels, bits. -/
abbrev WSt := Bool × Nat × Nat × Nat
/-- Behind the chunk at a place. -/
def wfmt (bs : List Int) (p : Nat) (s : WSt) : WSt :=
  if slc bs p 4 = nFmt ∧ s.1 = false ∧ 16 ≤ leAt bs (p + 4) 4 ∧ p + 8 + 16 ≤ bs.length then (true, leAt bs (p + 8) 2, leAt bs (p + 8 + 2) 2, leAt bs (p + 8 + 14) 2) else s
/-- The whole frames' bytes. -/
def wlen (n : Nat) (s : WSt) (p size : Nat) : Nat := min size (n - p) / (s.2.2.1 * s.2.2.2 / 8) * (s.2.2.1 * s.2.2.2 / 8)
def wbad (s : WSt) : Prop := s.2.1 ≠ 1 ∨ s.2.2.1 < 1 ∨ 8 < s.2.2.1 ∨ (s.2.2.2 ≠ 8 ∧ s.2.2.2 ≠ 16)
instance (s : WSt) : Decidable (wbad s) := by unfold wbad; infer_instance
def wfin (n : Nat) (s : WSt) (p size : Nat) : Option (Nat × Nat × Nat × Nat) :=
  if wbad s then none else if wlen n s p size < 1 then none else some (s.2.2.1, s.2.2.2, p, p + wlen n s p size)
/-- The chunks from a place on. -/
def wgo (bs : List Int) (p : Nat) (s : WSt) : Option (Nat × Nat × Nat × Nat) :=
  if p + 8 ≤ bs.length then
    if slc bs p 4 = nData ∧ (wfmt bs p s).1 = true then wfin bs.length (wfmt bs p s) (p + 8) (leAt bs (p + 4) 4)
    else wgo bs (p + 8 + leAt bs (p + 4) 4 + leAt bs (p + 4) 4 % 2) (wfmt bs p s)
  else none
termination_by bs.length + 8 - p
decreasing_by omega
def wparse (bs : List Int) : Option (Nat × Nat × Nat × Nat) :=
  if bs.length < 12 ∨ slc bs 0 4 ≠ nRIFF ∨ slc bs 8 4 ≠ nWAVE then none else wgo bs 12 (false, 0, 0, 0)

theorem wfin_some {n : Nat} {s : WSt} {p size : Nat} {r : Nat × Nat × Nat × Nat} (h : wfin n s p size = some r) (hp : p ≤ n) :
    1 ≤ r.1 ∧ r.1 ≤ 8 ∧ (r.2.1 = 8 ∨ r.2.1 = 16) ∧ r.2.2.1 = p ∧ p < r.2.2.2 ∧ r.2.2.2 ≤ n ∧ (r.2.2.2 - p) % (r.1 * r.2.1 / 8) = 0 := by
  unfold wfin at h
  split at h
  · cases h
  · rename_i hb
    split at h
    · cases h
    · rename_i hl
      injection h with h
      subst h
      simp only [wbad] at hb
      have h2 : wlen n s p size ≤ n - p := by
        unfold wlen
        exact Nat.le_trans (Nat.div_mul_le_self _ _) (Nat.min_le_right _ _)
      refine ⟨by simp only []; omega, by simp only []; omega, by simp only []; omega, rfl, by simp only []; omega, by simp only []; omega, ?_⟩
      simp only []
      rw [Nat.add_sub_cancel_left]
      unfold wlen
      exact Nat.mul_mod_left _ _
theorem wgo_some (bs : List Int) : ∀ (p : Nat) (s : WSt) {r : Nat × Nat × Nat × Nat}, 12 ≤ p → (s.1 = true → 36 ≤ p) → wgo bs p s = some r →
    1 ≤ r.1 ∧ r.1 ≤ 8 ∧ (r.2.1 = 8 ∨ r.2.1 = 16) ∧ 44 ≤ r.2.2.1 ∧ r.2.2.1 < r.2.2.2 ∧ r.2.2.2 ≤ bs.length ∧ (r.2.2.2 - r.2.2.1) % (r.1 * r.2.1 / 8) = 0 := by
  intro p s
  induction p, s using wgo.induct bs with
  | case1 p s h8 hd =>
    intro r hp h36 h
    rw [wgo, if_pos h8, if_pos hd] at h
    have hs : s.1 = true := by
      have h2 := hd.2
      unfold wfmt at h2
      split at h2
      · rename_i hf
        rw [hd.1] at hf
        exact absurd hf.1 (by decide)
      · exact h2
    obtain ⟨a1, a2, a3, a4, a5, a6, a7⟩ := wfin_some h (by omega)
    have := h36 hs
    exact ⟨a1, a2, a3, by omega, by omega, a6, by rw [a4]; exact a7⟩
  | case2 p s h8 hd ih =>
    intro r hp h36 h
    rw [wgo, if_pos h8, if_neg hd] at h
    refine ih (by omega) (fun hs => ?_) h
    unfold wfmt at hs
    split at hs
    · rename_i hf
      omega
    · have := h36 hs
      omega
  | case3 p s h8 =>
    intro r hp h36 h
    rw [wgo, if_neg h8] at h
    cases h
theorem wparse_some {bs : List Int} {r : Nat × Nat × Nat × Nat} (h : wparse bs = some r) :
    1 ≤ r.1 ∧ r.1 ≤ 8 ∧ (r.2.1 = 8 ∨ r.2.1 = 16) ∧ 44 ≤ r.2.2.1 ∧ r.2.2.1 < r.2.2.2 ∧ r.2.2.2 ≤ bs.length ∧ (r.2.2.2 - r.2.2.1) % (r.1 * r.2.1 / 8) = 0 := by
  unfold wparse at h
  split at h
  · cases h
  · exact wgo_some bs 12 _ (Nat.le_refl _) (fun e => by cases e) h

/-- A file that is made. -/
def whead (ch b n : Nat) : List Int :=
  nRIFF ++ (leBytes (36 + n) 4 ++ (nWAVE ++ (nFmt ++ (leBytes 16 4 ++ (leBytes 1 2 ++ (leBytes ch 2 ++ (leBytes 8000 4 ++ (leBytes (8000 * (ch * b / 8)) 4 ++ (leBytes (ch * b / 8) 2 ++ leBytes b 2)))))))))
def wdata (n : Nat) : List Int := nData ++ leBytes n 4
def wok (ch b : Nat) : Prop := 1 ≤ ch ∧ ch ≤ 8 ∧ (b = 8 ∨ b = 16)
def wmake (ch b : Int) (xs : List Int) : List Int := if ch < 1 ∨ 8 < ch ∨ (b ≠ 8 ∧ b ≠ 16) then [] else whead ch.toNat b.toNat xs.length ++ (wdata xs.length ++ xs)
theorem whead_length (ch b n : Nat) : (whead ch b n).length = 36 := by simp [whead, leBytes_length, nRIFF, nWAVE, nFmt]
theorem wdata_length (n : Nat) : (wdata n).length = 8 := by simp [wdata, leBytes_length, nData]
theorem wmake_ok {ch b : Nat} (h : wok ch b) (xs : List Int) : wmake ch b xs = whead ch b xs.length ++ (wdata xs.length ++ xs) := by
  unfold wmake wok at *
  rw [if_neg (by omega)]
  simp

/-- Behind the head the format is there. -/
theorem whead_go (ch b n : Nat) (h : wok ch b) (T : List Int) : wparse (whead ch b n ++ T) = wgo (whead ch b n ++ T) 36 (true, 1, ch, b) := by
  have hlen : 36 ≤ (whead ch b n ++ T).length := by rw [List.length_append, whead_length]; omega
  obtain ⟨bs, hbs⟩ : ∃ bs, whead ch b n ++ T = bs := ⟨_, rfl⟩
  have e : bs = nRIFF ++ (leBytes (36 + n) 4 ++ (nWAVE ++ (nFmt ++ (leBytes 16 4 ++ (leBytes 1 2 ++ (leBytes ch 2 ++ (leBytes 8000 4 ++ (leBytes (8000 * (ch * b / 8)) 4 ++ (leBytes (ch * b / 8) 2 ++ (leBytes b 2 ++ T)))))))))) := by
    rw [← hbs]; simp [whead]
  rw [hbs] at hlen ⊢
  have s1 : slc bs 0 4 = nRIFF := by rw [e]; exact slc_mid [] nRIFF _ rfl rfl
  have s2 : slc bs 8 4 = nWAVE := by
    rw [e, ← List.append_assoc nRIFF]
    exact slc_mid _ nWAVE _ (by simp [nRIFF, leBytes_length]) rfl
  have s3 : slc bs 12 4 = nFmt := by
    rw [e, ← List.append_assoc nRIFF, ← List.append_assoc (nRIFF ++ _)]
    exact slc_mid _ nFmt _ (by simp [nRIFF, nWAVE, leBytes_length]) rfl
  have s4 : leAt bs 16 4 = 16 := by
    rw [e, ← List.append_assoc nRIFF, ← List.append_assoc (nRIFF ++ _), ← List.append_assoc ((nRIFF ++ _) ++ _)]
    exact leAt_mid _ _ 16 (by simp [nRIFF, nWAVE, nFmt, leBytes_length]) (by decide)
  have s5 : leAt bs 20 2 = 1 := by
    rw [e, ← List.append_assoc nRIFF, ← List.append_assoc (nRIFF ++ _), ← List.append_assoc ((nRIFF ++ _) ++ _), ← List.append_assoc (((nRIFF ++ _) ++ _) ++ _)]
    exact leAt_mid _ _ 1 (by simp [nRIFF, nWAVE, nFmt, leBytes_length]) (by decide)
  have s6 : leAt bs 22 2 = ch := by
    rw [e, ← List.append_assoc nRIFF, ← List.append_assoc (nRIFF ++ _), ← List.append_assoc ((nRIFF ++ _) ++ _), ← List.append_assoc (((nRIFF ++ _) ++ _) ++ _), ← List.append_assoc ((((nRIFF ++ _) ++ _) ++ _) ++ _)]
    exact leAt_mid _ _ ch (by simp [nRIFF, nWAVE, nFmt, leBytes_length]) (by unfold wok at h; omega)
  have s7 : leAt bs 34 2 = b := by
    have e2 : bs = (nRIFF ++ leBytes (36 + n) 4 ++ nWAVE ++ nFmt ++ leBytes 16 4 ++ leBytes 1 2 ++ leBytes ch 2 ++ leBytes 8000 4 ++ leBytes (8000 * (ch * b / 8)) 4 ++ leBytes (ch * b / 8) 2) ++ (leBytes b 2 ++ T) := by
      rw [e]; simp
    rw [e2]
    exact leAt_mid _ _ b (by simp [nRIFF, nWAVE, nFmt, leBytes_length]) (by unfold wok at h; omega)
  unfold wparse
  rw [if_neg (by rw [s1, s2]; simp; omega), wgo, if_pos (by omega)]
  have hf : wfmt bs 12 (false, 0, 0, 0) = (true, 1, ch, b) := by
    unfold wfmt
    rw [if_pos ⟨s3, rfl, by rw [s4]; omega, by omega⟩, s5, s6, s7]
  rw [hf, s4, if_neg (by rw [s3]; exact fun h => absurd h.1 (by decide))]

/-- A chunk of another name plays no part. -/
theorem wgo_skip (P name C R : List Int) (s : WSt) (size : Nat) (hn : name.length = 4) (hs : size < 4294967296) (hC : C.length = size + size % 2) (n1 : name ≠ nFmt) (n2 : name ≠ nData) :
    wgo (P ++ (name ++ (leBytes size 4 ++ (C ++ R)))) P.length s = wgo (P ++ (name ++ (leBytes size 4 ++ (C ++ R)))) (P.length + 8 + size + size % 2) s := by
  obtain ⟨bs, hbs⟩ : ∃ bs, P ++ (name ++ (leBytes size 4 ++ (C ++ R))) = bs := ⟨_, rfl⟩
  have hlen : P.length + 8 ≤ bs.length := by rw [← hbs]; simp [leBytes_length, hn]; omega
  have s1 : slc bs P.length 4 = name := by rw [← hbs]; exact slc_mid P name _ rfl hn
  have s2 : leAt bs (P.length + 4) 4 = size := by
    rw [← hbs, ← List.append_assoc P]
    exact leAt_mid _ _ size (by simp [hn]) (by omega)
  rw [hbs]
  conv => lhs; rw [wgo]
  have hf : wfmt bs P.length s = s := by unfold wfmt; rw [if_neg (by rw [s1]; exact fun h => n1 h.1)]
  rw [if_pos hlen, hf, s1, s2, if_neg (fun h => n2 h.1)]

/-- The samples' chunk. -/
theorem wgo_data (P xs R : List Int) {ch b : Nat} (h : wok ch b) (hx : xs.length < 4294967296) :
    wgo (P ++ (wdata xs.length ++ (xs ++ R))) P.length (true, 1, ch, b) =
      if xs.length / (ch * b / 8) * (ch * b / 8) < 1 then none else some (ch, b, P.length + 8, P.length + 8 + xs.length / (ch * b / 8) * (ch * b / 8)) := by
  obtain ⟨bs, hbs⟩ : ∃ bs, P ++ (wdata xs.length ++ (xs ++ R)) = bs := ⟨_, rfl⟩
  have hl : bs.length = P.length + 8 + xs.length + R.length := by rw [← hbs]; simp [wdata_length]; omega
  have e : bs = P ++ (nData ++ (leBytes xs.length 4 ++ (xs ++ R))) := by rw [← hbs]; simp [wdata]
  have s1 : slc bs P.length 4 = nData := by rw [e]; exact slc_mid P nData _ rfl rfl
  have s2 : leAt bs (P.length + 4) 4 = xs.length := by
    rw [e, ← List.append_assoc P]
    exact leAt_mid _ _ xs.length (by simp [nData]) (by omega)
  rw [hbs, wgo, if_pos (by omega)]
  have hf : wfmt bs P.length (true, 1, ch, b) = (true, 1, ch, b) := by unfold wfmt; rw [if_neg (fun h => by cases h.2.1)]
  rw [hf, s1, s2, if_pos ⟨rfl, rfl⟩]
  unfold wfin
  have hb : ¬ wbad (true, 1, ch, b) := by unfold wbad wok at *; simp only []; omega
  have hw : wlen bs.length (true, 1, ch, b) (P.length + 8) xs.length = xs.length / (ch * b / 8) * (ch * b / 8) := by
    unfold wlen
    rw [Nat.min_eq_left (by omega)]
  rw [if_neg hb, hw]

/-- What is made is parsed. -/
theorem wback {ch b : Nat} (h : wok ch b) (xs R : List Int) (hx : xs.length < 4294967296) :
    wparse (wmake ch b xs ++ R) = if xs.length / (ch * b / 8) * (ch * b / 8) < 1 then none else some (ch, b, 44, 44 + xs.length / (ch * b / 8) * (ch * b / 8)) := by
  rw [wmake_ok h, List.append_assoc, List.append_assoc, whead_go ch b _ h]
  have := wgo_data (whead ch b xs.length) xs R h hx
  rw [whead_length] at this
  exact this

theorem leBytes_all (v k : Nat) : ∀ x ∈ leBytes v k, 0 ≤ x ∧ x < 256 := leBytes_byte v k
theorem wmake_byte (ch b : Int) {xs : List Int} (h : ∀ x ∈ xs, 0 ≤ x ∧ x < 256) : ∀ x ∈ wmake ch b xs, 0 ≤ x ∧ x < 256 := by
  unfold wmake
  split
  · exact fun x hx => (by cases hx)
  · have c1 : ∀ x ∈ nRIFF, 0 ≤ x ∧ x < 256 := by decide
    have c2 : ∀ x ∈ nWAVE, 0 ≤ x ∧ x < 256 := by decide
    have c3 : ∀ x ∈ nFmt, 0 ≤ x ∧ x < 256 := by decide
    have c4 : ∀ x ∈ nData, 0 ≤ x ∧ x < 256 := by decide
    intro x hx
    simp only [whead, wdata, List.mem_append] at hx
    rcases hx with (hx | hx | hx | hx | hx | hx | hx | hx | hx | hx | hx) | (hx | hx) | hx
    all_goals first | exact leBytes_byte _ _ x hx | exact c1 x hx | exact c2 x hx | exact c3 x hx | exact c4 x hx | exact h x hx
theorem wmake_length {ch b : Nat} (h : wok ch b) (xs : List Int) : (wmake ch b xs).length = 44 + xs.length := by
  rw [wmake_ok h, List.length_append, List.length_append, whead_length, wdata_length]; omega

/-- Other chunks, one behind the other. -/
def wchunk (x : List Int × List Int) : List Int := x.1 ++ (leBytes x.2.length 4 ++ (x.2 ++ if x.2.length % 2 = 1 then [0] else []))
def wmore (L : List (List Int × List Int)) : List Int := L.flatMap wchunk
def wgood (x : List Int × List Int) : Prop := x.1.length = 4 ∧ x.1 ≠ nFmt ∧ x.1 ≠ nData ∧ x.2.length < 4294967296
theorem wmore_snoc (L : List (List Int × List Int)) (x : List Int × List Int) : wmore (L ++ [x]) = wmore L ++ wchunk x := by simp [wmore]
theorem wchunk_length (x : List Int × List Int) : (wchunk x).length = x.1.length + 4 + x.2.length + x.2.length % 2 := by
  unfold wchunk
  rcases Nat.mod_two_eq_zero_or_one x.2.length with h | h <;> simp [h, leBytes_length] <;> omega
theorem wgo_more (s : WSt) (R : List Int) : ∀ (L : List (List Int × List Int)) (P : List Int), (∀ x ∈ L, wgood x) → wgo (P ++ (wmore L ++ R)) P.length s = wgo (P ++ (wmore L ++ R)) (P.length + (wmore L).length) s
  | [], P, _ => by simp [wmore]
  | x :: L, P, h => by
    obtain ⟨g1, g2, g3, g4⟩ := h x (by simp)
    have e : P ++ (wmore (x :: L) ++ R) = P ++ (x.1 ++ (leBytes x.2.length 4 ++ ((x.2 ++ if x.2.length % 2 = 1 then [0] else []) ++ (wmore L ++ R)))) := by simp [wmore, wchunk]
    have e2 : P ++ (wmore (x :: L) ++ R) = (P ++ wchunk x) ++ (wmore L ++ R) := by simp [wmore]
    have hs := wgo_skip P x.1 (x.2 ++ if x.2.length % 2 = 1 then [0] else []) (wmore L ++ R) s x.2.length g1 g4 (by rcases Nat.mod_two_eq_zero_or_one x.2.length with h | h <;> simp [h]) g2 g3
    rw [← e] at hs
    have hi := wgo_more s R L (P ++ wchunk x) (fun y hy => h y (by simp [hy]))
    rw [← e2] at hi
    have hl : (P ++ wchunk x).length = P.length + 8 + x.2.length + x.2.length % 2 := by rw [List.length_append, wchunk_length]; omega
    rw [hl] at hi
    rw [hs, hi]
    congr 1
    have : (wmore (x :: L)).length = (wchunk x).length + (wmore L).length := by simp [wmore]
    rw [this, wchunk_length]
    omega
theorem wchunks {ch b : Nat} (h : wok ch b) (xs : List Int) (hx : xs.length < 4294967296) (L : List (List Int × List Int)) (hL : ∀ x ∈ L, wgood x) :
    wparse (whead ch b xs.length ++ (wmore L ++ (wdata xs.length ++ xs))) =
      if xs.length / (ch * b / 8) * (ch * b / 8) < 1 then none else some (ch, b, 44 + (wmore L).length, 44 + (wmore L).length + xs.length / (ch * b / 8) * (ch * b / 8)) := by
  rw [whead_go ch b _ h]
  have h1 := wgo_more (true, 1, ch, b) (wdata xs.length ++ xs) L (whead ch b xs.length) hL
  rw [whead_length] at h1
  rw [h1]
  have h2 := wgo_data (whead ch b xs.length ++ wmore L) xs [] h hx
  rw [List.length_append, whead_length, List.append_nil, List.append_assoc] at h2
  rw [h2]
  have e : 36 + (wmore L).length + 8 = 44 + (wmore L).length := by omega
  rw [e]

end Go.Proofs.Ythfifpapkknodaa

/- The document's little numbers of a picture's head. -/
namespace Go.Proofs.Ythfifpapkknodaa
open Go.RowKit
set_option maxRecDepth 100000

attribute [local go_sem ↓] Go.wp_at_zero Go.wp_at_succ

theorem slc_row {w : World} {A : Option Addr} {n : Nat} {xs : List Int} (h : Row w .u8 A n xs) {p k c : Nat} (hp : p + k ≤ n) (hc : n ≤ c) : Row w .u8 (cutAt A p c) k (slc xs p k) := h.cut hp hc

set_option maxHeartbeats 800000 in
/-- A number at a place. -/
theorem qPlittle_any (A : Option Addr) (n c : Nat) (xs : List Int) (p k : Nat) (w : World) (hr : Row w .u8 A n xs) (hb : ∀ x ∈ xs, 0 ≤ x ∧ x < 256) (hp : p + k ≤ n) (hk : k ≤ 4) (hn : n ≤ 1000000000) (hc : n ≤ c) :
    Calls Try.prog 35 #[.slice A n c, .int .i64 p, .int .i64 k] w fun e w' => e = .returned (.int .i64 (leAt xs p k : Nat)) ∧ Fresh w w' := by
  obtain ⟨i0, hi, hz0, hz1, hz2⟩ := info_parts Try.infoByteQ
  have hsl : ∀ W, (Instr.slice 22 (.slice A n c) (some (.int .i64 (p : Int))) (some (.int .i64 ((p : Int) + k))) none).run Try.prog W = .ok (.slice (cutAt A p c) k (c - p)) W := fun W => by
    have := run_slice_part 22 5 Try.underlying22 (fun w => by simp [sizeOf, typeInfo, hi, hz1]) A n c p (p + k) ((p : Int) + k) (by omega) (by omega) (by omega) W
    rw [this, Nat.add_sub_cancel_left]
  have hlt : leAt xs p k < 4294967296 := by
    have h1 := leAt_lt hb (p := p) (k := k) (by have := hr.len; omega)
    have h2 : 256 ^ k ≤ 256 ^ 4 := Nat.pow_le_pow_right (by decide) hk
    omega
  have HN := Lib.hid (qnNew_any (cutAt A p c) k (c - p) (slc xs p k) w (slc_row hr hp hc) (slc_byte p k hb) (by omega))
  have HL : Hid (∀ (V : World) (g : Nat) (B : Option Addr) (d : Nat), QN V g B d (slc xs p k) 0 0 → Calls Try.prog 54 #[.pointer (some ⟨g, 0, none⟩), .int .i64 k] V fun e w' => e = .returned (.int .u64 (leAt xs p k : Nat)) ∧ Kept (fun j => j = g) V w') := Lib.hid fun V g B d hq => by
    have h1 := qnLittle_any g B d (slc xs p k) 0 0 k V hq (by omega)
    have hsl2 : (slc xs p k).length = k := slc_length (by have := hr.len; omega)
    have e : qtk (slc xs p k) 0 0 k = (slc xs p k, 0 + k, 0) := by
      unfold qtk
      rw [if_neg (by simp), if_pos (by omega), List.drop_zero, List.take_of_length_le (by omega)]
    rw [e] at h1
    exact h1.mono fun e w' h => ⟨h.1, h.2.2⟩
  have p1 : (p : Int) + (k : Int) ≤ 1000000000 := by omega
  generalize leAt xs p k = v at *
  generalize slc xs p k = s at *
  clear hr hb
  go_enter Try.func35, Try.ntmps35
  go_wp2_with fail
  refine HN.out.mono ?_
  rintro e w1 ⟨g, B, d, rfl, hq, hg, _, hf⟩
  have HQ := Lib.hid (And.intro hq (And.intro hg hf))
  clear hq hg hf HN
  go_wp2_with fail
  refine (HL.out _ _ _ _ HQ.out.1).mono ?_
  rintro e w2 ⟨rfl, hk2⟩
  have H2 : Hid (Fresh w w2) := Lib.hid (HQ.out.2.2.trans hk2 fun i hi e => by have := HQ.out.2.1; omega)
  clear HQ hk2 HL
  go_wp2_with fail
  go_ret
  exact ⟨rfl, H2.out⟩

end Go.Proofs.Ythfifpapkknodaa

/- The document's test whether rows lie within a file. -/
namespace Go.Proofs.Ythfifpapkknodaa
open Go.RowKit
set_option maxRecDepth 100000

attribute [local go_sem ↓] Go.wp_at_zero Go.wp_at_succ

/-- Do rows of so many bytes lie within so many? -/
def fitP (a b s f n : Int) : Prop := 1 ≤ a ∧ a ≤ 32768 ∧ 1 ≤ b ∧ b ≤ 32768 ∧ f ≤ n ∧ s * b ≤ n - f
instance (a b s f n : Int) : Decidable (fitP a b s f n) := by unfold fitP; infer_instance

set_option maxHeartbeats 1600000 in
theorem qFits_any (a b p s f n : Int) (w : World) (hs : 0 ≤ s ∧ s ≤ 1000000000000) (hf : 0 ≤ f ∧ f ≤ 10000000000) (hn : 0 ≤ n ∧ n ≤ 1000000000) :
    Calls Try.prog 36 #[.agg #[.int .i64 a, .int .i64 b, .int .i64 p, .int .i64 s, .int .i64 f], .int .i64 n] w fun e w' => e = .returned (.bool (decide (fitP a b s f n))) ∧ Fresh w w' := by
  have hcs : a < 1 ∨ (¬ a < 1 ∧ 32768 < a) ∨ (¬ a < 1 ∧ ¬ 32768 < a ∧ b < 1) ∨ (¬ a < 1 ∧ ¬ 32768 < a ∧ ¬ b < 1 ∧ 32768 < b) ∨ (¬ a < 1 ∧ ¬ 32768 < a ∧ ¬ b < 1 ∧ ¬ 32768 < b ∧ n < f) ∨ (¬ a < 1 ∧ ¬ 32768 < a ∧ ¬ b < 1 ∧ ¬ 32768 < b ∧ ¬ n < f) := by omega
  rcases hcs with h1 | ⟨h1, h2⟩ | ⟨h1, h2, h3⟩ | ⟨h1, h2, h3, h4⟩ | ⟨h1, h2, h3, h4, h5⟩ | ⟨h1, h2, h3, h4, h5⟩
  rotate_right
  · obtain ⟨m, hm⟩ : ∃ m, s * b = m := ⟨_, rfl⟩
    have m0 : 0 ≤ m := by rw [← hm]; exact Int.mul_nonneg hs.1 (by omega)
    have m1 : m ≤ 1000000000000 * 32768 := by rw [← hm]; exact Int.mul_le_mul hs.2 (by omega) (by omega) (by omega)
    have hd : decide (fitP a b s f n) = decide (m ≤ n - f) := decide_eq_decide.2 ⟨fun h => by rw [← hm]; exact h.2.2.2.2.2, fun h => ⟨by omega, by omega, by omega, by omega, by omega, by rw [hm]; exact h⟩⟩
    rw [hd]
    have w1 : IntKind.i64.wrap (s * b) = m := by rw [hm]; exact IntWalk.i64_in _ (by omega)
    clear hd
    go_enter Try.func36, Try.ntmps36
    go_wp2_with fail
    go_ret
    exact ⟨rfl, (Kept.refl _ _).alloc _⟩
  all_goals
    have hd : decide (fitP a b s f n) = false := decide_eq_false fun ⟨q1, q2, q3, q4, q5, _⟩ => by omega
    rw [hd]
    clear hd
    go_enter Try.func36, Try.ntmps36
    go_wp2_with fail
    go_ret
    exact ⟨rfl, (Kept.refl _ _).alloc _⟩

end Go.Proofs.Ythfifpapkknodaa

/- The document's Bmp. -/
namespace Go.Proofs.Ythfifpapkknodaa
open Go.RowKit
set_option maxRecDepth 100000

attribute [local go_sem ↓] Go.wp_at_zero Go.wp_at_succ

/-- The amount of a signed number of four bytes. -/
def amt4 (v : Nat) : Nat := if v < 2147483648 then v else 4294967296 - v
def plnB (d : Nat) : Nat := if d = 8 then 1 else 3
def strB (a p : Nat) : Nat := (a * p + 3) / 4 * 4
/-- What Bmp and Pnm tell. -/
def pval : Option (Nat × Nat × Nat × Nat × Nat) → Value
  | none => .agg #[.int .i64 0, .int .i64 0, .int .i64 0, .int .i64 0, .int .i64 0]
  | some r => .agg #[.int .i64 (r.1 : Nat), .int .i64 (r.2.1 : Nat), .int .i64 (r.2.2.1 : Nat), .int .i64 (r.2.2.2.1 : Nat), .int .i64 (r.2.2.2.2 : Nat)]
def hdB (l : List Int) : Prop := 54 ≤ l.length ∧ l.getD 0 0 = 66 ∧ l.getD 1 0 = 77
def okB (f x14 x26 d x30 : Nat) : Prop := 54 ≤ f ∧ 40 ≤ x14 ∧ x26 = 1 ∧ (d = 24 ∨ d = 8) ∧ x30 = 0
instance (l : List Int) : Decidable (hdB l) := by unfold hdB; infer_instance
instance (f x14 x26 d x30 : Nat) : Decidable (okB f x14 x26 d x30) := by unfold okB; infer_instance
def bmpR (a b p f n : Nat) : Option (Nat × Nat × Nat × Nat × Nat) := if fitP a b (strB a p : Nat) f n then some (a, b, p, strB a p, f) else none
def bmpP (l : List Int) : Option (Nat × Nat × Nat × Nat × Nat) :=
  if hdB l ∧ okB (leAt l 10 4) (leAt l 14 4) (leAt l 26 2) (leAt l 28 2) (leAt l 30 4) then bmpR (leAt l 18 4) (amt4 (leAt l 22 4)) (plnB (leAt l 28 2)) (leAt l 10 4) l.length else none

set_option maxHeartbeats 6400000 in
theorem qBmpNo_any (A : Option Addr) (n c : Nat) (l : List Int) (w : World) (hr : Row w .u8 A n l) (h8 : B8 l) (hn : n ≤ 1000000000) (hno : ¬ hdB l) :
    Calls Try.prog 20 #[.slice A n c] w fun e w' => e = .returned (.tuple #[pval none, .bool false]) ∧ Fresh w w' := by
  obtain rfl := hr.len
  have hcs : l.length < 54 ∨ (¬ l.length < 54 ∧ l.getD 0 0 ≠ 66) ∨ (¬ l.length < 54 ∧ l.getD 0 0 = 66 ∧ l.getD 1 0 ≠ 77) := by
    unfold hdB at hno
    omega
  clear hno
  rcases hcs with h1 | ⟨h1, h2⟩ | ⟨h1, h2, h3⟩
  · clear hr
    have l0 : (l.length : Int) < 54 := by omega
    go_enter Try.func20, Try.ntmps20
    go_wp2_with fail
    refine bodyPost_ret (v := .tuple #[pval none, .bool false]) (by simp [results, Try.f20, go_sem, pval]) rfl ?_
    exact ⟨rfl, (Kept.refl _ _).alloc _⟩
  · obtain ⟨b, o, rfl, hb, hc⟩ := hr.at_ 0 (by omega)
    rw [Nat.add_zero] at hc
    have hx := h8.at_ 0
    generalize l.getD 0 0 = x at *
    have bx : (x != 66) = true := by simp [h2]
    have l0 : ¬ (l.length : Int) < 54 := by omega
    have i0 : (0 : Int) < (l.length : Int) := by omega
    clear hr
    go_enter Try.func20, Try.ntmps20
    go_wp2_with fail
    refine bodyPost_ret (v := .tuple #[pval none, .bool false]) (by simp [results, Try.f20, go_sem, pval]) rfl ?_
    exact ⟨rfl, (Kept.refl _ _).alloc _⟩
  · obtain ⟨b, o, rfl, hb, hc⟩ := hr.at_ 0 (by omega)
    obtain ⟨b', o', eA, hb', hc'⟩ := hr.at_ 1 (by omega)
    injection eA with eA
    injection eA with e1 e2
    subst e1 e2
    rw [h2, Nat.add_zero] at hc
    have hx := h8.at_ 1
    generalize l.getD 1 0 = x at *
    have bx : (x != 77) = true := by simp [h3]
    have l0 : ¬ (l.length : Int) < 54 := by omega
    have i0 : (0 : Int) < (l.length : Int) := by omega
    have i1 : (1 : Int) < (l.length : Int) := by omega
    clear hr
    go_enter Try.func20, Try.ntmps20
    go_wp2_with fail
    refine bodyPost_ret (v := .tuple #[pval none, .bool false]) (by simp [results, Try.f20, go_sem, pval]) rfl ?_
    exact ⟨rfl, (Kept.refl _ _).alloc _⟩

end Go.Proofs.Ythfifpapkknodaa

/- The head of a plain picture, as plain mathematics: three numbers with white between. -/
namespace Go.Proofs.Ythfifpapkknodaa
open Go.RowKit
set_option maxRecDepth 100000

/-- White and a number behind it: the number, the place behind. -/
def tok (l : List Int) (i : Nat) : Option (Nat × Nat) :=
  if whi l i i < 0 then none else if (numP l (whi l i i).toNat).2 < 0 then none else some ((numP l (whi l i i).toNat).1.toNat, (numP l (whi l i i).toNat).2.toNat)
/-- So many of them from place 2 on. -/
def chn (l : List Int) : Nat → Option (List Nat × Nat)
  | 0 => some ([], 2)
  | k + 1 => match chn l k with
    | none => none
    | some r => match tok l r.2 with
      | none => none
      | some t => some (r.1 ++ [t.1], t.2)
def hdP (l : List Int) : Prop := 2 ≤ l.length ∧ l.getD 0 0 = 80 ∧ (l.getD 1 0 = 53 ∨ l.getD 1 0 = 54)
instance (l : List Int) : Decidable (hdP l) := by unfold hdP; infer_instance
def plnP (l : List Int) : Nat := if l.getD 1 0 = 54 then 3 else 1
def pnmR (a b p f n : Nat) : Option (Nat × Nat × Nat × Nat × Nat) := if fitP a b ((a * p : Nat) : Int) f n then some (a, b, p, a * p, f) else none
def pnmP (l : List Int) : Option (Nat × Nat × Nat × Nat × Nat) :=
  if hdP l then match chn l 3 with
    | none => none
    | some r => if r.2 < l.length ∧ blk (l.getD r.2 0) ∧ 1 ≤ r.1.getD 2 0 ∧ r.1.getD 2 0 ≤ 255 then pnmR (r.1.getD 0 0) (r.1.getD 1 0) (plnP l) (r.2 + 1) l.length else none
  else none
def picP (l : List Int) : Option (Nat × Nat × Nat × Nat × Nat) := if (bmpP l).isSome then bmpP l else pnmP l

theorem numP_in {l : List Int} {i : Nat} (hi : i ≤ l.length) (h : ¬ (numP l i).2 < 0) : 0 ≤ (numP l i).1 ∧ (numP l i).1 < 100000 ∧ (i : Int) ≤ (numP l i).2 ∧ (numP l i).2 ≤ l.length := by
  obtain ⟨h1, h2, h3, h4, h5⟩ := numR_in l 6 i 0 (by omega) hi
  unfold numP at h ⊢
  split at h
  · exact absurd (show (-1 : Int) < 0 by omega) h
  · rename_i hc
    rw [if_neg hc]
    have h6 : 6 - (numR l 6 i 0).2.2 ≤ 5 := by omega
    have h7 : (10 : Int) ^ (6 - (numR l 6 i 0).2.2) ≤ 100000 := by
      rcases (show 6 - (numR l 6 i 0).2.2 = 0 ∨ 6 - (numR l 6 i 0).2.2 = 1 ∨ 6 - (numR l 6 i 0).2.2 = 2 ∨ 6 - (numR l 6 i 0).2.2 = 3 ∨ 6 - (numR l 6 i 0).2.2 = 4 ∨ 6 - (numR l 6 i 0).2.2 = 5 by omega) with e | e | e | e | e | e <;> rw [e] <;> decide
    simp only []
    omega
theorem tok_some {l : List Int} {i : Nat} {t : Nat × Nat} (h : tok l i = some t) : ∃ j : Nat, whi l i i = j ∧ i ≤ j ∧ j < l.length ∧ numP l j = ((t.1 : Int), (t.2 : Int)) ∧ t.1 < 100000 ∧ j ≤ t.2 ∧ t.2 ≤ l.length := by
  unfold tok at h
  split at h
  · cases h
  · rename_i h1
    split at h
    · cases h
    · rename_i h2
      injection h with h
      subst h
      rcases whi_in l i i (Nat.le_refl _) with e | e
      · omega
      · obtain ⟨j, hj⟩ : ∃ j : Nat, whi l i i = j := ⟨(whi l i i).toNat, by omega⟩
        rw [hj] at e h2 ⊢
        rw [Int.toNat_natCast] at h2 ⊢
        have := numP_in (l := l) (i := j) (by omega) h2
        refine ⟨j, rfl, by omega, by omega, ?_, by simp only []; omega, by simp only []; omega, by simp only []; omega⟩
        apply Prod.ext
        · simp only []; omega
        · simp only []; omega
theorem chn_len {l : List Int} : ∀ {k : Nat} {r : List Nat × Nat}, chn l k = some r → r.1.length = k ∧ (∀ v ∈ r.1, v < 100000) ∧ 2 ≤ r.2 ∧ (1 ≤ k → r.2 ≤ l.length)
  | 0, r, h => by
    injection h with h
    subst h
    simp
  | k + 1, r, h => by
    unfold chn at h
    split at h
    · cases h
    · rename_i q hq
      split at h
      · cases h
      · rename_i t ht
        injection h with h
        subst h
        obtain ⟨a1, a2, a3, _⟩ := chn_len hq
        obtain ⟨j, _, b2, b3, _, b5, b6, b7⟩ := tok_some ht
        refine ⟨by simp [a1], fun v hv => ?_, by simp only []; omega, fun _ => b7⟩
        rcases List.mem_append.1 hv with hv | hv
        · exact a2 v hv
        · simp only [List.mem_cons, List.not_mem_nil, or_false] at hv
          subst hv
          exact b5

end Go.Proofs.Ythfifpapkknodaa
