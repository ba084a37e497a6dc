/- Lists of lists of numbers of 32 bits in memory: read (Trs), owned (Bag). -/
import Derived.Test.YtcpmjaoglbgmbaaTraMath
import Derived.Test.YtcpmjaoglbgmbaaZeros
import Derived.Test.YtcpmjaoglbgmbaaHelpCom
import Derived.Test.YtcpmjaoglbgmbaaRetRow
namespace Go.Proofs.Ytcpmjaoglbgmbaa
open Go.RowKit
set_option maxRecDepth 100000

theorem Try.infoTr : (Try.prog.info? 32).map (fun i => (i.zero, i.size, i.bytes)) = some (some (.slice none 0 0), 1, 24) := by kernel_rfl
theorem Try.infoTr4 : (Try.prog.info? 21).map (fun i => (i.zero, i.size, i.bytes)) = some (some (.int .i32 0), 1, 4) := by kernel_rfl
theorem Try.infoTr1 : (Try.prog.info? 5).map (fun i => (i.zero, i.size, i.bytes)) = some (some (.int .u8 0), 1, 1) := by kernel_rfl

/-- The slice of n slices at A reads as the lists T. -/
def Trs (w : World) (A : Option Addr) (n : Nat) (T : Nat → List Int) : Prop :=
  ∀ i, i < n → ∃ b o B m c, A = some ⟨b, o, none⟩ ∧ b < w.heap.size ∧ w.cell? ⟨b, o + i, none⟩ = some (.slice B m c) ∧ Row w .i32 B m (T i)
theorem Trs.fresh {w w' : World} {A : Option Addr} {n : Nat} {T : Nat → List Int} (h : Trs w A n T) (hf : Fresh w w') : Trs w' A n T := fun i hi => by
  obtain ⟨b, o, B, m, c, e, hb, hc, hr⟩ := h i hi
  exact ⟨b, o, B, m, c, e, Nat.lt_of_lt_of_le hb hf.size, (hf.cell (p := ⟨b, o + i, none⟩) hb id).trans hc, hr.fresh hf⟩
theorem Trs.nil (w : World) (A : Option Addr) (T : Nat → List Int) : Trs w A 0 T := fun _ hi => absurd hi (Nat.not_lt_zero _)
/-- .. opened at its first one. -/
theorem Trs.at_ {w : World} {A : Option Addr} {n : Nat} {T : Nat → List Int} (h : Trs w A n T) (hn : 0 < n) :
    ∃ b o, A = some ⟨b, o, none⟩ ∧ b < w.heap.size ∧ ∃ (D : Nat → Option Addr) (C : Nat → Nat), ∀ i, i < n → w.cell? ⟨b, o + i, none⟩ = some (.slice (D i) (T i).length (C i)) ∧ Row w .i32 (D i) (T i).length (T i) := by
  obtain ⟨b, o, _, _, _, rfl, hb, _, _⟩ := h 0 hn
  have hS : ∀ i, ∃ p : Option Addr × Nat, i < n → w.cell? ⟨b, o + i, none⟩ = some (.slice p.1 (T i).length p.2) ∧ Row w .i32 p.1 (T i).length (T i) := fun i => by
    by_cases hi : i < n
    · obtain ⟨b', o', B, m, c, e, _, hc, hr⟩ := h i hi
      injection e with e
      injection e with e1 e2
      subst e1
      subst e2
      obtain rfl := hr.len
      exact ⟨(B, c), fun _ => ⟨hc, hr⟩⟩
    · exact ⟨(none, 0), fun e => absurd e hi⟩
  obtain ⟨F, hF⟩ := Classical.axiomOfChoice hS
  exact ⟨b, o, rfl, hb, fun i => (F i).1, fun i => (F i).2, hF⟩

theorem OwnV.kept {S : Nat → Prop} {w w' : World} {v : Value} {e : TypeId} {m : Nat} {xs : List Value} (h : w.ownsRow 0 e 1 v m xs) (hk : Kept S w w') (hn : ∀ g, v.ownBlock = some g → ¬ S g) : w'.ownsRow 0 e 1 v m xs := by
  refine ⟨h.1, ?_⟩
  rcases h.2 with hn' | ⟨g, cap, cur, rfl, hb, hgg, rest⟩
  · exact .inl hn'
  · exact .inr ⟨g, cap, cur, rfl, hb, (hk.block g (Array.getElem?_eq_some_iff.1 hgg).1 (hn g rfl)).trans hgg, rest⟩

/-- The slice at the head of block g owns n slices, each of which owns its numbers, no two in one block; all lie behind block B. -/
structure Bag (w : World) (B g n cap : Nat) (V : Nat → Value) (T : Nat → List Int) : Prop where
  out : w.ownsRow 0 32 1 (.slice (some ⟨g, 0, none⟩) n cap) n ((List.range n).map V)
  row : ∀ i, i < n → Own w 21 .i32 (V i) (T i)
  inj : ∀ i j b, i < n → j < n → (V i).ownBlock = some b → (V j).ownBlock = some b → i = j
  lo : ∀ i b, i < n → (V i).ownBlock = some b → B ≤ b
  glo : B ≤ g

section
variable {w w' : World} {B g n cap : Nat} {V : Nat → Value} {T : Nat → List Int}
theorem Bag.apart (h : Bag w B g n cap V T) {i : Nat} (hi : i < n) : (V i).ownBlock ≠ some g := by
  obtain ⟨cur, hb, _⟩ := Blk.of_own h.out
  exact (h.row i hi).ne_blk hb (by decide)
theorem Bag.lt (h : Bag w B g n cap V T) : g < w.heap.size := by
  obtain ⟨cur, hb, _⟩ := Blk.of_own h.out
  exact hb.lt
theorem Bag.kept {S : Nat → Prop} (h : Bag w B g n cap V T) (hk : Kept S w w') (hg : ¬ S g) (hv : ∀ i b, i < n → (V i).ownBlock = some b → ¬ S b) : Bag w' B g n cap V T :=
  ⟨OwnV.kept h.out hk (fun k e => by have : g = k := by simpa [Value.ownBlock] using e
                                     subst this; exact hg), fun i hi => (h.row i hi).kept hk (fun b e => hv i b hi e), h.inj, h.lo, h.glo⟩
theorem Bag.fresh (h : Bag w B g n cap V T) (hk : Fresh w w') : Bag w' B g n cap V T := h.kept hk id (fun _ _ _ _ => id)
theorem Bag.slot (h : Bag w B g n cap V T) {i : Nat} (hi : i < n) : w.cell? ⟨g, i, none⟩ = some (V i) := by
  rw [World.ownsRow.cellAt h.out i (by omega)]
  simp [hi]
theorem Bag.frozen (h : Bag w B g n cap V T) (i : Nat) : w.frozen? ⟨g, i, none⟩ = false := World.ownsRow.frozenAt h.out i
/-- One of the lists is put anew. -/
theorem Bag.put {i : Nat} {v : Value} {xs : List Int} (h : Bag w B g n cap V T) (hi : i < n) (hk : Kept (fun k => (V i).ownBlock = some k) w w') (ho : Own w' 21 .i32 v xs)
    (hat : v.ownBlock = (V i).ownBlock ∨ ∃ b, v.ownBlock = some b ∧ w.heap.size ≤ b) (hB : B ≤ w.heap.size) :
    Bag (w'.setCell ⟨g, i, none⟩ v) B g n cap (fun j => if j = i then v else V j) (fun j => if j = i then xs else T j) := by
  have h1 := OwnV.kept h.out hk (fun k e e2 => by
    have : g = k := by simpa [Value.ownBlock] using e
    subst this
    exact h.apart hi e2)
  have hgl := h.lt
  have hkg : Kept (fun k => k = g) w' (w'.setCell ⟨g, i, none⟩ v) := (Kept.refl (fun k => k = g) w').setCell (p := ⟨g, i, none⟩) (fun _ => rfl) _
  have hvg : v.ownBlock ≠ some g := fun e => by
    rcases hat with e2 | ⟨b, e2, e3⟩
    · exact h.apart hi (e2 ▸ e)
    · rw [e2] at e
      injection e with e
      omega
  refine ⟨?_, fun j hj => ?_, fun j k b hj hk' e1 e2 => ?_, fun j b hj e => ?_, h.glo⟩
  · have h2 := (World.ownsRow.stored h1 i v).1
    have e : ((List.range n).map V).set i v = (List.range n).map (fun j => if j = i then v else V j) := by
      apply List.ext_getElem (by simp)
      intro k k1 k2
      simp only [List.getElem_set, List.getElem_map, List.getElem_range]
      by_cases hki : i = k
      · simp [hki]
      · have : ¬ k = i := fun e => hki e.symm
        simp [hki, this]
    rw [e] at h2
    exact h2
  · by_cases hji : j = i
    · simp only [if_pos hji]
      exact ho.kept hkg (fun b e e2 => hvg (e2 ▸ e))
    · simp only [if_neg hji]
      exact ((h.row j hj).kept hk (fun b e e2 => hji (h.inj j i b hj hi e e2))).kept hkg (fun b e e2 => h.apart hj (e2 ▸ e))
  · have far : ∀ j, j < n → ¬ j = i → ∀ b, (V j).ownBlock = some b → v.ownBlock = some b → False := fun j hj hji b e1 e2 => by
      rcases hat with e3 | ⟨b', e3, e4⟩
      · exact hji (h.inj j i b hj hi e1 (e3 ▸ e2))
      · have := (h.row j hj).lt e1
        rw [e3] at e2
        injection e2 with e2
        omega
    by_cases hji : j = i
    · by_cases hki : k = i
      · omega
      · simp only [if_pos hji, if_neg hki] at e1 e2
        exact (far k hk' hki b e2 e1).elim
    · by_cases hki : k = i
      · simp only [if_neg hji, if_pos hki] at e1 e2
        exact (far j hj hji b e1 e2).elim
      · simp only [if_neg hji, if_neg hki] at e1 e2
        exact h.inj j k b hj hk' e1 e2
  · by_cases hji : j = i
    · simp only [if_pos hji] at e
      rcases hat with e3 | ⟨b', e3, e4⟩
      · exact h.lo i b hi (e3 ▸ e)
      · rw [e3] at e
        injection e with e
        omega
    · simp only [if_neg hji] at e
      exact h.lo j b hj e
/-- One number of one list. -/
theorem Bag.write {i j q m c : Nat} (h : Bag w B g n cap V T) (hi : i < n) (hv : V i = .slice (some ⟨q, 0, none⟩) m c) (hl : (T i).length = m) (x : Int) :
    Bag (w.setCell ⟨q, j, none⟩ (.int .i32 x)) B g n cap V (fun k => if k = i then (T i).set j x else T k) := by
  have hq : (V i).ownBlock = some q := by rw [hv]; rfl
  have hkq : Kept (fun k => k = q) w (w.setCell ⟨q, j, none⟩ (.int .i32 x)) := (Kept.refl (fun k => k = q) w).setCell (p := ⟨q, j, none⟩) (fun _ => rfl) _
  refine ⟨OwnV.kept h.out hkq (fun k e e2 => by
    have : g = k := by simpa [Value.ownBlock] using e
    subst this
    exact h.apart hi (by rw [hq, e2])), fun k hk => ?_, h.inj, h.lo, h.glo⟩
  by_cases hki : k = i
  · simp only [if_pos hki]
    subst hki
    have := h.row k hk
    rw [hv] at this ⊢
    exact this.storeN hl j x
  · simp only [if_neg hki]
    exact (h.row k hk).kept hkq (fun b e e2 => hki (h.inj k i b hk hi e (by rw [hq, e2])))
theorem Bag.cell {i j q m c : Nat} (h : Bag w B g n cap V T) (hi : i < n) (hv : V i = .slice (some ⟨q, 0, none⟩) m c) (hl : (T i).length = m) (hj : j < m) : w.cell? ⟨q, j, none⟩ = some (.int .i32 ((T i).getD j 0)) ∧ w.frozen? ⟨q, j, none⟩ = false := by
  have := h.row i hi
  rw [hv] at this
  exact ⟨this.cellN hl hj, this.frozenN hl j⟩
/-- It reads as its lists. -/
theorem Bag.trs (h : Bag w B g n cap V T) : Trs w (some ⟨g, 0, none⟩) n T := fun i hi => by
  obtain ⟨A, c, e, hr, _⟩ := (h.row i hi).row
  exact ⟨g, 0, A, (T i).length, c, rfl, h.lt, by rw [Nat.zero_add, h.slot hi, e], hr⟩
theorem Bag.congr {T' : Nat → List Int} (h : Bag w B g n cap V T) (e : ∀ i, i < n → T i = T' i) : Bag w B g n cap V T' := ⟨h.out, fun i hi => e i hi ▸ h.row i hi, h.inj, h.lo, h.glo⟩
end

theorem made_nils (n : Nat) : (madeCells (Value.slice none 0 0).cells (n * 1)).toList = (List.range n).map fun _ => Value.slice none 0 0 := by
  rw [Nat.mul_one, show (Value.slice none 0 0).cells = #[Value.slice none 0 0] from rfl]
  simp only [madeCells]
  apply List.ext_getElem <;> simp [Nat.mod_one]

/-- make of a list of lists. -/
theorem wpList_make_bag (w : World) {ops : Array Oper} {rest : List Oper} {o : Oper} {a : Act} {Q : Exit → Act → World → Prop}
    (hg : o.guard = none) (l c : Operand) (hop : o.op = Op.makeSlice 25 l c) (kl kc : IntKind) (L C : Int) (n : Nat) (hl : a.eval l = .int kl L) (hc : a.eval c = .int kc C) (hL : L = (n : Int)) (hC : C = (n : Int)) (hn : n ≤ 1000000)
    (hK : ∀ w', Bag w' w.heap.size w.heap.size n n (fun _ => .slice none 0 0) (fun _ => []) → Fresh w w' → wpList Try.prog ops Q rest (a.put o.dst (.slice (some ⟨w.heap.size, 0, none⟩) n n)) w') :
    wpList Try.prog ops Q (o :: rest) a w := by
  obtain ⟨i0, hi, hz0, hz1, hz2⟩ := info_parts Try.infoTr
  refine wpList_make_full w hg l c _ hop 0 32 i0 (.slice none 0 0) 1 Try.underlying25 hi hz0 hz1 kl kc L C n hl hc hL hC (by rw [hz2]; omega) (by unfold maxLen; omega) (by omega) ?_
  intro w' ho hgr
  rw [made_nils] at ho
  refine hK w' ⟨ho, fun i _ => Own.nil _ _ _, fun i j b _ _ e _ => (by cases e), fun i b _ e => (by cases e), Nat.le_refl _⟩ ((Kept.refl _ _).grown hgr (fun k e _ => by cases e))

end Go.Proofs.Ytcpmjaoglbgmbaa
