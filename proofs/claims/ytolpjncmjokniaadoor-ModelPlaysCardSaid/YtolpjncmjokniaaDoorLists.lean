/- A list of n lists of m numbers each, all of the call's own ([][]int): Lst; one list more (snoc), one number stored. -/
import Derived.Test.YtolpjncmjokniaaDoorGrid
namespace Go.Proofs.YtolpjncmjokniaaDoor
open Go.RowKit

/-- m numbers. -/
def lm (m : Nat) (f : Nat → Int) : List Int := (List.range m).map f
theorem lm_len (m : Nat) (f : Nat → Int) : (lm m f).length = m := by simp [lm]
theorem lm_get {m : Nat} {f : Nat → Int} {k : Nat} (h : k < m) : (lm m f).getD k 0 = f k := by simp [lm, h]
theorem lm_succ (m : Nat) (f : Nat → Int) : lm (m + 1) f = lm m f ++ [f m] := by
  unfold lm; rw [List.range_succ, List.map_append]; rfl
theorem lm_set {m : Nat} {f : Nat → Int} {k : Nat} (v : Int) : (lm m f).set k v = lm m (fun j => if j = k then v else f j) := by
  apply List.ext_getElem?
  intro i
  rw [List.getElem?_set]
  simp only [lm, List.length_map, List.length_range, List.getElem?_map]
  rcases Nat.lt_or_ge i m with hi | hi
  · rw [List.getElem?_range hi]
    by_cases e : k = i
    · subst e; simp [hi]
    · have e' : ¬ i = k := fun h => e h.symm
      simp [e, e']
  · rw [List.getElem?_eq_none (by simpa using hi)]
    by_cases e : k = i
    · subst e; simp; omega
    · simp [e]

/-- The slices of n lists of m: the i-th at block Q i, with room for C i. -/
def lvs (m : Nat) (Q C : Nat → Nat) (n : Nat) : List Value := (List.range n).map fun i => Value.slice (some ⟨Q i, 0, none⟩) m (C i)
theorem lvs_get {m : Nat} {Q C : Nat → Nat} {n i : Nat} (h : i < n) : (lvs m Q C n)[i]? = some (.slice (some ⟨Q i, 0, none⟩) m (C i)) := by simp [lvs, h]
theorem lvs_succ (m : Nat) (Q C : Nat → Nat) (n q c : Nat) : lvs m (fun i => if i = n then q else Q i) (fun i => if i = n then c else C i) (n + 1) = lvs m Q C n ++ [.slice (some ⟨q, 0, none⟩) m c] := by
  unfold lvs
  rw [List.range_succ, List.map_append]
  congr 1
  · apply List.map_congr_left
    intro i hi
    have hn := List.mem_range.1 hi
    have e : ¬ i = n := by omega
    simp [e]
  · simp

theorem Own.kept2 {S : Nat → Prop} {w w' : World} {v : Value} {e : TypeId} {m : Nat} {xs : List Value} (h : w.ownsRow 0 e 1 v m xs) (hk : Kept S w w') (hn : ∀ g, v.ownBlock = some g → ¬ S g) : w'.ownsRow 0 e 1 v m xs := by
  refine ⟨h.1, ?_⟩
  rcases h.2 with hn' | ⟨g, cap, cur, rfl, hb, hgg, rest⟩
  · exact .inl hn'
  · exact .inr ⟨g, cap, cur, rfl, hb, (hk.block g (Array.getElem?_eq_some_iff.1 hgg).1 (hn g rfl)).trans hgg, rest⟩
theorem Own.ne_blk2 {w : World} {v : Value} {e t : TypeId} {m : Nat} {xs : List Value} {g : Nat} {cs : Array Value} (h : w.ownsRow 0 e 1 v m xs) (hg : Blk w g t cs) (hne : e ≠ t) : v.ownBlock ≠ some g := by
  rcases h.2 with ⟨rfl, _⟩ | ⟨g', cap, cur, rfl, _, hh, _⟩
  · simp [Value.ownBlock]
  · intro he
    have : g' = g := by simpa [Value.ownBlock] using he
    subst this
    exact Blk.ne_ (t := e) hh hg hne rfl

/-- v owns n slices, each of which owns its m numbers W i; all lie behind block B, no two in one. -/
structure Lst (m : Nat) (w : World) (B : Nat) (v : Value) (n : Nat) (Q C : Nat → Nat) (W : Nat → Nat → Int) : Prop where
  own : w.ownsRow 0 23 1 v n (lvs m Q C n)
  row : ∀ i, i < n → Own w 3 .i64 (.slice (some ⟨Q i, 0, none⟩) m (C i)) (lm m (W i))
  inj : ∀ i j, i < n → j < n → Q i = Q j → i = j
  lo : ∀ i, i < n → B ≤ Q i
  vlo : ∀ k, v.ownBlock = some k → B ≤ k

section
variable {m : Nat} {w w' : World} {B : Nat} {v : Value} {n : Nat} {Q C : Nat → Nat} {W : Nat → Nat → Int}
theorem Lst.nil (m : Nat) (w : World) (B : Nat) (Q C : Nat → Nat) (W : Nat → Nat → Int) : Lst m w B (.slice none 0 0) 0 Q C W :=
  ⟨World.ownsRow_nil _ _ _ _, fun i hi => by omega, fun i j hi => by omega, fun i hi => by omega, fun k h => by cases h⟩
theorem Lst.blk (h : Lst m w B v n Q C W) {i : Nat} (hi : i < n) : ∃ cs, Blk w (Q i) 3 cs := by
  rcases (h.row i hi).2 with ⟨h', _⟩ | ⟨g, cap, cur, h', _, hg, _⟩
  · cases h'
  · simp only [Value.slice.injEq, Option.some.injEq, Addr.mk.injEq, and_true] at h'
    exact ⟨cur, by rw [h'.1]; exact hg⟩
theorem Lst.lt (h : Lst m w B v n Q C W) {i : Nat} (hi : i < n) : Q i < w.heap.size := by
  obtain ⟨cs, hb⟩ := h.blk hi
  exact hb.lt
/-- The slices lie in no list's block. -/
theorem Lst.apart (h : Lst m w B v n Q C W) {i : Nat} (hi : i < n) : v.ownBlock ≠ some (Q i) := by
  obtain ⟨cs, hb⟩ := h.blk hi
  exact Own.ne_blk2 h.own hb (by decide)
theorem Lst.kept {S : Nat → Prop} (h : Lst m w B v n Q C W) (hk : Kept S w w') (hv : ∀ g, v.ownBlock = some g → ¬ S g) (hq : ∀ i, i < n → ¬ S (Q i)) : Lst m w' B v n Q C W :=
  ⟨Own.kept2 h.own hk hv, fun i hi => (h.row i hi).kept hk (fun g hg => by
    have : Q i = g := by simpa [Value.ownBlock] using hg
    subst this; exact hq i hi), h.inj, h.lo, h.vlo⟩
theorem Lst.fresh (h : Lst m w B v n Q C W) (hk : Fresh w w') : Lst m w' B v n Q C W := h.kept hk (fun _ _ => id) (fun _ _ => id)
/-- A block of another type turns. -/
theorem Lst.far {S : Nat → Prop} (h : Lst m w B v n Q C W) {b : Nat} {t : TypeId} {cs : Array Value} (hk : Kept S w w') (hS : ∀ i, S i → i = b) (hb : Blk w b t cs) (h1 : 23 ≠ t) (h2 : 3 ≠ t) : Lst m w' B v n Q C W :=
  h.kept hk (fun g hg e => Own.ne_blk2 h.own hb h1 (by rw [hg, hS g e])) (fun i hi e => by
    obtain ⟨cs', hq⟩ := h.blk hi
    exact Blk.ne_ hq hb h2 (hS _ e))
theorem Lst.form (h : Lst m w B v n Q C W) (hn : 0 < n) : ∃ b cap, v = .slice (some ⟨b, 0, none⟩) n cap ∧ ∀ i, i < n → w.cell? ⟨b, i, none⟩ = some (.slice (some ⟨Q i, 0, none⟩) m (C i)) := by
  obtain ⟨b, cap, rfl, _, _⟩ := World.ownsRow.form h.own hn
  exact ⟨b, cap, rfl, fun i hi => by rw [World.ownsRow.cellAt h.own i (by omega), lvs_get hi]⟩
theorem Lst.slot {b cap : Nat} (h : Lst m w B (.slice (some ⟨b, 0, none⟩) n cap) n Q C W) {i : Nat} (hi : i < n) : w.cell? ⟨b, i, none⟩ = some (.slice (some ⟨Q i, 0, none⟩) m (C i)) := by
  rw [World.ownsRow.cellAt h.own i (by omega), lvs_get hi]
theorem Lst.cell (h : Lst m w B v n Q C W) {i k : Nat} (hi : i < n) (hk : k < m) : w.cell? ⟨Q i, k, none⟩ = some (.int .i64 (W i k)) := by
  have ho := h.row i hi
  rw [show m = (lm m (W i)).length from (lm_len _ _).symm] at ho
  have := Own.cell (cap := C i) (xs := lm m (W i)) (by simpa [lm_len] using h.row i hi) (j := k) (by rw [lm_len]; exact hk)
  rw [lm_get hk] at this
  exact this
theorem Lst.frozen (h : Lst m w B v n Q C W) {i : Nat} (hi : i < n) (k : Nat) : w.frozen? ⟨Q i, k, none⟩ = false :=
  Own.frozen (cap := C i) (xs := lm m (W i)) (by simpa [lm_len] using h.row i hi) k
theorem Lst.stored (h : Lst m w B v n Q C W) {s k : Nat} (hs : s < n) (x : Int) :
    Lst m (w.setCell ⟨Q s, k, none⟩ (.int .i64 x)) B v n Q C (gput W s k x) := by
  have hkp : Kept (fun i => i = Q s) w (w.setCell ⟨Q s, k, none⟩ (.int .i64 x)) := (Kept.refl (fun i => i = Q s) w).setCell (p := ⟨Q s, k, none⟩) (fun _ => rfl) _
  refine ⟨Own.kept2 h.own hkp (fun g hg e => h.apart hs (by rw [hg, e])), fun i hi => ?_, h.inj, h.lo, h.vlo⟩
  by_cases e : i = s
  · subst e
    have := Own.stored (cap := C i) (xs := lm m (W i)) (by simpa [lm_len] using h.row i hi) k x
    rw [lm_set, lm_len] at this
    rw [show gput W i k x i = fun j => if j = k then x else W i j from by funext j; simp [gput]]
    exact this
  · rw [show gput W s k x i = W i from by funext j; simp [gput, e]]
    exact (h.row i hi).kept hkp (fun g hg e' => by
      have : Q i = g := by simpa [Value.ownBlock] using hg
      exact e (h.inj i s hi hs (by omega)))
/-- One list more. -/
theorem Lst.snoc {q c g cap : Nat} {F : Nat → Int} (h : Lst m w B v n Q C (fun _ => F)) (hg : w.grownBy w' v.ownBlock)
    (ho : w'.ownsRow 0 23 1 (.slice (some ⟨g, 0, none⟩) (n + 1) cap) (n + 1) (lvs m Q C n ++ [.slice (some ⟨q, 0, none⟩) m c]))
    (hr : Own w 3 .i64 (.slice (some ⟨q, 0, none⟩) m c) (lm m F)) (hq : B ≤ q) (hqn : ∀ i, i < n → Q i ≠ q) (hgb : B ≤ g) (hqv : v.ownBlock ≠ some q) :
    Lst m w' B (.slice (some ⟨g, 0, none⟩) (n + 1) cap) (n + 1) (fun i => if i = n then q else Q i) (fun i => if i = n then c else C i) (fun _ => F) := by
  have hk : Kept (fun k => v.ownBlock = some k) w w' := (Kept.refl _ w).grown hg (fun k e _ => e)
  refine ⟨by rw [lvs_succ]; exact ho, fun i hi => ?_, fun i j hi hj e => ?_, fun i hi => ?_, fun k hk' => ?_⟩
  · by_cases e : i = n
    · subst e
      simp only [if_pos]
      exact hr.kept hk (fun k hk' e => by have : q = k := by simpa [Value.ownBlock] using hk'
                                          subst this; exact hqv e)
    · simp only [if_neg e]
      exact (h.row i (by omega)).kept hk (fun k hk' e' => by have : Q i = k := by simpa [Value.ownBlock] using hk'
                                                             subst this; exact h.apart (by omega : i < n) e')
  · by_cases e1 : i = n
    · by_cases e2 : j = n
      · omega
      · simp only [if_pos e1, if_neg e2] at e
        exact absurd e.symm (hqn j (by omega))
    · by_cases e2 : j = n
      · simp only [if_neg e1, if_pos e2] at e
        exact absurd e (hqn i (by omega))
      · simp only [if_neg e1, if_neg e2] at e
        exact h.inj i j (by omega) (by omega) e
  · by_cases e : i = n
    · simp only [if_pos e]; exact hq
    · simp only [if_neg e]; exact h.lo i (by omega)
  · have : g = k := by simpa [Value.ownBlock] using hk'
    omega
end

theorem Tryd.infoInts : (Tryd.prog.info? 23).map (fun i => (i.zero, i.size, i.bytes)) = some (some (.slice none 0 0), 1, 24) := by kernel_rfl
theorem Tryd.infoInt3 : (Tryd.prog.info? 3).map (fun i => (i.zero, i.size, i.bytes)) = some (some (.int .i64 0), 1, 8) := by kernel_rfl

end Go.Proofs.YtolpjncmjokniaaDoor
