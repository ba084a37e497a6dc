/- What a byte that comes again and again costs: one place's own way, by stretches between states that are written out. -/
import Derived.Test.YtpknbfkknnaajaaDoorModRun
namespace Go.Proofs.YtpknbfkknnaajaaDoor

/-- Two states that are alike, as far as a model of this level looks. -/
structure Ps.Like (lv : Nat) (p q : Ps) : Prop where
  a : p.a = q.a
  b : lv ≠ 0 → p.b = q.b
  c : lv = 2 → p.c = q.c
  w : lv ≠ 0 → ∀ j, j < 4 → p.W j = q.W j
  t : lv ≠ 0 → ∀ k, k < 33 → p.T k = q.T k

section
variable {lv : Nat} {one : Bool} {p q : Ps}
theorem Ps.Like.refl (p : Ps) : p.Like lv p := ⟨rfl, fun _ => rfl, fun _ => rfl, fun _ _ _ => rfl, fun _ _ _ => rfl⟩
theorem Ps.Like.trans {r : Ps} (h : p.Like lv q) (k : q.Like lv r) : p.Like lv r := ⟨h.a.trans k.a, fun e => (h.b e).trans (k.b e), fun e => (h.c e).trans (k.c e), fun e j hj => (h.w e j hj).trans (k.w e j hj), fun e j hj => (h.t e j hj).trans (k.t e j hj)⟩
theorem Ps.Like.ins (h : p.Like lv q) (h0 : lv ≠ 0) : ins lv p.a p.b p.c = ins lv q.a q.b q.c := by
  unfold Go.Proofs.YtpknbfkknnaajaaDoor.ins
  rw [h.a, h.b h0]
  by_cases h2 : lv = 2
  · rw [h.c h2]
  · rw [if_neg h2, if_neg h2]
theorem Ps.Like.told (h : p.Like lv q) (h0 : lv ≠ 0) : p.t lv = q.t lv := by
  unfold Ps.t
  rw [h.ins h0]
  have e : ∀ I, dotTo I p.W 4 = dotTo I q.W 4 := fun I => by simp only [dotTo, h.w h0 0 (by omega), h.w h0 1 (by omega), h.w h0 2 (by omega), h.w h0 3 (by omega)]
  show sq (dotTo _ p.W 4 / 65536) = sq (dotTo _ q.W 4 / 65536)
  rw [e]
theorem rd_like {S T : Nat → Int} (h : ∀ k, k < 33 → S k = T k) {x : Nat} (hx : x ≤ 4095) : rd S x = rd T x := by
  unfold rd
  rw [h (x / 128) (by omega), h (x / 128 + 1) (by omega)]
theorem Ps.Like.chance (h : p.Like lv q) : p.chance lv = q.chance lv := by
  unfold Ps.chance
  by_cases h0 : lv = 0
  · rw [if_pos h0, if_pos h0, h.a]
  · rw [if_neg h0, if_neg h0, h.told h0, rd_like (h.t h0) (sx_bd _).2]
theorem Ps.Like.learn (h : p.Like lv q) : (p.learn lv one).Like lv (q.learn lv one) := by
  refine ⟨?_, fun h0 => ?_, fun h2 => ?_, fun h0 j hj => ?_, fun h0 k hk => ?_⟩
  · show nx p.a one 4 = nx q.a one 4
    rw [h.a]
  · show (if lv = 0 then p.b else nx p.b one 4) = (if lv = 0 then q.b else nx q.b one 4)
    rw [h.b h0]
  · show (if lv = 2 then nx p.c one 3 else p.c) = (if lv = 2 then nx q.c one 3 else q.c)
    rw [h.c h2]
  · show (if lv = 0 then p.W else lrnW p.W (inp (Go.Proofs.YtpknbfkknnaajaaDoor.ins lv p.a p.b p.c)) (er one (p.t lv))) j = (if lv = 0 then q.W else lrnW q.W (inp (Go.Proofs.YtpknbfkknnaajaaDoor.ins lv q.a q.b q.c)) (er one (q.t lv))) j
    rw [if_neg h0, if_neg h0, h.ins h0, h.told h0]
    unfold lrnW
    rw [if_pos hj, if_pos hj, h.w h0 j hj]
  · show (if lv = 0 then p.T else upd p.T (nr (sx (p.t lv))) (lr one 6 (p.T (nr (sx (p.t lv)))))) k = (if lv = 0 then q.T else upd q.T (nr (sx (q.t lv))) (lr one 6 (q.T (nr (sx (q.t lv)))))) k
    rw [if_neg h0, if_neg h0, h.told h0]
    unfold upd
    rw [h.t h0 _ (nr_lt (sx_bd (q.t lv)).2), h.t h0 k hk]
end

/-- A state, written out. -/
def psOf (a b c : Nat) (W T : List Int) : Ps := ⟨a, b, c, fun j => W.getD j 0, fun k => T.getD k 0⟩
/-- How likely the bit is, in 4,096ths. -/
def pr (lv : Nat) (one : Bool) (p : Ps) : Nat := if one then (p.chance lv).toNat else (4096 - p.chance lv).toNat
/-- n steps on: the product of the chances, and the state. -/
def goes (lv : Nat) (one : Bool) : Nat → Ps → Nat → Nat × Ps
  | 0, p, x => (x, p)
  | n + 1, p, x => goes lv one n (p.learn lv one) (x * pr lv one p)
def alikeB (lv : Nat) (p q : Ps) : Bool := Nat.beq p.a q.a && (Nat.beq lv 0 || Nat.beq p.b q.b && (!Nat.beq lv 2 || Nat.beq p.c q.c) && (List.range 4).all (fun j => decide (p.W j = q.W j)) && (List.range 33).all (fun k => decide (p.T k = q.T k)))
/-- One stretch: from state to state, and the product is x. -/
def legB (lv : Nat) (one : Bool) (n : Nat) (p : Ps) (x : Nat) (q : Ps) : Bool := Nat.beq (goes lv one n p 1).1 x && alikeB lv (goes lv one n p 1).2 q

theorem alike_like {lv : Nat} {p q : Ps} (h : alikeB lv p q = true) : p.Like lv q := by
  unfold alikeB at h
  simp only [Bool.and_eq_true, Bool.or_eq_true, Nat.beq_eq, List.all_eq_true, List.mem_range, decide_eq_true_eq, Bool.not_eq_true'] at h
  obtain ⟨ha, h⟩ := h
  refine ⟨ha, fun h0 => ?_, fun h2 => ?_, fun h0 => ?_, fun h0 => ?_⟩
  · rcases h with h | h
    · exact absurd h h0
    · exact h.1.1.1
  · rcases h with h | h
    · omega
    · rcases h.1.1.2 with e | e
      · subst h2; exact absurd e (by decide)
      · exact e
  · rcases h with h | h
    · exact absurd h h0
    · exact h.1.2
  · rcases h with h | h
    · exact absurd h h0
    · exact h.2

theorem pr_like {lv : Nat} {one : Bool} {p q : Ps} (h : p.Like lv q) : pr lv one p = pr lv one q := by unfold pr; rw [h.chance]
theorem goes_like {lv : Nat} {one : Bool} : ∀ (n : Nat) {p q : Ps} (x : Nat), p.Like lv q → (goes lv one n p x).1 = (goes lv one n q x).1 ∧ (goes lv one n p x).2.Like lv (goes lv one n q x).2
  | 0, _, _, _, h => ⟨rfl, h⟩
  | n + 1, p, q, x, h => by
    simp only [goes]
    rw [pr_like h]
    exact goes_like n _ h.learn
theorem goes_mul {lv : Nat} {one : Bool} : ∀ (n : Nat) (p : Ps) (x : Nat), goes lv one n p x = (x * (goes lv one n p 1).1, (goes lv one n p 1).2)
  | 0, p, x => by simp [goes]
  | n + 1, p, x => by
    simp only [goes]
    rw [goes_mul n _ (x * pr lv one p), goes_mul n _ (1 * pr lv one p)]
    simp [Nat.mul_assoc]
theorem goes_add {lv : Nat} {one : Bool} (m : Nat) : ∀ (n : Nat) (p : Ps) (x : Nat), goes lv one (n + m) p x = goes lv one m (goes lv one n p x).2 (goes lv one n p x).1
  | 0, p, x => by simp [goes]
  | n + 1, p, x => by
    rw [show n + 1 + m = (n + m) + 1 by omega]
    simp only [goes]
    exact goes_add m n _ _

/-- n steps from p on lead to S, and the product is X. -/
def Reached (lv : Nat) (one : Bool) (p : Ps) (n X : Nat) (S : Ps) : Prop := (goes lv one n p 1).1 = X ∧ (goes lv one n p 1).2.Like lv S
theorem Reached.start {lv : Nat} {one : Bool} {p S : Ps} (h : p.Like lv S) : Reached lv one p 0 1 S := ⟨rfl, h⟩
theorem Reached.next {lv : Nat} {one : Bool} {p S S' : Ps} {n m X x : Nat} (h : Reached lv one p n X S) (hl : legB lv one m S x S' = true) : Reached lv one p (n + m) (X * x) S' := by
  unfold legB at hl
  rw [Bool.and_eq_true, Nat.beq_eq] at hl
  obtain ⟨h1, h2⟩ := goes_like (one := one) m 1 h.2
  unfold Reached
  rw [goes_add, goes_mul, h.1]
  exact ⟨by show X * (goes lv one m (goes lv one n p 1).2 1).1 = X * x; rw [h1, hl.1], h2.trans (alike_like hl.2)⟩
theorem Reached.stay {lv : Nat} {one : Bool} {p S : Ps} {n X x : Nat} (h : Reached lv one p n X S) (hl : legB lv one 1 S x S = true) : ∀ r, Reached lv one p (n + r) (X * x ^ r) S
  | 0 => by simpa using h
  | r + 1 => by
    have := (h.stay hl r).next hl
    rwa [Nat.mul_assoc, ← Nat.pow_succ, Nat.add_assoc] at this

/-- What a stretch of 1,498 steps costs, and what each step behind it. -/
structure Cheap (lv : Nat) (one : Bool) (p : Ps) : Prop where
  cost : 4096 ^ 1498 ≤ 2 ^ 36 * (goes lv one 1498 p 1).1
  tail : ∀ r, 4093 ≤ pr lv one (goes lv one (1498 + r) p 1).2
theorem Reached.cheap {lv : Nat} {one : Bool} {p S : Ps} {n X x : Nat} (h : Reached lv one p n X S) (hl : legB lv one 1 S x S = true) (hn : n ≤ 1498) (hx : 4093 ≤ x) (hc : 4096 ^ 1498 ≤ 2 ^ 36 * (X * x ^ (1498 - n))) : Cheap lv one p := by
  have hp : pr lv one S = x := by
    unfold legB at hl
    rw [Bool.and_eq_true, Nat.beq_eq] at hl
    have := hl.1
    simpa [goes] using this
  refine ⟨?_, fun r => ?_⟩
  · have := (h.stay hl (1498 - n)).1
    rw [show n + (1498 - n) = 1498 by omega] at this
    rw [this]; exact hc
  · have := (h.stay hl (1498 - n + r)).2
    rw [show n + (1498 - n + r) = 1498 + r by omega] at this
    rw [pr_like this, hp]; exact hx

end Go.Proofs.YtpknbfkknnaajaaDoor
