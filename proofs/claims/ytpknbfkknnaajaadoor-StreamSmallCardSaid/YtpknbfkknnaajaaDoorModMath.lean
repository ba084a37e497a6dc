/- The model as numbers (Mo), and what is left of it at one place of a byte that comes again and again (Ps, traj). -/
import Derived.Test.YtpknbfkknnaajaaDoorStgMath
import Derived.Test.YtpknbfkknnaajaaDoorGrid
namespace Go.Proofs.YtpknbfkknnaajaaDoor

/-- What the mixer is given. -/
def ins (lv a b c : Nat) : List Int := [st (pc (ch a)), st (pc (ch b)), if lv = 2 then st (pc (ch c)) else 0, 256]
/-- The weights behind a learning. -/
def lrnW (W : Nat → Int) (I : Nat → Int) (e : Int) : Nat → Int := fun j => if j < 4 then lw (W j) (I j) e else W j
/-- One of them is another one. -/
def upd {α : Type} (f : Nat → α) (k : Nat) (v : α) : Nat → α := fun i => if i = k then v else f i
theorem upd_at {α : Type} (f : Nat → α) (k : Nat) (v : α) : upd f k v k = v := if_pos rfl
theorem upd_ne {α : Type} {f : Nat → α} {k i : Nat} {v : α} (h : i ≠ k) : upd f k v i = f i := if_neg h

/-- A place: the three guesses, the weights and the steps. -/
structure Ps where
  a : Nat
  b : Nat
  c : Nat
  W : Nat → Int
  T : Nat → Int
def Ps.t (lv : Nat) (p : Ps) : Int := tl (inp (ins lv p.a p.b p.c)) p.W
def Ps.chance (lv : Nat) (p : Ps) : Int := if lv = 0 then (ch p.a : Nat) else (p.t lv + 3 * rd p.T (sx (p.t lv))) / 4
def Ps.learn (lv : Nat) (one : Bool) (p : Ps) : Ps :=
  { a := nx p.a one 4
    b := if lv = 0 then p.b else nx p.b one 4
    c := if lv = 2 then nx p.c one 3 else p.c
    W := if lv = 0 then p.W else lrnW p.W (inp (ins lv p.a p.b p.c)) (er one (p.t lv))
    T := if lv = 0 then p.T else upd p.T (nr (sx (p.t lv))) (lr one 6 (p.T (nr (sx (p.t lv))))) }

/-- The model. -/
structure Mo where
  A : Nat → Nat
  B : Nat → Nat
  C : Nat → Nat
  W : Nat → Nat → Int
  T : Nat → Nat → Int
  part : Nat
  last : Nat
  older : Nat
def key2 (l p : Nat) : Nat := l * 256 + p
def key3 (o l p : Nat) : Nat := ((o * 256 + l) * 40503 + p * 7919) % 65536
def Mo.two (m : Mo) : Nat := key2 m.last m.part
def Mo.three (m : Mo) : Nat := key3 m.older m.last m.part
/-- What of it is asked of now. -/
def Mo.now (m : Mo) : Ps := ⟨m.A m.part, m.B m.two, m.C m.three, m.W m.part, m.T m.part⟩
def Mo.chance (lv : Nat) (m : Mo) : Int := m.now.chance lv
/-- The contexts behind a bit. -/
def nextPart (p : Nat) (one : Bool) : Nat := if 2 * p + one.toNat ≥ 256 then 1 else 2 * p + one.toNat
def nextLast (p l : Nat) (one : Bool) : Nat := if 2 * p + one.toNat ≥ 256 then 2 * p + one.toNat - 256 else l
def nextOlder (p l o : Nat) (one : Bool) : Nat := if 2 * p + one.toNat ≥ 256 then l else o
def Mo.learn (lv : Nat) (one : Bool) (m : Mo) : Mo :=
  { A := upd m.A m.part (m.now.learn lv one).a
    B := if lv = 0 then m.B else upd m.B m.two (m.now.learn lv one).b
    C := if lv = 2 then upd m.C m.three (m.now.learn lv one).c else m.C
    W := if lv = 0 then m.W else upd m.W m.part (m.now.learn lv one).W
    T := if lv = 0 then m.T else upd m.T m.part (m.now.learn lv one).T
    part := nextPart m.part one
    last := nextLast m.part m.last one
    older := nextOlder m.part m.last m.older one }
def mo0 : Mo := ⟨fun _ => 32768, fun _ => 32768, fun _ => 32768, fun _ _ => 16384, fun _ => fs, 1, 0, 0⟩

/-- What it holds lies within bounds. -/
structure Mo.Fine (m : Mo) : Prop where
  a : ∀ i, m.A i < 65536
  b : ∀ i, m.B i < 65536
  c : ∀ i, m.C i < 65536
  w : ∀ i k, -16777216 ≤ m.W i k ∧ m.W i k ≤ 16777216
  t : ∀ i k, 0 ≤ m.T i k ∧ m.T i k ≤ 65535
  p : 1 ≤ m.part ∧ m.part ≤ 255
  l : m.last ≤ 255
  o : m.older ≤ 255
theorem mo0_fine : mo0.Fine := ⟨fun _ => (by decide : 32768 < 65536), fun _ => (by decide : 32768 < 65536), fun _ => (by decide : 32768 < 65536), fun _ _ => (by decide : (-16777216 : Int) ≤ 16384 ∧ (16384 : Int) ≤ 16777216), fun _ k => by have := fs_bd k; exact ⟨by show 0 ≤ fs k; omega, by show fs k ≤ 65535; omega⟩, by decide, by decide, by decide⟩
theorem upd_all {α : Type} {P : α → Prop} {f : Nat → α} {k : Nat} {v : α} (h : ∀ i, P (f i)) (hv : P v) : ∀ i, P (upd f k v i) := by
  intro i; unfold upd; split
  · exact hv
  · exact h i
theorem Mo.Fine.learn {m : Mo} (h : m.Fine) (lv : Nat) (one : Bool) : (m.learn lv one).Fine := by
  refine ⟨upd_all (P := fun x => x < 65536) h.a (nx_lt (h.a _) _ _), ?_, ?_, ?_, ?_, ?_, ?_, ?_⟩
  · show ∀ i, (if lv = 0 then m.B else upd m.B m.two (m.now.learn lv one).b) i < 65536
    by_cases e : lv = 0
    · rw [if_pos e]; exact h.b
    · rw [if_neg e]
      refine upd_all (P := fun x => x < 65536) h.b ?_
      show (if lv = 0 then _ else _) < 65536
      rw [if_neg e]; exact nx_lt (h.b _) _ _
  · show ∀ i, (if lv = 2 then upd m.C m.three (m.now.learn lv one).c else m.C) i < 65536
    by_cases e : lv = 2
    · rw [if_pos e]
      refine upd_all (P := fun x => x < 65536) h.c ?_
      show (if lv = 2 then _ else _) < 65536
      rw [if_pos e]; exact nx_lt (h.c _) _ _
    · rw [if_neg e]; exact h.c
  · show ∀ i k, -16777216 ≤ (if lv = 0 then m.W else upd m.W m.part (m.now.learn lv one).W) i k ∧ (if lv = 0 then m.W else upd m.W m.part (m.now.learn lv one).W) i k ≤ 16777216
    by_cases e : lv = 0
    · rw [if_pos e]; exact h.w
    · rw [if_neg e]
      refine upd_all (P := fun (F : Nat → Int) => ∀ k, -16777216 ≤ F k ∧ F k ≤ 16777216) h.w ?_
      show ∀ k, -16777216 ≤ (if lv = 0 then m.now.W else _) k ∧ (if lv = 0 then m.now.W else _) k ≤ 16777216
      rw [if_neg e]
      intro k
      unfold lrnW
      split
      · exact lw_bd _ _ _
      · exact h.w _ k
  · show ∀ i k, 0 ≤ (if lv = 0 then m.T else upd m.T m.part (m.now.learn lv one).T) i k ∧ (if lv = 0 then m.T else upd m.T m.part (m.now.learn lv one).T) i k ≤ 65535
    by_cases e : lv = 0
    · rw [if_pos e]; exact h.t
    · rw [if_neg e]
      refine upd_all (P := fun (F : Nat → Int) => ∀ k, 0 ≤ F k ∧ F k ≤ 65535) h.t ?_
      show ∀ k, 0 ≤ (if lv = 0 then m.now.T else _) k ∧ (if lv = 0 then m.now.T else _) k ≤ 65535
      rw [if_neg e]
      exact upd_all (P := fun x => 0 ≤ x ∧ x ≤ 65535) (h.t _) (lr_bd _ _ (h.t _ _))
  · show 1 ≤ nextPart m.part one ∧ nextPart m.part one ≤ 255
    have := h.p
    unfold nextPart; split <;> omega
  · show nextLast m.part m.last one ≤ 255
    have := h.p; have := h.l
    have hb : one.toNat ≤ 1 := by cases one <;> decide
    unfold nextLast; split <;> omega
  · show nextOlder m.part m.last m.older one ≤ 255
    have := h.o; have := h.l
    unfold nextOlder; split <;> omega

end Go.Proofs.YtpknbfkknnaajaaDoor
