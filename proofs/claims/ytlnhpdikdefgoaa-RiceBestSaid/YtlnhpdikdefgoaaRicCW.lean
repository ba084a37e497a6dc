/- The code's writer of bits (bits.Writer at the head of a block of type t, with R behind it), none of whose blocks is in A. -/
import Derived.Test.YtlnhpdikdefgoaaRicMath
namespace Go.Proofs.Ytlnhpdikdefgoaa
open Go.RowKit
set_option maxRecDepth 100000

structure CWr (A : Nat → Prop) (w : World) (g : Nat) (v : Value) (L : List Bool) (t : TypeId) (R : Array Value) : Prop where
  wtr : Wtr w g v (pk L) L.length t R
  out : ¬ A g
  far : ∀ k, v.ownBlock = some k → ¬ A k
  there : ∀ k, A k → k < w.heap.size
def CW (A : Nat → Prop) (w : World) (g : Nat) (L : List Bool) (t : TypeId) (R : Array Value) : Prop := ∃ v, CWr A w g v L t R
/-- What a call of it leaves. -/
def CP (A : Nat → Prop) (w w' : World) (g : Nat) (L : List Bool) (t : TypeId) (R : Array Value) : Prop := CW A w' g L t R ∧ Kept (fun k => ¬ A k) w w'

section
variable {A S : Nat → Prop} {w w' : World} {g : Nat} {L : List Bool} {t : TypeId} {R : Array Value}
theorem CP.trans {w2 : World} {M : List Bool} (h : CP A w w' g L t R) (h2 : CP A w' w2 g M t R) : CP A w w2 g M t R := ⟨h2.1, h.2.trans h2.2 fun _ _ e => e⟩
theorem CW.refl (h : CW A w g L t R) : CP A w w g L t R := ⟨h, Kept.refl _ _⟩
theorem CW.kept (h : CW A w g L t R) (hk : Kept S w w') (hS : ∀ k, S k → k < w.heap.size → A k) : CW A w' g L t R := by
  obtain ⟨v, h⟩ := h
  exact ⟨v, ⟨h.wtr.blk.kept hk (fun e => h.out (hS _ e h.wtr.blk.lt)), h.wtr.own.kept hk (fun k e hs => h.far k e (hS k hs (h.wtr.own.lt e))), h.wtr.len, h.wtr.byte, h.wtr.ty⟩, h.out, h.far, fun k e => Nat.lt_of_lt_of_le (h.there k e) hk.size⟩
theorem CW.drewN (h : CW A w g L t R) (n : Nat) : CW A (w.drewN n) g L t R := h.kept ((Kept.refl (fun _ => False) w).drewN n) fun _ e => e.elim
theorem CW.new (w : World) (A : Nat → Prop) (hA : ∀ k, A k → k < w.heap.size) (ty : 5 ≠ t) : CW A (w.alloc (.cells (#[.slice none 0 0, .int .i64 0] ++ R) t)) w.heap.size [] t R :=
  ⟨_, ⟨Blk.new _ _ _, Own.nil _ _ _, rfl, fun j => by simp [pk, wmany], ty⟩, fun e => by have := hA _ e; omega, fun k e => (by cases e), fun k e => by have := hA k e; simp; omega⟩
/-- From the writer's own contract. -/
theorem CP.of {v : Value} {M : List Bool} (h : CWr A w g v L t R) (hp : WPost w w' g v (wmany (pk L) L.length M) (L.length + M.length) t R) : CP A w w' g (L ++ M) t R := by
  obtain ⟨v', hw, hv, hk⟩ := hp
  have e : pk (L ++ M) = wmany (pk L) L.length M := by unfold pk; rw [wmany_append, Nat.zero_add]
  have hw' : Wtr w' g v' (pk (L ++ M)) (L ++ M).length t R := by rw [e, List.length_append]; exact hw
  refine ⟨⟨v', hw', h.out, fun k e => (hv k e).elim (h.far k) (fun e2 a => by have := h.there k a; omega), fun k e => Nat.lt_of_lt_of_le (h.there k e) hk.size⟩, hk.mono fun k _ e => ?_⟩
  rcases e with e | e
  · rw [e]; exact h.out
  · exact h.far k e
end

theorem cwBit_any (A : Nat → Prop) (g : Nat) (L : List Bool) (t : TypeId) (R : Array Value) (x : Int) (w : World) (h : CW A w g L t R) (hl : L.length ≤ 99999990000) :
    Calls Try.prog 55 #[.pointer (some ⟨g, 0, none⟩), .int .i64 x] w fun e w' => e = .returned (.tuple #[]) ∧ CP A w w' g (L ++ [x != 0]) t R := by
  obtain ⟨v, h⟩ := h
  exact (wBit_any g L.length v (pk L) w x h.wtr (by omega)).mono fun e w' ⟨e1, hp⟩ => ⟨e1, CP.of (M := [x != 0]) h hp⟩
theorem cwBits_any (A : Nat → Prop) (g : Nat) (L : List Bool) (t : TypeId) (R : Array Value) (x : Nat) (m : Int) (w : World) (h : CW A w g L t R) (hl : L.length ≤ 99999990000) (hx : x < 4294967296) :
    Calls Try.prog 42 #[.pointer (some ⟨g, 0, none⟩), .int .u32 x, .int .i64 m] w fun e w' => e = .returned (.tuple #[]) ∧ CP A w w' g (L ++ bitsOf x (wBitsN m)) t R := by
  obtain ⟨v, h⟩ := h
  exact (wBits_any g L.length v (pk L) w x m h.wtr (by omega) hx).mono fun e w' ⟨e1, hp⟩ => ⟨e1, CP.of (M := bitsOf x (wBitsN m)) h (by rw [bitsOf_length]; exact hp)⟩
theorem cwUnary_any (A : Nat → Prop) (g : Nat) (L : List Bool) (t : TypeId) (R : Array Value) (m : Int) (w : World) (h : CW A w g L t R) (hl : L.length ≤ 99999990000) :
    Calls Try.prog 56 #[.pointer (some ⟨g, 0, none⟩), .int .i64 m] w fun e w' => e = .returned (.tuple #[]) ∧ CP A w w' g (L ++ (List.replicate (wUnaryN m) true ++ [false])) t R := by
  obtain ⟨v, h⟩ := h
  exact (wUnary_any g L.length v (pk L) w m h.wtr (by omega)).mono fun e w' ⟨e1, hp⟩ => ⟨e1, CP.of (M := List.replicate (wUnaryN m) true ++ [false]) h (by simpa using hp)⟩
theorem cwBytes_any (A : Nat → Prop) (g : Nat) (L : List Bool) (t : TypeId) (R : Array Value) (w : World) (h : CW A w g L t R) (hl : L.length ≤ 99999990000) :
    Calls Try.prog 26 #[.pointer (some ⟨g, 0, none⟩)] w fun e w' => ∃ u, e = .returned u ∧ NewRow w w' 5 .u8 u (pk L) := by
  obtain ⟨v, h⟩ := h
  exact wBytes_any g L.length v (pk L) w h.wtr (by omega)

end Go.Proofs.Ytlnhpdikdefgoaa
