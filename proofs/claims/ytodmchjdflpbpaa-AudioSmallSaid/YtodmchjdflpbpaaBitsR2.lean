/- The contracts of bits.Reader's calls. -/
import Derived.Test.YtodmchjdflpbpaaBitsR
namespace Go.Proofs.Ytodmchjdflpbpaa
open Go.RowKit
set_option maxRecDepth 100000

theorem numAt_zero (bs : List Int) (p : Nat) : ∀ k, numAt bs p k = 0 ↔ ∀ j, j < k → bitAt bs (p + j) = 0
  | 0 => by simp [numAt]
  | k + 1 => by
    have ih := numAt_zero bs p k
    simp only [numAt]
    constructor
    · intro h j hj
      rcases Nat.lt_or_ge j k with hjk | hjk
      · exact ih.1 (by omega) j hjk
      · obtain rfl : j = k := by omega
        omega
    · intro h
      have h1 := ih.2 fun j hj => h j (by omega)
      have h2 := h k (by omega)
      omega

/-- The plain meaning of Bits, Unary, End: the answer, the new place, the fault. -/
def sBits (bs : List Int) (p : Nat) (err : Int) (k : Nat) : Nat × Nat × Int :=
  if err ≠ 0 then (0, p, err) else if 8 * bs.length < p + k then (0, p, 3) else (numAt bs p k, p + k, 0)

def sUnary (bs : List Int) (p : Nat) (err : Int) (m L : Nat) : Nat × Nat × Int :=
  if err ≠ 0 then (0, p, err) else
    if onesN bs p (min m L) = m then (m, p + m, 0) else if onesN bs p (min m L) = L then (0, p, 3) else (onesN bs p (min m L), p + onesN bs p (min m L) + 1, 0)

def sEnd (bs : List Int) (p : Nat) (err : Int) (L : Nat) : Int :=
  if err ≠ 0 then err else if 8 ≤ L then 4 else if numAt bs p L = 0 then 0 else 4

/-- What a reader's call leaves. -/
def RPost (w w' : World) (g : Nat) (t : TypeId) (A : Option Addr) (c : Nat) (bs : List Int) (p : Nat) (err : Int) : Prop :=
  Rd w' g t A c bs p err ∧ Kept (fun k => k = g) w w'

section
variable {w : World} {g : Nat} {t : TypeId} {A : Option Addr} {c : Nat} {bs : List Int} {p : Nat} {err : Int}
theorem Rd.refl (h : Rd w g t A c bs p err) (n : Nat) : RPost w (w.drewN n) g t A c bs p err := ⟨h.drewN n, (Kept.refl _ _).drewN n⟩
theorem Row.setOff {k : IntKind} {n : Nat} {xs : List Int} (h : Row w k A n xs) {q : Addr} (hq : ∀ b o, A = some ⟨b, o, none⟩ → 0 < n → b ≠ q.block) (u : Value) : Row (w.setCell q u) k A n xs :=
  ⟨h.len, fun j hj => by
    obtain ⟨b, o, e, hb, hc⟩ := h.at_ j hj
    refine ⟨b, o, e, by simpa [World.setCell] using hb, ?_⟩
    rw [World.cell?_setCell_other _ _ _ _ (fun e' => hq b o e (by omega) (by rw [e']))]
    exact hc⟩
theorem Rd.setAt (h : Rd w g t A c bs p err) (n p' : Nat) (hp : p' ≤ 8 * bs.length) (u : Int) (hu : u = (p' : Int)) : RPost w ((w.drewN n).setCell ⟨g, 1, none⟩ (.int .i64 u)) g t A c bs p' err := by
  subst hu
  exact ⟨⟨by simpa using (h.blk.drewN n).set_ 1 (.int .i64 p'), (h.drewN n).row.setOff (fun b o e hl => h.ne_ e hl) _, h.byte, hp, h.small⟩, Kept.setCell ((Kept.refl (fun k => k = g) w).drewN n) (fun _ => rfl) _⟩
theorem Rd.setErr (h : Rd w g t A c bs p err) (n : Nat) (err' : Int) : RPost w ((w.drewN n).setCell ⟨g, 2, none⟩ (.int .i64 err')) g t A c bs p err' := by
  exact ⟨⟨by simpa using (h.blk.drewN n).set_ 2 (.int .i64 err'), (h.drewN n).row.setOff (fun b o e hl => h.ne_ e hl) _, h.byte, h.le, h.small⟩, Kept.setCell ((Kept.refl (fun k => k = g) w).drewN n) (fun _ => rfl) _⟩
end





/-- Bits: P1.2, as a contract of function f on readers of type t. -/
def RBits (t : TypeId) (f : Nat) : Prop := ∀ (g : Nat) (A : Option Addr) (c : Nat) (bs : List Int) (p : Nat) (err : Int) (m : Int) (w : World), Rd w g t A c bs p err →
    Calls Try.prog f #[.pointer (some ⟨g, 0, none⟩), .int .i64 m] w fun e w' => e = .returned (.int .u32 (sBits bs p err (wBitsN m)).1) ∧ RPost w w' g t A c bs (sBits bs p err (wBitsN m)).2.1 (sBits bs p err (wBitsN m)).2.2


/-- Bit. -/
def RBit (t : TypeId) (f : Nat) : Prop := ∀ (g : Nat) (A : Option Addr) (c : Nat) (bs : List Int) (p : Nat) (err : Int) (w : World), Rd w g t A c bs p err →
    Calls Try.prog f #[.pointer (some ⟨g, 0, none⟩)] w fun e w' => e = .returned (.int .i64 (sBits bs p err 1).1) ∧ RPost w w' g t A c bs (sBits bs p err 1).2.1 (sBits bs p err 1).2.2

theorem sBits_one (bs : List Int) (p : Nat) (err : Int) : (sBits bs p err 1).1 ≤ 1 := by
  unfold sBits
  split
  · simp
  · split
    · simp
    · have := numAt_lt bs p 1
      simp; omega

theorem wBitsN_one : wBitsN 1 = 1 := by decide +kernel

/-- Unary. -/
def RUnary (t : TypeId) (f : Nat) : Prop := ∀ (g : Nat) (A : Option Addr) (c : Nat) (bs : List Int) (p L m : Nat) (err : Int) (mi : Int) (w : World), Rd w g t A c bs p err → p + L = 8 * bs.length → m = mi.toNat → mi ≤ 9223372036854775807 →
    Calls Try.prog f #[.pointer (some ⟨g, 0, none⟩), .int .i64 mi] w fun e w' => e = .returned (.int .i64 (sUnary bs p err m L).1) ∧ RPost w w' g t A c bs (sUnary bs p err m L).2.1 (sUnary bs p err m L).2.2



/-- End: a quiet call. -/
def REnd (t : TypeId) (f : Nat) : Prop := ∀ (g : Nat) (A : Option Addr) (c : Nat) (bs : List Int) (p L : Nat) (err : Int) (w : World), Rd w g t A c bs p err → p + L = 8 * bs.length →
    Calls Try.prog f #[.pointer (some ⟨g, 0, none⟩)] w fun e w' => e = .returned (.int .i64 (sEnd bs p err L)) ∧ ∃ n, w' = w.drewN n


end Go.Proofs.Ytodmchjdflpbpaa
