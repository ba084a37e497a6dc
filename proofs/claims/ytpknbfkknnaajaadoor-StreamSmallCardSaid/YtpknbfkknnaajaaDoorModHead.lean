/- A byte that comes again and again: its bits, the contexts of each, and what the tables hold behind the first two of it. -/
import Derived.Test.YtpknbfkknnaajaaDoorModMath
namespace Go.Proofs.YtpknbfkknnaajaaDoor

/-- The bits of a byte, the highest first, and the parts ahead of each. -/
def bit (c k : Nat) : Bool := Nat.beq (c / 2 ^ (7 - k) % 2) 1
def prt (c k : Nat) : Nat := 2 ^ k + c / 2 ^ (8 - k)
def lst (c i : Nat) : Nat := if i = 0 then 0 else c
def old (c i : Nat) : Nat := if i ≤ 1 then 0 else c
def prtOK (c : Nat) : Bool := (List.range 8).all fun k => Nat.blt (prt c k) 256 && (if k = 7 then Nat.beq (2 * prt c k + (bit c k).toNat) (256 + c) else Nat.beq (2 * prt c k + (bit c k).toNat) (prt c (k + 1))) && (List.range 8).all fun j => Nat.beq j k || !(Nat.beq (prt c j) (prt c k))
theorem prtOK_all : ∀ a, a < 16 → ∀ b, b < 16 → prtOK (16 * a + b) = true := by decide +kernel
theorem byte_split {P : Nat → Prop} (h : ∀ a, a < 16 → ∀ b, b < 16 → P (16 * a + b)) {c : Nat} (hc : c < 256) : P c := by
  have := h (c / 16) (by omega) (c % 16) (by omega)
  rw [show 16 * (c / 16) + c % 16 = c by omega] at this
  exact this
theorem prt_all {c k : Nat} (hc : c < 256) (hk : k < 8) : prt c k < 256 ∧ (k = 7 → 2 * prt c k + (bit c k).toNat = 256 + c) ∧ (k ≠ 7 → 2 * prt c k + (bit c k).toNat = prt c (k + 1)) ∧ ∀ j, j < 8 → j ≠ k → prt c j ≠ prt c k := by
  have h := (List.all_eq_true.1 (byte_split (P := fun c => prtOK c = true) prtOK_all hc)) k (List.mem_range.2 hk)
  rw [Bool.and_eq_true, Bool.and_eq_true] at h
  obtain ⟨⟨h1, h2⟩, h3⟩ := h
  refine ⟨by have : prt c k ≤ 255 := by simpa [Nat.blt] using h1
             omega, fun e => ?_, fun e => ?_, fun j hj hne e => ?_⟩
  · rw [if_pos e] at h2; exact Nat.eq_of_beq_eq_true h2
  · rw [if_neg e] at h2; exact Nat.eq_of_beq_eq_true h2
  · have := (List.all_eq_true.1 h3) j (List.mem_range.2 hj)
    rw [Bool.or_eq_true] at this
    rcases this with h | h
    · exact hne (Nat.eq_of_beq_eq_true h)
    · rw [e] at h; simp at h

/-- The second table alone, behind i bytes and k bits. -/
def tabB (c : Nat) : Nat → Nat → Nat
  | 0 => fun _ => 32768
  | t + 1 => upd (tabB c t) (key2 (lst c (t / 8)) (prt c (t % 8))) (nx (tabB c t (key2 (lst c (t / 8)) (prt c (t % 8)))) (bit c (t % 8)) 4)
/-- The third one. -/
def tabC (c : Nat) : Nat → Nat → Nat
  | 0 => fun _ => 32768
  | t + 1 => upd (tabC c t) (key3 (old c (t / 8)) (lst c (t / 8)) (prt c (t % 8))) (nx (tabC c t (key3 (old c (t / 8)) (lst c (t / 8)) (prt c (t % 8)))) (bit c (t % 8)) 3)
def spec (c j : Nat) : Bool := Nat.beq c 72 && Nat.beq j 1
/-- The first two bytes. -/
def headOK (c : Nat) : Bool := Nat.beq c 0 || ((List.range 16).all (fun t => Nat.beq (tabB c t (key2 (lst c (t / 8)) (prt c (t % 8)))) 32768 && Nat.beq (tabC c t (key3 (old c (t / 8)) (lst c (t / 8)) (prt c (t % 8)))) 32768)
  && (List.range 8).all (fun j => Nat.beq (tabB c 16 (key2 c (prt c j))) (nx 32768 (bit c j) 4) && Nat.beq (tabC c 16 (key3 c c (prt c j))) (if spec c j then 28672 else 32768)))
theorem headOK_all : ∀ a, a < 16 → ∀ b, b < 16 → headOK (16 * a + b) = true := by decide +kernel

theorem head_all {c : Nat} (hc : c < 256) (h0 : c ≠ 0) : (∀ t, t < 16 → tabB c t (key2 (lst c (t / 8)) (prt c (t % 8))) = 32768 ∧ tabC c t (key3 (old c (t / 8)) (lst c (t / 8)) (prt c (t % 8))) = 32768) ∧
    ∀ j, j < 8 → tabB c 16 (key2 c (prt c j)) = nx 32768 (bit c j) 4 ∧ tabC c 16 (key3 c c (prt c j)) = (if spec c j then 28672 else 32768) := by
  have h := byte_split (P := fun c => headOK c = true) headOK_all hc
  unfold headOK at h
  rw [Bool.or_eq_true, Bool.and_eq_true] at h
  rcases h with h | ⟨h1, h2⟩
  · exact absurd (Nat.eq_of_beq_eq_true h) h0
  · refine ⟨fun t ht => ?_, fun j hj => ?_⟩
    · have := (List.all_eq_true.1 h1) t (List.mem_range.2 ht)
      rw [Bool.and_eq_true] at this
      exact ⟨Nat.eq_of_beq_eq_true this.1, Nat.eq_of_beq_eq_true this.2⟩
    · have := (List.all_eq_true.1 h2) j (List.mem_range.2 hj)
      rw [Bool.and_eq_true] at this
      exact ⟨Nat.eq_of_beq_eq_true this.1, Nat.eq_of_beq_eq_true this.2⟩

end Go.Proofs.YtpknbfkknnaajaaDoor
