/- The contracts of bits.Reader and of the document's own reader, by one plain meaning. -/
import Derived.Test.YtodmchjdflpbpaaBitsW
import Derived.Deep.QuietTactic
import Derived.BigQuiet
namespace Go.Proofs.Ytodmchjdflpbpaa
open Go.RowKit
set_option maxRecDepth 100000

/-- The bit at place i. -/
def bitAt (bs : List Int) (i : Nat) : Nat := (bs.getD (i / 8) 0).toNat / 2 ^ (7 - i % 8) % 2

theorem bitAt_01 (bs : List Int) (i : Nat) : bitAt bs i = 0 ∨ bitAt bs i = 1 := by unfold bitAt; omega

/-- A reader at block g, of type t. -/
structure Rd (w : World) (g : Nat) (t : TypeId) (A : Option Addr) (c : Nat) (bs : List Int) (at_ : Nat) (err : Int) : Prop where
  blk : Blk w g t #[.slice A bs.length c, .int .i64 at_, .int .i64 err]
  row : Row w .u8 A bs.length bs
  byte : ∀ j, 0 ≤ bs.getD j 0 ∧ bs.getD j 0 < 256
  le : at_ ≤ 8 * bs.length
  small : bs.length ≤ 100000000

section
variable {w w' : World} {g : Nat} {t : TypeId} {A : Option Addr} {c : Nat} {bs : List Int} {at_ : Nat} {err : Int}
theorem Rd.drewN (h : Rd w g t A c bs at_ err) (n : Nat) : Rd (w.drewN n) g t A c bs at_ err := ⟨h.blk.drewN n, ⟨h.row.len, h.row.at_⟩, h.byte, h.le, h.small⟩
theorem Rd.ne_ (h : Rd w g t A c bs at_ err) {b o : Nat} (hA : A = some ⟨b, o, none⟩) (hl : 0 < bs.length) : b ≠ g := by
  rintro rfl
  obtain ⟨b', o', e, _, hc⟩ := h.row.at_ 0 hl
  rw [hA] at e
  injection e with e
  injection e with e1 e2
  subst e1
  have := h.blk.cell (o' + 0)
  rw [this] at hc
  rcases o' with _ | _ | _ | o'
  · simp at hc
  · simp at hc
  · simp at hc
  · simp at hc
theorem Rd.kept {S : Nat → Prop} (h : Rd w g t A c bs at_ err) (hk : Kept S w w') (hg : ¬ S g) (hA : ∀ b o, A = some ⟨b, o, none⟩ → 0 < bs.length → ¬ S b) : Rd w' g t A c bs at_ err :=
  ⟨h.blk.kept hk hg, h.row.kept hk hA, h.byte, h.le, h.small⟩
end

theorem byte_bit (a : Int) (m : Nat) (h0 : 0 ≤ a) (h1 : a < 256) : wrap64 (bits .and .u8 (a / 2 ^ m) 1) = ((a.toNat / 2 ^ m % 2 : Nat) : Int) := by
  obtain ⟨x, rfl⟩ := Int.eq_ofNat_of_zero_le h0
  have e : ((x : Int) / 2 ^ m) = ((x / 2 ^ m : Nat) : Int) := by simp
  have hd : x / 2 ^ m < 256 := Nat.lt_of_le_of_lt (Nat.div_le_self _ _) (by omega)
  rw [e, show (1 : Int) = ((1 : Nat) : Int) from rfl, u8_and_nat _ _ hd (by omega), nat_mask1, IntWalk.wrap64_in _ (by omega)]
  simp


theorem left_wraps (n p : Nat) (hn : n ≤ 100000000) (hp : p ≤ 8 * n) : IntKind.i64.wrap (8 * (n : Int)) = 8 * (n : Int) ∧ IntKind.i64.wrap (8 * (n : Int) - p) = 8 * (n : Int) - p :=
  ⟨IntWalk.i64_in _ (by omega), IntWalk.i64_in _ (by omega)⟩

/-- Left: a quiet call. -/
def RLeft (t : TypeId) (f : Nat) : Prop := ∀ (g : Nat) (A : Option Addr) (c : Nat) (bs : List Int) (p L : Nat) (err : Int) (w : World), Rd w g t A c bs p err → p + L = 8 * bs.length →
    Calls Try.prog f #[.pointer (some ⟨g, 0, none⟩)] w fun e w' => e = .returned (.int .i64 L) ∧ ∃ n, w' = w.drewN n


/-- The number of k bits from p on. -/
def numAt (bs : List Int) (p : Nat) : Nat → Nat
  | 0 => 0
  | k + 1 => 2 * numAt bs p k + bitAt bs (p + k)

theorem numAt_lt (bs : List Int) (p : Nat) : ∀ k, numAt bs p k < 2 ^ k
  | 0 => by simp [numAt]
  | k + 1 => by
    have := numAt_lt bs p k
    have := bitAt_01 bs (p + k)
    simp only [numAt, Nat.pow_succ]
    omega

theorem shl_or (a b : Nat) (ha : a < 2 ^ 31) (hb : b = 0 ∨ b = 1) : bits .or .u32 ((a : Int) * 2 % 4294967296) ((b : Int) % 4294967296) = ((2 * a + b : Nat) : Int) := by
  have e1 : ((a : Int) * 2 % 4294967296) = ((2 * a : Nat) : Int) := by omega
  have e2 : ((b : Int) % 4294967296) = ((b : Nat) : Int) := by omega
  rw [e1, e2, u32_or_nat _ _ (by omega) (by omega), nat_join 1 (2 * a) b (by omega) (by omega)]


/-- How many ones stand from p on, m at most. -/
def onesN (bs : List Int) (p : Nat) : Nat → Nat
  | 0 => 0
  | m + 1 => if bitAt bs p = 0 then 0 else onesN bs (p + 1) m + 1

theorem onesN_eq (bs : List Int) : ∀ (j p M : Nat), j ≤ M → (∀ i, i < j → bitAt bs (p + i) ≠ 0) → (j = M ∨ bitAt bs (p + j) = 0) → onesN bs p M = j
  | 0, p, M, _, _, h => by
    rcases h with rfl | h
    · rfl
    · cases M with
      | zero => rfl
      | succ M => simp only [onesN]; rw [if_pos (by simpa using h)]
  | j + 1, p, M, hj, ha, h => by
    cases M with
    | zero => omega
    | succ M =>
      simp only [onesN]
      rw [if_neg (by simpa using ha 0 (by omega))]
      have := onesN_eq bs j (p + 1) M (by omega) (fun i hi => by have := ha (i + 1) (by omega); rwa [show p + 1 + i = p + (i + 1) from by omega]) (by
        rcases h with h | h
        · exact .inl (by omega)
        · exact .inr (by rwa [show p + 1 + j = p + (j + 1) from by omega]))
      omega

theorem onesN_le (bs : List Int) : ∀ (M p : Nat), onesN bs p M ≤ M
  | 0, _ => by simp [onesN]
  | M + 1, p => by
    simp only [onesN]
    have := onesN_le bs M (p + 1)
    split <;> omega


end Go.Proofs.Ytodmchjdflpbpaa
