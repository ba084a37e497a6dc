/- The contracts of bits.Reader and of the document's own reader, by one plain meaning. -/
import Derived.Test.YtodmchjdflpbpaaGreatBitsW
import Derived.Deep.QuietTactic
import Derived.BigQuiet
namespace Go.Proofs.YtodmchjdflpbpaaGreat
open Go.RowKit
set_option maxRecDepth 100000

/-- The bit at place i. -/
def bitAt (bs : List Int) (i : Nat) : Nat := (bs.getD (i / 8) 0).toNat / 2 ^ (7 - i % 8) % 2

theorem bitAt_01 (bs : List Int) (i : Nat) : bitAt bs i = 0 ∨ bitAt bs i = 1 := by unfold bitAt; omega

/-- A reader at block g, of type t. -/
structure Rd (w : World) (g : Nat) (t : TypeId) (A : Option Addr) (c : Nat) (bs : List Int) (at_ : Nat) (err : Int) : Prop where
  blk : Blk w g t #[.slice A bs.length c, .int .i64 at_, .int .i64 err]
  row : Row w .u8 A bs.length bs
  byte : ∀ j, 0 ≤ bs.getD j 0 ∧ bs.getD j 0 < 256
  le : at_ ≤ 8 * bs.length
  small : bs.length ≤ 100000000

section
variable {w w' : World} {g : Nat} {t : TypeId} {A : Option Addr} {c : Nat} {bs : List Int} {at_ : Nat} {err : Int}
theorem Rd.drewN (h : Rd w g t A c bs at_ err) (n : Nat) : Rd (w.drewN n) g t A c bs at_ err := ⟨h.blk.drewN n, ⟨h.row.len, h.row.at_⟩, h.byte, h.le, h.small⟩
theorem Rd.ne_ (h : Rd w g t A c bs at_ err) {b o : Nat} (hA : A = some ⟨b, o, none⟩) (hl : 0 < bs.length) : b ≠ g := by
  rintro rfl
  obtain ⟨b', o', e, _, hc⟩ := h.row.at_ 0 hl
  rw [hA] at e
  injection e with e
  injection e with e1 e2
  subst e1
  have := h.blk.cell (o' + 0)
  rw [this] at hc
  rcases o' with _ | _ | _ | o'
  · simp at hc
  · simp at hc
  · simp at hc
  · simp at hc
theorem Rd.kept {S : Nat → Prop} (h : Rd w g t A c bs at_ err) (hk : Kept S w w') (hg : ¬ S g) (hA : ∀ b o, A = some ⟨b, o, none⟩ → 0 < bs.length → ¬ S b) : Rd w' g t A c bs at_ err :=
  ⟨h.blk.kept hk hg, h.row.kept hk hA, h.byte, h.le, h.small⟩
end

theorem byte_bit (a : Int) (m : Nat) (h0 : 0 ≤ a) (h1 : a < 256) : wrap64 (bits .and .u8 (a / 2 ^ m) 1) = ((a.toNat / 2 ^ m % 2 : Nat) : Int) := by
  obtain ⟨x, rfl⟩ := Int.eq_ofNat_of_zero_le h0
  have e : ((x : Int) / 2 ^ m) = ((x / 2 ^ m : Nat) : Int) := by simp
  have hd : x / 2 ^ m < 256 := Nat.lt_of_le_of_lt (Nat.div_le_self _ _) (by omega)
  rw [e, show (1 : Int) = ((1 : Nat) : Int) from rfl, u8_and_nat _ _ hd (by omega), nat_mask1, IntWalk.wrap64_in _ (by omega)]
  simp

set_option maxHeartbeats 800000 in
theorem ahead_any (g : Nat) (A : Option Addr) (c : Nat) (bs : List Int) (p i : Nat) (err : Int) (w : World) (h : Rd w g 161 A c bs p err) (hi : p + i < 8 * bs.length) :
    Calls Tryz.prog 107 #[.pointer (some ⟨g, 0, none⟩), .int .i64 i] w fun e w' => e = .returned (.int .i64 (bitAt bs (p + i))) ∧ w = w' := by
  have c0 := h.blk.cell 0
  have c1 := h.blk.cell 1
  obtain ⟨b, o, rfl, hb, hc⟩ := h.row.at_ ((i + p) / 8) (by omega)
  have hby := h.byte ((i + p) / 8)
  have hsm := h.small
  have hle := h.le
  simp at c0 c1 hc hby
  have hlt : (((i : Int) + p) / 8) < bs.length := by omega
  clear h
  go_enter Tryz.func107, Tryz.ntmps107
  go_wp2
  go_ret
  refine ⟨ret_int ?_, rfl⟩
  rw [show p + i = i + p from by omega]
  exact byte_bit _ _ hby.1 hby.2

theorem left_wraps (n p : Nat) (hn : n ≤ 100000000) (hp : p ≤ 8 * n) : IntKind.i64.wrap (8 * (n : Int)) = 8 * (n : Int) ∧ IntKind.i64.wrap (8 * (n : Int) - p) = 8 * (n : Int) - p :=
  ⟨IntWalk.i64_in _ (by omega), IntWalk.i64_in _ (by omega)⟩

/-- Left: a quiet call. -/
def RLeft (t : TypeId) (f : Nat) : Prop := ∀ (g : Nat) (A : Option Addr) (c : Nat) (bs : List Int) (p L : Nat) (err : Int) (w : World), Rd w g t A c bs p err → p + L = 8 * bs.length →
    Calls Tryz.prog f #[.pointer (some ⟨g, 0, none⟩)] w fun e w' => e = .returned (.int .i64 L) ∧ ∃ n, w' = w.drewN n

set_option maxHeartbeats 800000 in
theorem left_any : RLeft 161 102 := by
  intro g A c bs p L err w h hL
  have c0 := h.blk.cell 0
  have c1 := h.blk.cell 1
  simp at c0 c1
  obtain ⟨e1, e2⟩ := left_wraps bs.length p h.small h.le
  have HL := Lib.hid hL
  clear h hL
  go_enter Tryz.func102, Tryz.ntmps102
  go_wp2
  go_quiet (fail)
  go_wp2
  go_ret
  exact ⟨ret_int (by have := HL.out; clear e1 e2; omega), _, rfl⟩

/-- The number of k bits from p on. -/
def numAt (bs : List Int) (p : Nat) : Nat → Nat
  | 0 => 0
  | k + 1 => 2 * numAt bs p k + bitAt bs (p + k)

theorem numAt_lt (bs : List Int) (p : Nat) : ∀ k, numAt bs p k < 2 ^ k
  | 0 => by simp [numAt]
  | k + 1 => by
    have := numAt_lt bs p k
    have := bitAt_01 bs (p + k)
    simp only [numAt, Nat.pow_succ]
    omega

theorem shl_or (a b : Nat) (ha : a < 2 ^ 31) (hb : b = 0 ∨ b = 1) : bits .or .u32 ((a : Int) * 2 % 4294967296) ((b : Int) % 4294967296) = ((2 * a + b : Nat) : Int) := by
  have e1 : ((a : Int) * 2 % 4294967296) = ((2 * a : Nat) : Int) := by omega
  have e2 : ((b : Int) % 4294967296) = ((b : Nat) : Int) := by omega
  rw [e1, e2, u32_or_nat _ _ (by omega) (by omega), nat_join 1 (2 * a) b (by omega) (by omega)]

set_option maxHeartbeats 800000 in
theorem number_any (g : Nat) (A : Option Addr) (c : Nat) (bs : List Int) (p k : Nat) (err : Int) (w : World) (h : Rd w g 161 A c bs p err) (hk : k ≤ 32) (hi : p + k ≤ 8 * bs.length) :
    Calls Tryz.prog 103 #[.pointer (some ⟨g, 0, none⟩), .int .i64 k] w fun e w' => e = .returned (.int .u32 (numAt bs p k)) ∧ w = w' := by
  go_enter Tryz.func103, Tryz.ntmps103
  go_wp2
  go_loop [5, 8] (fun v i => ∃ j : Nat, j ≤ k ∧ i = .int .i64 j ∧ v = .int .u32 (numAt bs p j)) (fun _ i => (k - intOf i).toNat)
  case atStart => exact ⟨0, by omega, by simp, rfl⟩
  case round =>
    obtain ⟨j, hj, rfl, rfl⟩ := hrel
    by_cases hlt : j < k
    · go_wp2_with fail
      refine (ahead_any g A c bs p j err _ h (by omega)).mono ?_
      rintro e w' ⟨rfl, rfl⟩
      have hb := numAt_lt bs p j
      have hs := shl_or (numAt bs p j) (bitAt bs (p + j)) (Nat.lt_of_lt_of_le hb (Nat.pow_le_pow_right (by omega) (by omega : j ≤ 31))) (bitAt_01 bs (p + j))
      have Hs := Lib.hid hs
      clear hs hb
      go_wp2_with fail
      go_round
      case rel => exact ⟨j + 1, by omega, by go_num, by rw [Hs.out]; rfl⟩
      case measure => simp [intOf]; omega
    · go_wp2_with fail
      go_ret
      have : j = k := by omega
      subst this
      exact ⟨rfl, rfl⟩

/-- How many ones stand from p on, m at most. -/
def onesN (bs : List Int) (p : Nat) : Nat → Nat
  | 0 => 0
  | m + 1 => if bitAt bs p = 0 then 0 else onesN bs (p + 1) m + 1

theorem onesN_eq (bs : List Int) : ∀ (j p M : Nat), j ≤ M → (∀ i, i < j → bitAt bs (p + i) ≠ 0) → (j = M ∨ bitAt bs (p + j) = 0) → onesN bs p M = j
  | 0, p, M, _, _, h => by
    rcases h with rfl | h
    · rfl
    · cases M with
      | zero => rfl
      | succ M => simp only [onesN]; rw [if_pos (by simpa using h)]
  | j + 1, p, M, hj, ha, h => by
    cases M with
    | zero => omega
    | succ M =>
      simp only [onesN]
      rw [if_neg (by simpa using ha 0 (by omega))]
      have := onesN_eq bs j (p + 1) M (by omega) (fun i hi => by have := ha (i + 1) (by omega); rwa [show p + 1 + i = p + (i + 1) from by omega]) (by
        rcases h with h | h
        · exact .inl (by omega)
        · exact .inr (by rwa [show p + 1 + j = p + (j + 1) from by omega]))
      omega

theorem onesN_le (bs : List Int) : ∀ (M p : Nat), onesN bs p M ≤ M
  | 0, _ => by simp [onesN]
  | M + 1, p => by
    simp only [onesN]
    have := onesN_le bs M (p + 1)
    split <;> omega

set_option maxHeartbeats 1600000 in
theorem ones_any (g : Nat) (A : Option Addr) (c : Nat) (bs : List Int) (p m L : Nat) (err : Int) (w : World) (h : Rd w g 161 A c bs p err) (hL : p + L = 8 * bs.length) (_hm : m ≤ 9223372036854775807) :
    Calls Tryz.prog 108 #[.pointer (some ⟨g, 0, none⟩), .int .i64 m] w fun e w' => e = .returned (.int .i64 (onesN bs p (min m L))) ∧ ∃ n, w' = w.drewN n := by
  have hLs : L ≤ 800000000 := by have := h.small; omega
  obtain ⟨M, hM⟩ : ∃ M, M = min m L := ⟨_, rfl⟩
  have hML : M ≤ L := by omega
  have HL := Lib.hid hL
  rw [← hM]
  rcases (show (m = M ∧ M ≤ L) ∨ (L = M ∧ M < m) from by omega) with ⟨rfl, hml⟩ | ⟨rfl, hml⟩
  all_goals
    clear hM hL
    go_enter Tryz.func108, Tryz.ntmps108
    go_wp2_with fail
    refine (left_any g A c bs p _ err _ h HL.out).mono ?_
    rintro e w' ⟨rfl, n1, rfl⟩
    have h1 := h.drewN n1
    go_wp2_with fail
  · go_loop [5, 11] (fun _ i => ∃ j : Nat, j ≤ m ∧ i = .int .i64 j ∧ ∀ i, i < j → bitAt bs (p + i) ≠ 0) (fun _ i => (m - intOf i).toNat)
    case atStart => exact ⟨0, by omega, by simp, fun i hi => by omega⟩
    case round =>
      obtain ⟨j, hj, rfl, ha⟩ := hrel
      have Ha := Lib.hid ha
      clear ha
      by_cases hlt : j < m
      · go_wp2_with fail
        refine (ahead_any g A c bs p j err _ h1 (by have := HL.out; omega)).mono ?_
        rintro e w' ⟨rfl, rfl⟩
        rcases bitAt_01 bs (p + j) with hb | hb
        · rw [hb]
          have Hb := Lib.hid hb
          clear hb
          go_wp2_with fail
          go_ret
          exact ⟨ret_int (by rw [onesN_eq bs j p m hj Ha.out (.inr Hb.out)]), n1, rfl⟩
        · rw [hb]
          have Hb := Lib.hid hb
          clear hb
          go_wp2_with fail
          go_round
          case rel => exact ⟨j + 1, by omega, by go_num, fun i hi => by
            rcases Nat.lt_or_ge i j with hij | hij
            · exact Ha.out i hij
            · obtain rfl : i = j := by omega
              rw [Hb.out]; omega⟩
          case measure => simp [intOf]; omega
      · go_wp2_with fail
        go_ret
        exact ⟨ret_int (by have := onesN_eq bs j p m hj Ha.out (.inl (by omega)); omega), n1, rfl⟩
  · go_loop [5, 11] (fun _ i => ∃ j : Nat, j ≤ L ∧ i = .int .i64 j ∧ ∀ i, i < j → bitAt bs (p + i) ≠ 0) (fun _ i => (L - intOf i).toNat)
    case atStart => exact ⟨0, by omega, by simp, fun i hi => by omega⟩
    case round =>
      obtain ⟨j, hj, rfl, ha⟩ := hrel
      have Ha := Lib.hid ha
      clear ha
      by_cases hlt : j < L
      · go_wp2_with fail
        refine (ahead_any g A c bs p j err _ h1 (by have := HL.out; omega)).mono ?_
        rintro e w' ⟨rfl, rfl⟩
        rcases bitAt_01 bs (p + j) with hb | hb
        · rw [hb]
          have Hb := Lib.hid hb
          clear hb
          go_wp2_with fail
          go_ret
          exact ⟨ret_int (by rw [onesN_eq bs j p L hj Ha.out (.inr Hb.out)]), n1, rfl⟩
        · rw [hb]
          have Hb := Lib.hid hb
          clear hb
          go_wp2_with fail
          go_round
          case rel => exact ⟨j + 1, by omega, by go_num, fun i hi => by
            rcases Nat.lt_or_ge i j with hij | hij
            · exact Ha.out i hij
            · obtain rfl : i = j := by omega
              rw [Hb.out]; omega⟩
          case measure => simp [intOf]; omega
      · go_wp2_with fail
        go_ret
        exact ⟨ret_int (by have := onesN_eq bs j p L hj Ha.out (.inl (by omega)); omega), n1, rfl⟩

end Go.Proofs.YtodmchjdflpbpaaGreat
