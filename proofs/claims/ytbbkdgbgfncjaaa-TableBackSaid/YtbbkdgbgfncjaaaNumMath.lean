/- Numbers by sevens, and whole ones, as bytes: what is written is read, and what is read was written. Plain mathematics. -/
import Derived.Test.YtbbkdgbgfncjaaaKit
namespace Go.Proofs.Ytbbkdgbgfncjaaa
set_option maxRecDepth 100000

/-- The bytes of a number by sevens. -/
def sv (v : Nat) : List Int := if v < 128 then [(v : Int)] else ((v % 128 + 128 : Nat) : Int) :: sv (v / 128)
termination_by v
decreasing_by omega

theorem sv_lo {v : Nat} (h : v < 128) : sv v = [(v : Int)] := by rw [sv, if_pos h]
theorem sv_hi {v : Nat} (h : ¬ v < 128) : sv v = ((v % 128 + 128 : Nat) : Int) :: sv (v / 128) := by rw [sv, if_neg h]

theorem sv_pos (v : Nat) : 0 < (sv v).length := by
  rw [sv]; split <;> simp

/-- Its bytes are bytes. -/
theorem sv_byte (v : Nat) : ∀ x ∈ sv v, 0 ≤ x ∧ x < 256 := by
  induction v using sv.induct with
  | case1 v h => rw [sv_lo h]; intro x hx; simp at hx; omega
  | case2 v h ih =>
    rw [sv_hi h]
    intro x hx
    rcases List.mem_cons.1 hx with rfl | hx
    · omega
    · exact ih x hx

/-- The byte at place i, while more than one is left there. -/
theorem sv_at (v : Nat) : ∀ i, (sv v)[i]? = if 128 ^ i ≤ v ∨ i = 0 then some (((if v / 128 ^ i < 128 then v / 128 ^ i else v / 128 ^ i % 128 + 128 : Nat)) : Int) else none := by
  induction v using sv.induct with
  | case1 v h =>
    intro i
    rw [sv_lo h]
    rcases i with _ | i
    · simp [h]
    · have : 128 ≤ 128 ^ (i + 1) := by have := Nat.one_le_pow i 128 (by omega); rw [Nat.pow_succ]; omega
      rw [if_neg (by omega)]; simp
  | case2 v h ih =>
    intro i
    rw [sv_hi h]
    rcases i with _ | i
    · simp [h]
    · have hp : 0 < 128 ^ i := Nat.pow_pos (by omega)
      have e : v / 128 ^ (i + 1) = v / 128 / 128 ^ i := by rw [Nat.pow_succ, Nat.mul_comm, Nat.div_div_eq_div_mul]
      rw [List.getElem?_cons_succ, ih i, e]
      have h2 : (128 ^ (i + 1) ≤ v) ↔ (128 ^ i ≤ v / 128) := by rw [Nat.le_div_iff_mul_le (by omega), Nat.pow_succ]
      by_cases hi : i = 0
      · subst hi
        rw [if_pos (c := _ ∨ _) (.inr rfl), if_pos (c := _ ∨ _) (.inl (by omega))]
      · simp only [h2, hi, or_false, Nat.succ_ne_zero]

/-- How many bytes it has: k + 1, if what is left behind k sevens is the last byte. -/
theorem sv_length (v k : Nat) (h1 : v / 128 ^ k < 128) (h2 : k = 0 ∨ 128 ^ k ≤ v) : (sv v).length = k + 1 := by
  have a := sv_at v k
  have b := sv_at v (k + 1)
  rw [if_pos (by omega)] at a
  have hp : 0 < 128 ^ k := Nat.pow_pos (by omega)
  have : v < 128 * 128 ^ k := by rw [← Nat.div_lt_iff_lt_mul hp]; exact h1
  rw [if_neg (by rw [Nat.pow_succ]; omega)] at b
  have := (List.getElem?_eq_some_iff.1 a).1
  have := List.getElem?_eq_none_iff.1 b
  omega

theorem sv_le10 (v : Nat) (h : v < 18446744073709551616) : (sv v).length ≤ 10 := by
  have b := sv_at v 10
  rw [if_neg (by simp; omega)] at b
  exact List.getElem?_eq_none_iff.1 b

/-- The number by sevens at the beginning of some bytes, from place i on: the number, how many bytes, the fault (3: ErrShort, 4: ErrForm). -/
def rd (i acc : Nat) : List Int → Nat × Nat × Int
  | [] => (0, 0, 3)
  | c :: r => if i = 9 ∧ 1 < c then (0, 0, 4) else if c = 0 ∧ 0 < i then (0, 0, 4) else
    if c < 128 then (acc + c.toNat % 128 * 128 ^ i, i + 1, 0) else rd (i + 1) (acc + c.toNat % 128 * 128 ^ i) r

/-- What is written is read. -/
theorem rd_sv (rest : List Int) (v : Nat) : ∀ i acc, v * 128 ^ i < 18446744073709551616 → (0 < i → 0 < v) → i ≤ 9 → rd i acc (sv v ++ rest) = (acc + v * 128 ^ i, i + (sv v).length, 0) := by
  induction v using sv.induct with
  | case1 v h =>
    intro i acc hv hp hi
    have h9 : ¬ (i = 9 ∧ (1 : Int) < (v : Int)) := by
      rintro ⟨rfl, h1⟩
      have : 2 ≤ v := by omega
      simp at hv; omega
    rw [sv_lo h]
    show (if i = 9 ∧ (1 : Int) < (v : Int) then _ else _) = _
    rw [if_neg h9, if_neg (by omega), if_pos (by omega)]
    simp [Nat.mod_eq_of_lt h]
  | case2 v h ih =>
    intro i acc hv hp hi
    have h8 : i ≤ 8 := by
      by_cases e : i = 9
      · subst e; simp at hv; omega
      · omega
    rw [sv_hi h]
    rw [List.cons_append, rd, if_neg (by omega), if_neg (by omega), if_neg (by omega)]
    have e0 : ((v % 128 + 128 : Nat) : Int).toNat % 128 = v % 128 := by omega
    have e1 : v % 128 * 128 ^ i + v / 128 * 128 ^ (i + 1) = v * 128 ^ i := by
      rw [Nat.pow_succ, Nat.mul_comm (128 ^ i) 128, ← Nat.mul_assoc, ← Nat.add_mul]
      congr 1; omega
    rw [ih (i + 1) _ (by omega) (by omega) (by omega), e0]
    simp only [List.length_cons, Prod.mk.injEq, and_true]
    omega

/-- What is read was written. -/
theorem rd_back : ∀ (l : List Int) (i acc x n : Nat), (∀ c ∈ l, 0 ≤ c ∧ c < 256) → rd i acc l = (x, n, 0) →
    ∃ v, x = acc + v * 128 ^ i ∧ l.take (n - i) = sv v ∧ i < n ∧ n - i ≤ l.length ∧ (0 < i → 0 < v)
  | [], i, acc, x, n, _, h => by simp [rd] at h
  | c :: r, i, acc, x, n, hb, h => by
    have hc := hb c (by simp)
    unfold rd at h
    split at h
    · simp at h
    split at h
    · simp at h
    split at h
    · rename_i h1 h2 h3
      simp only [Prod.mk.injEq] at h
      obtain ⟨rfl, rfl, _⟩ := h
      obtain ⟨k, rfl⟩ := Int.eq_ofNat_of_zero_le hc.1
      refine ⟨k, ?_, ?_, by omega, by simp, by omega⟩
      · simp [Nat.mod_eq_of_lt (show k < 128 by omega)]
      · rw [sv_lo (by omega), show i + 1 - i = 1 from by omega]; rfl
    · rename_i h1 h2 h3
      obtain ⟨v, hx, ht, hn, hl, hv⟩ := rd_back r (i + 1) _ x n (fun c hc => hb c (by simp [hc])) h
      have hv0 := hv (by omega)
      obtain ⟨k, rfl⟩ := Int.eq_ofNat_of_zero_le hc.1
      refine ⟨k % 128 + 128 * v, ?_, ?_, by omega, by simp; omega, by omega⟩
      · rw [hx, Nat.pow_succ, Nat.add_mul, Nat.add_assoc, Int.toNat_natCast, Nat.mul_comm (128 ^ i) 128, ← Nat.mul_assoc, Nat.mul_comm v 128]
      · rw [sv_hi (by omega), show n - i = n - (i + 1) + 1 from by omega, List.take_succ_cons, ht]
        congr 1
        · omega
        · congr 1; omega

/-- The number fits, and is 0 with a fault. -/
theorem rd_fits : ∀ (l : List Int) (i acc : Nat), (∀ c ∈ l, 0 ≤ c ∧ c < 256) → i ≤ 9 → acc < 128 ^ i → (rd i acc l).1 < 18446744073709551616 ∧ (rd i acc l).2.1 ≤ i + l.length ∧ (rd i acc l).2.1 ≤ 10 ∧ ((rd i acc l).2.2 = 0 ∨ (rd i acc l).2.2 = 3 ∨ (rd i acc l).2.2 = 4) ∧ ((rd i acc l).2.2 ≠ 0 → (rd i acc l).1 = 0 ∧ (rd i acc l).2.1 = 0)
  | [], i, acc, _, _, _ => by simp [rd]
  | c :: r, i, acc, hb, hi, ha => by
    have hc := hb c (by simp)
    unfold rd
    split
    · simp
    split
    · simp
    rename_i h1 h2
    have hm : c.toNat % 128 < 128 := Nat.mod_lt _ (by omega)
    have hs : acc + c.toNat % 128 * 128 ^ i < 128 ^ (i + 1) := by
      have := Nat.mul_le_mul_right (128 ^ i) (show c.toNat % 128 ≤ 127 by omega)
      rw [Nat.pow_succ]; omega
    split
    · refine ⟨?_, by simp, by simp; omega, .inl rfl, by simp⟩
      by_cases e : i = 9
      · subst e
        have : c.toNat % 128 ≤ 1 := by omega
        simp only
        omega
      · have : 128 ^ (i + 1) ≤ 128 ^ 9 := Nat.pow_le_pow_right (by omega) (by omega)
        simp only
        omega
    · by_cases e : i = 9
      · exfalso; apply h1; omega
      · have := rd_fits r (i + 1) _ (fun c hc => hb c (by simp [hc])) (by omega) hs
        simp only [List.length_cons]
        exact ⟨this.1, by omega, this.2.2⟩

/-- The k lowest bytes of a number, the lowest first. -/
def leBytes (v k : Nat) : List Int := (List.range k).map fun i => ((v / 256 ^ i % 256 : Nat) : Int)
/-- The highest of them first. -/
def beBytes (v k : Nat) : List Int := (List.range k).map fun i => ((v / 256 ^ (k - 1 - i) % 256 : Nat) : Int)

theorem leBytes_length (v k : Nat) : (leBytes v k).length = k := by simp [leBytes]
theorem beBytes_length (v k : Nat) : (beBytes v k).length = k := by simp [beBytes]
theorem leBytes_getD (v k i : Nat) (h : i < k) : (leBytes v k).getD i 0 = ((v / 256 ^ i % 256 : Nat) : Int) := by simp [leBytes, h]
theorem beBytes_getD (v k i : Nat) (h : i < k) : (beBytes v k).getD i 0 = ((v / 256 ^ (k - 1 - i) % 256 : Nat) : Int) := by simp [beBytes, h]

/-- The number that bytes are, the lowest first. -/
def leNum : List Int → Nat
  | [] => 0
  | c :: r => c.toNat + 256 * leNum r
/-- The highest first. -/
def beNum (l : List Int) : Nat := l.foldl (fun a c => 256 * a + c.toNat) 0

theorem leNum_snoc (c : Int) : ∀ l : List Int, leNum (l ++ [c]) = leNum l + c.toNat * 256 ^ l.length
  | [] => by simp [leNum]
  | a :: r => by
    show a.toNat + 256 * leNum (r ++ [c]) = a.toNat + 256 * leNum r + c.toNat * 256 ^ (r.length + 1)
    rw [leNum_snoc c r, Nat.pow_succ, Nat.mul_add, Nat.add_assoc, Nat.mul_comm (256 ^ r.length) 256, Nat.mul_left_comm]
theorem beNum_snoc (l : List Int) (c : Int) : beNum (l ++ [c]) = 256 * beNum l + c.toNat := by simp [beNum]

theorem leNum_lt : ∀ l : List Int, (∀ c ∈ l, 0 ≤ c ∧ c < 256) → leNum l < 256 ^ l.length
  | [], _ => by simp [leNum]
  | a :: r, h => by
    have h1 := h a (by simp)
    have h2 := leNum_lt r (fun c hc => h c (by simp [hc]))
    show a.toNat + 256 * leNum r < 256 ^ (r.length + 1)
    rw [Nat.pow_succ]; omega
theorem beNum_lt' : ∀ (l : List Int) (a : Nat), (∀ c ∈ l, 0 ≤ c ∧ c < 256) → l.foldl (fun a c => 256 * a + c.toNat) a < (a + 1) * 256 ^ l.length
  | [], a, _ => by simp
  | c :: r, a, h => by
    have h1 := h c (by simp)
    have h2 := beNum_lt' r (256 * a + c.toNat) (fun c hc => h c (by simp [hc]))
    rw [List.foldl_cons, List.length_cons, Nat.pow_succ]
    refine Nat.lt_of_lt_of_le h2 ?_
    rw [Nat.mul_comm (256 ^ r.length) 256, ← Nat.mul_assoc]
    exact Nat.mul_le_mul_right _ (by omega)
theorem beNum_lt (l : List Int) (h : ∀ c ∈ l, 0 ≤ c ∧ c < 256) : beNum l < 256 ^ l.length := by
  have := beNum_lt' l 0 h
  rw [Nat.zero_add, Nat.one_mul] at this
  exact this

theorem leNum_leBytes (v : Nat) : ∀ k, leNum (leBytes v k) = v % 256 ^ k
  | 0 => by simp [leBytes, leNum, Nat.mod_one]
  | k + 1 => by
    have e : leBytes v (k + 1) = leBytes v k ++ [((v / 256 ^ k % 256 : Nat) : Int)] := by simp [leBytes, List.range_succ]
    rw [e, leNum_snoc, leNum_leBytes v k, leBytes_length, Nat.pow_succ, Nat.mod_mul, Int.toNat_natCast, Nat.mul_comm (256 ^ k)]
theorem beNum_beBytes (v k : Nat) : beNum (beBytes v k) = v % 256 ^ k := by
  have : ∀ j, j ≤ k → beNum ((beBytes v k).take j) = v / 256 ^ (k - j) % 256 ^ j := by
    intro j
    induction j with
    | zero => intro _; simp [beNum, Nat.mod_one]
    | succ j ih =>
      intro hj
      rw [List.take_succ_eq_append_getElem (by rw [beBytes_length]; omega), beNum_snoc, ih (by omega)]
      have e : (beBytes v k)[j]'(by rw [beBytes_length]; omega) = ((v / 256 ^ (k - 1 - j) % 256 : Nat) : Int) := by simp [beBytes]
      rw [e, show k - j = k - 1 - j + 1 from by omega, show k - (j + 1) = k - 1 - j from by omega]
      generalize k - 1 - j = q
      rw [Nat.pow_succ, ← Nat.div_div_eq_div_mul]
      generalize v / 256 ^ q = y
      rw [Nat.pow_succ, Nat.mul_comm (256 ^ j) 256, Nat.mod_mul]
      omega
  have h := this k (Nat.le_refl _)
  rw [List.take_of_length_le (by rw [beBytes_length]; omega)] at h
  simpa using h

theorem leBytes_byte (v k : Nat) : ∀ c ∈ leBytes v k, 0 ≤ c ∧ c < 256 := by
  intro c hc; simp only [leBytes, List.mem_map] at hc; obtain ⟨i, _, rfl⟩ := hc; omega
theorem beBytes_byte (v k : Nat) : ∀ c ∈ beBytes v k, 0 ≤ c ∧ c < 256 := by
  intro c hc; simp only [beBytes, List.mem_map] at hc; obtain ⟨i, _, rfl⟩ := hc; omega

/-- Fold and Unfold. -/
def fold (v : Int) : Nat := if 0 ≤ v then (2 * v).toNat else (-2 * v - 1).toNat
def unfold_ (u : Nat) : Int := if u % 2 = 0 then ((u / 2 : Nat) : Int) else -((u / 2 : Nat) : Int) - 1
theorem unfold_fold (v : Int) : unfold_ (fold v) = v := by unfold unfold_ fold; split <;> split <;> omega
theorem fold_unfold (u : Nat) : fold (unfold_ u) = u := by unfold unfold_ fold; split <;> split <;> omega
theorem fold_lt (v : Int) (h1 : -9223372036854775808 ≤ v) (h2 : v < 9223372036854775808) : fold v < 18446744073709551616 := by unfold fold; split <;> omega

end Go.Proofs.Ytbbkdgbgfncjaaa
