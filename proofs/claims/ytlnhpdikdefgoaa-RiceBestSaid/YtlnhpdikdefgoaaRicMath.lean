/- Rice, as plain mathematics: a number in bits, what it costs, the best parameter, blocks; bits in bytes; what is read of bytes; what is packed is read again. -/
import Derived.Test.YtlnhpdikdefgoaaBitsR2
import Derived.Test.YtlnhpdikdefgoaaNumMath
namespace Go.Proofs.Ytlnhpdikdefgoaa
open Go.RowKit
set_option maxRecDepth 100000

/-- A number in bits. -/
def rq (k u : Nat) : List Bool := if u / 2 ^ k < 24 then (List.replicate (u / 2 ^ k) true ++ [false]) ++ bitsOf u k else List.replicate 24 true ++ bitsOf u 32
/-- How many they are. -/
def rsize (k u : Nat) : Nat := if u / 2 ^ k < 24 then u / 2 ^ k + 1 + k else 56
theorem rq_length (k u : Nat) : (rq k u).length = rsize k u := by
  unfold rq rsize
  split
  · simp [bitsOf_length]; omega
  · simp [bitsOf_length]
theorem rsize_le {k : Nat} (hk : k ≤ 24) (u : Nat) : rsize k u ≤ 56 := by unfold rsize; split <;> omega
theorem rsize_pos (k u : Nat) : 1 ≤ rsize k u := by unfold rsize; generalize u / 2 ^ k = q; split <;> omega

/-- What a list costs. -/
def rcost (k : Nat) : List Int → Nat
  | [] => 0
  | v :: r => rsize k (fold v) + rcost k r
theorem rcost_append (k : Nat) (b : List Int) : ∀ a : List Int, rcost k (a ++ b) = rcost k a + rcost k b
  | [] => by simp [rcost]
  | v :: r => by simp only [List.cons_append, rcost, rcost_append k b r]; omega
theorem rcost_le {k : Nat} (hk : k ≤ 24) : ∀ l : List Int, rcost k l ≤ 56 * l.length
  | [] => by simp [rcost]
  | v :: r => by
    have := rcost_le hk r
    have := rsize_le hk (fold v)
    simp only [rcost, List.length_cons]; omega
theorem rcost_take (k : Nat) (l : List Int) {i : Nat} (hi : i < l.length) : rcost k (l.take (i + 1)) = rcost k (l.take i) + rsize k (fold (l.getD i 0)) := by
  have e : l.take (i + 1) = l.take i ++ [l.getD i 0] := by rw [List.take_succ_eq_append_getElem hi]; simp [List.getD, hi]
  rw [e, rcost_append]
  simp [rcost]

/-- The least k (up to m) of which that is the least. -/
def rbestTo (l : List Int) : Nat → Nat
  | 0 => 0
  | k + 1 => if rcost (k + 1) l < rcost (rbestTo l k) l then k + 1 else rbestTo l k
def rbest (l : List Int) : Nat := rbestTo l 24
theorem rbestTo_le (l : List Int) : ∀ m, rbestTo l m ≤ m
  | 0 => Nat.le_refl _
  | m + 1 => by
    have := rbestTo_le l m
    unfold rbestTo; split <;> omega
theorem rbest_le (l : List Int) : rbest l ≤ 24 := rbestTo_le l 24
theorem rbestTo_min (l : List Int) : ∀ m i, i ≤ m → rcost (rbestTo l m) l ≤ rcost i l
  | 0, i, h => by obtain rfl : i = 0 := by omega
                  exact Nat.le_refl _
  | m + 1, i, h => by
    have ih := rbestTo_min l m
    unfold rbestTo
    rcases Nat.lt_or_ge m i with hi | hi
    · obtain rfl : i = m + 1 := by omega
      split <;> omega
    · have := ih i hi
      split <;> omega
theorem rbestTo_least (l : List Int) : ∀ m i, i < rbestTo l m → rcost (rbestTo l m) l < rcost i l
  | 0, i, h => by unfold rbestTo at h; omega
  | m + 1, i, h => by
    have ih := rbestTo_least l m
    have hm := rbestTo_min l m
    unfold rbestTo at h ⊢
    split at h
    · rename_i hc
      rw [if_pos hc]
      have := hm i (by omega)
      omega
    · rename_i hc
      rw [if_neg hc]
      exact ih i h

/-- A block in bits; the first j blocks; all of them. -/
def rnums (k : Nat) : List Int → List Bool
  | [] => []
  | v :: r => rq k (fold v) ++ rnums k r
theorem rnums_append (k : Nat) (b : List Int) : ∀ a : List Int, rnums k (a ++ b) = rnums k a ++ rnums k b
  | [] => rfl
  | v :: r => by simp only [List.cons_append, rnums, rnums_append k b r, List.append_assoc]
theorem rnums_length (k : Nat) : ∀ l : List Int, (rnums k l).length = rcost k l
  | [] => rfl
  | v :: r => by simp only [rnums, rcost, List.length_append, rq_length, rnums_length k r]
theorem rnums_take (k : Nat) (l : List Int) {i : Nat} (hi : i < l.length) : rnums k (l.take (i + 1)) = rnums k (l.take i) ++ rq k (fold (l.getD i 0)) := by
  have e : l.take (i + 1) = l.take i ++ [l.getD i 0] := by rw [List.take_succ_eq_append_getElem hi]; simp [List.getD, hi]
  rw [e, rnums_append]
  simp [rnums]
def rblock (l : List Int) : List Bool := bitsOf (rbest l) 5 ++ rnums (rbest l) l
theorem rblock_length (l : List Int) : (rblock l).length = 5 + rcost (rbest l) l := by simp [rblock, bitsOf_length, rnums_length]
def rpart (l : List Int) (j : Nat) : List Int := (l.drop (64 * j)).take 64
def rto (l : List Int) : Nat → List Bool
  | 0 => []
  | j + 1 => rto l j ++ rblock (rpart l j)
def rblocks (l : List Int) : Nat := (l.length + 63) / 64
def rall (l : List Int) : List Bool := rto l (rblocks l)
theorem rpart_length (l : List Int) (j : Nat) : (rpart l j).length = min 64 (l.length - 64 * j) := by simp [rpart]
theorem rto_length (l : List Int) : ∀ j, (rto l j).length ≤ 5 * j + 56 * min (64 * j) l.length
  | 0 => by simp [rto]
  | j + 1 => by
    have := rto_length l j
    have h2 := rcost_le (rbest_le (rpart l j)) (rpart l j)
    rw [rpart_length] at h2
    simp only [rto, List.length_append, rblock_length]
    omega
theorem rall_length (l : List Int) : (rall l).length ≤ 5 * (l.length / 64 + 1) + 56 * l.length := by
  have := rto_length l (rblocks l)
  unfold rall
  unfold rblocks at *
  omega

/-- Bytes that are just these bits, the last one filled with zeros. -/
structure Bits (bs : List Int) (L : List Bool) : Prop where
  len : bs.length = (L.length + 7) / 8
  byte : ∀ j, 0 ≤ bs.getD j 0 ∧ bs.getD j 0 < 256
  at_ : ∀ i, bitAt bs i = (L.getD i false).toNat
theorem Bits.nil : Bits [] [] := ⟨rfl, fun j => by simp, fun i => by simp [bitAt]⟩

theorem or_byte_nat (a m : Nat) (ha : a < 256) (hm : m ≤ 7) : bits .or .u8 (a : Int) (128 / 2 ^ m) = ((a ||| 2 ^ (7 - m) : Nat) : Int) := by
  have h7 : ∀ m ≤ 7, ((128 : Int) / 2 ^ m) = ((2 ^ (7 - m) : Nat) : Int) ∧ 2 ^ (7 - m) < 256 := by decide
  obtain ⟨h1, h2⟩ := h7 m hm
  rw [h1, u8_or_nat _ _ ha h2]

theorem or_testBit (a m t : Nat) (hm : m ≤ 7) (ht : t ≤ 7) : (a ||| 2 ^ (7 - m)) / 2 ^ (7 - t) % 2 = if t = m then 1 else a / 2 ^ (7 - t) % 2 := by
  have e : ∀ x i : Nat, x / 2 ^ i % 2 = (x.testBit i).toNat := fun x i => by
    rw [Nat.testBit_eq_decide_div_mod_eq]
    rcases Nat.mod_two_eq_zero_or_one (x / 2 ^ i) with h | h <;> simp [h]
  rw [e, e, Nat.testBit_or, Nat.testBit_two_pow]
  by_cases h : t = m
  · subst h; simp
  · rw [if_neg h]
    have : ¬ (7 - m = 7 - t) := by omega
    simp [this]

theorem Bits.snoc {bs : List Int} {L : List Bool} (h : Bits bs L) (b : Bool) : Bits (wbit bs L.length b) (L ++ [b]) := by
  -- the byte that the bit goes to
  have key : ∀ bs' : List Int, bs'.length = (L.length + 1 + 7) / 8 → (∀ j, 0 ≤ bs'.getD j 0 ∧ bs'.getD j 0 < 256) → (∀ i, bitAt bs' i = (L.getD i false).toNat) →
      Bits (if b then bs'.set (L.length / 8) (bits .or .u8 (bs'.getD (L.length / 8) 0) (128 / 2 ^ (L.length % 8))) else bs') (L ++ [b]) := by
    intro bs' hl hb ha
    have hout : ∀ i, (L ++ [b]).getD i false = if i = L.length then b else L.getD i false := by
      intro i
      rcases Nat.lt_trichotomy i L.length with hi | hi | hi
      · rw [if_neg (by omega)]; simp [List.getD, List.getElem?_append_left hi]
      · subst hi; simp
      · rw [if_neg (by omega)]
        simp [List.getD, List.getElem?_eq_none (l := L ++ [b]) (i := i) (by simp; omega), List.getElem?_eq_none (l := L) (i := i) (by omega)]
    have hnone : L.getD L.length false = false := by simp [List.getD]
    cases b with
    | false =>
      refine ⟨by simpa using hl, hb, fun i => ?_⟩
      rw [if_neg (by decide), ha i, hout]
      split
      · rename_i e; rw [e, hnone]
      · rfl
    | true =>
      obtain ⟨a, hA⟩ := Int.eq_ofNat_of_zero_le (hb (L.length / 8)).1
      have ha256 : a < 256 := by have := (hb (L.length / 8)).2; omega
      have hor := or_byte_nat a (L.length % 8) ha256 (by omega)
      rw [if_pos rfl, hA]
      refine ⟨by simpa using hl, byte_set hb (or_byte _ _), fun i => ?_⟩
      rw [hout]
      by_cases hi8 : i / 8 = L.length / 8
      · have hget : (bs'.set (L.length / 8) (bits .or .u8 ((a : Nat) : Int) (128 / 2 ^ (L.length % 8)))).getD (i / 8) 0 = bits .or .u8 ((a : Nat) : Int) (128 / 2 ^ (L.length % 8)) := by
          rw [hi8]
          simp [List.getD, show L.length / 8 < bs'.length by omega]
        unfold bitAt
        rw [hget, hor]
        have := ha i
        unfold bitAt at this
        rw [hi8, hA] at this
        simp only [Int.toNat_natCast] at this ⊢
        rw [or_testBit a (L.length % 8) (i % 8) (by omega) (by omega), this]
        by_cases hm : i % 8 = L.length % 8
        · rw [if_pos hm, if_pos (by omega)]; rfl
        · rw [if_neg hm, if_neg (by omega)]
      · have hget : (bs'.set (L.length / 8) (bits .or .u8 ((a : Nat) : Int) (128 / 2 ^ (L.length % 8)))).getD (i / 8) 0 = bs'.getD (i / 8) 0 := by
          simp [List.getD, List.getElem?_set_ne (Ne.symm hi8)]
        have := ha i
        unfold bitAt at this ⊢
        rw [hget, this, if_neg (by omega)]
  unfold wbit
  by_cases h8 : L.length % 8 = 0
  · rw [if_pos h8]
    refine key (bs ++ [0]) (by have := h.len; simp; omega) (byte_app h.byte) fun i => ?_
    rw [← h.at_ i]
    unfold bitAt
    have : (bs ++ [0]).getD (i / 8) 0 = bs.getD (i / 8) 0 := by
      rcases Nat.lt_trichotomy (i / 8) bs.length with hi | hi | hi
      · simp [List.getD, List.getElem?_append_left hi]
      · rw [hi]; simp
      · simp [List.getD, List.getElem?_eq_none (l := bs ++ [0]) (i := i / 8) (by simp; omega), List.getElem?_eq_none (l := bs) (i := i / 8) (by omega)]
    rw [this]
  · rw [if_neg h8]
    exact key bs (by have := h.len; omega) h.byte h.at_

theorem Bits.many : ∀ (M : List Bool) {bs : List Int} {L : List Bool}, Bits bs L → Bits (wmany bs L.length M) (L ++ M)
  | [], bs, L, h => by simpa [wmany] using h
  | b :: r, bs, L, h => by
    have := Bits.many r (h.snoc b)
    rw [List.length_append, List.append_assoc] at this
    exact this
/-- The bytes of these bits. -/
def pk (L : List Bool) : List Int := wmany [] 0 L
theorem pk_bits (L : List Bool) : Bits (pk L) L := Bits.nil.many L
theorem pk_length (L : List Bool) : (pk L).length = (L.length + 7) / 8 := (pk_bits L).len

/-- From place p on the bits M stand in the bytes. -/
structure Stands (bs : List Int) (p : Nat) (M : List Bool) : Prop where
  le : p + M.length ≤ 8 * bs.length
  at_ : ∀ i, i < M.length → bitAt bs (p + i) = (M.getD i false).toNat
theorem Stands.left {bs : List Int} {p : Nat} {M R : List Bool} (h : Stands bs p (M ++ R)) : Stands bs p M :=
  ⟨by have := h.le; simp at this; omega, fun i hi => by
    rw [h.at_ i (by simp; omega)]; simp [List.getD, List.getElem?_append_left hi]⟩
theorem Stands.right {bs : List Int} {p : Nat} {M R : List Bool} (h : Stands bs p (M ++ R)) : Stands bs (p + M.length) R :=
  ⟨by have := h.le; simp at this; omega, fun i hi => by
    rw [Nat.add_assoc, h.at_ (M.length + i) (by simp; omega)]; simp [List.getD, List.getElem?_append_right]⟩
theorem Stands.pk (L : List Bool) (more : List Int) : Stands (pk L ++ more) 0 L := by
  have h := pk_bits L
  refine ⟨by have := h.len; simp; omega, fun i hi => ?_⟩
  rw [← h.at_ i, Nat.zero_add]
  unfold bitAt
  have : (Go.Proofs.Ytlnhpdikdefgoaa.pk L ++ more).getD (i / 8) 0 = (Go.Proofs.Ytlnhpdikdefgoaa.pk L).getD (i / 8) 0 := by
    simp [List.getD, List.getElem?_append_left (l₁ := Go.Proofs.Ytlnhpdikdefgoaa.pk L) (l₂ := more) (i := i / 8) (by have := h.len; omega)]
  rw [this]

theorem num_stands {bs : List Int} {p u k : Nat} (h : Stands bs p (bitsOf u k)) : numAt bs p k = u % 2 ^ k := by
  have hb : ∀ j, j < k → bitAt bs (p + j) = u / 2 ^ (k - 1 - j) % 2 := by
    intro j hj
    rw [h.at_ j (by rw [bitsOf_length]; exact hj)]
    simp only [bitsOf, List.getD, List.getElem?_map, List.getElem?_range hj, Option.map_some, Option.getD_some]
    rw [Nat.testBit_eq_decide_div_mod_eq]
    rcases Nat.mod_two_eq_zero_or_one (u / 2 ^ (k - 1 - j)) with h | h <;> simp [h]
  have : ∀ j, j ≤ k → numAt bs p j = u / 2 ^ (k - j) % 2 ^ j := by
    intro j
    induction j with
    | zero => intro _; simp [numAt, Nat.mod_one]
    | succ j ih =>
      intro hj
      simp only [numAt]
      rw [ih (by omega), hb j (by omega), show k - 1 - j = k - (j + 1) by omega]
      obtain ⟨x, hx⟩ : ∃ x, u / 2 ^ (k - (j + 1)) = x := ⟨_, rfl⟩
      have e : u / 2 ^ (k - j) = x / 2 := by
        rw [← hx, Nat.div_div_eq_div_mul, ← Nat.pow_succ, show (k - (j + 1)).succ = k - j by omega]
      rw [e, hx, Nat.pow_succ, Nat.mul_comm (2 ^ j) 2, Nat.mod_mul]
      omega
  rw [this k (Nat.le_refl _), Nat.sub_self, Nat.pow_zero, Nat.div_one]

theorem all_true (m i : Nat) (hi : i < m) : ((List.replicate m true).getD i false).toNat = 1 := by simp [List.getD, hi]
theorem ones_stands {bs : List Int} {p q : Nat} (h : Stands bs p (List.replicate q true ++ [false])) (hq : q < 24) :
    sUnary bs p 0 24 (8 * bs.length - p) = (q, p + q + 1, 0) := by
  have hle := h.le
  simp at hle
  have e : onesN bs p (min 24 (8 * bs.length - p)) = q := onesN_eq bs q p _ (by omega)
    (fun i hi => by rw [h.left.at_ i (by simpa using hi), all_true _ _ hi]; decide)
    (.inr (by have := h.right.at_ 0 (by simp); simpa using this))
  unfold sUnary
  rw [e, if_neg (by omega), if_neg (by omega), if_neg (by omega)]
theorem escape_stands {bs : List Int} {p : Nat} (h : Stands bs p (List.replicate 24 true)) :
    sUnary bs p 0 24 (8 * bs.length - p) = (24, p + 24, 0) := by
  have hle := h.le
  simp at hle
  have e : onesN bs p (min 24 (8 * bs.length - p)) = 24 := onesN_eq bs 24 p _ (by omega)
    (fun i hi => by rw [h.at_ i (by simpa using hi), all_true _ _ hi]; decide)
    (.inl (by omega))
  unfold sUnary
  rw [e, if_neg (by omega), if_pos rfl]
theorem bits_stands {bs : List Int} {p u k : Nat} (h : Stands bs p (bitsOf u k)) (hu : u < 2 ^ k) : sBits bs p 0 k = (u, p + k, 0) := by
  have hle := h.le
  rw [bitsOf_length] at hle
  unfold sBits
  rw [if_neg (by omega), if_neg (by omega), num_stands h, Nat.mod_eq_of_lt hu]
theorem bitsOf_mod (u k : Nat) : bitsOf (u % 2 ^ k) k = bitsOf u k := by
  unfold bitsOf
  apply List.map_congr_left
  intro j hj
  have hj := List.mem_range.1 hj
  rw [Nat.testBit_mod_two_pow]
  simp [show k - 1 - j < k by omega]

/-- One number, read: the number, the place behind it, the fault. -/
def rnum (bs : List Int) (p : Nat) (err : Int) (k : Nat) : Nat × Nat × Int :=
  let s := sUnary bs p err 24 (8 * bs.length - p)
  let t := sBits bs s.2.1 s.2.2 (if s.1 < 24 then min k 24 else 32)
  (if s.1 < 24 then s.1 * 2 ^ min k 24 + t.1 else t.1, t.2.1, t.2.2)

theorem rnum_stands {bs : List Int} {p u k : Nat} (h : Stands bs p (rq k u)) (hk : k ≤ 24) (hu : u < 4294967296) : rnum bs p 0 k = (u, p + rsize k u, 0) := by
  unfold rq at h
  unfold rnum rsize
  by_cases hq : u / 2 ^ k < 24
  · rw [if_pos hq] at h
    rw [if_pos hq, ones_stands h.left hq]
    have h2 := h.right
    rw [← bitsOf_mod] at h2
    have e := bits_stands h2 (Nat.mod_lt _ (Nat.two_pow_pos k))
    simp only [List.length_append, List.length_replicate, List.length_cons, List.length_nil, Nat.zero_add] at e
    rw [← Nat.add_assoc] at e
    simp only [if_pos hq, Nat.min_eq_left hk, e]
    refine Prod.ext ?_ (Prod.ext (by simp only []; omega) rfl)
    simp only []
    rw [Nat.mul_comm]
    exact Nat.div_add_mod u (2 ^ k)
  · rw [if_neg hq] at h
    rw [if_neg hq, escape_stands h.left]
    have e := bits_stands h.right (by simpa using hu)
    simp only [List.length_replicate] at e
    simp only [Nat.lt_irrefl, if_false, e]

/-- The parameter for the i-th number, and the place and fault behind that; the number. -/
def rhead (bs : List Int) (i p k : Nat) : Nat × Nat × Int := if i % 64 = 0 then sBits bs p 0 5 else (k, p, 0)
def rone (bs : List Int) (i p k : Nat) : Nat × Nat × Int := rnum bs (rhead bs i p k).2.1 (rhead bs i p k).2.2 (rhead bs i p k).1
/-- n numbers, read: the place, the parameter, the numbers; or none. -/
def rrd (bs : List Int) : Nat → Option (Nat × Nat × List Int)
  | 0 => some (0, 0, [])
  | i + 1 => match rrd bs i with
    | none => none
    | some s => if (rone bs i s.1 s.2.1).2.2 = 0 then some ((rone bs i s.1 s.2.1).2.1, (rhead bs i s.1 s.2.1).1, s.2.2 ++ [unfold_ (rone bs i s.1 s.2.1).1]) else none
theorem rrd_some {bs : List Int} {i p k : Nat} {out : List Int} (h : rrd bs i = some (p, k, out)) (h0 : (rone bs i p k).2.2 = 0) :
    rrd bs (i + 1) = some ((rone bs i p k).2.1, (rhead bs i p k).1, out ++ [unfold_ (rone bs i p k).1]) := by
  simp only [rrd, h]
  rw [if_pos h0]
theorem rrd_stop {bs : List Int} {i p k : Nat} {out : List Int} (h : rrd bs i = some (p, k, out)) (h0 : (rone bs i p k).2.2 ≠ 0) : rrd bs (i + 1) = none := by
  simp only [rrd, h]
  rw [if_neg h0]
theorem rrd_none {bs : List Int} {i : Nat} (h : rrd bs i = none) : ∀ n, i ≤ n → rrd bs n = none := by
  intro n hn
  obtain ⟨d, rfl⟩ : ∃ d, n = i + d := ⟨n - i, by omega⟩
  clear hn
  induction d with
  | zero => exact h
  | succ d ih =>
    show rrd bs (i + d + 1) = none
    simp only [rrd, ih]

/-- All are numbers of 32 bits. -/
def R32 (l : List Int) : Prop := ∀ v ∈ l, -2147483648 ≤ v ∧ v < 2147483648
theorem R32.fold_lt {l : List Int} (h : R32 l) (i : Nat) : fold (l.getD i 0) < 4294967296 := by
  have : -2147483648 ≤ l.getD i 0 ∧ l.getD i 0 < 2147483648 := by
    by_cases hi : i < l.length
    · have := h (l.getD i 0) (by simp [List.getD, hi])
      exact this
    · simp [List.getD, List.getElem?_eq_none (Nat.le_of_not_lt hi)]
  unfold fold; split <;> omega

theorem rrd_block {bs : List Int} {j p k0 : Nat} {out P : List Int} (h0 : rrd bs (64 * j) = some (p, k0, out)) (hP : R32 P) (h64 : P.length ≤ 64) (hS : Stands bs p (rblock P)) :
    ∀ r, 0 < r → r ≤ P.length → rrd bs (64 * j + r) = some (p + 5 + rcost (rbest P) (P.take r), rbest P, out ++ P.take r) := by
  have hbest := rbest_le P
  have hk := bits_stands hS.left (Nat.lt_of_le_of_lt hbest (by decide))
  have hN := hS.right
  rw [bitsOf_length] at hN
  have hone : ∀ r, r < P.length → rnum bs (p + 5 + rcost (rbest P) (P.take r)) 0 (rbest P) = (fold (P.getD r 0), p + 5 + rcost (rbest P) (P.take (r + 1)), 0) := by
    intro r hr
    have e : rnums (rbest P) P = rnums (rbest P) (P.take r) ++ (rq (rbest P) (fold (P.getD r 0)) ++ rnums (rbest P) (P.drop (r + 1))) := by
      rw [← List.append_assoc, ← rnums_take _ _ hr, ← rnums_append, List.take_append_drop]
    rw [e] at hN
    have h2 := hN.right.left
    rw [rnums_length] at h2
    rw [rnum_stands h2 hbest (hP.fold_lt r), rcost_take _ _ hr, Nat.add_assoc]
  intro r
  induction r with
  | zero => intro h; omega
  | succ r ih =>
    intro _ hr
    have e : P.take (r + 1) = P.take r ++ [P.getD r 0] := by rw [List.take_succ_eq_append_getElem (by omega)]; simp [List.getD, show r < P.length by omega]
    have h1 := hone r (by omega)
    rcases Nat.eq_zero_or_pos r with h | h
    · subst h
      have hh : rhead bs (64 * j) p k0 = (rbest P, p + 5, 0) := by unfold rhead; rw [if_pos (by omega), hk]
      rw [show rcost (rbest P) (P.take 0) = 0 from rfl, Nat.add_zero] at h1
      have ho : rone bs (64 * j) p k0 = (fold (P.getD 0 0), p + 5 + rcost (rbest P) (P.take 1), 0) := by unfold rone; rw [hh]; exact h1
      have := rrd_some h0 (by rw [ho])
      rw [ho, hh, unfold_fold] at this
      rw [show 64 * j + (0 + 1) = 64 * j + 1 from rfl, this, e]
      rfl
    · have hp := ih h (by omega)
      have hh : rhead bs (64 * j + r) (p + 5 + rcost (rbest P) (P.take r)) (rbest P) = (rbest P, p + 5 + rcost (rbest P) (P.take r), 0) := by unfold rhead; rw [if_neg (by omega)]
      have ho : rone bs (64 * j + r) (p + 5 + rcost (rbest P) (P.take r)) (rbest P) = (fold (P.getD r 0), p + 5 + rcost (rbest P) (P.take (r + 1)), 0) := by unfold rone; rw [hh]; exact h1
      have := rrd_some hp (by rw [ho])
      rw [ho, hh, unfold_fold] at this
      rw [show 64 * j + (r + 1) = 64 * j + r + 1 from rfl, this, e, List.append_assoc]

theorem rpart_getD (l : List Int) (j r : Nat) (hr : r < 64) : (rpart l j).getD r 0 = l.getD (64 * j + r) 0 := by
  simp [rpart, List.getD, hr]
theorem rpart_32 {l : List Int} (h : R32 l) (j : Nat) : R32 (rpart l j) := fun v hv => h v (List.mem_of_mem_drop (List.mem_of_mem_take hv))
theorem take_part (l : List Int) (j : Nat) : l.take (64 * j) ++ rpart l j = l.take (64 * (j + 1)) := by
  unfold rpart
  rw [show 64 * (j + 1) = 64 * j + 64 by omega, List.take_add]

theorem rrd_blocks {bs l : List Int} (hl : R32 l) : ∀ j, 64 * j < l.length + 64 → Stands bs 0 (rto l j) → ∃ k, rrd bs (min (64 * j) l.length) = some ((rto l j).length, k, l.take (64 * j))
  | 0, _, _ => ⟨0, by simp [rrd, rto]⟩
  | j + 1, hj, hS => by
    obtain ⟨k, h0⟩ := rrd_blocks hl j (by omega) hS.left
    have hlt : 64 * j < l.length := by omega
    rw [Nat.min_eq_left (by omega)] at h0
    have h2 := hS.right
    rw [Nat.zero_add] at h2
    have hlen := rpart_length l j
    have := rrd_block h0 (rpart_32 hl j) (by omega) h2 (rpart l j).length (by omega) (Nat.le_refl _)
    rw [List.take_length, take_part] at this
    refine ⟨rbest (rpart l j), ?_⟩
    rw [show min (64 * (j + 1)) l.length = 64 * j + (rpart l j).length by omega, this]
    simp only [rto, List.length_append, rblock_length, Nat.add_assoc]

theorem rrd_all {bs l : List Int} (hl : R32 l) (hS : Stands bs 0 (rall l)) : ∃ p k, rrd bs l.length = some (p, k, l) := by
  obtain ⟨k, h⟩ := rrd_blocks hl (rblocks l) (by unfold rblocks; omega) hS
  rw [Nat.min_eq_right (by unfold rblocks; omega), List.take_of_length_le (by unfold rblocks; omega)] at h
  exact ⟨_, k, h⟩

theorem rrd_length (bs : List Int) : ∀ n p k out, rrd bs n = some (p, k, out) → out.length = n
  | 0, p, k, out, h => by simp only [rrd, Option.some.injEq, Prod.mk.injEq] at h; obtain ⟨_, _, rfl⟩ := h; rfl
  | n + 1, p, k, out, h => by
    rcases e : rrd bs n with _ | ⟨p', k', out'⟩
    · rw [rrd_none e (n + 1) (by omega)] at h; cases h
    · have := rrd_length bs n p' k' out' e
      by_cases h0 : (rone bs n p' k').2.2 = 0
      · rw [rrd_some e h0] at h
        simp only [Option.some.injEq, Prod.mk.injEq] at h
        obtain ⟨_, _, rfl⟩ := h
        simp [this]
      · rw [rrd_stop e h0] at h; cases h

/-- Of n bytes' bits the numbers l are the pack. -/
def okR (bs : List Int) (n : Nat) (l : List Int) : Prop := l.length = n ∧ R32 l ∧ pk (rall l) = bs
theorem okR.read {bs : List Int} {n : Nat} {l : List Int} (h : okR bs n l) : ∃ p k, rrd bs n = some (p, k, l) := by
  obtain ⟨rfl, h32, rfl⟩ := h
  exact rrd_all h32 (by simpa using Stands.pk (rall l) [])
theorem okR.uniq {bs : List Int} {n : Nat} {l m : List Int} (h : okR bs n l) (h' : okR bs n m) : l = m := by
  obtain ⟨p, k, e⟩ := h.read
  obtain ⟨p', k', e'⟩ := h'.read
  rw [e] at e'
  simp only [Option.some.injEq, Prod.mk.injEq] at e'
  exact e'.2.2
/-- With more behind it is no pack of so many. -/
theorem okR.more {l m : List Int} (hl : R32 l) (x : List Int) (hx : x ≠ []) (h : okR (pk (rall l) ++ x) l.length m) : False := by
  obtain ⟨p, k, e⟩ := h.read
  obtain ⟨p', k', e'⟩ := rrd_all hl (Stands.pk (rall l) x)
  rw [e] at e'
  simp only [Option.some.injEq, Prod.mk.injEq] at e'
  obtain rfl := e'.2.2
  have := congrArg List.length h.2.2
  rw [List.length_append] at this
  exact hx (List.eq_nil_of_length_eq_zero (by omega))

theorem sBits_lt (bs : List Int) (p : Nat) (err : Int) (k : Nat) : (sBits bs p err k).1 < 2 ^ k := by
  unfold sBits
  have := Nat.two_pow_pos k
  split
  · exact this
  · split
    · exact this
    · exact numAt_lt bs p k
theorem sUnary_le (bs : List Int) (p : Nat) (err : Int) (m L : Nat) : (sUnary bs p err m L).1 ≤ m := by
  have := onesN_le bs (min m L) p
  unfold sUnary
  split
  · simp
  · split
    · simp
    · split
      · simp
      · simp only []; omega
theorem rnum_lt (bs : List Int) (p : Nat) (err : Int) (k : Nat) : (rnum bs p err k).1 < 4294967296 := by
  unfold rnum
  simp only []
  generalize sUnary bs p err 24 (8 * bs.length - p) = s
  by_cases h : s.1 < 24
  · simp only [if_pos h]
    have hb := sBits_lt bs s.2.1 s.2.2 (min k 24)
    generalize (sBits bs s.2.1 s.2.2 (min k 24)).1 = t at *
    have hk : 2 ^ min k 24 ≤ 2 ^ 24 := Nat.pow_le_pow_right (by decide) (by omega)
    generalize 2 ^ min k 24 = z at *
    have : s.1 * z ≤ 23 * z := Nat.mul_le_mul_right _ (by omega)
    omega
  · simp only [if_neg h]
    exact sBits_lt bs s.2.1 s.2.2 32
theorem unfold_32 {u : Nat} (hu : u < 4294967296) : -2147483648 ≤ unfold_ u ∧ unfold_ u < 2147483648 := by
  unfold unfold_; split <;> omega
theorem rrd_32 (bs : List Int) : ∀ n p k out, rrd bs n = some (p, k, out) → R32 out
  | 0, p, k, out, h => by
    simp only [rrd, Option.some.injEq, Prod.mk.injEq] at h
    obtain ⟨_, _, rfl⟩ := h
    exact fun v hv => (by cases hv)
  | n + 1, p, k, out, h => by
    rcases e : rrd bs n with _ | ⟨p', k', out'⟩
    · rw [rrd_none e (n + 1) (by omega)] at h; cases h
    · have ih := rrd_32 bs n p' k' out' e
      by_cases h0 : (rone bs n p' k').2.2 = 0
      · rw [rrd_some e h0] at h
        simp only [Option.some.injEq, Prod.mk.injEq] at h
        obtain ⟨_, _, rfl⟩ := h
        intro v hv
        rcases List.mem_append.1 hv with hv | hv
        · exact ih v hv
        · rw [List.mem_singleton.1 hv]
          exact unfold_32 (rnum_lt _ _ _ _)
      · rw [rrd_stop e h0] at h; cases h
/-- The numbers of which that is the pack. -/
def unR (bs : List Int) (n : Nat) : Option (List Int) := match rrd bs n with
  | none => none
  | some s => if pk (rall s.2.2) = bs then some s.2.2 else none
theorem unR_some {bs : List Int} {n p k : Nat} {out : List Int} (h : rrd bs n = some (p, k, out)) : unR bs n = if pk (rall out) = bs then some out else none := by
  simp only [unR, h]
theorem unR_none {bs : List Int} {n i : Nat} (h : rrd bs i = none) (hi : i ≤ n) : unR bs n = none := by
  simp only [unR, rrd_none h n hi]
theorem unR_iff (bs : List Int) (n : Nat) (l : List Int) : unR bs n = some l ↔ okR bs n l := by
  constructor
  · intro h
    rcases e : rrd bs n with _ | ⟨p, k, out⟩
    · rw [unR_none e (Nat.le_refl _)] at h; cases h
    · rw [unR_some e] at h
      split at h
      · rename_i hp
        injection h with h
        subst h
        exact ⟨rrd_length bs n p k out e, rrd_32 bs n p k out e, hp⟩
      · cases h
  · intro h
    obtain ⟨p, k, e⟩ := h.read
    rw [unR_some e, if_pos h.2.2]

theorem pk_bytes (L : List Bool) : ∀ x ∈ pk L, 0 ≤ x ∧ x < 256 := fun x hx => by
  obtain ⟨i, hi, rfl⟩ := List.getElem_of_mem hx
  have := (pk_bits L).byte i
  simpa [List.getD, hi] using this

end Go.Proofs.Ytlnhpdikdefgoaa
