/- Texts of this proof, one behind the other: RicMath, RicQW, NumFold, RicQ, RicP, RicU, RicAw, RicCW, RicC, Chunk, RicE, BitsNew, RicD, RicF, Equal, RicG, RicH. -/
import Derived.Test.YtodmchjdflpbpaaBitsR2
import Derived.Test.YtodmchjdflpbpaaNumMath
import Derived.Test.YtodmchjdflpbpaaZeros
import Derived.Test.YtodmchjdflpbpaaBitsRef
import Derived.Deep.DrawnRows
import Derived.Test.YtodmchjdflpbpaaHelpStr
import Derived.RangeFuncNested
import Derived.RangeFuncBound
import Derived.RangeFuncCalls
import Derived.RangeFuncLeaves
import Derived.Shelf.Abstract
import Derived.Shelf.RegionOpen
import Derived.WalkKit
import Derived.OwnWalkIn
import Derived.TacticsInMore
import Derived.LoopNIn
import Derived.LoopIn
import Derived.Lib.MinMax
import Derived.Test.YtodmchjdflpbpaaRangeKit
import Derived.Deep.RegionHeld3

/- Rice, as plain mathematics: a number in bits, what it costs, the best parameter, blocks; bits in bytes; what is read of bytes; what is packed is read again. -/
namespace Go.Proofs.Ytodmchjdflpbpaa
open Go.RowKit
set_option maxRecDepth 100000

/-- A number in bits. -/
def rq (k u : Nat) : List Bool := if u / 2 ^ k < 24 then (List.replicate (u / 2 ^ k) true ++ [false]) ++ bitsOf u k else List.replicate 24 true ++ bitsOf u 32
/-- How many they are. -/
def rsize (k u : Nat) : Nat := if u / 2 ^ k < 24 then u / 2 ^ k + 1 + k else 56
theorem rq_length (k u : Nat) : (rq k u).length = rsize k u := by
  unfold rq rsize
  split
  · simp [bitsOf_length]; omega
  · simp [bitsOf_length]
theorem rsize_le {k : Nat} (hk : k ≤ 24) (u : Nat) : rsize k u ≤ 56 := by unfold rsize; split <;> omega
theorem rsize_pos (k u : Nat) : 1 ≤ rsize k u := by unfold rsize; generalize u / 2 ^ k = q; split <;> omega

/-- What a list costs. -/
def rcost (k : Nat) : List Int → Nat
  | [] => 0
  | v :: r => rsize k (fold v) + rcost k r
theorem rcost_append (k : Nat) (b : List Int) : ∀ a : List Int, rcost k (a ++ b) = rcost k a + rcost k b
  | [] => by simp [rcost]
  | v :: r => by simp only [List.cons_append, rcost, rcost_append k b r]; omega
theorem rcost_le {k : Nat} (hk : k ≤ 24) : ∀ l : List Int, rcost k l ≤ 56 * l.length
  | [] => by simp [rcost]
  | v :: r => by
    have := rcost_le hk r
    have := rsize_le hk (fold v)
    simp only [rcost, List.length_cons]; omega
theorem rcost_take (k : Nat) (l : List Int) {i : Nat} (hi : i < l.length) : rcost k (l.take (i + 1)) = rcost k (l.take i) + rsize k (fold (l.getD i 0)) := by
  have e : l.take (i + 1) = l.take i ++ [l.getD i 0] := by rw [List.take_succ_eq_append_getElem hi]; simp [List.getD, hi]
  rw [e, rcost_append]
  simp [rcost]

/-- The least k (up to m) of which that is the least. -/
def rbestTo (l : List Int) : Nat → Nat
  | 0 => 0
  | k + 1 => if rcost (k + 1) l < rcost (rbestTo l k) l then k + 1 else rbestTo l k
def rbest (l : List Int) : Nat := rbestTo l 24
theorem rbestTo_le (l : List Int) : ∀ m, rbestTo l m ≤ m
  | 0 => Nat.le_refl _
  | m + 1 => by
    have := rbestTo_le l m
    unfold rbestTo; split <;> omega
theorem rbest_le (l : List Int) : rbest l ≤ 24 := rbestTo_le l 24
theorem rbestTo_min (l : List Int) : ∀ m i, i ≤ m → rcost (rbestTo l m) l ≤ rcost i l
  | 0, i, h => by obtain rfl : i = 0 := by omega
                  exact Nat.le_refl _
  | m + 1, i, h => by
    have ih := rbestTo_min l m
    unfold rbestTo
    rcases Nat.lt_or_ge m i with hi | hi
    · obtain rfl : i = m + 1 := by omega
      split <;> omega
    · have := ih i hi
      split <;> omega
theorem rbestTo_least (l : List Int) : ∀ m i, i < rbestTo l m → rcost (rbestTo l m) l < rcost i l
  | 0, i, h => by unfold rbestTo at h; omega
  | m + 1, i, h => by
    have ih := rbestTo_least l m
    have hm := rbestTo_min l m
    unfold rbestTo at h ⊢
    split at h
    · rename_i hc
      rw [if_pos hc]
      have := hm i (by omega)
      omega
    · rename_i hc
      rw [if_neg hc]
      exact ih i h

/-- A block in bits; the first j blocks; all of them. -/
def rnums (k : Nat) : List Int → List Bool
  | [] => []
  | v :: r => rq k (fold v) ++ rnums k r
theorem rnums_append (k : Nat) (b : List Int) : ∀ a : List Int, rnums k (a ++ b) = rnums k a ++ rnums k b
  | [] => rfl
  | v :: r => by simp only [List.cons_append, rnums, rnums_append k b r, List.append_assoc]
theorem rnums_length (k : Nat) : ∀ l : List Int, (rnums k l).length = rcost k l
  | [] => rfl
  | v :: r => by simp only [rnums, rcost, List.length_append, rq_length, rnums_length k r]
theorem rnums_take (k : Nat) (l : List Int) {i : Nat} (hi : i < l.length) : rnums k (l.take (i + 1)) = rnums k (l.take i) ++ rq k (fold (l.getD i 0)) := by
  have e : l.take (i + 1) = l.take i ++ [l.getD i 0] := by rw [List.take_succ_eq_append_getElem hi]; simp [List.getD, hi]
  rw [e, rnums_append]
  simp [rnums]
def rblock (l : List Int) : List Bool := bitsOf (rbest l) 5 ++ rnums (rbest l) l
theorem rblock_length (l : List Int) : (rblock l).length = 5 + rcost (rbest l) l := by simp [rblock, bitsOf_length, rnums_length]
def rpart (l : List Int) (j : Nat) : List Int := (l.drop (64 * j)).take 64
def rto (l : List Int) : Nat → List Bool
  | 0 => []
  | j + 1 => rto l j ++ rblock (rpart l j)
def rblocks (l : List Int) : Nat := (l.length + 63) / 64
def rall (l : List Int) : List Bool := rto l (rblocks l)
theorem rpart_length (l : List Int) (j : Nat) : (rpart l j).length = min 64 (l.length - 64 * j) := by simp [rpart]
theorem rto_length (l : List Int) : ∀ j, (rto l j).length ≤ 5 * j + 56 * min (64 * j) l.length
  | 0 => by simp [rto]
  | j + 1 => by
    have := rto_length l j
    have h2 := rcost_le (rbest_le (rpart l j)) (rpart l j)
    rw [rpart_length] at h2
    simp only [rto, List.length_append, rblock_length]
    omega
theorem rall_length (l : List Int) : (rall l).length ≤ 5 * (l.length / 64 + 1) + 56 * l.length := by
  have := rto_length l (rblocks l)
  unfold rall
  unfold rblocks at *
  omega

/-- Bytes that are just these bits, the last one filled with zeros. -/
structure Bits (bs : List Int) (L : List Bool) : Prop where
  len : bs.length = (L.length + 7) / 8
  byte : ∀ j, 0 ≤ bs.getD j 0 ∧ bs.getD j 0 < 256
  at_ : ∀ i, bitAt bs i = (L.getD i false).toNat
theorem Bits.nil : Bits [] [] := ⟨rfl, fun j => by simp, fun i => by simp [bitAt]⟩

theorem or_byte_nat (a m : Nat) (ha : a < 256) (hm : m ≤ 7) : bits .or .u8 (a : Int) (128 / 2 ^ m) = ((a ||| 2 ^ (7 - m) : Nat) : Int) := by
  have h7 : ∀ m ≤ 7, ((128 : Int) / 2 ^ m) = ((2 ^ (7 - m) : Nat) : Int) ∧ 2 ^ (7 - m) < 256 := by decide
  obtain ⟨h1, h2⟩ := h7 m hm
  rw [h1, u8_or_nat _ _ ha h2]

theorem or_testBit (a m t : Nat) (hm : m ≤ 7) (ht : t ≤ 7) : (a ||| 2 ^ (7 - m)) / 2 ^ (7 - t) % 2 = if t = m then 1 else a / 2 ^ (7 - t) % 2 := by
  have e : ∀ x i : Nat, x / 2 ^ i % 2 = (x.testBit i).toNat := fun x i => by
    rw [Nat.testBit_eq_decide_div_mod_eq]
    rcases Nat.mod_two_eq_zero_or_one (x / 2 ^ i) with h | h <;> simp [h]
  rw [e, e, Nat.testBit_or, Nat.testBit_two_pow]
  by_cases h : t = m
  · subst h; simp
  · rw [if_neg h]
    have : ¬ (7 - m = 7 - t) := by omega
    simp [this]

theorem Bits.snoc {bs : List Int} {L : List Bool} (h : Bits bs L) (b : Bool) : Bits (wbit bs L.length b) (L ++ [b]) := by
  -- the byte that the bit goes to
  have key : ∀ bs' : List Int, bs'.length = (L.length + 1 + 7) / 8 → (∀ j, 0 ≤ bs'.getD j 0 ∧ bs'.getD j 0 < 256) → (∀ i, bitAt bs' i = (L.getD i false).toNat) →
      Bits (if b then bs'.set (L.length / 8) (bits .or .u8 (bs'.getD (L.length / 8) 0) (128 / 2 ^ (L.length % 8))) else bs') (L ++ [b]) := by
    intro bs' hl hb ha
    have hout : ∀ i, (L ++ [b]).getD i false = if i = L.length then b else L.getD i false := by
      intro i
      rcases Nat.lt_trichotomy i L.length with hi | hi | hi
      · rw [if_neg (by omega)]; simp [List.getD, List.getElem?_append_left hi]
      · subst hi; simp
      · rw [if_neg (by omega)]
        simp [List.getD, List.getElem?_eq_none (l := L ++ [b]) (i := i) (by simp; omega), List.getElem?_eq_none (l := L) (i := i) (by omega)]
    have hnone : L.getD L.length false = false := by simp [List.getD]
    cases b with
    | false =>
      refine ⟨by simpa using hl, hb, fun i => ?_⟩
      rw [if_neg (by decide), ha i, hout]
      split
      · rename_i e; rw [e, hnone]
      · rfl
    | true =>
      obtain ⟨a, hA⟩ := Int.eq_ofNat_of_zero_le (hb (L.length / 8)).1
      have ha256 : a < 256 := by have := (hb (L.length / 8)).2; omega
      have hor := or_byte_nat a (L.length % 8) ha256 (by omega)
      rw [if_pos rfl, hA]
      refine ⟨by simpa using hl, byte_set hb (or_byte _ _), fun i => ?_⟩
      rw [hout]
      by_cases hi8 : i / 8 = L.length / 8
      · have hget : (bs'.set (L.length / 8) (bits .or .u8 ((a : Nat) : Int) (128 / 2 ^ (L.length % 8)))).getD (i / 8) 0 = bits .or .u8 ((a : Nat) : Int) (128 / 2 ^ (L.length % 8)) := by
          rw [hi8]
          simp [List.getD, show L.length / 8 < bs'.length by omega]
        unfold bitAt
        rw [hget, hor]
        have := ha i
        unfold bitAt at this
        rw [hi8, hA] at this
        simp only [Int.toNat_natCast] at this ⊢
        rw [or_testBit a (L.length % 8) (i % 8) (by omega) (by omega), this]
        by_cases hm : i % 8 = L.length % 8
        · rw [if_pos hm, if_pos (by omega)]; rfl
        · rw [if_neg hm, if_neg (by omega)]
      · have hget : (bs'.set (L.length / 8) (bits .or .u8 ((a : Nat) : Int) (128 / 2 ^ (L.length % 8)))).getD (i / 8) 0 = bs'.getD (i / 8) 0 := by
          simp [List.getD, List.getElem?_set_ne (Ne.symm hi8)]
        have := ha i
        unfold bitAt at this ⊢
        rw [hget, this, if_neg (by omega)]
  unfold wbit
  by_cases h8 : L.length % 8 = 0
  · rw [if_pos h8]
    refine key (bs ++ [0]) (by have := h.len; simp; omega) (byte_app h.byte) fun i => ?_
    rw [← h.at_ i]
    unfold bitAt
    have : (bs ++ [0]).getD (i / 8) 0 = bs.getD (i / 8) 0 := by
      rcases Nat.lt_trichotomy (i / 8) bs.length with hi | hi | hi
      · simp [List.getD, List.getElem?_append_left hi]
      · rw [hi]; simp
      · simp [List.getD, List.getElem?_eq_none (l := bs ++ [0]) (i := i / 8) (by simp; omega), List.getElem?_eq_none (l := bs) (i := i / 8) (by omega)]
    rw [this]
  · rw [if_neg h8]
    exact key bs (by have := h.len; omega) h.byte h.at_

theorem Bits.many : ∀ (M : List Bool) {bs : List Int} {L : List Bool}, Bits bs L → Bits (wmany bs L.length M) (L ++ M)
  | [], bs, L, h => by simpa [wmany] using h
  | b :: r, bs, L, h => by
    have := Bits.many r (h.snoc b)
    rw [List.length_append, List.append_assoc] at this
    exact this
/-- The bytes of these bits. -/
def pk (L : List Bool) : List Int := wmany [] 0 L
theorem pk_bits (L : List Bool) : Bits (pk L) L := Bits.nil.many L
theorem pk_length (L : List Bool) : (pk L).length = (L.length + 7) / 8 := (pk_bits L).len

/-- From place p on the bits M stand in the bytes. -/
structure Stands (bs : List Int) (p : Nat) (M : List Bool) : Prop where
  le : p + M.length ≤ 8 * bs.length
  at_ : ∀ i, i < M.length → bitAt bs (p + i) = (M.getD i false).toNat
theorem Stands.left {bs : List Int} {p : Nat} {M R : List Bool} (h : Stands bs p (M ++ R)) : Stands bs p M :=
  ⟨by have := h.le; simp at this; omega, fun i hi => by
    rw [h.at_ i (by simp; omega)]; simp [List.getD, List.getElem?_append_left hi]⟩
theorem Stands.right {bs : List Int} {p : Nat} {M R : List Bool} (h : Stands bs p (M ++ R)) : Stands bs (p + M.length) R :=
  ⟨by have := h.le; simp at this; omega, fun i hi => by
    rw [Nat.add_assoc, h.at_ (M.length + i) (by simp; omega)]; simp [List.getD, List.getElem?_append_right]⟩
theorem Stands.pk (L : List Bool) (more : List Int) : Stands (pk L ++ more) 0 L := by
  have h := pk_bits L
  refine ⟨by have := h.len; simp; omega, fun i hi => ?_⟩
  rw [← h.at_ i, Nat.zero_add]
  unfold bitAt
  have : (Go.Proofs.Ytodmchjdflpbpaa.pk L ++ more).getD (i / 8) 0 = (Go.Proofs.Ytodmchjdflpbpaa.pk L).getD (i / 8) 0 := by
    simp [List.getD, List.getElem?_append_left (l₁ := Go.Proofs.Ytodmchjdflpbpaa.pk L) (l₂ := more) (i := i / 8) (by have := h.len; omega)]
  rw [this]

theorem num_stands {bs : List Int} {p u k : Nat} (h : Stands bs p (bitsOf u k)) : numAt bs p k = u % 2 ^ k := by
  have hb : ∀ j, j < k → bitAt bs (p + j) = u / 2 ^ (k - 1 - j) % 2 := by
    intro j hj
    rw [h.at_ j (by rw [bitsOf_length]; exact hj)]
    simp only [bitsOf, List.getD, List.getElem?_map, List.getElem?_range hj, Option.map_some, Option.getD_some]
    rw [Nat.testBit_eq_decide_div_mod_eq]
    rcases Nat.mod_two_eq_zero_or_one (u / 2 ^ (k - 1 - j)) with h | h <;> simp [h]
  have : ∀ j, j ≤ k → numAt bs p j = u / 2 ^ (k - j) % 2 ^ j := by
    intro j
    induction j with
    | zero => intro _; simp [numAt, Nat.mod_one]
    | succ j ih =>
      intro hj
      simp only [numAt]
      rw [ih (by omega), hb j (by omega), show k - 1 - j = k - (j + 1) by omega]
      obtain ⟨x, hx⟩ : ∃ x, u / 2 ^ (k - (j + 1)) = x := ⟨_, rfl⟩
      have e : u / 2 ^ (k - j) = x / 2 := by
        rw [← hx, Nat.div_div_eq_div_mul, ← Nat.pow_succ, show (k - (j + 1)).succ = k - j by omega]
      rw [e, hx, Nat.pow_succ, Nat.mul_comm (2 ^ j) 2, Nat.mod_mul]
      omega
  rw [this k (Nat.le_refl _), Nat.sub_self, Nat.pow_zero, Nat.div_one]

theorem all_true (m i : Nat) (hi : i < m) : ((List.replicate m true).getD i false).toNat = 1 := by simp [List.getD, hi]
theorem ones_stands {bs : List Int} {p q : Nat} (h : Stands bs p (List.replicate q true ++ [false])) (hq : q < 24) :
    sUnary bs p 0 24 (8 * bs.length - p) = (q, p + q + 1, 0) := by
  have hle := h.le
  simp at hle
  have e : onesN bs p (min 24 (8 * bs.length - p)) = q := onesN_eq bs q p _ (by omega)
    (fun i hi => by rw [h.left.at_ i (by simpa using hi), all_true _ _ hi]; decide)
    (.inr (by have := h.right.at_ 0 (by simp); simpa using this))
  unfold sUnary
  rw [e, if_neg (by omega), if_neg (by omega), if_neg (by omega)]
theorem escape_stands {bs : List Int} {p : Nat} (h : Stands bs p (List.replicate 24 true)) :
    sUnary bs p 0 24 (8 * bs.length - p) = (24, p + 24, 0) := by
  have hle := h.le
  simp at hle
  have e : onesN bs p (min 24 (8 * bs.length - p)) = 24 := onesN_eq bs 24 p _ (by omega)
    (fun i hi => by rw [h.at_ i (by simpa using hi), all_true _ _ hi]; decide)
    (.inl (by omega))
  unfold sUnary
  rw [e, if_neg (by omega), if_pos rfl]
theorem bits_stands {bs : List Int} {p u k : Nat} (h : Stands bs p (bitsOf u k)) (hu : u < 2 ^ k) : sBits bs p 0 k = (u, p + k, 0) := by
  have hle := h.le
  rw [bitsOf_length] at hle
  unfold sBits
  rw [if_neg (by omega), if_neg (by omega), num_stands h, Nat.mod_eq_of_lt hu]
theorem bitsOf_mod (u k : Nat) : bitsOf (u % 2 ^ k) k = bitsOf u k := by
  unfold bitsOf
  apply List.map_congr_left
  intro j hj
  have hj := List.mem_range.1 hj
  rw [Nat.testBit_mod_two_pow]
  simp [show k - 1 - j < k by omega]

/-- One number, read: the number, the place behind it, the fault. -/
def rnum (bs : List Int) (p : Nat) (err : Int) (k : Nat) : Nat × Nat × Int :=
  let s := sUnary bs p err 24 (8 * bs.length - p)
  let t := sBits bs s.2.1 s.2.2 (if s.1 < 24 then min k 24 else 32)
  (if s.1 < 24 then s.1 * 2 ^ min k 24 + t.1 else t.1, t.2.1, t.2.2)

theorem rnum_stands {bs : List Int} {p u k : Nat} (h : Stands bs p (rq k u)) (hk : k ≤ 24) (hu : u < 4294967296) : rnum bs p 0 k = (u, p + rsize k u, 0) := by
  unfold rq at h
  unfold rnum rsize
  by_cases hq : u / 2 ^ k < 24
  · rw [if_pos hq] at h
    rw [if_pos hq, ones_stands h.left hq]
    have h2 := h.right
    rw [← bitsOf_mod] at h2
    have e := bits_stands h2 (Nat.mod_lt _ (Nat.two_pow_pos k))
    simp only [List.length_append, List.length_replicate, List.length_cons, List.length_nil, Nat.zero_add] at e
    rw [← Nat.add_assoc] at e
    simp only [if_pos hq, Nat.min_eq_left hk, e]
    refine Prod.ext ?_ (Prod.ext (by simp only []; omega) rfl)
    simp only []
    rw [Nat.mul_comm]
    exact Nat.div_add_mod u (2 ^ k)
  · rw [if_neg hq] at h
    rw [if_neg hq, escape_stands h.left]
    have e := bits_stands h.right (by simpa using hu)
    simp only [List.length_replicate] at e
    simp only [Nat.lt_irrefl, if_false, e]

/-- The parameter for the i-th number, and the place and fault behind that; the number. -/
def rhead (bs : List Int) (i p k : Nat) : Nat × Nat × Int := if i % 64 = 0 then sBits bs p 0 5 else (k, p, 0)
def rone (bs : List Int) (i p k : Nat) : Nat × Nat × Int := rnum bs (rhead bs i p k).2.1 (rhead bs i p k).2.2 (rhead bs i p k).1
/-- n numbers, read: the place, the parameter, the numbers; or none. -/
def rrd (bs : List Int) : Nat → Option (Nat × Nat × List Int)
  | 0 => some (0, 0, [])
  | i + 1 => match rrd bs i with
    | none => none
    | some s => if (rone bs i s.1 s.2.1).2.2 = 0 then some ((rone bs i s.1 s.2.1).2.1, (rhead bs i s.1 s.2.1).1, s.2.2 ++ [unfold_ (rone bs i s.1 s.2.1).1]) else none
theorem rrd_some {bs : List Int} {i p k : Nat} {out : List Int} (h : rrd bs i = some (p, k, out)) (h0 : (rone bs i p k).2.2 = 0) :
    rrd bs (i + 1) = some ((rone bs i p k).2.1, (rhead bs i p k).1, out ++ [unfold_ (rone bs i p k).1]) := by
  simp only [rrd, h]
  rw [if_pos h0]
theorem rrd_stop {bs : List Int} {i p k : Nat} {out : List Int} (h : rrd bs i = some (p, k, out)) (h0 : (rone bs i p k).2.2 ≠ 0) : rrd bs (i + 1) = none := by
  simp only [rrd, h]
  rw [if_neg h0]
theorem rrd_none {bs : List Int} {i : Nat} (h : rrd bs i = none) : ∀ n, i ≤ n → rrd bs n = none := by
  intro n hn
  obtain ⟨d, rfl⟩ : ∃ d, n = i + d := ⟨n - i, by omega⟩
  clear hn
  induction d with
  | zero => exact h
  | succ d ih =>
    show rrd bs (i + d + 1) = none
    simp only [rrd, ih]

/-- All are numbers of 32 bits. -/
def R32 (l : List Int) : Prop := ∀ v ∈ l, -2147483648 ≤ v ∧ v < 2147483648
theorem R32.fold_lt {l : List Int} (h : R32 l) (i : Nat) : fold (l.getD i 0) < 4294967296 := by
  have : -2147483648 ≤ l.getD i 0 ∧ l.getD i 0 < 2147483648 := by
    by_cases hi : i < l.length
    · have := h (l.getD i 0) (by simp [List.getD, hi])
      exact this
    · simp [List.getD, List.getElem?_eq_none (Nat.le_of_not_lt hi)]
  unfold fold; split <;> omega

theorem rrd_block {bs : List Int} {j p k0 : Nat} {out P : List Int} (h0 : rrd bs (64 * j) = some (p, k0, out)) (hP : R32 P) (h64 : P.length ≤ 64) (hS : Stands bs p (rblock P)) :
    ∀ r, 0 < r → r ≤ P.length → rrd bs (64 * j + r) = some (p + 5 + rcost (rbest P) (P.take r), rbest P, out ++ P.take r) := by
  have hbest := rbest_le P
  have hk := bits_stands hS.left (Nat.lt_of_le_of_lt hbest (by decide))
  have hN := hS.right
  rw [bitsOf_length] at hN
  have hone : ∀ r, r < P.length → rnum bs (p + 5 + rcost (rbest P) (P.take r)) 0 (rbest P) = (fold (P.getD r 0), p + 5 + rcost (rbest P) (P.take (r + 1)), 0) := by
    intro r hr
    have e : rnums (rbest P) P = rnums (rbest P) (P.take r) ++ (rq (rbest P) (fold (P.getD r 0)) ++ rnums (rbest P) (P.drop (r + 1))) := by
      rw [← List.append_assoc, ← rnums_take _ _ hr, ← rnums_append, List.take_append_drop]
    rw [e] at hN
    have h2 := hN.right.left
    rw [rnums_length] at h2
    rw [rnum_stands h2 hbest (hP.fold_lt r), rcost_take _ _ hr, Nat.add_assoc]
  intro r
  induction r with
  | zero => intro h; omega
  | succ r ih =>
    intro _ hr
    have e : P.take (r + 1) = P.take r ++ [P.getD r 0] := by rw [List.take_succ_eq_append_getElem (by omega)]; simp [List.getD, show r < P.length by omega]
    have h1 := hone r (by omega)
    rcases Nat.eq_zero_or_pos r with h | h
    · subst h
      have hh : rhead bs (64 * j) p k0 = (rbest P, p + 5, 0) := by unfold rhead; rw [if_pos (by omega), hk]
      rw [show rcost (rbest P) (P.take 0) = 0 from rfl, Nat.add_zero] at h1
      have ho : rone bs (64 * j) p k0 = (fold (P.getD 0 0), p + 5 + rcost (rbest P) (P.take 1), 0) := by unfold rone; rw [hh]; exact h1
      have := rrd_some h0 (by rw [ho])
      rw [ho, hh, unfold_fold] at this
      rw [show 64 * j + (0 + 1) = 64 * j + 1 from rfl, this, e]
      rfl
    · have hp := ih h (by omega)
      have hh : rhead bs (64 * j + r) (p + 5 + rcost (rbest P) (P.take r)) (rbest P) = (rbest P, p + 5 + rcost (rbest P) (P.take r), 0) := by unfold rhead; rw [if_neg (by omega)]
      have ho : rone bs (64 * j + r) (p + 5 + rcost (rbest P) (P.take r)) (rbest P) = (fold (P.getD r 0), p + 5 + rcost (rbest P) (P.take (r + 1)), 0) := by unfold rone; rw [hh]; exact h1
      have := rrd_some hp (by rw [ho])
      rw [ho, hh, unfold_fold] at this
      rw [show 64 * j + (r + 1) = 64 * j + r + 1 from rfl, this, e, List.append_assoc]

theorem rpart_getD (l : List Int) (j r : Nat) (hr : r < 64) : (rpart l j).getD r 0 = l.getD (64 * j + r) 0 := by
  simp [rpart, List.getD, hr]
theorem rpart_32 {l : List Int} (h : R32 l) (j : Nat) : R32 (rpart l j) := fun v hv => h v (List.mem_of_mem_drop (List.mem_of_mem_take hv))
theorem take_part (l : List Int) (j : Nat) : l.take (64 * j) ++ rpart l j = l.take (64 * (j + 1)) := by
  unfold rpart
  rw [show 64 * (j + 1) = 64 * j + 64 by omega, List.take_add]

theorem rrd_blocks {bs l : List Int} (hl : R32 l) : ∀ j, 64 * j < l.length + 64 → Stands bs 0 (rto l j) → ∃ k, rrd bs (min (64 * j) l.length) = some ((rto l j).length, k, l.take (64 * j))
  | 0, _, _ => ⟨0, by simp [rrd, rto]⟩
  | j + 1, hj, hS => by
    obtain ⟨k, h0⟩ := rrd_blocks hl j (by omega) hS.left
    have hlt : 64 * j < l.length := by omega
    rw [Nat.min_eq_left (by omega)] at h0
    have h2 := hS.right
    rw [Nat.zero_add] at h2
    have hlen := rpart_length l j
    have := rrd_block h0 (rpart_32 hl j) (by omega) h2 (rpart l j).length (by omega) (Nat.le_refl _)
    rw [List.take_length, take_part] at this
    refine ⟨rbest (rpart l j), ?_⟩
    rw [show min (64 * (j + 1)) l.length = 64 * j + (rpart l j).length by omega, this]
    simp only [rto, List.length_append, rblock_length, Nat.add_assoc]

theorem rrd_all {bs l : List Int} (hl : R32 l) (hS : Stands bs 0 (rall l)) : ∃ p k, rrd bs l.length = some (p, k, l) := by
  obtain ⟨k, h⟩ := rrd_blocks hl (rblocks l) (by unfold rblocks; omega) hS
  rw [Nat.min_eq_right (by unfold rblocks; omega), List.take_of_length_le (by unfold rblocks; omega)] at h
  exact ⟨_, k, h⟩

theorem rrd_length (bs : List Int) : ∀ n p k out, rrd bs n = some (p, k, out) → out.length = n
  | 0, p, k, out, h => by simp only [rrd, Option.some.injEq, Prod.mk.injEq] at h; obtain ⟨_, _, rfl⟩ := h; rfl
  | n + 1, p, k, out, h => by
    rcases e : rrd bs n with _ | ⟨p', k', out'⟩
    · rw [rrd_none e (n + 1) (by omega)] at h; cases h
    · have := rrd_length bs n p' k' out' e
      by_cases h0 : (rone bs n p' k').2.2 = 0
      · rw [rrd_some e h0] at h
        simp only [Option.some.injEq, Prod.mk.injEq] at h
        obtain ⟨_, _, rfl⟩ := h
        simp [this]
      · rw [rrd_stop e h0] at h; cases h

/-- Of n bytes' bits the numbers l are the pack. -/
def okR (bs : List Int) (n : Nat) (l : List Int) : Prop := l.length = n ∧ R32 l ∧ pk (rall l) = bs
theorem okR.read {bs : List Int} {n : Nat} {l : List Int} (h : okR bs n l) : ∃ p k, rrd bs n = some (p, k, l) := by
  obtain ⟨rfl, h32, rfl⟩ := h
  exact rrd_all h32 (by simpa using Stands.pk (rall l) [])
theorem okR.uniq {bs : List Int} {n : Nat} {l m : List Int} (h : okR bs n l) (h' : okR bs n m) : l = m := by
  obtain ⟨p, k, e⟩ := h.read
  obtain ⟨p', k', e'⟩ := h'.read
  rw [e] at e'
  simp only [Option.some.injEq, Prod.mk.injEq] at e'
  exact e'.2.2
/-- With more behind it is no pack of so many. -/
theorem okR.more {l m : List Int} (hl : R32 l) (x : List Int) (hx : x ≠ []) (h : okR (pk (rall l) ++ x) l.length m) : False := by
  obtain ⟨p, k, e⟩ := h.read
  obtain ⟨p', k', e'⟩ := rrd_all hl (Stands.pk (rall l) x)
  rw [e] at e'
  simp only [Option.some.injEq, Prod.mk.injEq] at e'
  obtain rfl := e'.2.2
  have := congrArg List.length h.2.2
  rw [List.length_append] at this
  exact hx (List.eq_nil_of_length_eq_zero (by omega))

theorem sBits_lt (bs : List Int) (p : Nat) (err : Int) (k : Nat) : (sBits bs p err k).1 < 2 ^ k := by
  unfold sBits
  have := Nat.two_pow_pos k
  split
  · exact this
  · split
    · exact this
    · exact numAt_lt bs p k
theorem sUnary_le (bs : List Int) (p : Nat) (err : Int) (m L : Nat) : (sUnary bs p err m L).1 ≤ m := by
  have := onesN_le bs (min m L) p
  unfold sUnary
  split
  · simp
  · split
    · simp
    · split
      · simp
      · simp only []; omega
theorem rnum_lt (bs : List Int) (p : Nat) (err : Int) (k : Nat) : (rnum bs p err k).1 < 4294967296 := by
  unfold rnum
  simp only []
  generalize sUnary bs p err 24 (8 * bs.length - p) = s
  by_cases h : s.1 < 24
  · simp only [if_pos h]
    have hb := sBits_lt bs s.2.1 s.2.2 (min k 24)
    generalize (sBits bs s.2.1 s.2.2 (min k 24)).1 = t at *
    have hk : 2 ^ min k 24 ≤ 2 ^ 24 := Nat.pow_le_pow_right (by decide) (by omega)
    generalize 2 ^ min k 24 = z at *
    have : s.1 * z ≤ 23 * z := Nat.mul_le_mul_right _ (by omega)
    omega
  · simp only [if_neg h]
    exact sBits_lt bs s.2.1 s.2.2 32
theorem unfold_32 {u : Nat} (hu : u < 4294967296) : -2147483648 ≤ unfold_ u ∧ unfold_ u < 2147483648 := by
  unfold unfold_; split <;> omega
theorem rrd_32 (bs : List Int) : ∀ n p k out, rrd bs n = some (p, k, out) → R32 out
  | 0, p, k, out, h => by
    simp only [rrd, Option.some.injEq, Prod.mk.injEq] at h
    obtain ⟨_, _, rfl⟩ := h
    exact fun v hv => (by cases hv)
  | n + 1, p, k, out, h => by
    rcases e : rrd bs n with _ | ⟨p', k', out'⟩
    · rw [rrd_none e (n + 1) (by omega)] at h; cases h
    · have ih := rrd_32 bs n p' k' out' e
      by_cases h0 : (rone bs n p' k').2.2 = 0
      · rw [rrd_some e h0] at h
        simp only [Option.some.injEq, Prod.mk.injEq] at h
        obtain ⟨_, _, rfl⟩ := h
        intro v hv
        rcases List.mem_append.1 hv with hv | hv
        · exact ih v hv
        · rw [List.mem_singleton.1 hv]
          exact unfold_32 (rnum_lt _ _ _ _)
      · rw [rrd_stop e h0] at h; cases h
/-- The numbers of which that is the pack. -/
def unR (bs : List Int) (n : Nat) : Option (List Int) := match rrd bs n with
  | none => none
  | some s => if pk (rall s.2.2) = bs then some s.2.2 else none
theorem unR_some {bs : List Int} {n p k : Nat} {out : List Int} (h : rrd bs n = some (p, k, out)) : unR bs n = if pk (rall out) = bs then some out else none := by
  simp only [unR, h]
theorem unR_none {bs : List Int} {n i : Nat} (h : rrd bs i = none) (hi : i ≤ n) : unR bs n = none := by
  simp only [unR, rrd_none h n hi]
theorem unR_iff (bs : List Int) (n : Nat) (l : List Int) : unR bs n = some l ↔ okR bs n l := by
  constructor
  · intro h
    rcases e : rrd bs n with _ | ⟨p, k, out⟩
    · rw [unR_none e (Nat.le_refl _)] at h; cases h
    · rw [unR_some e] at h
      split at h
      · rename_i hp
        injection h with h
        subst h
        exact ⟨rrd_length bs n p k out e, rrd_32 bs n p k out e, hp⟩
      · cases h
  · intro h
    obtain ⟨p, k, e⟩ := h.read
    rw [unR_some e, if_pos h.2.2]

theorem pk_bytes (L : List Bool) : ∀ x ∈ pk L, 0 ≤ x ∧ x < 256 := fun x hx => by
  obtain ⟨i, hi, rfl⟩ := List.getElem_of_mem hx
  have := (pk_bits L).byte i
  simpa [List.getD, hi] using this

end Go.Proofs.Ytodmchjdflpbpaa

/- The document's writer of bits: a list of noughts and ones. A is a set of blocks that are there and that none of its blocks is among. -/
namespace Go.Proofs.Ytodmchjdflpbpaa
open Go.RowKit
set_option maxRecDepth 100000

attribute [local go_sem ↓] Go.wp_at_zero Go.wp_at_succ

def zo (L : List Bool) : List Int := L.map fun b => if b then 1 else 0
theorem zo_length (L : List Bool) : (zo L).length = L.length := by simp [zo]
theorem zo_append (L M : List Bool) : zo (L ++ M) = zo L ++ zo M := by simp [zo]
theorem zo_getD (L : List Bool) {i : Nat} (hi : i < L.length) : (zo L).getD i 0 = if L.getD i false then 1 else 0 := by simp [zo, List.getD, hi]











end Go.Proofs.Ytodmchjdflpbpaa

/- Fold and Unfold: the code's and the document's. -/
namespace Go.Proofs.Ytodmchjdflpbpaa
open Go.RowKit
set_option maxRecDepth 100000

set_option maxHeartbeats 400000 in
theorem rFold_any (v : Int) (w : World) (h1 : -9223372036854775808 ≤ v) (h2 : v < 9223372036854775808) :
    Calls Try.prog 61 #[.int .i64 v] w fun e w' => e = .returned (.int .u64 (fold v)) ∧ w = w' := by
  by_cases h : 0 ≤ v
  · have hf : ((fold v : Nat) : Int) = 2 * v := by unfold fold; rw [if_pos h]; omega
    have Hf := Lib.hid hf
    clear hf
    go_enter Try.func61, Try.ntmps61
    go_wp2
    go_ret
    exact ⟨ret_int (by rw [Hf.out]), rfl⟩
  · have hf : ((fold v : Nat) : Int) = -2 * v - 1 := by unfold fold; rw [if_neg h]; omega
    have Hf := Lib.hid hf
    clear hf
    go_enter Try.func61, Try.ntmps61
    go_wp2
    go_ret
    exact ⟨ret_int (by rw [Hf.out]; omega), rfl⟩





end Go.Proofs.Ytodmchjdflpbpaa

/- The document's Cost, Best and put of rice. -/
namespace Go.Proofs.Ytodmchjdflpbpaa
open Go.RowKit
set_option maxRecDepth 100000

/-- A parameter that may be. -/
def kc (k : Int) : Nat := (max 0 (min k 24)).toNat
theorem kc_le (k : Int) : kc k ≤ 24 := by unfold kc; omega
theorem kc_eq (k : Int) : max 0 (min k 24) = (kc k : Int) := by unfold kc; omega
theorem R32.at_ {l : List Int} (h : R32 l) (i : Nat) : -2147483648 ≤ l.getD i 0 ∧ l.getD i 0 < 2147483648 := by
  by_cases hi : i < l.length
  · exact h (l.getD i 0) (by simp [List.getD, hi])
  · simp [List.getD, List.getElem?_eq_none (Nat.le_of_not_lt hi)]
theorem rsize_step (k u : Nat) : rsize k u = if u / 2 ^ k < 24 then u / 2 ^ k + 1 + k else 56 := rfl


theorem kc_in {k : Nat} (hk : k ≤ 24) : kc (k : Int) = k := by unfold kc; omega



end Go.Proofs.Ytodmchjdflpbpaa

/- The document's Pack of rice. -/
namespace Go.Proofs.Ytodmchjdflpbpaa
open Go.RowKit
set_option maxRecDepth 100000

attribute [local go_sem ↓] Go.wp_at_zero Go.wp_at_succ

/-- A part of a list of numbers. -/
theorem Row.part {w : World} {k : IntKind} {b o n : Nat} {xs : List Int} (h : Row w k (some ⟨b, o, none⟩) n xs) (s m : Nat) (hs : s + m ≤ n) : Row w k (some ⟨b, o + s, none⟩) m ((xs.drop s).take m) :=
  ⟨by rw [List.length_take, List.length_drop, h.len]; omega, fun j hj => by
    obtain ⟨b', o', e, hb, hc⟩ := h.at_ (s + j) (by omega)
    injection e with e
    injection e with e1 e2
    subst e1 e2
    exact ⟨b, o + s, rfl, hb, by rw [Nat.add_assoc, hc]; simp [List.getD, hj]⟩⟩
theorem rto_small {l : List Int} (hn : l.length ≤ 1048576) {j : Nat} (hj : 64 * j < l.length + 64) : (rto l j).length ≤ 70000000 := by
  have := rto_length l j
  omega
theorem rcost_small {k : Nat} (hk : k ≤ 24) {l : List Int} (hn : l.length ≤ 64) (r : Nat) : (rnums k (l.take r)).length ≤ 56 * 64 := by
  rw [rnums_length]
  have := rcost_le hk (l.take r)
  rw [List.length_take] at this
  omega



end Go.Proofs.Ytodmchjdflpbpaa

/- The document's Unpack of rice. -/
namespace Go.Proofs.Ytodmchjdflpbpaa
open Go.RowKit
set_option maxRecDepth 100000

attribute [local go_sem ↓] Go.wp_at_zero Go.wp_at_succ

theorem Try.infoI32 : (Try.prog.info? 21).map (fun i => (i.zero, i.size, i.bytes)) = some (some (.int .i32 0), 1, 4) := by kernel_rfl

/-- What Unpack answers. -/
def UnPR (w w' : World) (e : Ending) (bs : List Int) (n : Nat) : Prop :=
  ∃ u, e = .returned (.tuple #[u, .int .i64 (if (unR bs n).isSome then 0 else 4)]) ∧ NewRow w w' 21 .i32 u ((unR bs n).getD [])

theorem or_join {q k t : Nat} (hq : q < 24) (hk : k ≤ 24) (ht : t < 2 ^ k) : bits .or .u32 ((q : Int) * 2 ^ k % 4294967296) (t : Int) = ((q * 2 ^ k + t : Nat) : Int) := by
  have hz : 2 ^ k ≤ 2 ^ 24 := Nat.pow_le_pow_right (by decide) hk
  have e : ((q : Int) * 2 ^ k) = ((q * 2 ^ k : Nat) : Int) := by simp
  have h1 : q * 2 ^ k ≤ 23 * 2 ^ k := Nat.mul_le_mul_right _ (by omega)
  rw [e]
  have e2 : ((q * 2 ^ k : Nat) : Int) % 4294967296 = ((q * 2 ^ k : Nat) : Int) := by omega
  rw [e2, u32_or_nat _ _ (by omega) (by omega), Nat.mul_comm, Nat.two_pow_add_eq_or_of_lt ht]

/-- The state of the loop: what is read so far, the reader, the list. -/
structure UnS (w1 wr : World) (g : Nat) (t : TypeId) (B : Option Addr) (cB : Nat) (bs : List Int) (a p k : Nat) (out : List Int) (u : Value) : Prop where
  read : rrd bs a = some (p, k, out)
  own : Own wr 21 .i32 u out
  new : ∀ j, u.ownBlock = some j → w1.heap.size ≤ j
  rd : Rd wr g t B cB bs p 0
  kept : Kept (fun j => j = g) w1 wr
  kle : k ≤ 31



end Go.Proofs.Ytodmchjdflpbpaa

/- What the laws of rice ask of the code; awake. -/
namespace Go.Proofs.Ytodmchjdflpbpaa
open Go.RowKit
set_option maxRecDepth 100000

attribute [local go_sem ↓] Go.wp_at_zero Go.wp_at_succ


theorem Row.laid (w : World) (e : TypeId) (k : IntKind) (xs : List Int) : Row (w.alloc (.cells (ivs k xs).toArray e)) k (some ⟨w.heap.size, 0, none⟩) xs.length xs :=
  ⟨rfl, fun j hj => ⟨w.heap.size, 0, rfl, by simp, by
    rw [(Blk.new w e (ivs k xs).toArray).cell, Nat.zero_add, List.getElem?_toArray, ivs_get hj]⟩⟩
theorem R32.of {l : List Int} (h : (l.all fun v => decide (-2147483648 ≤ v ∧ v < 2147483648)) = true) : R32 l := fun v hv => of_decide_eq_true (List.all_eq_true.1 h v hv)
theorem one_len : (pk (rall [0])).length = 1 := by rw [pk_length]; decide +kernel
theorem three_cost : rcost (kc 0) [0, -1, 1] = 6 := by decide +kernel



end Go.Proofs.Ytodmchjdflpbpaa

/- The code's writer of bits (bits.Writer at the head of a block of type t, with R behind it), none of whose blocks is in A. -/
namespace Go.Proofs.Ytodmchjdflpbpaa
open Go.RowKit
set_option maxRecDepth 100000

structure CWr (A : Nat → Prop) (w : World) (g : Nat) (v : Value) (L : List Bool) (t : TypeId) (R : Array Value) : Prop where
  wtr : Wtr w g v (pk L) L.length t R
  out : ¬ A g
  far : ∀ k, v.ownBlock = some k → ¬ A k
  there : ∀ k, A k → k < w.heap.size
def CW (A : Nat → Prop) (w : World) (g : Nat) (L : List Bool) (t : TypeId) (R : Array Value) : Prop := ∃ v, CWr A w g v L t R
/-- What a call of it leaves. -/
def CP (A : Nat → Prop) (w w' : World) (g : Nat) (L : List Bool) (t : TypeId) (R : Array Value) : Prop := CW A w' g L t R ∧ Kept (fun k => ¬ A k) w w'

section
variable {A S : Nat → Prop} {w w' : World} {g : Nat} {L : List Bool} {t : TypeId} {R : Array Value}
theorem CP.trans {w2 : World} {M : List Bool} (h : CP A w w' g L t R) (h2 : CP A w' w2 g M t R) : CP A w w2 g M t R := ⟨h2.1, h.2.trans h2.2 fun _ _ e => e⟩
theorem CW.refl (h : CW A w g L t R) : CP A w w g L t R := ⟨h, Kept.refl _ _⟩
theorem CW.kept (h : CW A w g L t R) (hk : Kept S w w') (hS : ∀ k, S k → k < w.heap.size → A k) : CW A w' g L t R := by
  obtain ⟨v, h⟩ := h
  exact ⟨v, ⟨h.wtr.blk.kept hk (fun e => h.out (hS _ e h.wtr.blk.lt)), h.wtr.own.kept hk (fun k e hs => h.far k e (hS k hs (h.wtr.own.lt e))), h.wtr.len, h.wtr.byte, h.wtr.ty⟩, h.out, h.far, fun k e => Nat.lt_of_lt_of_le (h.there k e) hk.size⟩
theorem CW.drewN (h : CW A w g L t R) (n : Nat) : CW A (w.drewN n) g L t R := h.kept ((Kept.refl (fun _ => False) w).drewN n) fun _ e => e.elim
theorem CW.new (w : World) (A : Nat → Prop) (hA : ∀ k, A k → k < w.heap.size) (ty : 5 ≠ t) : CW A (w.alloc (.cells (#[.slice none 0 0, .int .i64 0] ++ R) t)) w.heap.size [] t R :=
  ⟨_, ⟨Blk.new _ _ _, Own.nil _ _ _, rfl, fun j => by simp [pk, wmany], ty⟩, fun e => by have := hA _ e; omega, fun k e => (by cases e), fun k e => by have := hA k e; simp; omega⟩
/-- From the writer's own contract. -/
theorem CP.of {v : Value} {M : List Bool} (h : CWr A w g v L t R) (hp : WPost w w' g v (wmany (pk L) L.length M) (L.length + M.length) t R) : CP A w w' g (L ++ M) t R := by
  obtain ⟨v', hw, hv, hk⟩ := hp
  have e : pk (L ++ M) = wmany (pk L) L.length M := by unfold pk; rw [wmany_append, Nat.zero_add]
  have hw' : Wtr w' g v' (pk (L ++ M)) (L ++ M).length t R := by rw [e, List.length_append]; exact hw
  refine ⟨⟨v', hw', h.out, fun k e => (hv k e).elim (h.far k) (fun e2 a => by have := h.there k a; omega), fun k e => Nat.lt_of_lt_of_le (h.there k e) hk.size⟩, hk.mono fun k _ e => ?_⟩
  rcases e with e | e
  · rw [e]; exact h.out
  · exact h.far k e
end

theorem cwBit_any (A : Nat → Prop) (g : Nat) (L : List Bool) (t : TypeId) (R : Array Value) (x : Int) (w : World) (h : CW A w g L t R) (hl : L.length ≤ 99999990000) :
    Calls Try.prog 58 #[.pointer (some ⟨g, 0, none⟩), .int .i64 x] w fun e w' => e = .returned (.tuple #[]) ∧ CP A w w' g (L ++ [x != 0]) t R := by
  obtain ⟨v, h⟩ := h
  exact (wBit_any g L.length v (pk L) w x h.wtr (by omega)).mono fun e w' ⟨e1, hp⟩ => ⟨e1, CP.of (M := [x != 0]) h hp⟩
theorem cwBits_any (A : Nat → Prop) (g : Nat) (L : List Bool) (t : TypeId) (R : Array Value) (x : Nat) (m : Int) (w : World) (h : CW A w g L t R) (hl : L.length ≤ 99999990000) (hx : x < 4294967296) :
    Calls Try.prog 54 #[.pointer (some ⟨g, 0, none⟩), .int .u32 x, .int .i64 m] w fun e w' => e = .returned (.tuple #[]) ∧ CP A w w' g (L ++ bitsOf x (wBitsN m)) t R := by
  obtain ⟨v, h⟩ := h
  exact (wBits_any g L.length v (pk L) w x m h.wtr (by omega) hx).mono fun e w' ⟨e1, hp⟩ => ⟨e1, CP.of (M := bitsOf x (wBitsN m)) h (by rw [bitsOf_length]; exact hp)⟩
theorem cwUnary_any (A : Nat → Prop) (g : Nat) (L : List Bool) (t : TypeId) (R : Array Value) (m : Int) (w : World) (h : CW A w g L t R) (hl : L.length ≤ 99999990000) :
    Calls Try.prog 60 #[.pointer (some ⟨g, 0, none⟩), .int .i64 m] w fun e w' => e = .returned (.tuple #[]) ∧ CP A w w' g (L ++ (List.replicate (wUnaryN m) true ++ [false])) t R := by
  obtain ⟨v, h⟩ := h
  exact (wUnary_any g L.length v (pk L) w m h.wtr (by omega)).mono fun e w' ⟨e1, hp⟩ => ⟨e1, CP.of (M := List.replicate (wUnaryN m) true ++ [false]) h (by simpa using hp)⟩
theorem cwBytes_any (A : Nat → Prop) (g : Nat) (L : List Bool) (t : TypeId) (R : Array Value) (w : World) (h : CW A w g L t R) (hl : L.length ≤ 99999990000) :
    Calls Try.prog 51 #[.pointer (some ⟨g, 0, none⟩)] w fun e w' => ∃ u, e = .returned u ∧ NewRow w w' 5 .u8 u (pk L) := by
  obtain ⟨v, h⟩ := h
  exact wBytes_any g L.length v (pk L) w h.wtr (by omega)

end Go.Proofs.Ytodmchjdflpbpaa

/- The code's folded, unfolded, Cost, Best of rice, and its packer (number, block). -/
namespace Go.Proofs.Ytodmchjdflpbpaa
open Go.RowKit
set_option maxRecDepth 100000

attribute [local go_sem ↓] Go.wp_at_zero Go.wp_at_succ

theorem fold_32 {v : Int} (hv : -2147483648 ≤ v ∧ v < 2147483648) : fold v < 4294967296 := by unfold fold; split <;> omega

set_option maxHeartbeats 400000 in
theorem cFolded_any (v : Int) (w : World) (hv : -2147483648 ≤ v ∧ v < 2147483648) :
    Calls Try.prog 59 #[.int .i32 v] w fun e w' => e = .returned (.int .u32 (fold v : Nat)) ∧ w = w' := by
  have hf := fold_32 hv
  have HF := Lib.hid (rFold_any v w (by omega) (by omega))
  generalize fold v = u at *
  go_enter Try.func59, Try.ntmps59
  go_wp2_with fail
  refine HF.out.mono ?_
  rintro e w' ⟨rfl, rfl⟩
  go_wp2_with fail
  go_ret
  exact ⟨rfl, rfl⟩


theorem kc_eq' (k : Int) : min (max k 0) 24 = (kc k : Int) := by unfold kc; omega

set_option maxHeartbeats 1600000 in
/-- Cost: P10.1. -/
theorem cCost_any (A : Option Addr) (n c : Nat) (l : List Int) (ki : Int) (w : World) (hr : Row w .i32 A n l) (h32 : R32 l) (hn : n ≤ 1048576) :
    Calls Try.prog 56 #[.slice A n c, .int .i64 ki] w fun e w' => e = .returned (.int .i64 (rcost (kc ki) l : Nat)) ∧ w = w' := by
  have hk24 := kc_le ki
  have Hk := Lib.hid (kc_eq' ki)
  have HR := Lib.hid (And.intro hr h32)
  obtain rfl := hr.len
  generalize kc ki = k at *
  have k0 : (0 : Int) ≤ (k : Int) := by omega
  have k1 : (k : Int) ≤ 24 := by omega
  clear hr h32
  go_enter Try.func56, Try.ntmps56
  go_wp2_with fail
  rw [Hk.out]
  go_loopw [14, 5] (fun i x wr => ∃ j : Nat, j ≤ l.length ∧ i = .int .i64 j ∧ x = .int .i64 (rcost k (l.take j) : Nat) ∧ wr = w) (fun i _ _ => (l.length - intOf i).toNat)
  case atStart => exact ⟨0, by omega, rfl, rfl, rfl⟩
  case round =>
    obtain ⟨j, hj, rfl, rfl, rfl⟩ := hrel
    have hle := rcost_le hk24 (l.take j)
    rw [List.length_take, Nat.min_eq_left hj] at hle
    by_cases hlt : j < l.length
    · obtain ⟨b, o, rfl, hb, hc⟩ := HR.out.1.at_ j hlt
      have hv := HR.out.2.at_ j
      have hf := HR.out.2.fold_lt j
      have Ht := Lib.hid (rcost_take k l hlt)
      generalize l.getD j 0 = v at *
      rw [rsize_step] at Ht
      generalize rcost k (l.take j) = s at *
      have j0 : (j : Int) < (l.length : Int) := by omega
      have hq : ((fold v : Nat) : Int) / 2 ^ k = ((fold v / 2 ^ k : Nat) : Int) := by simp
      have hq32 : fold v / 2 ^ k < 4294967296 := Nat.lt_of_le_of_lt (Nat.div_le_self _ _) hf
      generalize fold v / 2 ^ k = q at *
      go_wp2_with fail
      refine (cFolded_any v _ hv).mono ?_
      rintro e w' ⟨rfl, rfl⟩
      by_cases h24 : q < 24
      · have q0 : (q : Int) < 24 := by omega
        rw [if_pos h24] at Ht
        go_wp2_with fail
        go_roundw
        case rel => exact ⟨j + 1, by omega, by go_num, by rw [Ht.out]; go_num, trivial⟩
        case measure => simp [intOf]; omega
      · have q0 : ¬ (q : Int) < 24 := by omega
        rw [if_neg h24] at Ht
        go_wp2_with fail
        go_roundw
        case rel => exact ⟨j + 1, by omega, by go_num, by rw [Ht.out]; go_num, trivial⟩
        case measure => simp [intOf]; omega
    · obtain rfl : j = l.length := by omega
      rw [List.take_length]
      go_wp2_with fail
      go_ret
      exact ⟨rfl, rfl⟩

set_option maxHeartbeats 1600000 in
/-- Best: P10.1. -/
theorem cBest_any (A : Option Addr) (n c : Nat) (l : List Int) (w : World) (hr : Row w .i32 A n l) (h32 : R32 l) (hn : n ≤ 1048576) :
    Calls Try.prog 53 #[.slice A n c] w fun e w' => e = .returned (.int .i64 (rbest l : Nat)) ∧ w = w' := by
  have HC : Hid (∀ k : Nat, k ≤ 24 → Calls Try.prog 56 #[.slice A n c, .int .i64 (k : Int)] w fun e w' => e = .returned (.int .i64 (rcost k l : Nat)) ∧ w = w') := Lib.hid fun k hk => by
    have := cCost_any A n c l k w hr h32 hn
    rwa [kc_in hk] at this
  have HC0 := Lib.hid (HC.out 0 (by omega))
  have HL : Hid (∀ k : Nat, k ≤ 24 → rcost k l ≤ 56 * 1048576) := Lib.hid fun k hk => by
    have := rcost_le hk l
    have := hr.len
    omega
  clear hr h32
  go_enter Try.func53, Try.ntmps53
  go_wp2_with fail
  refine HC0.out.mono ?_
  rintro e w' ⟨rfl, rfl⟩
  clear HC0
  go_wp2_with fail
  go_loopw [5, 3, 4] (fun i x y wr => ∃ j : Nat, j ≤ 24 ∧ i = .int .i64 ((j : Int) + 1) ∧ x = .int .i64 (rbestTo l j : Nat) ∧ y = .int .i64 (rcost (rbestTo l j) l : Nat) ∧ wr = w) (fun i _ _ _ => (25 - intOf i).toNat)
  case atStart => exact ⟨0, by omega, rfl, rfl, rfl, rfl⟩
  case round =>
    obtain ⟨j, hj, rfl, rfl, rfl, rfl⟩ := hrel
    have hb := rbestTo_le l j
    by_cases hlt : j < 24
    · have H1 := Lib.hid (HC.out (j + 1) (by omega))
      have hs : rbestTo l (j + 1) = if rcost (j + 1) l < rcost (rbestTo l j) l then j + 1 else rbestTo l j := rfl
      have Hs := Lib.hid hs
      have b1 := HL.out (j + 1) (by omega)
      have b2 := HL.out (rbestTo l j) (by omega)
      clear hs HC HL
      obtain ⟨m, hm⟩ : ∃ m, rbestTo l j = m := ⟨_, rfl⟩
      rw [hm] at Hs b2 hb ⊢
      obtain ⟨x, hx⟩ : ∃ x, rcost (j + 1) l = x := ⟨_, rfl⟩
      obtain ⟨y, hy⟩ : ∃ y, rcost m l = y := ⟨_, rfl⟩
      rw [hx] at H1 Hs b1
      rw [hy] at Hs b2 ⊢
      have Hxy := Lib.hid (And.intro hx hy)
      clear hx hy hm
      have j0 : (j : Int) + 1 ≤ 24 := by omega
      go_wp2_with fail
      rw [show ((j : Int) + 1) = ((j + 1 : Nat) : Int) from by omega]
      refine H1.out.mono ?_
      rintro e w' ⟨rfl, rfl⟩
      by_cases hxy : x < y
      · rw [if_pos hxy] at Hs
        have hx : (x : Int) < (y : Int) := by omega
        go_wp2_with fail
        go_roundw
        case rel => exact ⟨j + 1, by omega, by go_num, by rw [Hs.out]; go_num, by rw [Hs.out, Hxy.out.1], trivial⟩
        case measure => simp [intOf]; omega
      · rw [if_neg hxy] at Hs
        have hx : ¬ (x : Int) < (y : Int) := by omega
        go_wp2_with fail
        go_roundw
        case rel => exact ⟨j + 1, by omega, by go_num, by rw [Hs.out], by rw [Hs.out, Hxy.out.2], trivial⟩
        case measure => simp [intOf]; omega
    · obtain rfl : j = 24 := by omega
      go_wp2_with fail
      go_ret
      exact ⟨rfl, rfl⟩

set_option maxHeartbeats 1600000 in
/-- A number is written. -/
theorem cNumber_any (A : Nat → Prop) (g : Nat) (L : List Bool) (R : Array Value) (v : Int) (k : Nat) (w : World) (h : CW A w g L 111 R) (hl : L.length ≤ 90000000) (hv : -2147483648 ≤ v ∧ v < 2147483648) (hk : k ≤ 24) :
    Calls Try.prog 55 #[.pointer (some ⟨g, 0, none⟩), .int .i32 v, .int .i64 k] w fun e w' => e = .returned (.tuple #[]) ∧ CP A w w' g (L ++ rq k (fold v)) 111 R := by
  have hf : fold v < 4294967296 := fold_32 hv
  have k0 : (0 : Int) ≤ (k : Int) := by omega
  have k1 : (k : Int) ≤ 24 := by omega
  have hq : ((fold v : Nat) : Int) / 2 ^ k = ((fold v / 2 ^ k : Nat) : Int) := by simp
  have hq32 : fold v / 2 ^ k < 4294967296 := Nat.lt_of_le_of_lt (Nat.div_le_self _ _) hf
  have Hr : Hid (rq k (fold v) = _) := Lib.hid (rq.eq_1 k (fold v))
  have H := Lib.hid h
  have HF := Lib.hid (cFolded_any v w hv)
  clear h hv
  generalize fold v / 2 ^ k = q at *
  generalize fold v = u at *
  generalize rq k u = M at *
  have hB : wBitsN (k : Int) = k := by unfold wBitsN clamp; omega
  have HB := Lib.hid hB
  clear hB
  go_enter Try.func55, Try.ntmps55
  go_wp2_with fail
  refine HF.out.mono ?_
  rintro e w' ⟨rfl, rfl⟩
  clear HF
  by_cases h24 : q < 24
  · have q0 : (q : Int) < 24 := by omega
    have hN : wUnaryN (q : Int) = q := by unfold wUnaryN clamp; omega
    have HN := Lib.hid hN
    rw [if_pos h24] at Hr
    clear hN
    go_wp2_with fail
    refine (cwUnary_any A g L 111 R (q : Int) _ H.out (by omega)).mono ?_
    rintro e w1 ⟨rfl, h1⟩
    rw [HN.out] at h1
    have H1 := Lib.hid h1
    clear h1
    go_wp2_with fail
    refine (cwBits_any A g _ 111 R u (k : Int) _ H1.out.1 (by simp; omega) hf).mono ?_
    rintro e w2 ⟨rfl, h2⟩
    rw [HB.out, List.append_assoc, ← Hr.out] at h2
    have H2 := Lib.hid (H1.out.trans h2)
    clear h2 H1 Hr
    go_wp2_with fail
    refine bodyPost_ret (results_none rfl _ _ _) rfl ?_
    exact ⟨rfl, H2.out⟩
  · have q0 : ¬ (q : Int) < 24 := by omega
    rw [if_neg h24] at Hr
    go_wp2_with fail
    refine (cwBits_any A g _ 111 R 16777215 24 _ H.out (by omega) (by omega)).mono ?_
    rintro e w1 ⟨rfl, h1⟩
    rw [show bitsOf 16777215 (wBitsN 24) = List.replicate 24 true from by decide] at h1
    have H1 := Lib.hid h1
    clear h1
    go_wp2_with fail
    refine (cwBits_any A g _ 111 R u 32 _ H1.out.1 (by simp; omega) hf).mono ?_
    rintro e w2 ⟨rfl, h2⟩
    rw [show wBitsN 32 = 32 from by decide, List.append_assoc, ← Hr.out] at h2
    have H2 := Lib.hid (H1.out.trans h2)
    clear h2 H1 Hr
    go_wp2_with fail
    go_end0
    exact ⟨rfl, H2.out⟩

set_option maxHeartbeats 1600000 in
/-- A block is written. -/
theorem cBlock_any (A : Nat → Prop) (g : Nat) (L : List Bool) (R : Array Value) (B : Option Addr) (m c : Nat) (P : List Int) (w : World) (h : CW A w g L 111 R) (hl : L.length ≤ 80000000) (hr : Row w .i32 B m P) (h32 : R32 P) (hm : m ≤ 64)
    (hB : ∀ b o, B = some ⟨b, o, none⟩ → 0 < m → A b) :
    Calls Try.prog 50 #[.pointer (some ⟨g, 0, none⟩), .slice B m c] w fun e w' => e = .returned (.tuple #[]) ∧ CP A w w' g (L ++ rblock P) 111 R := by
  have H := Lib.hid h
  have HR := Lib.hid (And.intro hr (And.intro h32 hB))
  obtain rfl := hr.len
  have hbl := rbest_le P
  have HBs := Lib.hid (cBest_any B P.length c P w hr h32 (by omega))
  have Hblk : Hid (rblock P = bitsOf (rbest P) 5 ++ rnums (rbest P) P) := Lib.hid rfl
  generalize rbest P = k at *
  generalize rblock P = M at *
  have k0 : (0 : Int) ≤ (k : Int) := by omega
  have k1 : (k : Int) ≤ 24 := by omega
  clear h hr h32 hB
  go_enter Try.func50, Try.ntmps50
  go_wp2_with fail
  refine HBs.out.mono ?_
  rintro e w' ⟨rfl, rfl⟩
  clear HBs
  go_wp2_with fail
  refine (cwBits_any A g L 111 R k 5 _ H.out (by omega) (by omega)).mono ?_
  rintro e w2 ⟨rfl, h2⟩
  rw [show wBitsN 5 = 5 from by decide] at h2
  have H2 := Lib.hid h2
  clear h2
  go_wp2_with fail
  go_loopw [17] (fun i wr => ∃ r : Nat, r ≤ P.length ∧ i = .int .i64 r ∧ CP A w wr g ((L ++ bitsOf k 5) ++ rnums k (P.take r)) 111 R) (fun i _ => (P.length - intOf i).toNat)
  case atStart => exact ⟨0, by omega, rfl, by simpa [rnums] using H2.out⟩
  case round =>
    obtain ⟨r, hr, rfl, hq⟩ := hrel
    have HQ := Lib.hid hq
    clear hq H2
    by_cases hrm : r < P.length
    · have hrow := HR.out.1.kept HQ.out.2 (fun b o e h0 e2 => e2 (HR.out.2.2 b o e h0))
      obtain ⟨b', o', rfl, hb, hc⟩ := hrow.at_ r hrm
      have hv := HR.out.2.1.at_ r
      have Ht := Lib.hid (rnums_take k P (i := r) hrm)
      have hsm := rcost_small hbl (l := P) hm r
      have r0 : (r : Int) < (P.length : Int) := by omega
      generalize P.getD r 0 = v at *
      clear hrow
      go_wp2_with fail
      refine (cNumber_any A g _ R v k _ HQ.out.1 (by simp only [List.length_append, bitsOf_length]; omega) hv hbl).mono ?_
      rintro e w3 ⟨rfl, h3⟩
      rw [List.append_assoc, ← Ht.out] at h3
      have H3 := Lib.hid (HQ.out.trans h3)
      clear h3 HQ
      go_wp2_with fail
      go_roundw
      case rel => exact ⟨r + 1, by omega, by go_num, H3.out⟩
      case measure => simp [intOf]; omega
    · obtain rfl : r = P.length := by omega
      go_wp2_with fail
      go_end0
      refine ⟨rfl, ?_⟩
      have := HQ.out
      rw [List.take_length, List.append_assoc, ← Hblk.out] at this
      exact this

end Go.Proofs.Ytodmchjdflpbpaa

/- slices.Chunk over a list of numbers of 32 bits, and the iterator that it makes. -/
namespace Go.Proofs.Ytodmchjdflpbpaa
open Go.RowKit Go.Shelf
set_option maxRecDepth 100000

attribute [local go_sem] Oper.semAt_some

/-- The j-th part of 64 of the slice. -/
def chunkAt (A : Option Addr) (n j : Nat) : Value := .slice (A.map fun a => ⟨a.block, a.off + 64 * j, none⟩) (min 64 (n - 64 * j)) (min 64 (n - 64 * j))
def chunks (n : Nat) : Nat := (n + 63) / 64

set_option maxHeartbeats 1000000 in
theorem chunk_any (A : Option Addr) (n c : Nat) (w : World) :
    Calls Try.prog 49 #[.slice A n c, .int .i64 64] w fun e w' => e = .returned (.func (.func 52) #[] #[.pointer (some ⟨w.heap.size, 0, none⟩), .pointer (some ⟨w.heap.size + 1, 0, none⟩)]) ∧
      w' = (w.alloc (.cells #[.slice A n c] 51)).alloc (.cells #[.int .i64 64] 3) := by
  go_enter Try.func49, Try.ntmps49
  go_wp2
  go_ret
  exact ⟨rfl, rfl⟩

set_option maxHeartbeats 2000000 in
/-- The iterator. -/
theorem chunk1_in (m : Nat) (hm : 1 ≤ m) (l B b o n c : Nat) (hnc : n ≤ c) (hn : n ≤ 1048576) (J Jx : List Nat → World → Prop) (hJ : ∀ s V, J s V → J s V.drew)
    (hY : ∀ pre x W, J pre W → pre.length < chunks n → YieldAt Fence.wide (m - 1) Try.prog l #[chunkAt (some ⟨b, o, none⟩) n x] W fun e W' =>
      (e = .returned (.bool true) ∧ J (pre ++ [x]) W' ∧ BoxesAt B W W') ∨ (e = .returned (.bool false) ∧ Jx (pre ++ [x]) W'))
    (W : World) (h1 : Blk W B 51 #[.slice (some ⟨b, o, none⟩) n c]) (h2 : Blk W (B + 1) 3 #[.int .i64 64]) (h0 : J [] W) :
    CallsIn Fence.wide m Try.prog 52 #[.func (.yield l) #[] #[], .pointer (some ⟨B, 0, none⟩), .pointer (some ⟨B + 1, 0, none⟩)] W fun e W' => (∃ v, e = .returned v) ∧
      ((∃ ys, ys = List.range (chunks n) ∧ J ys W') ∨ (∃ pre, (∃ k, k ≤ chunks n ∧ pre = List.range k) ∧ Jx pre W')) := by
  have n0 : (n : Int) ≤ 1048576 := by omega
  have n1 : (n : Int) ≤ (c : Int) := by omega
  refine callsIn_of_wp Try.func52 rfl trivial ?_ rfl
  simp only [Try.ntmps52, List.size_toArray, List.length_cons, List.length_nil, Nat.reduceAdd, Nat.reduceSub, Array.replicate_succ, Array.replicate_zero, List.push_toArray, List.append_toArray, List.nil_append, List.cons_append]
  gi_wp2
  gi_loopw [4] (fun i wr => ∃ k : Nat, 64 * k < n + 64 ∧ i = .int .i64 ((64 * k : Nat) : Int) ∧ J (List.range k) wr ∧ Blk wr B 51 #[.slice (some ⟨b, o, none⟩) n c] ∧ Blk wr (B + 1) 3 #[.int .i64 64])
    (fun i _ => n + 64 - (intOf i).toNat)
  case atStart => exact ⟨0, by omega, rfl, h0, h1, h2⟩
  case round =>
    obtain ⟨k, hk, rfl, hJs, hb1, hb2⟩ := hrel
    have c1 := hb1.cell 0
    have c2 := hb2.cell 0
    simp only [List.getElem?_toArray, List.getElem?_cons_zero] at c1 c2
    by_cases hlt : 64 * k < n
    · obtain ⟨fn, tmps, assign, body, hy, hR⟩ := hY _ k wr.drew (hJ _ _ hJs) (by rw [List.length_range]; unfold chunks; omega)
      obtain ⟨m', hm'⟩ : ∃ m', m' = min 64 (n - 64 * k) := ⟨_, rfl⟩
      simp only [chunkAt, Option.map_some, ← hm'] at hy
      have j0 : ((64 * k : Nat) : Int) < (n : Int) := by omega
      have HM := Lib.hid hm'
      have hmin : min (64 : Int) ((n - 64 * k : Nat) : Int) = (m' : Int) := by omega
      have hb1' := hb1.drew
      have hb2' := hb2.drew
      have c1' : wr.drew.cell? ⟨B, 0, none⟩ = some (.slice (some ⟨b, o, none⟩) n c) := c1
      have c2' : wr.drew.cell? ⟨B + 1, 0, none⟩ = some (.int .i64 64) := c2
      have jm : 64 * k + m' ≤ n := by omega
      have jm' : ((64 * k : Nat) : Int) + (m' : Int) ≤ (n : Int) := by omega
      clear hm'
      gi_wp2
      gi_region
      have jt : ((64 * k : Nat) : Int) + (m' : Int) = ((64 * k + m' : Nat) : Int) := by omega
      have jd : 64 * k + m' - 64 * k = m' := by omega
      gi_wp2
      refine hR.mono ?_
      rintro e W3 (⟨rfl, hJ3, hk3⟩ | ⟨rfl, hJx3⟩)
      · have hb1'' : Blk W3 B 51 #[.slice (some ⟨b, o, none⟩) n c] := hk3.1.trans hb1'
        have hb2'' : Blk W3 (B + 1) 3 #[.int .i64 64] := hk3.2.trans hb2'
        have c2'' := hb2''.cell 0
        simp only [List.getElem?_toArray, List.getElem?_cons_zero] at c2''
        gi_wp2
        go_roundw
        case rel => exact ⟨k + 1, by omega, by go_num, by rw [List.range_succ]; exact hJ3, hb1'', hb2''⟩
        case measure => simp [intOf]; omega
      · gi_wp2
        refine bodyPost_ret (results_none rfl _ _ _) rfl ?_
        exact ⟨⟨_, rfl⟩, .inr ⟨_, ⟨k + 1, by unfold chunks; omega, List.range_succ.symm⟩, hJx3⟩⟩
    · have j0 : ¬ ((64 * k : Nat) : Int) < (n : Int) := by omega
      gi_wp2
      go_end0
      exact ⟨⟨_, rfl⟩, .inl (by rw [show chunks n = k from by unfold chunks; omega]; exact hJs)⟩

set_option maxHeartbeats 1000000 in
/-- Of no numbers: no round. -/
theorem chunk0_in (m : Nat) (l B : Nat) (A : Option Addr) (c : Nat) (J : List Nat → World → Prop)
    (W : World) (h1 : Blk W B 51 #[.slice A 0 c]) (h0 : J [] W) :
    CallsIn Fence.wide m Try.prog 52 #[.func (.yield l) #[] #[], .pointer (some ⟨B, 0, none⟩), .pointer (some ⟨B + 1, 0, none⟩)] W fun e W' => (∃ v, e = .returned v) ∧ J [] W' := by
  refine callsIn_of_wp Try.func52 rfl trivial ?_ rfl
  simp only [Try.ntmps52, List.size_toArray, List.length_cons, List.length_nil, Nat.reduceAdd, Nat.reduceSub, Array.replicate_succ, Array.replicate_zero, List.push_toArray, List.append_toArray, List.nil_append, List.cons_append]
  have c1 := h1.cell 0
  simp only [List.getElem?_toArray, List.getElem?_cons_zero] at c1
  gi_wp2
  gi_loopw [4] (fun i wr => i = .int .i64 0 ∧ J [] wr ∧ Blk wr B 51 #[.slice A 0 c]) (fun _ _ => 0)
  case atStart => exact ⟨rfl, h0, h1⟩
  case round =>
    obtain ⟨rfl, hJs, hb⟩ := hrel
    have c1 := hb.cell 0
    simp only [List.getElem?_toArray, List.getElem?_cons_zero] at c1
    gi_wp2
    go_end0
    exact ⟨⟨_, rfl⟩, hJs⟩

/-- What Chunk hands back tells the parts of the slice, one behind the other; or the first ones of them. -/
theorem chunk_stops (m : Nat) (hm : 1 ≤ m) (B : Nat) (A : Option Addr) (n c : Nat) (hA : 0 < n → ∃ b o, A = some ⟨b, o, none⟩) (hnc : n ≤ c) (hn : n ≤ 1048576) (w : World)
    (h1 : Blk w B 51 #[.slice A n c]) (h2 : Blk w (B + 1) 3 #[.int .i64 64]) :
    SeqStopsK Fence.wide m Try.prog 52 #[.pointer (some ⟨B, 0, none⟩), .pointer (some ⟨B + 1, 0, none⟩)] (fun j : Nat => #[chunkAt A n j]) (BoxesAt B) (fun ys => ys = List.range (chunks n))
      (fun pre => ∃ k, k ≤ chunks n ∧ pre = List.range k) (chunks n) w := fun l J Jx W hW hJ _ hY h0 => by
  have g1 : Blk W B 51 #[.slice A n c] := (hW.block B h1.lt).trans h1
  have g2 : Blk W (B + 1) 3 #[.int .i64 64] := (hW.block (B + 1) h2.lt).trans h2
  rcases Nat.eq_zero_or_pos n with h | h
  · subst h
    exact (chunk0_in m l B A c J W g1 h0).mono fun e W' ⟨he, hj⟩ => ⟨he, .inl ⟨_, rfl, hj⟩⟩
  · obtain ⟨b, o, rfl⟩ := hA h
    exact chunk1_in m hm l B b o n c hnc hn J Jx (fun s V hs => hJ s V V.drew none hs ⟨rfl, rfl, rfl, Nat.le_refl _, fun _ _ _ => rfl⟩ (fun r e => by cases e)) hY W g1 g2 h0

end Go.Proofs.Ytodmchjdflpbpaa

/- The code's Pack of rice. -/
namespace Go.Proofs.Ytodmchjdflpbpaa
open Go.RowKit Go.Shelf
set_option maxRecDepth 100000

attribute [local go_sem] Oper.semAt_some

/-- The protected set grows by blocks that are new. -/
theorem CW.move {A A' S : Nat → Prop} {w w' : World} {g : Nat} {L : List Bool} {t : TypeId} {R : Array Value} (h : CW A w g L t R) (hk : Kept S w w') (hS : ∀ k, S k → k < w.heap.size → A k) (hA : ∀ k, A' k → k < w'.heap.size ∧ (A k ∨ w.heap.size ≤ k)) : CW A' w' g L t R := by
  obtain ⟨v, hv⟩ := h
  have h1 := hv.wtr.blk.lt
  refine ⟨v, ⟨hv.wtr.blk.kept hk (fun e => hv.out (hS _ e h1)), hv.wtr.own.kept hk (fun k e hs => hv.far k e (hS k hs (hv.wtr.own.lt e))), hv.wtr.len, hv.wtr.byte, hv.wtr.ty⟩, fun e => ?_, fun k e e2 => ?_, fun k e => (hA k e).1⟩
  · rcases (hA _ e).2 with e3 | e3
    · exact hv.out e3
    · omega
  · have h2 := hv.wtr.own.lt e
    rcases (hA _ e2).2 with e3 | e3
    · exact hv.far k e e3
    · omega
theorem CW.wide {A : Nat → Prop} {w : World} {g : Nat} {L : List Bool} {t : TypeId} {R : Array Value} (h : CW A w g L t R) : CW (fun k => A k ∨ NoCells w k) w g L t R := by
  obtain ⟨v, hv⟩ := h
  exact ⟨v, ⟨hv.wtr, fun e => e.elim hv.out hv.wtr.blk.cells, fun k e e2 => e2.elim (hv.far k e) (hv.wtr.own.cells e), fun k e => e.elim (hv.there k) NoCells.lt⟩⟩
theorem CW.less {A A' : Nat → Prop} {w : World} {g : Nat} {L : List Bool} {t : TypeId} {R : Array Value} (h : CW A w g L t R) (hA : ∀ k, A' k → A k) : CW A' w g L t R := by
  obtain ⟨v, hv⟩ := h
  exact ⟨v, ⟨hv.wtr, fun e => hv.out (hA _ e), fun k e e2 => hv.far k e (hA _ e2), fun k e => hv.there k (hA _ e)⟩⟩

/-- The bits of some parts, one behind the other. -/
def rparts (l : List Int) (pre : List Nat) : List Bool := pre.flatMap fun j => rblock (rpart l j)
theorem rparts_snoc (l : List Int) (pre : List Nat) (x : Nat) : rparts l (pre ++ [x]) = rparts l pre ++ rblock (rpart l x) := by simp [rparts]
theorem rparts_range (l : List Int) : ∀ j, rparts l (List.range j) = rto l j
  | 0 => rfl
  | j + 1 => by rw [List.range_succ, rparts_snoc, rparts_range l j]; rfl
theorem rparts_length (l : List Int) : ∀ pre : List Nat, (rparts l pre).length ≤ 3589 * pre.length
  | [] => by simp [rparts]
  | x :: r => by
    have ih := rparts_length l r
    have e : rparts l (x :: r) = rblock (rpart l x) ++ rparts l r := by simp [rparts]
    have h2 := rcost_le (rbest_le (rpart l x)) (rpart l x)
    rw [rpart_length] at h2
    rw [e, List.length_append, rblock_length, List.length_cons]
    omega

/-- A part of a list, as Chunk tells it. -/
theorem Row.chunk {w : World} {A : Option Addr} {n : Nat} {l : List Int} (h : Row w .i32 A n l) (x : Nat) : Row w .i32 (A.map fun a => ⟨a.block, a.off + 64 * x, none⟩) (min 64 (n - 64 * x)) (rpart l x) :=
  ⟨by rw [rpart_length, h.len], fun j hj => by
    obtain ⟨b, o, rfl, hb, hc⟩ := h.at_ (64 * x + j) (by omega)
    refine ⟨b, o + 64 * x, rfl, hb, ?_⟩
    rw [Nat.add_assoc, hc, rpart_getD l x j (by omega)]⟩
theorem Row.chunk_in {w : World} {A : Option Addr} {n : Nat} {l : List Int} (h : Row w .i32 A n l) {x b o : Nat} (e : (A.map fun a => (⟨a.block, a.off + 64 * x, none⟩ : Addr)) = some ⟨b, o, none⟩) (hm : 0 < min 64 (n - 64 * x)) : b < w.heap.size := by
  obtain ⟨b', o', rfl, hb, _⟩ := h.at_ 0 (by omega)
  simp only [Option.map_some, Option.some.injEq, Addr.mk.injEq] at e
  omega

set_option maxHeartbeats 3200000 in
/-- Pack: P10.2. -/
theorem cPackR_any (A : Option Addr) (n c : Nat) (l : List Int) (w : World) (hr : Row w .i32 A n l) (h32 : R32 l) (hn : n ≤ 1048576) (hnc : n ≤ c) :
    Calls Try.prog 46 #[.slice A n c] w fun e w' => ∃ u, e = .returned (.tuple #[u, .int .i64 0]) ∧ NewRow w w' 5 .u8 u (pk (rall l)) := by
  refine (callsIn_wide (n := 4)).1 ?_
  have HR := Lib.hid (And.intro hr h32)
  have n0 : ¬ (1048576 : Int) < (n : Int) := by omega
  have hA : 0 < n → ∃ b o, A = some ⟨b, o, none⟩ := fun h0 => by
    obtain ⟨b, o, e, _⟩ := hr.at_ 0 h0
    exact ⟨b, o, e⟩
  have hlen := hr.len
  have HX := Lib.hid (And.intro hA (And.intro hnc (And.intro hn hlen)))
  clear hr h32 hA hlen
  refine callsIn_of_wp_marks Try.func46 rfl trivial ?_ rfl
  simp only [Try.ntmps46, List.size_toArray, List.length_cons, List.length_nil, Nat.reduceAdd, Nat.reduceSub, Array.replicate_succ, Array.replicate_zero, List.push_toArray, List.append_toArray, List.nil_append, List.cons_append]
  gi_wp2_with (refine ⟨trivial, ?_⟩; gi_at_call 49; refine (callsIn_wide.2 (chunk_any A n c _)).mono ?_; rintro e w' ⟨rfl, rfl⟩)
  obtain ⟨W0, hW0⟩ : ∃ W0, W0 = ((w.alloc (.cells #[.slice none 0 0, .int .i64 0] 111)).alloc (.cells #[.slice A n c] 51)).alloc (.cells #[.int .i64 64] 3) := ⟨_, rfl⟩
  have hz : W0.heap.size = w.heap.size + 3 := by rw [hW0]; simp
  have hf0 : Fresh w W0 := by rw [hW0]; exact (((Kept.refl _ _).alloc _).alloc _).alloc _
  have hb1 : Blk W0 (w.heap.size + 1) 51 #[.slice A n c] := by
    rw [hW0]
    have := Blk.new (w.alloc (.cells #[.slice none 0 0, .int .i64 0] 111)) 51 #[.slice A n c]
    rw [World.size_alloc] at this
    exact this.alloc _
  have hb2 : Blk W0 (w.heap.size + 1 + 1) 3 #[.int .i64 64] := by
    rw [hW0]
    have := Blk.new ((w.alloc (.cells #[.slice none 0 0, .int .i64 0] 111)).alloc (.cells #[.slice A n c] 51)) 3 #[.int .i64 64]
    rw [World.size_alloc, World.size_alloc] at this
    exact this
  obtain ⟨A0, hA0⟩ : ∃ A0 : Nat → Prop, A0 = fun k => k < w.heap.size ∨ k = w.heap.size + 1 ∨ k = w.heap.size + 1 + 1 := ⟨_, rfl⟩
  have hc0 : CW A0 W0 w.heap.size [] 111 #[] := by
    have h1 : CW (fun k => k < w.heap.size) (w.alloc (.cells #[.slice none 0 0, .int .i64 0] 111)) w.heap.size [] 111 #[] := CW.new (t := 111) (R := #[]) w (fun k => k < w.heap.size) (fun k e => e) (by decide)
    refine h1.move (S := fun _ => False) (w' := W0) ?_ (fun _ e _ => e.elim) (fun k e => ?_)
    · rw [hW0]; exact ((Kept.refl _ _).alloc _).alloc _
    · rw [hA0] at e
      simp only [World.size_alloc]
      omega
  rw [← hW0]
  have H0 := Lib.hid (And.intro hc0 (And.intro hf0 (And.intro hb1 hb2)))
  clear hc0 hf0 hb1 hb2 hW0
  refine wpIn_rangeFunc_ownG rfl (by omega) (gf := 52) (lb := #[.pointer (some ⟨w.heap.size + 1, 0, none⟩), .pointer (some ⟨w.heap.size + 1 + 1, 0, none⟩)]) rfl trivial (enters_of Try.func52 (by kernel_rfl) rfl)
    (chunk_stops 3 (by omega) (w.heap.size + 1) A n c HX.out.1 HX.out.2.1 HX.out.2.2.1 W0 H0.out.2.2.1 H0.out.2.2.2) boxes_t (boxes_b (by omega)) (Below.refl _ _) (fun _ => rfl)
    (fun pre W => CW A0 W w.heap.size (rparts l pre) 111 #[] ∧ Fresh w W)
    (fun _ _ _ => False)
    (fun s X Y row hs hg hr => ⟨(hs.1.wide.kept (kept_of_grown hg) (fun k e _ => .inr (hr k e).2)).less (fun _ e => .inl e), hs.2.trans (kept_of_grown hg) fun i hi e => by have := (hr i e).1; omega⟩)
    (fun _ _ _ _ _ hs _ _ => hs)
    ⟨by simpa [rparts] using H0.out.1, H0.out.2.1⟩
    (fun x => { tmps := #[.slice A n c, undef, .slice none 0 0, .int .i64 0, .pointer (some ⟨w.heap.size, 0, none⟩), chunkAt A n x, .slice A n c, .int .i64 n, .bool false, .slice A n c, .func (.func 52) #[] #[.pointer (some ⟨w.heap.size + 1, 0, none⟩), .pointer (some ⟨w.heap.size + 1 + 1, 0, none⟩)], chunkAt A n x, undef, undef, undef, undef], defers := [] }) ?assign ?body ?done ?stop
  case assign =>
    intro l x W K hK
    gi_wp2
    exact hK
  case body =>
    rintro L pre x W ⟨hc, hf⟩ hlen
    have hrow := (HR.out.1.chunk x).kept hf (fun _ _ _ _ => id)
    have hsz := rparts_length l pre
    have hpre : (rparts l pre).length ≤ 80000000 := by have := HX.out.2.2.1; unfold chunks at hlen; omega
    have HB := Lib.hid (cBlock_any (fun k => A0 k ∨ NoCells W k) w.heap.size (rparts l pre) #[] _ (min 64 (n - 64 * x)) (min 64 (n - 64 * x)) (rpart l x) W hc.wide hpre hrow (rpart_32 HR.out.2 x) (by omega)
      (fun b o e hm => .inl (by rw [hA0]; exact .inl (HR.out.1.chunk_in e hm))))
    have hlt : w.heap.size + 1 < W.heap.size ∧ w.heap.size + 1 + 1 < W.heap.size := by
      obtain ⟨v, hv⟩ := hc
      exact ⟨hv.there _ (by rw [hA0]; exact .inr (.inl rfl)), hv.there _ (by rw [hA0]; exact .inr (.inr rfl))⟩
    have HF := Lib.hid (And.intro hf hlt)
    clear hc hf hrow hsz hpre hlt
    gi_wp2_with (refine ⟨trivial, ?_⟩; gi_at_call 50; refine (CallsIn.inRound L (callsIn_wide.2 HB.out)).mono ?_; rintro e w1 ⟨rfl, hp⟩)
    refine ⟨KeepsFrom.of _ hp.2 (fun k e e2 => e (.inr e2)), ⟨hp.2.block _ HF.out.2.1 (fun e => e (.inl (by rw [hA0]; exact .inr (.inl rfl)))), hp.2.block _ HF.out.2.2 (fun e => e (.inl (by rw [hA0]; exact .inr (.inr rfl))))⟩, ?_, HF.out.1.trans hp.2 fun i hi e => e (.inl (by rw [hA0]; exact .inl hi))⟩
    rw [rparts_snoc]
    exact hp.1.less fun _ e => .inl e
  case done =>
    rintro D ys W hD rfl ⟨hc, hf⟩ hK
    have hall : rparts l (List.range (chunks n)) = rall l := by
      rw [rparts_range]
      unfold rall chunks rblocks
      rw [HX.out.2.2.2]
    rw [hall] at hc
    have hsm : (rall l).length ≤ 70000000 := by have := rall_length l; have := HX.out.2.2; omega
    have HC := Lib.hid (cwBytes_any A0 w.heap.size (rall l) 111 #[] W hc (by omega))
    have HK := Lib.hid (And.intro hK hf)
    clear hc hf hK hall hsm
    gi_wp2_with (refine ⟨trivial, ?_⟩; gi_at_call 51; refine (callsIn_wide.2 HC.out).mono ?_; rintro e w1 ⟨u, rfl, hu⟩)
    have hK1 : w1.heap[D]? = some (.deferred (some [])) := (hu.2.2.block D (Array.getElem?_eq_some_iff.1 HK.out.1).1 id).trans HK.out.1
    refine ⟨by simp, .inl ⟨_, _, rfl, run_takeDeferred hK1, ?_⟩⟩
    have hg := kept_of_grown (grownBy_putObj' w1 D (.deferred none))
    exact ⟨_, results_tmp2 rfl _ _ _, u, rfl, hu.1.kept hg (fun g e e2 => by cases e2; exact hu.1.cells e ⟨_, hK1, rfl⟩), fun g e => Nat.le_trans HK.out.2.size (hu.2.1 g e),
      (HK.out.2.trans hu.2.2 fun _ _ e => e).trans hg fun i hi e => by cases e; omega⟩
  case stop =>
    rintro D c pre W _ _ h _
    exact h.elim

end Go.Proofs.Ytodmchjdflpbpaa

/- The contract of bits.New. -/
namespace Go.Proofs.Ytodmchjdflpbpaa
open Go.RowKit
set_option maxRecDepth 100000

attribute [local go_sem ↓] Go.wp_at_zero Go.wp_at_succ


end Go.Proofs.Ytodmchjdflpbpaa

/- The code's unpacker of rice: number, block. -/
namespace Go.Proofs.Ytodmchjdflpbpaa
open Go.RowKit
set_option maxRecDepth 100000

attribute [local go_sem ↓] Go.wp_at_zero Go.wp_at_succ


/-- r numbers, read one behind the other, a fault or not: the numbers, the place, the fault. -/
def rrun (bs : List Int) (k p : Nat) (err : Int) : Nat → List Int × Nat × Int
  | 0 => ([], p, err)
  | r + 1 => ((rrun bs k p err r).1 ++ [unfold_ (rnum bs (rrun bs k p err r).2.1 (rrun bs k p err r).2.2 k).1], (rnum bs (rrun bs k p err r).2.1 (rrun bs k p err r).2.2 k).2)
theorem rrun_len (bs : List Int) (k p : Nat) (err : Int) : ∀ r, (rrun bs k p err r).1.length = r
  | 0 => rfl
  | r + 1 => by simp [rrun, rrun_len bs k p err r]
theorem rnum_err {bs : List Int} {p k : Nat} {err : Int} (h : err ≠ 0) : (rnum bs p err k).2.2 ≠ 0 := by
  unfold rnum sUnary
  simp only [if_pos h]
  unfold sBits
  rw [if_pos h]
  exact h
/-- A block, read without a stop, is what is read with one. -/
theorem rrun_rrd {bs : List Int} {j p k0 k p1 : Nat} {e1 : Int} {out : List Int} (h : rrd bs (64 * j) = some (p, k0, out)) (hS : sBits bs p 0 5 = (k, p1, e1)) : ∀ r, r < 64 →
    ((rrun bs k p1 e1 (r + 1)).2.2 = 0 → rrd bs (64 * j + r + 1) = some ((rrun bs k p1 e1 (r + 1)).2.1, k, out ++ (rrun bs k p1 e1 (r + 1)).1)) ∧ ((rrun bs k p1 e1 (r + 1)).2.2 ≠ 0 → rrd bs (64 * j + r + 1) = none)
  | 0, _ => by
    have hh : rhead bs (64 * j) p k0 = (k, p1, e1) := by unfold rhead; rw [if_pos (by omega), hS]
    have ho : rone bs (64 * j) p k0 = rnum bs p1 e1 k := by unfold rone; rw [hh]
    constructor
    · intro h0
      have h0' : (rnum bs p1 e1 k).2.2 = 0 := h0
      have := rrd_some h (by rw [ho]; exact h0')
      rw [ho, hh] at this
      exact this
    · intro h0
      have h0' : (rnum bs p1 e1 k).2.2 ≠ 0 := h0
      exact rrd_stop h (by rw [ho]; exact h0')
  | r + 1, hr => by
    obtain ⟨i1, i2⟩ := rrun_rrd h hS r (by omega)
    obtain ⟨s, hs⟩ : ∃ s, rrun bs k p1 e1 (r + 1) = s := ⟨_, rfl⟩
    have hstep : rrun bs k p1 e1 (r + 1 + 1) = (s.1 ++ [unfold_ (rnum bs s.2.1 s.2.2 k).1], (rnum bs s.2.1 s.2.2 k).2) := by rw [← hs]; rfl
    rw [hs] at i1 i2
    rw [hstep, show 64 * j + (r + 1) + 1 = 64 * j + r + 1 + 1 from rfl]
    by_cases h0 : s.2.2 = 0
    · have hp := i1 h0
      have hh : rhead bs (64 * j + r + 1) s.2.1 k = (k, s.2.1, 0) := by unfold rhead; rw [if_neg (by omega)]
      have ho : rone bs (64 * j + r + 1) s.2.1 k = rnum bs s.2.1 0 k := by unfold rone; rw [hh]
      rw [h0]
      constructor
      · intro h2
        have := rrd_some hp (by rw [ho]; exact h2)
        rw [ho, hh, List.append_assoc] at this
        exact this
      · intro h2
        exact rrd_stop hp (by rw [ho]; exact h2)
    · constructor
      · intro h2
        exact absurd h2 (rnum_err h0)
      · intro _
        exact rrd_none (i2 h0) _ (by omega)

theorem set_mid (a s b : List Int) (x y : Int) (n : Nat) (hn : n = a.length + s.length) : (a ++ s ++ x :: b).set n y = a ++ (s ++ [y]) ++ b := by
  subst hn
  rw [List.set_append_right _ _ (by simp)]
  simp
/-- The list, of which a part is read. -/
def part (xs : List Int) (off : Nat) (s : List Int) : List Int := xs.take off ++ s ++ xs.drop (off + s.length)
theorem part_len {xs : List Int} {off : Nat} {s : List Int} (h : off + s.length ≤ xs.length) : (part xs off s).length = xs.length := by simp [part]; omega
theorem part_set {xs : List Int} {off : Nat} {s : List Int} (h : off + s.length < xs.length) (y : Int) : (part xs off s).set (off + s.length) y = part xs off (s ++ [y]) := by
  unfold part
  have e : xs.drop (off + s.length) = xs[off + s.length] :: xs.drop (off + (s ++ [y]).length) := by
    rw [List.drop_eq_getElem_cons h]; simp [Nat.add_assoc]
  rw [e]
  exact set_mid _ _ _ _ _ _ (by simp; omega)


end Go.Proofs.Ytodmchjdflpbpaa

/- The code's Unpack of rice: what its rounds come to; a round. -/
namespace Go.Proofs.Ytodmchjdflpbpaa
open Go.RowKit
set_option maxRecDepth 100000

/-- One block, read: the place and the list behind it. -/
def ustep (bs : List Int) (n : Nat) (s : Nat × List Int) (x : Nat) : Option (Nat × List Int) :=
  if (sBits bs s.1 0 5).1 ≤ 24 ∧ (rrun bs (sBits bs s.1 0 5).1 (sBits bs s.1 0 5).2.1 (sBits bs s.1 0 5).2.2 (min 64 (n - 64 * x))).2.2 = 0 then
    some ((rrun bs (sBits bs s.1 0 5).1 (sBits bs s.1 0 5).2.1 (sBits bs s.1 0 5).2.2 (min 64 (n - 64 * x))).2.1, part s.2 (64 * x) (rrun bs (sBits bs s.1 0 5).1 (sBits bs s.1 0 5).2.1 (sBits bs s.1 0 5).2.2 (min 64 (n - 64 * x))).1)
  else none
/-- Some blocks. -/
def ust (bs : List Int) (n : Nat) (pre : List Nat) : Option (Nat × List Int) := pre.foldl (fun s x => s.bind fun t => ustep bs n t x) (some (0, List.replicate n 0))
theorem ust_snoc (bs : List Int) (n : Nat) (pre : List Nat) (x : Nat) : ust bs n (pre ++ [x]) = (ust bs n pre).bind fun t => ustep bs n t x := by simp [ust]
theorem ustep_len {bs : List Int} {n x : Nat} {s t : Nat × List Int} (h : ustep bs n s x = some t) (hs : s.2.length = n) : t.2.length = n := by
  unfold ustep at h
  split at h
  · injection h with h
    subst h
    simp only []
    have hl := rrun_len bs (sBits bs s.1 0 5).1 (sBits bs s.1 0 5).2.1 (sBits bs s.1 0 5).2.2 (min 64 (n - 64 * x))
    unfold part
    simp
    omega
  · cases h

theorem rto_stands {bs l : List Int} {m : Nat} (h : Stands bs 0 (rto l m)) : ∀ j, j ≤ m → Stands bs 0 (rto l j) := by
  induction m with
  | zero =>
    intro j hj
    rw [show j = 0 by omega]
    exact h
  | succ m ih =>
    intro j hj
    rcases Nat.lt_or_ge m j with h2 | h2
    · obtain rfl : j = m + 1 := by omega
      exact h
    · exact ih h.left j h2
/-- No pack tells a parameter above 24. -/
theorem param_bad {bs : List Int} {n j p k0 k p1 : Nat} {e1 : Int} {out : List Int} (h : rrd bs (64 * j) = some (p, k0, out)) (hj : 64 * j < n) (hS : sBits bs p 0 5 = (k, p1, e1)) (hk : 24 < k) : unR bs n = none := by
  rcases e : unR bs n with _ | l
  · rfl
  · exfalso
    rw [unR_iff] at e
    obtain ⟨rfl, h32, rfl⟩ := e
    have hst : Stands (pk (rall l)) 0 (rto l (rblocks l)) := by simpa [rall] using Stands.pk (rall l) []
    have hst2 := rto_stands hst (j + 1) (by unfold rblocks; omega)
    obtain ⟨k', h'⟩ := rrd_blocks h32 j (by omega) (rto_stands hst j (by unfold rblocks; omega))
    rw [Nat.min_eq_left (by omega), h] at h'
    simp only [Option.some.injEq, Prod.mk.injEq] at h'
    have h3 := hst2.right
    rw [Nat.zero_add, ← h'.1] at h3
    have hb := rbest_le (rpart l j)
    have h4 := bits_stands h3.left (Nat.lt_of_le_of_lt hb (by decide))
    rw [hS] at h4
    simp only [Prod.mk.injEq] at h4
    omega

theorem ust_range (bs : List Int) (n : Nat) : ∀ j, 64 * j < n + 64 →
    (∀ p xs, ust bs n (List.range j) = some (p, xs) → xs.length = n ∧ ∃ k, rrd bs (min (64 * j) n) = some (p, k, xs.take (min (64 * j) n))) ∧ (ust bs n (List.range j) = none → unR bs n = none)
  | 0, _ => by
    constructor
    · intro p xs h
      simp only [ust, List.range_zero, List.foldl_nil, Option.some.injEq, Prod.mk.injEq] at h
      obtain ⟨rfl, rfl⟩ := h
      exact ⟨by simp, 0, by simp [rrd]⟩
    · intro h
      simp [ust] at h
  | j + 1, hj => by
    obtain ⟨i1, i2⟩ := ust_range bs n j (by omega)
    rw [List.range_succ, ust_snoc]
    rcases e : ust bs n (List.range j) with _ | ⟨p0, xs0⟩
    · exact ⟨fun p xs h => (by cases h), fun _ => i2 e⟩
    · obtain ⟨hl, k0, hr⟩ := i1 p0 xs0 e
      have hjn : 64 * j < n := by omega
      rw [Nat.min_eq_left (by omega)] at hr
      simp only [Option.bind_some]
      obtain ⟨k, p1, e1, hS⟩ : ∃ k p1 e1, sBits bs p0 0 5 = (k, p1, e1) := ⟨_, _, _, rfl⟩
      obtain ⟨m, hm⟩ : ∃ m, min 64 (n - 64 * j) = m + 1 := ⟨min 64 (n - 64 * j) - 1, by omega⟩
      have hrun := rrun_rrd hr hS m (by omega)
      have hlen := rrun_len bs k p1 e1 (m + 1)
      have emin : min (64 * (j + 1)) n = 64 * j + m + 1 := by omega
      unfold ustep
      simp only [hS, hm]
      generalize rrun bs k p1 e1 (m + 1) = s at *
      rw [emin]
      by_cases hc : k ≤ 24 ∧ s.2.2 = 0
      · rw [if_pos hc]
        refine ⟨fun p xs h => ?_, fun h => by cases h⟩
        simp only [Option.some.injEq, Prod.mk.injEq] at h
        obtain ⟨rfl, rfl⟩ := h
        refine ⟨by rw [part_len (by omega)]; exact hl, k, ?_⟩
        rw [hrun.1 hc.2]
        have e2 : (part xs0 (64 * j) s.1).take (64 * j + m + 1) = xs0.take (64 * j) ++ s.1 := by
          unfold part
          rw [List.take_append_of_le_length (by simp; omega), List.take_of_length_le (by simp; omega)]
        rw [e2]
      · rw [if_neg hc]
        refine ⟨fun p xs h => (by cases h), fun _ => ?_⟩
        by_cases hk : k ≤ 24
        · exact unR_none (hrun.2 fun e => hc ⟨hk, e⟩) (by omega)
        · exact param_bad hr hjn hS (by omega)

theorem ust_all {bs : List Int} {n p : Nat} {xs : List Int} (h : ust bs n (List.range (chunks n)) = some (p, xs)) : R32 xs ∧ xs.length = n ∧ unR bs n = if pk (rall xs) = bs then some xs else none := by
  obtain ⟨hl, k, hr⟩ := (ust_range bs n (chunks n) (by unfold chunks; omega)).1 p xs h
  rw [Nat.min_eq_right (by unfold chunks; omega), List.take_of_length_le (by omega)] at hr
  exact ⟨rrd_32 _ _ _ _ _ hr, hl, unR_some hr⟩
theorem ust_none {bs : List Int} {n k : Nat} (h : ust bs n (List.range k) = none) (hk : k ≤ chunks n) : unR bs n = none :=
  (ust_range bs n k (by unfold chunks at hk; omega)).2 h


end Go.Proofs.Ytodmchjdflpbpaa

/- The contract of bytes.Equal. -/
namespace Go.Proofs.Ytodmchjdflpbpaa
open Go.RowKit
set_option maxRecDepth 100000


end Go.Proofs.Ytodmchjdflpbpaa

/- The code's Unpack of rice. -/
namespace Go.Proofs.Ytodmchjdflpbpaa
open Go.RowKit Go.Shelf
set_option maxRecDepth 100000

attribute [local go_sem] Oper.semAt_some



end Go.Proofs.Ytodmchjdflpbpaa

/- The code of rice keeps what its laws ask. -/
namespace Go.Proofs.Ytodmchjdflpbpaa
open Go.RowKit
set_option maxRecDepth 100000

attribute [local go_sem ↓] Go.wp_at_zero Go.wp_at_succ



end Go.Proofs.Ytodmchjdflpbpaa
