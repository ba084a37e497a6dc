/- Texts of this proof, one behind the other: Grid, ModMath, ModHead. -/
import Derived.Test.YtpknbfkknnaajaaDoorPart3

/- Numbers by rows of m: as the cells of one block (gcs); one number is another one (gput); a whole row is laid (glaid). -/
namespace Go.Proofs.YtpknbfkknnaajaaDoor
open Go.RowKit

/-- One number is another one. -/
def gput (T : Nat → Nat → Int) (s k : Nat) (v : Int) : Nat → Nat → Int := fun i j => if i = s ∧ j = k then v else T i j
theorem gput_at (T : Nat → Nat → Int) (s k : Nat) (v : Int) : gput T s k v s k = v := by unfold gput; rw [if_pos ⟨rfl, rfl⟩]
theorem gput_bd {T : Nat → Nat → Int} {lo hi : Int} (h : ∀ i k, lo ≤ T i k ∧ T i k ≤ hi) {s k : Nat} {v : Int} (hv : lo ≤ v ∧ v ≤ hi) : ∀ i j, lo ≤ gput T s k v i j ∧ gput T s k v i j ≤ hi := by
  intro i j
  unfold gput
  split
  · exact hv
  · exact h i j

/-- A row as cells. -/
def rcs (kd : IntKind) (m : Nat) (F : Nat → Int) : Array Value := ((List.range m).map fun j => Value.int kd (F j)).toArray
theorem rcs_size (kd : IntKind) (m : Nat) (F : Nat → Int) : (rcs kd m F).size = m := by simp [rcs]
theorem rcs_get {kd : IntKind} {m : Nat} {F : Nat → Int} {j : Nat} (h : j < m) : (rcs kd m F)[j]? = some (.int kd (F j)) := by simp [rcs, h]
theorem rcs_one (kd : IntKind) (m : Nat) (F : Nat → Int) : (rcs kd m F).all (·.oneCell') = true := by
  unfold rcs
  refine toArray_all fun v hv => ?_
  simp only [List.mem_map] at hv
  obtain ⟨j, _, rfl⟩ := hv
  rfl
theorem rcs_congr {kd : IntKind} {m : Nat} {F G : Nat → Int} (h : ∀ j, j < m → F j = G j) : rcs kd m F = rcs kd m G := by
  unfold rcs
  congr 1
  apply List.map_congr_left
  intro j hj
  rw [h j (List.mem_range.1 hj)]
theorem rcs_set {kd : IntKind} {m : Nat} {F : Nat → Int} {k : Nat} (v : Int) : (rcs kd m F).setIfInBounds k (.int kd v) = rcs kd m (fun j => if j = k then v else F j) := by
  apply Array.ext_getElem?
  intro i
  rw [Array.getElem?_setIfInBounds]
  rcases Nat.lt_or_ge i m with hi | hi
  · rw [rcs_get hi, rcs_get hi, rcs_size]
    by_cases e : k = i
    · subst e; rw [if_pos rfl, if_pos hi, if_pos rfl]
    · rw [if_neg e, if_neg (fun e' => e e'.symm)]
  · have e1 : ∀ G : Nat → Int, (rcs kd m G)[i]? = none := fun G => Array.getElem?_eq_none (by rw [rcs_size]; exact hi)
    rw [e1, e1, rcs_size]
    by_cases e : k = i
    · subst e; rw [if_pos rfl, if_neg (by omega)]
    · rw [if_neg e]

/-- All numbers as cells: m a row. -/
def gcs (kd : IntKind) (m n : Nat) (T : Nat → Nat → Int) : Array Value := ((List.range (n * m)).map fun i => Value.int kd (T (i / m) (i % m))).toArray
section
variable {kd : IntKind} {m n : Nat} {T : Nat → Nat → Int}
theorem gcs_size (kd : IntKind) (m n : Nat) (T : Nat → Nat → Int) : (gcs kd m n T).size = n * m := by simp [gcs]
theorem place_lt {s k : Nat} (hs : s < n) (hk : k < m) : s * m + k < n * m := by
  have h1 : (s + 1) * m ≤ n * m := Nat.mul_le_mul_right m hs
  rw [Nat.add_mul] at h1; omega
theorem place_div {s k : Nat} (hk : k < m) : (s * m + k) / m = s ∧ (s * m + k) % m = k := by
  rw [Nat.mul_comm s m]
  exact ⟨by rw [Nat.mul_add_div (by omega), Nat.div_eq_of_lt hk, Nat.add_zero], by rw [Nat.mul_add_mod, Nat.mod_eq_of_lt hk]⟩
theorem gcs_at {i : Nat} (h : i < n * m) : (gcs kd m n T)[i]? = some (.int kd (T (i / m) (i % m))) := by
  simp only [gcs, List.getElem?_toArray, List.getElem?_map, List.getElem?_range h, Option.map_some]
theorem gcs_get {s k : Nat} (hs : s < n) (hk : k < m) : (gcs kd m n T)[s * m + k]? = some (.int kd (T s k)) := by
  rw [gcs_at (place_lt hs hk), (place_div hk).1, (place_div hk).2]
theorem gcs_none {i : Nat} (h : n * m ≤ i) : (gcs kd m n T)[i]? = none := Array.getElem?_eq_none (by rw [gcs_size]; exact h)
theorem gcs_set {s k : Nat} (hk : k < m) (v : Int) : (gcs kd m n T).setIfInBounds (s * m + k) (.int kd v) = gcs kd m n (gput T s k v) := by
  apply Array.ext_getElem?
  intro i
  rw [Array.getElem?_setIfInBounds, gcs_size]
  rcases Nat.lt_or_ge i (n * m) with hi | hi
  · rw [gcs_at hi, gcs_at hi]
    unfold gput
    by_cases e : s * m + k = i
    · subst e
      rw [if_pos rfl, if_pos hi, (place_div hk).1, (place_div hk).2, if_pos ⟨rfl, rfl⟩]
    · rw [if_neg e, if_neg]
      rintro ⟨rfl, rfl⟩
      exact e (by rw [Nat.mul_comm]; exact Nat.div_add_mod i m)
  · rw [gcs_none hi, gcs_none hi]
    by_cases e : s * m + k = i
    · rw [if_pos e, if_neg (by omega)]
    · rw [if_neg e]
theorem gcs_congr {V : Nat → Nat → Int} (h : ∀ i j, i < n → j < m → T i j = V i j) : gcs kd m n T = gcs kd m n V := by
  apply Array.ext_getElem?
  intro i
  rcases Nat.lt_or_ge i (n * m) with hi | hi
  · have hm : 0 < m := by rcases Nat.eq_zero_or_pos m with rfl | h0
                          · omega
                          · exact h0
    rw [gcs_at hi, gcs_at hi, h (i / m) (i % m) (by rw [Nat.div_lt_iff_lt_mul hm]; exact hi) (Nat.mod_lt _ hm)]
  · rw [gcs_none hi, gcs_none hi]

/-- The first r rows are F, the others nothing. -/
def glaid (F : Nat → Int) (r : Nat) : Nat → Nat → Int := fun i j => if i < r then F j else 0
theorem glaid_all (F : Nat → Int) : gcs kd m n (glaid F n) = gcs kd m n (fun _ j => F j) := gcs_congr fun i j hi _ => by unfold glaid; rw [if_pos hi]
theorem gcs_row (F : Nat → Int) {r : Nat} (hr : r < n) : ((gcs kd m n (glaid F r)).toList.take (r * m) ++ (rcs kd m F).toList ++ (gcs kd m n (glaid F r)).toList.drop (r * m + m)).toArray = gcs kd m n (glaid F (r + 1)) := by
  have hl : (gcs kd m n (glaid F r)).toList.length = n * m := by rw [Array.length_toList, gcs_size]
  have hrm : r * m + m ≤ n * m := by
    have h1 : (r + 1) * m ≤ n * m := Nat.mul_le_mul_right m hr
    rw [Nat.add_mul] at h1; omega
  have hr1 : (rcs kd m F).toList.length = m := by rw [Array.length_toList, rcs_size]
  have ht : ((gcs kd m n (glaid F r)).toList.take (r * m)).length = r * m := by rw [List.length_take, hl]; omega
  apply Array.ext_getElem?
  intro i
  rw [List.getElem?_toArray, List.append_assoc]
  rcases Nat.lt_or_ge i (n * m) with hi | hi
  · have hm : 0 < m := by rcases Nat.eq_zero_or_pos m with rfl | h0
                          · omega
                          · exact h0
    rw [gcs_at hi]
    rcases Nat.lt_or_ge i (r * m) with h1 | h1
    · rw [List.getElem?_append_left (by rw [ht]; exact h1), List.getElem?_take, if_pos h1, Array.getElem?_toList, gcs_at hi]
      have : i / m < r := by rw [Nat.div_lt_iff_lt_mul hm]; exact h1
      unfold glaid; rw [if_pos this, if_pos (by omega)]
    · rw [List.getElem?_append_right (by rw [ht]; exact h1), ht]
      rcases Nat.lt_or_ge (i - r * m) m with h2 | h2
      · rw [List.getElem?_append_left (by rw [hr1]; exact h2), Array.getElem?_toList, rcs_get h2]
        have e : i = r * m + (i - r * m) := by omega
        have e1 : i / m = r := by rw [e]; exact (place_div h2).1
        have e2 : i % m = i - r * m := by rw [e]; exact (place_div h2).2.trans (by omega)
        unfold glaid; rw [e1, e2, if_pos (by omega)]
      · rw [List.getElem?_append_right (by rw [hr1]; exact h2), hr1, List.getElem?_drop, Array.getElem?_toList, show r * m + m + (i - r * m - m) = i by omega, gcs_at hi]
        have : r + 1 ≤ i / m := by rw [Nat.le_div_iff_mul_le hm, Nat.add_mul]; omega
        unfold glaid; rw [if_neg (by omega), if_neg (by omega)]
  · rw [gcs_none hi]
    apply List.getElem?_eq_none
    simp only [List.length_append, List.length_drop, hl, ht, hr1]
    omega
theorem gcs_made (F : Nat → Int) : madeCells (rcs kd m fun _ => 0) (n * m) = gcs kd m n (glaid F 0) := by
  apply Array.ext_getElem?
  intro i
  rcases Nat.lt_or_ge i (n * m) with h | h
  · have hm : 0 < m := by rcases Nat.eq_zero_or_pos m with rfl | h0
                          · omega
                          · exact h0
    rw [gcs_at h]
    have hg : (rcs kd m fun _ => 0)[i % m]! = Value.int kd 0 := by
      rw [Array.getElem!_eq_getD, Array.getD_eq_getD_getElem?, rcs_get (Nat.mod_lt _ hm)]; rfl
    unfold glaid
    rw [if_neg (Nat.not_lt_zero _)]
    simp only [madeCells, rcs_size, Array.getElem?_map, Array.getElem?_range, if_pos h, Option.map_some, hg]
  · rw [gcs_none h, Array.getElem?_eq_none (by rw [size_madeCells]; exact h)]
end

end Go.Proofs.YtpknbfkknnaajaaDoor

/- The model as numbers (Mo), and what is left of it at one place of a byte that comes again and again (Ps, traj). -/
namespace Go.Proofs.YtpknbfkknnaajaaDoor

/-- What the mixer is given. -/
def ins (lv a b c : Nat) : List Int := [st (pc (ch a)), st (pc (ch b)), if lv = 2 then st (pc (ch c)) else 0, 256]
/-- The weights behind a learning. -/
def lrnW (W : Nat → Int) (I : Nat → Int) (e : Int) : Nat → Int := fun j => if j < 4 then lw (W j) (I j) e else W j
/-- One of them is another one. -/
def upd {α : Type} (f : Nat → α) (k : Nat) (v : α) : Nat → α := fun i => if i = k then v else f i
theorem upd_at {α : Type} (f : Nat → α) (k : Nat) (v : α) : upd f k v k = v := if_pos rfl
theorem upd_ne {α : Type} {f : Nat → α} {k i : Nat} {v : α} (h : i ≠ k) : upd f k v i = f i := if_neg h

/-- A place: the three guesses, the weights and the steps. -/
structure Ps where
  a : Nat
  b : Nat
  c : Nat
  W : Nat → Int
  T : Nat → Int
def Ps.t (lv : Nat) (p : Ps) : Int := tl (inp (ins lv p.a p.b p.c)) p.W
def Ps.chance (lv : Nat) (p : Ps) : Int := if lv = 0 then (ch p.a : Nat) else (p.t lv + 3 * rd p.T (sx (p.t lv))) / 4
def Ps.learn (lv : Nat) (one : Bool) (p : Ps) : Ps :=
  { a := nx p.a one 4
    b := if lv = 0 then p.b else nx p.b one 4
    c := if lv = 2 then nx p.c one 3 else p.c
    W := if lv = 0 then p.W else lrnW p.W (inp (ins lv p.a p.b p.c)) (er one (p.t lv))
    T := if lv = 0 then p.T else upd p.T (nr (sx (p.t lv))) (lr one 6 (p.T (nr (sx (p.t lv))))) }

/-- The model. -/
structure Mo where
  A : Nat → Nat
  B : Nat → Nat
  C : Nat → Nat
  W : Nat → Nat → Int
  T : Nat → Nat → Int
  part : Nat
  last : Nat
  older : Nat
def key2 (l p : Nat) : Nat := l * 256 + p
def key3 (o l p : Nat) : Nat := ((o * 256 + l) * 40503 + p * 7919) % 65536
def Mo.two (m : Mo) : Nat := key2 m.last m.part
def Mo.three (m : Mo) : Nat := key3 m.older m.last m.part
/-- What of it is asked of now. -/
def Mo.now (m : Mo) : Ps := ⟨m.A m.part, m.B m.two, m.C m.three, m.W m.part, m.T m.part⟩
def Mo.chance (lv : Nat) (m : Mo) : Int := m.now.chance lv
/-- The contexts behind a bit. -/
def nextPart (p : Nat) (one : Bool) : Nat := if 2 * p + one.toNat ≥ 256 then 1 else 2 * p + one.toNat
def nextLast (p l : Nat) (one : Bool) : Nat := if 2 * p + one.toNat ≥ 256 then 2 * p + one.toNat - 256 else l
def nextOlder (p l o : Nat) (one : Bool) : Nat := if 2 * p + one.toNat ≥ 256 then l else o
def Mo.learn (lv : Nat) (one : Bool) (m : Mo) : Mo :=
  { A := upd m.A m.part (m.now.learn lv one).a
    B := if lv = 0 then m.B else upd m.B m.two (m.now.learn lv one).b
    C := if lv = 2 then upd m.C m.three (m.now.learn lv one).c else m.C
    W := if lv = 0 then m.W else upd m.W m.part (m.now.learn lv one).W
    T := if lv = 0 then m.T else upd m.T m.part (m.now.learn lv one).T
    part := nextPart m.part one
    last := nextLast m.part m.last one
    older := nextOlder m.part m.last m.older one }
def mo0 : Mo := ⟨fun _ => 32768, fun _ => 32768, fun _ => 32768, fun _ _ => 16384, fun _ => fs, 1, 0, 0⟩

/-- What it holds lies within bounds. -/
structure Mo.Fine (m : Mo) : Prop where
  a : ∀ i, m.A i < 65536
  b : ∀ i, m.B i < 65536
  c : ∀ i, m.C i < 65536
  w : ∀ i k, -16777216 ≤ m.W i k ∧ m.W i k ≤ 16777216
  t : ∀ i k, 0 ≤ m.T i k ∧ m.T i k ≤ 65535
  p : 1 ≤ m.part ∧ m.part ≤ 255
  l : m.last ≤ 255
  o : m.older ≤ 255
theorem mo0_fine : mo0.Fine := ⟨fun _ => (by decide : 32768 < 65536), fun _ => (by decide : 32768 < 65536), fun _ => (by decide : 32768 < 65536), fun _ _ => (by decide : (-16777216 : Int) ≤ 16384 ∧ (16384 : Int) ≤ 16777216), fun _ k => by have := fs_bd k; exact ⟨by show 0 ≤ fs k; omega, by show fs k ≤ 65535; omega⟩, by decide, by decide, by decide⟩
theorem upd_all {α : Type} {P : α → Prop} {f : Nat → α} {k : Nat} {v : α} (h : ∀ i, P (f i)) (hv : P v) : ∀ i, P (upd f k v i) := by
  intro i; unfold upd; split
  · exact hv
  · exact h i
theorem Mo.Fine.learn {m : Mo} (h : m.Fine) (lv : Nat) (one : Bool) : (m.learn lv one).Fine := by
  refine ⟨upd_all (P := fun x => x < 65536) h.a (nx_lt (h.a _) _ _), ?_, ?_, ?_, ?_, ?_, ?_, ?_⟩
  · show ∀ i, (if lv = 0 then m.B else upd m.B m.two (m.now.learn lv one).b) i < 65536
    by_cases e : lv = 0
    · rw [if_pos e]; exact h.b
    · rw [if_neg e]
      refine upd_all (P := fun x => x < 65536) h.b ?_
      show (if lv = 0 then _ else _) < 65536
      rw [if_neg e]; exact nx_lt (h.b _) _ _
  · show ∀ i, (if lv = 2 then upd m.C m.three (m.now.learn lv one).c else m.C) i < 65536
    by_cases e : lv = 2
    · rw [if_pos e]
      refine upd_all (P := fun x => x < 65536) h.c ?_
      show (if lv = 2 then _ else _) < 65536
      rw [if_pos e]; exact nx_lt (h.c _) _ _
    · rw [if_neg e]; exact h.c
  · show ∀ i k, -16777216 ≤ (if lv = 0 then m.W else upd m.W m.part (m.now.learn lv one).W) i k ∧ (if lv = 0 then m.W else upd m.W m.part (m.now.learn lv one).W) i k ≤ 16777216
    by_cases e : lv = 0
    · rw [if_pos e]; exact h.w
    · rw [if_neg e]
      refine upd_all (P := fun (F : Nat → Int) => ∀ k, -16777216 ≤ F k ∧ F k ≤ 16777216) h.w ?_
      show ∀ k, -16777216 ≤ (if lv = 0 then m.now.W else _) k ∧ (if lv = 0 then m.now.W else _) k ≤ 16777216
      rw [if_neg e]
      intro k
      unfold lrnW
      split
      · exact lw_bd _ _ _
      · exact h.w _ k
  · show ∀ i k, 0 ≤ (if lv = 0 then m.T else upd m.T m.part (m.now.learn lv one).T) i k ∧ (if lv = 0 then m.T else upd m.T m.part (m.now.learn lv one).T) i k ≤ 65535
    by_cases e : lv = 0
    · rw [if_pos e]; exact h.t
    · rw [if_neg e]
      refine upd_all (P := fun (F : Nat → Int) => ∀ k, 0 ≤ F k ∧ F k ≤ 65535) h.t ?_
      show ∀ k, 0 ≤ (if lv = 0 then m.now.T else _) k ∧ (if lv = 0 then m.now.T else _) k ≤ 65535
      rw [if_neg e]
      exact upd_all (P := fun x => 0 ≤ x ∧ x ≤ 65535) (h.t _) (lr_bd _ _ (h.t _ _))
  · show 1 ≤ nextPart m.part one ∧ nextPart m.part one ≤ 255
    have := h.p
    unfold nextPart; split <;> omega
  · show nextLast m.part m.last one ≤ 255
    have := h.p; have := h.l
    have hb : one.toNat ≤ 1 := by cases one <;> decide
    unfold nextLast; split <;> omega
  · show nextOlder m.part m.last m.older one ≤ 255
    have := h.o; have := h.l
    unfold nextOlder; split <;> omega

end Go.Proofs.YtpknbfkknnaajaaDoor

/- A byte that comes again and again: its bits, the contexts of each, and what the tables hold behind the first two of it. -/
namespace Go.Proofs.YtpknbfkknnaajaaDoor

/-- The bits of a byte, the highest first, and the parts ahead of each. -/
def bit (c k : Nat) : Bool := Nat.beq (c / 2 ^ (7 - k) % 2) 1
def prt (c k : Nat) : Nat := 2 ^ k + c / 2 ^ (8 - k)
def lst (c i : Nat) : Nat := if i = 0 then 0 else c
def old (c i : Nat) : Nat := if i ≤ 1 then 0 else c
def prtOK (c : Nat) : Bool := (List.range 8).all fun k => Nat.blt (prt c k) 256 && (if k = 7 then Nat.beq (2 * prt c k + (bit c k).toNat) (256 + c) else Nat.beq (2 * prt c k + (bit c k).toNat) (prt c (k + 1))) && (List.range 8).all fun j => Nat.beq j k || !(Nat.beq (prt c j) (prt c k))
theorem prtOK_all : ∀ a, a < 16 → ∀ b, b < 16 → prtOK (16 * a + b) = true := by decide +kernel
theorem byte_split {P : Nat → Prop} (h : ∀ a, a < 16 → ∀ b, b < 16 → P (16 * a + b)) {c : Nat} (hc : c < 256) : P c := by
  have := h (c / 16) (by omega) (c % 16) (by omega)
  rw [show 16 * (c / 16) + c % 16 = c by omega] at this
  exact this
theorem prt_all {c k : Nat} (hc : c < 256) (hk : k < 8) : prt c k < 256 ∧ (k = 7 → 2 * prt c k + (bit c k).toNat = 256 + c) ∧ (k ≠ 7 → 2 * prt c k + (bit c k).toNat = prt c (k + 1)) ∧ ∀ j, j < 8 → j ≠ k → prt c j ≠ prt c k := by
  have h := (List.all_eq_true.1 (byte_split (P := fun c => prtOK c = true) prtOK_all hc)) k (List.mem_range.2 hk)
  rw [Bool.and_eq_true, Bool.and_eq_true] at h
  obtain ⟨⟨h1, h2⟩, h3⟩ := h
  refine ⟨by have : prt c k ≤ 255 := by simpa [Nat.blt] using h1
             omega, fun e => ?_, fun e => ?_, fun j hj hne e => ?_⟩
  · rw [if_pos e] at h2; exact Nat.eq_of_beq_eq_true h2
  · rw [if_neg e] at h2; exact Nat.eq_of_beq_eq_true h2
  · have := (List.all_eq_true.1 h3) j (List.mem_range.2 hj)
    rw [Bool.or_eq_true] at this
    rcases this with h | h
    · exact hne (Nat.eq_of_beq_eq_true h)
    · rw [e] at h; simp at h

/-- The second table alone, behind i bytes and k bits. -/
def tabB (c : Nat) : Nat → Nat → Nat
  | 0 => fun _ => 32768
  | t + 1 => upd (tabB c t) (key2 (lst c (t / 8)) (prt c (t % 8))) (nx (tabB c t (key2 (lst c (t / 8)) (prt c (t % 8)))) (bit c (t % 8)) 4)
/-- The third one. -/
def tabC (c : Nat) : Nat → Nat → Nat
  | 0 => fun _ => 32768
  | t + 1 => upd (tabC c t) (key3 (old c (t / 8)) (lst c (t / 8)) (prt c (t % 8))) (nx (tabC c t (key3 (old c (t / 8)) (lst c (t / 8)) (prt c (t % 8)))) (bit c (t % 8)) 3)
def spec (c j : Nat) : Bool := Nat.beq c 72 && Nat.beq j 1
/-- The first two bytes. -/
def headOK (c : Nat) : Bool := Nat.beq c 0 || ((List.range 16).all (fun t => Nat.beq (tabB c t (key2 (lst c (t / 8)) (prt c (t % 8)))) 32768 && Nat.beq (tabC c t (key3 (old c (t / 8)) (lst c (t / 8)) (prt c (t % 8)))) 32768)
  && (List.range 8).all (fun j => Nat.beq (tabB c 16 (key2 c (prt c j))) (nx 32768 (bit c j) 4) && Nat.beq (tabC c 16 (key3 c c (prt c j))) (if spec c j then 28672 else 32768)))
theorem headOK_all : ∀ a, a < 16 → ∀ b, b < 16 → headOK (16 * a + b) = true := by decide +kernel

theorem head_all {c : Nat} (hc : c < 256) (h0 : c ≠ 0) : (∀ t, t < 16 → tabB c t (key2 (lst c (t / 8)) (prt c (t % 8))) = 32768 ∧ tabC c t (key3 (old c (t / 8)) (lst c (t / 8)) (prt c (t % 8))) = 32768) ∧
    ∀ j, j < 8 → tabB c 16 (key2 c (prt c j)) = nx 32768 (bit c j) 4 ∧ tabC c 16 (key3 c c (prt c j)) = (if spec c j then 28672 else 32768) := by
  have h := byte_split (P := fun c => headOK c = true) headOK_all hc
  unfold headOK at h
  rw [Bool.or_eq_true, Bool.and_eq_true] at h
  rcases h with h | ⟨h1, h2⟩
  · exact absurd (Nat.eq_of_beq_eq_true h) h0
  · refine ⟨fun t ht => ?_, fun j hj => ?_⟩
    · have := (List.all_eq_true.1 h1) t (List.mem_range.2 ht)
      rw [Bool.and_eq_true] at this
      exact ⟨Nat.eq_of_beq_eq_true this.1, Nat.eq_of_beq_eq_true this.2⟩
    · have := (List.all_eq_true.1 h2) j (List.mem_range.2 hj)
      rw [Bool.and_eq_true] at this
      exact ⟨Nat.eq_of_beq_eq_true this.1, Nat.eq_of_beq_eq_true this.2⟩

end Go.Proofs.YtpknbfkknnaajaaDoor
