/- Tracks, as plain mathematics: samples of bytes, tracks of bytes, bytes of tracks, middles and sides. -/
import Derived.Test.YtbbkdgbgfncjaaaFixMath
namespace Go.Proofs.Ytbbkdgbgfncjaaa
open Go.RowKit
set_option maxRecDepth 100000

/-- n numbers by their places. -/
def tn (n : Nat) (f : Nat → Int) : List Int := (List.range n).map f
theorem tn_length (n : Nat) (f : Nat → Int) : (tn n f).length = n := by simp [tn]
theorem tn_getD {n : Nat} {f : Nat → Int} {k : Nat} (h : k < n) : (tn n f).getD k 0 = f k := by simp [tn, h]
theorem tn_succ (n : Nat) (f : Nat → Int) : tn (n + 1) f = tn n f ++ [f n] := by
  unfold tn; rw [List.range_succ, List.map_append]; rfl
theorem tn_ext {n : Nat} {xs : List Int} {f : Nat → Int} (hl : xs.length = n) (h : ∀ i, i < n → xs.getD i 0 = f i) : xs = tn n f := by
  apply List.ext_getElem (by rw [hl, tn_length])
  intro i h1 h2
  have := h i (by omega)
  simp [List.getD, h1] at this
  simp [tn, this]

/-- Middle and side of a pair, and back. -/
def sdP (l r : Int) : Int := w32 (l - r)
def mdP (l r : Int) : Int := w32 (r + sdP l r / 2)
def rtP (m s : Int) : Int := w32 (m - s / 2)
def ltP (m s : Int) : Int := w32 (rtP m s + s)
theorem rt_md {l r : Int} (hr : -2147483648 ≤ r ∧ r < 2147483648) : rtP (mdP l r) (sdP l r) = r := by
  unfold rtP mdP
  generalize sdP l r / 2 = h
  unfold w32
  omega
theorem lt_md {l r : Int} (hl : -2147483648 ≤ l ∧ l < 2147483648) (hr : -2147483648 ≤ r ∧ r < 2147483648) : ltP (mdP l r) (sdP l r) = l := by
  unfold ltP
  rw [rt_md hr]
  unfold sdP w32
  omega
def mids (l r : List Int) : List Int := tn l.length fun i => mdP (l.getD i 0) (r.getD i 0)
def sids (l r : List Int) : List Int := tn l.length fun i => sdP (l.getD i 0) (r.getD i 0)
def lfts (m s : List Int) : List Int := tn m.length fun i => ltP (m.getD i 0) (s.getD i 0)
def rgts (m s : List Int) : List Int := tn m.length fun i => rtP (m.getD i 0) (s.getD i 0)
theorem lfts_mids {l r : List Int} (hl : I32 l) (hr : I32 r) : lfts (mids l r) (sids l r) = l := by
  refine (tn_ext (by rw [mids, tn_length]) fun i hi => ?_).symm
  rw [mids, tn_length] at hi
  rw [mids, sids, tn_getD hi, tn_getD hi, lt_md (hl.at_ i) (hr.at_ i)]
theorem rgts_mids {l r : List Int} (h : l.length = r.length) (hr : I32 r) : rgts (mids l r) (sids l r) = r := by
  refine (tn_ext (by rw [mids, tn_length]; exact h.symm) fun i hi => ?_).symm
  rw [mids, tn_length] at hi
  rw [mids, sids, tn_getD hi, tn_getD hi, rt_md (hr.at_ i)]
theorem I32.tn {n : Nat} {f : Nat → Int} (h : ∀ i, i < n → -2147483648 ≤ f i ∧ f i < 2147483648) : I32 (tn n f) := I32.of fun i hi => by
  rw [tn_length] at hi
  rw [tn_getD hi]
  exact h i hi

/-- May there be so many tracks of so many bits? -/
def fitT (n bt : Int) : Prop := 1 ≤ n ∧ n ≤ 8 ∧ (bt = 8 ∨ bt = 16)
instance (n bt : Int) : Decidable (fitT n bt) := by unfold fitT; infer_instance
/-- Bytes of a sample. -/
def wdT (bt : Int) : Nat := if bt = 8 then 1 else 2
/-- A number of 16 bits, with its sign. -/
def s16 (x : Int) : Int := (x + 32768) % 65536 - 32768
/-- The sample at byte p. -/
def smpT (bt : Int) (bs : List Int) (p : Nat) : Int := if bt = 8 then bs.getD p 0 - 128 else s16 (bs.getD p 0 + 256 * bs.getD (p + 1) 0)
/-- Track i of c. -/
def trkT (bt : Int) (bs : List Int) (c i : Nat) : List Int := tn (bs.length / (c * wdT bt)) fun j => smpT bt bs ((j * c + i) * wdT bt)
theorem trkT_length (bt : Int) (bs : List Int) (c i : Nat) : (trkT bt bs c i).length = bs.length / (c * wdT bt) := tn_length _ _
/-- The bytes of a sample. -/
def encT (bt v : Int) : List Int := if bt = 8 then [(v + 128) % 256] else [v % 256, (v / 256) % 256]
theorem encT_length (bt v : Int) : (encT bt v).length = wdT bt := by unfold encT wdT; split <;> rfl
/-- Is it a sample? -/
def mostT (bt : Int) : Int := if bt = 16 then 32767 else 127
def okT (bt v : Int) : Prop := -mostT bt - 1 ≤ v ∧ v ≤ mostT bt
instance (bt v : Int) : Decidable (okT bt v) := by unfold okT; infer_instance
/-- All tracks as long as the first one, all of samples. -/
def joinT (bt : Int) (n : Nat) (T : Nat → List Int) : Prop := ∀ k, k < n → (T k).length = (T 0).length ∧ ∀ j, j < (T k).length → okT bt ((T k).getD j 0)
/-- The bytes of frame j, its first k samples; of the first j frames. -/
def frmT (bt : Int) (T : Nat → List Int) (j : Nat) : Nat → List Int
  | 0 => []
  | k + 1 => frmT bt T j k ++ encT bt ((T k).getD j 0)
def bysT (bt : Int) (n : Nat) (T : Nat → List Int) : Nat → List Int
  | 0 => []
  | j + 1 => bysT bt n T j ++ frmT bt T j n
theorem frmT_length (bt : Int) (T : Nat → List Int) (j : Nat) : ∀ k, (frmT bt T j k).length = k * wdT bt
  | 0 => by simp [frmT]
  | k + 1 => by rw [frmT, List.length_append, frmT_length bt T j k, encT_length, Nat.succ_mul]
theorem bysT_length (bt : Int) (n : Nat) (T : Nat → List Int) : ∀ j, (bysT bt n T j).length = j * (n * wdT bt)
  | 0 => by simp [bysT]
  | j + 1 => by rw [bysT, List.length_append, bysT_length bt n T j, frmT_length, Nat.succ_mul]
theorem wdT_pos (bt : Int) : 0 < wdT bt ∧ wdT bt ≤ 2 := by unfold wdT; split <;> omega

/-- Bytes: from 0 to 255. -/
def B8 (bs : List Int) : Prop := ∀ x ∈ bs, 0 ≤ x ∧ x < 256
theorem B8.at_ {bs : List Int} (h : B8 bs) (i : Nat) : 0 ≤ bs.getD i 0 ∧ bs.getD i 0 < 256 := by
  simp only [List.getD]
  rcases Nat.lt_or_ge i bs.length with hi | hi
  · rw [List.getElem?_eq_getElem hi]; exact h _ (List.getElem_mem hi)
  · rw [List.getElem?_eq_none hi]; simp
theorem smpT_ok {bt : Int} {bs : List Int} (h : B8 bs) (hb : bt = 8 ∨ bt = 16) (p : Nat) : okT bt (smpT bt bs p) := by
  have h1 := h.at_ p
  have h2 := h.at_ (p + 1)
  unfold okT mostT smpT s16
  rcases hb with rfl | rfl
  · simp only [if_pos]; omega
  · simp only [if_pos, if_neg (show ¬ (16 : Int) = 8 by omega)]; omega
theorem okT_32 {bt v : Int} (h : okT bt v) : -2147483648 ≤ v ∧ v < 2147483648 := by
  unfold okT mostT at h
  split at h <;> omega
theorem take_two {bs : List Int} {p : Nat} (h : p + 2 ≤ bs.length) : (bs.drop p).take 2 = [bs.getD p 0, bs.getD (p + 1) 0] := by
  rw [List.drop_eq_getElem_cons (show p < bs.length by omega), List.drop_eq_getElem_cons (show p + 1 < bs.length by omega)]
  show [bs[p], bs[p + 1]] = _
  simp [List.getD, show p < bs.length by omega, show p + 1 < bs.length by omega]
theorem take_one {bs : List Int} {p : Nat} (h : p + 1 ≤ bs.length) : (bs.drop p).take 1 = [bs.getD p 0] := by
  rw [List.drop_eq_getElem_cons (show p < bs.length by omega)]
  show [bs[p]] = _
  simp [List.getD, show p < bs.length by omega]
/-- The bytes of the sample at p are those at p. -/
theorem enc_smp {bt : Int} {bs : List Int} (h : B8 bs) (hb : bt = 8 ∨ bt = 16) {p : Nat} (hp : p + wdT bt ≤ bs.length) : encT bt (smpT bt bs p) = (bs.drop p).take (wdT bt) := by
  have h1 := h.at_ p
  have h2 := h.at_ (p + 1)
  rcases hb with rfl | rfl
  · have e : wdT 8 = 1 := rfl
    rw [e] at hp ⊢
    rw [take_one hp]
    unfold encT smpT
    simp only [if_pos]
    congr 1
    omega
  · have e : wdT 16 = 2 := rfl
    rw [e] at hp ⊢
    rw [take_two hp]
    unfold encT smpT s16
    simp only [if_neg (show ¬ (16 : Int) = 8 by omega)]
    congr 1
    · omega
    · congr 1
      omega
theorem take_more {bs : List Int} (a b : Nat) : bs.take (a + b) = bs.take a ++ (bs.drop a).take b := by rw [List.take_add]
section
variable {bt : Int} {bs : List Int} (h : B8 bs) (hb : bt = 8 ∨ bt = 16) {c : Nat} (hm : bs.length % (c * wdT bt) = 0)
include hm in
theorem split_len : bs.length = bs.length / (c * wdT bt) * (c * wdT bt) := by
  have := Nat.div_add_mod bs.length (c * wdT bt)
  rw [hm, Nat.mul_comm] at this
  omega
include h hb hm in
theorem frm_split {j : Nat} (hj : j < bs.length / (c * wdT bt)) : ∀ k, k ≤ c → frmT bt (trkT bt bs c) j k = (bs.drop (j * (c * wdT bt))).take (k * wdT bt)
  | 0, _ => by simp [frmT]
  | k + 1, hk => by
    have hl := split_len hm
    have h1 : (j + 1) * (c * wdT bt) ≤ bs.length := by
      rw [hl]
      exact Nat.mul_le_mul_right _ hj
    have h2 : (j * c + k) * wdT bt + wdT bt ≤ bs.length := by
      refine Nat.le_trans ?_ h1
      rw [← Nat.succ_mul, ← Nat.mul_assoc]
      exact Nat.mul_le_mul_right _ (by rw [Nat.succ_mul]; omega)
    rw [frmT, frm_split hj k (by omega), trkT, tn_getD hj, enc_smp h hb h2, Nat.succ_mul, take_more, List.drop_drop]
    rw [show j * (c * wdT bt) + k * wdT bt = (j * c + k) * wdT bt by rw [Nat.add_mul, Nat.mul_assoc]]
include h hb hm in
theorem bys_split : ∀ j, j ≤ bs.length / (c * wdT bt) → bysT bt c (trkT bt bs c) j = bs.take (j * (c * wdT bt))
  | 0, _ => by simp [bysT]
  | j + 1, hj => by
    rw [bysT, bys_split j (by omega), frm_split h hb hm (by omega) c (Nat.le_refl _), Nat.succ_mul, take_more]
include h hb hm in
/-- What is split is joined. -/
theorem bys_trk : bysT bt c (trkT bt bs c) (bs.length / (c * wdT bt)) = bs := by
  rw [bys_split h hb hm _ (Nat.le_refl _), ← split_len hm, List.take_length]
include h hb in
theorem join_trk : joinT bt c (trkT bt bs c) := fun k _ => ⟨by rw [trkT_length, trkT_length], fun j hj => by
  rw [trkT_length] at hj
  rw [trkT, tn_getD hj]
  exact smpT_ok h hb _⟩
end

end Go.Proofs.Ytbbkdgbgfncjaaa
