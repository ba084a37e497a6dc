/- Texts of this proof, one behind the other: AudMathU, AudMathB, AudR, AudRG, AudKF, AudS. -/
import Derived.Test.YtodmchjdflpbpaaGreatPart5
import Derived.Test.YtodmchjdflpbpaaGreatNumText
import Derived.Deep.RegionWith
import Derived.BigQuiet
import Derived.BigRegion
import Derived.Test.YtodmchjdflpbpaaGreatPart4
import Derived.RangeFuncNested
import Derived.RangeFuncBound
import Derived.RangeFuncCalls
import Derived.RangeFuncLeaves
import Derived.Shelf.Abstract
import Derived.Shelf.RegionOpen
import Derived.WalkKit
import Derived.OwnWalkIn
import Derived.TacticsInMore
import Derived.LoopNIn
import Derived.LoopIn
import Derived.Lib.MinMax
import Derived.Sort.CutIn

/- Audio, as plain mathematics: what is read of bytes. -/
namespace Go.Proofs.YtodmchjdflpbpaaGreat
open Go.RowKit
set_option maxRecDepth 100000

/-- The bytes of a track, behind its tag; the track. -/
def trkB (xs : List Int) (p : Nat) (e : Int) : List Int × Nat × Int := txt xs (nx xs p e).2.1 (nx xs p e).2.2 ((xs.length - (nx xs p e).2.1 : Nat) : Int)
def unT (t : Nat) (b : List Int) (n : Nat) : Int × List Int := match unR b n with
  | none => (4, [])
  | some l => (0, unl t l)
def rdTrk (xs : List Int) (p : Nat) (e : Int) (n : Nat) : Int × List Int :=
  if (trkB xs p e).2.2 ≠ 0 then ((trkB xs p e).2.2, []) else if 4 < (nx xs p e).1 then (4, []) else unT (nx xs p e).1 (trkB xs p e).1 n
/-- A group: its way, its first track, its second one. -/
def gT1 (xs : List Int) (p n : Nat) : Int × List Int := rdTrk xs (nx xs p 0).2.1 (nx xs p 0).2.2 n
def gP1 (xs : List Int) (p : Nat) : Nat := (trkB xs (nx xs p 0).2.1 (nx xs p 0).2.2).2.1
def gT2 (xs : List Int) (p n : Nat) : Int × List Int := rdTrk xs (gP1 xs p) 0 n
def gP2 (xs : List Int) (p : Nat) : Nat := (trkB xs (gP1 xs p) 0).2.1
def rdG1 (xs : List Int) (p n : Nat) : Int × List (List Int) :=
  if (gT1 xs p n).1 ≠ 0 then ((gT1 xs p n).1, []) else if (nx xs p 0).1 = 0 then (0, [(gT1 xs p n).2]) else (4, [])
def rdG2 (xs : List Int) (p n : Nat) : Int × List (List Int) :=
  if (gT1 xs p n).1 ≠ 0 then ((gT1 xs p n).1, []) else if (gT2 xs p n).1 ≠ 0 then ((gT2 xs p n).1, []) else
    if (nx xs p 0).1 = 0 then (0, [(gT1 xs p n).2, (gT2 xs p n).2]) else if 1 < (nx xs p 0).1 then (4, []) else (0, [lfts (gT1 xs p n).2 (gT2 xs p n).2, rgts (gT1 xs p n).2 (gT2 xs p n).2])
/-- The x-th group of c tracks: the error, its tracks, the place behind. -/
def rdG (xs : List Int) (c n x p : Nat) : Int × List (List Int) × Nat := if 2 * x + 1 < c then ((rdG2 xs p n).1, (rdG2 xs p n).2, gP2 xs p) else ((rdG1 xs p n).1, (rdG1 xs p n).2, gP1 xs p)
def rdGs (xs : List Int) (c n p0 : Nat) : Nat → Int × List (List Int) × Nat
  | 0 => (0, [], p0)
  | x + 1 => if (rdGs xs c n p0 x).1 ≠ 0 then rdGs xs c n p0 x else
      ((rdG xs c n x (rdGs xs c n p0 x).2.2).1, (rdGs xs c n p0 x).2.1 ++ (rdG xs c n x (rdGs xs c n p0 x).2.2).2.1, (rdG xs c n x (rdGs xs c n p0 x).2.2).2.2)
instance (bt : Int) (n : Nat) (T : Nat → List Int) : Decidable (joinT bt n T) := by unfold joinT; infer_instance
/-- Lists, by their places. -/
def byN (L : List (List Int)) (i : Nat) : List Int := L.getD i []
/-- The samples of a file, from a place on. -/
def samA (xs : List Int) (p : Nat) (r : Nat × Nat × Nat × Nat) : Int × List Int :=
  if (rdGs xs r.1 (frms r) p (halves r.1)).1 ≠ 0 then ((rdGs xs r.1 (frms r) p (halves r.1)).1, []) else
    if (rdGs xs r.1 (frms r) p (halves r.1)).2.2 < xs.length then (4, []) else
      if joinT r.2.1 r.1 (byN (rdGs xs r.1 (frms r) p (halves r.1)).2.1) then (0, bysT r.2.1 r.1 (byN (rdGs xs r.1 (frms r) p (halves r.1)).2.1) (byN (rdGs xs r.1 (frms r) p (halves r.1)).2.1 0).length) else (4, [])
def filR (xs : List Int) (m : Nat) (r : Nat × Nat × Nat × Nat) : Int × List Int :=
  if (samA xs (blkT xs m).2.1 r).1 ≠ 0 then ((samA xs (blkT xs m).2.1 r).1, []) else (0, (blkB xs m).take r.2.2.1 ++ ((samA xs (blkT xs m).2.1 r).2 ++ (blkB xs m).drop r.2.2.2))
def filA (xs : List Int) (m : Nat) : Int × List Int :=
  if (blkA xs m).1 ≠ 0 then ((blkA xs m).1, []) else match wparse (blkB xs m) with
    | none => (4, [])
    | some r => filR xs m r
/-- Unpack: the error, the bytes. -/
def auC (xs : List Int) (most : Int) : Int × List Int :=
  if (filA xs (mst most)).1 ≠ 0 then ((filA xs (mst most)).1, []) else if apC (filA xs (mst most)).2 = xs then (0, (filA xs (mst most)).2) else (4, [])

theorem trkB_err (xs : List Int) (p : Nat) {e : Int} (h : okE e) (hb : ∀ x ∈ xs, 0 ≤ x ∧ x < 256) : okE (trkB xs p e).2.2 := txt_err _ _ _ (nx_err xs p h hb) hb
theorem unT_err (t : Nat) (b : List Int) (n : Nat) : okE (unT t b n).1 := by
  unfold unT
  split
  · exact .inr (.inr rfl)
  · exact .inl rfl
theorem rdTrk_err (xs : List Int) (p : Nat) {e : Int} (n : Nat) (h : okE e) (hb : ∀ x ∈ xs, 0 ≤ x ∧ x < 256) : okE (rdTrk xs p e n).1 := by
  unfold rdTrk
  split
  · exact trkB_err xs p h hb
  split
  · exact .inr (.inr rfl)
  · exact unT_err _ _ _
theorem gT1_err (xs : List Int) (p n : Nat) (hb : ∀ x ∈ xs, 0 ≤ x ∧ x < 256) : okE (gT1 xs p n).1 := rdTrk_err _ _ _ (nx_err xs p ok0 hb) hb
theorem gT2_err (xs : List Int) (p n : Nat) (hb : ∀ x ∈ xs, 0 ≤ x ∧ x < 256) : okE (gT2 xs p n).1 := rdTrk_err _ _ _ ok0 hb
theorem rdG_err (xs : List Int) (c n x p : Nat) (hb : ∀ x ∈ xs, 0 ≤ x ∧ x < 256) : okE (rdG xs c n x p).1 := by
  unfold rdG
  split
  · show okE (rdG2 xs p n).1
    unfold rdG2
    split
    · exact gT1_err xs p n hb
    split
    · exact gT2_err xs p n hb
    split
    · exact ok0
    split
    · exact ok4
    · exact ok0
  · show okE (rdG1 xs p n).1
    unfold rdG1
    split
    · exact gT1_err xs p n hb
    split
    · exact ok0
    · exact ok4
theorem rdGs_err (xs : List Int) (c n p0 : Nat) (hb : ∀ x ∈ xs, 0 ≤ x ∧ x < 256) : ∀ x, okE (rdGs xs c n p0 x).1
  | 0 => ok0
  | x + 1 => by
    rw [rdGs]
    split
    · exact rdGs_err xs c n p0 hb x
    · exact rdG_err _ _ _ _ _ hb
theorem samA_err (xs : List Int) (p : Nat) (r : Nat × Nat × Nat × Nat) (hb : ∀ x ∈ xs, 0 ≤ x ∧ x < 256) : okE (samA xs p r).1 := by
  unfold samA
  split
  · exact rdGs_err _ _ _ _ hb _
  split
  · exact ok4
  split
  · exact ok0
  · exact ok4

theorem unT_len (t : Nat) (b : List Int) (n : Nat) (h : (unT t b n).1 = 0) : (unT t b n).2.length = n ∧ I32 (unT t b n).2 := by
  unfold unT at h ⊢
  split at h
  · cases h
  · rename_i l hl
    have := (unR_iff b n l).1 hl
    exact ⟨by rw [unl_length]; exact this.1, unl_32 t l⟩
theorem rdTrk_len {xs : List Int} {p : Nat} {e : Int} {n : Nat} (h : (rdTrk xs p e n).1 = 0) : (rdTrk xs p e n).2.length = n ∧ I32 (rdTrk xs p e n).2 := by
  unfold rdTrk at h ⊢
  split at h
  · rename_i h2; exact absurd h h2
  split at h
  · cases h
  · rename_i h1 h2
    rw [if_neg h1, if_neg h2]
    exact unT_len _ _ _ h
/-- Each list of a group that was read has n numbers. -/
theorem rdG_len {xs : List Int} {c n x p : Nat} (h : (rdG xs c n x p).1 = 0) : (rdG xs c n x p).2.1.length = (if 2 * x + 1 < c then 2 else 1) ∧ ∀ l ∈ (rdG xs c n x p).2.1, l.length = n ∧ I32 l := by
  unfold rdG at h ⊢
  split at h
  · rename_i hx
    rw [if_pos hx, if_pos hx]
    simp only [] at h ⊢
    unfold rdG2 at h ⊢
    split at h
    · rename_i h2; exact absurd h h2
    split at h
    · rename_i h2; exact absurd h h2
    rename_i h1 h2
    have a1 := rdTrk_len (show (gT1 xs p n).1 = 0 by omega)
    have a2 := rdTrk_len (show (gT2 xs p n).1 = 0 by omega)
    rw [if_neg h1, if_neg h2]
    split at h
    · rename_i h3
      rw [if_pos h3]
      refine ⟨rfl, fun l hl => ?_⟩
      simp only [List.mem_cons, List.not_mem_nil, or_false] at hl
      rcases hl with rfl | rfl
      · exact a1
      · exact a2
    split at h
    · cases h
    · rename_i h3 h4
      rw [if_neg h3, if_neg h4]
      refine ⟨rfl, fun l hl => ?_⟩
      simp only [List.mem_cons, List.not_mem_nil, or_false] at hl
      rcases hl with rfl | rfl
      · exact ⟨by rw [lfts_length]; exact a1.1, lfts_32 _ _⟩
      · exact ⟨by rw [rgts_length]; exact a1.1, rgts_32 _ _⟩
  · rename_i hx
    rw [if_neg hx, if_neg hx]
    simp only [] at h ⊢
    unfold rdG1 at h ⊢
    split at h
    · rename_i h2; exact absurd h h2
    rename_i h1
    have a1 := rdTrk_len (show (gT1 xs p n).1 = 0 by omega)
    rw [if_neg h1]
    split at h
    · rename_i h3
      rw [if_pos h3]
      refine ⟨rfl, fun l hl => ?_⟩
      simp only [List.mem_cons, List.not_mem_nil, or_false] at hl
      subst hl
      exact a1
    · cases h
theorem rdGs_len {xs : List Int} {c n p0 : Nat} : ∀ x, x ≤ halves c → (rdGs xs c n p0 x).1 = 0 → (rdGs xs c n p0 x).2.1.length = min (2 * x) c ∧ ∀ l ∈ (rdGs xs c n p0 x).2.1, l.length = n ∧ I32 l
  | 0, _, _ => ⟨by simp [rdGs], fun l hl => by simp [rdGs] at hl⟩
  | x + 1, hx, h => by
    rw [rdGs] at h ⊢
    split at h
    · rename_i h2; exact absurd h h2
    · rename_i h2
      rw [if_neg h2]
      have ih := rdGs_len (xs := xs) (c := c) (n := n) (p0 := p0) x (by omega) (by omega)
      have hg := rdG_len h
      refine ⟨?_, fun l hl => ?_⟩
      · rw [List.length_append, ih.1, hg.1]
        unfold halves at hx
        split <;> omega
      · rcases List.mem_append.1 hl with hl | hl
        · exact ih.2 l hl
        · exact hg.2 l hl

theorem encT_byte {bt v : Int} : ∀ x ∈ encT bt v, 0 ≤ x ∧ x < 256 := by
  intro x hx
  unfold encT at hx
  split at hx
  · simp only [List.mem_cons, List.not_mem_nil, or_false] at hx
    omega
  · simp only [List.mem_cons, List.not_mem_nil, or_false] at hx
    omega
theorem frmT_byte (bt : Int) (T : Nat → List Int) (j : Nat) : ∀ k, ∀ x ∈ frmT bt T j k, 0 ≤ x ∧ x < 256
  | 0 => by simp [frmT]
  | k + 1 => by rw [frmT]; exact all_append (frmT_byte bt T j k) encT_byte
theorem bysT_byte (bt : Int) (n : Nat) (T : Nat → List Int) : ∀ j, ∀ x ∈ bysT bt n T j, 0 ≤ x ∧ x < 256
  | 0 => by simp [bysT]
  | j + 1 => by rw [bysT]; exact all_append (bysT_byte bt n T j) (frmT_byte bt T j n)
theorem samA_byte (xs : List Int) (p : Nat) (r : Nat × Nat × Nat × Nat) : ∀ x ∈ (samA xs p r).2, 0 ≤ x ∧ x < 256 := by
  unfold samA
  split
  · simp
  split
  · simp
  split
  · exact bysT_byte _ _ _ _
  · simp
theorem byN_mem {L : List (List Int)} {i : Nat} (h : i < L.length) : byN L i ∈ L := by simp [byN, List.getD, h]
/-- As many samples as the file has. -/
theorem samA_len {xs : List Int} {p : Nat} {r : Nat × Nat × Nat × Nat} {bs : List Int} (hp : Pt bs r) (h : (samA xs p r).1 = 0) : (samA xs p r).2.length = r.2.2.2 - r.2.2.1 := by
  unfold samA at h ⊢
  split at h
  · rename_i h2; exact absurd h h2
  split at h
  · cases h
  split at h
  · rename_i h1 h2 h3
    rw [if_neg h1, if_neg h2, if_pos h3]
    simp only []
    have hl := rdGs_len (xs := xs) (c := r.1) (n := frms r) (p0 := p) (halves r.1) (Nat.le_refl _) (by omega)
    have h0 : 0 < (rdGs xs r.1 (frms r) p (halves r.1)).2.1.length := by
      rw [hl.1]
      have := hp.ch
      unfold halves
      omega
    rw [bysT_length, (hl.2 _ (byN_mem h0)).1]
    exact hp.frms_le.2
  · cases h

/-- Whatever the bytes are. -/
theorem auC_total (xs : List Int) (most : Int) (hb : ∀ x ∈ xs, 0 ≤ x ∧ x < 256) :
    ((auC xs most).1 = 0 ∧ (∀ x ∈ (auC xs most).2, 0 ≤ x ∧ x < 256) ∧ ((auC xs most).2.length : Int) ≤ max most 0 ∧ (auC xs most).2.length ≤ 1048576) ∨ ((auC xs most).2 = [] ∧ ((auC xs most).1 = 3 ∨ (auC xs most).1 = 4 ∨ (auC xs most).1 = 5)) := by
  have hm := mst_le most
  have hf : ((filA xs (mst most)).1 = 0 ∧ (∀ x ∈ (filA xs (mst most)).2, 0 ≤ x ∧ x < 256) ∧ (filA xs (mst most)).2.length ≤ mst most) ∨ ((filA xs (mst most)).1 = 3 ∨ (filA xs (mst most)).1 = 4 ∨ (filA xs (mst most)).1 = 5) := by
    generalize mst most = m
    unfold filA
    split
    · rename_i h
      right
      unfold blkA at h ⊢
      split
      · exact .inr (.inr rfl)
      split
      · rename_i h1 h2
        have := txt_err xs (blkH xs m).2.1 (e := (blkH xs m).2.2) m (txt_err _ _ _ (nx_err xs 0 ok0 hb) hb) hb
        unfold okE at this
        simp only [] 
        unfold blkT at h2 ⊢
        omega
      split
      · exact .inr (.inl rfl)
      · rename_i h1 h2 h3
        rw [if_neg h1, if_neg h2, if_neg h3] at h
        exact absurd rfl h
    · rename_i h
      split
      · exact .inr (.inr (.inl rfl))
      · rename_i r hw
        have hp := Pt.of hw
        have hs := samA_err xs (blkT xs m).2.1 r hb
        unfold filR
        split
        · right
          unfold okE at hs
          simp only []
          omega
        · rename_i h0
          left
          refine ⟨rfl, all_append (fun x hx => blkB_byte hb x (List.mem_of_mem_take hx)) (all_append (samA_byte _ _ _) (fun x hx => blkB_byte hb x (List.mem_of_mem_drop hx))), ?_⟩
          have hl := samA_len (xs := xs) (p := (blkT xs m).2.1) hp (by omega)
          have hft := hp.ft
          unfold blkA at h
          split at h
          · exact absurd (show (5 : Int) ≠ 0 by decide) h
          split at h
          · rename_i h2; exact absurd h2 h
          split at h
          · exact absurd (show (4 : Int) ≠ 0 by decide) h
          rename_i h1 h2 h3
          have hbl := blkB_length h3
          simp only [List.length_append, List.length_take, List.length_drop]
          omega
  unfold auC
  rcases hf with ⟨h0, h1, h2⟩ | h
  · rw [if_neg (by omega)]
    split
    · left
      exact ⟨rfl, h1, by simp only []; omega, by simp only []; omega⟩
    · right
      exact ⟨rfl, .inr (.inl rfl)⟩
  · rw [if_pos (by omega)]
    exact .inr ⟨rfl, h⟩

end Go.Proofs.YtodmchjdflpbpaaGreat

/- Audio, as plain mathematics: what is packed is unpacked. -/
namespace Go.Proofs.YtodmchjdflpbpaaGreat
open Go.RowKit
set_option maxRecDepth 100000

/-- Samples play no part in where they are. -/
theorem slc_take {bs cs : List Int} {f : Nat} (h : cs.take f = bs.take f) {p k : Nat} (hp : p + k ≤ f) : slc cs p k = slc bs p k := by
  unfold slc
  have e : ∀ l : List Int, (l.drop p).take k = ((l.take f).drop p).take k := fun l => by
    rw [List.drop_take, List.take_take, Nat.min_eq_left (by omega)]
  rw [e cs, e bs, h]
theorem leAt_take {bs cs : List Int} {f : Nat} (h : cs.take f = bs.take f) {p k : Nat} (hp : p + k ≤ f) : leAt cs p k = leAt bs p k := by
  unfold leAt
  rw [slc_take h hp]
theorem wgo_ge (bs : List Int) : ∀ (p : Nat) (s : WSt) {r : Nat × Nat × Nat × Nat}, wgo bs p s = some r → p + 8 ≤ r.2.2.1 := by
  intro p s
  induction p, s using wgo.induct bs with
  | case1 p s h8 hd =>
    intro r h
    rw [wgo, if_pos h8, if_pos hd] at h
    have := (wfin_some h (by omega)).2.2.2.1
    omega
  | case2 p s h8 hd ih =>
    intro r h
    rw [wgo, if_pos h8, if_neg hd] at h
    have := ih h
    omega
  | case3 p s h8 =>
    intro r h
    rw [wgo, if_neg h8] at h
    cases h
theorem wgo_zero {bs cs : List Int} (hl : cs.length = bs.length) : ∀ (p : Nat) (s : WSt) {r : Nat × Nat × Nat × Nat}, wgo bs p s = some r → cs.take r.2.2.1 = bs.take r.2.2.1 → wgo cs p s = some r := by
  intro p s
  induction p, s using wgo.induct bs with
  | case1 p s h8 hd =>
    intro r h ht
    have hge := wgo_ge bs p s h
    rw [wgo, if_pos h8, if_pos hd] at h
    have hs4 := slc_take ht (p := p) (k := 4) (by omega)
    have hl4 := leAt_take ht (p := p + 4) (k := 4) (by omega)
    have e1 : wfmt bs p s = s := by
      unfold wfmt
      rw [if_neg (fun hf => by rw [hd.1] at hf; exact absurd hf.1 (by decide))]
    have e2 : wfmt cs p s = s := by
      unfold wfmt
      rw [if_neg (fun hf => by rw [hs4, hd.1] at hf; exact absurd hf.1 (by decide))]
    rw [e1] at h hd
    rw [wgo, if_pos (by omega), e2, hs4, hl4, hl, if_pos hd]
    exact h
  | case2 p s h8 hd ih =>
    intro r h ht
    rw [wgo, if_pos h8, if_neg hd] at h
    have hge := wgo_ge bs _ _ h
    have hs4 := slc_take ht (p := p) (k := 4) (by omega)
    have hl4 := leAt_take ht (p := p + 4) (k := 4) (by omega)
    have ef : wfmt cs p s = wfmt bs p s := by
      unfold wfmt
      rw [hs4, hl4, hl]
      by_cases hc : slc bs p 4 = nFmt ∧ s.1 = false ∧ 16 ≤ leAt bs (p + 4) 4 ∧ p + 8 + 16 ≤ bs.length
      · rw [if_pos hc, if_pos hc, leAt_take ht (by omega), leAt_take ht (by omega), leAt_take ht (by omega)]
      · rw [if_neg hc, if_neg hc]
    rw [wgo, if_pos (by omega), ef, hs4, if_neg hd, hl4]
    exact ih h ht
  | case3 p s h8 =>
    intro r h
    rw [wgo, if_neg h8] at h
    cases h
theorem wparse_zero {bs cs : List Int} {r : Nat × Nat × Nat × Nat} (h : wparse bs = some r) (hl : cs.length = bs.length) (ht : cs.take r.2.2.1 = bs.take r.2.2.1) : wparse cs = some r := by
  have h44 := (wparse_some h).2.2.2.1
  unfold wparse at h ⊢
  rw [hl, slc_take ht (by omega), slc_take ht (by omega)]
  split at h
  · cases h
  · rename_i hc
    rw [if_neg hc]
    exact wgo_zero hl 12 _ h ht

/-- A track. -/
theorem trk_at {xs P R l : List Int} {n : Nat} (h : xs = P ++ (trkP l ++ R)) (h32 : I32 l) (hl : l.length = n) (hn : n ≤ 1048576) :
    rdTrk xs P.length 0 n = (0, l) ∧ trkB xs P.length 0 = (pkT (tagT l) l, P.length + (trkP l).length, 0) := by
  have ht := tagT_le l
  have hpl := pkT_le (tagT l) l
  have hN := nx_at (R := tx (pkT (tagT l) l) ++ R) (v := tagT l) (h.trans (by unfold trkP; rw [List.append_assoc])) (by omega)
  have hx : xs = (P ++ sv (tagT l)) ++ (tx (pkT (tagT l) l) ++ R) := by rw [h]; unfold trkP; simp
  have hB : trkB xs P.length 0 = (pkT (tagT l) l, P.length + (trkP l).length, 0) := by
    unfold trkB
    rw [hN]
    simp only []
    have hp : P.length + (sv (tagT l)).length = (P ++ sv (tagT l)).length := by rw [List.length_append]
    rw [hp, txt_at hx (by
      have : xs.length = (P ++ sv (tagT l)).length + ((tx (pkT (tagT l) l)).length + R.length) := by rw [hx]; simp only [List.length_append]
      have h2 : (pkT (tagT l) l).length ≤ (tx (pkT (tagT l) l)).length := by unfold tx; rw [List.length_append]; omega
      omega) (by omega)]
    unfold trkP
    simp only [List.length_append]
    rw [Nat.add_assoc]
  refine ⟨?_, hB⟩
  unfold rdTrk
  rw [hB, hN]
  simp only []
  rw [if_neg (by simp), if_neg (by omega)]
  unfold unT
  have hu : unR (pkT (tagT l) l) n = some (lev (tagT l) l) := (unR_iff _ _ _).2 ⟨by rw [lev_length]; exact hl, lev_32 _ _, rfl⟩
  rw [hu]
  simp only []
  rw [unl_lev (tagT l) h32]
/-- Two tracks, one way. -/
theorem wrt2_at {xs P R a b : List Int} {way n : Nat} (h : xs = P ++ (wrt way [a, b] ++ R)) (hw : way ≤ 1) (ha : I32 a ∧ a.length = n) (hb : I32 b ∧ b.length = n) (hn : n ≤ 1048576) :
    (nx xs P.length 0).1 = way ∧ gT1 xs P.length n = (0, a) ∧ gT2 xs P.length n = (0, b) ∧ gP2 xs P.length = P.length + (wrt way [a, b]).length := by
  have hx0 : xs = P ++ (sv way ++ (trkP a ++ (trkP b ++ R))) := by rw [h]; simp [wrt]
  have hN := nx_at hx0 (by omega)
  have hx1 : xs = (P ++ sv way) ++ (trkP a ++ (trkP b ++ R)) := by rw [hx0]; simp
  have hx2 : xs = ((P ++ sv way) ++ trkP a) ++ (trkP b ++ R) := by rw [hx0]; simp
  obtain ⟨t1, b1⟩ := trk_at hx1 ha.1 ha.2 hn
  obtain ⟨t2, b2⟩ := trk_at hx2 hb.1 hb.2 hn
  have hp1 : P.length + (sv way).length = (P ++ sv way).length := by rw [List.length_append]
  have hg1 : gP1 xs P.length = ((P ++ sv way) ++ trkP a).length := by
    unfold gP1
    rw [hN]
    simp only []
    rw [hp1, b1]
    simp only [List.length_append]
  refine ⟨by rw [hN], ?_, ?_, ?_⟩
  · unfold gT1
    rw [hN]
    simp only []
    rw [hp1, t1]
  · unfold gT2
    rw [hg1, t2]
  · unfold gP2
    rw [hg1, b2]
    simp only [wrt, List.length_append, List.flatMap_cons, List.flatMap_nil, List.length_nil]
    omega
theorem wrt1_at {xs P R a : List Int} {n : Nat} (h : xs = P ++ (wrt 0 [a] ++ R)) (ha : I32 a ∧ a.length = n) (hn : n ≤ 1048576) :
    (nx xs P.length 0).1 = 0 ∧ gT1 xs P.length n = (0, a) ∧ gP1 xs P.length = P.length + (wrt 0 [a]).length := by
  have hx0 : xs = P ++ (sv 0 ++ (trkP a ++ R)) := by rw [h]; simp [wrt]
  have hN := nx_at hx0 (by omega)
  have hx1 : xs = (P ++ sv 0) ++ (trkP a ++ R) := by rw [hx0]; simp
  obtain ⟨t1, b1⟩ := trk_at hx1 ha.1 ha.2 hn
  have hp1 : P.length + (sv 0).length = (P ++ sv 0).length := by rw [List.length_append]
  refine ⟨by rw [hN], ?_, ?_⟩
  · unfold gT1
    rw [hN]
    simp only []
    rw [hp1, t1]
  · unfold gP1
    rw [hN]
    simp only []
    rw [hp1, b1]
    simp only [wrt, List.length_append, List.flatMap_cons, List.flatMap_nil, List.length_nil]
    omega
/-- A group. -/
theorem grp_at {xs P R : List Int} {T : Nat → List Int} {c n x : Nat} (h : xs = P ++ (grpP T c x ++ R)) (hT : ∀ i, i < c → I32 (T i) ∧ (T i).length = n) (hn : n ≤ 1048576) (hx : 2 * x < c) :
    rdG xs c n x P.length = (0, (if 2 * x + 1 < c then [T (2 * x), T (2 * x + 1)] else [T (2 * x)]), P.length + (grpP T c x).length) := by
  unfold grpP at h
  unfold rdG grpP
  split at h
  · rename_i h2
    rw [if_pos h2, if_pos h2, if_pos h2]
    have hl := hT (2 * x) hx
    have hr := hT (2 * x + 1) h2
    generalize T (2 * x) = l at *
    generalize T (2 * x + 1) = r at *
    unfold grp2 at h ⊢
    unfold rdG2
    split at h
    · rename_i h3
      rw [if_pos h3]
      obtain ⟨a1, a2, a3, a4⟩ := wrt2_at h (by omega) ⟨mids_32 l r, (mids_length l r).trans hl.2⟩ ⟨sids_32 l r, (sids_length l r).trans hl.2⟩ hn
      rw [a1, a2, a3, a4]
      simp only []
      rw [if_neg (by simp), if_neg (by simp), if_neg (by omega), if_neg (by omega), lfts_mids hl.1 hr.1, rgts_mids (hl.2.trans hr.2.symm) hr.1]
    · rename_i h3
      rw [if_neg h3]
      obtain ⟨a1, a2, a3, a4⟩ := wrt2_at h (by omega) hl hr hn
      rw [a1, a2, a3, a4]
      simp only []
      rw [if_neg (by simp), if_neg (by simp), if_pos trivial]
  · rename_i h2
    rw [if_neg h2, if_neg h2, if_neg h2]
    obtain ⟨a1, a2, a3⟩ := wrt1_at h (hT (2 * x) hx) hn
    unfold rdG1
    rw [a1, a2, a3]
    simp only []
    rw [if_neg (by simp), if_pos trivial]
theorem grps_at {xs P : List Int} {T : Nat → List Int} {c n : Nat} (hT : ∀ i, i < c → I32 (T i) ∧ (T i).length = n) (hn : n ≤ 1048576) : ∀ (k : Nat) (R : List Int), k ≤ halves c → xs = P ++ (grpsP T c k ++ R) →
    rdGs xs c n P.length k = (0, (List.range (min (2 * k) c)).map T, P.length + (grpsP T c k).length)
  | 0, R, _, _ => by simp [rdGs, grpsP]
  | k + 1, R, hk, h => by
    have hkc : 2 * k < c := by unfold halves at hk; omega
    have ih := grps_at (xs := xs) (P := P) hT hn k (grpP T c k ++ R) (by omega) (by rw [h, grpsP, List.append_assoc])
    have hx : xs = (P ++ grpsP T c k) ++ (grpP T c k ++ R) := by rw [h, grpsP]; simp
    have hg := grp_at hx hT hn hkc
    rw [List.length_append] at hg
    rw [rdGs, ih]
    simp only []
    rw [if_neg (by simp), hg]
    simp only []
    rw [grpsP, List.length_append, Nat.add_assoc]
    refine congrArg (fun q => ((0 : Int), q, P.length + ((grpsP T c k).length + (grpP T c k).length))) ?_
    rw [show min (2 * k) c = 2 * k by omega]
    split
    · rw [show min (2 * (k + 1)) c = 2 * k + 1 + 1 by omega, List.range_succ, List.range_succ]
      simp
    · rw [show min (2 * (k + 1)) c = 2 * k + 1 by omega, List.range_succ]
      simp

theorem frmT_congr {bt : Int} {T U : Nat → List Int} {j : Nat} : ∀ k, (∀ i, i < k → T i = U i) → frmT bt T j k = frmT bt U j k
  | 0, _ => rfl
  | k + 1, h => by rw [frmT, frmT, frmT_congr k (fun i hi => h i (by omega)), h k (by omega)]
theorem bysT_congr {bt : Int} {n : Nat} {T U : Nat → List Int} (h : ∀ i, i < n → T i = U i) : ∀ j, bysT bt n T j = bysT bt n U j
  | 0 => rfl
  | j + 1 => by rw [bysT, bysT, bysT_congr h j, frmT_congr n h]
theorem byN_map {T : Nat → List Int} {c i : Nat} (h : i < c) : byN ((List.range c).map T) i = T i := by unfold byN; simp [List.getD, h]

theorem back_of {bs : List Int} {r : Nat × Nat × Nat × Nat} (hb : ∀ x ∈ bs, 0 ≤ x ∧ x < 256) (hl : bs.length ≤ 1048576) (hw : wparse bs = some r) (m : Nat) (hm : m ≤ 1048576) :
    filA (apR bs r) m = if bs.length ≤ m then (0, bs) else (5, []) := by
  have hp := Pt.of hw
  have hft := hp.ft
  obtain ⟨xs, hxs⟩ : ∃ xs, xs = apR bs r := ⟨_, rfl⟩
  obtain ⟨G, hG⟩ : ∃ G, G = grpsP (trkT r.2.1 (smps bs r) r.1) r.1 (halves r.1) := ⟨_, rfl⟩
  have hx : xs = sv bs.length ++ (tx (bs.take r.2.2.1) ++ (tx (bs.drop r.2.2.2) ++ G)) := by rw [hxs, hG]; unfold apR; simp
  have hN : nx xs 0 0 = (bs.length, (sv bs.length).length, 0) := by
    have := nx_at (P := []) (R := tx (bs.take r.2.2.1) ++ (tx (bs.drop r.2.2.2) ++ G)) (v := bs.length) (xs := xs) (by rw [hx]; rfl) (by omega)
    simpa using this
  rw [← hxs]
  unfold filA
  by_cases hbm : bs.length ≤ m
  · rw [if_pos hbm]
    have hH : blkH xs m = (bs.take r.2.2.1, (sv bs.length).length + (tx (bs.take r.2.2.1)).length, 0) := by
      unfold blkH
      rw [hN]
      exact txt_at (P := sv bs.length) (R := tx (bs.drop r.2.2.2) ++ G) hx (by rw [List.length_take]; omega) (by rw [List.length_take]; omega)
    have hT : blkT xs m = (bs.drop r.2.2.2, (sv bs.length).length + (tx (bs.take r.2.2.1)).length + (tx (bs.drop r.2.2.2)).length, 0) := by
      unfold blkT
      rw [hH]
      simp only []
      have := txt_at (P := sv bs.length ++ tx (bs.take r.2.2.1)) (R := G) (t := bs.drop r.2.2.2) (xs := xs) (most := m) (by rw [hx]; simp) (by rw [List.length_drop]; omega) (by rw [List.length_drop]; omega)
      rwa [List.length_append] at this
    have hB : blkB xs m = bs.take r.2.2.1 ++ (List.replicate (r.2.2.2 - r.2.2.1) 0 ++ bs.drop r.2.2.2) := by
      unfold blkB
      rw [hH, hT, hN]
      simp only []
      rw [List.length_take, List.length_drop, show bs.length - min r.2.2.1 bs.length - (bs.length - r.2.2.2) = r.2.2.2 - r.2.2.1 by omega]
    have hA : blkA xs m = (0, blkB xs m) := by
      unfold blkA
      rw [hN, hH, hT]
      simp only []
      rw [if_neg (by omega), if_neg (by simp), if_neg (by rw [List.length_take, List.length_drop]; omega)]
    have hBl : (blkB xs m).length = bs.length := by
      rw [hB]
      simp only [List.length_append, List.length_take, List.length_drop, List.length_replicate]
      omega
    have htl : (bs.take r.2.2.1).length = r.2.2.1 := by rw [List.length_take]; omega
    have hwB : wparse (blkB xs m) = some r := wparse_zero hw hBl (by
      rw [hB, List.take_append, htl, Nat.sub_self, List.take_zero, List.append_nil, List.take_take, Nat.min_self])
    have hpl : (blkT xs m).2.1 = (sv bs.length ++ (tx (bs.take r.2.2.1) ++ tx (bs.drop r.2.2.2))).length := by
      rw [hT]
      simp only [List.length_append]
      omega
    have hFm := hp.frms_le.1
    have hgs : rdGs xs r.1 (frms r) (blkT xs m).2.1 (halves r.1) = (0, (List.range (min (2 * halves r.1) r.1)).map (trkT r.2.1 (smps bs r) r.1), xs.length) := by
      rw [hpl, grps_at (fun i _ => ⟨by
        rw [trkT]
        exact I32.tn fun j _ => okT_32 (smpT_ok (slc_byte _ _ hb) (by have := hp.bt; omega) _), hp.tlen i⟩) (by omega) (halves r.1) [] (Nat.le_refl _) (by rw [hx, hG]; simp)]
      rw [← hG]
      refine congrArg (fun q => ((0 : Int), (List.range (min (2 * halves r.1) r.1)).map (trkT r.2.1 (smps bs r) r.1), q)) ?_
      rw [hx]
      simp only [List.length_append]
      omega
    rw [show min (2 * halves r.1) r.1 = r.1 by unfold halves; omega] at hgs
    have h8 : B8 (smps bs r) := slc_byte _ _ hb
    have hb16 : (r.2.1 : Int) = 8 ∨ (r.2.1 : Int) = 16 := by have := hp.bt; omega
    have hmod : (smps bs r).length % (r.1 * wdT r.2.1) = 0 := by rw [hp.slen]; exact hp.fr
    have hS : samA xs (blkT xs m).2.1 r = (0, smps bs r) := by
      unfold samA
      rw [hgs]
      simp only []
      have hj : joinT r.2.1 r.1 (byN ((List.range r.1).map (trkT r.2.1 (smps bs r) r.1))) := fun k hk => by
        have := join_trk h8 hb16 (c := r.1) k hk
        rw [byN_map hk, byN_map (by have := hp.ch; omega)]
        exact this
      rw [if_neg (by simp), if_neg (by omega), if_pos hj, byN_map (by have := hp.ch; omega), bysT_congr (fun i hi => byN_map hi), trkT_length, bys_trk h8 hb16 hmod]
    rw [hA]
    simp only []
    rw [if_neg (by simp), hwB]
    simp only []
    unfold filR
    rw [hS]
    simp only []
    rw [if_neg (by simp), hB, List.take_append, htl, Nat.sub_self, List.take_zero, List.append_nil, List.take_take, Nat.min_self]
    have hd : (bs.take r.2.2.1 ++ (List.replicate (r.2.2.2 - r.2.2.1) 0 ++ bs.drop r.2.2.2)).drop r.2.2.2 = bs.drop r.2.2.2 := by
      rw [← List.append_assoc]
      exact List.drop_left' (by rw [List.length_append, htl, List.length_replicate]; omega)
    rw [hd]
    unfold smps slc
    refine congrArg (fun q => ((0 : Int), q)) ?_
    have e1 : bs.drop r.2.2.2 = (bs.drop r.2.2.1).drop (r.2.2.2 - r.2.2.1) := by rw [List.drop_drop]; congr 1; omega
    rw [e1, List.take_append_drop, List.take_append_drop]
  · rw [if_neg hbm]
    have hA : blkA xs m = (5, []) := by
      unfold blkA
      rw [hN]
      simp only []
      rw [if_pos (by omega)]
    rw [hA]
    simp only []
    rw [if_pos (by decide)]

/-- P15.1. -/
theorem auC_back {bs : List Int} (most : Int) (hb : ∀ x ∈ bs, 0 ≤ x ∧ x < 256) (hl : bs.length ≤ 1048576) (hw : (wparse bs).isSome = true) :
    auC (apC bs) most = if (bs.length : Int) ≤ most then (0, bs) else (5, []) := by
  obtain ⟨r, hr⟩ := Option.isSome_iff_exists.1 hw
  have hap : apC bs = apR bs r := by unfold apC; rw [hr]
  have hF := back_of hb hl hr (mst most) (mst_le most).1
  unfold auC
  rw [hap, hF]
  have hm : bs.length ≤ mst most ↔ (bs.length : Int) ≤ most ∨ bs.length = 0 := by unfold mst; omega
  have h44 := (wparse_some hr).2.2.2
  by_cases h : (bs.length : Int) ≤ most
  · rw [if_pos (hm.2 (.inl h)), if_pos h]
    simp only []
    rw [if_neg (by simp), if_pos hap]
  · have hn : ¬ bs.length ≤ mst most := fun e => by rcases hm.1 e with e | e <;> omega
    rw [if_neg hn, if_neg h]
    simp only []
    rw [if_pos (by decide)]

end Go.Proofs.YtodmchjdflpbpaaGreat

/- Audio's reader: a track. -/
namespace Go.Proofs.YtodmchjdflpbpaaGreat
open Go.RowKit
set_option maxRecDepth 100000

attribute [local go_sem ↓] Go.wp_at_zero Go.wp_at_succ

set_option maxHeartbeats 1600000 in
/-- unpack. -/
theorem cPUnpack_any (A : Option Addr) (n c : Nat) (bs : List Int) (t m : Nat) (w : World) (hr : Row w .u8 A n bs) (hb : ∀ x ∈ bs, 0 ≤ x ∧ x < 256) (hn : n ≤ 100000000) (hm : m ≤ 1048576) (ht : t ≤ 4) :
    Calls Tryz.prog 76 #[pkr t, .slice A n c, .int .i64 m] w fun e w' => ∃ u, e = .returned (.tuple #[u, .int .i64 (unT t bs m).1]) ∧ NewRow w w' 21 .i32 u (unT t bs m).2 := by
  unfold pkr
  have hf : Fresh w (w.alloc (.cells #[prd t, .int .i64 t] 125)) := (Kept.refl _ _).alloc _
  have hbl := Blk.new w 125 #[prd t, .int .i64 t]
  have HC := Lib.hid (cUnpackR_any A n c bs m _ (hr.kept hf (fun _ _ _ _ => id)) hb hn hm)
  have HF := Lib.hid (And.intro hf hbl)
  clear hr hf hbl
  rcases hu : unR bs m with _ | l
  · have HU : Hid (unT t bs m = (4, [])) := Lib.hid (by unfold unT; rw [hu])
    have HC : Hid (Calls Tryz.prog 81 #[.slice A n c, .int .i64 m] (w.alloc (.cells #[prd t, .int .i64 t] 125)) fun e w' => ∃ v, e = .returned (.tuple #[v, .int .i64 4]) ∧ Own w' 21 .i32 v [] ∧ (∀ g, v.ownBlock = some g → (w.alloc (.cells #[prd t, .int .i64 t] 125)).heap.size ≤ g) ∧ Fresh (w.alloc (.cells #[prd t, .int .i64 t] 125)) w') := Lib.hid (HC.out.mono fun e w' h => by
      unfold UnPR at h
      rw [hu] at h
      exact h)
    clear hu
    go_enter Tryz.func76, Tryz.ntmps76
    go_wp2_with fail
    refine HC.out.mono ?_
    rintro e w1 ⟨v, rfl, hv⟩
    have HV := Lib.hid (HF.out.1.trans hv.2.2 fun _ _ e => e)
    clear hv HC
    go_wp2_with fail
    go_ret2
    rw [HU.out]
    exact ⟨_, rfl, Own.nil _ _ _, fun k e => (by cases e), HV.out⟩
  · have hok := (unR_iff bs m l).1 hu
    have HU : Hid (unT t bs m = (0, unl t l)) := Lib.hid (by unfold unT; rw [hu])
    have HC : Hid (Calls Tryz.prog 81 #[.slice A n c, .int .i64 m] (w.alloc (.cells #[prd t, .int .i64 t] 125)) fun e w' => ∃ v, e = .returned (.tuple #[v, .int .i64 0]) ∧ NewRow (w.alloc (.cells #[prd t, .int .i64 t] 125)) w' 21 .i32 v l) := Lib.hid (HC.out.mono fun e w' h => by
      unfold UnPR at h
      rw [hu] at h
      exact h)
    have h32 : I32 l := hok.2.1
    have hl := hok.1
    clear hu hok
    by_cases h4 : t = 4
    · subst h4
      rw [prd_four] at HC HF
      rw [prd_four]
      have HE : Hid (unl 4 l = lrst l) := Lib.hid rfl
      go_enter Tryz.func76, Tryz.ntmps76
      go_wp2_with fail
      refine HC.out.mono ?_
      rintro e w1 ⟨v, rfl, hv⟩
      obtain ⟨B, cB, rfl, hrv, _⟩ := hv.1.row
      rw [hl] at hrv
      have HR := Lib.hid (cLrnRst_any B m cB l w1 hrv h32 hm)
      have hk := (HF.out.2.kept hv.2.2 id).cell 0
      have hk : w1.cell? ⟨w.heap.size, 0, none⟩ = some (.iface 132 (.agg #[])) := hk.trans rfl
      have HV := Lib.hid (HF.out.1.trans hv.2.2 fun _ _ e => e)
      rw [hl]
      clear hv hrv HC HF
      go_wp2_with fail
      refine HR.out.mono ?_
      rintro e w2 ⟨u, rfl, hu⟩
      have HW := Lib.hid (hu.after HV.out)
      clear hu HR
      go_wp2_with fail
      go_ret2
      rw [HU.out, HE.out]
      exact ⟨_, rfl, HW.out⟩
    · rw [prd_less h4] at HC HF
      rw [prd_less h4]
      have HE : Hid (unl t l = rst t l) := Lib.hid (if_neg h4)
      go_enter Tryz.func76, Tryz.ntmps76
      go_wp2_with fail
      refine HC.out.mono ?_
      rintro e w1 ⟨v, rfl, hv⟩
      obtain ⟨B, cB, rfl, hrv, _⟩ := hv.1.row
      rw [hl] at hrv
      have HR := Lib.hid (cRigRst_any B m cB l w1 hrv h32 hm t (by omega))
      have hk := (HF.out.2.kept hv.2.2 id).cell 0
      have hk : w1.cell? ⟨w.heap.size, 0, none⟩ = some (.iface 133 (.int .i64 t)) := hk.trans rfl
      have HV := Lib.hid (HF.out.1.trans hv.2.2 fun _ _ e => e)
      rw [hl]
      clear hv hrv HC HF
      go_wp2_with fail
      refine HR.out.mono ?_
      rintro e w2 ⟨u, rfl, hu⟩
      have HW := Lib.hid (hu.after HV.out)
      clear hu HR
      go_wp2_with fail
      go_ret2
      rw [HU.out, HE.out]
      exact ⟨_, rfl, HW.out⟩

/-- What reading some numbers leaves: they, an error, the reader behind. -/
def RdPost (g : Nat) (t : TypeId) (ext : List Value) (A : Option Addr) (c : Nat) (xs : List Int) (w : World) (r : Int × List Int) (p : Nat) (er : Int) (e : Ending) (w' : World) : Prop :=
  ∃ u, e = .returned (.tuple #[u, .int .i64 r.1]) ∧ Own w' 21 .i32 u r.2 ∧ (∀ k, u.ownBlock = some k → w.heap.size ≤ k) ∧ NRd w' g t ext A c xs p er ∧ Mine g w w'

set_option maxHeartbeats 3200000 in
/-- track. -/
theorem cRTrack_any (g : Nat) (t : TypeId) (ext : List Value) (A : Option Addr) (c : Nat) (xs : List Int) (p : Nat) (er : Int) (n : Nat) (w : World) (h : NRd w g t ext A c xs p er) (hx : xs.length ≤ 100000000) (hn : n ≤ 1048576) :
    Calls Tryz.prog 69 #[.agg #[.pointer (some ⟨g, 0, none⟩)], .int .i64 n] w (RdPost g t ext A c xs w (rdTrk xs p er n) (trkB xs p er).2.1 (trkB xs p er).2.2) := by
  obtain ⟨W0, hW0⟩ : ∃ W0, W0 = w.alloc (.cells #[.pointer (some ⟨g, 0, none⟩)] 60) := ⟨_, rfl⟩
  have hf0 : Fresh w W0 := by rw [hW0]; exact (Kept.refl _ _).alloc _
  have hb0 : Blk W0 w.heap.size 60 #[.pointer (some ⟨g, 0, none⟩)] := by rw [hW0]; exact Blk.new _ _ _
  have hgw : g < w.heap.size := h.blk.lt
  have h0 : NRd W0 g t ext A c xs p er := h.kept hf0 id (fun _ _ _ _ => id)
  have HN := Lib.hid (nrNum_any g t ext A c xs p er W0 h0)
  have hby := h.byte
  have htb := txt_byte xs (nx xs p er).2.1 (nx xs p er).2.2 ((xs.length - (nx xs p er).2.1 : Nat) : Int) hby
  have hfit := nx_fits g t ext A c xs p er w h
  have HB0 := Lib.hid (And.intro hf0 (And.intro hb0 (And.intro htb hby)))
  have hpx : w.heap.size < W0.heap.size := hb0.lt
  clear h h0 hf0 hb0 htb hby
  have HT : Hid (rdTrk xs p er n = if (trkB xs p er).2.2 ≠ 0 then ((trkB xs p er).2.2, []) else if 4 < (nx xs p er).1 then (4, []) else unT (nx xs p er).1 (trkB xs p er).1 n) := Lib.hid rfl
  have hTB : trkB xs p er = txt xs (nx xs p er).2.1 (nx xs p er).2.2 ((xs.length - (nx xs p er).2.1 : Nat) : Int) := rfl
  rw [hTB] at HT ⊢
  clear hTB
  generalize nx xs p er = a at *
  obtain ⟨tg, p1, e1⟩ := a
  simp only [] at *
  go_enter Tryz.func69, Tryz.ntmps69
  go_wp2_with fail
  rw [← hW0]
  refine HN.out.mono ?_
  rintro e w1 ⟨rfl, h1, hk1⟩
  have hb1 := HB0.out.2.1.kept hk1 (by omega)
  have hle : p1 ≤ xs.length := h1.le
  obtain ⟨L, hL⟩ : ∃ L, L = xs.length - p1 := ⟨_, rfl⟩
  rw [← hL] at HT HB0
  have hLp : p1 + L = xs.length := by omega
  have HLf : Hid (∀ V, Fresh w1 V → Calls Tryz.prog 30 #[.pointer (some ⟨g, 0, none⟩)] V fun e w' => e = .returned (.int .i64 L) ∧ ∃ n, w' = V.drewN n) := Lib.hid fun V hV =>
    nrLeft_any g t ext A c xs p1 e1 V L (h1.kept hV id (fun _ _ _ _ => id)) hLp
  have HX : Hid (∀ V, Fresh w1 V → Calls Tryz.prog 56 #[.pointer (some ⟨g, 0, none⟩), .int .i64 L] V (TextPost g t ext A c xs V (txt xs p1 e1 L))) := Lib.hid fun V hV =>
    nrText_any g t ext A c xs p1 e1 L V (by omega) (h1.kept hV id (fun _ _ _ _ => id))
  have k0 : w1.cell? ⟨w.heap.size, 0, none⟩ = some (.pointer (some ⟨g, 0, none⟩)) := (hb1.cell 0).trans rfl
  have H1 := Lib.hid (And.intro h1 (And.intro hk1 (And.intro hb1 hL)))
  clear h1 hk1 hb1 hL hle HN hW0
  go_wp2_with fail
  go_region_with ((first
    | (go_at_call 30; refine (HLf.out _ (by first | exact Kept.refl _ _ | exact (Kept.refl _ _).drew)).mono ?_; rintro e V ⟨rfl, q, rfl⟩)
    | (go_at_call 56; refine (HX.out _ (by first | exact (Kept.refl _ _).drewN _ | exact (Kept.refl _ _).drew.drewN _)).mono ?_; rintro e w2 ⟨u, rfl, hu, hun, h2, hk2⟩)))
  all_goals
    have hk12 : Mine g w1 w2 := Kept.trans (T := fun k => k = g) ((Kept.refl (fun k => k = g) w1).drewN _) hk2 fun _ _ e => e
    have hb2 := H1.out.2.2.1.kept hk12 (by omega)
    have k2 : w2.cell? ⟨w.heap.size, 0, none⟩ = some (.pointer (some ⟨g, 0, none⟩)) := (hb2.cell 0).trans rfl
    have htx := HB0.out.2.2.1
    have hTl := tk_len
    have hlenR : (txt xs p1 e1 (L : Int)).1.length ≤ 100000000 := by
      unfold txt
      split
      · simp
      · have := tk_len_le xs (nx xs p1 e1).2.1 (nx xs p1 e1).2.2 (nx xs p1 e1).1
        have hh : ∀ q k er, (tk xs q er k).1.length ≤ xs.length := fun q k er => by
          unfold tk
          split
          · simp
          split
          · simp only [List.length_take, List.length_drop]; omega
          · simp
        exact Nat.le_trans (hh _ _ _) hx
    have hz1 : w.heap.size ≤ w1.heap.size := Nat.le_trans HB0.out.1.size H1.out.2.1.size
    have HL := Lib.hid H1.out.2.2.2
    obtain ⟨Bu, cu, rfl, hru, _⟩ := hu.row
    have HF : Hid (∀ V, Kept (fun k => k = g) w2 V → Mine g w V) := Lib.hid fun V hV =>
      ((HB0.out.1.mono (T := fun k => k = g) fun _ _ e => e.elim).trans H1.out.2.1 fun _ _ e => e).trans (hk12.trans hV fun _ _ e => e) fun _ _ e => e
    clear hk2 hun hTl hu HLf HX k0
    generalize hRq : txt xs p1 e1 (L : Int) = R at *
    obtain ⟨b, p2, e2⟩ := R
    have HRq := Lib.hid hRq
    clear hRq
    simp only [] at *
    have HE := Lib.hid (nrErr_any g t ext A c xs p2 e2 w2 h2)
    have H2 := Lib.hid (And.intro h2 (And.intro hru htx))
    clear h2 hru hb2 hk12 htx H1
    go_wp2_with fail
    refine HE.out.mono ?_
    rintro e w3 ⟨rfl, rfl⟩
    clear HE
    by_cases he : e2 = 0
    · subst he
      by_cases h4 : 4 < tg
      · have h4i : (4 : Int) < (tg : Int) := by omega
        have HQ : Hid (rdTrk xs p er n = (4, [])) := Lib.hid (by rw [HT.out, if_neg (by simp), if_pos h4])
        clear h4 HT
        go_wp2_with fail
        go_ret2
        rw [← HL.out, HQ.out, HRq.out]
        exact ⟨_, rfl, Own.nil _ _ _, fun k e => (by cases e), H2.out.1, HF.out _ (Kept.refl _ _)⟩
      · have h4i : ¬ (4 : Int) < (tg : Int) := by omega
        have HQ : Hid (rdTrk xs p er n = unT tg b n) := Lib.hid (by rw [HT.out, if_neg (by simp), if_neg h4])
        have HP := Lib.hid (cPackerOf_any tg w2)
        have hwr : IntKind.i64.wrap (tg : Int) = (tg : Int) := IntWalk.i64_in _ (by omega)
        clear HT
        go_wp2_with fail
        refine HP.out.mono ?_
        rintro e w4 ⟨rfl, hf4⟩
        have HU := Lib.hid (cPUnpack_any Bu b.length cu b tg n w4 (H2.out.2.1.kept hf4 (fun _ _ _ _ => id)) H2.out.2.2 hlenR hn (by omega))
        have H4 := Lib.hid hf4
        clear hf4 HP h4
        go_wp2_with fail
        refine HU.out.mono ?_
        rintro e w5 ⟨v, rfl, hv⟩
        have hv := hv.after H4.out
        have HV := Lib.hid hv
        clear hv HU
        go_wp2_with fail
        go_ret2
        rw [← HL.out, HQ.out, HRq.out]
        exact ⟨_, rfl, HV.out.1, fun k e => Nat.le_trans (HF.out _ (Kept.refl _ _)).size (HV.out.2.1 k e), H2.out.1.kept HV.out.2.2 id (fun _ _ _ _ => id), HF.out _ (HV.out.2.2.mono fun _ _ e => e.elim)⟩
    · have heb : (e2 != 0) = true := by simpa using he
      have HQ : Hid (rdTrk xs p er n = (e2, [])) := Lib.hid (by rw [HT.out, if_pos he])
      clear he HT
      go_wp2_with fail
      go_ret2
      rw [← HL.out, HQ.out, HRq.out]
      exact ⟨_, rfl, Own.nil _ _ _, fun k e => (by cases e), H2.out.1, HF.out _ (Kept.refl _ _)⟩

end Go.Proofs.YtodmchjdflpbpaaGreat

/- Audio's reader: a group of tracks. -/
namespace Go.Proofs.YtodmchjdflpbpaaGreat
open Go.RowKit
set_option maxRecDepth 100000

attribute [local go_sem ↓] Go.wp_at_zero Go.wp_at_succ

/-- One of the lists is put anew: its block is no other one's. -/
theorem Bag.set {w : World} {B g n cap i : Nat} {V : Nat → Value} {T : Nat → List Int} {v : Value} {xs : List Int} (h : Bag w B g n cap V T) (ho : Own w 21 .i32 v xs)
    (hf : ∀ j b, j < n → j ≠ i → (V j).ownBlock = some b → v.ownBlock ≠ some b) (hvg : v.ownBlock ≠ some g) (hlo : ∀ b, v.ownBlock = some b → B ≤ b) :
    Bag (w.setCell ⟨g, i, none⟩ v) B g n cap (fun j => if j = i then v else V j) (fun j => if j = i then xs else T j) := by
  have hkg : Kept (fun k => k = g) w (w.setCell ⟨g, i, none⟩ v) := (Kept.refl (fun k => k = g) w).setCell (p := ⟨g, i, none⟩) (fun _ => rfl) _
  refine ⟨?_, fun j hj => ?_, fun j k b hj hk' e1 e2 => ?_, fun j b hj e => ?_, h.glo⟩
  · have h2 := (World.ownsRow.stored h.out i v).1
    have e : ((List.range n).map V).set i v = (List.range n).map (fun j => if j = i then v else V j) := by
      apply List.ext_getElem (by simp)
      intro k k1 k2
      simp only [List.getElem_set, List.getElem_map, List.getElem_range]
      by_cases hki : i = k
      · simp [hki]
      · have : ¬ k = i := fun e => hki e.symm
        simp [hki, this]
    rw [e] at h2
    exact h2
  · by_cases hji : j = i
    · simp only [if_pos hji]
      exact ho.kept hkg (fun b e e2 => hvg (e2 ▸ e))
    · simp only [if_neg hji]
      exact (h.row j hj).kept hkg (fun b e e2 => h.apart hj (e2 ▸ e))
  · by_cases hji : j = i
    · by_cases hki : k = i
      · omega
      · simp only [if_pos hji, if_neg hki] at e1 e2
        exact absurd e1 (hf k b hk' hki e2)
    · by_cases hki : k = i
      · simp only [if_neg hji, if_pos hki] at e1 e2
        exact absurd e2 (hf j b hj hji e1)
      · simp only [if_neg hji, if_neg hki] at e1 e2
        exact h.inj j k b hj hk' e1 e2
  · by_cases hji : j = i
    · simp only [if_pos hji] at e
      exact hlo b e
    · simp only [if_neg hji] at e
      exact h.lo j b hj e
theorem Bag.blk {w : World} {B g n cap : Nat} {V : Nat → Value} {T : Nat → List Int} (h : Bag w B g n cap V T) : ∃ cs, Blk w g 53 cs := by
  obtain ⟨cs, hb, _⟩ := Blk.of_own h.out
  exact ⟨cs, hb⟩
theorem Bag.own_lt {w : World} {B g n cap : Nat} {V : Nat → Value} {T : Nat → List Int} (h : Bag w B g n cap V T) {i b : Nat} (hi : i < n) (e : (V i).ownBlock = some b) : b < w.heap.size := (h.row i hi).lt e

/-- Where the j-th track of a group begins, with which error; the tracks. -/
def posG (xs : List Int) (p : Nat) : Nat → Nat × Int
  | 0 => ((nx xs p 0).2.1, (nx xs p 0).2.2)
  | j + 1 => ((trkB xs (posG xs p j).1 (posG xs p j).2).2.1, (trkB xs (posG xs p j).1 (posG xs p j).2).2.2)
def trkG (xs : List Int) (p n j : Nat) : Int × List Int := rdTrk xs (posG xs p j).1 (posG xs p j).2 n
theorem rdTrk_ok {xs : List Int} {p : Nat} {e : Int} {n : Nat} (h : (rdTrk xs p e n).1 = 0) : (trkB xs p e).2.2 = 0 := by
  unfold rdTrk at h
  split at h
  · exact h
  · rename_i h2
    omega
theorem posG_ok {xs : List Int} {p n j : Nat} (h : (trkG xs p n j).1 = 0) : (posG xs p (j + 1)).2 = 0 := rdTrk_ok h
theorem trkG_0 (xs : List Int) (p n : Nat) : trkG xs p n 0 = gT1 xs p n := rfl
theorem posG_1 (xs : List Int) (p : Nat) : (posG xs p 1).1 = gP1 xs p := rfl
theorem trkG_1 {xs : List Int} {p n : Nat} (h : (gT1 xs p n).1 = 0) : trkG xs p n 1 = gT2 xs p n := by
  have := posG_ok (xs := xs) (p := p) (n := n) (j := 0) h
  unfold trkG gT2
  rw [posG_1, this]
theorem posG_2 {xs : List Int} {p n : Nat} (h : (gT1 xs p n).1 = 0) : (posG xs p 2).1 = gP2 xs p := by
  have := posG_ok (xs := xs) (p := p) (n := n) (j := 0) h
  show (trkB xs (posG xs p 1).1 (posG xs p 1).2).2.1 = _
  rw [posG_1, this]
  rfl
/-- The lists behind so many tracks of a group. -/
def lisG (xs : List Int) (p n x0 : Nat) (T : Nat → List Int) (j i : Nat) : List Int := if x0 ≤ i ∧ i < x0 + j then (trkG xs p n (i - x0)).2 else T i

/-- Amid a group. -/
structure GSt (w : World) (g : Nat) (t : TypeId) (ext : List Value) (A : Option Addr) (cA : Nat) (xs : List Int) (p n : Nat) (B ga c cap x0 : Nat) (T : Nat → List Int) (j : Nat) (wr : World) : Prop where
  rd : NRd wr g t ext A cA xs (posG xs p j).1 (posG xs p j).2
  bag : ∃ V, Bag wr B ga c cap V (lisG xs p n x0 T j)
  ok : ∀ i, i < j → (trkG xs p n i).1 = 0
  kept : Kept (fun k => k = g ∨ k = ga) w wr
  box : Blk wr w.heap.size 60 #[.pointer (some ⟨g, 0, none⟩)]

/-- One track more. -/
theorem GSt.step {w : World} {g : Nat} {t : TypeId} {ext : List Value} {A : Option Addr} {cA : Nat} {xs : List Int} {p n B ga c cap x0 j : Nat} {T : Nat → List Int} {wr w2 : World} {u : Value} (h : GSt w g t ext A cA xs p n B ga c cap x0 T j wr) (hj : x0 + j < c)
    (hu : Own w2 21 .i32 u (trkG xs p n j).2) (hun : ∀ k, u.ownBlock = some k → wr.heap.size ≤ k) (hrd : NRd w2 g t ext A cA xs (posG xs p (j + 1)).1 (posG xs p (j + 1)).2) (hk : Mine g wr w2) (hok : (trkG xs p n j).1 = 0)
    (hgg : g ≠ ga) (hgB : g < B) (hA : ∀ b o, A = some ⟨b, o, none⟩ → 0 < xs.length → b ≠ ga ∧ b < B) (hBw : B ≤ w.heap.size) (hgw : g < w.heap.size) (hgaw : ga < w.heap.size) : GSt w g t ext A cA xs p n B ga c cap x0 T (j + 1) (w2.setCell ⟨ga, x0 + j, none⟩ u) := by
  obtain ⟨V, hb⟩ := h.bag
  have hkg : Kept (fun k => k = ga) w2 (w2.setCell ⟨ga, x0 + j, none⟩ u) := (Kept.refl (fun k => k = ga) w2).setCell (p := ⟨ga, x0 + j, none⟩) (fun _ => rfl) _
  have hb2 := hb.kept hk (fun e => hgg e.symm) (fun i b hi e e2 => by have := hb.lo i b hi e; omega)
  have hwz := h.kept.size
  refine ⟨hrd.kept hkg hgg (fun b o e h0 e2 => (hA b o e h0).1 e2), ⟨_, (hb2.set hu (fun i b hi _ e e2 => ?_) (fun e => ?_) (fun b e => ?_)).congr fun i hi => ?_⟩, fun i hi => ?_, ?_, ?_⟩
  · have h1 := hb.own_lt hi e
    have h2 := hun b e2
    omega
  · have h2 := hun ga e
    omega
  · have h2 := hun b e
    omega
  · unfold lisG
    by_cases hij : i = x0 + j
    · subst hij
      rw [if_pos rfl, if_pos (by omega), Nat.add_sub_cancel_left]
    · rw [if_neg hij]
      by_cases h2 : x0 ≤ i ∧ i < x0 + j
      · rw [if_pos h2, if_pos (by omega)]
      · rw [if_neg h2, if_neg (by omega)]
  · by_cases hij : i = j
    · subst hij; exact hok
    · exact h.ok i (by omega)
  · exact (h.kept.trans hk fun i _ e => .inl e).trans hkg fun i _ e => .inr e
  · exact (h.box.kept hk (by omega)).kept hkg (by omega)

/-- What a group's call leaves. -/
def RgPost (g : Nat) (t : TypeId) (ext : List Value) (A : Option Addr) (cA : Nat) (xs : List Int) (w : World) (B ga c cap x0 m : Nat) (T : Nat → List Int) (r : Int × List (List Int)) (p : Nat) (e : Ending) (w' : World) : Prop :=
  e = .returned (.int .i64 r.1) ∧ Kept (fun k => k = g ∨ k = ga) w w' ∧ (r.1 = 0 → NRd w' g t ext A cA xs p 0 ∧ ∃ V, Bag w' B ga c cap V (fun i => if x0 ≤ i ∧ i < x0 + m then byN r.2 (i - x0) else T i))

set_option maxHeartbeats 3200000 in
/-- group, of one track. -/
theorem cRGroup1_any (g : Nat) (t : TypeId) (ext : List Value) (A : Option Addr) (cA : Nat) (xs : List Int) (p n : Nat) (w : World) (B ga c cap x0 k : Nat) (V : Nat → Value) (T : Nat → List Int) (h : NRd w g t ext A cA xs p 0) (hb : Bag w B ga c cap V T)
    (hx : xs.length ≤ 100000000) (hn : 1 ≤ n ∧ n ≤ 1048576) (hc : x0 + 1 ≤ c) (hgg : g ≠ ga) (hgB : g < B) (hA : ∀ b o, A = some ⟨b, o, none⟩ → 0 < xs.length → b ≠ ga ∧ b < B) (hBw : B ≤ w.heap.size) :
    Calls Tryz.prog 58 #[.agg #[.pointer (some ⟨g, 0, none⟩)], .slice (some ⟨ga, x0, none⟩) 1 k, .int .i64 n] w (RgPost g t ext A cA xs w B ga c cap x0 1 T (rdG1 xs p n) (gP1 xs p)) := by
  obtain ⟨W0, hW0⟩ : ∃ W0, W0 = w.alloc (.cells #[.pointer (some ⟨g, 0, none⟩)] 60) := ⟨_, rfl⟩
  have hf0 : Fresh w W0 := by rw [hW0]; exact (Kept.refl _ _).alloc _
  have hb0 : Blk W0 w.heap.size 60 #[.pointer (some ⟨g, 0, none⟩)] := by rw [hW0]; exact Blk.new _ _ _
  have hgw : g < w.heap.size := h.blk.lt
  have hgaw : ga < w.heap.size := hb.lt
  have h0 : NRd W0 g t ext A cA xs p 0 := h.kept hf0 id (fun _ _ _ _ => id)
  have HN := Lib.hid (nrNum_any g t ext A cA xs p 0 W0 h0)
  have hby := h.byte
  have hfit := nx_fits g t ext A cA xs p 0 w h
  have HS : Hid (∀ w1, NRd w1 g t ext A cA xs (nx xs p 0).2.1 (nx xs p 0).2.2 → Mine g W0 w1 → GSt w g t ext A cA xs p n B ga c cap x0 T 0 w1) := Lib.hid fun w1 h1 hk1 => by
    have hk : Kept (fun k => k = g) w w1 := (hf0.mono (T := fun k => k = g) fun _ _ e => e.elim).trans hk1 fun _ _ e => e
    refine ⟨h1, ⟨V, (hb.kept hk (fun e => hgg e.symm) (fun i b hi e e2 => ?_)).congr fun i _ => ?_⟩, fun i hi => by omega, hk.mono fun _ _ e => .inl e, hb0.kept hk1 (by omega)⟩
    · have := hb.lo i b hi e
      omega
    · unfold lisG
      rw [if_neg (by omega)]
  have hpx : w.heap.size < W0.heap.size := hb0.lt
  clear h h0 hf0 hb0 hb
  generalize hway : (nx xs p 0).1 = way at *
  have HWay := Lib.hid hway
  have HA := Lib.hid hA
  clear hA hway
  go_enter Tryz.func58, Tryz.ntmps58
  go_wp2_with fail
  rw [← hW0]
  refine HN.out.mono ?_
  rintro e w1 ⟨rfl, h1, hk1⟩
  have H1 := Lib.hid (HS.out w1 h1 hk1)
  have hmsz := H1.out.kept.size
  rw [HWay.out]
  clear h1 hk1 HN HS
  go_wp2_with fail
  go_loopw [17] (fun i wr => ∃ j : Nat, j ≤ 1 ∧ i = .int .i64 j ∧ GSt w g t ext A cA xs p n B ga c cap x0 T j wr) (fun i _ => (1 - intOf i).toNat)
  case atStart => exact ⟨0, by omega, rfl, H1.out⟩
  case round =>
    obtain ⟨j, hj, rfl, hG⟩ := hrel
    by_cases hlt : j < 1
    · have kb : wr.cell? ⟨w.heap.size, 0, none⟩ = some (.pointer (some ⟨g, 0, none⟩)) := (hG.box.cell 0).trans rfl
      have HT := Lib.hid (cRTrack_any g t ext A cA xs (posG xs p j).1 (posG xs p j).2 n wr hG.rd hx hn.2)
      have HG := Lib.hid hG
      have ij : (j : Int) < 1 := by omega
      clear hG
      go_wp2_with fail
      refine HT.out.mono ?_
      rintro e w2 ⟨u, rfl, hu, hun, hrd, hk⟩
      have hre : rdTrk xs (posG xs p j).1 (posG xs p j).2 n = trkG xs p n j := rfl
      rw [hre] at hu ⊢
      obtain ⟨Du, du, rfl, _, _⟩ := hu.row
      by_cases hok : (trkG xs p n j).1 = 0
      · rw [hok]
        obtain ⟨V2, hb2⟩ := HG.out.bag
        have hb2 := hb2.kept hk (fun e => hgg e.symm) (fun i b hi e e2 => by have := hb2.lo i b hi e; omega)
        have c1 : w2.cell? ⟨ga, x0 + j, none⟩ = some (V2 (x0 + j)) := hb2.slot (by omega)
        have f1 := hb2.frozen (x0 + j)
        have H2 := Lib.hid (HG.out.step (by omega) hu hun hrd hk hok hgg hgB HA.out hBw hgw hgaw)
        clear hu hun hrd hk hb2 hre HT HG hok
        generalize (trkG xs p n j).2.length = lu at *
        go_wp2_with fail
        go_roundw
        case rel => exact ⟨j + 1, by omega, by go_num, H2.out⟩
        case measure => simp [intOf]; omega
      · have heb : ((trkG xs p n j).1 != 0) = true := by simpa using hok
        have HQ : Hid ((rdG1 xs p n).1 = (trkG xs p n j).1) := Lib.hid (by
          obtain rfl : j = 0 := by omega
          have hok2 : (gT1 xs p n).1 ≠ 0 := hok
          unfold rdG1
          rw [if_pos hok2]
          rfl)
        have HK := Lib.hid (HG.out.kept.trans hk fun i _ e => .inl e)
        clear hu hun hrd hk hre HT HG
        generalize (trkG xs p n j).1 = er at *
        generalize (trkG xs p n j).2.length = lu at *
        go_wp2_with fail
        go_ret
        refine ⟨by rw [HQ.out]; rfl, HK.out, fun e => ?_⟩
        rw [HQ.out] at e
        exact absurd e hok
    · obtain rfl : j = 1 := by omega
      have HG := Lib.hid hG
      clear hG
      have hg1 : (gT1 xs p n).1 = 0 := HG.out.ok 0 (by omega)
      by_cases h0 : way = 0
      · subst h0
        have HQ : Hid (rdG1 xs p n = (0, [(gT1 xs p n).2])) := Lib.hid (by unfold rdG1; rw [if_neg (by omega), if_pos HWay.out])
        clear hg1
        go_wp2_with fail
        go_ret
        rw [HQ.out]
        refine ⟨rfl, HG.out.kept, fun _ => ?_⟩
        obtain ⟨V2, hb2⟩ := HG.out.bag
        have hrd := HG.out.rd
        rw [posG_1, posG_ok (HG.out.ok 0 (by omega))] at hrd
        refine ⟨hrd, V2, hb2.congr fun i _ => ?_⟩
        unfold lisG
        by_cases h2 : x0 ≤ i ∧ i < x0 + 1
        · rw [if_pos h2, if_pos h2]
          obtain rfl : i = x0 := by omega
          rw [Nat.sub_self]
          rfl
        · rw [if_neg h2, if_neg h2]
      · have HQ : Hid (rdG1 xs p n = (4, [])) := Lib.hid (by unfold rdG1; rw [if_neg (by omega), if_neg (by rw [HWay.out]; exact h0)])
        have hw0 : ((way : Int) == 0) = false := by rw [beq_eq_false_iff_ne]; omega
        clear hg1
        go_wp2_with fail
        all_goals
          go_ret
          rw [HQ.out]
          exact ⟨rfl, HG.out.kept, fun e => by cases e⟩

set_option maxHeartbeats 3200000 in
/-- group, of two tracks. -/
theorem cRGroup2_any (g : Nat) (t : TypeId) (ext : List Value) (A : Option Addr) (cA : Nat) (xs : List Int) (p n : Nat) (w : World) (B ga c cap x0 k : Nat) (V : Nat → Value) (T : Nat → List Int) (h : NRd w g t ext A cA xs p 0) (hb : Bag w B ga c cap V T)
    (hx : xs.length ≤ 100000000) (hn : 1 ≤ n ∧ n ≤ 1048576) (hc : x0 + 2 ≤ c) (hgg : g ≠ ga) (hgB : g < B) (hA : ∀ b o, A = some ⟨b, o, none⟩ → 0 < xs.length → b ≠ ga ∧ b < B) (hBw : B ≤ w.heap.size) :
    Calls Tryz.prog 58 #[.agg #[.pointer (some ⟨g, 0, none⟩)], .slice (some ⟨ga, x0, none⟩) 2 k, .int .i64 n] w (RgPost g t ext A cA xs w B ga c cap x0 2 T (rdG2 xs p n) (gP2 xs p)) := by
  obtain ⟨W0, hW0⟩ : ∃ W0, W0 = w.alloc (.cells #[.pointer (some ⟨g, 0, none⟩)] 60) := ⟨_, rfl⟩
  have hf0 : Fresh w W0 := by rw [hW0]; exact (Kept.refl _ _).alloc _
  have hb0 : Blk W0 w.heap.size 60 #[.pointer (some ⟨g, 0, none⟩)] := by rw [hW0]; exact Blk.new _ _ _
  have hgw : g < w.heap.size := h.blk.lt
  have hgaw : ga < w.heap.size := hb.lt
  have h0 : NRd W0 g t ext A cA xs p 0 := h.kept hf0 id (fun _ _ _ _ => id)
  have HN := Lib.hid (nrNum_any g t ext A cA xs p 0 W0 h0)
  have hby := h.byte
  have hfit := nx_fits g t ext A cA xs p 0 w h
  have HS : Hid (∀ w1, NRd w1 g t ext A cA xs (nx xs p 0).2.1 (nx xs p 0).2.2 → Mine g W0 w1 → GSt w g t ext A cA xs p n B ga c cap x0 T 0 w1) := Lib.hid fun w1 h1 hk1 => by
    have hk : Kept (fun k => k = g) w w1 := (hf0.mono (T := fun k => k = g) fun _ _ e => e.elim).trans hk1 fun _ _ e => e
    refine ⟨h1, ⟨V, (hb.kept hk (fun e => hgg e.symm) (fun i b hi e e2 => ?_)).congr fun i _ => ?_⟩, fun i hi => by omega, hk.mono fun _ _ e => .inl e, hb0.kept hk1 (by omega)⟩
    · have := hb.lo i b hi e
      omega
    · unfold lisG
      rw [if_neg (by omega)]
  have hpx : w.heap.size < W0.heap.size := hb0.lt
  clear h h0 hf0 hb0 hb
  generalize hway : (nx xs p 0).1 = way at *
  have HWay := Lib.hid hway
  have HA := Lib.hid hA
  clear hA hway
  go_enter Tryz.func58, Tryz.ntmps58
  go_wp2_with fail
  rw [← hW0]
  refine HN.out.mono ?_
  rintro e w1 ⟨rfl, h1, hk1⟩
  have H1 := Lib.hid (HS.out w1 h1 hk1)
  have hmsz := H1.out.kept.size
  rw [HWay.out]
  clear h1 hk1 HN HS
  go_wp2_with fail
  go_loopw [17] (fun i wr => ∃ j : Nat, j ≤ 2 ∧ i = .int .i64 j ∧ GSt w g t ext A cA xs p n B ga c cap x0 T j wr) (fun i _ => (2 - intOf i).toNat)
  case atStart => exact ⟨0, by omega, rfl, H1.out⟩
  case round =>
    obtain ⟨j, hj, rfl, hG⟩ := hrel
    by_cases hlt : j < 2
    · have kb : wr.cell? ⟨w.heap.size, 0, none⟩ = some (.pointer (some ⟨g, 0, none⟩)) := (hG.box.cell 0).trans rfl
      have HT := Lib.hid (cRTrack_any g t ext A cA xs (posG xs p j).1 (posG xs p j).2 n wr hG.rd hx hn.2)
      have HG := Lib.hid hG
      have ij : (j : Int) < 2 := by omega
      clear hG
      go_wp2_with fail
      refine HT.out.mono ?_
      rintro e w2 ⟨u, rfl, hu, hun, hrd, hk⟩
      have hre : rdTrk xs (posG xs p j).1 (posG xs p j).2 n = trkG xs p n j := rfl
      rw [hre] at hu ⊢
      obtain ⟨Du, du, rfl, _, _⟩ := hu.row
      by_cases hok : (trkG xs p n j).1 = 0
      · rw [hok]
        obtain ⟨V2, hb2⟩ := HG.out.bag
        have hb2 := hb2.kept hk (fun e => hgg e.symm) (fun i b hi e e2 => by have := hb2.lo i b hi e; omega)
        have c1 : w2.cell? ⟨ga, x0 + j, none⟩ = some (V2 (x0 + j)) := hb2.slot (by omega)
        have f1 := hb2.frozen (x0 + j)
        have H2 := Lib.hid (HG.out.step (by omega) hu hun hrd hk hok hgg hgB HA.out hBw hgw hgaw)
        clear hu hun hrd hk hb2 hre HT HG hok
        generalize (trkG xs p n j).2.length = lu at *
        go_wp2_with fail
        go_roundw
        case rel => exact ⟨j + 1, by omega, by go_num, H2.out⟩
        case measure => simp [intOf]; omega
      · have heb : ((trkG xs p n j).1 != 0) = true := by simpa using hok
        have HQ : Hid ((rdG2 xs p n).1 = (trkG xs p n j).1) := Lib.hid (by
          rcases (show j = 0 ∨ j = 1 by omega) with rfl | rfl
          · unfold rdG2
            rw [if_pos (show (gT1 xs p n).1 ≠ 0 from hok)]
            rfl
          · have hg1 : (gT1 xs p n).1 = 0 := HG.out.ok 0 (by omega)
            rw [trkG_1 hg1] at hok ⊢
            unfold rdG2
            rw [if_neg (by omega), if_pos hok])
        have HK := Lib.hid (HG.out.kept.trans hk fun i _ e => .inl e)
        clear hu hun hrd hk hre HT HG
        generalize (trkG xs p n j).1 = er at *
        generalize (trkG xs p n j).2.length = lu at *
        go_wp2_with fail
        go_ret
        refine ⟨by rw [HQ.out]; rfl, HK.out, fun e => ?_⟩
        rw [HQ.out] at e
        exact absurd e hok
    · obtain rfl : j = 2 := by omega
      have HG := Lib.hid hG
      clear hG
      have hg1 : (gT1 xs p n).1 = 0 := HG.out.ok 0 (by omega)
      have hg2 : (gT2 xs p n).1 = 0 := by rw [← trkG_1 hg1]; exact HG.out.ok 1 (by omega)
      by_cases h0 : way = 0
      · subst h0
        have HQ : Hid (rdG2 xs p n = (0, [(gT1 xs p n).2, (gT2 xs p n).2])) := Lib.hid (by unfold rdG2; rw [if_neg (by omega), if_neg (by omega), if_pos HWay.out])
        have Hg1 := Lib.hid hg1
        clear hg1 hg2
        go_wp2_with fail
        go_ret
        rw [HQ.out]
        refine ⟨rfl, HG.out.kept, fun _ => ?_⟩
        obtain ⟨V2, hb2⟩ := HG.out.bag
        have hrd := HG.out.rd
        rw [posG_2 Hg1.out, posG_ok (HG.out.ok 1 (by omega))] at hrd
        refine ⟨hrd, V2, hb2.congr fun i _ => ?_⟩
        unfold lisG
        by_cases h2 : x0 ≤ i ∧ i < x0 + 2
        · rw [if_pos h2, if_pos h2]
          rcases (show i = x0 ∨ i = x0 + 1 by omega) with rfl | rfl
          · rw [Nat.sub_self]
            rfl
          · rw [Nat.add_sub_cancel_left, trkG_1 Hg1.out]
            rfl
        · rw [if_neg h2, if_neg h2]
      · have hw0 : ((way : Int) == 0) = false := by rw [beq_eq_false_iff_ne]; omega
        by_cases h1 : 1 < way
        · have HQ : Hid (rdG2 xs p n = (4, [])) := Lib.hid (by unfold rdG2; rw [if_neg (by omega), if_neg (by omega), if_neg (by rw [HWay.out]; exact h0), if_pos (by rw [HWay.out]; exact h1)])
          have hw1 : (1 : Int) < (way : Int) := by omega
          clear hg1 hg2
          go_wp2_with fail
          all_goals
            go_ret
            rw [HQ.out]
            exact ⟨rfl, HG.out.kept, fun e => by cases e⟩
        · have hw1 : ¬ (1 : Int) < (way : Int) := by omega
          have HQ : Hid (rdG2 xs p n = (0, [lfts (gT1 xs p n).2 (gT2 xs p n).2, rgts (gT1 xs p n).2 (gT2 xs p n).2])) := Lib.hid (by unfold rdG2; rw [if_neg (by omega), if_neg (by omega), if_neg (by rw [HWay.out]; exact h0), if_neg (by rw [HWay.out]; exact h1)])
          obtain ⟨V2, hb2⟩ := HG.out.bag
          have l1 := rdTrk_len hg1
          have l2 := rdTrk_len hg2
          have s0 := hb2.slot (i := x0) (by omega)
          have s1 := hb2.slot (i := x0 + 1) (by omega)
          have o0 := hb2.row x0 (by omega)
          have o1 := hb2.row (x0 + 1) (by omega)
          have e0 : lisG xs p n x0 T 2 x0 = (gT1 xs p n).2 := by unfold lisG; rw [if_pos (by omega), Nat.sub_self]; rfl
          have e1 : lisG xs p n x0 T 2 (x0 + 1) = (gT2 xs p n).2 := by unfold lisG; rw [if_pos (by omega), Nat.add_sub_cancel_left, trkG_1 hg1]
          rw [e0] at o0
          rw [e1] at o1
          obtain ⟨D0, d0, v0, r0, _⟩ := o0.row
          obtain ⟨D1, d1, v1, r1, _⟩ := o1.row
          rw [show (gT1 xs p n).2.length = n from l1.1] at v0 r0
          rw [show (gT2 xs p n).2.length = n from l2.1] at v1 r1
          rw [v0] at s0
          rw [v1] at s1
          have HM : Hid (∀ X, Fresh wr X → Calls Tryz.prog 70 #[.slice D0 n d0, .slice D1 n d1] X fun e w' => Two X w' e (lfts (gT1 xs p n).2 (gT2 xs p n).2) (rgts (gT1 xs p n).2 (gT2 xs p n).2)) := Lib.hid fun X hX => by
            have := cUnmid_any D0 D1 n d0 d1 (gT1 xs p n).2 (gT2 xs p n).2 X (r0.kept hX (fun _ _ _ _ => id)) (r1.kept hX (fun _ _ _ _ => id)) l1.2 l2.2 hn.2
            unfold lfts rgts
            rw [show (gT1 xs p n).2.length = n from l1.1]
            exact this
          have HB := Lib.hid (And.intro hb2 (And.intro l1.1 hg1))
          clear hg1 hg2 hb2 l1 l2 o0 o1 e0 e1 r0 r1 v0 v1
          go_wp2_with fail
          go_region_with ((go_at_call 70; refine (HM.out _ (Kept.refl _ wr).drew).mono ?_; rintro e w4 ⟨u1, u2, rfl, hu1, hu2, hne⟩
                           have hfw : Fresh wr w4 := (Kept.refl _ wr).drew.trans hu1.2.2 fun _ _ e => e
                           have hb4 := HB.out.1.fresh hfw
                           have c0 : w4.cell? ⟨ga, x0, none⟩ = some (V2 x0) := hb4.slot (by omega)
                           have c1 : w4.cell? ⟨ga, x0 + 1, none⟩ = some (V2 (x0 + 1)) := hb4.slot (by omega)
                           have f0 := hb4.frozen x0
                           have f1 := hb4.frozen (x0 + 1)
                           obtain ⟨B1, b1, rfl, _, _⟩ := hu1.1.row
                           obtain ⟨B2, b2, rfl, _, _⟩ := hu2.1.row))
          all_goals
            have hfw : Fresh wr w4 := (Kept.refl _ wr).drew.trans hu1.2.2 fun _ _ e => e
            have hb4 := HB.out.1.fresh hfw
            have hzw := hfw.size
            have hz0 := HG.out.kept.size
            have hlo1 : ∀ b, Value.ownBlock (.slice B1 (lfts (gT1 xs p n).2 (gT2 xs p n).2).length b1) = some b → wr.heap.size ≤ b := hu1.2.1
            have hlo2 : ∀ b, Value.ownBlock (.slice B2 (rgts (gT1 xs p n).2 (gT2 xs p n).2).length b2) = some b → wr.heap.size ≤ b := hu2.2.1
            have hbA := hb4.set (i := x0) hu1.1 (fun i b hi _ e e2 => by have := HB.out.1.own_lt hi e; have := hlo1 b e2; omega) (fun e => by have := hlo1 ga e; omega) (fun b e => by have := hlo1 b e; omega)
            have hoB := hu2.1.setFar (p := ⟨ga, x0, none⟩) (fun e => by have := hlo2 ga e; omega) (.slice B1 (lfts (gT1 xs p n).2 (gT2 xs p n).2).length b1)
            have hbB := hbA.set (i := x0 + 1) hoB (fun i b hi hne2 e e2 => by
              by_cases hix : i = x0
              · rw [if_pos hix] at e
                exact hne b e e2
              · rw [if_neg hix] at e
                have := HB.out.1.own_lt hi e
                have := hlo2 b e2
                omega) (fun e => by have := hlo2 ga e; omega) (fun b e => by have := hlo2 b e; omega)
            have hkS : Kept (fun k => k = ga) wr ((w4.setCell ⟨ga, x0, none⟩ (.slice B1 (lfts (gT1 xs p n).2 (gT2 xs p n).2).length b1)).setCell ⟨ga, x0 + 1, none⟩ (.slice B2 (rgts (gT1 xs p n).2 (gT2 xs p n).2).length b2)) :=
              ((hfw.mono (T := fun k => k = ga) fun _ _ e => e.elim).setCell (p := ⟨ga, x0, none⟩) (fun _ => rfl) _).setCell (p := ⟨ga, x0 + 1, none⟩) (fun _ => rfl) _
            have HF := Lib.hid (And.intro hbB hkS)
            clear hbB hkS hoB hbA hlo1 hlo2 hb4 hu1 hu2 hne hfw HM
            generalize (lfts (gT1 xs p n).2 (gT2 xs p n).2).length = ll at *
            generalize (rgts (gT1 xs p n).2 (gT2 xs p n).2).length = lr at *
            go_wp2_with fail
            go_ret
            rw [HQ.out]
            have hrd := HG.out.rd
            rw [posG_2 HB.out.2.2, posG_ok (HG.out.ok 1 (by omega))] at hrd
            refine ⟨rfl, HG.out.kept.trans HF.out.2 fun i _ e => .inr e, fun _ => ⟨hrd.kept HF.out.2 hgg (fun b o e h0 e2 => (HA.out b o e h0).1 e2), _, HF.out.1.congr fun i _ => ?_⟩⟩
            by_cases i1 : i = x0 + 1
            · subst i1
              rw [if_pos rfl, if_pos (by omega), Nat.add_sub_cancel_left]
              rfl
            · rw [if_neg i1]
              by_cases i0 : i = x0
              · subst i0
                rw [if_pos rfl, if_pos (by omega), Nat.sub_self]
                rfl
              · rw [if_neg i0, if_neg (by omega)]
                unfold lisG
                rw [if_neg (by omega)]

end Go.Proofs.YtodmchjdflpbpaaGreat

/- slices.Chunk over a list of lists, by twos: its parts by numbers that may be. -/
namespace Go.Proofs.YtodmchjdflpbpaaGreat
open Go.RowKit Go.Shelf
set_option maxRecDepth 100000

attribute [local go_sem] Oper.semAt_some

set_option maxHeartbeats 2000000 in
/-- The iterator. -/
theorem pairf1_in (m : Nat) (hm : 1 ≤ m) (l B b o n c : Nat) (hnc : n ≤ c) (hn : n ≤ 1048576) (J Jx : List Nat → World → Prop) (hJ : ∀ s V, J s V → J s V.drew)
    (hY : ∀ x W, J (List.range x) W → x < pairs2 n → YieldAt Fence.wide (m - 1) Tryz.prog l #[pairAt (some ⟨b, o, none⟩) n x] W fun e W' =>
      (e = .returned (.bool true) ∧ J (List.range x ++ [x]) W' ∧ BoxesAt B W W') ∨ (e = .returned (.bool false) ∧ Jx (List.range x ++ [x]) W'))
    (W : World) (h1 : Blk W B 41 #[.slice (some ⟨b, o, none⟩) n c]) (h2 : Blk W (B + 1) 3 #[.int .i64 2]) (h0 : J [] W) :
    CallsIn Fence.wide m Tryz.prog 36 #[.func (.yield l) #[] #[], .pointer (some ⟨B, 0, none⟩), .pointer (some ⟨B + 1, 0, none⟩)] W fun e W' => (∃ v, e = .returned v) ∧
      ((∃ ys, ys = List.range (pairs2 n) ∧ J ys W') ∨ (∃ pre, (∃ k, k ≤ pairs2 n ∧ pre = List.range k) ∧ Jx pre W')) := by
  have n0 : (n : Int) ≤ 1048576 := by omega
  have n1 : (n : Int) ≤ (c : Int) := by omega
  refine callsIn_of_wp Tryz.func36 rfl trivial ?_ rfl
  simp only [Tryz.ntmps36, List.size_toArray, List.length_cons, List.length_nil, Nat.reduceAdd, Nat.reduceSub, Array.replicate_succ, Array.replicate_zero, List.push_toArray, List.append_toArray, List.nil_append, List.cons_append]
  gi_wp2
  gi_loopw [4] (fun i wr => ∃ k : Nat, 2 * k < n + 2 ∧ i = .int .i64 ((2 * k : Nat) : Int) ∧ J (List.range k) wr ∧ Blk wr B 41 #[.slice (some ⟨b, o, none⟩) n c] ∧ Blk wr (B + 1) 3 #[.int .i64 2])
    (fun i _ => n + 2 - (intOf i).toNat)
  case atStart => exact ⟨0, by omega, rfl, h0, h1, h2⟩
  case round =>
    obtain ⟨k, hk, rfl, hJs, hb1, hb2⟩ := hrel
    have c1 := hb1.cell 0
    have c2 := hb2.cell 0
    simp only [List.getElem?_toArray, List.getElem?_cons_zero] at c1 c2
    by_cases hlt : 2 * k < n
    · obtain ⟨fn, tmps, assign, body, hy, hR⟩ := hY k wr.drew (hJ _ _ hJs) (by unfold pairs2; omega)
      obtain ⟨m', hm'⟩ : ∃ m', m' = min 2 (n - 2 * k) := ⟨_, rfl⟩
      simp only [pairAt, Option.map_some, ← hm'] at hy
      have j0 : ((2 * k : Nat) : Int) < (n : Int) := by omega
      have HM := Lib.hid hm'
      have hmin : min (2 : Int) ((n - 2 * k : Nat) : Int) = (m' : Int) := by omega
      have hb1' := hb1.drew
      have hb2' := hb2.drew
      have c1' : wr.drew.cell? ⟨B, 0, none⟩ = some (.slice (some ⟨b, o, none⟩) n c) := c1
      have c2' : wr.drew.cell? ⟨B + 1, 0, none⟩ = some (.int .i64 2) := c2
      have jm : 2 * k + m' ≤ n := by omega
      have jm' : ((2 * k : Nat) : Int) + (m' : Int) ≤ (n : Int) := by omega
      clear hm'
      gi_wp2
      gi_region
      have jt : ((2 * k : Nat) : Int) + (m' : Int) = ((2 * k + m' : Nat) : Int) := by omega
      have jd : 2 * k + m' - 2 * k = m' := by omega
      gi_wp2
      refine hR.mono ?_
      rintro e W3 (⟨rfl, hJ3, hk3⟩ | ⟨rfl, hJx3⟩)
      · have hb1'' : Blk W3 B 41 #[.slice (some ⟨b, o, none⟩) n c] := hk3.1.trans hb1'
        have hb2'' : Blk W3 (B + 1) 3 #[.int .i64 2] := hk3.2.trans hb2'
        have c2'' := hb2''.cell 0
        simp only [List.getElem?_toArray, List.getElem?_cons_zero] at c2''
        gi_wp2
        go_roundw
        case rel => exact ⟨k + 1, by omega, by go_num, by rw [List.range_succ]; exact hJ3, hb1'', hb2''⟩
        case measure => simp [intOf]; omega
      · gi_wp2
        refine bodyPost_ret (results_none rfl _ _ _) rfl ?_
        exact ⟨⟨_, rfl⟩, .inr ⟨_, ⟨k + 1, by unfold pairs2; omega, List.range_succ.symm⟩, hJx3⟩⟩
    · have j0 : ¬ ((2 * k : Nat) : Int) < (n : Int) := by omega
      gi_wp2
      go_end0
      exact ⟨⟨_, rfl⟩, .inl (by rw [show pairs2 n = k from by unfold pairs2; omega]; exact hJs)⟩

/-- What Chunk hands back tells the parts of the slice, each by a number that may be. -/
theorem pairf_stops (m : Nat) (hm : 1 ≤ m) (B : Nat) (b o n c : Nat) (hnc : n ≤ c) (hn : n ≤ 1048576) (w : World)
    (h1 : Blk w B 41 #[.slice (some ⟨b, o, none⟩) n c]) (h2 : Blk w (B + 1) 3 #[.int .i64 2]) :
    SeqStopsK Fence.wide m Tryz.prog 36 #[.pointer (some ⟨B, 0, none⟩), .pointer (some ⟨B + 1, 0, none⟩)] (fun j : Fin (pairs2 n) => #[pairAt (some ⟨b, o, none⟩) n j.val]) (BoxesAt B) (fun ys => ys.map Fin.val = List.range (pairs2 n))
      (fun pre => ∃ k, k ≤ pairs2 n ∧ pre.map Fin.val = List.range k) (pairs2 n) w := fun l J Jx W hW hJ _ hY h0 => by
  have g1 : Blk W B 41 #[.slice (some ⟨b, o, none⟩) n c] := (hW.block B h1.lt).trans h1
  have g2 : Blk W (B + 1) 3 #[.int .i64 2] := (hW.block (B + 1) h2.lt).trans h2
  refine (pairf1_in m hm l B b o n c hnc hn (fun s V => ∃ s' : List (Fin (pairs2 n)), s'.map Fin.val = s ∧ J s' V) (fun s V => ∃ s' : List (Fin (pairs2 n)), s'.map Fin.val = s ∧ Jx s' V)
    (fun s V ⟨s', e, hs⟩ => ⟨s', e, hJ s' V V.drew none hs ⟨rfl, rfl, rfl, Nat.le_refl _, fun _ _ _ => rfl⟩ (fun r e => by cases e)⟩) (fun x V ⟨s', e, hs⟩ hx => ?_) W g1 g2 ⟨[], rfl, h0⟩).mono fun e W' ⟨he, hj⟩ => ⟨he, ?_⟩
  · have hl : s'.length < pairs2 n := by
      have := congrArg List.length e
      rw [List.length_map, List.length_range] at this
      omega
    obtain ⟨fn, tmps, assign, body, hy, hR⟩ := hY s' ⟨x, hx⟩ V hs hl
    refine ⟨fn, tmps, assign, body, hy, hR.mono fun e2 W2 h => ?_⟩
    rcases h with ⟨a1, a2, a3⟩ | ⟨a1, a2⟩
    · exact .inl ⟨a1, ⟨_, by rw [List.map_append, e]; rfl, a2⟩, a3⟩
    · exact .inr ⟨a1, _, by rw [List.map_append, e]; rfl, a2⟩
  · rcases hj with ⟨ys, e, s', e2, hs⟩ | ⟨pre, ⟨k, hk, e⟩, s', e2, hs⟩
    · exact .inl ⟨s', e2.trans e, hs⟩
    · exact .inr ⟨s', ⟨k, hk, e2.trans e⟩, hs⟩

end Go.Proofs.YtodmchjdflpbpaaGreat

/- Audio's reader: the samples of a file. -/
namespace Go.Proofs.YtodmchjdflpbpaaGreat
open Go.RowKit Go.Shelf
set_option maxRecDepth 100000

attribute [local go_sem] Oper.semAt_some

/-- Groups that are read in some order: the error, the tracks, the place. -/
def mX (c x : Nat) : Nat := if 2 * x + 1 < c then 2 else 1
def rdX (xs : List Int) (c n : Nat) (s : Int × (Nat → List Int) × Nat) (x : Nat) : Int × (Nat → List Int) × Nat :=
  if s.1 ≠ 0 then s else ((rdG xs c n x s.2.2).1, (fun i => if 2 * x ≤ i ∧ i < 2 * x + mX c x then byN (rdG xs c n x s.2.2).2.1 (i - 2 * x) else s.2.1 i), (rdG xs c n x s.2.2).2.2)
def rdXs (xs : List Int) (c n p0 : Nat) (pre : List Nat) : Int × (Nat → List Int) × Nat := pre.foldl (rdX xs c n) (0, fun _ => [], p0)
theorem rdXs_snoc (xs : List Int) (c n p0 : Nat) (pre : List Nat) (x : Nat) : rdXs xs c n p0 (pre ++ [x]) = rdX xs c n (rdXs xs c n p0 pre) x := by simp [rdXs]
theorem byN_append (L M : List (List Int)) (i : Nat) : byN (L ++ M) i = if i < L.length then byN L i else byN M (i - L.length) := by
  unfold byN
  simp only [List.getD, List.getElem?_append]
  split <;> rfl
theorem byN_out {L : List (List Int)} {i : Nat} (h : L.length ≤ i) : byN L i = [] := by unfold byN; simp [List.getD, List.getElem?_eq_none h]
theorem rdXs_range (xs : List Int) (c n p0 : Nat) : ∀ k, k ≤ halves c → (rdXs xs c n p0 (List.range k)).1 = (rdGs xs c n p0 k).1 ∧
    ((rdGs xs c n p0 k).1 = 0 → (∀ i, (rdXs xs c n p0 (List.range k)).2.1 i = byN (rdGs xs c n p0 k).2.1 i) ∧ (rdXs xs c n p0 (List.range k)).2.2 = (rdGs xs c n p0 k).2.2)
  | 0, _ => ⟨rfl, fun _ => ⟨fun i => rfl, rfl⟩⟩
  | k + 1, hk => by
    have ih := rdXs_range xs c n p0 k (by omega)
    rw [List.range_succ, rdXs_snoc, rdGs]
    unfold rdX
    by_cases h0 : (rdGs xs c n p0 k).1 = 0
    · have h1 : (rdXs xs c n p0 (List.range k)).1 = 0 := by rw [ih.1, h0]
      obtain ⟨hT, hp⟩ := ih.2 h0
      rw [if_neg (by omega), if_neg (by omega), hp]
      refine ⟨rfl, fun hg => ⟨fun i => ?_, rfl⟩⟩
      simp only [] at hg ⊢
      have hl := (rdGs_len (xs := xs) (c := c) (n := n) (p0 := p0) k (by omega) h0).1
      have hl2 := (rdG_len hg).1
      rw [show min (2 * k) c = 2 * k by unfold halves at hk; omega] at hl
      rw [byN_append, hl]
      unfold mX
      by_cases hi : i < 2 * k
      · rw [if_neg (by omega), if_pos hi, hT]
      · rw [if_neg hi]
        by_cases hi2 : i < 2 * k + (if 2 * k + 1 < c then 2 else 1)
        · rw [if_pos ⟨by omega, hi2⟩]
        · rw [if_neg (fun h => hi2 h.2), hT, byN_out (by omega), byN_out (by rw [hl2]; omega)]
    · have h1 : (rdXs xs c n p0 (List.range k)).1 ≠ 0 := by rw [ih.1]; exact h0
      rw [if_pos h1, if_pos h0]
      exact ⟨ih.1, fun e => absurd e h0⟩
theorem rdGs_stop {xs : List Int} {c n p0 k : Nat} (h : (rdGs xs c n p0 k).1 ≠ 0) : ∀ m, k ≤ m → (rdGs xs c n p0 m).1 = (rdGs xs c n p0 k).1
  | 0, hm => by rw [show k = 0 by omega]
  | m + 1, hm => by
    by_cases e : k = m + 1
    · rw [e]
    · have ih := rdGs_stop h m (by omega)
      rw [rdGs, if_pos (by rw [ih]; exact h), ih]

/-- The next group, of one track or of two. -/
theorem cRGroup_any (g : Nat) (t : TypeId) (ext : List Value) (A : Option Addr) (cA : Nat) (xs : List Int) (p n : Nat) (w : World) (B ga c cap x : Nat) (V : Nat → Value) (T : Nat → List Int) (h : NRd w g t ext A cA xs p 0) (hb : Bag w B ga c cap V T)
    (hx : xs.length ≤ 100000000) (hn : 1 ≤ n ∧ n ≤ 1048576) (hc : 2 * x < c) (hgg : g ≠ ga) (hgB : g < B) (hA : ∀ b o, A = some ⟨b, o, none⟩ → 0 < xs.length → b ≠ ga ∧ b < B) (hBw : B ≤ w.heap.size) :
    Calls Tryz.prog 58 #[.agg #[.pointer (some ⟨g, 0, none⟩)], pairAt (some ⟨ga, 0, none⟩) c x, .int .i64 n] w (RgPost g t ext A cA xs w B ga c cap (2 * x) (mX c x) T ((rdG xs c n x p).1, (rdG xs c n x p).2.1) (rdG xs c n x p).2.2) := by
  unfold pairAt mX rdG
  by_cases h2 : 2 * x + 1 < c
  · rw [if_pos h2, if_pos h2, show min 2 (c - 2 * x) = 2 by omega]
    have := cRGroup2_any g t ext A cA xs p n w B ga c cap (2 * x) 2 V T h hb hx hn (by omega) hgg hgB hA hBw
    simpa using this
  · rw [if_neg h2, if_neg h2, show min 2 (c - 2 * x) = 1 by omega]
    have := cRGroup1_any g t ext A cA xs p n w B ga c cap (2 * x) 1 V T h hb hx hn (by omega) hgg hgB hA hBw
    simpa using this

theorem wpListIn_make_bag {F : Fence} {d : Nat} (w : World) {ops : Array Oper} {rest : List Oper} {o : Oper} {a : Act} {Q : Exit → Act → World → Prop}
    (hg : o.guard = none) (l c : Operand) (hop : o.op = Op.makeSlice 41 l c) (kl kc : IntKind) (L C : Int) (n : Nat) (hl : a.eval l = .int kl L) (hc : a.eval c = .int kc C) (hL : L = (n : Int)) (hC : C = (n : Int)) (hn : n ≤ 1000000)
    (hK : ∀ w', Bag w' w.heap.size w.heap.size n n (fun _ => .slice none 0 0) (fun _ => []) → Fresh w w' → wpListIn F d Tryz.prog ops Q rest (a.put o.dst (.slice (some ⟨w.heap.size, 0, none⟩) n n)) w') :
    wpListIn F d Tryz.prog ops Q (o :: rest) a w := by
  obtain ⟨i0, hi, hz0, hz1, hz2⟩ := info_parts Tryz.infoTr
  refine wpListIn_plain hg fun K hK' => ?_
  obtain ⟨w', hrun, r1, r2⟩ := run_make_full (P := Tryz.prog) w 0 41 53 i0 (.slice none 0 0) 1 Tryz.underlying41 hi hz0 hz1 kl kc n (by rw [hz2]; omega) (by unfold maxLen; omega) (by omega)
  subst hL
  subst hC
  unfold Oper.wpIn
  refine ⟨?_, ?_⟩
  · simp [Oper.about, hop]
  · rw [Oper.semAt_plain F _ _ (by rw [hop]; intro c hc'; cases hc')]
    simp [execOp, hop, hl, hc, hrun, Result.andThen]
    refine hK' _ _ (hK w' ?_ ((Kept.refl _ _).grown r2 (fun k e _ => by cases e)))
    rw [made_nils] at r1
    exact ⟨r1, fun i _ => Own.nil _ _ _, fun i j b _ _ e _ => (by cases e), fun i b _ e => (by cases e), Nat.le_refl _⟩

/-- What reading the samples leaves. -/
def SmPost (g : Nat) (xs : List Int) (p : Nat) (r : Nat × Nat × Nat × Nat) (w : World) (e : Ending) (w' : World) : Prop :=
  ∃ u, e = .returned (.tuple #[u, .int .i64 (samA xs p r).1]) ∧ Own w' 5 .u8 u (samA xs p r).2 ∧ (∀ k, u.ownBlock = some k → w.heap.size ≤ k) ∧ Mine g w w'

/-- Between two rounds. -/
structure SmH (w : World) (g : Nat) (t : TypeId) (ext : List Value) (A : Option Addr) (cA : Nat) (xs : List Int) (ga ch bn F D : Nat) (cs : Array Value) (T : Nat → List Int) (p : Nat) (W : World) : Prop where
  rd : NRd W g t ext A cA xs p 0
  bag : ∃ V, Bag W ga ga ch ch V T
  box : Blk W w.heap.size 60 #[.pointer (some ⟨g, 0, none⟩)]
  wav : Blk W (w.heap.size + 1) 28 cs
  r0 : Blk W (w.heap.size + 2) 22 #[.slice none 0 0]
  r1 : Blk W (w.heap.size + 3) 32 #[.int .i64 0]
  nb : Blk W bn 3 #[.int .i64 F]
  fr : Mine g w W
  big : D ≤ W.heap.size
theorem SmH.nc {w : World} {g : Nat} {t : TypeId} {ext : List Value} {A : Option Addr} {cA : Nat} {xs : List Int} {ga ch bn F D p : Nat} {cs : Array Value} {T : Nat → List Int} {S : Nat → Prop} {X Y : World} (h : SmH w g t ext A cA xs ga ch bn F D cs T p X) (hk : Kept S X Y) (hS : ∀ k, S k → NoCells X k ∧ w.heap.size ≤ k) : SmH w g t ext A cA xs ga ch bn F D cs T p Y := by
  obtain ⟨V, hb⟩ := h.bag
  obtain ⟨cg, hcg⟩ := hb.blk
  exact ⟨h.rd.kept hk (fun e => h.rd.blk.cells (hS _ e).1) (fun b o e h0 e2 => (e ▸ h.rd.row).cells h0 (hS _ e2).1), ⟨V, hb.kept hk (fun e => hcg.cells (hS _ e).1) (fun i b hi e e2 => (hb.row i hi).cells e (hS _ e2).1)⟩,
   h.box.kept hk (fun e => h.box.cells (hS _ e).1), h.wav.kept hk (fun e => h.wav.cells (hS _ e).1), h.r0.kept hk (fun e => h.r0.cells (hS _ e).1), h.r1.kept hk (fun e => h.r1.cells (hS _ e).1), h.nb.kept hk (fun e => h.nb.cells (hS _ e).1),
   h.fr.trans hk fun i hi e => (by have := (hS i e).2; omega), Nat.le_trans h.big hk.size⟩
/-- Behind a round that has left. -/
structure SmL (w : World) (g : Nat) (er : Int) (W : World) : Prop where
  r0 : Blk W (w.heap.size + 2) 22 #[.slice none 0 0]
  r1 : Blk W (w.heap.size + 3) 32 #[.int .i64 er]
  fr : Mine g w W
theorem SmL.nc {w : World} {g : Nat} {er : Int} {S : Nat → Prop} {X Y : World} (h : SmL w g er X) (hk : Kept S X Y) (hS : ∀ k, S k → NoCells X k ∧ w.heap.size ≤ k) : SmL w g er Y :=
  ⟨h.r0.kept hk (fun e => h.r0.cells (hS _ e).1), h.r1.kept hk (fun e => h.r1.cells (hS _ e).1), h.fr.trans hk fun i hi e => by have := (hS i e).2; omega⟩

/-- The two results are written, the rounds' deferred calls are shut. -/
theorem results_two {w W : World} {D a b g : Nat} {ta tb : TypeId} {cs ds : Array Value} (h0 : Blk W a ta cs) (h1 : Blk W b tb ds) (hab : a ≠ b) (hc : cs.size = 1) (hd : ds.size = 1) (hK : W.heap[D]? = some (.deferred (some []))) (ha : w.heap.size ≤ a) (hb : w.heap.size ≤ b) (hD : w.heap.size ≤ D) (hf : Mine g w W) (v : Value) (er : Int) :
    ((W.setCell ⟨a, 0, none⟩ v).setCell ⟨b, 0, none⟩ (.int .i64 er)).heap[D]? = some (.deferred (some [])) ∧
    (((W.setCell ⟨a, 0, none⟩ v).setCell ⟨b, 0, none⟩ (.int .i64 er)).putObj D (.deferred none)).cell? ⟨a, 0, none⟩ = some v ∧
    (((W.setCell ⟨a, 0, none⟩ v).setCell ⟨b, 0, none⟩ (.int .i64 er)).putObj D (.deferred none)).cell? ⟨b, 0, none⟩ = some (.int .i64 er) ∧
    Kept (fun k => k = a ∨ k = b ∨ k = D) W (((W.setCell ⟨a, 0, none⟩ v).setCell ⟨b, 0, none⟩ (.int .i64 er)).putObj D (.deferred none)) ∧
    Mine g w (((W.setCell ⟨a, 0, none⟩ v).setCell ⟨b, 0, none⟩ (.int .i64 er)).putObj D (.deferred none)) := by
  have n0 : D ≠ a := by
    rintro rfl
    exact h0.cells ⟨_, hK, rfl⟩
  have n1 : D ≠ b := by
    rintro rfl
    exact h1.cells ⟨_, hK, rfl⟩
  have k1 : Kept (fun k => k = a ∨ k = b) W ((W.setCell ⟨a, 0, none⟩ v).setCell ⟨b, 0, none⟩ (.int .i64 er)) :=
    ((Kept.refl _ _).setCell (p := ⟨a, 0, none⟩) (fun _ => .inl rfl) v).setCell (p := ⟨b, 0, none⟩) (fun _ => .inr rfl) (.int .i64 er)
  have hK2 : ((W.setCell ⟨a, 0, none⟩ v).setCell ⟨b, 0, none⟩ (.int .i64 er)).heap[D]? = some (.deferred (some [])) := (k1.block D (Array.getElem?_eq_some_iff.1 hK).1 (by omega)).trans hK
  have g0 := ((h0.set_ 0 v).far (p := ⟨b, 0, none⟩) hab (.int .i64 er)).kept (kept_of_grown (grownBy_putObj' _ D (.deferred none))) (fun e => by injection e with e; exact n0 e)
  have g1 := ((h1.far (p := ⟨a, 0, none⟩) (fun e => hab e.symm) v).set_ 0 (.int .i64 er)).kept (kept_of_grown (grownBy_putObj' _ D (.deferred none))) (fun e => by injection e with e; exact n1 e)
  have kk := (k1.mono (T := fun k => k = a ∨ k = b ∨ k = D) fun i _ e => by rcases e with e | e <;> simp [e]).trans (kept_of_grown (grownBy_putObj' _ D (.deferred none))) fun i _ e => by injection e with e; simp [e]
  refine ⟨hK2, ?_, ?_, kk, hf.trans kk fun i hi e => by omega⟩
  · rw [g0.cell 0]; simp [hc]
  · rw [g1.cell 0]; simp [hd]

set_option maxHeartbeats 6400000 in
/-- samples. -/
theorem cSamples_any (g : Nat) (t : TypeId) (ext : List Value) (A : Option Addr) (cA : Nat) (xs : List Int) (p ch bt f tt : Nat) (w : World) (h : NRd w g t ext A cA xs p 0) (hx : xs.length ≤ 100000000)
    (q1 : 1 ≤ ch ∧ ch ≤ 8) (q2 : bt = 8 ∨ bt = 16) (q3 : f < tt ∧ tt ≤ 1048576) (q4 : (tt - f) % (ch * wdT bt) = 0) :
    Calls Tryz.prog 45 #[.agg #[.pointer (some ⟨g, 0, none⟩)], .agg #[.int .i64 ch, .int .i64 bt, .int .i64 f, .int .i64 tt]] w (SmPost g xs p (ch, bt, f, tt) w) := by
  refine (callsIn_wide (n := 6)).1 ?_
  obtain ⟨Wa, hWa⟩ : ∃ Wa, Wa = (((w.alloc (.cells #[.pointer (some ⟨g, 0, none⟩)] 60)).alloc (.cells #[.int .i64 ch, .int .i64 bt, .int .i64 f, .int .i64 tt] 28)).alloc (.cells #[.slice none 0 0] 22)).alloc (.cells #[.int .i64 0] 32) := ⟨_, rfl⟩
  have hza : Wa.heap.size = w.heap.size + 4 := by rw [hWa]; simp
  have hfa : Fresh w Wa := by rw [hWa]; exact ((((Kept.refl _ _).alloc _).alloc _).alloc _).alloc _
  have hb0 : Blk Wa w.heap.size 60 #[.pointer (some ⟨g, 0, none⟩)] := by rw [hWa]; exact (((Blk.new _ _ _).alloc _).alloc _).alloc _
  have hb1 : Blk Wa (w.heap.size + 1) 28 #[.int .i64 ch, .int .i64 bt, .int .i64 f, .int .i64 tt] := by
    rw [hWa]
    have := Blk.new (w.alloc (.cells #[.pointer (some ⟨g, 0, none⟩)] 60)) 28 #[.int .i64 ch, .int .i64 bt, .int .i64 f, .int .i64 tt]
    rw [World.size_alloc] at this
    exact (this.alloc _).alloc _
  have hr0 : Blk Wa (w.heap.size + 2) 22 #[.slice none 0 0] := by
    rw [hWa]
    have := Blk.new ((w.alloc (.cells #[.pointer (some ⟨g, 0, none⟩)] 60)).alloc (.cells #[.int .i64 ch, .int .i64 bt, .int .i64 f, .int .i64 tt] 28)) 22 #[.slice none 0 0]
    rw [World.size_alloc, World.size_alloc] at this
    exact this.alloc _
  have hr1 : Blk Wa (w.heap.size + 3) 32 #[.int .i64 0] := by
    rw [hWa]
    have := Blk.new (((w.alloc (.cells #[.pointer (some ⟨g, 0, none⟩)] 60)).alloc (.cells #[.int .i64 ch, .int .i64 bt, .int .i64 f, .int .i64 tt] 28)).alloc (.cells #[.slice none 0 0] 22)) 32 #[.int .i64 0]
    rw [World.size_alloc, World.size_alloc, World.size_alloc] at this
    exact this
  have hgw : g < w.heap.size := h.blk.lt
  have hra := h.kept hfa id (fun _ _ _ _ => id)
  have hAw : ∀ b o, A = some ⟨b, o, none⟩ → 0 < xs.length → b < w.heap.size := fun b o e h0 => by
    obtain ⟨b', o', e', hb', _⟩ := h.row.at_ 0 h0
    rw [e] at e'
    injection e' with e'
    injection e' with e1 _
    omega
  have HA := Lib.hid (And.intro hfa (And.intro hb0 (And.intro hb1 (And.intro hr0 (And.intro hr1 (And.intro hra hAw))))))
  obtain ⟨d, hd⟩ : ∃ d, d = tt - f := ⟨_, rfl⟩
  obtain ⟨c8, hc8⟩ : ∃ c8, c8 = ch * bt := ⟨_, rfl⟩
  obtain ⟨fr, hfr⟩ : ∃ fr, fr = ch * wdT bt := ⟨_, rfl⟩
  obtain ⟨F, hF⟩ : ∃ F, F = d / fr := ⟨_, rfl⟩
  have hfr1 : 1 ≤ fr ∧ fr ≤ 16 ∧ c8 / 8 = fr ∧ c8 ≤ 128 := by
    rcases q2 with rfl | rfl
    · have : wdT ((8 : Nat) : Int) = 1 := rfl
      rw [this] at hfr
      omega
    · have : wdT ((16 : Nat) : Int) = 2 := rfl
      rw [this] at hfr
      omega
  have hFr : frms (ch, bt, f, tt) = F := by rw [hF, hd, hfr]; rfl
  have hFd : F * fr = d := by
    have h1 := Nat.div_add_mod d fr
    rw [hd, hfr, q4, Nat.mul_comm] at h1
    rw [hF, hd, hfr]
    omega
  have hF1 : 1 ≤ F ∧ F ≤ 1048576 := by
    refine ⟨?_, ?_⟩
    · rcases Nat.eq_zero_or_pos F with e | e
      · rw [e] at hFd; omega
      · exact e
    · rw [hF]
      have := Nat.div_le_self d fr
      omega
  have e1 : (tt : Int) - (f : Int) = (d : Int) := by omega
  have e2 : (ch : Int) * (bt : Int) = (c8 : Int) := by rw [hc8]; simp
  have e3 : (c8 : Int).tdiv 8 = (fr : Int) := by rw [Int.tdiv_eq_ediv_of_nonneg (by omega)]; omega
  have e4 : (d : Int) / (fr : Int) = (F : Int) := by rw [hF]; simp
  have e4t : (d : Int).tdiv (fr : Int) = (F : Int) := by rw [hF, Int.tdiv_eq_ediv_of_nonneg (by omega)]; simp
  have g0 : ((fr : Int) == 0) = false := by rw [beq_eq_false_iff_ne]; omega
  have g1 : ¬ (fr : Int) = 0 := by omega
  have g2 : (fr = 0) = False := by simp only [eq_iff_iff, iff_false]; omega
  have c80 : (0 : Int) ≤ (c8 : Int) ∧ (c8 : Int) ≤ 128 := by omega
  have fr0 : (0 : Int) ≤ (fr : Int) ∧ (fr : Int) ≤ 16 := by omega
  have F0 : (0 : Int) ≤ (F : Int) ∧ (F : Int) ≤ 1048576 := by omega
  have d0 : (0 : Int) ≤ (d : Int) ∧ (d : Int) ≤ 1048576 := by omega
  have wr1 : IntKind.i64.wrap (F : Int) = (F : Int) := IntWalk.i64_in _ (by omega)
  have wr2 : IntKind.i64.wrap (fr : Int) = (fr : Int) := IntWalk.i64_in _ (by omega)
  have wr3 : wrap64 (F : Int) = (F : Int) := by unfold wrap64; omega
  have wr4 : wrap64 (fr : Int) = (fr : Int) := by unfold wrap64; omega
  have HFr := Lib.hid (And.intro hFr hF1)
  clear hFd hF hfr hc8 hd hFr hfr1
  clear h hfa hb0 hb1 hr0 hr1 hra hAw
  refine callsIn_of_wp_marks Tryz.func45 rfl trivial ?_ rfl
  simp only [Tryz.ntmps45, List.size_toArray, List.length_cons, List.length_nil, Nat.reduceAdd, Nat.reduceSub, Array.replicate_succ, Array.replicate_zero, List.push_toArray, List.append_toArray, List.nil_append, List.cons_append]
  gi_wp2_with (first
    | (gi_at_make; refine wpListIn_make_bag _ rfl _ _ rfl .i64 .i64 (ch : Int) (ch : Int) ch rfl rfl rfl rfl (by omega) ?_; intro w2 hbag hf2
       rw [← hWa] at hbag hf2
       have hb1 := HA.out.2.2.1.kept hf2 id
       have k0 : w2.cell? ⟨w.heap.size + 1, 0, none⟩ = some (.int .i64 ch) := (hb1.cell 0).trans rfl
       have k1 : w2.cell? ⟨w.heap.size + 1, 1, none⟩ = some (.int .i64 bt) := (hb1.cell 1).trans rfl
       have k2 : w2.cell? ⟨w.heap.size + 1, 2, none⟩ = some (.int .i64 f) := (hb1.cell 2).trans rfl
       have k3 : w2.cell? ⟨w.heap.size + 1, 3, none⟩ = some (.int .i64 tt) := (hb1.cell 3).trans rfl
       have H2 := Lib.hid (And.intro hbag hf2)
       clear hbag hf2 hb1)
    | (refine ⟨trivial, ?_⟩; gi_at_call 18; refine (callsIn_wide.2 (pair_any _ ch ch _)).mono ?_; rintro e w' ⟨rfl, rfl⟩))
  obtain ⟨W3, hW3⟩ : ∃ W3, W3 = ((w2.alloc (.cells #[.int .i64 F] 3)).alloc (.cells #[.slice (some ⟨w.heap.size + 1 + 1 + 1 + 1, 0, none⟩) ch ch] 41)).alloc (.cells #[.int .i64 2] 3) := ⟨_, rfl⟩
  have hz3 : W3.heap.size = w2.heap.size + 3 := by rw [hW3]; simp
  have hf3 : Fresh w2 W3 := by rw [hW3]; exact (((Kept.refl _ _).alloc _).alloc _).alloc _
  have hn0 : Blk W3 w2.heap.size 3 #[.int .i64 F] := by rw [hW3]; exact ((Blk.new _ _ _).alloc _).alloc _
  have hc1 : Blk W3 (w2.heap.size + 1) 41 #[.slice (some ⟨w.heap.size + 1 + 1 + 1 + 1, 0, none⟩) ch ch] := by
    rw [hW3]
    have := Blk.new (w2.alloc (.cells #[.int .i64 F] 3)) 41 #[.slice (some ⟨w.heap.size + 1 + 1 + 1 + 1, 0, none⟩) ch ch]
    rw [World.size_alloc] at this
    exact this.alloc _
  have hc2 : Blk W3 (w2.heap.size + 1 + 1) 3 #[.int .i64 2] := by
    rw [hW3]
    have := Blk.new ((w2.alloc (.cells #[.int .i64 F] 3)).alloc (.cells #[.slice (some ⟨w.heap.size + 1 + 1 + 1 + 1, 0, none⟩) ch ch] 41)) 3 #[.int .i64 2]
    rw [World.size_alloc, World.size_alloc] at this
    exact this
  have hf13 : Fresh Wa W3 := H2.out.2.trans hf3 fun _ _ e => e
  have hza2 : Wa.heap.size ≤ w2.heap.size := H2.out.2.size
  have hlt2 : Wa.heap.size < w2.heap.size := H2.out.1.lt
  have hbagW : Bag W3 (w.heap.size + 1 + 1 + 1 + 1) (w.heap.size + 1 + 1 + 1 + 1) ch ch (fun _ => .slice none 0 0) (fun _ => []) := by
    have := H2.out.1.fresh hf3
    rwa [hza] at this
  have hst : SmH w g t ext A cA xs (w.heap.size + 1 + 1 + 1 + 1) ch w2.heap.size F W3.heap.size #[.int .i64 ch, .int .i64 bt, .int .i64 f, .int .i64 tt] (fun _ => []) p W3 :=
    ⟨HA.out.2.2.2.2.2.1.kept hf13 id (fun _ _ _ _ => id), ⟨_, hbagW⟩, HA.out.2.1.kept hf13 id, HA.out.2.2.1.kept hf13 id, HA.out.2.2.2.1.kept hf13 id, HA.out.2.2.2.2.1.kept hf13 id, hn0, (HA.out.1.trans hf13 fun _ _ e => e).mono fun _ _ e => e.elim, Nat.le_refl _⟩
  rw [← hW3]
  have H0 := Lib.hid (And.intro hst (And.intro hc1 hc2))
  clear hst hc1 hc2 hbagW hf13 hn0 hf3 hW3 H2 k0 k1 k2 k3 e1 e2 e3 e4 e4t g0 g1 g2 wr1 wr2 wr3 wr4 hWa
  refine wpIn_rangeFunc_ownG rfl (by omega) (gf := 36) (lb := #[.pointer (some ⟨w2.heap.size + 1, 0, none⟩), .pointer (some ⟨w2.heap.size + 1 + 1, 0, none⟩)]) rfl trivial (enters_of Tryz.func36 (by kernel_rfl) rfl)
    (pairf_stops 5 (by omega) (w2.heap.size + 1) (w.heap.size + 1 + 1 + 1 + 1) 0 ch ch (Nat.le_refl _) (by omega) W3 H0.out.2.1 H0.out.2.2) boxes_t (boxes_b (by omega)) (Below.refl _ _) (fun _ => rfl)
    (fun pre W => (rdXs xs ch F p (pre.map Fin.val)).1 = 0 ∧ SmH w g t ext A cA xs (w.heap.size + 1 + 1 + 1 + 1) ch w2.heap.size F W3.heap.size #[.int .i64 ch, .int .i64 bt, .int .i64 f, .int .i64 tt] (rdXs xs ch F p (pre.map Fin.val)).2.1 (rdXs xs ch F p (pre.map Fin.val)).2.2 W)
    (fun c pre W => c = .ret ∧ (rdXs xs ch F p (pre.map Fin.val)).1 ≠ 0 ∧ SmL w g (rdXs xs ch F p (pre.map Fin.val)).1 W)
    (fun s X Y row hs hg hr => ⟨hs.1, hs.2.nc (kept_of_grown hg) fun k e => ⟨(hr k e).2, by have := (hr k e).1; omega⟩⟩)
    (fun c s X Y row hs hg hr => ⟨hs.1, hs.2.1, hs.2.2.nc (kept_of_grown hg) fun k e => ⟨(hr k e).2, by have := (hr k e).1; omega⟩⟩)
    ⟨rfl, H0.out.1⟩
    (fun x => { tmps := #[.agg #[.pointer (some ⟨g, 0, none⟩)], .agg #[.int .i64 ch, .int .i64 bt, .int .i64 f, .int .i64 tt], .pointer (some ⟨w.heap.size, 0, none⟩), .pointer (some ⟨w.heap.size + 1, 0, none⟩), .pointer (some ⟨w.heap.size + 1 + 1, 0, none⟩), .pointer (some ⟨w.heap.size + 1 + 1 + 1, 0, none⟩), .slice (some ⟨w.heap.size + 1 + 1 + 1 + 1, 0, none⟩) ch ch, .pointer (some ⟨w2.heap.size, 0, none⟩), pairAt (some ⟨w.heap.size + 1 + 1 + 1 + 1, 0, none⟩) ch x.val, undef, undef, .pointer (some ⟨w.heap.size + 1, 0, none⟩), .int .i64 ch, .slice (some ⟨w.heap.size + 1 + 1 + 1 + 1, 0, none⟩) ch ch, .pointer (some ⟨w.heap.size + 1, 3, none⟩), .int .i64 tt, .pointer (some ⟨w.heap.size + 1, 2, none⟩), .int .i64 f, .int .i64 d, .pointer (some ⟨w.heap.size + 1, 0, none⟩), .int .i64 ch, .pointer (some ⟨w.heap.size + 1, 1, none⟩), .int .i64 bt, .int .i64 c8, .int .i64 fr, .int .i64 F, .slice (some ⟨w.heap.size + 1 + 1 + 1 + 1, 0, none⟩) ch ch, .func (.func 36) #[] #[.pointer (some ⟨w2.heap.size + 1, 0, none⟩), .pointer (some ⟨w2.heap.size + 1 + 1, 0, none⟩)], pairAt (some ⟨w.heap.size + 1 + 1 + 1 + 1, 0, none⟩) ch x.val, undef, undef, undef, undef, undef, undef, undef, undef, undef, undef, undef, undef, undef, undef, undef, undef, undef, undef, undef], defers := [] }) ?assign ?body ?done ?stop
  case assign =>
    intro l x W K hK
    gi_wp2
    exact hK
  case body =>
    rintro L pre x W ⟨hp0, h⟩ hlen
    have hsn : (pre ++ [x]).map Fin.val = pre.map Fin.val ++ [x.val] := by simp
    have hx2 : 2 * x.val < ch := by have := x.isLt; unfold pairs2 at this; omega
    have hWb := h.big
    obtain ⟨V1, hb1⟩ := h.bag
    have HC := Lib.hid (cRGroup_any g t ext A cA xs (rdXs xs ch F p (pre.map Fin.val)).2.2 F W (w.heap.size + 1 + 1 + 1 + 1) (w.heap.size + 1 + 1 + 1 + 1) ch ch x.val V1 (rdXs xs ch F p (pre.map Fin.val)).2.1 h.rd hb1 hx HFr.out.2 hx2 (by omega) (by omega) (fun b o e h0 => by have := HA.out.2.2.2.2.2.2 b o e h0; omega) (by omega))
    have hrdX : rdXs xs ch F p ((pre ++ [x]).map Fin.val) = rdX xs ch F (rdXs xs ch F p (pre.map Fin.val)) x.val := by rw [hsn, rdXs_snoc]
    have hrdY : rdX xs ch F (rdXs xs ch F p (pre.map Fin.val)) x.val = ((rdG xs ch F x.val (rdXs xs ch F p (pre.map Fin.val)).2.2).1, (fun i => if 2 * x.val ≤ i ∧ i < 2 * x.val + mX ch x.val then byN (rdG xs ch F x.val (rdXs xs ch F p (pre.map Fin.val)).2.2).2.1 (i - 2 * x.val) else (rdXs xs ch F p (pre.map Fin.val)).2.1 i), (rdG xs ch F x.val (rdXs xs ch F p (pre.map Fin.val)).2.2).2.2) := by
      unfold rdX
      rw [if_neg (by omega)]
    rw [hrdY] at hrdX
    clear hrdY hsn
    have c2 : W.cell? ⟨w.heap.size, 0, none⟩ = some (.pointer (some ⟨g, 0, none⟩)) := (h.box.cell 0).trans rfl
    have c7 : W.cell? ⟨w2.heap.size, 0, none⟩ = some (.int .i64 F) := (h.nb.cell 0).trans rfl
    have hl0 := h.r0.lt
    have hl1 := h.r1.lt
    obtain ⟨cg, hcg⟩ := hb1.blk
    have hnc : ∀ k, (k = g ∨ k = w.heap.size + 1 + 1 + 1 + 1) → ¬ NoCells W k := fun k e => by
      rcases e with rfl | rfl
      · exact h.rd.blk.cells
      · exact hcg.cells
    have HH := Lib.hid (And.intro h (And.intro hrdX hnc))
    clear h hrdX hnc hlen hcg hb1 hp0
    generalize rdG xs ch F x.val (rdXs xs ch F p (pre.map Fin.val)).2.2 = R at *
    by_cases hok : R.1 = 0
    · have HO := Lib.hid hok
      rw [hok] at HC
      clear hok
      gi_wp2_with (refine ⟨trivial, ?_⟩; gi_at_call 58; refine (CallsIn.inRound L (callsIn_wide.2 HC.out)).mono ?_; rintro e w3 ⟨rfl, hk, hnx⟩)
      obtain ⟨hrd, hbag⟩ := hnx trivial
      refine ⟨KeepsFrom.of _ hk HH.out.2.2, ⟨hk.block _ (by omega) (by omega), hk.block _ (by omega) (by omega)⟩, ?_, ?_⟩
      · rw [HH.out.2.1]
        exact HO.out
      · rw [HH.out.2.1]
        exact ⟨hrd, hbag, HH.out.1.box.kept hk (by omega), HH.out.1.wav.kept hk (by omega), HH.out.1.r0.kept hk (by omega), HH.out.1.r1.kept hk (by omega), HH.out.1.nb.kept hk (by omega), HH.out.1.fr.trans hk fun i hi e => by omega, Nat.le_trans hWb hk.size⟩
    · have HO := Lib.hid hok
      have heb : (R.1 != 0) = true := by simpa using hok
      clear hok
      gi_wp2_with (refine ⟨trivial, ?_⟩; gi_at_call 58; refine (CallsIn.inRound L (callsIn_wide.2 HC.out)).mono ?_; rintro e w3 ⟨rfl, hk, _⟩
                   have b0 := HH.out.1.r0.kept hk (by omega)
                   have b1 := HH.out.1.r1.kept hk (by omega)
                   have c4 : w3.cell? ⟨w.heap.size + 1 + 1, 0, none⟩ = some (.slice none 0 0) := (b0.cell 0).trans rfl
                   have c5 : w3.cell? ⟨w.heap.size + 1 + 1 + 1, 0, none⟩ = some (.int .i64 0) := (b1.cell 0).trans rfl
                   have f4 : w3.frozen? ⟨w.heap.size + 1 + 1, 0, none⟩ = false := b0.frozen 0
                   have f5 : w3.frozen? ⟨w.heap.size + 1 + 1 + 1, 0, none⟩ = false := b1.frozen 0
                   have H3 := Lib.hid (And.intro hk (And.intro b0 b1))
                   clear hk b0 b1
                   generalize R.1 = er at *)
      refine ⟨?_, rfl, ?_, ?_⟩
      · refine KeepsFrom.of (S := fun k => (k = g ∨ k = w.heap.size + 1 + 1 + 1 + 1) ∨ k = w.heap.size + 2 ∨ k = w.heap.size + 3) _ (((H3.out.1.mono fun _ _ e => .inl e).setCell (p := ⟨w.heap.size + 1 + 1, 0, none⟩) (fun _ => .inr (.inl rfl)) _).setCell (p := ⟨w.heap.size + 1 + 1 + 1, 0, none⟩) (fun _ => .inr (.inr rfl)) _) fun k e => ?_
        rcases e with e | rfl | rfl
        · exact HH.out.2.2 k e
        · exact HH.out.1.r0.cells
        · exact HH.out.1.r1.cells
      · rw [HH.out.2.1]
        exact HO.out
      · rw [HH.out.2.1]
        refine ⟨?_, ?_, ?_⟩
        · exact (H3.out.2.1.set_ 0 _).far (p := ⟨w.heap.size + 1 + 1 + 1, 0, none⟩) (by simp) _
        · exact (H3.out.2.2.far (p := ⟨w.heap.size + 1 + 1, 0, none⟩) (by simp) _).set_ 0 _
        · exact ((HH.out.1.fr.trans H3.out.1 fun i hi e => by omega).setCell (p := ⟨w.heap.size + 1 + 1, 0, none⟩) (fun e => by simp at e; omega) _).setCell (p := ⟨w.heap.size + 1 + 1 + 1, 0, none⟩) (fun e => by simp at e; omega) _
  case done =>
    rintro D ys W hD hys ⟨hp0, h⟩ hK
    rw [hys] at hp0 h
    have hra := rdXs_range xs ch F p (pairs2 ch) (Nat.le_refl _)
    have hg0 : (rdGs xs ch F p (pairs2 ch)).1 = 0 := by rw [← hra.1]; exact hp0
    obtain ⟨hT, hpl⟩ := hra.2 hg0
    have hln := rdGs_len (xs := xs) (c := ch) (n := F) (p0 := p) (pairs2 ch) (Nat.le_refl _) hg0
    rw [show min (2 * pairs2 ch) ch = ch by unfold pairs2; omega] at hln
    have hsa : samA xs p (ch, bt, f, tt) = if (rdGs xs ch F p (pairs2 ch)).2.2 < xs.length then (4, []) else if joinT bt ch (byN (rdGs xs ch F p (pairs2 ch)).2.1) then (0, bysT bt ch (byN (rdGs xs ch F p (pairs2 ch)).2.1) (byN (rdGs xs ch F p (pairs2 ch)).2.1 0).length) else (4, []) := by
      unfold samA
      rw [HFr.out.1, show halves (ch, bt, f, tt).1 = pairs2 ch from rfl, if_neg (by simp only []; omega)]
    rw [hpl] at h
    obtain ⟨V, hbV⟩ := h.bag
    have hbag : Bag W (w.heap.size + 1 + 1 + 1 + 1) (w.heap.size + 1 + 1 + 1 + 1) ch ch V (byN (rdGs xs ch F p (pairs2 ch)).2.1) := hbV.congr fun i _ => hT i
    clear hT hpl hra hp0 hbV hg0
    generalize (rdGs xs ch F p (pairs2 ch)).2.1 = Ls at *
    generalize (rdGs xs ch F p (pairs2 ch)).2.2 = pl at *
    have hle : pl ≤ xs.length := h.rd.le
    obtain ⟨L, hL⟩ : ∃ L, pl + L = xs.length := ⟨xs.length - pl, by omega⟩
    have HE := Lib.hid (nrEnd_any g t ext A cA xs pl 0 W L h.rd hL)
    have c2 : W.cell? ⟨w.heap.size, 0, none⟩ = some (.pointer (some ⟨g, 0, none⟩)) := (h.box.cell 0).trans rfl
    have HN : Hid (∀ n, SmH w g t ext A cA xs (w.heap.size + 1 + 1 + 1 + 1) ch w2.heap.size F W3.heap.size #[.int .i64 ch, .int .i64 bt, .int .i64 f, .int .i64 tt] (rdXs xs ch F p (List.range (pairs2 ch))).2.1 pl (W.drewN n)) := Lib.hid fun n => h.nc (S := fun _ => False) ((Kept.refl _ _).drewN n) fun _ e => e.elim
    have HJ : Hid (∀ n, Calls Tryz.prog 60 #[.int .i64 bt, .slice (some ⟨w.heap.size + 1 + 1 + 1 + 1, 0, none⟩) ch ch] (W.drewN n) fun e w' => JoinR (W.drewN n) w' e bt ch (byN Ls)) := Lib.hid fun n => by
      have htr := (hbag.fresh ((Kept.refl _ _).drewN n)).trs
      have hfew : Few ch (byN Ls) := fun i hi => by
        have := hln.2 _ (byN_mem (L := Ls) (i := i) (by omega))
        exact ⟨by rw [this.1]; omega, this.2⟩
      rcases q2 with rfl | rfl
      · exact cJoin8_any _ ch ch _ _ htr q1 hfew
      · exact cJoin16_any _ ch ch _ _ htr q1 hfew
    have HK := Lib.hid (And.intro hK (And.intro hsa hL))
    clear hK h hsa hbag hln hys
    by_cases hL0 : 0 < L
    · rw [show rdEnd L 0 = 4 by unfold rdEnd; rw [if_neg (by decide), if_pos hL0]] at HE
      gi_wp2_with (refine ⟨trivial, ?_⟩; gi_at_call 59; refine (callsIn_wide.2 HE.out).mono ?_; rintro e w5 ⟨rfl, n5, rfl⟩
                   have h5 := HN.out n5
                   have c4 : (W.drewN n5).cell? ⟨w.heap.size + 1 + 1, 0, none⟩ = some (.slice none 0 0) := (h5.r0.cell 0).trans rfl
                   have c5 : (W.drewN n5).cell? ⟨w.heap.size + 1 + 1 + 1, 0, none⟩ = some (.int .i64 0) := (h5.r1.cell 0).trans rfl
                   have f4 : (W.drewN n5).frozen? ⟨w.heap.size + 1 + 1, 0, none⟩ = false := h5.r0.frozen 0
                   have f5 : (W.drewN n5).frozen? ⟨w.heap.size + 1 + 1 + 1, 0, none⟩ = false := h5.r1.frozen 0
                   have H5 := Lib.hid h5
                   clear h5)
      obtain ⟨p1, p2, p3, p4, p5⟩ := results_two H5.out.r0 H5.out.r1 (by omega) rfl rfl (show (W.drewN n5).heap[D]? = some (.deferred (some [])) from HK.out.1) (by omega) (by omega) (by omega) H5.out.fr (.slice none 0 0) 4
      refine ⟨by simp, .inl ⟨_, _, rfl, run_takeDeferred p1, ?_⟩⟩
      refine ⟨.tuple #[.slice none 0 0, .int .i64 4], by simp [results, Tryz.f45, go_sem, p2, p3], ?_⟩
      unfold SmPost
      rw [HK.out.2.1, if_pos (by have := HK.out.2.2; omega)]
      exact ⟨_, rfl, Own.nil _ _ _, fun k e => (by cases e), p5⟩
    · rw [show rdEnd L 0 = 0 by unfold rdEnd; rw [if_neg (by decide), if_neg hL0]] at HE
      by_cases hj : joinT bt ch (byN Ls)
      · have HJ2 : Hid (∀ n, Calls Tryz.prog 60 #[.int .i64 bt, .slice (some ⟨w.heap.size + 1 + 1 + 1 + 1, 0, none⟩) ch ch] (W.drewN n) fun e w' => ∃ u, e = .returned (.tuple #[u, .int .i64 0]) ∧ NewRow (W.drewN n) w' 5 .u8 u (bysT bt ch (byN Ls) (byN Ls 0).length)) := Lib.hid fun n => (HJ.out n).mono fun e w' h => h.elim (fun h => h.2) (fun h => absurd hj h.1)
        have HJd := Lib.hid hj
        clear hj HJ
        gi_wp2_with (first
          | (refine ⟨trivial, ?_⟩; gi_at_call 59; refine (callsIn_wide.2 HE.out).mono ?_; rintro e w5 ⟨rfl, n5, rfl⟩
             have h5 := HN.out n5
             have c11 : (W.drewN n5).cell? ⟨w.heap.size + 1, 1, none⟩ = some (.int .i64 bt) := (h5.wav.cell 1).trans rfl
             have H5 := Lib.hid h5
             clear h5)
          | (refine ⟨trivial, ?_⟩; gi_at_call 60; refine (callsIn_wide.2 (HJ2.out n5)).mono ?_
             rintro e w6 ⟨u, rfl, hu⟩
             have hf6 := hu.2.2
             have hn6 : ∀ k, u.ownBlock = some k → w.heap.size + 3 < k := fun k e => Nat.lt_of_lt_of_le (Nat.lt_of_lt_of_le H5.out.r1.lt (Nat.le_refl _)) (hu.2.1 k e)
             have ho6 := hu.1
             obtain ⟨Bu, bu, rfl, _, _⟩ := hu.1.row
             have h6 := H5.out.nc hf6 fun _ e => e.elim
             have c4 : w6.cell? ⟨w.heap.size + 1 + 1, 0, none⟩ = some (.slice none 0 0) := (h6.r0.cell 0).trans rfl
             have c5 : w6.cell? ⟨w.heap.size + 1 + 1 + 1, 0, none⟩ = some (.int .i64 0) := (h6.r1.cell 0).trans rfl
             have f4 : w6.frozen? ⟨w.heap.size + 1 + 1, 0, none⟩ = false := h6.r0.frozen 0
             have f5 : w6.frozen? ⟨w.heap.size + 1 + 1 + 1, 0, none⟩ = false := h6.r1.frozen 0
             have hk6 : w6.heap[D]? = some (.deferred (some [])) := (hf6.block D (Array.getElem?_eq_some_iff.1 (show (W.drewN n5).heap[D]? = some (.deferred (some [])) from HK.out.1)).1 id).trans HK.out.1
             have H6 := Lib.hid (And.intro hk6 (And.intro h6 (And.intro ho6 hn6)))
             clear h6 hu hf6 ho6 hn6 hk6
             generalize (bysT bt ch (byN Ls) (byN Ls 0).length).length = lb at *))
        obtain ⟨p1, p2, p3, p4, p5⟩ := results_two H6.out.2.1.r0 H6.out.2.1.r1 (by omega) rfl rfl H6.out.1 (by omega) (by omega) (by omega) H6.out.2.1.fr (.slice Bu lb bu) 0
        refine ⟨by simp, .inl ⟨_, _, rfl, run_takeDeferred p1, ?_⟩⟩
        refine ⟨.tuple #[.slice Bu lb bu, .int .i64 0], by simp [results, Tryz.f45, go_sem, p2, p3], ?_⟩
        unfold SmPost
        rw [HK.out.2.1, if_neg (by have := HK.out.2.2; omega), if_pos HJd.out]
        refine ⟨_, rfl, H6.out.2.2.1.kept p4 (fun k e e2 => ?_), fun k e => ?_, p5⟩
        · have h3 := H6.out.2.2.2 k e
          rcases e2 with e2 | e2 | e2
          · omega
          · omega
          · exact H6.out.2.2.1.cells e ⟨_, e2 ▸ H6.out.1, rfl⟩
        · have h3 := H6.out.2.2.2 k e
          omega
      · have HJ2 : Hid (∀ n, Calls Tryz.prog 60 #[.int .i64 bt, .slice (some ⟨w.heap.size + 1 + 1 + 1 + 1, 0, none⟩) ch ch] (W.drewN n) fun e w' => e = .returned (.tuple #[.slice none 0 0, .int .i64 4]) ∧ Fresh (W.drewN n) w') := Lib.hid fun n => (HJ.out n).mono fun e w' h => h.elim (fun h => absurd h.1 hj) (fun h => h.2)
        have HJd := Lib.hid hj
        clear hj HJ
        gi_wp2_with (first
          | (refine ⟨trivial, ?_⟩; gi_at_call 59; refine (callsIn_wide.2 HE.out).mono ?_; rintro e w5 ⟨rfl, n5, rfl⟩
             have h5 := HN.out n5
             have c11 : (W.drewN n5).cell? ⟨w.heap.size + 1, 1, none⟩ = some (.int .i64 bt) := (h5.wav.cell 1).trans rfl
             have H5 := Lib.hid h5
             clear h5)
          | (refine ⟨trivial, ?_⟩; gi_at_call 60; refine (callsIn_wide.2 (HJ2.out n5)).mono ?_
             rintro e w6 ⟨rfl, hf6⟩
             have h6 := H5.out.nc hf6 fun _ e => e.elim
             have c4 : w6.cell? ⟨w.heap.size + 1 + 1, 0, none⟩ = some (.slice none 0 0) := (h6.r0.cell 0).trans rfl
             have c5 : w6.cell? ⟨w.heap.size + 1 + 1 + 1, 0, none⟩ = some (.int .i64 0) := (h6.r1.cell 0).trans rfl
             have f4 : w6.frozen? ⟨w.heap.size + 1 + 1, 0, none⟩ = false := h6.r0.frozen 0
             have f5 : w6.frozen? ⟨w.heap.size + 1 + 1 + 1, 0, none⟩ = false := h6.r1.frozen 0
             have hk6 : w6.heap[D]? = some (.deferred (some [])) := (hf6.block D (Array.getElem?_eq_some_iff.1 (show (W.drewN n5).heap[D]? = some (.deferred (some [])) from HK.out.1)).1 id).trans HK.out.1
             have H6 := Lib.hid (And.intro hk6 h6)
             clear h6 hf6 hk6))
        obtain ⟨p1, p2, p3, p4, p5⟩ := results_two H6.out.2.r0 H6.out.2.r1 (by omega) rfl rfl H6.out.1 (by omega) (by omega) (by omega) H6.out.2.fr (.slice none 0 0) 4
        refine ⟨by simp, .inl ⟨_, _, rfl, run_takeDeferred p1, ?_⟩⟩
        refine ⟨.tuple #[.slice none 0 0, .int .i64 4], by simp [results, Tryz.f45, go_sem, p2, p3], ?_⟩
        unfold SmPost
        rw [HK.out.2.1, if_neg (by have := HK.out.2.2; omega), if_neg HJd.out]
        exact ⟨_, rfl, Own.nil _ _ _, fun k e => (by cases e), p5⟩
  case stop =>
    rintro D cc pre W hD ⟨k, hk, hpre⟩ ⟨rfl, hu, h⟩ hK
    rw [hpre] at hu h
    have hx1 := (rdXs_range xs ch F p k hk).1
    rw [hx1] at hu h
    have hst := rdGs_stop hu (halves ch) hk
    gi_wp2
    have k1 := kept_of_grown (grownBy_putObj' W D (.deferred none))
    have b0 := h.r0.kept k1 (fun e => h.r0.cells ⟨_, by injection e with e; exact e ▸ hK, rfl⟩)
    have b1 := h.r1.kept k1 (fun e => h.r1.cells ⟨_, by injection e with e; exact e ▸ hK, rfl⟩)
    have q2 := b0.cell 0
    have q3 := b1.cell 0
    simp only [List.getElem?_toArray, List.getElem?_cons_zero] at q2 q3
    refine ⟨by simp, .inl ⟨_, _, rfl, run_takeDeferred hK, ?_⟩⟩
    refine ⟨.tuple #[.slice none 0 0, .int .i64 (rdGs xs ch F p k).1], by simp [results, Tryz.f45, go_sem, q2, q3], ?_⟩
    have hsa : samA xs p (ch, bt, f, tt) = ((rdGs xs ch F p k).1, []) := by
      unfold samA
      rw [HFr.out.1, hst, if_pos hu]
    unfold SmPost
    rw [hsa]
    exact ⟨_, rfl, Own.nil _ _ _, fun k e => (by cases e), h.fr.trans k1 fun i hi e => by injection e with e; omega⟩

end Go.Proofs.YtodmchjdflpbpaaGreat
