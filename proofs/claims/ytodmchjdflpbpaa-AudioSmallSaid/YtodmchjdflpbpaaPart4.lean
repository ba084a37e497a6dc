/- Texts of this proof, one behind the other: TraMath, TraIn, TraC, TraQS, TraCS. -/
import Derived.Test.YtodmchjdflpbpaaPart2
import Derived.Test.YtodmchjdflpbpaaZeros
import Derived.Test.YtodmchjdflpbpaaHelpCom
import Derived.Deep.OwnRows
import Derived.Deep.RegionHeld3
import Derived.Deep.QuietTactic
import Derived.BigQuiet
import Derived.BigRegion
import Derived.Deep.DrawnRows
import Derived.Deep.CutRange
import Derived.Deep.RegionLaw
import Derived.Deep.AppendLies
import Derived.Laws.BitsAllLaws
import Derived.Test.YtodmchjdflpbpaaCut

/- Tracks, as plain mathematics: samples of bytes, tracks of bytes, bytes of tracks, middles and sides. -/
namespace Go.Proofs.Ytodmchjdflpbpaa
open Go.RowKit
set_option maxRecDepth 100000

/-- n numbers by their places. -/
def tn (n : Nat) (f : Nat → Int) : List Int := (List.range n).map f
theorem tn_length (n : Nat) (f : Nat → Int) : (tn n f).length = n := by simp [tn]
theorem tn_getD {n : Nat} {f : Nat → Int} {k : Nat} (h : k < n) : (tn n f).getD k 0 = f k := by simp [tn, h]
theorem tn_succ (n : Nat) (f : Nat → Int) : tn (n + 1) f = tn n f ++ [f n] := by
  unfold tn; rw [List.range_succ, List.map_append]; rfl
theorem tn_ext {n : Nat} {xs : List Int} {f : Nat → Int} (hl : xs.length = n) (h : ∀ i, i < n → xs.getD i 0 = f i) : xs = tn n f := by
  apply List.ext_getElem (by rw [hl, tn_length])
  intro i h1 h2
  have := h i (by omega)
  simp [List.getD, h1] at this
  simp [tn, this]

/-- Middle and side of a pair, and back. -/
def sdP (l r : Int) : Int := w32 (l - r)
def mdP (l r : Int) : Int := w32 (r + sdP l r / 2)
def rtP (m s : Int) : Int := w32 (m - s / 2)
def ltP (m s : Int) : Int := w32 (rtP m s + s)
theorem rt_md {l r : Int} (hr : -2147483648 ≤ r ∧ r < 2147483648) : rtP (mdP l r) (sdP l r) = r := by
  unfold rtP mdP
  generalize sdP l r / 2 = h
  unfold w32
  omega
theorem lt_md {l r : Int} (hl : -2147483648 ≤ l ∧ l < 2147483648) (hr : -2147483648 ≤ r ∧ r < 2147483648) : ltP (mdP l r) (sdP l r) = l := by
  unfold ltP
  rw [rt_md hr]
  unfold sdP w32
  omega
def mids (l r : List Int) : List Int := tn l.length fun i => mdP (l.getD i 0) (r.getD i 0)
def sids (l r : List Int) : List Int := tn l.length fun i => sdP (l.getD i 0) (r.getD i 0)
def lfts (m s : List Int) : List Int := tn m.length fun i => ltP (m.getD i 0) (s.getD i 0)
def rgts (m s : List Int) : List Int := tn m.length fun i => rtP (m.getD i 0) (s.getD i 0)
theorem lfts_mids {l r : List Int} (hl : I32 l) (hr : I32 r) : lfts (mids l r) (sids l r) = l := by
  refine (tn_ext (by rw [mids, tn_length]) fun i hi => ?_).symm
  rw [mids, tn_length] at hi
  rw [mids, sids, tn_getD hi, tn_getD hi, lt_md (hl.at_ i) (hr.at_ i)]
theorem rgts_mids {l r : List Int} (h : l.length = r.length) (hr : I32 r) : rgts (mids l r) (sids l r) = r := by
  refine (tn_ext (by rw [mids, tn_length]; exact h.symm) fun i hi => ?_).symm
  rw [mids, tn_length] at hi
  rw [mids, sids, tn_getD hi, tn_getD hi, rt_md (hr.at_ i)]
theorem I32.tn {n : Nat} {f : Nat → Int} (h : ∀ i, i < n → -2147483648 ≤ f i ∧ f i < 2147483648) : I32 (tn n f) := I32.of fun i hi => by
  rw [tn_length] at hi
  rw [tn_getD hi]
  exact h i hi

/-- May there be so many tracks of so many bits? -/
def fitT (n bt : Int) : Prop := 1 ≤ n ∧ n ≤ 8 ∧ (bt = 8 ∨ bt = 16)
instance (n bt : Int) : Decidable (fitT n bt) := by unfold fitT; infer_instance
/-- Bytes of a sample. -/
def wdT (bt : Int) : Nat := if bt = 8 then 1 else 2
/-- A number of 16 bits, with its sign. -/
def s16 (x : Int) : Int := (x + 32768) % 65536 - 32768
/-- The sample at byte p. -/
def smpT (bt : Int) (bs : List Int) (p : Nat) : Int := if bt = 8 then bs.getD p 0 - 128 else s16 (bs.getD p 0 + 256 * bs.getD (p + 1) 0)
/-- Track i of c. -/
def trkT (bt : Int) (bs : List Int) (c i : Nat) : List Int := tn (bs.length / (c * wdT bt)) fun j => smpT bt bs ((j * c + i) * wdT bt)
theorem trkT_length (bt : Int) (bs : List Int) (c i : Nat) : (trkT bt bs c i).length = bs.length / (c * wdT bt) := tn_length _ _
/-- The bytes of a sample. -/
def encT (bt v : Int) : List Int := if bt = 8 then [(v + 128) % 256] else [v % 256, (v / 256) % 256]
theorem encT_length (bt v : Int) : (encT bt v).length = wdT bt := by unfold encT wdT; split <;> rfl
/-- Is it a sample? -/
def mostT (bt : Int) : Int := if bt = 16 then 32767 else 127
def okT (bt v : Int) : Prop := -mostT bt - 1 ≤ v ∧ v ≤ mostT bt
instance (bt v : Int) : Decidable (okT bt v) := by unfold okT; infer_instance
/-- All tracks as long as the first one, all of samples. -/
def joinT (bt : Int) (n : Nat) (T : Nat → List Int) : Prop := ∀ k, k < n → (T k).length = (T 0).length ∧ ∀ j, j < (T k).length → okT bt ((T k).getD j 0)
/-- The bytes of frame j, its first k samples; of the first j frames. -/
def frmT (bt : Int) (T : Nat → List Int) (j : Nat) : Nat → List Int
  | 0 => []
  | k + 1 => frmT bt T j k ++ encT bt ((T k).getD j 0)
def bysT (bt : Int) (n : Nat) (T : Nat → List Int) : Nat → List Int
  | 0 => []
  | j + 1 => bysT bt n T j ++ frmT bt T j n
theorem frmT_length (bt : Int) (T : Nat → List Int) (j : Nat) : ∀ k, (frmT bt T j k).length = k * wdT bt
  | 0 => by simp [frmT]
  | k + 1 => by rw [frmT, List.length_append, frmT_length bt T j k, encT_length, Nat.succ_mul]
theorem bysT_length (bt : Int) (n : Nat) (T : Nat → List Int) : ∀ j, (bysT bt n T j).length = j * (n * wdT bt)
  | 0 => by simp [bysT]
  | j + 1 => by rw [bysT, List.length_append, bysT_length bt n T j, frmT_length, Nat.succ_mul]
theorem wdT_pos (bt : Int) : 0 < wdT bt ∧ wdT bt ≤ 2 := by unfold wdT; split <;> omega

/-- Bytes: from 0 to 255. -/
def B8 (bs : List Int) : Prop := ∀ x ∈ bs, 0 ≤ x ∧ x < 256
theorem B8.at_ {bs : List Int} (h : B8 bs) (i : Nat) : 0 ≤ bs.getD i 0 ∧ bs.getD i 0 < 256 := by
  simp only [List.getD]
  rcases Nat.lt_or_ge i bs.length with hi | hi
  · rw [List.getElem?_eq_getElem hi]; exact h _ (List.getElem_mem hi)
  · rw [List.getElem?_eq_none hi]; simp
theorem smpT_ok {bt : Int} {bs : List Int} (h : B8 bs) (hb : bt = 8 ∨ bt = 16) (p : Nat) : okT bt (smpT bt bs p) := by
  have h1 := h.at_ p
  have h2 := h.at_ (p + 1)
  unfold okT mostT smpT s16
  rcases hb with rfl | rfl
  · simp only [if_pos]; omega
  · simp only [if_pos, if_neg (show ¬ (16 : Int) = 8 by omega)]; omega
theorem okT_32 {bt v : Int} (h : okT bt v) : -2147483648 ≤ v ∧ v < 2147483648 := by
  unfold okT mostT at h
  split at h <;> omega
theorem take_two {bs : List Int} {p : Nat} (h : p + 2 ≤ bs.length) : (bs.drop p).take 2 = [bs.getD p 0, bs.getD (p + 1) 0] := by
  rw [List.drop_eq_getElem_cons (show p < bs.length by omega), List.drop_eq_getElem_cons (show p + 1 < bs.length by omega)]
  show [bs[p], bs[p + 1]] = _
  simp [List.getD, show p < bs.length by omega, show p + 1 < bs.length by omega]
theorem take_one {bs : List Int} {p : Nat} (h : p + 1 ≤ bs.length) : (bs.drop p).take 1 = [bs.getD p 0] := by
  rw [List.drop_eq_getElem_cons (show p < bs.length by omega)]
  show [bs[p]] = _
  simp [List.getD, show p < bs.length by omega]
/-- The bytes of the sample at p are those at p. -/
theorem enc_smp {bt : Int} {bs : List Int} (h : B8 bs) (hb : bt = 8 ∨ bt = 16) {p : Nat} (hp : p + wdT bt ≤ bs.length) : encT bt (smpT bt bs p) = (bs.drop p).take (wdT bt) := by
  have h1 := h.at_ p
  have h2 := h.at_ (p + 1)
  rcases hb with rfl | rfl
  · have e : wdT 8 = 1 := rfl
    rw [e] at hp ⊢
    rw [take_one hp]
    unfold encT smpT
    simp only [if_pos]
    congr 1
    omega
  · have e : wdT 16 = 2 := rfl
    rw [e] at hp ⊢
    rw [take_two hp]
    unfold encT smpT s16
    simp only [if_neg (show ¬ (16 : Int) = 8 by omega)]
    congr 1
    · omega
    · congr 1
      omega
theorem take_more {bs : List Int} (a b : Nat) : bs.take (a + b) = bs.take a ++ (bs.drop a).take b := by rw [List.take_add]
section
variable {bt : Int} {bs : List Int} (h : B8 bs) (hb : bt = 8 ∨ bt = 16) {c : Nat} (hm : bs.length % (c * wdT bt) = 0)
include hm in
theorem split_len : bs.length = bs.length / (c * wdT bt) * (c * wdT bt) := by
  have := Nat.div_add_mod bs.length (c * wdT bt)
  rw [hm, Nat.mul_comm] at this
  omega
include h hb hm in
theorem frm_split {j : Nat} (hj : j < bs.length / (c * wdT bt)) : ∀ k, k ≤ c → frmT bt (trkT bt bs c) j k = (bs.drop (j * (c * wdT bt))).take (k * wdT bt)
  | 0, _ => by simp [frmT]
  | k + 1, hk => by
    have hl := split_len hm
    have h1 : (j + 1) * (c * wdT bt) ≤ bs.length := by
      rw [hl]
      exact Nat.mul_le_mul_right _ hj
    have h2 : (j * c + k) * wdT bt + wdT bt ≤ bs.length := by
      refine Nat.le_trans ?_ h1
      rw [← Nat.succ_mul, ← Nat.mul_assoc]
      exact Nat.mul_le_mul_right _ (by rw [Nat.succ_mul]; omega)
    rw [frmT, frm_split hj k (by omega), trkT, tn_getD hj, enc_smp h hb h2, Nat.succ_mul, take_more, List.drop_drop]
    rw [show j * (c * wdT bt) + k * wdT bt = (j * c + k) * wdT bt by rw [Nat.add_mul, Nat.mul_assoc]]
include h hb hm in
theorem bys_split : ∀ j, j ≤ bs.length / (c * wdT bt) → bysT bt c (trkT bt bs c) j = bs.take (j * (c * wdT bt))
  | 0, _ => by simp [bysT]
  | j + 1, hj => by
    rw [bysT, bys_split j (by omega), frm_split h hb hm (by omega) c (Nat.le_refl _), Nat.succ_mul, take_more]
include h hb hm in
/-- What is split is joined. -/
theorem bys_trk : bysT bt c (trkT bt bs c) (bs.length / (c * wdT bt)) = bs := by
  rw [bys_split h hb hm _ (Nat.le_refl _), ← split_len hm, List.take_length]
include h hb in
theorem join_trk : joinT bt c (trkT bt bs c) := fun k _ => ⟨by rw [trkT_length, trkT_length], fun j hj => by
  rw [trkT_length] at hj
  rw [trkT, tn_getD hj]
  exact smpT_ok h hb _⟩
end

end Go.Proofs.Ytodmchjdflpbpaa

/- Lists of lists of numbers of 32 bits in memory: read (Trs), owned (Bag). -/
namespace Go.Proofs.Ytodmchjdflpbpaa
open Go.RowKit
set_option maxRecDepth 100000

theorem Try.infoTr : (Try.prog.info? 51).map (fun i => (i.zero, i.size, i.bytes)) = some (some (.slice none 0 0), 1, 24) := by kernel_rfl
theorem Try.infoTr4 : (Try.prog.info? 21).map (fun i => (i.zero, i.size, i.bytes)) = some (some (.int .i32 0), 1, 4) := by kernel_rfl
theorem Try.infoTr1 : (Try.prog.info? 5).map (fun i => (i.zero, i.size, i.bytes)) = some (some (.int .u8 0), 1, 1) := by kernel_rfl

/-- The slice of n slices at A reads as the lists T. -/
def Trs (w : World) (A : Option Addr) (n : Nat) (T : Nat → List Int) : Prop :=
  ∀ i, i < n → ∃ b o B m c, A = some ⟨b, o, none⟩ ∧ b < w.heap.size ∧ w.cell? ⟨b, o + i, none⟩ = some (.slice B m c) ∧ Row w .i32 B m (T i)
theorem Trs.fresh {w w' : World} {A : Option Addr} {n : Nat} {T : Nat → List Int} (h : Trs w A n T) (hf : Fresh w w') : Trs w' A n T := fun i hi => by
  obtain ⟨b, o, B, m, c, e, hb, hc, hr⟩ := h i hi
  exact ⟨b, o, B, m, c, e, Nat.lt_of_lt_of_le hb hf.size, (hf.cell (p := ⟨b, o + i, none⟩) hb id).trans hc, hr.fresh hf⟩
theorem Trs.nil (w : World) (A : Option Addr) (T : Nat → List Int) : Trs w A 0 T := fun _ hi => absurd hi (Nat.not_lt_zero _)
/-- .. opened at its first one. -/
theorem Trs.at_ {w : World} {A : Option Addr} {n : Nat} {T : Nat → List Int} (h : Trs w A n T) (hn : 0 < n) :
    ∃ b o, A = some ⟨b, o, none⟩ ∧ b < w.heap.size ∧ ∃ (D : Nat → Option Addr) (C : Nat → Nat), ∀ i, i < n → w.cell? ⟨b, o + i, none⟩ = some (.slice (D i) (T i).length (C i)) ∧ Row w .i32 (D i) (T i).length (T i) := by
  obtain ⟨b, o, _, _, _, rfl, hb, _, _⟩ := h 0 hn
  have hS : ∀ i, ∃ p : Option Addr × Nat, i < n → w.cell? ⟨b, o + i, none⟩ = some (.slice p.1 (T i).length p.2) ∧ Row w .i32 p.1 (T i).length (T i) := fun i => by
    by_cases hi : i < n
    · obtain ⟨b', o', B, m, c, e, _, hc, hr⟩ := h i hi
      injection e with e
      injection e with e1 e2
      subst e1
      subst e2
      obtain rfl := hr.len
      exact ⟨(B, c), fun _ => ⟨hc, hr⟩⟩
    · exact ⟨(none, 0), fun e => absurd e hi⟩
  obtain ⟨F, hF⟩ := Classical.axiomOfChoice hS
  exact ⟨b, o, rfl, hb, fun i => (F i).1, fun i => (F i).2, hF⟩

theorem OwnV.kept {S : Nat → Prop} {w w' : World} {v : Value} {e : TypeId} {m : Nat} {xs : List Value} (h : w.ownsRow 0 e 1 v m xs) (hk : Kept S w w') (hn : ∀ g, v.ownBlock = some g → ¬ S g) : w'.ownsRow 0 e 1 v m xs := by
  refine ⟨h.1, ?_⟩
  rcases h.2 with hn' | ⟨g, cap, cur, rfl, hb, hgg, rest⟩
  · exact .inl hn'
  · exact .inr ⟨g, cap, cur, rfl, hb, (hk.block g (Array.getElem?_eq_some_iff.1 hgg).1 (hn g rfl)).trans hgg, rest⟩

/-- The slice at the head of block g owns n slices, each of which owns its numbers, no two in one block; all lie behind block B. -/
structure Bag (w : World) (B g n cap : Nat) (V : Nat → Value) (T : Nat → List Int) : Prop where
  out : w.ownsRow 0 51 1 (.slice (some ⟨g, 0, none⟩) n cap) n ((List.range n).map V)
  row : ∀ i, i < n → Own w 21 .i32 (V i) (T i)
  inj : ∀ i j b, i < n → j < n → (V i).ownBlock = some b → (V j).ownBlock = some b → i = j
  lo : ∀ i b, i < n → (V i).ownBlock = some b → B ≤ b
  glo : B ≤ g

section
variable {w w' : World} {B g n cap : Nat} {V : Nat → Value} {T : Nat → List Int}
theorem Bag.apart (h : Bag w B g n cap V T) {i : Nat} (hi : i < n) : (V i).ownBlock ≠ some g := by
  obtain ⟨cur, hb, _⟩ := Blk.of_own h.out
  exact (h.row i hi).ne_blk hb (by decide)
theorem Bag.lt (h : Bag w B g n cap V T) : g < w.heap.size := by
  obtain ⟨cur, hb, _⟩ := Blk.of_own h.out
  exact hb.lt
theorem Bag.kept {S : Nat → Prop} (h : Bag w B g n cap V T) (hk : Kept S w w') (hg : ¬ S g) (hv : ∀ i b, i < n → (V i).ownBlock = some b → ¬ S b) : Bag w' B g n cap V T :=
  ⟨OwnV.kept h.out hk (fun k e => by have : g = k := by simpa [Value.ownBlock] using e
                                     subst this; exact hg), fun i hi => (h.row i hi).kept hk (fun b e => hv i b hi e), h.inj, h.lo, h.glo⟩
theorem Bag.fresh (h : Bag w B g n cap V T) (hk : Fresh w w') : Bag w' B g n cap V T := h.kept hk id (fun _ _ _ _ => id)
theorem Bag.slot (h : Bag w B g n cap V T) {i : Nat} (hi : i < n) : w.cell? ⟨g, i, none⟩ = some (V i) := by
  rw [World.ownsRow.cellAt h.out i (by omega)]
  simp [hi]
theorem Bag.frozen (h : Bag w B g n cap V T) (i : Nat) : w.frozen? ⟨g, i, none⟩ = false := World.ownsRow.frozenAt h.out i
/-- One of the lists is put anew. -/
theorem Bag.put {i : Nat} {v : Value} {xs : List Int} (h : Bag w B g n cap V T) (hi : i < n) (hk : Kept (fun k => (V i).ownBlock = some k) w w') (ho : Own w' 21 .i32 v xs)
    (hat : v.ownBlock = (V i).ownBlock ∨ ∃ b, v.ownBlock = some b ∧ w.heap.size ≤ b) (hB : B ≤ w.heap.size) :
    Bag (w'.setCell ⟨g, i, none⟩ v) B g n cap (fun j => if j = i then v else V j) (fun j => if j = i then xs else T j) := by
  have h1 := OwnV.kept h.out hk (fun k e e2 => by
    have : g = k := by simpa [Value.ownBlock] using e
    subst this
    exact h.apart hi e2)
  have hgl := h.lt
  have hkg : Kept (fun k => k = g) w' (w'.setCell ⟨g, i, none⟩ v) := (Kept.refl (fun k => k = g) w').setCell (p := ⟨g, i, none⟩) (fun _ => rfl) _
  have hvg : v.ownBlock ≠ some g := fun e => by
    rcases hat with e2 | ⟨b, e2, e3⟩
    · exact h.apart hi (e2 ▸ e)
    · rw [e2] at e
      injection e with e
      omega
  refine ⟨?_, fun j hj => ?_, fun j k b hj hk' e1 e2 => ?_, fun j b hj e => ?_, h.glo⟩
  · have h2 := (World.ownsRow.stored h1 i v).1
    have e : ((List.range n).map V).set i v = (List.range n).map (fun j => if j = i then v else V j) := by
      apply List.ext_getElem (by simp)
      intro k k1 k2
      simp only [List.getElem_set, List.getElem_map, List.getElem_range]
      by_cases hki : i = k
      · simp [hki]
      · have : ¬ k = i := fun e => hki e.symm
        simp [hki, this]
    rw [e] at h2
    exact h2
  · by_cases hji : j = i
    · simp only [if_pos hji]
      exact ho.kept hkg (fun b e e2 => hvg (e2 ▸ e))
    · simp only [if_neg hji]
      exact ((h.row j hj).kept hk (fun b e e2 => hji (h.inj j i b hj hi e e2))).kept hkg (fun b e e2 => h.apart hj (e2 ▸ e))
  · have far : ∀ j, j < n → ¬ j = i → ∀ b, (V j).ownBlock = some b → v.ownBlock = some b → False := fun j hj hji b e1 e2 => by
      rcases hat with e3 | ⟨b', e3, e4⟩
      · exact hji (h.inj j i b hj hi e1 (e3 ▸ e2))
      · have := (h.row j hj).lt e1
        rw [e3] at e2
        injection e2 with e2
        omega
    by_cases hji : j = i
    · by_cases hki : k = i
      · omega
      · simp only [if_pos hji, if_neg hki] at e1 e2
        exact (far k hk' hki b e2 e1).elim
    · by_cases hki : k = i
      · simp only [if_neg hji, if_pos hki] at e1 e2
        exact (far j hj hji b e1 e2).elim
      · simp only [if_neg hji, if_neg hki] at e1 e2
        exact h.inj j k b hj hk' e1 e2
  · by_cases hji : j = i
    · simp only [if_pos hji] at e
      rcases hat with e3 | ⟨b', e3, e4⟩
      · exact h.lo i b hi (e3 ▸ e)
      · rw [e3] at e
        injection e with e
        omega
    · simp only [if_neg hji] at e
      exact h.lo j b hj e
/-- One number of one list. -/
theorem Bag.write {i j q m c : Nat} (h : Bag w B g n cap V T) (hi : i < n) (hv : V i = .slice (some ⟨q, 0, none⟩) m c) (hl : (T i).length = m) (x : Int) :
    Bag (w.setCell ⟨q, j, none⟩ (.int .i32 x)) B g n cap V (fun k => if k = i then (T i).set j x else T k) := by
  have hq : (V i).ownBlock = some q := by rw [hv]; rfl
  have hkq : Kept (fun k => k = q) w (w.setCell ⟨q, j, none⟩ (.int .i32 x)) := (Kept.refl (fun k => k = q) w).setCell (p := ⟨q, j, none⟩) (fun _ => rfl) _
  refine ⟨OwnV.kept h.out hkq (fun k e e2 => by
    have : g = k := by simpa [Value.ownBlock] using e
    subst this
    exact h.apart hi (by rw [hq, e2])), fun k hk => ?_, h.inj, h.lo, h.glo⟩
  by_cases hki : k = i
  · simp only [if_pos hki]
    subst hki
    have := h.row k hk
    rw [hv] at this ⊢
    exact this.storeN hl j x
  · simp only [if_neg hki]
    exact (h.row k hk).kept hkq (fun b e e2 => hki (h.inj k i b hk hi e (by rw [hq, e2])))
theorem Bag.cell {i j q m c : Nat} (h : Bag w B g n cap V T) (hi : i < n) (hv : V i = .slice (some ⟨q, 0, none⟩) m c) (hl : (T i).length = m) (hj : j < m) : w.cell? ⟨q, j, none⟩ = some (.int .i32 ((T i).getD j 0)) ∧ w.frozen? ⟨q, j, none⟩ = false := by
  have := h.row i hi
  rw [hv] at this
  exact ⟨this.cellN hl hj, this.frozenN hl j⟩
/-- It reads as its lists. -/
theorem Bag.trs (h : Bag w B g n cap V T) : Trs w (some ⟨g, 0, none⟩) n T := fun i hi => by
  obtain ⟨A, c, e, hr, _⟩ := (h.row i hi).row
  exact ⟨g, 0, A, (T i).length, c, rfl, h.lt, by rw [Nat.zero_add, h.slot hi, e], hr⟩
theorem Bag.congr {T' : Nat → List Int} (h : Bag w B g n cap V T) (e : ∀ i, i < n → T i = T' i) : Bag w B g n cap V T' := ⟨h.out, fun i hi => e i hi ▸ h.row i hi, h.inj, h.lo, h.glo⟩
end

theorem made_nils (n : Nat) : (madeCells (Value.slice none 0 0).cells (n * 1)).toList = (List.range n).map fun _ => Value.slice none 0 0 := by
  rw [Nat.mul_one, show (Value.slice none 0 0).cells = #[Value.slice none 0 0] from rfl]
  simp only [madeCells]
  apply List.ext_getElem <;> simp [Nat.mod_one]

/-- make of a list of lists. -/
theorem wpList_make_bag (w : World) {ops : Array Oper} {rest : List Oper} {o : Oper} {a : Act} {Q : Exit → Act → World → Prop}
    (hg : o.guard = none) (l c : Operand) (hop : o.op = Op.makeSlice 38 l c) (kl kc : IntKind) (L C : Int) (n : Nat) (hl : a.eval l = .int kl L) (hc : a.eval c = .int kc C) (hL : L = (n : Int)) (hC : C = (n : Int)) (hn : n ≤ 1000000)
    (hK : ∀ w', Bag w' w.heap.size w.heap.size n n (fun _ => .slice none 0 0) (fun _ => []) → Fresh w w' → wpList Try.prog ops Q rest (a.put o.dst (.slice (some ⟨w.heap.size, 0, none⟩) n n)) w') :
    wpList Try.prog ops Q (o :: rest) a w := by
  obtain ⟨i0, hi, hz0, hz1, hz2⟩ := info_parts Try.infoTr
  refine wpList_make_full w hg l c _ hop 0 51 i0 (.slice none 0 0) 1 Try.underlying38 hi hz0 hz1 kl kc L C n hl hc hL hC (by rw [hz2]; omega) (by unfold maxLen; omega) (by omega) ?_
  intro w' ho hgr
  rw [made_nils] at ho
  refine hK w' ⟨ho, fun i _ => Own.nil _ _ _, fun i j b _ _ e _ => (by cases e), fun i b _ e => (by cases e), Nat.le_refl _⟩ ((Kept.refl _ _).grown hgr (fun k e _ => by cases e))

end Go.Proofs.Ytodmchjdflpbpaa

/- The code's middle, sides, pairs, Mid, Unmid. -/
namespace Go.Proofs.Ytodmchjdflpbpaa
open Go.RowKit
set_option maxRecDepth 100000

attribute [local go_sem ↓] Go.wp_at_zero Go.wp_at_succ

/-- Two new lists are told, in two blocks. -/
def Two (w w' : World) (e : Ending) (xs ys : List Int) : Prop := ∃ u v, e = .returned (.tuple #[u, v, .int .i64 0]) ∧ NewRow w w' 21 .i32 u xs ∧ NewRow w w' 21 .i32 v ys ∧ ∀ g, u.ownBlock = some g → v.ownBlock ≠ some g
/-- .. or none. -/
def TwoNo (w w' : World) (e : Ending) : Prop := e = .returned (.tuple #[.slice none 0 0, .slice none 0 0, .int .i64 1]) ∧ Fresh w w'

theorem Own.of_blk {w : World} {e : TypeId} {k : IntKind} {g n : Nat} {xs : List Int} (h : Blk w g e (ivs k xs).toArray) (hn : xs.length = n) (hm : n ≤ maxLen) : Own w e k (.slice (some ⟨g, 0, none⟩) n n) xs :=
  ⟨by rw [ivs_length, Nat.mul_one], .inr ⟨g, n, (ivs k xs).toArray, by rw [hn], Nat.zero_le _, h, by omega, hm, by simp [ivs_length, hn], by rw [Nat.mul_one, List.take_of_length_le (by simp [ivs_length, hn])]⟩⟩
theorem zeros_cells (k : IntKind) (n : Nat) : madeCells #[Value.int k 0] n = (ivs k (List.replicate n 0)).toArray := by
  apply Array.ext'
  rw [made_zeros]

theorem ret_two {a b c d : Int} (h1 : a = c) (h2 : b = d) : Ending.returned (.tuple #[.int .i32 a, .int .i32 b]) = .returned (.tuple #[.int .i32 c, .int .i32 d]) := by rw [h1, h2]
theorem w32_wrapC (x : Int) : wrap32 x = w32 x := by unfold w32 wrap32; rfl

set_option maxHeartbeats 800000 in
theorem cMiddle_any (l r : Int) (w : World) :
    Calls Try.prog 36 #[.int .i32 l, .int .i32 r] w fun e w' => e = .returned (.tuple #[.int .i32 (mdP l r), .int .i32 (sdP l r)]) ∧ w' = w := by
  go_enter Try.func36, Try.ntmps36
  go_wp2_with fail
  go_ret2
  exact ⟨ret_two (by unfold mdP sdP; rw [← w32_wrapC, ← w32_wrapC]) (by unfold sdP; rw [← w32_wrapC]), rfl⟩


set_option maxHeartbeats 3200000 in
theorem cPairsMid_any (A B : Option Addr) (n c d : Nat) (l r : List Int) (w : World) (ha : Row w .i32 A n l) (hb : Row w .i32 B n r) (h1 : I32 l) (h2 : I32 r) (hn : n ≤ 1048576) :
    Calls Try.prog 35 #[.slice A n c, .slice B n d, .func (.func 36) #[] #[]] w fun e w' => Two w w' e (tn n fun i => mdP (l.getD i 0) (r.getD i 0)) (tn n fun i => sdP (l.getD i 0) (r.getD i 0)) := by
  have hmk := run_make_row' (P := Try.prog) 51 21 (.int .i32 0) 4 Try.underlying51 Try.infoTr4 rfl .i64 .i64 n (by omega) (by omega)
  have hself : ((n : Int) != (n : Int)) = false := by simp
  have HR : Hid (∀ V, Fresh w V → Row V .i32 A n l ∧ Row V .i32 B n r) := Lib.hid fun V hV => ⟨ha.kept hV (fun _ _ _ _ => id), hb.kept hV (fun _ _ _ _ => id)⟩
  have H32 := Lib.hid (And.intro h1 h2)
  have hm : (n : Int) ≤ 1048576 := by omega
  clear ha hb h1 h2
  go_enter Try.func35, Try.ntmps35
  go_wp2_with fail
  go_cut [9, 10] from 12 (fun a b wx => ∃ p q, a = .slice (some ⟨p, 0, none⟩) n n ∧ b = .slice (some ⟨q, 0, none⟩) n n ∧ p ≠ q ∧ w.heap.size ≤ p ∧ w.heap.size ≤ q ∧ Own wx 21 .i32 (.slice (some ⟨p, 0, none⟩) n n) (List.replicate n 0) ∧ Own wx 21 .i32 (.slice (some ⟨q, 0, none⟩) n n) (List.replicate n 0) ∧ Fresh w wx)
  case first =>
    have hb1 : Blk ((w.alloc (.cells (madeCells #[.int .i32 0] n) 21)).alloc (.cells (madeCells #[.int .i32 0] n) 21)) w.heap.size 21 (ivs .i32 (List.replicate n 0)).toArray := by
      rw [zeros_cells]
      exact (Blk.new _ _ _).alloc _
    have hb2 : Blk ((w.alloc (.cells (madeCells #[.int .i32 0] n) 21)).alloc (.cells (madeCells #[.int .i32 0] n) 21)) (w.heap.size + 1) 21 (ivs .i32 (List.replicate n 0)).toArray := by
      rw [zeros_cells]
      have := Blk.new (w.alloc (.cells (ivs .i32 (List.replicate n 0)).toArray 21)) 21 (ivs .i32 (List.replicate n 0)).toArray
      rw [World.size_alloc] at this
      exact this
    have hf : Fresh w ((w.alloc (.cells (madeCells #[.int .i32 0] n) 21)).alloc (.cells (madeCells #[.int .i32 0] n) 21)) := ((Kept.refl _ _).alloc _).alloc _
    have HB := Lib.hid (And.intro (Own.of_blk hb1 (List.length_replicate ..) (by unfold maxLen; omega)) (And.intro (Own.of_blk hb2 (List.length_replicate ..) (by unfold maxLen; omega)) hf))
    clear hb1 hb2 hf
    go_region
    · go_wp2_with fail
      go_meet
      exact ⟨_, _, rfl, rfl, by omega, by omega, by omega, HB.out.1, HB.out.2.1, HB.out.2.2.drew⟩
    · go_wp2_with fail
      go_meet
      exact ⟨_, _, rfl, rfl, by omega, by omega, by omega, HB.out.2.1, HB.out.1, HB.out.2.2.drew⟩
  case rest =>
    obtain ⟨p, q, rfl, rfl, hpq, hp, hq, ho, hs, hf⟩ := hcut
    have H0 := Lib.hid (And.intro ho (And.intro hs hf))
    clear ho hs hf hmk
    go_wp2_with fail
    go_loopw [25] (fun i wr => ∃ j : Nat, j ≤ n ∧ i = .int .i64 j ∧ Own wr 21 .i32 (.slice (some ⟨p, 0, none⟩) n n) (tn j (fun i => mdP (l.getD i 0) (r.getD i 0)) ++ List.replicate (n - j) 0) ∧ Own wr 21 .i32 (.slice (some ⟨q, 0, none⟩) n n) (tn j (fun i => sdP (l.getD i 0) (r.getD i 0)) ++ List.replicate (n - j) 0) ∧ Fresh w wr) (fun i _ => (n - intOf i).toNat)
    case atStart => exact ⟨0, by omega, rfl, H0.out.1, H0.out.2.1, H0.out.2.2⟩
    case round =>
      obtain ⟨j, hj, rfl, ho, hs, hf⟩ := hrel
      clear H0
      by_cases hlt : j < n
      · obtain ⟨b1, o1, rfl, hw1, _⟩ := (HR.out w (Kept.refl _ _)).1.at_ j hlt
        obtain ⟨b2, o2, rfl, hw2, _⟩ := (HR.out w (Kept.refl _ _)).2.at_ j hlt
        obtain ⟨b1', o1', e', hb1, hc1⟩ := (HR.out wr hf).1.at_ j hlt
        injection e' with e'
        injection e' with e1 e2
        subst e1 e2
        obtain ⟨b2', o2', e', hb2, hc2⟩ := (HR.out wr hf).2.at_ j hlt
        injection e' with e'
        injection e' with e1 e2
        subst e1 e2
        have lp : (tn j (fun i => mdP (l.getD i 0) (r.getD i 0)) ++ List.replicate (n - j) 0).length = n := by rw [List.length_append, tn_length, List.length_replicate]; omega
        have lq : (tn j (fun i => sdP (l.getD i 0) (r.getD i 0)) ++ List.replicate (n - j) 0).length = n := by rw [List.length_append, tn_length, List.length_replicate]; omega
        have cp := ho.cellN lp hlt
        have fp := ho.frozenN lp j
        have cq := hs.cellN lq hlt
        have fq := hs.frozenN lq j
        have sp := (ho.storeN lp j (mdP (l.getD j 0) (r.getD j 0))).setFar (p := ⟨q, j, none⟩) (fun e => hpq (by simpa [Value.ownBlock] using e)) (.int .i32 (sdP (l.getD j 0) (r.getD j 0)))
        have sq := (hs.setFar (p := ⟨p, j, none⟩) (fun e => hpq (by simpa [Value.ownBlock] using e.symm)) (.int .i32 (mdP (l.getD j 0) (r.getD j 0)))).storeN lq j (sdP (l.getD j 0) (r.getD j 0))
        have sf : Fresh w ((wr.setCell ⟨p, j, none⟩ (.int .i32 (mdP (l.getD j 0) (r.getD j 0)))).setCell ⟨q, j, none⟩ (.int .i32 (sdP (l.getD j 0) (r.getD j 0)))) := (hf.setCell (p := ⟨p, j, none⟩) (fun h => absurd h (by simp only; omega)) _).setCell (p := ⟨q, j, none⟩) (fun h => absurd h (by simp only; omega)) _
        rw [set_next _ _ _ _ (tn_length _ _) hlt, ← tn_succ j (fun i => mdP (l.getD i 0) (r.getD i 0))] at sp
        rw [set_next _ _ _ _ (tn_length _ _) hlt, ← tn_succ j (fun i => sdP (l.getD i 0) (r.getD i 0))] at sq
        have HC : Hid (∀ V, Calls Try.prog 36 #[.int .i32 (l.getD j 0), .int .i32 (r.getD j 0)] V fun e w' => e = .returned (.tuple #[.int .i32 (mdP (l.getD j 0) (r.getD j 0)), .int .i32 (sdP (l.getD j 0) (r.getD j 0))]) ∧ w' = V) := Lib.hid fun V => cMiddle_any _ _ V
        have HS := Lib.hid (And.intro sp (And.intro sq sf.drew))
        have j0 : (j : Int) < (n : Int) := by omega
        have far : ∀ (V : World) (g b o : Nat) (u : Value), g ≠ b → (V.setCell ⟨g, j, none⟩ u).cell? ⟨b, o, none⟩ = V.cell? ⟨b, o, none⟩ := fun V g b o u h => World.cell?_of_block (Below.heap_setCell V ⟨g, j, none⟩ u b h.symm)
        have HF := Lib.hid far
        clear ho hs sp sq lp lq hf far sf
        generalize mdP (l.getD j 0) (r.getD j 0) = u1 at *
        generalize sdP (l.getD j 0) (r.getD j 0) = u2 at *
        generalize l.getD j 0 = x1 at *
        generalize r.getD j 0 = x2 at *
        have d1 : (wr.setCell ⟨p, j, none⟩ (.int .i32 u1)).cell? ⟨b1, o1 + j, none⟩ = some (.int .i32 x1) := (HF.out _ _ _ _ _ (by omega)).trans hc1
        have d2 : (wr.setCell ⟨p, j, none⟩ (.int .i32 u1)).cell? ⟨b2, o2 + j, none⟩ = some (.int .i32 x2) := (HF.out _ _ _ _ _ (by omega)).trans hc2
        have e1 : (wr.setCell ⟨q, j, none⟩ (.int .i32 u2)).cell? ⟨b1, o1 + j, none⟩ = some (.int .i32 x1) := (HF.out _ _ _ _ _ (by omega)).trans hc1
        have e2 : (wr.setCell ⟨q, j, none⟩ (.int .i32 u2)).cell? ⟨b2, o2 + j, none⟩ = some (.int .i32 x2) := (HF.out _ _ _ _ _ (by omega)).trans hc2
        have g1 : ((wr.setCell ⟨p, j, none⟩ (.int .i32 u1)).setCell ⟨q, j, none⟩ (.int .i32 u2)).cell? ⟨b1, o1 + j, none⟩ = some (.int .i32 x1) := (HF.out _ _ _ _ _ (by omega)).trans d1
        have g2 : ((wr.setCell ⟨p, j, none⟩ (.int .i32 u1)).setCell ⟨q, j, none⟩ (.int .i32 u2)).cell? ⟨b2, o2 + j, none⟩ = some (.int .i32 x2) := (HF.out _ _ _ _ _ (by omega)).trans d2
        go_wp2_with fail
        go_region_held3 (fun V => V.cell? ⟨b1, o1 + j, none⟩ = some (.int .i32 x1) ∧ V.cell? ⟨b2, o2 + j, none⟩ = some (.int .i32 x2)) (first | go_keep | exact ⟨d1, d2⟩ | exact ⟨g1, g2⟩ | exact ⟨e1, e2⟩)
          (first
            | (go_at_call 36; refine (HC.out _).mono ?_; rintro e2 w2 ⟨rfl, rfl⟩))
        clear d1 d2 e1 e2 g1 g2 cp fp cq fq hc1 hc2
        go_wp2_with fail
        go_roundw
        case rel => exact ⟨j + 1, by omega, by go_num, HS.out.1, HS.out.2.1, HS.out.2.2⟩
        case measure => simp [intOf]; omega
      · obtain rfl : j = n := by omega
        rw [Nat.sub_self, List.replicate_zero, List.append_nil] at ho hs
        have HE := Lib.hid (And.intro ho (And.intro hs hf))
        clear ho hs hf
        go_wp2_with fail
        go_ret3
        exact ⟨_, _, rfl, ⟨HE.out.1, fun m e => by
          have e' : p = m := by simpa [Value.ownBlock] using e
          omega, HE.out.2.2⟩, ⟨HE.out.2.1, fun m e => by
          have e' : q = m := by simpa [Value.ownBlock] using e
          omega, HE.out.2.2⟩, fun m e e2 => hpq (by
          have e' : p = m := by simpa [Value.ownBlock] using e
          have e3 : q = m := by simpa [Value.ownBlock] using e2
          omega)⟩


set_option maxHeartbeats 800000 in
theorem cPairsNo_any (f : Nat) (A B : Option Addr) (n m c d : Nat) (w : World) (hn : n ≠ m) :
    Calls Try.prog 35 #[.slice A n c, .slice B m d, .func (.func f) #[] #[]] w fun e w' => TwoNo w w' e := by
  have hb : ((n : Int) != (m : Int)) = true := by simp; omega
  go_enter Try.func35, Try.ntmps35
  go_wp2_with fail
  go_ret3
  exact ⟨rfl, Kept.refl _ _⟩

set_option maxHeartbeats 800000 in
theorem cMid_any (A B : Option Addr) (n c d : Nat) (l r : List Int) (w : World) (ha : Row w .i32 A n l) (hb : Row w .i32 B n r) (h1 : I32 l) (h2 : I32 r) (hn : n ≤ 1048576) :
    Calls Try.prog 27 #[.slice A n c, .slice B n d] w fun e w' => Two w w' e (tn n fun i => mdP (l.getD i 0) (r.getD i 0)) (tn n fun i => sdP (l.getD i 0) (r.getD i 0)) := by
  have HC := Lib.hid (cPairsMid_any A B n c d l r w ha hb h1 h2 hn)
  clear ha hb h1 h2
  go_enter Try.func27, Try.ntmps27
  go_wp2_with fail
  refine HC.out.mono ?_
  rintro e w' ⟨u, v, rfl, h⟩
  have H := Lib.hid h
  clear h HC
  go_wp2_with fail
  go_ret3
  exact ⟨u, v, rfl, H.out⟩

set_option maxHeartbeats 800000 in
theorem cMidNo_any (A B : Option Addr) (n m c d : Nat) (w : World) (hn : n ≠ m) :
    Calls Try.prog 27 #[.slice A n c, .slice B m d] w fun e w' => TwoNo w w' e := by
  have HC := Lib.hid (cPairsNo_any 36 A B n m c d w hn)
  go_enter Try.func27, Try.ntmps27
  go_wp2_with fail
  refine HC.out.mono ?_
  rintro e w' ⟨rfl, h⟩
  have H := Lib.hid h
  clear h HC
  go_wp2_with fail
  go_ret3
  exact ⟨rfl, H.out⟩



end Go.Proofs.Ytodmchjdflpbpaa

/- The document's Split. -/
namespace Go.Proofs.Ytodmchjdflpbpaa
open Go.RowKit
set_option maxRecDepth 100000

attribute [local go_sem ↓] Go.wp_at_zero Go.wp_at_succ

/-- The tracks are told, as lists of the call's own. -/
def SplT (w w' : World) (e : Ending) (bt : Int) (bs : List Int) (c : Nat) : Prop :=
  ∃ g cap V, e = .returned (.tuple #[.slice (some ⟨g, 0, none⟩) c cap, .int .i64 0]) ∧ Bag w' w.heap.size g c cap V (trkT bt bs c) ∧ Fresh w w'
/-- .. or none. -/
def SplNo (w w' : World) (e : Ending) (k : Int) : Prop := e = .returned (.tuple #[.slice none 0 0, .int .i64 k]) ∧ Fresh w w'

theorem or16 {x1 x2 : Int} (h1 : 0 ≤ x1 ∧ x1 < 256) (h2 : 0 ≤ x2 ∧ x2 < 256) : bits .or .u16 x1 (x2 * 256) = x1 + 256 * x2 := by
  rw [u16_or _ _ (by omega) (by omega) (by omega) (by omega)]
  have e := Nat.shiftLeft_add_eq_or_of_lt (b := x1.toNat) (i := 8) (by omega) x2.toNat
  rw [Nat.shiftLeft_eq] at e
  rw [show (x2 * 256).toNat = x2.toNat * 2 ^ 8 by omega, Nat.or_comm, ← e]
  omega
theorem wrap_i16T (n : Int) : IntKind.i16.wrap n = s16 n := by unfold s16; simp [IntKind.wrap, IntKind.bits, IntKind.signed]; split <;> omega
theorem smp16 {x1 x2 : Int} (h1 : 0 ≤ x1 ∧ x1 < 256) (h2 : 0 ≤ x2 ∧ x2 < 256) : wrap32 (IntKind.i16.wrap (bits .or .u16 x1 (x2 * 256))) = s16 (x1 + 256 * x2) := by
  rw [or16 h1 h2, w32_wrapC, wrap_i16T]
  unfold w32 s16
  omega
theorem Own.sz {w : World} {e : TypeId} {k : IntKind} {v : Value} {xs : List Int} {n : Nat} (h : Own w e k v xs) (hn : xs.length = n) : w.ownsRow 0 e 1 v n (ivs k xs) := by
  subst hn
  exact h

theorem div_mod_of {s c q k : Nat} (h : s = q * c + k) (hk : k < c) : s / c = q ∧ s % c = k := by
  subst h
  refine ⟨?_, ?_⟩
  · rw [Nat.mul_comm, Nat.mul_add_div (by omega), Nat.div_eq_of_lt hk, Nat.add_zero]
  · rw [Nat.mul_comm, Nat.mul_add_mod, Nat.mod_eq_of_lt hk]
/-- How many of the first s samples are track i's. -/
def cntT (c s i : Nat) : Nat := s / c + if i < s % c then 1 else 0
theorem cntT_step {c s : Nat} (hc : 0 < c) (i : Nat) (hi : i < c) : cntT c (s + 1) i = if i = s % c then s / c + 1 else cntT c s i := by
  have h := Nat.div_add_mod s c
  have hk := Nat.mod_lt s hc
  rw [Nat.mul_comm] at h
  generalize s / c = q at *
  generalize hk' : s % c = k at *
  have h1 := div_mod_of h.symm hk
  unfold cntT
  by_cases hl : k + 1 < c
  · have h2 := div_mod_of (s := s + 1) (c := c) (q := q) (k := k + 1) (by omega) hl
    rw [h2.1, h2.2, h1.1, h1.2]
    split <;> (try split) <;> (try split) <;> omega
  · have h2 := div_mod_of (s := s + 1) (c := c) (q := q + 1) (k := 0) (by rw [Nat.add_mul, Nat.one_mul]; omega) (by omega)
    rw [h2.1, h2.2, h1.1, h1.2]
    split <;> (try split) <;> (try split) <;> omega
theorem cntT_at {c s : Nat} : cntT c s (s % c) = s / c := by unfold cntT; rw [if_neg (by omega)]; rfl
/-- The tracks behind s samples. -/
def sofT (bt : Int) (bs : List Int) (c s i : Nat) : List Int := tn (cntT c s i) fun j => smpT bt bs ((j * c + i) * wdT bt)
theorem sofT_step {bt : Int} {bs : List Int} {c s : Nat} (hc : 0 < c) (i : Nat) (hi : i < c) : (if i = s % c then sofT bt bs c s (s % c) ++ [smpT bt bs (s * wdT bt)] else sofT bt bs c s i) = sofT bt bs c (s + 1) i := by
  unfold sofT
  rw [cntT_step hc i hi]
  by_cases h : i = s % c
  · rw [if_pos h, if_pos h, h, cntT_at, tn_succ]
    have := Nat.div_add_mod s c
    rw [Nat.mul_comm] at this
    rw [this]
  · rw [if_neg h, if_neg h]
theorem sofT_end {bt : Int} {bs : List Int} {c : Nat} (hc : 0 < c) (hm : bs.length % (c * wdT bt) = 0) (i : Nat) : sofT bt bs c (bs.length / wdT bt) i = trkT bt bs c i := by
  unfold sofT trkT
  have hw := (wdT_pos bt).1
  have h := split_len hm
  have h1 : bs.length / wdT bt = bs.length / (c * wdT bt) * c + 0 := by
    conv => lhs; rw [h]
    rw [← Nat.mul_assoc, Nat.mul_div_cancel _ hw, Nat.add_zero]
  have h2 := div_mod_of h1 hc
  unfold cntT
  rw [h2.1, h2.2, if_neg (Nat.not_lt_zero _), Nat.add_zero]
theorem sofT_zero (bt : Int) (bs : List Int) (c i : Nat) : sofT bt bs c 0 i = [] := by
  unfold sofT cntT
  simp [tn]
theorem sofT_length (bt : Int) (bs : List Int) (c s : Nat) : (sofT bt bs c s (s % c)).length = s / c := by rw [sofT, tn_length, cntT_at]






end Go.Proofs.Ytodmchjdflpbpaa

/- The code's fits, sample, Split. -/
namespace Go.Proofs.Ytodmchjdflpbpaa
open Go.RowKit
set_option maxRecDepth 100000

attribute [local go_sem ↓] Go.wp_at_zero Go.wp_at_succ

set_option maxHeartbeats 1600000 in
theorem cFits_any (n bt : Int) (w : World) : Calls Try.prog 21 #[.int .i64 n, .int .i64 bt] w fun e w' => e = .returned (.bool (decide (fitT n bt))) ∧ w' = w := by
  by_cases h1 : 1 ≤ n
  · by_cases h2 : n ≤ 8
    · by_cases h3 : bt = 8
      · subst h3
        have hd : decide (fitT n 8) = true := decide_eq_true ⟨h1, h2, .inl rfl⟩
        rw [hd]
        clear hd
        go_enter Try.func21, Try.ntmps21
        go_wp2_with fail
        go_ret
        exact ⟨rfl, rfl⟩
      · by_cases h4 : bt = 16
        · subst h4
          have hd : decide (fitT n 16) = true := decide_eq_true ⟨h1, h2, .inr rfl⟩
          rw [hd]
          clear hd h3
          go_enter Try.func21, Try.ntmps21
          go_wp2_with fail
          go_ret
          exact ⟨rfl, rfl⟩
        · have hd : decide (fitT n bt) = false := decide_eq_false (fun h => h.2.2.elim h3 h4)
          rw [hd]
          have e3 : (bt == 8) = false := by simpa using h3
          have e4 : (bt == 16) = false := by simpa using h4
          clear hd h3 h4
          go_enter Try.func21, Try.ntmps21
          go_wp2_with fail
          go_ret
          exact ⟨rfl, rfl⟩
    · have hd : decide (fitT n bt) = false := decide_eq_false (fun h => h2 h.2.1)
      rw [hd]
      clear hd
      go_enter Try.func21, Try.ntmps21
      go_wp2_with fail
      go_ret
      exact ⟨rfl, rfl⟩
  · have hd : decide (fitT n bt) = false := decide_eq_false (fun h => h1 h.1)
    rw [hd]
    clear hd
    go_enter Try.func21, Try.ntmps21
    go_wp2_with fail
    go_ret
    exact ⟨rfl, rfl⟩

theorem idx_in {f c wd j k n : Nat} (hn : n = f * (c * wd)) (hj : j < f) (hk : k < c) : j * (c * wd) + k * wd + wd ≤ n := by
  have h1 : (k + 1) * wd ≤ c * wd := Nat.mul_le_mul_right _ hk
  have h2 : (j + 1) * (c * wd) ≤ f * (c * wd) := Nat.mul_le_mul_right _ hj
  rw [Nat.add_mul, Nat.one_mul] at h1 h2
  omega
theorem B8.cut {bs : List Int} (h : B8 bs) (p m : Nat) : B8 ((bs.drop p).take m) := fun x hx => h x (List.mem_of_mem_drop (List.mem_of_mem_take hx))
theorem smp_cut {bt : Int} {bs : List Int} {p : Nat} : smpT bt ((bs.drop p).take (bs.length - p)) 0 = smpT bt bs p := by
  rw [List.take_of_length_le (by rw [List.length_drop]; omega)]
  unfold smpT
  simp [List.getD, List.getElem?_drop]

set_option maxHeartbeats 1600000 in
theorem cSample8_any (A : Option Addr) (n c : Nat) (bs : List Int) (w : World) (hr : Row w .u8 A n bs) (h8 : B8 bs) (hn : 1 ≤ n) :
    Calls Try.prog 22 #[.slice A n c, .int .i64 8] w fun e w' => e = .returned (.int .i32 (smpT 8 bs 0)) ∧ ∃ k, w' = w.drewN k := by
  obtain ⟨b1, o1, rfl, hb1, hc1⟩ := hr.at_ 0 (by omega)
  have hx1 := h8.at_ 0
  have hs : smpT 8 bs 0 = bs.getD 0 0 - 128 := rfl
  rw [hs]
  generalize bs.getD 0 0 = x1 at *
  have h0 : (0 : Int) < (n : Int) := by omega
  rw [Nat.add_zero] at hc1
  clear hr h8 hs
  go_enter Try.func22, Try.ntmps22
  go_wp2_with fail
  go_ret
  exact ⟨rfl, 0, rfl⟩

set_option maxHeartbeats 1600000 in
theorem cSample16_any (A : Option Addr) (n c : Nat) (bs : List Int) (w : World) (hr : Row w .u8 A n bs) (h8 : B8 bs) (hn : 2 ≤ n) :
    Calls Try.prog 22 #[.slice A n c, .int .i64 16] w fun e w' => e = .returned (.int .i32 (smpT 16 bs 0)) ∧ ∃ k, w' = w.drewN k := by
  obtain ⟨b1, o1, rfl, hb1, hc1⟩ := hr.at_ 0 (by omega)
  obtain ⟨b1', o1', e', hb2, hc2⟩ := hr.at_ 1 (by omega)
  injection e' with e'
  injection e' with e1 e2
  subst e1 e2
  have hx1 := h8.at_ 0
  have hx2 := h8.at_ 1
  have hs : smpT 16 bs 0 = s16 (bs.getD 0 0 + 256 * bs.getD 1 0) := rfl
  rw [hs]
  generalize bs.getD 0 0 = x1 at *
  generalize bs.getD 1 0 = x2 at *
  rw [Nat.add_zero] at hc1
  have h0 : (0 : Int) < (n : Int) := by omega
  have h1 : (1 : Int) < (n : Int) := by omega
  clear hr h8 hs
  go_enter Try.func22, Try.ntmps22
  go_wp2_with fail
  go_region
  go_wp2_with fail
  go_ret
  exact ⟨ret_int (smp16 hx1 hx2), 1, rfl⟩

set_option maxHeartbeats 1600000 in
theorem cSplitArg_any (A : Option Addr) (n cA : Nat) (ch bt : Int) (w : World) (h : ¬ fitT ch bt) :
    Calls Try.prog 10 #[.slice A n cA, .int .i64 ch, .int .i64 bt] w fun e w' => SplNo w w' e 1 := by
  have HC := cFits_any ch bt w
  rw [decide_eq_false h] at HC
  have HC := Lib.hid HC
  clear h
  go_enter Try.func10, Try.ntmps10
  go_wp2_with fail
  refine HC.out.mono ?_
  rintro e w1 ⟨rfl, rfl⟩
  go_wp2_with fail
  go_ret2
  exact ⟨rfl, Kept.refl _ _⟩

set_option maxHeartbeats 1600000 in
theorem cSplitForm8_any (A : Option Addr) (n cA c : Nat) (w : World) (hc : 1 ≤ c ∧ c ≤ 8) (hn : n ≤ 16777216) (hm : n % (c * 1) ≠ 0) :
    Calls Try.prog 10 #[.slice A n cA, .int .i64 (c : Int), .int .i64 8] w fun e w' => SplNo w w' e 4 := by
  have HC := cFits_any (c : Int) 8 w
  rw [decide_eq_true (show fitT (c : Int) 8 from ⟨by omega, by omega, by omega⟩)] at HC
  have HC := Lib.hid HC
  obtain ⟨r, hr⟩ : ∃ r, n % (c * 1) = r := ⟨_, rfl⟩
  rw [hr] at hm
  have hmz : ((n : Nat) : Int) % (c : Int) = (r : Int) := by rw [Nat.mul_one] at hr; exact_mod_cast hr
  have hm2 : ((r : Int) != 0) = true := by simp; omega
  have g1 : (c = 0) = False := by simp only [eq_iff_iff, iff_false]; omega
  clear hr
  go_enter Try.func10, Try.ntmps10
  go_wp2_with fail
  refine HC.out.mono ?_
  rintro e w1 ⟨rfl, rfl⟩
  go_wp2_with fail
  go_ret2
  exact ⟨rfl, Kept.refl _ _⟩

set_option maxHeartbeats 3200000 in
theorem cSplit8_any (A : Option Addr) (cA c : Nat) (bs : List Int) (w : World) (hr : Row w .u8 A bs.length bs) (h8 : B8 bs) (hc : 1 ≤ c ∧ c ≤ 8) (hn : bs.length ≤ 16777216) (hca : bs.length ≤ cA) (hm : bs.length % (c * 1) = 0) :
    Calls Try.prog 10 #[.slice A bs.length cA, .int .i64 (c : Int), .int .i64 8] w fun e w' => SplT w w' e 8 bs c := by
  obtain ⟨i4, hi4, h40, h41, h42⟩ := info_parts Try.infoTr4
  have HC := cFits_any (c : Int) 8 w
  rw [decide_eq_true (show fitT (c : Int) 8 from ⟨by omega, by omega, by omega⟩)] at HC
  have HC := Lib.hid HC
  have HR : Hid (∀ V, Fresh w V → Row V .u8 A bs.length bs) := Lib.hid fun V hV => hr.kept hV (fun _ _ _ _ => id)
  have H8 := Lib.hid h8
  obtain ⟨f, hfe⟩ : ∃ f, bs.length / (c * 1) = f := ⟨_, rfl⟩
  have hfl : bs.length = f * (c * 1) := by rw [← hfe]; exact split_len (bt := 8) hm
  have hfn : f ≤ bs.length := by rw [← hfe]; exact Nat.div_le_self _ _
  have hmz : ((bs.length : Nat) : Int) % (c : Int) = 0 := by rw [Nat.mul_one] at hm; exact_mod_cast hm
  have hdz : ((bs.length : Nat) : Int) / (c : Int) = (f : Int) := by rw [Nat.mul_one] at hfe; exact_mod_cast hfe
  have g1 : (c = 0) = False := by simp only [eq_iff_iff, iff_false]; omega
  have HM := Lib.hid (And.intro hm (And.intro hfe hfl))
  clear hr h8 hm hfe hfl
  go_enter Try.func10, Try.ntmps10
  go_wp2_with fail
  refine HC.out.mono ?_
  rintro e w0 ⟨rfl, rfl⟩
  clear HC
  go_wp2_with (refine wpList_make_bag _ rfl _ _ rfl _ _ _ _ c rfl rfl rfl rfl (by omega) ?_)
  intro w1 hb1 hf1
  generalize hg : w0.heap.size = g at *
  have HG := Lib.hid hg
  have H1 := Lib.hid (And.intro hb1 hf1)
  clear hb1 hf1 hg
  go_wp2_with fail
  go_loopw [31] (fun i wr => ∃ k : Nat, k ≤ c ∧ i = .int .i64 k ∧ ∃ V, Bag wr g g c c V (fun i => if i < k then trkT 8 bs c i else []) ∧ Fresh w0 wr) (fun i _ => (c - intOf i).toNat)
  case atStart => exact ⟨0, by omega, rfl, _, H1.out.1.congr (fun i _ => by rw [if_neg (Nat.not_lt_zero _)]), H1.out.2⟩
  case round =>
    obtain ⟨k, hk, rfl, V, hb, hf⟩ := hrel
    clear H1
    have HB := Lib.hid (And.intro hb hf)
    clear hb hf
    by_cases hlt : k < c
    · have HV := Lib.hid (HB.out.1.slot hlt)
      have ik1 : (k : Int) < (c : Int) := by omega
      have hfz : ∀ j, Hid (wr.frozen? ⟨g, j, none⟩ = false) := fun j => Lib.hid (HB.out.1.frozen j)
      go_wp2_with (at_make; refine wpList_make_zeros _ rfl _ _ 51 rfl 21 i4 .i32 4 Try.underlying51 hi4 h40 h41 h42 _ _ _ _ f rfl rfl rfl rfl (by omega) (by unfold maxLen; omega) ?_)
      intro w2 ho2 hf2
      have hgl := HB.out.1.lt
      have c2 : w2.cell? ⟨g, k, none⟩ = some (V k) := (hf2.cell (p := ⟨g, k, none⟩) hgl id).trans HV.out
      have f2 : w2.frozen? ⟨g, k, none⟩ = false := (hf2.frozen (p := ⟨g, k, none⟩) hgl id).trans (hfz k).out
      have hgg := HG.out
      have hww := HB.out.2.size
      have hqq : wr.heap.size ≤ wr.heap.size := Nat.le_refl _
      generalize hq : wr.heap.size = q at ho2 hqq ⊢
      have hb3 := HB.out.1.put hlt (hf2.mono (fun _ _ e => e.elim)) ho2 (.inr ⟨q, rfl, by omega⟩) (by omega)
      have hf3 : Fresh w0 (w2.setCell ⟨g, k, none⟩ (.slice (some ⟨q, 0, none⟩) f f)) := (HB.out.2.trans hf2 (fun _ _ e => e)).setCell (p := ⟨g, k, none⟩) (fun h => absurd h (by simp only; omega)) _
      have H3 := Lib.hid (And.intro hb3 hf3)
      have hqg : g ≠ q := by omega
      have hq0 : w0.heap.size ≤ q := by omega
      clear hb3 hf3 ho2 hf2 hgl hgg hww hqq hq
      go_wp2_with fail
      go_loopw [47] (fun i wv => ∃ j : Nat, j ≤ f ∧ i = .int .i64 j ∧ Bag wv g g c c (fun x => if x = k then .slice (some ⟨q, 0, none⟩) f f else V x) (fun x => if x = k then tn j (fun j => smpT 8 bs ((j * c + k) * wdT 8)) ++ List.replicate (f - j) 0 else if x < k then trkT 8 bs c x else []) ∧ Fresh w0 wv) (fun i _ => (f - intOf i).toNat)
      case atStart => exact ⟨0, by omega, rfl, H3.out.1, H3.out.2⟩
      case round =>
        obtain ⟨j, hj, rfl, hb, hf⟩ := hrel
        have H4 := Lib.hid (And.intro hb hf)
        clear hb hf H3 c2 f2
        by_cases hjl : j < f
        · have hin := idx_in HM.out.2.2 hjl hlt
          rw [Nat.mul_one, Nat.mul_one] at hin
          have cg : wr.cell? ⟨g, k, none⟩ = some (.slice (some ⟨q, 0, none⟩) f f) := by
            have := H4.out.1.slot hlt
            rw [if_pos rfl] at this
            exact this
          have hl : ((fun x => if x = k then tn j (fun j => smpT 8 bs ((j * c + k) * wdT 8)) ++ List.replicate (f - j) 0 else if x < k then trkT 8 bs c x else []) k).length = f := by
            simp only [if_pos]
            rw [List.length_append, tn_length, List.length_replicate]
            omega
          obtain ⟨cq, fq⟩ := H4.out.1.cell hlt (if_pos rfl) hl hjl
          have hw := fun m => (H4.out.1.fresh ((Kept.refl (fun _ => False) wr).drewN m)).write (j := j) hlt (if_pos rfl) hl (smpT 8 bs ((j * c + k) * wdT 8))
          have HW : Hid (∀ m, Bag ((wr.drewN m).setCell ⟨q, j, none⟩ (.int .i32 (smpT 8 bs ((j * c + k) * wdT 8)))) g g c c (fun x => if x = k then .slice (some ⟨q, 0, none⟩) f f else V x) (fun x => if x = k then tn (j + 1) (fun j => smpT 8 bs ((j * c + k) * wdT 8)) ++ List.replicate (f - (j + 1)) 0 else if x < k then trkT 8 bs c x else []) ∧ Fresh w0 ((wr.drewN m).setCell ⟨q, j, none⟩ (.int .i32 (smpT 8 bs ((j * c + k) * wdT 8))))) := Lib.hid fun m => ⟨(hw m).congr (fun x _ => by
              by_cases hx : x = k
              · simp only [if_pos hx]
                rw [if_pos trivial, set_next _ _ _ _ (tn_length _ _) hjl, ← tn_succ j (fun j => smpT 8 bs ((j * c + k) * wdT 8))]
              · simp only [if_neg hx]), (H4.out.2.drewN m).setCell (p := ⟨q, j, none⟩) (fun h => absurd h (by simp only; omega)) _⟩
          have hidx : (j * c + k) * wdT 8 = j * c + k := by rw [Nat.add_mul, Nat.mul_assoc, show wdT 8 = 1 from rfl]; rw [Nat.mul_one, Nat.mul_one]
          have HS : Hid (∀ W, Fresh w0 W → Calls Try.prog 22 #[.slice (cutAt A (j * c + k) cA) (bs.length - (j * c + k)) (cA - (j * c + k)), .int .i64 8] W fun e w' => e = .returned (.int .i32 (smpT 8 bs ((j * c + k) * wdT 8))) ∧ ∃ m, w' = W.drewN m) := Lib.hid fun W hW => by
            have h := (HR.out W hW).cut (l := j * c + k) (m := bs.length - (j * c + k)) (c := cA) (by omega) hca
            have := cSample8_any _ _ (cA - (j * c + k)) _ W h (B8.cut H8.out _ _) (by omega)
            rw [smp_cut] at this
            rw [hidx]
            exact this
          have hsl : ∀ W, (Instr.slice 27 (.slice A bs.length cA) (some (.int .i64 ((j : Int) * (c : Int) + (k : Int)))) none none).run Try.prog W = .ok (.slice (cutAt A (j * c + k) cA) (bs.length - (j * c + k)) (cA - (j * c + k))) W := fun W => by
            obtain ⟨i0, hi, hz0, hz1, hz2⟩ := info_parts Try.infoTr1
            have := run_slice_from (P := Try.prog) 27 5 Try.underlying27 (fun w => by simp [sizeOf, typeInfo, hi, hz1]) A bs.length cA (j * c + k) (by omega) W
            rw [show (((j * c + k : Nat)) : Int) = (j : Int) * (c : Int) + (k : Int) by simp] at this
            exact this
          generalize smpT 8 bs ((j * c + k) * wdT 8) = xv at *
          generalize cutAt A (j * c + k) cA = CA at *
          have jf : (j : Int) < (f : Int) := by omega
          have em : (j : Int) * (c : Int) = ((j * c : Nat) : Int) := by simp
          have e1 : IntKind.i64.wrap ((j : Int) * (c : Int)) = (j : Int) * (c : Int) := IntWalk.i64_in _ (by rw [em]; omega)
          have e2 : IntKind.i64.wrap ((j : Int) * (c : Int) + (k : Int)) = (j : Int) * (c : Int) + (k : Int) := IntWalk.i64_in _ (by rw [em]; omega)
          have d1 : (wr.setCell ⟨q, j, none⟩ (.int .i32 xv)).cell? ⟨g, k, none⟩ = some (.slice (some ⟨q, 0, none⟩) f f) := (World.cell?_of_block (Below.heap_setCell wr ⟨q, j, none⟩ (.int .i32 xv) g hqg)).trans cg
          have e4 : IntKind.i64.wrap (k : Int) = (k : Int) := IntWalk.i64_in _ (by omega)
          have e5 : IntKind.i64.wrap ((k : Int) * 2) = (k : Int) * 2 := IntWalk.i64_in _ (by omega)
          have HF : Hid (Fresh w0 wr) := Lib.hid H4.out.2
          have jk : (0 : Int) ≤ (j : Int) := by omega
          have kk : (0 : Int) ≤ (k : Int) := by omega
          clear em hidx hin hw hl
          go_wp2_with fail
          go_region_held3 (fun W => W.cell? ⟨g, k, none⟩ = some (.slice (some ⟨q, 0, none⟩) f f)) (first | go_keep | exact d1)
            (first
              | (go_at_call 22; with_reducible refine (HS.out _ (by first | exact HF.out | exact HF.out.drew | exact HF.out.drewN _)).mono ?_; rintro e3 w3 ⟨rfl, n3, rfl⟩))
          have H5 := Lib.hid (HW.out (1 + n3))
          clear cg cq fq d1 HS hsl
          go_wp2_with fail
          go_roundw
          case rel => exact ⟨j + 1, by omega, by go_num, H5.out.1, H5.out.2⟩
          case measure => simp [intOf]; omega
        · obtain rfl : j = f := by omega
          have hb5 := H4.out.1.congr (T' := fun i => if i < k + 1 then trkT 8 bs c i else []) (fun x _ => by
            by_cases hx : x = k
            · rw [if_pos hx, if_pos (by omega), Nat.sub_self, List.replicate_zero, List.append_nil, hx, trkT, show bs.length / (c * wdT 8) = j from HM.out.2.1]
            · rw [if_neg hx]
              by_cases hx2 : x < k
              · rw [if_pos hx2, if_pos (by omega)]
              · rw [if_neg hx2, if_neg (by omega)])
          have H5 := Lib.hid (And.intro hb5 H4.out.2)
          clear hb5 H4
          go_wp2_with fail
          go_roundw
          case rel => exact ⟨k + 1, by omega, by go_num, _, H5.out.1, H5.out.2⟩
          case measure => simp [intOf]; omega
    · obtain rfl : k = c := by omega
      have hbe := HB.out.1.congr (T' := trkT 8 bs k) (fun i hi => if_pos hi)
      rw [← HG.out] at hbe
      have HE := Lib.hid (And.intro hbe HB.out.2)
      clear hbe HB
      go_wp2_with fail
      go_ret2
      rw [← HG.out]
      exact ⟨_, _, _, rfl, HE.out.1, HE.out.2⟩

set_option maxHeartbeats 1600000 in
theorem cSplitForm16_any (A : Option Addr) (n cA c : Nat) (w : World) (hc : 1 ≤ c ∧ c ≤ 8) (hn : n ≤ 16777216) (hm : n % (c * 2) ≠ 0) :
    Calls Try.prog 10 #[.slice A n cA, .int .i64 (c : Int), .int .i64 16] w fun e w' => SplNo w w' e 4 := by
  have HC := cFits_any (c : Int) 16 w
  rw [decide_eq_true (show fitT (c : Int) 16 from ⟨by omega, by omega, by omega⟩)] at HC
  have HC := Lib.hid HC
  obtain ⟨r, hr⟩ : ∃ r, n % (c * 2) = r := ⟨_, rfl⟩
  rw [hr] at hm
  have hmz : ((n : Nat) : Int) % ((c : Int) * 2) = (r : Int) := by exact_mod_cast hr
  have hm2 : ((r : Int) != 0) = true := by simp; omega
  have g1 : (c = 0) = False := by simp only [eq_iff_iff, iff_false]; omega
  clear hr
  go_enter Try.func10, Try.ntmps10
  go_wp2_with fail
  refine HC.out.mono ?_
  rintro e w1 ⟨rfl, rfl⟩
  go_wp2_with fail
  go_ret2
  exact ⟨rfl, Kept.refl _ _⟩

set_option maxHeartbeats 3200000 in
theorem cSplit16_any (A : Option Addr) (cA c : Nat) (bs : List Int) (w : World) (hr : Row w .u8 A bs.length bs) (h8 : B8 bs) (hc : 1 ≤ c ∧ c ≤ 8) (hn : bs.length ≤ 16777216) (hca : bs.length ≤ cA) (hm : bs.length % (c * 2) = 0) :
    Calls Try.prog 10 #[.slice A bs.length cA, .int .i64 (c : Int), .int .i64 16] w fun e w' => SplT w w' e 16 bs c := by
  obtain ⟨i4, hi4, h40, h41, h42⟩ := info_parts Try.infoTr4
  have HC := cFits_any (c : Int) 16 w
  rw [decide_eq_true (show fitT (c : Int) 16 from ⟨by omega, by omega, by omega⟩)] at HC
  have HC := Lib.hid HC
  have HR : Hid (∀ V, Fresh w V → Row V .u8 A bs.length bs) := Lib.hid fun V hV => hr.kept hV (fun _ _ _ _ => id)
  have H8 := Lib.hid h8
  obtain ⟨f, hfe⟩ : ∃ f, bs.length / (c * 2) = f := ⟨_, rfl⟩
  have hfl : bs.length = f * (c * 2) := by rw [← hfe]; exact split_len (bt := 16) hm
  have hfn : f ≤ bs.length := by rw [← hfe]; exact Nat.div_le_self _ _
  have hmz : ((bs.length : Nat) : Int) % ((c : Int) * 2) = 0 := by exact_mod_cast hm
  have hdz : ((bs.length : Nat) : Int) / ((c : Int) * 2) = (f : Int) := by exact_mod_cast hfe
  have g1 : (c = 0) = False := by simp only [eq_iff_iff, iff_false]; omega
  have HM := Lib.hid (And.intro hm (And.intro hfe hfl))
  clear hr h8 hm hfe hfl
  go_enter Try.func10, Try.ntmps10
  go_wp2_with fail
  refine HC.out.mono ?_
  rintro e w0 ⟨rfl, rfl⟩
  clear HC
  go_wp2_with (refine wpList_make_bag _ rfl _ _ rfl _ _ _ _ c rfl rfl rfl rfl (by omega) ?_)
  intro w1 hb1 hf1
  generalize hg : w0.heap.size = g at *
  have HG := Lib.hid hg
  have H1 := Lib.hid (And.intro hb1 hf1)
  clear hb1 hf1 hg
  go_wp2_with fail
  go_loopw [31] (fun i wr => ∃ k : Nat, k ≤ c ∧ i = .int .i64 k ∧ ∃ V, Bag wr g g c c V (fun i => if i < k then trkT 16 bs c i else []) ∧ Fresh w0 wr) (fun i _ => (c - intOf i).toNat)
  case atStart => exact ⟨0, by omega, rfl, _, H1.out.1.congr (fun i _ => by rw [if_neg (Nat.not_lt_zero _)]), H1.out.2⟩
  case round =>
    obtain ⟨k, hk, rfl, V, hb, hf⟩ := hrel
    clear H1
    have HB := Lib.hid (And.intro hb hf)
    clear hb hf
    by_cases hlt : k < c
    · have HV := Lib.hid (HB.out.1.slot hlt)
      have ik1 : (k : Int) < (c : Int) := by omega
      have hfz : ∀ j, Hid (wr.frozen? ⟨g, j, none⟩ = false) := fun j => Lib.hid (HB.out.1.frozen j)
      go_wp2_with (at_make; refine wpList_make_zeros _ rfl _ _ 51 rfl 21 i4 .i32 4 Try.underlying51 hi4 h40 h41 h42 _ _ _ _ f rfl rfl rfl rfl (by omega) (by unfold maxLen; omega) ?_)
      intro w2 ho2 hf2
      have hgl := HB.out.1.lt
      have c2 : w2.cell? ⟨g, k, none⟩ = some (V k) := (hf2.cell (p := ⟨g, k, none⟩) hgl id).trans HV.out
      have f2 : w2.frozen? ⟨g, k, none⟩ = false := (hf2.frozen (p := ⟨g, k, none⟩) hgl id).trans (hfz k).out
      have hgg := HG.out
      have hww := HB.out.2.size
      have hqq : wr.heap.size ≤ wr.heap.size := Nat.le_refl _
      generalize hq : wr.heap.size = q at ho2 hqq ⊢
      have hb3 := HB.out.1.put hlt (hf2.mono (fun _ _ e => e.elim)) ho2 (.inr ⟨q, rfl, by omega⟩) (by omega)
      have hf3 : Fresh w0 (w2.setCell ⟨g, k, none⟩ (.slice (some ⟨q, 0, none⟩) f f)) := (HB.out.2.trans hf2 (fun _ _ e => e)).setCell (p := ⟨g, k, none⟩) (fun h => absurd h (by simp only; omega)) _
      have H3 := Lib.hid (And.intro hb3 hf3)
      have hqg : g ≠ q := by omega
      have hq0 : w0.heap.size ≤ q := by omega
      clear hb3 hf3 ho2 hf2 hgl hgg hww hqq hq
      go_wp2_with fail
      go_loopw [47] (fun i wv => ∃ j : Nat, j ≤ f ∧ i = .int .i64 j ∧ Bag wv g g c c (fun x => if x = k then .slice (some ⟨q, 0, none⟩) f f else V x) (fun x => if x = k then tn j (fun j => smpT 16 bs ((j * c + k) * wdT 16)) ++ List.replicate (f - j) 0 else if x < k then trkT 16 bs c x else []) ∧ Fresh w0 wv) (fun i _ => (f - intOf i).toNat)
      case atStart => exact ⟨0, by omega, rfl, H3.out.1, H3.out.2⟩
      case round =>
        obtain ⟨j, hj, rfl, hb, hf⟩ := hrel
        have H4 := Lib.hid (And.intro hb hf)
        clear hb hf H3 c2 f2
        by_cases hjl : j < f
        · have hin := idx_in HM.out.2.2 hjl hlt
          have cg : wr.cell? ⟨g, k, none⟩ = some (.slice (some ⟨q, 0, none⟩) f f) := by
            have := H4.out.1.slot hlt
            rw [if_pos rfl] at this
            exact this
          have hl : ((fun x => if x = k then tn j (fun j => smpT 16 bs ((j * c + k) * wdT 16)) ++ List.replicate (f - j) 0 else if x < k then trkT 16 bs c x else []) k).length = f := by
            simp only [if_pos]
            rw [List.length_append, tn_length, List.length_replicate]
            omega
          obtain ⟨cq, fq⟩ := H4.out.1.cell hlt (if_pos rfl) hl hjl
          have hw := fun m => (H4.out.1.fresh ((Kept.refl (fun _ => False) wr).drewN m)).write (j := j) hlt (if_pos rfl) hl (smpT 16 bs ((j * c + k) * wdT 16))
          have HW : Hid (∀ m, Bag ((wr.drewN m).setCell ⟨q, j, none⟩ (.int .i32 (smpT 16 bs ((j * c + k) * wdT 16)))) g g c c (fun x => if x = k then .slice (some ⟨q, 0, none⟩) f f else V x) (fun x => if x = k then tn (j + 1) (fun j => smpT 16 bs ((j * c + k) * wdT 16)) ++ List.replicate (f - (j + 1)) 0 else if x < k then trkT 16 bs c x else []) ∧ Fresh w0 ((wr.drewN m).setCell ⟨q, j, none⟩ (.int .i32 (smpT 16 bs ((j * c + k) * wdT 16))))) := Lib.hid fun m => ⟨(hw m).congr (fun x _ => by
              by_cases hx : x = k
              · simp only [if_pos hx]
                rw [if_pos trivial, set_next _ _ _ _ (tn_length _ _) hjl, ← tn_succ j (fun j => smpT 16 bs ((j * c + k) * wdT 16))]
              · simp only [if_neg hx]), (H4.out.2.drewN m).setCell (p := ⟨q, j, none⟩) (fun h => absurd h (by simp only; omega)) _⟩
          have hidx : (j * c + k) * wdT 16 = j * (c * 2) + k * 2 := by rw [Nat.add_mul, Nat.mul_assoc, show wdT 16 = 2 from rfl]
          have HS : Hid (∀ W, Fresh w0 W → Calls Try.prog 22 #[.slice (cutAt A (j * (c * 2) + k * 2) cA) (bs.length - (j * (c * 2) + k * 2)) (cA - (j * (c * 2) + k * 2)), .int .i64 16] W fun e w' => e = .returned (.int .i32 (smpT 16 bs ((j * c + k) * wdT 16))) ∧ ∃ m, w' = W.drewN m) := Lib.hid fun W hW => by
            have h := (HR.out W hW).cut (l := j * (c * 2) + k * 2) (m := bs.length - (j * (c * 2) + k * 2)) (c := cA) (by omega) hca
            have := cSample16_any _ _ (cA - (j * (c * 2) + k * 2)) _ W h (B8.cut H8.out _ _) (by omega)
            rw [smp_cut] at this
            rw [hidx]
            exact this
          have hsl : ∀ W, (Instr.slice 27 (.slice A bs.length cA) (some (.int .i64 ((j : Int) * ((c : Int) * 2) + (k : Int) * 2))) none none).run Try.prog W = .ok (.slice (cutAt A (j * (c * 2) + k * 2) cA) (bs.length - (j * (c * 2) + k * 2)) (cA - (j * (c * 2) + k * 2))) W := fun W => by
            obtain ⟨i0, hi, hz0, hz1, hz2⟩ := info_parts Try.infoTr1
            have := run_slice_from (P := Try.prog) 27 5 Try.underlying27 (fun w => by simp [sizeOf, typeInfo, hi, hz1]) A bs.length cA (j * (c * 2) + k * 2) (by omega) W
            rw [show (((j * (c * 2) + k * 2 : Nat)) : Int) = (j : Int) * ((c : Int) * 2) + (k : Int) * 2 by simp] at this
            exact this
          generalize smpT 16 bs ((j * c + k) * wdT 16) = xv at *
          generalize cutAt A (j * (c * 2) + k * 2) cA = CA at *
          have jf : (j : Int) < (f : Int) := by omega
          have em : (j : Int) * ((c : Int) * 2) = ((j * (c * 2) : Nat) : Int) := by simp
          have e1 : IntKind.i64.wrap ((j : Int) * ((c : Int) * 2)) = (j : Int) * ((c : Int) * 2) := IntWalk.i64_in _ (by rw [em]; omega)
          have e2 : IntKind.i64.wrap ((j : Int) * ((c : Int) * 2) + (k : Int) * 2) = (j : Int) * ((c : Int) * 2) + (k : Int) * 2 := IntWalk.i64_in _ (by rw [em]; omega)
          have d1 : (wr.setCell ⟨q, j, none⟩ (.int .i32 xv)).cell? ⟨g, k, none⟩ = some (.slice (some ⟨q, 0, none⟩) f f) := (World.cell?_of_block (Below.heap_setCell wr ⟨q, j, none⟩ (.int .i32 xv) g hqg)).trans cg
          have e4 : IntKind.i64.wrap (k : Int) = (k : Int) := IntWalk.i64_in _ (by omega)
          have e5 : IntKind.i64.wrap ((k : Int) * 2) = (k : Int) * 2 := IntWalk.i64_in _ (by omega)
          have HF : Hid (Fresh w0 wr) := Lib.hid H4.out.2
          have jk : (0 : Int) ≤ (j : Int) := by omega
          have kk : (0 : Int) ≤ (k : Int) := by omega
          clear em hidx hin hw hl
          go_wp2_with fail
          go_region_held3 (fun W => W.cell? ⟨g, k, none⟩ = some (.slice (some ⟨q, 0, none⟩) f f)) (first | go_keep | exact d1)
            (first
              | (go_at_call 22; with_reducible refine (HS.out _ (by first | exact HF.out | exact HF.out.drew | exact HF.out.drewN _)).mono ?_; rintro e3 w3 ⟨rfl, n3, rfl⟩))
          have H5 := Lib.hid (HW.out (1 + n3))
          clear cg cq fq d1 HS hsl
          go_wp2_with fail
          go_roundw
          case rel => exact ⟨j + 1, by omega, by go_num, H5.out.1, H5.out.2⟩
          case measure => simp [intOf]; omega
        · obtain rfl : j = f := by omega
          have hb5 := H4.out.1.congr (T' := fun i => if i < k + 1 then trkT 16 bs c i else []) (fun x _ => by
            by_cases hx : x = k
            · rw [if_pos hx, if_pos (by omega), Nat.sub_self, List.replicate_zero, List.append_nil, hx, trkT, show bs.length / (c * wdT 16) = j from HM.out.2.1]
            · rw [if_neg hx]
              by_cases hx2 : x < k
              · rw [if_pos hx2, if_pos (by omega)]
              · rw [if_neg hx2, if_neg (by omega)])
          have H5 := Lib.hid (And.intro hb5 H4.out.2)
          clear hb5 H4
          go_wp2_with fail
          go_roundw
          case rel => exact ⟨k + 1, by omega, by go_num, _, H5.out.1, H5.out.2⟩
          case measure => simp [intOf]; omega
    · obtain rfl : k = c := by omega
      have hbe := HB.out.1.congr (T' := trkT 16 bs k) (fun i hi => if_pos hi)
      rw [← HG.out] at hbe
      have HE := Lib.hid (And.intro hbe HB.out.2)
      clear hbe HB
      go_wp2_with fail
      go_ret2
      rw [← HG.out]
      exact ⟨_, _, _, rfl, HE.out.1, HE.out.2⟩

end Go.Proofs.Ytodmchjdflpbpaa
