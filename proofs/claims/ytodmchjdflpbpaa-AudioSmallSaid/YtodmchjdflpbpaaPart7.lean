/- Texts of this proof, one behind the other: AudSm, AudAw, AudCS. -/
import Derived.Test.YtodmchjdflpbpaaPart5
import Derived.Test.YtodmchjdflpbpaaWavAw
import Derived.Test.YtodmchjdflpbpaaPart6

/- Audio, as plain mathematics: files whose samples are the same all the while are small. -/
namespace Go.Proofs.Ytodmchjdflpbpaa
open Go.RowKit
set_option maxRecDepth 100000

theorem sv_one {v : Nat} (h : v < 128) : (sv v).length = 1 := by rw [sv_lo h]; rfl
theorem sv_two {v : Nat} (h : v < 16384) : (sv v).length ≤ 2 := by
  by_cases h1 : v < 128
  · rw [sv_one h1]; omega
  · rw [sv_hi h1, List.length_cons, sv_one (by omega)]
    omega
/-- No block costs more than with the parameter 0. -/
theorem rto_cost (l : List Int) : ∀ j, (rto l j).length ≤ 5 * j + rcost 0 (l.take (64 * j))
  | 0 => by simp [rto]
  | j + 1 => by
    have ih := rto_cost l j
    have h2 := rbestTo_min (rpart l j) 24 0 (by omega)
    have h3 := rcost_append 0 (rpart l j) (l.take (64 * j))
    rw [take_part] at h3
    rw [rto, List.length_append, rblock_length]
    unfold rbest
    omega
theorem rall_cost (l : List Int) : (rall l).length ≤ 5 * ((l.length + 63) / 64) + rcost 0 l := by
  have := rto_cost l (rblocks l)
  rw [List.take_of_length_le (show l.length ≤ 64 * rblocks l by unfold rblocks; omega)] at this
  exact this
theorem rcost_zeros : ∀ l : List Int, (∀ i, i < l.length → l.getD i 0 = 0) → rcost 0 l = l.length
  | [], _ => rfl
  | x :: r, h => by
    have h0 := h 0 (by simp)
    simp at h0
    subst h0
    have ih := rcost_zeros r (fun i hi => by
      have := h (i + 1) (by simpa using hi)
      simpa using this)
    rw [rcost, ih]
    have : rsize 0 (fold 0) = 1 := by decide
    rw [this, List.length_cons]
    omega
theorem rcost_flat {l : List Int} (h : ∀ i, 1 ≤ i → i < l.length → l.getD i 0 = 0) : rcost 0 l ≤ 55 + l.length := by
  cases l with
  | nil => simp [rcost]
  | cons x r =>
    have h1 := rcost_zeros r (fun i hi => by
      have := h (i + 1) (by omega) (by simpa using hi)
      simpa using this)
    have h2 := rsize_le (k := 0) (by omega) (fold x)
    rw [rcost, h1, List.length_cons]
    omega
theorem weight_zeros : ∀ l : List Int, (∀ i, i < l.length → l.getD i 0 = 0) → weight l = 0
  | [], _ => rfl
  | x :: r, h => by
    have h0 := h 0 (by simp)
    simp at h0
    subst h0
    rw [weight, weight_zeros r (fun i hi => by
      have := h (i + 1) (by simpa using hi)
      simpa using this)]
    rfl
theorem weight_head {l : List Int} (h : 0 < l.length) : (l.getD 0 0).natAbs ≤ weight l := by
  cases l with
  | nil => simp at h
  | cons x r => simp [weight]
theorem rep_getD {m i : Nat} (v : Int) (h : i < m) : (List.replicate m v).getD i 0 = v := by simp [List.getD, h]
theorem gs_zero (k : Nat) (l : List Int) : gs k l 0 = 0 := by
  unfold gs
  rw [pv_none l (by omega), pv_none l (by omega), pv_none l (by omega)]
  unfold gp
  split
  · rfl
  split
  · rfl
  split <;> rfl
theorem flat_one {m i : Nat} {v : Int} (h1 : 1 ≤ i) (hi : i < m) : (res 1 (List.replicate m v)).getD i 0 = 0 := by
  rw [res_getD 1 _ (by simpa using hi), rep_getD v hi]
  unfold gs gp
  rw [if_neg (by omega), if_pos rfl, pv_some _ h1, rep_getD v (by omega), Int.sub_self]
  rfl
section
variable {m : Nat} {v : Int} (hm : 2 ≤ m) (hv : -2147483648 ≤ v ∧ v < 2147483648)
include hm hv
theorem flat_head (k : Nat) : (res k (List.replicate m v)).getD 0 0 = v := by
  rw [res_getD k _ (by simp; omega), gs_zero, rep_getD v (by omega), Int.sub_zero, w32_id hv]
theorem flat_wres (k : Nat) : v.natAbs ≤ wres (List.replicate m v) k := by
  have := weight_head (l := res k (List.replicate m v)) (by rw [res_length, List.length_replicate]; omega)
  rw [flat_head hm hv] at this
  exact this
theorem flat_wres1 : wres (List.replicate m v) 1 = v.natAbs := by
  have hl := res_length 1 (List.replicate m v)
  rw [List.length_replicate] at hl
  unfold wres
  have h0 := flat_head hm hv 1
  have h1 : ∀ i, 1 ≤ i → i < m → (res 1 (List.replicate m v)).getD i 0 = 0 := fun i a b => flat_one a b
  generalize res 1 (List.replicate m v) = r at *
  cases r with
  | nil => simp at hl; omega
  | cons x t =>
    simp at h0
    subst h0
    rw [weight, weight_zeros t (fun i hi => by
      have := h1 (i + 1) (by omega) (by rw [← hl]; simpa using hi)
      simpa using this)]
    omega
theorem flat_rest {i : Nat} (h1 : 1 ≤ i) (hi : i < m) : (res (bestOr (List.replicate m v) 3) (List.replicate m v)).getD i 0 = 0 := by
  have a1 := flat_wres1 hm hv
  have a2 := flat_wres hm hv 2
  have a3 := flat_wres hm hv 3
  have hb : bestOr (List.replicate m v) 3 = bestOr (List.replicate m v) 1 ∧ wres (List.replicate m v) (bestOr (List.replicate m v) 1) ≤ v.natAbs := by
    have h1 : wres (List.replicate m v) (bestOr (List.replicate m v) 1) ≤ v.natAbs := by
      rw [show bestOr (List.replicate m v) 1 = if wres (List.replicate m v) 1 < wres (List.replicate m v) 0 then 1 else 0 from rfl]
      split <;> omega
    have h2 : bestOr (List.replicate m v) 2 = bestOr (List.replicate m v) 1 := by
      rw [show bestOr (List.replicate m v) 2 = if wres (List.replicate m v) 2 < wres (List.replicate m v) (bestOr (List.replicate m v) 1) then 2 else bestOr (List.replicate m v) 1 from rfl, if_neg (by omega)]
    have h3 : bestOr (List.replicate m v) 3 = bestOr (List.replicate m v) 2 := by
      rw [show bestOr (List.replicate m v) 3 = if wres (List.replicate m v) 3 < wres (List.replicate m v) (bestOr (List.replicate m v) 2) then 3 else bestOr (List.replicate m v) 2 from rfl, if_neg (by rw [h2]; omega)]
    exact ⟨h3.trans h2, h1⟩
  rw [hb.1]
  have hw := hb.2
  rw [show bestOr (List.replicate m v) 1 = if wres (List.replicate m v) 1 < wres (List.replicate m v) 0 then 1 else 0 from rfl] at hw ⊢
  split at hw
  · rename_i h
    rw [if_pos h]
    exact flat_one h1 hi
  · rename_i h
    rw [if_neg h]
    have hz := res_zero (l := List.replicate m v) (fun x hx => by rw [List.eq_of_mem_replicate hx]; exact hv)
    rw [hz, rep_getD v hi]
    unfold wres at hw
    rw [hz] at hw
    obtain ⟨q, rfl⟩ : ∃ q, m = q + 2 := ⟨m - 2, by omega⟩
    rw [List.replicate_succ, List.replicate_succ, weight, weight] at hw
    omega
/-- A track whose samples are alike. -/
theorem trk_small (hm2 : m ≤ 4096) : (trkP (List.replicate m v)).length ≤ 3 + (5 * ((m + 63) / 64) + m + 62) / 8 := by
  have hb := bestOr_le (List.replicate m v) 3
  have h1 : (pkT (tagT (List.replicate m v)) (List.replicate m v)).length ≤ (pkT (bestOr (List.replicate m v) 3) (List.replicate m v)).length := by
    unfold tagT
    split <;> omega
  have h2 : (pkT (bestOr (List.replicate m v) 3) (List.replicate m v)).length ≤ (5 * ((m + 63) / 64) + m + 62) / 8 := by
    have e : lev (bestOr (List.replicate m v) 3) (List.replicate m v) = res (bestOr (List.replicate m v) 3) (List.replicate m v) := if_neg (by omega)
    unfold pkT
    rw [pk_length, e]
    have hc := rall_cost (res (bestOr (List.replicate m v) 3) (List.replicate m v))
    have hf := rcost_flat (l := res (bestOr (List.replicate m v) 3) (List.replicate m v)) (fun i a b => flat_rest hm hv a (by rwa [res_length, List.length_replicate] at b))
    rw [res_length, List.length_replicate] at hc hf
    omega
  have h3 := tagT_le (List.replicate m v)
  have h4 := sv_one (v := tagT (List.replicate m v)) (by omega)
  have h5 := sv_two (v := (pkT (tagT (List.replicate m v)) (List.replicate m v)).length) (by omega)
  unfold trkP tx
  simp only [List.length_append]
  omega
end

theorem grpP_small {T : Nat → List Int} {n g K : Nat} (h : ∀ i, i < n → (trkP (T i)).length ≤ K) (hg : 2 * g < n) : (grpP T n g).length ≤ 1 + K * (if 2 * g + 1 < n then 2 else 1) := by
  have s0 := sv_one (v := 0) (by omega)
  have e1 := h (2 * g) hg
  unfold grpP
  split
  · rename_i h2
    have e2 := h (2 * g + 1) h2
    have hw : (wrt 0 [T (2 * g), T (2 * g + 1)]).length ≤ 1 + K * 2 := by
      simp only [wrt, List.length_append, List.flatMap_cons, List.flatMap_nil, List.length_nil]
      omega
    unfold grp2
    split <;> omega
  · simp only [wrt, List.length_append, List.flatMap_cons, List.flatMap_nil, List.length_nil]
    omega
theorem grpsP_small {T : Nat → List Int} {n K : Nat} (h : ∀ i, i < n → (trkP (T i)).length ≤ K) : ∀ g, g ≤ halves n → (grpsP T n g).length ≤ g + K * min (2 * g) n
  | 0, _ => by simp [grpsP]
  | g + 1, hg => by
    have ih := grpsP_small h g (by omega)
    have hg2 : 2 * g < n := by unfold halves at hg; omega
    have h2 := grpP_small h hg2
    have e : min (2 * (g + 1)) n = min (2 * g) n + (if 2 * g + 1 < n then 2 else 1) := by split <;> omega
    rw [grpsP, List.length_append, e, Nat.mul_add]
    omega

theorem rep_flat (f : List Int) : ∀ m, ((List.replicate m f).flatten).length = m * f.length
  | 0 => by simp
  | m + 1 => by rw [List.replicate_succ, List.flatten_cons, List.length_append, rep_flat f m, Nat.succ_mul]; omega
theorem rep_flat_getD (f : List Int) : ∀ m j q, j < m → q < f.length → ((List.replicate m f).flatten).getD (j * f.length + q) 0 = f.getD q 0
  | 0, j, q, hj, _ => by omega
  | m + 1, 0, q, _, hq => by
    rw [List.replicate_succ, List.flatten_cons, Nat.zero_mul, Nat.zero_add]
    simp [List.getD, List.getElem?_append_left hq]
  | m + 1, j + 1, q, hj, hq => by
    have ih := rep_flat_getD f m j q (by omega) hq
    rw [List.replicate_succ, List.flatten_cons]
    rw [show (j + 1) * f.length + q = f.length + (j * f.length + q) by rw [Nat.succ_mul]; omega]
    simp only [List.getD] at ih ⊢
    rw [List.getElem?_append_right (by omega), Nat.add_sub_cancel_left]
    exact ih

/-- P15.2. -/
theorem apC_small (ch b m : Nat) (f : List Int) (hw : wok ch b) (hl : f.length = ch * (b / 8)) (hb : ∀ x ∈ f, 0 ≤ x ∧ x < 256) (h1 : 2048 ≤ m * f.length) (h2 : m * f.length ≤ 4096) :
    4 * (apC (wmake ch b (List.replicate m f).flatten)).length ≤ (wmake ch b (List.replicate m f).flatten).length := by
  obtain ⟨xs, hx⟩ : ∃ xs, xs = (List.replicate m f).flatten := ⟨_, rfl⟩
  have hxl : xs.length = m * f.length := by rw [hx, rep_flat]
  have hxg : ∀ j q, j < m → q < f.length → xs.getD (j * f.length + q) 0 = f.getD q 0 := fun j q a c => by rw [hx]; exact rep_flat_getD f m j q a c
  rw [← hx]
  have hwd : b / 8 = wdT b ∧ ch * b / 8 = f.length ∧ f.length = ch * wdT b := by
    unfold wok at hw
    rcases hw.2.2 with rfl | rfl
    · have : wdT ((8 : Nat) : Int) = 1 := rfl
      rw [this]
      omega
    · have : wdT ((16 : Nat) : Int) = 2 := rfl
      rw [this]
      omega
  have hf0 : 0 < f.length := by
    rcases Nat.eq_zero_or_pos f.length with e | e
    · rw [e] at h1; omega
    · exact e
  have hfl : f.length ≤ 16 := by
    unfold wok at hw
    rcases hw.2.2 with rfl | rfl <;> omega
  have hpar : wparse (wmake ch b xs) = some (ch, b, 44, 44 + m * f.length) := by
    have := wback hw xs [] (by omega)
    rw [List.append_nil, hwd.2.1, hxl, Nat.mul_div_cancel _ hf0, if_neg (by omega)] at this
    exact this
  have hWl := wmake_length hw xs
  have hap : apC (wmake ch b xs) = apR (wmake ch b xs) (ch, b, 44, 44 + m * f.length) := by unfold apC; rw [hpar]
  have hsm : smps (wmake ch b xs) (ch, b, 44, 44 + m * f.length) = xs := by
    unfold smps
    simp only []
    rw [wmake_ok hw, ← List.append_assoc, Nat.add_sub_cancel_left]
    have := slc_mid (whead ch b xs.length ++ wdata xs.length) xs [] (p := 44) (k := m * f.length) (by rw [List.length_append, whead_length, wdata_length]) hxl
    rwa [List.append_nil] at this
  have hm2 : 2 ≤ m ∧ m ≤ 4096 := by
    refine ⟨?_, ?_⟩
    · have : m * f.length ≤ m * 16 := Nat.mul_le_mul_left _ hfl
      omega
    · have : m * 1 ≤ m * f.length := Nat.mul_le_mul_left _ hf0
      omega
  have htr : ∀ i, i < ch → trkT b xs ch i = List.replicate m (smpT b f (i * wdT b)) := fun i hi => by
    unfold trkT
    rw [hxl, hwd.2.2, Nat.mul_div_cancel _ (by rw [← hwd.2.2]; exact hf0)]
    refine (tn_ext (by rw [List.length_replicate]) fun j hj => ?_).symm
    rw [rep_getD _ hj]
    have hp : (j * ch + i) * wdT b = j * f.length + i * wdT b := by rw [Nat.add_mul, Nat.mul_assoc, ← hwd.2.2]
    have hi2 : (i + 1) * wdT b ≤ f.length := by rw [hwd.2.2]; exact Nat.mul_le_mul_right _ hi
    rw [Nat.succ_mul] at hi2
    rw [hp]
    unfold smpT
    unfold wok at hw
    rcases hw.2.2 with rfl | rfl
    · have e : wdT ((8 : Nat) : Int) = 1 := rfl
      rw [e] at hi2 ⊢
      rw [if_pos (show ((8 : Nat) : Int) = 8 by rfl), if_pos (show ((8 : Nat) : Int) = 8 by rfl), hxg j (i * 1) hj (by omega)]
    · have e : wdT ((16 : Nat) : Int) = 2 := rfl
      rw [e] at hi2 ⊢
      rw [if_neg (by decide), if_neg (by decide), hxg j (i * 2) hj (by omega), Nat.add_assoc, hxg j (i * 2 + 1) hj (by omega)]
  have hgs := grpsP_small (T := trkT b xs ch) (n := ch) (K := 3 + (5 * ((m + 63) / 64) + m + 62) / 8) (fun i hi => by
    rw [htr i hi]
    exact trk_small hm2.1 (okT_32 (smpT_ok hb (by unfold wok at hw; omega) _)) hm2.2) (halves ch) (Nat.le_refl _)
  rw [show min (2 * halves ch) ch = ch by unfold halves; omega] at hgs
  have s1 := sv_two (v := (wmake ch b xs).length) (by omega)
  have s2 := sv_one (v := 44) (by omega)
  have s3 := sv_one (v := 0) (by omega)
  rw [hap]
  unfold apR tx
  rw [hsm]
  simp only [List.length_append, List.length_take, List.length_drop]
  rw [hWl, hxl, show min 44 (44 + m * f.length) = 44 by omega, show 44 + m * f.length - (44 + m * f.length) = 0 by omega, s2, s3]
  rw [hWl] at s1
  rw [hxl] at s1
  have hh : halves ch ≤ 4 := by unfold halves; unfold wok at hw; omega
  generalize (grpsP (trkT (↑b) xs ch) ch (halves ch)).length = G at *
  generalize (sv (44 + m * f.length)).length = s at *
  rw [hwd.2.2] at h1 h2 ⊢
  unfold wok at hw
  clear htr hsm hap hpar hxg hx hxl hWl hb
  rcases hw.2.2 with rfl | rfl
  · have e : wdT ((8 : Nat) : Int) = 1 := rfl
    rw [e] at h1 h2 ⊢
    rcases (show ch = 1 ∨ ch = 2 ∨ ch = 3 ∨ ch = 4 ∨ ch = 5 ∨ ch = 6 ∨ ch = 7 ∨ ch = 8 by omega) with rfl | rfl | rfl | rfl | rfl | rfl | rfl | rfl <;> omega
  · have e : wdT ((16 : Nat) : Int) = 2 := rfl
    rw [e] at h1 h2 ⊢
    rcases (show ch = 1 ∨ ch = 2 ∨ ch = 3 ∨ ch = 4 ∨ ch = 5 ∨ ch = 6 ∨ ch = 7 ∨ ch = 8 by omega) with rfl | rfl | rfl | rfl | rfl | rfl | rfl | rfl <;> omega

end Go.Proofs.Ytodmchjdflpbpaa

/- What the laws of audio ask of the code: that packing and unpacking are two functions of bytes (ap, au) which go together as the document says; awake. -/
namespace Go.Proofs.Ytodmchjdflpbpaa
open Go.RowKit
set_option maxRecDepth 100000

attribute [local go_sem ↓] Go.wp_at_zero Go.wp_at_succ

/-- Bytes, and a file that may be packed. -/
def AuIn (bs : List Int) : Prop := (∀ x ∈ bs, 0 ≤ x ∧ x < 256) ∧ bs.length ≤ 1048576 ∧ (wparse bs).isSome = true

/-- The code's two calls: what is packed is ap, what is unpacked is au. -/
structure AudioOK (ap : List Int → List Int) (au : List Int → Int → Int × List Int) : Prop where
  pack : ∀ (A : Option Addr) (n c : Nat) (bs : List Int) (w : World), Row w .u8 A n bs → (∀ x ∈ bs, 0 ≤ x ∧ x < 256) → n ≤ 1048576 → n ≤ c → (wparse bs).isSome = true →
    Calls Try.prog 5 #[.slice A n c] w fun e w' => ∃ u, e = .returned (.tuple #[u, .bool true]) ∧ NewRow w w' 5 .u8 u (ap bs)
  refuse : ∀ (A : Option Addr) (n c : Nat) (bs : List Int) (w : World), Row w .u8 A n bs → (∀ x ∈ bs, 0 ≤ x ∧ x < 256) → n ≤ 1048576 → n ≤ c → (wparse bs).isSome = false →
    Calls Try.prog 5 #[.slice A n c] w fun e w' => e = .returned (.tuple #[.slice none 0 0, .bool false]) ∧ Fresh w w'
  byte : ∀ bs, AuIn bs → ∀ x ∈ ap bs, 0 ≤ x ∧ x < 256
  len : ∀ bs, AuIn bs → 0 < (ap bs).length ∧ (ap bs).length ≤ 16777216
  small : ∀ (ch b m : Nat) (f : List Int), wok ch b → f.length = ch * (b / 8) → (∀ x ∈ f, 0 ≤ x ∧ x < 256) → 2048 ≤ m * f.length → m * f.length ≤ 4096 →
    4 * (ap (wmake ch b (List.replicate m f).flatten)).length ≤ (wmake ch b (List.replicate m f).flatten).length

theorem AuIn.made {ch b : Nat} {xs : List Int} (h : wok ch b) (hx : ∀ x ∈ xs, 0 ≤ x ∧ x < 256) (hl : xs.length ≤ 5000) (hf : (wparse (wmake ch b xs)).isSome = true) : AuIn (wmake ch b xs) :=
  ⟨wmake_byte ch b hx, by rw [wmake_length h]; omega, hf⟩
theorem au_two : wparse (wmake 1 8 [1, 2]) = some (1, 8, 44, 46) := by
  have hw := wback (ch := 1) (b := 8) (by unfold wok; omega) [1, 2] [] (by decide)
  rw [List.append_nil] at hw
  exact hw

set_option maxHeartbeats 1600000 in
theorem awakeA_any {ap : List Int → List Int} {au : List Int → Int → Int × List Int} (hc : AudioOK ap au) (w : World) : Calls Try.prog 6 #[] w fun e w' => e = .returned (.bool true) ∧ Fresh w w' := by
  have HM := Lib.hid (qWMake_any 1 8 0 0 (some ⟨w.heap.size, 0, none⟩) 2 2 [1, 2] _ (laidB w 5 [1, 2]) (by omega))
  have hin : AuIn (wmake 1 8 [1, 2]) := AuIn.made (ch := 1) (b := 8) (by unfold wok; omega) (by decide) (by decide) (by rw [show ((1 : Nat) : Int) = 1 from rfl, show ((8 : Nat) : Int) = 8 from rfl, au_two]; rfl)
  have HI := Lib.hid hin
  have hl := (hc.len _ hin).1
  have HL := Lib.hid hl
  have HC := Lib.hid hc
  clear hc hin hl
  go_enter Try.func6, Try.ntmps6
  go_wp2_with fail
  refine HM.out.mono ?_
  rintro e w1 ⟨u, rfl, hu, _, hf1⟩
  have hcap := hu
  obtain ⟨Au, cu, rfl, hru, _⟩ := hu.row
  have H1 := Lib.hid (((Kept.refl (fun _ => False) w).alloc (.cells (ivs .u8 [1, 2]).toArray 5)).trans hf1 (fun _ _ h => h))
  have HP := Lib.hid (HC.out.pack Au _ cu (wmake 1 8 [1, 2]) w1 hru HI.out.1 HI.out.2.1 hcap.cap HI.out.2.2)
  clear hu hf1 hru HM hcap
  generalize (wmake 1 8 [1, 2]).length = lu at *
  go_wp2_with fail
  refine HP.out.mono ?_
  rintro e w2 ⟨v, rfl, hv, _, hf2⟩
  obtain ⟨Av, cv, rfl, hrv, _⟩ := hv.row
  have hlen := HL.out
  have H2 := Lib.hid (H1.out.trans hf2 (fun _ _ h => h))
  clear hv hrv hf2 HP H1
  generalize (ap (wmake 1 8 [1, 2])).length = lv at *
  have hlen2 : (0 : Int) < (lv : Int) := by omega
  go_wp2_with fail
  go_ret
  exact ⟨rfl, H2.out⟩

end Go.Proofs.Ytodmchjdflpbpaa

/- The code of audio's Pack keeps what the law on small packs asks. -/
namespace Go.Proofs.Ytodmchjdflpbpaa
open Go.RowKit
set_option maxRecDepth 100000

theorem audioOK : AudioOK apC fun _ _ => (0, []) where
  pack := fun A n c bs w hr hb hn hnc hw => by
    obtain ⟨r, hr2⟩ := Option.isSome_iff_exists.1 hw
    have hap : apC bs = apR bs r := by unfold apC; rw [hr2]
    rw [hap]
    exact cPackA_any A n c bs r w hr hb hn hnc hr2
  refuse := fun A n c bs w hr hb hn hnc hw => cPackANo_any A n c bs w hr hb hn hnc (by cases h : wparse bs with
    | none => rfl
    | some r => rw [h] at hw; cases hw)
  byte := fun bs h => apC_byte h.1
  len := fun bs h => apC_len h.2.1 h.2.2
  small := fun ch b m f hw hl hb h1 h2 => apC_small ch b m f hw hl hb h1 h2

end Go.Proofs.Ytodmchjdflpbpaa
