/- Texts of this proof, one behind the other: AudSm, AudU, AudV, AudAw, AudC. -/
import Derived.Test.YtodmchjdflpbpaaGreatPart5
import Derived.Test.YtodmchjdflpbpaaGreatPart7
import Derived.Test.YtodmchjdflpbpaaGreatHusC
import Derived.Test.YtodmchjdflpbpaaGreatPart6
import Derived.Test.YtodmchjdflpbpaaGreatPart1
import Derived.Test.YtodmchjdflpbpaaGreatOwnSpl
import Derived.Lib.MinMax
import Derived.Test.YtodmchjdflpbpaaGreatWavAw

/- Audio, as plain mathematics: files whose samples are the same all the while are small. -/
namespace Go.Proofs.YtodmchjdflpbpaaGreat
open Go.RowKit
set_option maxRecDepth 100000

theorem sv_one {v : Nat} (h : v < 128) : (sv v).length = 1 := by rw [sv_lo h]; rfl
theorem sv_two {v : Nat} (h : v < 16384) : (sv v).length ≤ 2 := by
  by_cases h1 : v < 128
  · rw [sv_one h1]; omega
  · rw [sv_hi h1, List.length_cons, sv_one (by omega)]
    omega
/-- No block costs more than with the parameter 0. -/
theorem rto_cost (l : List Int) : ∀ j, (rto l j).length ≤ 5 * j + rcost 0 (l.take (64 * j))
  | 0 => by simp [rto]
  | j + 1 => by
    have ih := rto_cost l j
    have h2 := rbestTo_min (rpart l j) 24 0 (by omega)
    have h3 := rcost_append 0 (rpart l j) (l.take (64 * j))
    rw [take_part] at h3
    rw [rto, List.length_append, rblock_length]
    unfold rbest
    omega
theorem rall_cost (l : List Int) : (rall l).length ≤ 5 * ((l.length + 63) / 64) + rcost 0 l := by
  have := rto_cost l (rblocks l)
  rw [List.take_of_length_le (show l.length ≤ 64 * rblocks l by unfold rblocks; omega)] at this
  exact this
theorem rcost_zeros : ∀ l : List Int, (∀ i, i < l.length → l.getD i 0 = 0) → rcost 0 l = l.length
  | [], _ => rfl
  | x :: r, h => by
    have h0 := h 0 (by simp)
    simp at h0
    subst h0
    have ih := rcost_zeros r (fun i hi => by
      have := h (i + 1) (by simpa using hi)
      simpa using this)
    rw [rcost, ih]
    have : rsize 0 (fold 0) = 1 := by decide
    rw [this, List.length_cons]
    omega
theorem rcost_flat {l : List Int} (h : ∀ i, 1 ≤ i → i < l.length → l.getD i 0 = 0) : rcost 0 l ≤ 55 + l.length := by
  cases l with
  | nil => simp [rcost]
  | cons x r =>
    have h1 := rcost_zeros r (fun i hi => by
      have := h (i + 1) (by omega) (by simpa using hi)
      simpa using this)
    have h2 := rsize_le (k := 0) (by omega) (fold x)
    rw [rcost, h1, List.length_cons]
    omega
theorem weight_zeros : ∀ l : List Int, (∀ i, i < l.length → l.getD i 0 = 0) → weight l = 0
  | [], _ => rfl
  | x :: r, h => by
    have h0 := h 0 (by simp)
    simp at h0
    subst h0
    rw [weight, weight_zeros r (fun i hi => by
      have := h (i + 1) (by simpa using hi)
      simpa using this)]
    rfl
theorem weight_head {l : List Int} (h : 0 < l.length) : (l.getD 0 0).natAbs ≤ weight l := by
  cases l with
  | nil => simp at h
  | cons x r => simp [weight]
theorem rep_getD {m i : Nat} (v : Int) (h : i < m) : (List.replicate m v).getD i 0 = v := by simp [List.getD, h]
theorem gs_zero (k : Nat) (l : List Int) : gs k l 0 = 0 := by
  unfold gs
  rw [pv_none l (by omega), pv_none l (by omega), pv_none l (by omega)]
  unfold gp
  split
  · rfl
  split
  · rfl
  split <;> rfl
theorem flat_one {m i : Nat} {v : Int} (h1 : 1 ≤ i) (hi : i < m) : (res 1 (List.replicate m v)).getD i 0 = 0 := by
  rw [res_getD 1 _ (by simpa using hi), rep_getD v hi]
  unfold gs gp
  rw [if_neg (by omega), if_pos rfl, pv_some _ h1, rep_getD v (by omega), Int.sub_self]
  rfl
section
variable {m : Nat} {v : Int} (hm : 2 ≤ m) (hv : -2147483648 ≤ v ∧ v < 2147483648)
include hm hv
theorem flat_head (k : Nat) : (res k (List.replicate m v)).getD 0 0 = v := by
  rw [res_getD k _ (by simp; omega), gs_zero, rep_getD v (by omega), Int.sub_zero, w32_id hv]
theorem flat_wres (k : Nat) : v.natAbs ≤ wres (List.replicate m v) k := by
  have := weight_head (l := res k (List.replicate m v)) (by rw [res_length, List.length_replicate]; omega)
  rw [flat_head hm hv] at this
  exact this
theorem flat_wres1 : wres (List.replicate m v) 1 = v.natAbs := by
  have hl := res_length 1 (List.replicate m v)
  rw [List.length_replicate] at hl
  unfold wres
  have h0 := flat_head hm hv 1
  have h1 : ∀ i, 1 ≤ i → i < m → (res 1 (List.replicate m v)).getD i 0 = 0 := fun i a b => flat_one a b
  generalize res 1 (List.replicate m v) = r at *
  cases r with
  | nil => simp at hl; omega
  | cons x t =>
    simp at h0
    subst h0
    rw [weight, weight_zeros t (fun i hi => by
      have := h1 (i + 1) (by omega) (by rw [← hl]; simpa using hi)
      simpa using this)]
    omega
theorem flat_rest {i : Nat} (h1 : 1 ≤ i) (hi : i < m) : (res (bestOr (List.replicate m v) 3) (List.replicate m v)).getD i 0 = 0 := by
  have a1 := flat_wres1 hm hv
  have a2 := flat_wres hm hv 2
  have a3 := flat_wres hm hv 3
  have hb : bestOr (List.replicate m v) 3 = bestOr (List.replicate m v) 1 ∧ wres (List.replicate m v) (bestOr (List.replicate m v) 1) ≤ v.natAbs := by
    have h1 : wres (List.replicate m v) (bestOr (List.replicate m v) 1) ≤ v.natAbs := by
      rw [show bestOr (List.replicate m v) 1 = if wres (List.replicate m v) 1 < wres (List.replicate m v) 0 then 1 else 0 from rfl]
      split <;> omega
    have h2 : bestOr (List.replicate m v) 2 = bestOr (List.replicate m v) 1 := by
      rw [show bestOr (List.replicate m v) 2 = if wres (List.replicate m v) 2 < wres (List.replicate m v) (bestOr (List.replicate m v) 1) then 2 else bestOr (List.replicate m v) 1 from rfl, if_neg (by omega)]
    have h3 : bestOr (List.replicate m v) 3 = bestOr (List.replicate m v) 2 := by
      rw [show bestOr (List.replicate m v) 3 = if wres (List.replicate m v) 3 < wres (List.replicate m v) (bestOr (List.replicate m v) 2) then 3 else bestOr (List.replicate m v) 2 from rfl, if_neg (by rw [h2]; omega)]
    exact ⟨h3.trans h2, h1⟩
  rw [hb.1]
  have hw := hb.2
  rw [show bestOr (List.replicate m v) 1 = if wres (List.replicate m v) 1 < wres (List.replicate m v) 0 then 1 else 0 from rfl] at hw ⊢
  split at hw
  · rename_i h
    rw [if_pos h]
    exact flat_one h1 hi
  · rename_i h
    rw [if_neg h]
    have hz := res_zero (l := List.replicate m v) (fun x hx => by rw [List.eq_of_mem_replicate hx]; exact hv)
    rw [hz, rep_getD v hi]
    unfold wres at hw
    rw [hz] at hw
    obtain ⟨q, rfl⟩ : ∃ q, m = q + 2 := ⟨m - 2, by omega⟩
    rw [List.replicate_succ, List.replicate_succ, weight, weight] at hw
    omega
/-- A track whose samples are alike. -/
theorem trk_small (hm2 : m ≤ 4096) : (trkP (List.replicate m v)).length ≤ 3 + (5 * ((m + 63) / 64) + m + 62) / 8 := by
  have hb := bestOr_le (List.replicate m v) 3
  have h1 : (pkT (tagT (List.replicate m v)) (List.replicate m v)).length ≤ (pkT (bestOr (List.replicate m v) 3) (List.replicate m v)).length := by
    unfold tagT
    split <;> omega
  have h2 : (pkT (bestOr (List.replicate m v) 3) (List.replicate m v)).length ≤ (5 * ((m + 63) / 64) + m + 62) / 8 := by
    have e : lev (bestOr (List.replicate m v) 3) (List.replicate m v) = res (bestOr (List.replicate m v) 3) (List.replicate m v) := if_neg (by omega)
    unfold pkT
    rw [pk_length, e]
    have hc := rall_cost (res (bestOr (List.replicate m v) 3) (List.replicate m v))
    have hf := rcost_flat (l := res (bestOr (List.replicate m v) 3) (List.replicate m v)) (fun i a b => flat_rest hm hv a (by rwa [res_length, List.length_replicate] at b))
    rw [res_length, List.length_replicate] at hc hf
    omega
  have h3 := tagT_le (List.replicate m v)
  have h4 := sv_one (v := tagT (List.replicate m v)) (by omega)
  have h5 := sv_two (v := (pkT (tagT (List.replicate m v)) (List.replicate m v)).length) (by omega)
  unfold trkP tx
  simp only [List.length_append]
  omega
end

theorem grpP_small {T : Nat → List Int} {n g K : Nat} (h : ∀ i, i < n → (trkP (T i)).length ≤ K) (hg : 2 * g < n) : (grpP T n g).length ≤ 1 + K * (if 2 * g + 1 < n then 2 else 1) := by
  have s0 := sv_one (v := 0) (by omega)
  have e1 := h (2 * g) hg
  unfold grpP
  split
  · rename_i h2
    have e2 := h (2 * g + 1) h2
    have hw : (wrt 0 [T (2 * g), T (2 * g + 1)]).length ≤ 1 + K * 2 := by
      simp only [wrt, List.length_append, List.flatMap_cons, List.flatMap_nil, List.length_nil]
      omega
    unfold grp2
    split <;> omega
  · simp only [wrt, List.length_append, List.flatMap_cons, List.flatMap_nil, List.length_nil]
    omega
theorem grpsP_small {T : Nat → List Int} {n K : Nat} (h : ∀ i, i < n → (trkP (T i)).length ≤ K) : ∀ g, g ≤ halves n → (grpsP T n g).length ≤ g + K * min (2 * g) n
  | 0, _ => by simp [grpsP]
  | g + 1, hg => by
    have ih := grpsP_small h g (by omega)
    have hg2 : 2 * g < n := by unfold halves at hg; omega
    have h2 := grpP_small h hg2
    have e : min (2 * (g + 1)) n = min (2 * g) n + (if 2 * g + 1 < n then 2 else 1) := by split <;> omega
    rw [grpsP, List.length_append, e, Nat.mul_add]
    omega

theorem rep_flat (f : List Int) : ∀ m, ((List.replicate m f).flatten).length = m * f.length
  | 0 => by simp
  | m + 1 => by rw [List.replicate_succ, List.flatten_cons, List.length_append, rep_flat f m, Nat.succ_mul]; omega
theorem rep_flat_getD (f : List Int) : ∀ m j q, j < m → q < f.length → ((List.replicate m f).flatten).getD (j * f.length + q) 0 = f.getD q 0
  | 0, j, q, hj, _ => by omega
  | m + 1, 0, q, _, hq => by
    rw [List.replicate_succ, List.flatten_cons, Nat.zero_mul, Nat.zero_add]
    simp [List.getD, List.getElem?_append_left hq]
  | m + 1, j + 1, q, hj, hq => by
    have ih := rep_flat_getD f m j q (by omega) hq
    rw [List.replicate_succ, List.flatten_cons]
    rw [show (j + 1) * f.length + q = f.length + (j * f.length + q) by rw [Nat.succ_mul]; omega]
    simp only [List.getD] at ih ⊢
    rw [List.getElem?_append_right (by omega), Nat.add_sub_cancel_left]
    exact ih

/-- P15.2. -/
theorem apC_small (ch b m : Nat) (f : List Int) (hw : wok ch b) (hl : f.length = ch * (b / 8)) (hb : ∀ x ∈ f, 0 ≤ x ∧ x < 256) (h1 : 2048 ≤ m * f.length) (h2 : m * f.length ≤ 4096) :
    4 * (apC (wmake ch b (List.replicate m f).flatten)).length ≤ (wmake ch b (List.replicate m f).flatten).length := by
  obtain ⟨xs, hx⟩ : ∃ xs, xs = (List.replicate m f).flatten := ⟨_, rfl⟩
  have hxl : xs.length = m * f.length := by rw [hx, rep_flat]
  have hxg : ∀ j q, j < m → q < f.length → xs.getD (j * f.length + q) 0 = f.getD q 0 := fun j q a c => by rw [hx]; exact rep_flat_getD f m j q a c
  rw [← hx]
  have hwd : b / 8 = wdT b ∧ ch * b / 8 = f.length ∧ f.length = ch * wdT b := by
    unfold wok at hw
    rcases hw.2.2 with rfl | rfl
    · have : wdT ((8 : Nat) : Int) = 1 := rfl
      rw [this]
      omega
    · have : wdT ((16 : Nat) : Int) = 2 := rfl
      rw [this]
      omega
  have hf0 : 0 < f.length := by
    rcases Nat.eq_zero_or_pos f.length with e | e
    · rw [e] at h1; omega
    · exact e
  have hfl : f.length ≤ 16 := by
    unfold wok at hw
    rcases hw.2.2 with rfl | rfl <;> omega
  have hpar : wparse (wmake ch b xs) = some (ch, b, 44, 44 + m * f.length) := by
    have := wback hw xs [] (by omega)
    rw [List.append_nil, hwd.2.1, hxl, Nat.mul_div_cancel _ hf0, if_neg (by omega)] at this
    exact this
  have hWl := wmake_length hw xs
  have hap : apC (wmake ch b xs) = apR (wmake ch b xs) (ch, b, 44, 44 + m * f.length) := by unfold apC; rw [hpar]
  have hsm : smps (wmake ch b xs) (ch, b, 44, 44 + m * f.length) = xs := by
    unfold smps
    simp only []
    rw [wmake_ok hw, ← List.append_assoc, Nat.add_sub_cancel_left]
    have := slc_mid (whead ch b xs.length ++ wdata xs.length) xs [] (p := 44) (k := m * f.length) (by rw [List.length_append, whead_length, wdata_length]) hxl
    rwa [List.append_nil] at this
  have hm2 : 2 ≤ m ∧ m ≤ 4096 := by
    refine ⟨?_, ?_⟩
    · have : m * f.length ≤ m * 16 := Nat.mul_le_mul_left _ hfl
      omega
    · have : m * 1 ≤ m * f.length := Nat.mul_le_mul_left _ hf0
      omega
  have htr : ∀ i, i < ch → trkT b xs ch i = List.replicate m (smpT b f (i * wdT b)) := fun i hi => by
    unfold trkT
    rw [hxl, hwd.2.2, Nat.mul_div_cancel _ (by rw [← hwd.2.2]; exact hf0)]
    refine (tn_ext (by rw [List.length_replicate]) fun j hj => ?_).symm
    rw [rep_getD _ hj]
    have hp : (j * ch + i) * wdT b = j * f.length + i * wdT b := by rw [Nat.add_mul, Nat.mul_assoc, ← hwd.2.2]
    have hi2 : (i + 1) * wdT b ≤ f.length := by rw [hwd.2.2]; exact Nat.mul_le_mul_right _ hi
    rw [Nat.succ_mul] at hi2
    rw [hp]
    unfold smpT
    unfold wok at hw
    rcases hw.2.2 with rfl | rfl
    · have e : wdT ((8 : Nat) : Int) = 1 := rfl
      rw [e] at hi2 ⊢
      rw [if_pos (show ((8 : Nat) : Int) = 8 by rfl), if_pos (show ((8 : Nat) : Int) = 8 by rfl), hxg j (i * 1) hj (by omega)]
    · have e : wdT ((16 : Nat) : Int) = 2 := rfl
      rw [e] at hi2 ⊢
      rw [if_neg (by decide), if_neg (by decide), hxg j (i * 2) hj (by omega), Nat.add_assoc, hxg j (i * 2 + 1) hj (by omega)]
  have hgs := grpsP_small (T := trkT b xs ch) (n := ch) (K := 3 + (5 * ((m + 63) / 64) + m + 62) / 8) (fun i hi => by
    rw [htr i hi]
    exact trk_small hm2.1 (okT_32 (smpT_ok hb (by unfold wok at hw; omega) _)) hm2.2) (halves ch) (Nat.le_refl _)
  rw [show min (2 * halves ch) ch = ch by unfold halves; omega] at hgs
  have s1 := sv_two (v := (wmake ch b xs).length) (by omega)
  have s2 := sv_one (v := 44) (by omega)
  have s3 := sv_one (v := 0) (by omega)
  rw [hap]
  unfold apR tx
  rw [hsm]
  simp only [List.length_append, List.length_take, List.length_drop]
  rw [hWl, hxl, show min 44 (44 + m * f.length) = 44 by omega, show 44 + m * f.length - (44 + m * f.length) = 0 by omega, s2, s3]
  rw [hWl] at s1
  rw [hxl] at s1
  have hh : halves ch ≤ 4 := by unfold halves; unfold wok at hw; omega
  generalize (grpsP (trkT (↑b) xs ch) ch (halves ch)).length = G at *
  generalize (sv (44 + m * f.length)).length = s at *
  rw [hwd.2.2] at h1 h2 ⊢
  unfold wok at hw
  clear htr hsm hap hpar hxg hx hxl hWl hb
  rcases hw.2.2 with rfl | rfl
  · have e : wdT ((8 : Nat) : Int) = 1 := rfl
    rw [e] at h1 h2 ⊢
    rcases (show ch = 1 ∨ ch = 2 ∨ ch = 3 ∨ ch = 4 ∨ ch = 5 ∨ ch = 6 ∨ ch = 7 ∨ ch = 8 by omega) with rfl | rfl | rfl | rfl | rfl | rfl | rfl | rfl <;> omega
  · have e : wdT ((16 : Nat) : Int) = 2 := rfl
    rw [e] at h1 h2 ⊢
    rcases (show ch = 1 ∨ ch = 2 ∨ ch = 3 ∨ ch = 4 ∨ ch = 5 ∨ ch = 6 ∨ ch = 7 ∨ ch = 8 by omega) with rfl | rfl | rfl | rfl | rfl | rfl | rfl | rfl <;> omega

end Go.Proofs.YtodmchjdflpbpaaGreat

/- Audio's Unpack. -/
namespace Go.Proofs.YtodmchjdflpbpaaGreat
open Go.RowKit
set_option maxRecDepth 100000

attribute [local go_sem ↓] Go.wp_at_zero Go.wp_at_succ

/-- Pack, whatever the file is. -/
theorem cPackO_any (A : Option Addr) (n c : Nat) (bs : List Int) (w : World) (hr : Row w .u8 A n bs) (hb : ∀ x ∈ bs, 0 ≤ x ∧ x < 256) (hn : n ≤ 1048576) (hnc : n ≤ c) :
    Calls Tryz.prog 8 #[.slice A n c] w fun e w' => ∃ u ok, e = .returned (.tuple #[u, .bool ok]) ∧ NewRow w w' 5 .u8 u (apC bs) := by
  rcases hp : wparse bs with _ | r
  · refine (cPackANo_any A n c bs w hr hb hn hnc hp).mono fun e w' h => ⟨_, _, h.1, ?_⟩
    unfold apC
    rw [hp]
    exact ⟨Own.nil _ _ _, fun k e => (by cases e), h.2⟩
  · refine (cPackA_any A n c bs r w hr hb hn hnc hp).mono fun e w' h => ?_
    obtain ⟨u, he, hu⟩ := h
    refine ⟨u, _, he, ?_⟩
    unfold apC
    rw [hp]
    exact hu

/-- What reading a file leaves. -/
def FlPost (g : Nat) (xs : List Int) (m : Nat) (w : World) (e : Ending) (w' : World) : Prop :=
  ∃ u, e = .returned (.tuple #[u, .int .i64 (filA xs m).1]) ∧ Own w' 5 .u8 u (filA xs m).2 ∧ (∀ k, u.ownBlock = some k → w.heap.size ≤ k) ∧ Mine g w w'

set_option maxHeartbeats 6400000 in
/-- file. -/
theorem cFile_any (g : Nat) (t : TypeId) (ext : List Value) (A : Option Addr) (cA : Nat) (xs : List Int) (most : Int) (w : World) (h : NRd w g t ext A cA xs 0 0) (hx : xs.length ≤ 100000000) :
    Calls Tryz.prog 24 #[.agg #[.pointer (some ⟨g, 0, none⟩)], .int .i64 most] w (FlPost g xs (mst most) w) := by
  obtain ⟨m, hms⟩ : ∃ m, m = mst most := ⟨_, rfl⟩
  have hm : m ≤ 1048576 := by rw [hms]; exact (mst_le most).1
  have hsz1 := byte_size
  obtain ⟨W0, hW0⟩ : ∃ W0, W0 = w.alloc (.cells #[.pointer (some ⟨g, 0, none⟩)] 60) := ⟨_, rfl⟩
  have hf0 : Fresh w W0 := by rw [hW0]; exact (Kept.refl _ _).alloc _
  have hb0 : Blk W0 w.heap.size 60 #[.pointer (some ⟨g, 0, none⟩)] := by rw [hW0]; exact Blk.new _ _ _
  have hgw : g < w.heap.size := h.blk.lt
  have hby := h.byte
  have h0 : NRd W0 g t ext A cA xs 0 0 := h.kept hf0 id (fun _ _ _ _ => id)
  have HB := Lib.hid (hRead_any g t ext A cA xs most W0 h0)
  rw [← hms] at HB ⊢
  clear hms
  have k0 : W0.cell? ⟨w.heap.size, 0, none⟩ = some (.pointer (some ⟨g, 0, none⟩)) := (hb0.cell 0).trans rfl
  have HB0 := Lib.hid (And.intro hf0 hb0)
  have hpx : w.heap.size < W0.heap.size := hb0.lt
  have HE : Hid (filA xs m = if (blkA xs m).1 ≠ 0 then ((blkA xs m).1, []) else match wparse (blkB xs m) with
    | none => (4, [])
    | some r => filR xs m r) := Lib.hid rfl
  have hbb : ∀ x ∈ blkB xs m, 0 ≤ x ∧ x < 256 := blkB_byte hby
  clear h h0 hf0 hb0
  go_enter Tryz.func24, Tryz.ntmps24
  go_wp2_with fail
  rw [← hW0]
  refine HB.out.mono ?_
  rintro e w1 ⟨u, rfl, hu, hun, hrd, hk1⟩
  have hk01 : Mine g w w1 := (HB0.out.1.mono (T := fun k => k = g) fun _ _ e => e.elim).trans hk1 fun _ _ e => e
  have hb1 := HB0.out.2.kept hk1 (by omega)
  have k1 : w1.cell? ⟨w.heap.size, 0, none⟩ = some (.pointer (some ⟨g, 0, none⟩)) := (hb1.cell 0).trans rfl
  clear HB hW0 k0
  by_cases he : (blkA xs m).1 = 0
  · have hlt : ¬ m < (nx xs 0 0).1 ∧ ¬ (nx xs 0 0).1 < (blkH xs m).1.length + (blkT xs m).1.length ∧ (blkA xs m).2 = blkB xs m := by
      unfold blkA at he ⊢
      split at he
      · cases he
      split at he
      · rename_i h1 h2; exact absurd he h2
      split at he
      · cases he
      · rename_i h1 h2 h3
        rw [if_neg h1, if_neg h2, if_neg h3]
        exact ⟨h1, h3, rfl⟩
    have hbl := blkB_length hlt.2.1
    rw [hlt.2.2] at hu
    have hble : (blkB xs m).length ≤ 1048576 := by omega
    have hrd := hrd he
    rw [if_neg (by omega)] at HE
    rw [he]
    clear hlt hbl
    obtain ⟨b, hb⟩ : ∃ b, b = blkB xs m := ⟨_, rfl⟩
    rw [← hb] at hu hble hbb HE
    have Hb := Lib.hid hb
    clear hb he
    obtain ⟨Bu, cu, rfl, hru, _⟩ := hu.row
    have hcap := hu.cap
    have HP := Lib.hid (cParse_any Bu b.length cu b w1 hru hbb (by omega) hcap)
    have H1 := Lib.hid (And.intro hu (And.intro hun (And.intro hrd (And.intro hk01 hb1))))
    clear hu hun hrd hk1 hk01 hb1 hru
    rcases hp : wparse b with _ | r
    · rw [show ParsePost b w1 = fun e w' => e = .returned (.tuple #[wval none, .bool false]) ∧ Fresh w1 w' from by unfold ParsePost; rw [hp]; rfl] at HP
      unfold wval at HP
      have HQ : Hid (filA xs m = (4, [])) := Lib.hid (by rw [HE.out, hp])
      clear HE hp
      generalize b.length = lb at *
      go_wp2_with fail
      refine HP.out.mono ?_
      rintro e w2 ⟨rfl, hf2⟩
      have H2 := Lib.hid hf2
      clear hf2 HP
      go_wp2_with fail
      go_ret2
      unfold FlPost
      rw [HQ.out]
      exact ⟨_, rfl, Own.nil _ _ _, fun k e => (by cases e), H1.out.2.2.2.1.trans (H2.out.alloc _) fun _ _ e => e.elim⟩
    · rw [show ParsePost b w1 = fun e w' => e = .returned (.tuple #[wval (some r), .bool true]) ∧ Fresh w1 w' from by unfold ParsePost; rw [hp]; rfl] at HP
      unfold wval at HP
      have hpt := Pt.of hp
      obtain ⟨ch, bt, f, tt⟩ := r
      simp only [] at HP
      have HQ : Hid (filA xs m = filR xs m (ch, bt, f, tt)) := Lib.hid (by rw [HE.out, hp])
      have q1 := hpt.ch
      have q2 := hpt.bt
      have q3 := hpt.ft
      have q4 := hpt.fr
      simp only [] at q1 q2 q3 q4
      have Hpt := Lib.hid hpt
      clear HE hp hpt
      go_wp2_with fail
      refine HP.out.mono ?_
      rintro e w2 ⟨rfl, hf2⟩
      clear HP
      obtain ⟨W3, hW3⟩ : ∃ W3, W3 = w2.alloc (.cells #[.int .i64 ch, .int .i64 bt, .int .i64 f, .int .i64 tt] 28) := ⟨_, rfl⟩
      have hf3 : Fresh w1 W3 := by rw [hW3]; exact hf2.alloc _
      have hbw : Blk W3 w2.heap.size 28 #[.int .i64 ch, .int .i64 bt, .int .i64 f, .int .i64 tt] := by rw [hW3]; exact Blk.new _ _ _
      have hz2 : w1.heap.size ≤ w2.heap.size := hf2.size
      have HSm := Lib.hid (cSamples_any g t ext A cA xs (blkT xs m).2.1 ch bt f tt W3 (H1.out.2.2.1.kept hf3 id (fun _ _ _ _ => id)) hx q1 q2 (by omega) q4)
      have k0 : (w2.alloc (.cells #[.int .i64 ch, .int .i64 bt, .int .i64 f, .int .i64 tt] 28)).cell? ⟨w.heap.size, 0, none⟩ = some (.pointer (some ⟨g, 0, none⟩)) := (((H1.out.2.2.2.2.kept hf2 id).alloc _).cell 0).trans rfl
      have hwz : w.heap.size < w1.heap.size := H1.out.2.2.2.2.lt
      have H3 := Lib.hid (And.intro hf3 hbw)
      have hgW : w2.heap.size < W3.heap.size := hbw.lt
      clear hf2 hf3 hbw
      go_wp2_with fail
      rw [← hW3]
      refine HSm.out.mono ?_
      rintro e w4 ⟨v, rfl, hv, hvn, hk4⟩
      have hgb : ∀ k, (Value.slice Bu b.length cu).ownBlock = some k → g ≠ k := fun k e => by
        have := H1.out.2.1 k e
        omega
      have hb4 : Blk w4 w2.heap.size 28 #[.int .i64 ch, .int .i64 bt, .int .i64 f, .int .i64 tt] := H3.out.2.kept hk4 (by omega)
      have hu4 := (H1.out.1.kept H3.out.1 (fun _ _ => id)).kept hk4 (fun k e e2 => hgb k e e2.symm)
      have hk34 : Mine g w w4 := (H1.out.2.2.2.1.trans H3.out.1 fun _ _ e => e.elim).trans hk4 fun _ _ e => e
      have f2 : w4.cell? ⟨w2.heap.size, 2, none⟩ = some (.int .i64 f) := (hb4.cell 2).trans rfl
      have f3 : w4.cell? ⟨w2.heap.size, 3, none⟩ = some (.int .i64 tt) := (hb4.cell 3).trans rfl
      have hsl : (samA xs (blkT xs m).2.1 (ch, bt, f, tt)).1 = 0 → (samA xs (blkT xs m).2.1 (ch, bt, f, tt)).2.length = tt - f := fun h => samA_len Hpt.out h
      have HFr : Hid (filR xs m (ch, bt, f, tt) = if (samA xs (blkT xs m).2.1 (ch, bt, f, tt)).1 ≠ 0 then ((samA xs (blkT xs m).2.1 (ch, bt, f, tt)).1, []) else (0, b.take f ++ ((samA xs (blkT xs m).2.1 (ch, bt, f, tt)).2 ++ b.drop tt))) := Lib.hid (by rw [Hb.out]; rfl)
      clear HSm hb4 k0 hW3
      generalize samA xs (blkT xs m).2.1 (ch, bt, f, tt) = S at *
      obtain ⟨es, sm⟩ := S
      simp only [] at *
      obtain ⟨As, cs, rfl, hrs, _⟩ := hv.row
      by_cases hes : es = 0
      · subst hes
        have hsl := hsl rfl
        rw [hsl] at hrs hv
        rw [hsl]
        have HQ2 : Hid (filA xs m = (0, b.take f ++ (sm ++ b.drop tt))) := Lib.hid (by rw [HQ.out, HFr.out, if_neg (by simp)])
        obtain ⟨gb, capb, eb, _⟩ := hu4.form (by omega)
        injection eb with e1 _ e3
        subst e1 e3
        have hvf := hv
        rw [← hsl] at hvf
        obtain ⟨gs, caps, ev, _⟩ := hvf.form (by omega)
        injection ev with e4 _ e5
        subst e4 e5
        have hcp := hu4.cap
        obtain ⟨cur, hcur, hcs, hown, hkown⟩ := hu4.splice (f := f) (ys := sm) (by omega)
        rw [hsl, show f + (tt - f) = tt by omega] at hcs
        rw [show b.drop (f + sm.length) = b.drop tt by rw [hsl]; congr 1; omega] at hown
        have hsP := fun V => run_slice_part 22 5 Tryz.underlying22 hsz1 (some ⟨gb, 0, none⟩) b.length cu f tt (tt : Int) rfl (by omega) (by omega) V
        rw [show cutAt (some ⟨gb, 0, none⟩) f cu = some ⟨gb, f, none⟩ by unfold cutAt; rw [if_neg (by omega)]; simp [Addr.add]; omega] at hsP
        have hnews := hrs.news
        have HO := Lib.hid (And.intro hown hkown)
        have HK := Lib.hid hk34
        have HU := Lib.hid H1.out.2.1
        clear hown hkown HFr HQ hv hvn hk4 hu4 hk34 hrs hvf hgb
        go_wp2_with (refine wpList_copy_own rfl (.tmp 42) (.tmp 43) 22 22 rfl 5 Tryz.underlying22 (by kernel_rfl) gb f (tt - f) (cu - f) ⟨gs, 0, none⟩ (tt - f) cs rfl rfl cur 5 hcur (ivs .u8 sm) (by rw [ivs_length, hsl]; exact (Nat.min_self _).symm) hnews (by rw [ivs_length, hsl]; omega) (ivs_one _ _) ?_)
        rw [ivs_length]
        generalize w4.setRow gb (cur.toList.take f ++ (ivs .u8 sm ++ cur.toList.drop (f + sm.length))).toArray = w5 at *
        go_wp2_with fail
        go_ret2
        unfold FlPost
        rw [HQ2.out]
        have hlen : (b.take f ++ (sm ++ b.drop tt)).length = b.length := by simp only [List.length_append, List.length_take, List.length_drop]; omega
        refine ⟨_, rfl, HO.out.1, fun k e => ?_, HK.out.trans HO.out.2 fun i hi e => ?_⟩
        · have h1 := HU.out k e
          have h2 := HB0.out.1.size
          omega
        · have h1 := HU.out gb rfl
          have h2 := HB0.out.1.size
          omega
      · have heb : (es != 0) = true := by simpa using hes
        have HQ2 : Hid (filA xs m = (es, [])) := Lib.hid (by rw [HQ.out, HFr.out, if_pos hes])
        have HK := Lib.hid hk34
        clear hes hsl HFr HQ hv hvn hk4 hu4 hk34 hrs
        generalize sm.length = ls at *
        go_wp2_with fail
        go_ret2
        unfold FlPost
        rw [HQ2.out]
        exact ⟨_, rfl, Own.nil _ _ _, fun k e => (by cases e), HK.out⟩
  · have heb : ((blkA xs m).1 != 0) = true := by simpa using he
    have HQ : Hid (filA xs m = ((blkA xs m).1, [])) := Lib.hid (by rw [HE.out, if_pos he])
    obtain ⟨Bu, cu, rfl, _, _⟩ := hu.row
    have HK := Lib.hid hk01
    clear he HE hu hun hrd hk1 hk01 hb1
    generalize (blkA xs m).2.length = lb at *
    generalize (blkA xs m).1 = er at *
    go_wp2_with fail
    go_ret2
    unfold FlPost
    rw [HQ.out]
    exact ⟨_, rfl, Own.nil _ _ _, fun k e => (by cases e), HK.out⟩

end Go.Proofs.YtodmchjdflpbpaaGreat

/- The code's Unpack of audio. -/
namespace Go.Proofs.YtodmchjdflpbpaaGreat
open Go.RowKit
set_option maxRecDepth 100000

attribute [local go_sem ↓] Go.wp_at_zero Go.wp_at_succ

theorem filA_le {xs : List Int} {m : Nat} (h : (filA xs m).1 = 0) : (filA xs m).2.length ≤ m := by
  unfold filA at h ⊢
  split at h
  · rename_i h2; exact absurd h h2
  rename_i h2
  rw [if_neg h2]
  split at h
  · cases h
  · rename_i r hw
    have hp := Pt.of hw
    unfold filR at h
    split at h
    · rename_i h3; exact absurd h h3
    · rename_i h3
      unfold filR
      rw [if_neg h3]
      have hl := samA_len (xs := xs) (p := (blkT xs m).2.1) hp (by omega)
      have hft := hp.ft
      unfold blkA at h2
      split at h2
      · exact absurd (show (5 : Int) ≠ 0 by decide) h2
      split at h2
      · rename_i h4; exact absurd h4 h2
      split at h2
      · exact absurd (show (4 : Int) ≠ 0 by decide) h2
      rename_i h5 h6 h7
      have hbl := blkB_length h7
      simp only [List.length_append, List.length_take, List.length_drop]
      omega
theorem filA_byte {xs : List Int} {m : Nat} (hb : ∀ x ∈ xs, 0 ≤ x ∧ x < 256) : ∀ x ∈ (filA xs m).2, 0 ≤ x ∧ x < 256 := by
  unfold filA
  split
  · simp
  split
  · simp
  · unfold filR
    split
    · simp
    · exact all_append (fun x hx => blkB_byte hb x (List.mem_of_mem_take hx)) (all_append (samA_byte _ _ _) (fun x hx => blkB_byte hb x (List.mem_of_mem_drop hx)))

set_option maxHeartbeats 6400000 in
theorem cUnpackAu_any (A : Option Addr) (n c : Nat) (xs : List Int) (most : Int) (w : World) (hr : Row w .u8 A n xs) (hb : ∀ x ∈ xs, 0 ≤ x ∧ x < 256) (hn : n ≤ 16777216) :
    Calls Tryz.prog 11 #[.slice A n c, .int .i64 most] w fun e w' => ∃ u, e = .returned (.tuple #[u, .int .i64 (auC xs most).1]) ∧ NewRow w w' 5 .u8 u (auC xs most).2 := by
  obtain rfl := hr.len
  have HN := Lib.hid (nrNew_any A xs.length c xs w hr hb (by omega))
  have HR := Lib.hid (And.intro hr hb)
  obtain ⟨m, hm⟩ : ∃ m, m = mst most := ⟨_, rfl⟩
  have hml : m ≤ 1048576 := by rw [hm]; exact (mst_le most).1
  have HE : Hid (auC xs most = if (filA xs m).1 ≠ 0 then ((filA xs m).1, []) else if apC (filA xs m).2 = xs then (0, (filA xs m).2) else (4, [])) := Lib.hid (by rw [hm]; rfl)
  have HM := Lib.hid hm
  clear hr hm
  go_enter Tryz.func11, Tryz.ntmps11
  go_wp2_with fail
  refine HN.out.mono ?_
  rintro e w1 ⟨g, A', c', rfl, hrd, hgw, hA', hf1⟩
  obtain ⟨W2, hW2⟩ : ∃ W2, W2 = w1.alloc (.cells #[.pointer (some ⟨g, 0, none⟩)] 60) := ⟨_, rfl⟩
  have hf2 : Fresh w1 W2 := by rw [hW2]; exact (Kept.refl _ _).alloc _
  have HF := Lib.hid (cFile_any g 86 [] A' c' xs most W2 (hrd.kept hf2 id (fun _ _ _ _ => id)) (by omega))
  rw [← HM.out] at HF
  have H2 := Lib.hid (And.intro (hf1.trans hf2 fun _ _ e => e) hgw)
  have hfl := filA_le (xs := xs) (m := m)
  have hfb := filA_byte (xs := xs) (m := m) hb
  clear hrd hA' hf1 hf2 HN hgw
  go_wp2_with fail
  rw [← hW2]
  refine HF.out.mono ?_
  rintro e w3 ⟨u, rfl, hu, hun, hk⟩
  have hf3 : Fresh w w3 := H2.out.1.trans hk fun i hi e => by have := H2.out.2; omega
  have hun' : ∀ k, u.ownBlock = some k → w.heap.size ≤ k := fun k e => Nat.le_trans H2.out.1.size (hun k e)
  clear hk hun HF hW2
  generalize filA xs m = R at *
  obtain ⟨er, b⟩ := R
  simp only [] at *
  obtain ⟨Bu, cu, rfl, hru, _⟩ := hu.row
  by_cases he : er = 0
  · subst he
    have hfl := hfl rfl
    have hcap := hu.cap
    have HP := Lib.hid (cPackO_any Bu b.length cu b w3 hru hfb (by omega) hcap)
    have H3 := Lib.hid (And.intro hu (And.intro hf3 hun'))
    clear hru hu hf3 hun'
    generalize hlb : b.length = lb at *
    have Hlb := Lib.hid hlb
    clear hlb
    go_wp2_with fail
    refine HP.out.mono ?_
    rintro e w4 ⟨v, ok, rfl, hv⟩
    obtain ⟨Bv, cv, rfl, hrv, _⟩ := hv.1.row
    have hf04 := H3.out.2.1.trans hv.2.2 fun _ _ e => e
    have hapb : ∀ x ∈ apC b, 0 ≤ x ∧ x < 256 := apC_byte hfb
    have HQ := Lib.hid (equal_any Bv A (apC b).length xs.length cv c (apC b) xs w4 hrv (HR.out.1.kept hf04 (fun _ _ _ _ => id)) hapb HR.out.2)
    have hu4 := H3.out.1.kept hv.2.2 (fun _ _ => id)
    have H4 := Lib.hid (And.intro hf04 hu4)
    clear hv hrv hf04 hapb hu4 HP
    generalize (apC b).length = lp at *
    by_cases hok : apC b = xs
    · have HA : Hid (auC xs most = (0, b)) := Lib.hid (by rw [HE.out, if_neg (by simp), if_pos hok])
      rw [decide_eq_true hok] at HQ
      clear hok HE
      go_wp2_with fail
      refine HQ.out.mono ?_
      rintro e w5 ⟨rfl, rfl⟩
      go_wp2_with fail
      go_ret2
      rw [HA.out]
      exact ⟨_, rfl, H4.out.2, H3.out.2.2, H4.out.1⟩
    · have HA : Hid (auC xs most = (4, [])) := Lib.hid (by rw [HE.out, if_neg (by simp), if_neg hok])
      rw [decide_eq_false hok] at HQ
      clear hok HE
      go_wp2_with fail
      refine HQ.out.mono ?_
      rintro e w5 ⟨rfl, rfl⟩
      go_wp2_with fail
      go_ret2
      rw [HA.out]
      exact ⟨_, rfl, Own.nil _ _ _, fun k e => (by cases e), H4.out.1⟩
  · have heb : (er != 0) = true := by simpa using he
    have HA : Hid (auC xs most = (er, [])) := Lib.hid (by rw [HE.out, if_pos he])
    have H3 := Lib.hid hf3
    clear he HE hru hu hf3 hun' hfl
    generalize b.length = lb at *
    go_wp2_with fail
    go_ret2
    rw [HA.out]
    exact ⟨_, rfl, Own.nil _ _ _, fun k e => (by cases e), H3.out⟩

end Go.Proofs.YtodmchjdflpbpaaGreat

/- What the laws of audio ask of the code: that packing and unpacking are two functions of bytes (ap, au) which go together as the document says; awake. -/
namespace Go.Proofs.YtodmchjdflpbpaaGreat
open Go.RowKit
set_option maxRecDepth 100000

attribute [local go_sem ↓] Go.wp_at_zero Go.wp_at_succ

/-- Bytes, and a file that may be packed. -/
def AuIn (bs : List Int) : Prop := (∀ x ∈ bs, 0 ≤ x ∧ x < 256) ∧ bs.length ≤ 1048576 ∧ (wparse bs).isSome = true

/-- The code's two calls: what is packed is ap, what is unpacked is au. -/
structure AudioOK (ap : List Int → List Int) (au : List Int → Int → Int × List Int) : Prop where
  pack : ∀ (A : Option Addr) (n c : Nat) (bs : List Int) (w : World), Row w .u8 A n bs → (∀ x ∈ bs, 0 ≤ x ∧ x < 256) → n ≤ 1048576 → n ≤ c → (wparse bs).isSome = true →
    Calls Tryz.prog 8 #[.slice A n c] w fun e w' => ∃ u, e = .returned (.tuple #[u, .bool true]) ∧ NewRow w w' 5 .u8 u (ap bs)
  refuse : ∀ (A : Option Addr) (n c : Nat) (bs : List Int) (w : World), Row w .u8 A n bs → (∀ x ∈ bs, 0 ≤ x ∧ x < 256) → n ≤ 1048576 → n ≤ c → (wparse bs).isSome = false →
    Calls Tryz.prog 8 #[.slice A n c] w fun e w' => e = .returned (.tuple #[.slice none 0 0, .bool false]) ∧ Fresh w w'
  unpack : ∀ (A : Option Addr) (n c : Nat) (xs : List Int) (most : Int) (w : World), Row w .u8 A n xs → (∀ x ∈ xs, 0 ≤ x ∧ x < 256) → n ≤ 16777216 → n ≤ c →
    Calls Tryz.prog 11 #[.slice A n c, .int .i64 most] w fun e w' => ∃ u, e = .returned (.tuple #[u, .int .i64 (au xs most).1]) ∧ NewRow w w' 5 .u8 u (au xs most).2
  byte : ∀ bs, AuIn bs → ∀ x ∈ ap bs, 0 ≤ x ∧ x < 256
  len : ∀ bs, AuIn bs → 0 < (ap bs).length ∧ (ap bs).length ≤ 16777216
  back : ∀ bs (most : Int), AuIn bs → au (ap bs) most = if (bs.length : Int) ≤ most then (0, bs) else (5, [])
  total : ∀ xs (most : Int), (∀ x ∈ xs, 0 ≤ x ∧ x < 256) → xs.length ≤ 16777216 →
    ((au xs most).1 = 0 ∧ (∀ x ∈ (au xs most).2, 0 ≤ x ∧ x < 256) ∧ ((au xs most).2.length : Int) ≤ max most 0 ∧ (au xs most).2.length ≤ 1048576) ∨ ((au xs most).2 = [] ∧ ((au xs most).1 = 3 ∨ (au xs most).1 = 4 ∨ (au xs most).1 = 5))
  small : ∀ (ch b m : Nat) (f : List Int), wok ch b → f.length = ch * (b / 8) → (∀ x ∈ f, 0 ≤ x ∧ x < 256) → 2048 ≤ m * f.length → m * f.length ≤ 4096 →
    4 * (ap (wmake ch b (List.replicate m f).flatten)).length ≤ (wmake ch b (List.replicate m f).flatten).length

theorem AuIn.made {ch b : Nat} {xs : List Int} (h : wok ch b) (hx : ∀ x ∈ xs, 0 ≤ x ∧ x < 256) (hl : xs.length ≤ 5000) (hf : (wparse (wmake ch b xs)).isSome = true) : AuIn (wmake ch b xs) :=
  ⟨wmake_byte ch b hx, by rw [wmake_length h]; omega, hf⟩
theorem au_two : wparse (wmake 1 8 [1, 2]) = some (1, 8, 44, 46) := by
  have hw := wback (ch := 1) (b := 8) (by unfold wok; omega) [1, 2] [] (by decide)
  rw [List.append_nil] at hw
  exact hw

set_option maxHeartbeats 1600000 in
theorem awakeA_any {ap : List Int → List Int} {au : List Int → Int → Int × List Int} (hc : AudioOK ap au) (w : World) : Calls Tryz.prog 6 #[] w fun e w' => e = .returned (.bool true) ∧ Fresh w w' := by
  have HM := Lib.hid (qWMake_any 1 8 0 0 (some ⟨w.heap.size, 0, none⟩) 2 2 [1, 2] _ (laidB w 5 [1, 2]) (by omega))
  have hin : AuIn (wmake 1 8 [1, 2]) := AuIn.made (ch := 1) (b := 8) (by unfold wok; omega) (by decide) (by decide) (by rw [show ((1 : Nat) : Int) = 1 from rfl, show ((8 : Nat) : Int) = 8 from rfl, au_two]; rfl)
  have HI := Lib.hid hin
  have hl := (hc.len _ hin).1
  have HL := Lib.hid hl
  have HC := Lib.hid hc
  clear hc hin hl
  go_enter Tryz.func6, Tryz.ntmps6
  go_wp2_with fail
  refine HM.out.mono ?_
  rintro e w1 ⟨u, rfl, hu, _, hf1⟩
  have hcap := hu
  obtain ⟨Au, cu, rfl, hru, _⟩ := hu.row
  have H1 := Lib.hid (((Kept.refl (fun _ => False) w).alloc (.cells (ivs .u8 [1, 2]).toArray 5)).trans hf1 (fun _ _ h => h))
  have HP := Lib.hid (HC.out.pack Au _ cu (wmake 1 8 [1, 2]) w1 hru HI.out.1 HI.out.2.1 hcap.cap HI.out.2.2)
  clear hu hf1 hru HM hcap
  generalize (wmake 1 8 [1, 2]).length = lu at *
  go_wp2_with fail
  refine HP.out.mono ?_
  rintro e w2 ⟨v, rfl, hv, _, hf2⟩
  obtain ⟨Av, cv, rfl, hrv, _⟩ := hv.row
  have hlen := HL.out
  have H2 := Lib.hid (H1.out.trans hf2 (fun _ _ h => h))
  clear hv hrv hf2 HP H1
  generalize (ap (wmake 1 8 [1, 2])).length = lv at *
  have hlen2 : (0 : Int) < (lv : Int) := by omega
  go_wp2_with fail
  go_ret
  exact ⟨rfl, H2.out⟩

end Go.Proofs.YtodmchjdflpbpaaGreat

/- The code of audio keeps what its laws ask. -/
namespace Go.Proofs.YtodmchjdflpbpaaGreat
open Go.RowKit
set_option maxRecDepth 100000

theorem audioOK : AudioOK apC auC where
  pack := fun A n c bs w hr hb hn hnc hw => by
    obtain ⟨r, hr2⟩ := Option.isSome_iff_exists.1 hw
    have hap : apC bs = apR bs r := by unfold apC; rw [hr2]
    rw [hap]
    exact cPackA_any A n c bs r w hr hb hn hnc hr2
  refuse := fun A n c bs w hr hb hn hnc hw => cPackANo_any A n c bs w hr hb hn hnc (by cases h : wparse bs with
    | none => rfl
    | some r => rw [h] at hw; cases hw)
  unpack := fun A n c xs most w hr hb hn _ => cUnpackAu_any A n c xs most w hr hb hn
  byte := fun bs h => apC_byte h.1
  len := fun bs h => apC_len h.2.1 h.2.2
  back := fun bs most h => auC_back most h.1 h.2.1 h.2.2
  total := fun xs most hb _ => auC_total xs most hb
  small := fun ch b m f hw hl hb h1 h2 => apC_small ch b m f hw hl hb h1 h2

end Go.Proofs.YtodmchjdflpbpaaGreat
