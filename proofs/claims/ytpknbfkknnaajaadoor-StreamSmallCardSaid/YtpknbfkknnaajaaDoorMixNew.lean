/- The contract of mix.New. -/
import Derived.Test.YtpknbfkknnaajaaDoorMixM
namespace Go.Proofs.YtpknbfkknnaajaaDoor
set_option maxRecDepth 100000
open Go.RowKit

attribute [local go_sem ↓] Go.wp_at_zero Go.wp_at_succ

/-- How many sets. -/
def ns (n : Int) : Nat := (min (max n 1) 4096).toNat
theorem ns_int (n : Int) : min (max n 1) 4096 = ((ns n : Nat) : Int) := by unfold ns; omega
theorem ns_int2 (n : Int) : max 1 (min n 4096) = ((ns n : Nat) : Int) := by unfold ns; omega
theorem ns_bd (n : Int) : 1 ≤ ns n ∧ ns n ≤ 4096 := by unfold ns; omega

/-- New weights, of which those of the first r sets, and k of the next one, are laid. -/
def laid (r k : Nat) : Nat → Nat → Int := fun i j => if i < r ∨ i = r ∧ j < k then 16384 else 0
theorem laid_put (r k : Nat) : put1 (laid r k) r k 16384 = laid r (k + 1) := by
  funext i j; unfold put1 laid
  by_cases h : i = r ∧ j = k
  · rw [if_pos h, if_pos (by omega)]
  · rw [if_neg h]
    by_cases h' : i < r ∨ i = r ∧ j < k
    · rw [if_pos h', if_pos (by omega)]
    · rw [if_neg h', if_neg (by omega)]
theorem wcs_congr {n : Nat} {W V : Nat → Nat → Int} (h : ∀ i j, i < n → j < 4 → W i j = V i j) : wcs n W = wcs n V := by
  unfold wcs
  congr 1
  apply List.map_congr_left
  intro i hi
  have := List.mem_range.1 hi
  rw [h (i / 4) (i % 4) (by omega) (by omega)]
theorem laid_next (n r : Nat) : wcs n (laid r 4) = wcs n (laid (r + 1) 0) :=
  wcs_congr fun i j _ hj => by
    unfold laid
    by_cases h : i < r ∨ i = r ∧ j < 4
    · rw [if_pos h, if_pos (by omega)]
    · rw [if_neg h, if_neg (by omega)]
theorem laid_all (n : Nat) : wcs n (laid n 0) = wcs n (fun _ _ => 16384) :=
  wcs_congr fun i j hi _ => by unfold laid; rw [if_pos (by omega)]
theorem laid_none (n : Nat) : madeCells (a4 fun _ => 0) (n * 4) = wcs n (laid 0 0) := by
  apply Array.ext_getElem?
  intro i
  simp only [wcs, List.getElem?_toArray, List.getElem?_map]
  rcases Nat.lt_or_ge i (n * 4) with h | h
  · rw [List.getElem?_range h]
    have : laid 0 0 (i / 4) (i % 4) = 0 := by unfold laid; rw [if_neg (by omega)]
    simp only [Option.map_some, this]
    have hz : ∀ k, k < 4 → (a4 fun _ => 0)[k]! = Value.int .i64 0 := fun k hk => by rcases four hk with rfl | rfl | rfl | rfl <;> rfl
    have hs : (a4 fun _ => 0).size = 4 := rfl
    simp only [madeCells, hs, Array.getElem?_map, Array.getElem?_range, if_pos h, Option.map_some, hz (i % 4) (by omega)]
  · rw [Array.getElem?_eq_none (by rw [size_madeCells]; exact h)]
    simp [h]

theorem Tryd.infoWeights : (Tryd.prog.info? 138).map (fun i => (i.zero, i.size, i.bytes)) = some (some (.agg (a4 fun _ => 0)), 4, 32) := by kernel_rfl

set_option maxHeartbeats 1600000 in
/-- New: P6.2. -/
theorem mNew_any (n : Int) (w : World) : Calls Tryd.prog 75 #[.int .i64 n] w fun e w' => ∃ g h, e = .returned (.pointer (some ⟨g, 0, none⟩)) ∧ Mxr w' g h (ns n) (fun _ _ => 16384) 0 (fun _ => 0) 0 ∧ w.heap.size ≤ g ∧ w.heap.size ≤ h ∧ Fresh w w' := by
  have hk := ns_int n
  have hb := ns_bd n
  generalize ns n = m at *
  obtain ⟨i0, hi, hz0, hz1, hz2⟩ := info_parts Tryd.infoWeights
  go_enter Tryd.func75, Tryd.ntmps75
  go_wp2_with (refine wpList_make_blk _ rfl (.tmp 8) (.tmp 8) 135 rfl 138 i0 (.agg (a4 fun _ => 0)) 4 Tryd.underlying135 hi hz0 hz1 _ _ _ _ m rfl rfl (by omega) (by omega) (by rw [hz2]; omega) (by unfold maxLen; omega) ?_)
  intro w1 hb1 hf1
  rw [laid_none] at hb1
  have hlt0 := hb1.lt
  have hb2 := hb1.alloc (.cells #[.slice (some ⟨w.heap.size, 0, none⟩) m m, .int .i64 0, .int .i64 0, .int .i64 0, .int .i64 0, .int .i64 0, .int .i64 0] 137)
  have hg2 := Blk.new w1 137 #[.slice (some ⟨w.heap.size, 0, none⟩) m m, .int .i64 0, .int .i64 0, .int .i64 0, .int .i64 0, .int .i64 0, .int .i64 0]
  have hf2 := hf1.alloc (.cells #[.slice (some ⟨w.heap.size, 0, none⟩) m m, .int .i64 0, .int .i64 0, .int .i64 0, .int .i64 0, .int .i64 0, .int .i64 0] 137)
  have c0 : (w1.alloc (.cells #[.slice (some ⟨w.heap.size, 0, none⟩) m m, .int .i64 0, .int .i64 0, .int .i64 0, .int .i64 0, .int .i64 0, .int .i64 0] 137)).cell? ⟨w1.heap.size, 0, none⟩ = some (.slice (some ⟨w.heap.size, 0, none⟩) m m) := hg2.cell 0
  have hGw : w.heap.size ≤ w1.heap.size := hf1.size
  have H2 := Lib.hid (And.intro hb2 (And.intro hg2 hf2))
  clear hb1 hf1 hb2 hg2 hf2
  generalize hG : w1.heap.size = G at *
  go_wp2_with fail
  clear hG c0
  go_loopw [17] (fun i wr => ∃ r : Nat, r ≤ m ∧ i = .int .i64 r ∧ Blk wr w.heap.size 138 (wcs m (laid r 0)) ∧ Blk wr G 137 #[.slice (some ⟨w.heap.size, 0, none⟩) m m, .int .i64 0, .int .i64 0, .int .i64 0, .int .i64 0, .int .i64 0, .int .i64 0] ∧ Fresh w wr) (fun i _ => (m - intOf i).toNat)
  case atStart => exact ⟨0, by omega, rfl, H2.out⟩
  case round =>
    obtain ⟨r, hr, rfl, hb, hg, hf⟩ := hrel
    clear H2
    by_cases hlt : r < m
    · have H3 := Lib.hid (And.intro hb (And.intro hg hf))
      clear hb hg hf
      have r0 : (0 : Int) ≤ (r : Int) := by omega
      have r1 : (r : Int) < (m : Int) := by omega
      go_wp2_with fail
      go_loopw [20] (fun i wr => ∃ k : Nat, k ≤ 4 ∧ i = .int .i64 k ∧ Blk wr w.heap.size 138 (wcs m (laid r k)) ∧ Blk wr G 137 #[.slice (some ⟨w.heap.size, 0, none⟩) m m, .int .i64 0, .int .i64 0, .int .i64 0, .int .i64 0, .int .i64 0, .int .i64 0] ∧ Fresh w wr) (fun i _ => (4 - intOf i).toNat)
      case atStart => exact ⟨0, by omega, rfl, H3.out⟩
      case round =>
        obtain ⟨k, hk, rfl, hb, hg, hf⟩ := hrel
        clear H3
        by_cases hlt2 : k < 4
        · have hc := hb.cell (r * 4 + k)
          rw [wcs_get hlt hlt2] at hc
          have hfz := hb.frozen (r * 4 + k)
          have c0 : wr.cell? ⟨G, 0, none⟩ = some (.slice (some ⟨w.heap.size, 0, none⟩) m m) := hg.cell 0
          have hset := hb.set_ (r * 4 + k) (.int .i64 16384)
          rw [wcs_set hlt2, laid_put] at hset
          have HS := Lib.hid (And.intro hset (And.intro (hg.far (p := ⟨w.heap.size, r * 4 + k, none⟩) (by exact (Blk.ne_ hg hb (by decide))) (.int .i64 16384)) (hf.setCell (p := ⟨w.heap.size, r * 4 + k, none⟩) (fun h => by have h' : w.heap.size < w.heap.size := h; omega) (.int .i64 16384))))
          clear hset hb hg hf
          generalize laid r k r k = x at *
          have k0 : (0 : Int) ≤ (k : Int) := by omega
          have k1 : (k : Int) < 4 := by omega
          go_wp2_with fail
          go_roundw
          case rel => exact ⟨k + 1, by omega, by go_num, HS.out⟩
          case measure => simp [intOf]; omega
        · obtain rfl : k = 4 := by omega
          have HS := Lib.hid (And.intro hb (And.intro hg hf))
          clear hb hg hf
          have k1 : ¬ ((4 : Nat) : Int) < 4 := by omega
          go_wp2_with fail
          go_roundw
          case rel => exact ⟨r + 1, by omega, by go_num, by rw [← laid_next]; exact HS.out.1, HS.out.2.1, HS.out.2.2⟩
          case measure => simp [intOf]; omega
    · obtain rfl : r = m := by omega
      have HS := Lib.hid (And.intro hb (And.intro hg hf))
      clear hb hg hf
      go_wp2_with fail
      go_ret
      refine ⟨G, w.heap.size, rfl, ⟨HS.out.2.1, by rw [← laid_all]; exact HS.out.1, by omega, by omega, by omega, fun _ _ => by omega, fun _ => by omega, by omega⟩, by omega, by omega, HS.out.2.2⟩

end Go.Proofs.YtpknbfkknnaajaaDoor
