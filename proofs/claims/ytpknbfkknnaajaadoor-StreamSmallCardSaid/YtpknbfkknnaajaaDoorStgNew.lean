/- The contract of stage.New. -/
import Derived.Test.YtpknbfkknnaajaaDoorStgC
namespace Go.Proofs.YtpknbfkknnaajaaDoor
set_option maxRecDepth 100000
open Go.RowKit

attribute [local go_sem ↓] Go.wp_at_zero Go.wp_at_succ

theorem Tryd.infoSteps : (Tryd.prog.info? 140).map (fun i => (i.zero, i.size, i.bytes)) = some (some (.agg (rcs .u16 33 fun _ => 0)), 33, 66) := by kernel_rfl
theorem Tryd.zeroSteps : (Tryd.prog.info? 140).map (fun i => (i.zero, i.size)) = some (some (.agg (rcs .u16 33 fun _ => 0)), 33) := by kernel_rfl

/-- The steps, of which the first k are laid. -/
def fsTo (k : Nat) : Nat → Int := fun j => if j < k then fs j else 0
theorem fsTo_zero : (fun _ => 0) = fsTo 0 := by funext j; simp [fsTo]
theorem fsTo_put (k : Nat) : (fun j => if j = k then fs k else fsTo k j) = fsTo (k + 1) := by
  funext j; unfold fsTo
  by_cases h : j = k
  · subst h; rw [if_pos rfl, if_pos (by omega)]
  · rw [if_neg h]
    by_cases h' : j < k
    · rw [if_pos h', if_pos (by omega)]
    · rw [if_neg h', if_neg (by omega)]
theorem fsTo_all : rcs .u16 33 (fsTo 33) = rcs .u16 33 fs := rcs_congr fun j hj => by unfold fsTo; rw [if_pos hj]

set_option maxHeartbeats 1600000 in
/-- New: P7.1. -/
theorem sNew_any (n : Int) (w : World) : Calls Tryd.prog 76 #[.int .i64 n] w fun e w' => ∃ g h, e = .returned (.pointer (some ⟨g, 0, none⟩)) ∧ Stg w' g h (nc n) (fun _ => fs) none ∧ w.heap.size ≤ g ∧ w.heap.size ≤ h ∧ Fresh w w' := by
  have hk := nc_int n
  have hb := nc_bd n
  generalize nc n = m at *
  obtain ⟨hzero, hsize⟩ := zero_of_info Tryd.zeroSteps
  obtain ⟨i0, hi, hz0, hz1, hz2⟩ := info_parts Tryd.infoSteps
  have h1 := Blk.new w 140 (rcs .u16 33 fun _ => 0)
  have hf1 : Fresh w (w.alloc (.cells (rcs .u16 33 fun _ => 0) 140)) := (Kept.refl _ _).alloc _
  rw [fsTo_zero] at h1 hf1 hzero
  have H1 := Lib.hid (And.intro h1 hf1)
  clear h1 hf1
  go_enter Tryd.func76, Tryd.ntmps76
  go_wp2_with fail
  go_loopw [7] (fun i wr => ∃ k : Nat, k ≤ 33 ∧ i = .int .i64 k ∧ Blk wr w.heap.size 140 (rcs .u16 33 (fsTo k)) ∧ Fresh w wr) (fun i _ => (33 - intOf i).toNat)
  case atStart => exact ⟨0, by omega, rfl, H1.out⟩
  case round =>
    obtain ⟨k, hk33, rfl, hbk, hf⟩ := hrel
    clear H1
    by_cases hlt : k < 33
    · have hc := hbk.cell k
      rw [rcs_get hlt] at hc
      have hfz := hbk.frozen k
      have hset := hbk.set_ k (.int .u16 (fs k))
      rw [rcs_set, fsTo_put] at hset
      have HS := Lib.hid (And.intro hset (hf.setCell (p := ⟨w.heap.size, k, none⟩) (fun h => by have h' : w.heap.size < w.heap.size := h; omega) (.int .u16 (fs k))))
      have HQ := Lib.hid (squash_any (128 * ((k : Int) - 16)))
      have k0 : (0 : Int) ≤ (k : Int) := by omega
      have k1 : (k : Int) < 33 := by omega
      have hfb := fs_bd k
      have hfs : fs k = sq (128 * ((k : Int) - 16)) * 16 := by rw [← fs_int]; omega
      rw [hfs] at HS hfb
      clear hfs
      generalize sq (128 * ((k : Int) - 16)) = z at *
      clear hset hbk hf
      go_wp2_with fail
      refine (HQ.out _).mono ?_
      rintro e w' ⟨rfl, rfl⟩
      obtain ⟨z1, z2⟩ : 1 ≤ z ∧ z ≤ 4095 := by omega
      go_wp2_with fail
      go_roundw
      case rel => exact ⟨k + 1, by omega, by go_num, HS.out.1, HS.out.2⟩
      case measure => simp [intOf]; omega
    · obtain rfl : k = 33 := by omega
      rw [fsTo_all] at hbk
      have H2 := Lib.hid (And.intro hbk hf)
      clear hbk hf
      have k1 : ¬ ((33 : Nat) : Int) < 33 := by omega
      go_wp2_with (refine wpList_make_blk _ rfl (.tmp 21) (.tmp 21) 141 rfl 140 i0 (.agg (rcs .u16 33 fun _ => 0)) 33 Tryd.underlying141 hi hz0 hz1 _ _ _ _ m rfl rfl (by omega) (by omega) (by rw [hz2]; omega) (by unfold maxLen; omega) ?_)
      intro w2 hb2 hf2
      have hb2 : Blk w2 wr.heap.size 140 (gcs .u16 33 m (glaid fs 0)) := by rw [← gcs_made]; exact hb2
      have hlt2 := hb2.lt
      have hB := H2.out.1.kept hf2 id
      have hsz := H2.out.2.size
      have hb3 := hb2.alloc (.cells #[.slice (some ⟨wr.heap.size, 0, none⟩) m m, .pointer none] 144)
      have hB3 := hB.alloc (.cells #[.slice (some ⟨wr.heap.size, 0, none⟩) m m, .pointer none] 144)
      have hg3 := Blk.new w2 144 #[.slice (some ⟨wr.heap.size, 0, none⟩) m m, .pointer none]
      have hf3 := (H2.out.2.trans hf2 (fun _ _ h => h)).alloc (.cells #[.slice (some ⟨wr.heap.size, 0, none⟩) m m, .pointer none] 144)
      have hG : w.heap.size ≤ w2.heap.size := (H2.out.2.trans hf2 (fun _ _ h => h)).size
      have c0 : (w2.alloc (.cells #[.slice (some ⟨wr.heap.size, 0, none⟩) m m, .pointer none] 144)).cell? ⟨w2.heap.size, 0, none⟩ = some (.slice (some ⟨wr.heap.size, 0, none⟩) m m) := hg3.cell 0
      have hne : w.heap.size ≠ wr.heap.size := by have := H2.out.1.lt; omega
      have hAlo : w.heap.size ≤ wr.heap.size := hsz
      have H3 := Lib.hid (And.intro hb3 (And.intro hB3 (And.intro hg3 hf3)))
      clear hb2 hB hb3 hB3 hg3 hf3 hf2 H2
      generalize hA : wr.heap.size = A at *
      generalize hGG : w2.heap.size = G at *
      go_wp2_with fail
      clear hA hGG c0 hlt2
      go_loopw [30] (fun i wr => ∃ r : Nat, r ≤ m ∧ i = .int .i64 r ∧ Blk wr A 140 (gcs .u16 33 m (glaid fs r)) ∧ Blk wr w.heap.size 140 (rcs .u16 33 fs) ∧ Blk wr G 144 #[.slice (some ⟨A, 0, none⟩) m m, .pointer none] ∧ Fresh w wr) (fun i _ => (m - intOf i).toNat)
      case atStart => exact ⟨0, by omega, rfl, H3.out⟩
      case round =>
        obtain ⟨r, hr, rfl, hb, hB, hg, hf⟩ := hrel
        clear H3
        by_cases hlt : r < m
        · have c0 : wr.cell? ⟨G, 0, none⟩ = some (.slice (some ⟨A, 0, none⟩) m m) := hg.cell 0
          have hl := run_loadAt_blk hB.drew Tryd.underlying140 (by rw [rcs_size]; exact (zero_of_info Tryd.zeroSteps).2)
          have r0 : (0 : Int) ≤ (r : Int) := by omega
          have r1 : (r : Int) < (m : Int) := by omega
          have hst := run_storeAt_in (P := Tryd.prog) (o := r * 33) (cs' := rcs .u16 33 fs) (ty := 140) hb.drew (by rw [rcs_size]; exact (zero_of_info Tryd.zeroSteps).2) (by rw [rcs_size, gcs_size]; have := place_lt (m := 33) (k := 32) hlt (by omega); omega) (rcs_one _ _ _)
          rw [rcs_size, gcs_row fs hlt] at hst
          have HL := Lib.hid (And.intro hl hst)
          have HS : Hid (Blk (wr.drew.setRow A (gcs .u16 33 m (glaid fs (r + 1)))) A 140 (gcs .u16 33 m (glaid fs (r + 1))) ∧ Blk (wr.drew.setRow A (gcs .u16 33 m (glaid fs (r + 1)))) w.heap.size 140 (rcs .u16 33 fs) ∧ Blk (wr.drew.setRow A (gcs .u16 33 m (glaid fs (r + 1)))) G 144 #[.slice (some ⟨A, 0, none⟩) m m, .pointer none] ∧ Fresh w (wr.drew.setRow A (gcs .u16 33 m (glaid fs (r + 1))))) :=
            Lib.hid ⟨hb.drew.rowed, hB.drew.kept ((Kept.refl (fun j => j = A) wr.drew).rowed _ (fun _ => rfl)) hne, hg.drew.kept ((Kept.refl (fun j => j = A) wr.drew).rowed _ (fun _ => rfl)) (Blk.ne_ hg hb (by decide)), hf.drew.rowed _ (fun h => by omega)⟩
          clear hb hB hg hf hl hst
          go_wp2_with fail
          go_still_tail 7, (by kernel_rfl)
          refine wpStill_load_eq rfl (.tmp 3) 140 rfl _ _ rfl HL.out.1 ?_
          repeat still_step
          refine wpStill_nil ?_
          change wpList _ _ _ _ _ wr.drew
          refine wpList_store_eq rfl (.tmp 39) (.tmp 38) 140 rfl _ _ rfl rfl HL.out.2 ?_
          generalize wr.drew.setRow A (gcs .u16 33 m (glaid fs (r + 1))) = w5 at *
          go_wp2_with fail
          go_roundw
          case rel => exact ⟨r + 1, by omega, by go_num, HS.out⟩
          case measure => simp [intOf]; omega
        · obtain rfl : r = m := by omega
          rw [glaid_all] at hb
          have HS := Lib.hid (And.intro hb (And.intro hg hf))
          clear hb hB hg hf
          go_wp2_with fail
          go_ret
          refine ⟨G, A, rfl, ⟨HS.out.2.1, HS.out.1, by omega, by omega, fun _ k => by have := fs_bd k; omega, fun _ _ e => by cases e⟩, by omega, by omega, HS.out.2.2⟩

end Go.Proofs.YtpknbfkknnaajaaDoor
