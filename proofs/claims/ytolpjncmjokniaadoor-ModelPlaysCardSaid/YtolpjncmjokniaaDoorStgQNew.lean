/- The document's stage: New. -/
import Derived.Test.YtolpjncmjokniaaDoorStgQ
namespace Go.Proofs.YtolpjncmjokniaaDoor
set_option maxRecDepth 100000
open Go.RowKit

attribute [local go_sem ↓] Go.wp_at_zero Go.wp_at_succ

set_option maxHeartbeats 1600000 in
/-- New: P7.1. -/
theorem qsNew_any (n : Int) (w : World) : Calls Tryd.prog 17 #[.int .i64 n] w fun e w' => ∃ g v Q C, e = .returned (.pointer (some ⟨g, 0, none⟩)) ∧ StR w' w.heap.size g v (nc n) Q C (fun _ => fs) 0 0 false ∧ Fresh w w' := by
  obtain ⟨i0, hi, hz0, hz1, hz2⟩ := info_parts Tryd.infoInts
  obtain ⟨j0, ki, kz0, kz1, kz2⟩ := info_parts Tryd.infoInt3
  have hk := nc_int2 n
  have hb := nc_bd n
  generalize nc n = m at *
  go_enter Tryd.func17, Tryd.ntmps17
  go_wp2_with fail
  go_loopw [4] (fun i wr => ∃ (r : Nat) (v : Value) (Q C : Nat → Nat), r ≤ m ∧ i = .int .i64 r ∧ Blk wr w.heap.size 79 #[v, .int .i64 0, .int .i64 0, .bool false] ∧ Lst 33 wr w.heap.size v r Q C (fun _ => fs) ∧ Fresh w wr) (fun i _ => (m - intOf i).toNat)
  case atStart => exact ⟨0, .slice none 0 0, fun _ => 0, fun _ => 0, by omega, rfl, Blk.new _ _ _, Lst.nil _ _ _ _ _ _, (Kept.refl _ _).alloc _⟩
  case round =>
    obtain ⟨r, v, Q, C, hr, rfl, hbk, hrw, hf⟩ := hrel
    have HW := Lib.hid (And.intro hbk (And.intro hrw hf))
    by_cases hlt : r < m
    · clear hbk hrw hf
      obtain ⟨w0, rfl⟩ : ∃ w0, w0 = wr := ⟨_, rfl⟩
      go_wp2_with fail
      go_loopw [5, 6] (fun x i wq => ∃ (k : Nat) (u : Value), k ≤ 33 ∧ i = .int .i64 k ∧ u = x ∧ Own wq 3 .i64 u (lm k fs) ∧ (∀ b, u.ownBlock = some b → w0.heap.size ≤ b) ∧ Fresh w0 wq) (fun _ i _ => (33 - intOf i).toNat)
      case atStart => exact ⟨0, _, by omega, rfl, rfl, Own.nil _ _ _, (fun k h => by cases h), Kept.refl _ _⟩
      case round =>
        obtain ⟨k, u, hk4, rfl, rfl, ho, hu, hfq⟩ := hrel
        by_cases hlt2 : k < 33
        · have hl := lm_len k fs
          have hti := lm_succ k fs
          have hd : decide ((k : Int) < 33) = true := by simp; omega
          have hfs := fs_int k
          have hfb := fs_bd k
          have HQ := Lib.hid (qSquash_any (128 * ((k : Int) - 16)))
          generalize lm k fs = xs at *
          generalize fs k = y at *
          generalize sq (128 * ((k : Int) - 16)) = z at *
          have hz : 0 ≤ z ∧ z ≤ 4095 := by omega
          obtain ⟨z0, z1⟩ := hz
          have HH := Lib.hid (And.intro ho (And.intro hu (And.intro hfq (And.intro hti hl))))
          have k0 : (0 : Int) ≤ (k : Int) := by omega
          have k1 : (k : Int) ≤ 33 := by omega
          clear ho hu hfq hti hl
          go_wp2_with fail
          refine (HQ.out _).mono ?_
          rintro e w' ⟨rfl, rfl⟩
          go_wp2_with (at_builtin; refine wpList_append_lies _ rfl (.tmp 20) (.tmp 26) 23 rfl 0 3 j0 (.int .i64 0) 1 8 Tryd.underlying23 ki kz0 kz1 kz2 rfl (by decide) _ xs.length (ivs .i64 xs) rfl (World.ownsRow.alloc HH.out.1 _) ⟨w'.heap.size, 0, none⟩ 1 1 (ivs .i64 [y]) rfl rfl (cell_one_new _ _ _) (ivs_one _ _) (by decide) (by have := HH.out.2.2.2.2; unfold maxLen; omega) (by have := HH.out.2.2.2.2; omega) (by omega) (w'.heap.size + 1) (by simp) ?_)
          intro q cap w4 hown4 hgrow hat hlt4
          have ho4 : Own w4 3 .i64 (.slice (some ⟨q, 0, none⟩) (xs.length + 1) cap) (lm (k + 1) fs) := by
            have := Own.of_append hown4 rfl
            rw [HH.out.2.2.2.1]
            exact this
          have hq : w0.heap.size ≤ q := by
            rcases hat with e | e
            · exact HH.out.2.1 q e
            · have := HH.out.2.2.1.size; omega
          have hf4 : Fresh w0 w4 := Kept.grown (HH.out.2.2.1.alloc _) hgrow fun k e hlt' => by have := HH.out.2.1 k e; omega
          have H4 := Lib.hid (And.intro ho4 (And.intro hq hf4))
          clear ho4 hq hf4 hown4 hgrow hat
          go_wp2_with fail
          go_roundw
          case rel => exact ⟨k + 1, _, by omega, by go_num, rfl, H4.out.1, fun b hb' => by
            have : q = b := by simpa [Value.ownBlock] using hb'
            have := H4.out.2.1; omega, H4.out.2.2⟩
          case measure => simp [intOf]; omega
        · obtain rfl : k = 33 := by omega
          obtain ⟨q, cu, rfl, hqlt⟩ := ho.form (by decide)
          have hqlo := hu q rfl
          have HA := Lib.hid (And.intro (HW.out.1.kept hfq id) (And.intro (HW.out.2.1.fresh hfq) (HW.out.2.2.trans hfq (fun _ _ h => h))))
          have HO := Lib.hid (And.intro ho (And.intro hqlo (fun i (hi : i < r) (e : Q i = q) => (by have := HW.out.2.1.lt hi; omega : False))))
          have hqw : w.heap.size ≤ q := Nat.le_trans HW.out.2.2.size hqlo
          clear ho hu hfq
          have c0 : wr.cell? ⟨w.heap.size, 0, none⟩ = some v := HA.out.1.cell 0
          have hvn := Own.ne_blk2 HA.out.2.1.own HA.out.1 (by decide)
          have one1 : ∀ u ∈ [Value.slice (some ⟨q, 0, none⟩) 33 cu], u.oneCell' = true := fun u hu => by
            simp at hu; subst hu; rfl
          have HV := Lib.hid (And.intro hvn one1)
          clear hvn one1 HW hqlt hqlo
          rw [lm_len]
          go_wp2_with (at_builtin; refine wpList_append_lies _ rfl (.tmp 32) (.tmp 34) 75 rfl 0 23 i0 (.slice none 0 0) 1 24 Tryd.underlying75 hi hz0 hz1 hz2 rfl (by decide) v r (lvs 33 Q C r) rfl (World.ownsRow.alloc HA.out.2.1.own _) ⟨wr.heap.size, 0, none⟩ 1 1 [.slice (some ⟨q, 0, none⟩) 33 cu] rfl rfl (cell_one_new _ _ _) HV.out.2 (by decide) (by unfold maxLen; omega) (by omega) (by omega) (wr.heap.size + 1) (by simp) ?_)
          intro g cap w4 hown4 hgrow hat hlt4
          have hgb : w.heap.size ≤ g := by
            rcases hat with e | e
            · exact HA.out.2.1.vlo g e
            · have := HA.out.2.2.size; omega
          have hb4 := (HA.out.1.alloc (.cells #[.slice (some ⟨q, 0, none⟩) 33 cu] 23)).grown hgrow (fun e => HV.out.1 e.symm)
          have hrw1 := HA.out.2.1.fresh ((Kept.refl (fun _ => False) wr).alloc (.cells #[.slice (some ⟨q, 0, none⟩) 33 cu] 23))
          have hr4 := hrw1.snoc hgrow hown4 (by simpa [lm_len] using HO.out.1.alloc _) hqw HO.out.2.2 hgb (by
            intro e
            rcases HO.out.1.2 with ⟨h', _⟩ | ⟨q', cap', cur, h', _, hg', _⟩
            · cases h'
            · simp only [Value.slice.injEq, Option.some.injEq, Addr.mk.injEq, and_true] at h'
              rw [h'.1] at e
              exact Own.ne_blk2 HA.out.2.1.own hg' (by decide) e)
          have hf4 : Fresh w w4 := Kept.grown (HA.out.2.2.alloc _) hgrow fun k e hlt' => by have := HA.out.2.1.vlo k e; omega
          have c4 : w4.cell? ⟨w.heap.size, 0, none⟩ = some v := hb4.cell 0
          have f4 := hb4.frozen 0
          have hk4 : Kept (fun j => j = w.heap.size) w4 (w4.setCell ⟨w.heap.size, 0, none⟩ (.slice (some ⟨g, 0, none⟩) (r + 1) cap)) := (Kept.refl (fun j => j = w.heap.size) w4).setCell (p := ⟨w.heap.size, 0, none⟩) (fun _ => rfl) _
          have hr5 := hr4.far hk4 (fun _ h => h) hb4 (by decide) (by decide)
          have H4 := Lib.hid (And.intro hb4 (And.intro hr5 hf4))
          clear hb4 hr4 hf4 hown4 hgrow hat hrw1 c0 hk4 hr5
          go_wp2_with fail
          go_roundw
          case rel => exact ⟨r + 1, _, _, _, by omega, by go_num, by simpa using H4.out.1.set_ 0 (.slice (some ⟨g, 0, none⟩) (r + 1) cap), H4.out.2.1, H4.out.2.2.setCell (p := ⟨w.heap.size, 0, none⟩) (fun h => by have h' : w.heap.size < w.heap.size := h; omega) _⟩
          case measure => simp [intOf]; omega
    · obtain rfl : r = m := by omega
      clear hbk hrw hf
      go_wp2_with fail
      go_ret
      exact ⟨_, v, Q, C, rfl, ⟨HW.out.1, HW.out.2.1, Nat.le_refl _, by omega, by omega, fun _ k => by have := fs_bd k; omega, fun h => by cases h⟩, HW.out.2.2⟩

end Go.Proofs.YtolpjncmjokniaaDoor
