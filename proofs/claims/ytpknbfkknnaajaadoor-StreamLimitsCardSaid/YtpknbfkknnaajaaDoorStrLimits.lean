/- StreamLimits: levels and lengths that may not be are refused, with their errors. The tied card, for every level and every length. -/
import Derived.Test.YtpknbfkknnaajaaDoorPart32
import Derived.Test.YtpknbfkknnaajaaDoorTie
import Derived.Test.YtpknbfkknnaajaaDoorCards
import Derived.SevenTiedAt
namespace Go.Proofs.YtpknbfkknnaajaaDoor.streamLimits
open Go.ChangeShapes Go.WideShapes Go.ChangeAt Go.RowKit

attribute [local go_sem ↓] Go.wp_at_zero Go.wp_at_succ

theorem zeros_row (w : World) : Row (w.alloc (.cells #[.int .u8 0, .int .u8 0, .int .u8 0, .int .u8 0] 5)) .u8 (some ⟨w.heap.size, 0, none⟩) 4 [0, 0, 0, 0] :=
  ⟨rfl, fun j hj => ⟨w.heap.size, 0, rfl, by simp, by
    rw [(Blk.new w 5 #[.int .u8 0, .int .u8 0, .int .u8 0, .int .u8 0]).cell (0 + j)]
    match j, hj with
    | 0, _ => rfl
    | 1, _ => rfl
    | 2, _ => rfl
    | 3, _ => rfl⟩⟩

/-- What Unpack's error is. -/
def RR (lv M r : Int) : Prop := r = if lv < 0 ∨ 3 ≤ lv ∨ M < 0 then 1 else if 1048576 < M then 5 else if okB lv.toNat [0, 0, 0, 0] M.toNat then 0 else 4
theorem RR.bad {lv M r : Int} (h : RR lv M r) (h1 : lv < 0 ∨ 3 ≤ lv ∨ M < 0) : r = 1 := by
  unfold RR at h
  rw [if_pos h1] at h
  exact h
theorem RR.big {lv M r : Int} (h : RR lv M r) (h1 : 0 ≤ lv) (h2 : lv ≤ 2) (h3 : 1048576 < M) : r = 5 := by
  unfold RR at h
  rw [if_neg (by omega), if_pos h3] at h
  exact h
theorem RR.ok {lv M r : Int} (h : RR lv M r) (h1 : 0 ≤ lv) (h2 : lv ≤ 2) (h3 : 0 ≤ M) (h4 : M ≤ 1048576) : r = 0 ∨ r = 4 := by
  unfold RR at h
  rw [if_neg (by omega), if_neg (by omega)] at h
  split at h
  · exact .inl h
  · exact .inr h
theorem pk_err (lv : Int) : (if bad lv ([] : List Int).length then badE lv else 0) = if lv < 0 ∨ 3 ≤ lv then 1 else 0 := by
  by_cases h : lv < 0 ∨ 3 ≤ lv
  · rw [if_pos (by unfold bad; omega), if_pos h]; unfold badE; rw [if_pos h]
  · rw [if_neg (by unfold bad; simp; omega), if_neg h]
theorem un_any (lv : Int) (w V : World) (M : Int) (hk : Kin w) (hV : Fresh w V) : Calls Tryd.prog 14 #[.slice (some ⟨V.heap.size, 0, none⟩) 4 4, .int .i64 M, .int .i64 lv] (V.alloc (.cells #[.int .u8 0, .int .u8 0, .int .u8 0, .int .u8 0] 5)) fun e w' => ∃ u r, e = .returned (.tuple #[u, .int .i64 r]) ∧ RR lv M r ∧ Fresh w w' ∧ Kin w' := by
  have hfa : Fresh V (V.alloc (.cells #[.int .u8 0, .int .u8 0, .int .u8 0, .int .u8 0] 5)) := (Kept.refl _ _).alloc _
  have hVa := hV.trans hfa (fun _ _ h => h)
  refine (cUnpackA V.heap.size 0 4 4 [0, 0, 0, 0] M lv _ (hk.kept hVa id) (zeros_row V) (by simp) (by omega)).mono ?_
  rintro e w' ⟨u, rfl, _, _, hf⟩
  exact ⟨u, _, rfl, rfl, hVa.trans hf (fun _ _ h => h), (hk.kept hVa id).kept hf id⟩

set_option maxRecDepth 100000 in
set_option maxHeartbeats 1600000 in
theorem walkLN (lv m : Int) (w : World) (hk : Kin w) (hl1 : lv < 0) (_ : m < 0) (hm2 : ¬ 300 < m) :
    Calls Tryd.prog 7 #[.int .i64 lv, .int .i64 m] w fun e w' => e = .returned (.bool true) ∧ Below w.heap.size w w' := by
  have HP := Lib.hid (cPackP none 0 0 [] lv w hk (Row.empty _ _ _) (by simp))
  unfold PkP at HP
  rw [pk_err, if_pos (by omega)] at HP
  have HU : Hid (∀ V, Fresh w V → _) := Lib.hid fun V hV => un_any lv w V m hk hV
  have HAw := Lib.hid (fun V hV => awake_any V hV)
  clear hk
  go_enter Tryd.func7, Tryd.ntmps7
  go_wp2_with fail
  refine HP.out.mono ?_
  rintro e w1 ⟨_, rfl, _, _, hf1⟩
  have HU1 := Lib.hid (HU.out w1 hf1)
  clear HP hf1 HU
  go_wp2_with fail
  refine HU1.out.mono ?_
  rintro e w2 ⟨_, r, rfl, hr, hf2, hk2⟩
  have HA := Lib.hid (HAw.out w2 hk2)
  have HF := Lib.hid hf2
  obtain rfl := hr.bad (by omega)
  clear hf2 hk2 HU1 HAw
  go_wp2_with fail
  refine HA.out.mono ?_
  rintro e w3 ⟨rfl, hf3⟩
  have H3 := Lib.hid (HF.out.trans hf3 (fun _ _ h => h)).toBelow
  clear hf3 HA HF
  go_wp2_with fail
  go_ret
  exact ⟨rfl, H3.out⟩

set_option maxRecDepth 100000 in
set_option maxHeartbeats 1600000 in
theorem walkHN (lv m : Int) (w : World) (hk : Kin w) (hl1 : ¬ lv < 0) (hl2 : 2 < lv) (_ : m < 0) (hm2 : ¬ 300 < m) :
    Calls Tryd.prog 7 #[.int .i64 lv, .int .i64 m] w fun e w' => e = .returned (.bool true) ∧ Below w.heap.size w w' := by
  have HP := Lib.hid (cPackP none 0 0 [] lv w hk (Row.empty _ _ _) (by simp))
  unfold PkP at HP
  rw [pk_err, if_pos (by omega)] at HP
  have HU : Hid (∀ V, Fresh w V → _) := Lib.hid fun V hV => un_any lv w V m hk hV
  have HAw := Lib.hid (fun V hV => awake_any V hV)
  clear hk
  go_enter Tryd.func7, Tryd.ntmps7
  go_wp2_with fail
  refine HP.out.mono ?_
  rintro e w1 ⟨_, rfl, _, _, hf1⟩
  have HU1 := Lib.hid (HU.out w1 hf1)
  clear HP hf1 HU
  go_wp2_with fail
  refine HU1.out.mono ?_
  rintro e w2 ⟨_, r, rfl, hr, hf2, hk2⟩
  have HA := Lib.hid (HAw.out w2 hk2)
  have HF := Lib.hid hf2
  obtain rfl := hr.bad (by omega)
  clear hf2 hk2 HU1 HAw
  go_wp2_with fail
  refine HA.out.mono ?_
  rintro e w3 ⟨rfl, hf3⟩
  have H3 := Lib.hid (HF.out.trans hf3 (fun _ _ h => h)).toBelow
  clear hf3 HA HF
  go_wp2_with fail
  go_ret
  exact ⟨rfl, H3.out⟩

set_option maxRecDepth 100000 in
set_option maxHeartbeats 1600000 in
theorem walkON (lv m : Int) (w : World) (hk : Kin w) (hl1 : ¬ lv < 0) (hl2 : ¬ 2 < lv) (hm1 : m < 0) (hm2 : ¬ 300 < m) :
    Calls Tryd.prog 7 #[.int .i64 lv, .int .i64 m] w fun e w' => e = .returned (.bool true) ∧ Below w.heap.size w w' := by
  have HP := Lib.hid (cPackP none 0 0 [] lv w hk (Row.empty _ _ _) (by simp))
  unfold PkP at HP
  rw [pk_err, if_neg (by omega)] at HP
  have HU : Hid (∀ V, Fresh w V → _) := Lib.hid fun V hV => un_any lv w V m hk hV
  have HAw := Lib.hid (fun V hV => awake_any V hV)
  clear hk
  go_enter Tryd.func7, Tryd.ntmps7
  go_wp2_with fail
  refine HP.out.mono ?_
  rintro e w1 ⟨_, rfl, _, _, hf1⟩
  have HU1 := Lib.hid (HU.out w1 hf1)
  clear HP hf1 HU
  go_wp2_with fail
  refine HU1.out.mono ?_
  rintro e w2 ⟨_, r, rfl, hr, hf2, hk2⟩
  have HA := Lib.hid (HAw.out w2 hk2)
  have HF := Lib.hid hf2
  obtain rfl := hr.bad (by omega)
  clear hf2 hk2 HU1 HAw
  go_wp2_with fail
  refine HA.out.mono ?_
  rintro e w3 ⟨rfl, hf3⟩
  have H3 := Lib.hid (HF.out.trans hf3 (fun _ _ h => h)).toBelow
  clear hf3 HA HF
  go_wp2_with fail
  go_ret
  exact ⟨rfl, H3.out⟩

set_option maxRecDepth 100000 in
set_option maxHeartbeats 1600000 in
theorem walkLS (lv m : Int) (w : World) (hk : Kin w) (hl1 : lv < 0) (_ : ¬ m < 0) (hm2 : ¬ 300 < m) (_ : ¬ 1048576 < m) :
    Calls Tryd.prog 7 #[.int .i64 lv, .int .i64 m] w fun e w' => e = .returned (.bool true) ∧ Below w.heap.size w w' := by
  have HP := Lib.hid (cPackP none 0 0 [] lv w hk (Row.empty _ _ _) (by simp))
  unfold PkP at HP
  rw [pk_err, if_pos (by omega)] at HP
  have HU : Hid (∀ V, Fresh w V → _) := Lib.hid fun V hV => un_any lv w V m hk hV
  have HAw := Lib.hid (fun V hV => awake_any V hV)
  clear hk
  go_enter Tryd.func7, Tryd.ntmps7
  go_wp2_with fail
  refine HP.out.mono ?_
  rintro e w1 ⟨_, rfl, _, _, hf1⟩
  have HU1 := Lib.hid (HU.out w1 hf1)
  clear HP hf1 HU
  go_wp2_with fail
  refine HU1.out.mono ?_
  rintro e w2 ⟨_, r, rfl, hr, hf2, hk2⟩
  have HA := Lib.hid (HAw.out w2 hk2)
  have HF := Lib.hid hf2
  obtain rfl := hr.bad (by omega)
  clear hf2 hk2 HU1 HAw
  go_wp2_with fail
  refine HA.out.mono ?_
  rintro e w3 ⟨rfl, hf3⟩
  have H3 := Lib.hid (HF.out.trans hf3 (fun _ _ h => h)).toBelow
  clear hf3 HA HF
  go_wp2_with fail
  go_ret
  exact ⟨rfl, H3.out⟩

set_option maxRecDepth 100000 in
set_option maxHeartbeats 1600000 in
theorem walkHS (lv m : Int) (w : World) (hk : Kin w) (hl1 : ¬ lv < 0) (hl2 : 2 < lv) (_ : ¬ m < 0) (hm2 : ¬ 300 < m) (_ : ¬ 1048576 < m) :
    Calls Tryd.prog 7 #[.int .i64 lv, .int .i64 m] w fun e w' => e = .returned (.bool true) ∧ Below w.heap.size w w' := by
  have HP := Lib.hid (cPackP none 0 0 [] lv w hk (Row.empty _ _ _) (by simp))
  unfold PkP at HP
  rw [pk_err, if_pos (by omega)] at HP
  have HU : Hid (∀ V, Fresh w V → _) := Lib.hid fun V hV => un_any lv w V m hk hV
  have HAw := Lib.hid (fun V hV => awake_any V hV)
  clear hk
  go_enter Tryd.func7, Tryd.ntmps7
  go_wp2_with fail
  refine HP.out.mono ?_
  rintro e w1 ⟨_, rfl, _, _, hf1⟩
  have HU1 := Lib.hid (HU.out w1 hf1)
  clear HP hf1 HU
  go_wp2_with fail
  refine HU1.out.mono ?_
  rintro e w2 ⟨_, r, rfl, hr, hf2, hk2⟩
  have HA := Lib.hid (HAw.out w2 hk2)
  have HF := Lib.hid hf2
  obtain rfl := hr.bad (by omega)
  clear hf2 hk2 HU1 HAw
  go_wp2_with fail
  refine HA.out.mono ?_
  rintro e w3 ⟨rfl, hf3⟩
  have H3 := Lib.hid (HF.out.trans hf3 (fun _ _ h => h)).toBelow
  clear hf3 HA HF
  go_wp2_with fail
  go_ret
  exact ⟨rfl, H3.out⟩

set_option maxRecDepth 100000 in
set_option maxHeartbeats 1600000 in
theorem walkOS (lv m : Int) (w : World) (hk : Kin w) (hl1 : ¬ lv < 0) (hl2 : ¬ 2 < lv) (hm1 : ¬ m < 0) (hm2 : ¬ 300 < m) (hm3 : ¬ 1048576 < m) (hz : ¬ m = 0) :
    Calls Tryd.prog 7 #[.int .i64 lv, .int .i64 m] w fun e w' => e = .returned (.bool true) ∧ Below w.heap.size w w' := by
  have HP := Lib.hid (cPackP none 0 0 [] lv w hk (Row.empty _ _ _) (by simp))
  unfold PkP at HP
  rw [pk_err, if_neg (by omega)] at HP
  have HU : Hid (∀ V, Fresh w V → _) := Lib.hid fun V hV => un_any lv w V m hk hV
  have HAw := Lib.hid (fun V hV => awake_any V hV)
  clear hk
  go_enter Tryd.func7, Tryd.ntmps7
  go_wp2_with fail
  refine HP.out.mono ?_
  rintro e w1 ⟨_, rfl, _, _, hf1⟩
  have HU1 := Lib.hid (HU.out w1 hf1)
  clear HP hf1 HU
  go_wp2_with fail
  refine HU1.out.mono ?_
  rintro e w2 ⟨_, r, rfl, hr, hf2, hk2⟩
  have HA := Lib.hid (HAw.out w2 hk2)
  have HF := Lib.hid hf2
  rcases hr.ok (by omega) (by omega) (by omega) (by omega) with rfl | rfl
  all_goals
    clear hf2 hk2 HU1 HAw
    go_wp2_with fail
    refine HA.out.mono ?_
    rintro e w3 ⟨rfl, hf3⟩
    have H3 := Lib.hid (HF.out.trans hf3 (fun _ _ h => h)).toBelow
    clear hf3 HA HF
    go_wp2_with fail
    go_ret
    exact ⟨rfl, H3.out⟩

set_option maxRecDepth 100000 in
set_option maxHeartbeats 1600000 in
theorem walkLM (lv m : Int) (w : World) (hk : Kin w) (hl1 : lv < 0) (hm1 : 300 < m) (hm2 : m ≤ 1048576) :
    Calls Tryd.prog 7 #[.int .i64 lv, .int .i64 m] w fun e w' => e = .returned (.bool true) ∧ Below w.heap.size w w' := by
  have HP := Lib.hid (cPackP none 0 0 [] lv w hk (Row.empty _ _ _) (by simp))
  unfold PkP at HP
  rw [pk_err, if_pos (by omega)] at HP
  have HU : Hid (∀ V, Fresh w V → _) := Lib.hid fun V hV => un_any lv w V 300 hk hV
  have HAw := Lib.hid (fun V hV => awake_any V hV)
  clear hk
  go_enter Tryd.func7, Tryd.ntmps7
  go_wp2_with fail
  refine HP.out.mono ?_
  rintro e w1 ⟨_, rfl, _, _, hf1⟩
  have HU1 := Lib.hid (HU.out w1 hf1)
  clear HP hf1 HU
  go_wp2_with fail
  refine HU1.out.mono ?_
  rintro e w2 ⟨_, r, rfl, hr, hf2, hk2⟩
  have HA := Lib.hid (HAw.out w2 hk2)
  have HF := Lib.hid hf2
  obtain rfl := hr.bad (by omega)
  clear hf2 hk2 HU1 HAw
  go_wp2_with fail
  refine HA.out.mono ?_
  rintro e w3 ⟨rfl, hf3⟩
  have H3 := Lib.hid (HF.out.trans hf3 (fun _ _ h => h)).toBelow
  clear hf3 HA HF
  go_wp2_with fail
  go_ret
  exact ⟨rfl, H3.out⟩

set_option maxRecDepth 100000 in
set_option maxHeartbeats 1600000 in
theorem walkHM (lv m : Int) (w : World) (hk : Kin w) (hl1 : ¬ lv < 0) (hl2 : 2 < lv) (hm1 : 300 < m) (hm2 : m ≤ 1048576) :
    Calls Tryd.prog 7 #[.int .i64 lv, .int .i64 m] w fun e w' => e = .returned (.bool true) ∧ Below w.heap.size w w' := by
  have HP := Lib.hid (cPackP none 0 0 [] lv w hk (Row.empty _ _ _) (by simp))
  unfold PkP at HP
  rw [pk_err, if_pos (by omega)] at HP
  have HU : Hid (∀ V, Fresh w V → _) := Lib.hid fun V hV => un_any lv w V 300 hk hV
  have HAw := Lib.hid (fun V hV => awake_any V hV)
  clear hk
  go_enter Tryd.func7, Tryd.ntmps7
  go_wp2_with fail
  refine HP.out.mono ?_
  rintro e w1 ⟨_, rfl, _, _, hf1⟩
  have HU1 := Lib.hid (HU.out w1 hf1)
  clear HP hf1 HU
  go_wp2_with fail
  refine HU1.out.mono ?_
  rintro e w2 ⟨_, r, rfl, hr, hf2, hk2⟩
  have HA := Lib.hid (HAw.out w2 hk2)
  have HF := Lib.hid hf2
  obtain rfl := hr.bad (by omega)
  clear hf2 hk2 HU1 HAw
  go_wp2_with fail
  refine HA.out.mono ?_
  rintro e w3 ⟨rfl, hf3⟩
  have H3 := Lib.hid (HF.out.trans hf3 (fun _ _ h => h)).toBelow
  clear hf3 HA HF
  go_wp2_with fail
  go_ret
  exact ⟨rfl, H3.out⟩

set_option maxRecDepth 100000 in
set_option maxHeartbeats 1600000 in
theorem walkOM (lv m : Int) (w : World) (hk : Kin w) (hl1 : ¬ lv < 0) (hl2 : ¬ 2 < lv) (hm1 : 300 < m) (hm2 : m ≤ 1048576) :
    Calls Tryd.prog 7 #[.int .i64 lv, .int .i64 m] w fun e w' => e = .returned (.bool true) ∧ Below w.heap.size w w' := by
  have HP := Lib.hid (cPackP none 0 0 [] lv w hk (Row.empty _ _ _) (by simp))
  unfold PkP at HP
  rw [pk_err, if_neg (by omega)] at HP
  have HU : Hid (∀ V, Fresh w V → _) := Lib.hid fun V hV => un_any lv w V 300 hk hV
  have HAw := Lib.hid (fun V hV => awake_any V hV)
  clear hk
  go_enter Tryd.func7, Tryd.ntmps7
  go_wp2_with fail
  refine HP.out.mono ?_
  rintro e w1 ⟨_, rfl, _, _, hf1⟩
  have HU1 := Lib.hid (HU.out w1 hf1)
  clear HP hf1 HU
  go_wp2_with fail
  refine HU1.out.mono ?_
  rintro e w2 ⟨_, r, rfl, hr, hf2, hk2⟩
  have HA := Lib.hid (HAw.out w2 hk2)
  have HF := Lib.hid hf2
  rcases hr.ok (by omega) (by omega) (by omega) (by omega) with rfl | rfl
  all_goals
    clear hf2 hk2 HU1 HAw
    go_wp2_with fail
    refine HA.out.mono ?_
    rintro e w3 ⟨rfl, hf3⟩
    have H3 := Lib.hid (HF.out.trans hf3 (fun _ _ h => h)).toBelow
    clear hf3 HA HF
    go_wp2_with fail
    go_ret
    exact ⟨rfl, H3.out⟩

set_option maxRecDepth 100000 in
set_option maxHeartbeats 1600000 in
theorem walkLB (lv m : Int) (w : World) (hk : Kin w) (hl1 : lv < 0) (hm1 : 300 < m) (hm2 : ¬ m ≤ 1048576) (_ : ¬ m < 0) (_ : 1048576 < m) :
    Calls Tryd.prog 7 #[.int .i64 lv, .int .i64 m] w fun e w' => e = .returned (.bool true) ∧ Below w.heap.size w w' := by
  have HP := Lib.hid (cPackP none 0 0 [] lv w hk (Row.empty _ _ _) (by simp))
  unfold PkP at HP
  rw [pk_err, if_pos (by omega)] at HP
  have HU : Hid (∀ V, Fresh w V → _) := Lib.hid fun V hV => un_any lv w V m hk hV
  have HAw := Lib.hid (fun V hV => awake_any V hV)
  clear hk
  go_enter Tryd.func7, Tryd.ntmps7
  go_wp2_with fail
  refine HP.out.mono ?_
  rintro e w1 ⟨_, rfl, _, _, hf1⟩
  have HU1 := Lib.hid (HU.out w1 hf1)
  clear HP hf1 HU
  go_wp2_with fail
  refine HU1.out.mono ?_
  rintro e w2 ⟨_, r, rfl, hr, hf2, hk2⟩
  have HA := Lib.hid (HAw.out w2 hk2)
  have HF := Lib.hid hf2
  obtain rfl := hr.bad (by omega)
  clear hf2 hk2 HU1 HAw
  go_wp2_with fail
  refine HA.out.mono ?_
  rintro e w3 ⟨rfl, hf3⟩
  have H3 := Lib.hid (HF.out.trans hf3 (fun _ _ h => h)).toBelow
  clear hf3 HA HF
  go_wp2_with fail
  go_ret
  exact ⟨rfl, H3.out⟩

set_option maxRecDepth 100000 in
set_option maxHeartbeats 1600000 in
theorem walkHB (lv m : Int) (w : World) (hk : Kin w) (hl1 : ¬ lv < 0) (hl2 : 2 < lv) (hm1 : 300 < m) (hm2 : ¬ m ≤ 1048576) (_ : ¬ m < 0) (_ : 1048576 < m) :
    Calls Tryd.prog 7 #[.int .i64 lv, .int .i64 m] w fun e w' => e = .returned (.bool true) ∧ Below w.heap.size w w' := by
  have HP := Lib.hid (cPackP none 0 0 [] lv w hk (Row.empty _ _ _) (by simp))
  unfold PkP at HP
  rw [pk_err, if_pos (by omega)] at HP
  have HU : Hid (∀ V, Fresh w V → _) := Lib.hid fun V hV => un_any lv w V m hk hV
  have HAw := Lib.hid (fun V hV => awake_any V hV)
  clear hk
  go_enter Tryd.func7, Tryd.ntmps7
  go_wp2_with fail
  refine HP.out.mono ?_
  rintro e w1 ⟨_, rfl, _, _, hf1⟩
  have HU1 := Lib.hid (HU.out w1 hf1)
  clear HP hf1 HU
  go_wp2_with fail
  refine HU1.out.mono ?_
  rintro e w2 ⟨_, r, rfl, hr, hf2, hk2⟩
  have HA := Lib.hid (HAw.out w2 hk2)
  have HF := Lib.hid hf2
  obtain rfl := hr.bad (by omega)
  clear hf2 hk2 HU1 HAw
  go_wp2_with fail
  refine HA.out.mono ?_
  rintro e w3 ⟨rfl, hf3⟩
  have H3 := Lib.hid (HF.out.trans hf3 (fun _ _ h => h)).toBelow
  clear hf3 HA HF
  go_wp2_with fail
  go_ret
  exact ⟨rfl, H3.out⟩

set_option maxRecDepth 100000 in
set_option maxHeartbeats 1600000 in
theorem walkOB (lv m : Int) (w : World) (hk : Kin w) (hl1 : ¬ lv < 0) (hl2 : ¬ 2 < lv) (hm1 : 300 < m) (hm2 : ¬ m ≤ 1048576) (_ : ¬ m < 0) (hm4 : 1048576 < m) :
    Calls Tryd.prog 7 #[.int .i64 lv, .int .i64 m] w fun e w' => e = .returned (.bool true) ∧ Below w.heap.size w w' := by
  have HP := Lib.hid (cPackP none 0 0 [] lv w hk (Row.empty _ _ _) (by simp))
  unfold PkP at HP
  rw [pk_err, if_neg (by omega)] at HP
  have HU : Hid (∀ V, Fresh w V → _) := Lib.hid fun V hV => un_any lv w V m hk hV
  have HAw := Lib.hid (fun V hV => awake_any V hV)
  clear hk
  go_enter Tryd.func7, Tryd.ntmps7
  go_wp2_with fail
  refine HP.out.mono ?_
  rintro e w1 ⟨_, rfl, _, _, hf1⟩
  have HU1 := Lib.hid (HU.out w1 hf1)
  clear HP hf1 HU
  go_wp2_with fail
  refine HU1.out.mono ?_
  rintro e w2 ⟨_, r, rfl, hr, hf2, hk2⟩
  have HA := Lib.hid (HAw.out w2 hk2)
  have HF := Lib.hid hf2
  obtain rfl := hr.big (by omega) (by omega) (by omega)
  clear hf2 hk2 HU1 HAw
  go_wp2_with fail
  refine HA.out.mono ?_
  rintro e w3 ⟨rfl, hf3⟩
  have H3 := Lib.hid (HF.out.trans hf3 (fun _ _ h => h)).toBelow
  clear hf3 HA HF
  go_wp2_with fail
  go_ret
  exact ⟨rfl, H3.out⟩

set_option maxRecDepth 100000 in
set_option maxHeartbeats 1600000 in
theorem walkOZ (lv : Int) (w : World) (hk : Kin w) (hl1 : ¬ lv < 0) (hl2 : ¬ 2 < lv) :
    Calls Tryd.prog 7 #[.int .i64 lv, .int .i64 0] w fun e w' => e = .returned (.bool true) ∧ Below w.heap.size w w' := by
  have HP := Lib.hid (cPackP none 0 0 [] lv w hk (Row.empty _ _ _) (by simp))
  unfold PkP at HP
  rw [pk_err, if_neg (by omega)] at HP
  have HU : Hid (∀ V, Fresh w V → _) := Lib.hid fun V hV => un_any lv w V 0 hk hV
  have HAw := Lib.hid (fun V hV => awake_any V hV)
  clear hk
  go_enter Tryd.func7, Tryd.ntmps7
  go_wp2_with fail
  refine HP.out.mono ?_
  rintro e w1 ⟨_, rfl, _, _, hf1⟩
  have HU1 := Lib.hid (HU.out w1 hf1)
  clear HP hf1 HU
  go_wp2_with fail
  refine HU1.out.mono ?_
  rintro e w2 ⟨_, r, rfl, hr, hf2, hk2⟩
  have HA := Lib.hid (HAw.out w2 hk2)
  have HF := Lib.hid hf2
  rcases hr.ok (by omega) (by omega) (by omega) (by omega) with rfl | rfl
  all_goals
    clear hf2 hk2 HU1 HAw
    go_wp2_with fail
    refine HA.out.mono ?_
    rintro e w3 ⟨rfl, hf3⟩
    have H3 := Lib.hid (HF.out.trans hf3 (fun _ _ h => h)).toBelow
    clear hf3 HA HF
    go_wp2_with fail
    go_ret
    exact ⟨rfl, H3.out⟩

set_option maxRecDepth 100000 in
theorem walk (lv m : Int) (w : World) (hk : Kin w) :
    Calls Tryd.prog 7 #[.int .i64 lv, .int .i64 m] w fun e w' => e = .returned (.bool true) ∧ Below w.heap.size w w' := by
  by_cases hm1 : m < 0
  · by_cases hl1 : lv < 0
    · exact walkLN lv m w hk hl1 hm1 (by omega)
    · by_cases hl2 : 2 < lv
      · exact walkHN lv m w hk hl1 hl2 hm1 (by omega)
      · exact walkON lv m w hk hl1 hl2 hm1 (by omega)
  · by_cases hm2 : 300 < m
    · by_cases hm3 : m ≤ 1048576
      · by_cases hl1 : lv < 0
        · exact walkLM lv m w hk hl1 hm2 hm3
        · by_cases hl2 : 2 < lv
          · exact walkHM lv m w hk hl1 hl2 hm2 hm3
          · exact walkOM lv m w hk hl1 hl2 hm2 hm3
      · by_cases hl1 : lv < 0
        · exact walkLB lv m w hk hl1 hm2 hm3 hm1 (by omega)
        · by_cases hl2 : 2 < lv
          · exact walkHB lv m w hk hl1 hl2 hm2 hm3 hm1 (by omega)
          · exact walkOB lv m w hk hl1 hl2 hm2 hm3 hm1 (by omega)
    · by_cases hl1 : lv < 0
      · exact walkLS lv m w hk hl1 hm1 hm2 (by omega)
      · by_cases hl2 : 2 < lv
        · exact walkHS lv m w hk hl1 hl2 hm1 hm2 (by omega)
        · by_cases hz : m = 0
          · subst hz
            exact walkOZ lv w hk hl1 hl2
          · exact walkOS lv m w hk hl1 hl2 hm1 hm2 (by omega) hz

set_option maxRecDepth 100000 in
theorem lifted (os : Os) (started : os.Started) (H : Type) (enc : TypeId × Value → H) :
    ReturnsInHanded {} Tryd.checked os 7 .any (fun w args => (Rows.streamLimitsSpec.pre enc Tryd.prog Tryd.f7 [] false w args ∧ laidMetH Tryd.prog laidK w) ∧ sizedMet enc Tryd.prog Tryd.f7 (OpenSpec.ofChange Rows.streamLimitsSpec) false w args)
      (Rows.streamLimitsSpec.post enc Tryd.prog Tryd.f7 false true false false) := by
  refine returnsInHanded_of_change_and (C := Tryd.checked) (X := fun w _ => laidMetH Tryd.prog laidK w) (fun _ _ _ hh h => h.of_heap hh) Tryd.own started (by kernel_rfl) Tryd.func7
    (ChangeSpec.witness_shaped (enc := enc) (C := Tryd.checked) (os := os) (X := fun w _ => laidMetH Tryd.prog laidK w) false (World.doorLaid Tryd.prog 17 os) #[.int .i64 0, .int .i64 0] 8 rfl (World.shaped_of_RefB (by kernel_rfl) (by kernel_rfl)) (by kernel_rfl) (by kernel_rfl) (by kernel_rfl) (door_met os _)) ?_
  intro W base args ds gs before hval0 hW _ _ hL _
  have hval : ∀ (j : Nat) t v, Tryd.f7.params[j]? = some t → args[j]? = some v → Value.okWide Tryd.prog W .any base t v := hval0
  have hpost : ∀ W', Below W.heap.size W W' → Rows.streamLimitsSpec.post enc Tryd.prog Tryd.f7 false true false false W args (.bool true) W' := fun W' hb =>
    law_post (by kernel_rfl) Tryd.underlying4 (by kernel_rfl) rfl (fun ds hl => match ds, hl with | [d1, d2], _ => ⟨rfl, rfl, rfl⟩) hW hb
  obtain ⟨p, q, hA0, hV, rfl, hfz, hnd⟩ := hW
  have hA : DataW.TrodAll enc Tryd.prog W 0 (fun _ => true) true Tryd.f7.params.toList args.toList ds p := hA0
  rw [Tryd.params7] at hA hval
  obtain ⟨v0, vs0, d0, ds0, p0, q0, hargs, rfl, rfl, h0, r0⟩ := trodAll_cons hA
  obtain ⟨v1, vs1, d1, ds1, p1, q1, rfl, rfl, rfl, h1, r1⟩ := trodAll_cons r0
  obtain ⟨rfl, rfl, rfl⟩ := trodAll_nil r1
  obtain rfl : args = #[v0, v1] := by cases args; simp_all
  obtain ⟨a0, rfl, rfl, rfl, w0⟩ := open_int Tryd.underlying3 (hval 0 3 v0 rfl rfl) h0
  obtain ⟨a1, rfl, rfl, rfl, w1⟩ := open_int Tryd.underlying3 (hval 1 3 v1 rfl rfl) h1
  refine (walk a0 a1 W (kin_of_laid hL)).mono fun e W' ⟨he, hb⟩ => ⟨_, he, hpost W' hb⟩

/-- The row. -/
theorem row_proved : Rows.StreamLimitsSaid :=
  OpenClaim.holds_of_wide 7 Tryd.f7 rfl rfl rfl rfl rfl rfl rfl ⟨rfl, rfl, rfl, rfl, rfl⟩ rfl rfl rfl rfl rfl (by kernel_rfl) Tryd.func7 (by kernel_rfl)
    (of_decide_eq_true (by kernel_rfl)) (by unfold Func.isWrapper; first | (rw [if_pos (by decide +kernel)]; kernel_rfl) | (rw [if_neg (by decide +kernel)]; exact ⟨rfl, rfl⟩))
    (fun os started H enc _ => lifted os started H enc)

/-- The statement: the tied card. -/
theorem proved : Rows.StreamLimitsCardSaid :=
  Claim7.holds_tied_plain_at .later [] [.data] true (true, "8330b7bf38052f90f88a9fa0d9cd396e9b05c0988097ea5622d998c1e3d70067") false
    row_proved (fun _ h => by cases h) (by kernel_rfl) (fun _ h => by cases h) streamLimits_row_tie rfl ⟨rfl, rfl⟩ (by kernel_rfl) rfl
    (fun f fn hf hfn => by
      obtain rfl : f = 7 := Option.some.inj ((show Tryd.prog.funcNamed "valise/valiselaw09.StreamLimits" = some 7 by kernel_rfl).symm.trans hf) |>.symm
      obtain rfl : fn = Tryd.f7 := (Option.some.inj (Tryd.func7.symm.trans hfn)).symm
      exact ⟨by kernel_rfl, fun j t ht => by
        rw [Tryd.params7] at ht
        have hm : t ∈ [3] := by
          have := Array.mem_of_getElem? ht
          simp at this ⊢; omega
        have hall : ([3].all fun u => !Tryd.prog.wantsStandIn u) = true := by kernel_rfl
        exact (show Tryd.prog.wantsStandIn t = false by simpa using List.all_eq_true.1 hall t hm)⟩)
    (by kernel_rfl)
#print axioms proved

end Go.Proofs.YtpknbfkknnaajaaDoor.streamLimits
