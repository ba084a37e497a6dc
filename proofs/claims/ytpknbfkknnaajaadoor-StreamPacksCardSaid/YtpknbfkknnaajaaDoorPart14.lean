/- Texts of this proof, one behind the other: StgC, StgNew. -/
import Derived.Test.YtpknbfkknnaajaaDoorPart3
import Derived.Test.YtpknbfkknnaajaaDoorPart11
import Derived.Test.YtpknbfkknnaajaaDoorPart4
import Derived.StillTailTactics
import Derived.BigQuiet
import Derived.BigRegion
import Derived.Deep.DrawnRows
import Derived.Deep.QuietTactic
import Derived.Deep.RegionHeld3

/- The contracts of stage.Stage: round, empty, context, At, Refine, Learn. -/
namespace Go.Proofs.YtpknbfkknnaajaaDoor
set_option maxRecDepth 100000
open Go.RowKit

attribute [local go_sem ↓] Go.wp_at_zero Go.wp_at_succ

/-- The nearer step, as a pointer into the steps at block h. -/
def nv (h : Nat) : Option (Nat × Nat) → Value
  | none => .pointer none
  | some (s, k) => .pointer (some ⟨h, s * 33 + k, none⟩)

/-- The code's stage at block g: n contexts with the steps T, at block h; of the last Refine the nearer step. -/
structure Stg (w : World) (g h n : Nat) (T : Nat → Nat → Int) (q : Option (Nat × Nat)) : Prop where
  blk : Blk w g 144 #[.slice (some ⟨h, 0, none⟩) n n, nv h q]
  steps : Blk w h 140 (gcs .u16 33 n T)
  pos : 0 < n
  le : n ≤ 1024
  bd : ∀ i k, 0 ≤ T i k ∧ T i k ≤ 65535
  qb : ∀ s k, q = some (s, k) → s < n ∧ k < 33

section
variable {w w' : World} {g h n : Nat} {T : Nat → Nat → Int} {q : Option (Nat × Nat)}
theorem Stg.ne_ (m : Stg w g h n T q) : g ≠ h := Blk.ne_ m.blk m.steps (by decide)
theorem Stg.kept {S : Nat → Prop} (m : Stg w g h n T q) (hk : Kept S w w') (hg : ¬ S g) (hh : ¬ S h) : Stg w' g h n T q := ⟨m.blk.kept hk hg, m.steps.kept hk hh, m.pos, m.le, m.bd, m.qb⟩
theorem Stg.drewN (m : Stg w g h n T q) (k : Nat) : Stg (w.drewN k) g h n T q := ⟨m.blk, m.steps, m.pos, m.le, m.bd, m.qb⟩
theorem Stg.c0 (m : Stg w g h n T q) : w.cell? ⟨g, 0, none⟩ = some (.slice (some ⟨h, 0, none⟩) n n) := m.blk.cell 0
theorem Stg.c1 (m : Stg w g h n T q) : w.cell? ⟨g, 1, none⟩ = some (nv h q) := m.blk.cell 1
theorem Stg.cs (m : Stg w g h n T q) {s k : Nat} (hs : s < n) (hk : k < 33) : w.cell? ⟨h, s * 33 + k, none⟩ = some (.int .u16 (T s k)) := by
  rw [m.steps.cell, gcs_get hs hk]
theorem Stg.setQ (m : Stg w g h n T q) {s k : Nat} (hs : s < n) (hk : k < 33) : Stg (w.setCell ⟨g, 1, none⟩ (.pointer (some ⟨h, s * 33 + k, none⟩))) g h n T (some (s, k)) :=
  ⟨by simpa [nv] using m.blk.set_ 1 (.pointer (some ⟨h, s * 33 + k, none⟩)), m.steps.far (by exact m.ne_.symm) _, m.pos, m.le, m.bd, fun s' k' e => by injection e with e; injection e with e1 e2; subst e1; subst e2; exact ⟨hs, hk⟩⟩
theorem Stg.setT (m : Stg w g h n T q) {s k : Nat} (hk : k < 33) {v : Int} (hv : 0 ≤ v ∧ v ≤ 65535) : Stg (w.setCell ⟨h, s * 33 + k, none⟩ (.int .u16 v)) g h n (gput T s k v) q :=
  ⟨m.blk.far (by exact m.ne_) _, by rw [← gcs_set hk]; exact m.steps.set_ _ _, m.pos, m.le, gput_bd m.bd hv, m.qb⟩
end

set_option maxHeartbeats 800000 in
theorem sRound_any (n : Nat) (i : Int) (w : World) (h0 : 0 < n) (hn : n ≤ 65536) :
    Calls Tryd.prog 102 #[.int .i64 i, .int .i64 n] w fun e w' => e = .returned (.int .i64 (pl i n : Nat)) ∧ w' = w := by
  have hp := pl_lt i h0
  have hz : ((n : Int) == 0) = false := by rw [beq_eq_false_iff_ne]; omega
  rcases (by omega : i.tmod n < 0 ∨ 0 ≤ i.tmod n) with hs | hs
  · have he : i.tmod n = ((pl i n : Nat) : Int) - n := by have := tmod_neg h0 hs; omega
    generalize pl i n = k at *
    have hneg : decide ((k : Int) - n < 0) = true := by simp; omega
    clear hs
    go_enter Tryd.func102, Tryd.ntmps102
    go_wp2
    go_ret
    exact ⟨ret_int (by omega), rfl⟩
  · have he := tmod_pos h0 hs
    generalize pl i n = k at *
    have hneg : decide ((k : Int) < 0) = false := by simp
    clear hs
    go_enter Tryd.func102, Tryd.ntmps102
    go_wp2
    go_ret
    exact ⟨rfl, rfl⟩

set_option maxHeartbeats 400000 in
theorem sEmpty_any (g h n : Nat) (T : Nat → Nat → Int) (q : Option (Nat × Nat)) (w : World) (m : Stg w g h n T q) :
    Calls Tryd.prog 97 #[.pointer (some ⟨g, 0, none⟩)] w fun e w' => e = .returned (.bool false) ∧ w' = w := by
  have c0 := m.c0
  have hpos : ((n : Int) == 0) = false := by rw [beq_eq_false_iff_ne]; have := m.pos; omega
  clear m
  go_enter Tryd.func97, Tryd.ntmps97
  go_wp2
  go_ret
  exact ⟨rfl, rfl⟩
set_option maxHeartbeats 400000 in
theorem sEmpty_nil (w : World) :
    Calls Tryd.prog 97 #[.pointer none] w fun e w' => e = .returned (.bool true) ∧ w' = w := by
  go_enter Tryd.func97, Tryd.ntmps97
  go_wp2
  go_ret
  exact ⟨rfl, rfl⟩

set_option maxHeartbeats 800000 in
theorem sContext_any (g h n : Nat) (T : Nat → Nat → Int) (q : Option (Nat × Nat)) (i : Int) (w : World) (m : Stg w g h n T q) :
    Calls Tryd.prog 98 #[.pointer (some ⟨g, 0, none⟩), .int .i64 i] w fun e w' => e = .returned (.pointer (some ⟨h, pl i n * 33, none⟩)) ∧ ∃ k, w' = w.drewN k := by
  have c0 := m.c0
  have HR := Lib.hid (sRound_any n i · m.pos (by have := m.le; omega))
  have hp := pl_lt i m.pos
  clear m
  generalize pl i n = p at *
  have p0 : (0 : Int) ≤ (p : Int) := by omega
  have p1 : (p : Int) < (n : Int) := by omega
  go_enter Tryd.func98, Tryd.ntmps98
  go_wp2_with fail
  go_quiet ((go_at_call 102; exact Calls.quiet_of_same (HR.out _)))
  go_wp2_with fail
  go_ret
  exact ⟨rfl, _, rfl⟩



/-- What Refine answers of nil. -/
theorem sRefine_nil (c i : Int) (w : World) : Calls Tryd.prog 85 #[.pointer none, .int .i64 c, .int .i64 i] w fun e w' => e = .returned (.int .i64 0) ∧ w' = w := by
  go_enter Tryd.func85, Tryd.ntmps85
  go_wp2_with fail
  refine (sEmpty_nil _).mono ?_
  rintro e w' ⟨rfl, rfl⟩
  go_wp2_with fail
  go_ret
  exact ⟨rfl, rfl⟩

/-- Learn of nil: nothing. -/
theorem sLearn_nil (b r : Int) (w : World) : Calls Tryd.prog 89 #[.pointer none, .int .i64 b, .int .i64 r] w fun e w' => e = .returned (.tuple #[]) ∧ w' = w := by
  go_enter Tryd.func89, Tryd.ntmps89
  go_wp2_with fail
  refine bodyPost_ret (results_none rfl _ _ _) rfl ?_
  exact ⟨rfl, rfl⟩

/-- Learn without a Refine ahead: nothing. -/
theorem sLearn_none (g h n : Nat) (T : Nat → Nat → Int) (b r : Int) (w : World) (m : Stg w g h n T none) :
    Calls Tryd.prog 89 #[.pointer (some ⟨g, 0, none⟩), .int .i64 b, .int .i64 r] w fun e w' => e = .returned (.tuple #[]) ∧ w' = w := by
  have c1 : w.cell? ⟨g, 1, none⟩ = some (.pointer none) := m.c1
  clear m
  go_enter Tryd.func89, Tryd.ntmps89
  go_wp2_with fail
  refine bodyPost_ret (results_none rfl _ _ _) rfl ?_
  exact ⟨rfl, rfl⟩

set_option maxHeartbeats 1600000 in
/-- Refine: P7.2. -/
theorem sRefine_any (g h n : Nat) (T : Nat → Nat → Int) (q : Option (Nat × Nat)) (c i : Int) (w : World) (m : Stg w g h n T q) :
    Calls Tryd.prog 85 #[.pointer (some ⟨g, 0, none⟩), .int .i64 c, .int .i64 i] w fun e w' => e = .returned (.int .i64 (rd (T (pl i n)) (sx c))) ∧
      Stg w' g h n T (some (pl i n, nr (sx c))) ∧ Kept (fun j => j = g) w w' := by
  have HE := Lib.hid (sEmpty_any g h n T q w m)
  have HC := Lib.hid (sContext_any g h n T q i w m)
  have hp := pl_lt i m.pos
  have HM := Lib.hid m
  have c1 := fun N => (m.drewN N).c1
  have f1 := fun N => (m.drewN N).blk.frozen 1
  clear m
  generalize pl i n = p at *
  have hx := sx_bd c
  have hs := sx_int c
  have hr : rd (T p) (sx c) = mid (T p (sx c / 128)) (T p (sx c / 128 + 1)) (sx c % 128) := rfl
  generalize sx c = x at *
  have hn := nr_int x
  have hnl := nr_lt hx.2
  have hq1 : (x : Int) / 128 = ((x / 128 : Nat) : Int) := by omega
  have hq2 : (x : Int) % 128 = ((x % 128 : Nat) : Int) := by omega
  have hk : x / 128 < 32 := by omega
  have hv : x % 128 < 128 := by omega
  have ha := HM.out.bd p (x / 128)
  have hb := HM.out.bd p (x / 128 + 1)
  have hsum := mid_sum ha hb hv
  rw [hr]
  have hmi : max ((T p (x / 128) * (128 - ((x % 128 : Nat) : Int)) + T p (x / 128 + 1) * ((x % 128 : Nat) : Int)) / 2048) 1 = mid (T p (x / 128)) (T p (x / 128 + 1)) (x % 128) := rfl
  clear hr
  have hq3 : (x : Int).tmod 128 = ((x % 128 : Nat) : Int) := by rw [Int.tmod_eq_emod_of_nonneg (by omega)]; omega
  clear hq2
  generalize nr x = z at *
  generalize x / 128 = k at *
  generalize x % 128 = v at *
  generalize mid (T p k) (T p (k + 1)) v = t at *
  have H1 : Hid (∀ V N, V = w.drewN N → Stg (V.setCell ⟨g, 1, none⟩ (.pointer (some ⟨h, p * 33 + z, none⟩))) g h n T (some (p, z)) ∧ Kept (fun j => j = g) w (V.setCell ⟨g, 1, none⟩ (.pointer (some ⟨h, p * 33 + z, none⟩)))) :=
    Lib.hid fun V N e => by subst e; exact ⟨(HM.out.drewN N).setQ hp hnl, ((Kept.refl (fun j => j = g) w).drewN N).setCell (p := ⟨g, 1, none⟩) (fun _ => rfl) _⟩
  have z0 : (0 : Int) ≤ (z : Int) := by omega
  have z1 : (z : Int) < 33 := by omega
  obtain ⟨hx1, hx2⟩ := hx
  obtain ⟨u1, u2, u3, u4, u5⟩ := hsum
  go_enter Tryd.func85, Tryd.ntmps85
  go_wp2_with fail
  refine HE.out.mono ?_
  rintro e w' ⟨rfl, rfl⟩
  go_wp2_with fail
  refine HC.out.mono ?_
  rintro e w1 ⟨rfl, N, hN⟩
  have c1 := c1 N
  have f1 := f1 N
  rw [← hN] at c1 f1
  have H2 := Lib.hid (H1.out w1 N hN)
  clear hN H1
  go_wp2_with fail
  refine (stretch_any c _).mono ?_
  rintro e w2 ⟨rfl, rfl⟩
  go_wp2_with fail
  have d1 := H2.out.1.cs hp (show k < 33 by omega)
  have d2 := H2.out.1.cs hp (show k + 1 < 33 by omega)
  generalize w2.setCell ⟨g, 1, none⟩ (.pointer (some ⟨h, p * 33 + z, none⟩)) = w3 at *
  have k0 : (0 : Int) ≤ (k : Int) := by omega
  have k1 : (k : Int) < 33 := by omega
  have k2 : (0 : Int) ≤ (k : Int) + 1 := by omega
  have k3 : (k : Int) + 1 < 33 := by omega
  generalize T p k = a at *
  generalize T p (k + 1) = b at *
  obtain ⟨a0, a1⟩ := ha
  obtain ⟨b0, b1⟩ := hb
  have kk : ((k : Int) + 1).toNat = k + 1 := by omega
  have e1 : IntKind.i64.wrap (128 - (v : Int)) = 128 - (v : Int) := IntWalk.i64_in _ (by omega)
  have e2 : IntKind.i64.wrap (a * (128 - (v : Int))) = a * (128 - (v : Int)) := IntWalk.i64_in _ (by omega)
  have e3 : IntKind.i64.wrap ((k : Int) + 1) = (k : Int) + 1 := IntWalk.i64_in _ (by omega)
  have e4 : IntKind.i64.wrap (b * (v : Int)) = b * (v : Int) := IntWalk.i64_in _ (by omega)
  have e5 : IntKind.i64.wrap (a * (128 - (v : Int)) + b * (v : Int)) = a * (128 - (v : Int)) + b * (v : Int) := IntWalk.i64_in _ (by omega)
  have e6 : IntKind.i64.wrap a = a := IntWalk.i64_in _ (by omega)
  have e7 : IntKind.i64.wrap b = b := IntWalk.i64_in _ (by omega)
  go_quiet (fail)
  clear e1 e2 e3 e4 e5 e6 e7
  go_wp2_with fail
  go_ret
  exact ⟨rfl, H2.out.1.drewN _, H2.out.2.drewN _⟩

theorem u16_in {x : Int} (h : 0 ≤ x ∧ x ≤ 65535) : IntKind.u16.wrap x = x := by rw [IntKind.wrap_u16]; omega

set_option maxHeartbeats 1600000 in
/-- Learn: P7.2. -/
theorem sLearn_any (g h n : Nat) (T : Nat → Nat → Int) (s k : Nat) (b r : Int) (w : World) (m : Stg w g h n T (some (s, k))) :
    Calls Tryd.prog 89 #[.pointer (some ⟨g, 0, none⟩), .int .i64 b, .int .i64 r] w fun e w' => e = .returned (.tuple #[]) ∧
      Stg w' g h n (gput T s k (lr (b != 0) (rt r) (T s k))) (some (s, k)) ∧ Kept (fun j => j = h) w w' := by
  obtain ⟨hs, hk⟩ := m.qb s k rfl
  have c1 : w.cell? ⟨g, 1, none⟩ = some (.pointer (some ⟨h, s * 33 + k, none⟩)) := m.c1
  have c2 := m.cs hs hk
  have f2 := m.steps.frozen (s * 33 + k)
  have hb := m.bd s k
  have hl := lr_bd (b != 0) (rt r) hb
  have HM : Hid (∀ v, 0 ≤ v ∧ v ≤ 65535 → Stg (w.setCell ⟨h, s * 33 + k, none⟩ (.int .u16 v)) g h n (gput T s k v) (some (s, k)) ∧ Kept (fun j => j = h) w (w.setCell ⟨h, s * 33 + k, none⟩ (.int .u16 v))) :=
    Lib.hid fun v hv => ⟨m.setT hk hv, (Kept.refl (fun j => j = h) w).setCell (p := ⟨h, s * 33 + k, none⟩) (fun _ => rfl) _⟩
  have hr := rt_int r
  have hrb := rt_bd r
  obtain ⟨j, hj⟩ : ∃ j, rt r = j := ⟨_, rfl⟩
  obtain ⟨one, hone⟩ : ∃ one, (b != 0) = one := ⟨_, rfl⟩
  rw [hj] at hr hrb hl ⊢
  rw [hone] at hl ⊢
  clear hj m
  have H2 := Lib.hid (HM.out _ hl)
  clear HM
  generalize T s k = x at *
  obtain ⟨b0, b1⟩ := hb
  cases one
  · rw [lr_zero, Int.zero_sub] at *
    have hd := (shr_bd (a := -x) j).2 (by omega)
    go_enter Tryd.func89, Tryd.ntmps89
    go_wp2_with fail
    have e1 : IntKind.i64.wrap (-x) = -x := IntWalk.i64_in _ (by omega)
    have e2 : IntKind.i64.wrap (x + -x / 2 ^ j) = x + -x / 2 ^ j := IntWalk.i64_in _ (by omega)
    have e3 : IntKind.u16.wrap (x + -x / 2 ^ j) = x + -x / 2 ^ j := u16_in (by omega)
    go_still_tail 15, (by kernel_rfl)
    change wpList _ _ _ _ _ w.drew
    clear e1 e2 e3
    go_wp2_with fail
    go_end0
    exact ⟨rfl, H2.out.1.drewN 1, H2.out.2.drew⟩
  · rw [lr_one] at *
    have hd := (shr_bd (a := 65535 - x) j).1 (by omega)
    go_enter Tryd.func89, Tryd.ntmps89
    go_wp2_with fail
    have e1 : IntKind.i64.wrap (65535 - x) = 65535 - x := IntWalk.i64_in _ (by omega)
    have e2 : IntKind.i64.wrap (x + (65535 - x) / 2 ^ j) = x + (65535 - x) / 2 ^ j := IntWalk.i64_in _ (by omega)
    have e3 : IntKind.u16.wrap (x + (65535 - x) / 2 ^ j) = x + (65535 - x) / 2 ^ j := u16_in (by omega)
    go_still_tail 15, (by kernel_rfl)
    change wpList _ _ _ _ _ w.drew
    clear e1 e2 e3
    go_wp2_with fail
    go_end0
    exact ⟨rfl, H2.out.1.drewN 1, H2.out.2.drew⟩

end Go.Proofs.YtpknbfkknnaajaaDoor

/- The contract of stage.New. -/
namespace Go.Proofs.YtpknbfkknnaajaaDoor
set_option maxRecDepth 100000
open Go.RowKit

attribute [local go_sem ↓] Go.wp_at_zero Go.wp_at_succ

theorem Tryd.infoSteps : (Tryd.prog.info? 140).map (fun i => (i.zero, i.size, i.bytes)) = some (some (.agg (rcs .u16 33 fun _ => 0)), 33, 66) := by kernel_rfl
theorem Tryd.zeroSteps : (Tryd.prog.info? 140).map (fun i => (i.zero, i.size)) = some (some (.agg (rcs .u16 33 fun _ => 0)), 33) := by kernel_rfl

/-- The steps, of which the first k are laid. -/
def fsTo (k : Nat) : Nat → Int := fun j => if j < k then fs j else 0
theorem fsTo_zero : (fun _ => 0) = fsTo 0 := by funext j; simp [fsTo]
theorem fsTo_put (k : Nat) : (fun j => if j = k then fs k else fsTo k j) = fsTo (k + 1) := by
  funext j; unfold fsTo
  by_cases h : j = k
  · subst h; rw [if_pos rfl, if_pos (by omega)]
  · rw [if_neg h]
    by_cases h' : j < k
    · rw [if_pos h', if_pos (by omega)]
    · rw [if_neg h', if_neg (by omega)]
theorem fsTo_all : rcs .u16 33 (fsTo 33) = rcs .u16 33 fs := rcs_congr fun j hj => by unfold fsTo; rw [if_pos hj]

set_option maxHeartbeats 1600000 in
/-- New: P7.1. -/
theorem sNew_any (n : Int) (w : World) : Calls Tryd.prog 76 #[.int .i64 n] w fun e w' => ∃ g h, e = .returned (.pointer (some ⟨g, 0, none⟩)) ∧ Stg w' g h (nc n) (fun _ => fs) none ∧ w.heap.size ≤ g ∧ w.heap.size ≤ h ∧ Fresh w w' := by
  have hk := nc_int n
  have hb := nc_bd n
  generalize nc n = m at *
  obtain ⟨hzero, hsize⟩ := zero_of_info Tryd.zeroSteps
  obtain ⟨i0, hi, hz0, hz1, hz2⟩ := info_parts Tryd.infoSteps
  have h1 := Blk.new w 140 (rcs .u16 33 fun _ => 0)
  have hf1 : Fresh w (w.alloc (.cells (rcs .u16 33 fun _ => 0) 140)) := (Kept.refl _ _).alloc _
  rw [fsTo_zero] at h1 hf1 hzero
  have H1 := Lib.hid (And.intro h1 hf1)
  clear h1 hf1
  go_enter Tryd.func76, Tryd.ntmps76
  go_wp2_with fail
  go_loopw [7] (fun i wr => ∃ k : Nat, k ≤ 33 ∧ i = .int .i64 k ∧ Blk wr w.heap.size 140 (rcs .u16 33 (fsTo k)) ∧ Fresh w wr) (fun i _ => (33 - intOf i).toNat)
  case atStart => exact ⟨0, by omega, rfl, H1.out⟩
  case round =>
    obtain ⟨k, hk33, rfl, hbk, hf⟩ := hrel
    clear H1
    by_cases hlt : k < 33
    · have hc := hbk.cell k
      rw [rcs_get hlt] at hc
      have hfz := hbk.frozen k
      have hset := hbk.set_ k (.int .u16 (fs k))
      rw [rcs_set, fsTo_put] at hset
      have HS := Lib.hid (And.intro hset (hf.setCell (p := ⟨w.heap.size, k, none⟩) (fun h => by have h' : w.heap.size < w.heap.size := h; omega) (.int .u16 (fs k))))
      have HQ := Lib.hid (squash_any (128 * ((k : Int) - 16)))
      have k0 : (0 : Int) ≤ (k : Int) := by omega
      have k1 : (k : Int) < 33 := by omega
      have hfb := fs_bd k
      have hfs : fs k = sq (128 * ((k : Int) - 16)) * 16 := by rw [← fs_int]; omega
      rw [hfs] at HS hfb
      clear hfs
      generalize sq (128 * ((k : Int) - 16)) = z at *
      clear hset hbk hf
      go_wp2_with fail
      refine (HQ.out _).mono ?_
      rintro e w' ⟨rfl, rfl⟩
      obtain ⟨z1, z2⟩ : 1 ≤ z ∧ z ≤ 4095 := by omega
      go_wp2_with fail
      go_roundw
      case rel => exact ⟨k + 1, by omega, by go_num, HS.out.1, HS.out.2⟩
      case measure => simp [intOf]; omega
    · obtain rfl : k = 33 := by omega
      rw [fsTo_all] at hbk
      have H2 := Lib.hid (And.intro hbk hf)
      clear hbk hf
      have k1 : ¬ ((33 : Nat) : Int) < 33 := by omega
      go_wp2_with (refine wpList_make_blk _ rfl (.tmp 21) (.tmp 21) 141 rfl 140 i0 (.agg (rcs .u16 33 fun _ => 0)) 33 Tryd.underlying141 hi hz0 hz1 _ _ _ _ m rfl rfl (by omega) (by omega) (by rw [hz2]; omega) (by unfold maxLen; omega) ?_)
      intro w2 hb2 hf2
      have hb2 : Blk w2 wr.heap.size 140 (gcs .u16 33 m (glaid fs 0)) := by rw [← gcs_made]; exact hb2
      have hlt2 := hb2.lt
      have hB := H2.out.1.kept hf2 id
      have hsz := H2.out.2.size
      have hb3 := hb2.alloc (.cells #[.slice (some ⟨wr.heap.size, 0, none⟩) m m, .pointer none] 144)
      have hB3 := hB.alloc (.cells #[.slice (some ⟨wr.heap.size, 0, none⟩) m m, .pointer none] 144)
      have hg3 := Blk.new w2 144 #[.slice (some ⟨wr.heap.size, 0, none⟩) m m, .pointer none]
      have hf3 := (H2.out.2.trans hf2 (fun _ _ h => h)).alloc (.cells #[.slice (some ⟨wr.heap.size, 0, none⟩) m m, .pointer none] 144)
      have hG : w.heap.size ≤ w2.heap.size := (H2.out.2.trans hf2 (fun _ _ h => h)).size
      have c0 : (w2.alloc (.cells #[.slice (some ⟨wr.heap.size, 0, none⟩) m m, .pointer none] 144)).cell? ⟨w2.heap.size, 0, none⟩ = some (.slice (some ⟨wr.heap.size, 0, none⟩) m m) := hg3.cell 0
      have hne : w.heap.size ≠ wr.heap.size := by have := H2.out.1.lt; omega
      have hAlo : w.heap.size ≤ wr.heap.size := hsz
      have H3 := Lib.hid (And.intro hb3 (And.intro hB3 (And.intro hg3 hf3)))
      clear hb2 hB hb3 hB3 hg3 hf3 hf2 H2
      generalize hA : wr.heap.size = A at *
      generalize hGG : w2.heap.size = G at *
      go_wp2_with fail
      clear hA hGG c0 hlt2
      go_loopw [30] (fun i wr => ∃ r : Nat, r ≤ m ∧ i = .int .i64 r ∧ Blk wr A 140 (gcs .u16 33 m (glaid fs r)) ∧ Blk wr w.heap.size 140 (rcs .u16 33 fs) ∧ Blk wr G 144 #[.slice (some ⟨A, 0, none⟩) m m, .pointer none] ∧ Fresh w wr) (fun i _ => (m - intOf i).toNat)
      case atStart => exact ⟨0, by omega, rfl, H3.out⟩
      case round =>
        obtain ⟨r, hr, rfl, hb, hB, hg, hf⟩ := hrel
        clear H3
        by_cases hlt : r < m
        · have c0 : wr.cell? ⟨G, 0, none⟩ = some (.slice (some ⟨A, 0, none⟩) m m) := hg.cell 0
          have hl := run_loadAt_blk hB.drew Tryd.underlying140 (by rw [rcs_size]; exact (zero_of_info Tryd.zeroSteps).2)
          have r0 : (0 : Int) ≤ (r : Int) := by omega
          have r1 : (r : Int) < (m : Int) := by omega
          have hst := run_storeAt_in (P := Tryd.prog) (o := r * 33) (cs' := rcs .u16 33 fs) (ty := 140) hb.drew (by rw [rcs_size]; exact (zero_of_info Tryd.zeroSteps).2) (by rw [rcs_size, gcs_size]; have := place_lt (m := 33) (k := 32) hlt (by omega); omega) (rcs_one _ _ _)
          rw [rcs_size, gcs_row fs hlt] at hst
          have HL := Lib.hid (And.intro hl hst)
          have HS : Hid (Blk (wr.drew.setRow A (gcs .u16 33 m (glaid fs (r + 1)))) A 140 (gcs .u16 33 m (glaid fs (r + 1))) ∧ Blk (wr.drew.setRow A (gcs .u16 33 m (glaid fs (r + 1)))) w.heap.size 140 (rcs .u16 33 fs) ∧ Blk (wr.drew.setRow A (gcs .u16 33 m (glaid fs (r + 1)))) G 144 #[.slice (some ⟨A, 0, none⟩) m m, .pointer none] ∧ Fresh w (wr.drew.setRow A (gcs .u16 33 m (glaid fs (r + 1))))) :=
            Lib.hid ⟨hb.drew.rowed, hB.drew.kept ((Kept.refl (fun j => j = A) wr.drew).rowed _ (fun _ => rfl)) hne, hg.drew.kept ((Kept.refl (fun j => j = A) wr.drew).rowed _ (fun _ => rfl)) (Blk.ne_ hg hb (by decide)), hf.drew.rowed _ (fun h => by omega)⟩
          clear hb hB hg hf hl hst
          go_wp2_with fail
          go_still_tail 7, (by kernel_rfl)
          refine wpStill_load_eq rfl (.tmp 3) 140 rfl _ _ rfl HL.out.1 ?_
          repeat still_step
          refine wpStill_nil ?_
          change wpList _ _ _ _ _ wr.drew
          refine wpList_store_eq rfl (.tmp 39) (.tmp 38) 140 rfl _ _ rfl rfl HL.out.2 ?_
          generalize wr.drew.setRow A (gcs .u16 33 m (glaid fs (r + 1))) = w5 at *
          go_wp2_with fail
          go_roundw
          case rel => exact ⟨r + 1, by omega, by go_num, HS.out⟩
          case measure => simp [intOf]; omega
        · obtain rfl : r = m := by omega
          rw [glaid_all] at hb
          have HS := Lib.hid (And.intro hb (And.intro hg hf))
          clear hb hB hg hf
          go_wp2_with fail
          go_ret
          refine ⟨G, A, rfl, ⟨HS.out.2.1, HS.out.1, by omega, by omega, fun _ k => by have := fs_bd k; omega, fun _ _ e => by cases e⟩, by omega, by omega, HS.out.2.2⟩

end Go.Proofs.YtpknbfkknnaajaaDoor
