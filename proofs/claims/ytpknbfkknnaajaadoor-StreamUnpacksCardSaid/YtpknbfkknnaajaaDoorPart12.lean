/- Texts of this proof, one behind the other: MixD. -/
import Derived.Test.YtpknbfkknnaajaaDoorPart11
import Derived.StillTailTactics
import Derived.Test.YtpknbfkknnaajaaDoorPart3

/- The contracts of what a mixer is made of: dot and learn of a set of weights, taken (the inputs that count). -/
namespace Go.Proofs.YtpknbfkknnaajaaDoor
set_option maxRecDepth 100000
open Go.RowKit

/-- Four numbers as cells. -/
def a4 (f : Nat → Int) : Array Value := #[.int .i64 (f 0), .int .i64 (f 1), .int .i64 (f 2), .int .i64 (f 3)]
theorem a4_get {f : Nat → Int} {k : Nat} (h : k < 4) : (a4 f)[k]? = some (.int .i64 (f k)) := by
  match k, h with
  | 0, _ => rfl
  | 1, _ => rfl
  | 2, _ => rfl
  | 3, _ => rfl
theorem four {k : Nat} (h : k < 4) : k = 0 ∨ k = 1 ∨ k = 2 ∨ k = 3 := by omega

/-- All weights as cells: four a set. -/
def wcs (n : Nat) (W : Nat → Nat → Int) : Array Value := ((List.range (n * 4)).map fun i => Value.int .i64 (W (i / 4) (i % 4))).toArray
theorem wcs_size (n : Nat) (W : Nat → Nat → Int) : (wcs n W).size = n * 4 := by simp [wcs]
theorem wcs_get {n : Nat} {W : Nat → Nat → Int} {s k : Nat} (hs : s < n) (hk : k < 4) : (wcs n W)[s * 4 + k]? = some (.int .i64 (W s k)) := by
  have h : s * 4 + k < n * 4 := by omega
  simp only [wcs, List.getElem?_toArray, List.getElem?_map, List.getElem?_range h, Option.map_some]
  rw [show (s * 4 + k) / 4 = s by omega, show (s * 4 + k) % 4 = k by omega]
/-- One weight is another one. -/
def put1 (W : Nat → Nat → Int) (s k : Nat) (v : Int) : Nat → Nat → Int := fun i j => if i = s ∧ j = k then v else W i j
theorem wcs_set {n : Nat} {W : Nat → Nat → Int} {s k : Nat} (hk : k < 4) (v : Int) : (wcs n W).setIfInBounds (s * 4 + k) (.int .i64 v) = wcs n (put1 W s k v) := by
  apply Array.ext_getElem?
  intro i
  rw [Array.getElem?_setIfInBounds]
  have hi : (wcs n W).size = n * 4 := wcs_size n W
  rcases Nat.lt_or_ge i (n * 4) with hlt | hge
  · have e1 : (wcs n (put1 W s k v))[i]? = some (.int .i64 (put1 W s k v (i / 4) (i % 4))) := by
      simp only [wcs, List.getElem?_toArray, List.getElem?_map, List.getElem?_range hlt, Option.map_some]
    have e2 : (wcs n W)[i]? = some (.int .i64 (W (i / 4) (i % 4))) := by
      simp only [wcs, List.getElem?_toArray, List.getElem?_map, List.getElem?_range hlt, Option.map_some]
    rw [e1, e2]
    unfold put1
    by_cases e : s * 4 + k = i
    · rw [if_pos e, if_pos (by omega), if_pos (by omega)]
    · rw [if_neg e, if_neg (by omega)]
  · have e1 : (wcs n (put1 W s k v))[i]? = none := Array.getElem?_eq_none (by rw [wcs_size]; exact hge)
    have e2 : (wcs n W)[i]? = none := Array.getElem?_eq_none (by rw [wcs_size]; exact hge)
    rw [e1, e2]
    by_cases e : s * 4 + k = i
    · rw [if_pos e, if_neg (by omega)]
    · rw [if_neg e]

theorem run_index_a4 (W : World) (f : Nat → Int) (k : Nat) (h : k < 4) : (Instr.index 131 (.agg (a4 f)) (.int .i64 k)).run Tryd.prog W = .ok (.int .i64 (f k)) W := by
  rcases four h with rfl | rfl | rfl | rfl
  all_goals simp [Instr.index, run_underlying Tryd.underlying131, asIntOf, go_sem, a4]

theorem prod_bd {x y : Int} (hx : -2047 ≤ x ∧ x ≤ 2047) (hy : -16777216 ≤ y ∧ y ≤ 16777216) : -34342961152 ≤ x * y ∧ x * y ≤ 34342961152 := by
  have := mul_bd hx hy; omega

set_option maxHeartbeats 1600000 in
/-- The sum of inputs times weights. -/
theorem dot_any (h s n : Nat) (W : Nat → Nat → Int) (I : Nat → Int) (w : World) (hb : Blk w h 138 (wcs n W)) (hs : s < n)
    (hI : ∀ k, -2047 ≤ I k ∧ I k ≤ 2047) (hW : ∀ k, -16777216 ≤ W s k ∧ W s k ≤ 16777216) :
    Calls Tryd.prog 96 #[.pointer (some ⟨h, s * 4, none⟩), .agg #[.int .i64 (I 0), .int .i64 (I 1), .int .i64 (I 2), .int .i64 (I 3)]] w fun e w' => e = .returned (.int .i64 (dotTo I (W s) 4 / 65536)) ∧ Fresh w w' := by
  have HC : Hid (∀ k, k < 4 → ∀ o, (w.alloc o).cell? ⟨h, s * 4 + k, none⟩ = some (.int .i64 (W s k))) := Lib.hid fun k hk o => by
    rw [(hb.alloc o).cell (s * 4 + k), wcs_get hs hk]
  have HI := Lib.hid hI
  have HW := Lib.hid hW
  have hF : Fresh w (w.alloc (.cells #[.int .i64 (I 0), .int .i64 (I 1), .int .i64 (I 2), .int .i64 (I 3)] 131)) := (Kept.refl _ _).alloc _
  have HF := Lib.hid hF
  clear hF hb hI hW
  go_enter Tryd.func96, Tryd.ntmps96
  go_wp2_with fail
  go_loop [5, 9] (fun t i => ∃ k : Nat, k ≤ 4 ∧ i = .int .i64 k ∧ t = .int .i64 (dotTo I (W s) k)) (fun _ i => (4 - intOf i).toNat)
  case atStart => exact ⟨0, by omega, rfl, rfl⟩
  case round =>
    obtain ⟨k, hk, rfl, rfl⟩ := hrel
    have hd := dotTo_bd HI.out HW.out k
    by_cases hlt : k < 4
    · have hstep : dotTo I (W s) (k + 1) = dotTo I (W s) k + I k * W s k := rfl
      have hp := prod_bd (HI.out k) (HW.out k)
      have hc := HC.out k hlt (.cells #[.int .i64 (I 0), .int .i64 (I 1), .int .i64 (I 2), .int .i64 (I 3)] 131)
      have h1 : -1000000000000 ≤ dotTo I (W s) k ∧ dotTo I (W s) k ≤ 1000000000000 := by omega
      obtain ⟨h1, h2⟩ := h1
      obtain ⟨h3, h4⟩ := hp
      have HS := Lib.hid hstep
      clear hstep hd
      generalize dotTo I (W s) k = D at *
      have hx : ∀ V, (Instr.index 131 (.agg #[.int .i64 (I 0), .int .i64 (I 1), .int .i64 (I 2), .int .i64 (I 3)]) (.int .i64 k)).run Tryd.prog V = .ok (.int .i64 (I k)) V := fun V => run_index_a4 V I k hlt
      have k0 : (0 : Int) ≤ (k : Int) := by omega
      have k1 : (k : Int) < 4 := by omega
      generalize W s k = y at *
      generalize I k = x at *
      go_wp2_with fail
      go_round
      case rel => exact ⟨k + 1, by omega, by go_num, by rw [HS.out]⟩
      case measure => simp [intOf]; omega
    · obtain rfl : k = 4 := by omega
      go_wp2_with fail
      go_ret
      exact ⟨rfl, HF.out⟩

/-- The weights, of which the first k of set s have learnt. -/
def upTo (W : Nat → Nat → Int) (s : Nat) (I : Nat → Int) (e : Int) (k : Nat) : Nat → Nat → Int := fun i j => if i = s ∧ j < k then lw (W s j) (I j) e else W i j
theorem upTo_zero (W : Nat → Nat → Int) (s : Nat) (I : Nat → Int) (e : Int) : upTo W s I e 0 = W := by
  funext i j; unfold upTo; rw [if_neg (by omega)]
theorem upTo_at (W : Nat → Nat → Int) (s : Nat) (I : Nat → Int) (e : Int) (k : Nat) : upTo W s I e k s k = W s k := by
  unfold upTo; rw [if_neg (by omega)]
theorem upTo_put (W : Nat → Nat → Int) (s : Nat) (I : Nat → Int) (e : Int) (k : Nat) : put1 (upTo W s I e k) s k (lw (W s k) (I k) e) = upTo W s I e (k + 1) := by
  funext i j; unfold put1 upTo
  by_cases h : i = s ∧ j = k
  · obtain ⟨rfl, rfl⟩ := h
    rw [if_pos ⟨rfl, rfl⟩, if_pos (by omega)]
  · rw [if_neg h]
    by_cases h' : i = s ∧ j < k
    · rw [if_pos h', if_pos (by omega)]
    · rw [if_neg h', if_neg (by omega)]
/-- .. and all of them. -/
def learnt (W : Nat → Nat → Int) (s : Nat) (I : Nat → Int) (e : Int) : Nat → Nat → Int := upTo W s I e 4

set_option maxHeartbeats 1600000 in
/-- Each weight of a set learns. -/
theorem wLearn_any (h s n : Nat) (W : Nat → Nat → Int) (I : Nat → Int) (e : Int) (w : World) (hb : Blk w h 138 (wcs n W)) (hs : s < n)
    (hI : ∀ k, -2047 ≤ I k ∧ I k ≤ 2047) (hW : ∀ k, -16777216 ≤ W s k ∧ W s k ≤ 16777216) (he0 : -28665 ≤ e) (he1 : e ≤ 28665) :
    Calls Tryd.prog 101 #[.pointer (some ⟨h, s * 4, none⟩), .agg #[.int .i64 (I 0), .int .i64 (I 1), .int .i64 (I 2), .int .i64 (I 3)], .int .i64 e] w fun r w' => r = .returned (.tuple #[]) ∧ Blk w' h 138 (wcs n (learnt W s I e)) ∧ Kept (fun i => i = h) w w' := by
  have HI := Lib.hid hI
  have HW := Lib.hid hW
  have H0 : Hid (Blk (w.alloc (.cells #[.int .i64 (I 0), .int .i64 (I 1), .int .i64 (I 2), .int .i64 (I 3)] 131)) h 138 (wcs n (upTo W s I e 0)) ∧ Kept (fun i => i = h) w (w.alloc (.cells #[.int .i64 (I 0), .int .i64 (I 1), .int .i64 (I 2), .int .i64 (I 3)] 131))) :=
    Lib.hid ⟨by rw [upTo_zero]; exact hb.alloc _, (Kept.refl _ _).alloc _⟩
  clear hb hI hW
  go_enter Tryd.func101, Tryd.ntmps101
  go_wp2_with fail
  go_loopw [9] (fun i wr => ∃ k : Nat, k ≤ 4 ∧ i = .int .i64 k ∧ Blk wr h 138 (wcs n (upTo W s I e k)) ∧ Kept (fun i => i = h) w wr) (fun i _ => (4 - intOf i).toNat)
  case atStart => exact ⟨0, by omega, rfl, H0.out.1, H0.out.2⟩
  case round =>
    obtain ⟨k, hk, rfl, hb, hkp⟩ := hrel
    clear H0
    by_cases hlt : k < 4
    · have hc := hb.cell (s * 4 + k)
      rw [wcs_get hs hlt, upTo_at] at hc
      have hf := hb.frozen (s * 4 + k)
      have hset := hb.set_ (s * 4 + k) (.int .i64 (lw (W s k) (I k) e))
      rw [wcs_set hlt, upTo_put] at hset
      have hkp2 : Kept (fun i => i = h) w (wr.setCell ⟨h, s * 4 + k, none⟩ (.int .i64 (lw (W s k) (I k) e))) := hkp.setCell (p := ⟨h, s * 4 + k, none⟩) (fun _ => rfl) _
      have HS := Lib.hid (And.intro hset hkp2)
      have hp := mul_bd (a := I k) (b := e) (A := 2047) (B := 28665) (HI.out k) ⟨by omega, by omega⟩
      have hw := HW.out k
      have hlw : lw (W s k) (I k) e = cl (W s k + (I k * e + 32768) / 65536) 16777216 := rfl
      rw [hlw] at HS
      have hx : ∀ V, (Instr.index 131 (.agg #[.int .i64 (I 0), .int .i64 (I 1), .int .i64 (I 2), .int .i64 (I 3)]) (.int .i64 k)).run Tryd.prog V = .ok (.int .i64 (I k)) V := fun V => run_index_a4 V I k hlt
      have k0 : (0 : Int) ≤ (k : Int) := by omega
      have k1 : (k : Int) < 4 := by omega
      obtain ⟨h1, h2⟩ := hp
      obtain ⟨h3, h4⟩ := hw
      clear hset hkp2 hb hkp hlw
      generalize W s k = y at *
      generalize I k = x at *
      have h5 : -58677255 ≤ x * e := by omega
      have h6 : x * e ≤ 58677255 := by omega
      clear h1 h2
      have e1 : IntKind.i64.wrap (x * e) = x * e := IntWalk.i64_in _ (by omega)
      have e2 : IntKind.i64.wrap (x * e + 32768) = x * e + 32768 := IntWalk.i64_in _ (by omega)
      have e3 : IntKind.i64.wrap (y + (x * e + 32768) / 65536) = y + (x * e + 32768) / 65536 := IntWalk.i64_in _ (by omega)
      go_wp2_with fail
      go_still_tail 16, (by kernel_rfl)
      still_call (within_any _ 16777216 _ (by omega) (by omega))
      repeat still_step
      refine wpStill_nil ?_
      change wpList _ _ _ _ _ wr.drew
      clear e1 e2 e3
      go_wp2_with fail
      go_roundw
      case rel => exact ⟨k + 1, by omega, by go_num, HS.out.1.drew, HS.out.2.drew⟩
      case measure => simp [intOf]; omega
    · obtain rfl : k = 4 := by omega
      have HB := Lib.hid (And.intro hb hkp)
      clear hb hkp
      go_wp2_with fail
      go_end0
      exact ⟨rfl, HB.out.1, HB.out.2⟩

theorem Tryd.infoA4 : (Tryd.prog.info? 131).map (fun i => (i.zero, i.size)) = some (some (.agg (a4 fun _ => 0)), 4) := by kernel_rfl
theorem Tryd.sizeInt : (Tryd.prog.info? 3).map (·.size) = some 1 := by kernel_rfl
theorem a4_ivs (f : Nat → Int) : a4 f = (ivs .i64 [f 0, f 1, f 2, f 3]).toArray := rfl
theorem a4_one (f : Nat → Int) : (a4 f).all (·.oneCell') = true := by
  rw [a4_ivs]; exact toArray_all (ivs_one _ _)
theorem a4_set (f : Nat → Int) {k : Nat} (h : k < 4) (v : Int) : (a4 f).setIfInBounds k (.int .i64 v) = a4 (fun i => if i = k then v else f i) := by
  rcases four h with rfl | rfl | rfl | rfl <;> rfl
/-- The i-th, or 0. -/
def gets (xs : List Int) (i : Nat) : Int := xs.getD i 0
/-- What is copied of a list into four zeros. -/
theorem splice4 (xs : List Int) : a4 (gets xs) = (ivs .i64 (splice [0, 0, 0, 0] 0 (xs.take 4))).toArray := by
  match xs with
  | [] => rfl
  | [_] => rfl
  | [_, _] => rfl
  | [_, _, _] => rfl
  | _ :: _ :: _ :: _ :: _ => rfl
/-- The inputs, of which the first k are held within bounds. -/
def clTo (xs : List Int) (k i : Nat) : Int := if i < k then inp xs i else gets xs i
theorem clTo_zero (xs : List Int) : gets xs = clTo xs 0 := by funext i; simp [clTo]
theorem clTo_put (xs : List Int) (k : Nat) : (fun i => if i = k then inp xs k else clTo xs k i) = clTo xs (k + 1) := by
  funext i; unfold clTo
  by_cases h : i = k
  · subst h; rw [if_pos rfl, if_pos (by omega)]
  · rw [if_neg h]
    by_cases h' : i < k
    · rw [if_pos h', if_pos (by omega)]
    · rw [if_neg h', if_neg (by omega)]
theorem clTo_four (xs : List Int) : a4 (clTo xs 4) = a4 (inp xs) := by
  simp [a4, clTo]

set_option maxHeartbeats 1600000 in
/-- What counts of the inputs. -/
theorem taken_any (A : Option Addr) (m c : Nat) (xs : List Int) (w : World) (hr : Row w .i64 A m xs) :
    Calls Tryd.prog 95 #[.slice A m c] w fun e w' => e = .returned (.agg (a4 (inp xs))) ∧ Fresh w w' := by
  obtain ⟨hzero, hsize⟩ := zero_of_info Tryd.infoA4
  have HR := Lib.hid hr
  clear hr
  have h0 := (Blk.new w 131 (a4 fun _ => 0)).alloc (.cells (a4 fun _ => 0) 131)
  have h1 := Blk.new (w.alloc (.cells (a4 fun _ => 0) 131)) 131 (a4 fun _ => 0)
  have hk : Fresh w ((w.alloc (.cells (a4 fun _ => 0) 131)).alloc (.cells (a4 fun _ => 0) 131)) := ((Kept.refl _ _).alloc _).alloc _
  have es : (w.alloc (.cells (a4 fun _ => 0) 131)).heap.size = w.heap.size + 1 := by simp
  rw [es] at h1
  generalize hW0 : (w.alloc (.cells (a4 fun _ => 0) 131)).alloc (.cells (a4 fun _ => 0) 131) = W0 at *
  rw [a4_ivs] at h1
  have HR0 : Hid (Row W0 .i64 A m xs) := Lib.hid (HR.out.kept hk (fun _ _ _ _ => id))
  have H0 := Lib.hid (And.intro h0 (And.intro h1 hk))
  clear h0 h1 hk es hsize HR
  go_enter Tryd.func95, Tryd.ntmps95
  go_wp2_with (refine wpList_copy_nums rfl (.tmp 6) (.tmp 7) 110 110 rfl 3 Tryd.underlying110 Tryd.sizeInt .i64 (w.heap.size + 1) 0 4 4 m c A xs [0, 0, 0, 0] 131 rfl rfl H0.out.2.1 HR0.out (by decide) ?_)
  intro w1 hb1 hk1
  rw [← splice4] at hb1
  have hb0 := H0.out.1.kept hk1 (by omega)
  have hk : Fresh w w1 := H0.out.2.2.trans hk1 (fun i hi e => by subst e; omega)
  have hld := run_loadAt_blk hb1 Tryd.underlying131 (zero_of_info Tryd.infoA4).2
  have hb1 : Blk w1 (w.heap.size + 1) 131 (a4 (clTo xs 0)) := by rw [← clTo_zero]; exact hb1
  have H1 := Lib.hid (And.intro hb0 (And.intro hb1 hk))
  have HL := Lib.hid hld
  clear hb0 hb1 hk hk1 hld H0 HR0 hzero hW0
  go_wp2_with (refine wpList_load_eq rfl (.tmp 3) 131 rfl _ _ rfl HL.out ?_)
  go_loopw [10] (fun i wr => ∃ k : Nat, k ≤ 4 ∧ i = .int .i64 k ∧ Blk wr w.heap.size 131 (a4 fun _ => 0) ∧ Blk wr (w.heap.size + 1) 131 (a4 (clTo xs k)) ∧ Fresh w wr) (fun i _ => (4 - intOf i).toNat)
  case atStart => exact ⟨0, by omega, rfl, H1.out.1, H1.out.2.1, H1.out.2.2⟩
  case round =>
    obtain ⟨k, hk, rfl, hb0, hb1, hf⟩ := hrel
    clear H1 HL
    by_cases hlt : k < 4
    · have hc := hb1.cell k
      rw [a4_get hlt] at hc
      have hfz := hb1.frozen k
      have hset := hb1.set_ k (.int .i64 (inp xs k))
      rw [a4_set _ hlt, clTo_put] at hset
      have HS := Lib.hid (And.intro (hb0.far (p := ⟨w.heap.size + 1, k, none⟩) (by simp) (.int .i64 (inp xs k))) (And.intro hset (hf.setCell (p := ⟨w.heap.size + 1, k, none⟩) (fun h => by simp at h; omega) (.int .i64 (inp xs k)))))
      have hx : ∀ V, (Instr.index 131 (.agg (a4 (gets xs))) (.int .i64 k)).run Tryd.prog V = .ok (.int .i64 (gets xs k)) V := fun V => run_index_a4 V (gets xs) k hlt
      have HI : Hid (∀ V, Calls Tryd.prog 99 #[.int .i64 (gets xs k), .int .i64 2047] V fun e w' => e = .returned (.int .i64 (inp xs k)) ∧ w' = V) := Lib.hid fun V => within_any _ _ V (by omega) (by omega)
      have k0 : (0 : Int) ≤ (k : Int) := by omega
      have k1 : (k : Int) < 4 := by omega
      clear hset hb0 hb1 hf
      generalize clTo xs k k = q at *
      generalize gets xs k = x at *
      generalize inp xs k = y at *
      go_wp2_with fail
      refine (HI.out _).mono ?_
      rintro e w' ⟨rfl, rfl⟩
      go_wp2_with fail
      go_roundw
      case rel => exact ⟨k + 1, by omega, by go_num, HS.out.1, HS.out.2.1, HS.out.2.2⟩
      case measure => simp [intOf]; omega
    · obtain rfl : k = 4 := by omega
      rw [clTo_four] at hb1
      have hl := run_loadAt_blk hb1 Tryd.underlying131 (zero_of_info Tryd.infoA4).2
      have hs := run_storeAt_blk (ty := 131) hb0 (cs' := a4 (inp xs)) (zero_of_info Tryd.infoA4).2 rfl (a4_one _)
      have hb2 := hb0.rowed (cs' := a4 (inp xs))
      have hk2 : Fresh w (wr.setRow w.heap.size (a4 (inp xs))) := hf.rowed _ (by omega)
      have H := Lib.hid (And.intro hb2 hk2)
      have HL := Lib.hid (And.intro hl hs)
      clear hb2 hk2 hb0 hb1 hf hl hs
      generalize wr.setRow w.heap.size (a4 (inp xs)) = W2 at *
      have hi1 : ¬ ((4 : Nat) : Int) < 4 := by omega
      go_wp2_with (first
        | (refine wpList_load_eq rfl (.tmp 3) 131 rfl _ _ rfl HL.out.1 ?_)
        | (refine wpList_store_eq rfl (.tmp 2) (.tmp 19) 131 rfl _ _ rfl rfl HL.out.2 ?_))
      have hlv := run_loadVar_blk H.out.1 Tryd.underlying131 (zero_of_info Tryd.infoA4).2
      refine bodyPost_ret (v := .agg (a4 (inp xs))) ?_ rfl ⟨rfl, H.out.2⟩
      simp only [results, Tryd.results95, Sem.run_bind, asAddr, Result.andThen]
      simp [hlv]

end Go.Proofs.YtpknbfkknnaajaaDoor
