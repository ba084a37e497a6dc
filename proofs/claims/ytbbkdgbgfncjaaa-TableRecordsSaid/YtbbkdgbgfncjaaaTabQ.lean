/- The document's Score, Width, Delta, Undelta. -/
import Derived.Test.YtbbkdgbgfncjaaaTabMath
import Derived.Test.YtbbkdgbgfncjaaaAppNew
import Derived.Test.YtbbkdgbgfncjaaaZeros
import Derived.Deep.QuietTactic
import Derived.Deep.RegionHeld3
import Derived.Deep.DrawnRows
import Derived.BigRegion
import Derived.BigQuiet
import Derived.Lib.MinMax
namespace Go.Proofs.Ytbbkdgbgfncjaaa
open Go.RowKit
set_option maxRecDepth 100000

attribute [local go_sem ↓] Go.wp_at_zero Go.wp_at_succ

theorem Try.infoByteT : (Try.prog.info? 5).map (fun i => (i.zero, i.size, i.bytes)) = some (some (.int .u8 0), 1, 1) := by kernel_rfl

set_option maxHeartbeats 1600000 in
theorem qScore_any (A : Option Addr) (n c : Nat) (l : List Int) (wd : Int) (w : World) (hr : Row w .u8 A n l) (hn : n ≤ 1000000000) (hw : -9223372036854775808 ≤ wd ∧ wd ≤ 9223372036854775807) :
    Calls Try.prog 9 #[.slice A n c, .int .i64 wd] w fun e w' => e = .returned (.int .i64 (scr l wd : Nat)) ∧ Fresh w w' := by
  obtain rfl := hr.len
  by_cases h1 : wd < 1
  · have hs : scr l wd = 0 := if_pos h1
    rw [hs]
    have hm : max wd 1 = 1 := by omega
    have h2 : ¬ 1 ≤ wd := by omega
    clear hr hs
    go_enter Try.func9, Try.ntmps9
    go_wp2_with fail
    go_loopw [5, 6] (fun nv iv wr => nv = .int .i64 0 ∧ iv = .int .i64 1 ∧ Fresh w wr) (fun _ _ _ => 0)
    case atStart => exact ⟨rfl, rfl, Kept.refl _ _⟩
    case round =>
      obtain ⟨rfl, rfl, hf⟩ := hrel
      have HF := Lib.hid hf
      clear hf
      by_cases h3 : 1 < l.length
      · have h3' : (1 : Int) < (l.length : Int) := by omega
        go_wp2_with fail
        go_ret
        exact ⟨rfl, HF.out⟩
      · have h3' : ¬ (1 : Int) < (l.length : Int) := by omega
        go_wp2_with fail
        go_ret
        exact ⟨rfl, HF.out⟩
  · obtain ⟨k, hk⟩ : ∃ k : Nat, wd = (k : Int) := ⟨wd.toNat, by omega⟩
    subst hk
    have k1 : 1 ≤ k := by omega
    obtain ⟨T, hT⟩ : ∃ T, T = scN l k k := ⟨_, rfl⟩
    have hs : scr l (k : Int) = T := by rw [hT]; exact scr_nat l k1
    have hTl : T ≤ l.length := by have := scN_le l k k; omega
    rw [hs]
    have hm : max (k : Int) 1 = (k : Int) := by omega
    have h2 : 1 ≤ (k : Int) := by omega
    have km : (k : Int) ≤ 9223372036854775807 := hw.2
    have HR : Hid (∀ V, Fresh w V → Row V .u8 A l.length l) := Lib.hid fun V hV => hr.kept hV (fun _ _ _ _ => id)
    have HT := Lib.hid (And.intro hT hTl)
    clear hr hs hT hTl h1 hw
    go_enter Try.func9, Try.ntmps9
    go_wp2_with fail
    go_loopw [5, 6] (fun nv iv wr => ∃ i m : Nat, k ≤ i ∧ nv = .int .i64 (m : Int) ∧ iv = .int .i64 (i : Int) ∧ m + scN l k i = T ∧ Fresh w wr) (fun _ iv _ => (l.length - intOf iv).toNat)
    case atStart => exact ⟨k, 0, by omega, rfl, rfl, by rw [HT.out.1]; omega, Kept.refl _ _⟩
    case round =>
      obtain ⟨i, m, hki, rfl, rfl, hm2, hf⟩ := hrel
      have HF := Lib.hid hf
      by_cases hlt : i < l.length
      · have HU : Hid (m + ((if l.getD i 0 = l.getD (i - k) 0 then 1 else 0) + scN l k (i + 1)) = T) := Lib.hid (by rw [← hm2, scN.eq_1 l k i, if_pos hlt])
        have hml : m ≤ 1000000000 := by have := HT.out.2; omega
        obtain ⟨b, o, rfl, hb, hc⟩ := (HR.out wr hf).at_ i hlt
        obtain ⟨d, hd⟩ : ∃ d, d = i - k := ⟨_, rfl⟩
        rw [← hd] at HU
        obtain ⟨b', o', eA, _, hc'⟩ := (HR.out wr hf).at_ d (by omega)
        injection eA with eA
        injection eA with e1 e2
        subst e1 e2
        have ed : (i : Int) - (k : Int) = (d : Int) := by omega
        have i1 : (i : Int) < (l.length : Int) := by omega
        have i2 : (d : Int) < (l.length : Int) := by omega
        generalize l.getD i 0 = x at *
        generalize l.getD d 0 = y at *
        have Hm := Lib.hid hml
        have Hlt := Lib.hid hlt
        clear hm2 hf hd hml
        by_cases hxy : x = y
        · have bxy : (x == y) = true := by simp [hxy]
          rw [if_pos hxy] at HU
          have m1 : (m : Int) ≤ 1000000000 := by have := Hm.out; omega
          clear hxy hlt
          go_wp2_with fail
          go_quiet (fail)
          go_wp2_with fail
          go_roundw
          case rel => exact ⟨i + 1, m + 1, by omega, by go_num, by go_num, by have := HU.out; omega, HF.out.drewN _⟩
          case measure => have := Hlt.out; simp [intOf]; omega
        · have bxy : (x == y) = false := by simp [hxy]
          rw [if_neg hxy] at HU
          clear hxy hlt
          go_wp2_with fail
          go_quiet (fail)
          go_wp2_with fail
          go_roundw
          case rel => exact ⟨i + 1, m, by omega, rfl, by go_num, by have := HU.out; omega, HF.out.drewN _⟩
          case measure => have := Hlt.out; simp [intOf]; omega
      · have HE : Hid (m = T) := Lib.hid (by rw [← hm2, scN.eq_1 l k i, if_neg hlt]; omega)
        have i1 : ¬ (i : Int) < (l.length : Int) := by omega
        clear hm2 hf
        go_wp2_with fail
        go_ret
        exact ⟨by rw [HE.out]; rfl, HF.out⟩

set_option maxHeartbeats 1600000 in
theorem qWidth_any (A : Option Addr) (n c : Nat) (l : List Int) (w : World) (hr : Row w .u8 A n l) (hn : n ≤ 1000000000) :
    Calls Try.prog 11 #[.slice A n c] w fun e w' => e = .returned (.int .i64 (wdt l : Nat)) ∧ Fresh w w' := by
  obtain rfl := hr.len
  have HS : Hid (∀ V, Fresh w V → ∀ (v : Nat), v ≤ 100 → Calls Try.prog 9 #[.slice A l.length c, .int .i64 (v : Int)] V fun e w' => e = .returned (.int .i64 (scr l (v : Int) : Nat)) ∧ Fresh V w') := Lib.hid fun V hV v hv => qScore_any A l.length c l v V (hr.kept hV (fun _ _ _ _ => id)) hn (by omega)
  have ln0 : (l.length : Int) ≤ 1000000000 := by omega
  have HN := Lib.hid hn
  clear hr hn
  go_enter Try.func11, Try.ntmps11
  go_wp2_with fail
  go_loopw [3, 4, 5] (fun bv tv wv wr => ∃ j : Nat, j ≤ 15 ∧ bv = .int .i64 ((wfo l j).1 : Nat) ∧ tv = .int .i64 ((wfo l j).2 : Nat) ∧ wv = .int .i64 ((j + 2 : Nat) : Int) ∧ Fresh w wr) (fun _ _ wv _ => (17 - intOf wv).toNat)
  case atStart => exact ⟨0, by omega, rfl, rfl, rfl, Kept.refl _ _⟩
  case round =>
    obtain ⟨j, hj, rfl, rfl, rfl, hf⟩ := hrel
    have HF := Lib.hid hf
    clear hf
    obtain ⟨v, hv⟩ : ∃ v, v = j + 2 := ⟨_, rfl⟩
    obtain ⟨s, hs⟩ : ∃ s, s = scr l (v : Int) := ⟨_, rfl⟩
    have hsl : s ≤ l.length := by rw [hs]; exact scr_le l v
    have HU : Hid (wfo l (j + 1) = if 4 * v ≤ l.length ∧ l.length < 2 * s ∧ (wfo l j).2 < s then (v, s) else wfo l j) := Lib.hid (by rw [wfo, hs, hv]; rfl)
    have hfin : wdt l = (wfo l 15).1 := rfl
    rw [← hv]
    by_cases hj5 : j = 15
    · have HE : Hid (wdt l = (wfo l j).1) := Lib.hid (by rw [hj5]; exact hfin)
      have v1 : ¬ (v : Int) ≤ 16 := by omega
      generalize (wfo l j).1 = bt at *
      generalize (wfo l j).2 = tp at *
      clear hfin hs hv hsl hj hj5
      go_wp2_with fail
      go_ret
      exact ⟨by rw [HE.out]; rfl, HF.out⟩
    · have v1 : (v : Int) ≤ 16 := by omega
      have v2 : (2 : Int) ≤ (v : Int) := by omega
      have HJ : Hid (j < 15 ∧ v = j + 2) := Lib.hid (by omega)
      have HSv : Hid (∀ V, Fresh w V → Calls Try.prog 9 #[.slice A l.length c, .int .i64 (v : Int)] V fun e w' => e = .returned (.int .i64 (s : Nat)) ∧ Fresh V w') := Lib.hid fun V hV => by rw [hs]; exact HS.out V hV v (by omega)
      have s0 : (s : Int) ≤ 1000000000 := by have := HN.out; omega
      have HT : Hid ((wfo l j) = ((wfo l j).1, (wfo l j).2)) := Lib.hid rfl
      have tb : (wfo l j).2 ≤ l.length := by
        rcases wfo_in l j with e | ⟨_, _, e, _⟩
        · rw [e]; exact Nat.zero_le _
        · rw [e]; exact scr_le l _
      generalize (wfo l j).1 = bt at *
      generalize (wfo l j).2 = tp at *
      have HTb := Lib.hid tb
      clear hfin hs hv hsl hj hj5 tb
      by_cases c1 : 4 * v ≤ l.length
      · have c1' : 4 * (v : Int) ≤ (l.length : Int) := by omega
        by_cases c2 : l.length < 2 * s
        · have c2' : (l.length : Int) < 2 * (s : Int) := by omega
          by_cases c3 : tp < s
          · have c3' : (tp : Int) < (s : Int) := by omega
            have HE : Hid (wfo l (j + 1) = (v, s)) := Lib.hid (by rw [HU.out, if_pos ⟨c1, c2, c3⟩])
            clear c1 c2 c3
            go_wp2_with fail
            refine (HSv.out _ HF.out).mono ?_
            rintro e w1 ⟨rfl, hf1⟩
            have HF1 := Lib.hid (HF.out.trans hf1 fun _ _ e => e)
            clear hf1
            go_wp2_with fail
            refine (HSv.out _ HF1.out).mono ?_
            rintro e w2 ⟨rfl, hf2⟩
            have HF2 := Lib.hid (HF1.out.trans hf2 fun _ _ e => e)
            clear hf2
            go_wp2_with fail
            refine (HSv.out _ HF2.out).mono ?_
            rintro e w3 ⟨rfl, hf3⟩
            have HF3 := Lib.hid (HF2.out.trans hf3 fun _ _ e => e)
            clear hf3
            go_wp2_with fail
            go_roundw
            case rel => exact ⟨j + 1, by have := HJ.out; omega, by rw [HE.out], by rw [HE.out], by rw [HJ.out.2]; go_num, HF3.out⟩
            case measure => have := HJ.out; simp [intOf]; omega
          · have c3' : ¬ (tp : Int) < (s : Int) := by omega
            have HE : Hid (wfo l (j + 1) = (bt, tp)) := Lib.hid (by rw [HU.out, if_neg (fun h => c3 h.2.2)]; exact HT.out)
            clear c1 c2 c3
            go_wp2_with fail
            refine (HSv.out _ HF.out).mono ?_
            rintro e w1 ⟨rfl, hf1⟩
            have HF1 := Lib.hid (HF.out.trans hf1 fun _ _ e => e)
            clear hf1
            go_wp2_with fail
            refine (HSv.out _ HF1.out).mono ?_
            rintro e w2 ⟨rfl, hf2⟩
            have HF2 := Lib.hid (HF1.out.trans hf2 fun _ _ e => e)
            clear hf2
            go_wp2_with fail
            go_roundw
            case rel => exact ⟨j + 1, by have := HJ.out; omega, by rw [HE.out], by rw [HE.out], by rw [HJ.out.2]; go_num, HF2.out⟩
            case measure => have := HJ.out; simp [intOf]; omega
        · have c2' : ¬ (l.length : Int) < 2 * (s : Int) := by omega
          have HE : Hid (wfo l (j + 1) = (bt, tp)) := Lib.hid (by rw [HU.out, if_neg (fun h => c2 h.2.1)]; exact HT.out)
          clear c1 c2
          go_wp2_with fail
          refine (HSv.out _ HF.out).mono ?_
          rintro e w1 ⟨rfl, hf1⟩
          have HF1 := Lib.hid (HF.out.trans hf1 fun _ _ e => e)
          clear hf1
          go_wp2_with fail
          go_roundw
          case rel => exact ⟨j + 1, by have := HJ.out; omega, by rw [HE.out], by rw [HE.out], by rw [HJ.out.2]; go_num, HF1.out⟩
          case measure => have := HJ.out; simp [intOf]; omega
      · have c1' : ¬ 4 * (v : Int) ≤ (l.length : Int) := by omega
        have HE : Hid (wfo l (j + 1) = (bt, tp)) := Lib.hid (by rw [HU.out, if_neg (fun h => c1 h.1)]; exact HT.out)
        clear c1
        go_wp2_with fail
        go_roundw
        case rel => exact ⟨j + 1, by have := HJ.out; omega, by rw [HE.out], by rw [HE.out], by rw [HJ.out.2]; go_num, HF.out⟩
        case measure => have := HJ.out; simp [intOf]; omega

end Go.Proofs.Ytbbkdgbgfncjaaa
