/- The code's Score, Width, Delta, Undelta. -/
import Derived.Test.YtbbkdgbgfncjaaaTabAw
import Derived.Test.YtbbkdgbgfncjaaaTabX
import Derived.Test.YtbbkdgbgfncjaaaColC
namespace Go.Proofs.Ytbbkdgbgfncjaaa
open Go.RowKit
set_option maxRecDepth 100000

attribute [local go_sem ↓] Go.wp_at_zero Go.wp_at_succ

/-- What stands at the place that comes next. -/
theorem dMid_here {l : List Int} {k i : Nat} (h : i < l.length) : (dMid l k i).getD i 0 = l.getD i 0 := by
  unfold dMid
  have hl : ((dlt l k).take i).length = i := by rw [List.length_take, dlt_len]; omega
  rw [getD_app_right (by omega), hl, getD_drop', Nat.sub_self, Nat.add_zero]
theorem uMid_here {l : List Int} {k i : Nat} (_ : i < l.length) : (uMid l k i).getD i 0 = l.getD i 0 := by
  unfold uMid
  rw [getD_app_right (by rw [unA_len]; exact Nat.le_refl _), unA_len, getD_drop', Nat.sub_self, Nat.add_zero]
theorem scN_far {l : List Int} {k i : Nat} (h : l.length ≤ i) : scN l k i = 0 := by
  rw [scN, if_neg (by omega)]

set_option maxHeartbeats 1600000 in
theorem cScore_any (A : Option Addr) (n c : Nat) (l : List Int) (wd : Int) (w : World) (hr : Row w .u8 A n l) (hn : n ≤ 1048576) (hnc : n ≤ c) (hw : I64 wd) :
    Calls Try.prog 8 #[.slice A n c, .int .i64 wd] w fun e w' => e = .returned (.int .i64 (scr l wd : Nat)) ∧ Fresh w w' := by
  by_cases h1 : wd < 1
  · have hs : scr l wd = 0 := if_pos h1
    rw [hs]
    clear hr hs
    go_enter Try.func8, Try.ntmps8
    go_wp2_with fail
    go_ret
    exact ⟨rfl, Kept.refl _ _⟩
  · obtain ⟨k, hk⟩ : ∃ k : Nat, wd = (k : Int) := ⟨wd.toNat, by omega⟩
    subst hk
    have k1 : 1 ≤ k := by omega
    have hlen := hr.len
    obtain ⟨T, hT⟩ : ∃ T, T = scN l k k := ⟨_, rfl⟩
    have hs : scr l (k : Int) = T := by rw [hT]; exact scr_nat l k1
    have hTl : T ≤ n := by have := scN_le l k k; omega
    rw [hs]
    have km : (k : Int) ≤ 9223372036854775807 := hw.2
    obtain ⟨m, hm⟩ : ∃ m, m = min k n := ⟨_, rfl⟩
    have hmin : min (k : Int) (n : Int) = (m : Int) := by omega
    have hmn : m ≤ n := by omega
    obtain ⟨d, hd⟩ : ∃ d, d = n - m := ⟨_, rfl⟩
    obtain ⟨B, hB⟩ : ∃ B, B = cutAt A m c := ⟨_, rfl⟩
    have hsl : ∀ V, (Instr.slice 22 (.slice A n c) (some (.int .i64 (m : Int))) none none).run Try.prog V = .ok (.slice B d (c - m)) V := fun V => by
      rw [hB, hd]
      exact run_slice_from _ _ Try.underlying22 (fun w => by kernel_rfl) A n c m hmn V
    have HR : Hid (∀ V, Fresh w V → Row V .u8 A n l) := Lib.hid fun V hV => hr.kept hV (fun _ _ _ _ => id)
    have HB : Hid (∀ V, Fresh w V → Row V .u8 B d (l.drop m)) := Lib.hid fun V hV => by
      have := (HR.out V hV).cut (l := m) (m := d) (c := c) (by omega) hnc
      rw [List.take_of_length_le (by rw [List.length_drop]; omega), ← hB] at this
      exact this
    have HT : Hid (T = scN l k k ∧ T ≤ n ∧ n ≤ 1048576 ∧ m = min k n ∧ d = n - m ∧ l.length = n) := Lib.hid ⟨hT, hTl, hn, hm, hd, hlen⟩
    have k0 : ¬ (k : Int) < 1 := by omega
    have dn : (d : Int) ≤ 1048576 := by omega
    clear hr hs hT hTl hw hm hd hB hlen h1 hn hnc hmn k1
    go_enter Try.func8, Try.ntmps8
    go_wp2_with fail
    go_loopw [5, 17] (fun nv iv wr => ∃ i m' : Nat, i ≤ d ∧ nv = .int .i64 (m' : Int) ∧ iv = .int .i64 (i : Int) ∧ m' + scN l k (k + i) = T ∧ Fresh w wr) (fun _ iv _ => (d - intOf iv).toNat)
    case atStart => exact ⟨0, 0, by omega, rfl, rfl, by rw [HT.out.1]; simp, Kept.refl _ _⟩
    case round =>
      obtain ⟨i, m', hid, rfl, rfl, hm2, hf⟩ := hrel
      have HF := Lib.hid hf
      by_cases hlt : i < d
      · have hmk : m = k := by have := HT.out; omega
        have hi : k + i < l.length := by have := HT.out; omega
        have HU : Hid (m' + ((if l.getD (k + i) 0 = l.getD i 0 then 1 else 0) + scN l k (k + i + 1)) = T) := Lib.hid (by rw [← hm2, scN.eq_1 l k (k + i), if_pos hi, Nat.add_sub_cancel_left])
        have hml : m' ≤ 1048576 := by have := HT.out; omega
        obtain ⟨b, o, eB, hb, hc⟩ := (HB.out wr hf).at_ i hlt
        obtain ⟨b', o', eA, hb', hc'⟩ := (HR.out wr hf).at_ i (by have := HT.out; omega)
        rw [getD_drop', hmk] at hc
        have i1 : (i : Int) < (d : Int) := by omega
        have i2 : (i : Int) < (n : Int) := by have := HT.out; omega
        generalize l.getD (k + i) 0 = x at *
        generalize l.getD i 0 = y at *
        have Hm := Lib.hid hml
        have Hlt := Lib.hid (And.intro hlt hi)
        subst eB eA
        clear hm2 hf hml hmk hi hid
        by_cases hxy : x = y
        · have bxy : (x == y) = true := by simp [hxy]
          rw [if_pos hxy] at HU
          have m1 : (m' : Int) ≤ 1048576 := by have := Hm.out; omega
          clear hxy hlt
          go_wp2_with fail
          go_roundw
          case rel => exact ⟨i + 1, m' + 1, by have := Hlt.out; omega, by go_num, by go_num, by have := HU.out; rw [Nat.add_assoc] at this; omega, HF.out⟩
          case measure => have := Hlt.out; simp [intOf]; omega
        · have bxy : (x == y) = false := by simp [hxy]
          rw [if_neg hxy] at HU
          clear hxy hlt
          go_wp2_with fail
          go_roundw
          case rel => exact ⟨i + 1, m', by have := Hlt.out; omega, rfl, by go_num, by have := HU.out; rw [Nat.add_assoc] at this; omega, HF.out⟩
          case measure => have := Hlt.out; simp [intOf]; omega
      · have HE : Hid (m' = T) := Lib.hid (by
          have := HT.out
          rw [scN_far (by omega)] at hm2
          omega)
        have i1 : ¬ (i : Int) < (d : Int) := by omega
        clear hm2 hf hid
        go_wp2_with fail
        go_ret
        exact ⟨by rw [HE.out]; rfl, HF.out⟩

/-- Behind the widths that are asked nothing changes. -/
theorem wfo_stop (l : List Int) (j : Nat) (h : l.length < 4 * (j + 2)) : ∀ i, wfo l (j + i) = wfo l j
  | 0 => rfl
  | i + 1 => by
    rw [← Nat.add_assoc, wfo, wfo_stop l j h i]
    unfold wst
    rw [if_neg (by omega)]
/-- What a score has to pass. -/
def wtop (l : List Int) (j : Nat) : Nat := max (wfo l j).2 (l.length / 2)

set_option maxHeartbeats 1600000 in
theorem cWidth_any (A : Option Addr) (n c : Nat) (l : List Int) (w : World) (hr : Row w .u8 A n l) (hn : n ≤ 1048576) (hnc : n ≤ c) :
    Calls Try.prog 10 #[.slice A n c] w fun e w' => e = .returned (.int .i64 (wdt l : Nat)) ∧ Fresh w w' := by
  have hlen := hr.len
  have HS : Hid (∀ V, Fresh w V → ∀ (v : Nat), v ≤ 100 → Calls Try.prog 8 #[.slice A n c, .int .i64 (v : Int)] V fun e w' => e = .returned (.int .i64 (scr l (v : Int) : Nat)) ∧ Fresh V w') := Lib.hid fun V hV v hv => cScore_any A n c l v V (hr.kept hV (fun _ _ _ _ => id)) hn hnc (by unfold I64; omega)
  have ln0 : (n : Int) ≤ 1048576 := by omega
  obtain ⟨hf2, hh⟩ : ∃ q, q = n / 2 := ⟨_, rfl⟩
  have hq1 : (n : Int).tdiv 2 = (hf2 : Int) := by rw [Int.tdiv_eq_ediv_of_nonneg (by omega)]; omega
  have hq2 : (n : Int) / 2 = (hf2 : Int) := by omega
  have HN : Hid (n ≤ 1048576 ∧ l.length = n ∧ hf2 = n / 2) := Lib.hid ⟨hn, hlen, hh⟩
  clear hr hn hlen hh hnc
  go_enter Try.func10, Try.ntmps10
  go_wp2_with fail
  go_loopw [3, 4, 5] (fun bv tv wv wr => ∃ j : Nat, j ≤ 15 ∧ bv = .int .i64 ((wfo l j).1 : Nat) ∧ tv = .int .i64 (wtop l j : Nat) ∧ wv = .int .i64 ((j + 2 : Nat) : Int) ∧ Fresh w wr) (fun _ _ wv _ => (17 - intOf wv).toNat)
  case atStart => exact ⟨0, by omega, rfl, by have := HN.out; rw [show wtop l 0 = hf2 by unfold wtop; rw [this.2.1, this.2.2]; show max 0 _ = _; omega], rfl, Kept.refl _ _⟩
  case round =>
    obtain ⟨j, hj, rfl, rfl, rfl, hf⟩ := hrel
    have HF := Lib.hid hf
    clear hf
    obtain ⟨v, hv⟩ : ∃ v, v = j + 2 := ⟨_, rfl⟩
    obtain ⟨s, hs⟩ : ∃ s, s = scr l (v : Int) := ⟨_, rfl⟩
    have hsl : s ≤ n := by rw [hs, ← HN.out.2.1]; exact scr_le l v
    have HU : Hid (wfo l (j + 1) = if 4 * v ≤ l.length ∧ l.length < 2 * s ∧ (wfo l j).2 < s then (v, s) else wfo l j) := Lib.hid (by rw [wfo, hs, hv]; rfl)
    have hfin : wdt l = (wfo l 15).1 := rfl
    have HTop : Hid (wtop l (j + 1) = max (wfo l (j + 1)).2 (n / 2) ∧ wtop l j = max (wfo l j).2 (n / 2)) := Lib.hid ⟨by unfold wtop; rw [HN.out.2.1], by unfold wtop; rw [HN.out.2.1]⟩
    rw [← hv]
    by_cases hend : j = 15 ∨ n < 4 * v
    · have HE : Hid (wdt l = (wfo l j).1) := Lib.hid (by
        rcases hend with e | e
        · rw [e]; exact hfin
        · have := wfo_stop l j (by rw [HN.out.2.1]; omega) (15 - j)
          rw [show j + (15 - j) = 15 by omega] at this
          rw [← this]; exact hfin)
      generalize (wfo l j).1 = bt at *
      generalize wtop l j = tp at *
      by_cases hv16 : v ≤ 16
      · have v1 : (v : Int) ≤ 16 := by omega
        have v2 : ¬ 4 * (v : Int) ≤ (n : Int) := by omega
        have v3 : (2 : Int) ≤ (v : Int) := by omega
        clear hfin hs hv hsl hj hend hv16
        go_wp2_with fail
        go_ret
        exact ⟨by rw [HE.out]; rfl, HF.out⟩
      · have v1 : ¬ (v : Int) ≤ 16 := by omega
        clear hfin hs hv hsl hj hend hv16
        go_wp2_with fail
        go_ret
        exact ⟨by rw [HE.out]; rfl, HF.out⟩
    · have v1 : (v : Int) ≤ 16 := by omega
      have v2 : (2 : Int) ≤ (v : Int) := by omega
      have v4 : 4 * (v : Int) ≤ (n : Int) := by omega
      have HJ : Hid (j < 15 ∧ v = j + 2 ∧ 4 * v ≤ n) := Lib.hid (by omega)
      have HSv : Hid (∀ V, Fresh w V → Calls Try.prog 8 #[.slice A n c, .int .i64 (v : Int)] V fun e w' => e = .returned (.int .i64 (s : Nat)) ∧ Fresh V w') := Lib.hid fun V hV => by rw [hs]; exact HS.out V hV v (by omega)
      have s0 : (s : Int) ≤ 1048576 := by have := HN.out; omega
      have HT : Hid ((wfo l j) = ((wfo l j).1, (wfo l j).2)) := Lib.hid rfl
      have HW2 : Hid ((wfo l (j + 1) = (v, s) → wtop l (j + 1) = max s (n / 2)) ∧ (wfo l (j + 1) = wfo l j → wtop l (j + 1) = wtop l j)) := Lib.hid ⟨fun e => by rw [HTop.out.1, e], fun e => by rw [HTop.out.1, HTop.out.2, e]⟩
      have htp := HTop.out.2
      generalize (wfo l j).1 = bt at *
      generalize (wfo l j).2 = t2 at *
      generalize wtop l j = tp at *
      have Htp := Lib.hid htp
      clear hfin hs hv hsl hj hend htp HTop
      go_wp2_with fail
      refine (HSv.out _ HF.out).mono ?_
      rintro e w1 ⟨rfl, hf1⟩
      have HF1 := Lib.hid (HF.out.trans hf1 fun _ _ e => e)
      clear hf1
      by_cases c3 : tp < s
      · have c3' : (tp : Int) < (s : Int) := by omega
        have HE : Hid (wfo l (j + 1) = (v, s) ∧ wtop l (j + 1) = s) := Lib.hid (by
          have h1 := Htp.out
          have h2 := HN.out
          have h3 := HJ.out
          have e : wfo l (j + 1) = (v, s) := by rw [HU.out, if_pos ⟨by omega, by omega, by omega⟩]
          exact ⟨e, by rw [HW2.out.1 e]; omega⟩)
        clear c3
        go_wp2_with fail
        go_roundw
        case rel => exact ⟨j + 1, by have := HJ.out; omega, by rw [HE.out.1], by rw [HE.out.2], by rw [HJ.out.2.1]; go_num, HF1.out⟩
        case measure => have := HJ.out; simp [intOf]; omega
      · have c3' : ¬ (tp : Int) < (s : Int) := by omega
        have HE : Hid (wfo l (j + 1) = (bt, t2) ∧ wtop l (j + 1) = tp) := Lib.hid (by
          have h1 := Htp.out
          have h2 := HN.out
          have h3 := HJ.out
          have e : wfo l (j + 1) = wfo l j := by rw [HU.out, if_neg (by omega)]
          exact ⟨by rw [e]; exact HT.out, HW2.out.2 e⟩)
        clear c3
        go_wp2_with fail
        go_roundw
        case rel => exact ⟨j + 1, by have := HJ.out; omega, by rw [HE.out.1], by rw [HE.out.2], by rw [HJ.out.2.1]; go_num, HF1.out⟩
        case measure => have := HJ.out; simp [intOf]; omega

set_option maxHeartbeats 3200000 in
theorem cDelta_any (A : Option Addr) (n c : Nat) (l : List Int) (wd : Int) (w : World) (hr : Row w .u8 A n l) (h8 : ∀ x ∈ l, 0 ≤ x ∧ x < 256) (hn : n ≤ 1000000000) (hw : -9223372036854775808 ≤ wd ∧ wd ≤ 9223372036854775807) :
    Calls Try.prog 13 #[.slice A n c, .int .i64 wd] w fun e w' => ∃ u, e = .returned u ∧ NewRow w w' 5 .u8 u (dlt l (wid1 wd)) := by
  obtain rfl := hr.len
  obtain ⟨k, hk⟩ : ∃ k, k = wid1 wd := ⟨_, rfl⟩
  have hm : max wd 1 = (k : Int) := by rw [hk]; unfold wid1; omega
  have k1 : 1 ≤ (k : Int) := by omega
  have km : (k : Int) ≤ 9223372036854775807 := by omega
  rw [← hk]
  have HR : Hid (∀ V, Fresh w V → Row V .u8 A l.length l) := Lib.hid fun V hV => hr.kept hV (fun _ _ _ _ => id)
  have H8 := Lib.hid h8
  have HCl := Lib.hid (bClone_any A l.length c l w hr hn)
  have HN := Lib.hid hn
  have n9 : (l.length : Int) ≤ 1000000000 := by omega
  clear hk hw h8 hn
  go_enter Try.func13, Try.ntmps13
  go_wp2_with fail
  refine HCl.out.mono ?_
  rintro e w1 ⟨v, rfl, hN⟩
  have HV := Lib.hid hN
  clear hN hr HCl
  go_wp2_with fail
  by_cases hkl : k ≤ l.length
  · go_loopw [6] (fun iv wr => ∃ i : Nat, k ≤ i ∧ i ≤ l.length ∧ iv = .int .i64 (i : Int) ∧ NewRow w wr 5 .u8 v (dMid l k i)) (fun iv _ => (l.length - intOf iv).toNat)
    case atStart => exact ⟨k, by omega, hkl, rfl, by rw [dMid_at hkl]; exact HV.out⟩
    case round =>
      obtain ⟨i, hki, hil, rfl, hN⟩ := hrel
      by_cases hlt : i < l.length
      · have hml : (dMid l k i).length = l.length := dMid_len hil
        obtain ⟨g, cap, hvf, hgl⟩ := hN.1.form (by rw [hml]; omega)
        rw [hml] at hvf
        subst hvf
        obtain ⟨b, o, rfl, hb, hc⟩ := (HR.out wr hN.2.2).at_ i hlt
        obtain ⟨d, hd⟩ : ∃ d, d = i - k := ⟨_, rfl⟩
        obtain ⟨b', o', eA, _, cd⟩ := (HR.out wr hN.2.2).at_ d (by omega)
        injection eA with eA
        injection eA with e1 e2
        subst e1 e2
        have cg := hN.1.cellN hml (j := i) hlt
        rw [dMid_here hlt] at cg
        have fg := hN.1.frozenN hml i
        have hst := hN.1.storeN hml i (dl l k i)
        have hset := dMid_set (k := k) hlt
        have hgw : w.heap.size ≤ g := hN.2.1 g rfl
        have hb0 : b < w.heap.size := by
          obtain ⟨b3, o3, e3, hb3, _⟩ := (HR.out w (Kept.refl _ _)).at_ i hlt
          injection e3 with e3
          injection e3 with e4 e5
          omega
        have ed : (i : Int) - (k : Int) = (d : Int) := by omega
        have i1 : (i : Int) < (l.length : Int) := by omega
        have i2 : (d : Int) < (l.length : Int) := by omega
        obtain ⟨z, hz⟩ : ∃ z, z = dl l k i := ⟨_, rfl⟩
        have bx := byte_at H8.out i
        have hzv : z = (l.getD i 0 - l.getD d 0) % 256 := by
          rw [hz, hd]
          exact if_neg (by omega)
        rw [← hz] at hst hset
        generalize l.getD i 0 = x at *
        generalize l.getD d 0 = y at *
        have zw : IntKind.u8.wrap (x - y) = z := by rw [IntKind.wrap_u8]; exact hzv.symm
        have zw2 : (x - y) % 256 = z := hzv.symm
        have HS : Hid (NewRow w (wr.setCell ⟨g, i, none⟩ (.int .u8 z)).drew 5 .u8 (.slice (some ⟨g, 0, none⟩) l.length cap) (dMid l k (i + 1))) := Lib.hid ⟨by rw [← hset]; exact hst.drew, fun j e => hN.2.1 j e, (hN.2.2.setCell (p := ⟨g, i, none⟩) (fun e => absurd e (by simp only; omega)) _).drew⟩
        have Hlt := Lib.hid (And.intro hlt hki)
        clear hst hset hN hz hzv hd hml hil hlt hkl HV
        go_wp2_with fail
        go_region
        go_wp2_with fail
        go_roundw
        case rel => exact ⟨i + 1, by have := Hlt.out; omega, by have := Hlt.out; omega, by go_num, HS.out⟩
        case measure => have := Hlt.out; simp [intOf]; omega
      · have hiL : i = l.length := by omega
        have HE : Hid (NewRow w wr 5 .u8 v (dlt l k)) := Lib.hid (by rw [← dMid_end, ← hiL]; exact hN)
        have i1 : ¬ (i : Int) < (l.length : Int) := by omega
        clear hN hiL
        go_wp2_with fail
        go_ret
        exact ⟨_, rfl, HE.out⟩
  · have k3 : ¬ (k : Int) < (l.length : Int) := by omega
    have HE : Hid (NewRow w w1 5 .u8 v (dlt l k)) := Lib.hid (by rw [dlt_long (by omega)]; exact HV.out)
    go_loopw [6] (fun iv wr => iv = .int .i64 (k : Int) ∧ wr = w1) (fun _ _ => 0)
    case atStart => exact ⟨rfl, rfl⟩
    case round =>
      obtain ⟨rfl, rfl⟩ := hrel
      go_wp2_with fail
      go_ret
      exact ⟨_, rfl, HE.out⟩

set_option maxHeartbeats 3200000 in
theorem cUndelta_any (A : Option Addr) (n c : Nat) (l : List Int) (wd : Int) (w : World) (hr : Row w .u8 A n l) (h8 : ∀ x ∈ l, 0 ≤ x ∧ x < 256) (hn : n ≤ 1000000000) (hw : -9223372036854775808 ≤ wd ∧ wd ≤ 9223372036854775807) :
    Calls Try.prog 15 #[.slice A n c, .int .i64 wd] w fun e w' => ∃ u, e = .returned u ∧ NewRow w w' 5 .u8 u (und l (wid1 wd)) := by
  obtain rfl := hr.len
  obtain ⟨k, hk⟩ : ∃ k, k = wid1 wd := ⟨_, rfl⟩
  have hm : max wd 1 = (k : Int) := by rw [hk]; unfold wid1; omega
  have k1 : 1 ≤ (k : Int) := by omega
  have km : (k : Int) ≤ 9223372036854775807 := by omega
  rw [← hk]
  have HR : Hid (∀ V, Fresh w V → Row V .u8 A l.length l) := Lib.hid fun V hV => hr.kept hV (fun _ _ _ _ => id)
  have H8 := Lib.hid h8
  have HCl := Lib.hid (bClone_any A l.length c l w hr hn)
  have HN := Lib.hid hn
  have n9 : (l.length : Int) ≤ 1000000000 := by omega
  clear hk hw h8 hn
  go_enter Try.func15, Try.ntmps15
  go_wp2_with fail
  refine HCl.out.mono ?_
  rintro e w1 ⟨v, rfl, hN⟩
  have HV := Lib.hid hN
  clear hN hr HCl
  go_wp2_with fail
  by_cases hkl : k ≤ l.length
  · go_loopw [6] (fun iv wr => ∃ i : Nat, k ≤ i ∧ i ≤ l.length ∧ iv = .int .i64 (i : Int) ∧ NewRow w wr 5 .u8 v (uMid l k i)) (fun iv _ => (l.length - intOf iv).toNat)
    case atStart => exact ⟨k, by omega, hkl, rfl, by rw [uMid_at hkl]; exact HV.out⟩
    case round =>
      obtain ⟨i, hki, hil, rfl, hN⟩ := hrel
      by_cases hlt : i < l.length
      · have hml : (uMid l k i).length = l.length := uMid_len hil
        obtain ⟨g, cap, hvf, hgl⟩ := hN.1.form (by rw [hml]; omega)
        rw [hml] at hvf
        subst hvf
        obtain ⟨b, o, rfl, hb, hc⟩ := (HR.out wr hN.2.2).at_ i hlt
        obtain ⟨d, hd⟩ : ∃ d, d = i - k := ⟨_, rfl⟩
        have hy := uMid_get (l := l) (k := k) (show d < i by omega)
        have cd := hN.1.cellN hml (j := d) (by omega)
        rw [hy] at cd
        have cg := hN.1.cellN hml (j := i) hlt
        rw [uMid_here hlt] at cg
        have fg := hN.1.frozenN hml i
        have hst := hN.1.storeN hml i (un l k i)
        have hset := uMid_set (k := k) hlt
        have hgw : w.heap.size ≤ g := hN.2.1 g rfl
        have hb0 : b < w.heap.size := by
          obtain ⟨b3, o3, e3, hb3, _⟩ := (HR.out w (Kept.refl _ _)).at_ i hlt
          injection e3 with e3
          injection e3 with e4 e5
          omega
        have ed : (i : Int) - (k : Int) = (d : Int) := by omega
        have i1 : (i : Int) < (l.length : Int) := by omega
        have i2 : (d : Int) < (l.length : Int) := by omega
        obtain ⟨z, hz⟩ : ∃ z, z = un l k i := ⟨_, rfl⟩
        have bx := byte_at H8.out i
        have hzv : z = (l.getD i 0 + un l k d) % 256 := by
          rw [hz, un_step l (by omega) (by omega), hd]
        rw [← hz] at hst hset
        generalize l.getD i 0 = x at *
        generalize un l k d = y at *
        have zw : IntKind.u8.wrap (x + y) = z := by rw [IntKind.wrap_u8]; exact hzv.symm
        have zw2 : (x + y) % 256 = z := hzv.symm
        have HS : Hid (NewRow w (wr.setCell ⟨g, i, none⟩ (.int .u8 z)).drew 5 .u8 (.slice (some ⟨g, 0, none⟩) l.length cap) (uMid l k (i + 1))) := Lib.hid ⟨by rw [← hset]; exact hst.drew, fun j e => hN.2.1 j e, (hN.2.2.setCell (p := ⟨g, i, none⟩) (fun e => absurd e (by simp only; omega)) _).drew⟩
        have Hlt := Lib.hid (And.intro hlt hki)
        clear hst hset hN hz hzv hd hml hil hlt hkl HV
        go_wp2_with fail
        go_region
        go_wp2_with fail
        go_roundw
        case rel => exact ⟨i + 1, by have := Hlt.out; omega, by have := Hlt.out; omega, by go_num, HS.out⟩
        case measure => have := Hlt.out; simp [intOf]; omega
      · have hiL : i = l.length := by omega
        have HE : Hid (NewRow w wr 5 .u8 v (und l k)) := Lib.hid (by rw [← uMid_end, ← hiL]; exact hN)
        have i1 : ¬ (i : Int) < (l.length : Int) := by omega
        clear hN hiL
        go_wp2_with fail
        go_ret
        exact ⟨_, rfl, HE.out⟩
  · have k3 : ¬ (k : Int) < (l.length : Int) := by omega
    have HE : Hid (NewRow w w1 5 .u8 v (und l k)) := Lib.hid (by rw [und_long (by omega)]; exact HV.out)
    go_loopw [6] (fun iv wr => iv = .int .i64 (k : Int) ∧ wr = w1) (fun _ _ => 0)
    case atStart => exact ⟨rfl, rfl⟩
    case round =>
      obtain ⟨rfl, rfl⟩ := hrel
      go_wp2_with fail
      go_ret
      exact ⟨_, rfl, HE.out⟩

end Go.Proofs.Ytbbkdgbgfncjaaa
