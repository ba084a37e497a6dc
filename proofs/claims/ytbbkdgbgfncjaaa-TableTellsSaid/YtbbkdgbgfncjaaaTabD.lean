/- The document's Delta, Undelta. -/
import Derived.Test.YtbbkdgbgfncjaaaTabQ
namespace Go.Proofs.Ytbbkdgbgfncjaaa
open Go.RowKit
set_option maxRecDepth 100000

attribute [local go_sem ↓] Go.wp_at_zero Go.wp_at_succ

/-- The width as it counts. -/
def wid1 (wd : Int) : Nat := (max wd 1).toNat
theorem dlt_long {l : List Int} {k : Nat} (h : l.length ≤ k) : dlt l k = l := by
  refine ext_getD (dlt_len l k) fun i hi => ?_
  rw [dlt_len] at hi
  rw [dlt_get l k hi]
  exact if_pos (by omega)
theorem und_long {l : List Int} {k : Nat} (h : l.length ≤ k) : und l k = l := by
  refine ext_getD (und_len l k) fun i hi => ?_
  rw [und_len] at hi
  rw [und_get l k hi]
  exact if_pos (by omega)
theorem getD_app_left {a b : List Int} {i : Nat} (h : i < a.length) : (a ++ b).getD i 0 = a.getD i 0 := by
  rw [List.getD_eq_getElem?_getD, List.getElem?_append_left h, ← List.getD_eq_getElem?_getD]
theorem getD_app_right {a b : List Int} {i : Nat} (h : a.length ≤ i) : (a ++ b).getD i 0 = b.getD (i - a.length) 0 := by
  rw [List.getD_eq_getElem?_getD, List.getElem?_append_right h, ← List.getD_eq_getElem?_getD]
theorem getD_drop' {l : List Int} {n i : Nat} : (l.drop n).getD i 0 = l.getD (n + i) 0 := by
  rw [List.getD_eq_getElem?_getD, List.getElem?_drop, ← List.getD_eq_getElem?_getD]
/-- The list amid the loop. -/
def dMid (l : List Int) (k i : Nat) : List Int := (dlt l k).take i ++ l.drop i
def uMid (l : List Int) (k i : Nat) : List Int := unA l k i ++ l.drop i
theorem dMid_len {l : List Int} {k i : Nat} (h : i ≤ l.length) : (dMid l k i).length = l.length := by
  unfold dMid; rw [List.length_append, List.length_take, List.length_drop, dlt_len]; omega
theorem uMid_len {l : List Int} {k i : Nat} (h : i ≤ l.length) : (uMid l k i).length = l.length := by
  unfold uMid; rw [List.length_append, unA_len, List.length_drop]; omega
theorem dMid_at {l : List Int} {k : Nat} (h : k ≤ l.length) : dMid l k k = l := by
  refine ext_getD (dMid_len h) fun i hi => ?_
  rw [dMid_len h] at hi
  unfold dMid
  have hl : ((dlt l k).take k).length = k := by rw [List.length_take, dlt_len]; omega
  by_cases e : i < k
  · rw [getD_app_left (by omega), List.getD_eq_getElem?_getD, List.getElem?_take_of_lt e, ← List.getD_eq_getElem?_getD, dlt_get l k hi]
    exact if_pos e
  · rw [getD_app_right (by omega), hl, getD_drop']
    congr 1
    omega
theorem uMid_at {l : List Int} {k : Nat} (h : k ≤ l.length) : uMid l k k = l := by
  refine ext_getD (uMid_len h) fun i hi => ?_
  rw [uMid_len h] at hi
  unfold uMid
  have hl : (unA l k k).length = k := unA_len l k k
  by_cases e : i < k
  · rw [getD_app_left (by omega), unA_get l k e]
    exact if_pos e
  · rw [getD_app_right (by omega), hl, getD_drop']
    congr 1
    omega
theorem dMid_end (l : List Int) (k : Nat) : dMid l k l.length = dlt l k := by
  unfold dMid; rw [List.drop_length, List.append_nil, List.take_of_length_le (by rw [dlt_len]; exact Nat.le_refl _)]
theorem uMid_end (l : List Int) (k : Nat) : uMid l k l.length = und l k := by
  unfold uMid; rw [List.drop_length, List.append_nil]; rfl
theorem dMid_set {l : List Int} {k i : Nat} (h : i < l.length) : (dMid l k i).set i (dl l k i) = dMid l k (i + 1) := dlt_to l k h
theorem uMid_set {l : List Int} {k i : Nat} (h : i < l.length) : (uMid l k i).set i (un l k i) = uMid l k (i + 1) := und_to l k h
theorem uMid_get {l : List Int} {k i j : Nat} (h : j < i) : (uMid l k i).getD j 0 = un l k j := by
  unfold uMid
  rw [getD_app_left (by rw [unA_len]; exact h), unA_get l k h]

set_option maxHeartbeats 3200000 in
theorem qDelta_any (A : Option Addr) (n c : Nat) (l : List Int) (wd : Int) (w : World) (hr : Row w .u8 A n l) (h8 : ∀ x ∈ l, 0 ≤ x ∧ x < 256) (hn : n ≤ 1000000000) (hw : -9223372036854775808 ≤ wd ∧ wd ≤ 9223372036854775807) :
    Calls Try.prog 14 #[.slice A n c, .int .i64 wd] w fun e w' => ∃ u, e = .returned u ∧ NewRow w w' 5 .u8 u (dlt l (wid1 wd)) := by
  obtain ⟨i0, hi, hz0, hz1, hz2⟩ := info_parts Try.infoByteT
  obtain rfl := hr.len
  obtain ⟨k, hk⟩ : ∃ k, k = wid1 wd := ⟨_, rfl⟩
  have hm : max wd 1 = (k : Int) := by rw [hk]; unfold wid1; omega
  have k1 : 1 ≤ (k : Int) := by omega
  have km : (k : Int) ≤ 9223372036854775807 := by omega
  rw [← hk]
  have HR : Hid (∀ V, Fresh w V → Row V .u8 A l.length l) := Lib.hid fun V hV => hr.kept hV (fun _ _ _ _ => id)
  have H8 := Lib.hid h8
  have HN := Lib.hid hn
  have n9 : (l.length : Int) ≤ 1000000000 := by omega
  clear hk hw h8 hn
  go_enter Try.func14, Try.ntmps14
  go_wp2_with (at_builtin; refine wpList_app _ rfl _ _ 22 rfl 5 i0 .u8 1 Try.underlying22 hi hz0 hz1 hz2 (.slice none 0 0) [] rfl (Own.nil _ _ _) A l.length c l rfl hr (by unfold maxLen; have := HN.out; simp; omega) (by have := HN.out; simp; omega) ?_; intro v w1 ho hg hat)
  have hf : Fresh w w1 := (Kept.refl _ _).grown hg (fun j e _ => by cases e)
  have hN : NewRow w w1 5 .u8 v l := ⟨by simpa using ho, fun g e => by
    rcases hat with e2 | e2
    · rw [e2] at e; cases e
    · rw [e2] at e; injection e with e; omega, hf⟩
  have HV := Lib.hid hN
  clear ho hg hat hf hN hr
  by_cases hkl : k ≤ l.length
  · go_loopw [7] (fun iv wr => ∃ i : Nat, k ≤ i ∧ i ≤ l.length ∧ iv = .int .i64 (i : Int) ∧ NewRow w wr 5 .u8 v (dMid l k i)) (fun iv _ => (l.length - intOf iv).toNat)
    case atStart => exact ⟨k, by omega, hkl, rfl, by rw [dMid_at hkl]; exact HV.out⟩
    case round =>
      obtain ⟨i, hki, hil, rfl, hN⟩ := hrel
      by_cases hlt : i < l.length
      · have hml : (dMid l k i).length = l.length := dMid_len hil
        obtain ⟨g, cap, hvf, hgl⟩ := hN.1.form (by rw [hml]; omega)
        rw [hml] at hvf
        subst hvf
        obtain ⟨b, o, rfl, hb, hc⟩ := (HR.out wr hN.2.2).at_ i hlt
        obtain ⟨d, hd⟩ : ∃ d, d = i - k := ⟨_, rfl⟩
        obtain ⟨b', o', eA, _, cd⟩ := (HR.out wr hN.2.2).at_ d (by omega)
        injection eA with eA
        injection eA with e1 e2
        subst e1 e2
        have cg := hN.1.cellN hml (j := i) hlt
        have fg := hN.1.frozenN hml i
        have hst := hN.1.storeN hml i (dl l k i)
        have hset := dMid_set (k := k) hlt
        have hgw : w.heap.size ≤ g := hN.2.1 g rfl
        have hb0 : b < w.heap.size := by
          obtain ⟨b3, o3, e3, hb3, _⟩ := (HR.out w (Kept.refl _ _)).at_ i hlt
          injection e3 with e3
          injection e3 with e4 e5
          omega
        have ed : (i : Int) - (k : Int) = (d : Int) := by omega
        have i1 : (i : Int) < (l.length : Int) := by omega
        have i2 : (d : Int) < (l.length : Int) := by omega
        obtain ⟨z, hz⟩ : ∃ z, z = dl l k i := ⟨_, rfl⟩
        have bx := byte_at H8.out i
        have hzv : z = (l.getD i 0 - l.getD d 0) % 256 := by
          rw [hz, hd]
          exact if_neg (by omega)
        rw [← hz] at hst hset
        generalize l.getD i 0 = x at *
        generalize l.getD d 0 = y at *
        generalize (dMid l k i).getD i 0 = old at *
        have zw : IntKind.u8.wrap (x - y) = z := by rw [IntKind.wrap_u8]; exact hzv.symm
        have zw2 : (x - y) % 256 = z := hzv.symm
        have HS : Hid (NewRow w (wr.setCell ⟨g, i, none⟩ (.int .u8 z)).drew 5 .u8 (.slice (some ⟨g, 0, none⟩) l.length cap) (dMid l k (i + 1))) := Lib.hid ⟨by rw [← hset]; exact hst.drew, fun j e => hN.2.1 j e, (hN.2.2.setCell (p := ⟨g, i, none⟩) (fun e => absurd e (by simp only; omega)) _).drew⟩
        have Hlt := Lib.hid (And.intro hlt hki)
        clear hst hset hN hz hzv hd hml hil hlt hkl HV
        go_wp2_with fail
        go_region
        go_wp2_with fail
        go_roundw
        case rel => exact ⟨i + 1, by have := Hlt.out; omega, by have := Hlt.out; omega, by go_num, HS.out⟩
        case measure => have := Hlt.out; simp [intOf]; omega
      · have hiL : i = l.length := by omega
        have HE : Hid (NewRow w wr 5 .u8 v (dlt l k)) := Lib.hid (by rw [← dMid_end, ← hiL]; exact hN)
        have i1 : ¬ (i : Int) < (l.length : Int) := by omega
        clear hN hiL
        go_wp2_with fail
        go_ret
        exact ⟨_, rfl, HE.out⟩
  · have k3 : ¬ (k : Int) < (l.length : Int) := by omega
    have HE : Hid (NewRow w w1 5 .u8 v (dlt l k)) := Lib.hid (by rw [dlt_long (by omega)]; exact HV.out)
    go_loopw [7] (fun iv wr => iv = .int .i64 (k : Int) ∧ wr = w1) (fun _ _ => 0)
    case atStart => exact ⟨rfl, rfl⟩
    case round =>
      obtain ⟨rfl, rfl⟩ := hrel
      go_wp2_with fail
      go_ret
      exact ⟨_, rfl, HE.out⟩

set_option maxHeartbeats 3200000 in
theorem qUndelta_any (A : Option Addr) (n c : Nat) (l : List Int) (wd : Int) (w : World) (hr : Row w .u8 A n l) (h8 : ∀ x ∈ l, 0 ≤ x ∧ x < 256) (hn : n ≤ 1000000000) (hw : -9223372036854775808 ≤ wd ∧ wd ≤ 9223372036854775807) :
    Calls Try.prog 16 #[.slice A n c, .int .i64 wd] w fun e w' => ∃ u, e = .returned u ∧ NewRow w w' 5 .u8 u (und l (wid1 wd)) := by
  obtain ⟨i0, hi, hz0, hz1, hz2⟩ := info_parts Try.infoByteT
  obtain rfl := hr.len
  obtain ⟨k, hk⟩ : ∃ k, k = wid1 wd := ⟨_, rfl⟩
  have hm : max wd 1 = (k : Int) := by rw [hk]; unfold wid1; omega
  have k1 : 1 ≤ (k : Int) := by omega
  have km : (k : Int) ≤ 9223372036854775807 := by omega
  rw [← hk]
  have HR : Hid (∀ V, Fresh w V → Row V .u8 A l.length l) := Lib.hid fun V hV => hr.kept hV (fun _ _ _ _ => id)
  have H8 := Lib.hid h8
  have HN := Lib.hid hn
  have n9 : (l.length : Int) ≤ 1000000000 := by omega
  clear hk hw h8 hn
  go_enter Try.func16, Try.ntmps16
  go_wp2_with (at_builtin; refine wpList_app _ rfl _ _ 22 rfl 5 i0 .u8 1 Try.underlying22 hi hz0 hz1 hz2 (.slice none 0 0) [] rfl (Own.nil _ _ _) A l.length c l rfl hr (by unfold maxLen; have := HN.out; simp; omega) (by have := HN.out; simp; omega) ?_; intro v w1 ho hg hat)
  have hf : Fresh w w1 := (Kept.refl _ _).grown hg (fun j e _ => by cases e)
  have hN : NewRow w w1 5 .u8 v l := ⟨by simpa using ho, fun g e => by
    rcases hat with e2 | e2
    · rw [e2] at e; cases e
    · rw [e2] at e; injection e with e; omega, hf⟩
  have HV := Lib.hid hN
  clear ho hg hat hf hN hr
  by_cases hkl : k ≤ l.length
  · go_loopw [7] (fun iv wr => ∃ i : Nat, k ≤ i ∧ i ≤ l.length ∧ iv = .int .i64 (i : Int) ∧ NewRow w wr 5 .u8 v (uMid l k i)) (fun iv _ => (l.length - intOf iv).toNat)
    case atStart => exact ⟨k, by omega, hkl, rfl, by rw [uMid_at hkl]; exact HV.out⟩
    case round =>
      obtain ⟨i, hki, hil, rfl, hN⟩ := hrel
      by_cases hlt : i < l.length
      · have hml : (uMid l k i).length = l.length := uMid_len hil
        obtain ⟨g, cap, hvf, hgl⟩ := hN.1.form (by rw [hml]; omega)
        rw [hml] at hvf
        subst hvf
        obtain ⟨b, o, rfl, hb, hc⟩ := (HR.out wr hN.2.2).at_ i hlt
        obtain ⟨d, hd⟩ : ∃ d, d = i - k := ⟨_, rfl⟩
        have hy := uMid_get (l := l) (k := k) (show d < i by omega)
        have cd := hN.1.cellN hml (j := d) (by omega)
        rw [hy] at cd
        have cg := hN.1.cellN hml (j := i) hlt
        have fg := hN.1.frozenN hml i
        have hst := hN.1.storeN hml i (un l k i)
        have hset := uMid_set (k := k) hlt
        have hgw : w.heap.size ≤ g := hN.2.1 g rfl
        have hb0 : b < w.heap.size := by
          obtain ⟨b3, o3, e3, hb3, _⟩ := (HR.out w (Kept.refl _ _)).at_ i hlt
          injection e3 with e3
          injection e3 with e4 e5
          omega
        have ed : (i : Int) - (k : Int) = (d : Int) := by omega
        have i1 : (i : Int) < (l.length : Int) := by omega
        have i2 : (d : Int) < (l.length : Int) := by omega
        obtain ⟨z, hz⟩ : ∃ z, z = un l k i := ⟨_, rfl⟩
        have bx := byte_at H8.out i
        have hzv : z = (l.getD i 0 + un l k d) % 256 := by
          rw [hz, un_step l (by omega) (by omega), hd]
        rw [← hz] at hst hset
        generalize l.getD i 0 = x at *
        generalize un l k d = y at *
        generalize (uMid l k i).getD i 0 = old at *
        have zw : IntKind.u8.wrap (x + y) = z := by rw [IntKind.wrap_u8]; exact hzv.symm
        have zw2 : (x + y) % 256 = z := hzv.symm
        have HS : Hid (NewRow w (wr.setCell ⟨g, i, none⟩ (.int .u8 z)).drew 5 .u8 (.slice (some ⟨g, 0, none⟩) l.length cap) (uMid l k (i + 1))) := Lib.hid ⟨by rw [← hset]; exact hst.drew, fun j e => hN.2.1 j e, (hN.2.2.setCell (p := ⟨g, i, none⟩) (fun e => absurd e (by simp only; omega)) _).drew⟩
        have Hlt := Lib.hid (And.intro hlt hki)
        clear hst hset hN hz hzv hd hml hil hlt hkl HV
        go_wp2_with fail
        go_region
        go_wp2_with fail
        go_roundw
        case rel => exact ⟨i + 1, by have := Hlt.out; omega, by have := Hlt.out; omega, by go_num, HS.out⟩
        case measure => have := Hlt.out; simp [intOf]; omega
      · have hiL : i = l.length := by omega
        have HE : Hid (NewRow w wr 5 .u8 v (und l k)) := Lib.hid (by rw [← uMid_end, ← hiL]; exact hN)
        have i1 : ¬ (i : Int) < (l.length : Int) := by omega
        clear hN hiL
        go_wp2_with fail
        go_ret
        exact ⟨_, rfl, HE.out⟩
  · have k3 : ¬ (k : Int) < (l.length : Int) := by omega
    have HE : Hid (NewRow w w1 5 .u8 v (und l k)) := Lib.hid (by rw [und_long (by omega)]; exact HV.out)
    go_loopw [7] (fun iv wr => iv = .int .i64 (k : Int) ∧ wr = w1) (fun _ _ => 0)
    case atStart => exact ⟨rfl, rfl⟩
    case round =>
      obtain ⟨rfl, rfl⟩ := hrel
      go_wp2_with fail
      go_ret
      exact ⟨_, rfl, HE.out⟩

end Go.Proofs.Ytbbkdgbgfncjaaa
