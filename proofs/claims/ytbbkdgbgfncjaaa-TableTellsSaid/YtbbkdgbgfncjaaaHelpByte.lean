/- The contracts of valisehelp's calls at bytes: Own, Kept, Plain, Same. -/
import Derived.Test.YtbbkdgbgfncjaaaHelpCom
import Derived.Deep.QuietTactic
import Derived.BigQuiet
import Derived.Laws.BitsAllLaws
namespace Go.Proofs.Ytbbkdgbgfncjaaa
open Go.RowKit

theorem Try.infoByteH : (Try.prog.info? 5).map (fun i => (i.zero, i.size, i.bytes)) = some (some (.int .u8 0), 1, 1) := by kernel_rfl

set_option maxRecDepth 100000 in
set_option maxHeartbeats 1600000 in
theorem hOwnByte_any (A : Option Addr) (n c : Nat) (xs : List Int) (f : Int) (w : World) (h : Row w .u8 A n xs) (hnil : A = none → c = 0) (hn : n ≤ 140737488351232) :
    Calls Try.prog 7 #[.slice A n c, .int .u8 f] w fun e w' => ∃ q, e = .returned (.slice (some ⟨q, 0, none⟩) n (n + 3)) ∧ Copy w' q 5 .u8 xs f ∧ w.heap.size ≤ q ∧ Fresh w w' := by
  obtain ⟨i0, hi, hz0, hz1, hz2⟩ := info_parts Try.infoByteH
  have hlen := h.len
  have Hlen := Lib.hid hlen
  have hn2 : (n : Int) + 3 ≤ 140737488351235 := by omega
  clear hlen
  go_enter Try.func7, Try.ntmps7
  go_wp2_with (first
    | (refine wpList_make_own _ rfl _ _ 22 rfl 0 5 i0 _ 1 Try.underlying22 hi hz0 hz1 .i64 .i64 _ (n + 3) rfl rfl (by omega) (by rw [hz2]; omega) (by unfold maxLen; omega) (by omega) ?_; intro w1 hown1 hg1)
    | (at_builtin; refine wpList_append_fits_any _ rfl (.tmp 12) (.tmp 13) 22 rfl 0 5 i0 1 Try.underlying22 hi hz1 w.heap.size 0 (n + 3) [] rfl hown1 A n c (ivs .u8 xs) rfl (by rw [ivs_length, Hlen.out]; omega) ?hnone ?hcells (ivs_one _ _) (by omega) ?_; rotate_right; intro w2 hown2 hg2))
  case hnone => intro e; subst e; exact ⟨h.nil0, hnil rfl⟩
  case hcells =>
    intro ad e
    subst e
    exact (h.kept ((Kept.refl (fun _ => False) _).grown hg1 (fun k e => by cases e)) (fun _ _ _ _ => id)).news
  obtain ⟨cur, hblk, hsz, htake⟩ := Blk.of_own hown2
  have hk2 : Fresh w w2 := (((Kept.refl (fun _ => False) _).grown hg1 (fun k e => by cases e))).grown hg2 (fun k e hk => by injection e with e; omega)
  rw [Nat.zero_add, List.nil_append] at htake
  have hqs : w.heap.size ≤ w.heap.size := Nat.le_refl _
  generalize hQ : w.heap.size = q at hblk
  have hq : w.heap.size ≤ q := by omega
  have Hs := Lib.hid (And.intro hsz htake)
  clear hqs hQ
  clear hown1 hown2 hg1 hg2 hsz htake
  go_loopw [7] (fun i wr => ∃ j : Nat, j ≤ 3 ∧ i = .int .i64 ((n : Int) + j) ∧ Fresh w wr ∧ ∃ cur, Blk wr q 5 cur ∧ cur.size = n + 3 ∧ cur.toList.take (n + j) = ivs .u8 (xs ++ List.replicate j f)) (fun i _ => ((n : Int) + 3 - intOf i).toNat)
  case atStart => exact ⟨0, by omega, by simp, hk2, cur, hblk, Hs.out.1, by simpa using Hs.out.2⟩
  case round =>
    obtain ⟨j, hj, rfl, hkr, cur1, hb1, hs1, ht1⟩ := hrel
    by_cases hlt : j < 3
    · have hcell : ∃ u, wr.cell? ⟨q, n + j, none⟩ = some u := by
        rw [hb1.cell (n + j)]
        exact ⟨_, Array.getElem?_eq_getElem (by omega)⟩
      obtain ⟨u, hu⟩ := hcell
      have hfr := hb1.frozen (n + j)
      have hb2 := hb1.set_ (n + j) (.int .u8 f)
      have ht2 := take_set_snoc cur1.toList (n + j) (.int .u8 f) (by simpa using (by omega : n + j < cur1.size))
      rw [ht1] at ht2
      have H := Lib.hid (And.intro hb2 ht2)
      have Hk := Lib.hid hkr
      have Hs1 := Lib.hid hs1
      clear hb2 ht2 hb1 ht1 hkr hs1 h hnil hblk hk2 hi hz0 hz1 hz2 Hlen Hs
      have hh : (n : Int) + j < (n : Int) + 3 := by omega
      have hh0 : (0 : Int) ≤ (n : Int) + j := by omega
      go_wp2_with fail
      go_roundw
      case rel => exact ⟨j + 1, by omega, by go_num, Hk.out.setCell (p := ⟨q, n + j, none⟩) (fun hlt' => by simp at hlt'; omega) _, _, H.out.1, by simpa using Hs1.out, by
        rw [Array.toList_setIfInBounds, show n + (j + 1) = n + j + 1 from rfl, H.out.2, List.replicate_succ', ← List.append_assoc, ivs_append, ivs_append, ivs_append]; rfl⟩
      case measure => simp [intOf]; omega
    · obtain rfl : j = 3 := by omega
      go_wp2_with fail
      go_ret
      refine ⟨q, rfl, ⟨?_⟩, hq, hkr⟩
      have e : cur1 = (ivs .u8 (xs ++ [f, f, f])).toArray := by
        apply Array.ext'
        rw [show cur1.toList = cur1.toList.take (n + 3) from (List.take_of_length_le (by simp; omega)).symm, ht1]
        rfl
      rw [← e]
      exact hb1

set_option maxHeartbeats 400000 in
theorem hEqByte_any (x y : Int) (w : World) : Calls Try.prog 29 #[.int .u8 x, .int .u8 y] w fun e w' => e = .returned (.bool (x == y)) ∧ w' = w := by
  go_enter Try.func29, Try.ntmps29
  go_wp2
  go_ret
  exact ⟨rfl, rfl⟩

set_option maxHeartbeats 1600000 in
theorem hSameByte_any (A B : Option Addr) (n m c d : Nat) (xs ys : List Int) (w : World) (ha : Row w .u8 A n xs) (hb : Row w .u8 B m ys) (hn : n ≤ 140737488351232) (hm : m ≤ 140737488351232) :
    Calls Try.prog 28 #[.slice A n c, .slice B m d, .func (.func 29) #[] #[]] w fun e w' => e = .returned (.bool (decide (xs = ys))) ∧ ∃ k, w' = w.drewN k := by
  have HA := Lib.hid ha
  have HB := Lib.hid hb
  clear ha hb
  by_cases hnm : n = m
  · subst hnm
    have hself : ((n : Int) != (n : Int)) = false := by simp
    go_enter Try.func28, Try.ntmps28
    go_wp2_with fail
    go_loopw [7] (fun i wr => ∃ j n1 : Nat, j ≤ n ∧ i = .int .i64 j ∧ wr = w.drewN n1 ∧ ∀ i, i < j → xs.getD i 0 = ys.getD i 0) (fun i _ => (n - intOf i).toNat)
    case atStart => exact ⟨0, 0, by omega, rfl, rfl, fun i hi => by omega⟩
    case round =>
      obtain ⟨j, n1, hj, rfl, hwr, hall⟩ := hrel
      have Hall := Lib.hid hall
      have Hwr := Lib.hid hwr
      clear hall hwr
      by_cases hlt : j < n
      · obtain ⟨b1, o1, rfl, hl1, hc1'⟩ := HA.out.at_ j hlt
        obtain ⟨b2, o2, rfl, hl2, hc2'⟩ := HB.out.at_ j hlt
        have hc1 : wr.cell? ⟨b1, o1 + j, none⟩ = some (.int .u8 (xs.getD j 0)) := by rw [Hwr.out]; exact hc1'
        have hc2 : wr.cell? ⟨b2, o2 + j, none⟩ = some (.int .u8 (ys.getD j 0)) := by rw [Hwr.out]; exact hc2'
        clear hc1' hc2'
        have hi0 : (0 : Int) ≤ (j : Int) := by omega
        have hi1 : (j : Int) < (n : Int) := by omega
        obtain ⟨x, hx⟩ : ∃ x, xs.getD j 0 = x := ⟨_, rfl⟩
        obtain ⟨y, hy⟩ : ∃ y, ys.getD j 0 = y := ⟨_, rfl⟩
        rw [hx] at hc1
        rw [hy] at hc2
        have Hxy := Lib.hid (And.intro hx hy)
        clear hx hy
        by_cases he : x = y
        · subst he
          have hbe : (x == x) = true := by simp
          go_wp2_with fail
          go_quiet ((go_at_call 29; exact Calls.quiet_of_same (hEqByte_any _ _ _)))
          go_wp2_with fail
          go_roundw
          case rel => exact ⟨j + 1, n1 + nq, by omega, by go_num, by rw [Hwr.out, World.drewN_drewN], fun i hi => by
            rcases Nat.lt_or_ge i j with hij | hij
            · exact Hall.out i hij
            · obtain rfl : i = j := by omega
              rw [Hxy.out.1, Hxy.out.2]⟩
          case measure => simp [intOf]; omega
        · have hbe : (x == y) = false := by simpa using he
          have hfin := list_ne_at (xs := xs) (ys := ys) (j := j) (by rw [Hxy.out.1, Hxy.out.2]; exact he)
          have Hf := Lib.hid hfin
          clear he hfin
          go_wp2_with fail
          go_quiet ((go_at_call 29; exact Calls.quiet_of_same (hEqByte_any _ _ _)))
          go_wp2_with fail
          go_ret
          exact ⟨ret_bool Hf.out.symm, n1 + nq, by rw [Hwr.out, World.drewN_drewN]⟩
      · go_wp2_with fail
        go_ret
        refine ⟨ret_bool ?_, n1, Hwr.out⟩
        have := list_eq_all (xs := xs) (ys := ys) (by rw [HA.out.len, HB.out.len]) (fun i hi => Hall.out i (by rw [HA.out.len] at hi; omega))
        simp [this]
  · have hb : ((n : Int) != (m : Int)) = true := by simp; omega
    have hfin : decide (xs = ys) = false := by
      simp; intro e; subst e; exact hnm (by rw [← HA.out.len, HB.out.len])
    rw [hfin]
    clear hfin hnm
    go_enter Try.func28, Try.ntmps28
    go_wp2_with fail
    go_ret
    exact ⟨rfl, 0, rfl⟩

set_option maxHeartbeats 400000 in
theorem hPlainByte_any (A B : Option Addr) (n m c d : Nat) (xs ys : List Int) (w : World) (ha : Row w .u8 A n xs) (hb : Row w .u8 B m ys) (hn : n ≤ 140737488351232) (hm : m ≤ 140737488351232) :
    Calls Try.prog 21 #[.slice A n c, .slice B m d] w fun e w' => e = .returned (.bool (decide (xs = ys))) ∧ ∃ k, w' = w.drewN k := by
  go_enter Try.func21, Try.ntmps21
  go_wp2_with fail
  refine (hSameByte_any A B n m c d xs ys _ ha hb hn hm).mono ?_
  rintro e w' ⟨rfl, k, rfl⟩
  go_wp2
  go_ret
  exact ⟨rfl, _, rfl⟩

set_option maxHeartbeats 1600000 in
/-- Kept, where it is: true. -/
theorem hKeptByte_any (q n d : Nat) (B : Option Addr) (xs : List Int) (f : Int) (w : World) (hq : Copy w q 5 .u8 xs f) (hb : Row w .u8 B n xs) (hn : n ≤ 140737488351232) :
    Calls Try.prog 17 #[.slice (some ⟨q, 0, none⟩) n (n + 3), .slice B n d, .int .u8 f] w fun e w' => e = .returned (.bool true) ∧ ∃ k, w' = w.drewN k := by
  have hlen := hb.len
  have hr := hq.row
  rw [hlen] at hr
  have hcells : ∀ j, j < 3 → w.cell? ⟨q, n + j, none⟩ = some (.int .u8 f) := by
    intro j hj
    rw [hq.blk.cell (n + j), List.getElem?_toArray, ivs_get (by simp; omega)]
    have : xs.length ≤ n + j := by omega
    simp only [List.getD, List.getElem?_append_right this]
    rw [show n + j - xs.length = j from by omega]
    match j, hj with
    | 0, _ => rfl
    | 1, _ => rfl
    | 2, _ => rfl
  have H := Lib.hid hcells
  have hcap : ¬ ((n : Int) + 3 < (n : Int) + 3) := by omega
  have hcapd : decide ((n : Int) + 3 < (n : Int) + 3) = false := by simp
  clear hcells hlen
  go_enter Try.func17, Try.ntmps17
  go_wp2_with fail
  refine (hPlainByte_any _ _ n n _ _ xs xs _ hr hb (by omega) (by omega)).mono ?_
  rintro e w' ⟨rfl, k, rfl⟩
  rw [show decide (xs = xs) = true from by simp]
  go_wp2_with fail
  go_loop [8] (fun i => ∃ j : Nat, j ≤ 3 ∧ i = .int .i64 ((n : Int) + j)) (fun i => ((n : Int) + 3 - intOf i).toNat)
  case atStart => exact ⟨0, by omega, by simp⟩
  case round =>
    obtain ⟨j, hj, rfl⟩ := hrel
    by_cases hlt : j < 3
    · have hc := H.out j hlt
      have hh : (n : Int) + j < (n : Int) + 3 := by omega
      have hh0 : (0 : Int) ≤ (n : Int) + j := by omega
      go_wp2_with fail
      go_round
      case rel => exact ⟨j + 1, by omega, by go_num⟩
      case measure => simp [intOf]; omega
    · have hh : ¬ ((n : Int) + j < (n : Int) + 3) := by omega
      go_wp2_with fail
      go_ret
      exact ⟨rfl, _, rfl⟩

end Go.Proofs.Ytbbkdgbgfncjaaa
