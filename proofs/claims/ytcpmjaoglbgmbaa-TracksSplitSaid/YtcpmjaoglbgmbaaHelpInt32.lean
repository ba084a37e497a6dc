/- The contracts of valisehelp's calls at int32: Own, Kept, Plain, Same. -/
import Derived.Test.YtcpmjaoglbgmbaaHelpCom
import Derived.Deep.QuietTactic
import Derived.BigQuiet
import Derived.Laws.BitsAllLaws
namespace Go.Proofs.Ytcpmjaoglbgmbaa
open Go.RowKit

theorem Try.infoInt32H : (Try.prog.info? 21).map (fun i => (i.zero, i.size, i.bytes)) = some (some (.int .i32 0), 1, 4) := by kernel_rfl


set_option maxHeartbeats 400000 in
theorem hEqInt32_any (x y : Int) (w : World) : Calls Try.prog 31 #[.int .i32 x, .int .i32 y] w fun e w' => e = .returned (.bool (x == y)) ∧ w' = w := by
  go_enter Try.func31, Try.ntmps31
  go_wp2
  go_ret
  exact ⟨rfl, rfl⟩

set_option maxHeartbeats 1600000 in
theorem hSameInt32_any (A B : Option Addr) (n m c d : Nat) (xs ys : List Int) (w : World) (ha : Row w .i32 A n xs) (hb : Row w .i32 B m ys) (hn : n ≤ 35184372088000) (hm : m ≤ 35184372088000) :
    Calls Try.prog 30 #[.slice A n c, .slice B m d, .func (.func 31) #[] #[]] w fun e w' => e = .returned (.bool (decide (xs = ys))) ∧ ∃ k, w' = w.drewN k := by
  have HA := Lib.hid ha
  have HB := Lib.hid hb
  clear ha hb
  by_cases hnm : n = m
  · subst hnm
    have hself : ((n : Int) != (n : Int)) = false := by simp
    go_enter Try.func30, Try.ntmps30
    go_wp2_with fail
    go_loopw [7] (fun i wr => ∃ j n1 : Nat, j ≤ n ∧ i = .int .i64 j ∧ wr = w.drewN n1 ∧ ∀ i, i < j → xs.getD i 0 = ys.getD i 0) (fun i _ => (n - intOf i).toNat)
    case atStart => exact ⟨0, 0, by omega, rfl, rfl, fun i hi => by omega⟩
    case round =>
      obtain ⟨j, n1, hj, rfl, hwr, hall⟩ := hrel
      have Hall := Lib.hid hall
      have Hwr := Lib.hid hwr
      clear hall hwr
      by_cases hlt : j < n
      · obtain ⟨b1, o1, rfl, hl1, hc1'⟩ := HA.out.at_ j hlt
        obtain ⟨b2, o2, rfl, hl2, hc2'⟩ := HB.out.at_ j hlt
        have hc1 : wr.cell? ⟨b1, o1 + j, none⟩ = some (.int .i32 (xs.getD j 0)) := by rw [Hwr.out]; exact hc1'
        have hc2 : wr.cell? ⟨b2, o2 + j, none⟩ = some (.int .i32 (ys.getD j 0)) := by rw [Hwr.out]; exact hc2'
        clear hc1' hc2'
        have hi0 : (0 : Int) ≤ (j : Int) := by omega
        have hi1 : (j : Int) < (n : Int) := by omega
        obtain ⟨x, hx⟩ : ∃ x, xs.getD j 0 = x := ⟨_, rfl⟩
        obtain ⟨y, hy⟩ : ∃ y, ys.getD j 0 = y := ⟨_, rfl⟩
        rw [hx] at hc1
        rw [hy] at hc2
        have Hxy := Lib.hid (And.intro hx hy)
        clear hx hy
        by_cases he : x = y
        · subst he
          have hbe : (x == x) = true := by simp
          go_wp2_with fail
          go_quiet ((go_at_call 31; exact Calls.quiet_of_same (hEqInt32_any _ _ _)))
          go_wp2_with fail
          go_roundw
          case rel => exact ⟨j + 1, n1 + nq, by omega, by go_num, by rw [Hwr.out, World.drewN_drewN], fun i hi => by
            rcases Nat.lt_or_ge i j with hij | hij
            · exact Hall.out i hij
            · obtain rfl : i = j := by omega
              rw [Hxy.out.1, Hxy.out.2]⟩
          case measure => simp [intOf]; omega
        · have hbe : (x == y) = false := by simpa using he
          have hfin := list_ne_at (xs := xs) (ys := ys) (j := j) (by rw [Hxy.out.1, Hxy.out.2]; exact he)
          have Hf := Lib.hid hfin
          clear he hfin
          go_wp2_with fail
          go_quiet ((go_at_call 31; exact Calls.quiet_of_same (hEqInt32_any _ _ _)))
          go_wp2_with fail
          go_ret
          exact ⟨ret_bool Hf.out.symm, n1 + nq, by rw [Hwr.out, World.drewN_drewN]⟩
      · go_wp2_with fail
        go_ret
        refine ⟨ret_bool ?_, n1, Hwr.out⟩
        have := list_eq_all (xs := xs) (ys := ys) (by rw [HA.out.len, HB.out.len]) (fun i hi => Hall.out i (by rw [HA.out.len] at hi; omega))
        simp [this]
  · have hb : ((n : Int) != (m : Int)) = true := by simp; omega
    have hfin : decide (xs = ys) = false := by
      simp; intro e; subst e; exact hnm (by rw [← HA.out.len, HB.out.len])
    rw [hfin]
    clear hfin hnm
    go_enter Try.func30, Try.ntmps30
    go_wp2_with fail
    go_ret
    exact ⟨rfl, 0, rfl⟩

set_option maxHeartbeats 400000 in
theorem hPlainInt32_any (A B : Option Addr) (n m c d : Nat) (xs ys : List Int) (w : World) (ha : Row w .i32 A n xs) (hb : Row w .i32 B m ys) (hn : n ≤ 35184372088000) (hm : m ≤ 35184372088000) :
    Calls Try.prog 20 #[.slice A n c, .slice B m d] w fun e w' => e = .returned (.bool (decide (xs = ys))) ∧ ∃ k, w' = w.drewN k := by
  go_enter Try.func20, Try.ntmps20
  go_wp2_with fail
  refine (hSameInt32_any A B n m c d xs ys _ ha hb hn hm).mono ?_
  rintro e w' ⟨rfl, k, rfl⟩
  go_wp2
  go_ret
  exact ⟨rfl, _, rfl⟩


end Go.Proofs.Ytcpmjaoglbgmbaa
