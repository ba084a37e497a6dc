/- The code's white and numbers. -/
import Derived.Test.YtlmhodkdcllcjaaPicH
namespace Go.Proofs.Ytlmhodkdcllcjaa
open Go.RowKit
set_option maxRecDepth 100000

attribute [local go_sem ↓] Go.wp_at_zero Go.wp_at_succ

/-- What a call of the parser leaves: the byte of place i in hand. -/
def PP (g R : Nat) (A : Option Addr) (c : Nat) (l : List Int) (i : Nat) (w w' : World) : Prop := PA w' g R A c l i ∧ Kept (PFt g R) w w'

section
variable (g R : Nat) (A : Option Addr) (c : Nat) (l : List Int) (i : Nat)
theorem eol_self {l : List Int} {j : Nat} (h : l.getD j 0 = 10 ∨ l.length ≤ j) : eol l j = j := by
  rw [eol]
  split
  · rename_i h1
    rcases h with h | h
    · rw [if_pos h]
    · omega
  · rfl

set_option maxHeartbeats 1600000 in
theorem cRemark_any (w : World) (h : PA w g R A c l i) :
    Calls Try.prog 51 #[.pointer (some ⟨g, 0, none⟩)] w fun e w' => e = .returned (.tuple #[]) ∧ PP g R A c l (rmk l i) w w' := by
  have c1 := h.c1
  by_cases h35 : l.getD i 0 = 35
  · rw [h35] at c1
    have HR : Hid (rmk l i = eol l i) := Lib.hid (if_pos h35)
    have H := Lib.hid h
    clear h h35
    go_enter Try.func51, Try.ntmps51
    go_wp2_with fail
    clear c1
    go_loopw [9] (fun _ wr => ∃ j, PA wr g R A c l j ∧ eol l j = eol l i ∧ Kept (PFt g R) w wr) (fun _ wr => mea wr R l)
    case atStart => exact ⟨i, H.out, rfl, Kept.refl _ _⟩
    case round =>
      obtain ⟨j, hp, he, hk⟩ := hrel
      have HM := Lib.hid hp.mea_
      have c0 := hp.c0
      have c1 := hp.c1
      obtain ⟨p, err, hr, h1, h2⟩ := hp.rd
      have HJ := Lib.hid (And.intro hp (And.intro he hk))
      clear hp he hk
      by_cases h10 : l.getD j 0 = 10
      · rw [h10] at c1
        have HE : Hid (j = rmk l i) := Lib.hid (by rw [HR.out, ← HJ.out.2.1, eol_self (.inl h10)])
        clear h10 hr h1 h2
        go_wp2_with fail
        go_end0
        rw [← HE.out]
        exact ⟨rfl, HJ.out.1, HJ.out.2.2⟩
      · by_cases hj : j < l.length
        · obtain ⟨rfl, rfl⟩ := h1 hj
          have HE : Hid (eol l (j + 1) = eol l i) := Lib.hid (by rw [← HJ.out.2.1]; exact (by rw [eol, if_pos hj, if_neg h10] : eol l j = eol l (j + 1)).symm)
          have Hj := Lib.hid hj
          generalize l.getD j 0 = x at *
          have b10 : (x != 10) = true := by simp [h10]
          have Hr := Lib.hid hr
          clear h10 hr h1 h2 hj
          go_wp2_with fail
          refine (nrErr_any R _ [] A c l (j + 1) 0 _ Hr.out).mono ?_
          rintro e w1 ⟨rfl, rfl⟩
          go_wp2_with fail
          refine (cStep_any g R A c l j _ HJ.out.1 Hj.out).mono ?_
          rintro e w1 ⟨rfl, h1, hk⟩
          have H1 := Lib.hid (And.intro h1 (HJ.out.2.2.trans hk fun _ _ e => e))
          clear h1 hk
          go_wp2_with fail
          go_roundw
          case rel => exact ⟨j + 1, H1.out.1, HE.out, H1.out.2⟩
          case measure => rw [HM.out, H1.out.1.mea_]; have := Hj.out; omega
        · have hne := h2 hj
          have bne : (err == 0) = false := by simp [hne]
          have HE : Hid (j = rmk l i) := Lib.hid (by rw [HR.out, ← HJ.out.2.1, eol_self (.inr (by omega))])
          generalize l.getD j 0 = x at *
          have b10 : (x != 10) = true := by simp [h10]
          have Hr := Lib.hid hr
          clear h10 hr h1 h2 hne hj
          go_wp2_with fail
          refine (nrErr_any R _ [] A c l p err _ Hr.out).mono ?_
          rintro e w1 ⟨rfl, rfl⟩
          go_wp2_with fail
          go_end0
          rw [← HE.out]
          exact ⟨rfl, HJ.out.1, HJ.out.2.2⟩
  · have HR : Hid (rmk l i = i) := Lib.hid (if_neg h35)
    have H := Lib.hid h
    generalize l.getD i 0 = x at *
    have b35 : (x != 35) = true := by simp [h35]
    clear h h35
    go_enter Try.func51, Try.ntmps51
    go_wp2_with fail
    refine bodyPost_ret (results_none rfl _ _ _) rfl ?_
    rw [HR.out]
    exact ⟨rfl, H.out, Kept.refl _ _⟩

set_option maxHeartbeats 1600000 in
theorem cWhite_any (w : World) (h : PA w g R A c l i) :
    Calls Try.prog 48 #[.pointer (some ⟨g, 0, none⟩)] w fun e w' => e = .returned (.bool (cwh l false i).1) ∧ PP g R A c l (cwh l false i).2 w w' := by
  have H := Lib.hid h
  clear h
  go_enter Try.func48, Try.ntmps48
  go_wp2_with fail
  go_loopw [3] (fun v wr => ∃ b j, v = .bool b ∧ PA wr g R A c l j ∧ cwh l b j = cwh l false i ∧ Kept (PFt g R) w wr) (fun _ wr => mea wr R l)
  case atStart => exact ⟨false, i, rfl, H.out, rfl, Kept.refl _ _⟩
  case round =>
    obtain ⟨b, j, rfl, hp, he, hk⟩ := hrel
    have HM := Lib.hid hp.mea_
    have HJ := Lib.hid (And.intro hp (And.intro he hk))
    clear hp he hk
    go_wp2_with fail
    refine (cRemark_any g R A c l j _ HJ.out.1).mono ?_
    rintro e w1 ⟨rfl, h1, hk1⟩
    have hge := rmk_ge l j
    have hun : cwh l b j = if blk (l.getD (rmk l j) 0) then cwh l true (rmk l j + 1) else (b, rmk l j) := by rw [cwh]
    generalize rmk l j = q at *
    have c1 := h1.c1
    have H1 := Lib.hid (And.intro h1 (And.intro (HJ.out.2.2.trans hk1 fun _ _ e => e) hge))
    have hx : 0 ≤ l.getD q 0 ∧ l.getD q 0 < 256 := by
      rcases Nat.lt_or_ge q l.length with h2 | h2
      · exact h1.b8 _ (getD_mem h2)
      · rw [getD_past h2]; omega
    have HB := Lib.hid (cBlank_any (l.getD q 0) w1 hx)
    have HLT : Hid (blk (l.getD q 0) → q < l.length) := Lib.hid blk_lt
    generalize l.getD q 0 = x at *
    by_cases hb : blk x
    · rw [decide_eq_true hb] at HB
      rw [if_pos hb] at hun
      have HU := Lib.hid (hun.symm.trans HJ.out.2.1)
      have Hq := Lib.hid (HLT.out hb)
      clear h1 hk1 hx hun hb hge HLT
      go_wp2_with fail
      refine HB.out.mono ?_
      rintro e w2 ⟨rfl, rfl⟩
      go_wp2_with fail
      refine (cStep_any g R A c l q _ H1.out.1 Hq.out).mono ?_
      rintro e w2 ⟨rfl, h2, hk2⟩
      have H2 := Lib.hid (And.intro h2 (H1.out.2.1.trans hk2 fun _ _ e => e))
      clear h2 hk2
      go_wp2_with fail
      go_roundw
      case rel => exact ⟨true, q + 1, rfl, H2.out.1, HU.out, H2.out.2⟩
      case measure => rw [HM.out, H2.out.1.mea_]; have := Hq.out; have := H1.out.2.2; omega
    · rw [decide_eq_false hb] at HB
      rw [if_neg hb] at hun
      have HU := Lib.hid (hun.symm.trans HJ.out.2.1)
      clear h1 hk1 hx hun hb hge HLT
      go_wp2_with fail
      refine HB.out.mono ?_
      rintro e w2 ⟨rfl, rfl⟩
      go_wp2_with fail
      go_ret
      rw [← HU.out]
      exact ⟨rfl, H1.out.1, H1.out.2.1⟩

set_option maxHeartbeats 1600000 in
theorem cNumber_any (w : World) (h : PA w g R A c l i) :
    Calls Try.prog 41 #[.pointer (some ⟨g, 0, none⟩)] w fun e w' => e = .returned (.int .u64 ((cnm l i).1 : Nat)) ∧ PP g R A c l (cnm l i).2 w w' := by
  obtain ⟨r, hr⟩ : ∃ r, r = cwh l false i := ⟨_, rfl⟩
  have HW := Lib.hid (cWhite_any g R A c l i w h)
  have hcn : cnm l i = if r.1 then dgs l 5 r.2 0 else (0, r.2) := by rw [hr]; rfl
  rw [← hr] at HW
  rw [hcn]
  clear hcn hr h
  obtain ⟨b, j⟩ := r
  cases b with
  | false =>
    simp only [Bool.false_eq_true, if_false] at HW ⊢
    go_enter Try.func41, Try.ntmps41
    go_wp2_with fail
    refine HW.out.mono ?_
    rintro e w1 ⟨rfl, h1⟩
    have H1 := Lib.hid h1
    clear h1
    go_wp2_with fail
    go_ret
    exact ⟨rfl, H1.out⟩
  | true =>
    simp only [if_true] at HW ⊢
    obtain ⟨z, hz⟩ : ∃ z, z = dgs l 5 j 0 := ⟨_, rfl⟩
    rw [← hz]
    have HZ := Lib.hid hz
    clear hz
    go_enter Try.func41, Try.ntmps41
    go_wp2_with fail
    refine HW.out.mono ?_
    rintro e w1 ⟨rfl, h1, hk1⟩
    have H1 := Lib.hid (And.intro h1 hk1)
    clear h1 hk1 HW
    go_wp2_with fail
    go_loopw [3, 7] (fun v kv wr => ∃ k v' q : Nat, k ≤ 5 ∧ v = .int .u64 (v' : Int) ∧ kv = .int .i64 (k : Int) ∧ v' < 10 ^ k ∧ z = dgs l (5 - k) q v' ∧ PA wr g R A c l q ∧ Kept (PFt g R) w wr) (fun _ kv _ => (5 - intOf kv).toNat)
    case atStart => exact ⟨0, 0, j, by omega, rfl, rfl, by decide, HZ.out, H1.out.1, H1.out.2⟩
    case round =>
      obtain ⟨k, v', q, hk5, rfl, rfl, hv, hz, hp, hk⟩ := hrel
      by_cases hlt : k < 5
      · have c1 := hp.c1
        have hx : 0 ≤ l.getD q 0 ∧ l.getD q 0 < 256 := by
          rcases Nat.lt_or_ge q l.length with h2 | h2
          · exact hp.b8 _ (getD_mem h2)
          · rw [getD_past h2]; omega
        have HD := Lib.hid (cDigit_any (l.getD q 0))
        have HLT : Hid (dgt (l.getD q 0) → q < l.length) := Lib.hid dgt_lt
        have hun : z = if dgt (l.getD q 0) then dgs l (5 - (k + 1)) (q + 1) (10 * v' + (l.getD q 0 - 48).toNat) else (v', q) := by
          rw [hz, show 5 - k = 5 - (k + 1) + 1 by omega, dgs]
        have HP := Lib.hid (And.intro hp hk)
        have k5 : (k : Int) < 5 := by omega
        generalize l.getD q 0 = x at *
        clear hz hp hk
        by_cases hd : dgt x
        · rw [if_pos hd] at hun
          rw [decide_eq_true hd] at HD
          obtain ⟨d, hd0⟩ : ∃ d : Nat, (x - 48).toNat = d := ⟨_, rfl⟩
          have x1 : x - 48 = (d : Int) := by have := hd.1; omega
          have x2 : (d : Int) ≤ 9 := by have := hd.2; omega
          rw [hd0] at hun
          have r1 : v' < 100000 := Nat.lt_of_lt_of_le hv (Nat.le_trans (Nat.pow_le_pow_right (by decide) (show k ≤ 5 by omega)) (by decide))
          obtain ⟨m, hm⟩ : ∃ m, m = 10 * v' := ⟨_, rfl⟩
          obtain ⟨u, hu⟩ : ∃ u, u = m + d := ⟨_, rfl⟩
          have e1 : 10 * (v' : Int) = (m : Int) := by omega
          have e2 : (m : Int) + (d : Int) = (u : Int) := by omega
          have r2 : (m : Int) < 1000000 := by omega
          have r3 : (u : Int) < 1000010 := by omega
          have HU : Hid (z = dgs l (5 - (k + 1)) (q + 1) u ∧ u < 10 ^ (k + 1)) := Lib.hid ⟨by rw [hun, hu, hm], by rw [Nat.pow_succ]; omega⟩
          have Hq := Lib.hid (HLT.out hd)
          have c1' := Lib.hid c1
          clear hun hd hd0 hm hu hv hx HLT
          go_wp2_with fail
          refine (HD.out _).mono ?_
          rintro e w2 ⟨rfl, rfl⟩
          go_wp2_with fail
          refine (cStep_any g R A c l q _ HP.out.1 Hq.out).mono ?_
          rintro e w2 ⟨rfl, h2, hk2⟩
          have H2 := Lib.hid (And.intro h2 (HP.out.2.trans hk2 fun _ _ e => e))
          clear h2 hk2 c1
          go_wp2_with fail
          go_roundw
          case rel => exact ⟨k + 1, u, q + 1, by omega, rfl, by go_num, HU.out.2, HU.out.1, H2.out.1, H2.out.2⟩
          case measure => simp [intOf]; omega
        · rw [if_neg hd] at hun
          rw [decide_eq_false hd] at HD
          have HU := Lib.hid hun
          clear hun hd hv hx HLT
          go_wp2_with fail
          refine (HD.out _).mono ?_
          rintro e w2 ⟨rfl, rfl⟩
          go_wp2_with fail
          go_ret
          rw [HU.out]
          exact ⟨rfl, HP.out.1, HP.out.2⟩
      · obtain rfl : k = 5 := by omega
        have HU : Hid (z = (v', q)) := Lib.hid hz
        have HP := Lib.hid (And.intro hp hk)
        clear hz hp hk hv
        go_wp2_with fail
        go_ret
        rw [HU.out]
        exact ⟨rfl, HP.out.1, HP.out.2⟩
end

end Go.Proofs.Ytlmhodkdcllcjaa
