/- StreamBack: what is packed is unpacked, at any level; and of no other length but where it is the pack of that too. The tied card, for all bytes and every number. -/
import Derived.Test.YtpknbfkknnaajaaDoorPart32
import Derived.Test.YtpknbfkknnaajaaDoorTie
import Derived.Test.YtpknbfkknnaajaaDoorCards
import Derived.SevenTiedAt
namespace Go.Proofs.YtpknbfkknnaajaaDoor.streamBack
open Go.ChangeShapes Go.WideShapes Go.ChangeAt Go.RowKit

attribute [local go_sem ↓] Go.wp_at_zero Go.wp_at_succ

set_option maxRecDepth 100000 in
set_option maxHeartbeats 3200000 in
theorem walk (A : Option Addr) (n c : Nat) (xs : List Int) (lv m : Int) (w : World) (_ : A = none → c = 0) (hr : Row w .u8 A n xs) (hb : ∀ x ∈ xs, 0 ≤ x ∧ x < 256) (_ : n ≤ maxLen) (hk : Kin w) :
    Calls Tryd.prog 5 #[.slice A n c, .int .i64 lv, .int .i64 m] w fun e w' => e = .returned (.bool true) ∧ Below w.heap.size w w' := by
  obtain ⟨l, hl, el⟩ := u64_mod lv 3 (by omega)
  obtain ⟨M, hM, eM⟩ := u64_mod m 1500 (by omega)
  have el2 : wrap64 (l : Int) = l := IntWalk.wrap64_in _ (by omega)
  have eM2 : wrap64 (M : Int) = M := IntWalk.wrap64_in _ (by omega)
  have ql : l ≤ 2 := by omega
  have qM : M < 1500 := by omega
  by_cases hlong : 1500 < n
  · have h1 : 1500 < (n : Int) := by omega
    have HA := Lib.hid (awake_any w hk)
    clear hk hr
    go_enter Tryd.func5, Tryd.ntmps5
    go_wp2_with fail
    refine HA.out.mono ?_
    rintro e w1 ⟨rfl, hf⟩
    have HF := Lib.hid hf.toBelow
    clear hf HA
    go_wp2_with fail
    go_ret
    exact ⟨rfl, HF.out⟩
  · have h1 : ¬ 1500 < (n : Int) := by omega
    have q1 : n ≤ 1048576 := by omega
    have q2 : n ≤ 1500 := by omega
    have hlen := hr.len
    have HP := Lib.hid (cPack_any A n c xs l w hk hr (byteC hb) q1 ql)
    have HR := Lib.hid (And.intro hr hk)
    have hE := Lib.hid (eM)
    clear hk hr eM h1
    have h1 : ¬ 1500 < (n : Int) := by omega
    go_enter Tryd.func5, Tryd.ntmps5
    go_wp2_with fail
    refine HP.out.mono ?_
    rintro e w1 ⟨u, rfl, hu, _, hf1⟩
    have hpl := packB_len l (bbs xs)
    have hpm := packB_most l (bbs xs)
    rw [bbs_len] at hpm
    obtain ⟨g, cu, rfl, hg⟩ := hu.form (by omega)
    obtain ⟨A', c', ev, hru, _⟩ := hu.row
    obtain ⟨rfl, rfl⟩ : (some ⟨g, 0, none⟩ : Option Addr) = A' ∧ cu = c' := by injection ev with h1 _ h3; exact ⟨h1, h3⟩
    have q3 : (packB l (bbs xs)).length ≤ 1000000000 := by omega
    have hzb := packB_bytes l (bbs xs)
    have hok := ok_pack (lv := l) hb
    rw [hlen] at hok
    generalize hZ : packB l (bbs xs) = zs at *
    have HU : Hid (∀ (V : World) (k : Nat), Fresh w V → Fresh w1 V → k ≤ 1048576 → Calls Tryd.prog 14 #[.slice (some ⟨g, 0, none⟩) zs.length cu, .int .i64 k, .int .i64 l] V fun e w' => UnP V w' e l zs k) := Lib.hid fun V k hV hV1 hk => cUnpack_any g 0 zs.length cu zs k l V (HR.out.2.kept hV id) (hru.kept hV1 (fun _ _ _ _ => id)) hzb q3 hk ql
    have H1 := Lib.hid (And.intro hf1 (And.intro hru (And.intro hok (And.intro hzb hZ))))
    have HU1 := Lib.hid (HU.out w1 n hf1 (Kept.refl _ _) q1)
    clear hf1 hru hok hzb hZ hpl hpm hu ev hg HP q3
    go_wp2_with fail
    refine HU1.out.mono ?_
    unfold UnP
    rw [if_pos H1.out.2.2.1.1, if_pos H1.out.2.2.1.1, H1.out.2.2.1.2]
    rintro e w2 ⟨v, rfl, hv, _, hf2⟩
    obtain ⟨Av, cv, ev, hrv, _⟩ := hv.row
    rw [hlen] at ev hrv
    subst ev
    have hk2 := H1.out.1.trans hf2 (fun _ _ h => h)
    have HA := Lib.hid (awake_any w2 (HR.out.2.kept hk2 id))
    have H2 := Lib.hid (And.intro hf2 (And.intro hk2 hrv))
    clear hv hrv hf2 hk2 HU1
    go_wp2_with fail
    refine HA.out.mono ?_
    rintro e w3 ⟨rfl, hf3⟩
    have hk3 := H2.out.2.1.trans hf3 (fun _ _ h => h)
    have HB := Lib.hid (hBytes_any A Av n n c cv xs xs w3 (HR.out.1.kept hk3 (fun _ _ _ _ => id)) (H2.out.2.2.kept hf3 (fun _ _ _ _ => id)) hb hb)
    rw [decide_eq_true rfl] at HB
    have hk13 := H2.out.1.trans hf3 (fun _ _ h => h)
    have H3 := Lib.hid (And.intro hk3 hk13)
    clear hf3 hk3 hk13 HA H2
    go_wp2_with fail
    refine HB.out.mono ?_
    rintro e w4 ⟨rfl, rfl⟩
    have eM := hE.out
    clear hE HB
    have HU2 := Lib.hid (HU.out w3 M H3.out.1 H3.out.2 (by clear eM eM2 el el2; omega))
    clear HU
    go_wp2_with fail
    refine HU2.out.mono ?_
    unfold UnP
    rintro e w5 ⟨v, rfl, hv, _, hf5⟩
    have HK5 := Lib.hid (H3.out.1.trans hf5 (fun _ _ h => h))
    have HK15 := Lib.hid (H3.out.2.trans hf5 (fun _ _ h => h))
    clear HU2 H3 hf5
    by_cases hMn : M = n
    · have hd : ((M : Int) == (n : Int)) = true := by simp; omega
      obtain ⟨Av, cv, rfl, _, _⟩ := hv.row
      clear hv
      generalize (if okB l zs M then (0 : Int) else 4) = r at *
      generalize (if okB l zs M then outB l zs M else []).length = ln at *
      subst hMn
      go_wp2_with fail
      go_ret
      exact ⟨rfl, HK5.out.toBelow⟩
    · have hd : ((M : Int) == (n : Int)) = false := by simp; omega
      by_cases hok : okB l zs M
      · rw [if_pos hok] at hv
        rw [if_pos hok]
        obtain ⟨Av, cv, ev, hrv, _⟩ := hv.row
        rw [outB_len] at ev hrv
        subst ev
        have hyes : zs = packB l (bbs (outB l zs M)) := by rw [outB_bits]; exact hok
        have HPk := Lib.hid (packs_any Av (some ⟨g, 0, none⟩) M zs.length cv cu (outB l zs M) zs l w5 hrv (H1.out.2.1.kept HK15.out (fun _ _ _ _ => id)) (outB_byte l zs M) H1.out.2.2.2.1 (by clear eM eM2 el el2; omega) ql)
        rw [decide_eq_true hyes] at HPk
        clear hv hrv hyes hok HK15
        go_wp2_with fail
        refine HPk.out.mono ?_
        rintro e w6 ⟨rfl, hf6⟩
        have H6 := Lib.hid (HK5.out.trans hf6 (fun _ _ h => h)).toBelow
        clear HPk HK5 hf6
        go_wp2_with fail
        go_ret
        exact ⟨rfl, H6.out⟩
      · rw [if_neg hok] at hv
        rw [if_neg hok]
        obtain ⟨Av, cv, rfl, _, _⟩ := hv.row
        clear hv hok
        go_wp2_with fail
        go_ret
        exact ⟨rfl, HK5.out.toBelow⟩

set_option maxRecDepth 100000 in
theorem lifted (os : Os) (started : os.Started) (H : Type) (enc : TypeId × Value → H) :
    ReturnsInHanded {} Tryd.checked os 5 .any (fun w args => (Rows.streamBackSpec.pre enc Tryd.prog Tryd.f5 [] false w args ∧ laidMetH Tryd.prog laidK w) ∧ sizedMet enc Tryd.prog Tryd.f5 (OpenSpec.ofChange Rows.streamBackSpec) false w args)
      (Rows.streamBackSpec.post enc Tryd.prog Tryd.f5 false true false false) := by
  refine returnsInHanded_of_change_and (C := Tryd.checked) (X := fun w _ => laidMetH Tryd.prog laidK w) (fun _ _ _ hh h => h.of_heap hh) Tryd.own started (by kernel_rfl) Tryd.func5
    (ChangeSpec.witness_shaped (enc := enc) (C := Tryd.checked) (os := os) (X := fun w _ => laidMetH Tryd.prog laidK w) false (World.doorLaid Tryd.prog 17 os) #[.slice none 0 0, .int .i64 0, .int .i64 0] 8 rfl (World.shaped_of_RefB (by kernel_rfl) (by kernel_rfl)) (by kernel_rfl) (by kernel_rfl) (by kernel_rfl) (door_met os _)) ?_
  intro W base args ds gs before hval0 hW _ _ hL _
  have hval : ∀ (j : Nat) t v, Tryd.f5.params[j]? = some t → args[j]? = some v → Value.okWide Tryd.prog W .any base t v := hval0
  have hpost : ∀ W', Below W.heap.size W W' → Rows.streamBackSpec.post enc Tryd.prog Tryd.f5 false true false false W args (.bool true) W' := fun W' hb =>
    law_post (by kernel_rfl) Tryd.underlying4 (by kernel_rfl) rfl (fun ds hl => match ds, hl with | [d1, d2, d3], _ => ⟨rfl, rfl, rfl⟩) hW hb
  obtain ⟨p, q, hA0, hV, rfl, hfz, hnd⟩ := hW
  have hA : DataW.TrodAll enc Tryd.prog W 0 (fun _ => true) true Tryd.f5.params.toList args.toList ds p := hA0
  rw [Tryd.params5] at hA hval
  obtain ⟨v0, vs0, d0, ds0, p0, q0, hargs, rfl, rfl, h0, r0⟩ := trodAll_cons hA
  obtain ⟨v1, vs1, d1, ds1, p1, q1, rfl, rfl, rfl, h1, r1⟩ := trodAll_cons r0
  obtain ⟨v2, vs2, d2, ds2, p2, q2, rfl, rfl, rfl, h2, r2⟩ := trodAll_cons r1
  obtain ⟨rfl, rfl, rfl⟩ := trodAll_nil r2
  obtain rfl : args = #[v0, v1, v2] := by cases args; simp_all
  obtain ⟨A0, n0, c0, xs0, rfl, hz0, hr0, hb0, hn0⟩ := open_row Tryd.underlying22 Tryd.underlying5 (by kernel_rfl) (hval 0 22 v0 rfl rfl) h0
  obtain ⟨a1, rfl, rfl, rfl, w1⟩ := open_int Tryd.underlying3 (hval 1 3 v1 rfl rfl) h1
  obtain ⟨a2, rfl, rfl, rfl, w2⟩ := open_int Tryd.underlying3 (hval 2 3 v2 rfl rfl) h2
  refine (walk A0 n0 c0 xs0 a1 a2 W hz0 hr0 (range_bytes hb0) hn0 (kin_of_laid hL)).mono fun e W' ⟨he, hb⟩ => ⟨_, he, hpost W' hb⟩

/-- The row. -/
theorem row_proved : Rows.StreamBackSaid :=
  OpenClaim.holds_of_wide 5 Tryd.f5 rfl rfl rfl rfl rfl rfl rfl ⟨rfl, rfl, rfl, rfl, rfl⟩ rfl rfl rfl rfl rfl (by kernel_rfl) Tryd.func5 (by kernel_rfl)
    (of_decide_eq_true (by kernel_rfl)) (by unfold Func.isWrapper; first | (rw [if_pos (by decide +kernel)]; kernel_rfl) | (rw [if_neg (by decide +kernel)]; exact ⟨rfl, rfl⟩))
    (fun os started H enc _ => lifted os started H enc)

/-- The statement: the tied card. -/
theorem proved : Rows.StreamBackCardSaid :=
  Claim7.holds_tied_plain_at .later [] [.data] true (true, "8330b7bf38052f90f88a9fa0d9cd396e9b05c0988097ea5622d998c1e3d70067") false
    row_proved (fun _ h => by cases h) (by kernel_rfl) (fun _ h => by cases h) streamBack_row_tie rfl ⟨rfl, rfl⟩ (by kernel_rfl) rfl
    (fun f fn hf hfn => by
      obtain rfl : f = 5 := Option.some.inj ((show Tryd.prog.funcNamed "valise/valiselaw09.StreamBack" = some 5 by kernel_rfl).symm.trans hf) |>.symm
      obtain rfl : fn = Tryd.f5 := (Option.some.inj (Tryd.func5.symm.trans hfn)).symm
      exact ⟨by kernel_rfl, fun j t ht => by
        rw [Tryd.params5] at ht
        have hm : t ∈ [22, 3] := by
          have := Array.mem_of_getElem? ht
          simp at this ⊢; omega
        have hall : ([22, 3].all fun u => !Tryd.prog.wantsStandIn u) = true := by kernel_rfl
        exact (show Tryd.prog.wantsStandIn t = false by simpa using List.all_eq_true.1 hall t hm)⟩)
    (by kernel_rfl)
#print axioms proved

end Go.Proofs.YtpknbfkknnaajaaDoor.streamBack
