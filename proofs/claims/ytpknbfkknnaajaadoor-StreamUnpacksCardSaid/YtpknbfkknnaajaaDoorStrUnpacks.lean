/- StreamUnpacks: whatever bytes are unpacked, to whatever length, at whatever level: what Unpack answers is what the document says, and what was handed in stays. The tied card, for all bytes, every length and every level. -/
import Derived.Test.YtpknbfkknnaajaaDoorPart32
import Derived.Test.YtpknbfkknnaajaaDoorPart33
import Derived.Test.YtpknbfkknnaajaaDoorTie
import Derived.Test.YtpknbfkknnaajaaDoorCards
import Derived.SevenTiedAt
namespace Go.Proofs.YtpknbfkknnaajaaDoor.streamUnpacks
open Go.ChangeShapes Go.WideShapes Go.ChangeAt Go.RowKit

attribute [local go_sem ↓] Go.wp_at_zero Go.wp_at_succ

set_option maxRecDepth 100000 in
set_option maxHeartbeats 1600000 in
theorem walk (A : Option Addr) (n c : Nat) (xs : List Int) (m lv : Int) (w : World) (hz : A = none → c = 0) (hr : Row w .u8 A n xs) (hb : ∀ x ∈ xs, 0 ≤ x ∧ x < 256) (_ : n ≤ maxLen) (hk : Kin w) :
    Calls Tryd.prog 4 #[.slice A n c, .int .i64 m, .int .i64 lv] w fun e w' => e = .returned (.bool true) ∧ Below w.heap.size w w' := by
  by_cases hlong : 600 < (n : Int)
  · have HA := Lib.hid (awake_any w hk)
    clear hk hr
    go_enter Tryd.func4, Tryd.ntmps4
    go_wp2_with fail
    refine HA.out.mono ?_
    rintro e w1 ⟨rfl, hf⟩
    have HF := Lib.hid hf.toBelow
    clear hf HA
    go_wp2_with fail
    go_ret
    exact ⟨rfl, HF.out⟩
  · by_cases hmid : 600 < m ∧ m ≤ 1048576
    · obtain ⟨hm1, hm2⟩ := hmid
      have HA := Lib.hid (awake_any w hk)
      clear hk hr
      go_enter Tryd.func4, Tryd.ntmps4
      go_wp2_with fail
      refine HA.out.mono ?_
      rintro e w1 ⟨rfl, hf⟩
      have HF := Lib.hid hf.toBelow
      clear hf HA
      go_wp2_with fail
      go_ret
      exact ⟨rfl, HF.out⟩
    · have hmd : (decide (600 < m) && decide (m ≤ 1048576)) = false := by
        rw [Bool.and_eq_false_iff]
        by_cases h : 600 < m
        · right; simp; omega
        · left; simp; omega
      have hor : (600 < m ∧ 1048576 < m) ∨ ¬ 600 < m := by omega
      have HO := Lib.hid (hOwnByte_any A n c xs 71 w hr hz (by omega))
      have HR := Lib.hid (And.intro hr hk)
      have hlen := hr.len
      clear hk hr hmid
      have key : Calls Tryd.prog 9 #[.slice A n c, .int .u8 71] w fun e w1 => ∃ q, e = .returned (.slice (some ⟨q, 0, none⟩) n (n + 3)) ∧ Copy w1 q 5 .u8 xs 71 ∧ Fresh w w1 := HO.out.mono fun e w1 ⟨q, e1, e2, _, e3⟩ => ⟨q, e1, e2, e3⟩
      have HO := Lib.hid key
      clear key
      rcases hor with ⟨hm1, hm2⟩ | hm1
      all_goals
        have hm3 : m ≤ 1048576 → False ∨ m ≤ 600 := by omega
        go_enter Tryd.func4, Tryd.ntmps4
        go_wp2_with fail
        refine HO.out.mono ?_
        rintro e w1 ⟨q, rfl, hq, hf1⟩
        have hrq := hq.row
        rw [hlen] at hrq
        have HP := Lib.hid (cUnpackA q 0 n (n + 3) xs m lv w1 (HR.out.2.kept hf1 id) hrq hb (by omega))
        have H1 := Lib.hid (And.intro hq hf1)
        clear hq hf1 hrq HO
        go_wp2_with fail
        have HQ : Hid (∀ V, Fresh w V → Calls Tryd.prog 15 #[.slice A n c, .int .i64 m, .int .i64 lv] V fun e w' => UnA V w' e lv m xs) := Lib.hid fun V hV => qUnpackA A n c xs m lv V (HR.out.1.kept hV (fun _ _ _ _ => id)) hb (by omega)
        have hZb := UnA.bytes (P := (lv < 0 ∨ 3 ≤ lv ∨ m < 0) ∨ 1048576 < m ∨ ¬ okB lv.toNat xs m.toNat) (lv := lv) (m := m) (xs := xs)
        unfold UnA at HP HQ
        generalize (if (lv < 0 ∨ 3 ≤ lv ∨ m < 0) ∨ 1048576 < m ∨ ¬ okB lv.toNat xs m.toNat then [] else outB lv.toNat xs m.toNat) = zs at *
        generalize (if lv < 0 ∨ 3 ≤ lv ∨ m < 0 then (1 : Int) else if 1048576 < m then 5 else if okB lv.toNat xs m.toNat then 0 else 4) = r at *
        refine HP.out.mono ?_
        rintro e w2 ⟨u, rfl, hu, _, hf2⟩
        obtain ⟨Au, cu, rfl, hru, _⟩ := hu.row
        have HQ2 := Lib.hid (HQ.out w2 (H1.out.2.trans hf2 (fun _ _ h => h)))
        have H2 := Lib.hid (And.intro (show Row w2 .u8 Au _ zs from hru) hf2)
        clear hu hf2 hru HP HQ
        go_wp2_with fail
        refine HQ2.out.mono ?_
        rintro e w3 ⟨v, rfl, hv, _, hf3⟩
        obtain ⟨Av, cv, rfl, hrv, _⟩ := hv.row
        have hk3 := H1.out.2.trans (H2.out.2.trans hf3 (fun _ _ h => h)) (fun _ _ h => h)
        have HA := Lib.hid (awake_any w3 (HR.out.2.kept hk3 id))
        have H3 := Lib.hid (And.intro hrv (And.intro hf3 hk3))
        clear hv hrv hf3 hk3 HQ2
        go_wp2_with fail
        refine HA.out.mono ?_
        rintro e w4 ⟨rfl, hf4⟩
        have HB := Lib.hid (hBytes_any Au Av _ _ cu cv zs zs w4 ((H2.out.1.kept H3.out.2.1 (fun _ _ _ _ => id)).kept hf4 (fun _ _ _ _ => id)) (H3.out.1.kept hf4 (fun _ _ _ _ => id)) hZb hZb)
        have hk4 := H3.out.2.2.trans hf4 (fun _ _ h => h)
        have hq4 : Copy w4 q 5 .u8 xs 71 := ⟨((H1.out.1.blk.kept H2.out.2 id).kept H3.out.2.1 id).kept hf4 id⟩
        have HK := Lib.hid (hKeptByte_any q n c A xs 71 w4 hq4 (HR.out.1.kept hk4 (fun _ _ _ _ => id)) (by omega))
        have H4 := Lib.hid hk4
        rw [decide_eq_true rfl] at HB
        clear hf4 hk4 hq4 HA H1 H2 H3
        go_wp2_with fail
        refine HB.out.mono ?_
        rintro e w5 ⟨rfl, rfl⟩
        go_wp2_with fail
        refine HK.out.mono ?_
        rintro e w5 ⟨rfl, k5, rfl⟩
        have H5 := Lib.hid (H4.out.drewN k5).toBelow
        clear H4 HK HB
        go_wp2_with fail
        go_ret
        exact ⟨rfl, H5.out⟩

set_option maxRecDepth 100000 in
theorem lifted (os : Os) (started : os.Started) (H : Type) (enc : TypeId × Value → H) :
    ReturnsInHanded {} Tryd.checked os 4 .any (fun w args => (Rows.streamUnpacksSpec.pre enc Tryd.prog Tryd.f4 [] false w args ∧ laidMetH Tryd.prog laidK w) ∧ sizedMet enc Tryd.prog Tryd.f4 (OpenSpec.ofChange Rows.streamUnpacksSpec) false w args)
      (Rows.streamUnpacksSpec.post enc Tryd.prog Tryd.f4 false true false false) := by
  refine returnsInHanded_of_change_and (C := Tryd.checked) (X := fun w _ => laidMetH Tryd.prog laidK w) (fun _ _ _ hh h => h.of_heap hh) Tryd.own started (by kernel_rfl) Tryd.func4
    (ChangeSpec.witness_shaped (enc := enc) (C := Tryd.checked) (os := os) (X := fun w _ => laidMetH Tryd.prog laidK w) false (World.doorLaid Tryd.prog 17 os) #[.slice none 0 0, .int .i64 0, .int .i64 0] 8 rfl (World.shaped_of_RefB (by kernel_rfl) (by kernel_rfl)) (by kernel_rfl) (by kernel_rfl) (by kernel_rfl) (door_met os _)) ?_
  intro W base args ds gs before hval0 hW _ _ hL _
  have hval : ∀ (j : Nat) t v, Tryd.f4.params[j]? = some t → args[j]? = some v → Value.okWide Tryd.prog W .any base t v := hval0
  have hpost : ∀ W', Below W.heap.size W W' → Rows.streamUnpacksSpec.post enc Tryd.prog Tryd.f4 false true false false W args (.bool true) W' := fun W' hb =>
    law_post (by kernel_rfl) Tryd.underlying4 (by kernel_rfl) rfl (fun ds hl => match ds, hl with | [d1, d2, d3], _ => ⟨rfl, rfl, rfl⟩) hW hb
  obtain ⟨p, q, hA0, hV, rfl, hfz, hnd⟩ := hW
  have hA : DataW.TrodAll enc Tryd.prog W 0 (fun _ => true) true Tryd.f4.params.toList args.toList ds p := hA0
  rw [Tryd.params4] at hA hval
  obtain ⟨v0, vs0, d0, ds0, p0, q0, hargs, rfl, rfl, h0, r0⟩ := trodAll_cons hA
  obtain ⟨v1, vs1, d1, ds1, p1, q1, rfl, rfl, rfl, h1, r1⟩ := trodAll_cons r0
  obtain ⟨v2, vs2, d2, ds2, p2, q2, rfl, rfl, rfl, h2, r2⟩ := trodAll_cons r1
  obtain ⟨rfl, rfl, rfl⟩ := trodAll_nil r2
  obtain rfl : args = #[v0, v1, v2] := by cases args; simp_all
  obtain ⟨A0, n0, c0, xs0, rfl, hz0, hr0, hb0, hn0⟩ := open_row Tryd.underlying22 Tryd.underlying5 (by kernel_rfl) (hval 0 22 v0 rfl rfl) h0
  obtain ⟨a1, rfl, rfl, rfl, w1⟩ := open_int Tryd.underlying3 (hval 1 3 v1 rfl rfl) h1
  obtain ⟨a2, rfl, rfl, rfl, w2⟩ := open_int Tryd.underlying3 (hval 2 3 v2 rfl rfl) h2
  refine (walk A0 n0 c0 xs0 a1 a2 W hz0 hr0 (range_bytes hb0) hn0 (kin_of_laid hL)).mono fun e W' ⟨he, hb⟩ => ⟨_, he, hpost W' hb⟩

/-- The row. -/
theorem row_proved : Rows.StreamUnpacksSaid :=
  OpenClaim.holds_of_wide 4 Tryd.f4 rfl rfl rfl rfl rfl rfl rfl ⟨rfl, rfl, rfl, rfl, rfl⟩ rfl rfl rfl rfl rfl (by kernel_rfl) Tryd.func4 (by kernel_rfl)
    (of_decide_eq_true (by kernel_rfl)) (by unfold Func.isWrapper; first | (rw [if_pos (by decide +kernel)]; kernel_rfl) | (rw [if_neg (by decide +kernel)]; exact ⟨rfl, rfl⟩))
    (fun os started H enc _ => lifted os started H enc)

/-- The statement: the tied card. -/
theorem proved : Rows.StreamUnpacksCardSaid :=
  Claim7.holds_tied_plain_at .later [] [.data] true (true, "8330b7bf38052f90f88a9fa0d9cd396e9b05c0988097ea5622d998c1e3d70067") false
    row_proved (fun _ h => by cases h) (by kernel_rfl) (fun _ h => by cases h) streamUnpacks_row_tie rfl ⟨rfl, rfl⟩ (by kernel_rfl) rfl
    (fun f fn hf hfn => by
      obtain rfl : f = 4 := Option.some.inj ((show Tryd.prog.funcNamed "valise/valiselaw09.StreamUnpacks" = some 4 by kernel_rfl).symm.trans hf) |>.symm
      obtain rfl : fn = Tryd.f4 := (Option.some.inj (Tryd.func4.symm.trans hfn)).symm
      exact ⟨by kernel_rfl, fun j t ht => by
        rw [Tryd.params4] at ht
        have hm : t ∈ [22, 3] := by
          have := Array.mem_of_getElem? ht
          simp at this ⊢; omega
        have hall : ([22, 3].all fun u => !Tryd.prog.wantsStandIn u) = true := by kernel_rfl
        exact (show Tryd.prog.wantsStandIn t = false by simpa using List.all_eq_true.1 hall t hm)⟩)
    (by kernel_rfl)
#print axioms proved

end Go.Proofs.YtpknbfkknnaajaaDoor.streamUnpacks
