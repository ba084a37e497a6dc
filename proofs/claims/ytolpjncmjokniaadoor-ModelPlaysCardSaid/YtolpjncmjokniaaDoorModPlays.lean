/- ModelPlays: whatever bits are learnt, at any level, each chance is what the document says, asked once, twice, or not at all. The tied card, for every level, all bits and all ways of asking. -/
import Derived.Test.YtolpjncmjokniaaDoorModAw
import Derived.Test.YtolpjncmjokniaaDoorModRN
import Derived.Test.YtolpjncmjokniaaDoorFlags
import Derived.Test.YtolpjncmjokniaaDoorTie
import Derived.Test.YtolpjncmjokniaaDoorCards
import Derived.SevenTiedAt
namespace Go.Proofs.YtolpjncmjokniaaDoor.modelPlays
open Go.ChangeShapes Go.WideShapes Go.ChangeAt Go.RowKit

attribute [local go_sem ↓] Go.wp_at_zero Go.wp_at_succ

/-- The code's model and the document's, each in a stretch of memory of its own. -/
structure Duo (w wr : World) (x1 ga gr lv : Nat) (ma mr : Mo) : Prop where
  a : Mdl (fun k => w.heap.size ≤ k ∧ k < x1) wr ga lv ma
  r : MdR x1 wr gr lv mr
  fr : Fresh w wr
  l1 : w.heap.size ≤ x1
  pos : 0 < w.heap.size
section
variable {w wr : World} {x1 ga gr lv : Nat} {ma mr : Mo}
theorem Duo.fresh {w' : World} (h : Duo w wr x1 ga gr lv ma mr) (hk : Fresh wr w') : Duo w w' x1 ga gr lv ma mr :=
  ⟨h.a.fresh hk, h.r.fresh hk, h.fr.trans hk (fun _ _ h => h), h.l1, h.pos⟩
theorem Duo.askA (h : Duo w wr x1 ga gr lv ma mr) : Calls Tryd.prog 10 #[.pointer (some ⟨ga, 0, none⟩)] wr fun e w' => e = .returned (.int .i64 (ma.chance lv)) ∧ Duo w w' x1 ga gr lv ma mr := by
  refine (mChance_any _ ga lv ma wr h.a).mono ?_
  rintro e w' ⟨rfl, hm, hk⟩
  exact ⟨rfl, hm, h.r.kept hk (fun k e => e.2), h.fr.trans hk (fun i hi e => by have := e.1; omega), h.l1, h.pos⟩
theorem Duo.askR (h : Duo w wr x1 ga gr lv ma mr) : Calls Tryd.prog 11 #[.pointer (some ⟨gr, 0, none⟩)] wr fun e w' => e = .returned (.int .i64 (mr.chance lv)) ∧ Duo w w' x1 ga gr lv ma mr := by
  refine (mrChance_any x1 gr lv mr wr h.r).mono ?_
  have := h.pos; have := h.l1
  rintro e w' ⟨rfl, hm, hk⟩
  exact ⟨rfl, h.a.kept hk (fun e => by omega) (fun k e e' => by have := e.2; omega), hm, h.fr.trans hk (fun i hi e => by omega), h.l1, h.pos⟩
theorem Duo.teachA (h : Duo w wr x1 ga gr lv ma mr) (b : Int) : Calls Tryd.prog 12 #[.pointer (some ⟨ga, 0, none⟩), .int .i64 b] wr fun e w' => e = .returned (.tuple #[]) ∧ Duo w w' x1 ga gr lv (ma.learn lv (b != 0)) mr := by
  refine (mdLearn_any _ ga lv ma b wr h.a).mono ?_
  rintro e w' ⟨rfl, hm, hk⟩
  exact ⟨rfl, hm, h.r.kept hk (fun k e => e.2), h.fr.trans hk (fun i hi e => by have := e.1; omega), h.l1, h.pos⟩
theorem Duo.teachR (h : Duo w wr x1 ga gr lv ma mr) (b : Int) : Calls Tryd.prog 13 #[.pointer (some ⟨gr, 0, none⟩), .int .i64 b] wr fun e w' => e = .returned (.tuple #[]) ∧ Duo w w' x1 ga gr lv ma (mr.learn lv (b != 0)) := by
  refine (mrLearn_any x1 gr lv mr b wr h.r).mono ?_
  have := h.pos; have := h.l1
  rintro e w' ⟨rfl, hm, hk⟩
  exact ⟨rfl, h.a.kept hk (fun e => by omega) (fun k e e' => by have := e.2; omega), hm, h.fr.trans hk (fun i hi e => by omega), h.l1, h.pos⟩
end

theorem rem3 (y : Int) : ∃ N : Nat, N ≤ 2 ∧ (IntKind.u64.wrap y).tmod 3 = (N : Int) := by
  rw [IntKind.wrap_u64, Int.tmod_eq_emod_of_nonneg (by omega)]
  exact ⟨(y % 18446744073709551616 % 3).toNat, by omega, by omega⟩

set_option maxHeartbeats 3200000 in
set_option maxRecDepth 100000 in
theorem walk (n : Int) (A1 : Option Addr) (n1 c1 : Nat) (f1 : Nat → Bool) (A2 : Option Addr) (n2 c2 : Nat) (ys : List Int) (w : World) (hr1 : Flg w A1 n1 f1) (hn1 : n1 ≤ maxLen) (hr2 : Row w .i64 A2 n2 ys) (hn2 : n2 ≤ maxLen) (hk : Kin w) :
    Calls Tryd.prog 3 #[.int .i64 n, .slice A1 n1 c1, .slice A2 n2 c2] w fun e w' => e = .returned (.bool true) ∧ Below w.heap.size w w' := by
  have hn1 : n1 ≤ 9223372036854775807 := hn1
  have hn2 : n2 ≤ 9223372036854775807 := hn2
  have HR := Lib.hid (And.intro hr1 hr2)
  have HN := Lib.hid (mdNew_any n w hk)
  have HN2 := Lib.hid (fun V => mrNew_any n V)
  have hp0 := hk.pos
  generalize lvl n = lv at *
  clear hk hr1 hr2
  go_enter Tryd.func3, Tryd.ntmps3
  go_wp2_with fail
  refine HN.out.mono ?_
  rintro e w1 ⟨ga, rfl, ha, hf1⟩
  have H1 := Lib.hid (And.intro ha hf1)
  clear ha hf1 HN
  go_wp2_with fail
  refine (HN2.out w1).mono ?_
  rintro e w2 ⟨gr, rfl, hr, hf2⟩
  have H2 : Hid (Duo w w2 w1.heap.size ga gr lv mo0 mo0) := Lib.hid ⟨H1.out.1.fresh hf2, hr, H1.out.2.trans hf2 (fun _ _ h => h), H1.out.2.size, hp0⟩
  clear hr hf2 H1 HN2
  generalize w1.heap.size = x1 at *
  have HA := Lib.hid (awake_any w2 H2.out.a.kin)
  go_wp2_with fail
  refine HA.out.mono ?_
  rintro e w4 ⟨rfl, hf4⟩
  have H4 := Lib.hid (H2.out.fresh hf4)
  clear hf4 H2 HA
  go_wp2_with fail
  go_loopw [9] (fun i wr => ∃ (k : Nat) (m : Mo), k ≤ n1 ∧ k ≤ 600 ∧ i = .int .i64 k ∧ Duo w wr x1 ga gr lv m m) (fun i _ => (600 - intOf i).toNat)
  case atStart => exact ⟨0, mo0, by omega, by omega, rfl, H4.out⟩
  case round =>
    obtain ⟨k, m, hk1, hk4, rfl, ht⟩ := hrel
    clear H4
    have HT := Lib.hid ht
    clear ht
    by_cases hlt : k < n1
    · have e1 : (k : Int) < (n1 : Int) := by omega
      by_cases hlt4 : k < 600
      · have e4 : (k : Int) < 600 := by omega
        have e0 : (0 : Int) ≤ (k : Int) := by omega
        by_cases hl2 : k < n2
        · have e2 : (k : Int) < (n2 : Int) := by omega
          obtain ⟨b2, o2, rfl, hb2, hc2⟩ := HR.out.2.at_ k hl2
          have hc2 : wr.cell? ⟨b2, o2 + k, none⟩ = some (.int .i64 (ys.getD k 0)) := (HT.out.fr.cell (p := ⟨b2, o2 + k, none⟩) hb2 id).trans hc2
          generalize ys.getD k 0 = y at *
          obtain ⟨N, hN2, hN⟩ := rem3 y
          have N0 : (0 : Int) ≤ (N : Int) := by omega
          have N2 : (N : Int) ≤ 2 := by omega
          go_wp2_with fail
          clear hN hc2
          obtain ⟨w0, rfl⟩ : ∃ w0, w0 = wr := ⟨_, rfl⟩
          go_loopw [11] (fun i wr => ∃ j : Nat, j ≤ N ∧ i = .int .i64 j ∧ Duo w wr x1 ga gr lv m m) (fun i _ => (N - intOf i).toNat)
          case atStart => exact ⟨0, by omega, rfl, HT.out⟩
          case round =>
            obtain ⟨j, hj, rfl, ht⟩ := hrel
            clear HT
            have HT := Lib.hid ht
            clear ht
            by_cases hlj : j < N
            · have j0 : (j : Int) < (N : Int) := by omega
              have HQ := Lib.hid HT.out.askA
              have HB : Hid (∀ V, Duo w V x1 ga gr lv m m → Calls Tryd.prog 11 #[.pointer (some ⟨gr, 0, none⟩)] V fun e w' => e = .returned (.int .i64 (m.chance lv)) ∧ Duo w w' x1 ga gr lv m m) := Lib.hid fun V h => h.askR
              generalize m.chance lv = p at *
              go_wp2_with fail
              refine HQ.out.mono ?_
              rintro e w5 ⟨rfl, h5⟩
              have H5 := Lib.hid h5
              clear h5 HQ HT
              go_wp2_with fail
              refine (HB.out _ H5.out).mono ?_
              rintro e w6 ⟨rfl, h6⟩
              have H6 := Lib.hid h6
              clear h6 HB H5
              go_wp2_with fail
              go_roundw
              case rel => exact ⟨j + 1, by omega, by go_num, H6.out⟩
              case measure => simp [intOf] <;> omega
            · have ej : j = N := by omega
              subst ej
              have j0 : ¬ ((j : Int) : Int) < (j : Int) := by omega
              obtain ⟨b1, o1, rfl, hc1⟩ := HR.out.1.cell HT.out.fr hlt
              obtain ⟨x, hx⟩ : ∃ x, f1 k = x := ⟨_, rfl⟩
              rw [hx] at hc1
              clear hx
              cases x
              · have HL := Lib.hid (HT.out.teachA 0)
                go_wp2_with fail
                refine HL.out.mono ?_
                rintro e w7 ⟨rfl, h7⟩
                have HL2 := Lib.hid (h7.teachR 0)
                clear h7 HL HT hc1
                go_wp2_with fail
                refine HL2.out.mono ?_
                rintro e w8 ⟨rfl, h8⟩
                have H8 := Lib.hid h8
                clear h8 HL2
                go_wp2_with fail
                go_roundw
                case rel => exact ⟨k + 1, _, by omega, by omega, by go_num, H8.out⟩
                case measure => simp [intOf]; omega
              · have HL := Lib.hid (HT.out.teachA 1)
                go_wp2_with fail
                refine HL.out.mono ?_
                rintro e w7 ⟨rfl, h7⟩
                have HL2 := Lib.hid (h7.teachR 1)
                clear h7 HL HT hc1
                go_wp2_with fail
                refine HL2.out.mono ?_
                rintro e w8 ⟨rfl, h8⟩
                have H8 := Lib.hid h8
                clear h8 HL2
                go_wp2_with fail
                go_roundw
                case rel => exact ⟨k + 1, _, by omega, by omega, by go_num, H8.out⟩
                case measure => simp [intOf]; omega
        · have e2 : ¬ (k : Int) < (n2 : Int) := by omega
          go_wp2_with fail
          obtain ⟨w0, rfl⟩ : ∃ w0, w0 = wr := ⟨_, rfl⟩
          go_loopw [11] (fun i wr => ∃ j : Nat, j ≤ 1 ∧ i = .int .i64 j ∧ Duo w wr x1 ga gr lv m m) (fun i _ => (1 - intOf i).toNat)
          case atStart => exact ⟨0, by omega, rfl, HT.out⟩
          case round =>
            obtain ⟨j, hj, rfl, ht⟩ := hrel
            clear HT
            have HT := Lib.hid ht
            clear ht
            by_cases hlj : j < 1
            · have j0 : (j : Int) < 1 := by omega
              have HQ := Lib.hid HT.out.askA
              have HB : Hid (∀ V, Duo w V x1 ga gr lv m m → Calls Tryd.prog 11 #[.pointer (some ⟨gr, 0, none⟩)] V fun e w' => e = .returned (.int .i64 (m.chance lv)) ∧ Duo w w' x1 ga gr lv m m) := Lib.hid fun V h => h.askR
              generalize m.chance lv = p at *
              go_wp2_with fail
              refine HQ.out.mono ?_
              rintro e w5 ⟨rfl, h5⟩
              have H5 := Lib.hid h5
              clear h5 HQ HT
              go_wp2_with fail
              refine (HB.out _ H5.out).mono ?_
              rintro e w6 ⟨rfl, h6⟩
              have H6 := Lib.hid h6
              clear h6 HB H5
              go_wp2_with fail
              go_roundw
              case rel => exact ⟨j + 1, by omega, by go_num, H6.out⟩
              case measure => simp [intOf] <;> omega
            · have ej : j = 1 := by omega
              subst ej
              have j0 : ¬ (((1 : Nat) : Int) : Int) < 1 := by omega
              obtain ⟨b1, o1, rfl, hc1⟩ := HR.out.1.cell HT.out.fr hlt
              obtain ⟨x, hx⟩ : ∃ x, f1 k = x := ⟨_, rfl⟩
              rw [hx] at hc1
              clear hx
              cases x
              · have HL := Lib.hid (HT.out.teachA 0)
                go_wp2_with fail
                refine HL.out.mono ?_
                rintro e w7 ⟨rfl, h7⟩
                have HL2 := Lib.hid (h7.teachR 0)
                clear h7 HL HT hc1
                go_wp2_with fail
                refine HL2.out.mono ?_
                rintro e w8 ⟨rfl, h8⟩
                have H8 := Lib.hid h8
                clear h8 HL2
                go_wp2_with fail
                go_roundw
                case rel => exact ⟨k + 1, _, by omega, by omega, by go_num, H8.out⟩
                case measure => simp [intOf]; omega
              · have HL := Lib.hid (HT.out.teachA 1)
                go_wp2_with fail
                refine HL.out.mono ?_
                rintro e w7 ⟨rfl, h7⟩
                have HL2 := Lib.hid (h7.teachR 1)
                clear h7 HL HT hc1
                go_wp2_with fail
                refine HL2.out.mono ?_
                rintro e w8 ⟨rfl, h8⟩
                have H8 := Lib.hid h8
                clear h8 HL2
                go_wp2_with fail
                go_roundw
                case rel => exact ⟨k + 1, _, by omega, by omega, by go_num, H8.out⟩
                case measure => simp [intOf]; omega
      · have e4 : ¬ (k : Int) < 600 := by omega
        have HQ := Lib.hid HT.out.askA
        have HB : Hid (∀ V, Duo w V x1 ga gr lv m m → Calls Tryd.prog 11 #[.pointer (some ⟨gr, 0, none⟩)] V fun e w' => e = .returned (.int .i64 (m.chance lv)) ∧ Duo w w' x1 ga gr lv m m) := Lib.hid fun V h => h.askR
        clear HT
        generalize m.chance lv = p at *
        go_wp2_with fail
        refine HQ.out.mono ?_
        rintro e w5 ⟨rfl, h5⟩
        have H5 := Lib.hid h5
        clear h5 HQ
        go_wp2_with fail
        refine (HB.out _ H5.out).mono ?_
        rintro e w6 ⟨rfl, h6⟩
        have H6 := Lib.hid h6.fr.toBelow
        clear h6 H5 HB
        go_wp2_with fail
        go_ret
        exact ⟨rfl, H6.out⟩
    · have e1 : ¬ (k : Int) < (n1 : Int) := by omega
      have HQ := Lib.hid HT.out.askA
      have HB : Hid (∀ V, Duo w V x1 ga gr lv m m → Calls Tryd.prog 11 #[.pointer (some ⟨gr, 0, none⟩)] V fun e w' => e = .returned (.int .i64 (m.chance lv)) ∧ Duo w w' x1 ga gr lv m m) := Lib.hid fun V h => h.askR
      clear HT
      generalize m.chance lv = p at *
      go_wp2_with fail
      refine HQ.out.mono ?_
      rintro e w5 ⟨rfl, h5⟩
      have H5 := Lib.hid h5
      clear h5 HQ
      go_wp2_with fail
      refine (HB.out _ H5.out).mono ?_
      rintro e w6 ⟨rfl, h6⟩
      have H6 := Lib.hid h6.fr.toBelow
      clear h6 H5 HB
      go_wp2_with fail
      go_ret
      exact ⟨rfl, H6.out⟩

set_option maxRecDepth 100000 in
theorem lifted (os : Os) (started : os.Started) (H : Type) (enc : TypeId × Value → H) :
    ReturnsInHanded {} Tryd.checked os 3 .any (fun w args => (Rows.modelPlaysSpec.pre enc Tryd.prog Tryd.f3 [] false w args ∧ laidMetH Tryd.prog laidK w) ∧ sizedMet enc Tryd.prog Tryd.f3 (OpenSpec.ofChange Rows.modelPlaysSpec) false w args)
      (Rows.modelPlaysSpec.post enc Tryd.prog Tryd.f3 false true false false) := by
  refine returnsInHanded_of_change_and (C := Tryd.checked) (X := fun w _ => laidMetH Tryd.prog laidK w) (fun _ _ _ hh h => h.of_heap hh) Tryd.own started (by kernel_rfl) Tryd.func3
    (ChangeSpec.witness_shaped (enc := enc) (C := Tryd.checked) (os := os) (X := fun w _ => laidMetH Tryd.prog laidK w) false (World.doorLaid Tryd.prog 17 os) #[.int .i64 0, .slice none 0 0, .slice none 0 0] 8 rfl (World.shaped_of_RefB (by kernel_rfl) (by kernel_rfl)) (by kernel_rfl) (by kernel_rfl) (by kernel_rfl) (door_met os _)) ?_
  intro W base args ds gs before hval0 hW _ _ hL _
  have hval : ∀ (j : Nat) t v, Tryd.f3.params[j]? = some t → args[j]? = some v → Value.okWide Tryd.prog W .any base t v := hval0
  have hpost : ∀ W', Below W.heap.size W W' → Rows.modelPlaysSpec.post enc Tryd.prog Tryd.f3 false true false false W args (.bool true) W' := fun W' hb =>
    law_post (by kernel_rfl) Tryd.underlying4 (by kernel_rfl) rfl (fun ds hl => match ds, hl with | [d1, d2, d3], _ => ⟨rfl, rfl, rfl⟩) hW hb
  obtain ⟨p, q, hA0, hV, rfl, hfz, hnd⟩ := hW
  have hA : DataW.TrodAll enc Tryd.prog W 0 (fun _ => true) true Tryd.f3.params.toList args.toList ds p := hA0
  rw [Tryd.params3] at hA hval
  obtain ⟨v0, vs0, d0, ds0, p0, q0, hargs, rfl, rfl, h0, r0⟩ := trodAll_cons hA
  obtain ⟨v1, vs1, d1, ds1, p1, q1, rfl, rfl, rfl, h1, r1⟩ := trodAll_cons r0
  obtain ⟨v2, vs2, d2, ds2, p2, q2, rfl, rfl, rfl, h2, r2⟩ := trodAll_cons r1
  obtain ⟨rfl, rfl, rfl⟩ := trodAll_nil r2
  obtain rfl : args = #[v0, v1, v2] := by cases args; simp_all
  obtain ⟨a0, rfl, rfl, rfl, w0⟩ := open_int Tryd.underlying3 (hval 0 3 v0 rfl rfl) h0
  obtain ⟨A1, n1, c1, xs1, rfl, _, hr1, hn1⟩ := open_flags Tryd.underlying22 Tryd.underlying4 (by kernel_rfl) (hval 1 22 v1 rfl rfl) h1
  obtain ⟨A2, n2, c2, xs2, rfl, _, hr2, _, hn2⟩ := open_row Tryd.underlying23 Tryd.underlying3 (by kernel_rfl) (hval 2 23 v2 rfl rfl) h2
  refine (walk a0 A1 n1 c1 xs1 A2 n2 c2 xs2 W hr1 hn1 hr2 hn2 (kin_of_laid hL)).mono fun e W' ⟨he, hb⟩ => ⟨_, he, hpost W' hb⟩

/-- The row. -/
theorem row_proved : Rows.ModelPlaysSaid :=
  OpenClaim.holds_of_wide 3 Tryd.f3 rfl rfl rfl rfl rfl rfl rfl ⟨rfl, rfl, rfl, rfl, rfl⟩ rfl rfl rfl rfl rfl (by kernel_rfl) Tryd.func3 (by kernel_rfl)
    (of_decide_eq_true (by kernel_rfl)) (by unfold Func.isWrapper; first | (rw [if_pos (by decide +kernel)]; kernel_rfl) | (rw [if_neg (by decide +kernel)]; exact ⟨rfl, rfl⟩))
    (fun os started H enc _ => lifted os started H enc)

/-- The statement: the tied card. -/
theorem proved : Rows.ModelPlaysCardSaid :=
  Claim7.holds_tied_plain_at .later [] [.data] true (true, "bb50c3ee959bc681252a19cd03d2b0412e9a9b921a0c082f4d30dafe5854a3ce") false
    row_proved (fun _ h => by cases h) (by kernel_rfl) (fun _ h => by cases h) modelPlays_row_tie rfl ⟨rfl, rfl⟩ (by kernel_rfl) rfl
    (fun f fn hf hfn => by
      obtain rfl : f = 3 := Option.some.inj ((show Tryd.prog.funcNamed "valise/valiselaw08.ModelPlays" = some 3 by kernel_rfl).symm.trans hf) |>.symm
      obtain rfl : fn = Tryd.f3 := (Option.some.inj (Tryd.func3.symm.trans hfn)).symm
      exact ⟨by kernel_rfl, fun j t ht => by
        rw [Tryd.params3] at ht
        have hm : t ∈ [3, 22, 23] := by
          have := Array.mem_of_getElem? ht
          simp at this ⊢; omega
        have hall : ([3, 22, 23].all fun u => !Tryd.prog.wantsStandIn u) = true := by kernel_rfl
        exact (show Tryd.prog.wantsStandIn t = false by simpa using List.all_eq_true.1 hall t hm)⟩)
    (by kernel_rfl)
#print axioms proved

end Go.Proofs.YtolpjncmjokniaaDoor.modelPlays
