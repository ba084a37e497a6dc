/- ModelSame: two models of one level that learn the same bits tell the same chances, always from 1 to 4,095; what a third one learns plays no part. The tied card, for every level and all bits. -/
import Derived.Test.YtolpjncmjokniaaDoorModAw
import Derived.Test.YtolpjncmjokniaaDoorFlags
import Derived.Test.YtolpjncmjokniaaDoorTie
import Derived.Test.YtolpjncmjokniaaDoorCards
import Derived.SevenTiedAt
namespace Go.Proofs.YtolpjncmjokniaaDoor.modelSame
open Go.ChangeShapes Go.WideShapes Go.ChangeAt Go.RowKit

attribute [local go_sem ↓] Go.wp_at_zero Go.wp_at_succ

/-- Three models, each in a stretch of memory of its own. -/
structure Tri (w wr : World) (x1 x2 x3 ga gb gc lv : Nat) (ma mb mc : Mo) : Prop where
  a : Mdl (fun k => w.heap.size ≤ k ∧ k < x1) wr ga lv ma
  b : Mdl (fun k => x1 ≤ k ∧ k < x2) wr gb lv mb
  c : Mdl (fun k => x2 ≤ k ∧ k < x3) wr gc lv mc
  fr : Fresh w wr
  l1 : w.heap.size ≤ x1
  l2 : x1 ≤ x2
  pos : 0 < w.heap.size
section
variable {w wr : World} {x1 x2 x3 ga gb gc lv : Nat} {ma mb mc : Mo}
theorem Tri.fresh {w' : World} (h : Tri w wr x1 x2 x3 ga gb gc lv ma mb mc) (hk : Fresh wr w') : Tri w w' x1 x2 x3 ga gb gc lv ma mb mc :=
  ⟨h.a.fresh hk, h.b.fresh hk, h.c.fresh hk, h.fr.trans hk (fun _ _ h => h), h.l1, h.l2, h.pos⟩
theorem Tri.askA (h : Tri w wr x1 x2 x3 ga gb gc lv ma mb mc) : Calls Tryd.prog 10 #[.pointer (some ⟨ga, 0, none⟩)] wr fun e w' => e = .returned (.int .i64 (ma.chance lv)) ∧ Tri w w' x1 x2 x3 ga gb gc lv ma mb mc := by
  refine (mChance_any _ ga lv ma wr h.a).mono ?_
  have := h.pos; have := h.l1; have := h.l2
  rintro e w' ⟨rfl, hm, hk⟩
  exact ⟨rfl, hm, h.b.kept hk (fun e => by have := e.1; omega) (fun k e e' => by have := e.1; have := e'.2; omega), h.c.kept hk (fun e => by have := e.1; omega) (fun k e e' => by have := e.1; have := e'.2; omega), h.fr.trans hk (fun i hi e => by have := e.1; omega), h.l1, h.l2, h.pos⟩
theorem Tri.askB (h : Tri w wr x1 x2 x3 ga gb gc lv ma mb mc) : Calls Tryd.prog 10 #[.pointer (some ⟨gb, 0, none⟩)] wr fun e w' => e = .returned (.int .i64 (mb.chance lv)) ∧ Tri w w' x1 x2 x3 ga gb gc lv ma mb mc := by
  refine (mChance_any _ gb lv mb wr h.b).mono ?_
  have := h.pos; have := h.l1; have := h.l2
  rintro e w' ⟨rfl, hm, hk⟩
  exact ⟨rfl, h.a.kept hk (fun e => by have := e.1; omega) (fun k e e' => by have := e.2; have := e'.1; omega), hm, h.c.kept hk (fun e => by have := e.1; omega) (fun k e e' => by have := e.1; have := e'.2; omega), h.fr.trans hk (fun i hi e => by have := e.1; omega), h.l1, h.l2, h.pos⟩
theorem Tri.teachA (h : Tri w wr x1 x2 x3 ga gb gc lv ma mb mc) (b : Int) : Calls Tryd.prog 12 #[.pointer (some ⟨ga, 0, none⟩), .int .i64 b] wr fun e w' => e = .returned (.tuple #[]) ∧ Tri w w' x1 x2 x3 ga gb gc lv (ma.learn lv (b != 0)) mb mc := by
  refine (mdLearn_any _ ga lv ma b wr h.a).mono ?_
  have := h.pos; have := h.l1; have := h.l2
  rintro e w' ⟨rfl, hm, hk⟩
  exact ⟨rfl, hm, h.b.kept hk (fun e => by have := e.1; omega) (fun k e e' => by have := e.1; have := e'.2; omega), h.c.kept hk (fun e => by have := e.1; omega) (fun k e e' => by have := e.1; have := e'.2; omega), h.fr.trans hk (fun i hi e => by have := e.1; omega), h.l1, h.l2, h.pos⟩
theorem Tri.teachB (h : Tri w wr x1 x2 x3 ga gb gc lv ma mb mc) (b : Int) : Calls Tryd.prog 12 #[.pointer (some ⟨gb, 0, none⟩), .int .i64 b] wr fun e w' => e = .returned (.tuple #[]) ∧ Tri w w' x1 x2 x3 ga gb gc lv ma (mb.learn lv (b != 0)) mc := by
  refine (mdLearn_any _ gb lv mb b wr h.b).mono ?_
  have := h.pos; have := h.l1; have := h.l2
  rintro e w' ⟨rfl, hm, hk⟩
  exact ⟨rfl, h.a.kept hk (fun e => by have := e.1; omega) (fun k e e' => by have := e.2; have := e'.1; omega), hm, h.c.kept hk (fun e => by have := e.1; omega) (fun k e e' => by have := e.1; have := e'.2; omega), h.fr.trans hk (fun i hi e => by have := e.1; omega), h.l1, h.l2, h.pos⟩
theorem Tri.teachC (h : Tri w wr x1 x2 x3 ga gb gc lv ma mb mc) (b : Int) : Calls Tryd.prog 12 #[.pointer (some ⟨gc, 0, none⟩), .int .i64 b] wr fun e w' => e = .returned (.tuple #[]) ∧ Tri w w' x1 x2 x3 ga gb gc lv ma mb (mc.learn lv (b != 0)) := by
  refine (mdLearn_any _ gc lv mc b wr h.c).mono ?_
  have := h.pos; have := h.l1; have := h.l2
  rintro e w' ⟨rfl, hm, hk⟩
  exact ⟨rfl, h.a.kept hk (fun e => by have := e.1; omega) (fun k e e' => by have := e.2; have := e'.1; omega), h.b.kept hk (fun e => by have := e.1; omega) (fun k e e' => by have := e.2; have := e'.1; omega), hm, h.fr.trans hk (fun i hi e => by have := e.1; omega), h.l1, h.l2, h.pos⟩
end

set_option maxHeartbeats 1600000 in
set_option maxRecDepth 100000 in
theorem walk (n : Int) (A1 : Option Addr) (n1 c1 : Nat) (f1 : Nat → Bool) (A2 : Option Addr) (n2 c2 : Nat) (f2 : Nat → Bool) (w : World) (hr1 : Flg w A1 n1 f1) (hn1 : n1 ≤ maxLen) (hr2 : Flg w A2 n2 f2) (hn2 : n2 ≤ maxLen) (hk : Kin w) :
    Calls Tryd.prog 6 #[.int .i64 n, .slice A1 n1 c1, .slice A2 n2 c2] w fun e w' => e = .returned (.bool true) ∧ Below w.heap.size w w' := by
  have hn1 : n1 ≤ 9223372036854775807 := hn1
  have hn2 : n2 ≤ 9223372036854775807 := hn2
  have HR := Lib.hid (And.intro hr1 hr2)
  have HN := Lib.hid (fun V hV => mdNew_any n V hV)
  have hp0 := hk.pos
  have HK := Lib.hid hk
  generalize lvl n = lv at *
  clear hk hr1 hr2
  go_enter Tryd.func6, Tryd.ntmps6
  go_wp2_with fail
  refine (HN.out w HK.out).mono ?_
  rintro e w1 ⟨ga, rfl, ha, hf1⟩
  have H1 := Lib.hid (And.intro ha hf1)
  clear ha hf1
  go_wp2_with fail
  refine (HN.out w1 H1.out.1.kin).mono ?_
  rintro e w2 ⟨gb, rfl, hb, hf2⟩
  have H2 := Lib.hid (And.intro (H1.out.1.fresh hf2) (And.intro hb (And.intro (H1.out.2.trans hf2 (fun _ _ h => h)) (And.intro H1.out.2.size hf2.size))))
  clear hb hf2 H1
  go_wp2_with fail
  refine (HN.out w2 H2.out.1.kin).mono ?_
  rintro e w3 ⟨gc, rfl, hc, hf3⟩
  have H3 : Hid (Tri w w3 w1.heap.size w2.heap.size w3.heap.size ga gb gc lv mo0 mo0 mo0) := Lib.hid ⟨H2.out.1.fresh hf3, H2.out.2.1.fresh hf3, hc, H2.out.2.2.1.trans hf3 (fun _ _ h => h), H2.out.2.2.2.1, H2.out.2.2.2.2, hp0⟩
  clear hc hf3 H2 HN HK
  generalize w1.heap.size = x1 at *
  generalize w2.heap.size = x2 at *
  generalize w3.heap.size = x3 at *
  have HA := Lib.hid (awake_any w3 H3.out.a.kin)
  go_wp2_with fail
  refine HA.out.mono ?_
  rintro e w4 ⟨rfl, hf4⟩
  have H4 := Lib.hid (H3.out.fresh hf4)
  clear hf4 H3 HA
  go_wp2_with fail
  go_loopw [10] (fun i wr => ∃ (k : Nat) (m mc : Mo), k ≤ n1 ∧ k ≤ 400 ∧ i = .int .i64 k ∧ Tri w wr x1 x2 x3 ga gb gc lv m m mc) (fun i _ => (400 - intOf i).toNat)
  case atStart => exact ⟨0, mo0, mo0, by omega, by omega, rfl, H4.out⟩
  case round =>
    obtain ⟨k, m, mc, hk1, hk4, rfl, ht⟩ := hrel
    clear H4
    have HT := Lib.hid ht
    clear ht
    by_cases hlt : k < n1
    · have e1 : (k : Int) < (n1 : Int) := by omega
      by_cases hlt4 : k < 400
      · have e4 : (k : Int) < 400 := by omega
        have e0 : (0 : Int) ≤ (k : Int) := by omega
        obtain ⟨b1, o1, rfl, hc1⟩ := HR.out.1.cell HT.out.fr hlt
        obtain ⟨p1, p2⟩ := HT.out.a.fine.chance_bd lv
        have HQ := Lib.hid HT.out.askA
        have HB : Hid (∀ V, Tri w V x1 x2 x3 ga gb gc lv m m mc → Calls Tryd.prog 10 #[.pointer (some ⟨gb, 0, none⟩)] V fun e w' => e = .returned (.int .i64 (m.chance lv)) ∧ Tri w w' x1 x2 x3 ga gb gc lv m m mc) := Lib.hid fun V h => h.askB
        generalize m.chance lv = p at *
        obtain ⟨x, hx⟩ : ∃ x, f1 k = x := ⟨_, rfl⟩
        rw [hx] at hc1
        clear hx
        cases x
        · go_wp2_with fail
          refine HQ.out.mono ?_
          rintro e w5 ⟨rfl, h5⟩
          have H5 := Lib.hid h5
          clear h5 HQ HT hc1
          go_wp2_with fail
          refine (HB.out _ H5.out).mono ?_
          rintro e w6 ⟨rfl, h6⟩
          have H6 := Lib.hid (h6.teachA 0)
          clear h6 H5 HB
          go_wp2_with fail
          refine H6.out.mono ?_
          rintro e w7 ⟨rfl, h7⟩
          have H7 := Lib.hid (h7.teachB 0)
          clear h7 H6
          go_wp2_with fail
          refine H7.out.mono ?_
          rintro e w8 ⟨rfl, h8⟩
          have H8 := Lib.hid h8
          have HL3 := Lib.hid (h8.teachC 0)
          clear h8 H7
          by_cases hl2 : k < n2
          · have e2 : (k : Int) < (n2 : Int) := by omega
            obtain ⟨b2, o2, rfl, _⟩ := HR.out.2.at_ k hl2
            go_wp2_with fail
            refine HL3.out.mono ?_
            rintro e w9 ⟨rfl, h9⟩
            have hc2 := HR.out.2.cellAt h9.fr hl2
            have H9 := Lib.hid h9
            have HL4 := Lib.hid (h9.teachC 1)
            clear h9 HL3 H8
            obtain ⟨y, hy⟩ : ∃ y, f2 k = y := ⟨_, rfl⟩
            rw [hy] at hc2
            clear hy
            cases y
            · go_wp2_with fail
              go_roundw
              case rel => exact ⟨k + 1, _, _, by omega, by omega, by go_num, H9.out⟩
              case measure => simp [intOf]; omega
            · go_wp2_with fail
              refine HL4.out.mono ?_
              rintro e w10 ⟨rfl, h10⟩
              have H10 := Lib.hid h10
              clear h10 HL4 H9 hc2
              go_wp2_with fail
              go_roundw
              case rel => exact ⟨k + 1, _, _, by omega, by omega, by go_num, H10.out⟩
              case measure => simp [intOf]; omega
          · have e2 : ¬ (k : Int) < (n2 : Int) := by omega
            clear HL3
            go_wp2_with fail
            go_roundw
            case rel => exact ⟨k + 1, _, _, by omega, by omega, by go_num, H8.out⟩
            case measure => simp [intOf]; omega
        · go_wp2_with fail
          refine HQ.out.mono ?_
          rintro e w5 ⟨rfl, h5⟩
          have H5 := Lib.hid h5
          clear h5 HQ HT hc1
          go_wp2_with fail
          refine (HB.out _ H5.out).mono ?_
          rintro e w6 ⟨rfl, h6⟩
          have H6 := Lib.hid (h6.teachA 1)
          clear h6 H5 HB
          go_wp2_with fail
          refine H6.out.mono ?_
          rintro e w7 ⟨rfl, h7⟩
          have H7 := Lib.hid (h7.teachB 1)
          clear h7 H6
          go_wp2_with fail
          refine H7.out.mono ?_
          rintro e w8 ⟨rfl, h8⟩
          have H8 := Lib.hid h8
          have HL3 := Lib.hid (h8.teachC 1)
          clear h8 H7
          by_cases hl2 : k < n2
          · have e2 : (k : Int) < (n2 : Int) := by omega
            obtain ⟨b2, o2, rfl, _⟩ := HR.out.2.at_ k hl2
            go_wp2_with fail
            refine HL3.out.mono ?_
            rintro e w9 ⟨rfl, h9⟩
            have hc2 := HR.out.2.cellAt h9.fr hl2
            have H9 := Lib.hid h9
            have HL4 := Lib.hid (h9.teachC 1)
            clear h9 HL3 H8
            obtain ⟨y, hy⟩ : ∃ y, f2 k = y := ⟨_, rfl⟩
            rw [hy] at hc2
            clear hy
            cases y
            · go_wp2_with fail
              go_roundw
              case rel => exact ⟨k + 1, _, _, by omega, by omega, by go_num, H9.out⟩
              case measure => simp [intOf]; omega
            · go_wp2_with fail
              refine HL4.out.mono ?_
              rintro e w10 ⟨rfl, h10⟩
              have H10 := Lib.hid h10
              clear h10 HL4 H9 hc2
              go_wp2_with fail
              go_roundw
              case rel => exact ⟨k + 1, _, _, by omega, by omega, by go_num, H10.out⟩
              case measure => simp [intOf]; omega
          · have e2 : ¬ (k : Int) < (n2 : Int) := by omega
            clear HL3
            go_wp2_with fail
            go_roundw
            case rel => exact ⟨k + 1, _, _, by omega, by omega, by go_num, H8.out⟩
            case measure => simp [intOf]; omega
      · have e4 : ¬ (k : Int) < 400 := by omega
        have HQ := Lib.hid HT.out.askA
        have HB : Hid (∀ V, Tri w V x1 x2 x3 ga gb gc lv m m mc → Calls Tryd.prog 10 #[.pointer (some ⟨gb, 0, none⟩)] V fun e w' => e = .returned (.int .i64 (m.chance lv)) ∧ Tri w w' x1 x2 x3 ga gb gc lv m m mc) := Lib.hid fun V h => h.askB
        clear HT
        generalize m.chance lv = p at *
        go_wp2_with fail
        refine HQ.out.mono ?_
        rintro e w5 ⟨rfl, h5⟩
        have H5 := Lib.hid h5
        clear h5 HQ
        go_wp2_with fail
        refine (HB.out _ H5.out).mono ?_
        rintro e w6 ⟨rfl, h6⟩
        have H6 := Lib.hid h6.fr.toBelow
        clear h6 H5 HB
        go_wp2_with fail
        go_ret
        exact ⟨rfl, H6.out⟩
    · have e1 : ¬ (k : Int) < (n1 : Int) := by omega
      have HQ := Lib.hid HT.out.askA
      have HB : Hid (∀ V, Tri w V x1 x2 x3 ga gb gc lv m m mc → Calls Tryd.prog 10 #[.pointer (some ⟨gb, 0, none⟩)] V fun e w' => e = .returned (.int .i64 (m.chance lv)) ∧ Tri w w' x1 x2 x3 ga gb gc lv m m mc) := Lib.hid fun V h => h.askB
      clear HT
      generalize m.chance lv = p at *
      go_wp2_with fail
      refine HQ.out.mono ?_
      rintro e w5 ⟨rfl, h5⟩
      have H5 := Lib.hid h5
      clear h5 HQ
      go_wp2_with fail
      refine (HB.out _ H5.out).mono ?_
      rintro e w6 ⟨rfl, h6⟩
      have H6 := Lib.hid h6.fr.toBelow
      clear h6 H5 HB
      go_wp2_with fail
      go_ret
      exact ⟨rfl, H6.out⟩

set_option maxRecDepth 100000 in
theorem lifted (os : Os) (started : os.Started) (H : Type) (enc : TypeId × Value → H) :
    ReturnsInHanded {} Tryd.checked os 6 .any (fun w args => (Rows.modelSameSpec.pre enc Tryd.prog Tryd.f6 [] false w args ∧ laidMetH Tryd.prog laidK w) ∧ sizedMet enc Tryd.prog Tryd.f6 (OpenSpec.ofChange Rows.modelSameSpec) false w args)
      (Rows.modelSameSpec.post enc Tryd.prog Tryd.f6 false true false false) := by
  refine returnsInHanded_of_change_and (C := Tryd.checked) (X := fun w _ => laidMetH Tryd.prog laidK w) (fun _ _ _ hh h => h.of_heap hh) Tryd.own started (by kernel_rfl) Tryd.func6
    (ChangeSpec.witness_shaped (enc := enc) (C := Tryd.checked) (os := os) (X := fun w _ => laidMetH Tryd.prog laidK w) false (World.doorLaid Tryd.prog 17 os) #[.int .i64 0, .slice none 0 0, .slice none 0 0] 8 rfl (World.shaped_of_RefB (by kernel_rfl) (by kernel_rfl)) (by kernel_rfl) (by kernel_rfl) (by kernel_rfl) (door_met os _)) ?_
  intro W base args ds gs before hval0 hW _ _ hL _
  have hval : ∀ (j : Nat) t v, Tryd.f6.params[j]? = some t → args[j]? = some v → Value.okWide Tryd.prog W .any base t v := hval0
  have hpost : ∀ W', Below W.heap.size W W' → Rows.modelSameSpec.post enc Tryd.prog Tryd.f6 false true false false W args (.bool true) W' := fun W' hb =>
    law_post (by kernel_rfl) Tryd.underlying4 (by kernel_rfl) rfl (fun ds hl => match ds, hl with | [d1, d2, d3], _ => ⟨rfl, rfl, rfl⟩) hW hb
  obtain ⟨p, q, hA0, hV, rfl, hfz, hnd⟩ := hW
  have hA : DataW.TrodAll enc Tryd.prog W 0 (fun _ => true) true Tryd.f6.params.toList args.toList ds p := hA0
  rw [Tryd.params6] at hA hval
  obtain ⟨v0, vs0, d0, ds0, p0, q0, hargs, rfl, rfl, h0, r0⟩ := trodAll_cons hA
  obtain ⟨v1, vs1, d1, ds1, p1, q1, rfl, rfl, rfl, h1, r1⟩ := trodAll_cons r0
  obtain ⟨v2, vs2, d2, ds2, p2, q2, rfl, rfl, rfl, h2, r2⟩ := trodAll_cons r1
  obtain ⟨rfl, rfl, rfl⟩ := trodAll_nil r2
  obtain rfl : args = #[v0, v1, v2] := by cases args; simp_all
  obtain ⟨a0, rfl, rfl, rfl, w0⟩ := open_int Tryd.underlying3 (hval 0 3 v0 rfl rfl) h0
  obtain ⟨A1, n1, c1, xs1, rfl, _, hr1, hn1⟩ := open_flags Tryd.underlying22 Tryd.underlying4 (by kernel_rfl) (hval 1 22 v1 rfl rfl) h1
  obtain ⟨A2, n2, c2, xs2, rfl, _, hr2, hn2⟩ := open_flags Tryd.underlying22 Tryd.underlying4 (by kernel_rfl) (hval 2 22 v2 rfl rfl) h2
  refine (walk a0 A1 n1 c1 xs1 A2 n2 c2 xs2 W hr1 hn1 hr2 hn2 (kin_of_laid hL)).mono fun e W' ⟨he, hb⟩ => ⟨_, he, hpost W' hb⟩

/-- The row. -/
theorem row_proved : Rows.ModelSameSaid :=
  OpenClaim.holds_of_wide 6 Tryd.f6 rfl rfl rfl rfl rfl rfl rfl ⟨rfl, rfl, rfl, rfl, rfl⟩ rfl rfl rfl rfl rfl (by kernel_rfl) Tryd.func6 (by kernel_rfl)
    (of_decide_eq_true (by kernel_rfl)) (by unfold Func.isWrapper; first | (rw [if_pos (by decide +kernel)]; kernel_rfl) | (rw [if_neg (by decide +kernel)]; exact ⟨rfl, rfl⟩))
    (fun os started H enc _ => lifted os started H enc)

/-- The statement: the tied card. -/
theorem proved : Rows.ModelSameCardSaid :=
  Claim7.holds_tied_plain_at .later [] [.data] true (true, "bb50c3ee959bc681252a19cd03d2b0412e9a9b921a0c082f4d30dafe5854a3ce") false
    row_proved (fun _ h => by cases h) (by kernel_rfl) (fun _ h => by cases h) modelSame_row_tie rfl ⟨rfl, rfl⟩ (by kernel_rfl) rfl
    (fun f fn hf hfn => by
      obtain rfl : f = 6 := Option.some.inj ((show Tryd.prog.funcNamed "valise/valiselaw08.ModelSame" = some 6 by kernel_rfl).symm.trans hf) |>.symm
      obtain rfl : fn = Tryd.f6 := (Option.some.inj (Tryd.func6.symm.trans hfn)).symm
      exact ⟨by kernel_rfl, fun j t ht => by
        rw [Tryd.params6] at ht
        have hm : t ∈ [3, 22] := by
          have := Array.mem_of_getElem? ht
          simp at this ⊢; omega
        have hall : ([3, 22].all fun u => !Tryd.prog.wantsStandIn u) = true := by kernel_rfl
        exact (show Tryd.prog.wantsStandIn t = false by simpa using List.all_eq_true.1 hall t hm)⟩)
    (by kernel_rfl)
#print axioms proved

end Go.Proofs.YtolpjncmjokniaaDoor.modelSame
