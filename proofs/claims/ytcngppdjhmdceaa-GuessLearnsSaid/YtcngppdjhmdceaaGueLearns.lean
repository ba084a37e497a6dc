/- GuessLearns: whatever a table learns, at whatever places, each chance is what the document says; for every number, every list of learnings and of places. No conditions. -/
import Derived.Test.YtcngppdjhmdceaaGueQ
import Derived.Test.YtcngppdjhmdceaaLaw
namespace Go.Proofs.Ytcngppdjhmdceaa.guessLearns
open Go.ChangeShapes Go.WideShapes Go.ChangeAt Go.RowKit

attribute [local go_sem ↓] Go.wp_at_zero Go.wp_at_succ

/-- The slice at S reads as learnings. -/
def OpL (w : World) (S : Option Addr) (m : Nat) : Prop :=
  ∀ i, i < m → ∃ (b o : Nat) (x y z : Int), S = some ⟨b, o, none⟩ ∧ b < w.heap.size ∧
    w.cell? ⟨b, o + i * 3, none⟩ = some (.int .i64 x) ∧ w.cell? ⟨b, o + i * 3 + 1, none⟩ = some (.int .i64 y) ∧ w.cell? ⟨b, o + i * 3 + 2, none⟩ = some (.int .i64 z)

theorem open_ops {H : Type} {enc : TypeId × Value → H} {W : World} {base : Nat} {v : Value} {d : DataW H} {p : List MemPlace}
    (hv : Value.okWide Try.prog W .any base 27 v) (h : DataW.Trod enc Try.prog W 0 (fun _ => true) true 27 v d p) :
    ∃ A n c, v = .slice A n c ∧ (A = none → c = 0) ∧ n ≤ maxLen ∧ OpL W A n := by
  obtain ⟨S, m, c, rfl, hnil, hm, hs⟩ := open_recs Try.underlying27 Try.underlying38 (by kernel_rfl) (by kernel_rfl) hv h
  refine ⟨S, m, c, rfl, hnil, hm, fun i hi => ?_⟩
  obtain ⟨b, o, u0, y0, m0, rfl, hb, hc0, ht0⟩ := hs i hi 0 _ rfl
  obtain ⟨b1, o1, u1, y1, m1, e1, _, hc1, ht1⟩ := hs i hi 1 _ rfl
  injection e1 with e1; injection e1 with e1 e1'; subst e1; subst e1'
  obtain ⟨b2, o2, u2, y2, m2, e2, _, hc2, ht2⟩ := hs i hi 2 _ rfl
  injection e2 with e2; injection e2 with e2 e2'; subst e2; subst e2'
  obtain ⟨X, hX, _, _⟩ := DataW.trod_int Try.underlying3 ht0
  obtain ⟨Y, hY, _, _⟩ := DataW.trod_int Try.underlying3 ht1
  obtain ⟨Z, hZ, _, _⟩ := DataW.trod_int Try.underlying3 ht2
  simp only [List.cons.injEq, and_true] at hX hY hZ
  subst hX; subst hY; subst hZ
  exact ⟨b, o, X, Y, Z, rfl, hb, hc0, hc1, hc2⟩

/-- Two tables of the same guesses, made behind w, each with guesses of its own. -/
structure Two (w wr : World) (g g2 : Nat) (v v2 : Value) (ps : List Nat) : Prop where
  c : TabC wr g v ps
  r : TabR wr g2 v2 ps
  fr : Fresh w wr
  hg : w.heap.size ≤ g
  hg2 : w.heap.size ≤ g2
  hv : ∀ k, v.ownBlock = some k → w.heap.size ≤ k
  hv2 : ∀ k, v2.ownBlock = some k → w.heap.size ≤ k
  ap : ∀ k, v.ownBlock = some k → v2.ownBlock ≠ some k

section
variable {w wr w1 w2 : World} {g g2 : Nat} {v v2 : Value} {ps ps' : List Nat}
theorem Two.drewN (t : Two w wr g g2 v v2 ps) (n : Nat) : Two w (wr.drewN n) g g2 v v2 ps := ⟨t.c.drewN n, t.r.drewN n, t.fr.drewN n, t.hg, t.hg2, t.hv, t.hv2, t.ap⟩
theorem Two.fresh (t : Two w wr g g2 v v2 ps) (hf : Fresh wr w1) : Two w w1 g g2 v v2 ps :=
  ⟨t.c.kept hf id (fun _ _ => id), t.r.kept hf id (fun _ _ => id), t.fr.trans hf (fun _ _ h => h), t.hg, t.hg2, t.hv, t.hv2, t.ap⟩
/-- The code has learnt: the document's table stands as it stood. -/
theorem Two.mid (t : Two w wr g g2 v v2 ps) (hk : Kept (fun k => v.ownBlock = some k) wr w1) : TabR w1 g2 v2 ps :=
  t.r.kept hk (t.c.own.ne_blk t.r.blk (by decide)) (fun k hk' e => t.ap k e hk')
/-- Both have learnt. -/
theorem Two.step (t : Two w wr g g2 v v2 ps) (hc : TabC w1 g v ps') (hk : Kept (fun k => v.ownBlock = some k) wr w1) (hr : TabR w2 g2 v2 ps') (hk2 : Kept (fun k => v2.ownBlock = some k) w1 w2) : Two w w2 g g2 v v2 ps' :=
  ⟨hc.kept hk2 (t.r.own.ne_blk t.c.blk (by decide)) (fun k hk' e => t.ap k hk' e), hr,
   (t.fr.trans hk (fun i hi e => by have := t.hv i e; omega)).trans hk2 (fun i hi e => by have := t.hv2 i e; omega), t.hg, t.hg2, t.hv, t.hv2, t.ap⟩
end

set_option maxRecDepth 100000 in
set_option maxHeartbeats 3200000 in
theorem walk (n0 : Int) (A B : Option Addr) (n c m d : Nat) (xs : List Int) (w : World) (hA : OpL w A n) (hB : Row w .i64 B m xs) (hn : n ≤ maxLen) (hm : m ≤ maxLen) :
    Calls Try.prog 4 #[.int .i64 n0, .slice A n c, .slice B m d] w fun e w' => e = .returned (.bool true) ∧ Below w.heap.size w w' := by
  unfold maxLen at hn hm
  have HA := Lib.hid hA
  have HB := Lib.hid hB
  clear hA hB
  go_enter Try.func4, Try.ntmps4
  go_wp2_with fail
  all_goals
    refine (new_any _ _).mono ?_
    rintro e w1 ⟨g, v, rfl, ht, hg, hv, hf⟩
    go_wp2_with fail
    refine (qNew_any _ _).mono ?_
    rintro e w2 ⟨g2, v2, rfl, ht2, hg2, hv2, hf2⟩
    have htw : Two w w2 g g2 v v2 _ := ⟨ht.kept hf2 id (fun _ _ => id), ht2, hf.trans hf2 (fun _ _ h => h), hg, Nat.le_trans hf.size hg2, hv, fun k hk => Nat.le_trans hf.size (hv2 k hk), fun k hk e => by have := ht.own.lt hk; have := hv2 k e; omega⟩
    clear ht ht2 hf hf2 hg hg2 hv hv2
    generalize List.replicate _ 32768 = ps0 at htw
    obtain ⟨q2, cap2, hq2, _⟩ := htw.r.form
    have c0 : w2.cell? ⟨g2, 0, none⟩ = some (.slice (some ⟨q2, 0, none⟩) ps0.length cap2) := by rw [← hq2]; simpa using htw.r.blk.cell 0
    clear hq2
    have HT := Lib.hid htw
    clear htw
    go_wp2_with fail
    go_quiet (first
      | (go_at_call 8; exact Calls.quiet_of_same (awake_any _))
      | (go_at_call 15; exact Calls.quiet_of_same (len_any g v ps0 _ (HT.out.c.drewN _))))
    go_wp2_with fail
    go_loopw [9] (fun i wr => ∃ (j : Nat) (ps : List Nat), j ≤ n ∧ j ≤ 300 ∧ i = .int .i64 j ∧ Two w wr g g2 v v2 ps) (fun i _ => (300 - intOf i).toNat)
    case atStart => exact ⟨0, ps0, by omega, by omega, rfl, HT.out.drewN _⟩
    case round =>
      obtain ⟨j, ps, hj1, hj2, rfl, ht⟩ := hrel
      clear c0
      by_cases hlt : j < n ∧ j < 300
      · obtain ⟨ha, hb⟩ := hlt
        obtain ⟨sb, so, X, Y, Z, rfl, hsb, c0', c1', c2'⟩ := HA.out j ha
        have c0 := (ht.fr.cell (p := ⟨sb, so + j * 3, none⟩) hsb id).trans c0'
        have c1 := (ht.fr.cell (p := ⟨sb, so + j * 3 + 1, none⟩) hsb id).trans c1'
        have c2 := (ht.fr.cell (p := ⟨sb, so + j * 3 + 2, none⟩) hsb id).trans c2'
        have hi0 : (0 : Int) ≤ (j : Int) := by omega
        have hi1 : (j : Int) < (n : Int) := by omega
        have hi2 : (j : Int) < 300 := by omega
        have hi3 : decide ((j : Int) < 300) = true := by simp; omega
        have HT1 := Lib.hid ht
        clear c0' c1' c2' ht
        go_wp2_with fail
        have hnew : Fresh wr (wr.alloc (.cells #[.int .i64 X, .int .i64 Y, .int .i64 Z] 38)) := (Kept.refl _ _).alloc _
        have hbn : Blk (wr.alloc (.cells #[.int .i64 X, .int .i64 Y, .int .i64 Z] 38)) wr.heap.size 38 #[.int .i64 X, .int .i64 Y, .int .i64 Z] := Blk.new _ _ _
        have ht2 := HT1.out.fresh hnew
        have hvn : v.ownBlock ≠ some wr.heap.size := ht2.c.own.ne_blk hbn (by decide)
        have hvn2 : v2.ownBlock ≠ some wr.heap.size := ht2.r.own.ne_blk hbn (by decide)
        generalize wr.alloc (.cells #[.int .i64 X, .int .i64 Y, .int .i64 Z] 38) = w3 at *
        generalize wr.heap.size = ob at *
        refine (learn_any g v ps X Y Z _ ht2.c).mono ?_
        rintro e w4 ⟨rfl, hc4, hk4⟩
        have hb4 := hbn.kept hk4 hvn
        have d0 := hb4.cell 0
        have d1 := hb4.cell 1
        have d2 := hb4.cell 2
        simp only [List.getElem?_toArray, List.getElem?_cons_succ, List.getElem?_cons_zero] at d0 d1 d2
        have H4 := Lib.hid (And.intro hc4 (And.intro hk4 (And.intro ht2 (And.intro hb4 hvn2))))
        clear hc4 hk4 ht2 hb4 hbn hnew hvn hvn2 c0 c1 c2
        go_wp2_with fail
        refine (qLearn_any g2 v2 ps X Y Z _ (H4.out.2.2.1.mid H4.out.2.1)).mono ?_
        rintro e w5 ⟨rfl, hr5, hk5⟩
        have ht5 := H4.out.2.2.1.step H4.out.1 H4.out.2.1 hr5 hk5
        have hb5 := H4.out.2.2.2.1.kept hk5 H4.out.2.2.2.2
        have e0 := hb5.cell 0
        simp only [List.getElem?_toArray, List.getElem?_cons_zero] at e0
        generalize List.set _ _ _ = ps' at ht5
        have HT5 := Lib.hid ht5
        clear ht5 hr5 hk5 hb5 d0 d1 d2
        go_wp2_with fail
        go_quiet (first
          | (go_at_call 18; exact Calls.quiet_of_same (at_any g v ps' X _ (HT5.out.c.drewN _)))
          | (go_at_call 19; exact Calls.quiet_of (qAt_any g2 v2 ps' X _ (HT5.out.r.drewN _))))
        go_wp2_with fail
        go_roundw
        case rel => exact ⟨j + 1, ps', by omega, by omega, by go_num, HT5.out.drewN _⟩
        case measure => simp [intOf]; omega
      · have hstop : ¬ ((j : Int) < (n : Int) ∧ (j : Int) < 300) := by omega
        have HT1 := Lib.hid ht
        clear ht
        go_wp2_with fail
        all_goals
          go_loopw [11] (fun i wr => ∃ (k : Nat), k ≤ m ∧ k ≤ 100 ∧ i = .int .i64 k ∧ Two w wr g g2 v v2 ps) (fun i _ => (100 - intOf i).toNat)
          case atStart => exact ⟨0, by omega, by omega, rfl, HT1.out⟩
          case round =>
            obtain ⟨k, hk1, hk2, rfl, ht⟩ := hrel
            by_cases hlt2 : k < m ∧ k < 100
            · obtain ⟨ha, hb⟩ := hlt2
              obtain ⟨sb, so, rfl, hsb, c0'⟩ := HB.out.at_ k ha
              have c0 := (ht.fr.cell (p := ⟨sb, so + k, none⟩) hsb id).trans c0'
              generalize xs.getD k 0 = X at *
              have hi0 : (0 : Int) ≤ (k : Int) := by omega
              have hi1 : (k : Int) < (m : Int) := by omega
              have hi2 : (k : Int) < 100 := by omega
              have hi3 : decide ((k : Int) < 100) = true := by simp; omega
              have HT2 := Lib.hid ht
              clear c0' ht
              go_wp2_with fail
              go_quiet (first
                | (go_at_call 18; exact Calls.quiet_of_same (at_any g v ps X _ (HT2.out.c.drewN _)))
                | (go_at_call 19; exact Calls.quiet_of (qAt_any g2 v2 ps X _ (HT2.out.r.drewN _))))
              go_wp2_with fail
              go_roundw
              case rel => exact ⟨k + 1, by omega, by omega, by go_num, HT2.out.drewN _⟩
              case measure => simp [intOf]; omega
            · have hstop2 : ¬ ((k : Int) < (m : Int) ∧ (k : Int) < 100) := by omega
              have HT2 := Lib.hid ht
              clear ht
              go_wp2_with fail
              all_goals
                go_ret
                exact ⟨rfl, HT2.out.fr.toBelow⟩

set_option maxRecDepth 100000 in
theorem lifted (os : Os) (started : os.Started) (H : Type) (enc : TypeId × Value → H) :
    ReturnsInHanded {} Try.checked os 4 .any (Rows.guessLearnsSpec.pre6 enc Try.prog Try.f4 Rows.guessLearnsRow.domain false) (Rows.guessLearnsSpec.post enc Try.prog Try.f4 false true false false) := by
  refine returnsInHanded_of_change (C := Try.checked) Try.own started (by kernel_rfl) Try.func4
    (ChangeSpec.witness6 (enc := enc) (C := Try.checked) false ⟨#[], #[.int .i64 0, .slice none 0 0, .slice none 0 0], []⟩ 8 (by kernel_rfl) (by kernel_rfl) (by kernel_rfl) (by kernel_rfl)) ?_
  intro W base args ds gs before hval0 hW hcnd _
  have hval : ∀ (j : Nat) t v, Try.f4.params[j]? = some t → args[j]? = some v → Value.okWide Try.prog W .any base t v := hval0
  have hpost : ∀ W', Below W.heap.size W W' → Rows.guessLearnsSpec.post enc Try.prog Try.f4 false true false false W args (.bool true) W' := fun W' hb =>
    law_post (by kernel_rfl) Try.underlying4 (by kernel_rfl) rfl (fun ds hl => match ds, hl with | [d1, d2, d3], _ => ⟨rfl, rfl, rfl⟩) hW hb
  obtain ⟨p, q, hA0, hV, rfl, hfz, hnd⟩ := hW
  have hA : DataW.TrodAll enc Try.prog W 0 (fun _ => true) true Try.f4.params.toList args.toList ds p := hA0
  rw [Try.params4] at hA hval
  obtain ⟨v0, vs0, d0, ds0, p0, q0, hargs, rfl, rfl, h0, r0⟩ := trodAll_cons hA
  obtain ⟨v1, vs1, d1, ds1, p1, q1, rfl, rfl, rfl, h1, r1⟩ := trodAll_cons r0
  obtain ⟨v2, vs2, d2, ds2, p2, q2, rfl, rfl, rfl, h2, r2⟩ := trodAll_cons r1
  obtain ⟨rfl, rfl, rfl⟩ := trodAll_nil r2
  obtain rfl : args = #[v0, v1, v2] := by cases args; simp_all
  obtain ⟨a0, rfl, rfl, rfl, w0⟩ := open_int Try.underlying3 (hval 0 3 v0 rfl rfl) h0
  obtain ⟨A, n, c, rfl, _, hn, hL⟩ := open_ops (hval 1 27 v1 rfl rfl) h1
  obtain ⟨B, m, d, xs, rfl, _, hr, _, hm⟩ := open_row Try.underlying28 Try.underlying3 (by kernel_rfl) (hval 2 28 v2 rfl rfl) h2
  refine (walk a0 A B n c m d xs W hL hr hn hm).mono fun e W' ⟨he, hb⟩ => ⟨_, he, hpost W' hb⟩

/-- The statement. -/
theorem proved : Rows.GuessLearnsSaid :=
  OpenClaim.holds_of_wide 4 Try.f4 rfl rfl rfl rfl rfl rfl rfl ⟨rfl, rfl, rfl, rfl, rfl⟩ rfl rfl rfl rfl rfl (by kernel_rfl) Try.func4 (by kernel_rfl)
    (of_decide_eq_true (by kernel_rfl)) (by unfold Func.isWrapper; first | (rw [if_pos (by decide +kernel)]; kernel_rfl) | (rw [if_neg (by decide +kernel)]; exact ⟨rfl, rfl⟩))
    (fun os started H enc _ => lifted os started H enc)
#print axioms proved

end Go.Proofs.Ytcngppdjhmdceaa.guessLearns
