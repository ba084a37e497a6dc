/- CoderEncodes: the bytes of any bits with any chances are the document's, and behind a flush the encoder begins anew; for every two lists of bits. No conditions. -/
import Derived.Test.YtfdeacoaimnfeaaCodQF
import Derived.Test.YtfdeacoaimnfeaaCodArg
import Derived.Test.YtfdeacoaimnfeaaHelpSpoil
import Derived.Test.YtfdeacoaimnfeaaHelpStr
namespace Go.Proofs.Ytfdeacoaimnfeaa.coderEncodes
open Go.ChangeShapes Go.WideShapes Go.ChangeAt Go.RowKit

attribute [local go_sem ↓] Go.wp_at_zero Go.wp_at_succ

/-- Two encoders of one range and with the same bytes, made behind w, each with bytes of its own. -/
structure Two (w wr : World) (g g2 l h : Nat) (v v2 : Value) (bs : List Int) : Prop where
  c : EncC wr g l h v bs
  r : EncR wr g2 l h v2 bs
  o : Open l h
  fr : Fresh w wr
  hg : w.heap.size ≤ g
  hg2 : w.heap.size ≤ g2
  hv : ∀ k, v.ownBlock = some k → w.heap.size ≤ k
  hv2 : ∀ k, v2.ownBlock = some k → w.heap.size ≤ k
  ap : ∀ k, v.ownBlock = some k → v2.ownBlock ≠ some k

section
variable {w wr w1 w2 : World} {g g2 l h : Nat} {v v2 : Value} {bs : List Int}
theorem Two.ne (t : Two w wr g g2 l h v v2 bs) : g ≠ g2 := t.c.blk.ne_ t.r.blk (by decide)
theorem Two.drew (t : Two w wr g g2 l h v v2 bs) : Two w wr.drew g g2 l h v v2 bs := ⟨t.c.drew, t.r.drew, t.o, t.fr.drew, t.hg, t.hg2, t.hv, t.hv2, t.ap⟩
/-- The code's own blocks are none of the other's. -/
theorem Two.far (t : Two w wr g g2 l h v v2 bs) : ¬ EFoot g v g2 ∧ ∀ k, v2.ownBlock = some k → ¬ EFoot g v k := by
  refine ⟨?_, fun k hk => ?_⟩
  · rintro (e | e)
    · exact t.ne e.symm
    · exact t.c.own.ne_blk t.r.blk (by decide) e
  · rintro (e | e)
    · subst e; exact t.r.own.ne_blk t.c.blk (by decide) hk
    · exact t.ap k e hk
/-- The code has made its step: the document's encoder stands as it stood. -/
theorem Two.mid {l' h' : Nat} {bs' : List Int} (t : Two w wr g g2 l h v v2 bs) (p : EPost wr w1 g 54 v l' (4294967295 - (h' : Int)) bs') : EncR w1 g2 l h v2 bs := by
  obtain ⟨v', he, hv, hk⟩ := p
  exact t.r.kept hk t.far.1 t.far.2
theorem Two.midFresh {l' h' : Nat} {bs' : List Int} (t : Two w wr g g2 l h v v2 bs) (p : EPost wr w1 g 54 v l' (4294967295 - (h' : Int)) bs') : Fresh w w1 := by
  obtain ⟨v', he, hv, hk⟩ := p
  refine t.fr.trans hk fun i hi hf => ?_
  rcases hf with rfl | hf
  · have := t.hg; omega
  · have := t.hv i hf; omega
/-- Both have made the same step. -/
theorem Two.step {l' h' : Nat} {bs' : List Int} (t : Two w wr g g2 l h v v2 bs) (o' : Open l' h') (p : EPost wr w1 g 54 v l' (4294967295 - (h' : Int)) bs') (q : EPost w1 w2 g2 59 v2 l' (h' : Int) bs') :
    ∃ u u2, Two w w2 g g2 l' h' u u2 bs' := by
  have hr1 := t.mid p
  have hf1 := t.midFresh p
  obtain ⟨u, he, hu, hk⟩ := p
  obtain ⟨u2, he2, hu2, hk2⟩ := q
  have h1 : ∀ k, u.ownBlock = some k → v2.ownBlock ≠ some k := fun k hk' e => by
    rcases hu k hk' with h | h
    · exact t.ap k h e
    · have := t.r.own.lt e; omega
  have hc : EncC w2 g l' h' u bs' := he.kept hk2 (by
    rintro (e | e)
    · exact t.ne e
    · exact hr1.own.ne_blk he.blk (by decide) e) (fun k hk' => by
    rintro (e | e)
    · subst e; exact he.own.ne_blk hr1.blk (by decide) hk'
    · exact h1 k hk' e)
  refine ⟨u, u2, hc, he2, o', hf1.trans hk2 (fun i hi hf => ?_), t.hg, t.hg2, fun k hk' => ?_, fun k hk' => ?_, fun k hk' e => ?_⟩
  · rcases hf with rfl | hf
    · have := t.hg2; omega
    · have := t.hv2 i hf; omega
  · rcases hu k hk' with h | h
    · exact t.hv k h
    · have := t.fr.size; omega
  · rcases hu2 k hk' with h | h
    · exact t.hv2 k h
    · have := hf1.size; omega
  · rcases hu2 k e with h | h
    · exact h1 k hk' h
    · have := he.own.lt hk'; omega
end

theorem EPost.drew {w w' : World} {g : Nat} {t : TypeId} {v : Value} {l' : Nat} {y' : Int} {bs' : List Int} (h : EPost w w' g t v l' y' bs') : EPost w w'.drew g t v l' y' bs' := by
  obtain ⟨v', he, hv, hk⟩ := h
  exact ⟨v', he.drew, hv, hk.drew⟩

set_option maxRecDepth 100000 in
set_option maxHeartbeats 3200000 in
theorem walk (A B : Option Addr) (n c m d : Nat) (L M : List (Int × Int)) (w : World) (hA : BitL w A n L) (hB : BitL w B m M) (hn : n ≤ maxLen) (hm : m ≤ maxLen) :
    Calls Try.prog 3 #[.slice A n c, .slice B m d] w fun e w' => e = .returned (.bool true) ∧ Below w.heap.size w w' := by
  unfold maxLen at hn hm
  have HA := Lib.hid hA
  have HB := Lib.hid hB
  clear hA hB
  go_enter Try.func3, Try.ntmps3
  go_wp2_with fail
  refine (newEnc_any _).mono ?_
  rintro e w1 ⟨g, rfl, he, hg, hk⟩
  go_wp2_with fail
  refine (qNewEnc_any _).mono ?_
  rintro e w2 ⟨g2, rfl, he2, hg2, hk2⟩
  have ht2 : Two w w2 g g2 0 4294967295 (.slice none 0 0) (.slice none 0 0) [] := ⟨he.fresh hk2, he2, open_full, hk.fresh hk2, hg, Nat.le_trans hk.size hg2, (fun k h => by cases h), (fun k h => by cases h), (fun k h => by cases h)⟩
  clear he he2 hg hg2 hk hk2
  go_wp2_with fail
  refine (awake_any _).mono ?_
  rintro e w3 ⟨rfl, hk3⟩
  have ht3 : Two w w3 g g2 0 4294967295 (.slice none 0 0) (.slice none 0 0) [] := ⟨ht2.c.fresh hk3, ht2.r.fresh hk3, open_full, ht2.fr.fresh hk3, ht2.hg, ht2.hg2, ht2.hv, ht2.hv2, ht2.ap⟩
  have HT := Lib.hid ht3
  clear ht2 ht3 hk3
  go_wp2_with fail
  go_loopw [7, 0] (fun i s wr => ∃ (r : Nat) (A : Option Addr) (n c : Nat) (L : List (Int × Int)), r ≤ 2 ∧ i = .int .i64 r ∧ s = .slice A n c ∧ n ≤ 9223372036854775807 ∧ BitL w A n L ∧ Two w wr g g2 0 4294967295 (.slice none 0 0) (.slice none 0 0) []) (fun i _ _ => (2 - intOf i).toNat)
  case atStart => exact ⟨0, A, n, c, L, by omega, rfl, rfl, hn, HA.out, HT.out⟩
  case round =>
    obtain ⟨r, A1, n1, c1, L1, hr, rfl, rfl, hn1, hA1, ht⟩ := hrel
    have HA1 := Lib.hid hA1
    have HT1 := Lib.hid ht
    clear hA1 ht
    by_cases hlt : r < 2
    · have hdr : decide ((r : Int) < 2) = true := by simp; omega
      go_wp2_with fail
      go_loopw [8] (fun i wr => ∃ (k : Nat) (l h : Nat) (v v2 : Value) (bs : List Int), k ≤ n1 ∧ k ≤ 2000 ∧ i = .int .i64 k ∧ bs.length ≤ 4 * k ∧ Two w wr g g2 l h v v2 bs) (fun i _ => (2000 - intOf i).toNat)
      case atStart => exact ⟨0, 0, 4294967295, _, _, [], by omega, by omega, rfl, by simp, HT1.out⟩
      case round =>
        obtain ⟨k, l, h, v, v2, bs, hk1, hk2, rfl, hlen, ht⟩ := hrel
        by_cases hlt2 : k < n1 ∧ k < 2000
        · obtain ⟨ha, hb⟩ := hlt2
          obtain ⟨sb, so, ⟨X, Y⟩, rfl, hsb, _, c0', c1'⟩ := HA1.out.at_ k ha
          simp only at c0' c1'
          have c0 := (ht.fr.cell (p := ⟨sb, so + k * 2, none⟩) hsb id).trans c0'
          have c1 := (ht.fr.cell (p := ⟨sb, so + k * 2 + 1, none⟩) hsb id).trans c1'
          have hi0 : (0 : Int) ≤ (k : Int) := by omega
          have hi1 : (k : Int) < (n1 : Int) := by omega
          have hi2 : (k : Int) < 2000 := by omega
          have hi3 : decide ((k : Int) < 2000) = true := by simp; omega
          have HC := Lib.hid (And.intro c0' c1')
          have ho5 := (enc1_open (one := (X != 0)) ht.o (cl_bd Y).2)
          have HO5 := Lib.hid ho5
          clear c0' c1' ho5
          go_wp2_with fail
          go_region_held3 (fun w' => w'.cell? ⟨sb, so + k * 2, none⟩ = some (.int .i64 X) ∧ w'.cell? ⟨sb, so + k * 2 + 1, none⟩ = some (.int .i64 Y))
            (first | go_keep | exact ⟨(hf5.cell (p := ⟨sb, so + k * 2, none⟩) hsb id).trans HC.out.1, (hf5.cell (p := ⟨sb, so + k * 2 + 1, none⟩) hsb id).trans HC.out.2⟩)
            (first
              | (go_at_call 11; refine (encode_any g l h v bs X Y _ ht.drew.c ht.o (by omega)).mono ?_; rintro e5 w5 ⟨rfl, hp5⟩; have hf5 := ht.drew.midFresh hp5))
          have hr5 := ht.drew.mid hp5
          have c05 := (hf5.cell (p := ⟨sb, so + k * 2, none⟩) hsb id).trans HC.out.1
          have c15 := (hf5.cell (p := ⟨sb, so + k * 2 + 1, none⟩) hsb id).trans HC.out.2
          have HP5 := Lib.hid hp5
          have HT5 := Lib.hid ht
          clear hp5 ht c0 c1
          go_wp2_with fail
          go_region_held3 (fun w' => w'.cell? ⟨sb, so + k * 2, none⟩ = some (.int .i64 X) ∧ w'.cell? ⟨sb, so + k * 2 + 1, none⟩ = some (.int .i64 Y))
            (first | go_keep | exact ⟨(hf6.cell (p := ⟨sb, so + k * 2, none⟩) hsb id).trans HC.out.1, (hf6.cell (p := ⟨sb, so + k * 2 + 1, none⟩) hsb id).trans HC.out.2⟩)
            (first
              | (go_at_call 12; refine (qEncode_any g2 l h v2 bs X Y _ hr5.drew HT5.out.o (by omega)).mono ?_; rintro e6 w6 ⟨rfl, hp6⟩; have ht6 := HT5.out.drew.step HO5.out.1 (EPost.drew HP5.out) hp6; have hf6 : Fresh w w6 := (by obtain ⟨_, _, ht⟩ := ht6; exact ht.fr)))
          obtain ⟨u, u2, ht6⟩ := ht6
          have HT6 := Lib.hid ht6
          clear ht6 hp6 hr5 hf5 hf6
          go_wp2_with fail
          go_roundw
          case rel => exact ⟨k + 1, _, _, u, u2, _, by omega, by omega, by go_num, by have := HO5.out.2; simp; omega, HT6.out⟩
          case measure => simp [intOf]; omega
        · have hstop : ¬ ((k : Int) < (n1 : Int) ∧ (k : Int) < 2000) := by omega
          have HT5 := Lib.hid ht
          clear ht
          go_wp2_with fail
          all_goals
            refine (flush_any g l h v bs _ HT5.out.c HT5.out.o (by omega)).mono ?_
            rintro e6 w6 ⟨q, rfl, ho6, hq6, he6, hk6⟩
            have hr6 : EncR w6 g2 l h v2 bs := HT5.out.r.kept hk6 HT5.out.far.1 HT5.out.far.2
            have hf6 : Fresh w w6 := HT5.out.fr.trans hk6 fun i hi hf => by
              rcases hf with rfl | hf
              · have := HT5.out.hg; omega
              · have := HT5.out.hv i hf; omega
            have hqs : ∀ x, q.ownBlock = some x → w.heap.size ≤ x ∧ v2.ownBlock ≠ some x := fun x hx => by
              rcases hq6 x hx with e | e
              · exact ⟨HT5.out.hv x e, HT5.out.ap x e⟩
              · exact ⟨by have := HT5.out.fr.size; omega, fun e' => by have := HT5.out.r.own.lt e'; omega⟩
            have H6 := Lib.hid (And.intro ho6 (And.intro hqs (And.intro he6 hf6)))
            clear ho6 hqs he6 hf6 hk6 hq6
            go_wp2_with fail
            refine (qFlush_any g2 l h v2 bs _ hr6 HT5.out.o (by omega)).mono ?_
            rintro e7 w7 ⟨q2, rfl, ho7, hq7, he7, hk7⟩
            have hqb : ∀ x, q.ownBlock = some x → ¬ EFoot g2 v2 x := fun x hx => by
              rintro (e | e)
              · subst e; exact H6.out.1.ne_blk hr6.blk (by decide) hx
              · exact (H6.out.2.1 x hx).2 e
            have hgb : ¬ EFoot g2 v2 g := by
              rintro (e | e)
              · exact HT5.out.ne e
              · exact HT5.out.r.own.ne_blk HT5.out.c.blk (by decide) e
            have hq7' := H6.out.1.kept hk7 hqb
            have he7' := H6.out.2.2.1.kept hk7 hgb (fun x hx => by cases hx)
            have hf7 : Fresh w w7 := H6.out.2.2.2.trans hk7 fun i hi hf => by
              rcases hf with rfl | hf
              · have := HT5.out.hg2; omega
              · have := HT5.out.hv2 i hf; omega
            have hby : ∀ x ∈ bs ++ four l, 0 ≤ x ∧ x < 256 := fun x hx => by
              rcases List.mem_append.1 hx with h | h
              · exact HT5.out.c.byte x h
              · exact four_bytes l x h
            have hln : (bs ++ four l).length ≤ 1000000000 ∧ 0 < (bs ++ four l).length := by simp [four]; omega
            obtain ⟨qb, qc, rfl, hqlt⟩ := hq7'.form hln.2
            obtain ⟨A7, c7, rfl, hrow7, _⟩ := ho7.row
            obtain ⟨_, _, hqe, hrowq, _⟩ := hq7'.row
            obtain ⟨rfl, rfl⟩ : some (⟨qb, 0, none⟩ : Addr) = _ ∧ qc = _ := by injection hqe with h1 _ h3; exact ⟨h1, h3⟩
            have hfz := fun j => hq7'.frozen j
            have hqg : qb ≠ g ∧ qb ≠ g2 := ⟨fun e => hq7'.ne_blk he7'.blk (by decide) (by rw [e]; rfl), fun e => hq7'.ne_blk he7.blk (by decide) (by rw [e]; rfl)⟩
            have hqw : w.heap.size ≤ qb := (H6.out.2.1 qb rfl).1
            generalize bs ++ four l = F at *
            have H7 := Lib.hid (And.intro hrowq (And.intro hrow7 (And.intro hby (And.intro hfz (And.intro he7' (And.intro he7 (And.intro hf7 (And.intro hqg hqw))))))))
            have hln' := hln.1
            clear hrowq hrow7 hby hfz he7' he7 hf7 hqg hqw hqe hq7' ho7 hq7 hk7 hqb hgb hr6 HT5 hln
            go_wp2_with fail
            refine (hBytes_any _ _ _ _ _ _ F F _ H7.out.1 H7.out.2.1 H7.out.2.2.1 H7.out.2.2.1).mono ?_
            rintro e8 w8 ⟨rfl, rfl⟩
            rw [show decide (F = F) = true from by simp]
            go_wp2_with fail
            refine (hSpoil_any qb 0 _ _ _ F _ H7.out.1 rfl (fun j => by simpa using H7.out.2.2.2.1 j) hln').mono ?_
            rintro e9 w9 ⟨rfl, hk9⟩
            have ht9 : Two w w9 g g2 0 4294967295 (.slice none 0 0) (.slice none 0 0) [] :=
              ⟨H7.out.2.2.2.2.1.kept hk9 (fun e => H7.out.2.2.2.2.2.2.2.1.1 e.symm) (fun x hx => by cases hx), H7.out.2.2.2.2.2.1.kept hk9 (fun e => H7.out.2.2.2.2.2.2.2.1.2 e.symm) (fun x hx => by cases hx), open_full,
               H7.out.2.2.2.2.2.2.1.trans hk9 (fun i hi e => by have := H7.out.2.2.2.2.2.2.2.2; omega), HT1.out.hg, HT1.out.hg2, (fun k h => by cases h), (fun k h => by cases h), (fun k h => by cases h)⟩
            have HT9 := Lib.hid ht9
            clear ht9 hk9
            go_wp2_with fail
            go_roundw
            case rel => exact ⟨r + 1, B, m, d, M, by omega, by go_num, rfl, hm, HB.out, HT9.out⟩
            case measure => simp [intOf]; omega
    · go_wp2_with fail
      go_ret
      exact ⟨rfl, HT1.out.fr.toBelow⟩

set_option maxRecDepth 100000 in
theorem lifted (os : Os) (started : os.Started) (H : Type) (enc : TypeId × Value → H) :
    ReturnsInHanded {} Try.checked os 3 .any (Rows.coderEncodesSpec.pre6 enc Try.prog Try.f3 Rows.coderEncodesRow.domain false) (Rows.coderEncodesSpec.post enc Try.prog Try.f3 false true false false) := by
  refine returnsInHanded_of_change (C := Try.checked) Try.own started (by kernel_rfl) Try.func3
    (ChangeSpec.witness6 (enc := enc) (C := Try.checked) false ⟨#[], #[.slice none 0 0, .slice none 0 0], []⟩ 8 (by kernel_rfl) (by kernel_rfl) (by kernel_rfl) (by kernel_rfl)) ?_
  intro W base args ds gs before hval0 hW hcnd _
  have hval : ∀ (j : Nat) t v, Try.f3.params[j]? = some t → args[j]? = some v → Value.okWide Try.prog W .any base t v := hval0
  have hpost : ∀ W', Below W.heap.size W W' → Rows.coderEncodesSpec.post enc Try.prog Try.f3 false true false false W args (.bool true) W' := fun W' hb =>
    law_post (by kernel_rfl) Try.underlying4 (by kernel_rfl) rfl (fun ds hl => match ds, hl with | [d1, d2], _ => ⟨rfl, rfl, rfl⟩) hW hb
  obtain ⟨p, q, hA0, hV, rfl, hfz, hnd⟩ := hW
  have hA : DataW.TrodAll enc Try.prog W 0 (fun _ => true) true Try.f3.params.toList args.toList ds p := hA0
  rw [Try.params3] at hA hval
  obtain ⟨v0, vs0, d0, ds0, p0, q0, hargs, rfl, rfl, h0, r0⟩ := trodAll_cons hA
  obtain ⟨v1, vs1, d1, ds1, p1, q1, rfl, rfl, rfl, h1, r1⟩ := trodAll_cons r0
  obtain ⟨rfl, rfl, rfl⟩ := trodAll_nil r1
  obtain rfl : args = #[v0, v1] := by cases args; simp_all
  obtain ⟨A, n, c, L, rfl, _, hn, hL⟩ := open_bits (hval 0 22 v0 rfl rfl) h0
  obtain ⟨B, m, d, M, rfl, _, hm, hM⟩ := open_bits (hval 1 22 v1 rfl rfl) h1
  exact (walk A B n c m d L M W hL hM hn hm).mono fun e W' ⟨he, hb⟩ => ⟨_, he, hpost W' hb⟩

/-- The statement. -/
theorem proved : Rows.CoderEncodesSaid :=
  OpenClaim.holds_of_wide 3 Try.f3 rfl rfl rfl rfl rfl rfl rfl ⟨rfl, rfl, rfl, rfl, rfl⟩ rfl rfl rfl rfl rfl (by kernel_rfl) Try.func3 (by kernel_rfl)
    (of_decide_eq_true (by kernel_rfl)) (by unfold Func.isWrapper; first | (rw [if_pos (by decide +kernel)]; kernel_rfl) | (rw [if_neg (by decide +kernel)]; exact ⟨rfl, rfl⟩))
    (fun os started H enc _ => lifted os started H enc)
#print axioms proved

end Go.Proofs.Ytfdeacoaimnfeaa.coderEncodes
