/- CoderDecodes: which bits any bytes are, by any chances, and how many bytes past their end were taken, is as the document says; what is handed in stays. For every list of bytes and every list of chances. No conditions. -/
import Derived.Test.YtfdeacoaimnfeaaCodF
import Derived.Test.YtfdeacoaimnfeaaCodQD
import Derived.Test.YtfdeacoaimnfeaaHelpByte
import Derived.Test.YtfdeacoaimnfeaaHelpSpoil
import Derived.Test.YtfdeacoaimnfeaaLaw
namespace Go.Proofs.Ytfdeacoaimnfeaa.coderDecodes
open Go.ChangeShapes Go.WideShapes Go.ChangeAt Go.RowKit

attribute [local go_sem ↓] Go.wp_at_zero Go.wp_at_succ

/-- Both decoders stand at one place of the same bytes, with one range. -/
structure Both (w wr : World) (g g2 l h : Nat) (A A2 : Option Addr) (c c2 : Nat) (xs : List Int) (p : Nat) : Prop where
  d : DecC wr g l h A c xs (win xs p) p
  r : DecR wr g2 l h (win xs p) A2 c2 xs (p + 4)
  o : Open l h
  fr : Fresh w wr
  hg : w.heap.size ≤ g
  hg2 : w.heap.size ≤ g2
  ne : g ≠ g2
  hA : ∀ b o, A = some ⟨b, o, none⟩ → 0 < xs.length → b ≠ g2
  hA2 : ∀ b o, A2 = some ⟨b, o, none⟩ → 0 < xs.length → b ≠ g

section
variable {w wr w1 w2 : World} {g g2 l h : Nat} {A A2 : Option Addr} {c c2 : Nat} {xs : List Int} {p : Nat}
theorem Both.drew (t : Both w wr g g2 l h A A2 c c2 xs p) : Both w wr.drew g g2 l h A A2 c c2 xs p := ⟨t.d.drew, t.r.drew, t.o, t.fr.drew, t.hg, t.hg2, t.ne, t.hA, t.hA2⟩
theorem Both.drewN (t : Both w wr g g2 l h A A2 c c2 xs p) (n : Nat) : Both w (wr.drewN n) g g2 l h A A2 c c2 xs p := ⟨t.d.drewN n, t.r.drewN n, t.o, t.fr.drewN n, t.hg, t.hg2, t.ne, t.hA, t.hA2⟩
theorem Both.mid (t : Both w wr g g2 l h A A2 c c2 xs p) (hk : Kept (fun k => k = g) wr w1) : DecR w1 g2 l h (win xs p) A2 c2 xs (p + 4) := t.r.kept hk (Ne.symm t.ne) (fun b o e hl => t.hA2 b o e hl)
theorem Both.midFresh (t : Both w wr g g2 l h A A2 c c2 xs p) (hk : Kept (fun k => k = g) wr w1) : Fresh w w1 := t.fr.trans hk (fun i hi e => by have := t.hg; omega)
theorem Both.step {l' h' p' : Nat} (t : Both w wr g g2 l h A A2 c c2 xs p) (o' : Open l' h') (d1 : DecC w1 g l' h' A c xs (win xs p') p') (hk : Kept (fun k => k = g) wr w1)
    (d2 : DecR w2 g2 l' h' (win xs p') A2 c2 xs (p' + 4)) (hk2 : Kept (fun k => k = g2) w1 w2) : Both w w2 g g2 l' h' A A2 c c2 xs p' :=
  ⟨d1.kept hk2 t.ne (fun b o e hl => t.hA b o e hl), d2, o', (t.midFresh hk).trans hk2 (fun i hi e => by have := t.hg2; omega), t.hg, t.hg2, t.ne, t.hA, t.hA2⟩
end

set_option maxRecDepth 100000 in
set_option maxHeartbeats 3200000 in
theorem walk (A S : Option Addr) (n c m d : Nat) (xs ys : List Int) (w : World) (hx : Row w .u8 A n xs) (hby : ∀ x ∈ xs, 0 ≤ x ∧ x < 256) (hnil : A = none → c = 0) (hs : Row w .i64 S m ys) (hm : m ≤ maxLen) :
    Calls Try.prog 4 #[.slice A n c, .slice S m d] w fun e w' => e = .returned (.bool true) ∧ Below w.heap.size w w' := by
  unfold maxLen at hm
  have hxl := hx.len
  by_cases h3 : n ≤ 3000
  · have HX := Lib.hid hx
    have HY := Lib.hid hs
    have HB := Lib.hid hby
    have Hxl := Lib.hid hxl
    clear hx hs hby hxl
    have hle : ¬ (3000 : Int) < n := by omega
    go_enter Try.func4, Try.ntmps4
    go_wp2_with fail
    refine (hOwnByte_any A n c xs 71 _ HX.out hnil (by omega)).mono ?_
    rintro e w1 ⟨q, rfl, hcp, hq, hf1⟩
    have hrow1 : Row w1 .u8 (some ⟨q, 0, none⟩) n xs := by have := hcp.row; rwa [Hxl.out] at this
    have hql := hcp.blk.lt
    have hx1 := HX.out.kept hf1 (fun _ _ _ _ => id)
    go_wp2_with fail
    refine (newDec_any q 0 n _ xs _ hrow1 (by omega) HB.out).mono ?_
    rintro e w2 ⟨g, A1, c1, rfl, hd2, hg2, hA2, hf2⟩
    have hx2 := hx1.kept hf2 (fun _ _ _ _ => id)
    go_wp2_with fail
    refine (qNewDec_any A n c xs _ hx2 (by omega) HB.out).mono ?_
    rintro e w3 ⟨g', A3, c3, rfl, hd3, hg3, hA3, hf3⟩
    have hx3 := hx2.kept hf3 (fun _ _ _ _ => id)
    have hgl := hd2.blk.lt
    have hb3 : Both w w3 g g' 0 4294967295 A1 A3 c1 c3 xs 0 :=
      ⟨hd2.fresh hf3, hd3, open_full, (hf1.fresh hf2).fresh hf3, by have := hf1.size; omega, by have := hf1.size; have := hf2.size; omega, by omega,
       fun b o e hl => by
        obtain ⟨b', o', e', hb', _⟩ := hd2.row.at_ 0 hl
        rw [e] at e'; injection e' with e'; injection e' with e'; omega,
       fun b o e hl => by have := hA3 b o e; omega⟩
    have hcp3 : Copy w3 q 5 .u8 xs 71 := ⟨(hcp.blk.kept hf2 id).kept hf3 id⟩
    have hqn : q ≠ g ∧ q ≠ g' ∧ (∀ b o, A1 = some ⟨b, o, none⟩ → b ≠ q) ∧ (∀ b o, A3 = some ⟨b, o, none⟩ → b ≠ q) :=
      ⟨by omega, by have := hf2.size; omega, fun b o e => by have := hA2 b o e; omega, fun b o e => by have := hA3 b o e; have := hf2.size; omega⟩
    have H3 := Lib.hid (And.intro hb3 (And.intro hcp3 (And.intro hqn (And.intro hx3 hq))))
    clear hb3 hcp3 hqn hx3 hq hx2 hx1 hrow1 hcp hd2 hd3 hf1 hf2 hf3 hA2 hA3 hg2 hg3 hgl hql
    go_wp2_with fail
    refine (awake_any _).mono ?_
    rintro e w4 ⟨rfl, hf4⟩
    have HF4 := Lib.hid hf4
    clear hf4
    go_wp2_with fail
    refine (hKeptByte_any q n c A xs 71 _ ⟨H3.out.2.1.blk.kept HF4.out id⟩ (H3.out.2.2.2.1.kept HF4.out (fun _ _ _ _ => id)) (by omega)).mono ?_
    rintro e w5 ⟨rfl, k5, rfl⟩
    have hr5 : Row (w4.drewN k5) .u8 (some ⟨q, 0, none⟩) n xs := by
      have := (Copy.mk (H3.out.2.1.blk.kept HF4.out id)).row.drewN k5
      rwa [Hxl.out] at this
    have hfz : ∀ j, (w4.drewN k5).frozen? ⟨q, 0 + j, none⟩ = false := fun j => by
      have := ((H3.out.2.1.blk.kept HF4.out id).drewN k5).frozen j
      simpa using this
    have H5 := Lib.hid (And.intro hr5 hfz)
    clear hr5 hfz
    go_wp2_with fail
    refine (hSpoil_any q 0 n _ _ xs _ H5.out.1 rfl H5.out.2 (by omega)).mono ?_
    rintro e w6 ⟨rfl, hk6⟩
    have hb6 : Both w w6 g g' 0 4294967295 A1 A3 c1 c3 xs 0 := by
      have t := H3.out.1
      have hf : Fresh w3 (w4.drewN k5) := HF4.out.drewN k5
      have hn := H3.out.2.2.1
      exact ⟨(t.d.fresh hf).kept hk6 (fun e => hn.1 e.symm) (fun b o e _ => hn.2.2.1 b o e), (t.r.fresh hf).kept hk6 (fun e => hn.2.1 e.symm) (fun b o e _ => hn.2.2.2 b o e), t.o,
        (t.fr.fresh hf).trans hk6 (fun i hi e => by have := H3.out.2.2.2.2; omega), t.hg, t.hg2, t.ne, t.hA, t.hA2⟩
    have H6 := Lib.hid hb6
    clear hb6 hk6
    go_wp2_with fail
    go_loopw [8] (fun i wr => ∃ (k p l h : Nat), k ≤ m ∧ k ≤ 2000 ∧ i = .int .i64 k ∧ p ≤ 4 * k ∧ Both w wr g g' l h A1 A3 c1 c3 xs p) (fun i _ => (2000 - intOf i).toNat)
    case atStart => exact ⟨0, 0, 0, 4294967295, by omega, by omega, rfl, by omega, H6.out⟩
    case round =>
      obtain ⟨k, p, l, h, hk1, hk2, rfl, hp, ht⟩ := hrel
      by_cases hlt2 : k < m ∧ k < 2000
      · obtain ⟨ha, hb⟩ := hlt2
        obtain ⟨sb, so, rfl, hsb, c0'⟩ := HY.out.at_ k ha
        obtain ⟨Y, hY⟩ : ∃ Y, ys.getD k 0 = Y := ⟨_, rfl⟩
        rw [hY] at c0'
        have c0 := (ht.fr.cell (p := ⟨sb, so + k, none⟩) hsb id).trans c0'
        have hi0 : (0 : Int) ≤ (k : Int) := by omega
        have hi1 : (k : Int) < (m : Int) := by omega
        have hi2 : (k : Int) < 2000 := by omega
        have hi3 : decide ((k : Int) < 2000) = true := by simp; omega
        obtain ⟨one, hone⟩ : ∃ one, decBit xs l h (cl Y) p = one := ⟨_, rfl⟩
        obtain ⟨Pv, hPv⟩ : ∃ Pv, pastN xs (p + (enc1 one l h (cl Y)).1.length) = Pv := ⟨_, rfl⟩
        have hpe : (Pv != Pv) = false := by simp
        have ho5 := (enc1_open (one := one) ht.o (cl_bd Y).2)
        have hp5 : p + (enc1 one l h (cl Y)).1.length ≤ 4 * (k + 1) := by have := ho5.2; omega
        have HC := Lib.hid c0'
        have HO := Lib.hid (And.intro hone (And.intro hPv ho5))
        clear c0' hY hone hPv ho5
        cases one
        · go_wp2_with fail
          go_region_held3 (fun w' => w'.cell? ⟨sb, so + k, none⟩ = some (.int .i64 Y))
            (first | exact (hf8.cell (p := ⟨sb, so + k, none⟩) hsb id).trans HC.out | exact (hf7.cell (p := ⟨sb, so + k, none⟩) hsb id).trans HC.out | go_keep)
            (first
              | (go_at_call 21; refine (decode_any g l h A1 c1 xs p Y false _ ht.drew.d ht.o (by omega) HO.out.1).mono ?_; rw [show bitN false = 0 from rfl]; rintro e7 w7 ⟨rfl, hd7, hk7⟩; have hf7 := ht.drew.midFresh hk7; have hr7 := ht.drew.mid hk7)
              | (go_at_call 22; refine (qDecode_any g' l h A3 c3 xs p (p + 4) Y false _ hr7 rfl ht.o (by omega) HO.out.1).mono ?_; rw [show bitN false = 0 from rfl]; rintro e8 w8 ⟨rfl, hd8, hk8⟩; have hb8 := ht.drew.step HO.out.2.2.1 hd7 hk7 hd8 hk8; have hf8 := hb8.fr)
              | (go_at_call 23; refine (past_any g _ _ A1 c1 xs _ _ _ hb8.d (by omega)).mono ?_; rw [HO.out.2.1]; rintro e9 w9 ⟨rfl, n9, rfl⟩)
              | (go_at_call 24; refine (qpast_any g' _ _ _ A3 c3 xs _ _ _ (hb8.drewN n9).r rfl (by omega)).mono ?_; rw [HO.out.2.1]; rintro e10 w10 ⟨rfl, n10, rfl⟩))
          have H8 := Lib.hid (hb8.drewN (n9 + n10))
          clear hb8 hf8 hd8 hk8 hr7 hf7 hd7 hk7 ht c0
          go_wp2_with fail
          go_roundw
          case rel => exact ⟨k + 1, _, _, _, by omega, by omega, by go_num, hp5, H8.out⟩
          case measure => simp [intOf]; omega
        · go_wp2_with fail
          go_region_held3 (fun w' => w'.cell? ⟨sb, so + k, none⟩ = some (.int .i64 Y))
            (first | exact (hf8.cell (p := ⟨sb, so + k, none⟩) hsb id).trans HC.out | exact (hf7.cell (p := ⟨sb, so + k, none⟩) hsb id).trans HC.out | go_keep)
            (first
              | (go_at_call 21; refine (decode_any g l h A1 c1 xs p Y true _ ht.drew.d ht.o (by omega) HO.out.1).mono ?_; rw [show bitN true = 1 from rfl]; rintro e7 w7 ⟨rfl, hd7, hk7⟩; have hf7 := ht.drew.midFresh hk7; have hr7 := ht.drew.mid hk7)
              | (go_at_call 22; refine (qDecode_any g' l h A3 c3 xs p (p + 4) Y true _ hr7 rfl ht.o (by omega) HO.out.1).mono ?_; rw [show bitN true = 1 from rfl]; rintro e8 w8 ⟨rfl, hd8, hk8⟩; have hb8 := ht.drew.step HO.out.2.2.1 hd7 hk7 hd8 hk8; have hf8 := hb8.fr)
              | (go_at_call 23; refine (past_any g _ _ A1 c1 xs _ _ _ hb8.d (by omega)).mono ?_; rw [HO.out.2.1]; rintro e9 w9 ⟨rfl, n9, rfl⟩)
              | (go_at_call 24; refine (qpast_any g' _ _ _ A3 c3 xs _ _ _ (hb8.drewN n9).r rfl (by omega)).mono ?_; rw [HO.out.2.1]; rintro e10 w10 ⟨rfl, n10, rfl⟩))
          have H8 := Lib.hid (hb8.drewN (n9 + n10))
          clear hb8 hf8 hd8 hk8 hr7 hf7 hd7 hk7 ht c0
          go_wp2_with fail
          go_roundw
          case rel => exact ⟨k + 1, _, _, _, by omega, by omega, by go_num, hp5, H8.out⟩
          case measure => simp [intOf]; omega
      · have hstop : (k < m ∧ 2000 ≤ k) ∨ m ≤ k := by omega
        obtain ⟨Pv, hPv⟩ : ∃ Pv, pastN xs p = Pv := ⟨_, rfl⟩
        have hpe : (Pv == Pv) = true := by simp
        have HPv := Lib.hid hPv
        clear hPv hlt2
        rcases hstop with ⟨hkn, hk20⟩ | hkn
        · have hdk : decide ((k : Int) < 2000) = false := by simp; omega
          have hx1 : (k : Int) < (m : Int) := by omega
          go_wp2_with fail
          refine (past_any g _ _ A1 c1 xs _ p _ ht.d (by omega)).mono ?_
          rw [HPv.out]
          rintro e9 w9 ⟨rfl, n9, rfl⟩
          go_wp2_with fail
          refine (qpast_any g' _ _ _ A3 c3 xs p _ _ (ht.drewN n9).r rfl (by omega)).mono ?_
          rw [HPv.out]
          rintro e10 w10 ⟨rfl, n10, rfl⟩
          have hfin := (ht.fr.drewN (n9 + n10)).toBelow
          have HFin := Lib.hid hfin
          clear hfin ht
          go_wp2_with fail
          go_ret
          exact ⟨rfl, HFin.out⟩
        · have hx1 : ¬ (k : Int) < (m : Int) := by omega
          go_wp2_with fail
          refine (past_any g _ _ A1 c1 xs _ p _ ht.d (by omega)).mono ?_
          rw [HPv.out]
          rintro e9 w9 ⟨rfl, n9, rfl⟩
          go_wp2_with fail
          refine (qpast_any g' _ _ _ A3 c3 xs p _ _ (ht.drewN n9).r rfl (by omega)).mono ?_
          rw [HPv.out]
          rintro e10 w10 ⟨rfl, n10, rfl⟩
          have hfin := (ht.fr.drewN (n9 + n10)).toBelow
          have HFin := Lib.hid hfin
          clear hfin ht
          go_wp2_with fail
          go_ret
          exact ⟨rfl, HFin.out⟩
  · have hgt : (3000 : Int) < n := by omega
    go_enter Try.func4, Try.ntmps4
    go_wp2_with fail
    refine (awake_any _).mono ?_
    rintro e w' ⟨rfl, hk⟩
    go_wp2
    go_ret
    exact ⟨rfl, hk.toBelow⟩

set_option maxRecDepth 100000 in
theorem lifted (os : Os) (started : os.Started) (H : Type) (enc : TypeId × Value → H) :
    ReturnsInHanded {} Try.checked os 4 .any (Rows.coderDecodesSpec.pre6 enc Try.prog Try.f4 Rows.coderDecodesRow.domain false) (Rows.coderDecodesSpec.post enc Try.prog Try.f4 false true false false) := by
  refine returnsInHanded_of_change (C := Try.checked) Try.own started (by kernel_rfl) Try.func4
    (ChangeSpec.witness6 (enc := enc) (C := Try.checked) false ⟨#[], #[.slice none 0 0, .slice none 0 0], []⟩ 8 (by kernel_rfl) (by kernel_rfl) (by kernel_rfl) (by kernel_rfl)) ?_
  intro W base args ds gs before hval0 hW hcnd _
  have hval : ∀ (j : Nat) t v, Try.f4.params[j]? = some t → args[j]? = some v → Value.okWide Try.prog W .any base t v := hval0
  have hpost : ∀ W', Below W.heap.size W W' → Rows.coderDecodesSpec.post enc Try.prog Try.f4 false true false false W args (.bool true) W' := fun W' hb =>
    law_post (by kernel_rfl) Try.underlying4 (by kernel_rfl) rfl (fun ds hl => match ds, hl with | [d1, d2], _ => ⟨rfl, rfl, rfl⟩) hW hb
  obtain ⟨p, q, hA0, hV, rfl, hfz, hnd⟩ := hW
  have hA : DataW.TrodAll enc Try.prog W 0 (fun _ => true) true Try.f4.params.toList args.toList ds p := hA0
  rw [Try.params4] at hA hval
  obtain ⟨v0, vs0, d0, ds0, p0, q0, hargs, rfl, rfl, h0, r0⟩ := trodAll_cons hA
  obtain ⟨v1, vs1, d1, ds1, p1, q1, rfl, rfl, rfl, h1, r1⟩ := trodAll_cons r0
  obtain ⟨rfl, rfl, rfl⟩ := trodAll_nil r1
  obtain rfl : args = #[v0, v1] := by cases args; simp_all
  obtain ⟨A, n, c, xs, rfl, hnil, hx, hwx, _⟩ := open_row Try.underlying31 Try.underlying5 (by kernel_rfl) (hval 0 31 v0 rfl rfl) h0
  obtain ⟨S, m, d, ys, rfl, _, hy, _, hm⟩ := open_row Try.underlying36 Try.underlying3 (by kernel_rfl) (hval 1 36 v1 rfl rfl) h1
  exact (walk A S n c m d xs ys W hx (fun x hx => by have := bounds_u8 (hwx x hx); omega) hnil hy hm).mono fun e W' ⟨he, hb⟩ => ⟨_, he, hpost W' hb⟩

/-- The statement. -/
theorem proved : Rows.CoderDecodesSaid :=
  OpenClaim.holds_of_wide 4 Try.f4 rfl rfl rfl rfl rfl rfl rfl ⟨rfl, rfl, rfl, rfl, rfl⟩ rfl rfl rfl rfl rfl (by kernel_rfl) Try.func4 (by kernel_rfl)
    (of_decide_eq_true (by kernel_rfl)) (by unfold Func.isWrapper; first | (rw [if_pos (by decide +kernel)]; kernel_rfl) | (rw [if_neg (by decide +kernel)]; exact ⟨rfl, rfl⟩))
    (fun os started H enc _ => lifted os started H enc)
#print axioms proved

end Go.Proofs.Ytfdeacoaimnfeaa.coderDecodes
