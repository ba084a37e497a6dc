/- AudioChanged: a pack of any made file that is changed in a byte, or cut, is refused, or is some bytes, at most most. -/
import Derived.Test.YtodmchjdflpbpaaGreatPart8
import Derived.Test.YtodmchjdflpbpaaGreatHelpByte
import Derived.Test.YtodmchjdflpbpaaGreatHelpCopy
import Derived.Test.YtodmchjdflpbpaaGreatHelpStr
import Derived.Test.YtodmchjdflpbpaaGreatArgs
import Derived.Lib.MinMax
namespace Go.Proofs.YtodmchjdflpbpaaGreat.audioChanged
open Go.ChangeShapes Go.WideShapes Go.ChangeAt Go.RowKit

attribute [local go_sem ↓] Go.wp_at_zero Go.wp_at_succ

variable {ap : List Int → List Int} {au : List Int → Int → Int × List Int}
theorem two {a b c : World} (h : Fresh a b) (k : Fresh b c) : Fresh a c := h.trans k fun _ _ e => e
theorem _root_.Go.Proofs.YtodmchjdflpbpaaGreat.Own.cap_ {w : World} {e : TypeId} {k : IntKind} {v : Value} {xs : List Int} (h : Own w e k v xs) : ∀ A c, v = .slice A xs.length c → xs.length ≤ c := fun A c e => by
  subst e
  exact h.cap
theorem run_slice_upto {P : Program} (t e : TypeId) (ht : P.underlying t = some (.slice e)) (hc : ∀ w, (sizeOf e).run P w = .ok 1 w) (A : Option Addr) (n c h : Nat) (hh : h ≤ c) (W : World) :
    (Instr.slice t (.slice A n c) none (some (.int .i64 (h : Int))) none).run P W = .ok (.slice A h c) W := by
  have he : P.elem t = e := by simp [Program.elem, ht]
  rw [run_slice_h W t A n c (by rw [he]; exact ht) .i64 (h : Int) (by omega) (by omega), he, hc]
  have h0 : ∀ a : Addr, a.add 0 = a := fun a => by unfold Addr.add; split <;> simp_all
  cases A <;> simp [Result.andThen, sliced, h0]
/-- What may be told. -/
def Fair (r : Int × List Int) : Prop := r.2.length ≤ 4000 ∧ (r.1 = 0 ∨ r.2.length = 0)
theorem fair (ok : AudioOK ap au) (xs : List Int) (hb : ∀ x ∈ xs, 0 ≤ x ∧ x < 256) (hl : xs.length ≤ 16777216) : Fair (au xs 4000) := by
  rcases ok.total xs 4000 hb hl with ⟨h1, _, h2, _⟩ | ⟨h1, _⟩
  · exact ⟨by omega, .inl h1⟩
  · exact ⟨by rw [h1]; simp, .inr (by rw [h1]; rfl)⟩
set_option maxRecDepth 100000 in
set_option maxHeartbeats 6400000 in
theorem walk (ok : AudioOK ap au) (ci bi : Int) (A : Option Addr) (n c : Nat) (xs : List Int) (place : Int) (tb : Int) (htb : 0 ≤ tb ∧ tb ≤ 255) (cut : Int) (w : World) (_ : A = none → c = 0) (hr : Row w .u8 A n xs) (hb : ∀ x ∈ xs, 0 ≤ x ∧ x < 256) (_ : n ≤ maxLen) (_ : n ≤ c) :
    Calls Tryz.prog 5 #[.int .i64 ci, .int .i64 bi, .slice A n c, .int .i64 place, .int .u8 tb, .int .i64 cut] w fun e w' => e = .returned (.bool true) ∧ Below w.heap.size w w' := by
  by_cases hlong : 1000 < n
  · have h1 : 1000 < (n : Int) := by omega
    have HA := Lib.hid (awakeA_any ok w)
    clear hr ok
    go_enter Tryz.func5, Tryz.ntmps5
    go_wp2_with fail
    refine HA.out.mono ?_
    rintro e w1 ⟨rfl, hf⟩
    have HF := Lib.hid hf.toBelow
    clear hf HA
    go_wp2_with fail
    go_ret
    exact ⟨rfl, HF.out⟩
  · have h1 : ¬ 1000 < (n : Int) := by omega
    obtain ⟨r8, hr8, e8⟩ := u64_mod ci 8 (by omega)
    obtain ⟨r2, hr2, e2⟩ := u64_mod bi 2 (by omega)
    obtain ⟨ch, hch⟩ : ∃ ch, ch = 1 + r8 := ⟨_, rfl⟩
    obtain ⟨b, hbi⟩ : ∃ b, b = 8 + 8 * r2 := ⟨_, rfl⟩
    have hwok : wok ch b := by unfold wok; omega
    have t1 : 1 + (r8 : Int) = (ch : Int) := by omega
    have t2 : 8 + 8 * (r2 : Int) = (b : Int) := by omega
    have hlen := hr.len
    have hzb := wmake_byte (ch : Int) (b : Int) hb
    have hzl := wmake_length hwok xs
    have r80 : (0 : Int) ≤ (r8 : Int) := by omega
    have r20 : (0 : Int) ≤ (r2 : Int) := by omega
    have HM := Lib.hid (qWMake_any (ch : Int) (b : Int) 0 0 A n c xs w hr (by omega))
    have HO := Lib.hid ok
    have HAw : Hid (∀ V, Calls Tryz.prog 6 #[] V fun e w' => e = .returned (.bool true) ∧ Fresh V w') := Lib.hid fun V => awakeA_any ok V
    obtain ⟨z, hzz⟩ : ∃ z, wmake (ch : Int) (b : Int) xs = z := ⟨_, rfl⟩
    rw [hzz] at hzb hzl HM
    have hzn : z.length ≤ 2000 := by omega
    have HZ := Lib.hid hzb
    clear hr ok hb hzb hzz hch hbi hwok hzl
    go_enter Tryz.func5, Tryz.ntmps5
    go_wp2_with fail
    refine HM.out.mono ?_
    rintro e w1 ⟨u1, rfl, hu1, _, hf1⟩
    have hcap := hu1.cap_
    obtain ⟨A1, c1, rfl, hr1, _⟩ := hu1.row
    have hc1 := hcap A1 c1 rfl
    have HF1 := Lib.hid hf1
    have HR1 := Lib.hid hr1
    clear hu1 hr1 hf1 hcap HM
    generalize hzl : z.length = zl at *
    cases his : (wparse z).isSome
    · have HP := Lib.hid (HO.out.refuse A1 zl c1 z w1 HR1.out HZ.out (by omega) hc1 his)
      clear his
      go_wp2_with fail
      refine HP.out.mono ?_
      rintro e w2 ⟨rfl, hf2⟩
      have HF2 := Lib.hid (two HF1.out hf2)
      clear HP hf2
      go_wp2_with fail
      refine (HAw.out _).mono ?_
      rintro e w3 ⟨rfl, hf3⟩
      have HF3 := Lib.hid (two HF2.out hf3)
      clear hf3 HF2
      go_wp2_with fail
      refine (HAw.out _).mono ?_
      rintro e w4 ⟨rfl, hf4⟩
      have HF4 := Lib.hid (two HF3.out hf4).toBelow
      clear hf4 HF3
      go_wp2_with fail
      go_ret
      exact ⟨rfl, HF4.out⟩
    · have HI : Hid (AuIn z) := Lib.hid ⟨HZ.out, by omega, his⟩
      have HP := Lib.hid (HO.out.pack A1 zl c1 z w1 HR1.out HZ.out (by omega) hc1 his)
      clear his
      go_wp2_with fail
      refine HP.out.mono ?_
      rintro e w2 ⟨x, rfl, hx, _, hf2⟩
      have hcap := hx.cap_
      obtain ⟨A2, c2, rfl, hr2, _⟩ := hx.row
      have hc2 := hcap A2 c2 rfl
      obtain ⟨hl0, hl1⟩ := HO.out.len z HI.out
      have hpb := HO.out.byte z HI.out
      have HF2 := Lib.hid (two HF1.out hf2)
      obtain ⟨p, hp⟩ : ∃ p, ap z = p := ⟨_, rfl⟩
      rw [hp] at hr2 hl0 hl1 hpb hc2 ⊢
      have HR2 : Hid (∀ V, Fresh w2 V → Row V .u8 A2 p.length p) := Lib.hid fun V hV => hr2.kept hV fun _ _ _ _ => id
      have HB := Lib.hid hpb
      clear hx hr2 hf2 hcap HP hp hpb HF1 HR1
      generalize hpl : p.length = l at *
      have HPl := Lib.hid hpl
      clear hpl
      obtain ⟨ra, hra, ea⟩ := u64_mod place l (by omega)
      obtain ⟨rc, hrc, ec⟩ := u64_mod cut l (by omega)
      have l0 : (0 : Int) < (l : Int) := by omega
      have el : IntKind.u64.wrap (l : Int) = (l : Int) := IntWalk.u64_in _ (by omega)
      have lz : ((l : Int) == 0) = false := by simp; omega
      have ln : (l = 0) = False := by simp only [eq_iff_iff, iff_false]; omega
      go_wp2_with fail
      refine (HAw.out _).mono ?_
      rintro e w3 ⟨rfl, hf3⟩
      have HF3 := Lib.hid (two HF2.out hf3)
      have HR3 : Hid (∀ V, Fresh w3 V → Row V .u8 A2 l p) := Lib.hid fun V hV => HR2.out V (two hf3 hV)
      have HCo := hCopyBytes_any A2 l c2 p w3 (HR2.out w3 hf3) (by omega)
      have HCo := Lib.hid HCo
      clear hf3 HF2 HAw HR2
      go_wp2_with fail
      refine HCo.out.mono ?_
      rintro e w4 ⟨y, rfl, hy, hyn, hf4⟩
      obtain ⟨g, cy, rfl, hgl⟩ := hy.form (by rw [HPl.out]; omega)
      rw [HPl.out] at hy ⊢
      have hcy : l ≤ cy := hy.cap
      have cg := hy.cellN HPl.out (j := ra) (by omega)
      have fg := hy.frozenN HPl.out ra
      have hst := hy.storeN HPl.out ra tb
      have hgn := hyn g rfl
      have hF4 : Fresh w3 (w4.setCell ⟨g, ra, none⟩ (.int .u8 tb)) := hf4.setCell (p := ⟨g, ra, none⟩) (fun h => absurd h (by simp only; omega)) _
      have hbs : ∀ x ∈ p.set ra tb, 0 ≤ x ∧ x < 256 := fun x hx => by
        rcases List.mem_or_eq_of_mem_set hx with h | h
        · exact HB.out x h
        · omega
      have hsl : (p.set ra tb).length = l := by rw [List.length_set, HPl.out]
      obtain ⟨Ay, ay, hye, hyr, _⟩ := hst.row
      simp only [Value.slice.injEq] at hye
      obtain ⟨rfl, hsl2, rfl⟩ := hye
      rw [hsl] at hyr
      have hU1 := HO.out.unpack (some ⟨g, 0, none⟩) l cy (p.set ra tb) 4000 _ hyr hbs (by omega) hcy
      have hfa := fair HO.out (p.set ra tb) hbs (by omega)
      have HU1 := Lib.hid (And.intro hU1 (And.intro hfa hF4))
      have i0 : (0 : Int) ≤ (ra : Int) := by omega
      clear hst hyr hU1 hfa hF4 hy hyn hf4 HCo hsl2 hbs
      have hs2 : ∀ W, (Instr.slice 22 (.slice A2 l c2) none (some (.int .i64 (rc : Int))) none).run Tryz.prog W = .ok (.slice A2 rc c2) W := fun W => by
        obtain ⟨i0, hi, hz0, hz1, hz2⟩ := info_parts Tryz.infoByteP
        exact run_slice_upto 22 5 Tryz.underlying22 (fun w => by simp [sizeOf, typeInfo, hi, hz1]) A2 l c2 rc (by omega) W
      have HU2 : Hid (Fair (au (p.take rc) 4000) ∧ ∀ V, Fresh w3 V → Calls Tryz.prog 11 #[.slice A2 rc c2, .int .i64 4000] V fun e w' => ∃ u, e = .returned (.tuple #[u, .int .i64 (au (p.take rc) 4000).1]) ∧ NewRow V w' 5 .u8 u (au (p.take rc) 4000).2) := Lib.hid
        ⟨fair HO.out _ (fun x hx => HB.out x (List.mem_of_mem_take hx)) (by rw [List.length_take]; omega), fun V hV => HO.out.unpack A2 rc c2 (p.take rc) 4000 V ((HR3.out V hV).take (by omega)) (fun x hx => HB.out x (List.mem_of_mem_take hx)) (by omega) (by omega)⟩
      have rc0 : (0 : Int) ≤ (rc : Int) := by omega
      generalize au (p.set ra tb) 4000 = r1 at *
      generalize au (p.take rc) 4000 = r2 at *
      go_wp2_with fail
      generalize w4.setCell ⟨g, ra, none⟩ (.int .u8 tb) = w5 at *
      refine HU1.out.1.mono ?_
      rintro e w6 ⟨u6, rfl, hu6, _, hf6⟩
      obtain ⟨A6, c6, rfl, _, _⟩ := hu6.row
      have hfr1 := HU1.out.2.1
      have HF6 := Lib.hid (two HU1.out.2.2 hf6)
      have hU2 := Lib.hid (HU2.out.2 w6 HF6.out)
      have hfr2 := HU2.out.1
      obtain ⟨E1, L1⟩ := r1
      obtain ⟨E2, L2⟩ := r2
      simp only [Fair] at hfr1 hfr2
      have HN := Lib.hid (And.intro hfr1 hfr2)
      clear hu6 hf6 HU1 hfr1 hfr2 HU2
      generalize hl1 : L1.length = l1 at *
      have HL1 := Lib.hid hl1
      clear hl1
      go_wp2_with fail
      refine hU2.out.mono ?_
      rintro e w7 ⟨u7, rfl, hu7, _, hf7⟩
      obtain ⟨A7, c7, rfl, _, _⟩ := hu7.row
      have HL := Lib.hid (two HF3.out (two HF6.out hf7)).toBelow
      clear hu7 hf7 hU2 HF6
      simp only [] at *
      generalize L2.length = l2 at *
      have HFin := HN.out
      obtain ⟨⟨n1, e1⟩, n2, e2⟩ := HN.out
      have m1 : (l1 : Int) ≤ 4000 := by omega
      have m2 : (l2 : Int) ≤ 4000 := by omega
      rcases e1 with rfl | rfl
      all_goals rcases e2 with rfl | rfl
      all_goals
        go_wp2_with fail
        all_goals
          go_ret
          exact ⟨rfl, HL.out⟩

set_option maxRecDepth 100000 in
theorem lifted (os : Os) (started : os.Started) (H : Type) (enc : TypeId × Value → H) :
    ReturnsInHanded {} Tryz.checked os 5 .any (Rows.audioChangedSpec.pre6 enc Tryz.prog Tryz.f5 Rows.audioChangedRow.domain false) (Rows.audioChangedSpec.post enc Tryz.prog Tryz.f5 false true false false) := by
  refine returnsInHanded_of_change (C := Tryz.checked) Tryz.own started (by kernel_rfl) Tryz.func5
    (ChangeSpec.witness6 (enc := enc) (C := Tryz.checked) false ⟨#[], #[.int .i64 0, .int .i64 0, .slice none 0 0, .int .i64 0, .int .u8 0, .int .i64 0], []⟩ 8 (by kernel_rfl) (by kernel_rfl) (by kernel_rfl) (by kernel_rfl)) ?_
  intro W base args ds gs before hval0 hW hcnd _
  have hval : ∀ (j : Nat) t v, Tryz.f5.params[j]? = some t → args[j]? = some v → Value.okWide Tryz.prog W .any base t v := hval0
  have hpost : ∀ W', Below W.heap.size W W' → Rows.audioChangedSpec.post enc Tryz.prog Tryz.f5 false true false false W args (.bool true) W' := fun W' hb =>
    law_post (by kernel_rfl) Tryz.underlying4 (by kernel_rfl) rfl (fun ds hl => match ds, hl with | [d1, d2, d3, d4, d5, d6], _ => ⟨rfl, rfl, rfl⟩) hW hb
  obtain ⟨p, q, hA0, hV, rfl, hfz, hnd⟩ := hW
  have hA : DataW.TrodAll enc Tryz.prog W 0 (fun _ => true) true Tryz.f5.params.toList args.toList ds p := hA0
  rw [Tryz.params5] at hA hval
  obtain ⟨v0, vs0, d0, ds0, p0, q0, hargs, rfl, rfl, h0, r0⟩ := trodAll_cons hA
  obtain ⟨v1, vs1, d1, ds1, p1, q1, rfl, rfl, rfl, h1, r1⟩ := trodAll_cons r0
  obtain ⟨v2, vs2, d2, ds2, p2, q2, rfl, rfl, rfl, h2, r2⟩ := trodAll_cons r1
  obtain ⟨v3, vs3, d3, ds3, p3, q3, rfl, rfl, rfl, h3, r3⟩ := trodAll_cons r2
  obtain ⟨v4, vs4, d4, ds4, p4, q4, rfl, rfl, rfl, h4, r4⟩ := trodAll_cons r3
  obtain ⟨v5, vs5, d5, ds5, p5, q5, rfl, rfl, rfl, h5, r5⟩ := trodAll_cons r4
  obtain ⟨rfl, rfl, rfl⟩ := trodAll_nil r5
  obtain rfl : args = #[v0, v1, v2, v3, v4, v5] := by cases args; simp_all
  obtain ⟨a0, rfl, rfl, rfl, w0⟩ := open_int Tryz.underlying3 (hval 0 3 v0 rfl rfl) h0
  obtain ⟨a1, rfl, rfl, rfl, w1⟩ := open_int Tryz.underlying3 (hval 1 3 v1 rfl rfl) h1
  obtain ⟨A2, n2, c2, xs2, rfl, hz2, hr2, hb2, hn2, hc2⟩ := open_rowc Tryz.underlying22 Tryz.underlying5 (by kernel_rfl) (hval 2 22 v2 rfl rfl) h2
  obtain ⟨a3, rfl, rfl, rfl, w3⟩ := open_int Tryz.underlying3 (hval 3 3 v3 rfl rfl) h3
  obtain ⟨a4, rfl, rfl, rfl, w4⟩ := open_int Tryz.underlying5 (hval 4 5 v4 rfl rfl) h4
  obtain ⟨a5, rfl, rfl, rfl, w5⟩ := open_int Tryz.underlying3 (hval 5 3 v5 rfl rfl) h5
  refine (walk audioOK a0 a1 A2 n2 c2 xs2 a3 a4 (bounds_u8 w4) a5 W hz2 hr2 (range_bytes hb2) hn2 hc2).mono fun e W' ⟨he, hb⟩ => ⟨_, he, hpost W' hb⟩

/-- The statement. -/
theorem proved : Rows.AudioChangedSaid :=
  OpenClaim.holds_of_wide 5 Tryz.f5 rfl rfl rfl rfl rfl rfl rfl ⟨rfl, rfl, rfl, rfl, rfl⟩ rfl rfl rfl rfl rfl (by kernel_rfl) Tryz.func5 (by kernel_rfl)
    (of_decide_eq_true (by kernel_rfl)) (by unfold Func.isWrapper; first | (rw [if_pos (by decide +kernel)]; kernel_rfl) | (rw [if_neg (by decide +kernel)]; exact ⟨rfl, rfl⟩))
    (fun os started H enc _ => lifted os started H enc)
#print axioms proved

end Go.Proofs.YtodmchjdflpbpaaGreat.audioChanged
