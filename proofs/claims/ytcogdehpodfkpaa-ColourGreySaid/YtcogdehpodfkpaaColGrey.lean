/- ColourGrey: of pixels that are grey nothing is left but their green. -/
import Derived.Test.YtcogdehpodfkpaaColCa
import Derived.Test.YtcogdehpodfkpaaArgs
import Derived.Deep.AppendLies
namespace Go.Proofs.Ytcogdehpodfkpaa.colourGrey
open Go.ChangeShapes Go.WideShapes Go.ChangeAt Go.RowKit

attribute [local go_sem ↓] Go.wp_at_zero Go.wp_at_succ

/-- Each byte three times. -/
def gre (l : List Int) : Nat → List Int
  | 0 => []
  | j + 1 => gre l j ++ [l.getD j 0, l.getD j 0, l.getD j 0]
theorem gre_length (l : List Int) : ∀ j, (gre l j).length = 3 * j
  | 0 => rfl
  | j + 1 => by rw [gre, List.length_append, gre_length l j]; simp; omega
theorem gre_at (l : List Int) : ∀ J j r, j < J → r < 3 → (gre l J).getD (3 * j + r) 0 = l.getD j 0
  | J + 1, j, r, hj, hr => by
    rw [gre]
    simp only [List.getD]
    rcases Nat.lt_or_ge j J with h | h
    · rw [List.getElem?_append_left (by rw [gre_length]; omega)]
      exact gre_at l J j r h hr
    · obtain rfl : j = J := by omega
      rw [List.getElem?_append_right (by rw [gre_length]; omega), gre_length, Nat.add_sub_cancel_left]
      match r, hr with
      | 0, _ => rfl
      | 1, _ => rfl
      | 2, _ => rfl
theorem gre_byte {l : List Int} (h : B8 l) : ∀ j, B8 (gre l j)
  | 0 => fun x hx => by cases hx
  | j + 1 => fun x hx => by
    have := h.at_ j
    rw [gre, List.mem_append] at hx
    rcases hx with hx | hx
    · exact gre_byte h j x hx
    · simp only [List.mem_cons, List.not_mem_nil, or_false] at hx
      rcases hx with rfl | rfl | rfl <;> exact this
/-- Turned, nothing is left but the green. -/
theorem gre_trn {l : List Int} {n j : Nat} (hj : j < n) : (trn (-1) (gre l n)).getD (3 * j) 0 = 0 ∧ (trn (-1) (gre l n)).getD (3 * j + 1) 0 = l.getD j 0 ∧ (trn (-1) (gre l n)).getD (3 * j + 2) 0 = 0 := by
  have hl := gre_length l n
  have a0 := gre_at l n j 0 hj (by omega)
  have a1 := gre_at l n j 1 hj (by omega)
  have a2 := gre_at l n j 2 hj (by omega)
  rw [Nat.add_zero] at a0
  refine ⟨?_, ?_, ?_⟩
  · rw [trn, tn_getD (by omega), trv, if_pos (by omega), if_pos (by omega), a0, a1]
    omega
  · rw [trn, tn_getD (by omega), trv, if_pos (by omega), if_neg (by omega), if_neg (by omega), a1]
  · rw [trn, tn_getD (by omega), trv, if_pos (by omega), if_neg (by omega), if_pos (by omega), a2, show 3 * j + 2 - 1 = 3 * j + 1 by omega, a1]
    omega

set_option maxRecDepth 100000 in
set_option maxHeartbeats 6400000 in
theorem walk (ok : ColourOK) (A : Option Addr) (n c : Nat) (xs : List Int) (w : World) (_ : A = none → c = 0) (hr : Row w .u8 A n xs) (hb : ∀ x ∈ xs, 0 ≤ x ∧ x < 256) (_ : n ≤ maxLen) (_ : n ≤ c) :
    Calls Try.prog 5 #[.slice A n c] w fun e w' => e = .returned (.bool true) ∧ Below w.heap.size w w' := by
  obtain ⟨i0, hi, hz0, hz1, hz2⟩ := info_parts Try.infoCol
  by_cases hlong : 1000 < n
  · have h1 : 1000 < (n : Int) := by omega
    have HA := Lib.hid (awakeC_any ok w)
    clear hr ok
    go_enter Try.func5, Try.ntmps5
    go_wp2_with fail
    refine HA.out.mono ?_
    rintro e w1 ⟨rfl, hf⟩
    have HF := Lib.hid hf.toBelow
    clear hf HA
    go_wp2_with fail
    go_ret
    exact ⟨rfl, HF.out⟩
  · have h1 : ¬ 1000 < (n : Int) := by omega
    have hlen := hr.len
    have HQ : Hid (∀ V, Fresh w V → Row V .u8 A n xs) := Lib.hid fun V hV => hr.fresh hV
    have HO := Lib.hid ok
    have HB : Hid (B8 xs) := Lib.hid hb
    clear hr hb ok hlen
    go_enter Try.func5, Try.ntmps5
    go_wp2_with fail
    go_loopw [4, 3] (fun i u wr => ∃ j : Nat, j ≤ n ∧ i = .int .i64 j ∧ NewRow w wr 5 .u8 u (gre xs j)) (fun i _ _ => (n - intOf i).toNat)
    case atStart => exact ⟨0, by omega, rfl, NewRow.none _ _ _⟩
    case round =>
      obtain ⟨j, hj, rfl, hu⟩ := hrel
      have H3 := Lib.hid hu
      have hrow := HQ.out wr hu.2.2
      clear hu
      by_cases hlt : j < n
      · obtain ⟨b, o, rfl, hb, hc⟩ := hrow.at_ j hlt
        have ij : (j : Int) < (n : Int) := by omega
        have hlj := gre_length xs j
        have Hs : Hid (gre xs (j + 1) = gre xs j ++ [xs.getD j 0, xs.getD j 0, xs.getD j 0]) := Lib.hid rfl
        have hx := HB.out.at_ j
        generalize xs.getD j 0 = x at *
        generalize hge : gre xs j = gs at *
        have HL := Lib.hid (And.intro hlj hge)
        have hgl : gs.length ≤ 3000 := by omega
        have hbu : u3.ownBlock ≠ some b := fun e => by
          have h1 := H3.out.2.1 b e
          obtain ⟨b', o', e', hb', _⟩ := (HQ.out w (Kept.refl _ _)).at_ j hlt
          injection e' with e'
          injection e' with e1 e2
          omega
        clear hrow hlj hge
        go_wp2_with fail
        go_region_held3 (fun V => V.cell? ⟨b, o + j, none⟩ = some (.int .u8 x)) (first | go_keep | exact c4)
          (first
            | (refine step_append_lies _ (by rfl) _ _ _ (by rfl) 0 5 i0 (.int .u8 0) 1 1 Try.underlying22 hi hz0 hz1 hz2 rfl (by decide) u3 gs.length (ivs .u8 gs) (by rfl) (World.ownsRow.alloc H3.out.1 _) ⟨wr.heap.size, 0, none⟩ 3 3 (ivs .u8 [x, x, x]) (by rfl) (by rfl) (Row.laidF wr 5 .u8 [x, x, x]).news (ivs_one _ _) (by decide) (by unfold maxLen; omega) (by omega) (by omega) (wr.heap.size + 1) (by simp) ?_
               intro q cap w4 hown4 hgrow hat hlt4
               have c4 : w4.cell? ⟨b, o + j, none⟩ = some (.int .u8 x) := (hgrow.cell_far _ (by simp; omega) (Ne.symm hbu)).trans ((World.cell?_alloc_lt _ _ _ hb).trans hc)))
        have ho9 : Own w4 5 .u8 (.slice (some ⟨q, 0, none⟩) (gs.length + 3) cap) (gre xs (j + 1)) := by
          rw [Hs.out]
          exact Own.of_append hown4 rfl
        have H9 : Hid (NewRow w w4 5 .u8 (.slice (some ⟨q, 0, none⟩) (gs.length + 3) cap) (gre xs (j + 1))) := Lib.hid ⟨ho9, fun m e => by
          have : q = m := by simpa [Value.ownBlock] using e
          subst this
          have := H3.out.2.2.size
          rcases hat with e2 | e2
          · exact H3.out.2.1 q e2
          · omega, ((H3.out.2.2.drewN 1).alloc _).grown hgrow (fun m e hm => absurd (H3.out.2.1 m e) (by omega))⟩
        clear ho9 hgrow hat H3 hown4 c4 hc
        go_wp2_with fail
        go_roundw
        case rel => exact ⟨j + 1, by omega, by go_num, H9.out⟩
        case measure => simp [intOf]; omega
      · have hjn : n = j := by omega
        subst hjn
        have hcap := H3.out.1
        obtain ⟨Au, cu, rfl, hru, _⟩ := H3.out.1.row
        have hcu := hcap.cap
        have hl3 := gre_length xs n
        have HF1 := Lib.hid H3.out.2.2
        have HT := HO.out.turn Au (gre xs n).length cu (gre xs n) wr hru (gre_byte HB.out n) (by omega) hcu
        have hlx := trn_length (-1) (gre xs n)
        have HAt : Hid (∀ j, j < n → (trn (-1) (gre xs n)).getD (3 * j) 0 = 0 ∧ (trn (-1) (gre xs n)).getD (3 * j + 1) 0 = xs.getD j 0 ∧ (trn (-1) (gre xs n)).getD (3 * j + 2) 0 = 0) := Lib.hid fun j hj => gre_trn hj
        obtain ⟨ys, hys⟩ : ∃ ys, trn (-1) (gre xs n) = ys := ⟨_, rfl⟩
        rw [hys] at HT hlx HAt
        rw [hl3] at HT hlx ⊢
        have HT := Lib.hid HT
        have HY := Lib.hid hlx
        have hAw : Hid (∀ V, Calls Try.prog 7 #[] V fun e w' => e = .returned (.bool true) ∧ Fresh V w') := Lib.hid fun V => awakeC_any HO.out V
        have hself : ((3 * (n : Int)) != (3 * (n : Int))) = false := by simp
        clear H3 hru hcap hcu hl3 hlx hys hrow
        go_wp2_with fail
        refine HT.out.mono ?_
        rintro e w2 ⟨v, rfl, hv, _, hf2⟩
        obtain ⟨Av, cv, rfl, hrv, _⟩ := hv.row
        rw [HY.out] at hrv ⊢
        have HF2 := Lib.hid (Fresh.two HF1.out hf2)
        have HRv : Hid (∀ V, Fresh w2 V → Row V .u8 Av (3 * n) ys) := Lib.hid fun V hV => hrv.fresh hV
        clear hv hrv hf2 HT HF1
        go_wp2_with fail
        refine (hAw.out _).mono ?_
        rintro e w3 ⟨rfl, hf3⟩
        have HF3 := Lib.hid (Fresh.two HF2.out hf3)
        have HRw : Hid (∀ V, Fresh w3 V → Row V .u8 Av (3 * n) ys ∧ Row V .u8 A n xs) := Lib.hid fun V hV => ⟨HRv.out V (Fresh.two hf3 hV), HQ.out V (Fresh.two HF3.out hV)⟩
        clear hf3 HF2 HRv
        go_wp2_with fail
        go_loopw [6] (fun i V => ∃ j : Nat, j ≤ n ∧ i = .int .i64 j ∧ Fresh w3 V) (fun i _ => (n - intOf i).toNat)
        case atStart => exact ⟨0, by omega, rfl, Kept.refl _ _⟩
        case round =>
          obtain ⟨j, hj, rfl, hfr⟩ := hrel
          have HFr := Lib.hid hfr
          by_cases hjl : j < n
          · obtain ⟨hr1, hr2⟩ := HRw.out wr hfr
            obtain ⟨b1, o1, rfl, hb1, c0⟩ := hr1.at_ (3 * j) (by omega)
            obtain ⟨b1', o1', e', _, c1⟩ := hr1.at_ (3 * j + 1) (by omega)
            injection e' with e'
            injection e' with e1 e2
            subst e1 e2
            obtain ⟨b1', o1', e', _, c2⟩ := hr1.at_ (3 * j + 2) (by omega)
            injection e' with e'
            injection e' with e1 e2
            subst e1 e2
            obtain ⟨b2, o2, rfl, hb2, c3⟩ := hr2.at_ j hjl
            obtain ⟨a0, a1, a2⟩ := HAt.out j hjl
            rw [a0] at c0
            rw [a1] at c1
            rw [a2] at c2
            have hx := HB.out.at_ j
            generalize xs.getD j 0 = x at *
            have hsx : (x != x) = false := by simp
            have ij : (j : Int) < (n : Int) := by omega
            clear hr1 hr2 a0 a1 a2 hfr
            go_wp2_with fail
            go_region
            clear c0 c1 c2 c3
            go_wp2_with fail
            go_roundw
            case rel => exact ⟨j + 1, by omega, by go_num, HFr.out.drew⟩
            case measure => simp [intOf]; omega
          · clear hfr
            have HL := Lib.hid (Fresh.two HF3.out HFr.out).toBelow
            go_wp2_with fail
            go_ret
            exact ⟨rfl, HL.out⟩

set_option maxRecDepth 100000 in
theorem lifted (os : Os) (started : os.Started) (H : Type) (enc : TypeId × Value → H) :
    ReturnsInHanded {} Try.checked os 5 .any (Rows.colourGreySpec.pre6 enc Try.prog Try.f5 Rows.colourGreyRow.domain false) (Rows.colourGreySpec.post enc Try.prog Try.f5 false true false false) := by
  refine returnsInHanded_of_change (C := Try.checked) Try.own started (by kernel_rfl) Try.func5
    (ChangeSpec.witness6 (enc := enc) (C := Try.checked) false ⟨#[], #[.slice none 0 0], []⟩ 8 (by kernel_rfl) (by kernel_rfl) (by kernel_rfl) (by kernel_rfl)) ?_
  intro W base args ds gs before hval0 hW hcnd _
  have hval : ∀ (j : Nat) t v, Try.f5.params[j]? = some t → args[j]? = some v → Value.okWide Try.prog W .any base t v := hval0
  have hpost : ∀ W', Below W.heap.size W W' → Rows.colourGreySpec.post enc Try.prog Try.f5 false true false false W args (.bool true) W' := fun W' hb =>
    law_post (by kernel_rfl) Try.underlying4 (by kernel_rfl) rfl (fun ds hl => match ds, hl with | [d1], _ => ⟨rfl, rfl, rfl⟩) hW hb
  obtain ⟨p, q, hA0, hV, rfl, hfz, hnd⟩ := hW
  have hA : DataW.TrodAll enc Try.prog W 0 (fun _ => true) true Try.f5.params.toList args.toList ds p := hA0
  rw [Try.params5] at hA hval
  obtain ⟨v0, vs0, d0, ds0, p0, q0, hargs, rfl, rfl, h0, r0⟩ := trodAll_cons hA
  obtain ⟨rfl, rfl, rfl⟩ := trodAll_nil r0
  obtain rfl : args = #[v0] := by cases args; simp_all
  obtain ⟨A0, n0, c0, xs0, rfl, hz0, hr0, hb0, hn0, hc0⟩ := open_rowc Try.underlying22 Try.underlying5 (by kernel_rfl) (hval 0 22 v0 rfl rfl) h0
  refine (walk colourOK A0 n0 c0 xs0 W hz0 hr0 (range_bytes hb0) hn0 hc0).mono fun e W' ⟨he, hb⟩ => ⟨_, he, hpost W' hb⟩

/-- The statement. -/
theorem proved : Rows.ColourGreySaid :=
  OpenClaim.holds_of_wide 5 Try.f5 rfl rfl rfl rfl rfl rfl rfl ⟨rfl, rfl, rfl, rfl, rfl⟩ rfl rfl rfl rfl rfl (by kernel_rfl) Try.func5 (by kernel_rfl)
    (of_decide_eq_true (by kernel_rfl)) (by unfold Func.isWrapper; first | (rw [if_pos (by decide +kernel)]; kernel_rfl) | (rw [if_neg (by decide +kernel)]; exact ⟨rfl, rfl⟩))
    (fun os started H enc _ => lifted os started H enc)
#print axioms proved

end Go.Proofs.Ytcogdehpodfkpaa.colourGrey
