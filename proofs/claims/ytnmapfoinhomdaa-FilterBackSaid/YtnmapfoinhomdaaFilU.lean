/- The document's Undo of filters. -/
import Derived.Test.YtnmapfoinhomdaaFilT
namespace Go.Proofs.Ytnmapfoinhomdaa
open Go.RowKit
set_option maxRecDepth 100000

attribute [local go_sem ↓] Go.wp_at_zero Go.wp_at_succ

/-- What Undo tells where rows may be turned back. -/
def UdO (w w' : World) (e : Ending) (x : List Int) (wd n : Nat) : Prop :=
  (kndF x wd ∧ ∃ u, e = .returned (.tuple #[u, .int .i64 0]) ∧ NewRow w w' 5 .u8 u (udF x wd n)) ∨
  (¬ kndF x wd ∧ e = .returned (.tuple #[.slice none 0 0, .int .i64 4]) ∧ Fresh w w')

set_option maxHeartbeats 6400000 in
theorem qUndoF_any (A : Option Addr) (n c : Nat) (x : List Int) (wd : Nat) (p : Int) (w : World) (hr : Row w .u8 A n x) (h8 : B8 x) (hnc : n ≤ c) (h1 : 1 ≤ wd ∧ wd ≤ 1048576) (h2 : 1 ≤ p ∧ p ≤ 4) (hm : n % (wd + 1) = 0) (hn : n - n / (wd + 1) ≤ 1048576) :
    Calls Try.prog 23 #[.slice A n c, .int .i64 (wd : Int), .int .i64 p] w fun e w' => UdO w w' e x wd (plN p) := by
  obtain ⟨i0, hi0, hz0, hz1, hz2⟩ := info_parts Try.infoCol
  obtain rfl := hr.len
  have HR : Hid (∀ V, Fresh w V → Row V .u8 A x.length x) := Lib.hid fun V hV => hr.fresh hV
  have H8 := Lib.hid h8
  have hR : x.length / (wd + 1) * (wd + 1) = x.length := by
    have := Nat.div_add_mod x.length (wd + 1)
    rw [hm, Nat.mul_comm] at this
    omega
  obtain ⟨R, hRe⟩ : ∃ R, x.length / (wd + 1) = R := ⟨_, rfl⟩
  rw [hRe] at hR hn
  have hRR : R * 2 ≤ x.length := by
    rw [← hR]
    exact Nat.mul_le_mul_left _ (by omega)
  have hxl : x.length ≤ 2097152 := by omega
  have c1 : ¬ (wd : Int) < 1 := by omega
  have c2 : ¬ 1048576 < (wd : Int) := by omega
  have c3 : ¬ p < 1 := by omega
  have c4 : ¬ 4 < p := by omega
  have hmz : ((x.length : Nat) : Int) % ((wd : Int) + 1) = 0 := by exact_mod_cast hm
  have hmt : ((x.length : Nat) : Int).tmod ((wd : Int) + 1) = 0 := by rw [Int.tmod_eq_emod_of_nonneg (by omega)]; exact hmz
  have hdz : ((x.length : Nat) : Int) / ((wd : Int) + 1) = (R : Int) := by exact_mod_cast hRe
  have g1 : ((wd : Int) + 1 = 0) = False := by simp only [eq_iff_iff, iff_false]; omega
  have hn2 : ¬ 1048576 < (x.length : Int) - (R : Int) := by omega
  have HM := Lib.hid (And.intro hRe hR)
  clear hr h8 hm hRe hR hn
  go_enter Try.func23, Try.ntmps23
  go_wp2_with fail
  clear hmt hmz hdz hn2
  go_loopw [8] (fun i wr => ∃ r q : Nat, q = r * (wd + 1) ∧ r ≤ R ∧ i = .int .i64 q ∧ wr = w ∧ ∀ r', r' < r → x.getD (r' * (wd + 1)) 0 ≤ 4) (fun i _ => (x.length - intOf i).toNat)
  case atStart => exact ⟨0, 0, by simp, by omega, rfl, rfl, fun r' h => absurd h (Nat.not_lt_zero _)⟩
  case round =>
    obtain ⟨r, q, hq, hr', rfl, hwe, hall⟩ := hrel
    have hwe := hwe.symm
    subst hwe
    have HQ := Lib.hid (And.intro hq (And.intro hr' hall))
    by_cases hlt : q < x.length
    · have hrR : r < R := by
        rcases Nat.lt_or_ge r R with h | h
        · exact h
        · exfalso
          have : r = R := by omega
          subst this
          rw [HM.out.2] at hq
          omega
      have hqw : q + (wd + 1) ≤ x.length := by
        have := Nat.mul_le_mul_right (wd + 1) (show r + 1 ≤ R from hrR)
        rw [HM.out.2, Nat.add_mul r 1 (wd + 1), Nat.one_mul, ← hq] at this
        exact this
      obtain ⟨b, o, rfl, hb, hc⟩ := (HR.out w (Kept.refl _ _)).at_ q hlt
      have hx := H8.out.at_ q
      have HX : Hid (∀ v, x.getD q 0 = v → x.getD (r * (wd + 1)) 0 = v) := Lib.hid fun v h => by rw [← hq]; exact h
      generalize hv : x.getD q 0 = v at *
      have HV := Lib.hid (HX.out v rfl)
      have q0 : (q : Int) < (x.length : Int) := by omega
      have HQ2 : Hid (q + (wd + 1) = (r + 1) * (wd + 1)) := Lib.hid (by rw [hq, Nat.add_mul r 1 (wd + 1), Nat.one_mul])
      clear hv hq hr' hall HX
      by_cases h4 : 4 < v
      · have HNo : Hid (¬ kndF x wd) := Lib.hid fun h => by
          have := h r (by rw [HM.out.1]; exact hrR)
          rw [HV.out] at this
          omega
        go_wp2_with fail
        go_ret2
        exact .inr ⟨HNo.out, rfl, Kept.refl _ _⟩
      · go_wp2_with fail
        go_roundw
        case rel => exact ⟨r + 1, q + (wd + 1), HQ2.out, hrR, by go_num, trivial, fun r' h' => by
          by_cases e : r' = r
          · rw [e, HV.out]
            omega
          · exact HQ.out.2.2 r' (by omega)⟩
        case measure => simp [intOf]; omega
    · have hrR : r = R := by
        rcases Nat.lt_or_ge r R with h | h
        · exfalso
          have := Nat.mul_le_mul_right (wd + 1) (show r + 1 ≤ R from h)
          rw [HM.out.2, Nat.add_mul r 1 (wd + 1), Nat.one_mul, ← hq] at this
          omega
        · omega
      have HK : Hid (kndF x wd) := Lib.hid fun r' h' => hall r' (by rw [HM.out.1] at h'; omega)
      have q0 : ¬ (q : Int) < (x.length : Int) := by omega
      clear hq hr' hall HQ
      go_wp2_with fail
      go_loopw [11, 9, 10] (fun i u v wr => ∃ r q : Nat, q = r * (wd + 1) ∧ r ≤ R ∧ i = .int .i64 q ∧ NewRow w wr 5 .u8 u (udN x wd (plN p) r) ∧ NewRow w wr 5 .u8 v (upN x wd (plN p) r) ∧ ∀ g, u.ownBlock = some g → v.ownBlock ≠ some g) (fun i _ _ _ => (x.length - intOf i).toNat)
      case atStart => exact ⟨0, 0, by simp, by omega, rfl, NewRow.none _ _ _, NewRow.none _ _ _, fun g e => (by cases e)⟩
      case round =>
        obtain ⟨r, q, hq, hr', rfl, hu, hv, hne⟩ := hrel
        have HQ := Lib.hid (And.intro hq hr')
        have HN := Lib.hid (And.intro hu (And.intro hv.2.2 (And.intro hv.2.1 hne)))
        by_cases hlt : q < x.length
        · have hrR : r < R := by
            rcases Nat.lt_or_ge r R with h | h
            · exact h
            · exfalso
              have : r = R := by omega
              subst this
              rw [HM.out.2] at hq
              omega
          have hqw : q + (wd + 1) ≤ x.length := by
            have := Nat.mul_le_mul_right (wd + 1) (show r + 1 ≤ R from hrR)
            rw [HM.out.2, Nat.add_mul r 1 (wd + 1), Nat.one_mul, ← hq] at this
            exact this
          obtain ⟨b, o, rfl, hb, hc⟩ := (HR.out wr hu.2.2).at_ q hlt
          have hx := H8.out.at_ q
          have hrw : (x.drop (q + 1)).take wd = rwF x wd r := by rw [hq]; rfl
          have hrow : Row wr .u8 (cutAt (some ⟨b, o, none⟩) (q + 1) c) wd (rwF x wd r) := by
            have := (HR.out wr hu.2.2).cut (l := q + 1) (m := wd) (c := c) (by omega) hnc
            rwa [hrw] at this
          have hbs : ∀ W, (Instr.slice 22 (.slice (some ⟨b, o, none⟩) x.length c) (some (.int .i64 ((q : Int) + 1))) (some (.int .i64 ((q : Int) + 1 + (wd : Int)))) none).run Try.prog W = .ok (.slice (cutAt (some ⟨b, o, none⟩) (q + 1) c) wd (c - (q + 1))) W := fun W => by
            have := run_slice_part (P := Try.prog) 22 5 Try.underlying22 (fun w => by simp [sizeOf, typeInfo, hi0, hz1]) (some ⟨b, o, none⟩) x.length c (q + 1) (q + 1 + wd) ((q : Int) + 1 + (wd : Int)) (by omega) (by omega) (by omega) W
            rw [Nat.add_sub_cancel_left] at this
            exact this
          obtain ⟨U, cu, rfl, hru, hrb⟩ := hv.1.row
          have hml := upN_le (x := x) (w := wd) (n := plN p) r (by rw [← hq]; omega)
          have HU : Hid (∀ m : Nat, Calls Try.prog 14 #[.int .i64 (x.getD q 0), .slice (cutAt (some ⟨b, o, none⟩) (q + 1) c) wd (c - (q + 1)), .slice U (upN x wd (plN p) r).length cu, .int .i64 p] (wr.drewN m) fun e w' => ∃ u, e = .returned u ∧ NewRow (wr.drewN m) w' 5 .u8 u (upN x wd (plN p) (r + 1))) := Lib.hid fun m => by
            rw [upN, ← hq]
            exact qUnF_any (cutAt (some ⟨b, o, none⟩) (q + 1) c) wd (c - (q + 1)) (rwF x wd r) U _ cu (upN x wd (plN p) r) (x.getD q 0) p (wr.drewN m) (hrow.drewN m) (hru.drewN m) (rwF_byte H8.out _ _) (upN_byte _ _ _ _) (by omega) (by omega) (by omega)
          have Hud : Hid (udN x wd (plN p) (r + 1) = udN x wd (plN p) r ++ upN x wd (plN p) (r + 1)) := Lib.hid rfl
          have HL1 : Hid ((upN x wd (plN p) (r + 1)).length = wd) := Lib.hid (upN_length _ (by omega) (by rw [Nat.add_mul r 1 (wd + 1), Nat.one_mul, ← hq]; exact hqw))
          have hlen := udN_length (x := x) (w := wd) (n := plN p) r (by rw [← hq]; omega)
          have hl2 : (udN x wd (plN p) r).length ≤ 3000000 := by
            rw [hlen]
            have : r * wd ≤ r * (wd + 1) := Nat.mul_le_mul_left _ (by omega)
            omega
          generalize hv0 : x.getD q 0 = v at *
          generalize hmm : (upN x wd (plN p) r).length = m at *
          generalize hxs : udN x wd (plN p) r = xs at *
          obtain ⟨X, hX⟩ : ∃ X, upN x wd (plN p) (r + 1) = X := ⟨_, rfl⟩
          have HXe := Lib.hid hX
          rw [hX] at Hud HL1
          simp only [hX] at HU
          generalize hCA : cutAt (some ⟨b, o, none⟩) (q + 1) c = CA at *
          have qw : IntKind.i64.wrap ((q : Int) + 1) = (q : Int) + 1 := IntWalk.i64_in _ (by omega)
          have qw2 : IntKind.i64.wrap ((q : Int) + 1 + (wd : Int)) = (q : Int) + 1 + (wd : Int) := IntWalk.i64_in _ (by omega)
          have qv : IntKind.i64.wrap v = v := IntWalk.i64_in _ (by omega)
          have q0 : (q : Int) < (x.length : Int) := by omega
          clear hu hv hne hrow hq hlen hr' hxs hX hmm hCA hrw hru hrb hv0
          go_wp2_with fail
          go_region_held3 (fun w' => w'.cell? ⟨b, o + q, none⟩ = some (.int .u8 v)) (first | go_keep | exact c5)
            (first | (go_at_call 14; refine (HU.out _).mono ?_; rintro e2 w2 ⟨uX, rfl, hnX⟩; have c5 : w2.cell? ⟨b, o + q, none⟩ = some (.int .u8 v) := (hnX.2.2.cell hb id).trans hc))
          have hs2 := hnX.2.2.size
          have hf2 : Fresh wr w2 := ((Kept.refl (fun _ => False) wr).drewN 1).trans hnX.2.2 fun _ _ e => e
          have hN2 := HN.out.1.fresh hf2
          have hXb : ∀ g, uX.ownBlock = some g → wr.heap.size ≤ g := hnX.2.1
          have hX1 := hnX.1
          obtain ⟨D, cD, eX, hrD, _⟩ := hnX.1.row
          rw [HL1.out] at eX hrD
          subst eX
          have HX := Lib.hid (And.intro hX1 (And.intro hXb (And.intro hs2 hf2)))
          have HN2 := Lib.hid hN2
          have HD := Lib.hid hrD
          clear hnX hs2 hf2 hN2 hXb hX1 hrD c5 HU hbs
          go_wp2_with (at_builtin; refine wpList_app _ rfl _ _ 22 rfl 5 i0 .u8 1 Try.underlying22 hi0 hz0 hz1 hz2 u9 xs rfl HN2.out.1 D wd cD X rfl HD.out (by unfold maxLen; omega) (by omega) ?_)
          intro v3 w3 ho3 hg3 hat3
          have hk3 : Kept (fun k => u9.ownBlock = some k) w2 w3 := (Kept.refl _ _).grown hg3 (fun k e _ => e)
          have hf3 : Fresh w w3 := HN2.out.2.2.trans hk3 (fun i hi e => absurd (HN2.out.2.1 i e) (by omega))
          have HN3 : Hid (NewRow w w3 5 .u8 v3 (udN x wd (plN p) (r + 1)) ∧ NewRow w w3 5 .u8 (.slice D wd cD) (upN x wd (plN p) (r + 1)) ∧ ∀ g, v3.ownBlock = some g → (Value.slice D wd cD).ownBlock ≠ some g) := Lib.hid
            ⟨by rw [Hud.out]; exact HN2.out.app ho3 hg3 hat3,
             ⟨by
               rw [HXe.out]
               exact HX.out.1.kept hk3 (fun g e e2 => by
                have h1 := HX.out.2.1 g e
                have h2 := HN.out.1.1.lt e2
                omega), fun g e => Nat.le_trans HN.out.1.2.2.size (HX.out.2.1 g e), hf3⟩,
             fun g e e2 => by
              rcases hat3 with e3 | e3
              · have h1 := HX.out.2.1 g e2
                have h2 := HN.out.1.1.lt (e3 ▸ e)
                omega
              · rw [e3] at e
                injection e with e
                have := HX.out.1.lt e2
                omega⟩
          have HQ2 : Hid (q + (wd + 1) = (r + 1) * (wd + 1)) := Lib.hid (by rw [HQ.out.1, Nat.add_mul r 1 (wd + 1), Nat.one_mul])
          clear ho3 hg3 hat3 hk3 hf3 HN2 HX HD HN
          go_wp2_with fail
          go_roundw
          case rel => exact ⟨r + 1, q + (wd + 1), HQ2.out, hrR, by go_num, HN3.out.1, HN3.out.2.1, HN3.out.2.2⟩
          case measure => simp [intOf]; omega
        · have hrR : r = R := by
            rcases Nat.lt_or_ge r R with h | h
            · exfalso
              have := Nat.mul_le_mul_right (wd + 1) (show r + 1 ≤ R from h)
              rw [HM.out.2, Nat.add_mul r 1 (wd + 1), Nat.one_mul, ← hq] at this
              omega
            · omega
          have HE : Hid (NewRow w wr 5 .u8 u9 (udF x wd (plN p))) := Lib.hid (by unfold udF; rw [HM.out.1, ← hrR]; exact hu)
          have q0 : ¬ (q : Int) < (x.length : Int) := by omega
          clear hu hv hne hq HN
          go_wp2_with fail
          go_ret2
          exact .inl ⟨HK.out, _, rfl, HE.out⟩

end Go.Proofs.Ytnmapfoinhomdaa
