/- The code's fits, sample, Split. -/
import Derived.Test.YtcpmjaoglbgmbaaTraQS
import Derived.Test.YtcpmjaoglbgmbaaCut
namespace Go.Proofs.Ytcpmjaoglbgmbaa
open Go.RowKit
set_option maxRecDepth 100000

attribute [local go_sem ↓] Go.wp_at_zero Go.wp_at_succ

set_option maxHeartbeats 1600000 in
theorem cFits_any (n bt : Int) (w : World) : Calls Try.prog 21 #[.int .i64 n, .int .i64 bt] w fun e w' => e = .returned (.bool (decide (fitT n bt))) ∧ w' = w := by
  by_cases h1 : 1 ≤ n
  · by_cases h2 : n ≤ 8
    · by_cases h3 : bt = 8
      · subst h3
        have hd : decide (fitT n 8) = true := decide_eq_true ⟨h1, h2, .inl rfl⟩
        rw [hd]
        clear hd
        go_enter Try.func21, Try.ntmps21
        go_wp2_with fail
        go_ret
        exact ⟨rfl, rfl⟩
      · by_cases h4 : bt = 16
        · subst h4
          have hd : decide (fitT n 16) = true := decide_eq_true ⟨h1, h2, .inr rfl⟩
          rw [hd]
          clear hd h3
          go_enter Try.func21, Try.ntmps21
          go_wp2_with fail
          go_ret
          exact ⟨rfl, rfl⟩
        · have hd : decide (fitT n bt) = false := decide_eq_false (fun h => h.2.2.elim h3 h4)
          rw [hd]
          have e3 : (bt == 8) = false := by simpa using h3
          have e4 : (bt == 16) = false := by simpa using h4
          clear hd h3 h4
          go_enter Try.func21, Try.ntmps21
          go_wp2_with fail
          go_ret
          exact ⟨rfl, rfl⟩
    · have hd : decide (fitT n bt) = false := decide_eq_false (fun h => h2 h.2.1)
      rw [hd]
      clear hd
      go_enter Try.func21, Try.ntmps21
      go_wp2_with fail
      go_ret
      exact ⟨rfl, rfl⟩
  · have hd : decide (fitT n bt) = false := decide_eq_false (fun h => h1 h.1)
    rw [hd]
    clear hd
    go_enter Try.func21, Try.ntmps21
    go_wp2_with fail
    go_ret
    exact ⟨rfl, rfl⟩

theorem idx_in {f c wd j k n : Nat} (hn : n = f * (c * wd)) (hj : j < f) (hk : k < c) : j * (c * wd) + k * wd + wd ≤ n := by
  have h1 : (k + 1) * wd ≤ c * wd := Nat.mul_le_mul_right _ hk
  have h2 : (j + 1) * (c * wd) ≤ f * (c * wd) := Nat.mul_le_mul_right _ hj
  rw [Nat.add_mul, Nat.one_mul] at h1 h2
  omega
theorem B8.cut {bs : List Int} (h : B8 bs) (p m : Nat) : B8 ((bs.drop p).take m) := fun x hx => h x (List.mem_of_mem_drop (List.mem_of_mem_take hx))
theorem smp_cut {bt : Int} {bs : List Int} {p : Nat} : smpT bt ((bs.drop p).take (bs.length - p)) 0 = smpT bt bs p := by
  rw [List.take_of_length_le (by rw [List.length_drop]; omega)]
  unfold smpT
  simp [List.getD, List.getElem?_drop]

set_option maxHeartbeats 1600000 in
theorem cSample8_any (A : Option Addr) (n c : Nat) (bs : List Int) (w : World) (hr : Row w .u8 A n bs) (h8 : B8 bs) (hn : 1 ≤ n) :
    Calls Try.prog 22 #[.slice A n c, .int .i64 8] w fun e w' => e = .returned (.int .i32 (smpT 8 bs 0)) ∧ ∃ k, w' = w.drewN k := by
  obtain ⟨b1, o1, rfl, hb1, hc1⟩ := hr.at_ 0 (by omega)
  have hx1 := h8.at_ 0
  have hs : smpT 8 bs 0 = bs.getD 0 0 - 128 := rfl
  rw [hs]
  generalize bs.getD 0 0 = x1 at *
  have h0 : (0 : Int) < (n : Int) := by omega
  rw [Nat.add_zero] at hc1
  clear hr h8 hs
  go_enter Try.func22, Try.ntmps22
  go_wp2_with fail
  go_ret
  exact ⟨rfl, 0, rfl⟩

set_option maxHeartbeats 1600000 in
theorem cSample16_any (A : Option Addr) (n c : Nat) (bs : List Int) (w : World) (hr : Row w .u8 A n bs) (h8 : B8 bs) (hn : 2 ≤ n) :
    Calls Try.prog 22 #[.slice A n c, .int .i64 16] w fun e w' => e = .returned (.int .i32 (smpT 16 bs 0)) ∧ ∃ k, w' = w.drewN k := by
  obtain ⟨b1, o1, rfl, hb1, hc1⟩ := hr.at_ 0 (by omega)
  obtain ⟨b1', o1', e', hb2, hc2⟩ := hr.at_ 1 (by omega)
  injection e' with e'
  injection e' with e1 e2
  subst e1 e2
  have hx1 := h8.at_ 0
  have hx2 := h8.at_ 1
  have hs : smpT 16 bs 0 = s16 (bs.getD 0 0 + 256 * bs.getD 1 0) := rfl
  rw [hs]
  generalize bs.getD 0 0 = x1 at *
  generalize bs.getD 1 0 = x2 at *
  rw [Nat.add_zero] at hc1
  have h0 : (0 : Int) < (n : Int) := by omega
  have h1 : (1 : Int) < (n : Int) := by omega
  clear hr h8 hs
  go_enter Try.func22, Try.ntmps22
  go_wp2_with fail
  go_region
  go_wp2_with fail
  go_ret
  exact ⟨ret_int (smp16 hx1 hx2), 1, rfl⟩

set_option maxHeartbeats 1600000 in
theorem cSplitArg_any (A : Option Addr) (n cA : Nat) (ch bt : Int) (w : World) (h : ¬ fitT ch bt) :
    Calls Try.prog 9 #[.slice A n cA, .int .i64 ch, .int .i64 bt] w fun e w' => SplNo w w' e 1 := by
  have HC := cFits_any ch bt w
  rw [decide_eq_false h] at HC
  have HC := Lib.hid HC
  clear h
  go_enter Try.func9, Try.ntmps9
  go_wp2_with fail
  refine HC.out.mono ?_
  rintro e w1 ⟨rfl, rfl⟩
  go_wp2_with fail
  go_ret2
  exact ⟨rfl, Kept.refl _ _⟩

set_option maxHeartbeats 1600000 in
theorem cSplitForm8_any (A : Option Addr) (n cA c : Nat) (w : World) (hc : 1 ≤ c ∧ c ≤ 8) (hn : n ≤ 16777216) (hm : n % (c * 1) ≠ 0) :
    Calls Try.prog 9 #[.slice A n cA, .int .i64 (c : Int), .int .i64 8] w fun e w' => SplNo w w' e 4 := by
  have HC := cFits_any (c : Int) 8 w
  rw [decide_eq_true (show fitT (c : Int) 8 from ⟨by omega, by omega, by omega⟩)] at HC
  have HC := Lib.hid HC
  obtain ⟨r, hr⟩ : ∃ r, n % (c * 1) = r := ⟨_, rfl⟩
  rw [hr] at hm
  have hmz : ((n : Nat) : Int) % (c : Int) = (r : Int) := by rw [Nat.mul_one] at hr; exact_mod_cast hr
  have hm2 : ((r : Int) != 0) = true := by simp; omega
  have g1 : (c = 0) = False := by simp only [eq_iff_iff, iff_false]; omega
  clear hr
  go_enter Try.func9, Try.ntmps9
  go_wp2_with fail
  refine HC.out.mono ?_
  rintro e w1 ⟨rfl, rfl⟩
  go_wp2_with fail
  go_ret2
  exact ⟨rfl, Kept.refl _ _⟩

set_option maxHeartbeats 3200000 in
theorem cSplit8_any (A : Option Addr) (cA c : Nat) (bs : List Int) (w : World) (hr : Row w .u8 A bs.length bs) (h8 : B8 bs) (hc : 1 ≤ c ∧ c ≤ 8) (hn : bs.length ≤ 16777216) (hca : bs.length ≤ cA) (hm : bs.length % (c * 1) = 0) :
    Calls Try.prog 9 #[.slice A bs.length cA, .int .i64 (c : Int), .int .i64 8] w fun e w' => SplT w w' e 8 bs c := by
  obtain ⟨i4, hi4, h40, h41, h42⟩ := info_parts Try.infoTr4
  have HC := cFits_any (c : Int) 8 w
  rw [decide_eq_true (show fitT (c : Int) 8 from ⟨by omega, by omega, by omega⟩)] at HC
  have HC := Lib.hid HC
  have HR : Hid (∀ V, Fresh w V → Row V .u8 A bs.length bs) := Lib.hid fun V hV => hr.kept hV (fun _ _ _ _ => id)
  have H8 := Lib.hid h8
  obtain ⟨f, hfe⟩ : ∃ f, bs.length / (c * 1) = f := ⟨_, rfl⟩
  have hfl : bs.length = f * (c * 1) := by rw [← hfe]; exact split_len (bt := 8) hm
  have hfn : f ≤ bs.length := by rw [← hfe]; exact Nat.div_le_self _ _
  have hmz : ((bs.length : Nat) : Int) % (c : Int) = 0 := by rw [Nat.mul_one] at hm; exact_mod_cast hm
  have hdz : ((bs.length : Nat) : Int) / (c : Int) = (f : Int) := by rw [Nat.mul_one] at hfe; exact_mod_cast hfe
  have g1 : (c = 0) = False := by simp only [eq_iff_iff, iff_false]; omega
  have HM := Lib.hid (And.intro hm (And.intro hfe hfl))
  clear hr h8 hm hfe hfl
  go_enter Try.func9, Try.ntmps9
  go_wp2_with fail
  refine HC.out.mono ?_
  rintro e w0 ⟨rfl, rfl⟩
  clear HC
  go_wp2_with (refine wpList_make_bag _ rfl _ _ rfl _ _ _ _ c rfl rfl rfl rfl (by omega) ?_)
  intro w1 hb1 hf1
  generalize hg : w0.heap.size = g at *
  have HG := Lib.hid hg
  have H1 := Lib.hid (And.intro hb1 hf1)
  clear hb1 hf1 hg
  go_wp2_with fail
  go_loopw [31] (fun i wr => ∃ k : Nat, k ≤ c ∧ i = .int .i64 k ∧ ∃ V, Bag wr g g c c V (fun i => if i < k then trkT 8 bs c i else []) ∧ Fresh w0 wr) (fun i _ => (c - intOf i).toNat)
  case atStart => exact ⟨0, by omega, rfl, _, H1.out.1.congr (fun i _ => by rw [if_neg (Nat.not_lt_zero _)]), H1.out.2⟩
  case round =>
    obtain ⟨k, hk, rfl, V, hb, hf⟩ := hrel
    clear H1
    have HB := Lib.hid (And.intro hb hf)
    clear hb hf
    by_cases hlt : k < c
    · have HV := Lib.hid (HB.out.1.slot hlt)
      have ik1 : (k : Int) < (c : Int) := by omega
      have hfz : ∀ j, Hid (wr.frozen? ⟨g, j, none⟩ = false) := fun j => Lib.hid (HB.out.1.frozen j)
      go_wp2_with (at_make; refine wpList_make_zeros _ rfl _ _ 32 rfl 21 i4 .i32 4 Try.underlying32 hi4 h40 h41 h42 _ _ _ _ f rfl rfl rfl rfl (by omega) (by unfold maxLen; omega) ?_)
      intro w2 ho2 hf2
      have hgl := HB.out.1.lt
      have c2 : w2.cell? ⟨g, k, none⟩ = some (V k) := (hf2.cell (p := ⟨g, k, none⟩) hgl id).trans HV.out
      have f2 : w2.frozen? ⟨g, k, none⟩ = false := (hf2.frozen (p := ⟨g, k, none⟩) hgl id).trans (hfz k).out
      have hgg := HG.out
      have hww := HB.out.2.size
      have hqq : wr.heap.size ≤ wr.heap.size := Nat.le_refl _
      generalize hq : wr.heap.size = q at ho2 hqq ⊢
      have hb3 := HB.out.1.put hlt (hf2.mono (fun _ _ e => e.elim)) ho2 (.inr ⟨q, rfl, by omega⟩) (by omega)
      have hf3 : Fresh w0 (w2.setCell ⟨g, k, none⟩ (.slice (some ⟨q, 0, none⟩) f f)) := (HB.out.2.trans hf2 (fun _ _ e => e)).setCell (p := ⟨g, k, none⟩) (fun h => absurd h (by simp only; omega)) _
      have H3 := Lib.hid (And.intro hb3 hf3)
      have hqg : g ≠ q := by omega
      have hq0 : w0.heap.size ≤ q := by omega
      clear hb3 hf3 ho2 hf2 hgl hgg hww hqq hq
      go_wp2_with fail
      go_loopw [47] (fun i wv => ∃ j : Nat, j ≤ f ∧ i = .int .i64 j ∧ Bag wv g g c c (fun x => if x = k then .slice (some ⟨q, 0, none⟩) f f else V x) (fun x => if x = k then tn j (fun j => smpT 8 bs ((j * c + k) * wdT 8)) ++ List.replicate (f - j) 0 else if x < k then trkT 8 bs c x else []) ∧ Fresh w0 wv) (fun i _ => (f - intOf i).toNat)
      case atStart => exact ⟨0, by omega, rfl, H3.out.1, H3.out.2⟩
      case round =>
        obtain ⟨j, hj, rfl, hb, hf⟩ := hrel
        have H4 := Lib.hid (And.intro hb hf)
        clear hb hf H3 c2 f2
        by_cases hjl : j < f
        · have hin := idx_in HM.out.2.2 hjl hlt
          rw [Nat.mul_one, Nat.mul_one] at hin
          have cg : wr.cell? ⟨g, k, none⟩ = some (.slice (some ⟨q, 0, none⟩) f f) := by
            have := H4.out.1.slot hlt
            rw [if_pos rfl] at this
            exact this
          have hl : ((fun x => if x = k then tn j (fun j => smpT 8 bs ((j * c + k) * wdT 8)) ++ List.replicate (f - j) 0 else if x < k then trkT 8 bs c x else []) k).length = f := by
            simp only [if_pos]
            rw [List.length_append, tn_length, List.length_replicate]
            omega
          obtain ⟨cq, fq⟩ := H4.out.1.cell hlt (if_pos rfl) hl hjl
          have hw := fun m => (H4.out.1.fresh ((Kept.refl (fun _ => False) wr).drewN m)).write (j := j) hlt (if_pos rfl) hl (smpT 8 bs ((j * c + k) * wdT 8))
          have HW : Hid (∀ m, Bag ((wr.drewN m).setCell ⟨q, j, none⟩ (.int .i32 (smpT 8 bs ((j * c + k) * wdT 8)))) g g c c (fun x => if x = k then .slice (some ⟨q, 0, none⟩) f f else V x) (fun x => if x = k then tn (j + 1) (fun j => smpT 8 bs ((j * c + k) * wdT 8)) ++ List.replicate (f - (j + 1)) 0 else if x < k then trkT 8 bs c x else []) ∧ Fresh w0 ((wr.drewN m).setCell ⟨q, j, none⟩ (.int .i32 (smpT 8 bs ((j * c + k) * wdT 8))))) := Lib.hid fun m => ⟨(hw m).congr (fun x _ => by
              by_cases hx : x = k
              · simp only [if_pos hx]
                rw [if_pos trivial, set_next _ _ _ _ (tn_length _ _) hjl, ← tn_succ j (fun j => smpT 8 bs ((j * c + k) * wdT 8))]
              · simp only [if_neg hx]), (H4.out.2.drewN m).setCell (p := ⟨q, j, none⟩) (fun h => absurd h (by simp only; omega)) _⟩
          have hidx : (j * c + k) * wdT 8 = j * c + k := by rw [Nat.add_mul, Nat.mul_assoc, show wdT 8 = 1 from rfl]; rw [Nat.mul_one, Nat.mul_one]
          have HS : Hid (∀ W, Fresh w0 W → Calls Try.prog 22 #[.slice (cutAt A (j * c + k) cA) (bs.length - (j * c + k)) (cA - (j * c + k)), .int .i64 8] W fun e w' => e = .returned (.int .i32 (smpT 8 bs ((j * c + k) * wdT 8))) ∧ ∃ m, w' = W.drewN m) := Lib.hid fun W hW => by
            have h := (HR.out W hW).cut (l := j * c + k) (m := bs.length - (j * c + k)) (c := cA) (by omega) hca
            have := cSample8_any _ _ (cA - (j * c + k)) _ W h (B8.cut H8.out _ _) (by omega)
            rw [smp_cut] at this
            rw [hidx]
            exact this
          have hsl : ∀ W, (Instr.slice 22 (.slice A bs.length cA) (some (.int .i64 ((j : Int) * (c : Int) + (k : Int)))) none none).run Try.prog W = .ok (.slice (cutAt A (j * c + k) cA) (bs.length - (j * c + k)) (cA - (j * c + k))) W := fun W => by
            obtain ⟨i0, hi, hz0, hz1, hz2⟩ := info_parts Try.infoTr1
            have := run_slice_from (P := Try.prog) 22 5 Try.underlying22 (fun w => by simp [sizeOf, typeInfo, hi, hz1]) A bs.length cA (j * c + k) (by omega) W
            rw [show (((j * c + k : Nat)) : Int) = (j : Int) * (c : Int) + (k : Int) by simp] at this
            exact this
          generalize smpT 8 bs ((j * c + k) * wdT 8) = xv at *
          generalize cutAt A (j * c + k) cA = CA at *
          have jf : (j : Int) < (f : Int) := by omega
          have em : (j : Int) * (c : Int) = ((j * c : Nat) : Int) := by simp
          have e1 : IntKind.i64.wrap ((j : Int) * (c : Int)) = (j : Int) * (c : Int) := IntWalk.i64_in _ (by rw [em]; omega)
          have e2 : IntKind.i64.wrap ((j : Int) * (c : Int) + (k : Int)) = (j : Int) * (c : Int) + (k : Int) := IntWalk.i64_in _ (by rw [em]; omega)
          have d1 : (wr.setCell ⟨q, j, none⟩ (.int .i32 xv)).cell? ⟨g, k, none⟩ = some (.slice (some ⟨q, 0, none⟩) f f) := (World.cell?_of_block (Below.heap_setCell wr ⟨q, j, none⟩ (.int .i32 xv) g hqg)).trans cg
          have e4 : IntKind.i64.wrap (k : Int) = (k : Int) := IntWalk.i64_in _ (by omega)
          have e5 : IntKind.i64.wrap ((k : Int) * 2) = (k : Int) * 2 := IntWalk.i64_in _ (by omega)
          have HF : Hid (Fresh w0 wr) := Lib.hid H4.out.2
          have jk : (0 : Int) ≤ (j : Int) := by omega
          have kk : (0 : Int) ≤ (k : Int) := by omega
          clear em hidx hin hw hl
          go_wp2_with fail
          go_region_held3 (fun W => W.cell? ⟨g, k, none⟩ = some (.slice (some ⟨q, 0, none⟩) f f)) (first | go_keep | exact d1)
            (first
              | (go_at_call 22; with_reducible refine (HS.out _ (by first | exact HF.out | exact HF.out.drew | exact HF.out.drewN _)).mono ?_; rintro e3 w3 ⟨rfl, n3, rfl⟩))
          have H5 := Lib.hid (HW.out (1 + n3))
          clear cg cq fq d1 HS hsl
          go_wp2_with fail
          go_roundw
          case rel => exact ⟨j + 1, by omega, by go_num, H5.out.1, H5.out.2⟩
          case measure => simp [intOf]; omega
        · obtain rfl : j = f := by omega
          have hb5 := H4.out.1.congr (T' := fun i => if i < k + 1 then trkT 8 bs c i else []) (fun x _ => by
            by_cases hx : x = k
            · rw [if_pos hx, if_pos (by omega), Nat.sub_self, List.replicate_zero, List.append_nil, hx, trkT, show bs.length / (c * wdT 8) = j from HM.out.2.1]
            · rw [if_neg hx]
              by_cases hx2 : x < k
              · rw [if_pos hx2, if_pos (by omega)]
              · rw [if_neg hx2, if_neg (by omega)])
          have H5 := Lib.hid (And.intro hb5 H4.out.2)
          clear hb5 H4
          go_wp2_with fail
          go_roundw
          case rel => exact ⟨k + 1, by omega, by go_num, _, H5.out.1, H5.out.2⟩
          case measure => simp [intOf]; omega
    · obtain rfl : k = c := by omega
      have hbe := HB.out.1.congr (T' := trkT 8 bs k) (fun i hi => if_pos hi)
      rw [← HG.out] at hbe
      have HE := Lib.hid (And.intro hbe HB.out.2)
      clear hbe HB
      go_wp2_with fail
      go_ret2
      rw [← HG.out]
      exact ⟨_, _, _, rfl, HE.out.1, HE.out.2⟩

set_option maxHeartbeats 1600000 in
theorem cSplitForm16_any (A : Option Addr) (n cA c : Nat) (w : World) (hc : 1 ≤ c ∧ c ≤ 8) (hn : n ≤ 16777216) (hm : n % (c * 2) ≠ 0) :
    Calls Try.prog 9 #[.slice A n cA, .int .i64 (c : Int), .int .i64 16] w fun e w' => SplNo w w' e 4 := by
  have HC := cFits_any (c : Int) 16 w
  rw [decide_eq_true (show fitT (c : Int) 16 from ⟨by omega, by omega, by omega⟩)] at HC
  have HC := Lib.hid HC
  obtain ⟨r, hr⟩ : ∃ r, n % (c * 2) = r := ⟨_, rfl⟩
  rw [hr] at hm
  have hmz : ((n : Nat) : Int) % ((c : Int) * 2) = (r : Int) := by exact_mod_cast hr
  have hm2 : ((r : Int) != 0) = true := by simp; omega
  have g1 : (c = 0) = False := by simp only [eq_iff_iff, iff_false]; omega
  clear hr
  go_enter Try.func9, Try.ntmps9
  go_wp2_with fail
  refine HC.out.mono ?_
  rintro e w1 ⟨rfl, rfl⟩
  go_wp2_with fail
  go_ret2
  exact ⟨rfl, Kept.refl _ _⟩

set_option maxHeartbeats 3200000 in
theorem cSplit16_any (A : Option Addr) (cA c : Nat) (bs : List Int) (w : World) (hr : Row w .u8 A bs.length bs) (h8 : B8 bs) (hc : 1 ≤ c ∧ c ≤ 8) (hn : bs.length ≤ 16777216) (hca : bs.length ≤ cA) (hm : bs.length % (c * 2) = 0) :
    Calls Try.prog 9 #[.slice A bs.length cA, .int .i64 (c : Int), .int .i64 16] w fun e w' => SplT w w' e 16 bs c := by
  obtain ⟨i4, hi4, h40, h41, h42⟩ := info_parts Try.infoTr4
  have HC := cFits_any (c : Int) 16 w
  rw [decide_eq_true (show fitT (c : Int) 16 from ⟨by omega, by omega, by omega⟩)] at HC
  have HC := Lib.hid HC
  have HR : Hid (∀ V, Fresh w V → Row V .u8 A bs.length bs) := Lib.hid fun V hV => hr.kept hV (fun _ _ _ _ => id)
  have H8 := Lib.hid h8
  obtain ⟨f, hfe⟩ : ∃ f, bs.length / (c * 2) = f := ⟨_, rfl⟩
  have hfl : bs.length = f * (c * 2) := by rw [← hfe]; exact split_len (bt := 16) hm
  have hfn : f ≤ bs.length := by rw [← hfe]; exact Nat.div_le_self _ _
  have hmz : ((bs.length : Nat) : Int) % ((c : Int) * 2) = 0 := by exact_mod_cast hm
  have hdz : ((bs.length : Nat) : Int) / ((c : Int) * 2) = (f : Int) := by exact_mod_cast hfe
  have g1 : (c = 0) = False := by simp only [eq_iff_iff, iff_false]; omega
  have HM := Lib.hid (And.intro hm (And.intro hfe hfl))
  clear hr h8 hm hfe hfl
  go_enter Try.func9, Try.ntmps9
  go_wp2_with fail
  refine HC.out.mono ?_
  rintro e w0 ⟨rfl, rfl⟩
  clear HC
  go_wp2_with (refine wpList_make_bag _ rfl _ _ rfl _ _ _ _ c rfl rfl rfl rfl (by omega) ?_)
  intro w1 hb1 hf1
  generalize hg : w0.heap.size = g at *
  have HG := Lib.hid hg
  have H1 := Lib.hid (And.intro hb1 hf1)
  clear hb1 hf1 hg
  go_wp2_with fail
  go_loopw [31] (fun i wr => ∃ k : Nat, k ≤ c ∧ i = .int .i64 k ∧ ∃ V, Bag wr g g c c V (fun i => if i < k then trkT 16 bs c i else []) ∧ Fresh w0 wr) (fun i _ => (c - intOf i).toNat)
  case atStart => exact ⟨0, by omega, rfl, _, H1.out.1.congr (fun i _ => by rw [if_neg (Nat.not_lt_zero _)]), H1.out.2⟩
  case round =>
    obtain ⟨k, hk, rfl, V, hb, hf⟩ := hrel
    clear H1
    have HB := Lib.hid (And.intro hb hf)
    clear hb hf
    by_cases hlt : k < c
    · have HV := Lib.hid (HB.out.1.slot hlt)
      have ik1 : (k : Int) < (c : Int) := by omega
      have hfz : ∀ j, Hid (wr.frozen? ⟨g, j, none⟩ = false) := fun j => Lib.hid (HB.out.1.frozen j)
      go_wp2_with (at_make; refine wpList_make_zeros _ rfl _ _ 32 rfl 21 i4 .i32 4 Try.underlying32 hi4 h40 h41 h42 _ _ _ _ f rfl rfl rfl rfl (by omega) (by unfold maxLen; omega) ?_)
      intro w2 ho2 hf2
      have hgl := HB.out.1.lt
      have c2 : w2.cell? ⟨g, k, none⟩ = some (V k) := (hf2.cell (p := ⟨g, k, none⟩) hgl id).trans HV.out
      have f2 : w2.frozen? ⟨g, k, none⟩ = false := (hf2.frozen (p := ⟨g, k, none⟩) hgl id).trans (hfz k).out
      have hgg := HG.out
      have hww := HB.out.2.size
      have hqq : wr.heap.size ≤ wr.heap.size := Nat.le_refl _
      generalize hq : wr.heap.size = q at ho2 hqq ⊢
      have hb3 := HB.out.1.put hlt (hf2.mono (fun _ _ e => e.elim)) ho2 (.inr ⟨q, rfl, by omega⟩) (by omega)
      have hf3 : Fresh w0 (w2.setCell ⟨g, k, none⟩ (.slice (some ⟨q, 0, none⟩) f f)) := (HB.out.2.trans hf2 (fun _ _ e => e)).setCell (p := ⟨g, k, none⟩) (fun h => absurd h (by simp only; omega)) _
      have H3 := Lib.hid (And.intro hb3 hf3)
      have hqg : g ≠ q := by omega
      have hq0 : w0.heap.size ≤ q := by omega
      clear hb3 hf3 ho2 hf2 hgl hgg hww hqq hq
      go_wp2_with fail
      go_loopw [47] (fun i wv => ∃ j : Nat, j ≤ f ∧ i = .int .i64 j ∧ Bag wv g g c c (fun x => if x = k then .slice (some ⟨q, 0, none⟩) f f else V x) (fun x => if x = k then tn j (fun j => smpT 16 bs ((j * c + k) * wdT 16)) ++ List.replicate (f - j) 0 else if x < k then trkT 16 bs c x else []) ∧ Fresh w0 wv) (fun i _ => (f - intOf i).toNat)
      case atStart => exact ⟨0, by omega, rfl, H3.out.1, H3.out.2⟩
      case round =>
        obtain ⟨j, hj, rfl, hb, hf⟩ := hrel
        have H4 := Lib.hid (And.intro hb hf)
        clear hb hf H3 c2 f2
        by_cases hjl : j < f
        · have hin := idx_in HM.out.2.2 hjl hlt
          have cg : wr.cell? ⟨g, k, none⟩ = some (.slice (some ⟨q, 0, none⟩) f f) := by
            have := H4.out.1.slot hlt
            rw [if_pos rfl] at this
            exact this
          have hl : ((fun x => if x = k then tn j (fun j => smpT 16 bs ((j * c + k) * wdT 16)) ++ List.replicate (f - j) 0 else if x < k then trkT 16 bs c x else []) k).length = f := by
            simp only [if_pos]
            rw [List.length_append, tn_length, List.length_replicate]
            omega
          obtain ⟨cq, fq⟩ := H4.out.1.cell hlt (if_pos rfl) hl hjl
          have hw := fun m => (H4.out.1.fresh ((Kept.refl (fun _ => False) wr).drewN m)).write (j := j) hlt (if_pos rfl) hl (smpT 16 bs ((j * c + k) * wdT 16))
          have HW : Hid (∀ m, Bag ((wr.drewN m).setCell ⟨q, j, none⟩ (.int .i32 (smpT 16 bs ((j * c + k) * wdT 16)))) g g c c (fun x => if x = k then .slice (some ⟨q, 0, none⟩) f f else V x) (fun x => if x = k then tn (j + 1) (fun j => smpT 16 bs ((j * c + k) * wdT 16)) ++ List.replicate (f - (j + 1)) 0 else if x < k then trkT 16 bs c x else []) ∧ Fresh w0 ((wr.drewN m).setCell ⟨q, j, none⟩ (.int .i32 (smpT 16 bs ((j * c + k) * wdT 16))))) := Lib.hid fun m => ⟨(hw m).congr (fun x _ => by
              by_cases hx : x = k
              · simp only [if_pos hx]
                rw [if_pos trivial, set_next _ _ _ _ (tn_length _ _) hjl, ← tn_succ j (fun j => smpT 16 bs ((j * c + k) * wdT 16))]
              · simp only [if_neg hx]), (H4.out.2.drewN m).setCell (p := ⟨q, j, none⟩) (fun h => absurd h (by simp only; omega)) _⟩
          have hidx : (j * c + k) * wdT 16 = j * (c * 2) + k * 2 := by rw [Nat.add_mul, Nat.mul_assoc, show wdT 16 = 2 from rfl]
          have HS : Hid (∀ W, Fresh w0 W → Calls Try.prog 22 #[.slice (cutAt A (j * (c * 2) + k * 2) cA) (bs.length - (j * (c * 2) + k * 2)) (cA - (j * (c * 2) + k * 2)), .int .i64 16] W fun e w' => e = .returned (.int .i32 (smpT 16 bs ((j * c + k) * wdT 16))) ∧ ∃ m, w' = W.drewN m) := Lib.hid fun W hW => by
            have h := (HR.out W hW).cut (l := j * (c * 2) + k * 2) (m := bs.length - (j * (c * 2) + k * 2)) (c := cA) (by omega) hca
            have := cSample16_any _ _ (cA - (j * (c * 2) + k * 2)) _ W h (B8.cut H8.out _ _) (by omega)
            rw [smp_cut] at this
            rw [hidx]
            exact this
          have hsl : ∀ W, (Instr.slice 22 (.slice A bs.length cA) (some (.int .i64 ((j : Int) * ((c : Int) * 2) + (k : Int) * 2))) none none).run Try.prog W = .ok (.slice (cutAt A (j * (c * 2) + k * 2) cA) (bs.length - (j * (c * 2) + k * 2)) (cA - (j * (c * 2) + k * 2))) W := fun W => by
            obtain ⟨i0, hi, hz0, hz1, hz2⟩ := info_parts Try.infoTr1
            have := run_slice_from (P := Try.prog) 22 5 Try.underlying22 (fun w => by simp [sizeOf, typeInfo, hi, hz1]) A bs.length cA (j * (c * 2) + k * 2) (by omega) W
            rw [show (((j * (c * 2) + k * 2 : Nat)) : Int) = (j : Int) * ((c : Int) * 2) + (k : Int) * 2 by simp] at this
            exact this
          generalize smpT 16 bs ((j * c + k) * wdT 16) = xv at *
          generalize cutAt A (j * (c * 2) + k * 2) cA = CA at *
          have jf : (j : Int) < (f : Int) := by omega
          have em : (j : Int) * ((c : Int) * 2) = ((j * (c * 2) : Nat) : Int) := by simp
          have e1 : IntKind.i64.wrap ((j : Int) * ((c : Int) * 2)) = (j : Int) * ((c : Int) * 2) := IntWalk.i64_in _ (by rw [em]; omega)
          have e2 : IntKind.i64.wrap ((j : Int) * ((c : Int) * 2) + (k : Int) * 2) = (j : Int) * ((c : Int) * 2) + (k : Int) * 2 := IntWalk.i64_in _ (by rw [em]; omega)
          have d1 : (wr.setCell ⟨q, j, none⟩ (.int .i32 xv)).cell? ⟨g, k, none⟩ = some (.slice (some ⟨q, 0, none⟩) f f) := (World.cell?_of_block (Below.heap_setCell wr ⟨q, j, none⟩ (.int .i32 xv) g hqg)).trans cg
          have e4 : IntKind.i64.wrap (k : Int) = (k : Int) := IntWalk.i64_in _ (by omega)
          have e5 : IntKind.i64.wrap ((k : Int) * 2) = (k : Int) * 2 := IntWalk.i64_in _ (by omega)
          have HF : Hid (Fresh w0 wr) := Lib.hid H4.out.2
          have jk : (0 : Int) ≤ (j : Int) := by omega
          have kk : (0 : Int) ≤ (k : Int) := by omega
          clear em hidx hin hw hl
          go_wp2_with fail
          go_region_held3 (fun W => W.cell? ⟨g, k, none⟩ = some (.slice (some ⟨q, 0, none⟩) f f)) (first | go_keep | exact d1)
            (first
              | (go_at_call 22; with_reducible refine (HS.out _ (by first | exact HF.out | exact HF.out.drew | exact HF.out.drewN _)).mono ?_; rintro e3 w3 ⟨rfl, n3, rfl⟩))
          have H5 := Lib.hid (HW.out (1 + n3))
          clear cg cq fq d1 HS hsl
          go_wp2_with fail
          go_roundw
          case rel => exact ⟨j + 1, by omega, by go_num, H5.out.1, H5.out.2⟩
          case measure => simp [intOf]; omega
        · obtain rfl : j = f := by omega
          have hb5 := H4.out.1.congr (T' := fun i => if i < k + 1 then trkT 16 bs c i else []) (fun x _ => by
            by_cases hx : x = k
            · rw [if_pos hx, if_pos (by omega), Nat.sub_self, List.replicate_zero, List.append_nil, hx, trkT, show bs.length / (c * wdT 16) = j from HM.out.2.1]
            · rw [if_neg hx]
              by_cases hx2 : x < k
              · rw [if_pos hx2, if_pos (by omega)]
              · rw [if_neg hx2, if_neg (by omega)])
          have H5 := Lib.hid (And.intro hb5 H4.out.2)
          clear hb5 H4
          go_wp2_with fail
          go_roundw
          case rel => exact ⟨k + 1, by omega, by go_num, _, H5.out.1, H5.out.2⟩
          case measure => simp [intOf]; omega
    · obtain rfl : k = c := by omega
      have hbe := HB.out.1.congr (T' := trkT 16 bs k) (fun i hi => if_pos hi)
      rw [← HG.out] at hbe
      have HE := Lib.hid (And.intro hbe HB.out.2)
      clear hbe HB
      go_wp2_with fail
      go_ret2
      rw [← HG.out]
      exact ⟨_, _, _, rfl, HE.out.1, HE.out.2⟩

end Go.Proofs.Ytcpmjaoglbgmbaa
