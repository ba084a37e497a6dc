/- What the laws of tracks use: Split, Mid, Unmid, whatever is asked, the code's and the document's alike; lists of lists held against each other; awake. -/
import Derived.Test.YtcpmjaoglbgmbaaTraQ
import Derived.Test.YtcpmjaoglbgmbaaTraQJ
import Derived.Test.YtcpmjaoglbgmbaaHelpInt32
namespace Go.Proofs.Ytcpmjaoglbgmbaa
open Go.RowKit
set_option maxRecDepth 100000

attribute [local go_sem ↓] Go.wp_at_zero Go.wp_at_succ

/-- Split, whatever is asked: how many lists, which error, which lists. -/
def splN (ch bt : Int) (bs : List Int) : Nat := if fitT ch bt ∧ bs.length % (ch.toNat * wdT bt) = 0 then ch.toNat else 0
def splK (ch bt : Int) (bs : List Int) : Int := if fitT ch bt then if bs.length % (ch.toNat * wdT bt) = 0 then 0 else 4 else 1
def SplO (w w' : World) (e : Ending) (ch bt : Int) (bs : List Int) : Prop :=
  ∃ A c, e = .returned (.tuple #[.slice A (splN ch bt bs) c, .int .i64 (splK ch bt bs)]) ∧ Trs w' A (splN ch bt bs) (trkT bt bs ch.toNat) ∧ Fresh w w'
theorem splN_le (ch bt : Int) (bs : List Int) : splN ch bt bs ≤ 8 := by
  unfold splN
  split
  · rename_i h
    have := h.1
    unfold fitT at this
    omega
  · omega

theorem SplO.yes {w w' : World} {e : Ending} {bt : Int} {bs : List Int} {c : Nat} (hf : fitT (c : Int) bt) (hm : bs.length % (c * wdT bt) = 0) (h : SplT w w' e bt bs c) : SplO w w' e c bt bs := by
  obtain ⟨g, cap, V, rfl, hb, hk⟩ := h
  have hn : splN c bt bs = c := by unfold splN; rw [Int.toNat_natCast, if_pos ⟨hf, hm⟩]
  have hkk : splK c bt bs = 0 := by unfold splK; rw [Int.toNat_natCast, if_pos hf, if_pos hm]
  unfold SplO
  rw [hn, hkk, Int.toNat_natCast]
  exact ⟨_, _, rfl, hb.trs, hk⟩
theorem SplO.form {w w' : World} {e : Ending} {bt : Int} {bs : List Int} {c : Nat} (hf : fitT (c : Int) bt) (hm : bs.length % (c * wdT bt) ≠ 0) (h : SplNo w w' e 4) : SplO w w' e c bt bs := by
  obtain ⟨rfl, hk⟩ := h
  have hn : splN c bt bs = 0 := by unfold splN; rw [Int.toNat_natCast, if_neg (fun h => hm h.2)]
  have hkk : splK c bt bs = 4 := by unfold splK; rw [Int.toNat_natCast, if_pos hf, if_neg hm]
  unfold SplO
  rw [hn, hkk]
  exact ⟨_, _, rfl, Trs.nil _ _ _, hk⟩
theorem SplO.arg {w w' : World} {e : Ending} {ch bt : Int} {bs : List Int} (hf : ¬ fitT ch bt) (h : SplNo w w' e 1) : SplO w w' e ch bt bs := by
  obtain ⟨rfl, hk⟩ := h
  have hn : splN ch bt bs = 0 := by unfold splN; rw [if_neg (fun h => hf h.1)]
  have hkk : splK ch bt bs = 1 := by unfold splK; rw [if_neg hf]
  unfold SplO
  rw [hn, hkk]
  exact ⟨_, _, rfl, Trs.nil _ _ _, hk⟩

theorem cSplitO_any (A : Option Addr) (n cA : Nat) (bs : List Int) (ch bt : Int) (w : World) (hr : Row w .u8 A n bs) (h8 : B8 bs) (hn : n ≤ 16777216) (hca : n ≤ cA) :
    Calls Try.prog 9 #[.slice A n cA, .int .i64 ch, .int .i64 bt] w fun e w' => SplO w w' e ch bt bs := by
  obtain rfl := hr.len
  by_cases hf : fitT ch bt
  · obtain ⟨c, rfl⟩ : ∃ c : Nat, ch = c := ⟨ch.toNat, by have := hf.1; omega⟩
    have hc : 1 ≤ c ∧ c ≤ 8 := by have := hf.1; have := hf.2.1; omega
    by_cases hm : bs.length % (c * wdT bt) = 0
    · rcases hf.2.2 with rfl | rfl
      · exact (cSplit8_any A cA c bs w hr h8 hc hn hca hm).mono fun _ _ h => SplO.yes hf hm h
      · exact (cSplit16_any A cA c bs w hr h8 hc hn hca hm).mono fun _ _ h => SplO.yes hf hm h
    · rcases hf.2.2 with rfl | rfl
      · exact (cSplitForm8_any A bs.length cA c w hc hn hm).mono fun _ _ h => SplO.form hf hm h
      · exact (cSplitForm16_any A bs.length cA c w hc hn hm).mono fun _ _ h => SplO.form hf hm h
  · exact (cSplitArg_any A bs.length cA ch bt w hf).mono fun _ _ h => SplO.arg hf h
theorem qSplitO_any (A : Option Addr) (n cA : Nat) (bs : List Int) (ch bt : Int) (w : World) (hr : Row w .u8 A n bs) (h8 : B8 bs) (hn : n ≤ 16777216) :
    Calls Try.prog 10 #[.slice A n cA, .int .i64 ch, .int .i64 bt] w fun e w' => SplO w w' e ch bt bs := by
  obtain rfl := hr.len
  by_cases hf : fitT ch bt
  · obtain ⟨c, rfl⟩ : ∃ c : Nat, ch = c := ⟨ch.toNat, by have := hf.1; omega⟩
    have hc : 1 ≤ c ∧ c ≤ 8 := by have := hf.1; have := hf.2.1; omega
    by_cases hm : bs.length % (c * wdT bt) = 0
    · rcases hf.2.2 with rfl | rfl
      · exact (qSplit8_any A cA c bs w hr h8 hc hn hm).mono fun _ _ h => SplO.yes hf hm h
      · exact (qSplit16_any A cA c bs w hr h8 hc hn hm).mono fun _ _ h => SplO.yes hf hm h
    · rcases hf.2.2 with rfl | rfl
      · exact (qSplitForm8_any A bs.length cA c w hc hn hm).mono fun _ _ h => SplO.form hf hm h
      · exact (qSplitForm16_any A bs.length cA c w hc hn hm).mono fun _ _ h => SplO.form hf hm h
  · exact (qSplitArg_any A bs.length cA ch bt w hf).mono fun _ _ h => SplO.arg hf h

/-- Two lists of m numbers are told, and an error. -/
def TwoO (w w' : World) (e : Ending) (m : Nat) (k : Int) (xs ys : List Int) : Prop :=
  ∃ A c B d, e = .returned (.tuple #[.slice A m c, .slice B m d, .int .i64 k]) ∧ Row w' .i32 A m xs ∧ Row w' .i32 B m ys ∧ Fresh w w'
theorem Two.o {w w' : World} {e : Ending} {xs ys : List Int} {n : Nat} (hx : xs.length = n) (hy : ys.length = n) (h : Two w w' e xs ys) : TwoO w w' e n 0 xs ys := by
  obtain ⟨u, v, rfl, hu, hv, _⟩ := h
  obtain ⟨A, c, rfl, hA, _⟩ := hu.1.row
  obtain ⟨B, d, rfl, hB, _⟩ := hv.1.row
  rw [hx] at hA ⊢
  rw [hy] at hB ⊢
  exact ⟨_, _, _, _, rfl, hA, hB, hu.2.2⟩
theorem TwoNo.o {w w' : World} {e : Ending} (h : TwoNo w w' e) : TwoO w w' e 0 1 [] [] := ⟨_, _, _, _, h.1, Row.empty _ _ _, Row.empty _ _ _, h.2⟩

/-- Tracks in turn, held against each other: the same. -/
theorem hSameTr_any (A B : Option Addr) (n c d : Nat) (T U : Nat → List Int) (w : World) (ha : Trs w A n T) (hb : Trs w B n U) (he : ∀ i, i < n → T i = U i) (hl : ∀ i, i < n → (T i).length ≤ 16777216) (hn : n ≤ 1048576) :
    Calls Try.prog 23 #[.slice A n c, .slice B n d, .func (.func 20) #[] #[]] w fun e w' => e = .returned (.bool true) ∧ ∃ k, w' = w.drewN k := by
  have HA := Lib.hid (And.intro ha (And.intro hb (And.intro he hl)))
  have hself : ((n : Int) != (n : Int)) = false := by simp
  clear ha hb he hl
  go_enter Try.func23, Try.ntmps23
  go_wp2_with fail
  go_loopw [7] (fun i V => ∃ j m : Nat, j ≤ n ∧ i = .int .i64 j ∧ V = w.drewN m) (fun i _ => (n - intOf i).toNat)
  case atStart => exact ⟨0, 0, by omega, rfl, rfl⟩
  case round =>
    obtain ⟨j, m, hj, rfl, hwr⟩ := hrel
    have hf : Fresh w wr := by rw [hwr]; exact (Kept.refl _ _).drewN m
    have Hwr := Lib.hid hwr
    clear hwr
    by_cases hlt : j < n
    · obtain ⟨b1, o1, B1, m1, c1, rfl, hb1, hc1, hr1⟩ := (HA.out.1.fresh hf) j hlt
      obtain ⟨b2, o2, B2, m2, c2, rfl, hb2, hc2, hr2⟩ := (HA.out.2.1.fresh hf) j hlt
      have hm1 := hr1.len
      have hm2 := hr2.len
      have hll := HA.out.2.2.2 j hlt
      have hee := HA.out.2.2.1 j hlt
      rw [← hee] at hm2 hr2
      have HC : Hid (∀ q, Calls Try.prog 20 #[.slice B1 m1 c1, .slice B2 m2 c2] (wr.drewN q) fun e w' => e = .returned (.bool true) ∧ ∃ k, w' = (wr.drewN q).drewN k) := Lib.hid fun q => by
        have := hPlainInt32_any B1 B2 m1 m2 c1 c2 (T j) (T j) (wr.drewN q) (hr1.drewN q) (hr2.drewN q) (by omega) (by omega)
        rwa [show decide (T j = T j) = true from by simp] at this
      have ij : (j : Int) < (n : Int) := by omega
      clear hr1 hr2 hm1 hm2 hll hee hf
      go_wp2_with fail
      go_quiet ((go_at_call 20; exact Calls.quiet_of (HC.out _)))
      go_wp2_with fail
      go_roundw
      case rel => exact ⟨j + 1, m + nq, by omega, by go_num, by rw [Hwr.out, World.drewN_drewN]⟩
      case measure => simp [intOf]; omega
    · clear hf
      go_wp2_with fail
      go_ret
      exact ⟨rfl, m, Hwr.out⟩
set_option maxHeartbeats 800000 in
theorem hPlainTr_any (A B : Option Addr) (n c d : Nat) (T U : Nat → List Int) (w : World) (ha : Trs w A n T) (hb : Trs w B n U) (he : ∀ i, i < n → T i = U i) (hl : ∀ i, i < n → (T i).length ≤ 16777216) (hn : n ≤ 1048576) :
    Calls Try.prog 11 #[.slice A n c, .slice B n d] w fun e w' => e = .returned (.bool true) ∧ ∃ k, w' = w.drewN k := by
  have HC := Lib.hid (hSameTr_any A B n c d T U w ha hb he hl hn)
  clear ha hb he hl
  go_enter Try.func11, Try.ntmps11
  go_wp2_with fail
  refine HC.out.mono ?_
  rintro e w' ⟨rfl, k, rfl⟩
  go_wp2_with fail
  go_ret
  exact ⟨rfl, _, rfl⟩

theorem trk_one : trkT 8 [128, 129] 1 0 = [0, 1] := by decide +kernel

set_option maxHeartbeats 1600000 in
theorem awakeT_any (w : World) : Calls Try.prog 7 #[] w fun e w' => e = .returned (.bool true) ∧ Fresh w w' := by
  go_enter Try.func7, Try.ntmps7
  go_wp2_with fail
  refine (cSplit8_any _ 2 1 [128, 129] _ (Row.laidF w 5 .u8 [128, 129]) (by unfold B8; simp) (by omega) (by decide) (by decide) (by decide)).mono ?_
  rintro e w1 ⟨g, cap, V, rfl, hb, hf⟩
  have hv := hb.slot (i := 0) (by omega)
  have ho := hb.row 0 (by omega)
  rw [trk_one] at ho
  obtain ⟨q, cq, hV, hq⟩ := ho.form (by decide)
  rw [hV] at ho hv
  have d1 : w1.cell? ⟨q, 1, none⟩ = some (.int .i32 1) := ho.cell (j := 1) (by decide)
  rw [show ([0, 1] : List Int).length = 2 from rfl] at hv
  have H1 := Lib.hid (((Kept.refl (fun _ => False) w).alloc (.cells #[.int .u8 128, .int .u8 129] 5)).trans hf (fun _ _ h => h))
  clear hb ho hf hq hV
  go_wp2_with fail
  go_ret
  exact ⟨rfl, H1.out⟩

end Go.Proofs.Ytcpmjaoglbgmbaa
