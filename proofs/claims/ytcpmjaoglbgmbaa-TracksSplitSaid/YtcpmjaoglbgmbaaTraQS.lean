/- The document's Split. -/
import Derived.Test.YtcpmjaoglbgmbaaTraC
import Derived.Deep.RegionLaw
import Derived.Deep.AppendLies
import Derived.Laws.BitsAllLaws
namespace Go.Proofs.Ytcpmjaoglbgmbaa
open Go.RowKit
set_option maxRecDepth 100000

attribute [local go_sem ↓] Go.wp_at_zero Go.wp_at_succ

/-- The tracks are told, as lists of the call's own. -/
def SplT (w w' : World) (e : Ending) (bt : Int) (bs : List Int) (c : Nat) : Prop :=
  ∃ g cap V, e = .returned (.tuple #[.slice (some ⟨g, 0, none⟩) c cap, .int .i64 0]) ∧ Bag w' w.heap.size g c cap V (trkT bt bs c) ∧ Fresh w w'
/-- .. or none. -/
def SplNo (w w' : World) (e : Ending) (k : Int) : Prop := e = .returned (.tuple #[.slice none 0 0, .int .i64 k]) ∧ Fresh w w'

theorem or16 {x1 x2 : Int} (h1 : 0 ≤ x1 ∧ x1 < 256) (h2 : 0 ≤ x2 ∧ x2 < 256) : bits .or .u16 x1 (x2 * 256) = x1 + 256 * x2 := by
  rw [u16_or _ _ (by omega) (by omega) (by omega) (by omega)]
  have e := Nat.shiftLeft_add_eq_or_of_lt (b := x1.toNat) (i := 8) (by omega) x2.toNat
  rw [Nat.shiftLeft_eq] at e
  rw [show (x2 * 256).toNat = x2.toNat * 2 ^ 8 by omega, Nat.or_comm, ← e]
  omega
theorem wrap_i16T (n : Int) : IntKind.i16.wrap n = s16 n := by unfold s16; simp [IntKind.wrap, IntKind.bits, IntKind.signed]; split <;> omega
theorem smp16 {x1 x2 : Int} (h1 : 0 ≤ x1 ∧ x1 < 256) (h2 : 0 ≤ x2 ∧ x2 < 256) : wrap32 (IntKind.i16.wrap (bits .or .u16 x1 (x2 * 256))) = s16 (x1 + 256 * x2) := by
  rw [or16 h1 h2, w32_wrapC, wrap_i16T]
  unfold w32 s16
  omega
theorem Own.sz {w : World} {e : TypeId} {k : IntKind} {v : Value} {xs : List Int} {n : Nat} (h : Own w e k v xs) (hn : xs.length = n) : w.ownsRow 0 e 1 v n (ivs k xs) := by
  subst hn
  exact h

theorem div_mod_of {s c q k : Nat} (h : s = q * c + k) (hk : k < c) : s / c = q ∧ s % c = k := by
  subst h
  refine ⟨?_, ?_⟩
  · rw [Nat.mul_comm, Nat.mul_add_div (by omega), Nat.div_eq_of_lt hk, Nat.add_zero]
  · rw [Nat.mul_comm, Nat.mul_add_mod, Nat.mod_eq_of_lt hk]
/-- How many of the first s samples are track i's. -/
def cntT (c s i : Nat) : Nat := s / c + if i < s % c then 1 else 0
theorem cntT_step {c s : Nat} (hc : 0 < c) (i : Nat) (hi : i < c) : cntT c (s + 1) i = if i = s % c then s / c + 1 else cntT c s i := by
  have h := Nat.div_add_mod s c
  have hk := Nat.mod_lt s hc
  rw [Nat.mul_comm] at h
  generalize s / c = q at *
  generalize hk' : s % c = k at *
  have h1 := div_mod_of h.symm hk
  unfold cntT
  by_cases hl : k + 1 < c
  · have h2 := div_mod_of (s := s + 1) (c := c) (q := q) (k := k + 1) (by omega) hl
    rw [h2.1, h2.2, h1.1, h1.2]
    split <;> (try split) <;> (try split) <;> omega
  · have h2 := div_mod_of (s := s + 1) (c := c) (q := q + 1) (k := 0) (by rw [Nat.add_mul, Nat.one_mul]; omega) (by omega)
    rw [h2.1, h2.2, h1.1, h1.2]
    split <;> (try split) <;> (try split) <;> omega
theorem cntT_at {c s : Nat} : cntT c s (s % c) = s / c := by unfold cntT; rw [if_neg (by omega)]; rfl
/-- The tracks behind s samples. -/
def sofT (bt : Int) (bs : List Int) (c s i : Nat) : List Int := tn (cntT c s i) fun j => smpT bt bs ((j * c + i) * wdT bt)
theorem sofT_step {bt : Int} {bs : List Int} {c s : Nat} (hc : 0 < c) (i : Nat) (hi : i < c) : (if i = s % c then sofT bt bs c s (s % c) ++ [smpT bt bs (s * wdT bt)] else sofT bt bs c s i) = sofT bt bs c (s + 1) i := by
  unfold sofT
  rw [cntT_step hc i hi]
  by_cases h : i = s % c
  · rw [if_pos h, if_pos h, h, cntT_at, tn_succ]
    have := Nat.div_add_mod s c
    rw [Nat.mul_comm] at this
    rw [this]
  · rw [if_neg h, if_neg h]
theorem sofT_end {bt : Int} {bs : List Int} {c : Nat} (hc : 0 < c) (hm : bs.length % (c * wdT bt) = 0) (i : Nat) : sofT bt bs c (bs.length / wdT bt) i = trkT bt bs c i := by
  unfold sofT trkT
  have hw := (wdT_pos bt).1
  have h := split_len hm
  have h1 : bs.length / wdT bt = bs.length / (c * wdT bt) * c + 0 := by
    conv => lhs; rw [h]
    rw [← Nat.mul_assoc, Nat.mul_div_cancel _ hw, Nat.add_zero]
  have h2 := div_mod_of h1 hc
  unfold cntT
  rw [h2.1, h2.2, if_neg (Nat.not_lt_zero _), Nat.add_zero]
theorem sofT_zero (bt : Int) (bs : List Int) (c i : Nat) : sofT bt bs c 0 i = [] := by
  unfold sofT cntT
  simp [tn]
theorem sofT_length (bt : Int) (bs : List Int) (c s : Nat) : (sofT bt bs c s (s % c)).length = s / c := by rw [sofT, tn_length, cntT_at]

set_option maxHeartbeats 3200000 in
theorem qSplit8_any (A : Option Addr) (cA c : Nat) (bs : List Int) (w : World) (hr : Row w .u8 A bs.length bs) (h8 : B8 bs) (hc : 1 ≤ c ∧ c ≤ 8) (hn : bs.length ≤ 16777216) (hm : bs.length % (c * 1) = 0) :
    Calls Try.prog 10 #[.slice A bs.length cA, .int .i64 (c : Int), .int .i64 8] w fun e w' => SplT w w' e 8 bs c := by
  obtain ⟨i4, hi4, h40, h41, h42⟩ := info_parts Try.infoTr4
  have HR : Hid (∀ V, Fresh w V → Row V .u8 A bs.length bs) := Lib.hid fun V hV => hr.kept hV (fun _ _ _ _ => id)
  have H8 := Lib.hid h8
  have c1 : ¬ (c : Int) < 1 := by omega
  have c2 : ¬ 8 < (c : Int) := by omega
  have hmz : ((bs.length : Nat) : Int) % (c : Int) = 0 := by rw [Nat.mul_one] at hm; exact_mod_cast hm
  have g1 : (c = 0) = False := by simp only [eq_iff_iff, iff_false]; omega
  have HM := Lib.hid (And.intro hm hc)
  clear hr h8 hm
  go_enter Try.func10, Try.ntmps10
  go_wp2_with (refine wpList_make_bag _ rfl _ _ rfl _ _ _ _ c rfl rfl rfl rfl (by omega) ?_)
  intro w1 hb1 hf1
  generalize hg : w.heap.size = g at *
  have HG := Lib.hid hg
  have H1 := Lib.hid (And.intro (hb1.congr (T' := sofT 8 bs c 0) (fun i _ => (sofT_zero _ _ _ _).symm)) hf1)
  clear hb1 hf1 hg
  go_wp2_with fail
  go_loopw [10] (fun i wr => ∃ s : Nat, s ≤ bs.length / 1 ∧ i = .int .i64 s ∧ ∃ V, Bag wr g g c c V (sofT 8 bs c s) ∧ Fresh w wr) (fun i _ => (bs.length / 1 - intOf i).toNat)
  case atStart => exact ⟨0, by omega, rfl, _, H1.out.1, H1.out.2⟩
  case round =>
    obtain ⟨s, hs, rfl, V, hb, hf⟩ := hrel
    clear H1
    have HB := Lib.hid (And.intro hb hf)
    clear hb hf
    by_cases hlt : s < bs.length / 1
    · have hk := Nat.mod_lt s (show c > 0 by omega)
      have hks : ((s : Nat) : Int).tmod (c : Int) = ((s % c : Nat) : Int) := by rw [Int.tmod_eq_emod_of_nonneg (by omega)]; simp
      have cv := HB.out.1.slot hk
      have fv := HB.out.1.frozen (s % c)
      have ho := HB.out.1.row (s % c) hk
      have hlv := sofT_length 8 bs c s
      have hdv : s / c ≤ s := Nat.div_le_self _ _
      have hrow := HR.out wr HB.out.2
      obtain ⟨b1, o1, rfl, hb1, hc1⟩ := hrow.at_ s (by omega)
      have hx1 := H8.out.at_ s
      have Hsm : Hid (smpT 8 bs (s * wdT 8) = bs.getD s 0 - 128) := Lib.hid (by show smpT 8 bs (s * 1) = _; rw [Nat.mul_one]; rfl)
      generalize bs.getD s 0 = x1 at *
      have hap := HB.out.1.apart hk
      have hgl := HB.out.1.lt
      have HO := Lib.hid ho
      have Hk : Hid (s % c = s % c) := Lib.hid rfl
      generalize hke : s % c = k at *
      generalize hvk : V k = vk at *
      generalize hxs : sofT 8 bs c s k = xs at *
      have HE := Lib.hid (And.intro hke (And.intro hvk hxs))
      have HL := Lib.hid hlv
      clear hke hvk hxs hrow ho hlv Hk
      have c2 : ∀ o, (wr.alloc o).cell? ⟨g, k, none⟩ = some vk := fun o => (World.cell?_alloc_lt _ _ _ hgl).trans cv
      have HV := Lib.hid (And.intro hap hgl)
      have hns : s / c ≤ 16777216 := by omega
      have ik0 : (0 : Int) ≤ (k : Int) := by omega
      have ik1 : (k : Int) < (c : Int) := by omega
      clear hap
      go_wp2_with fail
      go_region_law
        (first
          | (refine step_append_lies _ (by rfl) _ _ _ (by rfl) 0 21 i4 (.int .i32 0) 1 4 Try.underlying32 hi4 h40 h41 h42 rfl (by decide) vk (s / c) (ivs .i32 xs) (by rfl) (World.ownsRow.alloc (Own.sz HO.out HL.out) _) ⟨wr.heap.size, 0, none⟩ 1 1 (ivs .i32 [x1 - 128]) (by rfl) (by rfl) (cell_one_new _ _ _) (ivs_one _ _) (by decide) (by unfold maxLen; omega) (by omega) (by omega) (wr.heap.size + 1) (by simp) ?_
             intro q cap w4 hown4 hgrow hat hlt4
             have hk4 : Kept (fun i => vk.ownBlock = some i) wr w4 := ((Kept.refl _ _).drew.alloc (.cells #[.int .i32 (x1 - 128)] 21)).grown hgrow (fun _ e _ => e)
             have c4 : w4.cell? ⟨g, k, none⟩ = some vk := (hk4.cell (p := ⟨g, k, none⟩) HV.out.2 HV.out.1).trans cv
             have f4 : w4.frozen? ⟨g, k, none⟩ = false := (hk4.frozen (p := ⟨g, k, none⟩) HV.out.2 HV.out.1).trans fv))
      all_goals
        have ho4 : Own w4 21 .i32 (.slice (some ⟨q, 0, none⟩) (s / c + 1) cap) (xs ++ [x1 - 128]) := by
          have := Own.of_append hown4 (by rw [HL.out]; rfl)
          exact this
        have hat' : (Value.slice (some ⟨q, 0, none⟩) (s / c + 1) cap).ownBlock = (V k).ownBlock ∨ ∃ b, (Value.slice (some ⟨q, 0, none⟩) (s / c + 1) cap).ownBlock = some b ∧ wr.heap.size ≤ b := by
          rcases hat with e2 | e2
          · left
            rw [HE.out.2.1, e2]
            rfl
          · exact .inr ⟨q, rfl, by omega⟩
        have hfw := HB.out.2.size
        have hgw := HG.out
        have hb5 := (HB.out.1.put hk (by rw [HE.out.2.1]; exact hk4) ho4 hat' (by omega)).congr (T' := sofT 8 bs c (s + 1)) (fun i hi => by
          have := sofT_step (bt := 8) (bs := bs) (s := s) (show 0 < c by omega) i hi
          rw [HE.out.1, HE.out.2.2, Hsm.out] at this
          exact this)
        have hf5 : Fresh w (w4.setCell ⟨g, k, none⟩ (.slice (some ⟨q, 0, none⟩) (s / c + 1) cap)) := (HB.out.2.trans hk4 (fun i hi e => by
          have := HB.out.1.lo k i hk (by rw [HE.out.2.1]; exact e)
          omega)).setCell (p := ⟨g, k, none⟩) (fun h => absurd h (by simp only; omega)) _
        have H5 := Lib.hid (And.intro hb5 hf5)
        clear hb5 hf5 hk4 c4 f4 hown4 hgrow hat hat' ho4 cv fv c2
        go_wp2_with fail
        go_roundw
        case rel => exact ⟨s + 1, by omega, by go_num, _, H5.out.1, H5.out.2⟩
        case measure => simp [intOf]; omega
    · obtain rfl : s = bs.length / 1 := by omega
      have hbe := HB.out.1.congr (T' := trkT 8 bs c) (fun i _ => sofT_end (bt := 8) (by omega) HM.out.1 i)
      rw [← HG.out] at hbe
      have HE := Lib.hid (And.intro hbe HB.out.2)
      clear hbe HB
      go_wp2_with fail
      go_ret2
      rw [← HG.out]
      exact ⟨_, _, _, rfl, HE.out.1, HE.out.2⟩

set_option maxHeartbeats 1600000 in
theorem qSplitForm8_any (A : Option Addr) (n cA c : Nat) (w : World) (hc : 1 ≤ c ∧ c ≤ 8) (hn : n ≤ 16777216) (hm : n % (c * 1) ≠ 0) :
    Calls Try.prog 10 #[.slice A n cA, .int .i64 (c : Int), .int .i64 8] w fun e w' => SplNo w w' e 4 := by
  have c1 : ¬ (c : Int) < 1 := by omega
  have c2 : ¬ 8 < (c : Int) := by omega
  obtain ⟨r, hr⟩ : ∃ r, n % (c * 1) = r := ⟨_, rfl⟩
  rw [hr] at hm
  have hmz : ((n : Nat) : Int) % (c : Int) = (r : Int) := by rw [Nat.mul_one] at hr; exact_mod_cast hr
  have hm2 : ((r : Int) != 0) = true := by simp; omega
  have g1 : (c = 0) = False := by simp only [eq_iff_iff, iff_false]; omega
  clear hr
  go_enter Try.func10, Try.ntmps10
  go_wp2_with fail
  go_ret2
  exact ⟨rfl, Kept.refl _ _⟩

set_option maxHeartbeats 3200000 in
theorem qSplit16_any (A : Option Addr) (cA c : Nat) (bs : List Int) (w : World) (hr : Row w .u8 A bs.length bs) (h8 : B8 bs) (hc : 1 ≤ c ∧ c ≤ 8) (hn : bs.length ≤ 16777216) (hm : bs.length % (c * 2) = 0) :
    Calls Try.prog 10 #[.slice A bs.length cA, .int .i64 (c : Int), .int .i64 16] w fun e w' => SplT w w' e 16 bs c := by
  obtain ⟨i4, hi4, h40, h41, h42⟩ := info_parts Try.infoTr4
  have HR : Hid (∀ V, Fresh w V → Row V .u8 A bs.length bs) := Lib.hid fun V hV => hr.kept hV (fun _ _ _ _ => id)
  have H8 := Lib.hid h8
  have c1 : ¬ (c : Int) < 1 := by omega
  have c2 : ¬ 8 < (c : Int) := by omega
  have hmz : ((bs.length : Nat) : Int) % ((c : Int) * 2) = 0 := by exact_mod_cast hm
  have g1 : (c = 0) = False := by simp only [eq_iff_iff, iff_false]; omega
  have HM := Lib.hid (And.intro hm hc)
  clear hr h8 hm
  go_enter Try.func10, Try.ntmps10
  go_wp2_with (refine wpList_make_bag _ rfl _ _ rfl _ _ _ _ c rfl rfl rfl rfl (by omega) ?_)
  intro w1 hb1 hf1
  generalize hg : w.heap.size = g at *
  have HG := Lib.hid hg
  have H1 := Lib.hid (And.intro (hb1.congr (T' := sofT 16 bs c 0) (fun i _ => (sofT_zero _ _ _ _).symm)) hf1)
  clear hb1 hf1 hg
  go_wp2_with fail
  go_loopw [10] (fun i wr => ∃ s : Nat, s ≤ bs.length / 2 ∧ i = .int .i64 s ∧ ∃ V, Bag wr g g c c V (sofT 16 bs c s) ∧ Fresh w wr) (fun i _ => (bs.length / 2 - intOf i).toNat)
  case atStart => exact ⟨0, by omega, rfl, _, H1.out.1, H1.out.2⟩
  case round =>
    obtain ⟨s, hs, rfl, V, hb, hf⟩ := hrel
    clear H1
    have HB := Lib.hid (And.intro hb hf)
    clear hb hf
    by_cases hlt : s < bs.length / 2
    · have hk := Nat.mod_lt s (show c > 0 by omega)
      have hks : ((s : Nat) : Int).tmod (c : Int) = ((s % c : Nat) : Int) := by rw [Int.tmod_eq_emod_of_nonneg (by omega)]; simp
      have cv := HB.out.1.slot hk
      have fv := HB.out.1.frozen (s % c)
      have ho := HB.out.1.row (s % c) hk
      have hlv := sofT_length 16 bs c s
      have hdv : s / c ≤ s := Nat.div_le_self _ _
      have hrow := HR.out wr HB.out.2
      obtain ⟨b1, o1, rfl, hb1, hc1⟩ := hrow.at_ (s * 2) (by omega)
      obtain ⟨b1', o1', e', hb2, hc2⟩ := hrow.at_ (s * 2 + 1) (by omega)
      injection e' with e'
      injection e' with e1 e2
      subst e1 e2
      have hx1 := H8.out.at_ (s * 2)
      have hx2 := H8.out.at_ (s * 2 + 1)
      have Hsm : Hid (smpT 16 bs (s * wdT 16) = s16 (bs.getD (s * 2) 0 + 256 * bs.getD (s * 2 + 1) 0)) := Lib.hid rfl
      generalize bs.getD (s * 2) 0 = x1 at *
      generalize bs.getD (s * 2 + 1) 0 = x2 at *
      have hc3 := hc1
      have hc4 := hc2
      rw [Nat.mul_comm s 2] at hc3 hc4
      have hap := HB.out.1.apart hk
      have hgl := HB.out.1.lt
      have HO := Lib.hid ho
      have Hk : Hid (s % c = s % c) := Lib.hid rfl
      generalize hke : s % c = k at *
      generalize hvk : V k = vk at *
      generalize hxs : sofT 16 bs c s k = xs at *
      have HE := Lib.hid (And.intro hke (And.intro hvk hxs))
      have HL := Lib.hid hlv
      clear hke hvk hxs hrow ho hlv Hk
      have c2 : ∀ o, (wr.alloc o).cell? ⟨g, k, none⟩ = some vk := fun o => (World.cell?_alloc_lt _ _ _ hgl).trans cv
      have HV := Lib.hid (And.intro hap hgl)
      have hns : s / c ≤ 16777216 := by omega
      have ik0 : (0 : Int) ≤ (k : Int) := by omega
      have ik1 : (k : Int) < (c : Int) := by omega
      clear hap
      go_wp2_with fail
      go_region
      rw [smp16 hx1 hx2]
      generalize s16 (x1 + 256 * x2) = x3 at *
      go_wp2_with fail
      go_region_law
        (first
          | (refine step_append_lies _ (by rfl) _ _ _ (by rfl) 0 21 i4 (.int .i32 0) 1 4 Try.underlying32 hi4 h40 h41 h42 rfl (by decide) vk (s / c) (ivs .i32 xs) (by rfl) (World.ownsRow.alloc (Own.sz HO.out HL.out) _) ⟨wr.heap.size, 0, none⟩ 1 1 (ivs .i32 [x3]) (by rfl) (by rfl) (cell_one_new _ _ _) (ivs_one _ _) (by decide) (by unfold maxLen; omega) (by omega) (by omega) (wr.heap.size + 1) (by simp) ?_
             intro q cap w4 hown4 hgrow hat hlt4
             have hk4 : Kept (fun i => vk.ownBlock = some i) wr w4 := ((Kept.refl _ _).drew.drew.alloc (.cells #[.int .i32 (x3)] 21)).grown hgrow (fun _ e _ => e)
             have c4 : w4.cell? ⟨g, k, none⟩ = some vk := (hk4.cell (p := ⟨g, k, none⟩) HV.out.2 HV.out.1).trans cv
             have f4 : w4.frozen? ⟨g, k, none⟩ = false := (hk4.frozen (p := ⟨g, k, none⟩) HV.out.2 HV.out.1).trans fv))
      all_goals
        have ho4 : Own w4 21 .i32 (.slice (some ⟨q, 0, none⟩) (s / c + 1) cap) (xs ++ [x3]) := by
          have := Own.of_append hown4 (by rw [HL.out]; rfl)
          exact this
        have hat' : (Value.slice (some ⟨q, 0, none⟩) (s / c + 1) cap).ownBlock = (V k).ownBlock ∨ ∃ b, (Value.slice (some ⟨q, 0, none⟩) (s / c + 1) cap).ownBlock = some b ∧ wr.heap.size ≤ b := by
          rcases hat with e2 | e2
          · left
            rw [HE.out.2.1, e2]
            rfl
          · exact .inr ⟨q, rfl, by omega⟩
        have hfw := HB.out.2.size
        have hgw := HG.out
        have hb5 := (HB.out.1.put hk (by rw [HE.out.2.1]; exact hk4) ho4 hat' (by omega)).congr (T' := sofT 16 bs c (s + 1)) (fun i hi => by
          have := sofT_step (bt := 16) (bs := bs) (s := s) (show 0 < c by omega) i hi
          rw [HE.out.1, HE.out.2.2, Hsm.out] at this
          exact this)
        have hf5 : Fresh w (w4.setCell ⟨g, k, none⟩ (.slice (some ⟨q, 0, none⟩) (s / c + 1) cap)) := (HB.out.2.trans hk4 (fun i hi e => by
          have := HB.out.1.lo k i hk (by rw [HE.out.2.1]; exact e)
          omega)).setCell (p := ⟨g, k, none⟩) (fun h => absurd h (by simp only; omega)) _
        have H5 := Lib.hid (And.intro hb5 hf5)
        clear hb5 hf5 hk4 c4 f4 hown4 hgrow hat hat' ho4 cv fv c2
        go_wp2_with fail
        go_roundw
        case rel => exact ⟨s + 1, by omega, by go_num, _, H5.out.1, H5.out.2⟩
        case measure => simp [intOf]; omega
    · obtain rfl : s = bs.length / 2 := by omega
      have hbe := HB.out.1.congr (T' := trkT 16 bs c) (fun i _ => sofT_end (bt := 16) (by omega) HM.out.1 i)
      rw [← HG.out] at hbe
      have HE := Lib.hid (And.intro hbe HB.out.2)
      clear hbe HB
      go_wp2_with fail
      go_ret2
      rw [← HG.out]
      exact ⟨_, _, _, rfl, HE.out.1, HE.out.2⟩

set_option maxHeartbeats 1600000 in
theorem qSplitForm16_any (A : Option Addr) (n cA c : Nat) (w : World) (hc : 1 ≤ c ∧ c ≤ 8) (hn : n ≤ 16777216) (hm : n % (c * 2) ≠ 0) :
    Calls Try.prog 10 #[.slice A n cA, .int .i64 (c : Int), .int .i64 16] w fun e w' => SplNo w w' e 4 := by
  have c1 : ¬ (c : Int) < 1 := by omega
  have c2 : ¬ 8 < (c : Int) := by omega
  obtain ⟨r, hr⟩ : ∃ r, n % (c * 2) = r := ⟨_, rfl⟩
  rw [hr] at hm
  have hmz : ((n : Nat) : Int) % ((c : Int) * 2) = (r : Int) := by exact_mod_cast hr
  have hm2 : ((r : Int) != 0) = true := by simp; omega
  have g1 : (c = 0) = False := by simp only [eq_iff_iff, iff_false]; omega
  clear hr
  go_enter Try.func10, Try.ntmps10
  go_wp2_with fail
  go_ret2
  exact ⟨rfl, Kept.refl _ _⟩

set_option maxHeartbeats 1600000 in
theorem qSplitArg_any (A : Option Addr) (n cA : Nat) (ch bt : Int) (w : World) (h : ¬ fitT ch bt) :
    Calls Try.prog 10 #[.slice A n cA, .int .i64 ch, .int .i64 bt] w fun e w' => SplNo w w' e 1 := by
  by_cases h1 : ch < 1
  · clear h
    go_enter Try.func10, Try.ntmps10
    go_wp2_with fail
    go_ret2
    exact ⟨rfl, Kept.refl _ _⟩
  · by_cases h2 : 8 < ch
    · clear h
      go_enter Try.func10, Try.ntmps10
      go_wp2_with fail
      go_ret2
      exact ⟨rfl, Kept.refl _ _⟩
    · have h3 : (bt != 8) = true := by
        rw [bne_iff_ne]
        rintro rfl
        exact h ⟨by omega, by omega, .inl rfl⟩
      have h4 : (bt != 16) = true := by
        rw [bne_iff_ne]
        rintro rfl
        exact h ⟨by omega, by omega, .inr rfl⟩
      clear h
      go_enter Try.func10, Try.ntmps10
      go_wp2_with fail
      go_ret2
      exact ⟨rfl, Kept.refl _ _⟩

end Go.Proofs.Ytcpmjaoglbgmbaa
