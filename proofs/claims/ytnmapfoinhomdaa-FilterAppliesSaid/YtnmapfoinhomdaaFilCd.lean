/- The best kind of a row: the code's. -/
import Derived.Test.YtnmapfoinhomdaaFilCb
namespace Go.Proofs.Ytnmapfoinhomdaa
open Go.RowKit
set_option maxRecDepth 100000

attribute [local go_sem ↓] Go.wp_at_zero Go.wp_at_succ

/-- Five sums as cells. -/
def f5 (f : Nat → Int) : Array Value := #[.int .u64 (f 0), .int .u64 (f 1), .int .u64 (f 2), .int .u64 (f 3), .int .u64 (f 4)]
theorem f5_get (f : Nat → Int) {k : Nat} (hk : k < 5) : (f5 f)[k]? = some (.int .u64 (f k)) := by
  rcases (show k = 0 ∨ k = 1 ∨ k = 2 ∨ k = 3 ∨ k = 4 by omega) with rfl | rfl | rfl | rfl | rfl <;> rfl
theorem f5_set (f : Nat → Int) {k : Nat} (hk : k < 5) (v : Int) : (f5 f).setIfInBounds k (.int .u64 v) = f5 fun i => if i = k then v else f i := by
  rcases (show k = 0 ∨ k = 1 ∨ k = 2 ∨ k = 3 ∨ k = 4 by omega) with rfl | rfl | rfl | rfl | rfl <;> simp [f5]
theorem f5_congr {f g : Nat → Int} (h : ∀ k, k < 5 → f k = g k) : f5 f = f5 g := by
  unfold f5
  rw [h 0 (by omega), h 1 (by omega), h 2 (by omega), h 3 (by omega), h 4 (by omega)]
theorem run_index_f5 (W : World) (f : Nat → Int) {k : Nat} (h : k < 5) : (Instr.index 62 (.agg (f5 f)) (.int .i64 k)).run Try.prog W = .ok (.int .u64 (f k)) W := by
  rcases (show k = 0 ∨ k = 1 ∨ k = 2 ∨ k = 3 ∨ k = 4 by omega) with rfl | rfl | rfl | rfl | rfl
  all_goals simp [Instr.index, run_underlying Try.underlying62, asIntOf, go_sem, f5]

/-- What the first j bytes of the row of kind k weigh; the weights behind j bytes and the first kk kinds of the next one. -/
def sm (l up : List Int) (q j k : Nat) : Int := (wgN (rowF (k : Nat) l up q) j : Nat)
def smK (l up : List Int) (q j kk k : Nat) : Int := if k < kk then sm l up q (j + 1) k else sm l up q j k

theorem smK_next (l up : List Int) (q j : Nat) {k : Nat} (_ : k < 5) {v : Int} (h : sm l up q (j + 1) k = v) : (f5 (smK l up q j k)).setIfInBounds k (.int .u64 v) = f5 (smK l up q j (k + 1)) := by
  rw [f5_set _ (by omega)]
  refine f5_congr fun i hi => ?_
  unfold smK
  by_cases e : i = k
  · subst e
    rw [if_pos rfl, if_pos (by omega), h]
  · rw [if_neg e]
    by_cases e2 : i < k
    · rw [if_pos e2, if_pos (by omega)]
    · rw [if_neg e2, if_neg (by omega)]
/-- The least of the first ones, as the code finds it. -/
def bf (S : Nat → Int) : Nat → Nat
  | 0 => 0
  | k + 1 => if S k < S (bf S k) then k else bf S k
theorem bf_le (S : Nat → Int) : ∀ k, bf S (k + 1) ≤ k
  | 0 => by simp [bf]
  | k + 1 => by
    have := bf_le S k
    rw [bf]
    split <;> omega
theorem bf_lt (S : Nat → Int) {k : Nat} (h : k ≤ 5) : bf S k < 5 := by
  cases k with
  | zero => simp [bf]
  | succ k => have := bf_le S k; omega
theorem bf_bst (l up : List Int) (q : Nat) : ∀ k, bf (fun k => (wgt (rowF (k : Nat) l up q) : Nat)) (k + 1) = bstN l up q k
  | 0 => by simp [bf, bstN]
  | k + 1 => by
    rw [bf, bf_bst l up q k, bstN]
    by_cases h : wgt (rowF ((k + 1 : Nat) : Int) l up q) < wgt (rowF (bstN l up q k : Nat) l up q)
    · rw [if_pos h, if_pos (by omega)]
    · rw [if_neg h, if_neg (by omega)]

set_option maxHeartbeats 3200000 in
theorem cBestF_any (A : Option Addr) (n c : Nat) (l : List Int) (B : Option Addr) (m d : Nat) (up : List Int) (q : Nat) (w : World)
    (hr : Row w .u8 A n l) (hb : Row w .u8 B m up) (h1 : B8 l) (h2 : B8 up) (hn : n ≤ 16777216) (hm : m ≤ 16777216) (hq : q ≤ 9223372036854775807) :
    Calls Try.prog 29 #[.agg #[.slice A n c, .slice B m d, .int .i64 q]] w fun e w' => e = .returned (.int .i64 (bst l up q : Nat)) ∧ Fresh w w' := by
  obtain rfl := hr.len
  have HR : Hid (∀ V, Fresh w V → Row V .u8 A l.length l ∧ Row V .u8 B m up) := Lib.hid fun V hV => ⟨hr.fresh hV, hb.fresh hV⟩
  have HQ := Lib.hid (And.intro hq (And.intro hn hm))
  have H8 := Lib.hid (And.intro h1 h2)
  have HS : Hid (∀ j k : Nat, j ≤ l.length → 0 ≤ sm l up q j k ∧ sm l up q j k ≤ 128 * 16777216) := Lib.hid fun j k hj => by
    have := wgN_le (rowF_byte (k : Nat) l up q) j
    unfold sm
    omega
  clear hr hb h1 h2 hq hm
  go_enter Try.func29, Try.ntmps29
  go_wp2_with fail
  go_loopw [14] (fun i wr => ∃ j : Nat, j ≤ l.length ∧ i = .int .i64 j ∧ Blk wr w.heap.size 44 #[.slice A l.length c, .slice B m d, .int .i64 q] ∧ Blk wr (w.heap.size + 1) 62 (f5 (sm l up q j)) ∧ Fresh w wr) (fun i _ => (l.length - intOf i).toNat)
  case atStart =>
    refine ⟨0, by omega, rfl, (Blk.new _ _ _).alloc _, ?_, ((Kept.refl _ _).alloc _).alloc _⟩
    rw [show f5 (sm l up q 0) = #[.int .u64 0, .int .u64 0, .int .u64 0, .int .u64 0, .int .u64 0] from rfl]
    have := Blk.new (w.alloc (.cells #[.slice A l.length c, .slice B m d, .int .i64 q] 44)) 62 #[.int .u64 0, .int .u64 0, .int .u64 0, .int .u64 0, .int .u64 0]
    rwa [World.size_alloc] at this
  case round =>
    obtain ⟨j, hj, rfl, hb, hs, hf⟩ := hrel
    have c0 := (hb.cell 0).trans (show _ = some (Value.slice A l.length c) from rfl)
    have c1 := (hb.cell 1).trans (show _ = some (Value.slice B m d) from rfl)
    have c2 := (hb.cell 2).trans (show _ = some (Value.int .i64 q) from rfl)
    by_cases hlt : j < l.length
    · obtain ⟨hrow, hup⟩ := HR.out wr hf
      obtain ⟨b, o2, rfl, hbw, hc⟩ := hrow.at_ j hlt
      have HA := Lib.hid (cAroundF_any (some ⟨b, o2, none⟩) l.length c l B m d up q j wr hrow hup HQ.out.2.1 HQ.out.2.2 (by omega) HQ.out.1)
      have ax := ahd_in H8.out.1 j q
      have az := ahd_in H8.out.2 j q
      have ay := H8.out.2.at_ j
      have hv := H8.out.1.at_ j
      have hgs : ∀ k : Nat, gsx (k : Int) (ahd l j q) (up.getD j 0) (ahd up j q) = ges (k : Int) l up j q := fun _ => rfl
      have hgi : ∀ k : Nat, 0 ≤ ges (k : Int) l up j q ∧ ges (k : Int) l up j q < 256 := fun k => ges_in H8.out.1 H8.out.2 _ _ _
      have hst : ∀ k : Nat, sm l up q (j + 1) k = sm l up q j k + (wgb ((l.getD j 0 - ges (k : Int) l up j q) % 256) : Nat) := fun k => by
        unfold sm
        rw [wgN, rowF, tn_getD hlt]
        omega
      unfold nrv at HA
      have HH := Lib.hid (And.intro hb (And.intro hs hf))
      have HT := Lib.hid (And.intro hgs (And.intro hgi hst))
      have hjj : (j : Int) < (l.length : Int) := by omega
      generalize ahd l j q = x at *
      generalize up.getD j 0 = y at *
      generalize ahd up j q = z at *
      generalize l.getD j 0 = v at *
      clear hrow hup hb hs hf hgs hgi hst
      go_wp2_with fail
      refine HA.out.mono ?_
      rintro e w1 ⟨rfl, hf1⟩
      have HF1 := Lib.hid hf1
      clear hf1
      go_wp2_with fail
      have H1 : Hid (Blk (w1.alloc (.cells #[.int .u8 x, .int .u8 y, .int .u8 z] 57)) w.heap.size 44 #[.slice (some ⟨b, o2, none⟩) l.length c, .slice B m d, .int .i64 q] ∧ Blk (w1.alloc (.cells #[.int .u8 x, .int .u8 y, .int .u8 z] 57)) (w.heap.size + 1) 62 (f5 (sm l up q j)) ∧
          Blk (w1.alloc (.cells #[.int .u8 x, .int .u8 y, .int .u8 z] 57)) w1.heap.size 57 #[.int .u8 x, .int .u8 y, .int .u8 z] ∧ Fresh w (w1.alloc (.cells #[.int .u8 x, .int .u8 y, .int .u8 z] 57))) :=
        Lib.hid ⟨(HH.out.1.kept HF1.out id).alloc _, (HH.out.2.1.kept HF1.out id).alloc _, Blk.new _ _ _, (HH.out.2.2.trans HF1.out (fun _ _ e => e)).alloc _⟩
      clear HA HF1 HH
      go_loopw [22] (fun i wr => ∃ k : Nat, k ≤ 5 ∧ i = .int .i64 k ∧ Blk wr w.heap.size 44 #[.slice (some ⟨b, o2, none⟩) l.length c, .slice B m d, .int .i64 q] ∧ Blk wr (w.heap.size + 1) 62 (f5 (smK l up q j k)) ∧ Blk wr w1.heap.size 57 #[.int .u8 x, .int .u8 y, .int .u8 z] ∧ Fresh w wr) (fun i _ => (5 - intOf i).toNat)
      case atStart => exact ⟨0, by omega, rfl, H1.out.1, by rw [f5_congr (g := sm l up q j) (fun k _ => by unfold smK; rw [if_neg (by omega)])]; exact H1.out.2.1, H1.out.2.2⟩
      case round =>
        obtain ⟨k, hk, rfl, hb, hs, hn2, hf⟩ := hrel
        by_cases hk5 : k < 5
        · have hkk : (k : Int) < 5 := by omega
          have hG := cGuessF_any (k : Int) x y z
          rw [HT.out.1 k] at hG
          have HG : Hid (∀ V, Calls Try.prog 37 #[.agg #[.int .u8 x, .int .u8 y, .int .u8 z], .int .i64 k] V fun e w' => e = .returned (.int .u8 (ges (k : Int) l up j q)) ∧ Fresh V w') := Lib.hid fun V => hG V ax ay az
          have gin := HT.out.2.1 k
          have cS : wr.cell? ⟨w.heap.size + 1, k, none⟩ = some (.int .u64 (sm l up q j k)) := (hs.cell k).trans (by rw [f5_get _ hk5, smK, if_neg (by omega)])
          have fS := hs.frozen k
          have n0 := (hn2.cell 0).trans (show _ = some (Value.int .u8 x) from rfl)
          have n1 := (hn2.cell 1).trans (show _ = some (Value.int .u8 y) from rfl)
          have n2 := (hn2.cell 2).trans (show _ = some (Value.int .u8 z) from rfl)
          have sin := HS.out j k (by omega)
          have Hst := Lib.hid (HT.out.2.2 k)
          have HH := Lib.hid (And.intro hb (And.intro hs (And.intro hn2 hf)))
          generalize ges (k : Int) l up j q = s at *
          generalize hS0 : sm l up q j k = S0 at *
          have win : 0 ≤ ((wgb ((v - s) % 256) : Nat) : Int) ∧ ((wgb ((v - s) % 256) : Nat) : Int) ≤ 256 := by unfold wgb; split <;> omega
          have HW : Hid (∀ V, Calls Try.prog 39 #[.int .u8 ((v - s) % 256)] V fun e w' => e = .returned (.int .u64 (wgb ((v - s) % 256) : Nat)) ∧ V = w') := Lib.hid fun V => cAmountF_any _ V (by omega)
          generalize wgb ((v - s) % 256) = W at *
          have wr0 : IntKind.u64.wrap (S0 + (W : Int)) = S0 + (W : Int) := IntWalk.u64_in _ (by omega)
          clear hG hb hs hn2 hf ax ay az hS0
          go_wp2_with fail
          go_region_law
            (first
              | (go_simp; go_at_call 37; refine (HG.out _).mono ?_; rintro e w2 ⟨rfl, hf2⟩; have cS2 : w2.cell? ⟨w.heap.size + 1, k, none⟩ = some (.int .u64 S0) := (hf2.cell (p := ⟨w.heap.size + 1, k, none⟩) HH.out.2.1.lt id).trans cS; have fS2 : w2.frozen? ⟨w.heap.size + 1, k, none⟩ = false := (hf2.frozen (p := ⟨w.heap.size + 1, k, none⟩) HH.out.2.1.lt id).trans fS)
              | (go_simp; go_at_call 39; refine (HW.out _).mono ?_; rintro e w3 ⟨rfl, rfl⟩))
          all_goals
            have HF := Lib.hid (show Fresh wr w2 from ⟨hf2.os, hf2.tape, hf2.output, hf2.size, hf2.block⟩)
            clear hf2 cS2 fS2 cS fS n0 n1 n2
            go_wp2_with fail
            go_roundw
            case rel =>
              refine ⟨k + 1, by omega, by go_num, ?_, ?_, ?_, ?_⟩
              · exact (HH.out.1.kept HF.out id).far (p := ⟨w.heap.size + 1, k, none⟩) (by simp) _
              · rw [← smK_next l up q j hk5 Hst.out]
                exact (HH.out.2.1.kept HF.out id).set_ k _
              · exact (HH.out.2.2.1.kept HF.out id).far (p := ⟨w.heap.size + 1, k, none⟩) (HH.out.2.2.1.ne_ HH.out.2.1 (by decide)) _
              · exact (HH.out.2.2.2.trans HF.out (fun _ _ e => e)).setCell (p := ⟨w.heap.size + 1, k, none⟩) (fun e => absurd e (by simp)) _
            case measure => simp [intOf]; omega
        · obtain rfl : k = 5 := by omega
          rw [f5_congr (g := sm l up q (j + 1)) (fun k hk => by unfold smK; rw [if_pos hk])] at hs
          have HH := Lib.hid (And.intro hb (And.intro hs hf))
          clear hb hs hn2 hf ax az ay
          go_wp2_with fail
          go_roundw
          case rel => exact ⟨j + 1, by omega, by go_num, HH.out⟩
          case measure => simp [intOf]; omega
    · obtain rfl : j = l.length := by omega
      obtain ⟨S, hS⟩ : ∃ S : Nat → Int, S = fun k => ((wgt (rowF (k : Nat) l up q) : Nat) : Int) := ⟨_, rfl⟩
      have hsm : sm l up q l.length = S := by
        rw [hS]
        funext k
        unfold sm wgt
        rw [rowF_length]
      rw [hsm] at hs
      have HB : Hid (bf S 5 = bst l up q) := Lib.hid (by rw [hS]; exact bf_bst l up q 4)
      have HK : Hid (∀ k, 0 ≤ S k ∧ S k ≤ 128 * 16777216) := Lib.hid fun k => by rw [← hsm]; exact HS.out l.length k (Nat.le_refl _)
      have s0 := (hs.cell 0).trans (f5_get S (by omega))
      have s1 := (hs.cell 1).trans (f5_get S (by omega))
      have s2 := (hs.cell 2).trans (f5_get S (by omega))
      have s3 := (hs.cell 3).trans (f5_get S (by omega))
      have s4 := (hs.cell 4).trans (f5_get S (by omega))
      have HH := Lib.hid (And.intro hs hf)
      have HI : Hid (∀ (k : Nat) (_ : k < 5) V, (Instr.index 62 (.agg #[.int .u64 (S 0), .int .u64 (S 1), .int .u64 (S 2), .int .u64 (S 3), .int .u64 (S 4)]) (.int .i64 k)).run Try.prog V = .ok (.int .u64 (S k)) V) := Lib.hid fun k hk V => run_index_f5 V S hk
      clear hb hs hf hS hsm
      go_wp2_with fail
      go_loopw [39, 8] (fun i x wr' => ∃ k : Nat, k ≤ 5 ∧ i = .int .i64 k ∧ x = .int .i64 (bf S k : Nat) ∧ wr' = wr) (fun i _ _ => (5 - intOf i).toNat)
      case atStart => exact ⟨0, by omega, rfl, rfl, rfl⟩
      case round =>
        obtain ⟨k, hk, rfl, rfl, rfl⟩ := hrel
        by_cases hk5 : k < 5
        · have hkk : (k : Int) < 5 := by omega
          have hx := HI.out k hk5
          have hb5 := bf_lt S hk
          have cb := (HH.out.1.cell (bf S k)).trans (f5_get S hb5)
          have h1 := HK.out k
          have h2 := HK.out (bf S k)
          have Hn : Hid (bf S (k + 1) = if S k < S (bf S k) then k else bf S k) := Lib.hid rfl
          generalize S (bf S k) = z at *
          generalize bf S k = r at *
          obtain ⟨r', hr'⟩ : ∃ r', r' = bf S (k + 1) := ⟨_, rfl⟩
          have Hr := Lib.hid hr'.symm
          rw [← hr'] at Hn
          clear hr'
          clear s0 s1 s2 s3 s4
          by_cases hlt : S k < z
          · have He := Lib.hid (Hn.out.trans (if_pos hlt))
            generalize S k = y at *
            go_wp2_with fail
            go_roundw
            case rel => exact ⟨k + 1, by omega, by go_num, by rw [Hr.out, He.out], trivial⟩
            case measure => simp [intOf]; omega
          · have He := Lib.hid (Hn.out.trans (if_neg hlt))
            generalize S k = y at *
            go_wp2_with fail
            go_roundw
            case rel => exact ⟨k + 1, by omega, by go_num, by rw [Hr.out, He.out], trivial⟩
            case measure => simp [intOf]; omega
        · obtain rfl : k = 5 := by omega
          rw [HB.out]
          go_wp2_with fail
          go_ret
          exact ⟨rfl, HH.out.2⟩

end Go.Proofs.Ytnmapfoinhomdaa
