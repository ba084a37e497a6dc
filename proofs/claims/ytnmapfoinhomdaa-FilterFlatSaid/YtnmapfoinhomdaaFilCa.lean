/- What stands around a byte: the code's. -/
import Derived.Test.YtnmapfoinhomdaaFilC
import Derived.StillTailTactics
namespace Go.Proofs.Ytnmapfoinhomdaa
open Go.RowKit
set_option maxRecDepth 100000

attribute [local go_sem ↓] Go.wp_at_zero Go.wp_at_succ

set_option maxHeartbeats 1600000 in
/-- What stands around a byte. -/
theorem cAroundF_any (A : Option Addr) (n c : Nat) (row : List Int) (B : Option Addr) (m d : Nat) (up : List Int) (q i : Nat) (w : World)
    (ha : Row w .u8 A n row) (hb : Row w .u8 B m up) (hn : n ≤ 16777216) (hm : m ≤ 16777216) (hi : i ≤ 16777216) (hq : q ≤ 9223372036854775807) :
    Calls Try.prog 36 #[.agg #[.slice A n c, .slice B m d, .int .i64 q], .int .i64 i] w fun e w' => e = .returned (nrv row up i q) ∧ Fresh w w' := by
  have HA : Hid (∀ V, Fresh w V → Calls Try.prog 43 #[.slice A n c, .int .i64 ((i : Int) - (q : Int))] V fun e w' => e = .returned (.int .u8 (ahd row i q)) ∧ V = w') := Lib.hid fun V hV => by
    have := cAtF_any A n c row ((i : Int) - (q : Int)) V (ha.fresh hV) (by omega)
    rwa [of_ahd] at this
  have HB : Hid (∀ V, Fresh w V → Calls Try.prog 43 #[.slice B m d, .int .i64 (i : Int)] V fun e w' => e = .returned (.int .u8 (up.getD i 0)) ∧ V = w') := Lib.hid fun V hV => by
    have := cAtF_any B m d up (i : Int) V (hb.fresh hV) (by omega)
    rwa [if_neg (by omega), Int.toNat_natCast] at this
  have HD : Hid (∀ V, Fresh w V → Calls Try.prog 43 #[.slice B m d, .int .i64 ((i : Int) - (q : Int))] V fun e w' => e = .returned (.int .u8 (ahd up i q)) ∧ V = w') := Lib.hid fun V hV => by
    have := cAtF_any B m d up ((i : Int) - (q : Int)) V (hb.fresh hV) (by omega)
    rwa [of_ahd] at this
  have hw : IntKind.i64.wrap ((i : Int) - (q : Int)) = (i : Int) - (q : Int) := IntWalk.i64_in _ (by omega)
  clear hi hq hn hm
  unfold nrv
  generalize ahd row i q = x at *
  generalize up.getD i 0 = y at *
  generalize ahd up i q = z at *
  clear ha hb
  go_enter Try.func36, Try.ntmps36
  go_wp2_with fail
  obtain ⟨W1, hW1⟩ : ∃ W1, W1 = (w.alloc (.cells #[.slice A n c, .slice B m d, .int .i64 q] 44)).alloc (.cells #[.int .u8 0, .int .u8 0, .int .u8 0] 57) := ⟨_, rfl⟩
  have b0 : Blk W1 w.heap.size 44 #[.slice A n c, .slice B m d, .int .i64 q] := by rw [hW1]; exact (Blk.new _ _ _).alloc _
  have b1 : Blk W1 (w.heap.size + 1) 57 #[.int .u8 0, .int .u8 0, .int .u8 0] := by
    rw [hW1]
    have := Blk.new (w.alloc (.cells #[.slice A n c, .slice B m d, .int .i64 q] 44)) 57 #[.int .u8 0, .int .u8 0, .int .u8 0]
    rwa [World.size_alloc] at this
  have hf : Fresh w W1 := by rw [hW1]; exact ((Kept.refl _ _).alloc _).alloc _
  rw [← hW1]
  clear hW1
  refine wp_region_still_tail 23 (by kernel_rfl) (by kernel_rfl) ?_
  change wpStill _ _ W1.drew (fun a' => wpList _ _ _ _ a' W1.drew) _ _
  have b0 := b0.drew
  have b1 := b1.drew
  have hf := hf.drew
  generalize W1.drew = V at *
  have c0 := (b0.cell 0).trans (show _ = some (Value.slice A n c) from rfl)
  have c1 := (b0.cell 1).trans (show _ = some (Value.slice B m d) from rfl)
  have c2 := (b0.cell 2).trans (show _ = some (Value.int .i64 q) from rfl)
  have HF := Lib.hid (And.intro b1 hf)
  clear b0 b1 hf
  simp only [List.take_succ_cons, List.take_zero, List.drop_succ_cons, List.drop_zero]
  still_step
  iterate 6 still_step
  still_call ((HA.out V HF.out.2).mono fun _ _ h => ⟨h.1, h.2.symm⟩)
  iterate 4 still_step
  still_call ((HB.out V HF.out.2).mono fun _ _ h => ⟨h.1, h.2.symm⟩)
  iterate 8 still_step
  still_call ((HD.out V HF.out.2).mono fun _ _ h => ⟨h.1, h.2.symm⟩)
  still_step
  refine wpStill_nil ?_
  have f1 := HF.out.1.frozen 0
  have k0 := (HF.out.1.cell 0).trans (show _ = some (Value.int .u8 0) from rfl)
  have k1 := (HF.out.1.cell 1).trans (show _ = some (Value.int .u8 0) from rfl)
  have k2 := (HF.out.1.cell 2).trans (show _ = some (Value.int .u8 0) from rfl)
  have f2 := HF.out.1.frozen 1
  have f3 := HF.out.1.frozen 2
  go_wp2_with fail
  refine bodyPost_ret (v := .agg #[.int .u8 x, .int .u8 y, .int .u8 z]) (by simp [results, Try.results36, go_sem, k0, k1, k2]) rfl ⟨rfl, ?_⟩
  exact (((HF.out.2.setCell (p := ⟨w.heap.size + 1, 0, none⟩) (fun e => absurd e (by simp)) _).setCell (p := ⟨w.heap.size + 1, 1, none⟩) (fun e => absurd e (by simp)) _).setCell (p := ⟨w.heap.size + 1, 2, none⟩) (fun e => absurd e (by simp)) _)

/-- Bytes put into a list from a place on. -/
def spl (xs : List Int) (o : Nat) (ys : List Int) : List Int := xs.take o ++ ys ++ xs.drop (o + ys.length)
theorem spl_length {xs ys : List Int} {o : Nat} (h : o + ys.length ≤ xs.length) : (spl xs o ys).length = xs.length := by
  unfold spl
  simp only [List.length_append, List.length_take, List.length_drop]
  omega
theorem spl_nil (xs : List Int) (o : Nat) : spl xs o [] = xs := by simp [spl]
theorem spl_set {xs ys : List Int} {o : Nat} (h : o + ys.length < xs.length) (v : Int) : (spl xs o ys).set (o + ys.length) v = spl xs o (ys ++ [v]) := by
  have hl : (xs.take o ++ ys).length = o + ys.length := by simp only [List.length_append, List.length_take]; omega
  unfold spl
  rw [List.set_append_right _ _ (by omega), hl, Nat.sub_self, List.drop_eq_getElem_cons h, List.set_cons_zero, List.length_append, List.append_assoc, List.append_assoc, List.append_assoc]
  rfl
theorem spl_mid {xs ys : List Int} {o i : Nat} (ho : o ≤ xs.length) (h : i < ys.length) : (spl xs o ys).getD (o + i) 0 = ys.getD i 0 := by
  have hl : (xs.take o).length = o := by rw [List.length_take]; omega
  unfold spl
  simp only [List.getD]
  rw [List.append_assoc, List.getElem?_append_right (by omega), hl, Nat.add_sub_cancel_left, List.getElem?_append_left h]
theorem spl_low {xs ys : List Int} {o i : Nat} (ho : o ≤ xs.length) (h : i < o) : (spl xs o ys).getD i 0 = xs.getD i 0 := by
  have hl : (xs.take o).length = o := by rw [List.length_take]; omega
  unfold spl
  simp only [List.getD]
  rw [List.append_assoc, List.getElem?_append_left (by omega), List.getElem?_take_of_lt h]
theorem spl_all {xs ys : List Int} (h : ys.length = xs.length) : spl xs 0 ys = ys := by simp [spl, h]

set_option maxHeartbeats 1600000 in
/-- A row, each byte less its guess, into other bytes. -/
theorem cTurnF_any (A : Option Addr) (n c : Nat) (l : List Int) (B : Option Addr) (m d : Nat) (up : List Int) (k : Int) (q g o N C cap : Nat) (xs : List Int) (w : World)
    (hr : Row w .u8 A n l) (hb : Row w .u8 B m up) (h1 : B8 l) (h2 : B8 up) (hn : n ≤ 16777216) (hm : m ≤ 16777216) (hq : q ≤ 9223372036854775807)
    (hx : Own w 5 .u8 (.slice (some ⟨g, 0, none⟩) N C) xs) (hxl : xs.length = N) (hon : o + n ≤ N) (hcap : n ≤ cap)
    (hA : ∀ b o', A = some ⟨b, o', none⟩ → 0 < n → b ≠ g) (hB : ∀ b o', B = some ⟨b, o', none⟩ → 0 < m → b ≠ g) :
    Calls Try.prog 26 #[.agg #[.slice A n c, .slice B m d, .int .i64 q], .int .i64 k, .slice (some ⟨g, o, none⟩) n cap] w fun e w' =>
      e = .returned (.tuple #[]) ∧ Kept (fun i => i = g) w w' ∧ Own w' 5 .u8 (.slice (some ⟨g, 0, none⟩) N C) (spl xs o (rowF k l up q)) := by
  obtain rfl := hr.len
  have hgl := hx.lt (g := g) rfl
  have HR : Hid (∀ V, Kept (fun i => i = g) w V → Row V .u8 A l.length l ∧ Row V .u8 B m up) := Lib.hid fun V hV => ⟨hr.kept hV hA, hb.kept hV hB⟩
  have HQ := Lib.hid (And.intro hq (And.intro hn hm))
  have H8 := Lib.hid (And.intro h1 h2)
  have HX := Lib.hid (And.intro hx (And.intro hxl hon))
  clear hr hb hA hB h1 h2 hq hx hxl hon hm
  go_enter Try.func26, Try.ntmps26
  go_wp2_with fail
  go_loopw [11] (fun i wr => ∃ j : Nat, j ≤ l.length ∧ i = .int .i64 j ∧ Blk wr w.heap.size 44 #[.slice A l.length c, .slice B m d, .int .i64 q] ∧ Kept (fun i => i = g) w wr ∧ Own wr 5 .u8 (.slice (some ⟨g, 0, none⟩) N C) (spl xs o (tn j fun i => (l.getD i 0 - ges k l up i q) % 256))) (fun i _ => (l.length - intOf i).toNat)
  case atStart => exact ⟨0, by omega, rfl, Blk.new _ _ _, (Kept.refl _ _).alloc _, by rw [show tn 0 _ = [] from rfl, spl_nil]; exact HX.out.1.alloc _⟩
  case round =>
    obtain ⟨j, hj, rfl, hb, hk, ho⟩ := hrel
    have c0 := (hb.cell 0).trans (show _ = some (Value.slice A l.length c) from rfl)
    have c1 := (hb.cell 1).trans (show _ = some (Value.slice B m d) from rfl)
    have c2 := (hb.cell 2).trans (show _ = some (Value.int .i64 q) from rfl)
    by_cases hlt : j < l.length
    · obtain ⟨hrow, hup⟩ := HR.out wr hk
      obtain ⟨b, o2, rfl, hbw, hc⟩ := hrow.at_ j hlt
      have HA := Lib.hid (cAroundF_any (some ⟨b, o2, none⟩) l.length c l B m d up q j wr hrow hup HQ.out.2.1 HQ.out.2.2 (by omega) HQ.out.1)
      have gin := ges_in H8.out.1 H8.out.2 k j q
      have gs := gsx_ges k l up j q
      have ax := ahd_in H8.out.1 j q
      have az := ahd_in H8.out.2 j q
      have ay := H8.out.2.at_ j
      have hv := H8.out.1.at_ j
      have hlen := tn_length j fun i => (l.getD i 0 - ges k l up i q) % 256
      have Hs : Hid ((tn (j + 1) fun i => (l.getD i 0 - ges k l up i q) % 256) = (tn j fun i => (l.getD i 0 - ges k l up i q) % 256) ++ [(l.getD j 0 - ges k l up j q) % 256]) := Lib.hid (tn_succ _ _)
      have HL := Lib.hid hlen
      unfold nrv at HA
      generalize (tn j fun i => (l.getD i 0 - ges k l up i q) % 256) = ys at *
      generalize ahd l j q = x at *
      generalize up.getD j 0 = y at *
      generalize ahd up j q = z at *
      generalize ges k l up j q = s at *
      generalize l.getD j 0 = v at *
      subst gs
      have HG : Hid (∀ V, Calls Try.prog 37 #[.agg #[.int .u8 x, .int .u8 y, .int .u8 z], .int .i64 k] V fun e w' => e = .returned (.int .u8 (gsx k x y z)) ∧ Fresh V w') := Lib.hid fun V => cGuessF_any k x y z V ax ay az
      generalize gsx k x y z = s at *
      have HH := Lib.hid (And.intro hb (And.intro hk ho))
      have hjj : (j : Int) < (l.length : Int) := by omega
      clear hrow hup hb hk ho ax ay az hlen
      go_wp2_with fail
      refine HA.out.mono ?_
      rintro e w1 ⟨rfl, hf1⟩
      have HF1 := Lib.hid hf1
      clear hf1
      go_wp2_with fail
      refine (HG.out w1).mono ?_
      rintro e w2 ⟨rfl, hf2⟩
      have hf12 := HF1.out.trans hf2 (fun _ _ e => e)
      have ho2 := HH.out.2.2.kept hf12 (fun _ _ => id)
      have hsl : (spl xs o ys).length = N := by rw [spl_length (by rw [HL.out, HX.out.2.1]; have := HX.out.2.2; omega), HX.out.2.1]
      have hco := ho2.cellN hsl (j := o + j) (by have := HX.out.2.2; omega)
      have hfo := ho2.frozenN hsl (o + j)
      have HO := Lib.hid (And.intro ho2 (And.intro hsl hf12))
      generalize (spl xs o ys).getD (o + j) 0 = old at *
      clear hf12 ho2 hsl hf2
      go_wp2_with fail
      go_roundw
      case rel =>
        refine ⟨j + 1, by omega, by go_num, ?_, ?_, ?_⟩
        · exact (HH.out.1.kept HO.out.2.2 id).far (p := ⟨g, o + j, none⟩) (by simp; omega) _
        · exact (HH.out.2.1.trans HO.out.2.2 (fun _ _ e => e.elim)).setCell (p := ⟨g, o + j, none⟩) (fun _ => rfl) _
        · rw [Hs.out, ← spl_set (by rw [HL.out, HX.out.2.1]; have := HX.out.2.2; omega), HL.out]
          exact HO.out.1.storeN HO.out.2.1 _ _
      case measure => simp [intOf]; omega
    · obtain rfl : j = l.length := by omega
      have HH := Lib.hid (And.intro hk ho)
      clear hb hk ho
      go_wp2_with fail
      go_end0
      exact ⟨rfl, HH.out⟩

end Go.Proofs.Ytnmapfoinhomdaa
