/- The document's Mid and Unmid. -/
import Derived.Test.YtcpmjaoglbgmbaaTraC
namespace Go.Proofs.Ytcpmjaoglbgmbaa
open Go.RowKit
set_option maxRecDepth 100000

attribute [local go_sem ↓] Go.wp_at_zero Go.wp_at_succ

set_option maxHeartbeats 3200000 in
theorem qMid_any (A B : Option Addr) (n c d : Nat) (l r : List Int) (w : World) (ha : Row w .i32 A n l) (hb : Row w .i32 B n r) (hn : n ≤ 1048576) :
    Calls Try.prog 17 #[.slice A n c, .slice B n d] w fun e w' => Two w w' e (tn n fun i => mdP (l.getD i 0) (r.getD i 0)) (tn n fun i => sdP (l.getD i 0) (r.getD i 0)) := by
  obtain ⟨i4, hi4, h40, h41, h42⟩ := info_parts Try.infoTr4
  have hself : ((n : Int) != (n : Int)) = false := by simp
  have HR : Hid (∀ V, Fresh w V → Row V .i32 A n l ∧ Row V .i32 B n r) := Lib.hid fun V hV => ⟨ha.kept hV (fun _ _ _ _ => id), hb.kept hV (fun _ _ _ _ => id)⟩
  have hm : (n : Int) ≤ 1048576 := by omega
  clear ha hb
  go_enter Try.func17, Try.ntmps17
  go_wp2_with fail
  go_loopw [9, 7, 8] (fun i u v wr => ∃ j : Nat, j ≤ n ∧ i = .int .i64 j ∧ NewRow w wr 21 .i32 u (tn j (fun i => mdP (l.getD i 0) (r.getD i 0))) ∧ NewRow w wr 21 .i32 v (tn j (fun i => sdP (l.getD i 0) (r.getD i 0))) ∧ ∀ g, u.ownBlock = some g → v.ownBlock ≠ some g) (fun i _ _ _ => (n - intOf i).toNat)
  case atStart => exact ⟨0, by omega, rfl, ⟨Own.nil _ _ _, fun k e => (by cases e), Kept.refl _ _⟩, ⟨Own.nil _ _ _, fun k e => (by cases e), Kept.refl _ _⟩, fun k e => (by cases e)⟩
  case round =>
    obtain ⟨j, hj, rfl, hu, hv, huv⟩ := hrel
    have HN := Lib.hid (And.intro hu (And.intro hv huv))
    clear hu hv huv
    by_cases hlt : j < n
    · obtain ⟨b1, o1, rfl, _, _⟩ := (HR.out w (Kept.refl _ _)).1.at_ j hlt
      obtain ⟨b2, o2, rfl, _, _⟩ := (HR.out w (Kept.refl _ _)).2.at_ j hlt
      obtain ⟨b1', o1', e', hb1, hc1⟩ := (HR.out wr HN.out.1.2.2).1.at_ j hlt
      injection e' with e'
      injection e' with e1 e2
      subst e1 e2
      obtain ⟨b2', o2', e', hb2, hc2⟩ := (HR.out wr HN.out.1.2.2).2.at_ j hlt
      injection e' with e'
      injection e' with e1 e2
      subst e1 e2
      have Hx : Hid (tn (j + 1) (fun i => mdP (l.getD i 0) (r.getD i 0)) = tn j (fun i => mdP (l.getD i 0) (r.getD i 0)) ++ [mdP (l.getD j 0) (r.getD j 0)]) := Lib.hid (tn_succ _ _)
      have Hy : Hid (tn (j + 1) (fun i => sdP (l.getD i 0) (r.getD i 0)) = tn j (fun i => sdP (l.getD i 0) (r.getD i 0)) ++ [sdP (l.getD j 0) (r.getD j 0)]) := Lib.hid (tn_succ _ _)
      have lx := tn_length j (fun i => mdP (l.getD i 0) (r.getD i 0))
      have ly := tn_length j (fun i => sdP (l.getD i 0) (r.getD i 0))
      have j0 : (j : Int) < (n : Int) := by omega
      generalize l.getD j 0 = x1 at *
      generalize r.getD j 0 = x2 at *
      generalize tn j (fun i => mdP (l.getD i 0) (r.getD i 0)) = xs at *
      generalize tn j (fun i => sdP (l.getD i 0) (r.getD i 0)) = ys at *
      have HL := Lib.hid (And.intro lx ly)
      clear lx ly
      go_wp2_with fail
      go_quiet (fail)
      go_wp2_with (first
        | (at_builtin; refine wpList_app _ rfl _ _ 32 rfl 21 i4 .i32 4 Try.underlying32 hi4 h40 h41 h42 u7 xs rfl ((HN.out.1.1.drewN nq).alloc (.cells #[.int .i32 (wrap32 (x2 + wrap32 (x1 - x2) / 2))] 21)) (some ⟨wr.heap.size, 0, none⟩) 1 1 [wrap32 (x2 + wrap32 (x1 - x2) / 2)] rfl (Row.one (wr.drewN nq) _ _ _) (by rw [HL.out.1]; unfold maxLen; omega) (by rw [HL.out.1]; omega) ?_
           intro v1 w1 ho1 hg1 hat1
           have hk1 : Kept (fun k => u7.ownBlock = some k) wr w1 := (((Kept.refl _ _).drewN nq).alloc (.cells #[.int .i32 (wrap32 (x2 + wrap32 (x1 - x2) / 2))] 21)).grown hg1 (fun k e _ => e)
           have hv1 : Own w1 21 .i32 u8 ys := HN.out.2.1.1.kept hk1 (fun g e e2 => HN.out.2.2 g e2 e))
        | (at_builtin; refine wpList_app _ rfl _ _ 32 rfl 21 i4 .i32 4 Try.underlying32 hi4 h40 h41 h42 u8 ys rfl (hv1.alloc (.cells #[.int .i32 (wrap32 (x1 - x2))] 21)) (some ⟨w1.heap.size, 0, none⟩) 1 1 [wrap32 (x1 - x2)] rfl (Row.one w1 _ _ _) (by rw [HL.out.2]; unfold maxLen; omega) (by rw [HL.out.2]; omega) ?_
           intro v2 w2 ho2 hg2 hat2))
      have hk2 : Kept (fun k => u8.ownBlock = some k) w1 w2 := ((Kept.refl _ _).alloc (.cells #[.int .i32 (wrap32 (x1 - x2))] 21)).grown hg2 (fun k e _ => e)
      have hs0 : wr.heap.size + 1 ≤ w1.heap.size := by
        have := hg1.size
        simpa using this
      have hf1 : Fresh w w1 := HN.out.1.2.2.trans hk1 (fun i hi e => absurd (HN.out.1.2.1 i e) (by omega))
      have hf2 : Fresh w w2 := hf1.trans hk2 (fun i hi e => absurd (HN.out.2.1.2.1 i e) (by omega))
      have hww := HN.out.1.2.2.size
      have hv1b : ∀ g, v1.ownBlock = some g → u7.ownBlock = some g ∨ g = wr.heap.size + 1 := fun g e => by
        rcases hat1 with e2 | e2
        · exact .inl (e2 ▸ e)
        · rw [e2] at e
          injection e with e
          right
          rw [← e]
          simp
      have hv2b : ∀ g, v2.ownBlock = some g → u8.ownBlock = some g ∨ g = w1.heap.size + 1 := fun g e => by
        rcases hat2 with e2 | e2
        · exact .inl (e2 ▸ e)
        · rw [e2] at e
          injection e with e
          right
          rw [← e]
          simp
      have hn1 : ∀ g, v1.ownBlock = some g → u8.ownBlock ≠ some g := fun g e e2 => by
        rcases hv1b g e with e3 | e3
        · exact HN.out.2.2 g e3 e2
        · have := HN.out.2.1.1.lt e2
          omega
      have hr1 : Own w2 21 .i32 v1 (tn (j + 1) (fun i => mdP (l.getD i 0) (r.getD i 0))) := by
        rw [Hx.out, show mdP x1 x2 = wrap32 (x2 + wrap32 (x1 - x2) / 2) from by unfold mdP sdP; simp only [w32_wrapC]]
        exact ho1.kept hk2 (fun g e e2 => hn1 g e e2)
      have hr2 : Own w2 21 .i32 v2 (tn (j + 1) (fun i => sdP (l.getD i 0) (r.getD i 0))) := by
        rw [Hy.out, show sdP x1 x2 = wrap32 (x1 - x2) from by unfold sdP; simp only [w32_wrapC]]
        exact ho2
      have HE : Hid (NewRow w w2 21 .i32 v1 (tn (j + 1) (fun i => mdP (l.getD i 0) (r.getD i 0))) ∧ NewRow w w2 21 .i32 v2 (tn (j + 1) (fun i => sdP (l.getD i 0) (r.getD i 0))) ∧ ∀ g, v1.ownBlock = some g → v2.ownBlock ≠ some g) := Lib.hid
        ⟨⟨hr1, fun g e => by
          rcases hv1b g e with e3 | e3
          · exact HN.out.1.2.1 g e3
          · omega, hf2⟩, ⟨hr2, fun g e => by
          rcases hv2b g e with e3 | e3
          · exact HN.out.2.1.2.1 g e3
          · omega, hf2⟩, fun g e e2 => by
          rcases hv2b g e2 with e3 | e3
          · exact hn1 g e e3
          · have := ho1.lt e
            omega⟩
      clear hr1 hr2 hv1b hv2b hn1 hf1 hf2 hk1 hk2 ho1 ho2 hg1 hg2 hat1 hat2 hv1
      go_wp2_with fail
      go_roundw
      case rel => exact ⟨j + 1, by omega, by go_num, HE.out⟩
      case measure => simp [intOf]; omega
    · obtain rfl : j = n := by omega
      have HE := Lib.hid HN.out
      clear HN
      go_wp2_with fail
      go_ret3
      exact ⟨_, _, rfl, HE.out⟩

set_option maxHeartbeats 3200000 in
theorem qUnmid_any (A B : Option Addr) (n c d : Nat) (l r : List Int) (w : World) (ha : Row w .i32 A n l) (hb : Row w .i32 B n r) (hn : n ≤ 1048576) :
    Calls Try.prog 19 #[.slice A n c, .slice B n d] w fun e w' => Two w w' e (tn n fun i => ltP (l.getD i 0) (r.getD i 0)) (tn n fun i => rtP (l.getD i 0) (r.getD i 0)) := by
  obtain ⟨i4, hi4, h40, h41, h42⟩ := info_parts Try.infoTr4
  have hself : ((n : Int) != (n : Int)) = false := by simp
  have HR : Hid (∀ V, Fresh w V → Row V .i32 A n l ∧ Row V .i32 B n r) := Lib.hid fun V hV => ⟨ha.kept hV (fun _ _ _ _ => id), hb.kept hV (fun _ _ _ _ => id)⟩
  have hm : (n : Int) ≤ 1048576 := by omega
  clear ha hb
  go_enter Try.func19, Try.ntmps19
  go_wp2_with fail
  go_loopw [9, 7, 8] (fun i u v wr => ∃ j : Nat, j ≤ n ∧ i = .int .i64 j ∧ NewRow w wr 21 .i32 u (tn j (fun i => ltP (l.getD i 0) (r.getD i 0))) ∧ NewRow w wr 21 .i32 v (tn j (fun i => rtP (l.getD i 0) (r.getD i 0))) ∧ ∀ g, u.ownBlock = some g → v.ownBlock ≠ some g) (fun i _ _ _ => (n - intOf i).toNat)
  case atStart => exact ⟨0, by omega, rfl, ⟨Own.nil _ _ _, fun k e => (by cases e), Kept.refl _ _⟩, ⟨Own.nil _ _ _, fun k e => (by cases e), Kept.refl _ _⟩, fun k e => (by cases e)⟩
  case round =>
    obtain ⟨j, hj, rfl, hu, hv, huv⟩ := hrel
    have HN := Lib.hid (And.intro hu (And.intro hv huv))
    clear hu hv huv
    by_cases hlt : j < n
    · obtain ⟨b1, o1, rfl, _, _⟩ := (HR.out w (Kept.refl _ _)).1.at_ j hlt
      obtain ⟨b2, o2, rfl, _, _⟩ := (HR.out w (Kept.refl _ _)).2.at_ j hlt
      obtain ⟨b1', o1', e', hb1, hc1⟩ := (HR.out wr HN.out.1.2.2).1.at_ j hlt
      injection e' with e'
      injection e' with e1 e2
      subst e1 e2
      obtain ⟨b2', o2', e', hb2, hc2⟩ := (HR.out wr HN.out.1.2.2).2.at_ j hlt
      injection e' with e'
      injection e' with e1 e2
      subst e1 e2
      have Hx : Hid (tn (j + 1) (fun i => ltP (l.getD i 0) (r.getD i 0)) = tn j (fun i => ltP (l.getD i 0) (r.getD i 0)) ++ [ltP (l.getD j 0) (r.getD j 0)]) := Lib.hid (tn_succ _ _)
      have Hy : Hid (tn (j + 1) (fun i => rtP (l.getD i 0) (r.getD i 0)) = tn j (fun i => rtP (l.getD i 0) (r.getD i 0)) ++ [rtP (l.getD j 0) (r.getD j 0)]) := Lib.hid (tn_succ _ _)
      have lx := tn_length j (fun i => ltP (l.getD i 0) (r.getD i 0))
      have ly := tn_length j (fun i => rtP (l.getD i 0) (r.getD i 0))
      have j0 : (j : Int) < (n : Int) := by omega
      generalize l.getD j 0 = x1 at *
      generalize r.getD j 0 = x2 at *
      generalize tn j (fun i => ltP (l.getD i 0) (r.getD i 0)) = xs at *
      generalize tn j (fun i => rtP (l.getD i 0) (r.getD i 0)) = ys at *
      have HL := Lib.hid (And.intro lx ly)
      clear lx ly
      go_wp2_with fail
      go_quiet (fail)
      go_wp2_with (first
        | (at_builtin; refine wpList_app _ rfl _ _ 32 rfl 21 i4 .i32 4 Try.underlying32 hi4 h40 h41 h42 u7 xs rfl ((HN.out.1.1.drewN nq).alloc (.cells #[.int .i32 (wrap32 (wrap32 (x1 - x2 / 2) + x2))] 21)) (some ⟨wr.heap.size, 0, none⟩) 1 1 [wrap32 (wrap32 (x1 - x2 / 2) + x2)] rfl (Row.one (wr.drewN nq) _ _ _) (by rw [HL.out.1]; unfold maxLen; omega) (by rw [HL.out.1]; omega) ?_
           intro v1 w1 ho1 hg1 hat1
           have hk1 : Kept (fun k => u7.ownBlock = some k) wr w1 := (((Kept.refl _ _).drewN nq).alloc (.cells #[.int .i32 (wrap32 (wrap32 (x1 - x2 / 2) + x2))] 21)).grown hg1 (fun k e _ => e)
           have hv1 : Own w1 21 .i32 u8 ys := HN.out.2.1.1.kept hk1 (fun g e e2 => HN.out.2.2 g e2 e))
        | (at_builtin; refine wpList_app _ rfl _ _ 32 rfl 21 i4 .i32 4 Try.underlying32 hi4 h40 h41 h42 u8 ys rfl (hv1.alloc (.cells #[.int .i32 (wrap32 (x1 - x2 / 2))] 21)) (some ⟨w1.heap.size, 0, none⟩) 1 1 [wrap32 (x1 - x2 / 2)] rfl (Row.one w1 _ _ _) (by rw [HL.out.2]; unfold maxLen; omega) (by rw [HL.out.2]; omega) ?_
           intro v2 w2 ho2 hg2 hat2))
      have hk2 : Kept (fun k => u8.ownBlock = some k) w1 w2 := ((Kept.refl _ _).alloc (.cells #[.int .i32 (wrap32 (x1 - x2 / 2))] 21)).grown hg2 (fun k e _ => e)
      have hs0 : wr.heap.size + 1 ≤ w1.heap.size := by
        have := hg1.size
        simpa using this
      have hf1 : Fresh w w1 := HN.out.1.2.2.trans hk1 (fun i hi e => absurd (HN.out.1.2.1 i e) (by omega))
      have hf2 : Fresh w w2 := hf1.trans hk2 (fun i hi e => absurd (HN.out.2.1.2.1 i e) (by omega))
      have hww := HN.out.1.2.2.size
      have hv1b : ∀ g, v1.ownBlock = some g → u7.ownBlock = some g ∨ g = wr.heap.size + 1 := fun g e => by
        rcases hat1 with e2 | e2
        · exact .inl (e2 ▸ e)
        · rw [e2] at e
          injection e with e
          right
          rw [← e]
          simp
      have hv2b : ∀ g, v2.ownBlock = some g → u8.ownBlock = some g ∨ g = w1.heap.size + 1 := fun g e => by
        rcases hat2 with e2 | e2
        · exact .inl (e2 ▸ e)
        · rw [e2] at e
          injection e with e
          right
          rw [← e]
          simp
      have hn1 : ∀ g, v1.ownBlock = some g → u8.ownBlock ≠ some g := fun g e e2 => by
        rcases hv1b g e with e3 | e3
        · exact HN.out.2.2 g e3 e2
        · have := HN.out.2.1.1.lt e2
          omega
      have hr1 : Own w2 21 .i32 v1 (tn (j + 1) (fun i => ltP (l.getD i 0) (r.getD i 0))) := by
        rw [Hx.out, show ltP x1 x2 = wrap32 (wrap32 (x1 - x2 / 2) + x2) from by unfold ltP rtP; simp only [w32_wrapC]]
        exact ho1.kept hk2 (fun g e e2 => hn1 g e e2)
      have hr2 : Own w2 21 .i32 v2 (tn (j + 1) (fun i => rtP (l.getD i 0) (r.getD i 0))) := by
        rw [Hy.out, show rtP x1 x2 = wrap32 (x1 - x2 / 2) from by unfold rtP; simp only [w32_wrapC]]
        exact ho2
      have HE : Hid (NewRow w w2 21 .i32 v1 (tn (j + 1) (fun i => ltP (l.getD i 0) (r.getD i 0))) ∧ NewRow w w2 21 .i32 v2 (tn (j + 1) (fun i => rtP (l.getD i 0) (r.getD i 0))) ∧ ∀ g, v1.ownBlock = some g → v2.ownBlock ≠ some g) := Lib.hid
        ⟨⟨hr1, fun g e => by
          rcases hv1b g e with e3 | e3
          · exact HN.out.1.2.1 g e3
          · omega, hf2⟩, ⟨hr2, fun g e => by
          rcases hv2b g e with e3 | e3
          · exact HN.out.2.1.2.1 g e3
          · omega, hf2⟩, fun g e e2 => by
          rcases hv2b g e2 with e3 | e3
          · exact hn1 g e e3
          · have := ho1.lt e
            omega⟩
      clear hr1 hr2 hv1b hv2b hn1 hf1 hf2 hk1 hk2 ho1 ho2 hg1 hg2 hat1 hat2 hv1
      go_wp2_with fail
      go_roundw
      case rel => exact ⟨j + 1, by omega, by go_num, HE.out⟩
      case measure => simp [intOf]; omega
    · obtain rfl : j = n := by omega
      have HE := Lib.hid HN.out
      clear HN
      go_wp2_with fail
      go_ret3
      exact ⟨_, _, rfl, HE.out⟩

set_option maxHeartbeats 800000 in
theorem qMidNo_any (A B : Option Addr) (n m c d : Nat) (w : World) (hn : n ≠ m) :
    Calls Try.prog 17 #[.slice A n c, .slice B m d] w fun e w' => TwoNo w w' e := by
  have hb : ((n : Int) != (m : Int)) = true := by simp; omega
  go_enter Try.func17, Try.ntmps17
  go_wp2_with fail
  go_ret3
  exact ⟨rfl, Kept.refl _ _⟩

set_option maxHeartbeats 800000 in
theorem qUnmidNo_any (A B : Option Addr) (n m c d : Nat) (w : World) (hn : n ≠ m) :
    Calls Try.prog 19 #[.slice A n c, .slice B m d] w fun e w' => TwoNo w w' e := by
  have hb : ((n : Int) != (m : Int)) = true := by simp; omega
  go_enter Try.func19, Try.ntmps19
  go_wp2_with fail
  go_ret3
  exact ⟨rfl, Kept.refl _ _⟩

end Go.Proofs.Ytcpmjaoglbgmbaa
