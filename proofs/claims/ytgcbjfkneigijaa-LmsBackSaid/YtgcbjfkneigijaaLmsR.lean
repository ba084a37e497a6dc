/- The document's Residual and Restore of the adaptive predictor. -/
import Derived.Test.YtgcbjfkneigijaaLmsQ
import Derived.Deep.RegionHeld3
namespace Go.Proofs.Ytgcbjfkneigijaa
open Go.RowKit
set_option maxRecDepth 100000

attribute [local go_sem ↓] Go.wp_at_zero Go.wp_at_succ

theorem Try.infoI32L : (Try.prog.info? 21).map (fun i => (i.zero, i.size, i.bytes)) = some (some (.int .i32 0), 1, 4) := by kernel_rfl
theorem Own.sizedL {w : World} {e : TypeId} {k : IntKind} {v : Value} {xs : List Int} {n : Nat} (h : Own w e k v xs) (hn : xs.length = n) : w.ownsRow 0 e 1 v n (ivs k xs) := by
  subst hn
  exact h

/-- A list of one's own and a filter behind its block, all new since w. -/
structure LmS (w wr : World) (g : Nat) (t : TypeId) (u : Value) (xs S : List Int) : Prop where
  own : Own wr 21 .i32 u xs
  new : ∀ k, u.ownBlock = some k → w.heap.size ≤ k
  fil : Fil wr g t S
  ge : w.heap.size ≤ g
  ne_ : u.ownBlock ≠ some g
  fr : Fresh w wr
theorem LmS.learn {w wr w' : World} {g : Nat} {t : TypeId} {u : Value} {xs S S' : List Int} (h : LmS w wr g t u xs S) (hl : FlP wr w' g t S') : LmS w w' g t u xs S' :=
  ⟨h.own.kept hl.2 fun k e e2 => h.ne_ (by rw [e, e2]), h.new, hl.1, h.ge, h.ne_, h.fr.trans hl.2 fun i hi e => by have := h.ge; omega⟩
theorem LmS.drewN {w wr : World} {g : Nat} {t : TypeId} {u : Value} {xs S : List Int} (h : LmS w wr g t u xs S) (n : Nat) : LmS w (wr.drewN n) g t u xs S :=
  ⟨h.own, h.new, h.fil.drewN n, h.ge, h.ne_, h.fr.drewN n⟩
theorem LmS.app {w wr w' : World} {g : Nat} {t : TypeId} {u u' : Value} {xs ys S : List Int} {o : Obj} (h : LmS w wr g t u xs S) (ho : Own w' 21 .i32 u' ys) (hg : (wr.alloc o).grownBy w' u.ownBlock) (hat : u'.ownBlock = u.ownBlock ∨ u'.ownBlock = some (wr.heap.size + 1)) : LmS w w' g t u' ys S := by
  have hk : Kept (fun k => u.ownBlock = some k) wr w' := ((Kept.refl (fun k => u.ownBlock = some k) wr).alloc o).grown hg (fun k e _ => e)
  have hs := h.fr.size
  refine ⟨ho, fun k e => ?_, h.fil.kept hk h.ne_, h.ge, fun e => ?_, h.fr.trans hk fun i hi e => by have := h.new i e; omega⟩
  · rcases hat with e3 | e3
    · exact h.new k (e3 ▸ e)
    · rw [e3] at e; injection e with e; omega
  · rcases hat with e3 | e3
    · exact h.ne_ (e3 ▸ e)
    · rw [e3] at e; injection e with e; have := h.fil.blk.lt; omega

set_option maxHeartbeats 1600000 in
/-- Residual: P12.2. -/
theorem qlResidual_any (A : Option Addr) (n c : Nat) (l : List Int) (w : World) (hr : Row w .i32 A n l) (h32 : I32 l) (hn : n ≤ 1000000000) :
    Calls Try.prog 16 #[.slice A n c] w fun e w' => ∃ u, e = .returned u ∧ NewRow w w' 21 .i32 u (lres l) := by
  obtain ⟨i4, hi4, h40, h41, h42⟩ := info_parts Try.infoI32L
  obtain rfl := hr.len
  have HR : Hid (∀ V, Fresh w V → Row V .i32 A l.length l) := Lib.hid fun V hV => hr.kept hV (fun _ _ _ _ => id)
  have H32 := Lib.hid h32
  clear hr h32
  go_enter Try.func16, Try.ntmps16
  go_wp2_with fail
  go_loopw [5, 4] (fun i u wr => ∃ j : Nat, j ≤ l.length ∧ i = .int .i64 j ∧ LmS w wr w.heap.size 28 u (lrN l j) (stN l j)) (fun i _ _ => (l.length - intOf i).toNat)
  case atStart => exact ⟨0, by omega, rfl, ⟨Own.nil _ _ _, fun k e => (by cases e), ⟨Blk.new _ _ _, rfl, stN_32 H32.out 0⟩, Nat.le_refl _, fun e => (by cases e), (Kept.refl _ _).alloc _⟩⟩
  case round =>
    obtain ⟨j, hj, rfl, hs⟩ := hrel
    have HS := Lib.hid hs
    clear hs
    by_cases hlt : j < l.length
    · have hrow := HR.out wr HS.out.fr
      obtain ⟨b, o, rfl, hbw, _⟩ := (HR.out w (Kept.refl _ _)).at_ j hlt
      obtain ⟨b', o', e', hb, hc⟩ := hrow.at_ j hlt
      injection e' with e'
      injection e' with e1 e2
      subst e1 e2
      have HG : Hid (∀ n : Nat, Calls Try.prog 10 #[.pointer (some ⟨w.heap.size, 0, none⟩)] (wr.drewN n) fun e w' => e = .returned (.int .i32 (gl (stN l j))) ∧ ∃ m, w' = (wr.drewN n).drewN m) := Lib.hid fun n => qlGuess_any _ _ (wr.drewN n) (HS.out.fil.drewN n)
      have j0 : (j : Int) < (l.length : Int) := by omega
      have hlen := lrN_length l j
      have Hs : Hid (lrN l (j + 1) = lrN l j ++ [w32 (l.getD j 0 - gl (stN l j))] ∧ stN l (j + 1) = learnS (stN l j) (l.getD j 0)) := Lib.hid ⟨rfl, rfl⟩
      have hv := H32.out.at_ j
      generalize l.getD j 0 = v at *
      generalize gl (stN l j) = gu at *
      generalize lrN l j = xs at *
      have hbu : u4.ownBlock ≠ some b := fun e => absurd (HS.out.new b e) (by omega)
      clear hrow
      go_wp2_with fail
      go_region_held3 (fun w' => w'.cell? ⟨b, o + j, none⟩ = some (.int .i32 v)) (first | go_keep | exact c4)
        (first
          | (go_at_call 10; refine (HG.out _).mono ?_; rintro e2 w2 ⟨rfl, m2, rfl⟩)
          | (refine step_append_lies _ (by rfl) _ _ _ (by rfl) 0 21 i4 (.int .i32 0) 1 4 Try.underlying22 hi4 h40 h41 h42 rfl (by decide) u4 xs.length (ivs .i32 xs) (by rfl) (World.ownsRow.alloc HS.out.own _) ⟨wr.heap.size, 0, none⟩ 1 1 (ivs .i32 [IntKind.i32.wrap (v - gu)]) (by rfl) (by rfl) (cell_one_new _ _ _) (ivs_one _ _) (by decide) (by unfold maxLen; omega) (by omega) (by omega) (wr.heap.size + 1) (by simp) ?_
             intro q cap w4 hown4 hgrow hat hlt4
             have c4 : w4.cell? ⟨b, o + j, none⟩ = some (.int .i32 v) := (hgrow.cell_far _ (by simp; omega) (Ne.symm hbu)).trans ((World.cell?_alloc_lt _ _ _ hb).trans hc)))
      have ho9 : Own w4 21 .i32 (.slice (some ⟨q, 0, none⟩) (j + 1) cap) (lrN l (j + 1)) := by
        rw [Hs.out.1, ← w32_wrap, ← hlen]
        exact Own.of_append hown4 rfl
      have hat' : (Value.slice (some ⟨q, 0, none⟩) (j + 1) cap).ownBlock = u4.ownBlock ∨ (Value.slice (some ⟨q, 0, none⟩) (j + 1) cap).ownBlock = some (wr.heap.size + 1) := by
        rcases hat with e | e
        · exact .inl e.symm
        · exact .inr (by rw [e]; rfl)
      have HS4 := Lib.hid (LmS.app (HS.out.drewN (1 + m2)) ho9 hgrow hat')
      clear ho9 hat' hgrow hat HS hown4 HG hlen
      go_wp2_with fail
      refine (qlLearn_any w.heap.size _ v w4 HS4.out.fil hv).mono ?_
      rintro e5 w5 ⟨rfl, h5⟩
      rw [← Hs.out.2] at h5
      have HS5 := Lib.hid (HS4.out.learn h5)
      clear h5 HS4 Hs
      go_wp2_with fail
      go_roundw
      case rel => exact ⟨j + 1, by omega, by go_num, HS5.out⟩
      case measure => simp [intOf]; omega
    · obtain rfl : j = l.length := by omega
      have HE : Hid (NewRow w wr 21 .i32 u4 (lres l)) := Lib.hid ⟨HS.out.own, HS.out.new, HS.out.fr⟩
      clear HS
      go_wp2_with fail
      go_ret
      exact ⟨_, rfl, HE.out⟩

set_option maxHeartbeats 1600000 in
/-- Restore: P12.2. -/
theorem qlRestore_any (A : Option Addr) (n c : Nat) (l : List Int) (w : World) (hr : Row w .i32 A n l) (h32 : I32 l) (hn : n ≤ 1000000000) :
    Calls Try.prog 18 #[.slice A n c] w fun e w' => ∃ u, e = .returned u ∧ NewRow w w' 21 .i32 u (lrst l) := by
  obtain ⟨i4, hi4, h40, h41, h42⟩ := info_parts Try.infoI32L
  obtain rfl := hr.len
  have HR : Hid (∀ V, Fresh w V → Row V .i32 A l.length l) := Lib.hid fun V hV => hr.kept hV (fun _ _ _ _ => id)
  have H32 := Lib.hid h32
  clear hr h32
  go_enter Try.func18, Try.ntmps18
  go_wp2_with fail
  go_loopw [5, 4] (fun i u wr => ∃ j : Nat, j ≤ l.length ∧ i = .int .i64 j ∧ LmS w wr w.heap.size 28 u (lsN l j) (stN (lsN l j) j)) (fun i _ _ => (l.length - intOf i).toNat)
  case atStart => exact ⟨0, by omega, rfl, ⟨Own.nil _ _ _, fun k e => (by cases e), ⟨Blk.new _ _ _, rfl, stN_32 H32.out 0⟩, Nat.le_refl _, fun e => (by cases e), (Kept.refl _ _).alloc _⟩⟩
  case round =>
    obtain ⟨j, hj, rfl, hs⟩ := hrel
    have HS := Lib.hid hs
    clear hs
    by_cases hlt : j < l.length
    · have hrow := HR.out wr HS.out.fr
      obtain ⟨b, o, rfl, hb, hc⟩ := hrow.at_ j hlt
      have HG : Hid (∀ n : Nat, Calls Try.prog 10 #[.pointer (some ⟨w.heap.size, 0, none⟩)] (wr.drewN n) fun e w' => e = .returned (.int .i32 (gl (stN (lsN l j) j))) ∧ ∃ m, w' = (wr.drewN n).drewN m) := Lib.hid fun n => qlGuess_any _ _ (wr.drewN n) (HS.out.fil.drewN n)
      have j0 : (j : Int) < (l.length : Int) := by omega
      have hlen := lsN_length l j
      have Hs : Hid (lsN l (j + 1) = lsN l j ++ [w32 (l.getD j 0 + gl (stN (lsN l j) j))] ∧ stN (lsN l (j + 1)) (j + 1) = learnS (stN (lsN l j) j) (w32 (l.getD j 0 + gl (stN (lsN l j) j)))) := Lib.hid ⟨rfl, by
        have e1 : stN (lsN l (j + 1)) j = stN (lsN l j) j := stN_append (lsN l j) _ (by omega)
        have e2 : (lsN l (j + 1)).getD j 0 = w32 (l.getD j 0 + gl (stN (lsN l j) j)) := by
          show (lsN l j ++ [_]).getD j 0 = _
          simp [List.getD, lsN_length]
        show learnS (stN (lsN l (j + 1)) j) ((lsN l (j + 1)).getD j 0) = _
        rw [e1, e2]⟩
      have hv := H32.out.at_ j
      have hx := w32_in (l.getD j 0 + gl (stN (lsN l j) j))
      generalize l.getD j 0 = v at *
      generalize gl (stN (lsN l j) j) = gu at *
      generalize stN (lsN l j) j = S at *
      generalize lsN l j = xs at *
      clear hrow hb
      go_wp2_with fail
      go_region_held3 (fun w' => w'.cell? ⟨b, o + j, none⟩ = some (.int .i32 v)) (go_keep)
        (first
          | (go_at_call 10; refine (HG.out _).mono ?_; rintro e2 w2 ⟨rfl, m2, rfl⟩))
      have HS1 := Lib.hid (HS.out.drewN (1 + m2))
      clear HS HG hc
      generalize wr.drewN (1 + m2) = w1 at *
      rw [w32_wrap]
      generalize w32 (v + gu) = y at *
      go_wp2_with (at_builtin; refine wpList_app _ rfl (.tmp 22) (.tmp 24) 22 rfl 21 i4 .i32 4 Try.underlying22 hi4 h40 h41 h42 _ xs rfl (HS1.out.own.alloc _) _ 1 1 [y] rfl (Row.one _ _ _ _) (by unfold maxLen; omega) (by omega) ?_)
      intro v9 w9 ho9 hg9 hat9
      rw [← Hs.out.1] at ho9
      have HS4 := Lib.hid (LmS.app HS1.out ho9 hg9 hat9)
      clear ho9 hg9 hat9 HS1 hlen
      go_wp2_with fail
      refine (qlLearn_any w.heap.size _ y w9 HS4.out.fil hx).mono ?_
      rintro e5 w5 ⟨rfl, h5⟩
      rw [← Hs.out.2] at h5
      have HS5 := Lib.hid (HS4.out.learn h5)
      clear h5 HS4 Hs
      go_wp2_with fail
      go_roundw
      case rel => exact ⟨j + 1, by omega, by go_num, HS5.out⟩
      case measure => simp [intOf]; omega
    · obtain rfl : j = l.length := by omega
      have HE : Hid (NewRow w wr 21 .i32 u4 (lrst l)) := Lib.hid ⟨HS.out.own, HS.out.new, HS.out.fr⟩
      clear HS
      go_wp2_with fail
      go_ret
      exact ⟨_, rfl, HE.out⟩

end Go.Proofs.Ytgcbjfkneigijaa
