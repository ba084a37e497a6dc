/- The code's Unpack. -/
import Derived.Test.YtpknbfkknnaajaaDoorStrE
import Derived.Test.YtpknbfkknnaajaaDoorHelpStr
import Derived.Test.YtpknbfkknnaajaaDoorZeros
namespace Go.Proofs.YtpknbfkknnaajaaDoor
set_option maxRecDepth 100000
open Go.RowKit

attribute [local go_sem ↓] Go.wp_at_zero Go.wp_at_succ

set_option maxHeartbeats 400000 in
theorem equal_any (A B : Option Addr) (n m c d : Nat) (xs ys : List Int) (w : World) (ha : Row w .u8 A n xs) (hb : Row w .u8 B m ys) (hx : ∀ c ∈ xs, 0 ≤ c ∧ c < 256) (hy : ∀ c ∈ ys, 0 ≤ c ∧ c < 256) :
    Calls Tryd.prog 31 #[.slice A n c, .slice B m d] w fun e w' => e = .returned (.bool (decide (xs = ys))) ∧ w = w' := by
  have h1 := row_string ha c
  have h2 := row_string hb d
  have hd := str_dec hx hy
  have Hd := Lib.hid hd
  clear ha hb hx hy hd
  go_enter Tryd.func31, Tryd.ntmps31
  go_wp2
  go_ret
  exact ⟨ret_bool (by rw [← Hd.out]), rfl⟩

/-- What Unpack answers, of m bytes. -/
def UnP (w w' : World) (e : Ending) (lv : Nat) (xs : List Int) (m : Nat) : Prop :=
  ∃ u, e = .returned (.tuple #[u, .int .i64 (if okB lv xs m then 0 else 4)]) ∧ NewRow w w' 5 .u8 u (if okB lv xs m then outB lv xs m else [])

theorem past_zero {lv : Nat} {xs : List Int} {t m : Nat} (h : okB lv xs m) (ht : t ≤ 8 * m) : pastN xs (decT lv xs t).p = 0 := by
  have := ok_past h ht
  unfold pastN
  omega
theorem UnP.not {w w' : World} {lv m : Nat} {xs : List Int} (h : ¬ okB lv xs m) (hf : Fresh w w') : UnP w w' (.returned (.tuple #[.slice none 0 0, .int .i64 4])) lv xs m := by
  refine ⟨_, by rw [if_neg h], ?_⟩
  rw [if_neg h]
  exact ⟨Own.nil _ _ _, fun k e => (by cases e), hf⟩

set_option maxHeartbeats 3200000 in
/-- Unpack: P9.2. -/
theorem cUnpack_any (b o n c : Nat) (xs : List Int) (m lv : Nat) (w : World) (hk : Kin w) (hr : Row w .u8 (some ⟨b, o, none⟩) n xs) (hby : ∀ x ∈ xs, 0 ≤ x ∧ x < 256) (hn : n ≤ 1000000000) (hm : m ≤ 1048576) (hl : lv ≤ 2) :
    Calls Tryd.prog 14 #[.slice (some ⟨b, o, none⟩) n c, .int .i64 m, .int .i64 lv] w fun e w' => UnP w w' e lv xs m := by
  obtain ⟨i0, hi, hz0, hz1, hz2⟩ := info_parts Tryd.infoByteC
  have HR := Lib.hid hr
  have HAl := Lib.hid (allowed_any (m : Int) (lv : Int) w)
  rw [if_neg (by omega), if_neg (by omega)] at HAl
  have HN := Lib.hid (cNewUnpacker_any b o n c xs lv w hk hl hr hn hby)
  have m0 : (0 : Int) ≤ (m : Int) := by omega
  have HKP := Lib.hid hk.pos
  clear hr hk
  go_enter Tryd.func14, Tryd.ntmps14
  go_wp2_with fail
  refine HAl.out.mono ?_
  rintro e w1 ⟨rfl, rfl⟩
  clear HAl
  go_wp2_with fail
  refine HN.out.mono ?_
  rintro e w2 ⟨gd, ge, gm, B, cB, rfl, hp, hf⟩
  have hs2 := hf.size
  have hkin := hp.kin
  have hbx := Blk.new w2 54 #[.pointer (some ⟨gd, 0, none⟩), .pointer (some ⟨ge, 0, none⟩), .pointer (some ⟨gm, 0, none⟩)]
  have hfa : Fresh w2 (w2.alloc (.cells #[.pointer (some ⟨gd, 0, none⟩), .pointer (some ⟨ge, 0, none⟩), .pointer (some ⟨gm, 0, none⟩)] 54)) := (Kept.refl _ _).alloc _
  have hsz : (w2.alloc (.cells #[.pointer (some ⟨gd, 0, none⟩), .pointer (some ⟨ge, 0, none⟩), .pointer (some ⟨gm, 0, none⟩)] 54)).heap.size = w2.heap.size + 1 := alloc_size _ _
  have h1 : UpA (fun k => k < w.heap.size ∨ k = w2.heap.size) (w2.alloc (.cells #[.pointer (some ⟨gd, 0, none⟩), .pointer (some ⟨ge, 0, none⟩), .pointer (some ⟨gm, 0, none⟩)] 54)) gd ge gm lv (.slice none 0 0) B cB xs (decT lv xs 0) (decT lv xs 0).L :=
    hp.move hfa (fun k e => e.elim (fun e => ⟨by omega, .inl e⟩) (fun e => ⟨by omega, .inr (by omega)⟩)) (.inl hkin)
  have hf1 : Fresh w (w2.alloc (.cells #[.pointer (some ⟨gd, 0, none⟩), .pointer (some ⟨ge, 0, none⟩), .pointer (some ⟨gm, 0, none⟩)] 54)) := hf.trans hfa (fun _ _ h => h)
  have HP := Lib.hid (And.intro h1 (And.intro hbx (And.intro hf1 (And.intro hsz hs2))))
  clear hp hf HN h1 hbx hf1 hfa hsz hs2
  go_wp2_with (at_make; refine wpList_make_zeros _ rfl _ _ 22 rfl 5 i0 .u8 1 Tryd.underlying22 hi hz0 hz1 hz2 _ _ _ _ m rfl rfl (by omega) (by omega) (by omega) (by unfold maxLen; omega) ?_)
  intro w4 ho4 hf4
  have ho5 : Own w4 5 .u8 (.slice (some ⟨w2.heap.size + 1, 0, none⟩) m m) (outB lv xs 0 ++ List.replicate (m - 0) 0) := by
    simpa [outB] using ho4
  obtain ⟨h1, hbx, hf1, hsz, hs2⟩ := HP.out
  have hs4 := hf4.size
  have hkin := h1.kin
  have h5 : UpA (fun k => k < w.heap.size ∨ k = w2.heap.size ∨ k = w2.heap.size + 1) w4 gd ge gm lv (.slice none 0 0) B cB xs (decT lv xs 0) (decT lv xs 0).L := by
    have hlt := ho5.lt (g := w2.heap.size + 1) rfl
    refine h1.move hf4 (fun k e => ?_) (hkin.elim .inl (fun e => .inr (.inl e)))
    rcases e with e | e | e
    · exact ⟨by omega, .inl (.inl e)⟩
    · exact ⟨by omega, .inl (.inr e)⟩
    · exact ⟨by omega, .inr (by omega)⟩
  have hkp := HKP.out
  have H5 := Lib.hid (And.intro h5 (And.intro (hbx.kept hf4 id) (And.intro (hf1.trans hf4 (fun _ _ h => h)) (And.intro ho5 (And.intro hs2 hkp)))))
  clear h5 ho5 ho4 hf4 hs4 hkin h1 hbx hf1 hsz hs2 hkp HP
  go_wp2_with fail
  generalize hb0 : w2.heap.size = b0 at *
  generalize hgb : b0 + 1 = gb at *
  have HG := Lib.hid hgb
  clear hgb hb0
  go_loopw [25, 11] (fun i _ wr => ∃ (a : Nat) (v : Value), a ≤ m ∧ i = .int .i64 a ∧ UpA (fun k => k < w.heap.size ∨ k = b0 ∨ k = gb) wr gd ge gm lv v B cB xs (decT lv xs (8 * a)) (decT lv xs (8 * a)).L ∧ Blk wr b0 54 #[.pointer (some ⟨gd, 0, none⟩), .pointer (some ⟨ge, 0, none⟩), .pointer (some ⟨gm, 0, none⟩)] ∧ Fresh w wr ∧ Own wr 5 .u8 (.slice (some ⟨gb, 0, none⟩) m m) (outB lv xs a ++ List.replicate (m - a) 0)) (fun i _ _ => (m - intOf i).toNat)
  case atStart => exact ⟨0, _, by omega, rfl, H5.out.1, H5.out.2.1, H5.out.2.2.1, H5.out.2.2.2.1⟩
  case round =>
    obtain ⟨a, v, ha, rfl, hp, hbx, hf, ho⟩ := hrel
    have c0 := hbx.cell 0
    have c1 := hbx.cell 1
    have c2 := hbx.cell 2
    simp only [List.getElem?_toArray, List.getElem?_cons_zero, List.getElem?_cons_succ] at c0 c1 c2
    have hol : (outB lv xs a ++ List.replicate (m - a) 0).length = m := by rw [List.length_append, outB_len, List.length_replicate]; omega
    have hb0s := hbx.lt
    have hgbs := ho.lt (g := gb) rfl
    have hws := hf.size
    have hb5 := H5.out.2.2.2.2.1
    have hg5 := HG.out
    by_cases hlt : a < m
    · have a0 : (a : Int) < (m : Int) := by omega
      have HT := Lib.hid (cTake_any _ gd ge gm lv cB v B xs (8 * a) wr hp (fun k e => by rcases e with e | e | e <;> omega) (by omega))
      have HX := Lib.hid (And.intro hbx (And.intro hf (And.intro ho hol)))
      clear hp hbx hf ho hol
      go_wp2_with fail
      refine HT.out.mono ?_
      rintro e5 w5 ⟨rfl, v5, hp5, hk5⟩
      have ho5 := HX.out.2.2.1.kept hk5 (fun g e e2 => e2 (by injection e with e; exact .inr (.inr e.symm)))
      have cg := ho5.cellN HX.out.2.2.2 hlt
      have fg := ho5.frozenN HX.out.2.2.2 a
      have hb5' := HX.out.1.kept hk5 (fun e => e (.inr (.inl rfl)))
      have hf5 := HX.out.2.1.trans hk5 (fun k hk e => e (.inl hk))
      have H6 := Lib.hid (And.intro hp5 (And.intro ho5 (And.intro hb5' hf5)))
      have hws5 := hf5.size
      have hpos5 := H5.out.2.2.2.2.2
      have hstep := outB lv xs (a + 1)
      have hset := set_next (outB lv xs a) m a (ofB 0 (moreB lv xs (8 * a) 8) : Nat) (outB_len lv xs a) hlt
      have ho6 := ho5.storeN HX.out.2.2.2 a (ofB 0 (moreB lv xs (8 * a) 8) : Nat)
      rw [hset] at ho6
      have hks : Kept (fun k => k = gb) w5 (w5.setCell ⟨gb, a, none⟩ (.int .u8 (ofB 0 (moreB lv xs (8 * a) 8) : Nat))) := Kept.one _ _ _ _
      have hp6 := hp5.kept hks (fun k e => ⟨.inr (.inr e), by have e' : k = gb := e; omega, hp5.far _ (.inr (.inr e))⟩)
      have hb6 := hb5'.kept hks (fun e => by have e' : b0 = gb := e; omega)
      have hf6 := hf5.trans hks (fun k hk e => by have e' : k = gb := e; omega)
      rw [show 8 * a + 8 = 8 * (a + 1) by omega] at hp6
      have c60 := hb6.cell 0
      have c61 := hb6.cell 1
      have c62 := hb6.cell 2
      simp only [List.getElem?_toArray, List.getElem?_cons_zero, List.getElem?_cons_succ] at c60 c61 c62
      have H6 := Lib.hid (And.intro hp6 (And.intro ho6 (And.intro hb6 hf6)))
      clear hp5 ho5 hb5' hf5 hk5 HT c0 c1 c2 hp6 ho6 hb6 hf6 hks hset hstep H5
      generalize hX : ofB 0 (moreB lv xs (8 * a) 8) = X at *
      go_wp2_with fail
      generalize w5.setCell ⟨gb, a, none⟩ (.int .u8 (X : Nat)) = w6 at *
      have HPs := Lib.hid (H6.out.1.past (by rw [decT_len]; omega))
      obtain ⟨pv, hpv⟩ : ∃ pv, pastN xs (decT lv xs (8 * (a + 1))).p = pv := ⟨_, rfl⟩
      rw [hpv] at HPs
      by_cases hpos : 0 < pv
      · have hno : ¬ okB lv xs m := fun h => by
          have := past_zero (t := 8 * (a + 1)) h (by omega)
          omega
        have HNo := Lib.hid hno
        clear hno hpv
        refine HPs.out.mono ?_
        rintro e7 w7 ⟨rfl, k7, rfl⟩
        have HF7 := Lib.hid ((H6.out.2.2.2).drewN k7)
        clear H6 HPs c60 c61 c62 HX
        go_wp2_with fail
        refine bodyPost_ret (results_tmp2 rfl _ _ _) rfl ?_
        exact UnP.not HNo.out HF7.out
      · refine HPs.out.mono ?_
        rintro e7 w7 ⟨rfl, k7, rfl⟩
        have hk7 : Fresh w6 (w6.drewN k7) := (Kept.refl _ _).drewN k7
        have H7 := Lib.hid (And.intro (H6.out.1.fresh hk7) (And.intro (H6.out.2.1.drewN k7) (And.intro (H6.out.2.2.1.drewN k7) (H6.out.2.2.2.drewN k7))))
        clear H6 HPs c60 c61 c62 HX hk7 hpv
        generalize w6.drewN k7 = w8 at *
        go_wp2_with fail
        go_roundw
        case rel => exact ⟨a + 1, _, by omega, by go_num, H7.out.1, H7.out.2.2.1, H7.out.2.2.2, by rw [outB, hX]; exact H7.out.2.1⟩
        case measure => simp [intOf]; omega
    · obtain rfl : a = m := by omega
      have a0 : ¬ (a : Int) < (a : Int) := by omega
      have hfl := hp.pk.flush (by rw [decT_len]; omega)
      have HFl := Lib.hid hfl
      have HX := Lib.hid (And.intro hf (And.intro ho hol))
      clear hfl hp hbx hf ho hol H5
      go_wp2_with fail
      refine HFl.out.mono ?_
      rintro e w7 ⟨u, rfl, hu, hun, hk7⟩
      obtain ⟨Au, cu, rfl, hru, _⟩ := hu.row
      have hf7 : Fresh w w7 := HX.out.1.trans hk7 (fun k hk e => e (.inl (.inl hk)))
      have HE := Lib.hid (equal_any Au (some ⟨b, o, none⟩) _ n cu c _ xs w7 hru (HR.out.kept hf7 (fun _ _ _ _ => id)) (packB_bytes lv _) hby)
      have ho7 := HX.out.2.1.kept hk7 (fun g e e2 => e2 (by injection e with e; exact .inl (.inr (.inr e.symm))))
      have H7 := Lib.hid (And.intro hf7 ho7)
      clear hu hun hk7 hru hf7 ho7 HFl HX c0 c1 c2
      generalize (packB lv (decT lv xs (8 * a)).L).length = lu at *
      go_wp2_with fail
      by_cases hok : packB lv (decT lv xs (8 * a)).L = xs
      · rw [decide_eq_true hok] at HE
        have Hok : Hid (okB lv xs a) := Lib.hid hok.symm
        clear hok
        refine HE.out.mono ?_
        rintro e8 w8 ⟨rfl, rfl⟩
        clear HE
        go_wp2_with fail
        refine bodyPost_ret (results_tmp2 rfl _ _ _) rfl ?_
        refine ⟨_, by rw [if_pos Hok.out]; rfl, ?_⟩
        rw [if_pos Hok.out]
        have ho7 := H7.out.2
        rw [Nat.sub_self, List.replicate_zero, List.append_nil] at ho7
        exact ⟨ho7, fun k e => by injection e with e; have e2 : gb = k := e; have := HG.out; omega, H7.out.1⟩
      · rw [decide_eq_false hok] at HE
        have Hok : Hid (¬ okB lv xs a) := Lib.hid fun e => hok e.symm
        clear hok
        refine HE.out.mono ?_
        rintro e8 w8 ⟨rfl, rfl⟩
        clear HE
        go_wp2_with fail
        refine bodyPost_ret (results_tmp2 rfl _ _ _) rfl ?_
        exact UnP.not Hok.out H7.out.1

set_option maxHeartbeats 800000 in
/-- Unpack, where it refuses. -/
theorem cUnpack_not (A : Option Addr) (n c : Nat) (m lv : Int) (w : World) (h : lv < 0 ∨ 3 ≤ lv ∨ m < 0 ∨ 1048576 < m) :
    Calls Tryd.prog 14 #[.slice A n c, .int .i64 m, .int .i64 lv] w fun e w' => e = .returned (.tuple #[.slice none 0 0, .int .i64 (if lv < 0 ∨ 3 ≤ lv ∨ m < 0 then 1 else 5)]) ∧ w = w' := by
  have HAl := Lib.hid (allowed_any m lv w)
  have e : (if lv < 0 ∨ 3 ≤ lv ∨ m < 0 then (1 : Int) else if 1048576 < m then 5 else 0) = (if lv < 0 ∨ 3 ≤ lv ∨ m < 0 then 1 else 5) := by
    split
    · rfl
    · rw [if_pos (by omega)]
  rw [e] at HAl
  have hne : (if lv < 0 ∨ 3 ≤ lv ∨ m < 0 then (1 : Int) else 5) ≠ 0 := by split <;> omega
  generalize (if lv < 0 ∨ 3 ≤ lv ∨ m < 0 then (1 : Int) else 5) = r at *
  clear e h
  go_enter Tryd.func14, Tryd.ntmps14
  go_wp2_with fail
  refine HAl.out.mono ?_
  rintro e w1 ⟨rfl, rfl⟩
  clear HAl
  go_wp2_with fail
  refine bodyPost_ret (results_tmp2 rfl _ _ _) rfl ?_
  exact ⟨rfl, rfl⟩

end Go.Proofs.YtpknbfkknnaajaaDoor
