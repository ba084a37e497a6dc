/- Texts of this proof, one behind the other: StrU, StrV, HelpCom. -/
import Derived.Test.YtpknbfkknnaajaaDoorPart30
import Derived.Test.YtpknbfkknnaajaaDoorPart31
import Derived.Test.YtpknbfkknnaajaaDoorPart20
import Derived.Test.YtpknbfkknnaajaaDoorPart21
import Derived.Test.YtpknbfkknnaajaaDoorPart22
import Derived.Test.YtpknbfkknnaajaaDoorPart2

/- The document's Unpack. -/
namespace Go.Proofs.YtpknbfkknnaajaaDoor
set_option maxRecDepth 100000
open Go.RowKit

attribute [local go_sem ↓] Go.wp_at_zero Go.wp_at_succ

/-- What Unpack answers, of m bytes. -/
def UnR (w w' : World) (e : Ending) (lv : Nat) (xs : List Int) (m : Nat) : Prop :=
  ∃ u, e = .returned (.tuple #[u, .int .i64 (if okB lv xs m then 0 else 4)]) ∧ NewRow w w' 5 .u8 u (if okB lv xs m then outB lv xs m else [])

theorem or_bit8 {a : Nat} (ha : a < 128) (one : Bool) : bits .or .u8 ((a : Int) * 2) (bitN one) = ((a * 2 + one.toNat : Nat) : Int) := by
  have e : ((a : Int) * 2) = ((a * 2 : Nat) : Int) := by omega
  have e2 : bitN one = ((one.toNat : Nat) : Int) := by cases one <;> rfl
  rw [e, e2, u8_or_nat _ _ (by omega) (by cases one <;> decide), nat_join1 _ _ (by omega) (by cases one <;> decide)]

set_option maxHeartbeats 3200000 in
/-- Unpack: P9.2. -/
theorem qUnpack_any (A : Option Addr) (n c : Nat) (xs : List Int) (m lv : Nat) (w : World) (hr : Row w .u8 A n xs) (hby : ∀ x ∈ xs, 0 ≤ x ∧ x < 256) (hn : n ≤ 1000000000) (hm : m ≤ 1048576) (hl : lv ≤ 2) :
    Calls Tryd.prog 15 #[.slice A n c, .int .i64 m, .int .i64 lv] w fun e w' => UnR w w' e lv xs m := by
  obtain ⟨i0, hi, hz0, hz1, hz2⟩ := info_parts Tryd.infoByteC
  have HR := Lib.hid hr
  have l0 : (0 : Int) ≤ (lv : Int) := by omega
  have l1 : (lv : Int) ≤ 2 := by omega
  have m0 : (0 : Int) ≤ (m : Int) := by omega
  have m1 : (m : Int) ≤ 1048576 := by omega
  have hlv : lvl (lv : Int) = lv := by unfold lvl; omega
  clear hr
  go_enter Tryd.func15, Tryd.ntmps15
  go_wp2_with fail
  refine (qNewDec_any A n c xs _ HR.out hn hby).mono ?_
  rintro e w1 ⟨gd, B, cB, rfl, hd, hgd, hB, hf1⟩
  have H1 := Lib.hid (And.intro hd (And.intro hgd (And.intro hB hf1)))
  clear hd hgd hB hf1
  go_wp2_with fail
  refine (mrNew_any (lv : Int) w1).mono ?_
  rintro e w2 ⟨gm, rfl, hm, hf2⟩
  rw [hlv] at hm
  have H2 : Hid (UpR (fun k => k < w.heap.size) w2 gd gm lv B cB xs (decT lv xs 0) (decT lv xs 0).L ∧ Fresh w w2) := by
    obtain ⟨hd, hgd, hB, hf1⟩ := H1.out
    have s1 := hf1.size
    have s2 := hf2.size
    have hlt := hd.blk.lt
    refine Lib.hid ⟨?_, hf1.trans hf2 (fun _ _ h => h)⟩
    rw [decT]
    refine ⟨hd.kept hf2 id (fun _ _ _ _ => id), ⟨by rw [encS_nil], by rw [encS_nil], by rw [encS_nil]; rfl⟩, hm.move (S := fun _ => False) (Kept.refl _ _) (fun _ h => h.elim) (fun k h => ?_), fun k e => ?_⟩
    · have h' : k < w1.heap.size := by
        rcases h with h | h | ⟨h0, o, e⟩
        · omega
        · omega
        · obtain ⟨b', o', e', hb', _⟩ := hd.row.at_ 0 h0
          rw [e] at e'
          injection e' with e'
          injection e' with e1 e2
          subst e1
          exact hb'
      exact ⟨by omega, .inl h'⟩
    · have e' : k < w.heap.size := e
      exact ⟨by omega, by omega, fun o _ e2 => by have := hB _ _ e2; omega⟩
  clear hm hf2 H1
  go_wp2_with fail
  go_loopw [11, 10] (fun i x wr => ∃ (a : Nat), a ≤ m ∧ i = .int .i64 a ∧ Own wr 5 .u8 x (outB lv xs a) ∧ (∀ k, x.ownBlock = some k → w.heap.size ≤ k) ∧ UpR (fun k => k < w.heap.size ∨ x.ownBlock = some k) wr gd gm lv B cB xs (decT lv xs (8 * a)) (decT lv xs (8 * a)).L ∧ Fresh w wr) (fun i _ _ => (m - intOf i).toNat)
  case atStart => exact ⟨0, by omega, rfl, Own.nil _ _ _, fun k e => (by cases e), H2.out.1.move (Kept.refl (fun _ => False) _) (fun _ h => h.elim) (fun k e => e.elim (fun e => ⟨by have := H2.out.2.size; omega, .inl e⟩) (fun e => by cases e)), H2.out.2⟩
  case round =>
    obtain ⟨a, ha, rfl, ho, hob, hp, hf⟩ := hrel
    clear H2
    have HX := Lib.hid (And.intro ho hob)
    have HP := Lib.hid (And.intro hp hf)
    clear ho hob hp hf
    by_cases hlt : a < m
    · have a0 : (a : Int) < (m : Int) := by omega
      go_wp2_with fail
      obtain ⟨w0, rfl⟩ : ∃ w0, w0 = wr := ⟨_, rfl⟩
      go_loopw [13, 12] (fun i x wr => ∃ (j : Nat), j ≤ 8 ∧ i = .int .i64 j ∧ x = .int .u8 (ofB 0 (moreB lv xs (8 * a) j) : Nat) ∧ UpR (fun k => k < w.heap.size ∨ u10.ownBlock = some k) wr gd gm lv B cB xs (decT lv xs (8 * a + j)) (decT lv xs (8 * a + j)).L ∧ Fresh w wr ∧ Own wr 5 .u8 u10 (outB lv xs a)) (fun i _ _ => (8 - intOf i).toNat)
      case atStart => exact ⟨0, by omega, rfl, by rw [moreB_zero]; rfl, HP.out.1, HP.out.2, HX.out.1⟩
      case round =>
        obtain ⟨j, hj, rfl, rfl, hp, hf, ho⟩ := hrel
        clear HP
        by_cases hlt8 : j < 8
        · have j0 : (j : Int) < 8 := by omega
          have hl7 : ofB 0 (moreB lv xs (8 * a) j) < 128 := ofB_half (by rw [moreB_len]; omega)
          have hsl : (decT lv xs (8 * a + j)).L.length ≤ 100000000 := by rw [decT_len]; omega
          have hst : decT lv xs (8 * a + (j + 1)) = (decT lv xs (8 * a + j)).step lv xs := by rw [← Nat.add_assoc, decT_succ]
          have hmo := moreB_succ lv xs (8 * a) j
          obtain ⟨one, hone⟩ : ∃ one, (decT lv xs (8 * a + j)).one lv xs = one := ⟨_, rfl⟩
          have hL : (decT lv xs (8 * a + j)).L ++ [bitN one != 0] = ((decT lv xs (8 * a + j)).step lv xs).L := by
            rw [DS.step, DS.by_L, hone]
            cases one <;> rfl
          rw [hone] at hmo
          have hor := or_bit8 (a := ofB 0 (moreB lv xs (8 * a) j)) hl7 one
          rw [← ofB_snoc, ← hmo] at hor
          have hsn : ofB 0 (moreB lv xs (8 * a) (j + 1)) < 256 := ofB_byte (by rw [moreB_len]; omega)
          have HA := Lib.hid hp.ask
          have HD : Hid (∀ V, UpR (fun k => k < w.heap.size ∨ u10.ownBlock = some k) V gd gm lv B cB xs (decT lv xs (8 * a + j)) (decT lv xs (8 * a + j)).L → Calls Tryd.prog 33 #[.pointer (some ⟨gd, 0, none⟩), .int .i64 (kS lv (decT lv xs (8 * a + j)).L : Nat)] V fun e w' => e = .returned (.int .i64 (bitN one)) ∧ UpR (fun k => k < w.heap.size ∨ u10.ownBlock = some k) w' gd gm lv B cB xs ((decT lv xs (8 * a + j)).step lv xs) (decT lv xs (8 * a + j)).L ∧ Kept (fun k => ¬ (k < w.heap.size ∨ u10.ownBlock = some k)) V w') := Lib.hid fun V h => by
            have := h.read hsl
            rw [hone] at this
            exact this
          have HG := Lib.hid (And.intro hst hL)
          have HF := Lib.hid (And.intro hf ho)
          generalize hSS : decT lv xs (8 * a + j) = S at *
          generalize hkk : kS lv S.L = kk at *
          have hb : (0 : Int) ≤ bitN one ∧ bitN one ≤ 1 := by cases one <;> simp [bitN]
          generalize hbb : bitN one = bn at *
          obtain ⟨hb0, hb1⟩ := hb
          generalize hac : ofB 0 (moreB lv xs (8 * a) j) = ac at *
          generalize han : ofB 0 (moreB lv xs (8 * a) (j + 1)) = an at *
          have ha0 : (0 : Int) ≤ (ac : Int) := by omega
          have ha1 : (ac : Int) < 128 := by omega
          clear hp hf ho hst hL hmo hone
          go_wp2_with fail
          refine HA.out.mono ?_
          rintro e5 w5 ⟨rfl, hp5, hk5⟩
          have H5 := Lib.hid (And.intro (HF.out.1.trans hk5 (fun k hk e => e (.inl hk))) (HF.out.2.kept hk5 (fun g e e2 => e2 (.inr e))))
          have HD5 := Lib.hid (HD.out w5 hp5)
          clear hp5 hk5 HA HD HF
          go_wp2_with fail
          refine HD5.out.mono ?_
          rintro e6 w6 ⟨rfl, hp6, hk6⟩
          have H6 := Lib.hid (And.intro (H5.out.1.trans hk6 (fun k hk e => e (.inl hk))) (H5.out.2.kept hk6 (fun g e e2 => e2 (.inr e))))
          have hT := hp6.teach bn
          rw [HG.out.2, ← HG.out.1] at hT
          have HT := Lib.hid hT
          clear hp6 hk6 H5 HD5 hT
          go_wp2_with fail
          refine HT.out.mono ?_
          rintro e7 w7 ⟨rfl, hp7, hk7⟩
          have H7 := Lib.hid (And.intro hp7 (And.intro (H6.out.1.trans hk7 (fun k hk e => e (.inl hk))) (H6.out.2.kept hk7 (fun g e e2 => e2 (.inr e)))))
          clear hp7 hk7 HT H6
          go_wp2_with fail
          go_roundw
          case rel => exact ⟨j + 1, by omega, by go_num, by rw [han], H7.out.1, H7.out.2.1, H7.out.2.2⟩
          case measure => simp [intOf]; omega
        · obtain rfl : j = 8 := by omega
          have j0 : ¬ ((8 : Nat) : Int) < 8 := by omega
          have HP8 := Lib.hid (And.intro hp (And.intro hf ho))
          have hol := outB_len lv xs a
          have ha0 : ((ofB 0 (moreB lv xs (8 * a) 8) : Nat) : Int) < 256 := by
            have := ofB_byte (L := moreB lv xs (8 * a) 8) (by rw [moreB_len]; omega)
            omega
          generalize hac : ofB 0 (moreB lv xs (8 * a) 8) = ac at *
          clear hp hf ho
          go_wp2_with (at_builtin; refine wpList_app _ rfl (.tmp 54) (.tmp 56) 22 rfl 5 i0 .u8 1 Tryd.underlying22 hi hz0 hz1 hz2 _ (outB lv xs a) rfl (HP8.out.2.2.alloc _) _ 1 1 [(ac : Int)] rfl (Row.one _ _ _ _) (by unfold maxLen; omega) (by omega) ?_)
          intro v9 w9 ho9 hg9 hat9
          have hk9 : Kept (fun k => u10.ownBlock = some k) wr w9 := ((Kept.refl (fun k => u10.ownBlock = some k) wr).alloc _).grown hg9 (fun k e _ => e)
          have hs9 := hk9.size
          have hws := HP8.out.2.1.size
          have hat : ∀ k, v9.ownBlock = some k → u10.ownBlock = some k ∨ wr.heap.size ≤ k := fun k e => by
            rcases hat9 with e2 | e2
            · exact .inl (e2 ▸ e)
            · rw [e2] at e
              injection e with e
              have := alloc_size wr (.cells #[.int .u8 (ac : Int)] 5)
              exact .inr (by omega)
          have hp9 := HP8.out.1.move (A' := fun k => k < w.heap.size ∨ v9.ownBlock = some k) hk9 (fun k e => .inr e) (fun k e => by
            rcases e with e | e
            · exact ⟨by omega, .inl (.inl e)⟩
            · exact ⟨ho9.lt e, (hat k e).elim (fun e => .inl (.inr e)) .inr⟩)
          have hf9 := HP8.out.2.1.trans hk9 (fun k hk e => by have := HX.out.2 k e; omega)
          have hob9 : ∀ k, v9.ownBlock = some k → w.heap.size ≤ k := fun k e => (hat k e).elim (HX.out.2 k) (fun e => by omega)
          have ho10 : Own w9 5 .u8 v9 (outB lv xs (a + 1)) := by rw [outB, hac]; exact ho9
          have H9 := Lib.hid (And.intro ho10 (And.intro hob9 (And.intro hp9 hf9)))
          clear ho9 hg9 hat9 hat hk9 hs9 hws hp9 hf9 hob9 ho10 HP8 HX
          go_wp2_with fail
          go_roundw
          case rel => exact ⟨a + 1, by omega, by go_num, H9.out.1, H9.out.2.1, H9.out.2.2.1, H9.out.2.2.2⟩
          case measure => simp [intOf]; omega
    · obtain rfl : a = m := by omega
      have a0 : ¬ (a : Int) < (a : Int) := by omega
      obtain ⟨Ao, co, rfl, hro, _⟩ := HX.out.1.row
      have hol := outB_len lv xs a
      have HQ := Lib.hid (qPack_any Ao _ co _ lv wr hro (byteC (outB_byte lv xs a)) (by omega) hl)
      rw [outB_bits, hol] at HQ
      rw [hol]
      rw [hol] at HX
      have HF := Lib.hid HP.out.2
      clear hro HP
      go_wp2_with fail
      refine HQ.out.mono ?_
      rintro e w7 ⟨u, rfl, hu, hun, hk7⟩
      obtain ⟨Au, cu, rfl, hru, _⟩ := hu.row
      have hf7 := HF.out.trans hk7 (fun _ _ h => h)
      have HE := Lib.hid (hBytes_any A Au n _ c cu xs _ w7 (HR.out.kept hf7 (fun _ _ _ _ => id)) hru hby (packB_bytes lv _))
      have ho7 := HX.out.1.kept hk7 (fun _ _ => id)
      have H7 := Lib.hid (And.intro hf7 (And.intro ho7 HX.out.2))
      clear hu hun hk7 hru hf7 ho7 HF HQ HX
      generalize (packB lv (decT lv xs (8 * a)).L).length = lu at *
      go_wp2_with fail
      by_cases hok : xs = packB lv (decT lv xs (8 * a)).L
      · rw [decide_eq_true hok] at HE
        have Hok : Hid (okB lv xs a) := Lib.hid hok
        clear hok
        refine HE.out.mono ?_
        rintro e8 w8 ⟨rfl, rfl⟩
        clear HE
        go_wp2_with fail
        refine bodyPost_ret (results_tmp2 rfl _ _ _) rfl ?_
        refine ⟨_, by rw [if_pos Hok.out]; rfl, ?_⟩
        rw [if_pos Hok.out]
        exact ⟨H7.out.2.1, H7.out.2.2, H7.out.1⟩
      · rw [decide_eq_false hok] at HE
        have Hok : Hid (¬ okB lv xs a) := Lib.hid fun e => hok e
        clear hok
        refine HE.out.mono ?_
        rintro e8 w8 ⟨rfl, rfl⟩
        clear HE
        go_wp2_with fail
        refine bodyPost_ret (results_tmp2 rfl _ _ _) rfl ?_
        refine ⟨_, by rw [if_neg Hok.out]; rfl, ?_⟩
        rw [if_neg Hok.out]
        exact ⟨Own.nil _ _ _, fun k e => (by cases e), H7.out.1⟩

set_option maxHeartbeats 800000 in
/-- Pack and Unpack, where they refuse. -/
theorem qPack_not (A : Option Addr) (n c : Nat) (lv : Int) (w : World) (h : lv < 0 ∨ 3 ≤ lv ∨ 1048576 < (n : Int)) :
    Calls Tryd.prog 11 #[.slice A n c, .int .i64 lv] w fun e w' => e = .returned (.tuple #[.slice none 0 0, .int .i64 (if lv < 0 ∨ 3 ≤ lv then 1 else 5)]) ∧ w = w' := by
  by_cases h1 : lv < 0
  · rw [if_pos (.inl h1)]
    go_enter Tryd.func11, Tryd.ntmps11
    go_wp2_with fail
    refine bodyPost_ret (results_tmp2 rfl _ _ _) rfl ?_
    exact ⟨rfl, rfl⟩
  · by_cases h2 : 3 ≤ lv
    · rw [if_pos (.inr h2)]
      have h3 : 2 < lv := by omega
      go_enter Tryd.func11, Tryd.ntmps11
      go_wp2_with fail
      refine bodyPost_ret (results_tmp2 rfl _ _ _) rfl ?_
      exact ⟨rfl, rfl⟩
    · rw [if_neg (by omega)]
      have h3 : ¬ 2 < lv := by omega
      have h4 : 1048576 < (n : Int) := by omega
      go_enter Tryd.func11, Tryd.ntmps11
      go_wp2_with fail
      refine bodyPost_ret (results_tmp2 rfl _ _ _) rfl ?_
      exact ⟨rfl, rfl⟩

set_option maxHeartbeats 800000 in
theorem qUnpack_not (A : Option Addr) (n c : Nat) (m lv : Int) (w : World) (h : lv < 0 ∨ 3 ≤ lv ∨ m < 0 ∨ 1048576 < m) :
    Calls Tryd.prog 15 #[.slice A n c, .int .i64 m, .int .i64 lv] w fun e w' => e = .returned (.tuple #[.slice none 0 0, .int .i64 (if lv < 0 ∨ 3 ≤ lv ∨ m < 0 then 1 else 5)]) ∧ w = w' := by
  by_cases h1 : lv < 0
  · rw [if_pos (.inl h1)]
    go_enter Tryd.func15, Tryd.ntmps15
    go_wp2_with fail
    refine bodyPost_ret (results_tmp2 rfl _ _ _) rfl ?_
    exact ⟨rfl, rfl⟩
  · by_cases h2 : 3 ≤ lv
    · rw [if_pos (.inr (.inl h2))]
      have h3 : 2 < lv := by omega
      go_enter Tryd.func15, Tryd.ntmps15
      go_wp2_with fail
      refine bodyPost_ret (results_tmp2 rfl _ _ _) rfl ?_
      exact ⟨rfl, rfl⟩
    · have h3 : ¬ 2 < lv := by omega
      by_cases h5 : m < 0
      · rw [if_pos (.inr (.inr h5))]
        go_enter Tryd.func15, Tryd.ntmps15
        go_wp2_with fail
        refine bodyPost_ret (results_tmp2 rfl _ _ _) rfl ?_
        exact ⟨rfl, rfl⟩
      · rw [if_neg (by omega)]
        have h4 : 1048576 < m := by omega
        go_enter Tryd.func15, Tryd.ntmps15
        go_wp2_with fail
        refine bodyPost_ret (results_tmp2 rfl _ _ _) rfl ?_
        exact ⟨rfl, rfl⟩

end Go.Proofs.YtpknbfkknnaajaaDoor

/- The document's Pack and Unpack whatever is asked of them; packs. -/
namespace Go.Proofs.YtpknbfkknnaajaaDoor
set_option maxRecDepth 100000
open Go.RowKit

attribute [local go_sem ↓] Go.wp_at_zero Go.wp_at_succ

theorem qPackP (A : Option Addr) (n c : Nat) (xs : List Int) (lv : Int) (w : World) (hr : Row w .u8 A n xs) (hb : ∀ x ∈ xs, 0 ≤ x ∧ x < 256) :
    Calls Tryd.prog 11 #[.slice A n c, .int .i64 lv] w fun e w' => PkP w w' e lv xs := by
  have hlen := hr.len
  by_cases h : bad lv xs.length
  · have h' := h
    unfold bad at h'
    refine (qPack_not A n c lv w (by omega)).mono ?_
    rintro e w' ⟨rfl, rfl⟩
    unfold PkP
    rw [if_pos h, if_pos h]
    exact ⟨_, rfl, NewRow.none _⟩
  · obtain ⟨h1, h2, h3⟩ := lv_nat h
    have := qPack_any A n c xs lv.toNat w hr (byteC hb) (by omega) h2
    rw [h1] at this
    unfold PkP
    rw [if_neg h, if_neg h]
    exact this
theorem qUnpackA (A : Option Addr) (n c : Nat) (xs : List Int) (m lv : Int) (w : World) (hr : Row w .u8 A n xs) (hby : ∀ x ∈ xs, 0 ≤ x ∧ x < 256) (hn : n ≤ 1000000000) :
    Calls Tryd.prog 15 #[.slice A n c, .int .i64 m, .int .i64 lv] w fun e w' => UnA w w' e lv m xs := by
  by_cases h : lv < 0 ∨ 3 ≤ lv ∨ m < 0 ∨ 1048576 < m
  · refine (qUnpack_not _ n c m lv w h).mono ?_
    rintro e w' ⟨rfl, rfl⟩
    exact UnA.of_not h
  · have := qUnpack_any A n c xs m.toNat lv.toNat w hr hby hn (by omega) (by omega)
    rw [show ((m.toNat : Nat) : Int) = m by omega, show ((lv.toNat : Nat) : Int) = lv by omega] at this
    exact this.mono fun e w' h2 => UnA.of (by omega) (by omega) (by omega) (by omega) h2

set_option maxHeartbeats 800000 in
/-- packs. -/
theorem packs_any (A B : Option Addr) (n m c d : Nat) (xs ys : List Int) (lv : Nat) (w : World) (hr : Row w .u8 A n xs) (hs : Row w .u8 B m ys) (hx : ∀ x ∈ xs, 0 ≤ x ∧ x < 256) (hy : ∀ x ∈ ys, 0 ≤ x ∧ x < 256) (hn : n ≤ 1048576) (hl : lv ≤ 2) :
    Calls Tryd.prog 16 #[.slice A n c, .slice B m d, .int .i64 lv] w fun e w' => e = .returned (.bool (decide (ys = packB lv (bbs xs)))) ∧ Fresh w w' := by
  have HQ := Lib.hid (qPack_any A n c xs lv w hr (byteC hx) hn hl)
  have HS := Lib.hid hs
  clear hr hs
  go_enter Tryd.func16, Tryd.ntmps16
  go_wp2_with fail
  refine HQ.out.mono ?_
  rintro e w1 ⟨u, rfl, hu, _, hf⟩
  obtain ⟨Au, cu, rfl, hru, _⟩ := hu.row
  have HE := Lib.hid (hBytes_any B Au m _ d cu ys _ w1 (HS.out.kept hf (fun _ _ _ _ => id)) hru hy (packB_bytes lv _))
  have HF := Lib.hid hf
  clear hu hf hru HQ
  go_wp2_with fail
  refine HE.out.mono ?_
  rintro e w2 ⟨rfl, rfl⟩
  clear HE
  go_wp2_with fail
  go_ret
  exact ⟨rfl, HF.out⟩

end Go.Proofs.YtpknbfkknnaajaaDoor

/- What the contracts of valisehelp's generic calls share, whatever the type. -/
namespace Go.Proofs.YtpknbfkknnaajaaDoor
open Go.RowKit

theorem Blk.of_own {w : World} {e : TypeId} {g n cap : Nat} {vs : List Value} (h : w.ownsRow 0 e 1 (.slice (some ⟨g, 0, none⟩) n cap) n vs) : ∃ cur, Blk w g e cur ∧ cur.size = cap ∧ cur.toList.take n = vs := by
  rcases h.2 with ⟨h', _⟩ | ⟨g', cap', cur, h', _, hg, _, _, hcs, ht⟩
  · simp at h'
  · simp only [Value.slice.injEq, Option.some.injEq, Addr.mk.injEq, and_true, true_and] at h'
    obtain ⟨rfl, rfl⟩ := h'
    exact ⟨cur, hg, by simpa using hcs, by simpa using ht⟩

/-- A copy with three cells of room behind it. -/
structure Copy (w : World) (q : Nat) (t : TypeId) (k : IntKind) (xs : List Int) (f : Int) : Prop where
  blk : Blk w q t (ivs k (xs ++ [f, f, f])).toArray

theorem take_set_snoc (l : List Value) (i : Nat) (u : Value) (h : i < l.length) : (l.set i u).take (i + 1) = l.take i ++ [u] := by
  rw [List.take_succ_eq_append_getElem (by simpa using h), List.take_set, List.set_eq_of_length_le (by simp; omega)]
  simp

theorem list_ne_at {xs ys : List Int} {j : Nat} (h : xs.getD j 0 ≠ ys.getD j 0) : decide (xs = ys) = false := by
  simp; intro e; subst e; exact h rfl

theorem list_eq_all {xs ys : List Int} (hl : xs.length = ys.length) (h : ∀ i, i < xs.length → xs.getD i 0 = ys.getD i 0) : xs = ys := by
  apply List.ext_getElem hl
  intro i h1 h2
  have := h i h1
  simpa [List.getD, h1, h2] using this

theorem Copy.row {w : World} {q : Nat} {t : TypeId} {k : IntKind} {xs : List Int} {f : Int} (h : Copy w q t k xs f) : Row w k (some ⟨q, 0, none⟩) xs.length xs :=
  ⟨rfl, fun j hj => ⟨q, 0, rfl, h.blk.lt, by
    rw [h.blk.cell (0 + j), Nat.zero_add, List.getElem?_toArray, ivs_get (by simp; omega)]
    simp [List.getD, List.getElem?_append_left hj]⟩⟩

end Go.Proofs.YtpknbfkknnaajaaDoor
