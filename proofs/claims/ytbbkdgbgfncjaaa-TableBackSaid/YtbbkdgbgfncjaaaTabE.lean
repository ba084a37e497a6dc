/- The code's Pack and Unpack of tables. -/
import Derived.Test.YtbbkdgbgfncjaaaTabC
import Derived.Test.YtbbkdgbgfncjaaaNumOne
import Derived.Deep.RegionHeld3
namespace Go.Proofs.Ytbbkdgbgfncjaaa
open Go.RowKit
set_option maxRecDepth 100000

attribute [local go_sem ↓] Go.wp_at_zero Go.wp_at_succ

set_option maxHeartbeats 3200000 in
theorem cPackT_yes (A : Option Addr) (n c : Nat) (l : List Int) (w : World) (hr : Row w .u8 A n l) (h8 : ∀ x ∈ l, 0 ≤ x ∧ x < 256) (hn : n ≤ 1048576) (hnc : n ≤ c) (h0 : wdt l ≠ 0) :
    Calls Try.prog 18 #[.slice A n c] w fun e w' => ∃ u, e = .returned (.tuple #[u, .bool true]) ∧ NewRow w w' 5 .u8 u (tabX l) := by
  have hin := wdt_in l
  have hlen := hr.len
  have HWd := Lib.hid (cWidth_any A n c l w hr hn hnc)
  have HR : Hid (∀ V, Fresh w V → Row V .u8 A n l) := Lib.hid fun V hV => hr.kept hV (fun _ _ _ _ => id)
  unfold tabX
  rw [hlen]
  have HDl := Lib.hid (fun V (hV : Fresh w V) => cDelta_any A n c l (wdt l : Nat) V (HR.out V hV) h8 (by omega) (by omega))
  rw [show wid1 ((wdt l : Nat) : Int) = wdt l by unfold wid1; omega] at HDl
  have hcc : colC ((wdt l : Nat) : Int) = wdt l := by
    have := (colC_in ((wdt l : Nat) : Int)).2.2
    omega
  have hdl : (dlt l (wdt l)).length = n := by rw [dlt_len, hlen]
  have hax : (aprt (dlt l (wdt l)) (wdt l)).length = n := by rw [aprt_length, hdl]
  have HAp := Lib.hid (fun (B : Option Addr) (d : Nat) V (hV : Row V .u8 B n (dlt l (wdt l))) (hd : n ≤ d) => cApart_any B n d (dlt l (wdt l)) (wdt l : Nat) V hV (by omega) hd)
  rw [hcc] at HAp
  generalize hD : dlt l (wdt l) = D at *
  generalize hX : aprt D (wdt l) = X at *
  generalize wdt l = k at *
  have hk0 : ¬ (k : Int) = 0 := by omega
  have hn1 : ¬ (1048576 : Int) < (n : Int) := by omega
  have hkw : (k : Int) % 18446744073709551616 = (k : Int) := by omega
  have hnw : (n : Int) % 18446744073709551616 = (n : Int) := by omega
  have hkw2 : IntKind.u64.wrap (k : Int) = (k : Int) := IntWalk.u64_in _ (by omega)
  have hnw2 : IntKind.u64.wrap (n : Int) = (n : Int) := IntWalk.u64_in _ (by omega)
  have hs1 := sv_le10 k (by omega)
  have hs2 := sv_le10 n (by omega)
  have HL : Hid ((sv k).length ≤ 10 ∧ (sv n).length ≤ 10 ∧ n ≤ 1048576 ∧ D.length = n ∧ X.length = n ∧ k < 18446744073709551616 ∧ n < 18446744073709551616) := Lib.hid ⟨hs1, hs2, hn, hdl, hax, by omega, by omega⟩
  clear hr h8 hn hnc h0 hin hlen hcc hdl hax hD hX hs1 hs2
  go_enter Try.func18, Try.ntmps18
  go_wp2_with fail
  refine HWd.out.mono ?_
  rintro e w1 ⟨rfl, hf1⟩
  clear HWd
  obtain ⟨W2, hW2⟩ : ∃ W2, W2 = w1.alloc (.cells #[.slice none 0 0] 39) := ⟨_, rfl⟩
  have hw2 : NW W2 w1.heap.size (.slice none 0 0) [] := by rw [hW2]; exact NW.new w1
  have hf2 : Fresh w W2 := by rw [hW2]; exact hf1.alloc _
  have hgz : w.heap.size ≤ w1.heap.size := hf1.size
  generalize hg : w1.heap.size = g at *
  have HF2 := Lib.hid (And.intro hf2 hgz)
  have HN2 := Lib.hid (nNum_any g (.slice none 0 0) [] k W2 hw2 HL.out.2.2.2.2.2.1 (by simp))
  clear hw2 hf2 hf1 hgz
  go_wp2_with fail
  rw [← hW2]
  clear hW2 hg
  refine HN2.out.mono ?_
  rintro e w3 ⟨rfl, v3, hw3, hv3, hk3⟩
  rw [List.nil_append] at hw3
  have HN3 := Lib.hid (nNum_any g v3 (sv k) n w3 hw3 HL.out.2.2.2.2.2.2 (by have := HL.out.1; omega))
  have H3 := Lib.hid (And.intro hv3 hk3)
  clear hw3 hv3 hk3 HN2
  go_wp2_with fail
  refine HN3.out.mono ?_
  rintro e w4 ⟨rfl, hp4⟩
  have hp4 := NPost.trans H3.out.1 H3.out.2 hp4
  obtain ⟨v4, hw4, hv4, hk4⟩ := hp4
  have hf4 : Fresh w w4 := HF2.out.1.trans hk4 fun i hi e => by
    have := HF2.out.2
    rcases e with e | e
    · omega
    · cases e
  have H4 := Lib.hid (And.intro hw4 (And.intro hv4 (And.intro hk4 hf4)))
  clear hw4 hv4 hk4 hf4 HN3 H3
  go_wp2_with fail
  refine (HDl.out _ H4.out.2.2.2).mono ?_
  rintro e w5 ⟨u5, rfl, hu5⟩
  have hc5 := hu5.1
  obtain ⟨B, d, rfl, hrB, _⟩ := hu5.1.row
  have hcap := hc5.cap
  rw [HL.out.2.2.2.1] at hrB hcap ⊢
  have HA5 := Lib.hid (HAp.out B d w5 hrB hcap)
  have H5 := Lib.hid hu5.2.2
  clear hu5 hc5 hrB hcap HDl HAp
  go_wp2_with fail
  refine HA5.out.mono ?_
  rintro e w6 ⟨u6, rfl, hu6⟩
  obtain ⟨C, d2, rfl, hrC, hC⟩ := hu6.1.row
  have hC2 : ∀ b o, C = some ⟨b, o, none⟩ → w4.heap.size ≤ b := fun b o e => by
    have := hu6.2.1 b (hC b o e)
    have := H5.out.size
    omega
  have hf46 : Fresh w4 w6 := H5.out.trans hu6.2.2 fun _ _ e => e
  have HRw := Lib.hid (nRawOne_any g v4 (sv k ++ sv n) C X.length d2 X 22 w4 w6 H4.out.1 hf46 hrC hC2 (by rw [List.length_append]; have := HL.out; omega))
  rw [HL.out.2.2.2.2.1] at HRw ⊢
  clear hu6 hrC hC hC2 hf46 HA5
  go_wp2_with fail
  refine HRw.out.mono ?_
  rintro e w7 ⟨rfl, hp7⟩
  have hp7 := NPost.trans H4.out.2.1 H4.out.2.2.1 hp7
  obtain ⟨v7, hw7, _, hk7⟩ := hp7
  have hf7 : Fresh w w7 := HF2.out.1.trans hk7 fun i hi e => by
    have := HF2.out.2
    rcases e with e | e
    · omega
    · cases e
  have HBy := Lib.hid (nBytes_any g v7 _ w7 hw7 (by simp only [List.length_append]; have := HL.out; omega))
  have H7 := Lib.hid hf7
  clear hw7 hk7 hf7 HRw
  go_wp2_with fail
  refine HBy.out.mono ?_
  rintro e w8 ⟨u, rfl, hu⟩
  obtain ⟨U, du, eu, _, _⟩ := hu.1.row
  generalize (sv k ++ sv n ++ X).length = lu at eu
  have HU : Hid (u = .slice U lu du ∧ NewRow w w8 5 .u8 u (sv k ++ sv n ++ X)) := Lib.hid ⟨eu, hu.1, fun j e => Nat.le_trans H7.out.size (hu.2.1 j e), H7.out.trans hu.2.2 fun _ _ e => e⟩
  rw [eu]
  clear eu hu HBy
  go_wp2_with fail
  go_ret2
  rw [← HU.out.1]
  exact ⟨_, rfl, HU.out.2⟩

set_option maxHeartbeats 1600000 in
theorem cPackT_no (A : Option Addr) (n c : Nat) (l : List Int) (w : World) (hr : Row w .u8 A n l) (hn : n ≤ 1048576) (hnc : n ≤ c) (h0 : wdt l = 0) :
    Calls Try.prog 18 #[.slice A n c] w fun e w' => e = .returned (.tuple #[.slice none 0 0, .bool false]) ∧ Fresh w w' := by
  have HWd := Lib.hid (cWidth_any A n c l w hr hn hnc)
  rw [h0] at HWd
  have hn1 : ¬ (1048576 : Int) < (n : Int) := by omega
  clear hr h0 hnc
  go_enter Try.func18, Try.ntmps18
  go_wp2_with fail
  refine HWd.out.mono ?_
  rintro e w1 ⟨rfl, hf1⟩
  have H1 := Lib.hid hf1
  clear hf1 HWd
  go_wp2_with fail
  go_ret2
  exact ⟨rfl, H1.out⟩

/-- What reading it leaves. -/
def UtPost (g : Nat) (w : World) (r : Int × List Int) (e : Ending) (w' : World) : Prop :=
  ∃ u, e = .returned (.tuple #[u, .int .i64 r.1]) ∧ Own w' 5 .u8 u r.2 ∧ (∀ k, u.ownBlock = some k → w.heap.size ≤ k) ∧ Mine g w w'

set_option maxHeartbeats 6400000 in
theorem cRecords_any (g : Nat) (t : TypeId) (ext : List Value) (A : Option Addr) (c : Nat) (xs : List Int) (most : Int) (w : World) (h : NRd w g t ext A c xs 0 0) (hx : xs.length ≤ 16777216) :
    Calls Try.prog 27 #[.agg #[.pointer (some ⟨g, 0, none⟩)], .int .i64 most] w (UtPost g w (tabU xs most)) := by
  obtain ⟨m, hms⟩ : ∃ m, m = mst most := ⟨_, rfl⟩
  have hm : m ≤ 1048576 := by rw [hms]; exact (mst_le most).1
  have hmx : min (max most 0) 1048576 = (m : Int) := by rw [hms]; unfold mst; omega
  have hgw : g < w.heap.size := h.blk.lt
  have hby := h.byte
  have hf1 := nx_fits g t ext A c xs 0 0 w h
  have HN1 : Hid (∀ V, NRd V g t ext A c xs 0 0 → Calls Try.prog 32 #[.pointer (some ⟨g, 0, none⟩)] V (NumPost g t ext A c xs V (tab1 xs))) := Lib.hid fun V hV => nrNum_any g t ext A c xs 0 0 V hV
  have HN2 : Hid (∀ V, NRd V g t ext A c xs (tab1 xs).2.1 (tab1 xs).2.2 → Calls Try.prog 32 #[.pointer (some ⟨g, 0, none⟩)] V (NumPost g t ext A c xs V (tab2 xs))) := Lib.hid fun V hV => nrNum_any g t ext A c xs _ _ V hV
  have hv1 : (tab1 xs).1 < 18446744073709551616 := hf1
  have hv2 : ∀ V, NRd V g t ext A c xs (tab1 xs).2.1 (tab1 xs).2.2 → (tab2 xs).1 < 18446744073709551616 := fun V hV => nx_fits g t ext A c xs _ _ V hV
  have HE : Hid (tabU xs most = if (tab2 xs).2.2 ≠ 0 then ((tab2 xs).2.2, []) else if (tab1 xs).1 < 2 ∨ 16 < (tab1 xs).1 then (4, []) else if m < (tab2 xs).1 then (5, []) else
      if (tab2 xs).1 ≠ xs.length - (tab2 xs).2.1 then (4, []) else (0, und (tgth (xs.drop (tab2 xs).2.1) (tab1 xs).1) (tab1 xs).1)) := Lib.hid (by rw [hms]; rfl)
  generalize tab1 xs = a at *
  generalize tab2 xs = b at *
  obtain ⟨k, p1, e1⟩ := a
  obtain ⟨z, p2, e2⟩ := b
  simp only [] at HN1 HN2 hv1 hv2 HE
  obtain ⟨W1, hW1⟩ : ∃ W1, W1 = w.alloc (.cells #[.pointer (some ⟨g, 0, none⟩)] 47) := ⟨_, rfl⟩
  have hf : Fresh w W1 := by rw [hW1]; exact (Kept.refl _ _).alloc _
  have hb1 : Blk W1 w.heap.size 47 #[.pointer (some ⟨g, 0, none⟩)] := by rw [hW1]; exact Blk.new _ _ _
  have h1 := h.kept hf id (fun _ _ _ _ => id)
  obtain ⟨q, hq⟩ : ∃ q, q = w.heap.size := ⟨_, rfl⟩
  rw [← hq] at hb1
  have hbx : W1.cell? ⟨q, 0, none⟩ = some (.pointer (some ⟨g, 0, none⟩)) := (hb1.cell 0).trans rfl
  have H1 := Lib.hid (And.intro h1 (And.intro hf (And.intro hb1 (And.intro hgw (And.intro hq (And.intro hm (And.intro hby hx)))))))
  have HV2 := Lib.hid hv2
  clear h hms hf1 hgw h1 hf hb1 hby hm hv2
  go_enter Try.func27, Try.ntmps27
  go_wp2_with fail
  try rw [← hW1, ← hq]
  clear hW1 hq
  go_region_held3 (fun w' => w'.cell? ⟨q, 0, none⟩ = some (.pointer (some ⟨g, 0, none⟩)))
    (first | go_keep | exact ((H1.out.2.2.1.kept hk2 (by have := H1.out; omega)).cell 0).trans rfl | exact (((H1.out.2.2.1.kept hk2 (by have := H1.out; omega)).kept hk3 (by have := H1.out; omega)).cell 0).trans rfl)
    (first
      | (go_at_call 32; (with_reducible refine (HN1.out _ H1.out.1.drew).mono ?_); rintro e w2 ⟨rfl, hr2, hk2'⟩
         have hk2 : Mine g W1 w2 := ((Kept.refl (fun _ => False) W1).drew.mono fun _ _ e => e.elim).trans hk2' fun _ _ e => e)
      | (go_at_call 32; (with_reducible refine (HN2.out _ hr2).mono ?_); rintro e w3 ⟨rfl, hr3, hk3⟩))
  have hz := HV2.out _ hr2
  have hk13 : Mine g W1 w3 := hk2.trans hk3 fun _ _ e => e
  have hk03 : Mine g w w3 := (H1.out.2.1.mono fun _ _ e => e.elim).trans hk13 fun _ _ e => e
  have hb3 := H1.out.2.2.1.kept hk13 (by have := H1.out; omega)
  have hbx3 : w3.cell? ⟨q, 0, none⟩ = some (.pointer (some ⟨g, 0, none⟩)) := (hb3.cell 0).trans rfl
  have H3 := Lib.hid (And.intro hr3 (And.intro hk03 (And.intro hb3 (And.intro hv1 hz))))
  clear hr2 hk2' hk2 hr3 hk3 hk13 hk03 hb3 hz hv1 HN1 HN2 HV2 hbx
  have HEr := Lib.hid (nrErr_any g t ext A c xs p2 e2 w3 H3.out.1)
  by_cases he : e2 = 0
  · subst he
    have HE2 : Hid (tabU xs most = if k < 2 ∨ 16 < k then (4, []) else if m < z then (5, []) else if z ≠ xs.length - p2 then (4, []) else (0, und (tgth (xs.drop p2) k) k)) := Lib.hid (by rw [HE.out, if_neg (by simp)])
    clear HE
    go_wp2_with fail
    refine HEr.out.mono ?_
    rintro e w4 ⟨rfl, rfl⟩
    clear HEr
    by_cases hk : k < 2 ∨ 16 < k
    · have HQ : Hid (tabU xs most = (4, [])) := Lib.hid (by rw [HE2.out, if_pos hk])
      have hcs : (k : Int) < 2 ∨ (¬ (k : Int) < 2 ∧ 16 < (k : Int)) := by omega
      clear hk HE2
      rcases hcs with j1 | ⟨j1, j2⟩
      all_goals
        go_wp2_with fail
        go_ret2
        unfold UtPost
        rw [HQ.out]
        exact ⟨_, rfl, Own.nil _ _ _, fun k e => (by cases e), H3.out.2.1⟩
    · have j1 : ¬ (k : Int) < 2 := by omega
      have j2 : ¬ 16 < (k : Int) := by omega
      have HK : Hid (2 ≤ k ∧ k ≤ 16) := Lib.hid (by omega)
      have hmm := H1.out.2.2.2.2.2.1
      have hwm : IntKind.u64.wrap (m : Int) = (m : Int) := IntWalk.u64_in _ (by omega)
      by_cases hbig : m < z
      · have hbi : (m : Int) < (z : Int) := by omega
        have HQ : Hid (tabU xs most = (5, [])) := Lib.hid (by rw [HE2.out, if_neg hk, if_pos hbig])
        clear hk HE2 hbig hmm
        go_wp2_with fail
        go_ret2
        unfold UtPost
        rw [HQ.out]
        exact ⟨_, rfl, Own.nil _ _ _, fun k e => (by cases e), H3.out.2.1⟩
      · have hbi : ¬ (m : Int) < (z : Int) := by omega
        obtain ⟨L, hL⟩ : ∃ L, L = xs.length - p2 := ⟨_, rfl⟩
        have hp2 := H3.out.1.le
        have HL := Lib.hid (nrLeft_any g t ext A c xs p2 0 w3 L H3.out.1 (by omega))
        have hLn : L ≤ 16777216 := by have := H1.out; omega
        have hwl : IntKind.u64.wrap (L : Int) = (L : Int) := IntWalk.u64_in _ (by omega)
        have hwl2 : (L : Int) % 18446744073709551616 = (L : Int) := by omega
        have HLL := Lib.hid hL
        by_cases hzl : z = L
        · subst hzl
          have HQ : Hid (tabU xs most = (0, und (tgth (xs.drop p2) k) k)) := Lib.hid (by rw [HE2.out, if_neg hk, if_neg hbig, if_neg (by simpa using hL)])
          have htk : tk xs p2 0 (z : Int).toNat = (xs.drop p2, p2 + z, 0) := by
            unfold tk
            rw [if_neg (by simp), Int.toNat_natCast, if_pos (by omega), List.take_of_length_le (by rw [List.length_drop]; omega)]
          have HRw : Hid (∀ V, NRd V g t ext A c xs p2 0 → Calls Try.prog 35 #[.pointer (some ⟨g, 0, none⟩), .int .i64 (z : Int)] V (TextPost g t ext A c xs V (xs.drop p2, p2 + z, 0))) := Lib.hid fun V hV => by
            have := nrRaw_any g t ext A c xs p2 0 V (z : Int) (by omega) hV
            rwa [htk] at this
          have hdl : (xs.drop p2).length = z := by rw [List.length_drop]; omega
          have h8 : ∀ x ∈ xs.drop p2, 0 ≤ x ∧ x < 256 := fun x hx => H1.out.2.2.2.2.2.2.1 x (List.mem_of_mem_drop hx)
          have HD := Lib.hid (And.intro hdl h8)
          have iz : IntKind.i64.wrap (z : Int) = (z : Int) := IntWalk.i64_in _ (by omega)
          have ik : IntKind.i64.wrap (k : Int) = (k : Int) := IntWalk.i64_in _ (by omega)
          have Hz := Lib.hid (show z ≤ 1048576 by omega)
          have z5 : (z : Int) ≤ 1048576 := by omega
          generalize xs.drop p2 = T at *
          clear hk HE2 hbig hmm hL htk hdl h8 hp2 hLn
          go_wp2_with fail
          refine HL.out.mono ?_
          rintro e w5 ⟨rfl, kk, rfl⟩
          clear HL
          go_wp2_with fail
          refine (HRw.out _ (H3.out.1.drewN kk)).mono ?_
          rintro e w6 ⟨u, rfl, hu, hun, _, hk6⟩
          clear HRw
          obtain ⟨B, d, rfl, hrB, _⟩ := hu.row
          have hcap := hu.cap
          rw [HD.out.1] at hrB hcap ⊢
          have hTg := cTogether_any B z d T (k : Int) w6 hrB Hz.out hcap
          rw [show colC (k : Int) = k by have := (colC_in (k : Int)).2.2; have := HK.out; omega] at hTg
          have HTg := Lib.hid hTg
          have hk06 : Mine g w w6 := H3.out.2.1.trans ((Kept.refl _ _).drewN kk |>.trans hk6 fun _ _ e => e) fun _ _ e => e
          have H6 := Lib.hid hk06
          clear hu hun hk6 hrB hcap hTg hk06
          go_wp2_with fail
          refine HTg.out.mono ?_
          rintro e w7 ⟨u7, rfl, hu7⟩
          have hl7 : (tgth T k).length = z := by rw [tgth_length, HD.out.1]
          have hb7 : ∀ x ∈ tgth T k, 0 ≤ x ∧ x < 256 := tgth_byte HD.out.2 k
          obtain ⟨C, d7, rfl, hrC, _⟩ := hu7.1.row
          rw [hl7] at hrC ⊢
          have hUn := cUndelta_any C z d7 (tgth T k) (k : Int) w7 hrC hb7 (by have := Hz.out; omega) (by have := HK.out; omega)
          rw [show wid1 (k : Int) = k by unfold wid1; have := HK.out; omega] at hUn
          have HUn := Lib.hid hUn
          have H7 : Hid (Mine g w w7) := Lib.hid (H6.out.trans hu7.2.2 fun _ _ e => e.elim)
          clear hu7 hl7 hb7 hrC hUn HTg
          go_wp2_with fail
          refine HUn.out.mono ?_
          rintro e w8 ⟨u8, rfl, hu8⟩
          obtain ⟨E, d8, eu, _, _⟩ := hu8.1.row
          generalize (und (tgth T k) k).length = lu at eu
          have H8 : Hid (u8 = .slice E lu d8 ∧ NewRow w7 w8 5 .u8 u8 (und (tgth T k) k) ∧ Mine g w w8) := Lib.hid ⟨eu, hu8, H7.out.trans hu8.2.2 fun _ _ e => e.elim⟩
          rw [eu]
          clear eu hu8 HUn
          go_wp2_with fail
          go_ret2
          unfold UtPost
          rw [HQ.out, ← H8.out.1]
          exact ⟨_, rfl, H8.out.2.1.1, fun j e => Nat.le_trans H7.out.size (H8.out.2.1.2.1 j e), H8.out.2.2⟩
        · have hzi : ((z : Int) == (L : Int)) = false := by simp; omega
          have hzi2 : ((z : Int) != (L : Int)) = true := by simp; omega
          have HQ : Hid (tabU xs most = (4, [])) := Lib.hid (by rw [HE2.out, if_neg hk, if_neg hbig, if_pos (by omega)])
          clear hk HE2 hbig hmm hL hp2 hLn hzl
          go_wp2_with fail
          refine HL.out.mono ?_
          rintro e w5 ⟨rfl, kk, rfl⟩
          clear HL
          go_wp2_with fail
          go_ret2
          unfold UtPost
          rw [HQ.out]
          exact ⟨_, rfl, Own.nil _ _ _, fun k e => (by cases e), H3.out.2.1.drewN kk⟩
  · have heb : (e2 != 0) = true := by simpa using he
    have HQ : Hid (tabU xs most = (e2, [])) := Lib.hid (by rw [HE.out, if_pos he])
    clear he HE
    go_wp2_with fail
    refine HEr.out.mono ?_
    rintro e w4 ⟨rfl, rfl⟩
    go_wp2_with fail
    refine HEr.out.mono ?_
    rintro e w4 ⟨rfl, rfl⟩
    go_wp2_with fail
    go_ret2
    unfold UtPost
    rw [HQ.out]
    exact ⟨_, rfl, Own.nil _ _ _, fun k e => (by cases e), H3.out.2.1⟩

end Go.Proofs.Ytbbkdgbgfncjaaa
