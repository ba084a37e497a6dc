/- WavChunks: whatever samples are made a file, and whatever chunks of other names stand ahead of the samples: parsed, the samples are there, further behind. For all bytes, all names and all contents. -/
import Derived.Test.YtjpfmnfojcaedaaWavE
import Derived.Test.YtjpfmnfojcaedaaArgs
import Derived.Test.YtjpfmnfojcaedaaListsArg
namespace Go.Proofs.Ytjpfmnfojcaedaa.wavChunks
open Go.ChangeShapes Go.WideShapes Go.ChangeAt Go.RowKit

attribute [local go_sem ↓] Go.wp_at_zero Go.wp_at_succ

set_option maxRecDepth 100000 in
set_option maxHeartbeats 3200000 in
/-- A name's bytes. -/
def nm (s : ByteArray) : List Int := s.data.toList.map fun b => (b.toNat : Int)
theorem nm_cells (s : ByteArray) : Lib.strCells s = ivs .u8 (nm s) := by simp [Lib.strCells, nm, ivs, Function.comp_def]
theorem nm_length (s : ByteArray) : (nm s).length = s.size := by simp [nm]
theorem nm_byte (s : ByteArray) : ∀ x ∈ nm s, 0 ≤ x ∧ x < 256 := fun x hx => by
  simp only [nm, List.mem_map] at hx
  obtain ⟨b, _, rfl⟩ := hx
  have := b.toNat_lt
  omega
theorem nm_str (s : ByteArray) : strOfNums (nm s) = s := by
  unfold strOfNums nm
  simp [Function.comp_def]
theorem nm_data (s : ByteArray) : (s.toList == [100, 97, 116, 97]) = decide (nm s = nData) := by
  have := is_data (nm_byte s)
  rwa [nm_str] at this
theorem nm_fmt (s : ByteArray) : (s.toList == [102, 109, 116, 32]) = decide (nm s = nFmt) := by
  have := is_fmt (nm_byte s)
  rwa [nm_str] at this
set_option maxRecDepth 100000 in
set_option maxHeartbeats 6400000 in
theorem walk (ok : WavOK) (ci bi : Int) (A : Option Addr) (n c : Nat) (xs : List Int) (NA : Option Addr) (nn nc : Nat) (S : Nat → ByteArray) (CA : Option Addr) (cn cc : Nat) (T : Nat → List Int) (w : World) (_ : A = none → c = 0) (hr : Row w .u8 A n xs) (hb : ∀ x ∈ xs, 0 ≤ x ∧ x < 256) (_ : n ≤ maxLen) (hnc : n ≤ c)
    (hN : Names w NA nn S) (_ : nn ≤ maxLen) (hC : Conts w .u8 CA cn T) (_ : cn ≤ maxLen) :
    Calls Try.prog 7 #[.int .i64 ci, .int .i64 bi, .slice A n c, .slice NA nn nc, .slice CA cn cc] w fun e w' => e = .returned (.bool true) ∧ Below w.heap.size w w' := by
  obtain ⟨i0, hi, hz0, hz1, hz2⟩ := info_parts Try.infoByteQ
  obtain ⟨r8, hr8, e8⟩ := u64_mod ci 8 (by omega)
  obtain ⟨r2, hr2, e2⟩ := u64_mod bi 2 (by omega)
  obtain ⟨ch, hch⟩ : ∃ ch, ch = 1 + r8 := ⟨_, rfl⟩
  obtain ⟨b, hbi⟩ : ∃ b, b = 8 + 8 * r2 := ⟨_, rfl⟩
  have hok : wok ch b := by unfold wok; omega
  have t1 : 1 + (r8 : Int) = (ch : Int) := by omega
  have t2 : 8 + 8 * (r2 : Int) = (b : Int) := by omega
  have hlen := hr.len
  obtain ⟨m8, hm8⟩ : ∃ m8, m8 = ch * b := ⟨_, rfl⟩
  have hm : (ch : Int) * (b : Int) = (m8 : Int) := by rw [hm8]; simp
  have m8l : m8 ≤ 128 ∧ 8 ≤ m8 := by
    have h8 := hok
    unfold wok at h8
    rw [hm8]
    rcases h8.2.2 with e | e <;> rw [e] <;> omega
  obtain ⟨fr, hfr⟩ : ∃ fr, fr = m8 / 8 := ⟨_, rfl⟩
  have hf8 : (m8 : Int) / 8 = (fr : Int) := by omega
  have fr0 : (0 : Int) < (fr : Int) := by omega
  have m80 : (0 : Int) ≤ (m8 : Int) := by omega
  have m81 : (m8 : Int) ≤ 128 := by omega
  have ch0 : (0 : Int) ≤ (ch : Int) := by omega
  have r80 : (0 : Int) ≤ (r8 : Int) := by omega
  have r20 : (0 : Int) ≤ (r2 : Int) := by omega
  have b0 : (0 : Int) ≤ (b : Int) ∧ (b : Int) ≤ 16 := by omega
  obtain ⟨b01, b02⟩ := b0
  obtain ⟨W1, hW1⟩ : ∃ W1, W1 = w.alloc (.cells #[.int .i64 ch, .int .i64 b, .int .i64 0, .int .i64 0] 26) := ⟨_, rfl⟩
  have hb1 : Blk W1 w.heap.size 26 #[.int .i64 ch, .int .i64 b, .int .i64 0, .int .i64 0] := by rw [hW1]; exact Blk.new _ _ _
  have hf1 : Fresh w W1 := by rw [hW1]; exact (Kept.refl _ _).alloc _
  by_cases hlong : 1000 < n ∨ n < fr
  · have HA := Lib.hid (awakeW_any ok W1)
    have H1 := Lib.hid hf1
    have hcs : (1000 < (n : Int)) ∨ (¬ 1000 < (n : Int) ∧ (n : Int) < (fr : Int)) := by omega
    clear hr ok hlong hm8 hfr m8l hb1 hf1 hok hch hbi
    rcases hcs with k1 | ⟨k1, k2⟩
    all_goals
      go_enter Try.func7, Try.ntmps7
      go_wp2_with fail
      rw [← hW1]
      refine HA.out.mono ?_
      rintro e w1 ⟨rfl, hf⟩
      have HF := Lib.hid (H1.out.trans hf fun _ _ e => e).toBelow
      clear hf HA
      go_wp2_with fail
      go_ret
      exact ⟨rfl, HF.out⟩
  · have k1 : ¬ 1000 < (n : Int) := by omega
    have k2 : ¬ (n : Int) < (fr : Int) := by omega
    have HMk := ok.make ch b 0 0 A n c xs W1 (by omega) (by omega) (hr.kept hf1 (fun _ _ _ _ => id)) hb (by omega) hnc
    have hzl := wmake_length hok xs
    have hzw := wmake_ok hok xs
    obtain ⟨z, hzz⟩ : ∃ z, wmake (ch : Int) (b : Int) xs = z := ⟨_, rfl⟩
    rw [hzz] at HMk hzl hzw
    have HM := Lib.hid HMk
    have HZ := Lib.hid (And.intro hzl (And.intro hzw hzz))
    have HX := Lib.hid (And.intro hok (And.intro hr (And.intro hb (And.intro ok (And.intro hlen (And.intro hm8 hfr))))))
    have HNC := Lib.hid (And.intro hN hC)
    have H1 := Lib.hid (And.intro hb1 hf1)
    clear hr ok hlong hm8 hfr m8l hb1 hf1 hok hch hbi HMk hzl hzw hzz hN hC hlen hb
    go_enter Try.func7, Try.ntmps7
    go_wp2_with fail
    rw [← hW1]
    clear hW1
    refine HM.out.mono ?_
    rintro e w2 ⟨u2, rfl, hu2⟩
    obtain ⟨A2, c2, rfl, r2', _⟩ := hu2.1.row
    have cap2 := hu2.1.cap
    have H2 := Lib.hid (And.intro r2' (And.intro (H1.out.2.trans hu2.2.2 fun _ _ e => e) (And.intro (H1.out.1.kept hu2.2.2 id) cap2)))
    clear hu2 r2' HM cap2
    obtain ⟨lz, hlz⟩ : ∃ lz, z.length = lz := ⟨_, rfl⟩
    rw [hlz] at H2 HZ ⊢
    have lz1 : (lz : Int) = 44 + (n : Int) := by have := HZ.out.1; have := HX.out.2.2.2.2.1; omega
    have HLz := Lib.hid hlz
    clear hlz
    go_wp2_with fail
    refine (awakeW_any HX.out.2.2.2.1 _).mono ?_
    rintro e w3 ⟨rfl, hf3⟩
    have H3 := Lib.hid (And.intro (H2.out.1.kept hf3 (fun _ _ _ _ => id)) (And.intro (H2.out.2.1.trans hf3 fun _ _ e => e) (H2.out.2.2.1.kept hf3 id)))
    clear hf3
    have lzb : ((lz : Int) != 44 + (n : Int)) = false := by simp; omega
    go_wp2_with fail
    go_loopw [15, 14] (fun i v wr => ∃ (k : Nat) (L : List (List Int × List Int)), k ≤ 5 ∧ i = .int .i64 k ∧ NewRow w3 wr 5 .u8 v (wmore L) ∧ (∀ x ∈ L, wgood x) ∧ (wmore L).length ≤ 400 * k ∧ (∀ x ∈ wmore L, 0 ≤ x ∧ x < 256)) (fun i _ _ => (5 - intOf i).toNat)
    case atStart => exact ⟨0, [], by omega, rfl, ⟨Own.nil _ _ _, fun k e => (by cases e), Kept.refl _ _⟩, fun x hx => (by cases hx), by simp [wmore], fun x hx => (by simp [wmore] at hx)⟩
    case round =>
      obtain ⟨k, L, hk5, rfl, hnew, hgood, hml, hmb⟩ := hrel
      have HL := Lib.hid (And.intro hnew (And.intro hgood (And.intro hml hmb)))
      clear hnew hgood hml hmb
      by_cases hgo : k < nn ∧ k < cn ∧ k < 5
      · obtain ⟨g1, g2, g3⟩ := hgo
        have g1' : (k : Int) < (nn : Int) := by omega
        have g2' : (k : Int) < (cn : Int) := by omega
        have g3' : (k : Int) < 5 := by omega
        obtain ⟨b1, o1, rfl, hb1, hc1, hs1⟩ := (HNC.out.1.kept H3.out.2.1) k g1
        obtain ⟨b2, o2, B, m, d, rfl, hb2, hc2, hrB, hmd, _, hwB⟩ := (HNC.out.2.kept H3.out.2.1) k g2
        obtain ⟨s, hs⟩ : ∃ s, S k = s := ⟨_, rfl⟩
        rw [hs] at hc1 hs1
        obtain ⟨ct, hct⟩ : ∃ ct, T k = ct := ⟨_, rfl⟩
        rw [hct] at hrB hwB
        have HC1 : Hid (∀ V, Fresh w3 V → V.cell? ⟨b1, o1 + k, none⟩ = some (.string s)) := Lib.hid fun V hV => (hV.cell (p := ⟨b1, o1 + k, none⟩) hb1 id).trans hc1
        have HC2 : Hid (∀ V, Fresh w3 V → V.cell? ⟨b2, o2 + k, none⟩ = some (.slice B m d)) := Lib.hid fun V hV => (hV.cell (p := ⟨b2, o2 + k, none⟩) hb2 id).trans hc2
        have HCR : Hid (∀ V, Fresh w3 V → Row V .u8 B m ct) := Lib.hid fun V hV => hrB.kept hV (fun _ _ _ _ => id)
        have HCW := Lib.hid (And.intro (range_bytes hwB) hrB.len)
        clear hs hct hc1 hc2 hrB hwB hb1 hb2
        have c1w := HC1.out wr HL.out.1.2.2
        have c2w := HC2.out wr HL.out.1.2.2
        have q2 := nm_data s
        have q3 := nm_fmt s
        have hcs : (((s.size : Int) != 4) = true) ∨ ((((s.size : Int) != 4) = false) ∧ nm s = nData) ∨ ((((s.size : Int) != 4) = false) ∧ nm s ≠ nData ∧ nm s = nFmt) ∨ ((((s.size : Int) != 4) = false) ∧ nm s ≠ nData ∧ nm s ≠ nFmt ∧ 300 < (m : Int)) ∨ ((((s.size : Int) != 4) = false) ∧ nm s ≠ nData ∧ nm s ≠ nFmt ∧ ¬ 300 < (m : Int)) := by
          by_cases h1 : (s.size : Int) = 4
          · have h1' : (((s.size : Int) != 4) = false) := by simp [h1]
            by_cases h2 : nm s = nData
            · exact .inr (.inl ⟨h1', h2⟩)
            · by_cases h3 : nm s = nFmt
              · exact .inr (.inr (.inl ⟨h1', h2, h3⟩))
              · by_cases h4 : 300 < (m : Int)
                · exact .inr (.inr (.inr (.inl ⟨h1', h2, h3, h4⟩)))
                · exact .inr (.inr (.inr (.inr ⟨h1', h2, h3, h4⟩)))
          · exact .inl (by simp [h1])
        have hml := HL.out.2.2.1
        rcases hcs with k3 | ⟨k3, k4⟩ | ⟨k3, k4, k5⟩ | ⟨k3, k4, k5, k6⟩ | ⟨k3, k4, k5, k6⟩
        · clear q2 q3
          go_wp2_with fail
          go_roundw
          case rel => exact ⟨k + 1, L, by omega, by go_num, HL.out.1, HL.out.2.1, by omega, HL.out.2.2.2⟩
          case measure => simp [intOf]; omega
        · rw [decide_eq_true k4] at q2
          clear q3 k4
          go_wp2_with fail
          go_roundw
          case rel => exact ⟨k + 1, L, by omega, by go_num, HL.out.1, HL.out.2.1, by omega, HL.out.2.2.2⟩
          case measure => simp [intOf]; omega
        · rw [decide_eq_false k4] at q2
          rw [decide_eq_true k5] at q3
          clear k4 k5
          go_wp2_with fail
          go_roundw
          case rel => exact ⟨k + 1, L, by omega, by go_num, HL.out.1, HL.out.2.1, by omega, HL.out.2.2.2⟩
          case measure => simp [intOf]; omega
        · rw [decide_eq_false k4] at q2
          rw [decide_eq_false k5] at q3
          clear k4 k5
          go_wp2_with fail
          go_roundw
          case rel => exact ⟨k + 1, L, by omega, by go_num, HL.out.1, HL.out.2.1, by omega, HL.out.2.2.2⟩
          case measure => simp [intOf]; omega
        · rw [decide_eq_false k4] at q2
          rw [decide_eq_false k5] at q3
          have hsz : s.size = 4 := by
            simp only [bne_eq_false_iff_eq] at k3
            omega
          have HG := Lib.hid (show wgood (nm s, ct) from ⟨by rw [nm_length]; exact hsz, k5, k4, by have := HCW.out.2; simp only []; omega⟩)
          have hsl := nm_length s
          have HSZ := Lib.hid (And.intro hsz hsl)
          have m300 : (m : Int) ≤ 300 := by omega
          have m0 : (0 : Int) ≤ (m : Int) := by omega
          clear k4 k5 hsz hsl
          go_wp2_with (at_builtin; refine wpList_new_str _ w3 rfl _ _ 22 9 rfl 5 i0 Try.underlying22 Try.underlying9 hi hz0 hz1 hz2 _ (wmore L) rfl HL.out.1 s (nm s) rfl (nm_cells s) (by unfold maxLen; have := HSZ.out; omega) (by have := HSZ.out; omega) ?_; intro v1 X1 N1; have c2a := HC2.out X1 N1.2.2)
          refine (qLit_any m 4 _ (by omega)).mono ?_
          rintro e V2 ⟨u2', rfl, hu2⟩
          obtain ⟨A5, d5, he5, r5, _⟩ := hu2.1.row
          rw [leBytes_length] at he5 r5
          have P2 := Lib.hid (N1.fresh hu2.2.2)
          have R2 := Lib.hid (And.intro he5 r5)
          clear N1 hu2 he5 r5 c2a
          have hll : (wmore L ++ nm s).length ≤ 2100 := by have := HSZ.out; rw [List.length_append]; omega
          obtain ⟨L1, hL1⟩ : ∃ L1, wmore L ++ nm s = L1 := ⟨_, rfl⟩
          rw [hL1] at P2 hll
          have HL1 := Lib.hid hL1
          clear hL1
          by_cases hp : m % 2 = 1
          focus
            have hpb : ((m : Int) % 2 == 1) = true := by simp; omega
            go_wp2_with (first
              | (at_builtin; refine wpList_new _ w3 rfl _ _ 22 rfl 5 i0 .u8 1 Try.underlying22 hi hz0 hz1 hz2 _ L1 rfl P2.out A5 4 d5 _ R2.out.1 R2.out.2 (by unfold maxLen; omega) (by omega) ?_; intro v3 X3 N3; have M3 := Lib.hid N3; have c2b := HC2.out X3 N3.2.2; clear N3)
              | (at_builtin; refine wpList_new _ w3 rfl _ _ 22 rfl 5 i0 .u8 1 Try.underlying22 hi hz0 hz1 hz2 _ (L1 ++ leBytes m 4) rfl M3.out B m d ct rfl (HCR.out X3 M3.out.2.2) (by unfold maxLen; rw [List.length_append, leBytes_length]; omega) (by rw [List.length_append, leBytes_length]; omega) ?_; intro v4 X4 N4; have M4 := Lib.hid N4; have c2c := HC2.out X4 N4.2.2; clear N4)
              | (at_builtin; refine wpList_new _ w3 rfl _ _ 22 rfl 5 i0 .u8 1 Try.underlying22 hi hz0 hz1 hz2 _ ((L1 ++ leBytes m 4) ++ ct) rfl (M4.out.fresh ((Kept.refl _ _).alloc _)) _ 1 1 [0] rfl (Row.one _ _ _ _) (by unfold maxLen; rw [List.length_append, List.length_append, leBytes_length, HCW.out.2]; omega) (by rw [List.length_append, List.length_append, leBytes_length, HCW.out.2]; omega) ?_; intro v6 X6 N6; have M6 := Lib.hid N6; clear N6))
            have e : ((L1 ++ leBytes m 4) ++ ct) ++ [0] = wmore (L ++ [(nm s, ct)]) := by
              rw [wmore_snoc, ← HL1.out]
              simp [wchunk, HCW.out.2, hp]
            rw [e] at M6
            have hlm : (wmore (L ++ [(nm s, ct)])).length ≤ 400 * (k + 1) := by rw [wmore_snoc, List.length_append, wchunk_length]; have := HSZ.out; have := HCW.out.2; simp only []; omega
            go_roundw
            case rel =>
              refine ⟨k + 1, L ++ [(nm s, ct)], by omega, by go_num, M6.out, fun x hx => (List.mem_append.1 hx).elim (HL.out.2.1 x) (fun e => by rw [List.mem_singleton.1 e]; exact HG.out), hlm, fun x hx => ?_⟩
              rw [wmore_snoc] at hx
              rcases List.mem_append.1 hx with hx | hx
              · exact HL.out.2.2.2 x hx
              · simp only [wchunk, List.mem_append] at hx
                rcases hx with hx | hx | hx | hx
                · exact nm_byte s x hx
                · exact leBytes_byte _ _ x hx
                · exact HCW.out.1 x hx
                · split at hx
                  · rw [List.mem_singleton.1 hx]; omega
                  · cases hx
            case measure => simp [intOf]; omega
          focus
            have hpb : ((m : Int) % 2 == 1) = false := by simp; omega
            go_wp2_with (first
              | (at_builtin; refine wpList_new _ w3 rfl _ _ 22 rfl 5 i0 .u8 1 Try.underlying22 hi hz0 hz1 hz2 _ L1 rfl P2.out A5 4 d5 _ R2.out.1 R2.out.2 (by unfold maxLen; omega) (by omega) ?_; intro v3 X3 N3; have M3 := Lib.hid N3; have c2b := HC2.out X3 N3.2.2; clear N3)
              | (at_builtin; refine wpList_new _ w3 rfl _ _ 22 rfl 5 i0 .u8 1 Try.underlying22 hi hz0 hz1 hz2 _ (L1 ++ leBytes m 4) rfl M3.out B m d ct rfl (HCR.out X3 M3.out.2.2) (by unfold maxLen; rw [List.length_append, leBytes_length]; omega) (by rw [List.length_append, leBytes_length]; omega) ?_; intro v4 X4 N4; have M4 := Lib.hid N4; have c2c := HC2.out X4 N4.2.2; clear N4))
            have e : ((L1 ++ leBytes m 4) ++ ct) = wmore (L ++ [(nm s, ct)]) := by
              rw [wmore_snoc, ← HL1.out]
              simp [wchunk, HCW.out.2, hp]
            rw [e] at M4
            have hlm : (wmore (L ++ [(nm s, ct)])).length ≤ 400 * (k + 1) := by rw [wmore_snoc, List.length_append, wchunk_length]; have := HSZ.out; have := HCW.out.2; simp only []; omega
            go_roundw
            case rel =>
              refine ⟨k + 1, L ++ [(nm s, ct)], by omega, by go_num, M4.out, fun x hx => (List.mem_append.1 hx).elim (HL.out.2.1 x) (fun e => by rw [List.mem_singleton.1 e]; exact HG.out), hlm, fun x hx => ?_⟩
              rw [wmore_snoc] at hx
              rcases List.mem_append.1 hx with hx | hx
              · exact HL.out.2.2.2 x hx
              · simp only [wchunk, List.mem_append] at hx
                rcases hx with hx | hx | hx | hx
                · exact nm_byte s x hx
                · exact leBytes_byte _ _ x hx
                · exact HCW.out.1 x hx
                · split at hx
                  · rw [List.mem_singleton.1 hx]; omega
                  · cases hx
            case measure => simp [intOf]; omega
      · obtain ⟨Am, cm, rfl, rm, _⟩ := HL.out.1.1.row
        have hml := HL.out.2.2.1
        have HM := Lib.hid (And.intro HL.out.1.2.2 (And.intro HL.out.2.1 (And.intro HL.out.2.2.2 rm)))
        clear rm HL
        obtain ⟨wm, hwm⟩ : ∃ wm, wmore L = wm := ⟨_, rfl⟩
        rw [hwm] at HM hml ⊢
        have HWM := Lib.hid hwm
        clear hwm
        obtain ⟨lm, hlm⟩ : ∃ lm, wm.length = lm := ⟨_, rfl⟩
        rw [hlm] at HM hml ⊢
        have lm1 : (lm : Int) ≤ 2000 := by omega
        have HLM := Lib.hid hlm
        clear hlm
        -- the two parts of the file
        have hzp : z = whead ch b xs.length ++ (wdata xs.length ++ xs) := HZ.out.2.1
        have hp1 : z.take 36 = whead ch b xs.length := by rw [hzp]; exact List.take_left' (whead_length _ _ _)
        have hp2 : (z.drop 36).take (lz - 36) = wdata xs.length ++ xs := by
          have e : z.drop 36 = wdata xs.length ++ xs := by rw [hzp]; exact List.drop_left' (whead_length _ _ _)
          rw [e, List.take_of_length_le]
          rw [List.length_append, wdata_length]
          have := HX.out.2.2.2.2.1
          omega
        have R1 : Hid (∀ V, Fresh w3 V → Row V .u8 A2 36 (whead ch b xs.length)) := Lib.hid fun V hV => by
          have := (H3.out.1.kept hV (fun _ _ _ _ => id)).take (m := 36) (by omega)
          rwa [hp1] at this
        have R2 : Hid (∀ V, Fresh w3 V → Row V .u8 (cutAt A2 36 c2) (lz - 36) (wdata xs.length ++ xs)) := Lib.hid fun V hV => by
          have := (H3.out.1.kept hV (fun _ _ _ _ => id)).cut (l := 36) (m := lz - 36) (c := c2) (by omega) H2.out.2.2.2
          rwa [hp2] at this
        have hsl2 : ∀ W, (Instr.slice 22 (.slice A2 lz c2) (some (.int .i64 36)) none none).run Try.prog W = .ok (.slice (cutAt A2 36 c2) (lz - 36) (c2 - 36)) W := fun W =>
          run_slice_from 22 5 Try.underlying22 (fun w => by simp [sizeOf, typeInfo, hi, hz1]) A2 lz c2 36 (by omega) W
        have c36 : (36 : Int) ≤ (c2 : Int) := by have := H2.out.2.2.2; omega
        have lzn : lz - 36 = 8 + xs.length := by have := HX.out.2.2.2.2.1; omega
        have lwd : (wdata xs.length ++ xs).length = 8 + xs.length := by rw [List.length_append, wdata_length]
        have lwh := whead_length ch b xs.length
        have hxl : xs.length ≤ 1000 := by have := HX.out.2.2.2.2.1; omega
        have N0 : Hid (NewRow w3 wr.drew 5 .u8 (.slice none 0 0) []) := Lib.hid ⟨Own.nil _ _ _, fun k e => (by cases e), HM.out.1.drew⟩
        -- what is told
        obtain ⟨qn, hqn⟩ : ∃ qn, qn = xs.length / fr := ⟨_, rfl⟩
        have hnl := HX.out.2.2.2.2.1
        have hq' : (n : Int) / (fr : Int) = (qn : Int) := by rw [hqn, hnl]; simp
        obtain ⟨ln, hln⟩ : ∃ ln, ln = qn * fr := ⟨_, rfl⟩
        have hl' : (qn : Int) * (fr : Int) = (ln : Int) := by rw [hln]; simp
        have lnle : ln ≤ xs.length := by rw [hln, hqn]; exact Nat.div_mul_le_self _ _
        have qnle : qn ≤ xs.length := by rw [hqn]; exact Nat.div_le_self _ _
        have qnpos : 1 ≤ qn := by rw [hqn]; exact Nat.div_pos (by omega) (by omega)
        have lnpos : 1 ≤ ln := by rw [hln]; exact Nat.mul_pos qnpos (by omega)
        have hpar := wchunks HX.out.1 xs (by omega) L HM.out.2.1
        rw [← HX.out.2.2.2.2.2.1, ← HX.out.2.2.2.2.2.2, ← hqn, ← hln, if_neg (by omega), HWM.out, HLM.out] at hpar
        obtain ⟨f4, hf4⟩ : ∃ f4, f4 = 44 + lm := ⟨_, rfl⟩
        obtain ⟨t4, ht4⟩ : ∃ t4, t4 = f4 + ln := ⟨_, rfl⟩
        rw [← hf4, ← ht4] at hpar
        have e44 : 44 + (lm : Int) = (f4 : Int) := by omega
        have e45 : (f4 : Int) + (ln : Int) = (t4 : Int) := by omega
        have hcut : ((whead ch b xs.length ++ (wm ++ (wdata xs.length ++ xs))).drop f4).take ln = xs.take ln := by
          have e : whead ch b xs.length ++ (wm ++ (wdata xs.length ++ xs)) = (whead ch b xs.length ++ (wm ++ wdata xs.length)) ++ xs := by simp only [List.append_assoc]
          rw [e, List.drop_left' (by rw [List.length_append, List.length_append, whead_length, wdata_length, HLM.out]; omega)]
        have hall : (whead ch b xs.length ++ (wm ++ (wdata xs.length ++ xs))).length = f4 + xs.length := by
          rw [List.length_append, List.length_append, lwh, lwd, HLM.out]; omega
        have hallb : ∀ x ∈ whead ch b xs.length ++ (wm ++ (wdata xs.length ++ xs)), 0 ≤ x ∧ x < 256 := fun x hx => by
          have hz := wmake_byte (ch : Int) (b : Int) HX.out.2.2.1
          rw [wmake_ok HX.out.1] at hz
          rcases List.mem_append.1 hx with hx | hx
          · exact hz x (List.mem_append.2 (.inl hx))
          · rcases List.mem_append.1 hx with hx | hx
            · exact HM.out.2.2.1 x hx
            · exact hz x (List.mem_append.2 (.inr hx))
        have qn0 : (0 : Int) ≤ (qn : Int) := by omega
        have qn1 : (qn : Int) ≤ 1000 := by omega
        have ln0 : (0 : Int) ≤ (ln : Int) := by omega
        have lnn : (ln : Int) ≤ (n : Int) := by omega
        have lnc : (ln : Int) ≤ (c : Int) := by omega
        have f40 : (0 : Int) ≤ (f4 : Int) := by omega
        have f41 : (f4 : Int) ≤ 2100 := by omega
        have t41 : (t4 : Int) ≤ 3100 := by omega
        have HPR := Lib.hid (And.intro hpar (And.intro hcut (And.intro hall (And.intro hallb (And.intro hf4 ht4)))))
        clear hpar hcut hall hallb hqn hln hf4 ht4 hnl lnle qnle qnpos lnpos
        have HLL := Lib.hid (And.intro lwd (And.intro lwh lzn))
        clear hp1 hp2 hzp lwd lwh lzn
        have hcs : ¬ (k : Int) < (nn : Int) ∨ ((k : Int) < (nn : Int) ∧ ¬ (k : Int) < (cn : Int)) ∨ ((k : Int) < (nn : Int) ∧ (k : Int) < (cn : Int) ∧ ¬ (k : Int) < 5) := by omega
        clear hgo
        rcases hcs with k3 | ⟨k3, k4⟩ | ⟨k3, k4, k5⟩
        all_goals
          go_wp2_with fail
          go_region_held3 (fun _ => True) (trivial)
            (first
              | (refine step_new _ w3 (by rfl) _ _ 22 (by rfl) 5 i0 .u8 1 Try.underlying22 hi hz0 hz1 hz2 (.slice none 0 0) [] (by rfl) N0.out A2 36 c2 (whead ch b xs.length) (by rfl) (R1.out _ N0.out.2.2) (by unfold maxLen; simp) (by simp) ?_; intro p1 V1 N1 F1 G1)
              | (refine step_new _ w3 (by rfl) _ _ 22 (by rfl) 5 i0 .u8 1 Try.underlying22 hi hz0 hz1 hz2 p1 ([] ++ whead ch b xs.length) (by rfl) N1 Am lm cm wm (by rfl) (HM.out.2.2.2.kept ((Kept.refl (fun _ => False) wr).drew.trans (G1.mono (T := fun _ => False) fun _ _ e => by cases e) fun _ _ e => e) (fun _ _ _ _ => id)) (by unfold maxLen; rw [List.nil_append, HLL.out.2.1]; omega) (by rw [List.nil_append, HLL.out.2.1]; omega) ?_; intro p2 V2 N2 F2 G2)
              | (refine step_new _ w3 (by rfl) _ _ 22 (by rfl) 5 i0 .u8 1 Try.underlying22 hi hz0 hz1 hz2 p2 (([] ++ whead ch b xs.length) ++ wm) (by rfl) N2 (cutAt A2 36 c2) (lz - 36) (c2 - 36) (wdata xs.length ++ xs) (by rfl) (R2.out _ F2) (by unfold maxLen; rw [List.length_append, List.nil_append, HLL.out.2.1, HLM.out, HLL.out.2.2]; omega) (by rw [List.length_append, List.nil_append, HLL.out.2.1, HLM.out, HLL.out.2.2]; omega) ?_; intro p3 V3 N3 F3 G3))
          have hlist : ([] ++ whead ch b xs.length ++ wm) ++ (wdata xs.length ++ xs) = whead ch b xs.length ++ (wm ++ (wdata xs.length ++ xs)) := by rw [List.nil_append, List.append_assoc]
          rw [hlist] at N3
          obtain ⟨A3, c3, rfl, r3, _⟩ := N3.1.row
          have cap3' := N3.1.cap
          rw [HPR.out.2.2.1] at r3 cap3' ⊢
          have HP := HX.out.2.2.2.1.parse A3 (f4 + xs.length) c3 _ V3 r3 HPR.out.2.2.2.1 (by omega) cap3'
          rw [HPR.out.1] at HP
          simp only [wval, Option.isSome_some] at HP
          have HP' := Lib.hid HP
          have H9 := Lib.hid (And.intro r3 (And.intro cap3' F3))
          clear N1 N2 N3 F1 F2 F3 G1 G2 G3 HP r3 cap3' hlist
          obtain ⟨l3, hl3⟩ : ∃ l3, f4 + xs.length = l3 := ⟨_, rfl⟩
          rw [hl3] at HP' H9 ⊢
          have hl3' := hl3
          have HL3 := Lib.hid hl3
          clear hl3
          go_wp2_with fail
          refine HP'.out.mono ?_
          rintro e w5 ⟨rfl, hf5⟩
          have H10 := Lib.hid (And.intro (H9.out.1.kept hf5 (fun _ _ _ _ => id)) (H9.out.2.2.trans hf5 fun _ _ e => e))
          clear hf5 HP'
          obtain ⟨T, hT⟩ : ∃ T, T = w5.heap.size := ⟨_, rfl⟩
          obtain ⟨W6, hW6⟩ : ∃ W6, W6 = w5.alloc (.cells #[.int .i64 ch, .int .i64 b, .int .i64 f4, .int .i64 t4] 26) := ⟨_, rfl⟩
          have f6 : Fresh w5 W6 := by rw [hW6]; exact (Kept.refl _ _).alloc _
          have b6 : Blk W6 T 26 #[.int .i64 ch, .int .i64 b, .int .i64 f4, .int .i64 t4] := by rw [hW6, hT]; exact Blk.new _ _ _
          have b1 : Blk W6 w.heap.size 26 #[.int .i64 ch, .int .i64 b, .int .i64 0, .int .i64 0] := (H3.out.2.2.kept H10.out.2 id).kept f6 id
          have hl3n : t4 ≤ l3 ∧ ln ≤ n := by have := HPR.out.2.2.2.2.2; have := HL3.out; have := HX.out.2.2.2.2.1; omega
          have hfl : f4 + ln ≤ l3 := by have := HPR.out.2.2.2.2.2; omega
          have rA : Row W6 .u8 (cutAt A3 f4 c3) ln (xs.take ln) := by
            have := (H10.out.1.kept f6 (fun _ _ _ _ => id)).cut (l := f4) (m := ln) (c := c3) hfl H9.out.2.1
            rwa [HPR.out.2.1] at this
          have rB : Row W6 .u8 A ln (xs.take ln) := ((HX.out.2.1.kept ((H3.out.2.1.trans H10.out.2 fun _ _ e => e)) (fun _ _ _ _ => id)).kept f6 (fun _ _ _ _ => id)).take hl3n.2
          have hbt : ∀ x ∈ xs.take ln, 0 ≤ x ∧ x < 256 := fun x hx => HX.out.2.2.1 x (List.mem_of_mem_take hx)
          have HBy : Hid (∀ V, Fresh W6 V → Calls Try.prog 13 #[.slice (cutAt A3 f4 c3) ln (c3 - f4), .slice A ln c] V fun e w' => e = .returned (.bool true) ∧ w' = V) := Lib.hid fun V hV => by
            have := hBytes_any (cutAt A3 f4 c3) A ln ln (c3 - f4) c (xs.take ln) (xs.take ln) V (rA.kept hV (fun _ _ _ _ => id)) (rB.kept hV (fun _ _ _ _ => id)) hbt hbt
            rw [decide_eq_true rfl] at this
            exact this.mono fun _ _ h => ⟨h.1, h.2.symm⟩
          have hsl3 : ∀ V, (Instr.slice 22 (.slice A3 l3 c3) (some (.int .i64 (f4 : Int))) (some (.int .i64 (t4 : Int))) none).run Try.prog V = .ok (.slice (cutAt A3 f4 c3) ln (c3 - f4)) V := fun V => by
            have := run_slice_part 22 5 Try.underlying22 (fun w => by simp [sizeOf, typeInfo, hi, hz1]) A3 l3 c3 f4 t4 (t4 : Int) rfl (by have := HPR.out.2.2.2.2.2; omega) (by have := H9.out.2.1; omega) V
            rw [this, show t4 - f4 = ln from by have := HPR.out.2.2.2.2.2; omega]
          have hsl4 : ∀ V, (Instr.slice 22 (.slice A n c) none (some (.int .i64 (ln : Int))) none).run Try.prog V = .ok (.slice A ln c) V := fun V =>
            run_slice_to _ _ Try.underlying22 (fun w => by simp [sizeOf, typeInfo, hi, hz1]) A n c ln _ rfl (by omega) V
          have H12 := Lib.hid (((H3.out.2.1.trans H10.out.2 fun _ _ e => e).trans f6 fun _ _ e => e))
          have m0 := b1.cell 0
          have m1 := b1.cell 1
          have m2 := b1.cell 2
          have m3 := b1.cell 3
          have y0 := b6.cell 0
          have y1 := b6.cell 1
          have y2 := b6.cell 2
          have y3 := b6.cell 3
          simp only [List.getElem?_toArray, List.getElem?_cons_zero, List.getElem?_cons_succ] at m0 m1 m2 m3 y0 y1 y2 y3
          have g2 : (fr = 0) = False := by simp only [eq_iff_iff, iff_false]; omega
          have HW6 := Lib.hid hW6
          have HT := Lib.hid hT
          clear hW6 hT f6 b6 b1 rA rB hbt hl3n hfl hl3'
          go_wp2_with fail
          rw [← HW6.out, ← HT.out]
          have ew1 : IntKind.i64.wrap (f4 : Int) = (f4 : Int) := IntWalk.i64_in _ (by omega)
          have ew2 : IntKind.i64.wrap (t4 : Int) = (t4 : Int) := IntWalk.i64_in _ (by omega)
          go_quiet ((go_at_call 13; exact Calls.quiet_of_same (HBy.out _ ((Kept.refl _ _).drewN _))))
          have H13 := Lib.hid (H12.out.drewN nq).toBelow
          go_wp2_with fail
          go_ret
          exact ⟨rfl, H13.out⟩

set_option maxRecDepth 100000 in
theorem lifted (os : Os) (started : os.Started) (H : Type) (enc : TypeId × Value → H) :
    ReturnsInHanded {} Try.checked os 7 .any (Rows.wavChunksSpec.pre6 enc Try.prog Try.f7 Rows.wavChunksRow.domain false) (Rows.wavChunksSpec.post enc Try.prog Try.f7 false true false false) := by
  refine returnsInHanded_of_change (C := Try.checked) Try.own started (by kernel_rfl) Try.func7
    (ChangeSpec.witness6 (enc := enc) (C := Try.checked) false ⟨#[], #[.int .i64 0, .int .i64 0, .slice none 0 0, .slice none 0 0, .slice none 0 0], []⟩ 8 (by kernel_rfl) (by kernel_rfl) (by kernel_rfl) (by kernel_rfl)) ?_
  intro W base args ds gs before hval0 hW hcnd _
  have hval : ∀ (j : Nat) t v, Try.f7.params[j]? = some t → args[j]? = some v → Value.okWide Try.prog W .any base t v := hval0
  have hpost : ∀ W', Below W.heap.size W W' → Rows.wavChunksSpec.post enc Try.prog Try.f7 false true false false W args (.bool true) W' := fun W' hb =>
    law_post (by kernel_rfl) Try.underlying4 (by kernel_rfl) rfl (fun ds hl => match ds, hl with | [d1, d2, d3, d4, d5], _ => ⟨rfl, rfl, rfl⟩) hW hb
  obtain ⟨p, q, hA0, hV, rfl, hfz, hnd⟩ := hW
  have hA : DataW.TrodAll enc Try.prog W 0 (fun _ => true) true Try.f7.params.toList args.toList ds p := hA0
  rw [Try.params7] at hA hval
  obtain ⟨v0, vs0, d0, ds0, p0, q0, hargs, rfl, rfl, h0, r0⟩ := trodAll_cons hA
  obtain ⟨v1, vs1, d1, ds1, p1, q1, rfl, rfl, rfl, h1, r1⟩ := trodAll_cons r0
  obtain ⟨v2, vs2, d2, ds2, p2, q2, rfl, rfl, rfl, h2, r2⟩ := trodAll_cons r1
  obtain ⟨v3, vs3, d3, ds3, p3, q3, rfl, rfl, rfl, h3, r3⟩ := trodAll_cons r2
  obtain ⟨v4, vs4, d4, ds4, p4, q4, rfl, rfl, rfl, h4, r4⟩ := trodAll_cons r3
  obtain ⟨rfl, rfl, rfl⟩ := trodAll_nil r4
  obtain rfl : args = #[v0, v1, v2, v3, v4] := by cases args; simp_all
  obtain ⟨a0, rfl, rfl, rfl, w0⟩ := open_int Try.underlying3 (hval 0 3 v0 rfl rfl) h0
  obtain ⟨a1, rfl, rfl, rfl, w1⟩ := open_int Try.underlying3 (hval 1 3 v1 rfl rfl) h1
  obtain ⟨A2, n2, c2, xs2, rfl, hz2, hr2, hb2, hn2, hc2⟩ := open_rowc Try.underlying22 Try.underlying5 (by kernel_rfl) (hval 2 22 v2 rfl rfl) h2
  obtain ⟨A3, n3, c3, xs3, rfl, hz3, hn3, hc3, hl3⟩ := open_names Try.underlying37 Try.underlying9 (by kernel_rfl) (hval 3 37 v3 rfl rfl) h3
  obtain ⟨A4, n4, c4, xs4, rfl, hz4, hn4, hc4, hl4⟩ := open_conts (k := .u8) Try.underlying38 Try.underlying22 Try.underlying5 (by kernel_rfl) (by kernel_rfl) (hval 4 38 v4 rfl rfl) h4
  refine (walk wavOK a0 a1 A2 n2 c2 xs2 A3 n3 c3 xs3 A4 n4 c4 xs4 W hz2 hr2 (range_bytes hb2) hn2 hc2 hl3 hn3 hl4 hn4).mono fun e W' ⟨he, hb⟩ => ⟨_, he, hpost W' hb⟩

/-- The statement. -/
theorem proved : Rows.WavChunksSaid :=
  OpenClaim.holds_of_wide 7 Try.f7 rfl rfl rfl rfl rfl rfl rfl ⟨rfl, rfl, rfl, rfl, rfl⟩ rfl rfl rfl rfl rfl (by kernel_rfl) Try.func7 (by kernel_rfl)
    (of_decide_eq_true (by kernel_rfl)) (by unfold Func.isWrapper; first | (rw [if_pos (by decide +kernel)]; kernel_rfl) | (rw [if_neg (by decide +kernel)]; exact ⟨rfl, rfl⟩))
    (fun os started H enc _ => lifted os started H enc)
#print axioms proved

end Go.Proofs.Ytjpfmnfojcaedaa.wavChunks
