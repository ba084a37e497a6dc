/- AudioSmall: a made file of 2,048 bytes at least, of which the samples of each channel are the same, is packed to a quarter at most. -/
import Derived.Test.YtodmchjdflpbpaaPart7
import Derived.Test.YtodmchjdflpbpaaHelpCopy
import Derived.Test.YtodmchjdflpbpaaArrArg
import Derived.Test.YtodmchjdflpbpaaArgs
namespace Go.Proofs.Ytodmchjdflpbpaa.audioSmall
open Go.ChangeShapes Go.WideShapes Go.ChangeAt Go.RowKit

attribute [local go_sem ↓] Go.wp_at_zero Go.wp_at_succ

variable {ap : List Int → List Int} {au : List Int → Int → Int × List Int}
theorem two {a b c : World} (h : Fresh a b) (k : Fresh b c) : Fresh a c := h.trans k fun _ _ e => e
/-- The bytes of a frame's first k samples. -/
def sb (b : Nat) (v : Int) : List Int := if b = 16 then [v % 256, v / 256 % 256] else [v % 256]
def prt (b : Nat) (T : List Int) : Nat → List Int
  | 0 => []
  | k + 1 => prt b T k ++ sb b (T.getD k 0)
theorem sb_length {b : Nat} (v : Int) (h : b = 8 ∨ b = 16) : (sb b v).length = b / 8 := by
  unfold sb
  rcases h with rfl | rfl <;> rfl
theorem prt_length {b : Nat} (T : List Int) (h : b = 8 ∨ b = 16) : ∀ k, (prt b T k).length = k * (b / 8)
  | 0 => by simp [prt]
  | k + 1 => by rw [prt, List.length_append, prt_length T h k, sb_length _ h, Nat.succ_mul]
theorem sb_byte (b : Nat) (v : Int) : ∀ x ∈ sb b v, 0 ≤ x ∧ x < 256 := fun x hx => by
  unfold sb at hx
  split at hx
  · simp only [List.mem_cons, List.not_mem_nil, or_false] at hx
    omega
  · simp only [List.mem_singleton] at hx
    omega
theorem prt_byte (b : Nat) (T : List Int) : ∀ k, ∀ x ∈ prt b T k, 0 ≤ x ∧ x < 256
  | 0 => fun x hx => by cases hx
  | k + 1 => fun x hx => by
    rw [prt, List.mem_append] at hx
    exact hx.elim (prt_byte b T k x) (sb_byte b _ x)
/-- m frames. -/
def fms (f : List Int) : Nat → List Int
  | 0 => []
  | m + 1 => fms f m ++ f
theorem fms_length (f : List Int) : ∀ m, (fms f m).length = m * f.length
  | 0 => by simp [fms]
  | m + 1 => by rw [fms, List.length_append, fms_length f m, Nat.succ_mul]
theorem fms_flat (f : List Int) : ∀ m, fms f m = (List.replicate m f).flatten
  | 0 => rfl
  | m + 1 => by rw [fms, fms_flat f m, List.replicate_succ', List.flatten_append]; simp
theorem fms_byte {f : List Int} (hf : ∀ x ∈ f, 0 ≤ x ∧ x < 256) : ∀ m, ∀ x ∈ fms f m, 0 ≤ x ∧ x < 256
  | 0 => fun x hx => by cases hx
  | m + 1 => fun x hx => by
    rw [fms, List.mem_append] at hx
    exact hx.elim (fms_byte hf m x) (hf x)

set_option maxRecDepth 100000 in
set_option maxHeartbeats 6400000 in
theorem walk (ok : AudioOK ap au) (ci bi : Int) (T : List Int) (hT : T.length = 8) (h16 : ∀ x ∈ T, -32768 ≤ x ∧ x < 32768) (ni : Int) (w : World) :
    Calls Try.prog 3 #[.int .i64 ci, .int .i64 bi, .agg (ivs .i16 T).toArray, .int .i64 ni] w fun e w' => e = .returned (.bool true) ∧ Below w.heap.size w w' := by
  obtain ⟨i0, hi, hz0, hz1, hz2⟩ := info_parts Try.infoByteP
  obtain ⟨r8, hr8, e8⟩ := u64_mod ci 8 (by omega)
  obtain ⟨r2, hr2, e2⟩ := u64_mod bi 2 (by omega)
  obtain ⟨rn, hrn, en⟩ := u64_mod ni 1000 (by omega)
  obtain ⟨ch, hch⟩ : ∃ ch, ch = 1 + r8 := ⟨_, rfl⟩
  obtain ⟨b, hbi⟩ : ∃ b, b = 8 + 8 * r2 := ⟨_, rfl⟩
  have hwok : wok ch b := by unfold wok; omega
  have hb8 : b = 8 ∨ b = 16 := by omega
  have t1 : 1 + (r8 : Int) = (ch : Int) := by omega
  have t2 : 8 + 8 * (r2 : Int) = (b : Int) := by omega
  have r80 : (0 : Int) ≤ (r8 : Int) := by omega
  have r20 : (0 : Int) ≤ (r2 : Int) := by omega
  have rn0 : (0 : Int) ≤ (rn : Int) := by omega
  have ch8 : ch ≤ 8 ∧ 1 ≤ ch := by omega
  have HO := Lib.hid ok
  have HT := Lib.hid (And.intro hT h16)
  have HW := Lib.hid hwok
  clear ok hT h16 hwok hch hbi
  go_enter Try.func3, Try.ntmps3
  go_wp2_with fail
  obtain ⟨W1, hW1⟩ : ∃ W1, W1 = (w.alloc (.cells (ivs .i16 T).toArray 23)).alloc (.cells #[.int .i64 ch, .int .i64 b, .int .i64 0, .int .i64 0] 26) := ⟨_, rfl⟩
  rw [← hW1]
  have hB1 : Blk W1 w.heap.size 23 (ivs .i16 T).toArray := by rw [hW1]; exact (Blk.new _ _ _).alloc _
  have hB2 : Blk W1 (w.heap.size + 1) 26 #[.int .i64 ch, .int .i64 b, .int .i64 0, .int .i64 0] := by
    have := Blk.new (w.alloc (.cells (ivs .i16 T).toArray 23)) 26 #[.int .i64 ch, .int .i64 b, .int .i64 0, .int .i64 0]
    rw [World.size_alloc] at this
    rw [hW1]
    exact this
  have HF0 : Hid (Fresh w W1) := Lib.hid (by rw [hW1]; exact ((Kept.refl _ _).alloc _).alloc _)
  have HC : Hid (∀ V, Fresh W1 V → V.cell? ⟨w.heap.size + 1, 0, none⟩ = some (.int .i64 ch) ∧ V.cell? ⟨w.heap.size + 1, 1, none⟩ = some (.int .i64 b) ∧ V.cell? ⟨w.heap.size + 1, 2, none⟩ = some (.int .i64 0) ∧ V.cell? ⟨w.heap.size + 1, 3, none⟩ = some (.int .i64 0) ∧ ∀ k, k < 8 → V.cell? ⟨w.heap.size, k, none⟩ = some (.int .i16 (T.getD k 0))) := Lib.hid fun V hV => by
    have h2 := hB2.kept hV id
    have h1 := hB1.kept hV id
    refine ⟨by simpa using h2.cell 0, by simpa using h2.cell 1, by simpa using h2.cell 2, by simpa using h2.cell 3, fun k hk => ?_⟩
    rw [h1.cell k, List.getElem?_toArray, ivs_get (by rw [HT.out.1]; exact hk)]
  have HFl : Hid ((prt b T ch).length = ch * (b / 8)) := Lib.hid (prt_length T hb8 ch)
  have hfl : 1 ≤ (prt b T ch).length ∧ (prt b T ch).length ≤ 16 := by
    rw [HFl.out]
    rcases hb8 with rfl | rfl <;> omega
  have HFb := Lib.hid (prt_byte b T ch)
  clear hB1 hB2 hW1
  generalize hh : w.heap.size = h at *
  have Hh := Lib.hid hh
  clear hh
  go_loopw [11, 10] (fun i u wr => ∃ m : Nat, i = .int .i64 m ∧ (m = 0 ∨ m * (prt b T ch).length < 2048 + rn + (prt b T ch).length) ∧ NewRow W1 wr 5 .u8 u (fms (prt b T ch) m)) (fun i _ _ => (5000 - intOf i).toNat)
  case atStart => exact ⟨0, rfl, .inl rfl, Own.nil _ _ _, fun g e => (by cases e), Kept.refl _ _⟩
  case round =>
    obtain ⟨m, rfl, hm, hu⟩ := hrel
    have hmm : m * 1 ≤ m * (prt b T ch).length := Nat.mul_le_mul_left _ hfl.1
    have hm4 : m ≤ 3200 ∧ m * (prt b T ch).length ≤ 3200 := by
      rcases hm with rfl | hm
      · omega
      · omega
    obtain ⟨A0, c0, rfl, hr0, _⟩ := hu.1.row
    have hlen := fms_length (prt b T ch) m
    have H3 := Lib.hid hu
    have HR3 := Lib.hid hr0
    have hcap := hu.1.cap
    clear hu hr0
    generalize hl : (fms (prt b T ch) m).length = l at *
    have Hl := Lib.hid (And.intro hl hlen)
    have hl4 : l ≤ 3200 := by omega
    have hm32 : m ≤ 3200 := hm4.1
    clear hl hlen hmm hm4
    by_cases hlt : l < 2048 + rn
    · have il : (l : Int) < 2048 + (rn : Int) := by omega
      go_wp2_with fail
      go_loopw [12, 10] (fun i u wr => ∃ k : Nat, k ≤ ch ∧ i = .int .i64 k ∧ NewRow W1 wr 5 .u8 u (fms (prt b T ch) m ++ prt b T k)) (fun i _ _ => (ch - intOf i).toNat)
      case atStart => exact ⟨0, by omega, rfl, by simpa [prt] using H3.out⟩
      case round =>
        obtain ⟨k, hk, rfl, hu⟩ := hrel
        obtain ⟨y0, y1, y2, y3, yk⟩ := HC.out wr hu.2.2
        have H4 := Lib.hid hu
        clear hu H3
        by_cases hkl : k < ch
        · have cT := yk k (by omega)
          have hx := HT.out.2
          have ik : (k : Int) < (ch : Int) := by omega
          have ik8 : (k : Int) < 8 := by omega
          have hxs : (fms (prt b T ch) m ++ prt b T k).length ≤ 4000 := by
            rw [List.length_append, Hl.out.1, prt_length T hb8]
            have := Nat.mul_le_mul (show k ≤ 8 by omega) (show b / 8 ≤ 2 by omega)
            omega
          have Hpr : Hid (prt b T (k + 1) = prt b T k ++ sb b (T.getD k 0)) := Lib.hid rfl
          have hv : -32768 ≤ T.getD k 0 ∧ T.getD k 0 < 32768 := by
            have hk8 : k < T.length := by rw [HT.out.1]; omega
            have := hx (T[k]) (List.getElem_mem hk8)
            simpa [List.getD, hk8] using this
          have HCx : ∀ V, Fresh W1 V → V.cell? ⟨h, k, none⟩ = some (.int .i16 (T.getD k 0)) := fun V hV => (HC.out V hV).2.2.2.2 k (by omega)
          generalize T.getD k 0 = x at *
          have HCx := Lib.hid HCx
          clear hx yk
          generalize hxe : fms (prt b T ch) m ++ prt b T k = xs at *
          have HXe := Lib.hid hxe
          clear hxe
          rcases hb8 with hbe | hbe
          · have hb16 : ((b : Int) == 16) = false := by rw [beq_eq_false_iff_ne]; omega
            have Hs : Hid (sb b x = [x % 256]) := Lib.hid (by rw [hbe]; rfl)
            clear hbe
            go_wp2_with (at_builtin; refine wpList_new _ W1 rfl _ _ 27 rfl 5 i0 .u8 1 Try.underlying27 hi hz0 hz1 hz2 u10 xs rfl (H4.out.fresh ((Kept.refl _ _).alloc (.cells #[.int .u8 (x % 256)] 5))) (some ⟨wr.heap.size, 0, none⟩) 1 1 [x % 256] rfl (Row.one wr _ _ _) (by unfold maxLen; omega) (by omega) ?_)
            intro v3 w3 hn3
            rw [← HXe.out, List.append_assoc, ← Hs.out, ← Hpr.out] at hn3
            have z1 := (HC.out w3 hn3.2.2).2.1
            have H5 := Lib.hid hn3
            clear hn3 H4 cT y0 y1 y2 y3
            go_wp2_with fail
            go_roundw
            case rel => exact ⟨k + 1, by omega, by go_num, H5.out⟩
            case measure => simp [intOf]; omega
          · have hb16 : ((b : Int) == 16) = true := by rw [beq_iff_eq]; omega
            have Hs : Hid (sb b x = [x % 256, x / 256 % 256]) := Lib.hid (by rw [hbe]; rfl)
            clear hbe
            have HCk : Hid (∀ V, Fresh W1 V → V.cell? ⟨h, k, none⟩ = some (.int .i16 x)) := Lib.hid fun V hV => HCx.out V hV
            go_wp2_with (first
              | (at_builtin; refine wpList_new _ W1 rfl _ _ 27 rfl 5 i0 .u8 1 Try.underlying27 hi hz0 hz1 hz2 u10 xs rfl (H4.out.fresh ((Kept.refl _ _).alloc (.cells #[.int .u8 (x % 256)] 5))) (some ⟨wr.heap.size, 0, none⟩) 1 1 [x % 256] rfl (Row.one wr _ _ _) (by unfold maxLen; omega) (by omega) ?_
                 intro v3 w3 hn3
                 have z1 := (HC.out w3 hn3.2.2).2.1
                 have zk := HCk.out w3 hn3.2.2
                 have H5 := Lib.hid hn3
                 clear hn3 H4)
              | (at_builtin; refine wpList_new _ W1 rfl _ _ 27 rfl 5 i0 .u8 1 Try.underlying27 hi hz0 hz1 hz2 v3 (xs ++ [x % 256]) rfl (H5.out.fresh ((Kept.refl _ _).alloc (.cells #[.int .u8 (x / 256 % 256)] 5))) (some ⟨w3.heap.size, 0, none⟩) 1 1 [x / 256 % 256] rfl (Row.one w3 _ _ _) (by rw [List.length_append]; unfold maxLen; simp; omega) (by rw [List.length_append]; simp; omega) ?_
                 intro v4 w4 hn4))
            rw [List.append_assoc, ← HXe.out, List.append_assoc, show [x % 256] ++ [x / 256 % 256] = sb b x from Hs.out.symm, ← Hpr.out] at hn4
            have H6 := Lib.hid hn4
            clear hn4 H5 cT y0 y1 y2 y3
            go_wp2_with fail
            go_roundw
            case rel => exact ⟨k + 1, by omega, by go_num, H6.out⟩
            case measure => simp [intOf]; omega
        · obtain rfl : k = ch := by omega
          have H5 : Hid (NewRow W1 wr 5 .u8 u10 (fms (prt b T k) (m + 1))) := Lib.hid H4.out
          have hm5 : (m + 1) * (prt b T k).length < 2048 + rn + (prt b T k).length := by
            rw [Nat.add_mul, Nat.one_mul, ← Hl.out.2]
            omega
          have Hm5 := Lib.hid hm5
          clear H4 hm5
          go_wp2_with fail
          go_roundw
          case rel => exact ⟨m + 1, by go_num, .inr Hm5.out, H5.out⟩
          case measure => simp [intOf]; omega
    · have il : ¬ (l : Int) < 2048 + (rn : Int) := by omega
      obtain ⟨y0, y1, y2, y3, _⟩ := HC.out wr H3.out.2.2
      have hbytes := fms_byte HFb.out m
      have hfit : (wparse (wmake ch b (fms (prt b T ch) m))).isSome = true := by
        have hw := wback HW.out (fms (prt b T ch) m) [] (by rw [Hl.out.1]; omega)
        rw [List.append_nil] at hw
        rw [hw, if_neg ?_]
        · rfl
        · rw [Hl.out.1]
          have hd : 1 ≤ ch * b / 8 ∧ ch * b / 8 ≤ 16 := by
            rcases hb8 with rfl | rfl <;> omega
          have h1 : 1 ≤ l / (ch * b / 8) := (Nat.le_div_iff_mul_le (by omega)).2 (by omega)
          have := Nat.mul_le_mul h1 hd.1
          omega
      have hin : AuIn (wmake ch b (fms (prt b T ch) m)) := AuIn.made HW.out hbytes (by rw [Hl.out.1]; omega) hfit
      have hsm := HO.out.small ch b m (prt b T ch) HW.out HFl.out HFb.out (by rw [← Hl.out.2]; omega) (by rw [← Hl.out.2]; omega)
      rw [← fms_flat] at hsm
      have HMk := Lib.hid (qWMake_any (ch : Int) (b : Int) 0 0 A0 l c0 (fms (prt b T ch) m) wr HR3.out (by omega))
      have hzl := wmake_length HW.out (fms (prt b T ch) m)
      rw [Hl.out.1] at hzl
      obtain ⟨z, hz⟩ : ∃ z, wmake ch b (fms (prt b T ch) m) = z := ⟨_, rfl⟩
      rw [hz] at hsm HMk hin hzl
      have HI := Lib.hid hin
      have HF3 := Lib.hid (HF0.out.trans H3.out.2.2 fun _ _ e => e)
      have hlx := (HO.out.len z hin).2
      have hzl4 : z.length ≤ 4000 := by omega
      have HS := Lib.hid hsm
      clear hbytes hfit hin hz H3 HR3 hzl hsm
      go_wp2_with fail
      refine HMk.out.mono ?_
      rintro e w2 ⟨u2, rfl, hu2, _, hf2⟩
      have hcap2 := hu2
      obtain ⟨A2, c2, rfl, hr2, _⟩ := hu2.row
      have HP := Lib.hid (HO.out.pack A2 _ c2 z w2 hr2 HI.out.1 HI.out.2.1 hcap2.cap HI.out.2.2)
      have HF2 := Lib.hid (HF3.out.trans hf2 fun _ _ e => e)
      clear hu2 hr2 hf2 hcap2 HMk HF3
      generalize z.length = zl at *
      go_wp2_with fail
      refine HP.out.mono ?_
      rintro e w3 ⟨u3, rfl, hu3, _, hf3⟩
      obtain ⟨A3, c3, rfl, _, _⟩ := hu3.row
      have HF4 := Lib.hid (HF2.out.trans hf3 fun _ _ e => e)
      have HA := Lib.hid (awakeA_any HO.out w3)
      clear hu3 hf3 HP HF2
      generalize (ap z).length = lx at *
      have i4 : 4 * (lx : Int) ≤ (zl : Int) := by have := HS.out; omega
      clear HS
      go_wp2_with fail
      refine HA.out.mono ?_
      rintro e w4 ⟨rfl, hf4⟩
      have HL := Lib.hid (HF4.out.trans hf4 fun _ _ e => e).toBelow
      clear hf4 HA HF4
      go_wp2_with fail
      go_ret
      rw [Hh.out.symm]
      exact ⟨rfl, HL.out⟩

set_option maxRecDepth 100000 in
theorem lifted (os : Os) (started : os.Started) (H : Type) (enc : TypeId × Value → H) :
    ReturnsInHanded {} Try.checked os 3 .any (Rows.audioSmallSpec.pre6 enc Try.prog Try.f3 Rows.audioSmallRow.domain false) (Rows.audioSmallSpec.post enc Try.prog Try.f3 false true false false) := by
  refine returnsInHanded_of_change (C := Try.checked) Try.own started (by kernel_rfl) Try.func3
    (ChangeSpec.witness6 (enc := enc) (C := Try.checked) false ⟨#[], #[.int .i64 0, .int .i64 0, .agg (Array.replicate 8 (.int .i16 0)), .int .i64 0], []⟩ 8 (by kernel_rfl) (by kernel_rfl) (by kernel_rfl) (by kernel_rfl)) ?_
  intro W base args ds gs before hval0 hW hcnd _
  have hval : ∀ (j : Nat) t v, Try.f3.params[j]? = some t → args[j]? = some v → Value.okWide Try.prog W .any base t v := hval0
  have hpost : ∀ W', Below W.heap.size W W' → Rows.audioSmallSpec.post enc Try.prog Try.f3 false true false false W args (.bool true) W' := fun W' hb =>
    law_post (by kernel_rfl) Try.underlying4 (by kernel_rfl) rfl (fun ds hl => match ds, hl with | [d1, d2, d3, d4], _ => ⟨rfl, rfl, rfl⟩) hW hb
  obtain ⟨p, q, hA0, hV, rfl, hfz, hnd⟩ := hW
  have hA : DataW.TrodAll enc Try.prog W 0 (fun _ => true) true Try.f3.params.toList args.toList ds p := hA0
  rw [Try.params3] at hA hval
  obtain ⟨v0, vs0, d0, ds0, p0, q0, hargs, rfl, rfl, h0, r0⟩ := trodAll_cons hA
  obtain ⟨v1, vs1, d1, ds1, p1, q1, rfl, rfl, rfl, h1, r1⟩ := trodAll_cons r0
  obtain ⟨v2, vs2, d2, ds2, p2, q2, rfl, rfl, rfl, h2, r2⟩ := trodAll_cons r1
  obtain ⟨v3, vs3, d3, ds3, p3, q3, rfl, rfl, rfl, h3, r3⟩ := trodAll_cons r2
  obtain ⟨rfl, rfl, rfl⟩ := trodAll_nil r3
  obtain rfl : args = #[v0, v1, v2, v3] := by cases args; simp_all
  obtain ⟨a0, rfl, rfl, rfl, w0⟩ := open_int Try.underlying3 (hval 0 3 v0 rfl rfl) h0
  obtain ⟨a1, rfl, rfl, rfl, w1⟩ := open_int Try.underlying3 (hval 1 3 v1 rfl rfl) h1
  obtain ⟨T2, rfl, hT2, hw2⟩ := open_nums (n := 8) Try.underlying23 Try.underlying22 (by kernel_rfl) (by kernel_rfl) (hval 2 23 v2 rfl rfl) h2
  obtain ⟨a3, rfl, rfl, rfl, w3⟩ := open_int Try.underlying3 (hval 3 3 v3 rfl rfl) h3
  refine (walk audioOK a0 a1 T2 hT2 (fun x hx => by have := bounds_i16 (hw2 x hx); omega) a3 W).mono fun e W' ⟨he, hb⟩ => ⟨_, he, hpost W' hb⟩

/-- The statement. -/
theorem proved : Rows.AudioSmallSaid :=
  OpenClaim.holds_of_wide 3 Try.f3 rfl rfl rfl rfl rfl rfl rfl ⟨rfl, rfl, rfl, rfl, rfl⟩ rfl rfl rfl rfl rfl (by kernel_rfl) Try.func3 (by kernel_rfl)
    (of_decide_eq_true (by kernel_rfl)) (by unfold Func.isWrapper; first | (rw [if_pos (by decide +kernel)]; kernel_rfl) | (rw [if_neg (by decide +kernel)]; exact ⟨rfl, rfl⟩))
    (fun os started H enc _ => lifted os started H enc)
#print axioms proved

end Go.Proofs.Ytodmchjdflpbpaa.audioSmall
