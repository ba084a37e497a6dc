/- The document's Parse and Make of WAV files. -/
import Derived.Test.YtodmchjdflpbpaaGreatNumQ
import Derived.Test.YtodmchjdflpbpaaGreatWavMath
import Derived.Test.YtodmchjdflpbpaaGreatHelpStr
import Derived.Test.YtodmchjdflpbpaaGreatHelpCopy
import Derived.Deep.RegionHeld3
namespace Go.Proofs.YtodmchjdflpbpaaGreat
open Go.RowKit
set_option maxRecDepth 100000

attribute [local go_sem ↓] Go.wp_at_zero Go.wp_at_succ

theorem slc_row {w : World} {A : Option Addr} {n : Nat} {xs : List Int} (h : Row w .u8 A n xs) {p k c : Nat} (hp : p + k ≤ n) (hc : n ≤ c) : Row w .u8 (cutAt A p c) k (slc xs p k) := h.cut hp hc

set_option maxHeartbeats 800000 in
/-- A number at a place. -/
theorem qWlittle_any (A : Option Addr) (n c : Nat) (xs : List Int) (p k : Nat) (w : World) (hr : Row w .u8 A n xs) (hb : ∀ x ∈ xs, 0 ≤ x ∧ x < 256) (hp : p + k ≤ n) (hk : k ≤ 4) (hn : n ≤ 1000000000) (hc : n ≤ c) :
    Calls Tryz.prog 21 #[.slice A n c, .int .i64 p, .int .i64 k] w fun e w' => e = .returned (.int .i64 (leAt xs p k : Nat)) ∧ Fresh w w' := by
  obtain ⟨i0, hi, hz0, hz1, hz2⟩ := info_parts Tryz.infoByteQ
  have hsl : ∀ W, (Instr.slice 22 (.slice A n c) (some (.int .i64 (p : Int))) (some (.int .i64 ((p : Int) + k))) none).run Tryz.prog W = .ok (.slice (cutAt A p c) k (c - p)) W := fun W => by
    have := run_slice_part 22 5 Tryz.underlying22 (fun w => by simp [sizeOf, typeInfo, hi, hz1]) A n c p (p + k) ((p : Int) + k) (by omega) (by omega) (by omega) W
    rw [this, Nat.add_sub_cancel_left]
  have hlt : leAt xs p k < 4294967296 := by
    have h1 := leAt_lt hb (p := p) (k := k) (by have := hr.len; omega)
    have h2 : 256 ^ k ≤ 256 ^ 4 := Nat.pow_le_pow_right (by decide) hk
    omega
  have HN := Lib.hid (qnNew_any (cutAt A p c) k (c - p) (slc xs p k) w (slc_row hr hp hc) (slc_byte p k hb) (by omega))
  have HL : Hid (∀ (V : World) (g : Nat) (B : Option Addr) (d : Nat), QN V g B d (slc xs p k) 0 0 → Calls Tryz.prog 41 #[.pointer (some ⟨g, 0, none⟩), .int .i64 k] V fun e w' => e = .returned (.int .u64 (leAt xs p k : Nat)) ∧ Kept (fun j => j = g) V w') := Lib.hid fun V g B d hq => by
    have h1 := qnLittle_any g B d (slc xs p k) 0 0 k V hq (by omega)
    have hsl2 : (slc xs p k).length = k := slc_length (by have := hr.len; omega)
    have e : qtk (slc xs p k) 0 0 k = (slc xs p k, 0 + k, 0) := by
      unfold qtk
      rw [if_neg (by simp), if_pos (by omega), List.drop_zero, List.take_of_length_le (by omega)]
    rw [e] at h1
    exact h1.mono fun e w' h => ⟨h.1, h.2.2⟩
  have p1 : (p : Int) + (k : Int) ≤ 1000000000 := by omega
  generalize leAt xs p k = v at *
  generalize slc xs p k = s at *
  clear hr hb
  go_enter Tryz.func21, Tryz.ntmps21
  go_wp2_with fail
  refine HN.out.mono ?_
  rintro e w1 ⟨g, B, d, rfl, hq, hg, _, hf⟩
  have HQ := Lib.hid (And.intro hq (And.intro hg hf))
  clear hq hg hf HN
  go_wp2_with fail
  refine (HL.out _ _ _ _ HQ.out.1).mono ?_
  rintro e w2 ⟨rfl, hk2⟩
  have H2 : Hid (Fresh w w2) := Lib.hid (HQ.out.2.2.trans hk2 fun i hi e => by have := HQ.out.2.1; omega)
  clear HQ hk2 HL
  go_wp2_with fail
  go_ret
  exact ⟨rfl, H2.out⟩

theorem wgo_next {bs : List Int} {p : Nat} {s u : WSt} (h8 : p + 8 ≤ bs.length) (hf : wfmt bs p s = u) (hd : ¬ (slc bs p 4 = nData ∧ u.1 = true)) : wgo bs p s = wgo bs (p + 8 + leAt bs (p + 4) 4 + leAt bs (p + 4) 4 % 2) u := by
  conv => lhs; rw [wgo]
  rw [if_pos h8, hf, if_neg hd]
theorem wgo_end {bs : List Int} {p : Nat} {s : WSt} (h8 : p + 8 ≤ bs.length) (hf : wfmt bs p s = s) (hd : slc bs p 4 = nData) (h1 : s.1 = true) : wgo bs p s = wfin bs.length s (p + 8) (leAt bs (p + 4) 4) := by
  conv => lhs; rw [wgo]
  rw [if_pos h8, hf, if_pos ⟨hd, h1⟩]

/-- What Parse tells. -/
def wval : Option (Nat × Nat × Nat × Nat) → Value
  | none => .agg #[.int .i64 0, .int .i64 0, .int .i64 0, .int .i64 0]
  | some r => .agg #[.int .i64 r.1, .int .i64 r.2.1, .int .i64 r.2.2.1, .int .i64 r.2.2.2]

/-- Four bytes, held against a name. -/
theorem str_is {ys zs : List Int} (l : List UInt8) (hy : ∀ c ∈ ys, 0 ≤ c ∧ c < 256) (hz : ∀ c ∈ zs, 0 ≤ c ∧ c < 256) (hl : (strOfNums zs).toList = l) : ((strOfNums ys).toList == l) = decide (ys = zs) := by
  rw [← hl]
  exact str_dec hy hz
theorem is_riff {ys : List Int} (hy : ∀ c ∈ ys, 0 ≤ c ∧ c < 256) : ((strOfNums ys).toList == [82, 73, 70, 70]) = decide (ys = nRIFF) := str_is _ hy (by decide) (by rw [Lib.strOfNums_toList]; decide)
theorem is_wave {ys : List Int} (hy : ∀ c ∈ ys, 0 ≤ c ∧ c < 256) : ((strOfNums ys).toList == [87, 65, 86, 69]) = decide (ys = nWAVE) := str_is _ hy (by decide) (by rw [Lib.strOfNums_toList]; decide)
theorem is_fmt {ys : List Int} (hy : ∀ c ∈ ys, 0 ≤ c ∧ c < 256) : ((strOfNums ys).toList == [102, 109, 116, 32]) = decide (ys = nFmt) := str_is _ hy (by decide) (by rw [Lib.strOfNums_toList]; decide)
theorem is_data {ys : List Int} (hy : ∀ c ∈ ys, 0 ≤ c ∧ c < 256) : ((strOfNums ys).toList == [100, 97, 116, 97]) = decide (ys = nData) := str_is _ hy (by decide) (by rw [Lib.strOfNums_toList]; decide)

set_option maxHeartbeats 6400000 in
/-- Parse: P13.1. -/
theorem qWParse_any (A : Option Addr) (n c : Nat) (xs : List Int) (w : World) (hr : Row w .u8 A n xs) (hb : ∀ x ∈ xs, 0 ≤ x ∧ x < 256) (hn : n ≤ 100000000) (hc : n ≤ c) :
    Calls Tryz.prog 9 #[.slice A n c] w fun e w' => e = .returned (.tuple #[wval (wparse xs), .bool (wparse xs).isSome]) ∧ Fresh w w' := by
  obtain ⟨i0, hi, hz0, hz1, hz2⟩ := info_parts Tryz.infoByteQ
  obtain rfl := hr.len
  have HR := Lib.hid (And.intro hr (And.intro hb hc))
  have l1 : (xs.length : Int) ≤ 100000000 := by omega
  by_cases h12 : xs.length < 12
  · have j0 : (xs.length : Int) < 12 := by omega
    have Hw : Hid (wparse xs = none) := Lib.hid (by unfold wparse; rw [if_pos (.inl h12)])
    clear hr hb
    go_enter Tryz.func9, Tryz.ntmps9
    go_wp2_with fail
    refine bodyPost_ret (v := .tuple #[wval none, .bool false]) (by simp [results, Tryz.f9, go_sem, wval]) rfl ?_
    rw [Hw.out]
    exact ⟨rfl, (Kept.refl _ _).alloc _⟩
  · have j0 : ¬ (xs.length : Int) < 12 := by omega
    obtain ⟨W0, hW0⟩ : ∃ W0, W0 = w.alloc (.cells #[.int .i64 0, .int .i64 0, .int .i64 0, .int .i64 0] 28) := ⟨_, rfl⟩
    have hr0 : Row W0 .u8 A xs.length xs := by rw [hW0]; exact hr.kept ((Kept.refl (fun _ => False) _).alloc _) (fun _ _ _ _ => id)
    have s1 := row_string (hr0.take (m := 4) (by omega)) c
    have s2 := row_string (slc_row hr0 (p := 8) (k := 4) (c := c) (by omega) hc) (c - 8)
    have hsl : ∀ W, (Instr.slice 22 (.slice A xs.length c) (some (.int .i64 8)) (some (.int .i64 12)) none).run Tryz.prog W = .ok (.slice (cutAt A 8 c) 4 (c - 8)) W := fun W =>
      run_slice_part 22 5 Tryz.underlying22 (fun w => by simp [sizeOf, typeInfo, hi, hz1]) A xs.length c 8 12 12 (by omega) (by omega) (by omega) W
    have n4 : (4 : Int) ≤ (c : Int) := by omega
    clear hr hb hr0
    rw [hW0] at s1 s2
    have hb4 : ∀ c ∈ xs.take 4, 0 ≤ c ∧ c < 256 := fun c hc => HR.out.2.1 c (List.mem_of_mem_take hc)
    have e1 := is_riff hb4
    have e2 := is_wave (slc_byte 8 4 HR.out.2.1)
    have hsl0 : slc xs 0 4 = xs.take 4 := rfl
    by_cases a1 : xs.take 4 = nRIFF
    · by_cases a2 : slc xs 8 4 = nWAVE
      · rw [decide_eq_true a1] at e1
        rw [decide_eq_true a2] at e2
        have Hw : Hid (wparse xs = wgo xs 12 (false, 0, 0, 0)) := Lib.hid (by unfold wparse; rw [if_neg (by rw [hsl0, a1, a2]; simp; omega)])
        clear a1 a2 hW0
        go_enter Tryz.func9, Tryz.ntmps9
        obtain ⟨W1, hW1⟩ : ∃ W1, W1 = (w.alloc (.cells #[.int .i64 0, .int .i64 0, .int .i64 0, .int .i64 0] 28)).alloc (.cells #[.int .i64 0, .int .i64 0, .int .i64 0, .int .i64 0] 28) := ⟨_, rfl⟩
        have b0 : Blk W1 w.heap.size 28 #[.int .i64 0, .int .i64 0, .int .i64 0, .int .i64 0] := by rw [hW1]; exact (Blk.new _ _ _).alloc _
        have b1 : Blk W1 (w.heap.size + 1) 28 #[.int .i64 0, .int .i64 0, .int .i64 0, .int .i64 0] := by
          rw [hW1]
          have := Blk.new (w.alloc (.cells #[.int .i64 0, .int .i64 0, .int .i64 0, .int .i64 0] 28)) 28 #[.int .i64 0, .int .i64 0, .int .i64 0, .int .i64 0]
          rw [World.size_alloc] at this
          exact this
        have f1 : Fresh w W1 := by rw [hW1]; exact ((Kept.refl _ _).alloc _).alloc _
        have H1 := Lib.hid (And.intro b0 (And.intro b1 f1))
        clear b0 b1 f1 hb4 hsl0
        go_wp2_with fail
        rw [← hW1]
        clear hW1 s1 s2 e1 e2 hsl
        go_loopw [7, 5, 6] (fun i x y wr => ∃ (p : Nat) (s : WSt), p ≤ 5000000000 ∧ i = .int .i64 p ∧ x = .bool s.1 ∧ y = .int .i64 s.2.1 ∧ wgo xs p s = wgo xs 12 (false, 0, 0, 0) ∧ s.2.2.1 < 65536 ∧ s.2.2.2 < 65536 ∧
          Blk wr w.heap.size 28 #[.int .i64 0, .int .i64 0, .int .i64 0, .int .i64 0] ∧ Blk wr (w.heap.size + 1) 28 #[.int .i64 s.2.2.1, .int .i64 s.2.2.2, .int .i64 0, .int .i64 0] ∧ Fresh w wr) (fun i _ _ _ => xs.length + 8 - (intOf i).toNat)
        case atStart => exact ⟨12, (false, 0, 0, 0), by omega, rfl, rfl, rfl, rfl, by decide, by decide, H1.out.1, H1.out.2.1, H1.out.2.2⟩
        case round =>
          obtain ⟨p, ⟨has, fm, ch, bi⟩, hp, rfl, rfl, rfl, hgo, hch, hbi, hb0, hb1, hfr⟩ := hrel
          simp only [] at hgo hch hbi hb1 ⊢
          by_cases h8 : p + 8 ≤ xs.length
          · have j8 : (p : Int) + 8 ≤ (xs.length : Int) := by omega
            have hrow := HR.out.1.kept hfr (fun _ _ _ _ => id)
            have hslp : ∀ W, (Instr.slice 22 (.slice A xs.length c) (some (.int .i64 (p : Int))) (some (.int .i64 ((p : Int) + 4))) none).run Tryz.prog W = .ok (.slice (cutAt A p c) 4 (c - p)) W := fun W => by
              have := run_slice_part 22 5 Tryz.underlying22 (fun w => by simp [sizeOf, typeInfo, hi, hz1]) A xs.length c p (p + 4) ((p : Int) + 4) (by omega) (by omega) (by omega) W
              rw [this, Nat.add_sub_cancel_left]
            have HS : Hid (∀ V, Fresh wr V → (convert 22 9 (.slice (cutAt A p c) 4 (c - p))).run Tryz.prog V = .ok (.string (strOfNums (slc xs p 4))) V) := Lib.hid fun V hV => row_string (slc_row (hrow.kept hV (fun _ _ _ _ => id)) (p := p) (k := 4) (c := c) (by omega) hc) (c - p)
            have HLt : Hid (∀ (V : World) (qi : Int) (ki : Int) (q k : Nat), Fresh w V → qi = q → ki = k → q + k ≤ xs.length → k ≤ 4 → Calls Tryz.prog 21 #[.slice A xs.length c, .int .i64 qi, .int .i64 ki] V fun e w' => e = .returned (.int .i64 (leAt xs q k : Nat)) ∧ Fresh V w') := Lib.hid fun V qi ki q k hV hqi hki hq hk => by
              subst hqi hki
              exact qWlittle_any A xs.length c xs q k V (HR.out.1.kept hV (fun _ _ _ _ => id)) HR.out.2.1 hq hk (by omega) hc
            have sW : (convert 22 9 (.slice (cutAt A p c) 4 (c - p))).run Tryz.prog wr.drew = .ok (.string (strOfNums (slc xs p 4))) wr.drew := HS.out _ (Kept.refl _ _).drew
            have hsz : leAt xs (p + 4) 4 < 4294967296 := leAt_lt HR.out.2.1 (by omega)
            have HX := Lib.hid (And.intro hgo (And.intro hb0 (And.intro hb1 hfr)))
            have hnm := slc_byte p 4 HR.out.2.1
            have g1 := is_fmt hnm
            have g2 := is_data hnm
            clear hrow hgo hb0 hb1 hfr hnm
            have wq : IntKind.i64.wrap ((p : Int) + 4) = (p : Int) + 4 := IntWalk.i64_in _ (by omega)
            have p4 : (p : Int) + 4 ≤ (c : Int) := by omega
            go_wp2_with fail
            go_region_held3 (fun V => (convert 22 9 (.slice (cutAt A p c) 4 (c - p))).run Tryz.prog V = .ok (.string (strOfNums (slc xs p 4))) V) (first | go_keep | exact sW | exact s5)
              (first
                | (go_at_call 21; refine (HLt.out _ _ _ (p + 4) 4 HX.out.2.2.2.drew (by omega) rfl (by omega) (by omega)).mono ?_; rintro e5 w5 ⟨rfl, hf5⟩; have s5 := HS.out _ ((Kept.refl (fun _ => False) wr).drew.trans hf5 fun _ _ e => e)))
            have H5 := Lib.hid (And.intro (HX.out.2.1.kept ((Kept.refl (fun _ => False) wr).drew.trans hf5 fun _ _ e => e) id) (And.intro (HX.out.2.2.1.kept ((Kept.refl (fun _ => False) wr).drew.trans hf5 fun _ _ e => e) id) (HX.out.2.2.2.drew.trans hf5 fun _ _ e => e)))
            have HG := Lib.hid HX.out.1
            clear hf5 s5 sW HX HS
            obtain ⟨sz, hs⟩ : ∃ sz, leAt xs (p + 4) 4 = sz := ⟨_, rfl⟩
            rw [hs] at hsz ⊢
            have Hs := Lib.hid hs
            clear hs
            by_cases n1 : slc xs p 4 = nFmt
            · rw [decide_eq_true n1] at g1
              rw [decide_eq_false (by rw [n1]; decide)] at g2
              have hnd : ¬ (slc xs p 4 = nData) := by rw [n1]; decide
              by_cases hall : has = false ∧ 16 ≤ sz ∧ p + 8 + 16 ≤ xs.length
              · obtain ⟨rfl, k1, k2⟩ := hall
                have hf : wfmt xs p (false, fm, ch, bi) = (true, leAt xs (p + 8) 2, leAt xs (p + 8 + 2) 2, leAt xs (p + 8 + 14) 2) := by unfold wfmt; rw [if_pos ⟨n1, rfl, by rw [Hs.out]; exact k1, k2⟩]
                have hnx := wgo_next h8 hf (fun h => hnd h.1)
                rw [HG.out, Hs.out] at hnx
                have Hnx := Lib.hid hnx
                have l2 : leAt xs (p + 8 + 2) 2 < 65536 := leAt_lt HR.out.2.1 (by omega)
                have l3 : leAt xs (p + 8 + 14) 2 < 65536 := leAt_lt HR.out.2.1 (by omega)
                have k1' : (16 : Int) ≤ (sz : Int) := by omega
                have k2' : (p : Int) + 8 + 16 ≤ (xs.length : Int) := by omega
                clear hf hnx hnd n1 HG
                go_wp2_with fail
                refine (HLt.out _ _ _ (p + 8) 2 H5.out.2.2 (by omega) rfl (by omega) (by omega)).mono ?_
                rintro e6 w6 ⟨rfl, hf6⟩
                go_wp2_with fail
                refine (HLt.out _ _ _ (p + 8 + 2) 2 (H5.out.2.2.trans hf6 fun _ _ e => e) (by omega) rfl (by omega) (by omega)).mono ?_
                rintro e7 w7 ⟨rfl, hf7⟩
                go_wp2_with fail
                refine (HLt.out _ _ _ (p + 8 + 14) 2 ((H5.out.2.2.trans hf6 fun _ _ e => e).trans hf7 fun _ _ e => e) (by omega) rfl (by omega) (by omega)).mono ?_
                rintro e8 w8 ⟨rfl, hf8⟩
                have hf58 := (hf6.trans hf7 fun _ _ e => e).trans hf8 fun _ _ e => e
                have b1 := H5.out.2.1.kept hf58 id
                have c0 := b1.cell 0
                have c1 := b1.cell 1
                simp only [List.getElem?_toArray, List.getElem?_cons_zero, List.getElem?_cons_succ] at c0 c1
                have z0 := b1.frozen 0
                have z1 := b1.frozen 1
                have H8 := Lib.hid (And.intro (H5.out.1.kept hf58 id) (And.intro b1 (H5.out.2.2.trans hf58 fun _ _ e => e)))
                clear b1 hf6 hf7 hf8 hf58 H5 HLt
                obtain ⟨v1, hv1⟩ : ∃ v, leAt xs (p + 8) 2 = v := ⟨_, rfl⟩
                obtain ⟨v2, hv2⟩ : ∃ v, leAt xs (p + 8 + 2) 2 = v := ⟨_, rfl⟩
                obtain ⟨v3, hv3⟩ : ∃ v, leAt xs (p + 8 + 14) 2 = v := ⟨_, rfl⟩
                rw [hv1, hv2, hv3] at Hnx
                rw [hv2] at l2
                rw [hv3] at l3
                rw [hv1, hv2, hv3]
                clear hv1 hv2 hv3
                go_wp2_with fail
                go_roundw
                case rel =>
                  refine ⟨p + 8 + sz + sz % 2, (true, v1, v2, v3), by omega, by go_num, rfl, rfl, Hnx.out.symm, l2, l3, ?_, ?_, ?_⟩
                  · exact (H8.out.1.far (p := ⟨w.heap.size + 1, 0, none⟩) (by simp) _).far (p := ⟨w.heap.size + 1, 1, none⟩) (by simp) _
                  · simpa using (H8.out.2.1.set_ 0 (.int .i64 v2)).set_ 1 (.int .i64 v3)
                  · exact ((H8.out.2.2.setCell (p := ⟨w.heap.size + 1, 0, none⟩) (fun e => by simp at e; omega) _).setCell (p := ⟨w.heap.size + 1, 1, none⟩) (fun e => by simp at e; omega) _)
                case measure => simp [intOf]; omega
              · have hf : wfmt xs p (has, fm, ch, bi) = (has, fm, ch, bi) := by
                  unfold wfmt
                  exact if_neg fun h => hall ⟨h.2.1, by have := h.2.2.1; rw [Hs.out] at this; exact this, h.2.2.2⟩
                have hnx := wgo_next h8 hf (fun h => hnd h.1)
                rw [HG.out, Hs.out] at hnx
                have Hnx := Lib.hid hnx
                clear hf hnx hnd n1 HG
                cases has with
                | true =>
                  go_wp2_with fail
                  go_roundw
                  case rel => exact ⟨p + 8 + sz + sz % 2, (true, fm, ch, bi), by omega, by go_num, rfl, rfl, Hnx.out.symm, hch, hbi, H5.out⟩
                  case measure => simp [intOf]; omega
                | false =>
                  by_cases k1 : 16 ≤ sz
                  · have k1' : (16 : Int) ≤ (sz : Int) := by omega
                    have k2' : ¬ (p : Int) + 8 + 16 ≤ (xs.length : Int) := by
                      intro h
                      exact hall ⟨rfl, k1, by omega⟩
                    clear hall
                    go_wp2_with fail
                    go_roundw
                    case rel => exact ⟨p + 8 + sz + sz % 2, (false, fm, ch, bi), by omega, by go_num, rfl, rfl, Hnx.out.symm, hch, hbi, H5.out⟩
                    case measure => simp [intOf]; omega
                  · have k1' : ¬ (16 : Int) ≤ (sz : Int) := by omega
                    clear hall
                    go_wp2_with fail
                    go_roundw
                    case rel => exact ⟨p + 8 + sz + sz % 2, (false, fm, ch, bi), by omega, by go_num, rfl, rfl, Hnx.out.symm, hch, hbi, H5.out⟩
                    case measure => simp [intOf]; omega
            · rw [decide_eq_false n1] at g1
              have hf : wfmt xs p (has, fm, ch, bi) = (has, fm, ch, bi) := by
                unfold wfmt
                exact if_neg fun h => n1 h.1
              by_cases n2 : slc xs p 4 = nData
              · rw [decide_eq_true n2] at g2
                cases has with
                | true =>
                  have hfin := wgo_end h8 hf n2 rfl
                  rw [HG.out, Hs.out] at hfin
                  rw [hfin] at Hw
                  clear hfin hf n1 n2 HG
                  have c0 := H5.out.2.1.cell 0
                  have c1 := H5.out.2.1.cell 1
                  simp only [List.getElem?_toArray, List.getElem?_cons_zero, List.getElem?_cons_succ] at c0 c1
                  have d0 := H5.out.1.cell 0
                  have d1 := H5.out.1.cell 1
                  have d2 := H5.out.1.cell 2
                  have d3 := H5.out.1.cell 3
                  simp only [List.getElem?_toArray, List.getElem?_cons_zero, List.getElem?_cons_succ] at d0 d1 d2 d3
                  have z0 := H5.out.1.frozen 0
                  have z1 := H5.out.1.frozen 1
                  have z2 := H5.out.1.frozen 2
                  have z3 := H5.out.1.frozen 3
                  by_cases hbad : wbad (true, fm, ch, bi)
                  · have hw0 : wfin xs.length (true, fm, ch, bi) (p + 8) sz = none := by unfold wfin; rw [if_pos hbad]
                    rw [hw0] at Hw
                    clear hw0
                    have hcs : (((fm : Int) != 1) = true) ∨ ((((fm : Int) != 1) = false) ∧ (ch : Int) < 1) ∨ ((((fm : Int) != 1) = false) ∧ ¬ (ch : Int) < 1 ∧ (8 : Int) < (ch : Int)) ∨ ((((fm : Int) != 1) = false) ∧ ¬ (ch : Int) < 1 ∧ ¬ (8 : Int) < (ch : Int) ∧ (((bi : Int) != 8) = true) ∧ (((bi : Int) != 16) = true)) := by
                      simp only [wbad] at hbad
                      simp only [bne_iff_ne, ne_eq, bne_eq_false_iff_eq]
                      omega
                    clear hbad
                    rcases hcs with k1 | ⟨k1, k2⟩ | ⟨k1, k2, k3⟩ | ⟨k1, k2, k3, k4, k5⟩
                    all_goals
                      go_wp2_with fail
                      have bz := (((H5.out.1.set_ 0 (.int .i64 0)).set_ 1 (.int .i64 0)).set_ 2 (.int .i64 0)).set_ 3 (.int .i64 0)
                      have q0 := bz.cell 0
                      have q1 := bz.cell 1
                      have q2 := bz.cell 2
                      have q3 := bz.cell 3
                      simp at q0 q1 q2 q3
                      refine bodyPost_ret (v := .tuple #[wval none, .bool false]) (by simp [results, Tryz.f9, go_sem, wval, q0, q1, q2, q3]) rfl ?_
                      rw [Hw.out]
                      exact ⟨rfl, (((H5.out.2.2.setCell (p := ⟨w.heap.size, 0, none⟩) (fun e => by simp at e) _).setCell (p := ⟨w.heap.size, 1, none⟩) (fun e => by simp at e) _).setCell (p := ⟨w.heap.size, 2, none⟩) (fun e => by simp at e) _).setCell (p := ⟨w.heap.size, 3, none⟩) (fun e => by simp at e) _⟩
                  · obtain ⟨m8, hm8⟩ : ∃ m8, m8 = ch * bi := ⟨_, rfl⟩
                    have hm : (ch : Int) * (bi : Int) = (m8 : Int) := by rw [hm8]; simp
                    have hb2 := hbad
                    simp only [wbad] at hb2
                    have m8l : m8 ≤ 128 ∧ 8 ≤ m8 := by
                      rw [hm8]
                      rcases (show bi = 8 ∨ bi = 16 from by omega) with e | e <;> subst e <;> omega
                    obtain ⟨fr, hfr⟩ : ∃ fr, fr = m8 / 8 := ⟨_, rfl⟩
                    have hf8 : (m8 : Int) / 8 = (fr : Int) := by omega
                    have fr1 : (0 : Int) < (fr : Int) := by omega
                    obtain ⟨mn, hmn⟩ : ∃ mn, mn = min sz (xs.length - (p + 8)) := ⟨_, rfl⟩
                    have hmn' : min (sz : Int) ((xs.length : Int) - ((p : Int) + 8)) = (mn : Int) := by omega
                    obtain ⟨qn, hqn⟩ : ∃ qn, qn = mn / fr := ⟨_, rfl⟩
                    have hq' : (mn : Int) / (fr : Int) = (qn : Int) := by rw [hqn]; simp
                    obtain ⟨ln, hln⟩ : ∃ ln, ln = qn * fr := ⟨_, rfl⟩
                    have hl' : (qn : Int) * (fr : Int) = (ln : Int) := by rw [hln]; simp
                    have lnle : ln ≤ mn := by rw [hln, hqn]; exact Nat.div_mul_le_self _ _
                    have mnle : mn ≤ 100000000 := by omega
                    have qnle : qn ≤ mn := by rw [hqn]; exact Nat.div_le_self _ _
                    have qn0 : (0 : Int) ≤ (qn : Int) := by omega
                    have qn1 : (qn : Int) ≤ 100000000 := by omega
                    have hwf : wfin xs.length (true, fm, ch, bi) (p + 8) sz = if ln < 1 then none else some (ch, bi, p + 8, p + 8 + ln) := by
                      unfold wfin
                      have e : wlen xs.length (true, fm, ch, bi) (p + 8) sz = ln := by
                        unfold wlen
                        simp only []
                        rw [← hm8, ← hfr, ← hmn, ← hqn, ← hln]
                      rw [if_neg hbad, e]
                    rw [hwf] at Hw
                    have hcs : ((((fm : Int) != 1) = false) ∧ ¬ (ch : Int) < 1 ∧ ¬ (8 : Int) < (ch : Int) ∧ (((bi : Int) != 8) = false)) ∨ ((((fm : Int) != 1) = false) ∧ ¬ (ch : Int) < 1 ∧ ¬ (8 : Int) < (ch : Int) ∧ (((bi : Int) != 8) = true) ∧ (((bi : Int) != 16) = false)) := by
                      simp only [bne_iff_ne, ne_eq, bne_eq_false_iff_eq]
                      omega
                    have m80 : (0 : Int) ≤ (m8 : Int) := by omega
                    have m81 : (m8 : Int) ≤ 128 := by omega
                    have ln0 : (0 : Int) ≤ (ln : Int) := by omega
                    have ln1 : (ln : Int) ≤ 100000000 := by omega
                    clear hbad hb2 hm8 hfr hmn hqn hln hwf lnle mnle qnle m8l
                    by_cases l0 : ln < 1
                    · have l0' : (ln : Int) < 1 := by omega
                      rw [if_pos l0] at Hw
                      rcases hcs with ⟨k1, k2, k3, k4⟩ | ⟨k1, k2, k3, k4, k5⟩
                      all_goals
                        go_wp2_with fail
                        have bz := (((H5.out.1.set_ 0 (.int .i64 0)).set_ 1 (.int .i64 0)).set_ 2 (.int .i64 0)).set_ 3 (.int .i64 0)
                        have q0 := bz.cell 0
                        have q1 := bz.cell 1
                        have q2 := bz.cell 2
                        have q3 := bz.cell 3
                        simp at q0 q1 q2 q3
                        refine bodyPost_ret (v := .tuple #[wval none, .bool false]) (by simp [results, Tryz.f9, go_sem, wval, q0, q1, q2, q3]) rfl ?_
                        rw [Hw.out]
                        exact ⟨rfl, (((H5.out.2.2.setCell (p := ⟨w.heap.size, 0, none⟩) (fun e => by simp at e) _).setCell (p := ⟨w.heap.size, 1, none⟩) (fun e => by simp at e) _).setCell (p := ⟨w.heap.size, 2, none⟩) (fun e => by simp at e) _).setCell (p := ⟨w.heap.size, 3, none⟩) (fun e => by simp at e) _⟩
                    · have l0' : ¬ (ln : Int) < 1 := by omega
                      rw [if_neg l0] at Hw
                      rcases hcs with ⟨k1, k2, k3, k4⟩ | ⟨k1, k2, k3, k4, k5⟩
                      all_goals
                        have y2 := H5.out.2.1.cell 2
                        have y3 := H5.out.2.1.cell 3
                        simp only [List.getElem?_toArray, List.getElem?_cons_zero, List.getElem?_cons_succ] at y2 y3
                        have x2 := H5.out.2.1.frozen 2
                        have x3 := H5.out.2.1.frozen 3
                        go_wp2_with fail
                        have bz := ((((((H5.out.1.far (p := ⟨w.heap.size + 1, 2, none⟩) (by simp) (.int .i64 ((p : Int) + 8))).far (p := ⟨w.heap.size + 1, 3, none⟩) (by simp) (.int .i64 ((p : Int) + 8 + ln))).set_ 0 (.int .i64 ch)).set_ 1 (.int .i64 bi)).set_ 2 (.int .i64 ((p : Int) + 8))).set_ 3 (.int .i64 ((p : Int) + 8 + ln)))
                        have q0 := bz.cell 0
                        have q1 := bz.cell 1
                        have q2 := bz.cell 2
                        have q3 := bz.cell 3
                        simp at q0 q1 q2 q3
                        refine bodyPost_ret (v := .tuple #[wval (some (ch, bi, p + 8, p + 8 + ln)), .bool true]) (by simp [results, Tryz.f9, go_sem, wval, q0, q1, q2, q3]) rfl ?_
                        rw [Hw.out]
                        exact ⟨rfl, (((((H5.out.2.2.setCell (p := ⟨w.heap.size + 1, 2, none⟩) (fun e => by simp at e; omega) _).setCell (p := ⟨w.heap.size + 1, 3, none⟩) (fun e => by simp at e; omega) _).setCell (p := ⟨w.heap.size, 0, none⟩) (fun e => by simp at e) _).setCell (p := ⟨w.heap.size, 1, none⟩) (fun e => by simp at e) _).setCell (p := ⟨w.heap.size, 2, none⟩) (fun e => by simp at e) _).setCell (p := ⟨w.heap.size, 3, none⟩) (fun e => by simp at e) _⟩
                | false =>
                  have hnx := wgo_next h8 hf (fun h => by cases h.2)
                  rw [HG.out, Hs.out] at hnx
                  have Hnx := Lib.hid hnx
                  clear hf hnx n1 n2 HG
                  go_wp2_with fail
                  go_roundw
                  case rel => exact ⟨p + 8 + sz + sz % 2, (false, fm, ch, bi), by omega, by go_num, rfl, rfl, Hnx.out.symm, hch, hbi, H5.out⟩
                  case measure => simp [intOf]; omega
              · rw [decide_eq_false n2] at g2
                have hnx := wgo_next h8 hf (fun h => n2 h.1)
                rw [HG.out, Hs.out] at hnx
                have Hnx := Lib.hid hnx
                clear hf hnx n1 n2 HG
                go_wp2_with fail
                go_roundw
                case rel => exact ⟨p + 8 + sz + sz % 2, (has, fm, ch, bi), by omega, by go_num, rfl, rfl, Hnx.out.symm, hch, hbi, H5.out⟩
                case measure => simp [intOf]; omega
          · have j8 : ¬ (p : Int) + 8 ≤ (xs.length : Int) := by omega
            have hr : wgo xs 12 (false, 0, 0, 0) = none := by rw [← hgo, wgo, if_neg h8]
            rw [hr] at Hw
            have HX := Lib.hid (And.intro hb0 hfr)
            have c0 := hb0.cell 0
            have c1 := hb0.cell 1
            have c2 := hb0.cell 2
            have c3 := hb0.cell 3
            simp only [List.getElem?_toArray, List.getElem?_cons_zero, List.getElem?_cons_succ] at c0 c1 c2 c3
            have z0 := hb0.frozen 0
            have z1 := hb0.frozen 1
            have z2 := hb0.frozen 2
            have z3 := hb0.frozen 3
            clear hb0 hb1 hfr hgo hr
            go_wp2_with fail
            have bz := (((HX.out.1.set_ 0 (.int .i64 0)).set_ 1 (.int .i64 0)).set_ 2 (.int .i64 0)).set_ 3 (.int .i64 0)
            have q0 := bz.cell 0
            have q1 := bz.cell 1
            have q2 := bz.cell 2
            have q3 := bz.cell 3
            simp at q0 q1 q2 q3
            refine bodyPost_ret (v := .tuple #[wval none, .bool false]) (by simp [results, Tryz.f9, go_sem, wval, q0, q1, q2, q3]) rfl ?_
            rw [Hw.out]
            exact ⟨rfl, (((HX.out.2.setCell (p := ⟨w.heap.size, 0, none⟩) (fun e => by simp at e) _).setCell (p := ⟨w.heap.size, 1, none⟩) (fun e => by simp at e) _).setCell (p := ⟨w.heap.size, 2, none⟩) (fun e => by simp at e) _).setCell (p := ⟨w.heap.size, 3, none⟩) (fun e => by simp at e) _⟩
      · rw [decide_eq_true a1] at e1
        rw [decide_eq_false a2] at e2
        have Hw : Hid (wparse xs = none) := Lib.hid (by unfold wparse; rw [if_pos (.inr (.inr a2))])
        clear a1 a2
        go_enter Tryz.func9, Tryz.ntmps9
        go_wp2_with fail
        refine bodyPost_ret (v := .tuple #[wval none, .bool false]) (by simp [results, Tryz.f9, go_sem, wval]) rfl ?_
        rw [Hw.out]
        exact ⟨rfl, (Kept.refl _ _).alloc _⟩
    · rw [decide_eq_false a1] at e1
      have Hw : Hid (wparse xs = none) := Lib.hid (by unfold wparse; rw [if_pos (.inr (.inl (by rw [hsl0]; exact a1)))])
      clear a1 e2
      go_enter Tryz.func9, Tryz.ntmps9
      go_wp2_with fail
      refine bodyPost_ret (v := .tuple #[wval none, .bool false]) (by simp [results, Tryz.f9, go_sem, wval]) rfl ?_
      rw [Hw.out]
      exact ⟨rfl, (Kept.refl _ _).alloc _⟩

end Go.Proofs.YtodmchjdflpbpaaGreat
