/- The code's with, joinable, Join. -/
import Derived.Test.YtcpmjaoglbgmbaaTraCS
import Derived.Test.YtcpmjaoglbgmbaaAppNew
namespace Go.Proofs.Ytcpmjaoglbgmbaa
open Go.RowKit
set_option maxRecDepth 100000

attribute [local go_sem ↓] Go.wp_at_zero Go.wp_at_succ

/-- The lists at block b, from place o on. -/
def Rd (w : World) (b o n : Nat) (T : Nat → List Int) (D : Nat → Option Addr) (C : Nat → Nat) : Prop := ∀ i, i < n → w.cell? ⟨b, o + i, none⟩ = some (.slice (D i) (T i).length (C i)) ∧ Row w .i32 (D i) (T i).length (T i)
theorem Rd.fresh {w w' : World} {b o n : Nat} {T : Nat → List Int} {D : Nat → Option Addr} {C : Nat → Nat} (h : Rd w b o n T D C) (hb : b < w.heap.size) (hf : Fresh w w') : Rd w' b o n T D C := fun i hi =>
  ⟨(hf.cell (p := ⟨b, o + i, none⟩) hb id).trans (h i hi).1, (h i hi).2.fresh hf⟩
/-- Lists that are not too long, of numbers of 32 bits. -/
def Few (n : Nat) (T : Nat → List Int) : Prop := ∀ i, i < n → (T i).length ≤ 16777216 ∧ I32 (T i)

/-- May they be joined? -/
def JRet (w w' : World) (e : Ending) (bt : Int) (n : Nat) (T : Nat → List Int) : Prop := ∃ ok, e = .returned (.bool ok) ∧ (ok = true ↔ joinT bt n T) ∧ w' = w
theorem encT8 (x : Int) : encT 8 x = [(x + 128) % 256] := rfl
theorem encT16 (x : Int) : encT 16 x = [x % 256, (x / 256) % 256] := rfl

set_option maxHeartbeats 1600000 in
theorem cWith8_any (W0 : World) (v : Value) (xs : List Int) (x : Int) (w : World) (h : NewRow W0 w 5 .u8 v xs) (hx : okT 8 x) (hn : xs.length ≤ 1073741824) :
    Calls Try.prog 26 #[v, .int .i32 x, .int .i64 8] w fun e w' => ∃ v', e = .returned v' ∧ NewRow W0 w' 5 .u8 v' (xs ++ encT 8 x) := by
  obtain ⟨i0, hi, hz0, hz1, hz2⟩ := info_parts Try.infoTr1
  have hx0 : -128 ≤ x ∧ x ≤ 127 := by
    have e : mostT 8 = 127 := rfl
    unfold okT at hx
    rw [e] at hx
    omega
  have he : encT 8 x = [x + 128] := by
    rw [encT8]
    congr 1
    omega
  rw [he]
  have HN := Lib.hid h
  clear h hx he
  go_enter Try.func26, Try.ntmps26
  go_wp2_with (at_builtin; refine wpList_new _ W0 rfl _ _ 22 rfl 5 i0 .u8 1 Try.underlying22 hi hz0 hz1 hz2 v xs rfl (HN.out.fresh ((Kept.refl _ _).alloc (.cells (ivs .u8 [x + 128]).toArray 5))) (some ⟨w.heap.size, 0, none⟩) 1 1 [x + 128] rfl (Row.laidF w 5 .u8 [x + 128]) (by unfold maxLen; omega) (by omega) ?_)
  intro v' w' hn'
  have H := Lib.hid hn'
  clear hn'
  go_wp2_with fail
  go_ret
  exact ⟨_, rfl, H.out⟩

set_option maxHeartbeats 3200000 in
theorem cJoinable8_any (b o n c : Nat) (T : Nat → List Int) (D : Nat → Option Addr) (C : Nat → Nat) (w : World) (hr : Rd w b o n T D C) (hn : 1 ≤ n ∧ n ≤ 8) (hf : Few n T) :
    Calls Try.prog 25 #[.int .i64 8, .slice (some ⟨b, o, none⟩) n c] w fun e w' => JRet w w' e 8 n T := by
  have hc0 := (hr 0 (by omega)).1
  rw [Nat.add_zero] at hc0
  have HR := Lib.hid (And.intro hr hf)
  obtain ⟨l0, hl0⟩ : ∃ l0, (T 0).length = l0 := ⟨_, rfl⟩
  have hf0 := (hf 0 (by omega)).1
  rw [hl0] at hc0 hf0
  have HL := Lib.hid hl0
  clear hr hf hl0
  go_enter Try.func25, Try.ntmps25
  go_wp2_with fail
  go_loopw [16] (fun i wr => ∃ k : Nat, k ≤ n ∧ i = .int .i64 k ∧ wr = w ∧ ∀ i, i < k → (T i).length = l0 ∧ ∀ j, j < (T i).length → okT 8 ((T i).getD j 0)) (fun i _ => (n - intOf i).toNat)
  case atStart => exact ⟨0, by omega, rfl, rfl, fun i hi => absurd hi (Nat.not_lt_zero _)⟩
  case round =>
    obtain ⟨k, hk, rfl, rfl, hall⟩ := hrel
    have HA := Lib.hid hall
    clear hall
    by_cases hlt : k < n
    · obtain ⟨hck, hrk⟩ := HR.out.1 k hlt
      have hfk := (HR.out.2 k hlt).1
      obtain ⟨lk, hlk⟩ : ∃ lk, (T k).length = lk := ⟨_, rfl⟩
      rw [hlk] at hck hfk hrk
      have HK := Lib.hid (And.intro hlk hrk)
      have ik : (k : Int) < (n : Int) := by omega
      clear hlk hrk
      by_cases hll : lk = l0
      · subst hll
        have hself : ((lk : Int) != (lk : Int)) = false := by simp
        go_wp2_with fail
        go_loopw [29] (fun i V => ∃ j : Nat, j ≤ lk ∧ i = .int .i64 j ∧ V = wr ∧ ∀ i, i < j → okT 8 ((T k).getD i 0)) (fun i _ => (lk - intOf i).toNat)
        case atStart => exact ⟨0, by omega, rfl, rfl, fun i hi => absurd hi (Nat.not_lt_zero _)⟩
        case round =>
          obtain ⟨j, hj, rfl, rfl, hok⟩ := hrel
          have HJ := Lib.hid hok
          clear hok
          by_cases hjl : j < lk
          · obtain ⟨b1, o1, hD, _, hcv⟩ := HK.out.2.at_ j hjl
            have hv := (HR.out.2 k hlt).2.at_ j
            have HV : Hid (∀ x, (T k).getD j 0 = x → (T k).getD j 0 = x) := Lib.hid fun _ h => h
            have ij : (j : Int) < (lk : Int) := by omega
            generalize hDe : D k = Dk at *
            subst hD
            generalize hve : (T k).getD j 0 = x at *
            have HX := Lib.hid hve
            clear hve hDe
            by_cases h1 : x < -128
            · go_wp2_with fail
              go_ret
              exact ⟨false, rfl, by
                constructor
                · intro h; cases h
                · intro h
                  have := (h k hlt).2 j (by rw [HK.out.1]; exact hjl)
                  rw [HX.out] at this
                  exact absurd this.1 (by show ¬ -127 - 1 ≤ x; omega), rfl⟩
            · by_cases h2 : 127 < x
              · go_wp2_with fail
                go_ret
                exact ⟨false, rfl, by
                  constructor
                  · intro h; cases h
                  · intro h
                    have := (h k hlt).2 j (by rw [HK.out.1]; exact hjl)
                    rw [HX.out] at this
                    exact absurd this.2 (by show ¬ x ≤ 127; omega), rfl⟩
              · have HO : Hid (okT 8 x) := Lib.hid ⟨by show -127 - 1 ≤ x; omega, by show x ≤ 127; omega⟩
                go_wp2_with fail
                go_roundw
                case rel => exact ⟨j + 1, by omega, by go_num, trivial, fun i hi => by
                  by_cases e : i = j
                  · rw [e, HX.out]
                    exact HO.out
                  · exact HJ.out i (by omega)⟩
                case measure => simp [intOf]; omega
          · obtain rfl : j = lk := by omega
            go_wp2_with fail
            go_roundw
            case rel => exact ⟨k + 1, by omega, by go_num, trivial, fun i hi => by
              by_cases e : i = k
              · rw [e]
                exact ⟨HK.out.1, fun j' hj' => HJ.out j' (by rw [HK.out.1] at hj'; exact hj')⟩
              · exact HA.out i (by omega)⟩
            case measure => simp [intOf]; omega
      · have hne : ((lk : Int) != (l0 : Int)) = true := by simp; omega
        go_wp2_with fail
        go_ret
        exact ⟨false, rfl, by
          constructor
          · intro h; cases h
          · intro h
            have := (h k hlt).1
            rw [HK.out.1, HL.out] at this
            exact absurd this hll, rfl⟩
    · obtain rfl : k = n := by omega
      go_wp2_with fail
      go_ret
      exact ⟨true, rfl, by
        constructor
        · intro _ i hi
          have := HA.out i hi
          rw [HL.out]
          exact this
        · intro _; rfl, rfl⟩

set_option maxHeartbeats 1600000 in
theorem cWith16_any (W0 : World) (v : Value) (xs : List Int) (x : Int) (w : World) (h : NewRow W0 w 5 .u8 v xs) (hx : okT 16 x) (hn : xs.length ≤ 1073741824) :
    Calls Try.prog 26 #[v, .int .i32 x, .int .i64 16] w fun e w' => ∃ v', e = .returned v' ∧ NewRow W0 w' 5 .u8 v' (xs ++ encT 16 x) := by
  obtain ⟨i0, hi, hz0, hz1, hz2⟩ := info_parts Try.infoTr1
  have hx0 : -32768 ≤ x ∧ x ≤ 32767 := by
    have e : mostT 16 = 32767 := rfl
    unfold okT at hx
    rw [e] at hx
    omega
  have he : encT 16 x = [x % 256, x / 256 % 256] := by
    rw [encT16]
  rw [he]
  have HN := Lib.hid h
  clear h hx he
  go_enter Try.func26, Try.ntmps26
  go_wp2_with (at_builtin; refine wpList_new _ W0 rfl _ _ 22 rfl 5 i0 .u8 1 Try.underlying22 hi hz0 hz1 hz2 v xs rfl (HN.out.fresh ((Kept.refl _ _).alloc (.cells (ivs .u8 [x % 256, x / 256 % 256]).toArray 5))) (some ⟨w.heap.size, 0, none⟩) 2 2 [x % 256, x / 256 % 256] rfl (Row.laidF w 5 .u8 [x % 256, x / 256 % 256]) (by unfold maxLen; omega) (by omega) ?_)
  intro v' w' hn'
  have H := Lib.hid hn'
  clear hn'
  go_wp2_with fail
  go_ret
  exact ⟨_, rfl, H.out⟩

set_option maxHeartbeats 3200000 in
theorem cJoinable16_any (b o n c : Nat) (T : Nat → List Int) (D : Nat → Option Addr) (C : Nat → Nat) (w : World) (hr : Rd w b o n T D C) (hn : 1 ≤ n ∧ n ≤ 8) (hf : Few n T) :
    Calls Try.prog 25 #[.int .i64 16, .slice (some ⟨b, o, none⟩) n c] w fun e w' => JRet w w' e 16 n T := by
  have hc0 := (hr 0 (by omega)).1
  rw [Nat.add_zero] at hc0
  have HR := Lib.hid (And.intro hr hf)
  obtain ⟨l0, hl0⟩ : ∃ l0, (T 0).length = l0 := ⟨_, rfl⟩
  have hf0 := (hf 0 (by omega)).1
  rw [hl0] at hc0 hf0
  have HL := Lib.hid hl0
  clear hr hf hl0
  go_enter Try.func25, Try.ntmps25
  go_wp2_with fail
  go_loopw [16] (fun i wr => ∃ k : Nat, k ≤ n ∧ i = .int .i64 k ∧ wr = w ∧ ∀ i, i < k → (T i).length = l0 ∧ ∀ j, j < (T i).length → okT 16 ((T i).getD j 0)) (fun i _ => (n - intOf i).toNat)
  case atStart => exact ⟨0, by omega, rfl, rfl, fun i hi => absurd hi (Nat.not_lt_zero _)⟩
  case round =>
    obtain ⟨k, hk, rfl, rfl, hall⟩ := hrel
    have HA := Lib.hid hall
    clear hall
    by_cases hlt : k < n
    · obtain ⟨hck, hrk⟩ := HR.out.1 k hlt
      have hfk := (HR.out.2 k hlt).1
      obtain ⟨lk, hlk⟩ : ∃ lk, (T k).length = lk := ⟨_, rfl⟩
      rw [hlk] at hck hfk hrk
      have HK := Lib.hid (And.intro hlk hrk)
      have ik : (k : Int) < (n : Int) := by omega
      clear hlk hrk
      by_cases hll : lk = l0
      · subst hll
        have hself : ((lk : Int) != (lk : Int)) = false := by simp
        go_wp2_with fail
        go_loopw [29] (fun i V => ∃ j : Nat, j ≤ lk ∧ i = .int .i64 j ∧ V = wr ∧ ∀ i, i < j → okT 16 ((T k).getD i 0)) (fun i _ => (lk - intOf i).toNat)
        case atStart => exact ⟨0, by omega, rfl, rfl, fun i hi => absurd hi (Nat.not_lt_zero _)⟩
        case round =>
          obtain ⟨j, hj, rfl, rfl, hok⟩ := hrel
          have HJ := Lib.hid hok
          clear hok
          by_cases hjl : j < lk
          · obtain ⟨b1, o1, hD, _, hcv⟩ := HK.out.2.at_ j hjl
            have hv := (HR.out.2 k hlt).2.at_ j
            have HV : Hid (∀ x, (T k).getD j 0 = x → (T k).getD j 0 = x) := Lib.hid fun _ h => h
            have ij : (j : Int) < (lk : Int) := by omega
            generalize hDe : D k = Dk at *
            subst hD
            generalize hve : (T k).getD j 0 = x at *
            have HX := Lib.hid hve
            clear hve hDe
            by_cases h1 : x < -32768
            · go_wp2_with fail
              go_ret
              exact ⟨false, rfl, by
                constructor
                · intro h; cases h
                · intro h
                  have := (h k hlt).2 j (by rw [HK.out.1]; exact hjl)
                  rw [HX.out] at this
                  exact absurd this.1 (by show ¬ -32767 - 1 ≤ x; omega), rfl⟩
            · by_cases h2 : 32767 < x
              · go_wp2_with fail
                go_ret
                exact ⟨false, rfl, by
                  constructor
                  · intro h; cases h
                  · intro h
                    have := (h k hlt).2 j (by rw [HK.out.1]; exact hjl)
                    rw [HX.out] at this
                    exact absurd this.2 (by show ¬ x ≤ 32767; omega), rfl⟩
              · have HO : Hid (okT 16 x) := Lib.hid ⟨by show -32767 - 1 ≤ x; omega, by show x ≤ 32767; omega⟩
                go_wp2_with fail
                go_roundw
                case rel => exact ⟨j + 1, by omega, by go_num, trivial, fun i hi => by
                  by_cases e : i = j
                  · rw [e, HX.out]
                    exact HO.out
                  · exact HJ.out i (by omega)⟩
                case measure => simp [intOf]; omega
          · obtain rfl : j = lk := by omega
            go_wp2_with fail
            go_roundw
            case rel => exact ⟨k + 1, by omega, by go_num, trivial, fun i hi => by
              by_cases e : i = k
              · rw [e]
                exact ⟨HK.out.1, fun j' hj' => HJ.out j' (by rw [HK.out.1] at hj'; exact hj')⟩
              · exact HA.out i (by omega)⟩
            case measure => simp [intOf]; omega
      · have hne : ((lk : Int) != (l0 : Int)) = true := by simp; omega
        go_wp2_with fail
        go_ret
        exact ⟨false, rfl, by
          constructor
          · intro h; cases h
          · intro h
            have := (h k hlt).1
            rw [HK.out.1, HL.out] at this
            exact absurd this hll, rfl⟩
    · obtain rfl : k = n := by omega
      go_wp2_with fail
      go_ret
      exact ⟨true, rfl, by
        constructor
        · intro _ i hi
          have := HA.out i hi
          rw [HL.out]
          exact this
        · intro _; rfl, rfl⟩

end Go.Proofs.Ytcpmjaoglbgmbaa
