/- slices.Grow of nil bytes, slices.Concat of texts. -/
import Derived.Test.YtodmchjdflpbpaaGreatNumR
import Derived.Lib.AppendZerosOnto
import Derived.BigQuiet
import Derived.Deep.DrawnRows
namespace Go.Proofs.YtodmchjdflpbpaaGreat
open Go.RowKit
set_option maxRecDepth 100000

attribute [local go_sem ↓] Go.wp_at_zero Go.wp_at_succ

set_option maxHeartbeats 1600000 in
theorem grow_nil (n : Nat) (w : World) (hn : n ≤ 1073741824) : Calls Tryz.prog 68 #[.slice none 0 0, .int .i64 n] w fun e w' => ∃ u, e = .returned u ∧ NewRow w w' 5 .u8 u [] := by
  obtain ⟨i0, hi, hz0, hz1, hz2⟩ := info_parts Tryz.infoByteN
  have h1 : ¬ ((n : Int) < 0) := by omega
  by_cases h0 : n = 0
  · subst h0
    go_enter Tryz.func68, Tryz.ntmps68
    go_wp2_with fail
    go_ret
    exact ⟨_, rfl, Own.nil _ _ _, fun k e => (by cases e), Kept.refl _ _⟩
  · have hrz : ∀ ty, (Builtin.append_ #[22, 3] ty #[.slice none 0 0, .int .i64 (n : Int)]).run Tryz.prog w =
        .ok (.slice (some ⟨w.heap.size, 0, none⟩) n (grownCap w n 0 5)) (w.drew.alloc (.cells (([] : List Value).toArray ++ Builtin.zeroCells (Value.int .u8 0).cells n ++ Builtin.zeroCells (Value.int .u8 0).cells (grownCap w n 0 5 - n)) 5)) := fun ty => by
      have h := Lib.run_append_grow_zeros w 22 3 ty 5 i0 (.int .u8 0) .i64 .i64 Tryz.underlying22 Tryz.underlying3 hi hz0 none 0 0 [] (by rw [hz1]; exact run_firstCells_none w.drew 1 0 0 0) n (by omega) (by omega) (by omega) (by omega) (by rw [hz2]; omega) (by rw [hz2, nextslicecap_zero (by omega)]; omega)
      rw [Nat.zero_add] at h
      exact h
    have hG := grownCap_ge w n 0 5
    have hG2 := grownCap_le_maxLen w n 0 5 (by unfold maxLen; omega)
    obtain ⟨G, hGe⟩ : ∃ G, G = grownCap w n 0 5 := ⟨_, rfl⟩
    rw [← hGe] at hrz hG hG2
    obtain ⟨cs, hcs⟩ : ∃ cs, cs = ([] : List Value).toArray ++ Builtin.zeroCells (Value.int .u8 0).cells n ++ Builtin.zeroCells (Value.int .u8 0).cells (G - n) := ⟨_, rfl⟩
    rw [← hcs] at hrz
    have hsz : cs.size = G := by
      rw [hcs]
      simp only [Array.size_append, size_zeroCells]
      simp [Value.cells]
      omega
    have h2 : (0 : Int) < (n : Int) := by omega
    have hs0 : ∀ V, (Instr.slice 22 (.slice none 0 0) none (some (.int .i64 0)) none).run Tryz.prog V = .ok (.slice none 0 0) V := fun V =>
      run_slice_to 22 5 Tryz.underlying22 byte_size none 0 0 0 0 rfl (by omega) V
    have hs1 : ∀ V, (Instr.slice 22 (.slice (some ⟨w.heap.size, 0, none⟩) n G) none (some (.int .i64 0)) none).run Tryz.prog V = .ok (.slice (some ⟨w.heap.size, 0, none⟩) 0 G) V := fun V =>
      run_slice_to 22 5 Tryz.underlying22 byte_size (some ⟨w.heap.size, 0, none⟩) n G 0 0 rfl (by omega) V
    have HE : Hid (NewRow w (w.drew.alloc (.cells cs 5)) 5 .u8 (.slice (some ⟨w.heap.size, 0, none⟩) 0 G) []) := Lib.hid ⟨⟨rfl, .inr ⟨w.heap.size, G, cs, rfl, Nat.zero_le _, Blk.new w.drew 5 cs, Nat.zero_le _, hG2, by rw [hsz, Nat.mul_one], by simp [ivs]⟩⟩, fun k e => by
      have : w.heap.size = k := by simpa [Value.ownBlock] using e
      omega, (Kept.refl _ _).drew.alloc _⟩
    clear hcs hsz hGe hG hG2
    go_enter Tryz.func68, Tryz.ntmps68
    go_wp2_with (at_builtin; refine Lib.wpList_append_run _ rfl _ _ _ _ rfl _ _ rfl rfl _ _ (hrz _) ?_)
    all_goals (go_ret; exact ⟨_, rfl, HE.out⟩)

set_option maxHeartbeats 1600000 in
theorem concat_any (P : Option Addr) (m c : Nat) (L : List (List Int)) (w : World) (hp : Parts w P m L (fun _ => False)) (hm : m ≤ 1048576) (hl : L.flatten.length ≤ 1073741824) :
    Calls Tryz.prog 57 #[.slice P m c] w fun e w' => ∃ u, e = .returned u ∧ NewRow w w' 5 .u8 u L.flatten := by
  obtain ⟨i0, hi, hz0, hz1, hz2⟩ := info_parts Tryz.infoByteN
  have HP := Lib.hid hp
  have hLm := hp.len
  have hself : ((m : Int) < (m : Int)) = False := by simp
  clear hp
  go_enter Tryz.func57, Tryz.ntmps57
  go_wp2_with fail
  go_loopw [3, 11] (fun s i wr => ∃ j : Nat, j ≤ m ∧ i = .int .i64 j ∧ s = .int .i64 ((L.take j).flatten.length : Nat) ∧ w = wr) (fun _ i _ => (m - intOf i).toNat)
  case atStart => exact ⟨0, by omega, rfl, rfl, rfl⟩
  case round =>
    obtain ⟨j, hj, rfl, rfl, rfl⟩ := hrel
    by_cases hlt : j < m
    · obtain ⟨b, o, A, n, cA, rfl, hb, _, hc, hr, _⟩ := HP.out.at_ j hlt
      have hft := flat_take (L := L) (j := j) (by omega)
      have hfl := flat_le (L := L) (j := j) (by omega)
      have hn := hr.len
      have ij : (j : Int) < (m : Int) := by omega
      have hsum : ((L.take (j + 1)).flatten.length : Int) = ((L.take j).flatten.length : Int) + (n : Int) := by rw [hft, List.length_append, hn]; omega
      have HS := Lib.hid hsum
      have hpos : ¬ ((L.take j).flatten.length : Int) + (n : Int) < 0 := by omega
      have hw : IntKind.i64.wrap (((L.take j).flatten.length : Int) + (n : Int)) = ((L.take j).flatten.length : Int) + (n : Int) := IntWalk.i64_in _ (by omega)
      clear hft hfl hsum hr
      generalize (L.take j).flatten.length = s at *
      go_wp2_with fail
      go_roundw
      case rel => exact ⟨j + 1, by omega, by go_num, by rw [HS.out], trivial⟩
      case measure => simp [intOf]; omega
    · obtain rfl : j = m := by omega
      have ht : L.take j = L := List.take_of_length_le (by omega)
      rw [ht]
      have HG := Lib.hid (grow_nil L.flatten.length w hl)
      clear ht
      generalize hfl : L.flatten.length = fl at *
      go_wp2_with fail
      refine HG.out.mono ?_
      rintro e w1 ⟨v, rfl, hv⟩
      go_wp2_with fail
      go_loopw [6, 27] (fun v i w2 => ∃ k : Nat, k ≤ j ∧ i = .int .i64 k ∧ NewRow w w2 5 .u8 v (L.take k).flatten) (fun _ i _ => (j - intOf i).toNat)
      case atStart => exact ⟨0, by omega, rfl, by simpa using hv⟩
      case round =>
        obtain ⟨k, hk, rfl, hv2⟩ := hrel
        by_cases hlt2 : k < j
        · obtain ⟨b, o, A, n, cA, rfl, hb, _, hc', hr', _⟩ := HP.out.at_ k hlt2
          have hc := (hv2.2.2.cell (p := ⟨b, o + k, none⟩) hb id).trans hc'
          have hr := hr'.kept hv2.2.2 (fun _ _ _ _ => id)
          have hft := flat_take (L := L) (j := k) (by omega)
          have hfl2 := flat_le (L := L) (j := k) (by omega)
          have hn := hr.len
          have Hft := Lib.hid hft
          have HV := Lib.hid hv2
          have hbd : (L.take k).flatten.length + n ≤ 1073741824 := by rw [← hn]; omega
          clear hc' hr' hft hfl2 hv2
          go_wp2_with (at_builtin; refine wpList_app _ rfl (.tmp 31) (.tmp 32) 22 rfl 5 i0 .u8 1 Tryz.underlying22 hi hz0 hz1 hz2 _ _ rfl HV.out.1 A n cA _ rfl hr (by unfold maxLen; omega) (by omega) ?_)
          intro v2 w3 ho3 hg3 hat3
          have hv3 : NewRow w w3 5 .u8 v2 (L.take (k + 1)).flatten := by
            rw [Hft.out, show L.getD k [] = L[k]'(by omega) by simp [List.getD, show k < L.length by omega]]
            refine ⟨ho3, fun q e => ?_, HV.out.2.2.trans ((Kept.refl _ _).grown hg3 (fun q e _ => e)) fun i hi e => ?_⟩
            · rcases hat3 with e2 | e2
              · exact HV.out.2.1 q (e2 ▸ e)
              · rw [e2] at e; injection e with e; have := HV.out.2.2.size; omega
            · have := HV.out.2.1 i e
              omega
          have H3 := Lib.hid hv3
          clear ho3 hg3 hat3 hv3 HV
          go_wp2_with fail
          go_roundw
          case rel => exact ⟨k + 1, by omega, by go_num, H3.out⟩
          case measure => simp [intOf]; omega
        · obtain rfl : k = j := by omega
          rw [List.take_of_length_le (by omega)] at hv2
          have HV := Lib.hid hv2
          clear hv2
          go_wp2_with fail
          go_ret
          exact ⟨_, rfl, HV.out⟩

end Go.Proofs.YtodmchjdflpbpaaGreat
