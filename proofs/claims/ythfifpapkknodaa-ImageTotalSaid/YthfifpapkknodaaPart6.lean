/- Texts of this proof, one behind the other: Concat, HusC, ImaW, ImaY, ImaX, Arr, OwnSpl, Equal, ImaZ, ImaC, HelpCom, HelpByte, HelpCopy. -/
import Derived.Test.YthfifpapkknodaaPart2
import Derived.Lib.AppendZerosOnto
import Derived.BigQuiet
import Derived.Deep.DrawnRows
import Derived.Test.YthfifpapkknodaaPart4
import Derived.Test.YthfifpapkknodaaPart1
import Derived.Deep.RegionWith
import Derived.BigRegion
import Derived.Lib.MinMax
import Derived.Test.YthfifpapkknodaaPart5
import Derived.Test.YthfifpapkknodaaPart3
import Derived.Deep.RegionHeld3
import Derived.Deep.WholeRow
import Derived.Laws.CopyOwn
import Derived.OwnWalk
import Derived.Still
import Derived.Deep.QuietTactic
import Derived.Laws.BitsAllLaws

/- slices.Grow of nil bytes, slices.Concat of texts. -/
namespace Go.Proofs.Ythfifpapkknodaa
open Go.RowKit
set_option maxRecDepth 100000

attribute [local go_sem ↓] Go.wp_at_zero Go.wp_at_succ

set_option maxHeartbeats 1600000 in
theorem grow_nil (n : Nat) (w : World) (hn : n ≤ 1073741824) : Calls Try.prog 87 #[.slice none 0 0, .int .i64 n] w fun e w' => ∃ u, e = .returned u ∧ NewRow w w' 5 .u8 u [] := by
  obtain ⟨i0, hi, hz0, hz1, hz2⟩ := info_parts Try.infoByteN
  have h1 : ¬ ((n : Int) < 0) := by omega
  by_cases h0 : n = 0
  · subst h0
    go_enter Try.func87, Try.ntmps87
    go_wp2_with fail
    go_ret
    exact ⟨_, rfl, Own.nil _ _ _, fun k e => (by cases e), Kept.refl _ _⟩
  · have hrz : ∀ ty, (Builtin.append_ #[22, 3] ty #[.slice none 0 0, .int .i64 (n : Int)]).run Try.prog w =
        .ok (.slice (some ⟨w.heap.size, 0, none⟩) n (grownCap w n 0 5)) (w.drew.alloc (.cells (([] : List Value).toArray ++ Builtin.zeroCells (Value.int .u8 0).cells n ++ Builtin.zeroCells (Value.int .u8 0).cells (grownCap w n 0 5 - n)) 5)) := fun ty => by
      have h := Lib.run_append_grow_zeros w 22 3 ty 5 i0 (.int .u8 0) .i64 .i64 Try.underlying22 Try.underlying3 hi hz0 none 0 0 [] (by rw [hz1]; exact run_firstCells_none w.drew 1 0 0 0) n (by omega) (by omega) (by omega) (by omega) (by rw [hz2]; omega) (by rw [hz2, nextslicecap_zero (by omega)]; omega)
      rw [Nat.zero_add] at h
      exact h
    have hG := grownCap_ge w n 0 5
    have hG2 := grownCap_le_maxLen w n 0 5 (by unfold maxLen; omega)
    obtain ⟨G, hGe⟩ : ∃ G, G = grownCap w n 0 5 := ⟨_, rfl⟩
    rw [← hGe] at hrz hG hG2
    obtain ⟨cs, hcs⟩ : ∃ cs, cs = ([] : List Value).toArray ++ Builtin.zeroCells (Value.int .u8 0).cells n ++ Builtin.zeroCells (Value.int .u8 0).cells (G - n) := ⟨_, rfl⟩
    rw [← hcs] at hrz
    have hsz : cs.size = G := by
      rw [hcs]
      simp only [Array.size_append, size_zeroCells]
      simp [Value.cells]
      omega
    have h2 : (0 : Int) < (n : Int) := by omega
    have hs0 : ∀ V, (Instr.slice 22 (.slice none 0 0) none (some (.int .i64 0)) none).run Try.prog V = .ok (.slice none 0 0) V := fun V =>
      run_slice_to 22 5 Try.underlying22 byte_size none 0 0 0 0 rfl (by omega) V
    have hs1 : ∀ V, (Instr.slice 22 (.slice (some ⟨w.heap.size, 0, none⟩) n G) none (some (.int .i64 0)) none).run Try.prog V = .ok (.slice (some ⟨w.heap.size, 0, none⟩) 0 G) V := fun V =>
      run_slice_to 22 5 Try.underlying22 byte_size (some ⟨w.heap.size, 0, none⟩) n G 0 0 rfl (by omega) V
    have HE : Hid (NewRow w (w.drew.alloc (.cells cs 5)) 5 .u8 (.slice (some ⟨w.heap.size, 0, none⟩) 0 G) []) := Lib.hid ⟨⟨rfl, .inr ⟨w.heap.size, G, cs, rfl, Nat.zero_le _, Blk.new w.drew 5 cs, Nat.zero_le _, hG2, by rw [hsz, Nat.mul_one], by simp [ivs]⟩⟩, fun k e => by
      have : w.heap.size = k := by simpa [Value.ownBlock] using e
      omega, (Kept.refl _ _).drew.alloc _⟩
    clear hcs hsz hGe hG hG2
    go_enter Try.func87, Try.ntmps87
    go_wp2_with (at_builtin; refine Lib.wpList_append_run _ rfl _ _ _ _ rfl _ _ rfl rfl _ _ (hrz _) ?_)
    all_goals (go_ret; exact ⟨_, rfl, HE.out⟩)

set_option maxHeartbeats 1600000 in
theorem concat_any (P : Option Addr) (m c : Nat) (L : List (List Int)) (w : World) (hp : Parts w P m L (fun _ => False)) (hm : m ≤ 1048576) (hl : L.flatten.length ≤ 1073741824) :
    Calls Try.prog 58 #[.slice P m c] w fun e w' => ∃ u, e = .returned u ∧ NewRow w w' 5 .u8 u L.flatten := by
  obtain ⟨i0, hi, hz0, hz1, hz2⟩ := info_parts Try.infoByteN
  have HP := Lib.hid hp
  have hLm := hp.len
  have hself : ((m : Int) < (m : Int)) = False := by simp
  clear hp
  go_enter Try.func58, Try.ntmps58
  go_wp2_with fail
  go_loopw [3, 11] (fun s i wr => ∃ j : Nat, j ≤ m ∧ i = .int .i64 j ∧ s = .int .i64 ((L.take j).flatten.length : Nat) ∧ w = wr) (fun _ i _ => (m - intOf i).toNat)
  case atStart => exact ⟨0, by omega, rfl, rfl, rfl⟩
  case round =>
    obtain ⟨j, hj, rfl, rfl, rfl⟩ := hrel
    by_cases hlt : j < m
    · obtain ⟨b, o, A, n, cA, rfl, hb, _, hc, hr, _⟩ := HP.out.at_ j hlt
      have hft := flat_take (L := L) (j := j) (by omega)
      have hfl := flat_le (L := L) (j := j) (by omega)
      have hn := hr.len
      have ij : (j : Int) < (m : Int) := by omega
      have hsum : ((L.take (j + 1)).flatten.length : Int) = ((L.take j).flatten.length : Int) + (n : Int) := by rw [hft, List.length_append, hn]; omega
      have HS := Lib.hid hsum
      have hpos : ¬ ((L.take j).flatten.length : Int) + (n : Int) < 0 := by omega
      have hw : IntKind.i64.wrap (((L.take j).flatten.length : Int) + (n : Int)) = ((L.take j).flatten.length : Int) + (n : Int) := IntWalk.i64_in _ (by omega)
      clear hft hfl hsum hr
      generalize (L.take j).flatten.length = s at *
      go_wp2_with fail
      go_roundw
      case rel => exact ⟨j + 1, by omega, by go_num, by rw [HS.out], trivial⟩
      case measure => simp [intOf]; omega
    · obtain rfl : j = m := by omega
      have ht : L.take j = L := List.take_of_length_le (by omega)
      rw [ht]
      have HG := Lib.hid (grow_nil L.flatten.length w hl)
      clear ht
      generalize hfl : L.flatten.length = fl at *
      go_wp2_with fail
      refine HG.out.mono ?_
      rintro e w1 ⟨v, rfl, hv⟩
      go_wp2_with fail
      go_loopw [6, 27] (fun v i w2 => ∃ k : Nat, k ≤ j ∧ i = .int .i64 k ∧ NewRow w w2 5 .u8 v (L.take k).flatten) (fun _ i _ => (j - intOf i).toNat)
      case atStart => exact ⟨0, by omega, rfl, by simpa using hv⟩
      case round =>
        obtain ⟨k, hk, rfl, hv2⟩ := hrel
        by_cases hlt2 : k < j
        · obtain ⟨b, o, A, n, cA, rfl, hb, _, hc', hr', _⟩ := HP.out.at_ k hlt2
          have hc := (hv2.2.2.cell (p := ⟨b, o + k, none⟩) hb id).trans hc'
          have hr := hr'.kept hv2.2.2 (fun _ _ _ _ => id)
          have hft := flat_take (L := L) (j := k) (by omega)
          have hfl2 := flat_le (L := L) (j := k) (by omega)
          have hn := hr.len
          have Hft := Lib.hid hft
          have HV := Lib.hid hv2
          have hbd : (L.take k).flatten.length + n ≤ 1073741824 := by rw [← hn]; omega
          clear hc' hr' hft hfl2 hv2
          go_wp2_with (at_builtin; refine wpList_app _ rfl (.tmp 31) (.tmp 32) 22 rfl 5 i0 .u8 1 Try.underlying22 hi hz0 hz1 hz2 _ _ rfl HV.out.1 A n cA _ rfl hr (by unfold maxLen; omega) (by omega) ?_)
          intro v2 w3 ho3 hg3 hat3
          have hv3 : NewRow w w3 5 .u8 v2 (L.take (k + 1)).flatten := by
            rw [Hft.out, show L.getD k [] = L[k]'(by omega) by simp [List.getD, show k < L.length by omega]]
            refine ⟨ho3, fun q e => ?_, HV.out.2.2.trans ((Kept.refl _ _).grown hg3 (fun q e _ => e)) fun i hi e => ?_⟩
            · rcases hat3 with e2 | e2
              · exact HV.out.2.1 q (e2 ▸ e)
              · rw [e2] at e; injection e with e; have := HV.out.2.2.size; omega
            · have := HV.out.2.1 i e
              omega
          have H3 := Lib.hid hv3
          clear ho3 hg3 hat3 hv3 HV
          go_wp2_with fail
          go_roundw
          case rel => exact ⟨k + 1, by omega, by go_num, H3.out⟩
          case measure => simp [intOf]; omega
        · obtain rfl : k = j := by omega
          rw [List.take_of_length_le (by omega)] at hv2
          have HV := Lib.hid hv2
          clear hv2
          go_wp2_with fail
          go_ret
          exact ⟨_, rfl, HV.out⟩

end Go.Proofs.Ythfifpapkknodaa

/- The code of husk: what a file has around the part that is packed otherwise, written and read. -/
namespace Go.Proofs.Ythfifpapkknodaa
open Go.RowKit
set_option maxRecDepth 100000

attribute [local go_sem ↓] Go.wp_at_zero Go.wp_at_succ

set_option maxHeartbeats 1600000 in
/-- Write. -/
theorem hWrite_any (g : Nat) (v : Value) (bs : List Int) (size : Nat) (A : Option Addr) (n c : Nat) (hd : List Int) (B : Option Addr) (m d : Nat) (tl : List Int) (w : World) (h : NW w g v bs)
    (hr : Row w .u8 A n hd) (hA : ∀ b o, A = some ⟨b, o, none⟩ → 0 < n → ¬ NFoot g v b) (hs : Row w .u8 B m tl) (hB : ∀ b o, B = some ⟨b, o, none⟩ → 0 < m → ¬ NFoot g v b)
    (hz : size ≤ 9223372036854775807) (hl : bs.length + n + m ≤ 100000000000000) :
    Calls Try.prog 16 #[.pointer (some ⟨g, 0, none⟩), .int .i64 size, .slice A n c, .slice B m d] w fun e w' => e = .returned (.tuple #[]) ∧ NPost w w' g v (bs ++ (sv size ++ (tx hd ++ tx tl))) := by
  have hlA := hr.len
  have hlB := hs.len
  have far : ∀ (D : Option Addr) (k : Nat) (xs : List Int), Row w .u8 D k xs → (∀ b o, D = some ⟨b, o, none⟩ → 0 < k → ¬ NFoot g v b) → ∀ X v1, Kept (NFoot g v) w X → (∀ k, v1.ownBlock = some k → v.ownBlock = some k ∨ w.heap.size ≤ k) →
      Row X .u8 D k xs ∧ (∀ b o, D = some ⟨b, o, none⟩ → 0 < k → ¬ NFoot g v1 b) := fun D k xs hr hD X v1 hk hv => by
    refine ⟨hr.kept hk hD, fun b o e h0 hf => ?_⟩
    have hn := hD b o e h0
    obtain ⟨b', o', e', hb', _⟩ := hr.at_ 0 h0
    rw [e] at e'
    injection e' with e'
    injection e' with e1 _
    rcases hf with hf | hf
    · exact hn (.inl hf)
    · rcases hv b hf with hv | hv
      · exact hn (.inr hv)
      · omega
  have h10 := sv_le10 size (by omega)
  have hn10 := sv_le10 n (by omega)
  have HA : Hid (∀ X v1, Kept (NFoot g v) w X → (∀ k, v1.ownBlock = some k → v.ownBlock = some k ∨ w.heap.size ≤ k) → NW X g v1 (bs ++ sv size) →
      Calls Try.prog 29 #[.pointer (some ⟨g, 0, none⟩), .slice A n c] X fun e w' => e = .returned (.tuple #[]) ∧ NPost X w' g v1 (bs ++ sv size ++ sv n ++ hd)) := Lib.hid fun X v1 hk hv hw => by
    obtain ⟨a1, a2⟩ := far A n hd hr hA X v1 hk hv
    exact nText_any g v1 _ A n c hd X hw a1 a2 (by rw [List.length_append]; omega)
  have HB : Hid (∀ X v1, Kept (NFoot g v) w X → (∀ k, v1.ownBlock = some k → v.ownBlock = some k ∨ w.heap.size ≤ k) → NW X g v1 (bs ++ sv size ++ sv n ++ hd) →
      Calls Try.prog 29 #[.pointer (some ⟨g, 0, none⟩), .slice B m d] X fun e w' => e = .returned (.tuple #[]) ∧ NPost X w' g v1 (bs ++ sv size ++ sv n ++ hd ++ sv m ++ tl)) := Lib.hid fun X v1 hk hv hw => by
    obtain ⟨a1, a2⟩ := far B m tl hs hB X v1 hk hv
    exact nText_any g v1 _ B m d tl X hw a1 a2 (by simp only [List.length_append]; omega)
  have HE : Hid (bs ++ (sv size ++ (tx hd ++ tx tl)) = bs ++ sv size ++ sv n ++ hd ++ sv m ++ tl) := Lib.hid (by unfold tx; rw [hlA, hlB]; simp only [List.append_assoc])
  have HN := Lib.hid (nNum_any g v bs size w h (by omega) (by omega))
  rw [HE.out]
  have i1 : IntKind.u64.wrap (size : Int) = (size : Int) := IntWalk.u64_in _ (by omega)
  clear hr hs hA hB h hlA hlB h10 hn10 hl HE far
  go_enter Try.func16, Try.ntmps16
  go_wp2_with fail
  refine HN.out.mono ?_
  rintro e w1 ⟨rfl, v1, hw1, hv1, hk1⟩
  have HT := Lib.hid (HA.out w1 v1 hk1 hv1 hw1)
  have H1 := Lib.hid (And.intro hv1 hk1)
  clear hw1 hv1 hk1 HN HA
  go_wp2_with fail
  refine HT.out.mono ?_
  rintro e w2 ⟨rfl, hp2⟩
  have hp2 := NPost.trans H1.out.1 H1.out.2 hp2
  obtain ⟨v2, hw2, hv2, hk2⟩ := hp2
  have HU := Lib.hid (HB.out w2 v2 hk2 hv2 hw2)
  have H2 := Lib.hid (And.intro hv2 hk2)
  clear hw2 hv2 hk2 HT HB H1
  go_wp2_with fail
  refine HU.out.mono ?_
  rintro e w3 ⟨rfl, hp3⟩
  have H3 := Lib.hid (NPost.trans H2.out.1 H2.out.2 hp3)
  clear hp3 HU H2
  go_wp2_with fail
  go_end0
  exact ⟨rfl, H3.out⟩

/-- Three texts in a list of their own. -/
theorem Parts.three {w : World} {A B C : Option Addr} {n m k c d e : Nat} {x y z : List Int} (t : TypeId) (hx : Row w .u8 A n x) (hy : Row w .u8 B m y) (hz : Row w .u8 C k z) :
    Parts (w.alloc (.cells #[.slice A n c, .slice B m d, .slice C k e] t)) (some ⟨w.heap.size, 0, none⟩) 3 [x, y, z] (fun _ => False) :=
  ⟨rfl, fun j hj => by
    have hf : Fresh w (w.alloc (.cells #[.slice A n c, .slice B m d, .slice C k e] t)) := (Kept.refl _ _).alloc _
    have hb := Blk.new w t #[.slice A n c, .slice B m d, .slice C k e]
    rcases (show j = 0 ∨ j = 1 ∨ j = 2 by omega) with rfl | rfl | rfl
    · exact ⟨_, 0, A, n, c, rfl, hb.lt, id, (hb.cell 0).trans rfl, hx.kept hf (fun _ _ _ _ => id), fun _ _ _ _ => id⟩
    · exact ⟨_, 0, B, m, d, rfl, hb.lt, id, (hb.cell 1).trans rfl, hy.kept hf (fun _ _ _ _ => id), fun _ _ _ _ => id⟩
    · exact ⟨_, 0, C, k, e, rfl, hb.lt, id, (hb.cell 2).trans rfl, hz.kept hf (fun _ _ _ _ => id), fun _ _ _ _ => id⟩⟩

/-- What reading it leaves. -/
def BlPost (g : Nat) (t : TypeId) (ext : List Value) (A : Option Addr) (c : Nat) (xs : List Int) (w : World) (m : Nat) (e : Ending) (w' : World) : Prop :=
  ∃ u, e = .returned (.tuple #[u, .int .i64 (blkA xs m).1]) ∧ Own w' 5 .u8 u (blkA xs m).2 ∧ (∀ k, u.ownBlock = some k → w.heap.size ≤ k) ∧ ((blkA xs m).1 = 0 → NRd w' g t ext A c xs (blkT xs m).2.1 0) ∧ Mine g w w'

set_option maxHeartbeats 3200000 in
/-- Read. -/
theorem hRead_any (g : Nat) (t : TypeId) (ext : List Value) (A : Option Addr) (c : Nat) (xs : List Int) (most : Int) (w : World) (h : NRd w g t ext A c xs 0 0) :
    Calls Try.prog 42 #[.pointer (some ⟨g, 0, none⟩), .int .i64 most] w (BlPost g t ext A c xs w (mst most)) := by
  obtain ⟨m, hms⟩ : ∃ m, m = mst most := ⟨_, rfl⟩
  have hm : m ≤ 1048576 := by rw [hms]; exact (mst_le most).1
  have hmx : min (max most 0) 1048576 = (m : Int) := by rw [hms]; unfold mst; omega
  rw [← hms]
  clear hms
  obtain ⟨i0, hi, hz0, hz1, hz2⟩ := info_parts Try.infoByteN
  have hgw : g < w.heap.size := h.blk.lt
  have HN := Lib.hid (nrNum_any g t ext A c xs 0 0 w h)
  have hfit := nx_fits g t ext A c xs 0 0 w h
  have hl1 : (blkH xs m).1.length ≤ m := txt_le _ _ _ _
  have hl2 : (blkT xs m).1.length ≤ m := txt_le _ _ _ _
  have HE : Hid (blkA xs m = if m < (nx xs 0 0).1 then (5, []) else if (blkT xs m).2.2 ≠ 0 then ((blkT xs m).2.2, []) else if (nx xs 0 0).1 < (blkH xs m).1.length + (blkT xs m).1.length then (4, []) else (0, (blkH xs m).1 ++ (List.replicate ((nx xs 0 0).1 - (blkH xs m).1.length - (blkT xs m).1.length) 0 ++ (blkT xs m).1))) := Lib.hid rfl
  have HHt : Hid (txt xs (nx xs 0 0).2.1 (nx xs 0 0).2.2 m = blkH xs m) := Lib.hid rfl
  have HTt : Hid (txt xs (blkH xs m).2.1 (blkH xs m).2.2 m = blkT xs m) := Lib.hid rfl
  clear h
  generalize hTq : blkT xs m = bt at *
  generalize blkH xs m = bh at *
  obtain ⟨hd, p2, e2⟩ := bh
  obtain ⟨tl, p3, e3⟩ := bt
  have HTq := Lib.hid hTq
  clear hTq
  generalize nx xs 0 0 = a at *
  obtain ⟨v, p1, e1⟩ := a
  simp only [] at *
  have m0 : (0 : Int) ≤ (m : Int) ∧ (m : Int) ≤ 1048576 := by omega
  have hwm : IntKind.u64.wrap (m : Int) = (m : Int) := IntWalk.u64_in _ (by omega)
  go_enter Try.func42, Try.ntmps42
  go_wp2_with fail
  refine HN.out.mono ?_
  rintro e w1 ⟨rfl, h1, hk1⟩
  have HX1 : Hid (∀ V, Fresh w1 V → Calls Try.prog 56 #[.pointer (some ⟨g, 0, none⟩), .int .i64 m] V (TextPost g t ext A c xs V (hd, p2, e2))) := Lib.hid fun V hV => by
    have := nrText_any g t ext A c xs p1 e1 m V (by omega) (h1.kept hV id (fun _ _ _ _ => id))
    rwa [HHt.out] at this
  have HX2 : Hid (∀ V, NRd V g t ext A c xs p2 e2 → Calls Try.prog 56 #[.pointer (some ⟨g, 0, none⟩), .int .i64 m] V (TextPost g t ext A c xs V (tl, p3, e3))) := Lib.hid fun V hV => by
    have := nrText_any g t ext A c xs p2 e2 m V (by omega) hV
    rwa [HTt.out] at this
  have HF1 : Hid (Mine g w w1) := Lib.hid hk1
  by_cases hbig : m < v
  · have hbi : (m : Int) < (v : Int) := by omega
    have HQ : Hid (blkA xs m = (5, [])) := Lib.hid (by rw [HE.out, if_pos hbig])
    clear hbig h1 hk1 HE HX1 HX2 HN
    go_wp2_with fail
    go_ret2
    unfold BlPost
    rw [HQ.out]
    exact ⟨_, rfl, Own.nil _ _ _, fun k e => (by cases e), fun e => (by cases e), HF1.out⟩
  · have hbi : ¬ (m : Int) < (v : Int) := by omega
    clear h1 hk1 HN
    go_wp2_with fail
    refine (HX1.out _ (Kept.refl _ w1)).mono ?_
    rintro e w2 ⟨u2, rfl, hu2, hun2, h2, hk2⟩
    go_wp2_with fail
    refine (HX2.out _ h2).mono ?_
    rintro e w3 ⟨u3, rfl, hu3, hun3, h3, hk3⟩
    all_goals
      have hk13 : Mine g w1 w3 := Kept.trans (T := fun k => k = g) hk2 hk3 fun _ _ e => e
      have hk03 : Mine g w w3 := HF1.out.trans hk13 fun _ _ e => e
      have hw1z : w.heap.size ≤ w1.heap.size := HF1.out.size
      have hun2' : ∀ k, u2.ownBlock = some k → w1.heap.size ≤ k := hun2
      have hu2' := hu2.kept hk3 (fun k e e2 => by have := hun2' k e; omega)
      obtain ⟨Bh, bh, rfl, hrh, _⟩ := hu2'.row
      obtain ⟨Bt, bt, rfl, hrt, _⟩ := hu3.row
      have HEr := Lib.hid (nrErr_any g t ext A c xs p3 e3 w3 h3)
      have H3 := Lib.hid (And.intro h3 (And.intro hk03 (And.intro hrh hrt)))
      clear hu2 hun2 h2 hk2 hun2' hu2' hu3 hun3 hk3 h3 hk13 hk03 hrh hrt HX1 HX2
      by_cases he : e3 = 0
      · subst he
        obtain ⟨lh, hlh⟩ : ∃ lh, lh = hd.length := ⟨_, rfl⟩
        obtain ⟨lt, hlt⟩ : ∃ lt, lt = tl.length := ⟨_, rfl⟩
        rw [← hlh] at hl1
        rw [← hlt] at hl2
        rw [← hlh, ← hlt] at HE
        rw [← hlh, ← hlt]
        have HL := Lib.hid (And.intro hlh hlt)
        clear hlh hlt
        have i1 : IntKind.i64.wrap (v : Int) = (v : Int) := IntWalk.i64_in _ (by omega)
        by_cases hz : v < lh + lt
        · have i2 : IntKind.i64.wrap ((v : Int) - (lh : Int)) = (v : Int) - (lh : Int) := IntWalk.i64_in _ (by omega)
          have i3 : IntKind.i64.wrap ((v : Int) - (lh : Int) - (lt : Int)) = (v : Int) - (lh : Int) - (lt : Int) := IntWalk.i64_in _ (by omega)
          have i4 : (v : Int) - (lh : Int) - (lt : Int) < 0 := by omega
          have HQ : Hid (blkA xs m = (4, [])) := Lib.hid (by rw [HE.out, if_neg hbig, if_neg (by simp), if_pos hz])
          clear HE hz hbig
          go_wp2_with fail
          refine HEr.out.mono ?_
          rintro e w4 ⟨rfl, rfl⟩
          go_wp2_with fail
          go_ret2
          unfold BlPost
          rw [HQ.out]
          exact ⟨_, rfl, Own.nil _ _ _, fun k e => (by cases e), fun e => (by cases e), H3.out.2.1⟩
        · obtain ⟨z, hzz⟩ : ∃ z, z = v - lh - lt := ⟨_, rfl⟩
          have i2 : (v : Int) - (lh : Int) - (lt : Int) = (z : Int) := by omega
          have i4 : ¬ (v : Int) - (lh : Int) - (lt : Int) < 0 := by omega
          have i5 : ¬ (z : Int) < 0 := by omega
          have i6 : IntKind.i64.wrap ((v : Int) - (lh : Int)) = (v : Int) - (lh : Int) := IntWalk.i64_in _ (by omega)
          have i7 : IntKind.i64.wrap (z : Int) = (z : Int) := IntWalk.i64_in _ (by omega)
          have HQ : Hid (blkA xs m = (0, hd ++ (List.replicate z 0 ++ tl))) := Lib.hid (by rw [HE.out, if_neg hbig, if_neg (by simp), if_neg hz, hzz])
          have hzl : z ≤ 1048576 := by omega
          clear HE hz hbig hzz
          go_wp2_with fail
          refine HEr.out.mono ?_
          rintro e w4 ⟨rfl, rfl⟩
          go_wp2_with (at_make; refine wpList_make_zeros _ rfl _ _ 22 rfl 5 i0 .u8 1 Try.underlying22 hi hz0 hz1 hz2 .i64 .i64 (z : Int) (z : Int) z rfl rfl rfl rfl (by omega) (by unfold maxLen; omega) ?_)
          intro w5 ho5 hf5
          obtain ⟨_, _, ez, hrz, _⟩ := ho5.row
          rw [List.length_replicate] at ez hrz
          injection ez with ez1 _ ez3
          subst ez1 ez3
          have hP := Parts.three (c := bh) (d := z) (e := bt) 22 (H3.out.2.2.1.kept hf5 (fun _ _ _ _ => id)) hrz (H3.out.2.2.2.kept hf5 (fun _ _ _ _ => id))
          have HC := Lib.hid (concat_any (some ⟨w5.heap.size, 0, none⟩) 3 3 [hd, List.replicate z 0, tl] _ hP (by omega) (by simp only [List.flatten_cons, List.flatten_nil, List.length_append, List.length_replicate, List.length_nil]; have := HL.out; omega))
          have H5 := Lib.hid hf5
          rw [← HL.out.1, ← HL.out.2] at HC
          clear ho5 hrz hP hf5
          go_wp2_with fail
          refine HC.out.mono ?_
          rintro e w6 ⟨u6, rfl, hu6⟩
          have hf36 : Fresh w3 w6 := (H5.out.alloc _).trans hu6.2.2 fun _ _ e => e
          have H6 := Lib.hid (And.intro hu6.1 (And.intro (fun k e => Nat.le_trans (H5.out.alloc (.cells #[.slice Bh lh bh, .slice (some ⟨w3.heap.size, 0, none⟩) z z, .slice Bt lt bt] 22)).size (hu6.2.1 k e)) hf36))
          clear hu6 hf36 HC
          go_wp2_with fail
          go_ret2
          unfold BlPost
          rw [HQ.out, HTq.out]
          refine ⟨_, rfl, by simpa using H6.out.1, fun k e => Nat.le_trans H3.out.2.1.size (H6.out.2.1 k e), fun _ => H3.out.1.kept H6.out.2.2 id (fun _ _ _ _ => id), H3.out.2.1.trans H6.out.2.2 fun _ _ e => e.elim⟩
      · have heb : (e3 != 0) = true := by simpa using he
        have HQ : Hid (blkA xs m = (e3, [])) := Lib.hid (by rw [HE.out, if_neg hbig, if_pos he])
        have HNz := Lib.hid he
        clear he HE hbig
        generalize hd.length = lh at *
        generalize tl.length = lt at *
        go_wp2_with fail
        refine HEr.out.mono ?_
        rintro e w4 ⟨rfl, rfl⟩
        go_wp2_with fail
        go_ret2
        unfold BlPost
        rw [HQ.out]
        exact ⟨_, rfl, Own.nil _ _ _, fun k e => (by cases e), fun e => absurd e HNz.out, H3.out.2.1⟩

end Go.Proofs.Ythfifpapkknodaa

/- Image's packer: rows packed. -/
namespace Go.Proofs.Ythfifpapkknodaa
open Go.RowKit
set_option maxRecDepth 100000

attribute [local go_sem ↓] Go.wp_at_zero Go.wp_at_succ

/-- Three texts in a list of their own, none in what may be turned. -/
theorem Parts.threeF {w : World} {A B C : Option Addr} {n m k c d e : Nat} {x y z : List Int} {F : Nat → Prop} (t : TypeId) (hx : Row w .u8 A n x) (hy : Row w .u8 B m y) (hz : Row w .u8 C k z)
    (hA : ∀ b o, A = some ⟨b, o, none⟩ → 0 < n → ¬ F b) (hB : ∀ b o, B = some ⟨b, o, none⟩ → 0 < m → ¬ F b) (hC : ∀ b o, C = some ⟨b, o, none⟩ → 0 < k → ¬ F b) (hF : ¬ F w.heap.size) :
    Parts (w.alloc (.cells #[.slice A n c, .slice B m d, .slice C k e] t)) (some ⟨w.heap.size, 0, none⟩) 3 [x, y, z] F :=
  ⟨rfl, fun j hj => by
    have hf : Fresh w (w.alloc (.cells #[.slice A n c, .slice B m d, .slice C k e] t)) := (Kept.refl _ _).alloc _
    have hb := Blk.new w t #[.slice A n c, .slice B m d, .slice C k e]
    rcases (show j = 0 ∨ j = 1 ∨ j = 2 by omega) with rfl | rfl | rfl
    · exact ⟨_, 0, A, n, c, rfl, hb.lt, hF, (hb.cell 0).trans rfl, hx.kept hf (fun _ _ _ _ => id), hA⟩
    · exact ⟨_, 0, B, m, d, rfl, hb.lt, hF, (hb.cell 1).trans rfl, hy.kept hf (fun _ _ _ _ => id), hB⟩
    · exact ⟨_, 0, C, k, e, rfl, hb.lt, hF, (hb.cell 2).trans rfl, hz.kept hf (fun _ _ _ _ => id), hC⟩⟩

set_option maxHeartbeats 6400000 in
theorem cPackR_any (a b p s f q : Nat) (g : Nat) (v : Value) (bs : List Int) (A : Option Addr) (n c : Nat) (ls : List Int) (w : World) (h : NW w g v bs) (hr : Row w .u8 A n ls) (h8 : B8 ls) (hq : a * p = q) (hn : b * s = n) (hb1 : 1 ≤ b) (hq1 : 1 ≤ q) (hqs : q ≤ s) (hp : p = 1 ∨ p = 3)
    (hn2 : n ≤ 1048576) (hnc : n ≤ c) (hl : bs.length ≤ 100000000) :
    Calls Try.prog 18 #[.agg (pkc a b p s f q), .pointer (some ⟨g, 0, none⟩), .slice A n c] w fun e w' => e = .returned (.tuple #[]) ∧ NPost w w' g v (bs ++ rowR ls (a, b, p, s, f)) := by
  have hln := hr.len
  have hbn : b ≤ n := by rw [← hn]; exact Nat.le_mul_of_pos_right _ (by omega)
  have hbq : b * q ≤ n := by rw [← hn]; exact Nat.mul_le_mul_left b hqs
  have hqn : q ≤ b * q := Nat.le_mul_of_pos_left _ (by omega)
  obtain ⟨W0, hW0⟩ : ∃ W0, W0 = w.alloc (.cells (pkc a b p s f q) 44) := ⟨_, rfl⟩
  have hf0 : Fresh w W0 := by rw [hW0]; exact (Kept.refl _ _).alloc _
  have hb0 : Blk W0 w.heap.size 44 (pkc a b p s f q) := by rw [hW0]; exact Blk.new _ _ _
  obtain ⟨X, hX⟩ : ∃ X, X = pixR ls (a, b, p, s, f) := ⟨_, rfl⟩
  obtain ⟨Y, hY⟩ : ∃ Y, Y = fllR ls (a, b, p, s, f) := ⟨_, rfl⟩
  obtain ⟨K, hK⟩ : ∃ K, K = kinR ls (a, b, p, s, f) := ⟨_, rfl⟩
  obtain ⟨L, hL⟩ : ∃ L, L = lefR ls (a, b, p, s, f) := ⟨_, rfl⟩
  have hwd : wdI (a, b, p, s, f) = q := hq
  have hXl : X.length = b * q := by rw [hX]; unfold pixR; rw [hwd]; exact cutN_length (b := ls) (S := s) (n := q) (K := b) (Nat.le_of_eq (hn.trans hln.symm)) hqs
  have hX8 : B8 X := by rw [hX]; exact cutN_byte h8 _ _ _
  have hYl : Y.length = b * (s - q) := by rw [hY]; unfold fllR; rw [hwd]; exact behN_length (b := ls) (S := s) (n := q) (K := b) (Nat.le_of_eq (hn.trans hln.symm))
  have hap : apF (trP p X) q (plN (p : Nat)) = appR ls (a, b, p, s, f) := by rw [hX]; unfold appR; rw [hwd]
  have hal : (appR ls (a, b, p, s, f)).length = b * (1 + q) := by
    rw [← hap]
    unfold apF
    rw [trP_length, hXl, Nat.mul_div_cancel _ (by omega), apN_length _ (by rw [trP_length, hXl]; exact Nat.le_refl _), Nat.add_comm]
  have hKl : K.length = b := by rw [hK]; unfold kinR; rw [hwd]; have := cutN_length (b := appR ls (a, b, p, s, f)) (S := 1 + q) (n := 1) (K := b) (by rw [hal]; exact Nat.le_refl _) (by omega); rwa [Nat.mul_one] at this
  have hLl : L.length = b * q := by rw [hL]; unfold lefR; rw [hwd]; have := behN_length (b := appR ls (a, b, p, s, f)) (S := 1 + q) (n := 1) (K := b) (by rw [hal]; exact Nat.le_refl _); rwa [Nat.add_sub_cancel_left] at this
  have hbs : b * (s - q) ≤ n := by rw [← hn]; exact Nat.mul_le_mul_left b (Nat.sub_le _ _)
  have HC : Hid (Calls Try.prog 30 #[.slice A n c, .int .i64 (s : Int), .int .i64 (q : Int)] W0 fun e w' => ∃ u v, e = .returned (.tuple #[u, v]) ∧ NewRow W0 w' 5 .u8 u X ∧ NewRow W0 w' 5 .u8 v Y) := Lib.hid (by
    have := cCut_any A n c ls s q b W0 (hr.kept hf0 (fun _ _ _ _ => id)) hn (by omega) hb1 hqs hnc (by omega)
    rw [hX, hY]
    unfold pixR fllR
    rw [hwd]
    exact this)
  have HT : Hid (∀ V B d, Row V .u8 B X.length X → X.length ≤ d → Calls Try.prog 32 #[.int .i64 (p : Int), .slice B X.length d] V fun e w' => ∃ B' d', e = .returned (.slice B' X.length d') ∧ Row w' .u8 B' X.length (trP p X) ∧ X.length ≤ d' ∧ Fresh V w') := Lib.hid fun V B d hrow hd =>
    cTurnI_any p B X.length d X V hp hrow hX8 (by rw [hXl]; omega) hd
  have HA : Hid (∀ V B d, Row V .u8 B X.length (trP p X) → X.length ≤ d → Calls Try.prog 31 #[.agg #[.int .i64 (q : Int), .int .i64 (p : Int)], .slice B X.length d] V fun e w' => ∃ u v, e = .returned (.tuple #[u, v]) ∧
      NewRow V w' 5 .u8 u K ∧ NewRow V w' 5 .u8 v L) := Lib.hid fun V B d hrow hd => by
    have := cApplyR_any B X.length d (trP p X) q p b V hrow (trP_byte p hX8) hXl.symm hq1 hb1 hp (by rw [hXl]; omega) hd
    rw [hap] at this
    rw [hK, hL]
    unfold kinR lefR
    rw [hwd]
    exact this
  have HP : Hid (∀ V B d, Row V .u8 B L.length L → L.length ≤ d → Calls Try.prog 34 #[.int .i64 (p : Int), .slice B L.length d] V fun e w' => ∃ u, e = .returned u ∧ NewRow V w' 5 .u8 u (aprt L (colC (p : Nat)))) := Lib.hid fun V B d hrow hd =>
    cApartI_any p B L.length d L V hrow (by rw [hLl]; omega) hd
  have HE : Hid (rowR ls (a, b, p, s, f) = [Y, K, aprt L (colC (p : Nat))].flatten) := Lib.hid (by rw [hY, hK, hL]; unfold rowR; simp)
  have HW : Hid (∀ V, Fresh w V → NW V g v bs) := Lib.hid fun V hV => h.kept hV (fun _ _ => id)
  have HF : Hid (∀ k, NFoot g v k → k < w.heap.size) := Lib.hid h.lt
  have hgw : g < w.heap.size := h.lt g (.inl rfl)
  have HLn : Hid (Y.length ≤ 1048576 ∧ K.length ≤ 1048576 ∧ (aprt L (colC (p : Nat))).length ≤ 1048576 ∧ bs.length ≤ 100000000) := Lib.hid ⟨by omega, by omega, by rw [aprt_length, hLl]; omega, hl⟩
  have HB := Lib.hid (And.intro hf0 hb0)
  clear h hr h8 hq hn hX hY hK hL hwd hXl hX8 hYl hap hal hKl hLl hbs hf0 hb0 hln hbn hbq hqn hn2 hp hl
  rw [HE.out]
  have k3 : W0.cell? ⟨w.heap.size, 3, none⟩ = some (.int .i64 (s : Int)) := (HB.out.2.cell 3).trans rfl
  have k5 : W0.cell? ⟨w.heap.size, 5, none⟩ = some (.int .i64 (q : Int)) := (HB.out.2.cell 5).trans rfl
  unfold pkc at hW0 ⊢
  go_enter Try.func18, Try.ntmps18
  go_wp2_with fail
  rw [← hW0]
  clear hW0
  refine HC.out.mono ?_
  rintro e w1 ⟨x, y, rfl, hx, hy⟩
  have hf01 := HB.out.1.trans hx.2.2 fun _ _ e => e
  have hy1 := hy
  obtain ⟨C, dc, rfl, hrx, _⟩ := hx.1.row
  have hcx := hx.1.cap
  obtain ⟨D, dd, rfl, hry, hDo⟩ := hy.1.row
  have hYf : ∀ b' o', D = some ⟨b', o', none⟩ → w.heap.size ≤ b' := fun b' o' e => Nat.le_trans HB.out.1.size (hy.2.1 b' (hDo b' o' e))
  have hb1' := HB.out.2.kept hx.2.2 id
  have m5 : w1.cell? ⟨w.heap.size, 5, none⟩ = some (.int .i64 (q : Int)) := (hb1'.cell 5).trans rfl
  have m6 : w1.cell? ⟨w.heap.size, 6, none⟩ = some (.int .i64 (p : Int)) := (hb1'.cell 6).trans rfl
  have m7 : w1.cell? ⟨w.heap.size, 7, none⟩ = some (.int .i64 (p : Int)) := (hb1'.cell 7).trans rfl
  have H1 := Lib.hid (And.intro hf01 (And.intro hb1' (And.intro hry hYf)))
  clear hf01 hy hy1 hry hDo hYf hb1' k3 k5 HC hx
  go_wp2_with fail
  go_region_held3 (fun w' => w'.cell? ⟨w.heap.size, 5, none⟩ = some (.int .i64 (q : Int)) ∧ w'.cell? ⟨w.heap.size, 6, none⟩ = some (.int .i64 (p : Int)) ∧ w'.cell? ⟨w.heap.size, 7, none⟩ = some (.int .i64 (p : Int)))
    (first | go_keep | exact ⟨((H1.out.2.1.kept hf3 id).cell 5).trans rfl, ((H1.out.2.1.kept hf3 id).cell 6).trans rfl, ((H1.out.2.1.kept hf3 id).cell 7).trans rfl⟩ | exact ⟨((H1.out.2.1.kept hf4 id).cell 5).trans rfl, ((H1.out.2.1.kept hf4 id).cell 6).trans rfl, ((H1.out.2.1.kept hf4 id).cell 7).trans rfl⟩)
    (first
      | (go_at_call 32; (with_reducible refine (HT.out _ C dc (hrx.kept (Kept.refl (fun _ => False) w1).drew (fun _ _ _ _ => id)) hcx).mono ?_); rintro e w3 ⟨B', d', rfl, hrt, hct, hft⟩
         have hf3 : Fresh w1 w3 := (Kept.refl (fun _ => False) w1).drew.trans hft fun _ _ e => e)
      | (go_at_call 31; (with_reducible refine (HA.out _ B' d' hrt hct).mono ?_); rintro e w4 ⟨z, y', rfl, hz, hy'⟩
         have hf4 : Fresh w1 w4 := hf3.trans hz.2.2 fun _ _ e => e))
  have hf04 : Fresh w w4 := H1.out.1.trans hf4 fun _ _ e => e
  have hf03 : Fresh w w3 := H1.out.1.trans hf3 fun _ _ e => e
  have hy4 := H1.out.2.2.1.kept hf4 (fun _ _ _ _ => id)
  obtain ⟨E, de, rfl, hre, hEo⟩ := hz.1.row
  obtain ⟨G, dg, rfl, hrg, _⟩ := hy'.1.row
  have hcg := hy'.1.cap
  have hEf : ∀ b' o', E = some ⟨b', o', none⟩ → w.heap.size ≤ b' := fun b' o' e => Nat.le_trans hf03.size (hz.2.1 b' (hEo b' o' e))
  have m7 : w4.cell? ⟨w.heap.size, 7, none⟩ = some (.int .i64 (p : Int)) := ((H1.out.2.1.kept hf4 id).cell 7).trans rfl
  have HAp := Lib.hid (HP.out w4 G dg hrg hcg)
  have H4 := Lib.hid (And.intro hf04 (And.intro hy4 (And.intro hre hEf)))
  clear hf04 hf03 hy4 hre hEo hEf hz hy' hrg hcg hf4 hf3 hft hrt hct m5 m6 HT HA HP hrx hcx
  generalize hyl : Y.length = ly at *
  generalize hkl : K.length = lk at *
  generalize L.length = ll at *
  go_wp2_with fail
  refine HAp.out.mono ?_
  rintro e w5 ⟨t, rfl, ht⟩
  have hf05 : Fresh w w5 := H4.out.1.trans ht.2.2 fun _ _ e => e
  obtain ⟨T, dt, rfl, hrt, hTo⟩ := ht.1.row
  have hnf : ∀ k, w.heap.size ≤ k → ¬ NFoot g v k := fun k hk hf => by have := HF.out k hf; omega
  have hP := Parts.threeF (c := dd) (d := de) (e := dt) (F := NFoot g v) 22 (H4.out.2.1.kept ht.2.2 (fun _ _ _ _ => id)) (H4.out.2.2.1.kept ht.2.2 (fun _ _ _ _ => id)) hrt
    (fun b' o' e _ => hnf _ (H1.out.2.2.2 b' o' e)) (fun b' o' e _ => hnf _ (H4.out.2.2.2 b' o' e)) (fun b' o' e _ => hnf _ (Nat.le_trans H4.out.1.size (ht.2.1 b' (hTo b' o' e)))) (hnf _ hf05.size)
  obtain ⟨M, hM⟩ : ∃ M, M = aprt L (colC (p : Nat)) := ⟨_, rfl⟩
  rw [← hM] at hP HLn ⊢
  have HMe := Lib.hid hM
  clear hM
  generalize hlm : M.length = lm at hP ⊢
  clear hlm
  obtain ⟨W6, hW6⟩ : ∃ W6, W6 = w5.alloc (.cells #[.slice D ly dd, .slice E lk de, .slice T lm dt] 22) := ⟨_, rfl⟩
  rw [← hW6] at hP
  have hf56 : Fresh w5 W6 := by rw [hW6]; exact (Kept.refl _ _).alloc _
  have hf6 := hf05.trans hf56 fun _ _ e => e
  have HR := Lib.hid (nRaw_any g v bs (some ⟨w5.heap.size, 0, none⟩) 3 3 [Y, K, M] W6 (HW.out W6 hf6) hP (by omega) (by simp only [List.flatten_cons, List.flatten_nil, List.length_append, List.length_nil]; have := HLn.out; omega))
  have H6 := Lib.hid hf6
  clear hP hf05 hf56 hf6 ht hrt hTo hnf HAp HW
  go_wp2_with fail
  rw [← hW6]
  refine HR.out.mono ?_
  rintro e w7 ⟨rfl, hn7⟩
  have H7 := Lib.hid (NPost.after H6.out hn7)
  clear hn7 HR hW6
  go_wp2_with fail
  go_end0
  rw [← HMe.out]
  exact ⟨rfl, H7.out⟩

end Go.Proofs.Ythfifpapkknodaa

/- Image's Pack. -/
namespace Go.Proofs.Ythfifpapkknodaa
open Go.RowKit
set_option maxRecDepth 100000

attribute [local go_sem ↓] Go.wp_at_zero Go.wp_at_succ

theorem pk_at {V : World} {g a b p s f q : Nat} (h : Blk V g 44 (pkc a b p s f q)) : V.cell? ⟨g, 0, none⟩ = some (.int .i64 (a : Int)) ∧ V.cell? ⟨g, 1, none⟩ = some (.int .i64 (b : Int)) ∧ V.cell? ⟨g, 2, none⟩ = some (.int .i64 (p : Int)) ∧ V.cell? ⟨g, 3, none⟩ = some (.int .i64 (s : Int)) ∧ V.cell? ⟨g, 4, none⟩ = some (.int .i64 (f : Int)) ∧ V.cell? ⟨g, 5, none⟩ = some (.int .i64 (q : Int)) ∧ V.cell? ⟨g, 6, none⟩ = some (.int .i64 (p : Int)) ∧ V.cell? ⟨g, 7, none⟩ = some (.int .i64 (p : Int)) :=
  ⟨(h.cell 0).trans rfl, (h.cell 1).trans rfl, (h.cell 2).trans rfl, (h.cell 3).trans rfl, (h.cell 4).trans rfl, (h.cell 5).trans rfl, (h.cell 6).trans rfl, (h.cell 7).trans rfl⟩

set_option maxHeartbeats 6400000 in
theorem cPackI_any (A : Option Addr) (n c : Nat) (bs : List Int) (r : Nat × Nat × Nat × Nat × Nat) (w : World) (hr : Row w .u8 A n bs) (hb : ∀ x ∈ bs, 0 ≤ x ∧ x < 256) (hn : n ≤ 1048576) (hnc : n ≤ c) (hp : picP bs = some r) :
    Calls Try.prog 8 #[.slice A n c] w fun e w' => ∃ u, e = .returned (.tuple #[u, .bool true]) ∧ NewRow w w' 5 .u8 u (ipR bs r) := by
  have hlen := hr.len
  have hP := PcI.of hp
  have hil := (ipR_len hp (by omega)).2
  have h8 : B8 (linR bs r) := slc_byte _ _ hb
  have hll := linR_length (hlen ▸ hP : PcI bs.length r)
  have HPa : Hid (Calls Try.prog 14 #[.slice A n c] w fun e w' => e = .returned (.tuple #[pval (picP bs), .bool (picP bs).isSome]) ∧ Fresh w w') := Lib.hid (cPic_any A n c bs w hr hb (by omega) hnc)
  rw [hp] at HPa
  unfold pval at HPa
  have hwi := hP.wide_in
  obtain ⟨a, b, p, s, f⟩ := r
  obtain ⟨q, hq⟩ : ∃ q, q = wdI (a, b, p, s, f) := ⟨_, rfl⟩
  have hqe : a * p = q := hq.symm
  rw [← hq] at hwi
  have h1 := hP.high
  have h2 : p = 1 ∨ p = 3 := hP.plan
  have h3 : q ≤ s := by rw [hq]; exact hP.row
  have h4 : f + b * s ≤ n := by rw [← hlen]; exact hP.all
  simp only [] at HPa h1 hil hll
  obtain ⟨m, hm⟩ : ∃ m, m = b * s := ⟨_, rfl⟩
  obtain ⟨t, ht⟩ : ∃ t, t = f + m := ⟨_, rfl⟩
  have htn : t ≤ n := by rw [ht, hm]; exact h4
  have hft : f ≤ t := by omega
  have hsb : s * b = m := by rw [hm, Nat.mul_comm]
  have hfar : farI (a, b, p, s, f) = t := by rw [ht, hm]; rfl
  have hq6 : q ≤ 1048576 := by omega
  have HPo : Hid (∀ V, Calls Try.prog 15 #[.agg #[.int .i64 (a : Int), .int .i64 (b : Int), .int .i64 (p : Int), .int .i64 (s : Int), .int .i64 (f : Int)]] V fun e w' => e = .returned (.agg (pkc a b p s f q)) ∧ Fresh V w') := Lib.hid fun V => cPackerOf_any a b p s f q V hqe hq6
  have HEn : Hid (∀ V, Calls Try.prog 17 #[.agg (pkc a b p s f q)] V fun e w' => e = .returned (.int .i64 (t : Int)) ∧ Fresh V w') := Lib.hid fun V => cEnd_any a b p s f q m t V hsb ht.symm (by omega)
  have hsz1 : ∀ w, (sizeOf 5).run Try.prog w = .ok 1 w := fun w => by kernel_rfl
  have HS1 : Hid (∀ V, (Instr.slice 22 (.slice A n c) none (some (.int .i64 (f : Int))) none).run Try.prog V = .ok (.slice A f c) V) := Lib.hid fun V => run_slice_upto 22 5 Try.underlying22 hsz1 A n c f (f : Int) rfl (by omega) V
  have HS2 : Hid (∀ V, (Instr.slice 22 (.slice A n c) (some (.int .i64 (t : Int))) none none).run Try.prog V = .ok (.slice (cutAt A t c) (n - t) (c - t)) V) := Lib.hid fun V => run_slice_from 22 5 Try.underlying22 hsz1 A n c t htn V
  have HS3 : Hid (∀ V, (Instr.slice 22 (.slice A n c) (some (.int .i64 (f : Int))) (some (.int .i64 (t : Int))) none).run Try.prog V = .ok (.slice (cutAt A f c) m (c - f)) V) := Lib.hid fun V => by
    have := run_slice_part (P := Try.prog) 22 5 Try.underlying22 hsz1 A n c f t (t : Int) rfl hft (by omega) V
    rwa [show t - f = m by omega] at this
  have hAw : ∀ b' o', A = some ⟨b', o', none⟩ → 0 < n → b' < w.heap.size := fun b' o' e h0 => by
    obtain ⟨b2, o2, e2, hb2, _⟩ := hr.at_ 0 h0
    rw [e] at e2
    injection e2 with e2
    injection e2 with e2 _
    omega
  have HWr : Hid (∀ V g, Fresh w V → w.heap.size ≤ g → NW V g (.slice none 0 0) [] → Calls Try.prog 16 #[.pointer (some ⟨g, 0, none⟩), .int .i64 (n : Int), .slice A f c, .slice (cutAt A t c) (n - t) (c - t)] V fun e w' =>
      e = .returned (.tuple #[]) ∧ NPost V w' g (.slice none 0 0) (sv n ++ (tx (bs.take f) ++ tx (bs.drop t)))) := Lib.hid fun V g hV hg hw => by
    have hrV := hr.kept hV (fun _ _ _ _ => id)
    have r2 := hrV.cut (l := t) (m := n - t) (c := c) (by omega) hnc
    rw [List.take_of_length_le (by rw [List.length_drop]; omega)] at r2
    have := hWrite_any g (.slice none 0 0) [] n A f c (bs.take f) (cutAt A t c) (n - t) (c - t) (bs.drop t) V hw (hrV.take (by omega))
      (fun b' o' e h0 hf => by
        have := hAw b' o' e (by omega)
        rcases hf with hf | hf
        · omega
        · cases hf) r2
      (fun b' o' e h0 hf => by
        obtain ⟨_, o2, e2⟩ := hrV.cut_block (l := t) (m := n - t) (c := c) (by omega) hnc b' o' e h0
        have := hAw b' o2 e2 (by omega)
        rcases hf with hf | hf
        · omega
        · cases hf) (by omega) (by simp only [List.length_nil]; omega)
    rwa [List.nil_append] at this
  have HPk : Hid (∀ V g v bs', Fresh w V → (∀ k, NFoot g v k → w.heap.size ≤ k) → NW V g v bs' → bs'.length ≤ 100000000 → Calls Try.prog 18 #[.agg (pkc a b p s f q), .pointer (some ⟨g, 0, none⟩), .slice (cutAt A f c) m (c - f)] V fun e w' =>
      e = .returned (.tuple #[]) ∧ NPost V w' g v (bs' ++ rowR (linR bs (a, b, p, s, f)) (a, b, p, s, f))) := Lib.hid fun V g v bs' hV hg hw hl => by
    have hrV := hr.kept hV (fun _ _ _ _ => id)
    have r2 := hrV.cut (l := f) (m := m) (c := c) (by omega) hnc
    have e : (bs.drop f).take m = linR bs (a, b, p, s, f) := by rw [hm]; rfl
    rw [e] at r2
    exact cPackR_any a b p s f q g v bs' (cutAt A f c) m (c - f) (linR bs (a, b, p, s, f)) V hw r2 h8 hqe hm.symm h1.1 hwi.1 h3 h2 (by omega) (by omega) hl
  have HE : Hid (ipR bs (a, b, p, s, f) = (sv n ++ (tx (bs.take f) ++ tx (bs.drop t))) ++ rowR (linR bs (a, b, p, s, f)) (a, b, p, s, f)) := Lib.hid (by unfold ipR; rw [hfar, hlen]; simp only [List.append_assoc])
  have HLn : Hid ((sv n ++ (tx (bs.take f) ++ tx (bs.drop t))).length ≤ 100000000) := Lib.hid (by
    have g1 := sv_le10 n (by omega)
    have g2 := tx_le (xs := bs.take f) (by rw [List.length_take]; omega)
    have g3 := tx_le (xs := bs.drop t) (by rw [List.length_drop]; omega)
    rw [List.length_take] at g2
    rw [List.length_drop] at g3
    simp only [List.length_append]
    omega)
  have HIl : Hid ((ipR bs (a, b, p, s, f)).length ≤ 140737488355328) := Lib.hid (by omega)
  have n0 : ¬ (1048576 : Int) < (n : Int) := by omega
  clear hr hb hn hlen hP hil h8 hll hp hwi hq hqe h1 h2 h3 h4 hm ht htn hft hsb hfar hq6 hAw
  go_enter Try.func8, Try.ntmps8
  go_wp2_with fail
  refine HPa.out.mono ?_
  rintro e w1 ⟨rfl, hf1⟩
  clear HPa
  obtain ⟨W2, hW2⟩ : ∃ W2, W2 = w1.alloc (.cells #[.int .i64 (a : Int), .int .i64 (b : Int), .int .i64 (p : Int), .int .i64 (s : Int), .int .i64 (f : Int)] 28) := ⟨_, rfl⟩
  have hf2 : Fresh w W2 := by rw [hW2]; exact hf1.alloc _
  have HPo' := Lib.hid (HPo.out W2)
  have H2 := Lib.hid hf2
  clear hf1 hf2 HPo
  go_wp2_with fail
  rw [← hW2]
  clear hW2
  refine HPo'.out.mono ?_
  rintro e w3 ⟨rfl, hf3⟩
  obtain ⟨W4, hW4⟩ : ∃ W4, W4 = w3.alloc (.cells (pkc a b p s f q) 44) := ⟨_, rfl⟩
  obtain ⟨W5, hW5⟩ : ∃ W5, W5 = W4.alloc (.cells #[.slice none 0 0] 47) := ⟨_, rfl⟩
  have hf03 : Fresh w w3 := H2.out.trans hf3 fun _ _ e => e
  have hf34 : Fresh w3 W4 := by rw [hW4]; exact (Kept.refl _ _).alloc _
  have hf45 : Fresh W4 W5 := by rw [hW5]; exact (Kept.refl _ _).alloc _
  have hb4 : Blk W4 w3.heap.size 44 (pkc a b p s f q) := by rw [hW4]; exact Blk.new _ _ _
  have hb5 := hb4.kept hf45 id
  have hw5 : NW W5 W4.heap.size (.slice none 0 0) [] := by rw [hW5]; exact NW.new W4
  have hz4 : W4.heap.size = w3.heap.size + 1 := by rw [hW4]; simp
  have hz3 : w.heap.size ≤ w3.heap.size := hf03.size
  have hf05 : Fresh w W5 := (hf03.trans hf34 fun _ _ e => e).trans hf45 fun _ _ e => e
  have HX : Hid (∀ V bs', NPost W5 V W4.heap.size (.slice none 0 0) bs' → Fresh w V ∧ Blk V w3.heap.size 44 (pkc a b p s f q)) := Lib.hid fun V bs' ⟨v', _, _, hk⟩ =>
    And.intro (hf05.trans hk fun i hi e => by
        rcases e with e | e
        · omega
        · cases e) (hb5.kept hk fun e => by
        rcases e with e | e
        · omega
        · cases e)
  have H5 := Lib.hid (And.intro hw5 (And.intro hf05 (And.intro hb5 hz3)))
  unfold pkc at hW4
  clear hf3 hf03 hf34 hf45 hb4 hb5 hw5 hf05 HPo'
  obtain ⟨k0, k1, k2, k3, k4, k5, k6, k7⟩ := pk_at H5.out.2.2.1
  unfold pkc at HEn HPk
  unfold pkc
  go_wp2_with fail
  rw [hz4.symm, ← hW4, ← hW5]
  have Hz4 := Lib.hid hz4
  clear hW4 hW5 hz4
  have hs1 := HS1.out
  have hs2 := HS2.out
  clear HS1 HS2
  go_region_held3 (fun w' => w'.cell? ⟨w3.heap.size, 0, none⟩ = some (.int .i64 (a : Int)) ∧ w'.cell? ⟨w3.heap.size, 1, none⟩ = some (.int .i64 (b : Int)) ∧ w'.cell? ⟨w3.heap.size, 2, none⟩ = some (.int .i64 (p : Int)) ∧ w'.cell? ⟨w3.heap.size, 3, none⟩ = some (.int .i64 (s : Int)) ∧ w'.cell? ⟨w3.heap.size, 4, none⟩ = some (.int .i64 (f : Int)) ∧ w'.cell? ⟨w3.heap.size, 5, none⟩ = some (.int .i64 (q : Int)) ∧ w'.cell? ⟨w3.heap.size, 6, none⟩ = some (.int .i64 (p : Int)) ∧ w'.cell? ⟨w3.heap.size, 7, none⟩ = some (.int .i64 (p : Int)))
    (first | go_keep | exact pk_at (H5.out.2.2.1.kept hf6 id) | exact pk_at (HX.out _ _ hn7).2)
    (first
      | (go_at_call 17; (with_reducible refine (HEn.out _).mono ?_); rintro e w6 ⟨rfl, hf6'⟩
         have hf6 : Fresh W5 w6 := (Kept.refl (fun _ => False) W5).drew.trans hf6' fun _ _ e => e)
      | (go_at_call 16; (with_reducible refine (HWr.out _ _ (H5.out.2.1.trans hf6 fun _ _ e => e) (by have := Hz4.out; omega) (H5.out.1.kept hf6 (fun _ _ => id))).mono ?_); rintro e w7 ⟨rfl, hn7'⟩
         have hn7 := NPost.after hf6 hn7'))
  obtain ⟨HD, hHD⟩ : ∃ HD, HD = sv n ++ (tx (bs.take f) ++ tx (bs.drop t)) := ⟨_, rfl⟩
  rw [← hHD] at hn7 HLn HE
  obtain ⟨hfw7, hb7⟩ := HX.out _ _ hn7
  obtain ⟨v7, hw7, hv7, hk7⟩ := hn7
  have H7 := Lib.hid (And.intro hw7 (And.intro hv7 (And.intro hk7 (And.intro hfw7 hb7))))
  obtain ⟨k0, k1, k2, k3, k4, k5, k6, k7⟩ := pk_at hb7
  have HnF : Hid (∀ k, NFoot W4.heap.size v7 k → w.heap.size ≤ k ∧ k ≠ w3.heap.size) := Lib.hid fun k hk => by
    have h1 := Hz4.out
    have h2 := H5.out.2.2.2
    have h3 := H5.out.2.2.1.lt
    rcases hk with hk | hk
    · omega
    · rcases H7.out.2.1 k hk with e | e
      · cases e
      · have := H5.out.2.1.size
        omega
  clear hw7 hv7 hk7 hfw7 hb7 hn7' hf6 hf6' HWr hs1 hs2 hHD
  generalize cutAt A t c = CT at *
  have hs3 := HS3.out
  clear HS3
  go_wp2_with fail
  go_region_held3 (fun w' => w'.cell? ⟨w3.heap.size, 0, none⟩ = some (.int .i64 (a : Int)) ∧ w'.cell? ⟨w3.heap.size, 1, none⟩ = some (.int .i64 (b : Int)) ∧ w'.cell? ⟨w3.heap.size, 2, none⟩ = some (.int .i64 (p : Int)) ∧ w'.cell? ⟨w3.heap.size, 3, none⟩ = some (.int .i64 (s : Int)) ∧ w'.cell? ⟨w3.heap.size, 4, none⟩ = some (.int .i64 (f : Int)) ∧ w'.cell? ⟨w3.heap.size, 5, none⟩ = some (.int .i64 (q : Int)) ∧ w'.cell? ⟨w3.heap.size, 6, none⟩ = some (.int .i64 (p : Int)) ∧ w'.cell? ⟨w3.heap.size, 7, none⟩ = some (.int .i64 (p : Int)))
    (first | go_keep | exact pk_at (H7.out.2.2.2.2.kept hf8 id) | exact pk_at (H7.out.2.2.2.2.kept hk9 fun e => (HnF.out _ e).2 rfl))
    (first
      | (go_at_call 17; (with_reducible refine (HEn.out _).mono ?_); rintro e w8 ⟨rfl, hf8'⟩
         have hf8 : Fresh w7 w8 := (Kept.refl (fun _ => False) w7).drew.trans hf8' fun _ _ e => e)
      | (go_at_call 18; (with_reducible refine (HPk.out _ _ _ _ (H7.out.2.2.2.1.trans hf8 fun _ _ e => e) (fun k e => (HnF.out k e).1) (H7.out.1.kept hf8 (fun _ _ => id)) HLn.out).mono ?_); rintro e w9 ⟨rfl, hn9'⟩
         have hn9 := NPost.after hf8 hn9'
         have hk9 : Kept (NFoot W4.heap.size v7) w7 w9 := by obtain ⟨_, _, _, hk⟩ := hn9; exact hk))
  have hn := NPost.trans H7.out.2.1 H7.out.2.2.1 hn9
  rw [← HE.out] at hn
  have hfw9 := (HX.out _ _ hn).1
  obtain ⟨v9, hw9, hv9, _⟩ := hn
  have HBy := Lib.hid (nBytes_any W4.heap.size v9 _ w9 hw9 HIl.out)
  have H9 := Lib.hid hfw9
  clear hw9 hv9 hfw9 hn9 hn9' hf8 hf8' hk9 HPk HEn hs3 k0 k1 k2 k3 k4 k5 k6 k7
  go_wp2_with fail
  refine HBy.out.mono ?_
  rintro e w10 ⟨u, rfl, hu⟩
  obtain ⟨U, du, eu, _, _⟩ := hu.1.row
  generalize (ipR bs (a, b, p, s, f)).length = lu at eu
  have HU := Lib.hid (And.intro eu (hu.behind H9.out))
  rw [eu]
  clear eu hu HBy
  go_wp2_with fail
  go_ret2
  rw [← HU.out.1]
  exact ⟨_, rfl, HU.out.2⟩

set_option maxHeartbeats 1600000 in
/-- .. of no picture. -/
theorem cPackINo_any (A : Option Addr) (n c : Nat) (bs : List Int) (w : World) (hr : Row w .u8 A n bs) (hb : ∀ x ∈ bs, 0 ≤ x ∧ x < 256) (hn : n ≤ 1048576) (hnc : n ≤ c) (hp : picP bs = none) :
    Calls Try.prog 8 #[.slice A n c] w fun e w' => e = .returned (.tuple #[.slice none 0 0, .bool false]) ∧ Fresh w w' := by
  have HP := Lib.hid (cPic_any A n c bs w hr hb (by omega) hnc)
  rw [hp] at HP
  unfold pval at HP
  have n0 : ¬ (1048576 : Int) < (n : Int) := by omega
  clear hr hb hp
  go_enter Try.func8, Try.ntmps8
  go_wp2_with fail
  refine HP.out.mono ?_
  rintro e w1 ⟨rfl, hf1⟩
  have HF := Lib.hid hf1
  clear hf1 HP
  go_wp2_with fail
  go_ret2
  exact ⟨rfl, HF.out.alloc _⟩

/-- Pack, whatever the file is. -/
theorem cPackIO_any (A : Option Addr) (n c : Nat) (bs : List Int) (w : World) (hr : Row w .u8 A n bs) (hb : ∀ x ∈ bs, 0 ≤ x ∧ x < 256) (hn : n ≤ 1048576) (hnc : n ≤ c) :
    Calls Try.prog 8 #[.slice A n c] w fun e w' => ∃ u ok, e = .returned (.tuple #[u, .bool ok]) ∧ NewRow w w' 5 .u8 u (ipC bs) := by
  rcases hp : picP bs with _ | r
  · refine (cPackINo_any A n c bs w hr hb hn hnc hp).mono fun e w' h => ⟨_, _, h.1, ?_⟩
    unfold ipC
    rw [hp]
    exact ⟨Own.nil _ _ _, fun k e => (by cases e), h.2⟩
  · refine (cPackI_any A n c bs r w hr hb hn hnc hp).mono fun e w' h => ?_
    obtain ⟨u, he, hu⟩ := h
    refine ⟨u, _, he, ?_⟩
    unfold ipC
    rw [hp]
    exact hu

end Go.Proofs.Ythfifpapkknodaa

/- Image's packer: rows unpacked. -/
namespace Go.Proofs.Ythfifpapkknodaa
open Go.RowKit
set_option maxRecDepth 100000

attribute [local go_sem ↓] Go.wp_at_zero Go.wp_at_succ

/-- What reading rows leaves. -/
def RwPost (g : Nat) (w : World) (R : Int × List Int) (e : Ending) (w' : World) : Prop :=
  ∃ u, e = .returned (.tuple #[u, .int .i64 R.1]) ∧ Own w' 5 .u8 u R.2 ∧ (∀ k, u.ownBlock = some k → w.heap.size ≤ k) ∧ Mine g w w'

/-- A list that was told, as a row: kept as long as the reader alone is turned. -/
theorem Own.told {w : World} {v : Value} {xs : List Int} {lo : Nat} (h : Own w 5 .u8 v xs) (hl : ∀ k, v.ownBlock = some k → lo ≤ k) :
    ∃ B d, v = .slice B xs.length d ∧ Row w .u8 B xs.length xs ∧ xs.length ≤ d ∧ ∀ b o, B = some ⟨b, o, none⟩ → lo ≤ b := by
  have hc := h
  obtain ⟨B, d, rfl, hr, ho⟩ := h.row
  exact ⟨B, d, rfl, hr, hc.cap, fun b o e => hl b (ho b o e)⟩

set_option maxHeartbeats 6400000 in
theorem cUnpackR_any (a b p s f q : Nat) (g : Nat) (t : TypeId) (ext : List Value) (A : Option Addr) (c : Nat) (xs : List Int) (P : Nat) (w : World) (h : NRd w g t ext A c xs P 0) (hq : a * p = q) (hb1 : 1 ≤ b) (hq1 : 1 ≤ q) (hqs : q ≤ s) (hp : p = 1 ∨ p = 3) (hn2 : b * s ≤ 1048576) :
    Calls Try.prog 43 #[.agg (pkc a b p s f q), .pointer (some ⟨g, 0, none⟩)] w (RwPost g w (rowI xs P (a, b, p, s, f))) := by
  have hbn : b ≤ b * s := Nat.le_mul_of_pos_right _ (by omega)
  have hbq : b * q ≤ b * s := Nat.mul_le_mul_left b hqs
  have hsn : s ≤ b * s := Nat.le_mul_of_pos_left _ (by omega)
  have hbs : b * (s - q) ≤ b * s := Nat.mul_le_mul_left b (Nat.sub_le _ _)
  obtain ⟨W0, hW0⟩ : ∃ W0, W0 = w.alloc (.cells (pkc a b p s f q) 44) := ⟨_, rfl⟩
  have hf0 : Fresh w W0 := by rw [hW0]; exact (Kept.refl _ _).alloc _
  have hb0 : Blk W0 w.heap.size 44 (pkc a b p s f q) := by rw [hW0]; exact Blk.new _ _ _
  have hwd : wdI (a, b, p, s, f) = q := hq
  have h8 := h.byte
  obtain ⟨sq, hsq⟩ : ∃ sq, sq = s - q := ⟨_, rfl⟩
  obtain ⟨M1, hM1⟩ : ∃ M1, M1 = sq * b := ⟨_, rfl⟩
  obtain ⟨M3, hM3⟩ : ∃ M3, M3 = q * b := ⟨_, rfl⟩
  have hM1b : M1 ≤ 1048576 := by rw [hM1, hsq, Nat.mul_comm]; omega
  have hM3b : M3 ≤ 1048576 := by rw [hM3, Nat.mul_comm]; omega
  obtain ⟨R1, hR1⟩ : ∃ R1, R1 = tk xs P 0 M1 := ⟨_, rfl⟩
  obtain ⟨R2, hR2⟩ : ∃ R2, R2 = tk xs R1.2.1 R1.2.2 b := ⟨_, rfl⟩
  obtain ⟨R3, hR3⟩ : ∃ R3, R3 = tk xs R2.2.1 R2.2.2 M3 := ⟨_, rfl⟩
  obtain ⟨E, hE⟩ : ∃ E, E = rdEnd (xs.length - R3.2.1) R3.2.2 := ⟨_, rfl⟩
  have g1 : rd1 xs P (a, b, p, s, f) = R1 := by rw [hR1, hM1, hsq, ← hwd]; rfl
  have g2 : rd2 xs P (a, b, p, s, f) = R2 := by rw [hR2, ← g1]; rfl
  have g3 : rd3 xs P (a, b, p, s, f) = R3 := by rw [hR3, hM3, ← g2, ← hwd]; rfl
  have gE : rdE xs P (a, b, p, s, f) = E := by rw [hE, ← g3]; rfl
  have hlen : E = 0 → R1.1.length = b * sq ∧ R2.1.length = b ∧ R3.1.length = b * q := fun e => by
    have := RdI.of (gE.trans e)
    have l1 := this.l1
    have l2 := this.l2
    have l3 := this.l3
    rw [g1] at l1
    have l1 : R1.1.length = b * sq := by rw [hsq, ← hwd]; exact l1
    rw [g2] at l2
    rw [g3, hwd] at l3
    exact ⟨l1, l2, l3⟩
  obtain ⟨T, hT⟩ : ∃ T, T = splI R2.1 (tgth R3.1 (colC (p : Nat))) 1 q b := ⟨_, rfl⟩
  obtain ⟨G, hG⟩ : ∃ G, G = unK T q (plN (p : Nat)) := ⟨_, rfl⟩
  have HE : Hid (rowI xs P (a, b, p, s, f) = if E ≠ 0 then (E, []) else if G.1 ≠ 0 then (G.1, []) else (0, splI (bcP p G.2) R1.1 q sq b)) := Lib.hid (by
    have et : togR xs P (a, b, p, s, f) = T := by rw [hT, ← hwd, ← g2, ← g3]; rfl
    unfold rowI
    rw [gE, et, hwd]
    by_cases e0 : E = 0
    · rw [if_neg (show ¬ E ≠ 0 by omega), if_neg (show ¬ E ≠ 0 by omega)]
      rw [hG]
      unfold unK
      by_cases hk : kndF T q
      · rw [if_pos hk, if_pos hk, if_neg (by simp)]
        unfold unR0
        rw [et, hwd, g1, hsq]
      · rw [if_neg hk, if_neg hk, if_pos (by simp)]
    · rw [if_pos e0, if_pos e0])
  have hG1 : G.1 = 0 → G.2 = udF T q (plN (p : Nat)) := fun e => by
    rw [hG] at e ⊢
    unfold unK at e ⊢
    split
    · rfl
    · rename_i hk
      rw [if_neg hk] at e
      cases e
  have hgw : g < w.heap.size := h.blk.lt
  have HN1 := Lib.hid (nrRaw_any g t ext A c xs P 0 W0 (M1 : Int) (by omega) (h.kept hf0 id (fun _ _ _ _ => id)))
  rw [Int.toNat_natCast, ← hR1] at HN1
  have HN2 : Hid (∀ V, NRd V g t ext A c xs R1.2.1 R1.2.2 → Calls Try.prog 59 #[.pointer (some ⟨g, 0, none⟩), .int .i64 (b : Int)] V (TextPost g t ext A c xs V R2)) := Lib.hid fun V hV => by
    have := nrRaw_any g t ext A c xs R1.2.1 R1.2.2 V (b : Int) (by omega) hV
    rwa [Int.toNat_natCast, ← hR2] at this
  have HN3 : Hid (∀ V, NRd V g t ext A c xs R2.2.1 R2.2.2 → Calls Try.prog 59 #[.pointer (some ⟨g, 0, none⟩), .int .i64 (M3 : Int)] V (TextPost g t ext A c xs V R3)) := Lib.hid fun V hV => by
    have := nrRaw_any g t ext A c xs R2.2.1 R2.2.2 V (M3 : Int) (by omega) hV
    rwa [Int.toNat_natCast, ← hR3] at this
  have HNE : Hid (∀ V, NRd V g t ext A c xs R3.2.1 R3.2.2 → Calls Try.prog 60 #[.pointer (some ⟨g, 0, none⟩)] V fun e w' => e = .returned (.int .i64 E) ∧ ∃ n, w' = V.drewN n) := Lib.hid fun V hV => by
    rw [hE]
    exact nrEnd_any g t ext A c xs R3.2.1 R3.2.2 V (xs.length - R3.2.1) hV (by have := hV.le; omega)
  have HLn := Lib.hid hlen
  have H8 : Hid (B8 R1.1 ∧ B8 R2.1 ∧ B8 R3.1) := Lib.hid ⟨by rw [hR1]; exact tk_b8 h8 _ _ _, by rw [hR2]; exact tk_b8 h8 _ _ _, by rw [hR3]; exact tk_b8 h8 _ _ _⟩
  have HTG := Lib.hid (And.intro hT (And.intro hG hG1))
  have e0 : (s : Int) - (q : Int) = (sq : Int) := by omega
  have e1 : (sq : Int) * (b : Int) = (M1 : Int) := by rw [hM1]; simp
  have e3 : (q : Int) * (b : Int) = (M3 : Int) := by rw [hM3]; simp
  have i0 : IntKind.i64.wrap (sq : Int) = (sq : Int) := IntWalk.i64_in _ (by omega)
  have i1 : IntKind.i64.wrap (M1 : Int) = (M1 : Int) := IntWalk.i64_in _ (by omega)
  have i3 : IntKind.i64.wrap (M3 : Int) = (M3 : Int) := IntWalk.i64_in _ (by omega)
  have HB := Lib.hid (And.intro hf0 (And.intro hb0 hgw))
  have HM := Lib.hid (And.intro hq (And.intro hn2 (And.intro hbn (And.intro hbq (And.intro hbs hsq)))))
  have kc : ∀ V, Mine g W0 V → Blk V w.heap.size 44 (pkc a b p s f q) := fun V hV => hb0.kept hV (by omega)
  have KC := Lib.hid kc
  have k1 : W0.cell? ⟨w.heap.size, 1, none⟩ = some (.int .i64 (b : Int)) := (hb0.cell 1).trans rfl
  have k3 : W0.cell? ⟨w.heap.size, 3, none⟩ = some (.int .i64 (s : Int)) := (hb0.cell 3).trans rfl
  have k5 : W0.cell? ⟨w.heap.size, 5, none⟩ = some (.int .i64 (q : Int)) := (hb0.cell 5).trans rfl
  clear h hq hn2 hbn hbq hsn hbs hf0 hb0 hwd h8 hsq hM1 hM3 hM1b hM3b hR1 hR2 hR3 hE g1 g2 g3 gE hlen hT hG hG1 hgw kc
  generalize rowI xs P (a, b, p, s, f) = RR at *
  unfold pkc at hW0 ⊢
  go_enter Try.func43, Try.ntmps43
  go_wp2_with fail
  rw [← hW0]
  clear hW0
  refine HN1.out.mono ?_
  rintro e w1 ⟨u1, rfl, ho1, hl1, hd1, hk1⟩
  have m1 : w1.cell? ⟨w.heap.size, 1, none⟩ = some (.int .i64 (b : Int)) := ((KC.out w1 hk1).cell 1).trans rfl
  have H1 := Lib.hid (And.intro ho1 (And.intro hl1 hk1))
  have HN2' := Lib.hid (HN2.out w1 hd1)
  clear ho1 hl1 hd1 hk1 HN1 HN2 k1 k3 k5
  go_wp2_with fail
  refine HN2'.out.mono ?_
  rintro e w2 ⟨u2, rfl, ho2, hl2, hd2, hk2⟩
  have hk02 : Mine g W0 w2 := H1.out.2.2.trans hk2 fun _ _ e => e
  have m1 : w2.cell? ⟨w.heap.size, 1, none⟩ = some (.int .i64 (b : Int)) := ((KC.out w2 hk02).cell 1).trans rfl
  have m5 : w2.cell? ⟨w.heap.size, 5, none⟩ = some (.int .i64 (q : Int)) := ((KC.out w2 hk02).cell 5).trans rfl
  have H2 := Lib.hid (And.intro ho2 (And.intro hl2 (And.intro hk2 hk02)))
  have HN3' := Lib.hid (HN3.out w2 hd2)
  clear ho2 hl2 hd2 hk2 hk02 HN2' HN3
  go_wp2_with fail
  refine HN3'.out.mono ?_
  rintro e w3 ⟨u3, rfl, ho3, hl3, hd3, hk3⟩
  have hk03 : Mine g W0 w3 := H2.out.2.2.2.trans hk3 fun _ _ e => e
  have hkw : Mine g w w3 := (HB.out.1.mono (T := fun k => k = g) fun _ _ e => e.elim).trans hk03 fun _ _ e => e
  have hz0 := HB.out.1.size
  have hz1 := H1.out.2.2.size
  have hz2 := H2.out.2.2.1.size
  have hgw := HB.out.2.2
  have o1 := (H1.out.1.kept H2.out.2.2.1 (fun k e e2 => by have := H1.out.2.1 k e; omega)).kept hk3 (fun k e e2 => by have := H1.out.2.1 k e; omega)
  have o2 := H2.out.1.kept hk3 (fun k e e2 => by have := H2.out.2.1 k e; omega)
  obtain ⟨B1, d1, rfl, r1, c1, f1⟩ := o1.told (lo := w.heap.size) (fun k e => by have := H1.out.2.1 k e; omega)
  obtain ⟨B2, d2, rfl, r2, c2, f2⟩ := o2.told (lo := w.heap.size) (fun k e => by have := H2.out.2.1 k e; omega)
  obtain ⟨B3, d3, rfl, r3, c3, f3⟩ := ho3.told (lo := w.heap.size) (fun k e => by have := hl3 k e; omega)
  have HNE' := Lib.hid (HNE.out w3 hd3)
  have H3 := Lib.hid (And.intro hk03 (And.intro hkw (And.intro r1 (And.intro c1 (And.intro r2 (And.intro c2 (And.intro r3 c3)))))))
  clear o1 o2 ho3 hl3 hd3 hk3 hk03 hkw r1 r2 r3 c1 c2 c3 f1 f2 f3 HNE HN3' m1 m5 H1 H2 hz0 hz1 hz2
  by_cases hE0 : E = 0
  · obtain ⟨l1, l2, l3⟩ := HLn.out hE0
    rw [l1, l2, l3] at H3 ⊢
    rw [if_neg (show ¬ E ≠ 0 by omega)] at HE
    subst hE0
    have HL := Lib.hid (And.intro l1 (And.intro l2 l3))
    have HTo : Hid (∀ V, Row V .u8 B3 (b * q) R3.1 → Calls Try.prog 62 #[.int .i64 (p : Int), .slice B3 (b * q) d3] V fun e w' => ∃ u, e = .returned u ∧ NewRow V w' 5 .u8 u (tgth R3.1 (colC (p : Nat)))) := Lib.hid fun V hV =>
      cTogI_any p B3 (b * q) d3 R3.1 V hV (by have := HM.out; omega) H3.out.2.2.2.2.2.2.2
    have HUn : Hid (∀ V B' d', Row V .u8 B2 b R2.1 → Row V .u8 B' (b * q) (tgth R3.1 (colC (p : Nat))) → b * q ≤ d' → Calls Try.prog 61 #[.agg #[.int .i64 (q : Int), .int .i64 (p : Int)], .slice B2 b d2, .slice B' (b * q) d'] V fun e w' =>
        ∃ u, e = .returned (.tuple #[u, .int .i64 G.1]) ∧ NewRow V w' 5 .u8 u G.2) := Lib.hid fun V B' d' h2 h3 hc => by
      have := cUndoR_any B2 b d2 R2.1 B' (b * q) d' (tgth R3.1 (colC (p : Nat))) q p V h2 h3 H8.out.2.1 (tgth_byte H8.out.2.2 _) rfl hb1 hq1 hp (by have := HM.out; omega) H3.out.2.2.2.2.2.1 hc
      rw [← HTG.out.1, ← HTG.out.2.1] at this
      exact this
    obtain ⟨N3, hN3⟩ : ∃ N3, N3 = b * q := ⟨_, rfl⟩
    have htl : Hid ((tgth R3.1 (colC (p : Nat))).length = N3) := Lib.hid (by rw [tgth_length, l3, hN3])
    obtain ⟨N1, hN1⟩ : ∃ N1, N1 = b * sq := ⟨_, rfl⟩
    rw [← hN3] at HTo HUn H3 ⊢
    rw [← hN1] at H3 ⊢
    have HN := Lib.hid (And.intro hN1 hN3)
    clear l1 l2 l3 hN1 hN3 HLn
    go_wp2_with fail
    refine HNE'.out.mono ?_
    rintro e w4 ⟨rfl, kk, rfl⟩
    have hb3 := KC.out _ (H3.out.1.drewN kk)
    have m5 : (w3.drewN kk).cell? ⟨w.heap.size, 5, none⟩ = some (.int .i64 (q : Int)) := (hb3.cell 5).trans rfl
    have m6 : (w3.drewN kk).cell? ⟨w.heap.size, 6, none⟩ = some (.int .i64 (p : Int)) := (hb3.cell 6).trans rfl
    have m7 : (w3.drewN kk).cell? ⟨w.heap.size, 7, none⟩ = some (.int .i64 (p : Int)) := (hb3.cell 7).trans rfl
    have q2 := H3.out.2.2.2.2.1.drewN kk
    have q3 := H3.out.2.2.2.2.2.2.1.drewN kk
    have q1 := H3.out.2.2.1.drewN kk
    have hkw := H3.out.2.1.drewN kk
    generalize w3.drewN kk = w4 at *
    clear HNE'
    have H4 := Lib.hid (And.intro q1 (And.intro hkw hb3))
    clear q1 hkw hb3
    go_wp2_with fail
    go_region_held3 (fun w' => w'.cell? ⟨w.heap.size, 5, none⟩ = some (.int .i64 (q : Int)) ∧ w'.cell? ⟨w.heap.size, 6, none⟩ = some (.int .i64 (p : Int)) ∧ w'.cell? ⟨w.heap.size, 7, none⟩ = some (.int .i64 (p : Int)))
      (first | go_keep | exact ⟨((H4.out.2.2.kept hf5 id).cell 5).trans rfl, ((H4.out.2.2.kept hf5 id).cell 6).trans rfl, ((H4.out.2.2.kept hf5 id).cell 7).trans rfl⟩ | exact ⟨((H4.out.2.2.kept hf6 id).cell 5).trans rfl, ((H4.out.2.2.kept hf6 id).cell 6).trans rfl, ((H4.out.2.2.kept hf6 id).cell 7).trans rfl⟩)
      (first
        | (go_at_call 62; (with_reducible refine (HTo.out _ (q3.kept (Kept.refl (fun _ => False) w4).drew (fun _ _ _ _ => id))).mono ?_); rintro e w5 ⟨z, rfl, hz⟩
           have hf5 : Fresh w4 w5 := (Kept.refl (fun _ => False) w4).drew.trans hz.2.2 fun _ _ e => e
           have hcz := hz.1
           obtain ⟨B', d', rfl, hrz, _⟩ := hz.1.row
           have hcz := hcz.cap
           rw [htl.out] at hrz hcz
           rw [htl.out])
        | (go_at_call 61; (with_reducible refine (HUn.out _ B' d' (q2.kept hf5 (fun _ _ _ _ => id)) hrz hcz).mono ?_); rintro e w6 ⟨y, rfl, hy⟩
           have hf6 : Fresh w4 w6 := hf5.trans hy.2.2 fun _ _ e => e))
    have hcy := hy.1
    obtain ⟨B', d', rfl, hry, _⟩ := hy.1.row
    have hcy := hcy.cap
    have hkw6 : Mine g w w6 := H4.out.2.1.trans hf6 fun _ _ e => e.elim
    have hb6 := H4.out.2.2.kept hf6 id
    have r16 := H4.out.1.kept hf6 (fun _ _ _ _ => id)
    have H6 := Lib.hid (And.intro hkw6 (And.intro hb6 r16))
    clear hy hz hrz hcz hf5 hf6 hkw6 r16 HTo HUn m5 m6 m7 q2 q3
    by_cases hG0 : G.1 = 0
    · have hGl : G.2.length = N3 := by
        rw [HTG.out.2.2 hG0]
        unfold udF
        have hTl : T.length = b * (1 + q) := by rw [HTG.out.1]; exact splI_length (by rw [HL.out.2.1]; omega) (by rw [tgth_length, HL.out.2.2]; exact Nat.le_refl _)
        rw [hTl, Nat.add_comm 1, Nat.mul_div_cancel _ (by omega), udN_length _ (by rw [hTl, Nat.add_comm 1]; exact Nat.le_refl _), HN.out.2]
      have hG8 : B8 G.2 := by rw [HTG.out.2.2 hG0]; exact udN_byte _ _ _ _
      rw [if_neg (show ¬ G.1 ≠ 0 by omega)] at HE
      rw [hGl] at hry hcy ⊢
      rw [hG0]
      have HBk : Hid (∀ V, Row V .u8 B' N3 G.2 → Calls Try.prog 64 #[.int .i64 (p : Int), .slice B' N3 d'] V fun e w' => ∃ C dc, e = .returned (.slice C N3 dc) ∧ Row w' .u8 C N3 (bcP p G.2) ∧ N3 ≤ dc ∧ Fresh V w') := Lib.hid fun V hV =>
        cBackI_any p B' N3 d' G.2 V hp hV hG8 (by have := HM.out; have := HN.out; omega) hcy
      have HSp : Hid (∀ V C dc, Row V .u8 C N3 (bcP p G.2) → N3 ≤ dc → Row V .u8 B1 N1 R1.1 → Calls Try.prog 63 #[.slice C N3 dc, .slice B1 N1 d1, .int .i64 (b : Int)] V fun e w' => ∃ u, e = .returned u ∧ NewRow V w' 5 .u8 u (splI (bcP p G.2) R1.1 q sq b)) := Lib.hid fun V C dc h2 hc h1 =>
        cSplice_any C N3 dc _ B1 N1 d1 _ b q sq V h2 h1 HN.out.2 HN.out.1 hb1 hc H3.out.2.2.2.1 (by have := HM.out; have := HN.out; omega) (by have h1 := HM.out; have h2 := HN.out; have h3 := h1.2.2.2.2.2; rw [h3] at h2; omega) (by have := HM.out; omega)
      have m1 : w6.cell? ⟨w.heap.size, 1, none⟩ = some (.int .i64 (b : Int)) := (hb6.cell 1).trans rfl
      have m7 : w6.cell? ⟨w.heap.size, 7, none⟩ = some (.int .i64 (p : Int)) := (hb6.cell 7).trans rfl
      clear hGl hG8 hb6 hG0
      go_wp2_with fail
      go_region_held3 (fun w' => w'.cell? ⟨w.heap.size, 7, none⟩ = some (.int .i64 (p : Int)) ∧ w'.cell? ⟨w.heap.size, 1, none⟩ = some (.int .i64 (b : Int)))
        (first | go_keep | exact ⟨((H6.out.2.1.kept hf7 id).cell 7).trans rfl, ((H6.out.2.1.kept hf7 id).cell 1).trans rfl⟩ | exact ⟨((H6.out.2.1.kept hf8 id).cell 7).trans rfl, ((H6.out.2.1.kept hf8 id).cell 1).trans rfl⟩)
        (first
          | (go_at_call 64; (with_reducible refine (HBk.out _ (hry.kept (Kept.refl (fun _ => False) w6).drew (fun _ _ _ _ => id))).mono ?_); rintro e w7 ⟨C, dc, rfl, hrc, hcc, hfc⟩
             have hf7 : Fresh w6 w7 := (Kept.refl (fun _ => False) w6).drew.trans hfc fun _ _ e => e)
          | (go_at_call 63; (with_reducible refine (HSp.out _ C dc hrc hcc (H6.out.2.2.kept hf7 (fun _ _ _ _ => id))).mono ?_); rintro e w8 ⟨x, rfl, hx⟩
             have hf8 : Fresh w6 w8 := hf7.trans hx.2.2 fun _ _ e => e))
      have hz6 := H6.out.1.size
      obtain ⟨X, dx, ex, _, _⟩ := hx.1.row
      generalize (splI (bcP p G.2) R1.1 q sq b).length = lx at ex
      have HX := Lib.hid ex
      have H8' := Lib.hid (And.intro hx.1 (And.intro (fun k e => Nat.le_trans (Nat.le_trans hz6 hf7.size) (hx.2.1 k e)) (H6.out.1.trans hf8 fun _ _ e => e.elim)))
      rw [ex]
      clear ex hx hf8 hf7 hrc hcc hfc HBk HSp m1 m7 hry hcy
      go_wp2_with fail
      go_ret2
      unfold RwPost
      rw [HE.out, ← HX.out]
      exact ⟨_, rfl, H8'.out.1, H8'.out.2.1, H8'.out.2.2⟩
    · have heb : (G.1 != 0) = true := by simpa using hG0
      have HQ : Hid (RR = (G.1, [])) := Lib.hid (by rw [HE.out, if_pos hG0])
      clear hG0 HE hry hcy hb6
      generalize G.2.length = lg at *
      generalize G.1 = e1 at *
      go_wp2_with fail
      go_ret2
      unfold RwPost
      rw [HQ.out]
      exact ⟨_, rfl, Own.nil _ _ _, fun k e => (by cases e), H6.out.1⟩
  · have heb : (E != 0) = true := by simpa using hE0
    have HQ : Hid (RR = (E, [])) := Lib.hid (by rw [HE.out, if_pos hE0])
    clear hE0 HE HLn
    generalize R1.1.length = l1 at *
    generalize R2.1.length = l2 at *
    generalize R3.1.length = l3 at *
    go_wp2_with fail
    refine HNE'.out.mono ?_
    rintro e w4 ⟨rfl, kk, rfl⟩
    have H4 := Lib.hid (H3.out.2.1.drewN kk)
    generalize w3.drewN kk = w4 at *
    go_wp2_with fail
    go_ret2
    unfold RwPost
    rw [HQ.out]
    exact ⟨_, rfl, Own.nil _ _ _, fun k e => (by cases e), H4.out⟩

end Go.Proofs.Ythfifpapkknodaa

/- Whole arrays out of a block and into one; copy into a block that is known whole; make whose cells are known. -/
namespace Go.Proofs.Ythfifpapkknodaa
open Go.RowKit

section
variable {P : Program} {w : World}
theorem Blk.rowed {g : Nat} {t : TypeId} {cs cs' : Array Value} (h : Blk w g t cs) : Blk (w.setRow g cs') g t cs' := by
  unfold Blk at h ⊢
  simp [World.setRow, Array.getElem?_modify, h]
theorem Kept.rowed {S : Nat → Prop} {a : World} (h : Kept S a w) {g : Nat} (cs : Array Value) (hg : g < a.heap.size → S g) : Kept S a (w.setRow g cs) :=
  ⟨h.os, h.tape, h.output, by simpa [World.setRow] using h.size, fun i hi hn => by
    have hne : g ≠ i := by rintro rfl; exact hn (hg hi)
    rw [← h.block i hi hn]
    simp [World.setRow, Array.getElem?_modify, hne]⟩

/-- The whole array that a block is. -/
theorem run_loadAt_blk {g n : Nat} {t ty e : TypeId} {cs : Array Value} (h : Blk w g t cs) (hu : P.underlying ty = some (.array n e)) (hi : (P.info? ty).map (·.size) = some cs.size) :
    (Instr.loadAt ty (.pointer (some ⟨g, 0, none⟩))).run P w = .ok (.agg cs) w := by
  simp only [Instr.loadAt, Instr.sureAddr, Sem.run_bind, Sem.run_pure, Result.andThen]
  exact run_loadVar_row _ _ _ _ cs (0, 0) _ h hu rfl hi
theorem run_loadVar_blk {g n : Nat} {t ty e : TypeId} {cs : Array Value} (h : Blk w g t cs) (hu : P.underlying ty = some (.array n e)) (hi : (P.info? ty).map (·.size) = some cs.size) :
    (loadVar ty ⟨g, 0, none⟩).run P w = .ok (.agg cs) w :=
  run_loadVar_row _ _ _ _ cs (0, 0) _ h hu rfl hi
theorem run_storeAt_blk {g : Nat} {t ty : TypeId} {cs cs' : Array Value} (h : Blk w g t cs) (hi : (P.info? ty).map (·.size) = some cs'.size) (hs : cs.size = cs'.size) (h1 : cs'.all (·.oneCell') = true) :
    (Instr.storeAt ty (.pointer (some ⟨g, 0, none⟩)) (.agg cs')).run P w = .ok () (w.setRow g cs') := by
  simp only [Instr.storeAt, Instr.sureAddr, Sem.run_bind, Sem.run_pure, Result.andThen]
  exact run_storeVar_row _ _ _ _ cs cs' h hi hs h1

/-- .. into the middle of one. -/
theorem run_storeAt_in {g o : Nat} {t ty : TypeId} {cur cs' : Array Value} (h : Blk w g t cur) (hi : (P.info? ty).map (·.size) = some cs'.size) (hfit : o + cs'.size ≤ cur.size) (h1 : cs'.all (·.oneCell') = true) :
    (Instr.storeAt ty (.pointer (some ⟨g, o, none⟩)) (.agg cs')).run P w = .ok () (w.setRow g (cur.toList.take o ++ cs'.toList ++ cur.toList.drop (o + cs'.size)).toArray) := by
  simp only [Instr.storeAt, Instr.sureAddr, Sem.run_bind, Sem.run_pure, Result.andThen]
  have := run_storeCells_at (P := P) g o t cs'.toList 0 cur w h (by simpa using hfit) (fun v hv => (Array.all_eq_true_iff_forall_mem.1 h1) v (by simpa using hv))
  cases hq : P.info? ty with
  | none => simp [hq] at hi
  | some i =>
    have hs : cs'.size = i.size := by simp [hq] at hi; omega
    simp [storeVar, sizeOf, typeInfo, hq, Value.cells, hs, this]

theorem wpList_load_eq {ops : Array Oper} {rest : List Oper} {o : Oper} {a : Act} {Q : Exit → Act → World → Prop} (hgd : o.guard = none) (x : Operand) (t : TypeId) (ho : o.op = .load t x) (p v : Value) (hx : a.eval x = p)
    (hl : (Instr.loadAt t p).run P w = .ok v w) (h : wpList P ops Q rest (a.put o.dst v) w) : wpList P ops Q (o :: rest) a w := by
  refine wpList_plain hgd fun K hK => ?_
  unfold Oper.wp execOp
  simp only [ho, Sem.run_bind, Sem.run_pure, hx, hl, Result.andThen_ok]
  exact hK _ _ h
/-- .. behind go_still_tail. -/
theorem wpStill_load_eq {ops : Array Oper} {rest : List Oper} {o : Oper} {a : Act} {Q : Act → Prop} (hgd : o.guard = none) (x : Operand) (t : TypeId) (ho : o.op = .load t x) (p v : Value) (hx : a.eval x = p)
    (hl : (Instr.loadAt t p).run P w = .ok v w) (h : wpStill P ops w Q rest (a.put o.dst v)) : wpStill P ops w Q (o :: rest) a := by
  refine wpStill_step fun K hK => ?_
  have hw : Region.wanted o (yielded ops a.tmps) = true := by unfold Region.wanted; rw [hgd]
  rw [if_pos hw]
  unfold Oper.still execOp
  simp only [ho, Sem.run_bind, Sem.run_pure, hx, hl, Result.andThen_ok, Oper.stillUpon]
  exact ⟨trivial, hK _ h⟩
theorem wpList_store_eq {w' : World} {ops : Array Oper} {rest : List Oper} {o : Oper} {a : Act} {Q : Exit → Act → World → Prop} (hgd : o.guard = none) (x y : Operand) (t : TypeId) (ho : o.op = .store t x y) (p v : Value) (hx : a.eval x = p) (hy : a.eval y = v)
    (hl : (Instr.storeAt t p v).run P w = .ok () w') (h : wpList P ops Q rest (a.put o.dst undef) w') : wpList P ops Q (o :: rest) a w := by
  refine wpList_plain hgd fun K hK => ?_
  unfold Oper.wp execOp
  simp only [ho, Sem.run_bind, Sem.run_pure, hx, hy, hl, Result.andThen_ok]
  exact hK _ _ h

/-- Numbers laid over numbers, from a place on. -/
theorem toArray_all {cs : List Value} (h : ∀ v ∈ cs, v.oneCell' = true) : cs.toArray.all (·.oneCell') = true := by
  rw [Array.all_eq_true_iff_forall_mem]
  intro u hu
  exact h u (by simpa using hu)

/-- copy of numbers that lie anywhere (none of a nil slice) into a block of numbers that is known whole. -/
theorem wpList_copy_nums {ops : Array Oper} {rest : List Oper} {o : Oper} {a : Act} {Q : Exit → Act → World → Prop} (hgd : o.guard = none) (d s : Operand) (dT sT : TypeId)
    (ho : o.op = .call { callee := .builtin .copy, args := #[d, s], argTypes := #[dT, sT] }) (elem : TypeId) (hu : P.underlying dT = some (.slice elem)) (hsz : (P.info? elem).map (·.size) = some 1)
    (k : IntKind) (g off dLen dCap m c : Nat) (A : Option Addr) (xs cur : List Int) (t : TypeId) (hd : a.eval d = .slice (some ⟨g, off, none⟩) dLen dCap) (hs : a.eval s = .slice A m c)
    (hg : Blk w g t (ivs k cur).toArray) (hr : Row w k A m xs) (hfit : off + dLen ≤ cur.length)
    (h : ∀ w', Blk w' g t (ivs k (splice cur off (xs.take dLen))).toArray → Kept (fun i => i = g) w w' → wpList P ops Q rest (a.put o.dst (.int .i64 ((min m dLen : Nat) : Int))) w') :
    wpList P ops Q (o :: rest) a w := by
  have hlen : (xs.take dLen).length = min m dLen := by rw [List.length_take, hr.len, Nat.min_comm]
  rcases Nat.eq_zero_or_pos (min m dLen) with h0 | h0
  · refine wpList_copy_nothing hgd d s dT sT ho elem hu hsz _ _ dLen dCap m c hd hs (by simpa using h0) ?_
    have := h w (by
      have e : xs.take dLen = [] := List.eq_nil_of_length_eq_zero (by omega)
      rw [e]
      simpa [splice] using hg) (Kept.refl _ _)
    rw [h0] at this
    exact this
  · obtain ⟨b, o', e, _, _⟩ := hr.at_ 0 (by omega)
    subst e
    have hfit' : off + (xs.take dLen).length ≤ cur.length := by omega
    refine wpList_copy_own hgd d s dT sT ho elem hu hsz g off dLen dCap ⟨b, o', none⟩ m c hd hs _ t hg (ivs k (xs.take dLen)) (by rw [ivs_length, hlen]) ?_ (by simp only [List.size_toArray, ivs_length]; exact hfit') (ivs_one _ _) ?_
    · intro j v hv
      have hj : j < (xs.take dLen).length := by
        have := (List.getElem?_eq_some_iff.1 hv).1
        simpa [ivs] using this
      have h2 := hr.news j v (by
        rw [ivs_get (by rw [hr.len]; omega)]
        rw [ivs_get hj] at hv
        rw [← hv]
        have : j < dLen := by omega
        simp [List.getD, this])
      exact h2
    · rw [ivs_length, hlen]
      refine h _ ?_ ((Kept.refl _ _).rowed _ (fun _ => rfl))
      have e : ((ivs k cur).toArray.toList.take off ++ (ivs k (xs.take dLen) ++ (ivs k cur).toArray.toList.drop (off + min m dLen))).toArray = (ivs k (splice cur off (xs.take dLen))).toArray := by
        simp [splice, ivs, hlen]
      rw [← e]
      exact hg.rowed
end

/-- The cells of a slice that was made now. -/
theorem Blk.of_made {w : World} {e : TypeId} {g n size : Nat} {vs : List Value} (h : w.ownsRow 0 e size (.slice (some ⟨g, 0, none⟩) n n) n vs) : Blk w g e vs.toArray := by
  rcases h.2 with ⟨h', _⟩ | ⟨g', cap', cur, h', _, hg, _, _, hcs, ht⟩
  · simp at h'
  · simp only [Value.slice.injEq, Option.some.injEq, Addr.mk.injEq, and_true, true_and] at h'
    obtain ⟨rfl, rfl⟩ := h'
    have e : cur = vs.toArray := by
      apply Array.ext'
      rw [← ht, List.take_of_length_le (by simp [hcs])]
    rw [← e]
    exact hg

theorem wpList_make_blk {P : Program} (w : World) {ops : Array Oper} {rest : List Oper} {o : Oper} {a : Act} {Q : Exit → Act → World → Prop}
    (hg : o.guard = none) (l c : Operand) (t : TypeId) (hop : o.op = Op.makeSlice t l c)
    (e : TypeId) (i : TypeInfo) (z : Value) (size : Nat) (h1 : P.underlying t = some (.slice e)) (h2 : P.info? e = some i) (h3 : i.zero = some z) (h4 : i.size = size)
    (kl kc : IntKind) (L C : Int) (n : Nat) (hl : a.eval l = .int kl L) (hc : a.eval c = .int kc C) (hL : L = (n : Int)) (hC : C = (n : Int)) (b2 : i.bytes * n ≤ 281474976710656) (b3 : n ≤ maxLen)
    (hK : ∀ w', Blk w' w.heap.size e (madeCells z.cells (n * size)) → Fresh w w' → wpList P ops Q rest (a.put o.dst (.slice (some ⟨w.heap.size, 0, none⟩) n n)) w') :
    wpList P ops Q (o :: rest) a w := by
  refine wpList_make_full w hg l c t hop 0 e i z size h1 h2 h3 h4 kl kc L C n hl hc hL hC b2 b3 (by omega) ?_
  intro w' ho hgr
  have hb := Blk.of_made ho
  exact hK w' (by simpa using hb) ((Kept.refl _ _).grown hgr (fun k e _ => by cases e))

end Go.Proofs.Ythfifpapkknodaa

/- A part of a list of numbers of one's own, put anew. -/
namespace Go.Proofs.Ythfifpapkknodaa
open Go.RowKit
set_option maxRecDepth 100000

/-- Some of the numbers of a block are put anew. -/
theorem Own.splice {w : World} {e : TypeId} {k : IntKind} {g cap f : Nat} {xs ys : List Int} (h : Own w e k (.slice (some ⟨g, 0, none⟩) xs.length cap) xs) (hf : f + ys.length ≤ xs.length) :
    ∃ cur : Array Value, w.heap[g]? = some (.cells cur e (0, 0)) ∧ f + ys.length ≤ cur.size ∧
      Own (w.setRow g (cur.toList.take f ++ (ivs k ys ++ cur.toList.drop (f + ys.length))).toArray) e k (.slice (some ⟨g, 0, none⟩) xs.length cap) (xs.take f ++ (ys ++ xs.drop (f + ys.length))) ∧
      Kept (fun i => i = g) w (w.setRow g (cur.toList.take f ++ (ivs k ys ++ cur.toList.drop (f + ys.length))).toArray) := by
  have h0 : Own w e k (.slice (some ⟨g, 0, none⟩) xs.length cap) xs := h
  rcases h.2 with ⟨h', _⟩ | ⟨g', cap', cur, h', hb0, hg, hnc, hmx, hsz, htk⟩
  · simp at h'
  · injection h' with e1 _ e3
    injection e1 with e1
    injection e1 with e1 _
    subst e1 e3
    have hblk : Blk w g e cur := hg
    rw [Nat.mul_one] at hsz htk
    have hl : (xs.take f ++ (ys ++ xs.drop (f + ys.length))).length = xs.length := by simp only [List.length_append, List.length_take, List.length_drop]; omega
    refine ⟨cur, hg, by omega, ?_, (Kept.refl (fun i => i = g) w).rowed _ (fun _ => rfl)⟩
    unfold Own
    rw [hl]
    refine ⟨by rw [ivs_length, hl, Nat.mul_one], .inr ⟨g, cap, _, rfl, Nat.zero_le _, hblk.rowed, hnc, hmx, ?_, ?_⟩⟩
    · simp only [List.size_toArray, List.length_append, List.length_take, List.length_drop, ivs_length, Array.length_toList]
      omega
    · rw [Nat.mul_one]
      have hA : cur.toList.take f = (ivs k xs).take f := by rw [← htk, List.take_take, Nat.min_eq_left (by omega)]
      have hC : (cur.toList.drop (f + ys.length)).take (xs.length - f - ys.length) = (ivs k xs).drop (f + ys.length) := by rw [← htk, List.drop_take]; congr 1; omega
      have hlA : (cur.toList.take f).length = f := by rw [List.length_take, Array.length_toList]; omega
      show List.take xs.length (cur.toList.take f ++ (ivs k ys ++ cur.toList.drop (f + ys.length))) = _
      have hB : (ivs k ys).take (xs.length - f) = ivs k ys := List.take_of_length_le (by rw [ivs_length]; omega)
      rw [List.take_append, hlA, List.take_take, Nat.min_eq_right (by omega), List.take_append, ivs_length, hC, hA, hB]
      simp [ivs]

end Go.Proofs.Ythfifpapkknodaa

/- The contract of bytes.Equal. -/
namespace Go.Proofs.Ythfifpapkknodaa
open Go.RowKit

set_option maxHeartbeats 400000 in
theorem equal_any (A B : Option Addr) (n m c d : Nat) (xs ys : List Int) (w : World) (ha : Row w .u8 A n xs) (hb : Row w .u8 B m ys) (hx : ∀ c ∈ xs, 0 ≤ c ∧ c < 256) (hy : ∀ c ∈ ys, 0 ≤ c ∧ c < 256) :
    Calls Try.prog 25 #[.slice A n c, .slice B m d] w fun e w' => e = .returned (.bool (decide (xs = ys))) ∧ w = w' := by
  have h1 := row_string ha c
  have h2 := row_string hb d
  have hd := str_dec hx hy
  have Hd := Lib.hid hd
  clear ha hb hx hy hd
  go_enter Try.func25, Try.ntmps25
  go_wp2
  go_ret
  exact ⟨ret_bool (by rw [← Hd.out]), rfl⟩

end Go.Proofs.Ythfifpapkknodaa

/- Image's Unpack. -/
namespace Go.Proofs.Ythfifpapkknodaa
open Go.RowKit
set_option maxRecDepth 100000

attribute [local go_sem ↓] Go.wp_at_zero Go.wp_at_succ

/-- copy into a row of the call's own, as a step of a region that draws its order. -/
theorem step_copy_own {P : Program} {ops : Array Oper} {o : Oper} {a : Act} {w : World} {K : Act → World → Prop} {Q : Exit → Act → World → Prop} {E : Prop} (hgd : o.guard = none) (d s : Operand) (dT sT : TypeId)
    (ho : o.op = .call { callee := .builtin .copy, args := #[d, s], argTypes := #[dT, sT] }) (elem : TypeId) (hu : P.underlying dT = some (.slice elem)) (hsz : (P.info? elem).map (·.size) = some 1)
    (g off dLen dCap : Nat) (ad : Addr) (sLen sCap : Nat) (hd : a.eval d = .slice (some ⟨g, off, none⟩) dLen dCap) (hs : a.eval s = .slice (some ad) sLen sCap)
    (cur : Array Value) (t : TypeId) (hg : w.heap[g]? = some (.cells cur t (0, 0))) (cs : List Value) (hn : cs.length = Nat.min sLen dLen)
    (hsrc : ∀ j v, cs[j]? = some v → w.cell? (ad.add j) = some v) (hfit : off + cs.length ≤ cur.size) (h1 : ∀ v ∈ cs, v.oneCell' = true)
    (h : ∀ w', Hid (w' = w.setRow g (cur.toList.take off ++ (cs ++ cur.toList.drop (off + cs.length))).toArray) → K (a.put o.dst (goInt cs.length)) w') :
    if Region.wanted o (yielded ops a.tmps) = true then Oper.wp P o a w K Q else E := by
  have hw : Region.wanted o (yielded ops a.tmps) = true := by simp [Region.wanted, hgd]
  rw [if_pos hw]
  have hrun := run_copy_row (P := P) w dT sT o.type elem g off dLen dCap ad sLen sCap cur t cs hu hsz hg hn hsrc hfit h1
  unfold Oper.wp
  simp [execOp, ho, resolve, invoke, builtin, hd, hs, hrun, Result.andThen]
  exact h _ (Lib.hid rfl)

set_option maxHeartbeats 6400000 in
/-- file. -/
theorem cFileI_any (g : Nat) (t0 : TypeId) (ext : List Value) (A : Option Addr) (cA : Nat) (xs : List Int) (most : Int) (w : World) (h : NRd w g t0 ext A cA xs 0 0) :
    Calls Try.prog 23 #[.pointer (some ⟨g, 0, none⟩), .int .i64 most] w (RwPost g w (fiI xs (mst most))) := by
  have hby := h.byte
  have hgw : g < w.heap.size := h.blk.lt
  have HB := Lib.hid (hRead_any g t0 ext A cA xs most w h)
  obtain ⟨m, hm⟩ : ∃ m, m = mst most := ⟨_, rfl⟩
  have hml : m ≤ 1048576 := by rw [hm]; exact (mst_le most).1
  rw [← hm] at HB ⊢
  have HE : Hid (fiI xs m = if (blkA xs m).1 ≠ 0 then ((blkA xs m).1, []) else match picP (blkB xs m) with
    | none => (4, [])
    | some r => fiR xs m r) := Lib.hid rfl
  have hbb : B8 (blkB xs m) := blkB_byte hby
  clear h hm
  go_enter Try.func23, Try.ntmps23
  go_wp2_with fail
  refine HB.out.mono ?_
  rintro e w1 ⟨u, rfl, hu, hun, hrd, hk1⟩
  clear HB
  by_cases he : (blkA xs m).1 = 0
  · obtain ⟨hz1, _, hz3, hz4⟩ := blkA_zero he
    have hbl := blkB_length hz3
    rw [show (blkA xs m).2 = blkB xs m by rw [hz4]] at hu
    have hble : (blkB xs m).length ≤ 1048576 := by omega
    have hrd := hrd he
    rw [if_neg (by omega)] at HE
    rw [he]
    clear hz1 hz3 hz4 hbl he
    obtain ⟨b, hb⟩ : ∃ b, b = blkB xs m := ⟨_, rfl⟩
    rw [← hb] at hu hble hbb HE
    have Hb := Lib.hid hb
    clear hb
    obtain ⟨Bu, cu, rfl, hru, _⟩ := hu.row
    have hcap := hu.cap
    have HP : Hid (Calls Try.prog 14 #[.slice Bu b.length cu] w1 fun e w' => e = .returned (.tuple #[pval (picP b), .bool (picP b).isSome]) ∧ Fresh w1 w') := Lib.hid (cPic_any Bu b.length cu b w1 hru hbb (by omega) hcap)
    have H1 := Lib.hid (And.intro hu (And.intro hun (And.intro hrd hk1)))
    clear hu hun hrd hk1 hru hcap
    rcases hp : picP b with _ | r
    · rw [hp] at HP
      unfold pval at HP
      have HQ : Hid (fiI xs m = (4, [])) := Lib.hid (by rw [HE.out, hp])
      clear HE hp
      generalize b.length = lb at *
      go_wp2_with fail
      refine HP.out.mono ?_
      rintro e w2 ⟨rfl, hf2⟩
      have H2 := Lib.hid hf2
      clear hf2 HP
      go_wp2_with fail
      go_ret2
      unfold RwPost
      rw [HQ.out]
      exact ⟨_, rfl, Own.nil _ _ _, fun k e => (by cases e), H1.out.2.2.2.trans (H2.out.alloc _) fun _ _ e => e.elim⟩
    · rw [hp] at HP
      unfold pval at HP
      have hP := PcI.of hp
      have HQ : Hid (fiI xs m = fiR xs m r) := Lib.hid (by rw [HE.out, hp])
      clear HE hp
      have hwi := hP.wide_in
      obtain ⟨wa, wb, p, s, f⟩ := r
      have h1 := hP.high
      have h2 : p = 1 ∨ p = 3 := hP.plan
      have h3 : wdI (wa, wb, p, s, f) ≤ s := hP.row
      have h4 : f + wb * s ≤ b.length := hP.all
      simp only [] at HP h1
      obtain ⟨q, hq⟩ : ∃ q, q = wdI (wa, wb, p, s, f) := ⟨_, rfl⟩
      have hqe : wa * p = q := hq.symm
      rw [← hq] at hwi h3
      obtain ⟨mm, hmm⟩ : ∃ mm, mm = wb * s := ⟨_, rfl⟩
      obtain ⟨t, ht⟩ : ∃ t, t = f + mm := ⟨_, rfl⟩
      have htn : t ≤ b.length := by rw [ht, hmm]; exact h4
      have hft : f ≤ t := by omega
      have hsb : s * wb = mm := by rw [hmm, Nat.mul_comm]
      have hfar : farI (wa, wb, p, s, f) = t := by rw [ht, hmm]; rfl
      have HPo : Hid (∀ V, Calls Try.prog 15 #[.agg #[.int .i64 (wa : Int), .int .i64 (wb : Int), .int .i64 (p : Int), .int .i64 (s : Int), .int .i64 (f : Int)]] V fun e w' => e = .returned (.agg (pkc wa wb p s f q)) ∧ Fresh V w') := Lib.hid fun V => cPackerOf_any wa wb p s f q V hqe (by omega)
      have HEn : Hid (∀ V, Calls Try.prog 17 #[.agg (pkc wa wb p s f q)] V fun e w' => e = .returned (.int .i64 (t : Int)) ∧ Fresh V w') := Lib.hid fun V => cEnd_any wa wb p s f q mm t V hsb ht.symm (by omega)
      obtain ⟨S, hS⟩ : ∃ S, S = rowI xs (blkT xs m).2.1 (wa, wb, p, s, f) := ⟨_, rfl⟩
      have hSl : S.1 = 0 → S.2.length = mm := fun e => by rw [hS] at e ⊢; rw [hmm]; exact rowI_len hP e
      have HFr : Hid (fiR xs m (wa, wb, p, s, f) = if S.1 ≠ 0 then (S.1, []) else (0, b.take f ++ (S.2 ++ b.drop t))) := Lib.hid (by unfold fiR; rw [← hS, ← Hb.out, hfar])
      have HUp : Hid (∀ V, NRd V g t0 ext A cA xs (blkT xs m).2.1 0 → Calls Try.prog 43 #[.agg (pkc wa wb p s f q), .pointer (some ⟨g, 0, none⟩)] V (RwPost g V S)) := Lib.hid fun V hV => by
        rw [hS]
        exact cUnpackR_any wa wb p s f q g t0 ext A cA xs _ V hV hqe h1.1 hwi.1 h3 h2 (by rw [← hmm]; omega)
      have HSl := Lib.hid hSl
      have hm1 : 1 ≤ mm := by rw [hmm]; exact Nat.mul_pos h1.1 (by omega)
      clear hP hwi h1 h2 h3 h4 hq hqe hmm hsb hfar hS hSl hbb hby
      go_wp2_with fail
      refine HP.out.mono ?_
      rintro e w2 ⟨rfl, hf2⟩
      clear HP
      obtain ⟨W2, hW2⟩ : ∃ W2, W2 = w2.alloc (.cells #[.int .i64 (wa : Int), .int .i64 (wb : Int), .int .i64 (p : Int), .int .i64 (s : Int), .int .i64 (f : Int)] 28) := ⟨_, rfl⟩
      have hf2' : Fresh w1 W2 := by rw [hW2]; exact hf2.alloc _
      have H2 := Lib.hid hf2'
      have HPo' := Lib.hid (HPo.out W2)
      clear hf2 hf2' HPo
      go_wp2_with fail
      rw [← hW2]
      clear hW2
      refine HPo'.out.mono ?_
      rintro e w3 ⟨rfl, hf3⟩
      obtain ⟨W4, hW4⟩ : ∃ W4, W4 = w3.alloc (.cells (pkc wa wb p s f q) 44) := ⟨_, rfl⟩
      have hf13 : Fresh w1 w3 := H2.out.trans hf3 fun _ _ e => e
      have hf14 : Fresh w1 W4 := by rw [hW4]; exact hf13.alloc _
      have hb4 : Blk W4 w3.heap.size 44 (pkc wa wb p s f q) := by rw [hW4]; exact Blk.new _ _ _
      have hz3 : w1.heap.size ≤ w3.heap.size := hf13.size
      have hz1 : w.heap.size ≤ w1.heap.size := H1.out.2.2.2.size
      have HUp' := Lib.hid (HUp.out W4 (H1.out.2.2.1.kept hf14 id (fun _ _ _ _ => id)))
      obtain ⟨k0, k1, k2, k3, k4, k5, k6, k7⟩ := pk_at hb4
      have H4 := Lib.hid (And.intro hf14 (And.intro hb4 (And.intro hz3 hz1)))
      clear hf3 hf13 hf14 hb4 HUp HPo' hz1 hz3
      unfold pkc at hW4 HEn HUp' ⊢
      go_wp2_with fail
      rw [← hW4]
      clear hW4
      refine HUp'.out.mono ?_
      rintro e w5 ⟨v, rfl, hv, hvn, hk5⟩
      have hgb : ∀ k, (Value.slice Bu b.length cu).ownBlock = some k → g ≠ k := fun k e => by
        have := H1.out.2.1 k e
        omega
      have hz4 := H4.out
      have hb5 : Blk w5 w3.heap.size 44 (pkc wa wb p s f q) := hz4.2.1.kept hk5 (by omega)
      have hu5 := (H1.out.1.kept hz4.1 (fun _ _ => id)).kept hk5 (fun k e e2 => hgb k e e2.symm)
      have hk05 : Mine g w w5 := (H1.out.2.2.2.trans hz4.1 fun _ _ e => e.elim).trans hk5 fun _ _ e => e
      obtain ⟨As, cs, rfl, hrs, hAs⟩ := hv.row
      have hvn' : ∀ b' o', As = some ⟨b', o', none⟩ → W4.heap.size ≤ b' := fun b' o' e => hvn b' (hAs b' o' e)
      clear k0 k1 k2 k3 k4 k5 k6 k7
      by_cases hes : S.1 = 0
      · have hsl := HSl.out hes
        have HQ2 : Hid (fiI xs m = (0, b.take f ++ (S.2 ++ b.drop t))) := Lib.hid (by rw [HQ.out, HFr.out, if_neg (by omega)])
        have hcp := hu5.cap
        obtain ⟨gb, capb, eb, _⟩ := hu5.form (by omega)
        injection eb with e1 _ e3
        subst e1 e3
        obtain ⟨gs, caps, ev, _⟩ := hv.form (by omega)
        injection ev with e4 _ e5
        subst e4 e5
        rw [hsl] at hrs ⊢
        rw [hes]
        have hnews := fun V (hV : Fresh w5 V) => (hrs.kept hV (fun _ _ _ _ => id)).news
        have HNw := Lib.hid hnews
        have hsz1 : ∀ w, (sizeOf 5).run Try.prog w = .ok 1 w := fun w => by kernel_rfl
        have hsP := fun V => run_slice_part (P := Try.prog) 22 5 Try.underlying22 hsz1 (some ⟨gb, 0, none⟩) b.length cu f t (t : Int) rfl hft (by omega) V
        rw [show cutAt (some ⟨gb, 0, none⟩) f cu = some ⟨gb, f, none⟩ by unfold cutAt; rw [if_neg (by omega)]; simp [Addr.add]; omega, show t - f = mm by omega] at hsP
        have hblb : w.heap.size ≤ gb := H1.out.2.1 gb rfl
        have hgl3 : gb < w1.heap.size := H1.out.1.lt rfl
        have HU5 := Lib.hid (And.intro hu5 (And.intro hb5 (And.intro hk05 (And.intro hblb hgl3))))
        obtain ⟨k0, k1, k2, k3, k4, k5, k6, k7⟩ := pk_at hb5
        have hsl2 : f + S.2.length ≤ b.length := by omega
        have Hsl := Lib.hid (And.intro hsl hsl2)
        have hlS : (ivs .u8 S.2).length = mm := by rw [ivs_length, hsl]
        have HSp := Lib.hid (fun V (hV : Fresh w5 V) => (hu5.kept hV (fun _ _ => id)).splice (f := f) (ys := S.2) hsl2)
        generalize b.length = lb at *
        have Ht := Lib.hid ht
        clear ht hu5 hb5 hk05 hnews hrs hv hvn hk5 hgb hvn' hes HSl hsl hsl2 HFr HQ hz4 hblb hgl3 hm1
        go_wp2_with fail
        go_region_held3 (fun w' => w'.cell? ⟨w3.heap.size, 0, none⟩ = some (.int .i64 (wa : Int)) ∧ w'.cell? ⟨w3.heap.size, 1, none⟩ = some (.int .i64 (wb : Int)) ∧ w'.cell? ⟨w3.heap.size, 2, none⟩ = some (.int .i64 (p : Int)) ∧ w'.cell? ⟨w3.heap.size, 3, none⟩ = some (.int .i64 (s : Int)) ∧ w'.cell? ⟨w3.heap.size, 4, none⟩ = some (.int .i64 (f : Int)) ∧ w'.cell? ⟨w3.heap.size, 5, none⟩ = some (.int .i64 (q : Int)) ∧ w'.cell? ⟨w3.heap.size, 6, none⟩ = some (.int .i64 (p : Int)) ∧ w'.cell? ⟨w3.heap.size, 7, none⟩ = some (.int .i64 (p : Int)))
          (first | go_keep | exact pk_at (HU5.out.2.1.kept hf6 id) | exact pk_at ((HU5.out.2.1.kept hf6 id).kept hk7 (by have := HU5.out.2.2.2.2; have := H4.out.2.2.1; omega)))
          (first
            | (go_at_call 17; (with_reducible refine (HEn.out _).mono ?_); rintro e w6 ⟨rfl, hf6'⟩
               have hf6 : Fresh w5 w6 := (Kept.refl (fun _ => False) w5).drew.trans hf6' fun _ _ e => e
               obtain ⟨cur, hcur, hcs, hown, hkown⟩ := HSp.out _ hf6)
            | (refine step_copy_own rfl (.tmp 45) (.tmp 46) 22 22 rfl 5 Try.underlying22 (by kernel_rfl) gb f mm (cu - f) ⟨gs, 0, none⟩ mm cs rfl rfl cur 5 hcur (ivs .u8 S.2) (by rw [hlS]; exact (Nat.min_self _).symm) (HNw.out _ hf6) (by rw [ivs_length]; exact hcs) (ivs_one _ _) ?_
               intro w7 hw7
               have hk7 : Kept (fun i => i = gb) w6 w7 := by rw [hw7.out, ivs_length]; exact hkown))
        have hown7 : Own w7 5 .u8 (.slice (some ⟨gb, 0, none⟩) lb cu) (b.take f ++ (S.2 ++ b.drop t)) := by
          rw [hw7.out, ivs_length, Ht.out, ← Hsl.out.1]
          exact hown
        have H7 := Lib.hid (And.intro hown7 (((HU5.out.2.2.1.trans hf6 fun _ _ e => e.elim).mono (T := fun k => k = g) fun _ _ e => e).trans hk7 fun i hi e => by have := HU5.out.2.2.2.1; omega))
        have Hgb := Lib.hid HU5.out.2.2.2.1
        clear hown7 hown hkown hk7 hw7 hcur hcs hf6 hf6' hsP HSp HU5 HEn k0 k1 k2 k3 k4 k5 k6 k7
        go_wp2_with fail
        go_ret2
        unfold RwPost
        rw [HQ2.out]
        exact ⟨_, rfl, H7.out.1, fun k e => by
          have e : gb = k := by simpa [Value.ownBlock] using e
          rw [← e]
          exact Hgb.out, H7.out.2⟩
      · have heb : (S.1 != 0) = true := by simpa using hes
        have HQ2 : Hid (fiI xs m = (S.1, [])) := Lib.hid (by rw [HQ.out, HFr.out, if_pos hes])
        have HK := Lib.hid hk05
        clear hes HSl HFr HQ hv hvn hk5 hu5 hk05 hrs hb5
        generalize S.2.length = ls at *
        go_wp2_with fail
        go_ret2
        unfold RwPost
        rw [HQ2.out]
        exact ⟨_, rfl, Own.nil _ _ _, fun k e => (by cases e), HK.out⟩
  · have heb : ((blkA xs m).1 != 0) = true := by simpa using he
    have HQ : Hid (fiI xs m = ((blkA xs m).1, [])) := Lib.hid (by rw [HE.out, if_pos he])
    obtain ⟨Bu, cu, rfl, _, _⟩ := hu.row
    have HK := Lib.hid hk1
    clear he HE hu hun hrd hk1
    generalize (blkA xs m).2.length = lb at *
    generalize (blkA xs m).1 = er at *
    go_wp2_with fail
    go_ret2
    unfold RwPost
    rw [HQ.out]
    exact ⟨_, rfl, Own.nil _ _ _, fun k e => (by cases e), HK.out⟩

set_option maxHeartbeats 6400000 in
theorem cUnpackI_any (A : Option Addr) (n c : Nat) (xs : List Int) (most : Int) (w : World) (hr : Row w .u8 A n xs) (hb : ∀ x ∈ xs, 0 ≤ x ∧ x < 256) (hn : n ≤ 16777216) :
    Calls Try.prog 11 #[.slice A n c, .int .i64 most] w fun e w' => ∃ u, e = .returned (.tuple #[u, .int .i64 (iuC xs most).1]) ∧ NewRow w w' 5 .u8 u (iuC xs most).2 := by
  obtain rfl := hr.len
  have HN := Lib.hid (nrNew_any A xs.length c xs w hr hb (by omega))
  have HR := Lib.hid (And.intro hr hb)
  obtain ⟨m, hm⟩ : ∃ m, m = mst most := ⟨_, rfl⟩
  have hml : m ≤ 1048576 := by rw [hm]; exact (mst_le most).1
  have HE : Hid (iuC xs most = if (fiI xs m).1 ≠ 0 then ((fiI xs m).1, []) else if ipC (fiI xs m).2 = xs then (0, (fiI xs m).2) else (4, [])) := Lib.hid (by rw [hm]; rfl)
  have HM := Lib.hid hm
  clear hr hm
  go_enter Try.func11, Try.ntmps11
  go_wp2_with fail
  refine HN.out.mono ?_
  rintro e w1 ⟨g, A', c', rfl, hrd, hgw, hA', hf1⟩
  have HF := Lib.hid (cFileI_any g 75 [] A' c' xs most w1 hrd)
  rw [← HM.out] at HF
  have H2 := Lib.hid (And.intro hf1 hgw)
  have hfl := fiI_le (xs := xs) (m := m)
  have hfb := fiI_byte (xs := xs) (m := m) hb
  clear hrd hA' hf1 HN hgw
  go_wp2_with fail
  refine HF.out.mono ?_
  rintro e w3 ⟨u, rfl, hu, hun, hk⟩
  have hf3 : Fresh w w3 := H2.out.1.trans hk fun i hi e => by have := H2.out.2; omega
  have hun' : ∀ k, u.ownBlock = some k → w.heap.size ≤ k := fun k e => Nat.le_trans H2.out.1.size (hun k e)
  clear hk hun HF
  generalize fiI xs m = R at *
  obtain ⟨er, b⟩ := R
  simp only [] at *
  obtain ⟨Bu, cu, rfl, hru, _⟩ := hu.row
  by_cases he : er = 0
  · subst he
    have hfl := hfl rfl
    have hcap := hu.cap
    have HP := Lib.hid (cPackIO_any Bu b.length cu b w3 hru hfb (by omega) hcap)
    have H3 := Lib.hid (And.intro hu (And.intro hf3 hun'))
    clear hru hu hf3 hun'
    generalize hlb : b.length = lb at *
    have Hlb := Lib.hid hlb
    clear hlb
    go_wp2_with fail
    refine HP.out.mono ?_
    rintro e w4 ⟨v, ok, rfl, hv⟩
    obtain ⟨Bv, cv, rfl, hrv, _⟩ := hv.1.row
    have hf04 := H3.out.2.1.trans hv.2.2 fun _ _ e => e
    have hapb : ∀ x ∈ ipC b, 0 ≤ x ∧ x < 256 := ipC_byte hfb
    have HQ := Lib.hid (equal_any Bv A (ipC b).length xs.length cv c (ipC b) xs w4 hrv (HR.out.1.kept hf04 (fun _ _ _ _ => id)) hapb HR.out.2)
    have hu4 := H3.out.1.kept hv.2.2 (fun _ _ => id)
    have H4 := Lib.hid (And.intro hf04 hu4)
    clear hv hrv hf04 hapb hu4 HP
    generalize (ipC b).length = lp at *
    by_cases hok : ipC b = xs
    · have HA : Hid (iuC xs most = (0, b)) := Lib.hid (by rw [HE.out, if_neg (by simp), if_pos hok])
      rw [decide_eq_true hok] at HQ
      clear hok HE
      go_wp2_with fail
      refine HQ.out.mono ?_
      rintro e w5 ⟨rfl, rfl⟩
      go_wp2_with fail
      go_ret2
      rw [HA.out]
      exact ⟨_, rfl, H4.out.2, H3.out.2.2, H4.out.1⟩
    · have HA : Hid (iuC xs most = (4, [])) := Lib.hid (by rw [HE.out, if_neg (by simp), if_neg hok])
      rw [decide_eq_false hok] at HQ
      clear hok HE
      go_wp2_with fail
      refine HQ.out.mono ?_
      rintro e w5 ⟨rfl, rfl⟩
      go_wp2_with fail
      go_ret2
      rw [HA.out]
      exact ⟨_, rfl, Own.nil _ _ _, fun k e => (by cases e), H4.out.1⟩
  · have heb : (er != 0) = true := by simpa using he
    have HA : Hid (iuC xs most = (er, [])) := Lib.hid (by rw [HE.out, if_pos he])
    have H3 := Lib.hid hf3
    clear he HE hru hu hf3 hun' hfl
    generalize b.length = lb at *
    go_wp2_with fail
    go_ret2
    rw [HA.out]
    exact ⟨_, rfl, Own.nil _ _ _, fun k e => (by cases e), H3.out⟩

end Go.Proofs.Ythfifpapkknodaa

/- The code of image keeps what its laws ask. -/
namespace Go.Proofs.Ythfifpapkknodaa
open Go.RowKit
set_option maxRecDepth 100000

theorem imageOK : ImageOK ipC iuC where
  pack := fun A n c bs w hr hb hn hnc hw => by
    obtain ⟨r, hr2⟩ := Option.isSome_iff_exists.1 hw
    have hap : ipC bs = ipR bs r := by unfold ipC; rw [hr2]
    rw [hap]
    exact cPackI_any A n c bs r w hr hb hn hnc hr2
  refuse := fun A n c bs w hr hb hn hnc hw => cPackINo_any A n c bs w hr hb hn hnc (by cases h : picP bs with
    | none => rfl
    | some r => rw [h] at hw; cases hw)
  unpack := fun A n c xs most w hr hb hn _ => cUnpackI_any A n c xs most w hr hb hn
  byte := fun bs h => ipC_byte h.1
  len := fun bs h => by
    obtain ⟨r, hr2⟩ := Option.isSome_iff_exists.1 h.2.2
    have hap : ipC bs = ipR bs r := by unfold ipC; rw [hr2]
    rw [hap, hr2]
    exact ipR_len hr2 h.2.1
  back := fun bs most h => iuC_back most h.1 h.2.1 h.2.2
  total := fun xs most hb _ => iuC_total xs most hb

end Go.Proofs.Ythfifpapkknodaa

/- What the contracts of valisehelp's generic calls share, whatever the type. -/
namespace Go.Proofs.Ythfifpapkknodaa
open Go.RowKit

theorem Blk.of_own {w : World} {e : TypeId} {g n cap : Nat} {vs : List Value} (h : w.ownsRow 0 e 1 (.slice (some ⟨g, 0, none⟩) n cap) n vs) : ∃ cur, Blk w g e cur ∧ cur.size = cap ∧ cur.toList.take n = vs := by
  rcases h.2 with ⟨h', _⟩ | ⟨g', cap', cur, h', _, hg, _, _, hcs, ht⟩
  · simp at h'
  · simp only [Value.slice.injEq, Option.some.injEq, Addr.mk.injEq, and_true, true_and] at h'
    obtain ⟨rfl, rfl⟩ := h'
    exact ⟨cur, hg, by simpa using hcs, by simpa using ht⟩

/-- A copy with three cells of room behind it. -/
structure Copy (w : World) (q : Nat) (t : TypeId) (k : IntKind) (xs : List Int) (f : Int) : Prop where
  blk : Blk w q t (ivs k (xs ++ [f, f, f])).toArray

theorem take_set_snoc (l : List Value) (i : Nat) (u : Value) (h : i < l.length) : (l.set i u).take (i + 1) = l.take i ++ [u] := by
  rw [List.take_succ_eq_append_getElem (by simpa using h), List.take_set, List.set_eq_of_length_le (by simp; omega)]
  simp

theorem list_ne_at {xs ys : List Int} {j : Nat} (h : xs.getD j 0 ≠ ys.getD j 0) : decide (xs = ys) = false := by
  simp; intro e; subst e; exact h rfl

theorem list_eq_all {xs ys : List Int} (hl : xs.length = ys.length) (h : ∀ i, i < xs.length → xs.getD i 0 = ys.getD i 0) : xs = ys := by
  apply List.ext_getElem hl
  intro i h1 h2
  have := h i h1
  simpa [List.getD, h1, h2] using this

theorem Copy.row {w : World} {q : Nat} {t : TypeId} {k : IntKind} {xs : List Int} {f : Int} (h : Copy w q t k xs f) : Row w k (some ⟨q, 0, none⟩) xs.length xs :=
  ⟨rfl, fun j hj => ⟨q, 0, rfl, h.blk.lt, by
    rw [h.blk.cell (0 + j), Nat.zero_add, List.getElem?_toArray, ivs_get (by simp; omega)]
    simp [List.getD, List.getElem?_append_left hj]⟩⟩

end Go.Proofs.Ythfifpapkknodaa

/- The contracts of valisehelp's calls at bytes: Own, Kept, Plain, Same. -/
namespace Go.Proofs.Ythfifpapkknodaa
open Go.RowKit

theorem Try.infoByteH : (Try.prog.info? 5).map (fun i => (i.zero, i.size, i.bytes)) = some (some (.int .u8 0), 1, 1) := by kernel_rfl

set_option maxRecDepth 100000 in
set_option maxHeartbeats 1600000 in
theorem hOwnByte_any (A : Option Addr) (n c : Nat) (xs : List Int) (f : Int) (w : World) (h : Row w .u8 A n xs) (hnil : A = none → c = 0) (hn : n ≤ 140737488351232) :
    Calls Try.prog 7 #[.slice A n c, .int .u8 f] w fun e w' => ∃ q, e = .returned (.slice (some ⟨q, 0, none⟩) n (n + 3)) ∧ Copy w' q 5 .u8 xs f ∧ w.heap.size ≤ q ∧ Fresh w w' := by
  obtain ⟨i0, hi, hz0, hz1, hz2⟩ := info_parts Try.infoByteH
  have hlen := h.len
  have Hlen := Lib.hid hlen
  have hn2 : (n : Int) + 3 ≤ 140737488351235 := by omega
  clear hlen
  go_enter Try.func7, Try.ntmps7
  go_wp2_with (first
    | (refine wpList_make_own _ rfl _ _ 22 rfl 0 5 i0 _ 1 Try.underlying22 hi hz0 hz1 .i64 .i64 _ (n + 3) rfl rfl (by omega) (by rw [hz2]; omega) (by unfold maxLen; omega) (by omega) ?_; intro w1 hown1 hg1)
    | (at_builtin; refine wpList_append_fits_any _ rfl (.tmp 12) (.tmp 13) 22 rfl 0 5 i0 1 Try.underlying22 hi hz1 w.heap.size 0 (n + 3) [] rfl hown1 A n c (ivs .u8 xs) rfl (by rw [ivs_length, Hlen.out]; omega) ?hnone ?hcells (ivs_one _ _) (by omega) ?_; rotate_right; intro w2 hown2 hg2))
  case hnone => intro e; subst e; exact ⟨h.nil0, hnil rfl⟩
  case hcells =>
    intro ad e
    subst e
    exact (h.kept ((Kept.refl (fun _ => False) _).grown hg1 (fun k e => by cases e)) (fun _ _ _ _ => id)).news
  obtain ⟨cur, hblk, hsz, htake⟩ := Blk.of_own hown2
  have hk2 : Fresh w w2 := (((Kept.refl (fun _ => False) _).grown hg1 (fun k e => by cases e))).grown hg2 (fun k e hk => by injection e with e; omega)
  rw [Nat.zero_add, List.nil_append] at htake
  have hqs : w.heap.size ≤ w.heap.size := Nat.le_refl _
  generalize hQ : w.heap.size = q at hblk
  have hq : w.heap.size ≤ q := by omega
  have Hs := Lib.hid (And.intro hsz htake)
  clear hqs hQ
  clear hown1 hown2 hg1 hg2 hsz htake
  go_loopw [7] (fun i wr => ∃ j : Nat, j ≤ 3 ∧ i = .int .i64 ((n : Int) + j) ∧ Fresh w wr ∧ ∃ cur, Blk wr q 5 cur ∧ cur.size = n + 3 ∧ cur.toList.take (n + j) = ivs .u8 (xs ++ List.replicate j f)) (fun i _ => ((n : Int) + 3 - intOf i).toNat)
  case atStart => exact ⟨0, by omega, by simp, hk2, cur, hblk, Hs.out.1, by simpa using Hs.out.2⟩
  case round =>
    obtain ⟨j, hj, rfl, hkr, cur1, hb1, hs1, ht1⟩ := hrel
    by_cases hlt : j < 3
    · have hcell : ∃ u, wr.cell? ⟨q, n + j, none⟩ = some u := by
        rw [hb1.cell (n + j)]
        exact ⟨_, Array.getElem?_eq_getElem (by omega)⟩
      obtain ⟨u, hu⟩ := hcell
      have hfr := hb1.frozen (n + j)
      have hb2 := hb1.set_ (n + j) (.int .u8 f)
      have ht2 := take_set_snoc cur1.toList (n + j) (.int .u8 f) (by simpa using (by omega : n + j < cur1.size))
      rw [ht1] at ht2
      have H := Lib.hid (And.intro hb2 ht2)
      have Hk := Lib.hid hkr
      have Hs1 := Lib.hid hs1
      clear hb2 ht2 hb1 ht1 hkr hs1 h hnil hblk hk2 hi hz0 hz1 hz2 Hlen Hs
      have hh : (n : Int) + j < (n : Int) + 3 := by omega
      have hh0 : (0 : Int) ≤ (n : Int) + j := by omega
      go_wp2_with fail
      go_roundw
      case rel => exact ⟨j + 1, by omega, by go_num, Hk.out.setCell (p := ⟨q, n + j, none⟩) (fun hlt' => by simp at hlt'; omega) _, _, H.out.1, by simpa using Hs1.out, by
        rw [Array.toList_setIfInBounds, show n + (j + 1) = n + j + 1 from rfl, H.out.2, List.replicate_succ', ← List.append_assoc, ivs_append, ivs_append, ivs_append]; rfl⟩
      case measure => simp [intOf]; omega
    · obtain rfl : j = 3 := by omega
      go_wp2_with fail
      go_ret
      refine ⟨q, rfl, ⟨?_⟩, hq, hkr⟩
      have e : cur1 = (ivs .u8 (xs ++ [f, f, f])).toArray := by
        apply Array.ext'
        rw [show cur1.toList = cur1.toList.take (n + 3) from (List.take_of_length_le (by simp; omega)).symm, ht1]
        rfl
      rw [← e]
      exact hb1

set_option maxHeartbeats 400000 in
theorem hEqByte_any (x y : Int) (w : World) : Calls Try.prog 41 #[.int .u8 x, .int .u8 y] w fun e w' => e = .returned (.bool (x == y)) ∧ w' = w := by
  go_enter Try.func41, Try.ntmps41
  go_wp2
  go_ret
  exact ⟨rfl, rfl⟩

set_option maxHeartbeats 1600000 in
theorem hSameByte_any (A B : Option Addr) (n m c d : Nat) (xs ys : List Int) (w : World) (ha : Row w .u8 A n xs) (hb : Row w .u8 B m ys) (hn : n ≤ 140737488351232) (hm : m ≤ 140737488351232) :
    Calls Try.prog 40 #[.slice A n c, .slice B m d, .func (.func 41) #[] #[]] w fun e w' => e = .returned (.bool (decide (xs = ys))) ∧ ∃ k, w' = w.drewN k := by
  have HA := Lib.hid ha
  have HB := Lib.hid hb
  clear ha hb
  by_cases hnm : n = m
  · subst hnm
    have hself : ((n : Int) != (n : Int)) = false := by simp
    go_enter Try.func40, Try.ntmps40
    go_wp2_with fail
    go_loopw [7] (fun i wr => ∃ j n1 : Nat, j ≤ n ∧ i = .int .i64 j ∧ wr = w.drewN n1 ∧ ∀ i, i < j → xs.getD i 0 = ys.getD i 0) (fun i _ => (n - intOf i).toNat)
    case atStart => exact ⟨0, 0, by omega, rfl, rfl, fun i hi => by omega⟩
    case round =>
      obtain ⟨j, n1, hj, rfl, hwr, hall⟩ := hrel
      have Hall := Lib.hid hall
      have Hwr := Lib.hid hwr
      clear hall hwr
      by_cases hlt : j < n
      · obtain ⟨b1, o1, rfl, hl1, hc1'⟩ := HA.out.at_ j hlt
        obtain ⟨b2, o2, rfl, hl2, hc2'⟩ := HB.out.at_ j hlt
        have hc1 : wr.cell? ⟨b1, o1 + j, none⟩ = some (.int .u8 (xs.getD j 0)) := by rw [Hwr.out]; exact hc1'
        have hc2 : wr.cell? ⟨b2, o2 + j, none⟩ = some (.int .u8 (ys.getD j 0)) := by rw [Hwr.out]; exact hc2'
        clear hc1' hc2'
        have hi0 : (0 : Int) ≤ (j : Int) := by omega
        have hi1 : (j : Int) < (n : Int) := by omega
        obtain ⟨x, hx⟩ : ∃ x, xs.getD j 0 = x := ⟨_, rfl⟩
        obtain ⟨y, hy⟩ : ∃ y, ys.getD j 0 = y := ⟨_, rfl⟩
        rw [hx] at hc1
        rw [hy] at hc2
        have Hxy := Lib.hid (And.intro hx hy)
        clear hx hy
        by_cases he : x = y
        · subst he
          have hbe : (x == x) = true := by simp
          go_wp2_with fail
          go_quiet ((go_at_call 41; exact Calls.quiet_of_same (hEqByte_any _ _ _)))
          go_wp2_with fail
          go_roundw
          case rel => exact ⟨j + 1, n1 + nq, by omega, by go_num, by rw [Hwr.out, World.drewN_drewN], fun i hi => by
            rcases Nat.lt_or_ge i j with hij | hij
            · exact Hall.out i hij
            · obtain rfl : i = j := by omega
              rw [Hxy.out.1, Hxy.out.2]⟩
          case measure => simp [intOf]; omega
        · have hbe : (x == y) = false := by simpa using he
          have hfin := list_ne_at (xs := xs) (ys := ys) (j := j) (by rw [Hxy.out.1, Hxy.out.2]; exact he)
          have Hf := Lib.hid hfin
          clear he hfin
          go_wp2_with fail
          go_quiet ((go_at_call 41; exact Calls.quiet_of_same (hEqByte_any _ _ _)))
          go_wp2_with fail
          go_ret
          exact ⟨ret_bool Hf.out.symm, n1 + nq, by rw [Hwr.out, World.drewN_drewN]⟩
      · go_wp2_with fail
        go_ret
        refine ⟨ret_bool ?_, n1, Hwr.out⟩
        have := list_eq_all (xs := xs) (ys := ys) (by rw [HA.out.len, HB.out.len]) (fun i hi => Hall.out i (by rw [HA.out.len] at hi; omega))
        simp [this]
  · have hb : ((n : Int) != (m : Int)) = true := by simp; omega
    have hfin : decide (xs = ys) = false := by
      simp; intro e; subst e; exact hnm (by rw [← HA.out.len, HB.out.len])
    rw [hfin]
    clear hfin hnm
    go_enter Try.func40, Try.ntmps40
    go_wp2_with fail
    go_ret
    exact ⟨rfl, 0, rfl⟩

set_option maxHeartbeats 400000 in
theorem hPlainByte_any (A B : Option Addr) (n m c d : Nat) (xs ys : List Int) (w : World) (ha : Row w .u8 A n xs) (hb : Row w .u8 B m ys) (hn : n ≤ 140737488351232) (hm : m ≤ 140737488351232) :
    Calls Try.prog 22 #[.slice A n c, .slice B m d] w fun e w' => e = .returned (.bool (decide (xs = ys))) ∧ ∃ k, w' = w.drewN k := by
  go_enter Try.func22, Try.ntmps22
  go_wp2_with fail
  refine (hSameByte_any A B n m c d xs ys _ ha hb hn hm).mono ?_
  rintro e w' ⟨rfl, k, rfl⟩
  go_wp2
  go_ret
  exact ⟨rfl, _, rfl⟩

set_option maxHeartbeats 1600000 in
/-- Kept, where it is: true. -/
theorem hKeptByte_any (q n d : Nat) (B : Option Addr) (xs : List Int) (f : Int) (w : World) (hq : Copy w q 5 .u8 xs f) (hb : Row w .u8 B n xs) (hn : n ≤ 140737488351232) :
    Calls Try.prog 10 #[.slice (some ⟨q, 0, none⟩) n (n + 3), .slice B n d, .int .u8 f] w fun e w' => e = .returned (.bool true) ∧ ∃ k, w' = w.drewN k := by
  have hlen := hb.len
  have hr := hq.row
  rw [hlen] at hr
  have hcells : ∀ j, j < 3 → w.cell? ⟨q, n + j, none⟩ = some (.int .u8 f) := by
    intro j hj
    rw [hq.blk.cell (n + j), List.getElem?_toArray, ivs_get (by simp; omega)]
    have : xs.length ≤ n + j := by omega
    simp only [List.getD, List.getElem?_append_right this]
    rw [show n + j - xs.length = j from by omega]
    match j, hj with
    | 0, _ => rfl
    | 1, _ => rfl
    | 2, _ => rfl
  have H := Lib.hid hcells
  have hcap : ¬ ((n : Int) + 3 < (n : Int) + 3) := by omega
  have hcapd : decide ((n : Int) + 3 < (n : Int) + 3) = false := by simp
  clear hcells hlen
  go_enter Try.func10, Try.ntmps10
  go_wp2_with fail
  refine (hPlainByte_any _ _ n n _ _ xs xs _ hr hb (by omega) (by omega)).mono ?_
  rintro e w' ⟨rfl, k, rfl⟩
  rw [show decide (xs = xs) = true from by simp]
  go_wp2_with fail
  go_loop [8] (fun i => ∃ j : Nat, j ≤ 3 ∧ i = .int .i64 ((n : Int) + j)) (fun i => ((n : Int) + 3 - intOf i).toNat)
  case atStart => exact ⟨0, by omega, by simp⟩
  case round =>
    obtain ⟨j, hj, rfl⟩ := hrel
    by_cases hlt : j < 3
    · have hc := H.out j hlt
      have hh : (n : Int) + j < (n : Int) + 3 := by omega
      have hh0 : (0 : Int) ≤ (n : Int) + j := by omega
      go_wp2_with fail
      go_round
      case rel => exact ⟨j + 1, by omega, by go_num⟩
      case measure => simp [intOf]; omega
    · have hh : ¬ ((n : Int) + j < (n : Int) + 3) := by omega
      go_wp2_with fail
      go_ret
      exact ⟨rfl, _, rfl⟩

end Go.Proofs.Ythfifpapkknodaa

/- The contract of valisehelp.CopyBytes. -/
namespace Go.Proofs.Ythfifpapkknodaa
open Go.RowKit

theorem Try.infoByteP : (Try.prog.info? 5).map (fun i => (i.zero, i.size, i.bytes)) = some (some (.int .u8 0), 1, 1) := by kernel_rfl

set_option maxHeartbeats 800000 in
theorem hCopyBytes_any (A : Option Addr) (n c : Nat) (xs : List Int) (w : World) (hr : Row w .u8 A n xs) (hn : n ≤ 140737488355328) :
    Calls Try.prog 13 #[.slice A n c] w fun e w' => ∃ v, e = .returned v ∧ NewRow w w' 5 .u8 v xs := by
  obtain ⟨i0, hi, hz0, hz1, hz2⟩ := info_parts Try.infoByteP
  go_enter Try.func13, Try.ntmps13
  go_wp2_with (at_builtin; refine wpList_app _ rfl _ _ 22 rfl 5 i0 .u8 1 Try.underlying22 hi hz0 hz1 hz2 (.slice none 0 0) [] rfl (Own.nil _ _ _) A n c xs rfl hr (by unfold maxLen; simp; omega) (by simp; omega) ?_)
  intro v' w1 hown hg hat
  have hk : Fresh w w1 := (Kept.refl _ _).grown hg (fun k e _ => by cases e)
  have hnew : ∀ g, v'.ownBlock = some g → w.heap.size ≤ g := by
    intro g e
    rcases hat with e' | e'
    · rw [e'] at e; cases e
    · rw [e'] at e; injection e with e; omega
  have H : Hid (NewRow w w1 5 .u8 v' xs) := Lib.hid ⟨by simpa using hown, hnew, hk⟩
  clear hown hg hat hk hnew
  go_wp2_with fail
  go_ret
  exact ⟨_, rfl, H.out⟩

end Go.Proofs.Ythfifpapkknodaa
