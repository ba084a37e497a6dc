/- The code of husk: what a file has around the part that is packed otherwise, written and read. -/
import Derived.Test.YtodmchjdflpbpaaGreatHusMath
import Derived.Test.YtodmchjdflpbpaaGreatNumW
import Derived.Test.YtodmchjdflpbpaaGreatConcat
import Derived.Test.YtodmchjdflpbpaaGreatZeros
import Derived.Deep.RegionWith
import Derived.BigQuiet
import Derived.BigRegion
import Derived.Lib.MinMax
namespace Go.Proofs.YtodmchjdflpbpaaGreat
open Go.RowKit
set_option maxRecDepth 100000

attribute [local go_sem ↓] Go.wp_at_zero Go.wp_at_succ

set_option maxHeartbeats 1600000 in
/-- Write. -/
theorem hWrite_any (g : Nat) (v : Value) (bs : List Int) (size : Nat) (A : Option Addr) (n c : Nat) (hd : List Int) (B : Option Addr) (m d : Nat) (tl : List Int) (w : World) (h : NW w g v bs)
    (hr : Row w .u8 A n hd) (hA : ∀ b o, A = some ⟨b, o, none⟩ → 0 < n → ¬ NFoot g v b) (hs : Row w .u8 B m tl) (hB : ∀ b o, B = some ⟨b, o, none⟩ → 0 < m → ¬ NFoot g v b)
    (hz : size ≤ 9223372036854775807) (hl : bs.length + n + m ≤ 100000000000000) :
    Calls Tryz.prog 17 #[.pointer (some ⟨g, 0, none⟩), .int .i64 size, .slice A n c, .slice B m d] w fun e w' => e = .returned (.tuple #[]) ∧ NPost w w' g v (bs ++ (sv size ++ (tx hd ++ tx tl))) := by
  have hlA := hr.len
  have hlB := hs.len
  have far : ∀ (D : Option Addr) (k : Nat) (xs : List Int), Row w .u8 D k xs → (∀ b o, D = some ⟨b, o, none⟩ → 0 < k → ¬ NFoot g v b) → ∀ X v1, Kept (NFoot g v) w X → (∀ k, v1.ownBlock = some k → v.ownBlock = some k ∨ w.heap.size ≤ k) →
      Row X .u8 D k xs ∧ (∀ b o, D = some ⟨b, o, none⟩ → 0 < k → ¬ NFoot g v1 b) := fun D k xs hr hD X v1 hk hv => by
    refine ⟨hr.kept hk hD, fun b o e h0 hf => ?_⟩
    have hn := hD b o e h0
    obtain ⟨b', o', e', hb', _⟩ := hr.at_ 0 h0
    rw [e] at e'
    injection e' with e'
    injection e' with e1 _
    rcases hf with hf | hf
    · exact hn (.inl hf)
    · rcases hv b hf with hv | hv
      · exact hn (.inr hv)
      · omega
  have h10 := sv_le10 size (by omega)
  have hn10 := sv_le10 n (by omega)
  have HA : Hid (∀ X v1, Kept (NFoot g v) w X → (∀ k, v1.ownBlock = some k → v.ownBlock = some k ∨ w.heap.size ≤ k) → NW X g v1 (bs ++ sv size) →
      Calls Tryz.prog 35 #[.pointer (some ⟨g, 0, none⟩), .slice A n c] X fun e w' => e = .returned (.tuple #[]) ∧ NPost X w' g v1 (bs ++ sv size ++ sv n ++ hd)) := Lib.hid fun X v1 hk hv hw => by
    obtain ⟨a1, a2⟩ := far A n hd hr hA X v1 hk hv
    exact nText_any g v1 _ A n c hd X hw a1 a2 (by rw [List.length_append]; omega)
  have HB : Hid (∀ X v1, Kept (NFoot g v) w X → (∀ k, v1.ownBlock = some k → v.ownBlock = some k ∨ w.heap.size ≤ k) → NW X g v1 (bs ++ sv size ++ sv n ++ hd) →
      Calls Tryz.prog 35 #[.pointer (some ⟨g, 0, none⟩), .slice B m d] X fun e w' => e = .returned (.tuple #[]) ∧ NPost X w' g v1 (bs ++ sv size ++ sv n ++ hd ++ sv m ++ tl)) := Lib.hid fun X v1 hk hv hw => by
    obtain ⟨a1, a2⟩ := far B m tl hs hB X v1 hk hv
    exact nText_any g v1 _ B m d tl X hw a1 a2 (by simp only [List.length_append]; omega)
  have HE : Hid (bs ++ (sv size ++ (tx hd ++ tx tl)) = bs ++ sv size ++ sv n ++ hd ++ sv m ++ tl) := Lib.hid (by unfold tx; rw [hlA, hlB]; simp only [List.append_assoc])
  have HN := Lib.hid (nNum_any g v bs size w h (by omega) (by omega))
  rw [HE.out]
  have i1 : IntKind.u64.wrap (size : Int) = (size : Int) := IntWalk.u64_in _ (by omega)
  clear hr hs hA hB h hlA hlB h10 hn10 hl HE far
  go_enter Tryz.func17, Tryz.ntmps17
  go_wp2_with fail
  refine HN.out.mono ?_
  rintro e w1 ⟨rfl, v1, hw1, hv1, hk1⟩
  have HT := Lib.hid (HA.out w1 v1 hk1 hv1 hw1)
  have H1 := Lib.hid (And.intro hv1 hk1)
  clear hw1 hv1 hk1 HN HA
  go_wp2_with fail
  refine HT.out.mono ?_
  rintro e w2 ⟨rfl, hp2⟩
  have hp2 := NPost.trans H1.out.1 H1.out.2 hp2
  obtain ⟨v2, hw2, hv2, hk2⟩ := hp2
  have HU := Lib.hid (HB.out w2 v2 hk2 hv2 hw2)
  have H2 := Lib.hid (And.intro hv2 hk2)
  clear hw2 hv2 hk2 HT HB H1
  go_wp2_with fail
  refine HU.out.mono ?_
  rintro e w3 ⟨rfl, hp3⟩
  have H3 := Lib.hid (NPost.trans H2.out.1 H2.out.2 hp3)
  clear hp3 HU H2
  go_wp2_with fail
  go_end0
  exact ⟨rfl, H3.out⟩

/-- Three texts in a list of their own. -/
theorem Parts.three {w : World} {A B C : Option Addr} {n m k c d e : Nat} {x y z : List Int} (t : TypeId) (hx : Row w .u8 A n x) (hy : Row w .u8 B m y) (hz : Row w .u8 C k z) :
    Parts (w.alloc (.cells #[.slice A n c, .slice B m d, .slice C k e] t)) (some ⟨w.heap.size, 0, none⟩) 3 [x, y, z] (fun _ => False) :=
  ⟨rfl, fun j hj => by
    have hf : Fresh w (w.alloc (.cells #[.slice A n c, .slice B m d, .slice C k e] t)) := (Kept.refl _ _).alloc _
    have hb := Blk.new w t #[.slice A n c, .slice B m d, .slice C k e]
    rcases (show j = 0 ∨ j = 1 ∨ j = 2 by omega) with rfl | rfl | rfl
    · exact ⟨_, 0, A, n, c, rfl, hb.lt, id, (hb.cell 0).trans rfl, hx.kept hf (fun _ _ _ _ => id), fun _ _ _ _ => id⟩
    · exact ⟨_, 0, B, m, d, rfl, hb.lt, id, (hb.cell 1).trans rfl, hy.kept hf (fun _ _ _ _ => id), fun _ _ _ _ => id⟩
    · exact ⟨_, 0, C, k, e, rfl, hb.lt, id, (hb.cell 2).trans rfl, hz.kept hf (fun _ _ _ _ => id), fun _ _ _ _ => id⟩⟩

/-- What reading it leaves. -/
def BlPost (g : Nat) (t : TypeId) (ext : List Value) (A : Option Addr) (c : Nat) (xs : List Int) (w : World) (m : Nat) (e : Ending) (w' : World) : Prop :=
  ∃ u, e = .returned (.tuple #[u, .int .i64 (blkA xs m).1]) ∧ Own w' 5 .u8 u (blkA xs m).2 ∧ (∀ k, u.ownBlock = some k → w.heap.size ≤ k) ∧ ((blkA xs m).1 = 0 → NRd w' g t ext A c xs (blkT xs m).2.1 0) ∧ Mine g w w'

set_option maxHeartbeats 3200000 in
/-- Read. -/
theorem hRead_any (g : Nat) (t : TypeId) (ext : List Value) (A : Option Addr) (c : Nat) (xs : List Int) (most : Int) (w : World) (h : NRd w g t ext A c xs 0 0) :
    Calls Tryz.prog 44 #[.pointer (some ⟨g, 0, none⟩), .int .i64 most] w (BlPost g t ext A c xs w (mst most)) := by
  obtain ⟨m, hms⟩ : ∃ m, m = mst most := ⟨_, rfl⟩
  have hm : m ≤ 1048576 := by rw [hms]; exact (mst_le most).1
  have hmx : min (max most 0) 1048576 = (m : Int) := by rw [hms]; unfold mst; omega
  rw [← hms]
  clear hms
  obtain ⟨i0, hi, hz0, hz1, hz2⟩ := info_parts Tryz.infoByteN
  have hgw : g < w.heap.size := h.blk.lt
  have HN := Lib.hid (nrNum_any g t ext A c xs 0 0 w h)
  have hfit := nx_fits g t ext A c xs 0 0 w h
  have hl1 : (blkH xs m).1.length ≤ m := txt_le _ _ _ _
  have hl2 : (blkT xs m).1.length ≤ m := txt_le _ _ _ _
  have HE : Hid (blkA xs m = if m < (nx xs 0 0).1 then (5, []) else if (blkT xs m).2.2 ≠ 0 then ((blkT xs m).2.2, []) else if (nx xs 0 0).1 < (blkH xs m).1.length + (blkT xs m).1.length then (4, []) else (0, (blkH xs m).1 ++ (List.replicate ((nx xs 0 0).1 - (blkH xs m).1.length - (blkT xs m).1.length) 0 ++ (blkT xs m).1))) := Lib.hid rfl
  have HHt : Hid (txt xs (nx xs 0 0).2.1 (nx xs 0 0).2.2 m = blkH xs m) := Lib.hid rfl
  have HTt : Hid (txt xs (blkH xs m).2.1 (blkH xs m).2.2 m = blkT xs m) := Lib.hid rfl
  clear h
  generalize hTq : blkT xs m = bt at *
  generalize blkH xs m = bh at *
  obtain ⟨hd, p2, e2⟩ := bh
  obtain ⟨tl, p3, e3⟩ := bt
  have HTq := Lib.hid hTq
  clear hTq
  generalize nx xs 0 0 = a at *
  obtain ⟨v, p1, e1⟩ := a
  simp only [] at *
  have m0 : (0 : Int) ≤ (m : Int) ∧ (m : Int) ≤ 1048576 := by omega
  have hwm : IntKind.u64.wrap (m : Int) = (m : Int) := IntWalk.u64_in _ (by omega)
  go_enter Tryz.func44, Tryz.ntmps44
  go_wp2_with fail
  refine HN.out.mono ?_
  rintro e w1 ⟨rfl, h1, hk1⟩
  have HX1 : Hid (∀ V, Fresh w1 V → Calls Tryz.prog 56 #[.pointer (some ⟨g, 0, none⟩), .int .i64 m] V (TextPost g t ext A c xs V (hd, p2, e2))) := Lib.hid fun V hV => by
    have := nrText_any g t ext A c xs p1 e1 m V (by omega) (h1.kept hV id (fun _ _ _ _ => id))
    rwa [HHt.out] at this
  have HX2 : Hid (∀ V, NRd V g t ext A c xs p2 e2 → Calls Tryz.prog 56 #[.pointer (some ⟨g, 0, none⟩), .int .i64 m] V (TextPost g t ext A c xs V (tl, p3, e3))) := Lib.hid fun V hV => by
    have := nrText_any g t ext A c xs p2 e2 m V (by omega) hV
    rwa [HTt.out] at this
  have HF1 : Hid (Mine g w w1) := Lib.hid hk1
  by_cases hbig : m < v
  · have hbi : (m : Int) < (v : Int) := by omega
    have HQ : Hid (blkA xs m = (5, [])) := Lib.hid (by rw [HE.out, if_pos hbig])
    clear hbig h1 hk1 HE HX1 HX2 HN
    go_wp2_with fail
    go_ret2
    unfold BlPost
    rw [HQ.out]
    exact ⟨_, rfl, Own.nil _ _ _, fun k e => (by cases e), fun e => (by cases e), HF1.out⟩
  · have hbi : ¬ (m : Int) < (v : Int) := by omega
    clear h1 hk1 HN
    go_wp2_with fail
    refine (HX1.out _ (Kept.refl _ w1)).mono ?_
    rintro e w2 ⟨u2, rfl, hu2, hun2, h2, hk2⟩
    go_wp2_with fail
    refine (HX2.out _ h2).mono ?_
    rintro e w3 ⟨u3, rfl, hu3, hun3, h3, hk3⟩
    all_goals
      have hk13 : Mine g w1 w3 := Kept.trans (T := fun k => k = g) hk2 hk3 fun _ _ e => e
      have hk03 : Mine g w w3 := HF1.out.trans hk13 fun _ _ e => e
      have hw1z : w.heap.size ≤ w1.heap.size := HF1.out.size
      have hun2' : ∀ k, u2.ownBlock = some k → w1.heap.size ≤ k := hun2
      have hu2' := hu2.kept hk3 (fun k e e2 => by have := hun2' k e; omega)
      obtain ⟨Bh, bh, rfl, hrh, _⟩ := hu2'.row
      obtain ⟨Bt, bt, rfl, hrt, _⟩ := hu3.row
      have HEr := Lib.hid (nrErr_any g t ext A c xs p3 e3 w3 h3)
      have H3 := Lib.hid (And.intro h3 (And.intro hk03 (And.intro hrh hrt)))
      clear hu2 hun2 h2 hk2 hun2' hu2' hu3 hun3 hk3 h3 hk13 hk03 hrh hrt HX1 HX2
      by_cases he : e3 = 0
      · subst he
        obtain ⟨lh, hlh⟩ : ∃ lh, lh = hd.length := ⟨_, rfl⟩
        obtain ⟨lt, hlt⟩ : ∃ lt, lt = tl.length := ⟨_, rfl⟩
        rw [← hlh] at hl1
        rw [← hlt] at hl2
        rw [← hlh, ← hlt] at HE
        rw [← hlh, ← hlt]
        have HL := Lib.hid (And.intro hlh hlt)
        clear hlh hlt
        have i1 : IntKind.i64.wrap (v : Int) = (v : Int) := IntWalk.i64_in _ (by omega)
        by_cases hz : v < lh + lt
        · have i2 : IntKind.i64.wrap ((v : Int) - (lh : Int)) = (v : Int) - (lh : Int) := IntWalk.i64_in _ (by omega)
          have i3 : IntKind.i64.wrap ((v : Int) - (lh : Int) - (lt : Int)) = (v : Int) - (lh : Int) - (lt : Int) := IntWalk.i64_in _ (by omega)
          have i4 : (v : Int) - (lh : Int) - (lt : Int) < 0 := by omega
          have HQ : Hid (blkA xs m = (4, [])) := Lib.hid (by rw [HE.out, if_neg hbig, if_neg (by simp), if_pos hz])
          clear HE hz hbig
          go_wp2_with fail
          refine HEr.out.mono ?_
          rintro e w4 ⟨rfl, rfl⟩
          go_wp2_with fail
          go_ret2
          unfold BlPost
          rw [HQ.out]
          exact ⟨_, rfl, Own.nil _ _ _, fun k e => (by cases e), fun e => (by cases e), H3.out.2.1⟩
        · obtain ⟨z, hzz⟩ : ∃ z, z = v - lh - lt := ⟨_, rfl⟩
          have i2 : (v : Int) - (lh : Int) - (lt : Int) = (z : Int) := by omega
          have i4 : ¬ (v : Int) - (lh : Int) - (lt : Int) < 0 := by omega
          have i5 : ¬ (z : Int) < 0 := by omega
          have i6 : IntKind.i64.wrap ((v : Int) - (lh : Int)) = (v : Int) - (lh : Int) := IntWalk.i64_in _ (by omega)
          have i7 : IntKind.i64.wrap (z : Int) = (z : Int) := IntWalk.i64_in _ (by omega)
          have HQ : Hid (blkA xs m = (0, hd ++ (List.replicate z 0 ++ tl))) := Lib.hid (by rw [HE.out, if_neg hbig, if_neg (by simp), if_neg hz, hzz])
          have hzl : z ≤ 1048576 := by omega
          clear HE hz hbig hzz
          go_wp2_with fail
          refine HEr.out.mono ?_
          rintro e w4 ⟨rfl, rfl⟩
          go_wp2_with (at_make; refine wpList_make_zeros _ rfl _ _ 22 rfl 5 i0 .u8 1 Tryz.underlying22 hi hz0 hz1 hz2 .i64 .i64 (z : Int) (z : Int) z rfl rfl rfl rfl (by omega) (by unfold maxLen; omega) ?_)
          intro w5 ho5 hf5
          obtain ⟨_, _, ez, hrz, _⟩ := ho5.row
          rw [List.length_replicate] at ez hrz
          injection ez with ez1 _ ez3
          subst ez1 ez3
          have hP := Parts.three (c := bh) (d := z) (e := bt) 22 (H3.out.2.2.1.kept hf5 (fun _ _ _ _ => id)) hrz (H3.out.2.2.2.kept hf5 (fun _ _ _ _ => id))
          have HC := Lib.hid (concat_any (some ⟨w5.heap.size, 0, none⟩) 3 3 [hd, List.replicate z 0, tl] _ hP (by omega) (by simp only [List.flatten_cons, List.flatten_nil, List.length_append, List.length_replicate, List.length_nil]; have := HL.out; omega))
          have H5 := Lib.hid hf5
          rw [← HL.out.1, ← HL.out.2] at HC
          clear ho5 hrz hP hf5
          go_wp2_with fail
          refine HC.out.mono ?_
          rintro e w6 ⟨u6, rfl, hu6⟩
          have hf36 : Fresh w3 w6 := (H5.out.alloc _).trans hu6.2.2 fun _ _ e => e
          have H6 := Lib.hid (And.intro hu6.1 (And.intro (fun k e => Nat.le_trans (H5.out.alloc (.cells #[.slice Bh lh bh, .slice (some ⟨w3.heap.size, 0, none⟩) z z, .slice Bt lt bt] 22)).size (hu6.2.1 k e)) hf36))
          clear hu6 hf36 HC
          go_wp2_with fail
          go_ret2
          unfold BlPost
          rw [HQ.out, HTq.out]
          refine ⟨_, rfl, by simpa using H6.out.1, fun k e => Nat.le_trans H3.out.2.1.size (H6.out.2.1 k e), fun _ => H3.out.1.kept H6.out.2.2 id (fun _ _ _ _ => id), H3.out.2.1.trans H6.out.2.2 fun _ _ e => e.elim⟩
      · have heb : (e3 != 0) = true := by simpa using he
        have HQ : Hid (blkA xs m = (e3, [])) := Lib.hid (by rw [HE.out, if_neg hbig, if_pos he])
        have HNz := Lib.hid he
        clear he HE hbig
        generalize hd.length = lh at *
        generalize tl.length = lt at *
        go_wp2_with fail
        refine HEr.out.mono ?_
        rintro e w4 ⟨rfl, rfl⟩
        go_wp2_with fail
        go_ret2
        unfold BlPost
        rw [HQ.out]
        exact ⟨_, rfl, Own.nil _ _ _, fun k e => (by cases e), fun e => absurd e HNz.out, H3.out.2.1⟩

end Go.Proofs.YtodmchjdflpbpaaGreat
