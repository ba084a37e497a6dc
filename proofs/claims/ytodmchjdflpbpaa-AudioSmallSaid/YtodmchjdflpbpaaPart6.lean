/- Texts of this proof, one behind the other: AudW, AudG, AudPk. -/
import Derived.Test.YtodmchjdflpbpaaPart5
import Derived.Test.YtodmchjdflpbpaaPart4
import Derived.Test.YtodmchjdflpbpaaNumW
import Derived.Deep.RegionWith
import Derived.BigQuiet
import Derived.BigRegion
import Derived.Test.YtodmchjdflpbpaaWavD
import Derived.Deep.RegionHeld3
import Derived.Test.YtodmchjdflpbpaaStillIn
import Derived.Test.YtodmchjdflpbpaaHusC

/- Audio's writer: a track, tracks that are packed one way. -/
namespace Go.Proofs.Ytodmchjdflpbpaa
open Go.RowKit
set_option maxRecDepth 100000

attribute [local go_sem ↓] Go.wp_at_zero Go.wp_at_succ

set_option maxHeartbeats 1600000 in
/-- track. -/
theorem cWTrack_any (g : Nat) (v : Value) (bs : List Int) (A : Option Addr) (n c : Nat) (l : List Int) (w : World) (h : NW w g v bs) (hr : Row w .i32 A n l) (h32 : I32 l) (hn : n ≤ 1048576) (hl : bs.length ≤ 100000000000) :
    Calls Try.prog 34 #[.pointer (some ⟨g, 0, none⟩), .slice A n c] w fun e w' => e = .returned (.tuple #[]) ∧ NPost w w' g v (bs ++ trkP l) := by
  have HS := Lib.hid (cShortest_any A n c l w hr h32 hn)
  have ht4 := tagT_le l
  have hpl := pkT_le (tagT l) l
  rw [hr.len] at hpl
  obtain ⟨P, hP⟩ : ∃ P, P = pkT (tagT l) l := ⟨_, rfl⟩
  obtain ⟨t, ht⟩ : ∃ t, t = tagT l := ⟨_, rfl⟩
  have HT : Hid (trkP l = sv t ++ (sv P.length ++ P)) := Lib.hid (by rw [hP, ht]; rfl)
  rw [← hP, ← ht] at HS
  rw [← hP] at hpl
  rw [← ht] at ht4
  have HW := Lib.hid h
  clear hr h32 h hP ht
  go_enter Try.func34, Try.ntmps34
  go_wp2_with fail
  refine HS.out.mono ?_
  rintro e w1 ⟨u, rfl, hu⟩
  obtain ⟨B, cB, rfl, hru, hBo⟩ := hu.1.row
  have h1 := HW.out.kept hu.2.2 (fun _ _ => id)
  have hfar : ∀ b o, B = some ⟨b, o, none⟩ → w.heap.size ≤ b ∧ b < w1.heap.size := fun b o e => ⟨hu.2.1 b (hBo b o e), hu.1.lt (hBo b o e)⟩
  have HN := Lib.hid (nNum_any g v bs t w1 h1 (by omega) (by omega))
  have H1 := Lib.hid (And.intro hru (And.intro hfar (And.intro h1 hu.2.2)))
  clear hru hfar h1 hu hBo HS
  generalize P.length = pl at *
  go_wp2_with fail
  have htn : ((t : Int) : Int) = ((t : Nat) : Int) := rfl
  refine HN.out.mono ?_
  rintro e w2 ⟨rfl, v1, hw1, hv1, hk1⟩
  have hr2 := H1.out.1.kept hk1 (fun b o e _ hf => by
    have a1 := H1.out.2.1 b o e
    have a2 := HW.out.lt b hf
    omega)
  have HX := Lib.hid (nText_any g v1 (bs ++ sv t) B pl cB P w2 hw1 hr2 (fun b o e _ hf => by
    have a1 := H1.out.2.1 b o e
    rcases hf with rfl | hf
    · have a2 := HW.out.lt _ (.inl rfl); omega
    · rcases hv1 b hf with e2 | e2
      · have a2 := HW.out.lt b (.inr e2); omega
      · omega) (by
    have := sv_le10 t (by omega)
    rw [List.length_append]; omega))
  have H2 := Lib.hid (And.intro hv1 hk1)
  clear hr2 hw1 hv1 hk1 HN
  go_wp2_with fail
  refine HX.out.mono ?_
  rintro e w3 ⟨rfl, hp⟩
  have hQ := NPost.after H1.out.2.2.2 (NPost.trans H2.out.1 H2.out.2 hp)
  have HQ := Lib.hid hQ
  clear hp hQ
  go_wp2_with fail
  go_end0
  refine ⟨rfl, ?_⟩
  rw [HT.out]
  have := HQ.out
  simpa only [List.append_assoc] using this

/-- So many tracks, packed. -/
def trksN (T : Nat → List Int) : Nat → List Int
  | 0 => []
  | j + 1 => trksN T j ++ trkP (T j)
theorem trksN_le {T : Nat → List Int} {n : Nat} (h : ∀ i, i < n → (T i).length ≤ 1048576) : ∀ j, j ≤ n → (trksN T j).length ≤ 8388630 * j
  | 0, _ => by simp [trksN]
  | j + 1, hj => by
    have ih := trksN_le h j (by omega)
    have h2 := trkP_le (h j (by omega))
    have h3 := h j (by omega)
    rw [trksN, List.length_append]
    omega

set_option maxHeartbeats 1600000 in
/-- written. -/
theorem cWritten_any (way n : Nat) (A : Option Addr) (c : Nat) (T : Nat → List Int) (w : World) (hr : Trs w A n T) (hw : way ≤ 1) (hn : n ≤ 2) (hT : ∀ i, i < n → I32 (T i) ∧ (T i).length ≤ 1048576) :
    Calls Try.prog 26 #[.int .u64 way, .slice A n c] w fun e w' => ∃ u, e = .returned u ∧ NewRow w w' 5 .u8 u (sv way ++ trksN T n) := by
  have h0 : NW (w.alloc (.cells #[.slice none 0 0] 45)) w.heap.size (.slice none 0 0) [] := NW.at_ w 45 (by decide)
  have HN := Lib.hid (nNum_any w.heap.size (.slice none 0 0) [] way _ h0 (by omega) (by simp))
  have HR := Lib.hid (And.intro hr hT)
  have hsw := sv_le10 way (by omega)
  have hsz : (w.alloc (.cells #[.slice none 0 0] 45)).heap.size = w.heap.size + 1 := by simp
  have hf0 : Fresh w (w.alloc (.cells #[.slice none 0 0] 45)) := (Kept.refl _ _).alloc _
  have HF : Hid (∀ wr v bs, NPost (w.alloc (.cells #[.slice none 0 0] 45)) wr w.heap.size (.slice none 0 0) bs → v = bs → Fresh w wr) := Lib.hid fun wr _ bs ⟨v', _, _, hk⟩ _ =>
    hf0.trans hk fun i hi hf => by
      rcases hf with rfl | hf
      · omega
      · cases hf
  clear hr hT h0 hf0
  go_enter Try.func26, Try.ntmps26
  go_wp2_with fail
  generalize w.alloc (.cells #[.slice none 0 0] 45) = w0 at *
  refine HN.out.mono ?_
  rintro e w1 ⟨rfl, hp1⟩
  rw [List.nil_append] at hp1
  go_wp2_with fail
  go_loopw [13] (fun i wr => ∃ j : Nat, j ≤ n ∧ i = .int .i64 j ∧ NPost w0 wr w.heap.size (.slice none 0 0) (sv way ++ trksN T j)) (fun i _ => (n - intOf i).toNat)
  case atStart => exact ⟨0, by omega, rfl, by simpa [trksN] using hp1⟩
  case round =>
    obtain ⟨j, hj, rfl, hp⟩ := hrel
    have hfr := HF.out wr _ _ hp rfl
    have hlen := trksN_le (fun i hi => (HR.out.2 i hi).2) j hj
    by_cases hlt : j < n
    · obtain ⟨v1, hw1, hv1, hk1⟩ := hp
      obtain ⟨b, o, B, m, cB, rfl, hb, hc, hrow⟩ := (HR.out.1.fresh hfr) j hlt
      have HT := Lib.hid (cWTrack_any w.heap.size v1 (sv way ++ trksN T j) B m cB (T j) wr hw1 hrow (HR.out.2 j hlt).1 (by rw [← hrow.len]; exact (HR.out.2 j hlt).2) (by rw [List.length_append]; omega))
      have H1 := Lib.hid (And.intro hv1 hk1)
      have ij : (j : Int) < (n : Int) := by omega
      clear hrow hw1 hv1 hk1 hfr
      go_wp2_with fail
      refine HT.out.mono ?_
      rintro e w2 ⟨rfl, hp2⟩
      have H2 := Lib.hid (NPost.trans H1.out.1 H1.out.2 hp2)
      clear hp2
      go_wp2_with fail
      go_roundw
      case rel => exact ⟨j + 1, by omega, by go_num, by rw [trksN, ← List.append_assoc]; exact H2.out⟩
      case measure => simp [intOf]; omega
    · obtain rfl : j = n := by omega
      obtain ⟨v1, hw1, hv1, hk1⟩ := hp
      have HB := Lib.hid (nBytes_any w.heap.size v1 (sv way ++ trksN T j) wr hw1 (by rw [List.length_append]; omega))
      have HE := Lib.hid hfr
      clear hw1 hv1 hk1 hfr
      go_wp2_with fail
      refine HB.out.mono ?_
      rintro e w2 ⟨u, rfl, hu⟩
      have HU := Lib.hid (hu.after HE.out)
      clear hu
      go_wp2_with fail
      go_ret
      exact ⟨_, rfl, HU.out⟩

end Go.Proofs.Ytodmchjdflpbpaa

/- Audio's writer: a group of tracks, in the way in which it is shorter. -/
namespace Go.Proofs.Ytodmchjdflpbpaa
open Go.RowKit
set_option maxRecDepth 100000

attribute [local go_sem ↓] Go.wp_at_zero Go.wp_at_succ

theorem wrt_one (way : Nat) (T : Nat → List Int) : sv way ++ trksN T 1 = wrt way [T 0] := by simp [trksN, wrt]
theorem wrt_two (way : Nat) (T : Nat → List Int) : sv way ++ trksN T 2 = wrt way [T 0, T 1] := by simp [trksN, wrt]
/-- Two lists, one behind the other in a new block. -/
theorem Trs.two {w : World} {A B : Option Addr} {n m c d : Nat} {x y : List Int} (t : TypeId) (hx : Row w .i32 A n x) (hy : Row w .i32 B m y) :
    Trs (w.alloc (.cells #[.slice A n c, .slice B m d] t)) (some ⟨w.heap.size, 0, none⟩) 2 (fun i => if i = 0 then x else y) := fun i hi => by
  have hf : Fresh w (w.alloc (.cells #[.slice A n c, .slice B m d] t)) := (Kept.refl _ _).alloc _
  have hb := Blk.new w t #[.slice A n c, .slice B m d]
  rcases (show i = 0 ∨ i = 1 by omega) with rfl | rfl
  · exact ⟨_, 0, A, n, c, rfl, hb.lt, (hb.cell 0).trans rfl, hx.kept hf (fun _ _ _ _ => id)⟩
  · exact ⟨_, 0, B, m, d, rfl, hb.lt, (hb.cell 1).trans rfl, hy.kept hf (fun _ _ _ _ => id)⟩

/-- One text is written raw, out of new memory. -/
theorem nRawOne_any (g : Nat) (v : Value) (bs : List Int) (A : Option Addr) (n c : Nat) (xs : List Int) (t : TypeId) (w V : World) (h : NW w g v bs) (hf : Fresh w V) (hr : Row V .u8 A n xs) (hA : ∀ b o, A = some ⟨b, o, none⟩ → w.heap.size ≤ b) (hl : bs.length + xs.length ≤ 140737488355328) :
    Calls Try.prog 28 #[.pointer (some ⟨g, 0, none⟩), .slice (some ⟨V.heap.size, 0, none⟩) 1 1] (V.alloc (.cells #[.slice A n c] t)) fun e w' => e = .returned (.tuple #[]) ∧ NPost w w' g v (bs ++ xs) := by
  have hfa : Fresh V (V.alloc (.cells #[.slice A n c] t)) := (Kept.refl _ _).alloc _
  have hw := hf.trans hfa fun _ _ e => e
  have hp := Parts.one (c := c) (t := t) (F := NFoot g v) hr (fun b o e _ hf2 => by have := hA b o e; have := h.lt b hf2; omega) (fun hf2 => by have := h.lt _ hf2; have := hf.size; omega)
  refine (nRaw_any g v bs _ 1 1 [xs] _ (h.kept hw (fun _ _ => id)) hp (by omega) (by simpa using hl)).mono fun e w' ⟨he, hq⟩ => ⟨he, ?_⟩
  simpa using NPost.after hw hq

set_option maxHeartbeats 3200000 in
/-- group, of two. -/
theorem cWGroup2_any (g : Nat) (v : Value) (bs : List Int) (A : Option Addr) (c F : Nat) (T : Nat → List Int) (w : World) (h : NW w g v bs) (hr : Trs w A 2 T) (hF : F ≤ 1048576) (hT : ∀ i, i < 2 → I32 (T i) ∧ (T i).length = F) (hl : bs.length ≤ 10000000000) :
    Calls Try.prog 13 #[.pointer (some ⟨g, 0, none⟩), .slice A 2 c] w fun e w' => e = .returned (.tuple #[]) ∧ NPost w w' g v (bs ++ grp2 (T 0) (T 1)) := by
  obtain ⟨b, o, rfl, hb, D, C, hrd⟩ := hr.at_ (by omega)
  have HW := Lib.hid h
  have HA := Lib.hid (cWritten_any 0 2 _ c T w hr (by omega) (by omega) (fun i hi => ⟨(hT i hi).1, by rw [(hT i hi).2]; exact hF⟩))
  rw [wrt_two] at HA
  obtain ⟨L, hL⟩ : ∃ L, L = T 0 := ⟨_, rfl⟩
  obtain ⟨R, hR⟩ : ∃ R, R = T 1 := ⟨_, rfl⟩
  have hl1 := (hT 0 (by omega)).2
  have hl2 := (hT 1 (by omega)).2
  have r0 := hrd 0 (by omega)
  have r1 := hrd 1 (by omega)
  have hlr : wrt 0 [T 0, T 1] = wrt 0 [T 0, T 1] := rfl
  rw [hl1] at r0
  rw [hl2] at r1
  rw [← hL] at hl1 r0 HA
  rw [← hR] at hl2 r1 HA
  have HR := Lib.hid (And.intro r0.2 (And.intro r1.2 (And.intro (hL ▸ (hT 0 (by omega)).1) (hR ▸ (hT 1 (by omega)).1))))
  have HC : Hid (∀ V, Fresh w V → V.cell? ⟨b, o, none⟩ = some (.slice (D 0) F (C 0)) ∧ V.cell? ⟨b, o + 1, none⟩ = some (.slice (D 1) F (C 1))) := Lib.hid fun V hV =>
    ⟨(hV.cell (p := ⟨b, o, none⟩) hb id).trans r0.1, (hV.cell (p := ⟨b, o + 1, none⟩) hb id).trans r1.1⟩
  have HLn := Lib.hid (And.intro hl1 hl2)
  rw [← hL, ← hR]
  clear hr hrd r0 r1 hT h hl1 hl2 hlr
  clear hL hR
  go_enter Try.func13, Try.ntmps13
  go_wp2_with fail
  refine HA.out.mono ?_
  rintro e w1 ⟨u, rfl, hu⟩
  obtain ⟨A1, c1, rfl, hru, hA1⟩ := hu.1.row
  have H1 := Lib.hid (And.intro hru (And.intro (show ∀ b o, A1 = some ⟨b, o, none⟩ → w.heap.size ≤ b from fun b o e => hu.2.1 b (hA1 b o e)) hu.2.2))
  have HM : Hid (∀ V, Fresh w1 V → Calls Try.prog 27 #[.slice (D 0) F (C 0), .slice (D 1) F (C 1)] V fun e w' => Two V w' e (mids L R) (sids L R)) := Lib.hid fun V hV => by
    have := cMid_any (D 0) (D 1) F (C 0) (C 1) L R V ((HR.out.1.kept hu.2.2 (fun _ _ _ _ => id)).kept hV (fun _ _ _ _ => id)) ((HR.out.2.1.kept hu.2.2 (fun _ _ _ _ => id)).kept hV (fun _ _ _ _ => id)) HR.out.2.2.1 HR.out.2.2.2 hF
    unfold mids sids
    rw [HLn.out.1]
    exact this
  obtain ⟨d0, d1⟩ := HC.out w1 hu.2.2
  clear hru hu HA
  generalize hlw : (wrt 0 [L, R]).length = lw at *
  have HLw := Lib.hid hlw
  clear hlw
  go_wp2_with fail
  go_region_with ((go_at_call 27; refine (HM.out _ (Kept.refl _ w1).drew).mono ?_; rintro e w2 ⟨um, us, rfl, hum, hus, hne⟩))
  all_goals
    have hfw : Fresh w1 w2 := (Kept.refl _ w1).drew.trans hum.2.2 fun _ _ e => e
    obtain ⟨Am, cm, rfl, hrm, _⟩ := hum.1.row
    obtain ⟨As, cs, rfl, hrs, _⟩ := hus.1.row
    have hml := mids_length L R
    have hsl := sids_length L R
    have hF1 := HLn.out.1
    have h32 := mids_32 L R
    have h32s := sids_32 L R
    rw [hml, hF1] at hrm
    rw [hsl, hF1] at hrs
    rw [hml, hF1, hsl, hF1]
    obtain ⟨M, hM⟩ : ∃ M, M = mids L R := ⟨_, rfl⟩
    obtain ⟨S, hS⟩ : ∃ S, S = sids L R := ⟨_, rfl⟩
    rw [← hM] at hrm h32 hml
    rw [← hS] at hrs h32s hsl
    have HMS := Lib.hid (And.intro hM hS)
    have hfa : Fresh w2 (w2.alloc (.cells #[.slice Am F cm, .slice As F cs] 51)) := (Kept.refl _ _).alloc _
    have HA2 := Lib.hid (cWritten_any 1 2 _ 2 (fun i => if i = 0 then M else S) _ (Trs.two (c := cm) (d := cs) 51 hrm hrs) (by omega) (by omega) (fun i hi => by
      rcases (show i = 0 ∨ i = 1 by omega) with rfl | rfl
      · exact ⟨h32, by show M.length ≤ _; omega⟩
      · exact ⟨h32s, by show S.length ≤ _; omega⟩))
    rw [wrt_two, if_pos rfl, if_neg (by omega)] at HA2
    have H2 := Lib.hid (And.intro hfw hfa)
    clear hrm hrs h32 h32s hml hsl hF1 hM hS hum hus hne hfw hfa d0 d1 HM
    go_wp2_with fail
    refine HA2.out.mono ?_
    rintro e w3 ⟨u2, rfl, hu2⟩
    obtain ⟨A2, c2, rfl, hru2, hA2⟩ := hu2.1.row
    have hf13 : Fresh w1 w3 := (H2.out.1.trans H2.out.2 fun _ _ e => e).trans hu2.2.2 fun _ _ e => e
    have hf03 : Fresh w w3 := H1.out.2.2.trans hf13 fun _ _ e => e
    have h2n : ∀ b o, A2 = some ⟨b, o, none⟩ → w.heap.size ≤ b := fun b o e => Nat.le_trans (Nat.le_trans H1.out.2.2.size (Nat.le_trans H2.out.1.size H2.out.2.size)) (hu2.2.1 b (hA2 b o e))
    have hw1 := wrt2_le (way := 1) (by omega) (a := M) (b := S) (by rw [HMS.out.1, mids_length, HLn.out.1]; exact hF) (by rw [HMS.out.2, sids_length, HLn.out.1]; exact hF)
    have hw0 := wrt2_le (way := 0) (by omega) (a := L) (b := R) (by rw [HLn.out.1]; exact hF) (by rw [HLn.out.2]; exact hF)
    have e1 : M.length = F := by rw [HMS.out.1, mids_length, HLn.out.1]
    have e2 : S.length = F := by rw [HMS.out.2, sids_length, HLn.out.1]
    have HG : Hid (grp2 L R = if (wrt 1 [M, S]).length < lw then wrt 1 [M, S] else wrt 0 [L, R]) := Lib.hid (by unfold grp2; rw [← HMS.out.1, ← HMS.out.2, HLw.out])
    rw [HLn.out.1, HLn.out.2, HLw.out] at hw0
    rw [e1, e2] at hw1
    have hlen0 := HLw.out
    by_cases hlt : (wrt 1 [M, S]).length < lw
    · have HE : Hid (grp2 L R = wrt 1 [M, S]) := Lib.hid (by rw [HG.out, if_pos hlt])
      have HQ := Lib.hid (nRawOne_any g v bs A2 _ c2 (wrt 1 [M, S]) 27 w w3 HW.out hf03 hru2 h2n (by omega))
      clear hru2 hu2 hA2 hf13 hf03 h2n HG e1 e2 hw0 hw1 hlen0 HA2 H2
      generalize (wrt 1 [M, S]).length = l2 at *
      have i1 : (l2 : Int) < (lw : Int) := by omega
      clear hlt
      go_wp2_with fail
      refine HQ.out.mono ?_
      rintro e w4 ⟨rfl, hp⟩
      have HP := Lib.hid hp
      clear hp HQ
      go_wp2_with fail
      go_end0
      exact ⟨rfl, by rw [HE.out]; exact HP.out⟩
    · have HE : Hid (grp2 L R = wrt 0 [L, R]) := Lib.hid (by rw [HG.out, if_neg hlt])
      have HQ := Lib.hid (nRawOne_any g v bs A1 lw c1 (wrt 0 [L, R]) 27 w w3 HW.out hf03 (H1.out.1.kept hf13 (fun _ _ _ _ => id)) H1.out.2.1 (by omega))
      clear hru2 hu2 hA2 hf13 hf03 h2n HG e1 e2 hw0 hw1 hlen0 HA2 H2
      generalize (wrt 1 [M, S]).length = l2 at *
      have i1 : ¬ (l2 : Int) < (lw : Int) := by omega
      clear hlt
      go_wp2_with fail
      refine HQ.out.mono ?_
      rintro e w4 ⟨rfl, hp⟩
      have HP := Lib.hid hp
      clear hp HQ
      go_wp2_with fail
      go_end0
      exact ⟨rfl, by rw [HE.out]; exact HP.out⟩

set_option maxHeartbeats 1600000 in
/-- group, of one. -/
theorem cWGroup1_any (g : Nat) (v : Value) (bs : List Int) (A : Option Addr) (c : Nat) (T : Nat → List Int) (w : World) (h : NW w g v bs) (hr : Trs w A 1 T) (hT : I32 (T 0) ∧ (T 0).length ≤ 1048576) (hl : bs.length ≤ 10000000000) :
    Calls Try.prog 13 #[.pointer (some ⟨g, 0, none⟩), .slice A 1 c] w fun e w' => e = .returned (.tuple #[]) ∧ NPost w w' g v (bs ++ wrt 0 [T 0]) := by
  have HW := Lib.hid h
  have HA := Lib.hid (cWritten_any 0 1 _ c T w hr (by omega) (by omega) (fun i hi => (show i = 0 by omega) ▸ hT))
  rw [wrt_one] at HA
  have hw0 := wrt1_le (way := 0) (by omega) hT.2
  have HT := Lib.hid hT.2
  clear hr hT h
  go_enter Try.func13, Try.ntmps13
  go_wp2_with fail
  refine HA.out.mono ?_
  rintro e w1 ⟨u, rfl, hu⟩
  obtain ⟨A1, c1, rfl, hru, hA1⟩ := hu.1.row
  have HQ := Lib.hid (nRawOne_any g v bs A1 _ c1 (wrt 0 [T 0]) 27 w w1 HW.out hu.2.2 hru (fun b o e => hu.2.1 b (hA1 b o e)) (by have := HT.out; omega))
  clear hru hu HA hA1 hw0
  generalize (wrt 0 [T 0]).length = l0 at *
  go_wp2_with fail
  refine HQ.out.mono ?_
  rintro e w4 ⟨rfl, hp⟩
  have HP := Lib.hid hp
  clear hp HQ
  go_wp2_with fail
  go_end0
  exact ⟨rfl, HP.out⟩

set_option maxHeartbeats 1600000 in
/-- group, of none. -/
theorem cWGroup0_any (g : Nat) (v : Value) (bs : List Int) (A : Option Addr) (c : Nat) (T : Nat → List Int) (w : World) (h : NW w g v bs) (hl : bs.length ≤ 10000000000) :
    Calls Try.prog 13 #[.pointer (some ⟨g, 0, none⟩), .slice A 0 c] w fun e w' => e = .returned (.tuple #[]) ∧ NPost w w' g v (bs ++ sv 0) := by
  have HW := Lib.hid h
  have HA := Lib.hid (cWritten_any 0 0 A c T w (Trs.nil _ _ _) (by omega) (by omega) (fun i hi => absurd hi (by omega)))
  rw [trksN, List.append_nil] at HA
  have hw0 := sv_le10 0 (by omega)
  clear h
  go_enter Try.func13, Try.ntmps13
  go_wp2_with fail
  refine HA.out.mono ?_
  rintro e w1 ⟨u, rfl, hu⟩
  obtain ⟨A1, c1, rfl, hru, hA1⟩ := hu.1.row
  have HQ := Lib.hid (nRawOne_any g v bs A1 _ c1 (sv 0) 27 w w1 HW.out hu.2.2 hru (fun b o e => hu.2.1 b (hA1 b o e)) (by omega))
  clear hru hu HA hA1 hw0
  generalize (sv 0).length = l0 at *
  go_wp2_with fail
  refine HQ.out.mono ?_
  rintro e w4 ⟨rfl, hp⟩
  have HP := Lib.hid hp
  clear hp HQ
  go_wp2_with fail
  go_end0
  exact ⟨rfl, HP.out⟩

end Go.Proofs.Ytodmchjdflpbpaa

/- The code's Pack of audio. -/
namespace Go.Proofs.Ytodmchjdflpbpaa
open Go.RowKit Go.Shelf
set_option maxRecDepth 100000

attribute [local go_sem] Oper.semAt_some

/-- The loop's own book-keeping leaves a writer as it is. -/
theorem NPost.nc {W0 X Y : World} {g : Nat} {v : Value} {bs : List Int} {S : Nat → Prop} (h : NPost W0 X g v bs) (hk : Kept S X Y) (hS : ∀ k, S k → NoCells X k ∧ W0.heap.size ≤ k) : NPost W0 Y g v bs := by
  obtain ⟨v', hw, hv, hk0⟩ := h
  refine ⟨v', hw.kept hk (fun k hf e => ?_), hv, hk0.trans hk fun i hi e => by have := (hS i e).2; omega⟩
  rcases hf with rfl | hf
  · obtain ⟨t, _, hb⟩ := hw.blk
    exact hb.cells (hS _ e).1
  · exact hw.own.cells hf (hS _ e).1
theorem Bag.cap {w : World} {B g n cap : Nat} {V : Nat → Value} {T : Nat → List Int} (h : Bag w B g n cap V T) : n ≤ cap := by
  rcases h.out.2 with ⟨h', _⟩ | ⟨g', cap', cur, h', _, hg, hnc, _⟩
  · simp at h'
  · injection h' with _ _ e
    rw [e]
    exact hnc
/-- Some of the lists. -/
theorem Trs.sub {w : World} {A : Option Addr} {n : Nat} {T : Nat → List Int} (h : Trs w A n T) (p m : Nat) (hm : p + m ≤ n) : Trs w (A.map fun a => ⟨a.block, a.off + p, none⟩) m (fun i => T (p + i)) := fun i hi => by
  obtain ⟨b, o, B, k, c, rfl, hb, hc, hr⟩ := h (p + i) (by omega)
  exact ⟨b, o + p, B, k, c, rfl, hb, by rw [Nat.add_assoc]; exact hc, hr⟩
/-- The bytes of some groups. -/
def grpX (T : Nat → List Int) (n x : Nat) : List Int := if 2 * x < n then grpP T n x else sv 0
def grpsL (T : Nat → List Int) (n : Nat) (pre : List Nat) : List Int := pre.flatMap (grpX T n)
theorem grpsL_snoc (T : Nat → List Int) (n : Nat) (pre : List Nat) (x : Nat) : grpsL T n (pre ++ [x]) = grpsL T n pre ++ grpX T n x := by simp [grpsL]
theorem grpsL_range (T : Nat → List Int) (n : Nat) : ∀ j, j ≤ halves n → grpsL T n (List.range j) = grpsP T n j
  | 0, _ => rfl
  | j + 1, hj => by
    rw [List.range_succ, grpsL_snoc, grpsL_range T n j (by omega), grpX, if_pos (by unfold halves at hj; omega)]
    rfl
theorem grpX_le {T : Nat → List Int} {n F : Nat} (g : Nat) (hF : F ≤ 1048576) (h : ∀ i, (T i).length = F) : (grpX T n g).length ≤ 54 + 16 * F := by
  unfold grpX
  split
  · rename_i h2
    exact grpP_le hF (fun i _ => h i) h2
  · have := sv_le10 0 (by omega)
    omega
theorem grpsL_le {T : Nat → List Int} {n F : Nat} (hF : F ≤ 1048576) (h : ∀ i, (T i).length = F) : ∀ pre : List Nat, (grpsL T n pre).length ≤ pre.length * (54 + 16 * F)
  | [] => by simp [grpsL]
  | x :: r => by
    have ih := grpsL_le (n := n) hF h r
    have h2 := grpX_le (n := n) x hF h
    have e : grpsL T n (x :: r) = grpX T n x ++ grpsL T n r := by simp [grpsL]
    rw [e, List.length_append, List.length_cons, Nat.succ_mul]
    omega

set_option maxHeartbeats 1600000 in
/-- group, of the next ones. -/
theorem cWGroup_any (g : Nat) (v : Value) (bs : List Int) (A : Option Addr) (n F x : Nat) (T : Nat → List Int) (w : World) (h : NW w g v bs) (hr : Trs w A n T) (hF : F ≤ 1048576) (hT : ∀ i, I32 (T i) ∧ (T i).length = F) (hl : bs.length ≤ 10000000000) :
    Calls Try.prog 13 #[.pointer (some ⟨g, 0, none⟩), pairAt A n x] w fun e w' => e = .returned (.tuple #[]) ∧ NPost w w' g v (bs ++ grpX T n x) := by
  unfold pairAt grpX grpP
  by_cases h1 : 2 * x < n
  · rw [if_pos h1]
    by_cases h2 : 2 * x + 1 < n
    · rw [if_pos h2, show min 2 (n - 2 * x) = 2 by omega]
      exact cWGroup2_any g v bs _ 2 F (fun i => T (2 * x + i)) w h (hr.sub (2 * x) 2 (by omega)) hF (fun i _ => hT _) hl
    · rw [if_neg h2, show min 2 (n - 2 * x) = 1 by omega]
      exact cWGroup1_any g v bs _ 1 (fun i => T (2 * x + i)) w h (hr.sub (2 * x) 1 (by omega)) ⟨(hT _).1, by rw [(hT _).2]; exact hF⟩ hl
  · rw [if_neg h1, show min 2 (n - 2 * x) = 0 by omega]
    exact cWGroup0_any g v bs _ 0 T w h hl

set_option maxHeartbeats 6400000 in
/-- Pack of a file that has samples. -/
theorem cPackA_any (A : Option Addr) (n c : Nat) (bs : List Int) (r : Nat × Nat × Nat × Nat) (w : World) (hr : Row w .u8 A n bs) (hb : ∀ x ∈ bs, 0 ≤ x ∧ x < 256) (hn : n ≤ 1048576) (hnc : n ≤ c) (hp : wparse bs = some r) :
    Calls Try.prog 5 #[.slice A n c] w fun e w' => ∃ u, e = .returned (.tuple #[u, .bool true]) ∧ NewRow w w' 5 .u8 u (apR bs r) := by
  refine (callsIn_wide (n := 6)).1 ?_
  obtain rfl := hr.len
  have hpt := Pt.of hp
  have HP := Lib.hid (cParse_any A bs.length c bs w hr hb (by omega) hnc)
  rw [show ParsePost bs w = fun e w' => e = .returned (.tuple #[wval (some r), .bool true]) ∧ Fresh w w' from by unfold ParsePost; rw [hp]; rfl] at HP
  unfold wval at HP
  obtain ⟨ch, bt, f, t⟩ := r
  simp only [] at HP
  have HT := Lib.hid hpt
  have HR := Lib.hid (And.intro hr hb)
  have q1 := hpt.ch
  have q2 := hpt.bt
  have q3 := hpt.ft
  have q4 := hpt.fr
  simp only [] at q1 q2 q3 q4
  have n0 : ¬ (1048576 : Int) < (bs.length : Int) := by omega
  have hsz1 := byte_size
  clear hr hb hpt hp
  refine callsIn_of_wp_marks Try.func5 rfl trivial ?_ rfl
  simp only [Try.ntmps5, List.size_toArray, List.length_cons, List.length_nil, Nat.reduceAdd, Nat.reduceSub, Array.replicate_succ, Array.replicate_zero, List.push_toArray, List.append_toArray, List.nil_append, List.cons_append]
  gi_wp2_with (refine ⟨trivial, ?_⟩; gi_at_call 9; refine (callsIn_wide.2 HP.out).mono ?_; rintro e w1 ⟨rfl, hf1⟩)
  obtain ⟨W1, hW1⟩ : ∃ W1, W1 = w1.alloc (.cells #[.int .i64 ch, .int .i64 bt, .int .i64 f, .int .i64 t] 26) := ⟨_, rfl⟩
  have hfw : Fresh w1 W1 := by rw [hW1]; exact (Kept.refl _ _).alloc _
  have hbw : Blk W1 w1.heap.size 26 #[.int .i64 ch, .int .i64 bt, .int .i64 f, .int .i64 t] := by rw [hW1]; exact Blk.new _ _ _
  have k0 : W1.cell? ⟨w1.heap.size, 0, none⟩ = some (.int .i64 ch) := (hbw.cell 0).trans rfl
  have k1 : W1.cell? ⟨w1.heap.size, 1, none⟩ = some (.int .i64 bt) := (hbw.cell 1).trans rfl
  have k2 : W1.cell? ⟨w1.heap.size, 2, none⟩ = some (.int .i64 f) := (hbw.cell 2).trans rfl
  have k3 : W1.cell? ⟨w1.heap.size, 3, none⟩ = some (.int .i64 t) := (hbw.cell 3).trans rfl
  have HS : Hid (∀ V, Fresh W1 V → Calls Try.prog 10 #[.slice (cutAt A f c) (t - f) (c - f), .int .i64 ch, .int .i64 bt] V fun e w' => SplT V w' e bt (slc bs f (t - f)) ch) := Lib.hid fun V hV => by
    have h0 : Fresh w V := (hf1.trans hfw fun _ _ e => e).trans hV fun _ _ e => e
    have hrow := (HR.out.1.kept h0 (fun _ _ _ _ => id)).cut (l := f) (m := t - f) (c := c) (by omega) hnc
    have hl : (slc bs f (t - f)).length = t - f := HT.out.slen
    have h8 : B8 (slc bs f (t - f)) := slc_byte f (t - f) HR.out.2
    have hfr := HT.out.fr
    simp only [] at hfr
    rcases q2 with rfl | rfl
    · have := cSplit8_any (cutAt A f c) (c - f) ch (slc bs f (t - f)) V (by rw [hl]; exact hrow) h8 q1 (by omega) (by omega) (by rw [hl]; exact hfr)
      rwa [hl] at this
    · have := cSplit16_any (cutAt A f c) (c - f) ch (slc bs f (t - f)) V (by rw [hl]; exact hrow) h8 q1 (by omega) (by omega) (by rw [hl]; exact hfr)
      rwa [hl] at this
  have H1 := Lib.hid (And.intro hf1 (And.intro hfw hbw))
  rw [← hW1]
  clear hf1 hfw hbw hW1 HP
  have HSl := Lib.hid (fun V => run_slice_part 27 5 Try.underlying27 hsz1 A bs.length c f t (t : Int) rfl (by omega) (by omega) V)
  have hsl := HSl.out
  generalize hCF : cutAt A f c = CF at hsl HS
  clear hCF HSl
  refine wpIn_calm ?_
  go_region_held3 (fun w' => w'.cell? ⟨w1.heap.size, 2, none⟩ = some (.int .i64 f) ∧ w'.cell? ⟨w1.heap.size, 3, none⟩ = some (.int .i64 t) ∧ w'.cell? ⟨w1.heap.size, 0, none⟩ = some (.int .i64 ch) ∧ w'.cell? ⟨w1.heap.size, 1, none⟩ = some (.int .i64 bt))
    (first | go_keep | exact ⟨((H1.out.2.2.kept hfc id).cell 2).trans rfl, ((H1.out.2.2.kept hfc id).cell 3).trans rfl, ((H1.out.2.2.kept hfc id).cell 0).trans rfl, ((H1.out.2.2.kept hfc id).cell 1).trans rfl⟩)
    (first
      | (go_at_call 10; (with_reducible refine (HS.out _ (Kept.refl _ W1).drew).mono ?_); rintro e wc ⟨g, cap, V, rfl, hbag, hfc'⟩
         have hfc : Fresh W1 wc := (Kept.refl (fun _ => False) W1).drew.trans hfc' fun _ _ e => e))
  refine Calm.of ?_
  obtain ⟨W2, hW2⟩ : ∃ W2, W2 = wc.alloc (.cells #[.slice none 0 0] 45) := ⟨_, rfl⟩
  have hf2 : Fresh wc W2 := by rw [hW2]; exact (Kept.refl _ _).alloc _
  have hw2 : NW W2 wc.heap.size (.slice none 0 0) [] := by rw [hW2]; exact NW.at_ wc 45 (by decide)
  have hz2 : W2.heap.size = wc.heap.size + 1 := by rw [hW2]; simp
  have hwz : w.heap.size ≤ wc.heap.size := Nat.le_trans (H1.out.1.size) (Nat.le_trans H1.out.2.1.size hfc.size)
  have hf02 : Fresh w W2 := ((H1.out.1.trans H1.out.2.1 fun _ _ e => e).trans hfc fun _ _ e => e).trans hf2 fun _ _ e => e
  have HF : Hid (∀ X bs', NPost W2 X wc.heap.size (.slice none 0 0) bs' → Fresh wc X) := Lib.hid fun X bs' ⟨v', _, _, hk⟩ => hf2.trans hk fun i hi hf => by
    rcases hf with rfl | hf
    · omega
    · cases hf
  have hk4 : Blk wc w1.heap.size 26 #[.int .i64 ch, .int .i64 bt, .int .i64 f, .int .i64 t] := H1.out.2.2.kept hfc id
  have hf0c : Fresh w wc := (H1.out.1.trans H1.out.2.1 fun _ _ e => e).trans hfc fun _ _ e => e
  have hb2 : Blk W2 w1.heap.size 26 #[.int .i64 ch, .int .i64 bt, .int .i64 f, .int .i64 t] := hk4.kept hf2 id
  have k2 : W2.cell? ⟨w1.heap.size, 2, none⟩ = some (.int .i64 f) := (hb2.cell 2).trans rfl
  have k3 : W2.cell? ⟨w1.heap.size, 3, none⟩ = some (.int .i64 t) := (hb2.cell 3).trans rfl
  have Hlt : Hid (w1.heap.size < wc.heap.size) := Lib.hid hk4.lt
  have hAw : ∀ b' o', A = some ⟨b', o', none⟩ → 0 < bs.length → b' < w.heap.size := fun b' o' e h0 => by
    obtain ⟨b2, o2, e2, hb2, _⟩ := HR.out.1.at_ 0 h0
    rw [e] at e2
    injection e2 with e2
    injection e2 with e2 _
    omega
  have HWr : Hid (Calls Try.prog 11 #[.pointer (some ⟨wc.heap.size, 0, none⟩), .int .i64 bs.length, .slice A f c, .slice (cutAt A t c) (bs.length - t) (c - t)] W2.drew fun e w' =>
      e = .returned (.tuple #[]) ∧ NPost W2.drew w' wc.heap.size (.slice none 0 0) (sv bs.length ++ sv f ++ bs.take f ++ sv (bs.length - t) ++ bs.drop t)) := Lib.hid (by
    have hrV := HR.out.1.kept hf02.drew (fun _ _ _ _ => id)
    have r2 := hrV.cut (l := t) (m := bs.length - t) (c := c) (by omega) hnc
    rw [List.take_of_length_le (by rw [List.length_drop]; omega)] at r2
    have := hWrite_any wc.heap.size (.slice none 0 0) [] bs.length A f c (bs.take f) (cutAt A t c) (bs.length - t) (c - t) (bs.drop t) W2.drew (hw2.kept (Kept.refl (fun _ => False) W2).drew (fun _ _ => id)) (hrV.take (by omega))
      (fun b' o' e h0 hf => by
        have := hAw b' o' e (by omega)
        rcases hf with hf | hf
        · omega
        · cases hf) r2
      (fun b' o' e h0 hf => by
        obtain ⟨_, o2, e2⟩ := hrV.cut_block (l := t) (m := bs.length - t) (c := c) (by omega) hnc b' o' e h0
        have := hAw b' o2 e2 (by omega)
        rcases hf with hf | hf
        · omega
        · cases hf) (by omega) (by simp only [List.length_nil]; omega)
    have e : ([] : List Int) ++ (sv bs.length ++ (tx (bs.take f) ++ tx (bs.drop t))) = sv bs.length ++ sv f ++ bs.take f ++ sv (bs.length - t) ++ bs.drop t := by
      unfold tx
      rw [List.length_take, List.length_drop, Nat.min_eq_left (by omega)]
      simp only [List.nil_append, List.append_assoc]
    rwa [e] at this)
  have hs1 := fun V => run_slice_to (P := Try.prog) 27 5 Try.underlying27 hsz1 A bs.length c f (f : Int) rfl (by omega) V
  have hs2 := fun V => run_slice_from (P := Try.prog) 27 5 Try.underlying27 hsz1 A bs.length c t (by omega) V
  generalize hCT : cutAt A t c = CT at HWr hs2
  have H2 := Lib.hid (And.intro hbag (And.intro hfc (And.intro hf2 (And.intro hwz (And.intro hf02 hb2)))))
  clear hbag hfc hfc' hw2 hf02 hwz k0 k1 hf2 hk4 HS hsz1 hf0c hsl hCT hb2 hAw
  gi_wp2_with fail
  rw [← hW2]
  clear hW2
  refine wpIn_calm ?_
  go_region_held3 (fun w' => w'.cell? ⟨w1.heap.size, 2, none⟩ = some (.int .i64 f) ∧ w'.cell? ⟨w1.heap.size, 3, none⟩ = some (.int .i64 t))
    (first | go_keep | exact ⟨((H2.out.2.2.2.2.2.kept hk5 (by have := Hlt.out; omega)).cell 2).trans rfl, ((H2.out.2.2.2.2.2.kept hk5 (by have := Hlt.out; omega)).cell 3).trans rfl⟩)
    (first
      | (go_at_call 11; (with_reducible refine HWr.out.mono ?_); rintro e w5 ⟨rfl, hp5'⟩
         have hp5 := NPost.after (Kept.refl (fun _ => False) W2).drew hp5'
         have hk5 : Kept (fun k => k = wc.heap.size) W2 w5 := by
           obtain ⟨_, _, _, hk⟩ := hp5
           exact hk.mono fun i _ e => by
             rcases e with e | e
             · exact e
             · cases e))
  refine Calm.of ?_
  have H5 := Lib.hid hp5
  clear hp5 hp5' hk5 HWr hs1 hs2 k2 k3
  gi_wp2_with (refine ⟨trivial, ?_⟩; gi_at_call 12; refine (callsIn_wide.2 (pair_any _ ch cap _)).mono ?_; rintro e w' ⟨rfl, rfl⟩)
  obtain ⟨W6, hW6⟩ : ∃ W6, W6 = (w5.alloc (.cells #[.slice (some ⟨g, 0, none⟩) ch cap] 38)).alloc (.cells #[.int .i64 2] 3) := ⟨_, rfl⟩
  have hz6 : W6.heap.size = w5.heap.size + 2 := by rw [hW6]; simp
  have hf6 : Fresh w5 W6 := by rw [hW6]; exact ((Kept.refl _ _).alloc _).alloc _
  have hb1 : Blk W6 w5.heap.size 38 #[.slice (some ⟨g, 0, none⟩) ch cap] := by rw [hW6]; exact (Blk.new _ _ _).alloc _
  have hb2 : Blk W6 (w5.heap.size + 1) 3 #[.int .i64 2] := by
    rw [hW6]
    have := Blk.new (w5.alloc (.cells #[.slice (some ⟨g, 0, none⟩) ch cap] 38)) 3 #[.int .i64 2]
    rw [World.size_alloc] at this
    exact this
  rw [← hW6]
  obtain ⟨H, hH⟩ : ∃ H, H = sv bs.length ++ sv f ++ bs.take f ++ sv (bs.length - t) ++ bs.drop t := ⟨_, rfl⟩
  have hl1 := sv_le10 bs.length (by omega)
  have hl2 := sv_le10 f (by omega)
  have hl3 := sv_le10 (bs.length - t) (by omega)
  have hHl : H.length ≤ 3000000 := by rw [hH]; simp only [List.length_append, List.length_take, List.length_drop]; omega
  have hfc5 := HF.out w5 _ H5.out
  have hp5 := H5.out
  rw [← hH] at hp5
  obtain ⟨v5, hw5, hv5, hk5⟩ := hp5
  obtain ⟨T, hT⟩ : ∃ T, T = trkT bt (slc bs f (t - f)) ch := ⟨_, rfl⟩
  obtain ⟨F, hF⟩ : ∃ F, F = frms (ch, bt, f, t) := ⟨_, rfl⟩
  have hTl : ∀ i, I32 (T i) ∧ (T i).length = F := fun i => ⟨by
    rw [hT, trkT]
    exact I32.tn fun j _ => okT_32 (smpT_ok (slc_byte f (t - f) HR.out.2) (by omega) _), by rw [hT, hF]; exact HT.out.tlen i⟩
  have hFl : F ≤ 1048576 := by rw [hF]; have := HT.out.frms_le.1; omega
  have hgw : Trs wc (some ⟨g, 0, none⟩) ch T := by rw [hT]; exact H2.out.1.trs
  have hv5l : ∀ k, v5.ownBlock = some k → k < w5.heap.size := fun k e => hw5.own.lt e
  have hg0 : wc.heap.size < w5.heap.size := hw5.lt _ (.inl rfl)
  have hwz : w.heap.size ≤ wc.heap.size := H2.out.2.2.2.1
  have hf0c : Fresh w wc := (H1.out.1.trans H1.out.2.1 fun _ _ e => e).trans H2.out.2.1 fun _ _ e => e
  have hv5n : ∀ k, v5.ownBlock = some k → wc.heap.size ≤ k := fun k e => (hv5 k e).elim (fun e => by cases e) (fun e => by omega)
  have HH := Lib.hid (And.intro hH (And.intro hT (And.intro hF hf0c)))
  have H6 := Lib.hid (And.intro (hw5.kept hf6 (fun _ _ => id)) (And.intro hb1 (And.intro hb2 (And.intro hgw (And.intro hv5l (And.intro hv5n (hfc5.trans hf6 fun _ _ e => e)))))))
  have HTl := Lib.hid hTl
  clear hf6 hb1 hb2 hH hfc5 hw5 hv5 hk5 hT hF hTl hgw hv5l hf0c hv5n hW6 H5 HF
  refine wpIn_rangeFunc_ownG rfl (by omega) (gf := 25) (lb := #[.pointer (some ⟨w5.heap.size, 0, none⟩), .pointer (some ⟨w5.heap.size + 1, 0, none⟩)]) rfl trivial (enters_of Try.func25 (by kernel_rfl) rfl)
    (pair_stops 5 (by omega) w5.heap.size (some ⟨g, 0, none⟩) ch cap (fun _ => ⟨_, _, rfl⟩) H2.out.1.cap (by omega) W6 H6.out.2.1 H6.out.2.2.1) boxes_t (boxes_b (by omega)) (Below.refl _ _) (fun _ => rfl)
    (fun pre W => NPost W6 W wc.heap.size v5 (H ++ grpsL T ch pre))
    (fun _ _ _ => False)
    (fun s X Y row hs hg hr => hs.nc (kept_of_grown hg) fun k e => ⟨(hr k e).2, (hr k e).1⟩)
    (fun _ _ _ _ _ hs _ _ => hs)
    (by simpa [grpsL] using NPost.refl H6.out.1)
    (fun x => { tmps := #[.slice A bs.length c, undef, .slice none 0 0, .bool false, .pointer (some ⟨w1.heap.size, 0, none⟩), .bool true, .slice (some ⟨g, 0, none⟩) ch cap, .int .i64 0, .pointer (some ⟨wc.heap.size, 0, none⟩), pairAt (some ⟨g, 0, none⟩) ch x, .slice A bs.length c, .int .i64 bs.length, .bool false, .tuple #[.agg #[.int .i64 ch, .int .i64 bt, .int .i64 f, .int .i64 t], .bool true], .slice A bs.length c, .tuple #[.agg #[.int .i64 ch, .int .i64 bt, .int .i64 f, .int .i64 t], .bool true], .agg #[.int .i64 ch, .int .i64 bt, .int .i64 f, .int .i64 t], .bool true, .bool true, .bool false, .tuple #[.slice (some ⟨g, 0, none⟩) ch cap, .int .i64 0], .slice A bs.length c, .pointer (some ⟨w1.heap.size, 2, none⟩), .int .i64 f, .pointer (some ⟨w1.heap.size, 3, none⟩), .int .i64 t, .slice CF (t - f) (c - f), .pointer (some ⟨w1.heap.size, 0, none⟩), .int .i64 ch, .pointer (some ⟨w1.heap.size, 1, none⟩), .int .i64 bt, .tuple #[.slice (some ⟨g, 0, none⟩) ch cap, .int .i64 0], .slice (some ⟨g, 0, none⟩) ch cap, .int .i64 0, .pointer (some ⟨wc.heap.size, 0, none⟩), .slice A bs.length c, .int .i64 bs.length, .slice A bs.length c, .pointer (some ⟨w1.heap.size, 2, none⟩), .int .i64 f, .slice A f c, .slice A bs.length c, .pointer (some ⟨w1.heap.size, 3, none⟩), .int .i64 t, .slice CT (bs.length - t) (c - t), .tuple #[], .slice (some ⟨g, 0, none⟩) ch cap, .func (.func 25) #[] #[.pointer (some ⟨w5.heap.size, 0, none⟩), .pointer (some ⟨w5.heap.size + 1, 0, none⟩)], pairAt (some ⟨g, 0, none⟩) ch x, undef, undef, undef, undef], defers := [] }) ?assign ?body ?done ?stop
  case assign =>
    intro l x W K hK
    gi_wp2
    exact hK
  case body =>
    rintro L pre x W hp hlen
    have hW6W : Fresh wc W := (H6.out.2.2.2.2.2.2).trans (show Kept (NFoot wc.heap.size v5) W6 W from by obtain ⟨_, _, _, hk⟩ := hp; exact hk) fun i hi hf => by
      rcases hf with rfl | hf
      · omega
      · have := H6.out.2.2.2.2.2.1 i hf; omega
    obtain ⟨v1, hw1, hv1, hk1⟩ := hp
    have htr : Trs W (some ⟨g, 0, none⟩) ch T := H6.out.2.2.2.1.fresh hW6W
    have hpl : pre.length ≤ 4 := by unfold pairs2 at hlen; omega
    have hgl := grpsL_le (n := ch) hFl (fun i => (HTl.out i).2) pre
    have hgm : pre.length * (54 + 16 * F) ≤ 4 * (54 + 16 * F) := Nat.mul_le_mul_right _ hpl
    have HG := Lib.hid (cWGroup_any wc.heap.size v1 (H ++ grpsL T ch pre) (some ⟨g, 0, none⟩) ch F x T W hw1 htr hFl HTl.out (by rw [List.length_append]; omega))
    have hnc : ∀ k, NFoot wc.heap.size v1 k → ¬ NoCells W k := fun k hf => by
      rcases hf with rfl | hf
      · obtain ⟨_, _, hb⟩ := hw1.blk
        exact hb.cells
      · exact hw1.own.cells hf
    have hbox : ∀ k, NFoot wc.heap.size v1 k → k ≠ w5.heap.size ∧ k ≠ w5.heap.size + 1 := fun k hf => by
      rcases hf with rfl | hf
      · omega
      · rcases hv1 k hf with e | e
        · have := H6.out.2.2.2.2.1 k e; omega
        · omega
    have hWz := hk1.size
    have HB := Lib.hid (And.intro hv1 (And.intro hk1 (And.intro hnc hbox)))
    clear hW6W hw1 hv1 hk1 htr hpl hgl hgm hnc hbox hlen
    gi_wp2_with (refine ⟨trivial, ?_⟩; gi_at_call 13; refine (CallsIn.inRound L (callsIn_wide.2 HG.out)).mono ?_; rintro e w7 ⟨rfl, hp7⟩)
    have hp8 := NPost.trans HB.out.1 HB.out.2.1 hp7
    obtain ⟨v7, hw7, hv7, hk7⟩ := hp7
    refine ⟨KeepsFrom.of _ hk7 HB.out.2.2.1, ⟨hk7.block _ (by omega) (fun e => (HB.out.2.2.2 _ e).1 rfl), hk7.block _ (by omega) (fun e => (HB.out.2.2.2 _ e).2 rfl)⟩, ?_⟩
    show NPost W6 w7 wc.heap.size v5 (H ++ grpsL T ch (pre ++ [x]))
    rw [grpsL_snoc, ← List.append_assoc]
    exact hp8
  case done =>
    rintro D ys W hD rfl hp hK
    rw [grpsL_range T ch (pairs2 ch) (Nat.le_refl _)] at hp
    have hap : H ++ grpsP T ch (pairs2 ch) = apR bs (ch, bt, f, t) := by
      obtain ⟨hH, hT, _, _⟩ := HH.out
      subst hH
      subst hT
      unfold apR tx
      simp only [List.length_take, List.length_drop, List.append_assoc]
      rw [Nat.min_eq_left (by omega)]
      rfl
    rw [hap] at hp
    have hal := apR_le HT.out hn
    obtain ⟨v1, hw1, hv1, hk1⟩ := hp
    have hfW : Fresh w W := HH.out.2.2.2.trans (T := fun _ => False) (H6.out.2.2.2.2.2.2.trans hk1 fun i hi hf => by
      rcases hf with rfl | hf
      · omega
      · have := H6.out.2.2.2.2.2.1 i hf; omega) fun _ _ e => e
    have HC := Lib.hid (nBytes_any wc.heap.size v1 (apR bs (ch, bt, f, t)) W hw1 (by omega))
    have HK := Lib.hid (And.intro hK hfW)
    clear hw1 hv1 hk1 hK hfW hap hal
    gi_wp2_with (refine ⟨trivial, ?_⟩; gi_at_call 14; refine (callsIn_wide.2 HC.out).mono ?_; rintro e w8 ⟨u, rfl, hu⟩)
    have hK1 : w8.heap[D]? = some (.deferred (some [])) := (hu.2.2.block D (Array.getElem?_eq_some_iff.1 HK.out.1).1 id).trans HK.out.1
    refine ⟨by simp, .inl ⟨_, _, rfl, run_takeDeferred hK1, ?_⟩⟩
    have hg := kept_of_grown (grownBy_putObj' w8 D (.deferred none))
    exact ⟨_, results_tmp2 rfl _ _ _, u, rfl, hu.1.kept hg (fun g e e2 => by cases e2; exact hu.1.cells e ⟨_, hK1, rfl⟩), fun g e => Nat.le_trans HK.out.2.size (hu.2.1 g e),
      (HK.out.2.trans hu.2.2 fun _ _ e => e).trans hg fun i hi e => by cases e; omega⟩
  case stop =>
    rintro D c pre W _ _ h _
    exact h.elim

set_option maxHeartbeats 1600000 in
/-- .. that has none. -/
theorem cPackANo_any (A : Option Addr) (n c : Nat) (bs : List Int) (w : World) (hr : Row w .u8 A n bs) (hb : ∀ x ∈ bs, 0 ≤ x ∧ x < 256) (hn : n ≤ 1048576) (hnc : n ≤ c) (hp : wparse bs = none) :
    Calls Try.prog 5 #[.slice A n c] w fun e w' => e = .returned (.tuple #[.slice none 0 0, .bool false]) ∧ Fresh w w' := by
  have HP := Lib.hid (cParse_any A n c bs w hr hb (by omega) hnc)
  rw [show ParsePost bs w = fun e w' => e = .returned (.tuple #[wval none, .bool false]) ∧ Fresh w w' from by unfold ParsePost; rw [hp]; rfl] at HP
  unfold wval at HP
  have n0 : ¬ (1048576 : Int) < (n : Int) := by omega
  clear hr hb hp
  go_enter Try.func5, Try.ntmps5
  go_wp2_with fail
  refine HP.out.mono ?_
  rintro e w1 ⟨rfl, hf1⟩
  have HF := Lib.hid hf1
  clear hf1 HP
  go_wp2_with fail
  go_ret2
  exact ⟨rfl, HF.out.alloc _⟩

end Go.Proofs.Ytodmchjdflpbpaa
