/- The code's Parse of WAV files. -/
import Derived.Test.YtodmchjdflpbpaaWavC
import Derived.Lib.MinMax
import Derived.Deep.CutRange
namespace Go.Proofs.Ytodmchjdflpbpaa
open Go.RowKit
set_option maxRecDepth 100000

attribute [local go_sem ↓] Go.wp_at_zero Go.wp_at_succ

def wbadH (bs : List Int) : Prop := bs.length < 12 ∨ slc bs 0 4 ≠ nRIFF ∨ slc bs 8 4 ≠ nWAVE
instance (bs : List Int) : Decidable (wbadH bs) := by unfold wbadH; infer_instance
theorem slc_short {bs : List Int} {p k : Nat} (z : List Int) (hz : z.length = k) (h : slc bs p k = z) : p + k ≤ bs.length ∨ k = 0 := by
  have := congrArg List.length h
  simp [slc] at this
  omega
theorem head_reads {bs : List Int} {r1 r2 r3 : List Int × Nat × Int} (h1 : r1 = tk bs 0 0 4) (h2 : r2 = tk bs r1.2.1 r1.2.2 4) (h3 : r3 = tk bs r2.2.1 r2.2.2 4) :
    ((r1.1 = nRIFF ∧ r3.1 = nWAVE) ↔ ¬ wbadH bs) ∧ (¬ wbadH bs → r3.2.1 = 12 ∧ r3.2.2 = 0) := by
  have hR : nRIFF ≠ [] := by decide
  have hW : nWAVE ≠ [] := by decide
  obtain ⟨a1, b1⟩ := tk_stay h1 (Nat.zero_le _)
  unfold wbadH
  by_cases c1 : 0 + 4 ≤ bs.length
  · obtain rfl := a1 c1
    simp only [] at h2
    obtain ⟨a2, b2⟩ := tk_stay h2 c1
    by_cases c2 : 0 + 4 + 4 ≤ bs.length
    · obtain rfl := a2 c2
      simp only [] at h3
      obtain ⟨a3, b3⟩ := tk_stay h3 c2
      by_cases c3 : 0 + 4 + 4 + 4 ≤ bs.length
      · obtain rfl := a3 c3
        have hl : ¬ bs.length < 12 := by omega
        simp only []
        refine ⟨⟨fun h => fun e => e.elim hl fun e => e.elim (fun e => e h.1) fun e => e h.2, fun h => ⟨Decidable.byContradiction fun e => h (.inr (.inl e)), Decidable.byContradiction fun e => h (.inr (.inr e))⟩⟩, fun _ => by simp⟩
      · have e3 : r3.1 = [] := by rw [h3, tk_short c3 c2]
        refine ⟨⟨fun h => absurd (h.2.symm.trans e3) hW, fun h => absurd (.inl (by omega)) h⟩, fun h => absurd (.inl (by omega)) h⟩
    · have e2 := b2 c2
      have e3 : r3.1 = [] := by rw [h3, tk_err _ _ _ e2]
      refine ⟨⟨fun h => absurd (h.2.symm.trans e3) hW, fun h => absurd (.inl (by omega)) h⟩, fun h => absurd (.inl (by omega)) h⟩
  · have e1 := b1 c1
    have e : r1.1 = [] := by rw [h1, tk_short c1 (Nat.zero_le _)]
    refine ⟨⟨fun h => absurd (h.1.symm.trans e) hR, fun h => absurd (.inl (by omega)) h⟩, fun h => absurd (.inl (by omega)) h⟩

section
variable (g R : Nat) (A : Option Addr) (c : Nat) (bs : List Int)

def HeadPost (nm : ByteArray) (size : Nat) (w : World) (e : Ending) (w' : World) : Prop :=
  e = .returned (.bool (decide (¬ wbadH bs))) ∧ (¬ wbadH bs → CK w' g R A c bs 12 0 nm size) ∧ Kept (CFoot g R) w w'

set_option maxHeartbeats 1600000 in
theorem cHead_any (nm : ByteArray) (size : Nat) (w : World) (h : CK w g R A c bs 0 0 nm size) :
    Calls Try.prog 16 #[.pointer (some ⟨g, 0, none⟩)] w (HeadPost g R A c bs nm size w) := by
  have HB := Lib.hid h.rd.byte
  have c0 := h.c0
  have H0 := Lib.hid h
  clear h
  go_enter Try.func16, Try.ntmps16
  go_wp2_with fail
  refine (nrRaw_any R _ [] A c bs 0 0 _ 4 (by omega) H0.out.rd).mono ?_
  rintro e w1 ⟨u1, rfl, o1, _, h1, k1⟩
  have hb1 : ∀ x ∈ (tk bs 0 0 4).1, 0 ≤ x ∧ x < 256 := tk_byte bs 0 0 4 HB.out
  obtain ⟨r1, hr1⟩ : ∃ r1, r1 = tk bs 0 0 4 := ⟨_, rfl⟩
  simp only [show (4 : Int).toNat = 4 from rfl] at o1 h1
  rw [← hr1] at o1 h1 hb1
  obtain ⟨A1, d1, rfl, row1, _⟩ := o1.row
  have s1 := row_string row1 d1
  have e1 := is_riff hb1
  have H1 := Lib.hid (And.intro (H0.out.step h1 k1) (k1.foot (g := g)))
  have c0 := H1.out.1.c0
  have Hr1 := Lib.hid hr1
  clear o1 h1 k1 row1 hr1 hb1 H0
  go_wp2_with fail
  refine (nrRaw_any R _ [] A c bs r1.2.1 r1.2.2 _ 4 (by omega) H1.out.1.rd).mono ?_
  rintro e w2 ⟨u2, rfl, _, _, h2, k2⟩
  obtain ⟨r2, hr2⟩ : ∃ r2, r2 = tk bs r1.2.1 r1.2.2 4 := ⟨_, rfl⟩
  simp only [show (4 : Int).toNat = 4 from rfl] at h2
  rw [← hr2] at h2
  have H2 := Lib.hid (And.intro (H1.out.1.step h2 k2) (H1.out.2.trans (k2.foot (g := g)) fun _ _ e => e))
  have c0 := H2.out.1.c0
  have Hr2 := Lib.hid hr2
  clear h2 k2 hr2 H1 s1
  by_cases a1 : r1.1 = nRIFF
  · rw [decide_eq_true a1] at e1
    have Ha1 := Lib.hid a1
    clear a1
    go_wp2_with fail
    refine (nrRaw_any R _ [] A c bs r2.2.1 r2.2.2 _ 4 (by omega) H2.out.1.rd).mono ?_
    rintro e w3 ⟨u3, rfl, o3, _, h3, k3⟩
    have hb3 : ∀ x ∈ (tk bs r2.2.1 r2.2.2 4).1, 0 ≤ x ∧ x < 256 := tk_byte bs _ _ 4 HB.out
    obtain ⟨r3, hr3⟩ : ∃ r3, r3 = tk bs r2.2.1 r2.2.2 4 := ⟨_, rfl⟩
    simp only [show (4 : Int).toNat = 4 from rfl] at o3 h3
    rw [← hr3] at o3 h3 hb3
    obtain ⟨A3, d3, rfl, row3, _⟩ := o3.row
    have s3 := row_string row3 d3
    have e3 := is_wave hb3
    have H3 := Lib.hid (And.intro (H2.out.1.step h3 k3) (H2.out.2.trans (k3.foot (g := g)) fun _ _ e => e))
    have hx := Lib.hid (head_reads Hr1.out Hr2.out hr3)
    clear o3 h3 k3 row3 hr3 hb3 H2
    obtain ⟨B, hB⟩ : ∃ B, B = decide (r3.1 = nWAVE) := ⟨_, rfl⟩
    rw [← hB] at e3
    have HB' := Lib.hid hB
    clear hB
    go_wp2_with fail
    go_ret
    refine ⟨?_, fun hw => ?_, H3.out.2⟩
    · have : decide (r3.1 = nWAVE) = decide (¬ wbadH bs) := by
        have := hx.out.1
        simp only [Ha1.out, true_and] at this
        simp only [this]
      rw [HB'.out, this]
      rfl
    · have h4 := H3.out.1
      obtain ⟨p1, p2⟩ := hx.out.2 hw
      rwa [p1, p2] at h4
  · rw [decide_eq_false a1] at e1
    have Ha1 := Lib.hid a1
    clear a1
    go_wp2_with fail
    go_ret
    have hx := (head_reads Hr1.out Hr2.out rfl).1
    have hb : wbadH bs := Decidable.byContradiction fun e => Ha1.out (hx.2 e).1
    refine ⟨?_, fun hw => absurd hb hw, H2.out.2⟩
    rw [decide_eq_false (fun e => e hb)]
    rfl
end


theorem str_fmt : (⟨#[102, 109, 116, 32]⟩ : ByteArray).toList = [102, 109, 116, 32] := by
  rw [show (⟨#[102, 109, 116, 32]⟩ : ByteArray) = strOfNums nFmt from rfl, Lib.strOfNums_toList]; decide
theorem str_data : (⟨#[100, 97, 116, 97]⟩ : ByteArray).toList = [100, 97, 116, 97] := by
  rw [show (⟨#[100, 97, 116, 97]⟩ : ByteArray) = strOfNums nData from rfl, Lib.strOfNums_toList]; decide

/-- What Parse leaves. -/
def ParsePost (xs : List Int) (w : World) (e : Ending) (w' : World) : Prop := e = .returned (.tuple #[wval (wparse xs), .bool (wparse xs).isSome]) ∧ Fresh w w'

set_option maxHeartbeats 6400000 in
theorem cParse_any (A : Option Addr) (n c : Nat) (xs : List Int) (w : World) (hr : Row w .u8 A n xs) (hb : ∀ x ∈ xs, 0 ≤ x ∧ x < 256) (hn : n ≤ 100000000) (hnc : n ≤ c) :
    Calls Try.prog 9 #[.slice A n c] w (ParsePost xs w) := by
  obtain rfl := hr.len
  obtain ⟨W0, hW0⟩ : ∃ W0, W0 = w.alloc (.cells #[.int .i64 0, .int .i64 0, .int .i64 0, .int .i64 0] 26) := ⟨_, rfl⟩
  have hf0 : Fresh w W0 := by rw [hW0]; exact (Kept.refl _ _).alloc _
  have hb0 : Blk W0 w.heap.size 26 #[.int .i64 0, .int .i64 0, .int .i64 0, .int .i64 0] := by rw [hW0]; exact Blk.new _ _ _
  have HN := Lib.hid (nrNew_any A xs.length c xs W0 (hr.kept hf0 (fun _ _ _ _ => id)) hb (by omega))
  have H0 := Lib.hid (And.intro hf0 (And.intro hb0 (And.intro hb hn)))
  obtain ⟨lx, hlx⟩ : ∃ lx, lx = xs.length := ⟨_, rfl⟩
  have Hlx := Lib.hid hlx
  have hl0 : (lx : Int) ≤ 100000000 := by omega
  clear hr hb hf0 hb0 hn
  rw [← hlx] at HN ⊢
  clear hlx
  go_enter Try.func9, Try.ntmps9
  go_wp2_with fail
  rw [← hW0]
  clear hW0
  refine HN.out.mono ?_
  rintro e w1 ⟨R, A1, d1, rfl, h1, hR, hA1, f1⟩
  obtain ⟨W2, hW2⟩ : ∃ W2, W2 = w1.alloc (.cells #[.pointer (some ⟨R, 0, none⟩), .string ⟨#[]⟩, .int .u64 0] 57) := ⟨_, rfl⟩
  obtain ⟨g, hg⟩ : ∃ g, g = w1.heap.size := ⟨_, rfl⟩
  have h2 : CK W2 g R A1 d1 xs 0 0 ⟨#[]⟩ 0 := by
    rw [hW2, hg]
    refine ⟨Blk.new _ _ _, h1.kept ((Kept.refl (fun _ => False) _).alloc _) id (fun _ _ _ _ => id), fun b o e hp => ?_⟩
    obtain ⟨b', o', e', hlt, _⟩ := h1.row.at_ 0 hp
    rw [e] at e'
    injection e' with e'
    injection e' with e1 e2
    omega
  have f2 : Fresh W0 W2 := by rw [hW2]; exact f1.alloc _
  have hgw : W0.heap.size ≤ g := by rw [hg]; exact f1.size
  have HF : Hid (∀ i, i < W0.heap.size → ¬ CFoot g R i) := Lib.hid fun i hi e => by
    rcases e with e | e <;> omega
  have HC := Lib.hid (And.intro h2 f2)
  have HA : Hid (∀ b o, A1 = some ⟨b, o, none⟩ → 0 < xs.length → b < g) := Lib.hid fun b o e hp => by
    obtain ⟨b', o', e', hlt, _⟩ := h1.row.at_ 0 hp
    rw [e] at e'
    injection e' with e'
    injection e' with e1 e2
    omega
  have HM : Hid (∀ V, Fresh W0 V → Blk V w.heap.size 26 #[.int .i64 0, .int .i64 0, .int .i64 0, .int .i64 0]) := Lib.hid fun V hV => H0.out.2.1.kept hV id
  have HE : Hid (∀ V, Fresh W0 V → ∀ a b c d, Fresh w ((((V.setCell ⟨w.heap.size, 0, none⟩ a).setCell ⟨w.heap.size, 1, none⟩ b).setCell ⟨w.heap.size, 2, none⟩ c).setCell ⟨w.heap.size, 3, none⟩ d)) := Lib.hid fun V hV a b c d =>
    ((((H0.out.1.trans hV fun _ _ e => e).setCell (p := ⟨w.heap.size, 0, none⟩) (fun h => by simp only [] at h; omega) _).setCell (p := ⟨w.heap.size, 1, none⟩) (fun h => by simp only [] at h; omega) _).setCell (p := ⟨w.heap.size, 2, none⟩) (fun h => by simp only [] at h; omega) _).setCell (p := ⟨w.heap.size, 3, none⟩) (fun h => by simp only [] at h; omega) _
  clear h1 h2 f1 f2 hA1 hR hgw
  go_wp2_with fail
  rw [← hW2, ← hg]
  clear hW2 hg
  refine (cHead_any g R A1 d1 xs ⟨#[]⟩ 0 W2 HC.out.1).mono ?_
  rintro e w3 ⟨rfl, h3, k3⟩
  have F3 := Lib.hid (HC.out.2.trans k3 HF.out)
  clear k3 HC
  by_cases hbad : wbadH xs
  · have hB : decide (¬ wbadH xs) = false := decide_eq_false fun e => e hbad
    rw [hB]
    have Hw := Lib.hid (wparse_head hbad)
    have m := HM.out _ F3.out
    have m0 := m.cell 0
    have m1 := m.cell 1
    have m2 := m.cell 2
    have m3 := m.cell 3
    have z0 := m.frozen 0
    have z1 := m.frozen 1
    have z2 := m.frozen 2
    have z3 := m.frozen 3
    simp only [List.getElem?_toArray, List.getElem?_cons_zero, List.getElem?_cons_succ] at m0 m1 m2 m3
    clear m h3 hbad hB
    go_wp2_with fail
    refine bodyPost_ret (v := .tuple #[wval none, .bool false]) (by simp [results, Try.f9, go_sem, wval, m0, m1, m2, m3]) rfl ?_
    unfold ParsePost
    rw [Hw.out]
    exact ⟨rfl, HE.out _ F3.out _ _ _ _⟩
  · have hB : decide (¬ wbadH xs) = true := decide_eq_true hbad
    rw [hB]
    have hc3 := h3 hbad
    have Hbad := Lib.hid hbad
    have HC3 := Lib.hid hc3
    clear h3 hbad hB hc3
    go_wp2_with fail
    refine (cFind_any g R A1 d1 xs 12 ⟨#[]⟩ 0 _ ⟨#[102, 109, 116, 32]⟩ nFmt (fun ys hy => by rw [str_fmt]; exact is_fmt hy) 16 HC3.out (by omega) H0.out.2.2.2).mono ?_
    rintro e w4 ⟨h4, k4⟩
    have F4 := Lib.hid (F3.out.trans k4 HF.out)
    clear k4
    rcases hfm : cfind xs 12 0 nFmt 16 with _ | ⟨q, sz⟩
    · rw [hfm] at h4
      obtain rfl := h4
      have Hw := Lib.hid (wparse_nofmt Hbad.out hfm)
      clear hfm
      have m := HM.out _ F4.out
      have m0 := m.cell 0
      have m1 := m.cell 1
      have m2 := m.cell 2
      have m3 := m.cell 3
      have z0 := m.frozen 0
      have z1 := m.frozen 1
      have z2 := m.frozen 2
      have z3 := m.frozen 3
      simp only [List.getElem?_toArray, List.getElem?_cons_zero, List.getElem?_cons_succ] at m0 m1 m2 m3
      clear m
      go_wp2_with fail
      refine bodyPost_ret (v := .tuple #[wval none, .bool false]) (by simp [results, Try.f9, go_sem, wval, m0, m1, m2, m3]) rfl ?_
      unfold ParsePost
      rw [Hw.out]
      exact ⟨rfl, HE.out _ F4.out _ _ _ _⟩
    · rw [hfm] at h4
      obtain ⟨rfl, nm4, hc4⟩ := h4
      have hle := cfind_le _ _ _ _ _ hfm
      simp only [] at hle
      have hsz : sz < 4294967296 := by
        obtain ⟨p, e1, e2⟩ := hle.2.2.2
        rw [e1]
        exact leAt_lt H0.out.2.2.1 e2
      have Hfm := Lib.hid (And.intro (wparse_fmt Hbad.out hfm) (And.intro hle hsz))
      have HC4 := Lib.hid hc4
      clear hfm hle hsz hc4
      go_wp2_with fail
      refine (cFormat_any g R A1 d1 xs q nm4 sz _ HC4.out Hfm.out.2.2 Hfm.out.2.1.2.2.1 H0.out.2.2.2).mono ?_
      rintro e w5 ⟨a, b, ok, rfl, k5, h5⟩
      have F5 := Lib.hid (F4.out.trans k5 HF.out)
      have H5 := Lib.hid h5
      clear k5 h5
      rcases ok with _ | _
      · have Hw : Hid (wparse xs = none) := Lib.hid (by
          have h5 := H5.out
          rw [Hfm.out.1]
          split
          · rename_i hq
            rw [if_pos hq] at h5
            refine wgo_wbad rfl ?_ _
            obtain ⟨rfl, rfl, hd, _⟩ := h5
            have hd := of_decide_eq_false hd.symm
            unfold wbad
            simp only []
            unfold wok at hd
            omega
          · rfl)
        have F6 := Lib.hid (F5.out.alloc (.cells #[.int .i64 a, .int .i64 b, .int .i64 0, .int .i64 0] 26))
        have m := HM.out _ F6.out
        have m0 := m.cell 0
        have m1 := m.cell 1
        have m2 := m.cell 2
        have m3 := m.cell 3
        have z0 := m.frozen 0
        have z1 := m.frozen 1
        have z2 := m.frozen 2
        have z3 := m.frozen 3
        simp only [List.getElem?_toArray, List.getElem?_cons_zero, List.getElem?_cons_succ] at m0 m1 m2 m3
        clear m
        go_wp2_with fail
        refine bodyPost_ret (v := .tuple #[wval none, .bool false]) (by simp [results, Try.f9, go_sem, wval, m0, m1, m2, m3]) rfl ?_
        unfold ParsePost
        rw [Hw.out]
        exact ⟨rfl, HE.out _ F6.out _ _ _ _⟩
      · have hq : q + 16 ≤ xs.length := by
          have h5 := H5.out
          split at h5
          · assumption
          · cases h5
        have h5 := H5.out
        rw [if_pos hq] at h5
        obtain ⟨ha, hb, hd, hc5⟩ := h5
        replace hd := of_decide_eq_true hd.symm
        have HD := Lib.hid (And.intro ha (And.intro hb (And.intro hd hq)))
        obtain ⟨t, ht⟩ : ∃ t, t = w5.heap.size := ⟨_, rfl⟩
        obtain ⟨W6, hW6⟩ : ∃ W6, W6 = w5.alloc (.cells #[.int .i64 a, .int .i64 b, .int .i64 0, .int .i64 0] 26) := ⟨_, rfl⟩
        have f6 : Fresh w5 W6 := by rw [hW6]; exact (Kept.refl _ _).alloc _
        have b6 : Blk W6 t 26 #[.int .i64 a, .int .i64 b, .int .i64 0, .int .i64 0] := by rw [hW6, ht]; exact Blk.new _ _ _
        have hc6 : CK W6 g R A1 d1 xs (q + 16) 0 nm4 (sz - 16) := ⟨hc5.blk.kept f6 id, hc5.rd.kept f6 id (fun _ _ _ _ => id), hc5.far⟩
        have H6 := Lib.hid (And.intro hc6 (And.intro b6 (F5.out.trans f6 fun _ _ e => e)))
        have HT : Hid (w.heap.size ≠ t ∧ ¬ CFoot g R t ∧ g < t ∧ W0.heap.size ≤ t) := Lib.hid (by
          have h4 := F5.out.size
          have h1 := (HM.out _ F5.out).lt
          have h2 := hc5.blk.lt
          have h3 := hc5.rd.blk.lt
          refine ⟨by omega, fun e => ?_, by omega, by omega⟩
          rcases e with e | e <;> omega)
        have Hw : Hid (wparse xs = match cfind xs (q + 16) (sz - 16) nData 0 with | none => none | some (x, y) => wfin xs.length (true, leAt xs q 2, a, b) x y) := Lib.hid (by
          rw [Hfm.out.1, if_pos hq, wgo_smp, ← ha, ← hb]
          rcases cfind xs (q + 16) (sz - 16) nData 0 with _ | ⟨_, _⟩ <;> rfl)
        have HW6 := Lib.hid hW6
        have Ht := Lib.hid ht
        clear ha hb hd hq hc5 f6 b6 hc6 hW6 ht
        go_wp2_with fail
        rw [← HW6.out, ← Ht.out]
        refine (cFind_any g R A1 d1 xs (q + 16) nm4 (sz - 16) _ ⟨#[100, 97, 116, 97]⟩ nData (fun ys hy => by rw [str_data]; exact is_data hy) 0 H6.out.1 (by have := Hfm.out.2.2; omega) H0.out.2.2.2).mono ?_
        rintro e w7 ⟨h7, k7⟩
        have F7 := Lib.hid (H6.out.2.2.trans k7 HF.out)
        have b7 := H6.out.2.1.kept k7 HT.out.2.1
        rcases hfd : cfind xs (q + 16) (sz - 16) nData 0 with _ | ⟨q2, sz2⟩
        · rw [hfd] at h7
          obtain rfl := h7
          have Hw := Lib.hid (Hw.out.trans (by rw [hfd]))
          clear hfd b7 k7
          have m := HM.out _ F7.out
          have m0 := m.cell 0
          have m1 := m.cell 1
          have m2 := m.cell 2
          have m3 := m.cell 3
          have z0 := m.frozen 0
          have z1 := m.frozen 1
          have z2 := m.frozen 2
          have z3 := m.frozen 3
          simp only [List.getElem?_toArray, List.getElem?_cons_zero, List.getElem?_cons_succ] at m0 m1 m2 m3
          clear m
          go_wp2_with fail
          refine bodyPost_ret (v := .tuple #[wval none, .bool false]) (by simp [results, Try.f9, go_sem, wval, m0, m1, m2, m3]) rfl ?_
          unfold ParsePost
          rw [Hw.out]
          exact ⟨rfl, HE.out _ F7.out _ _ _ _⟩
        · rw [hfd] at h7
          obtain ⟨rfl, nm7, hc7⟩ := h7
          have hle := cfind_le _ _ _ _ _ hfd
          simp only [] at hle
          have hsz2 : sz2 < 4294967296 := by
            obtain ⟨p, e1, e2⟩ := hle.2.2.2
            rw [e1]
            exact leAt_lt H0.out.2.2.1 e2
          have Hw2 : Hid (wparse xs = wfin xs.length (true, leAt xs q 2, a, b) q2 sz2) := Lib.hid (Hw.out.trans (by rw [hfd]))
          obtain ⟨L, hL⟩ : ∃ L, q2 + L = xs.length := ⟨xs.length - q2, by omega⟩
          obtain ⟨mm, hmm⟩ : ∃ mm, mm = min sz2 L := ⟨_, rfl⟩
          obtain ⟨fr, hfr⟩ : ∃ fr, fr = a * b / 8 := ⟨_, rfl⟩
          have hfb : 1 ≤ fr ∧ fr ≤ 16 := by
            have := HD.out.2.2.1.2
            unfold wok at this
            rw [hfr]
            obtain ⟨h1, h2, h3⟩ := this
            rcases h3 with e | e <;> subst e <;> omega
          obtain ⟨dd, hdd⟩ : ∃ dd, dd = mm / fr := ⟨_, rfl⟩
          obtain ⟨kk, hkk⟩ : ∃ kk, kk = dd * fr := ⟨_, rfl⟩
          have hkm : kk ≤ mm := by rw [hkk, hdd]; exact Nat.div_mul_le_self _ _
          have hx0 := Hlx.out
          have e1 : (lx : Int) - (L : Int) = (q2 : Int) := by omega
          have e2 : min (sz2 : Int) (L : Int) = (mm : Int) := by omega
          have e3 : (mm : Int).tdiv (fr : Int) = (dd : Int) := by rw [hdd, Int.tdiv_eq_ediv_of_nonneg (by omega)]; simp
          have e4 : (dd : Int) * (fr : Int) = (kk : Int) := by rw [hkk]; simp
          have l0 : (L : Int) ≤ 100000000 := by have := H0.out.2.2.2; omega
          have q0 : (q2 : Int) ≤ 100000000 := by have := H0.out.2.2.2; omega
          have s0 : (sz2 : Int) < 4294967296 := by omega
          have m0 : (mm : Int) ≤ 100000000 := by have := H0.out.2.2.2; omega
          have k0 : (kk : Int) ≤ 100000000 := by have := H0.out.2.2.2; omega
          have d0 : (dd : Int) ≤ 100000000 := by
            have : dd ≤ mm := by rw [hdd]; exact Nat.div_le_self _ _
            omega
          have fr0 : (1 : Int) ≤ (fr : Int) := by omega
          have fr1 : (fr : Int) ≤ 16 := by omega
          have HK := Lib.hid (And.intro hL (And.intro hmm (And.intro hfr (And.intro hdd hkk))))
          have HC7 := Lib.hid (And.intro hc7 b7)
          have Hle := Lib.hid (And.intro hle hsz2)
          have c0 := hc7.c0
          have c2 := hc7.c2
          have t0 := b7.cell 0
          have t1 := b7.cell 1
          have t2 := b7.cell 2
          have t3 := b7.cell 3
          have u2 := b7.frozen 2
          simp only [List.getElem?_toArray, List.getElem?_cons_zero, List.getElem?_cons_succ] at t0 t1 t2 t3
          clear hfd k7 hle hsz2 hL hmm hfr hfb hdd hkk hkm hx0 hc7 b7 Hw
          have HE2 := Lib.hid (And.intro e2 (And.intro e3 e4))
          clear e2 e3 e4
          go_wp2_with fail
          refine (nrLeft_any R _ [] A1 d1 xs q2 0 _ L HC7.out.1.rd HK.out.1).mono ?_
          rintro e w8 ⟨rfl, n8, rfl⟩
          go_wp2_with fail
          obtain ⟨W9, hW9⟩ : ∃ W9, W9 = (w7.drewN n8).setCell ⟨t, 2, none⟩ (.int .i64 q2) := ⟨_, rfl⟩
          rw [← hW9]
          have k9 : Kept (fun k => k = t) w7 W9 := by rw [hW9]; exact ((Kept.refl _ _).drewN _).setCell (p := ⟨t, 2, none⟩) (S := fun k => k = t) (fun _ => rfl) _
          have b9 : Blk W9 t 26 #[.int .i64 a, .int .i64 b, .int .i64 q2, .int .i64 0] := by
            rw [hW9]
            simpa using (HC7.out.2.drewN n8).set_ 2 (.int .i64 q2)
          have hc9 : CK W9 g R A1 d1 xs q2 0 nm7 sz2 := by
            have hn := HT.out.2.1
            refine ⟨HC7.out.1.blk.kept k9 (fun e => hn (.inl e.symm)), HC7.out.1.rd.kept k9 (fun e => hn (.inr e.symm)) (fun b o e hp e2 => ?_), HC7.out.1.far⟩
            have := HA.out b o e hp
            have := HT.out.2.2.1
            omega
          have f9 : Fresh W0 W9 := F7.out.trans k9 fun i hi e => by have := HT.out.2.2.2; omega
          have H9 := Lib.hid (And.intro b9 (And.intro hc9 f9))
          have HL : Hid (∀ V, Fresh W9 V → Calls Try.prog 19 #[.pointer (some ⟨R, 0, none⟩)] V fun e w' => e = .returned (.int .i64 L) ∧ ∃ n, w' = V.drewN n) := Lib.hid fun V hV => nrLeft_any R _ [] A1 d1 xs q2 0 V L (hc9.rd.kept hV id (fun _ _ _ _ => id)) HK.out.1
          have c0 := hc9.c0
          have c2 := hc9.c2
          have c0d : W9.drew.cell? ⟨g, 0, none⟩ = some (.pointer (some ⟨R, 0, none⟩)) := hc9.drew.c0
          have c2d : W9.drew.cell? ⟨g, 2, none⟩ = some (.int .u64 sz2) := hc9.drew.c2
          obtain ⟨e2, e3, e4⟩ := HE2.out
          clear k9 b9 hc9 f9 hW9 t0 t1 t2 t3 u2
          have e5 : IntKind.u64.wrap (L : Int) = (L : Int) := IntWalk.u64_in _ (by omega)
          have e6 : IntKind.i64.wrap (mm : Int) = (mm : Int) := IntWalk.i64_in _ (by omega)
          go_cut [7] from 36 (fun v wx => v = .int .i64 mm ∧ ∃ n, wx = W9.drewN n)
          case first =>
            go_region_with ((go_at_call 19; with_reducible refine (HL.out _ (by first | exact Kept.refl _ _ | exact (Kept.refl _ _).drew)).mono ?_; rintro e v9 ⟨rfl, n9, rfl⟩))
            all_goals
              go_wp2_with fail
              go_meet
              exact ⟨rfl, _, rfl⟩
          case rest =>
            obtain ⟨rfl, n10, rfl⟩ := hcut
            go_wp2_with fail
            obtain ⟨X, hX⟩ : ∃ X, X = W9.drewN n10 := ⟨_, rfl⟩
            have bX : Blk X t 26 #[.int .i64 a, .int .i64 b, .int .i64 q2, .int .i64 0] := by rw [hX]; exact H9.out.1.drewN _
            have fX : Fresh W0 X := by rw [hX]; exact H9.out.2.2.drewN _
            rw [← hX]
            have HFr : Hid (∀ V, Fresh X V → Calls Try.prog 20 #[.agg #[.int .i64 a, .int .i64 b, .int .i64 q2, .int .i64 0]] V fun e w' => e = .returned (.int .i64 fr) ∧ Fresh X w') := Lib.hid fun V hV => by
              rw [HK.out.2.2.1]
              exact (cFrame_any a b q2 0 V HD.out.2.2.1.2).mono fun e w' h => ⟨h.1, hV.trans h.2 fun _ _ e => e⟩
            have HB : Hid (∀ V, Fresh X V → V.cell? ⟨t, 0, none⟩ = some (.int .i64 a) ∧ V.cell? ⟨t, 1, none⟩ = some (.int .i64 b) ∧ V.cell? ⟨t, 2, none⟩ = some (.int .i64 q2) ∧ V.cell? ⟨t, 3, none⟩ = some (.int .i64 0) ∧ V.frozen? ⟨t, 3, none⟩ = false) := Lib.hid fun V hV => by
              have h := bX.kept hV id
              exact ⟨h.cell 0, h.cell 1, h.cell 2, h.cell 3, h.frozen 3⟩
            have HS : Hid (∀ V, Fresh X V → Blk (V.setCell ⟨t, 3, none⟩ (.int .i64 ((q2 : Int) + kk))) t 26 #[.int .i64 a, .int .i64 b, .int .i64 q2, .int .i64 ((q2 : Int) + kk)] ∧ Fresh W0 (V.setCell ⟨t, 3, none⟩ (.int .i64 ((q2 : Int) + kk)))) := Lib.hid fun V hV => by
              refine ⟨by simpa using (bX.kept hV id).set_ 3 (.int .i64 ((q2 : Int) + kk)), (fX.trans hV fun _ _ e => e).setCell (p := ⟨t, 3, none⟩) (fun h => ?_) _⟩
              simp only [] at h
              have := HT.out.2.2.2
              omega
            have hx0 : Fresh X X := Kept.refl _ _
            have hx1 : Fresh X X.drew := (Kept.refl _ _).drew
            obtain ⟨y0, y1, y2, y3, y4⟩ := HB.out _ hx0
            have e7 : IntKind.i64.wrap (kk : Int) = (kk : Int) := IntWalk.i64_in _ (by omega)
            have e8 : IntKind.i64.wrap ((q2 : Int) + kk) = (q2 : Int) + kk := IntWalk.i64_in _ (by omega)
            have e9 : IntKind.i64.wrap (dd : Int) = (dd : Int) := IntWalk.i64_in _ (by omega)
            have e3a : (mm : Int) / (fr : Int) = (dd : Int) := by rw [← e3, Int.tdiv_eq_ediv_of_nonneg (by omega)]
            have e3b : mm / fr = dd := HK.out.2.2.2.1.symm
            have g0 : ((fr : Int) == 0) = false := by rw [beq_eq_false_iff_ne]; omega
            have g1 : ¬ (fr : Int) = 0 := by omega
            have g2 : (fr = 0) = False := by simp only [eq_iff_iff, iff_false]; omega
            clear bX fX hX c0 c2 c0d c2d e1 e2 e3 e5 e6 e3b
            go_cut [] from 44 (fun wx => Blk wx t 26 #[.int .i64 a, .int .i64 b, .int .i64 q2, .int .i64 ((q2 : Int) + kk)] ∧ Fresh W0 wx)
            case first =>
              have y5 := HB.out _ hx1
              go_region_with ((go_at_call 20; with_reducible refine (HFr.out _ (by assumption)).mono ?_; rintro e v ⟨rfl, hv⟩; obtain ⟨r0, r1, r2, r3, r4⟩ := HB.out _ hv))
              all_goals
                go_wp2_with fail
                go_meet
                first
                  | exact HS.out _ (by assumption)
                  | exact ⟨(HS.out _ (by assumption)).1.drew, (HS.out _ (by assumption)).2.drew⟩
            case rest =>
              have H11 := Lib.hid hcut
              obtain ⟨u, hu⟩ : ∃ u, u = (q2 : Int) + kk := ⟨_, rfl⟩
              rw [← hu] at hcut
              have H11 := Lib.hid hcut
              have Hu := Lib.hid hu
              have hwl : wlen xs.length (true, leAt xs q 2, a, b) q2 sz2 = kk := by
                unfold wlen
                simp only []
                rw [HK.out.2.2.2.2, HK.out.2.2.2.1, HK.out.2.1, HK.out.2.2.1, show xs.length - q2 = L from by have := HK.out.1; omega]
              have hnb : ¬ wbad (true, leAt xs q 2, a, b) := by
                have h1 := HD.out.2.2.1.1
                have h2 := HD.out.2.2.1.2
                unfold wbad
                unfold wok at h2
                simp only []
                omega
              have HP : Hid (wparse xs = if kk < 1 then none else some (a, b, q2, q2 + kk)) := Lib.hid (by
                rw [Hw2.out]
                unfold wfin
                rw [if_neg hnb, hwl])
              have s0 := hcut.1.cell 0
              have s1 := hcut.1.cell 1
              have s2 := hcut.1.cell 2
              have s3 := hcut.1.cell 3
              simp only [List.getElem?_toArray, List.getElem?_cons_zero, List.getElem?_cons_succ] at s0 s1 s2 s3
              clear hcut hu hwl hnb y0 y1 y2 y3 y4 e7 e8 e9 e3a g0 g1 g2 e4
              by_cases hk1 : kk < 1
              · have hb1 : ((q2 : Int) == u) = true := by rw [beq_iff_eq, Hu.out]; omega
                have Hw : Hid (wparse xs = none) := Lib.hid (HP.out.trans (if_pos hk1))
                clear hk1
                have m := HM.out _ H11.out.2
                have m0 := m.cell 0
                have m1 := m.cell 1
                have m2 := m.cell 2
                have m3 := m.cell 3
                have z0 := m.frozen 0
                have z1 := m.frozen 1
                have z2 := m.frozen 2
                have z3 := m.frozen 3
                simp only [List.getElem?_toArray, List.getElem?_cons_zero, List.getElem?_cons_succ] at m0 m1 m2 m3
                clear m
                go_wp2_with fail
                refine bodyPost_ret (v := .tuple #[wval none, .bool false]) (by simp [results, Try.f9, go_sem, wval, m0, m1, m2, m3]) rfl ?_
                unfold ParsePost
                rw [Hw.out]
                exact ⟨rfl, HE.out _ H11.out.2 _ _ _ _⟩
              · have hb1 : ((q2 : Int) == u) = false := by rw [beq_eq_false_iff_ne, Hu.out]; omega
                have Hw : Hid (wparse xs = some (a, b, q2, q2 + kk)) := Lib.hid (HP.out.trans (if_neg hk1))
                clear hk1
                have m := HM.out _ H11.out.2
                have m0 := m.cell 0
                have m1 := m.cell 1
                have m2 := m.cell 2
                have m3 := m.cell 3
                have z0 := m.frozen 0
                have z1 := m.frozen 1
                have z2 := m.frozen 2
                have z3 := m.frozen 3
                simp only [List.getElem?_toArray, List.getElem?_cons_zero, List.getElem?_cons_succ] at m0 m1 m2 m3
                clear m
                go_wp2_with fail
                refine bodyPost_ret (v := .tuple #[.agg #[.int .i64 a, .int .i64 b, .int .i64 q2, .int .i64 u], .bool true]) (by simp [results, Try.f9, go_sem, m0, m1, m2, m3]) rfl ?_
                unfold ParsePost
                rw [Hw.out]
                refine ⟨?_, HE.out _ H11.out.2 _ _ _ _⟩
                simp only [wval, Option.isSome_some]
                rw [Hu.out, show ((q2 + kk : Nat) : Int) = (q2 : Int) + kk from by simp]

end Go.Proofs.Ytodmchjdflpbpaa
