/- The code's Make of WAV files; what the laws ask of the code. -/
import Derived.Test.YtjpfmnfojcaedaaWavD
import Derived.Lib.ConvBytes
namespace Go.Proofs.Ytjpfmnfojcaedaa
open Go.RowKit
set_option maxRecDepth 100000

attribute [local go_sem ↓] Go.wp_at_zero Go.wp_at_succ

theorem bytesWorld_fresh (w : World) (e : TypeId) (s : ByteArray) : Fresh w (Lib.bytesWorld w e s) :=
  ⟨rfl, rfl, rfl, by rw [Lib.bytesWorld_size]; omega, fun k hk _ => Lib.bytesWorld_at_old w e s k hk⟩
theorem bytesWorld_row (w : World) (e : TypeId) (s : ByteArray) (xs : List Int) (hs : Lib.strCells s = ivs .u8 xs) : Row (Lib.bytesWorld w e s) .u8 (some ⟨w.heap.size, 0, none⟩) s.size xs := by
  have hl : xs.length = s.size := by rw [← Lib.strCells_length, hs, ivs_length]
  refine ⟨hl, fun j hj => ⟨w.heap.size, 0, rfl, by rw [Lib.bytesWorld_size]; omega, ?_⟩⟩
  rw [Nat.zero_add, Lib.bytesWorld_cell w e s j hj]
  have h1 : (Lib.strCells s)[j]? = (ivs .u8 xs)[j]? := by rw [hs]
  rw [ivs_get (by omega)] at h1
  rw [← h1]
  have hj' : j < s.data.toList.length := by simpa using hj
  simp only [Lib.strCells, List.getElem?_map, List.getElem?_eq_getElem hj', Option.map_some, List.getD_eq_getElem?_getD, Option.getD_some]

/-- A writer of the call's own, behind W0. -/
structure MK (W0 w : World) (g : Nat) (v : Value) (bs : List Int) : Prop where
  nw : NW w g v bs
  lo : W0.heap.size ≤ g
  own : ∀ k, v.ownBlock = some k → W0.heap.size ≤ k
  fr : Fresh W0 w
theorem MK.step {W0 w w' : World} {g : Nat} {v : Value} {bs bs' : List Int} (h : MK W0 w g v bs) (hp : NPost w w' g v bs') : ∃ v', MK W0 w' g v' bs' := by
  obtain ⟨v', h1, h2, h3⟩ := hp
  refine ⟨v', h1, h.lo, fun k hk => ?_, h.fr.trans h3 fun i hi e => ?_⟩
  · rcases h2 k hk with e | e
    · exact h.own k e
    · exact Nat.le_trans h.fr.size e
  · rcases e with rfl | e
    · have := h.lo; omega
    · have := h.own i e; omega
theorem MK.fresh {W0 w w' : World} {g : Nat} {v : Value} {bs : List Int} (h : MK W0 w g v bs) (hf : Fresh w w') : MK W0 w' g v bs :=
  ⟨h.nw.kept hf (fun _ _ => id), h.lo, h.own, h.fr.trans hf fun _ _ e => e⟩

set_option maxHeartbeats 1600000 in
theorem cBegin_any (g : Nat) (v : Value) (bs name : List Int) (sN : ByteArray) (size : Nat) (w : World) (h : NW w g v bs) (hs : Lib.strCells sN = ivs .u8 name) (hz : (size : Int) ≤ 1000000000) (hl : bs.length + name.length ≤ 1000000000) :
    Calls Try.prog 27 #[.pointer (some ⟨g, 0, none⟩), .string sN, .int .i64 size] w fun e w' => e = .returned (.tuple #[]) ∧ NPost w w' g v (bs ++ name ++ leBytes size 4) := by
  obtain ⟨V1, hV1⟩ : ∃ V1, V1 = Lib.bytesWorld w 5 sN := ⟨_, rfl⟩
  obtain ⟨cN, hcN⟩ : ∃ cN, cN = grownCap w sN.size 0 5 := ⟨_, rfl⟩
  have hcv : (convert 9 22 (.string sN)).run Try.prog w = .ok (.slice (some ⟨w.heap.size, 0, none⟩) sN.size cN) V1 := by
    rw [hV1, hcN]
    exact Lib.run_convert_string_bytes w 9 22 5 sN Try.underlying9 Try.underlying22 Try.underlying5
  have hf1 : Fresh w V1 := by rw [hV1]; exact bytesWorld_fresh _ _ _
  have hr1 : Row V1 .u8 (some ⟨w.heap.size, 0, none⟩) sN.size name := by rw [hV1]; exact bytesWorld_row _ _ _ _ hs
  have hlr : (name : List Int).length = sN.size := hr1.len
  have hzz : V1.heap.size = w.heap.size + 1 := by rw [hV1, Lib.bytesWorld_size]
  have HR := Lib.hid (And.intro h (And.intro hf1 (And.intro hr1 (And.intro hl hzz))))
  have HP : Hid (Calls Try.prog 28 #[.pointer (some ⟨g, 0, none⟩), .slice (some ⟨V1.heap.size, 0, none⟩) 1 1] (V1.alloc (.cells #[.slice (some ⟨w.heap.size, 0, none⟩) sN.size cN] 22)) fun e w' => e = .returned (.tuple #[]) ∧ NPost w w' g v (bs ++ name)) := Lib.hid (by
    refine LastRaw.any name w g v bs h (by omega) _ _ (hf1.alloc _) (Parts.one hr1 (fun b o e _ => ?_) (by omega))
    injection e with e
    injection e with e1 e2
    omega)
  clear h hf1 hr1 hl hV1 hcN hlr hs hzz
  go_enter Try.func27, Try.ntmps27
  go_wp2_with fail
  refine HP.out.mono ?_
  rintro e w2 ⟨rfl, hn⟩
  obtain ⟨v2, h2, hup⟩ := hn.mid
  have H2 := Lib.hid (And.intro h2 hup)
  clear hn h2 hup hcv HP
  go_wp2_with fail
  refine (nLittle_any g v2 (bs ++ name) size 4 _ H2.out.1 (by omega) (by rw [List.length_append]; have := HR.out.2.2.2.1; omega)).mono ?_
  rintro e w3 ⟨rfl, hn⟩
  have H3 := Lib.hid (H2.out.2 _ _ hn)
  clear hn
  go_wp2_with fail
  go_end0
  exact ⟨rfl, H3.out⟩

set_option maxHeartbeats 6400000 in
/-- Make, where it makes one. -/
theorem cMake_ok (ch b : Nat) (f t : Int) (A : Option Addr) (n c : Nat) (xs : List Int) (w : World) (h : wok ch b) (hr : Row w .u8 A n xs) (hn : n ≤ 100000000) :
    Calls Try.prog 14 #[.agg #[.int .i64 ch, .int .i64 b, .int .i64 f, .int .i64 t], .slice A n c] w fun e w' => ∃ u, e = .returned u ∧ NewRow w w' 5 .u8 u (wmake ch b xs) := by
  obtain ⟨fr, hfr⟩ : ∃ fr, fr = ch * b / 8 := ⟨_, rfl⟩
  have h8 := h
  unfold wok at h8
  have hfb : fr ≤ 16 := by
    rw [hfr]
    rcases h8.2.2 with e | e <;> subst e <;> omega
  obtain ⟨Z, hZ⟩ : ∃ Z, Z = wmake ch b xs := ⟨_, rfl⟩
  rw [← hZ]
  rw [wmake_ok h] at hZ
  unfold whead wdata at hZ
  rw [← hfr] at hZ
  obtain rfl := hr.len
  obtain ⟨lx, hlx⟩ : ∃ lx, lx = xs.length := ⟨_, rfl⟩
  rw [← hlx] at hZ hr hn ⊢
  have HZ := Lib.hid hZ
  have Hlx := Lib.hid hlx
  obtain ⟨W0, hW0⟩ : ∃ W0, W0 = w.alloc (.cells #[.int .i64 ch, .int .i64 b, .int .i64 f, .int .i64 t] 26) := ⟨_, rfl⟩
  have hb0 : Blk W0 w.heap.size 26 #[.int .i64 ch, .int .i64 b, .int .i64 f, .int .i64 t] := by rw [hW0]; exact Blk.new _ _ _
  have hf0 : Fresh w W0 := by rw [hW0]; exact (Kept.refl _ _).alloc _
  have hr0 := hr.kept hf0 (fun _ _ _ _ => id)
  have hA : ∀ b o, A = some ⟨b, o, none⟩ → 0 < lx → b < W0.heap.size := fun b o e hp => by
    obtain ⟨b', o', e', hlt, _⟩ := hr0.at_ 0 hp
    rw [e] at e'
    injection e' with e'
    injection e' with e1 e2
    omega
  have HM : Hid (∀ V, Fresh W0 V → V.cell? ⟨w.heap.size, 0, none⟩ = some (.int .i64 ch) ∧ V.cell? ⟨w.heap.size, 1, none⟩ = some (.int .i64 b) ∧ V.cell? ⟨w.heap.size, 2, none⟩ = some (.int .i64 f) ∧ V.cell? ⟨w.heap.size, 3, none⟩ = some (.int .i64 t)) := Lib.hid fun V hV => by
    have m := hb0.kept hV id
    exact ⟨m.cell 0, m.cell 1, m.cell 2, m.cell 3⟩
  have HF : Hid (∀ V, Calls Try.prog 26 #[.agg #[.int .i64 ch, .int .i64 b, .int .i64 f, .int .i64 t]] V fun e w' => e = .returned (.bool true) ∧ Fresh V w') := Lib.hid fun V => by
    have := cFits_any ch b f t V
    rwa [decide_eq_true (show wokI ch b from by unfold wokI; omega)] at this
  have HFr : Hid (∀ V, Calls Try.prog 23 #[.agg #[.int .i64 ch, .int .i64 b, .int .i64 f, .int .i64 t]] V fun e w' => e = .returned (.int .i64 fr) ∧ Fresh V w') := Lib.hid fun V => by
    rw [hfr]
    exact cFrame_any ch b f t V h
  have HL : Hid (∀ (V : World) (g : Nat) (v : Value) (bs : List Int) (xi ni : Int) (x k : Nat), MK W0 V g v bs → xi = x → ni = k → k ≤ 8 → bs.length ≤ 1000000 → x < 4294967296 → Calls Try.prog 29 #[.pointer (some ⟨g, 0, none⟩), .int .u64 xi, .int .i64 ni] V fun e w' => e = .returned (.tuple #[]) ∧ ∃ v', MK W0 w' g v' (bs ++ leBytes x k)) := Lib.hid fun V g v bs xi ni x k hk hx hn h8 hl hx4 => by
    subst hx hn
    have := nLittle_any g v bs x k V hk.nw (by omega) (by omega)
    rw [show wid (k : Int) = k from by unfold wid; omega] at this
    exact this.mono fun e w' h => ⟨h.1, hk.step h.2⟩
  have HB : Hid (∀ (V : World) (g : Nat) (v : Value) (bs name : List Int) (sN : ByteArray) (ni : Int) (x : Nat), MK W0 V g v bs → ni = x → Lib.strCells sN = ivs .u8 name → x ≤ 1000000000 → bs.length + name.length ≤ 1000000 → Calls Try.prog 27 #[.pointer (some ⟨g, 0, none⟩), .string sN, .int .i64 ni] V fun e w' => e = .returned (.tuple #[]) ∧ ∃ v', MK W0 w' g v' (bs ++ name ++ leBytes x 4)) := Lib.hid fun V g v bs name sN ni x hk hn hs hx hl => by
    subst hn
    exact (cBegin_any g v bs name sN x V hk.nw hs (by omega) (by omega)).mono fun e w' h => ⟨h.1, hk.step h.2⟩
  have HW : Hid (∀ (V V2 : World) (g : Nat) (v : Value) (bs ys : List Int) (P : Option Addr), MK W0 V g v bs → Fresh V V2 → Parts V2 P 1 [ys] (fun b => b < V.heap.size) → bs.length + ys.length ≤ 1000000 → Calls Try.prog 28 #[.pointer (some ⟨g, 0, none⟩), .slice P 1 1] V2 fun e w' => e = .returned (.tuple #[]) ∧ ∃ v', MK W0 w' g v' (bs ++ ys)) := Lib.hid fun V V2 g v bs ys P hk hf hp hl =>
    (LastRaw.any ys V g v bs hk.nw (by omega) P V2 hf hp).mono fun e w' h => ⟨h.1, hk.step h.2⟩
  have HR := Lib.hid (And.intro hr0 (And.intro hA hf0))
  have n0 : (lx : Int) ≤ 100000000 := by omega
  have ch0 : (ch : Int) ≤ 8 := by omega
  have bb0 : (b : Int) ≤ 16 := by omega
  have fr1 : (fr : Int) ≤ 16 := by omega
  clear hr hr0 hA hf0 hb0 hZ hlx hfr hfb h8 h
  go_enter Try.func14, Try.ntmps14
  have m0 := (HM.out W0 (Kept.refl _ _)).1
  have m1 := (HM.out W0 (Kept.refl _ _)).2.1
  have m2 := (HM.out W0 (Kept.refl _ _)).2.2.1
  have m3 := (HM.out W0 (Kept.refl _ _)).2.2.2
  rw [hW0] at m0 m1 m2 m3
  go_wp2_with fail
  rw [← hW0]
  clear hW0 m0 m1 m2 m3
  refine (HF.out _).mono ?_
  rintro e w1 ⟨rfl, f1⟩
  obtain ⟨W2, hW2⟩ : ∃ W2, W2 = w1.alloc (.cells #[.slice none 0 0] 55) := ⟨_, rfl⟩
  obtain ⟨g, hg⟩ : ∃ g, g = w1.heap.size := ⟨_, rfl⟩
  have hk2 : MK W0 W2 g (.slice none 0 0) [] := by
    rw [hW2, hg]
    exact ⟨NW.at_ w1 _ (by decide), f1.size, fun k e => (by cases e), f1.alloc _⟩
  have H2 := Lib.hid hk2
  have HW2 := Lib.hid hW2
  have Hg := Lib.hid hg
  clear f1 hk2 hW2 hg
  go_wp2_with fail
  rw [← HW2.out, ← Hg.out]
  refine (HB.out _ g _ [] nRIFF ⟨#[82, 73, 70, 70]⟩ _ (36 + lx) H2.out (by omega) rfl (by omega) (by decide)).mono ?_
  rintro e w3 ⟨rfl, v3, h3⟩
  obtain ⟨L3, hL3⟩ : ∃ L, L = [] ++ nRIFF ++ leBytes (36 + lx) 4 := ⟨_, rfl⟩
  rw [← hL3] at h3
  have l3 : L3.length = 8 := by rw [hL3]; simp only [List.length_append, leBytes_length]; rfl
  have H3 := Lib.hid h3
  have HL3 := Lib.hid hL3
  clear h3 hL3 H2
  obtain ⟨V4, hV4⟩ : ∃ V4, V4 = w3.alloc (.cells (ivs .u8 nWAVE).toArray 5 ((ivs .u8 nWAVE).toArray.size, (ivs .u8 nWAVE).toArray.size + 1)) := ⟨_, rfl⟩
  have hcv : (convert 22 22 (.slice (some ⟨w3.heap.size, 0, none⟩) 4 4)).run Try.prog (w3.alloc (.cells #[.int .u8 87, .int .u8 65, .int .u8 86, .int .u8 69] 5)) = .ok (.slice (some ⟨w3.heap.size, 0, none⟩) 4 4) V4 := by
    rw [hV4]
    exact Lib.run_convert_bytes_const (P := Try.prog) w3 22 5 (ivs .u8 nWAVE).toArray 4 4 Try.underlying22 Try.underlying5
  have f4 : Fresh w3 V4 := by rw [hV4]; exact (Kept.refl _ _).alloc _
  have r4 : Row V4 .u8 (some ⟨w3.heap.size, 0, none⟩) 4 nWAVE := by rw [hV4]; exact Row.of_cells (heap_alloc_new w3 _)
  have z4 : V4.heap.size = w3.heap.size + 1 := by rw [hV4]; simp
  have HP4 := Lib.hid (HW.out w3 _ g v3 L3 nWAVE _ H3.out (f4.alloc (.cells #[.slice (some ⟨w3.heap.size, 0, none⟩) 4 4] 22)) (Parts.one r4 (fun b o e _ => by injection e with e; injection e with e1 e2; omega) (by omega)) (by rw [l3]; decide))
  clear hV4 f4 r4 z4
  go_wp2_with fail
  refine HP4.out.mono ?_
  rintro e w4 ⟨rfl, v4, h4⟩
  obtain ⟨L4, hL4⟩ : ∃ L, L = L3 ++ nWAVE := ⟨_, rfl⟩
  rw [← hL4] at h4
  have l4 : L4.length = 12 := by rw [hL4]; simp only [List.length_append, l3]; rfl
  have H4 := Lib.hid h4
  have HL4 := Lib.hid hL4
  clear h4 hL4 H3
  clear hcv HP4
  go_wp2_with fail
  refine (HB.out _ g _ L4 nFmt ⟨#[102, 109, 116, 32]⟩ _ 16 H4.out (by rfl) rfl (by omega) (by rw [l4]; decide)).mono ?_
  rintro e w5 ⟨rfl, v5, h5⟩
  obtain ⟨L5, hL5⟩ : ∃ L, L = L4 ++ nFmt ++ leBytes 16 4 := ⟨_, rfl⟩
  rw [← hL5] at h5
  have l5 : L5.length = 20 := by rw [hL5]; simp only [List.length_append, leBytes_length, l4]; rfl
  have H5 := Lib.hid h5
  have HL5 := Lib.hid hL5
  clear h5 hL5 H4
  go_wp2_with fail
  refine (HL.out _ g _ L5 _ _ 1 2 H5.out (by rfl) (by rfl) (by omega) (by omega) (by omega)).mono ?_
  rintro e w6 ⟨rfl, v6, h6⟩
  obtain ⟨L6, hL6⟩ : ∃ L, L = L5 ++ leBytes 1 2 := ⟨_, rfl⟩
  rw [← hL6] at h6
  have l6 : L6.length = 22 := by rw [hL6]; simp only [List.length_append, leBytes_length, l5]
  have H6 := Lib.hid h6
  have HL6 := Lib.hid hL6
  clear h6 hL6 H5
  have m0 := (HM.out _ H6.out.fr).1
  have m1 := (HM.out _ H6.out.fr).2.1
  have m2 := (HM.out _ H6.out.fr).2.2.1
  have m3 := (HM.out _ H6.out.fr).2.2.2
  go_wp2_with fail
  refine (HL.out _ g _ L6 _ _ ch 2 H6.out (by rfl) (by rfl) (by omega) (by omega) (by omega)).mono ?_
  rintro e w7 ⟨rfl, v7, h7⟩
  obtain ⟨L7, hL7⟩ : ∃ L, L = L6 ++ leBytes ch 2 := ⟨_, rfl⟩
  rw [← hL7] at h7
  have l7 : L7.length = 24 := by rw [hL7]; simp only [List.length_append, leBytes_length, l6]
  have H7 := Lib.hid h7
  have HL7 := Lib.hid hL7
  clear h7 hL7 H6 m0 m1 m2 m3
  go_wp2_with fail
  refine (HL.out _ g _ L7 _ _ 8000 4 H7.out (by rfl) (by rfl) (by omega) (by omega) (by omega)).mono ?_
  rintro e w8 ⟨rfl, v8, h8⟩
  obtain ⟨L8, hL8⟩ : ∃ L, L = L7 ++ leBytes 8000 4 := ⟨_, rfl⟩
  rw [← hL8] at h8
  have l8 : L8.length = 28 := by rw [hL8]; simp only [List.length_append, leBytes_length, l7]
  have H8 := Lib.hid h8
  have HL8 := Lib.hid hL8
  clear h8 hL8 H7
  have m0 := (HM.out _ H8.out.fr).1
  have m1 := (HM.out _ H8.out.fr).2.1
  have m2 := (HM.out _ H8.out.fr).2.2.1
  have m3 := (HM.out _ H8.out.fr).2.2.2
  go_wp2_with fail
  refine (HFr.out _).mono ?_
  rintro e x8 ⟨rfl, f8⟩
  have K8 := Lib.hid (H8.out.fresh f8)
  clear f8 m0 m1 m2 m3
  go_wp2_with fail
  refine (HL.out _ g _ L8 _ _ (8000 * fr) 4 K8.out (by simp) (by rfl) (by omega) (by omega) (by omega)).mono ?_
  rintro e w9 ⟨rfl, v9, h9⟩
  obtain ⟨L9, hL9⟩ : ∃ L, L = L8 ++ leBytes (8000 * fr) 4 := ⟨_, rfl⟩
  rw [← hL9] at h9
  have l9 : L9.length = 32 := by rw [hL9]; simp only [List.length_append, leBytes_length, l8]
  have H9 := Lib.hid h9
  have HL9 := Lib.hid hL9
  clear h9 hL9 H8
  have m0 := (HM.out _ H9.out.fr).1
  have m1 := (HM.out _ H9.out.fr).2.1
  have m2 := (HM.out _ H9.out.fr).2.2.1
  have m3 := (HM.out _ H9.out.fr).2.2.2
  clear K8
  go_wp2_with fail
  refine (HFr.out _).mono ?_
  rintro e x9 ⟨rfl, f9⟩
  have K9 := Lib.hid (H9.out.fresh f9)
  clear f9 m0 m1 m2 m3
  go_wp2_with fail
  refine (HL.out _ g _ L9 _ _ fr 2 K9.out (by rfl) (by rfl) (by omega) (by omega) (by omega)).mono ?_
  rintro e w10 ⟨rfl, v10, h10⟩
  obtain ⟨L10, hL10⟩ : ∃ L, L = L9 ++ leBytes fr 2 := ⟨_, rfl⟩
  rw [← hL10] at h10
  have l10 : L10.length = 34 := by rw [hL10]; simp only [List.length_append, leBytes_length, l9]
  have H10 := Lib.hid h10
  have HL10 := Lib.hid hL10
  clear h10 hL10 H9
  have m0 := (HM.out _ H10.out.fr).1
  have m1 := (HM.out _ H10.out.fr).2.1
  have m2 := (HM.out _ H10.out.fr).2.2.1
  have m3 := (HM.out _ H10.out.fr).2.2.2
  clear K9
  go_wp2_with fail
  refine (HL.out _ g _ L10 _ _ b 2 H10.out (by rfl) (by rfl) (by omega) (by omega) (by omega)).mono ?_
  rintro e w11 ⟨rfl, v11, h11⟩
  obtain ⟨L11, hL11⟩ : ∃ L, L = L10 ++ leBytes b 2 := ⟨_, rfl⟩
  rw [← hL11] at h11
  have l11 : L11.length = 36 := by rw [hL11]; simp only [List.length_append, leBytes_length, l10]
  have H11 := Lib.hid h11
  have HL11 := Lib.hid hL11
  clear h11 hL11 H10 m0 m1 m2 m3
  go_wp2_with fail
  refine (HB.out _ g _ L11 nData ⟨#[100, 97, 116, 97]⟩ _ lx H11.out (by rfl) rfl (by omega) (by rw [l11]; decide)).mono ?_
  rintro e w12 ⟨rfl, v12, h12⟩
  obtain ⟨L12, hL12⟩ : ∃ L, L = L11 ++ nData ++ leBytes lx 4 := ⟨_, rfl⟩
  rw [← hL12] at h12
  have l12 : L12.length = 44 := by rw [hL12]; simp only [List.length_append, leBytes_length, l11]; rfl
  have H12 := Lib.hid h12
  have HL12 := Lib.hid hL12
  clear h12 hL12 H11
  have HP13 : Hid (Calls Try.prog 28 #[.pointer (some ⟨g, 0, none⟩), .slice (some ⟨w12.heap.size, 0, none⟩) 1 1] (w12.alloc (.cells #[.slice A lx c] 22)) fun e w' => e = .returned (.tuple #[]) ∧ ∃ v', MK W0 w' g v' (L12 ++ xs)) := Lib.hid (by
    have hf : Fresh w12 (w12.alloc (.cells #[.slice A lx c] 22)) := (Kept.refl _ _).alloc _
    have hk := H12.out.fresh hf
    have := nRaw_any g v12 L12 _ 1 1 [xs] _ hk.nw (Parts.one (t := 22) (c := c) (HR.out.1.kept H12.out.fr (fun _ _ _ _ => id)) (fun b o e hp hF => ?_) (fun hF => ?_)) (by omega) (by rw [l12]; simp [← Hlx.out]; omega)
    · exact this.mono fun e w' h => ⟨h.1, hk.step (by simpa using h.2)⟩
    · have hb := HR.out.2.1 b o e hp
      rcases hF with hF | hF
      · have := H12.out.lo; omega
      · have := H12.out.own _ hF; omega
    · have hh := H12.out.nw.lt _ hF
      omega)
  go_wp2_with fail
  refine HP13.out.mono ?_
  rintro e w13 ⟨rfl, v13, h13⟩
  have H13 := Lib.hid h13
  clear h13 HP13 H12
  go_wp2_with fail
  refine (nBytes_any g v13 (L12 ++ xs) _ H13.out.nw (by rw [List.length_append, l12, ← Hlx.out]; omega)).mono ?_
  rintro e w14 ⟨u, rfl, hu⟩
  have hfin : L12 ++ xs = Z := by
    rw [HZ.out, HL12.out, HL11.out, HL10.out, HL9.out, HL8.out, HL7.out, HL6.out, HL5.out, HL4.out, HL3.out]
    simp only [List.append_assoc, List.nil_append]
  rw [hfin] at hu
  have H14 := Lib.hid (And.intro hu.1 (And.intro hu.2.1 ((HR.out.2.2.trans H13.out.fr fun _ _ e => e).trans hu.2.2 fun _ _ e => e)))
  have Hz := Lib.hid (Nat.le_trans HR.out.2.2.size H13.out.fr.size)
  clear hu hfin H13
  go_wp2_with fail
  go_ret
  exact ⟨u, rfl, H14.out.1, fun k hk => Nat.le_trans Hz.out (H14.out.2.1 k hk), H14.out.2.2⟩

set_option maxHeartbeats 1600000 in
theorem cMake_any (ch b f t : Int) (A : Option Addr) (n c : Nat) (xs : List Int) (w : World) (h1 : -9223372036854775808 ≤ ch ∧ ch < 9223372036854775808) (h2 : -9223372036854775808 ≤ b ∧ b < 9223372036854775808) (hr : Row w .u8 A n xs) (hn : n ≤ 100000000) :
    Calls Try.prog 14 #[.agg #[.int .i64 ch, .int .i64 b, .int .i64 f, .int .i64 t], .slice A n c] w fun e w' => ∃ u, e = .returned u ∧ NewRow w w' 5 .u8 u (wmake ch b xs) := by
  by_cases hw : wokI ch b
  · unfold wokI at hw
    obtain ⟨x, rfl⟩ := Int.eq_ofNat_of_zero_le (show 0 ≤ ch by omega)
    obtain ⟨y, rfl⟩ := Int.eq_ofNat_of_zero_le (show 0 ≤ b by omega)
    exact cMake_ok x y f t A n c xs w (by unfold wok; omega) hr hn
  · have HF : Hid (∀ V, Calls Try.prog 26 #[.agg #[.int .i64 ch, .int .i64 b, .int .i64 f, .int .i64 t]] V fun e w' => e = .returned (.bool false) ∧ Fresh V w') := Lib.hid fun V => by
      have := cFits_any ch b f t V
      rwa [decide_eq_false hw] at this
    have hz : wmake ch b xs = [] := by
      unfold wmake
      rw [if_pos]
      unfold wokI at hw
      omega
    rw [hz]
    clear hw hz hr h1 h2
    go_enter Try.func14, Try.ntmps14
    go_wp2_with fail
    refine (HF.out _).mono ?_
    rintro e w1 ⟨rfl, f1⟩
    have H1 := Lib.hid (((Kept.refl (fun _ => False) w).alloc (.cells #[.int .i64 ch, .int .i64 b, .int .i64 f, .int .i64 t] 26)).trans f1 fun _ _ e => e)
    clear f1
    go_wp2_with fail
    go_ret
    exact ⟨_, rfl, Own.nil _ _ _, fun k e => (by cases e), H1.out⟩

theorem wavOK : WavOK := ⟨fun A n c xs w hr hb hn hc => (cParse_any A n c xs w hr hb hn hc).mono fun _ _ h => h, fun ch b f t A n c xs w h1 h2 hr _ hn _ => cMake_any ch b f t A n c xs w h1 h2 hr hn⟩

end Go.Proofs.Ytjpfmnfojcaedaa
