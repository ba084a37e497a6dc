/- The document's guess, Row, Unrow, weight, Best of filters. -/
import Derived.Test.YtnmapfoinhomdaaFilQ
namespace Go.Proofs.Ytnmapfoinhomdaa
open Go.RowKit
set_option maxRecDepth 100000

attribute [local go_sem ↓] Go.wp_at_zero Go.wp_at_succ

set_option maxHeartbeats 1600000 in
theorem qGes_any (A : Option Addr) (n c : Nat) (row : List Int) (B : Option Addr) (m d : Nat) (up : List Int) (k : Int) (i : Nat) (p : Int) (w : World)
    (ha : Row w .u8 A n row) (hb : Row w .u8 B m up) (h1 : B8 row) (h2 : B8 up) (hn : n ≤ 16777216) (hm : m ≤ 16777216) (hi : i ≤ 16777216) (hp : p ≤ 9223372036854775807) :
    Calls Try.prog 27 #[.int .i64 k, .slice A n c, .slice B m d, .int .i64 i, .int .i64 p] w fun e w' => e = .returned (.int .u8 (ges k row up i (plN p))) ∧ w = w' := by
  obtain ⟨q1, q2⟩ := plN_in p
  have hpn : plN p ≤ 9223372036854775807 := by omega
  generalize plN p = q at *
  have H1 := qOf_any A n c row ((i : Int) - (q : Int)) w ha (by omega)
  have H2 := qOf_any B m d up (i : Int) w hb (by omega)
  have H3 := qOf_any B m d up ((i : Int) - (q : Int)) w hb (by omega)
  rw [of_ahd] at H1 H3
  rw [if_neg (by omega), Int.toNat_natCast] at H2
  have hx := ahd_in h1 i q
  have hy := h2.at_ i
  have hz := ahd_in h2 i q
  have hg : ges k row up i q = if k = 1 then ahd row i q else if k = 2 then up.getD i 0 else if k = 3 then pae (ahd row i q) (up.getD i 0) (ahd up i q) else if k = 4 then (ahd row i q + up.getD i 0) / 2 else 0 := rfl
  rw [hg]
  have h3 := q2.symm
  clear ha hb h1 h2 hg q2
  generalize ahd row i q = x at *
  generalize up.getD i 0 = y at *
  generalize ahd up i q = z at *
  have H1 := Lib.hid H1
  have H2 := Lib.hid H2
  have H3 := Lib.hid H3
  have HP := Lib.hid (qPaeth_any x y z w hx hy hz)
  have hk : k = 1 ∨ k = 2 ∨ k = 3 ∨ k = 4 ∨ ((k == 1) = false ∧ (k == 2) = false ∧ (k == 3) = false ∧ (k == 4) = false) := by
    simp only [beq_eq_false_iff_ne]
    omega
  rcases hk with rfl | rfl | rfl | rfl | ⟨b1, b2, b3, b4⟩
  · rw [if_pos rfl]
    go_enter Try.func27, Try.ntmps27
    go_wp2_with fail
    refine H1.out.mono ?_
    rintro e w1 ⟨rfl, rfl⟩
    go_wp2_with fail
    refine H2.out.mono ?_
    rintro e w1 ⟨rfl, rfl⟩
    go_wp2_with fail
    refine H3.out.mono ?_
    rintro e w1 ⟨rfl, rfl⟩
    go_wp2_with fail
    go_ret
    exact ⟨rfl, rfl⟩
  · rw [if_neg (by decide), if_pos rfl]
    go_enter Try.func27, Try.ntmps27
    go_wp2_with fail
    refine H1.out.mono ?_
    rintro e w1 ⟨rfl, rfl⟩
    go_wp2_with fail
    refine H2.out.mono ?_
    rintro e w1 ⟨rfl, rfl⟩
    go_wp2_with fail
    refine H3.out.mono ?_
    rintro e w1 ⟨rfl, rfl⟩
    go_wp2_with fail
    go_ret
    exact ⟨rfl, rfl⟩
  · rw [if_neg (by decide), if_neg (by decide), if_pos rfl]
    go_enter Try.func27, Try.ntmps27
    go_wp2_with fail
    refine H1.out.mono ?_
    rintro e w1 ⟨rfl, rfl⟩
    go_wp2_with fail
    refine H2.out.mono ?_
    rintro e w1 ⟨rfl, rfl⟩
    go_wp2_with fail
    refine H3.out.mono ?_
    rintro e w1 ⟨rfl, rfl⟩
    go_wp2_with fail
    refine HP.out.mono ?_
    rintro e w1 ⟨rfl, rfl⟩
    go_wp2_with fail
    go_ret
    exact ⟨rfl, rfl⟩
  · rw [if_neg (by decide), if_neg (by decide), if_neg (by decide), if_pos rfl]
    have hxy : (0 : Int) ≤ x + y ∧ x + y ≤ 510 := by omega
    clear HP
    go_enter Try.func27, Try.ntmps27
    go_wp2_with fail
    refine H1.out.mono ?_
    rintro e w1 ⟨rfl, rfl⟩
    go_wp2_with fail
    refine H2.out.mono ?_
    rintro e w1 ⟨rfl, rfl⟩
    go_wp2_with fail
    refine H3.out.mono ?_
    rintro e w1 ⟨rfl, rfl⟩
    go_wp2_with fail
    go_ret
    exact ⟨rfl, rfl⟩
  · rw [if_neg (by simpa using b1), if_neg (by simpa using b2), if_neg (by simpa using b3), if_neg (by simpa using b4)]
    clear HP
    go_enter Try.func27, Try.ntmps27
    go_wp2_with fail
    refine H1.out.mono ?_
    rintro e w1 ⟨rfl, rfl⟩
    go_wp2_with fail
    refine H2.out.mono ?_
    rintro e w1 ⟨rfl, rfl⟩
    go_wp2_with fail
    refine H3.out.mono ?_
    rintro e w1 ⟨rfl, rfl⟩
    go_wp2_with fail
    go_ret
    exact ⟨rfl, rfl⟩

set_option maxHeartbeats 1600000 in
/-- Row: P17.1. -/
theorem qRowF_any (A : Option Addr) (n c : Nat) (l : List Int) (B : Option Addr) (m d : Nat) (up : List Int) (k p : Int) (w : World)
    (hr : Row w .u8 A n l) (hb : Row w .u8 B m up) (h1 : B8 l) (h2 : B8 up) (hn : n ≤ 16777216) (hm : m ≤ 16777216) (hp : p ≤ 9223372036854775807) :
    Calls Try.prog 12 #[.int .i64 k, .slice A n c, .slice B m d, .int .i64 p] w fun e w' => ∃ u, e = .returned u ∧ NewRow w w' 5 .u8 u (rowF k l up (plN p)) := by
  obtain ⟨i0, hi0, hz0, hz1, hz2⟩ := info_parts Try.infoCol
  obtain rfl := hr.len
  have HR : Hid (∀ V, Fresh w V → Row V .u8 A l.length l ∧ Row V .u8 B m up) := Lib.hid fun V hV => ⟨hr.kept hV (fun _ _ _ _ => id), hb.kept hV (fun _ _ _ _ => id)⟩
  have H8 := Lib.hid (And.intro h1 h2)
  clear hr hb h1 h2
  go_enter Try.func12, Try.ntmps12
  go_wp2_with fail
  go_loopw [10, 9] (fun i u wr => ∃ j : Nat, j ≤ l.length ∧ i = .int .i64 j ∧ NewRow w wr 5 .u8 u (tn j fun i => (l.getD i 0 - ges k l up i (plN p)) % 256)) (fun i _ _ => (l.length - intOf i).toNat)
  case atStart => exact ⟨0, by omega, rfl, NewRow.none _ _ _⟩
  case round =>
    obtain ⟨j, hj, rfl, hu⟩ := hrel
    have HN := Lib.hid hu
    by_cases hlt : j < l.length
    · obtain ⟨hrow, hup⟩ := HR.out wr hu.2.2
      obtain ⟨b, o, rfl, hb, hc⟩ := hrow.at_ j hlt
      obtain ⟨b', o', e', hbw, _⟩ := (HR.out w (Kept.refl _ _)).1.at_ j hlt
      injection e' with e'
      injection e' with e1 e2
      subst e1 e2
      have HG : Hid (∀ q : Nat, Calls Try.prog 27 #[.int .i64 k, .slice (some ⟨b, o, none⟩) l.length c, .slice B m d, .int .i64 j, .int .i64 p] (wr.drewN q) fun e w' => e = .returned (.int .u8 (ges k l up j (plN p))) ∧ wr.drewN q = w') := Lib.hid fun q => qGes_any _ l.length c l B m d up k j p (wr.drewN q) (hrow.drewN q) (hup.drewN q) H8.out.1 H8.out.2 hn hm (by omega) hp
      have j0 : (j : Int) < (l.length : Int) := by omega
      have hlen := tn_length j fun i => (l.getD i 0 - ges k l up i (plN p)) % 256
      have Hs : Hid ((tn (j + 1) fun i => (l.getD i 0 - ges k l up i (plN p)) % 256) = (tn j fun i => (l.getD i 0 - ges k l up i (plN p)) % 256) ++ [(l.getD j 0 - ges k l up j (plN p)) % 256]) := Lib.hid (tn_succ _ _)
      have hv := H8.out.1.at_ j
      generalize l.getD j 0 = v at *
      generalize ges k l up j (plN p) = g at *
      generalize (tn j fun i => (l.getD i 0 - ges k l up i (plN p)) % 256) = xs at *
      have hbu : u9.ownBlock ≠ some b := fun e => absurd (HN.out.2.1 b e) (by omega)
      clear hrow hup hu
      go_wp2_with fail
      go_region_held3 (fun w' => w'.cell? ⟨b, o + j, none⟩ = some (.int .u8 v)) (first | go_keep | exact c4)
        (first
          | (go_at_call 27; refine (HG.out _).mono ?_; rintro e2 w2 ⟨rfl, rfl⟩)
          | (refine step_append_lies _ (by rfl) _ _ _ (by rfl) 0 5 i0 (.int .u8 0) 1 1 Try.underlying22 hi0 hz0 hz1 hz2 rfl (by decide) u9 xs.length (ivs .u8 xs) (by rfl) (World.ownsRow.alloc HN.out.1 _) ⟨wr.heap.size, 0, none⟩ 1 1 (ivs .u8 [IntKind.u8.wrap (v - g)]) (by rfl) (by rfl) (cell_one_new _ _ _) (ivs_one _ _) (by decide) (by unfold maxLen; omega) (by omega) (by omega) (wr.heap.size + 1) (by simp) ?_
             intro q cap w4 hown4 hgrow hat hlt4
             have c4 : w4.cell? ⟨b, o + j, none⟩ = some (.int .u8 v) := (hgrow.cell_far _ (by simp; omega) (Ne.symm hbu)).trans ((World.cell?_alloc_lt _ _ _ hb).trans hc)))
      have ho9 : Own w4 5 .u8 (.slice (some ⟨q, 0, none⟩) (j + 1) cap) (tn (j + 1) fun i => (l.getD i 0 - ges k l up i (plN p)) % 256) := by
        rw [Hs.out, ← IntKind.wrap_u8, ← hlen]
        exact Own.of_append hown4 rfl
      have H9 : Hid (NewRow w w4 5 .u8 (.slice (some ⟨q, 0, none⟩) (j + 1) cap) (tn (j + 1) fun i => (l.getD i 0 - ges k l up i (plN p)) % 256)) := Lib.hid ⟨ho9, fun m e => by
        have : q = m := by simpa [Value.ownBlock] using e
        subst this
        have := HN.out.2.2.size
        rcases hat with e2 | e2
        · exact HN.out.2.1 q e2
        · omega, ((HN.out.2.2.drewN 1).alloc _).grown hgrow (fun m e hm => absurd (HN.out.2.1 m e) (by omega))⟩
      clear ho9 hgrow hat HN Hs hown4
      go_wp2_with fail
      go_roundw
      case rel => exact ⟨j + 1, by omega, by go_num, H9.out⟩
      case measure => simp [intOf]; omega
    · obtain rfl : j = l.length := by omega
      have HE : Hid (NewRow w wr 5 .u8 u9 (rowF k l up (plN p))) := Lib.hid hu
      clear HN hu
      go_wp2_with fail
      go_ret
      exact ⟨_, rfl, HE.out⟩

set_option maxHeartbeats 1600000 in
/-- Unrow: P17.1. -/
theorem qUnF_any (A : Option Addr) (n c : Nat) (l : List Int) (B : Option Addr) (m d : Nat) (up : List Int) (k p : Int) (w : World)
    (hr : Row w .u8 A n l) (hb : Row w .u8 B m up) (h1 : B8 l) (h2 : B8 up) (hn : n ≤ 16777216) (hm : m ≤ 16777216) (hp : p ≤ 9223372036854775807) :
    Calls Try.prog 14 #[.int .i64 k, .slice A n c, .slice B m d, .int .i64 p] w fun e w' => ∃ u, e = .returned u ∧ NewRow w w' 5 .u8 u (unF k l up (plN p)) := by
  obtain ⟨i0, hi0, hz0, hz1, hz2⟩ := info_parts Try.infoCol
  obtain rfl := hr.len
  have HR : Hid (∀ V, Fresh w V → Row V .u8 A l.length l ∧ Row V .u8 B m up) := Lib.hid fun V hV => ⟨hr.kept hV (fun _ _ _ _ => id), hb.kept hV (fun _ _ _ _ => id)⟩
  have H8 := Lib.hid (And.intro h1 h2)
  clear hr hb h1 h2
  go_enter Try.func14, Try.ntmps14
  go_wp2_with fail
  go_loopw [10, 9] (fun i u wr => ∃ j : Nat, j ≤ l.length ∧ i = .int .i64 j ∧ NewRow w wr 5 .u8 u (unN k l up (plN p) j)) (fun i _ _ => (l.length - intOf i).toNat)
  case atStart => exact ⟨0, by omega, rfl, NewRow.none _ _ _⟩
  case round =>
    obtain ⟨j, hj, rfl, hu⟩ := hrel
    have HN := Lib.hid hu
    by_cases hlt : j < l.length
    · obtain ⟨hrow, hup⟩ := HR.out wr hu.2.2
      obtain ⟨b, o, rfl, hb, hc⟩ := hrow.at_ j hlt
      obtain ⟨b', o', e', hbw, _⟩ := (HR.out w (Kept.refl _ _)).1.at_ j hlt
      injection e' with e'
      injection e' with e1 e2
      subst e1 e2
      have hlen := unN_length k l up (plN p) j
      have Hs : Hid (unN k l up (plN p) (j + 1) = unN k l up (plN p) j ++ [(l.getD j 0 + ges k (unN k l up (plN p) j) up j (plN p)) % 256]) := Lib.hid rfl
      obtain ⟨Ao, co, rfl, hro, _⟩ := HN.out.1.row
      have HG : Hid (∀ q : Nat, Calls Try.prog 27 #[.int .i64 k, .slice Ao (unN k l up (plN p) j).length co, .slice B m d, .int .i64 j, .int .i64 p] (wr.drewN q) fun e w' => e = .returned (.int .u8 (ges k (unN k l up (plN p) j) up j (plN p))) ∧ wr.drewN q = w') := Lib.hid fun q => qGes_any _ _ co _ B m d up k j p (wr.drewN q) (hro.drewN q) (hup.drewN q) (unN_byte _ _ _ _ _) H8.out.2 (by omega) hm (by omega) hp
      have j0 : (j : Int) < (l.length : Int) := by omega
      have hv := H8.out.1.at_ j
      generalize l.getD j 0 = v at *
      generalize ges k (unN k l up (plN p) j) up j (plN p) = g at *
      generalize unN k l up (plN p) j = xs at *
      rw [hlen] at HN HG
      have Hlen := Lib.hid hlen
      have hbu : (Value.slice Ao j co).ownBlock ≠ some b := fun e => absurd (HN.out.2.1 b e) (by omega)
      rw [hlen]
      clear hrow hup hu hlen hro
      go_wp2_with fail
      go_region_held3 (fun w' => w'.cell? ⟨b, o + j, none⟩ = some (.int .u8 v)) (first | go_keep | exact c4)
        (first
          | (go_at_call 27; refine (HG.out _).mono ?_; rintro e2 w2 ⟨rfl, rfl⟩)
          | (refine step_append_lies _ (by rfl) _ _ _ (by rfl) 0 5 i0 (.int .u8 0) 1 1 Try.underlying22 hi0 hz0 hz1 hz2 rfl (by decide) (.slice Ao j co) j (ivs .u8 xs) (by rfl) (World.ownsRow.alloc (Own.sz8 HN.out.1 Hlen.out) _) ⟨wr.heap.size, 0, none⟩ 1 1 (ivs .u8 [IntKind.u8.wrap (v + g)]) (by rfl) (by rfl) (cell_one_new _ _ _) (ivs_one _ _) (by decide) (by unfold maxLen; omega) (by omega) (by omega) (wr.heap.size + 1) (by simp) ?_
             intro q cap w4 hown4 hgrow hat hlt4
             have c4 : w4.cell? ⟨b, o + j, none⟩ = some (.int .u8 v) := (hgrow.cell_far _ (by simp; omega) (Ne.symm hbu)).trans ((World.cell?_alloc_lt _ _ _ hb).trans hc)))
      have ho9 : Own w4 5 .u8 (.slice (some ⟨q, 0, none⟩) (j + 1) cap) (unN k l up (plN p) (j + 1)) := by
        rw [Hs.out, ← IntKind.wrap_u8]
        exact Own.of_append hown4 (by rw [Hlen.out]; rfl)
      have H9 : Hid (NewRow w w4 5 .u8 (.slice (some ⟨q, 0, none⟩) (j + 1) cap) (unN k l up (plN p) (j + 1))) := Lib.hid ⟨ho9, fun m e => by
        have : q = m := by simpa [Value.ownBlock] using e
        subst this
        have := HN.out.2.2.size
        rcases hat with e2 | e2
        · exact HN.out.2.1 q e2
        · omega, ((HN.out.2.2.drewN 1).alloc _).grown hgrow (fun m e hm => absurd (HN.out.2.1 m e) (by omega))⟩
      clear ho9 hgrow hat HN Hs hown4
      go_wp2_with fail
      go_roundw
      case rel => exact ⟨j + 1, by omega, by go_num, H9.out⟩
      case measure => simp [intOf]; omega
    · obtain rfl : j = l.length := by omega
      have HE : Hid (NewRow w wr 5 .u8 u9 (unF k l up (plN p))) := Lib.hid hu
      clear HN hu
      go_wp2_with fail
      go_ret
      exact ⟨_, rfl, HE.out⟩

set_option maxHeartbeats 1600000 in
theorem qWeightF_any (A : Option Addr) (n c : Nat) (l : List Int) (w : World) (hr : Row w .u8 A n l) (h8 : B8 l) (hn : n ≤ 16777216) :
    Calls Try.prog 30 #[.slice A n c] w fun e w' => e = .returned (.int .i64 (wgt l : Nat)) ∧ w = w' := by
  obtain rfl := hr.len
  have HR := Lib.hid hr
  have H8 := Lib.hid h8
  clear hr h8
  go_enter Try.func30, Try.ntmps30
  go_wp2_with fail
  go_loopw [4, 3] (fun i x wr => ∃ j : Nat, j ≤ l.length ∧ i = .int .i64 j ∧ x = .int .i64 (wgN l j : Nat) ∧ wr = w) (fun i _ _ => (l.length - intOf i).toNat)
  case atStart => exact ⟨0, by omega, rfl, rfl, rfl⟩
  case round =>
    obtain ⟨j, hj, rfl, rfl, rfl⟩ := hrel
    have hle := wgN_le H8.out j
    by_cases hlt : j < l.length
    · obtain ⟨b, o, rfl, hb, hc⟩ := HR.out.at_ j hlt
      have hv := H8.out.at_ j
      have Hs : Hid (wgN l (j + 1) = wgN l j + wgb (l.getD j 0)) := Lib.hid rfl
      generalize l.getD j 0 = v at *
      generalize wgN l j = s at *
      have j0 : (j : Int) < (l.length : Int) := by omega
      by_cases h128 : 128 < v
      · have hg : wgb v = (256 - v).toNat := by unfold wgb; rw [if_pos h128]
        rw [hg] at Hs
        clear hg
        go_wp2_with fail
        go_roundw
        case rel => exact ⟨j + 1, by omega, by go_num, by rw [Hs.out]; go_num, trivial⟩
        case measure => simp [intOf]; omega
      · have hg : wgb v = v.toNat := by unfold wgb; rw [if_neg h128]
        rw [hg] at Hs
        clear hg
        go_wp2_with fail
        go_roundw
        case rel => exact ⟨j + 1, by omega, by go_num, by rw [Hs.out]; go_num, trivial⟩
        case measure => simp [intOf]; omega
    · obtain rfl : j = l.length := by omega
      go_wp2_with fail
      go_ret
      exact ⟨rfl, rfl⟩

end Go.Proofs.Ytnmapfoinhomdaa
