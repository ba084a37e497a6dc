/- The code's put and Pack. -/
import Derived.Test.YtpknbfkknnaajaaDoorStrC
import Derived.Test.YtpknbfkknnaajaaDoorStrBits
import Derived.Deep.RegionHeld3
namespace Go.Proofs.YtpknbfkknnaajaaDoor
set_option maxRecDepth 100000
open Go.RowKit

attribute [local go_sem ↓] Go.wp_at_zero Go.wp_at_succ

set_option maxHeartbeats 1600000 in
/-- put: one byte is packed. -/
theorem cPut_any (A : Nat → Prop) (ge gm lv : Nat) (v : Value) (L : List Bool) (x : Nat) (w : World) (h : PkA A w ge gm lv v L L) (hl : L.length ≤ 99999900) (hx : x < 256) :
    Calls Tryd.prog 19 #[.agg #[.pointer (some ⟨ge, 0, none⟩), .pointer (some ⟨gm, 0, none⟩)], .int .u8 x] w fun e w' => e = .returned (.tuple #[]) ∧ ∃ v', PkA A w' ge gm lv v' (L ++ bb x) (L ++ bb x) ∧ Kept (fun k => ¬ A k) w w' := by
  have hbx := Blk.new w 41 #[.pointer (some ⟨ge, 0, none⟩), .pointer (some ⟨gm, 0, none⟩)]
  have hfa : Fresh w (w.alloc (.cells #[.pointer (some ⟨ge, 0, none⟩), .pointer (some ⟨gm, 0, none⟩)] 41)) := (Kept.refl _ _).alloc _
  have hsz : (w.alloc (.cells #[.pointer (some ⟨ge, 0, none⟩), .pointer (some ⟨gm, 0, none⟩)] 41)).heap.size = w.heap.size + 1 := alloc_size _ _
  have h1 : PkA (fun k => A k ∨ k = w.heap.size) (w.alloc (.cells #[.pointer (some ⟨ge, 0, none⟩), .pointer (some ⟨gm, 0, none⟩)] 41)) ge gm lv v L L :=
    h.move hfa (fun k e => e.elim (fun e => ⟨by have := (h.far k e).1; omega, .inl e⟩) (fun e => ⟨by omega, .inr (by omega)⟩)) (.inl h.kin)
  have hF : Kept (fun k => ¬ A k) w (w.alloc (.cells #[.pointer (some ⟨ge, 0, none⟩), .pointer (some ⟨gm, 0, none⟩)] 41)) := (Kept.refl _ _).alloc _
  have hK := h.kin
  have hB : ∀ k, A k → k < w.heap.size := fun k e => (h.far k e).1
  have H1 := Lib.hid (And.intro h1 (And.intro hbx (And.intro hF (And.intro hK hB))))
  clear h1 hbx hfa hF hK hB h hsz
  go_enter Tryd.func19, Tryd.ntmps19
  go_wp2_with fail
  generalize (w.alloc (.cells #[.pointer (some ⟨ge, 0, none⟩), .pointer (some ⟨gm, 0, none⟩)] 41)) = w1 at *
  generalize hb0 : w.heap.size = b0 at *
  go_loopw [4] (fun i wr => ∃ (z : Nat) (v : Value), z ≤ 8 ∧ i = .int .i64 ((z : Int) - 1) ∧ PkA (fun k => A k ∨ k = b0) wr ge gm lv v (L ++ (bb x).take (8 - z)) (L ++ (bb x).take (8 - z)) ∧ Kept (fun k => ¬ A k) w wr ∧ Blk wr b0 41 #[.pointer (some ⟨ge, 0, none⟩), .pointer (some ⟨gm, 0, none⟩)]) (fun i _ => (intOf i + 1).toNat)
  case atStart => exact ⟨8, v, by omega, rfl, by simpa using H1.out.1, H1.out.2.2.1, H1.out.2.1⟩
  case round =>
    obtain ⟨z, u, hz, rfl, hp, hF, hbx⟩ := hrel
    by_cases hz0 : z = 0
    · subst hz0
      rw [Nat.sub_zero, bb_all] at hp
      have HP := Lib.hid (And.intro (hp.move (A' := A) (Kept.refl _ _) (fun k e => ⟨(hp.far k (.inl e)).1, .inl (.inl e)⟩) H1.out.2.2.2.1) hF)
      clear hp hF hbx
      go_wp2_with fail
      go_end0
      exact ⟨rfl, _, HP.out.1, HP.out.2⟩
    · obtain ⟨k, rfl⟩ : ∃ k, z = k + 1 := ⟨z - 1, by omega⟩
      have ek : (((k + 1 : Nat) : Int) - 1) = (k : Int) := by omega
      rw [show 8 - (k + 1) = 7 - k by omega] at hp
      rw [ek]
      have k0 : (0 : Int) ≤ (k : Int) := by omega
      have k1 : (k : Int) ≤ 7 := by omega
      obtain ⟨y, hy1, hy2, hy3⟩ := bit_val64 hx (show k ≤ 7 by omega)
      have hnx : (L ++ (bb x).take (7 - k)) ++ [(y : Int) != 0] = L ++ (bb x).take (8 - k) := by
        rw [hy3, show 8 - k = 7 - k + 1 by omega, bb_take _ (by omega), List.append_assoc]
      have hsl : (L ++ (bb x).take (7 - k)).length ≤ 99999999 := by
        rw [List.length_append, List.length_take, bb_len]; omega
      generalize L ++ (bb x).take (7 - k) = M at *
      have HN := Lib.hid hnx
      have y0 : (0 : Int) ≤ (y : Int) := by omega
      have y1 : (y : Int) ≤ 1 := by omega
      have hby0 : (0 : Int) ≤ (x : Int) := by omega
      have hby1 : (x : Int) < 256 := by omega
      have c0 := hbx.cell 0
      have c1 := hbx.cell 1
      simp only [List.getElem?_toArray, List.getElem?_cons_zero, List.getElem?_cons_succ] at c0 c1
      have HB := Lib.hid (fun V (hk : Fresh wr V) => cBit_any _ ge gm lv u M y V (hp.fresh hk) hsl)
      have HX := Lib.hid (And.intro hbx (hp.far b0 (.inr rfl)))
      have HF := Lib.hid hF
      clear hp hF hbx hy3 hnx
      go_wp2_with fail
      have hwx : IntKind.i64.wrap (x : Int) = x := IntWalk.i64_in _ (by omega)
      go_region_held3 (fun w' => w'.cell? ⟨b0, 0, none⟩ = some (.pointer (some ⟨ge, 0, none⟩)) ∧ w'.cell? ⟨b0, 1, none⟩ = some (.pointer (some ⟨gm, 0, none⟩)))
        (first | go_keep | exact H6)
        (first
          | (go_at_call 36; refine (HB.out _ (by first | exact Kept.refl _ _ | exact (Kept.refl _ _).drew)).mono ?_; rintro e5 w6 ⟨rfl, u6, hp6, hk6⟩; have H6 := (And.intro ((hk6.cell (p := ⟨b0, 0, none⟩) HX.out.2.1 (fun e => e (.inr rfl))).trans c0) ((hk6.cell (p := ⟨b0, 1, none⟩) HX.out.2.1 (fun e => e (.inr rfl))).trans c1))))
      rw [HN.out] at hp6
      have HP6 := Lib.hid hp6
      have HB6 := Lib.hid (HX.out.1.drew.kept hk6 (fun e => e (.inr rfl)))
      have HF6 := Lib.hid (HF.out.drew.trans hk6 (fun k hk e e2 => e (.inl e2)))
      clear hp6 hk6 H6 HB HF HX c0 c1
      go_wp2_with fail
      go_roundw
      case rel => exact ⟨k, _, by omega, by go_num, HP6.out, HF6.out, HB6.out⟩
      case measure => simp [intOf] <;> omega

theorem byteNat {xs : List Int} (h : ∀ x ∈ xs, 0 ≤ x ∧ x < 256) (j : Nat) : ∃ x : Nat, xs.getD j 0 = x ∧ x < 256 := by
  by_cases hj : j < xs.length
  · have := h _ (List.getElem_mem hj)
    refine ⟨(xs[j]).toNat, ?_, by omega⟩
    simp [List.getD, hj]; omega
  · refine ⟨0, ?_, by omega⟩
    simp [List.getD, List.getElem?_eq_none (Nat.le_of_not_lt hj)]

set_option maxHeartbeats 1600000 in
/-- allowed. -/
theorem allowed_any (n lv : Int) (w : World) : Calls Tryd.prog 17 #[.int .i64 n, .int .i64 lv] w fun e w' => e = .returned (.int .i64 (if lv < 0 ∨ 3 ≤ lv ∨ n < 0 then 1 else if 1048576 < n then 5 else 0)) ∧ w = w' := by
  by_cases h1 : lv < 0
  · rw [if_pos (.inl h1)]
    go_enter Tryd.func17, Tryd.ntmps17
    go_wp2_with fail
    go_ret
    exact ⟨rfl, rfl⟩
  · by_cases h2 : 3 ≤ lv
    · rw [if_pos (.inr (.inl h2))]
      go_enter Tryd.func17, Tryd.ntmps17
      go_wp2_with fail
      go_ret
      exact ⟨rfl, rfl⟩
    · by_cases h3 : n < 0
      · rw [if_pos (.inr (.inr h3))]
        go_enter Tryd.func17, Tryd.ntmps17
        go_wp2_with fail
        go_ret
        exact ⟨rfl, rfl⟩
      · rw [if_neg (by omega)]
        by_cases h4 : 1048576 < n
        · rw [if_pos h4]
          go_enter Tryd.func17, Tryd.ntmps17
          go_wp2_with fail
          go_ret
          exact ⟨rfl, rfl⟩
        · rw [if_neg h4]
          go_enter Tryd.func17, Tryd.ntmps17
          go_wp2_with fail
          go_ret
          exact ⟨rfl, rfl⟩

set_option maxHeartbeats 1600000 in
/-- Pack: P9.1. -/
theorem cPack_any (A : Option Addr) (n c : Nat) (xs : List Int) (lv : Nat) (w : World) (hk : Kin w) (hr : Row w .u8 A n xs) (hb : ∀ j, 0 ≤ xs.getD j 0 ∧ xs.getD j 0 < 256) (hn : n ≤ 1048576) (hl : lv ≤ 2) :
    Calls Tryd.prog 10 #[.slice A n c, .int .i64 lv] w fun e w' => ∃ u, e = .returned (.tuple #[u, .int .i64 0]) ∧ NewRow w w' 5 .u8 u (packB lv (bbs xs)) := by
  have hlen := hr.len
  have HR := Lib.hid hr
  have HAl := Lib.hid (allowed_any (n : Int) (lv : Int) w)
  rw [if_neg (by omega), if_neg (by omega)] at HAl
  have HN := Lib.hid (cNewPacker_any lv w hk hl)
  clear hr hk
  go_enter Tryd.func10, Tryd.ntmps10
  go_wp2_with fail
  refine HAl.out.mono ?_
  rintro e w1 ⟨rfl, rfl⟩
  clear HAl
  go_wp2_with fail
  refine HN.out.mono ?_
  rintro e w2 ⟨ge, gm, rfl, hp, hf⟩
  have hs2 := hf.size
  have hbx := Blk.new w2 41 #[.pointer (some ⟨ge, 0, none⟩), .pointer (some ⟨gm, 0, none⟩)]
  have hfa : Fresh w2 (w2.alloc (.cells #[.pointer (some ⟨ge, 0, none⟩), .pointer (some ⟨gm, 0, none⟩)] 41)) := (Kept.refl _ _).alloc _
  have hsz : (w2.alloc (.cells #[.pointer (some ⟨ge, 0, none⟩), .pointer (some ⟨gm, 0, none⟩)] 41)).heap.size = w2.heap.size + 1 := alloc_size _ _
  have h1 : PkA (fun k => k < w.heap.size ∨ k = w2.heap.size) (w2.alloc (.cells #[.pointer (some ⟨ge, 0, none⟩), .pointer (some ⟨gm, 0, none⟩)] 41)) ge gm lv (.slice none 0 0) [] [] :=
    hp.move hfa (fun k e => e.elim (fun e => ⟨by omega, .inl e⟩) (fun e => ⟨by omega, .inr (by omega)⟩)) (.inl hp.kin)
  have hf1 : Fresh w (w2.alloc (.cells #[.pointer (some ⟨ge, 0, none⟩), .pointer (some ⟨gm, 0, none⟩)] 41)) := hf.trans hfa (fun _ _ h => h)
  have HP := Lib.hid (And.intro h1 (And.intro hbx hf1))
  have Hs := Lib.hid hs2
  clear hp hf HN h1 hbx hf1 hfa hsz hs2
  go_wp2_with fail
  generalize (w2.alloc (.cells #[.pointer (some ⟨ge, 0, none⟩), .pointer (some ⟨gm, 0, none⟩)] 41)) = w3 at *
  generalize w2.heap.size = b0 at *
  go_loopw [21] (fun i wr => ∃ (a : Nat) (v : Value), a ≤ n ∧ i = .int .i64 a ∧ PkA (fun k => k < w.heap.size ∨ k = b0) wr ge gm lv v (bbs (xs.take a)) (bbs (xs.take a)) ∧ Blk wr b0 41 #[.pointer (some ⟨ge, 0, none⟩), .pointer (some ⟨gm, 0, none⟩)] ∧ Fresh w wr) (fun i _ => (n - intOf i).toNat)
  case atStart => exact ⟨0, _, by omega, rfl, by simpa [bbs] using HP.out.1, HP.out.2.1, HP.out.2.2⟩
  case round =>
    obtain ⟨a, v, ha, rfl, hp, hbx, hf⟩ := hrel
    have c0 := hbx.cell 0
    have c1 := hbx.cell 1
    simp only [List.getElem?_toArray, List.getElem?_cons_zero, List.getElem?_cons_succ] at c0 c1
    by_cases hlt : a < n
    · have a0 : (a : Int) < (n : Int) := by omega
      obtain ⟨b1, o1, rfl, hb1, hc1⟩ := HR.out.at_ a hlt
      have hc2 : wr.cell? ⟨b1, o1 + a, none⟩ = some (.int .u8 (xs.getD a 0)) := (hf.cell (p := ⟨b1, o1 + a, none⟩) hb1 id).trans hc1
      obtain ⟨x, hx⟩ := Int.eq_ofNat_of_zero_le (hb a).1
      have hx8 : x < 256 := by have := (hb a).2; omega
      rw [hx] at hc2
      have hnx : bbs (xs.take a) ++ bb x = bbs (xs.take (a + 1)) := by
        have := sofar_byte (xs := xs) (a := a) (by omega)
        rw [sofar_zero] at this
        rw [← this]
        unfold sofar
        rw [bb_all, hx]
        rfl
      have hsl : (bbs (xs.take a)).length ≤ 99999900 := by rw [bbs_len, List.length_take]; omega
      have HN := Lib.hid hnx
      have HB := Lib.hid (cPut_any _ ge gm lv v (bbs (xs.take a)) x wr hp hsl hx8)
      have HX := Lib.hid (And.intro hbx hf)
      clear hp hbx hf hc1 hnx hsl
      go_wp2_with fail
      refine HB.out.mono ?_
      rintro e5 w5 ⟨rfl, u, hp5, hk5⟩
      rw [HN.out] at hp5
      have HP5 := Lib.hid (And.intro hp5 (And.intro (HX.out.1.kept hk5 (fun e => e (.inr rfl))) (HX.out.2.trans hk5 (fun k hk e => e (.inl hk)))))
      clear hp5 hk5 HB HX c0 c1 hc2
      go_wp2_with fail
      go_roundw
      case rel => exact ⟨a + 1, _, by omega, by go_num, HP5.out.1, HP5.out.2.1, HP5.out.2.2⟩
      case measure => simp [intOf]; omega
    · obtain rfl : a = n := by omega
      have a0 : ¬ (a : Int) < (a : Int) := by omega
      rw [show xs.take a = xs from by rw [← hlen]; exact List.take_length] at hp
      have HF := Lib.hid (hp.flush (by rw [bbs_len]; omega))
      have HX := Lib.hid hf
      clear HP hp hbx hf
      go_wp2_with fail
      refine HF.out.mono ?_
      rintro e w7 ⟨u, rfl, ho, hu, hk⟩
      have H7 : Hid (NewRow w w7 5 .u8 u (packB lv (bbs xs))) := Lib.hid ⟨ho, fun k e => Nat.le_of_not_lt fun h => hu k (.inl h) e, HX.out.trans hk (fun k hk e => e (.inl hk))⟩
      clear ho hu hk HF HX
      go_wp2_with fail
      refine bodyPost_ret (results_tmp2 rfl _ _ _) rfl ?_
      exact ⟨u, rfl, H7.out⟩

set_option maxHeartbeats 800000 in
/-- Pack, where it refuses. -/
theorem cPack_not (A : Option Addr) (n c : Nat) (lv : Int) (w : World) (h : lv < 0 ∨ 3 ≤ lv ∨ 1048576 < (n : Int)) :
    Calls Tryd.prog 10 #[.slice A n c, .int .i64 lv] w fun e w' => e = .returned (.tuple #[.slice none 0 0, .int .i64 (if lv < 0 ∨ 3 ≤ lv then 1 else 5)]) ∧ w = w' := by
  have HAl := Lib.hid (allowed_any (n : Int) lv w)
  have e : (if lv < 0 ∨ 3 ≤ lv ∨ (n : Int) < 0 then (1 : Int) else if 1048576 < (n : Int) then 5 else 0) = (if lv < 0 ∨ 3 ≤ lv then 1 else 5) := by
    split <;> split <;> omega
  rw [e] at HAl
  have hne : (if lv < 0 ∨ 3 ≤ lv then (1 : Int) else 5) ≠ 0 := by split <;> omega
  generalize (if lv < 0 ∨ 3 ≤ lv then (1 : Int) else 5) = r at *
  clear e h
  go_enter Tryd.func10, Tryd.ntmps10
  go_wp2_with fail
  refine HAl.out.mono ?_
  rintro e w1 ⟨rfl, rfl⟩
  clear HAl
  go_wp2_with fail
  refine bodyPost_ret (results_tmp2 rfl _ _ _) rfl ?_
  exact ⟨rfl, rfl⟩

end Go.Proofs.YtpknbfkknnaajaaDoor
