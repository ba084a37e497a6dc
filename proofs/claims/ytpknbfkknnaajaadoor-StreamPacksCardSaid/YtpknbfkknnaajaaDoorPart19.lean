/- Texts of this proof, one behind the other: StrBits, StrD, StrOut, CodPast. -/
import Derived.Test.YtpknbfkknnaajaaDoorPart9
import Derived.Test.YtpknbfkknnaajaaDoorPart18
import Derived.Laws.BitsAllLaws
import Derived.Laws.Bits128
import Derived.Deep.RegionHeld3

/- Bits of bytes, as loops take them: plain mathematics. -/
namespace Go.Proofs.YtpknbfkknnaajaaDoor
set_option maxRecDepth 100000

theorem ofInt_i64 (a : Nat) (ha : a < 9223372036854775808) : (BitVec.ofInt 64 (a : Int)).toNat = a := by
  rw [BitVec.ofInt_natCast, BitVec.toNat_ofNat]; exact Nat.mod_eq_of_lt (by omega)
theorem i64_and_nat (a b : Nat) (ha : a < 9223372036854775808) (hb : b < 9223372036854775808) : bits .and .i64 (a : Int) (b : Int) = ((a &&& b : Nat) : Int) := by
  have hx : a &&& b < 2 ^ 63 := Nat.and_lt_two_pow _ (by omega)
  show IntKind.i64.wrap ((BitVec.ofInt 64 (a : Int) &&& BitVec.ofInt 64 (b : Int)).toNat : Int) = _
  rw [BitVec.toNat_and, ofInt_i64 a ha, ofInt_i64 b hb, IntKind.wrap_i64]
  omega
theorem i64_or_nat (a b : Nat) (ha : a < 9223372036854775808) (hb : b < 9223372036854775808) : bits .or .i64 (a : Int) (b : Int) = ((a ||| b : Nat) : Int) := by
  have hx : a ||| b < 2 ^ 63 := Nat.or_lt_two_pow (by omega) (by omega)
  show IntKind.i64.wrap ((BitVec.ofInt 64 (a : Int) ||| BitVec.ofInt 64 (b : Int)).toNat : Int) = _
  rw [BitVec.toNat_or, ofInt_i64 a ha, ofInt_i64 b hb, IntKind.wrap_i64]
  omega
theorem bit_val64 {c k : Nat} (hc : c < 256) (hk : k ≤ 7) : ∃ v : Nat, v ≤ 1 ∧ bits .and .i64 ((c : Int) / 2 ^ k) 1 = (v : Int) ∧ ((v : Int) != 0) = bit c (7 - k) := by
  have h1 : (c : Int) / 2 ^ k = ((c / 2 ^ k : Nat) : Int) := by simp
  have h2 : c / 2 ^ k ≤ c := Nat.div_le_self _ _
  refine ⟨c / 2 ^ k % 2, by omega, ?_, ?_⟩
  · rw [h1]
    have := i64_and_nat (c / 2 ^ k) 1 (by omega) (by omega)
    rw [Nat.and_one_is_mod] at this
    exact this
  · unfold bit
    rw [show 7 - (7 - k) = k by omega]
    rcases Nat.mod_two_eq_zero_or_one (c / 2 ^ k) with h | h <;> rw [h] <;> rfl
/-- A byte's bits, put one behind the other. -/
theorem or_bit {a : Nat} (ha : a < 256) (one : Bool) : bits .or .i64 ((a : Int) * 2) (bitN one) = ((a * 2 + one.toNat : Nat) : Int) := by
  have e : ((a : Int) * 2) = ((a * 2 : Nat) : Int) := by omega
  have e2 : bitN one = ((one.toNat : Nat) : Int) := by cases one <;> rfl
  rw [e, e2, i64_or_nat _ _ (by omega) (by cases one <;> decide), nat_join1 _ _ (by omega) (by cases one <;> decide)]
theorem bit_val {c k : Nat} (hc : c < 256) (hk : k ≤ 7) : ∃ v : Nat, v ≤ 1 ∧ bits .and .u8 ((c : Int) / 2 ^ k) 1 = (v : Int) ∧ ((v : Int) != 0) = bit c (7 - k) := by
  have h1 : (c : Int) / 2 ^ k = ((c / 2 ^ k : Nat) : Int) := by simp
  have h2 : c / 2 ^ k ≤ c := Nat.div_le_self _ _
  refine ⟨c / 2 ^ k % 2, by omega, ?_, ?_⟩
  · rw [h1]
    have := u8_and_nat (c / 2 ^ k) 1 (by omega) (by omega)
    rw [Nat.and_one_is_mod] at this
    exact this
  · unfold bit
    rw [show 7 - (7 - k) = k by omega]
    rcases Nat.mod_two_eq_zero_or_one (c / 2 ^ k) with h | h <;> rw [h] <;> rfl

/-- The bits of the first a bytes, and of so many more. -/
def sofar (xs : List Int) (a j : Nat) : List Bool := bbs (xs.take a) ++ (bb (xs.getD a 0).toNat).take j
theorem sofar_next {xs : List Int} {a j : Nat} (h : j < 8) : sofar xs a j ++ [bit (xs.getD a 0).toNat j] = sofar xs a (j + 1) := by
  unfold sofar
  rw [bb_take _ h, List.append_assoc]
theorem sofar_zero (xs : List Int) (a : Nat) : sofar xs a 0 = bbs (xs.take a) := by simp [sofar]
theorem sofar_byte {xs : List Int} {a : Nat} (h : a < xs.length) : sofar xs a 8 = sofar xs (a + 1) 0 := by
  rw [sofar_zero, List.take_succ_eq_append_getElem h, bbs_app]
  unfold sofar
  rw [bb_all]
  simp [List.getD, h]
theorem sofar_all (xs : List Int) : sofar xs xs.length 0 = bbs xs := by rw [sofar_zero, List.take_length]
theorem sofar_len {xs : List Int} {a j : Nat} (h : a ≤ xs.length) (hj : j ≤ 8) : (sofar xs a j).length ≤ 8 * xs.length + 8 := by
  unfold sofar
  rw [List.length_append, bbs_len, List.length_take, List.length_take, bb_len]
  omega
theorem byteC {xs : List Int} (h : ∀ x ∈ xs, 0 ≤ x ∧ x < 256) (j : Nat) : 0 ≤ xs.getD j 0 ∧ xs.getD j 0 < 256 := by
  by_cases hj : j < xs.length
  · have := h _ (List.getElem_mem hj)
    simpa [List.getD, hj] using this
  · simp [List.getD, List.getElem?_eq_none (Nat.le_of_not_lt hj)]

end Go.Proofs.YtpknbfkknnaajaaDoor

/- The code's put and Pack. -/
namespace Go.Proofs.YtpknbfkknnaajaaDoor
set_option maxRecDepth 100000
open Go.RowKit

attribute [local go_sem ↓] Go.wp_at_zero Go.wp_at_succ

set_option maxHeartbeats 1600000 in
/-- put: one byte is packed. -/
theorem cPut_any (A : Nat → Prop) (ge gm lv : Nat) (v : Value) (L : List Bool) (x : Nat) (w : World) (h : PkA A w ge gm lv v L L) (hl : L.length ≤ 99999900) (hx : x < 256) :
    Calls Tryd.prog 19 #[.agg #[.pointer (some ⟨ge, 0, none⟩), .pointer (some ⟨gm, 0, none⟩)], .int .u8 x] w fun e w' => e = .returned (.tuple #[]) ∧ ∃ v', PkA A w' ge gm lv v' (L ++ bb x) (L ++ bb x) ∧ Kept (fun k => ¬ A k) w w' := by
  have hbx := Blk.new w 41 #[.pointer (some ⟨ge, 0, none⟩), .pointer (some ⟨gm, 0, none⟩)]
  have hfa : Fresh w (w.alloc (.cells #[.pointer (some ⟨ge, 0, none⟩), .pointer (some ⟨gm, 0, none⟩)] 41)) := (Kept.refl _ _).alloc _
  have hsz : (w.alloc (.cells #[.pointer (some ⟨ge, 0, none⟩), .pointer (some ⟨gm, 0, none⟩)] 41)).heap.size = w.heap.size + 1 := alloc_size _ _
  have h1 : PkA (fun k => A k ∨ k = w.heap.size) (w.alloc (.cells #[.pointer (some ⟨ge, 0, none⟩), .pointer (some ⟨gm, 0, none⟩)] 41)) ge gm lv v L L :=
    h.move hfa (fun k e => e.elim (fun e => ⟨by have := (h.far k e).1; omega, .inl e⟩) (fun e => ⟨by omega, .inr (by omega)⟩)) (.inl h.kin)
  have hF : Kept (fun k => ¬ A k) w (w.alloc (.cells #[.pointer (some ⟨ge, 0, none⟩), .pointer (some ⟨gm, 0, none⟩)] 41)) := (Kept.refl _ _).alloc _
  have hK := h.kin
  have hB : ∀ k, A k → k < w.heap.size := fun k e => (h.far k e).1
  have H1 := Lib.hid (And.intro h1 (And.intro hbx (And.intro hF (And.intro hK hB))))
  clear h1 hbx hfa hF hK hB h hsz
  go_enter Tryd.func19, Tryd.ntmps19
  go_wp2_with fail
  generalize (w.alloc (.cells #[.pointer (some ⟨ge, 0, none⟩), .pointer (some ⟨gm, 0, none⟩)] 41)) = w1 at *
  generalize hb0 : w.heap.size = b0 at *
  go_loopw [4] (fun i wr => ∃ (z : Nat) (v : Value), z ≤ 8 ∧ i = .int .i64 ((z : Int) - 1) ∧ PkA (fun k => A k ∨ k = b0) wr ge gm lv v (L ++ (bb x).take (8 - z)) (L ++ (bb x).take (8 - z)) ∧ Kept (fun k => ¬ A k) w wr ∧ Blk wr b0 41 #[.pointer (some ⟨ge, 0, none⟩), .pointer (some ⟨gm, 0, none⟩)]) (fun i _ => (intOf i + 1).toNat)
  case atStart => exact ⟨8, v, by omega, rfl, by simpa using H1.out.1, H1.out.2.2.1, H1.out.2.1⟩
  case round =>
    obtain ⟨z, u, hz, rfl, hp, hF, hbx⟩ := hrel
    by_cases hz0 : z = 0
    · subst hz0
      rw [Nat.sub_zero, bb_all] at hp
      have HP := Lib.hid (And.intro (hp.move (A' := A) (Kept.refl _ _) (fun k e => ⟨(hp.far k (.inl e)).1, .inl (.inl e)⟩) H1.out.2.2.2.1) hF)
      clear hp hF hbx
      go_wp2_with fail
      go_end0
      exact ⟨rfl, _, HP.out.1, HP.out.2⟩
    · obtain ⟨k, rfl⟩ : ∃ k, z = k + 1 := ⟨z - 1, by omega⟩
      have ek : (((k + 1 : Nat) : Int) - 1) = (k : Int) := by omega
      rw [show 8 - (k + 1) = 7 - k by omega] at hp
      rw [ek]
      have k0 : (0 : Int) ≤ (k : Int) := by omega
      have k1 : (k : Int) ≤ 7 := by omega
      obtain ⟨y, hy1, hy2, hy3⟩ := bit_val64 hx (show k ≤ 7 by omega)
      have hnx : (L ++ (bb x).take (7 - k)) ++ [(y : Int) != 0] = L ++ (bb x).take (8 - k) := by
        rw [hy3, show 8 - k = 7 - k + 1 by omega, bb_take _ (by omega), List.append_assoc]
      have hsl : (L ++ (bb x).take (7 - k)).length ≤ 99999999 := by
        rw [List.length_append, List.length_take, bb_len]; omega
      generalize L ++ (bb x).take (7 - k) = M at *
      have HN := Lib.hid hnx
      have y0 : (0 : Int) ≤ (y : Int) := by omega
      have y1 : (y : Int) ≤ 1 := by omega
      have hby0 : (0 : Int) ≤ (x : Int) := by omega
      have hby1 : (x : Int) < 256 := by omega
      have c0 := hbx.cell 0
      have c1 := hbx.cell 1
      simp only [List.getElem?_toArray, List.getElem?_cons_zero, List.getElem?_cons_succ] at c0 c1
      have HB := Lib.hid (fun V (hk : Fresh wr V) => cBit_any _ ge gm lv u M y V (hp.fresh hk) hsl)
      have HX := Lib.hid (And.intro hbx (hp.far b0 (.inr rfl)))
      have HF := Lib.hid hF
      clear hp hF hbx hy3 hnx
      go_wp2_with fail
      have hwx : IntKind.i64.wrap (x : Int) = x := IntWalk.i64_in _ (by omega)
      go_region_held3 (fun w' => w'.cell? ⟨b0, 0, none⟩ = some (.pointer (some ⟨ge, 0, none⟩)) ∧ w'.cell? ⟨b0, 1, none⟩ = some (.pointer (some ⟨gm, 0, none⟩)))
        (first | go_keep | exact H6)
        (first
          | (go_at_call 36; refine (HB.out _ (by first | exact Kept.refl _ _ | exact (Kept.refl _ _).drew)).mono ?_; rintro e5 w6 ⟨rfl, u6, hp6, hk6⟩; have H6 := (And.intro ((hk6.cell (p := ⟨b0, 0, none⟩) HX.out.2.1 (fun e => e (.inr rfl))).trans c0) ((hk6.cell (p := ⟨b0, 1, none⟩) HX.out.2.1 (fun e => e (.inr rfl))).trans c1))))
      rw [HN.out] at hp6
      have HP6 := Lib.hid hp6
      have HB6 := Lib.hid (HX.out.1.drew.kept hk6 (fun e => e (.inr rfl)))
      have HF6 := Lib.hid (HF.out.drew.trans hk6 (fun k hk e e2 => e (.inl e2)))
      clear hp6 hk6 H6 HB HF HX c0 c1
      go_wp2_with fail
      go_roundw
      case rel => exact ⟨k, _, by omega, by go_num, HP6.out, HF6.out, HB6.out⟩
      case measure => simp [intOf] <;> omega

theorem byteNat {xs : List Int} (h : ∀ x ∈ xs, 0 ≤ x ∧ x < 256) (j : Nat) : ∃ x : Nat, xs.getD j 0 = x ∧ x < 256 := by
  by_cases hj : j < xs.length
  · have := h _ (List.getElem_mem hj)
    refine ⟨(xs[j]).toNat, ?_, by omega⟩
    simp [List.getD, hj]; omega
  · refine ⟨0, ?_, by omega⟩
    simp [List.getD, List.getElem?_eq_none (Nat.le_of_not_lt hj)]

set_option maxHeartbeats 1600000 in
/-- allowed. -/
theorem allowed_any (n lv : Int) (w : World) : Calls Tryd.prog 17 #[.int .i64 n, .int .i64 lv] w fun e w' => e = .returned (.int .i64 (if lv < 0 ∨ 3 ≤ lv ∨ n < 0 then 1 else if 1048576 < n then 5 else 0)) ∧ w = w' := by
  by_cases h1 : lv < 0
  · rw [if_pos (.inl h1)]
    go_enter Tryd.func17, Tryd.ntmps17
    go_wp2_with fail
    go_ret
    exact ⟨rfl, rfl⟩
  · by_cases h2 : 3 ≤ lv
    · rw [if_pos (.inr (.inl h2))]
      go_enter Tryd.func17, Tryd.ntmps17
      go_wp2_with fail
      go_ret
      exact ⟨rfl, rfl⟩
    · by_cases h3 : n < 0
      · rw [if_pos (.inr (.inr h3))]
        go_enter Tryd.func17, Tryd.ntmps17
        go_wp2_with fail
        go_ret
        exact ⟨rfl, rfl⟩
      · rw [if_neg (by omega)]
        by_cases h4 : 1048576 < n
        · rw [if_pos h4]
          go_enter Tryd.func17, Tryd.ntmps17
          go_wp2_with fail
          go_ret
          exact ⟨rfl, rfl⟩
        · rw [if_neg h4]
          go_enter Tryd.func17, Tryd.ntmps17
          go_wp2_with fail
          go_ret
          exact ⟨rfl, rfl⟩

set_option maxHeartbeats 1600000 in
/-- Pack: P9.1. -/
theorem cPack_any (A : Option Addr) (n c : Nat) (xs : List Int) (lv : Nat) (w : World) (hk : Kin w) (hr : Row w .u8 A n xs) (hb : ∀ j, 0 ≤ xs.getD j 0 ∧ xs.getD j 0 < 256) (hn : n ≤ 1048576) (hl : lv ≤ 2) :
    Calls Tryd.prog 10 #[.slice A n c, .int .i64 lv] w fun e w' => ∃ u, e = .returned (.tuple #[u, .int .i64 0]) ∧ NewRow w w' 5 .u8 u (packB lv (bbs xs)) := by
  have hlen := hr.len
  have HR := Lib.hid hr
  have HAl := Lib.hid (allowed_any (n : Int) (lv : Int) w)
  rw [if_neg (by omega), if_neg (by omega)] at HAl
  have HN := Lib.hid (cNewPacker_any lv w hk hl)
  clear hr hk
  go_enter Tryd.func10, Tryd.ntmps10
  go_wp2_with fail
  refine HAl.out.mono ?_
  rintro e w1 ⟨rfl, rfl⟩
  clear HAl
  go_wp2_with fail
  refine HN.out.mono ?_
  rintro e w2 ⟨ge, gm, rfl, hp, hf⟩
  have hs2 := hf.size
  have hbx := Blk.new w2 41 #[.pointer (some ⟨ge, 0, none⟩), .pointer (some ⟨gm, 0, none⟩)]
  have hfa : Fresh w2 (w2.alloc (.cells #[.pointer (some ⟨ge, 0, none⟩), .pointer (some ⟨gm, 0, none⟩)] 41)) := (Kept.refl _ _).alloc _
  have hsz : (w2.alloc (.cells #[.pointer (some ⟨ge, 0, none⟩), .pointer (some ⟨gm, 0, none⟩)] 41)).heap.size = w2.heap.size + 1 := alloc_size _ _
  have h1 : PkA (fun k => k < w.heap.size ∨ k = w2.heap.size) (w2.alloc (.cells #[.pointer (some ⟨ge, 0, none⟩), .pointer (some ⟨gm, 0, none⟩)] 41)) ge gm lv (.slice none 0 0) [] [] :=
    hp.move hfa (fun k e => e.elim (fun e => ⟨by omega, .inl e⟩) (fun e => ⟨by omega, .inr (by omega)⟩)) (.inl hp.kin)
  have hf1 : Fresh w (w2.alloc (.cells #[.pointer (some ⟨ge, 0, none⟩), .pointer (some ⟨gm, 0, none⟩)] 41)) := hf.trans hfa (fun _ _ h => h)
  have HP := Lib.hid (And.intro h1 (And.intro hbx hf1))
  have Hs := Lib.hid hs2
  clear hp hf HN h1 hbx hf1 hfa hsz hs2
  go_wp2_with fail
  generalize (w2.alloc (.cells #[.pointer (some ⟨ge, 0, none⟩), .pointer (some ⟨gm, 0, none⟩)] 41)) = w3 at *
  generalize w2.heap.size = b0 at *
  go_loopw [21] (fun i wr => ∃ (a : Nat) (v : Value), a ≤ n ∧ i = .int .i64 a ∧ PkA (fun k => k < w.heap.size ∨ k = b0) wr ge gm lv v (bbs (xs.take a)) (bbs (xs.take a)) ∧ Blk wr b0 41 #[.pointer (some ⟨ge, 0, none⟩), .pointer (some ⟨gm, 0, none⟩)] ∧ Fresh w wr) (fun i _ => (n - intOf i).toNat)
  case atStart => exact ⟨0, _, by omega, rfl, by simpa [bbs] using HP.out.1, HP.out.2.1, HP.out.2.2⟩
  case round =>
    obtain ⟨a, v, ha, rfl, hp, hbx, hf⟩ := hrel
    have c0 := hbx.cell 0
    have c1 := hbx.cell 1
    simp only [List.getElem?_toArray, List.getElem?_cons_zero, List.getElem?_cons_succ] at c0 c1
    by_cases hlt : a < n
    · have a0 : (a : Int) < (n : Int) := by omega
      obtain ⟨b1, o1, rfl, hb1, hc1⟩ := HR.out.at_ a hlt
      have hc2 : wr.cell? ⟨b1, o1 + a, none⟩ = some (.int .u8 (xs.getD a 0)) := (hf.cell (p := ⟨b1, o1 + a, none⟩) hb1 id).trans hc1
      obtain ⟨x, hx⟩ := Int.eq_ofNat_of_zero_le (hb a).1
      have hx8 : x < 256 := by have := (hb a).2; omega
      rw [hx] at hc2
      have hnx : bbs (xs.take a) ++ bb x = bbs (xs.take (a + 1)) := by
        have := sofar_byte (xs := xs) (a := a) (by omega)
        rw [sofar_zero] at this
        rw [← this]
        unfold sofar
        rw [bb_all, hx]
        rfl
      have hsl : (bbs (xs.take a)).length ≤ 99999900 := by rw [bbs_len, List.length_take]; omega
      have HN := Lib.hid hnx
      have HB := Lib.hid (cPut_any _ ge gm lv v (bbs (xs.take a)) x wr hp hsl hx8)
      have HX := Lib.hid (And.intro hbx hf)
      clear hp hbx hf hc1 hnx hsl
      go_wp2_with fail
      refine HB.out.mono ?_
      rintro e5 w5 ⟨rfl, u, hp5, hk5⟩
      rw [HN.out] at hp5
      have HP5 := Lib.hid (And.intro hp5 (And.intro (HX.out.1.kept hk5 (fun e => e (.inr rfl))) (HX.out.2.trans hk5 (fun k hk e => e (.inl hk)))))
      clear hp5 hk5 HB HX c0 c1 hc2
      go_wp2_with fail
      go_roundw
      case rel => exact ⟨a + 1, _, by omega, by go_num, HP5.out.1, HP5.out.2.1, HP5.out.2.2⟩
      case measure => simp [intOf]; omega
    · obtain rfl : a = n := by omega
      have a0 : ¬ (a : Int) < (a : Int) := by omega
      rw [show xs.take a = xs from by rw [← hlen]; exact List.take_length] at hp
      have HF := Lib.hid (hp.flush (by rw [bbs_len]; omega))
      have HX := Lib.hid hf
      clear HP hp hbx hf
      go_wp2_with fail
      refine HF.out.mono ?_
      rintro e w7 ⟨u, rfl, ho, hu, hk⟩
      have H7 : Hid (NewRow w w7 5 .u8 u (packB lv (bbs xs))) := Lib.hid ⟨ho, fun k e => Nat.le_of_not_lt fun h => hu k (.inl h) e, HX.out.trans hk (fun k hk e => e (.inl hk))⟩
      clear ho hu hk HF HX
      go_wp2_with fail
      refine bodyPost_ret (results_tmp2 rfl _ _ _) rfl ?_
      exact ⟨u, rfl, H7.out⟩

set_option maxHeartbeats 800000 in
/-- Pack, where it refuses. -/
theorem cPack_not (A : Option Addr) (n c : Nat) (lv : Int) (w : World) (h : lv < 0 ∨ 3 ≤ lv ∨ 1048576 < (n : Int)) :
    Calls Tryd.prog 10 #[.slice A n c, .int .i64 lv] w fun e w' => e = .returned (.tuple #[.slice none 0 0, .int .i64 (if lv < 0 ∨ 3 ≤ lv then 1 else 5)]) ∧ w = w' := by
  have HAl := Lib.hid (allowed_any (n : Int) lv w)
  have e : (if lv < 0 ∨ 3 ≤ lv ∨ (n : Int) < 0 then (1 : Int) else if 1048576 < (n : Int) then 5 else 0) = (if lv < 0 ∨ 3 ≤ lv then 1 else 5) := by
    split <;> split <;> omega
  rw [e] at HAl
  have hne : (if lv < 0 ∨ 3 ≤ lv then (1 : Int) else 5) ≠ 0 := by split <;> omega
  generalize (if lv < 0 ∨ 3 ≤ lv then (1 : Int) else 5) = r at *
  clear e h
  go_enter Tryd.func10, Tryd.ntmps10
  go_wp2_with fail
  refine HAl.out.mono ?_
  rintro e w1 ⟨rfl, rfl⟩
  clear HAl
  go_wp2_with fail
  refine bodyPost_ret (results_tmp2 rfl _ _ _) rfl ?_
  exact ⟨rfl, rfl⟩

end Go.Proofs.YtpknbfkknnaajaaDoor

/- What is unpacked: plain mathematics. -/
namespace Go.Proofs.YtpknbfkknnaajaaDoor
set_option maxRecDepth 100000

theorem ofB_lt : ∀ (L : List Bool) (a : Nat), ofB a L + 1 ≤ (a + 1) * 2 ^ L.length
  | [], a => by simp [ofB]
  | one :: r, a => by
    have h := ofB_lt r (a * 2 + one.toNat)
    have h2 : one.toNat ≤ 1 := by cases one <;> decide
    have h3 : (a * 2 + one.toNat + 1) * 2 ^ r.length ≤ ((a + 1) * 2) * 2 ^ r.length := Nat.mul_le_mul_right _ (by omega)
    show ofB (a * 2 + one.toNat) r + 1 ≤ (a + 1) * 2 ^ (r.length + 1)
    rw [Nat.pow_succ, Nat.mul_comm (2 ^ r.length) 2, ← Nat.mul_assoc]
    omega
theorem ofB_byte {L : List Bool} (h : L.length ≤ 8) : ofB 0 L < 256 := by
  have h1 := ofB_lt L 0
  have h2 : 2 ^ L.length ≤ 2 ^ 8 := Nat.pow_le_pow_right (by omega) h
  omega
theorem ofB_half {L : List Bool} (h : L.length ≤ 7) : ofB 0 L < 128 := by
  have h1 := ofB_lt L 0
  have h2 : 2 ^ L.length ≤ 2 ^ 7 := Nat.pow_le_pow_right (by omega) h
  omega
theorem bb_ofB8 : ∀ a b c d e f g h : Bool, bb (ofB 0 [a, b, c, d, e, f, g, h]) = [a, b, c, d, e, f, g, h] := by decide +kernel
theorem bb_ofB {L : List Bool} (h : L.length = 8) : bb (ofB 0 L) = L := by
  match L, h with
  | [a, b, c, d, e, f, g, i], _ => exact bb_ofB8 a b c d e f g i

theorem decT_take (lv : Nat) (F : List Int) (t : Nat) : ∀ j, (decT lv F (t + j)).L.take t = (decT lv F t).L
  | 0 => by
    rw [Nat.add_zero]
    exact List.take_of_length_le (by rw [decT_len]; omega)
  | j + 1 => by
    rw [← Nat.add_assoc, decT_succ, DS.step, DS.by_L, List.take_append_of_le_length (by rw [decT_len]; omega)]
    exact decT_take lv F t j
/-- The bits behind the first t, of j more. -/
def moreB (lv : Nat) (F : List Int) (t j : Nat) : List Bool := (decT lv F (t + j)).L.drop t
theorem moreB_zero (lv : Nat) (F : List Int) (t : Nat) : moreB lv F t 0 = [] := by
  unfold moreB
  exact List.drop_eq_nil_of_le (by rw [decT_len]; omega)
theorem moreB_succ (lv : Nat) (F : List Int) (t j : Nat) : moreB lv F t (j + 1) = moreB lv F t j ++ [(decT lv F (t + j)).one lv F] := by
  unfold moreB
  rw [← Nat.add_assoc, decT_succ, DS.step, DS.by_L, List.drop_append_of_le_length (by rw [decT_len]; omega)]
theorem moreB_len (lv : Nat) (F : List Int) (t j : Nat) : (moreB lv F t j).length = j := by
  unfold moreB
  rw [List.length_drop, decT_len]; omega
theorem decT_more (lv : Nat) (F : List Int) (t j : Nat) : (decT lv F (t + j)).L = (decT lv F t).L ++ moreB lv F t j := by
  conv => lhs; rw [← List.take_append_drop t (decT lv F (t + j)).L]
  rw [decT_take]
  rfl

/-- The bytes that are told. -/
def outB (lv : Nat) (F : List Int) : Nat → List Int
  | 0 => []
  | i + 1 => outB lv F i ++ [((ofB 0 (moreB lv F (8 * i) 8) : Nat) : Int)]
theorem outB_len (lv : Nat) (F : List Int) : ∀ i, (outB lv F i).length = i
  | 0 => rfl
  | i + 1 => by simp [outB, outB_len lv F i]
theorem outB_byte (lv : Nat) (F : List Int) : ∀ i, ∀ x ∈ outB lv F i, 0 ≤ x ∧ x < 256
  | 0 => fun x hx => by cases hx
  | i + 1 => fun x hx => by
    rcases List.mem_append.1 hx with hx | hx
    · exact outB_byte lv F i x hx
    · have h := ofB_byte (L := moreB lv F (8 * i) 8) (by rw [moreB_len]; omega)
      obtain rfl : x = _ := List.mem_singleton.1 hx
      omega
theorem outB_bits (lv : Nat) (F : List Int) : ∀ i, bbs (outB lv F i) = (decT lv F (8 * i)).L
  | 0 => by rw [Nat.mul_zero, decT]; rfl
  | i + 1 => by
    rw [outB, bbs_app, outB_bits lv F i, show 8 * (i + 1) = 8 * i + 8 by omega, decT_more, Int.toNat_natCast, bb_ofB (by rw [moreB_len])]

/-- Of that text it is the pack. -/
def okB (lv : Nat) (F : List Int) (n : Nat) : Prop := F = packB lv (decT lv F (8 * n)).L
instance (lv : Nat) (F : List Int) (n : Nat) : Decidable (okB lv F n) := by unfold okB; infer_instance

theorem encAll_app : ∀ (L M : List (Bool × Nat)) (l h : Nat), ∃ r, (encAll (L ++ M) l h).1 = (encAll L l h).1 ++ r
  | [], M, l, h => ⟨(encAll M l h).1, by simp [encAll]⟩
  | (one, k) :: L, M, l, h => by
    obtain ⟨r, e⟩ := encAll_app L M (enc1 one l h k).2.1 (enc1 one l h k).2.2
    refine ⟨r, ?_⟩
    simp only [List.cons_append, encAll]
    rw [e, List.append_assoc]
theorem pairs_app (lv : Nat) : ∀ (L M : List Bool) (m : Mo), pairs lv (L ++ M) m = pairs lv L m ++ pairs lv M (mos lv L m)
  | [], _, _ => rfl
  | one :: r, M, m => by
    show (one, _) :: pairs lv (r ++ M) _ = (one, _) :: (pairs lv r _ ++ pairs lv M _)
    rw [pairs_app lv r M]
    rfl
/-- While a pack is unpacked no byte past its end is taken. -/
theorem ok_past {lv : Nat} {F : List Int} {t n : Nat} (h : okB lv F n) (ht : t ≤ 8 * n) : (decT lv F t).p + 4 ≤ F.length := by
  have e := (decT_enc lv F t).p
  have hl : F.length = (packB lv (decT lv F (8 * n)).L).length := congrArg List.length h
  rw [packB_len] at hl
  obtain ⟨j, hj⟩ : ∃ j, 8 * n = t + j := ⟨8 * n - t, by omega⟩
  rw [hj, decT_more] at hl
  obtain ⟨r, hr⟩ := encAll_app (pairs lv (decT lv F t).L mo0) (pairs lv (moreB lv F t j) (mos lv (decT lv F t).L mo0)) 0 4294967295
  rw [← pairs_app] at hr
  have h2 : (encS lv ((decT lv F t).L ++ moreB lv F t j)).1 = (encS lv (decT lv F t).L).1 ++ r := hr
  rw [h2, List.length_append] at hl
  omega

theorem bbs_inj : ∀ {xs ys : List Int}, (∀ x ∈ xs, 0 ≤ x ∧ x < 256) → (∀ x ∈ ys, 0 ≤ x ∧ x < 256) → xs.length = ys.length → bbs xs = bbs ys → xs = ys
  | [], [], _, _, _, _ => rfl
  | x :: xs, y :: ys, hx, hy, hl, h => by
    have h0 := hx x (by simp)
    have h1 := hy y (by simp)
    have h2 : bb x.toNat ++ bbs xs = bb y.toNat ++ bbs ys := h
    obtain ⟨h3, h4⟩ := List.append_inj h2 (by rw [bb_len, bb_len])
    have h5 : x.toNat = y.toNat := by rw [← ofB_bb (x := x.toNat) (by omega), h3, ofB_bb (x := y.toNat) (by omega)]
    rw [show x = y by omega, bbs_inj (fun z hz => hx z (by simp [hz])) (fun z hz => hy z (by simp [hz])) (by simpa using hl) h4]

/-- What is packed is unpacked. -/
theorem ok_pack {lv : Nat} {xs : List Int} (hb : ∀ x ∈ xs, 0 ≤ x ∧ x < 256) : okB lv (packB lv (bbs xs)) xs.length ∧ outB lv (packB lv (bbs xs)) xs.length = xs := by
  have h := dec_pack_all lv (bbs xs)
  rw [bbs_len] at h
  have h2 := outB_bits lv (packB lv (bbs xs)) xs.length
  rw [h] at h2
  refine ⟨?_, ?_⟩
  · unfold okB
    rw [h]
  · exact bbs_inj (outB_byte lv _ _) hb (by rw [outB_len]) h2
end Go.Proofs.YtpknbfkknnaajaaDoor

/- The contract of coder.Decoder's Past (a seat in which nothing calls it has no body of it). -/
namespace Go.Proofs.YtpknbfkknnaajaaDoor
set_option maxRecDepth 100000
open Go.RowKit

attribute [local go_sem ↓] Go.wp_at_zero Go.wp_at_succ

set_option maxHeartbeats 800000 in
theorem past_any (g l h : Nat) (A : Option Addr) (c : Nat) (bs : List Int) (x p : Nat) (w : World) (d : DecC w g l h A c bs x p) (hp : p ≤ 1000000000) :
    Calls Tryd.prog 30 #[.pointer (some ⟨g, 0, none⟩)] w fun e w' => e = .returned (.int .i64 (pastN bs p)) ∧ ∃ n, w' = w.drewN n := by
  have c2 : w.cell? ⟨g, 2, none⟩ = some (.slice A bs.length c) := by simpa [cC] using d.blk.cell 2
  have c4 : w.cell? ⟨g, 4, none⟩ = some (.int .i64 p) := by simpa [cC] using d.blk.cell 4
  have hsm := d.small
  clear d
  have e1 : IntKind.i64.wrap (4 + (p : Int)) = 4 + (p : Int) := IntWalk.i64_in _ (by omega)
  have e2 : IntKind.i64.wrap (4 + (p : Int) - bs.length) = 4 + (p : Int) - bs.length := IntWalk.i64_in _ (by omega)
  go_enter Tryd.func30, Tryd.ntmps30
  go_wp2
  go_quiet (fail)
  go_wp2
  go_ret
  exact ⟨rfl, _, rfl⟩

end Go.Proofs.YtpknbfkknnaajaaDoor
