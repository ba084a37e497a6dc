/- The document's numbers in bytes: Little; its reader: New, Left, Raw, Little. -/
import Derived.Test.YtodmchjdflpbpaaGreatZeros
import Derived.Test.YtodmchjdflpbpaaGreatNumMath
import Derived.Lib.MinMax
import Derived.Deep.DrawnRows
import Derived.StillTailTactics
import Derived.Test.YtodmchjdflpbpaaGreatCut
namespace Go.Proofs.YtodmchjdflpbpaaGreat
open Go.RowKit
set_option maxRecDepth 100000

attribute [local go_sem ↓] Go.wp_at_zero Go.wp_at_succ

theorem Tryz.infoByteQ : (Tryz.prog.info? 5).map (fun i => (i.zero, i.size, i.bytes)) = some (some (.int .u8 0), 1, 1) := by kernel_rfl

theorem leBytes_succ (v k : Nat) : leBytes v (k + 1) = leBytes v k ++ [((v / 256 ^ k % 256 : Nat) : Int)] := by simp [leBytes, List.range_succ]

set_option maxHeartbeats 800000 in
/-- The lowest n bytes of a number. -/
theorem qLit_any (v n : Nat) (w : World) (hn : n ≤ 8) :
    Calls Tryz.prog 26 #[.int .u64 v, .int .i64 n] w fun e w' => ∃ u, e = .returned u ∧ NewRow w w' 5 .u8 u (leBytes v n) := by
  obtain ⟨i0, hi, hz0, hz1, hz2⟩ := info_parts Tryz.infoByteQ
  have n0 : (0 : Int) ≤ (n : Int) := by omega
  have n1 : (n : Int) ≤ 8 := by omega
  have hmin : min (n : Int) 8 = (n : Int) := by omega
  have hmax : max (0 : Int) (n : Int) = (n : Int) := by omega
  go_enter Tryz.func26, Tryz.ntmps26
  go_wp2_with fail
  go_loopw [6, 5] (fun i u wr => ∃ k : Nat, k ≤ n ∧ i = .int .i64 k ∧ NewRow w wr 5 .u8 u (leBytes v k)) (fun i _ _ => (n - intOf i).toNat)
  case atStart => exact ⟨0, by omega, rfl, Own.nil _ _ _, fun k e => (by cases e), Kept.refl _ _⟩
  case round =>
    obtain ⟨k, hk, rfl, hown, hnew, hf⟩ := hrel
    have HN := Lib.hid (And.intro hown (And.intro hnew hf))
    clear hown hnew hf
    by_cases hlt : k < n
    · have k0 : (k : Int) < (n : Int) := by omega
      have hs := leBytes_succ v k
      have e2 : (2 : Nat) ^ (8 * k) = 256 ^ k := by rw [Nat.pow_mul]
      have hb : ((v : Int) / 2 ^ (8 * k)) % 256 = ((v / 256 ^ k % 256 : Nat) : Int) := by rw [← e2]; simp
      have Hs := Lib.hid (And.intro hs hb)
      have hlen := leBytes_length v k
      have hlen' : (leBytes v k).length = k := hlen
      generalize hx : leBytes v k = xs at *
      have hx8 : xs.length ≤ 8 := by omega
      have HL := Lib.hid (And.intro hlen hx)
      clear hs hb hlen hlen' e2 hx
      go_wp2_with (at_builtin; refine wpList_app _ rfl _ _ 22 rfl 5 i0 .u8 1 Tryz.underlying22 hi hz0 hz1 hz2 _ xs rfl (HN.out.1.alloc _) _ 1 1 [_] rfl (Row.one _ _ _ _) (by unfold maxLen; omega) (by omega) ?_)
      intro v9 w9 ho9 hg9 hat9
      have hk9 : Fresh w w9 := (HN.out.2.2.alloc _).grown hg9 (fun j e hj => absurd (HN.out.2.1 j e) (by omega))
      have H9 : Hid (NewRow w w9 5 .u8 v9 (leBytes v (k + 1))) := by
        refine Lib.hid ⟨?_, fun j e => ?_, hk9⟩
        · rw [Hs.out.1, ← Hs.out.2]
          exact ho9
        · rcases hat9 with e2 | e2
          · exact HN.out.2.1 j (e2 ▸ e)
          · rw [e2] at e
            injection e with e
            have := HN.out.2.2.size
            omega
      clear ho9 hg9 hat9 hk9 HN Hs
      go_wp2_with fail
      go_roundw
      case rel => exact ⟨k + 1, by omega, by go_num, H9.out⟩
      case measure => simp [intOf]; omega
    · obtain rfl : k = n := by omega
      go_wp2_with fail
      go_ret
      exact ⟨_, rfl, HN.out⟩

/-- A reader of the document's at block g: bytes, a place, the first fault. -/
structure QN (w : World) (g : Nat) (A : Option Addr) (c : Nat) (bs : List Int) (p : Nat) (err : Int) : Prop where
  blk : Blk w g 101 #[.slice A bs.length c, .int .i64 p, .int .i64 err]
  row : Row w .u8 A bs.length bs
  byte : ∀ x ∈ bs, 0 ≤ x ∧ x < 256
  le : p ≤ bs.length
  cap : bs.length ≤ c
  small : bs.length ≤ 1000000000
theorem QN.ne_ {w : World} {g : Nat} {A : Option Addr} {c : Nat} {bs : List Int} {p : Nat} {err : Int} (h : QN w g A c bs p err) {b o : Nat} (e : A = some ⟨b, o, none⟩) (h0 : 0 < bs.length) : b ≠ g := by
  rintro rfl
  obtain ⟨b', o', e', _, hc⟩ := h.row.at_ 0 h0
  rw [e] at e'
  injection e' with e'
  injection e' with e1 e2
  subst e1 e2
  rw [h.blk.cell] at hc
  rcases Nat.lt_or_ge (o + 0) 3 with h3 | h3
  · obtain h4 | h4 | h4 : o = 0 ∨ o = 1 ∨ o = 2 := by omega
    all_goals
      subst h4
      simp at hc
  · rw [Array.getElem?_eq_none (by simpa using h3)] at hc
    cases hc
theorem QN.kept {S : Nat → Prop} {w w' : World} {g : Nat} {A : Option Addr} {c : Nat} {bs : List Int} {p : Nat} {err : Int} (h : QN w g A c bs p err) (hk : Kept S w w') (hg : ¬ S g) (hA : ∀ b o, A = some ⟨b, o, none⟩ → 0 < bs.length → ¬ S b) : QN w' g A c bs p err :=
  ⟨h.blk.kept hk hg, h.row.kept hk hA, h.byte, h.le, h.cap, h.small⟩
/-- The next n bytes, the place behind them, the fault. -/
def qtk (bs : List Int) (p : Nat) (err : Int) (n : Nat) : List Int × Nat × Int :=
  if err ≠ 0 then ([], p, err) else if n ≤ bs.length - p then ((bs.drop p).take n, p + n, 0) else ([], p, 3)
theorem qtk_len (bs : List Int) (p : Nat) (err : Int) (n : Nat) : (qtk bs p err n).1.length ≤ n ∧ (qtk bs p err n).1.length ≤ bs.length := by
  unfold qtk
  split
  · simp
  split
  · simp; omega
  · simp
theorem qtk_byte {bs : List Int} (p : Nat) (err : Int) (n : Nat) (h : ∀ c ∈ bs, 0 ≤ c ∧ c < 256) : ∀ c ∈ (qtk bs p err n).1, 0 ≤ c ∧ c < 256 := by
  unfold qtk
  split
  · simp
  split
  · intro c hc
    exact h c (List.mem_of_mem_drop (List.mem_of_mem_take hc))
  · simp

set_option maxHeartbeats 800000 in
theorem qnNew_any (A : Option Addr) (n c : Nat) (xs : List Int) (w : World) (hr : Row w .u8 A n xs) (hb : ∀ x ∈ xs, 0 ≤ x ∧ x < 256) (hn : n ≤ 1000000000) :
    Calls Tryz.prog 40 #[.slice A n c] w fun e w' => ∃ g B d, e = .returned (.pointer (some ⟨g, 0, none⟩)) ∧ QN w' g B d xs 0 0 ∧ w.heap.size ≤ g ∧ (∀ b o, B = some ⟨b, o, none⟩ → w.heap.size ≤ b) ∧ Fresh w w' := by
  obtain ⟨i0, hi, hz0, hz1, hz2⟩ := info_parts Tryz.infoByteQ
  have HR := Lib.hid (And.intro hr (And.intro hb hn))
  obtain rfl := hr.len
  clear hr hb
  go_enter Tryz.func40, Tryz.ntmps40
  go_wp2_with (at_builtin; refine wpList_app _ rfl _ _ 22 rfl 5 i0 .u8 1 Tryz.underlying22 hi hz0 hz1 hz2 (.slice none 0 0) [] rfl (Own.nil _ _ _) A xs.length c xs rfl HR.out.1 (by unfold maxLen; simp; omega) (by simp; omega) ?_)
  intro v' w1 hown hg hat
  have hcap0 := hown
  obtain ⟨B, d, rfl, hr, hB⟩ := hown.row
  have hcap := hcap0.cap
  have hk : Fresh w w1 := (Kept.refl _ _).grown hg (fun k e _ => by cases e)
  have hBl : ∀ b o, B = some ⟨b, o, none⟩ → w.heap.size ≤ b := by
    intro b o e
    have := hB b o e
    rcases hat with e' | e'
    · rw [e'] at this; cases this
    · rw [e'] at this; injection this with this; omega
  have Hb := Lib.hid hBl
  clear hown hB hg hat hBl hcap0
  go_wp2
  go_ret
  have hr' := hr.kept ((Kept.refl (fun _ => False) _).alloc (.cells #[.slice B xs.length d, .int .i64 0, .int .i64 0] 101)) (fun _ _ _ _ => id)
  exact ⟨w1.heap.size, B, d, rfl, ⟨Blk.new _ _ _, hr', HR.out.2.1, by omega, by simpa using hcap, HR.out.2.2⟩, hk.size, Hb.out, hk.alloc _⟩

/-- What a reading of bytes leaves. -/
def QText (g : Nat) (A : Option Addr) (c : Nat) (bs : List Int) (w : World) (r : List Int × Nat × Int) (e : Ending) (w' : World) : Prop :=
  ∃ u, e = .returned u ∧ Own w' 5 .u8 u r.1 ∧ (∀ k, u.ownBlock = some k → w.heap.size ≤ k) ∧ QN w' g A c bs r.2.1 r.2.2 ∧ Kept (fun k => k = g) w w'

set_option maxHeartbeats 1600000 in
theorem qnRaw_any (g : Nat) (A : Option Addr) (c : Nat) (bs : List Int) (p : Nat) (err : Int) (n : Int) (w : World) (h : QN w g A c bs p err) (hn : n ≤ 9223372036854775807) :
    Calls Tryz.prog 54 #[.pointer (some ⟨g, 0, none⟩), .int .i64 n] w (QText g A c bs w (qtk bs p err n.toNat)) := by
  obtain ⟨i0, hi, hz0, hz1, hz2⟩ := info_parts Tryz.infoByteQ
  have hmax : max n 0 = ((n.toNat : Nat) : Int) := by omega
  have hmle : ((n.toNat : Nat) : Int) ≤ 9223372036854775807 := by omega
  generalize n.toNat = m at *
  have HM := Lib.hid hmax
  have c0 := h.blk.cell 0
  have c1 := h.blk.cell 1
  have c2 := h.blk.cell 2
  simp only [List.getElem?_toArray, List.getElem?_cons_zero, List.getElem?_cons_succ] at c0 c1 c2
  have f1 := h.blk.frozen 1
  have f2 := h.blk.frozen 2
  have hle := h.le
  have hsm := h.small
  have hcap := h.cap
  have l0 : (p : Int) ≤ (bs.length : Int) := by omega
  have l1 : (bs.length : Int) ≤ 1000000000 := by omega
  have H := Lib.hid h
  clear h hmax
  by_cases he : err = 0
  · subst he
    by_cases hlt : m ≤ bs.length - p
    · have hq : qtk bs p 0 m = ((bs.drop p).take m, p + m, 0) := by unfold qtk; rw [if_neg (by simp), if_pos hlt]
      rw [hq]
      have m0 : ¬ (bs.length : Int) - (p : Int) < (m : Int) := by omega
      have m1 : (p : Int) + (m : Int) ≤ 1000000000 := by omega
      have e1 : (p : Int) + (m : Int) - (m : Int) = (p : Int) := by omega
      have hsl : ∀ W, (Instr.slice 22 (.slice A bs.length c) (some (.int .i64 (p : Int))) (some (.int .i64 ((p : Int) + m))) none).run Tryz.prog W = .ok (.slice (cutAt A p c) m (c - p)) W := fun W => by
        have := run_slice_part 22 5 Tryz.underlying22 (fun w => by simp [sizeOf, typeInfo, hi, hz1]) A bs.length c p (p + m) ((p : Int) + m) (by omega) (by omega) (by omega) W
        rw [this, Nat.add_sub_cancel_left]
      have Hsz := Lib.hid (show ((bs.drop p).take m).length = m from by simp; omega)
      obtain ⟨W, hW⟩ : ∃ W : World, W = (w.setCell ⟨g, 1, none⟩ (.int .i64 ((p : Int) + m))).drew := ⟨_, rfl⟩
      have c0' : W.cell? ⟨g, 0, none⟩ = some (.slice A bs.length c) := by rw [hW]; exact (World.cell?_setCell_other _ _ _ _ (by simp)).trans c0
      have hb2 : Blk W g 101 #[.slice A bs.length c, .int .i64 ((p : Int) + m), .int .i64 0] := by rw [hW]; simpa using (H.out.blk.set_ 1 (.int .i64 ((p : Int) + m))).drew
      have hk0 : Kept (fun k => k = g) w W := by rw [hW]; exact ((Kept.refl (fun k => k = g) w).setCell (p := ⟨g, 1, none⟩) (fun _ => rfl) _).drew
      have c1' := hb2.cell 1
      simp only [List.getElem?_toArray, List.getElem?_cons_succ, List.getElem?_cons_zero] at c1'
      have hq2 : QN W g A c bs (p + m) 0 := ⟨by simpa using hb2, H.out.row.kept hk0 (fun b o e h0 e2 => H.out.ne_ e h0 e2), H.out.byte, by omega, hcap, hsm⟩
      have H2 := Lib.hid (And.intro hq2 hk0)
      clear hq2 hk0
      clear hq hb2
      go_enter Tryz.func54, Tryz.ntmps54
      go_wp2_with fail
      rw [HM.out]
      go_region
      go_wp2_with fail
      rw [← hW]
      clear hW
      have w1 : IntKind.i64.wrap (p : Int) = (p : Int) := IntWalk.i64_in _ (by omega)
      go_still_tail 15, (by kernel_rfl)
      change wpList _ _ _ _ _ (World.drew _)
      refine wpList_app _ rfl _ _ 22 rfl 5 i0 .u8 1 Tryz.underlying22 hi hz0 hz1 hz2 (.slice none 0 0) [] rfl (Own.nil _ _ _) (cutAt A p c) m (c - p) ((bs.drop p).take m) rfl ((H2.out.1.row.kept ((Kept.refl (fun _ => False) W).drew) (fun _ _ _ _ => id)).cut (by omega) hcap) (by unfold maxLen; simp; omega) (by simp; omega) ?_
      intro v9 w9 ho9 hg9 hat9
      have hk9 : Fresh W.drew w9 := (Kept.refl _ _).grown hg9 (fun j e _ => by cases e)
      have H9 : Hid (QText g A c bs w ((bs.drop p).take m, p + m, 0) (.returned v9) w9) := Lib.hid ⟨v9, rfl, by simpa using ho9, fun j e => by
        rcases hat9 with e2 | e2
        · rw [e2] at e; cases e
        · rw [e2] at e
          injection e with e
          have := H2.out.2.size
          have e3 : W.drew.heap.size = W.heap.size := rfl
          omega, (H2.out.1.kept ((Kept.refl (fun _ => False) W).drew) id (fun _ _ _ _ => id)).kept hk9 id (fun _ _ _ _ => id), (H2.out.2.drew).trans hk9 fun _ _ e => e.elim⟩
      clear ho9 hg9 hat9 hk9
      go_wp2_with fail
      refine bodyPost_ret (results_tmp rfl _ _ _) rfl ?_
      exact H9.out
    · have hq : qtk bs p 0 m = ([], p, 3) := by unfold qtk; rw [if_neg (by simp), if_neg hlt]
      rw [hq]
      have m0 : (bs.length : Int) - (p : Int) < (m : Int) := by omega
      clear hq
      go_enter Tryz.func54, Tryz.ntmps54
      go_wp2_with fail
      rw [HM.out]
      go_region
      go_wp2_with fail
      refine bodyPost_ret (results_tmp rfl _ _ _) rfl ?_
      have hk0 : Kept (fun k => k = g) w (w.setCell ⟨g, 2, none⟩ (.int .i64 3)).drew := ((Kept.refl (fun k => k = g) w).setCell (p := ⟨g, 2, none⟩) (fun _ => rfl) _).drew
      exact ⟨_, rfl, Own.nil _ _ _, fun k e => (by cases e), ⟨by simpa using (H.out.blk.set_ 2 (.int .i64 3)).drew, H.out.row.kept hk0 (fun b o e h0 e2 => H.out.ne_ e h0 e2), H.out.byte, H.out.le, H.out.cap, H.out.small⟩, hk0⟩
  · have hq : qtk bs p err m = ([], p, err) := by unfold qtk; rw [if_pos he]
    rw [hq]
    have hb : (err != 0) = true := by simpa using he
    clear hq he
    go_enter Tryz.func54, Tryz.ntmps54
    go_wp2_with fail
    refine bodyPost_ret (results_tmp rfl _ _ _) rfl ?_
    exact ⟨_, rfl, Own.nil _ _ _, fun k e => (by cases e), H.out, Kept.refl _ _⟩

theorem leNum_cons (x : Int) (r : List Int) : leNum (x :: r) = x.toNat + 256 * leNum r := rfl
theorem leNum_drop {xs : List Int} {i : Nat} (hi : i < xs.length) : leNum (xs.drop i) = (xs.getD i 0).toNat + 256 * leNum (xs.drop (i + 1)) := by
  rw [List.drop_eq_getElem_cons hi, leNum_cons]; simp [List.getD, hi]

theorem q_or_be (acc c : Nat) (ha : acc < 72057594037927936) (hc : c < 256) : bits .or .u64 (IntKind.u64.wrap ((acc : Int) * 256)) (IntKind.u64.wrap (c : Int)) = ((c + 256 * acc : Nat) : Int) := by
  have e1 : IntKind.u64.wrap ((acc : Int) * 256) = ((256 * acc : Nat) : Int) := by rw [IntKind.wrap_u64]; omega
  have e2 : IntKind.u64.wrap (c : Int) = (c : Int) := by rw [IntKind.wrap_u64]; omega
  rw [e1, e2, u64_or_nat _ _ (by omega) (by omega), nat_join 8 (256 * acc) c (by simp) (by omega)]
  omega

set_option maxHeartbeats 1600000 in
theorem qnLittle_any (g : Nat) (A : Option Addr) (c : Nat) (bs : List Int) (p : Nat) (err : Int) (n : Nat) (w : World) (h : QN w g A c bs p err) (hn : n ≤ 8) :
    Calls Tryz.prog 41 #[.pointer (some ⟨g, 0, none⟩), .int .i64 n] w fun e w' => e = .returned (.int .u64 (leNum (qtk bs p err n).1)) ∧ QN w' g A c bs (qtk bs p err n).2.1 (qtk bs p err n).2.2 ∧ Kept (fun k => k = g) w w' := by
  have n0 : (n : Int) ≤ 8 := by omega
  have hmin : min (n : Int) 8 = (n : Int) := by omega
  have HR := Lib.hid (qnRaw_any g A c bs p err n w h (by omega))
  rw [Int.toNat_natCast] at HR
  have hl := (qtk_len bs p err n).1
  have Hb := Lib.hid (qtk_byte p err n h.byte)
  clear h
  generalize qtk bs p err n = r at *
  obtain ⟨xs, p1, e1⟩ := r
  simp only [] at *
  go_enter Tryz.func41, Tryz.ntmps41
  go_wp2_with fail
  refine HR.out.mono ?_
  rintro e w1 ⟨u, rfl, hown, hnew, hq, hk⟩
  simp only [] at hown hq
  obtain ⟨Au, cu, rfl, hrow, _⟩ := hown.row
  have HX := Lib.hid (And.intro hq (And.intro hk hrow))
  clear hown hnew hq hk hrow HR
  obtain ⟨k, hk⟩ : ∃ k, k = xs.length := ⟨_, rfl⟩
  rw [← hk]
  have Hk := Lib.hid hk
  have hk8 : k ≤ 8 := by omega
  clear hk hl
  go_wp2_with fail
  go_loopw [7, 6] (fun i v wr => ∃ j : Nat, j ≤ k ∧ i = .int .i64 ((j : Int) - 1) ∧ v = .int .u64 (leNum (xs.drop j)) ∧ wr = w1) (fun i _ _ => (intOf i + 1).toNat)
  case atStart => exact ⟨k, Nat.le_refl _, rfl, by rw [Hk.out, List.drop_length]; rfl, rfl⟩
  case round =>
    obtain ⟨j, hj, rfl, rfl, rfl⟩ := hrel
    by_cases h0 : j = 0
    · subst h0
      rw [List.drop_zero]
      go_wp2_with fail
      go_ret
      exact ⟨rfl, HX.out.1, HX.out.2.1⟩
    · obtain ⟨i, rfl⟩ : ∃ i, j = i + 1 := ⟨j - 1, by omega⟩
      obtain ⟨b, o, rfl, hbl, hcell⟩ := HX.out.2.2.at_ i (by have := Hk.out; omega)
      have hil : i < xs.length := by have := Hk.out; omega
      have hbd := Hb.out _ (show xs.getD i 0 ∈ xs from by simp [List.getD, hil])
      have hd := leNum_drop hil
      have hlt := leNum_lt (xs.drop (i + 1)) (fun c hc => Hb.out c (List.mem_of_mem_drop hc))
      have hpow : 256 ^ (xs.drop (i + 1)).length ≤ 256 ^ 7 := Nat.pow_le_pow_right (by omega) (by have := Hk.out; rw [List.length_drop]; omega)
      generalize leNum (xs.drop (i + 1)) = acc at *
      generalize xs.getD i 0 = cc at *
      obtain ⟨x, rfl⟩ := Int.eq_ofNat_of_zero_le hbd.1
      rw [Int.toNat_natCast] at hd
      have hor := q_or_be acc x (by omega) (by omega)
      rw [← hd] at hor
      have i0 : (0 : Int) ≤ ((i + 1 : Nat) : Int) - 1 := by omega
      have i1 : (((i + 1 : Nat) : Int) - 1) = (i : Int) := by omega
      rw [i1]
      have i2 : (0 : Int) ≤ (i : Int) := by omega
      have i3 : (i : Int) < (k : Int) := by omega
      clear hd hlt hpow hbd
      go_wp2_with fail
      go_roundw
      case rel => exact ⟨i, by omega, rfl, rfl, trivial⟩
      case measure => simp [intOf]

end Go.Proofs.YtodmchjdflpbpaaGreat
