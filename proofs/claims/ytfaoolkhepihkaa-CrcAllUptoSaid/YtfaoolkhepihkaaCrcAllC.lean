/- The contracts of crc.All and of the document's table; two tables held against each other. -/
import Derived.Test.YtfaoolkhepihkaaCrcRef
import Derived.Test.YtfaoolkhepihkaaTexts
import Derived.ChangeKeysEq
namespace Go.Proofs.Ytfaoolkhepihkaa
open Go.RowKit

set_option maxRecDepth 100000 in
set_option maxHeartbeats 1600000 in
theorem refTable_any (w : World) : Calls Try.prog 18 #[] w fun e w' => e = .returned (.agg (tabC 256)) ∧ Fresh w w' := by
  obtain ⟨hzero, hsize⟩ := zero_of_info Try.infoTab
  go_enter Try.func18, Try.ntmps18
  go_wp2_with fail
  have h0 := (Blk.new w 37 (tabC 0)).alloc (.cells (tabC 0) 37)
  have h1 := Blk.new (w.alloc (.cells (tabC 0) 37)) 37 (tabC 0)
  have hk : Fresh w ((w.alloc (.cells (tabC 0) 37)).alloc (.cells (tabC 0) 37)) := ((Kept.refl _ _).alloc _).alloc _
  have es : (w.alloc (.cells (tabC 0) 37)).heap.size = w.heap.size + 1 := by simp
  rw [es] at h1
  generalize (w.alloc (.cells (tabC 0) 37)).alloc (.cells (tabC 0) 37) = W0 at *
  have H0 := Lib.hid (And.intro h0 (And.intro h1 hk))
  clear h0 h1 hk es hzero hsize
  go_loopw [2] (fun i wr => ∃ j : Nat, j ≤ 256 ∧ i = .int .i64 j ∧ Blk wr w.heap.size 37 (tabC 0) ∧ Blk wr (w.heap.size + 1) 37 (tabC j) ∧ Fresh w wr) (fun i _ => (256 - intOf i).toNat)
  case atStart => exact ⟨0, by omega, rfl, H0.out⟩
  case round =>
    obtain ⟨j, hj, rfl, hb0, hb1, hk⟩ := hrel
    clear H0
    by_cases hlt : j < 256
    · have hc := hb1.cell j
      rw [tabC_at hlt] at hc
      have hf := hb1.frozen j
      have H := Lib.hid (And.intro hb0 (And.intro hb1 hk))
      have HC := Lib.hid (And.intro hc hf)
      clear hb0 hb1 hk hc hf
      have hi0 : (0 : Int) ≤ (j : Int) := by omega
      have hi1 : (j : Int) < 256 := by omega
      go_wp2_with fail
      go_loop [3, 4] (fun s i => ∃ k : Nat, k ≤ 8 ∧ i = .int .i64 k ∧ s = .int .u32 (itn k j : Nat)) (fun _ i => (8 - intOf i).toNat)
      case atStart => exact ⟨0, by omega, rfl, rfl⟩
      case round =>
        obtain ⟨k, hkk, rfl, rfl⟩ := hrel
        by_cases hlt2 : k < 8
        · have hs := itn_lt (s := j) (by omega) k
          have hst : itn (k + 1) j = st (itn k j) := rfl
          generalize itn k j = s at *
          have Hst := Lib.hid hst
          clear hst
          by_cases ho : s % 2 = 1
          · have hb := u32_is_odd hs ho
            go_wp2_with fail
            go_round
            case rel => exact ⟨k + 1, by omega, by go_num, by rw [Hst.out, st_odd_int hs ho]⟩
            case measure => simp [intOf]; omega
          · have hb := u32_is_even hs (by omega)
            go_wp2_with fail
            go_round
            case rel => exact ⟨k + 1, by omega, by go_num, by rw [Hst.out, st_even_int (by omega)]⟩
            case measure => simp [intOf]; omega
        · obtain rfl : k = 8 := by omega
          obtain ⟨hc, hf⟩ := HC.out
          go_wp2_with fail
          go_roundw
          case rel => exact ⟨j + 1, by omega, by go_num, H.out.1.far (by simp) _, by rw [← tabC_set]; exact H.out.2.1.set_ _ _, H.out.2.2.setCell (fun h => by simp at h; omega) _⟩
          case measure => simp [intOf]; omega
    · have hl := run_load_tab hb1
      have hs := run_store_tab (j := j) hb0
      have hb2 := hb0.setRow (cs' := tabC j)
      have hk2 : Fresh w (wr.setRow w.heap.size (tabC j)) := hk.setRow _ (by omega)
      have H := Lib.hid (And.intro hb2 hk2)
      have HL := Lib.hid (And.intro hl hs)
      have hi1 : ¬ (j : Int) < 256 := by omega
      clear hb2 hk2 hb0 hb1 hk hl hs
      generalize wr.setRow w.heap.size (tabC j) = W2 at *
      go_wp2_with (first
        | (refine wpList_load_by rfl (.tmp 1) 37 rfl _ _ rfl HL.out.1 ?_)
        | (refine wpList_store_by rfl (.tmp 0) (.tmp 27) 37 rfl _ _ rfl rfl HL.out.2 ?_))
      have hlv := run_loadVar_tab H.out.1
      obtain rfl : j = 256 := by omega
      refine bodyPost_ret (v := .agg (tabC 256)) ?_ rfl ⟨rfl, H.out.2⟩
      simp only [results, Try.results18, Sem.run_bind, asAddr, Result.andThen]
      simp [hlv]

set_option maxHeartbeats 1600000 in
theorem all_any (P : Option Addr) (m c : Nat) (L : List (List Int)) (w : World) (hp : Parts w P m L (fun b => w.heap.size ≤ b)) (hL : ∀ l ∈ L, ∀ x ∈ l, 0 ≤ x ∧ x < 256) (hl : L.flatten.length ≤ 1048576) (hm : m ≤ 60) :
    Calls Try.prog 16 #[.slice P m c] w fun e w' => e = .returned (.int .u32 (crcOf 0 L.flatten : Nat)) ∧ Fresh w w' := by
  obtain ⟨hzero, hsize⟩ := zero_of_info Try.infoTab
  have HT : Hid (∀ w, Calls Try.prog 17 #[] w fun e w' => e = .returned (.agg (tabC 256)) ∧ Fresh w w') := Lib.hid table_any
  have HY := Lib.hid lay_tab
  have HB : Hid (∀ g sum A n c xs w, sum < 4294967296 → Blk w g 37 (tabC 256) → Row w .u8 A n xs → Byt xs → n ≤ 281474976710656 → Calls Try.prog 19 #[.pointer (some ⟨g, 0, none⟩), .int .u32 ((sum : Nat) : Int), .slice A n c] w fun e w' => e = .returned (.int .u32 (crcOf sum xs : Nat)) ∧ w' = w) :=
    Lib.hid (fun g sum A n c xs w hs h h' hx hn => behind_any g sum A n c xs w hs h h' hx hn)
  generalize tabC 256 = T at *
  generalize tabC 0 = Z at *
  have HP := Lib.hid hp
  have HL := Lib.hid hL
  have Hlen := Lib.hid hp.len
  clear hp hL hsize
  go_enter Try.func16, Try.ntmps16
  go_wp2_with fail
  refine (HT.out _).mono ?_
  rintro e w1 ⟨rfl, hk⟩
  obtain ⟨w2, hst, hb, hk2⟩ := HY.out w1
  have hk3 : Fresh w w2 := hk.trans hk2 (fun _ _ h => h)
  have HS := Lib.hid hst
  have HBK := Lib.hid (And.intro hb hk3)
  clear hst hb hk hk2 hk3
  go_wp2_with (refine wpList_store_by rfl (.tmp 3) (.tmp 7) 37 rfl _ _ rfl rfl HS.out ?_)
  clear HS HY HT hzero
  go_loop [4, 10] (fun s i => ∃ j : Nat, j ≤ m ∧ i = .int .i64 j ∧ s = .int .u32 (crcOf 0 (L.take j).flatten : Nat)) (fun _ i => (m - intOf i).toNat)
  case atStart => exact ⟨0, by omega, rfl, by simp [crcOf_nil]⟩
  case round =>
    obtain ⟨j, hj, rfl, rfl⟩ := hrel
    by_cases hlt : j < m
    · obtain ⟨b, o, A, k, cA, rfl, hb, hfb, hc', hr', hA⟩ := HP.out.at_ j hlt
      have hc := (HBK.out.2.cell (p := ⟨b, o + j, none⟩) hb id).trans hc'
      have hr := hr'.kept HBK.out.2 (fun _ _ _ _ => id)
      have hjl : j < L.length := by rw [Hlen.out]; exact hlt
      have hlj := flat_le (L := L) hjl
      have hft := flat_take (L := L) hjl
      have hmem : L.getD j [] ∈ L := by simp [List.getD, hjl]
      have hbx : Byt (L.getD j []) := HL.out _ hmem
      have hbt : Byt (L.take j).flatten := by
        intro x hx
        obtain ⟨l, h1, h2⟩ := List.mem_flatten.1 hx
        exact HL.out l (List.mem_of_mem_take h1) x h2
      have hsl := crcOf_lt (sum := 0) (by omega) hbt
      have hap := crcOf_append 0 (L.take j).flatten (L.getD j [])
      rw [← hft] at hap
      have hkl := hr.len
      generalize L.getD j [] = xj at *
      generalize crcOf 0 (L.take j).flatten = s at *
      have Hap := Lib.hid hap
      have Hc := Lib.hid (HB.out _ s A k cA xj _ hsl HBK.out.1 hr hbx (by omega))
      have hij0 : (0 : Int) ≤ (j : Int) := by omega
      have hij1 : (j : Int) < (m : Int) := by omega
      clear hap hft hlj hkl hr hr' hc' hbx hbt hmem hjl
      go_wp2_with fail
      refine Hc.out.mono ?_
      rintro e w3 ⟨rfl, rfl⟩
      go_wp2_with fail
      go_round
      case rel => exact ⟨j + 1, by omega, by go_num, by rw [Hap.out]⟩
      case measure => simp [intOf]; omega
    · have hall : L.take j = L := List.take_of_length_le (by rw [Hlen.out]; omega)
      have Hall := Lib.hid hall
      clear hall
      go_wp2_with fail
      go_ret
      exact ⟨ret_int (by rw [Hall.out]), HBK.out.2⟩

theorem eqItems_same {P : Program} (w : World) {e : TypeId} {k : IntKind} (he : P.underlying e = some (.int k)) (d : Nat) (xs : Array Value) : ∀ l : List Nat, (∀ i ∈ l, ∃ n, xs[i]? = some (.int k n)) → (Op.eqItems (d + 1) e 1 xs xs l).run P w = .ok true w
  | [], _ => by simp [Op.eqItems]
  | i :: l, h => by
    obtain ⟨n, hn⟩ := h i (by simp)
    have hp : (part e xs (i * 1)).run P w = .ok (.int k n) w := by
      simp [part, isAgg, run_underlying he, hn]
    simp only [Op.eqItems, Sem.run_bind, hp, Result.andThen_ok, run_equalIn_int w d e k k n n he]
    simpa using eqItems_same w he d xs l (fun j hj => h j (by simp [hj]))

theorem run_eql_tab (w : World) (x y : Operand) : (do eqGuard .eql 37 x y (.agg (tabC 256)) (.agg (tabC 256)); binOp .eql 37 (.agg (tabC 256)) (.agg (tabC 256)) : Sem Value).run Try.prog w = .ok (.bool true) w := by
  obtain ⟨i0, hi, hz0, hz1, hz2⟩ := info_parts (show (Try.prog.info? 23).map (fun i => (i.zero, i.size, i.bytes)) = some (some (.int .u32 0), 1, 4) by kernel_rfl)
  have hc : Try.prog.cellsOf 23 = 1 := by kernel_rfl
  have h1 := run_equalIn_array w 9999 (tabC 256) (tabC 256) Try.underlying37 hi
  rw [hc, eqItems_same w Try.underlying23 9998 (tabC 256) (List.range 256) (fun i hi => ⟨_, tabC_at (List.mem_range.1 hi)⟩)] at h1
  rw [Sem.run_bind, run_eqGuard_agg w .eql 37 x y (tabC 256) (tabC 256) (by kernel_rfl), Result.andThen_ok, run_eql_struct, h1]
  rfl

theorem wpList_eql_by {P : Program} {ops : Array Oper} {rest : List Oper} {o : Oper} {a : Act} {w : World} {Q : Exit → Act → World → Prop} (hw : Region.wanted o (yielded ops a.tmps) = true) (x y : Operand) (t t' : TypeId) (ho : o.op = .binOp .eql t x y t') (u v r : Value) (hx : a.eval x = u) (hy : a.eval y = v)
    (hl : (do eqGuard .eql t x y u v; binOp .eql t u v : Sem Value).run P w = .ok r w) (h : wpList P ops Q rest (a.put o.dst r) w) : wpList P ops Q (o :: rest) a w := by
  refine Go.BigFrame.wpList_want hw fun K hK => ?_
  unfold Oper.wp execOp
  simp only [ho, hx, hy]
  rw [Sem.run_bind, hl]
  exact hK _ _ h

end Go.Proofs.Ytfaoolkhepihkaa
