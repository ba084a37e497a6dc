/- The contracts of crc.behind, Add, Sum, All; awake; CopyBytes. -/
import Derived.Test.YtfaoolkhepihkaaCrcT
import Derived.Lib.SlBytesConst
namespace Go.Proofs.Ytfaoolkhepihkaa
open Go.RowKit

theorem not32 (s : Nat) (h : s < 4294967296) : bits .xor .u32 IntKind.u32.max (s : Int) = ((inv s : Nat) : Int) := by
  rw [show IntKind.u32.max = 4294967295 by rfl]
  have := u32_xor_nat 4294967295 s (by omega) h
  rw [Nat.xor_comm] at this
  exact this
theorem idx8 (s x : Nat) (hx : x < 256) : bits .xor .u8 ((s : Int) % 256) (x : Int) = ((s % 256 ^^^ x : Nat) : Int) := by
  have := u8_xor_nat (s % 256) x (by omega) hx
  simpa using this
theorem idx8_lt (s x : Nat) (hx : x < 256) : s % 256 ^^^ x < 256 := Nat.xor_lt_two_pow (n := 8) (by omega) hx
theorem shr8_xor (s t : Nat) (h : s < 4294967296) (ht : t < 4294967296) : bits .xor .u32 ((s : Int) / 256) (t : Int) = ((s / 256 ^^^ t : Nat) : Int) := by
  have := u32_xor_nat (s / 256) t (by omega) ht
  simpa using this

set_option maxHeartbeats 1600000 in
theorem behind_any (g sum : Nat) (A : Option Addr) (n c : Nat) (xs : List Int) (w : World) (hs : sum < 4294967296) (ht : Blk w g 37 (tabC 256)) (hr : Row w .u8 A n xs) (hx : Byt xs) (hn : n ≤ 281474976710656) :
    Calls Try.prog 19 #[.pointer (some ⟨g, 0, none⟩), .int .u32 sum, .slice A n c] w fun e w' => e = .returned (.int .u32 (crcOf sum xs : Nat)) ∧ w' = w := by
  have hnot := not32 sum hs
  have HR := Lib.hid hr
  have HX := Lib.hid hx
  have HT := Lib.hid ht
  have hsl := inv_lt hs
  clear hr hx ht
  go_enter Try.func19, Try.ntmps19
  go_wp2_with fail
  clear hnot
  go_loop [7, 14] (fun s i => ∃ j : Nat, j ≤ n ∧ i = .int .i64 j ∧ s = .int .u32 (run (inv sum) (xs.take j) : Nat)) (fun _ i => (n - intOf i).toNat)
  case atStart => exact ⟨0, by omega, rfl, rfl⟩
  case round =>
    obtain ⟨j, hj, rfl, rfl⟩ := hrel
    have hrl := run_lt hsl (HX.out.take j)
    by_cases hlt : j < n
    · obtain ⟨b, o, rfl, hb, hc⟩ := HR.out.at_ j hlt
      have hjx : j < xs.length := by rw [HR.out.len]; exact hlt
      have hst := run_take (s := inv sum) hjx
      have hbx := HX.out.at_ hjx
      generalize run (inv sum) (xs.take j) = s at *
      generalize xs.getD j 0 = x at *
      obtain ⟨x, rfl⟩ := Int.eq_ofNat_of_zero_le hbx.1
      rw [Int.toNat_natCast, upd_table] at hst
      have Hst := Lib.hid hst
      clear hst
      have hx8 : x < 256 := by omega
      have hi1 := idx8 s x hx8
      have hi2 : bits .xor .u8 (IntKind.u8.wrap (s : Int)) (x : Int) = ((s % 256 ^^^ x : Nat) : Int) := by rw [IntKind.wrap_u8']; exact hi1
      have hm := idx8_lt s x hx8
      generalize s % 256 ^^^ x = m at *
      have ht := HT.out.cell m
      rw [tabC_at hm, show tabTo 256 = tabL from rfl, tabL_at hm] at ht
      have hml := itn_lt (s := m) (by omega) 8
      have hfin := shr8_xor s (itn 8 m) hrl hml
      generalize itn 8 m = t at *
      have hm0 : (0 : Int) ≤ (m : Int) := by omega
      have hm1 : (m : Int) < 256 := by omega
      have hj0 : (0 : Int) ≤ (j : Int) := by omega
      have hj1 : (j : Int) < (n : Int) := by omega
      go_wp2_with fail
      go_round
      case rel => exact ⟨j + 1, by omega, by go_num, by rw [Hst.out]⟩
      case measure => simp [intOf]; omega
    · have hfin := not32 _ hrl
      have hall : xs.take j = xs := List.take_of_length_le (by rw [HR.out.len]; omega)
      have Hall := Lib.hid hall
      clear hall
      go_wp2_with fail
      go_ret
      exact ⟨ret_int (by unfold crcOf; rw [Hall.out]), rfl⟩

/-- A table is laid into a variable: the block behind it. -/
theorem lay_tab (w : World) : ∃ w', (Instr.storeAt 37 (.pointer (some ⟨w.heap.size, 0, none⟩)) (.agg (tabC 256))).run Try.prog (w.alloc (.cells (tabC 0) 37)) = .ok () w' ∧ Blk w' w.heap.size 37 (tabC 256) ∧ Fresh w w' := by
  have hb := Blk.new w 37 (tabC 0)
  have hk1 : Fresh w (w.alloc (.cells (tabC 0) 37)) := (Kept.refl _ _).alloc _
  exact ⟨_, run_store_tab (j := 256) hb, hb.setRow (cs' := tabC 256), hk1.setRow (g := w.heap.size) (tabC 256) (fun h => by omega)⟩

set_option maxHeartbeats 1600000 in
theorem add_any (sum : Nat) (A : Option Addr) (n c : Nat) (xs : List Int) (w : World) (hs : sum < 4294967296) (hr : Row w .u8 A n xs) (hx : Byt xs) (hn : n ≤ 281474976710656) :
    Calls Try.prog 12 #[.int .u32 sum, .slice A n c] w fun e w' => e = .returned (.int .u32 (crcOf sum xs : Nat)) ∧ Fresh w w' := by
  obtain ⟨hzero, hsize⟩ := zero_of_info Try.infoTab
  have HT : Hid (∀ w, Calls Try.prog 17 #[] w fun e w' => e = .returned (.agg (tabC 256)) ∧ Fresh w w') := Lib.hid table_any
  have HY := Lib.hid lay_tab
  have HB : Hid (∀ g w, Blk w g 37 (tabC 256) → Row w .u8 A n xs → Calls Try.prog 19 #[.pointer (some ⟨g, 0, none⟩), .int .u32 sum, .slice A n c] w fun e w' => e = .returned (.int .u32 (crcOf sum xs : Nat)) ∧ w' = w) :=
    Lib.hid (fun g w h h' => behind_any g sum A n c xs w hs h h' hx hn)
  generalize tabC 256 = T at *
  generalize tabC 0 = Z at *
  have HR := Lib.hid hr
  clear hr hx hsize
  go_enter Try.func12, Try.ntmps12
  go_wp2_with fail
  refine (HT.out _).mono ?_
  rintro e w1 ⟨rfl, hk⟩
  obtain ⟨w2, hst, hb, hk2⟩ := HY.out w1
  have hk3 : Fresh w w2 := hk.trans hk2 (fun _ _ h => h)
  have HS := Lib.hid hst
  have HBK := Lib.hid (And.intro hb hk3)
  clear hst hb hk hk2 hk3
  go_wp2_with (refine wpList_store_by rfl (.tmp 5) (.tmp 6) 37 rfl _ _ rfl rfl HS.out ?_)
  refine (HB.out _ _ HBK.out.1 (HR.out.kept HBK.out.2 (fun _ _ _ _ => id))).mono ?_
  rintro e w3 ⟨rfl, rfl⟩
  go_wp2_with fail
  go_ret
  exact ⟨rfl, HBK.out.2⟩

set_option maxHeartbeats 800000 in
theorem sum_any (A : Option Addr) (n c : Nat) (xs : List Int) (w : World) (hr : Row w .u8 A n xs) (hx : Byt xs) (hn : n ≤ 281474976710656) :
    Calls Try.prog 10 #[.slice A n c] w fun e w' => e = .returned (.int .u32 (crcOf 0 xs : Nat)) ∧ Fresh w w' := by
  go_enter Try.func10, Try.ntmps10
  go_wp2_with fail
  refine (add_any 0 A n c xs _ (by omega) hr hx hn).mono ?_
  rintro e w1 ⟨rfl, hk⟩
  go_wp2_with fail
  go_ret
  exact ⟨rfl, hk⟩

theorem awake_row (w : World) (fr : Nat × Nat) : Row (w.alloc (.cells (ivs .u8 [49, 50, 51, 52, 53, 54, 55, 56, 57]).toArray 5 fr)) .u8 (some ⟨w.heap.size, 0, none⟩) 9 [49, 50, 51, 52, 53, 54, 55, 56, 57] :=
  ⟨rfl, fun j hj => ⟨w.heap.size, 0, rfl, by simp, by
    rw [Nat.zero_add, World.cell?_alloc_mark, List.getElem?_toArray, ivs_get (by simpa using hj)]⟩⟩
theorem awake_byt : Byt [49, 50, 51, 52, 53, 54, 55, 56, 57] := by
  intro x hx
  simp at hx
  omega

set_option maxHeartbeats 800000 in
theorem cAwake_any (w : World) : Calls Try.prog 9 #[] w fun e w' => e = .returned (.bool true) ∧ Fresh w w' := by
  have hcv := Lib.run_convert_bytes_const (P := Try.prog) w 22 5 (ivs .u8 [49, 50, 51, 52, 53, 54, 55, 56, 57]).toArray 9 9 Try.underlying22 Try.underlying5
  have hrow := awake_row w ((ivs .u8 [49, 50, 51, 52, 53, 54, 55, 56, 57]).toArray.size, (ivs .u8 [49, 50, 51, 52, 53, 54, 55, 56, 57]).toArray.size + 1)
  have hk : Fresh w (w.alloc (.cells (ivs .u8 [49, 50, 51, 52, 53, 54, 55, 56, 57]).toArray 5 ((ivs .u8 [49, 50, 51, 52, 53, 54, 55, 56, 57]).toArray.size, (ivs .u8 [49, 50, 51, 52, 53, 54, 55, 56, 57]).toArray.size + 1))) := (Kept.refl _ _).alloc _
  generalize w.alloc (.cells (ivs .u8 [49, 50, 51, 52, 53, 54, 55, 56, 57]).toArray 5 ((ivs .u8 [49, 50, 51, 52, 53, 54, 55, 56, 57]).toArray.size, (ivs .u8 [49, 50, 51, 52, 53, 54, 55, 56, 57]).toArray.size + 1)) = W1 at *
  simp only [ivs, List.map_cons, List.map_nil] at hcv
  go_enter Try.func9, Try.ntmps9
  go_wp2_with fail
  refine (sum_any _ 9 9 _ _ hrow awake_byt (by omega)).mono ?_
  rintro e w1 ⟨rfl, hk1⟩
  rw [crc_example]
  go_wp2_with fail
  go_ret
  exact ⟨rfl, hk.trans hk1 (fun _ _ h => h)⟩

theorem Try.infoByteC : (Try.prog.info? 5).map (fun i => (i.zero, i.size, i.bytes)) = some (some (.int .u8 0), 1, 1) := by kernel_rfl

set_option maxHeartbeats 800000 in
theorem copyBytes_any (A : Option Addr) (n c : Nat) (xs : List Int) (w : World) (hr : Row w .u8 A n xs) (hn : n ≤ 140737488355328) :
    Calls Try.prog 15 #[.slice A n c] w fun e w' => ∃ v, e = .returned v ∧ NewRow w w' 5 .u8 v xs := by
  obtain ⟨i0, hi, hz0, hz1, hz2⟩ := info_parts Try.infoByteC
  go_enter Try.func15, Try.ntmps15
  go_wp2_with (at_builtin; refine wpList_app _ rfl _ _ 22 rfl 5 i0 .u8 1 Try.underlying22 hi hz0 hz1 hz2 (.slice none 0 0) [] rfl (Own.nil _ _ _) A n c xs rfl hr (by unfold maxLen; simp; omega) (by simp; omega) ?_)
  intro v' w1 hown hg hat
  have hk : Fresh w w1 := (Kept.refl _ _).grown hg (fun k e _ => by cases e)
  have hnew : ∀ g, v'.ownBlock = some g → w.heap.size ≤ g := by
    intro g e
    rcases hat with e' | e'
    · rw [e'] at e; cases e
    · rw [e'] at e; injection e with e; omega
  have H : Hid (NewRow w w1 5 .u8 v' xs) := Lib.hid ⟨by simpa using hown, hnew, hk⟩
  clear hown hg hat hk hnew
  go_wp2_with fail
  go_ret
  exact ⟨_, rfl, H.out⟩

end Go.Proofs.Ytfaoolkhepihkaa
