/- CrcParts: the sum of two parts is that of the second, behind the first's; for every two lists of bytes that are together of bulk at most 1048576 (the second form). -/
import Derived.Test.YtfaoolkhepihkaaCrcRef
import Derived.Test.YtfaoolkhepihkaaOpen
import Derived.JoinedCond
namespace Go.Proofs.Ytfaoolkhepihkaa.crcParts
open Go.ChangeShapes Go.WideShapes Go.ChangeAt Go.RowKit

set_option maxHeartbeats 1600000 in
theorem walk (A B : Option Addr) (n m c d : Nat) (xs ys : List Int) (w : World) (h : Row w .u8 A n xs) (hb : Byt xs) (h' : Row w .u8 B m ys) (hb' : Byt ys) (hn : n + m ≤ 1048576) :
    Calls Try.prog 4 #[.slice A n c, .slice B m d] w fun e w' => e = .returned (.bool true) ∧ Below w.heap.size w w' := by
  obtain ⟨i0, hi, hz0, hz1, hz2⟩ := info_parts Try.infoByteC
  have HA := Lib.hid h
  have HB := Lib.hid h'
  have HX := Lib.hid hb
  have HY := Lib.hid hb'
  have Hlx := Lib.hid h.len
  have Hly := Lib.hid h'.len
  have Hs := Lib.hid (crcOf_lt (sum := 0) (by omega) hb)
  have Hap := Lib.hid (crcOf_append 0 xs ys)
  have Hnil := Lib.hid (crcOf_nil (crcOf 0 xs))
  clear h hb h' hb'
  go_enter Try.func4, Try.ntmps4
  go_wp2_with fail
  refine (cAwake_any _).mono ?_
  rintro e w1 ⟨rfl, hk1⟩
  have HK1 := Lib.hid hk1
  clear hk1
  go_wp2_with fail
  refine (copyBytes_any A n c xs _ (HA.out.kept HK1.out (fun _ _ _ _ => id)) (by omega)).mono ?_
  rintro e w2 ⟨v, rfl, hown, hnew, hk2⟩
  have hk : Fresh w w2 := HK1.out.trans hk2 (fun _ _ h => h)
  have HK2 := Lib.hid (And.intro hown (And.intro hnew hk))
  clear hown hnew hk hk2
  go_wp2_with (at_builtin; refine wpList_app_if _ rfl (.tmp 8) (.tmp 9) 22 rfl 5 i0 .u8 1 Try.underlying22 hi hz0 hz1 hz2 _ xs rfl HK2.out.1 B m d ys rfl (HB.out.kept HK2.out.2.2 (fun _ _ _ _ => id)) (by unfold maxLen; have := Hlx.out; omega) (by have := Hlx.out; omega) ?_)
  intro v' w3 hown hg hat
  have hk3 : Fresh w w3 := HK2.out.2.2.grown hg (fun k e hk => by have := HK2.out.2.1 k e; have := HK1.out.size; omega)
  have hlen : (xs ++ ys).length ≤ 1048576 := by have := Hlx.out; have := Hly.out; rw [List.length_append]; omega
  have hbz := HX.out.append HY.out
  have hap := Hap.out
  clear Hap hg hat
  generalize xs ++ ys = zs at *
  obtain ⟨C, cc, rfl, hr3, _⟩ := hown.row
  have HK3 := Lib.hid (And.intro hr3 hk3)
  have HZ := Lib.hid (And.intro hbz hap)
  clear hown hk3 hr3 hbz hap
  go_wp2_with fail
  refine (sum_any C _ cc zs _ HK3.out.1 HZ.out.1 (by omega)).mono ?_
  rintro e w4 ⟨rfl, hk4⟩
  have hf4 : Fresh w w4 := HK3.out.2.trans hk4 (fun _ _ h => h)
  rw [HZ.out.2]
  have HK4 := Lib.hid hf4
  clear hf4 hk4
  go_wp2_with fail
  refine (sum_any A n c xs _ (HA.out.kept HK4.out (fun _ _ _ _ => id)) HX.out (by omega)).mono ?_
  rintro e w5 ⟨rfl, hk5⟩
  have hf5 : Fresh w w5 := HK4.out.trans hk5 (fun _ _ h => h)
  have HK5 := Lib.hid hf5
  clear hf5 hk5
  go_wp2_with fail
  refine (add_any (crcOf 0 xs) B m d ys _ Hs.out (HB.out.kept HK5.out (fun _ _ _ _ => id)) HY.out (by omega)).mono ?_
  rintro e w6 ⟨rfl, hk6⟩
  have hf6 : Fresh w w6 := HK5.out.trans hk6 (fun _ _ h => h)
  have HK6 := Lib.hid hf6
  clear hf6 hk6
  go_wp2_with fail
  refine (sum_any A n c xs _ (HA.out.kept HK6.out (fun _ _ _ _ => id)) HX.out (by omega)).mono ?_
  rintro e w7 ⟨rfl, hk7⟩
  have hf7 : Fresh w w7 := HK6.out.trans hk7 (fun _ _ h => h)
  have HK7 := Lib.hid hf7
  clear hf7 hk7
  go_wp2_with fail
  refine (add_any (crcOf 0 xs) none 0 0 [] _ Hs.out (Row.empty _ _ _) (fun x hx => by cases hx) (by omega)).mono ?_
  rintro e w8 ⟨rfl, hk8⟩
  rw [Hnil.out]
  have hf8 : Fresh w w8 := HK7.out.trans hk8 (fun _ _ h => h)
  have HK8 := Lib.hid hf8
  clear hf8 hk8
  go_wp2_with fail
  refine (sum_any A n c xs _ (HA.out.kept HK8.out (fun _ _ _ _ => id)) HX.out (by omega)).mono ?_
  rintro e w9 ⟨rfl, hk9⟩
  have hf9 : Fresh w w9 := HK8.out.trans hk9 (fun _ _ h => h)
  have HK9 := Lib.hid hf9
  clear hf9 hk9
  go_wp2_with fail
  go_ret
  exact ⟨rfl, HK9.out.toBelow⟩

theorem contract (H : Type) (enc : TypeId × Value → H) (W : World) (base : Nat) (args : Array Value) (ds gs : List (DataW H)) (before : List MemPlace)
    (hval0 : ∀ (j : Nat) t v, Try.f4.params[j]? = some t → args[j]? = some v → Value.okWide Try.prog W .any base t v)
    (hW : DataW.Whole enc Try.prog Try.f4.params.toList Rows.crcPartsSpec.vars false W args.toList ds gs before) (hk : Rows.uptoSmall H (ds ++ gs) = true) :
    Calls Try.prog 4 args W fun e W' => ∃ v, e = .returned v ∧ Rows.crcPartsSpec.post enc Try.prog Try.f4 false true false false W args v W' := by
  have hval : ∀ (j : Nat) t v, Try.f4.params[j]? = some t → args[j]? = some v → Value.okWide Try.prog W .any base t v := hval0
  have hpost : ∀ W', Below W.heap.size W W' → Rows.crcPartsSpec.post enc Try.prog Try.f4 false true false false W args (.bool true) W' := fun W' hb =>
    law_post (by kernel_rfl) Try.underlying4 (by kernel_rfl) rfl (fun ds hl => match ds, hl with | [d1, d2], _ => ⟨rfl, rfl, rfl⟩) hW hb
  obtain ⟨p, q, hA0, hV, rfl, hfz, hnd⟩ := hW
  have hA : DataW.TrodAll enc Try.prog W 0 (fun _ => true) true Try.f4.params.toList args.toList ds p := hA0
  rw [Try.params4] at hA hval
  obtain ⟨v0, vs0, d0, ds0, p0, q0, hargs, rfl, rfl, h0, r0⟩ := trodAll_cons hA
  obtain ⟨v1, vs1, d1, ds1, p1, q1, rfl, rfl, rfl, h1, r1⟩ := trodAll_cons r0
  obtain ⟨rfl, rfl, rfl⟩ := trodAll_nil r1
  obtain rfl : args = #[v0, v1] := by cases args; simp_all
  obtain ⟨rfl, rfl⟩ := trodVars_none hV
  have hbulk : Rows.uptoBulkAll ([d0, d1] ++ []) ≤ 1048576 := of_decide_eq_true hk
  simp only [List.append_nil, Rows.uptoBulkAll] at hbulk
  obtain ⟨A, n, c, xs, rfl, hr, hx, hl⟩ := open_bytes Try.underlying22 Try.underlying5 (by kernel_rfl) (hval 0 22 v0 rfl rfl) h0
  obtain ⟨B, m, d, ys, rfl, hr', hy, hl'⟩ := open_bytes Try.underlying22 Try.underlying5 (by kernel_rfl) (hval 1 22 v1 rfl rfl) h1
  exact (walk A B n m c d xs ys W hr hx hr' hy (by have := hr.len; have := hr'.len; omega)).mono fun e W' ⟨he, hb⟩ => ⟨_, he, hpost W' hb⟩

set_option maxRecDepth 100000 in
theorem lifted (os : Os) (started : os.Started) (H : Type) (enc : TypeId × Value → H) (F : Stop.Interp) :
    ReturnsInHanded {} Try.checked os 4 .any ((Rows.OpenSpec.upto Rows.crcPartsSpec).pre6 enc Try.prog Try.f4 Rows.crcPartsUptoRow.domain false) (((Rows.OpenSpec.upto Rows.crcPartsSpec).at F).post enc Try.prog Try.f4 false true false false) := by
  refine returnsInHanded_of_cond (C := Try.checked) (s := Rows.OpenSpec.upto Rows.crcPartsSpec) (k := Rows.uptoSmall) rfl Try.own started (by kernel_rfl) Try.func4
    (OpenSpec.witness (enc := enc) (C := Try.checked) (s := Rows.OpenSpec.upto Rows.crcPartsSpec) (k := Rows.uptoSmall) rfl false ⟨#[], #[.slice none 0 0, .slice none 0 0], []⟩ 8 (by kernel_rfl) (by kernel_rfl) (by kernel_rfl)
      (x := ([.nil, .nil], [], [])) (by kernel_rfl) rfl (by kernel_rfl)) ?_
  intro W base args ds gs before hval hW _ hk _
  exact contract H enc W base args ds gs before hval hW hk

/-- The statement, in its second form. -/
theorem proved : Rows.CrcPartsUptoSaid :=
  OpenClaim.holds_of_cond 4 Try.f4 rfl rfl rfl rfl rfl rfl rfl ⟨rfl, rfl, rfl, rfl, rfl⟩ rfl rfl rfl rfl rfl (by kernel_rfl) Try.func4 (by kernel_rfl)
    (of_decide_eq_true (by kernel_rfl)) (by unfold Func.isWrapper; first | (rw [if_pos (by decide +kernel)]; kernel_rfl) | (rw [if_neg (by decide +kernel)]; exact ⟨rfl, rfl⟩))
    (fun os started H enc _ F => lifted os started H enc F)
#print axioms proved

end Go.Proofs.Ytfaoolkhepihkaa.crcParts
