/- CrcSums: the sum of any bytes, and of what has any sum with any bytes behind it, is the document's; what is handed in stays. For every list of bytes and every number. -/
import Derived.Test.YtfaoolkhepihkaaCrcRef
import Derived.Test.YtfaoolkhepihkaaHelpByte
import Derived.Test.YtfaoolkhepihkaaSized
namespace Go.Proofs.Ytfaoolkhepihkaa.crcSums
open Go.ChangeShapes Go.WideShapes Go.ChangeAt Go.RowKit

set_option maxHeartbeats 1600000 in
theorem walk (A : Option Addr) (n c : Nat) (xs : List Int) (sum : Nat) (w : World) (h : Row w .u8 A n xs) (hb : Byt xs) (hnil : A = none → c = 0) (hs : sum < 4294967296) (hn : n ≤ 140737488351232) :
    Calls Try.prog 3 #[.slice A n c, .int .u32 sum] w fun e w' => e = .returned (.bool true) ∧ Below w.heap.size w w' := by
  have HR := Lib.hid h
  have HB := Lib.hid hb
  have HN := Lib.hid hnil
  have Hlen := Lib.hid h.len
  clear h hb hnil
  go_enter Try.func3, Try.ntmps3
  go_wp2_with fail
  refine (hOwnByte_any A n c xs 71 _ HR.out HN.out hn).mono ?_
  rintro e w1 ⟨q, rfl, hcp, hq, hk1⟩
  have HC := Lib.hid hcp
  have HK := Lib.hid hk1
  clear hcp hk1
  go_wp2_with fail
  refine (cAwake_any _).mono ?_
  rintro e w2 ⟨rfl, hk2⟩
  have hf2 : Fresh w w2 := HK.out.trans hk2 (fun _ _ h => h)
  have hc2 : Copy w2 q 5 .u8 xs 71 := ⟨HC.out.blk.kept hk2 id⟩
  have hr2 := hc2.row
  rw [Hlen.out] at hr2
  have H2 := Lib.hid (And.intro hf2 hc2)
  have HR2 := Lib.hid hr2
  clear hf2 hc2 hr2 hk2
  go_wp2_with fail
  refine (sum_any _ n _ xs _ HR2.out HB.out (by omega)).mono ?_
  rintro e w3 ⟨rfl, hk3⟩
  have hf3 : Fresh w w3 := H2.out.1.trans hk3 (fun _ _ h => h)
  have hc3 : Copy w3 q 5 .u8 xs 71 := ⟨H2.out.2.blk.kept hk3 id⟩
  have H3 := Lib.hid (And.intro hf3 hc3)
  clear hf3 hc3 hk3
  go_wp2_with fail
  refine (refSum_any A n c xs _ (HR.out.kept H3.out.1 (fun _ _ _ _ => id)) HB.out (by omega)).mono ?_
  rintro e w4 ⟨rfl, rfl⟩
  have hr3 := H3.out.2.row
  rw [Hlen.out] at hr3
  have HR3 := Lib.hid hr3
  clear hr3
  go_wp2_with fail
  refine (add_any sum _ n _ xs _ hs HR3.out HB.out (by omega)).mono ?_
  rintro e w5 ⟨rfl, hk5⟩
  have hf5 : Fresh w w5 := H3.out.1.trans hk5 (fun _ _ h => h)
  have hc5 : Copy w5 q 5 .u8 xs 71 := ⟨H3.out.2.blk.kept hk5 id⟩
  have H5 := Lib.hid (And.intro hf5 hc5)
  clear hf5 hc5 hk5
  go_wp2_with fail
  refine (refAdd_any sum A n c xs _ hs (HR.out.kept H5.out.1 (fun _ _ _ _ => id)) HB.out (by omega)).mono ?_
  rintro e w6 ⟨rfl, rfl⟩
  go_wp2_with fail
  refine (hKeptByte_any q n c A xs 71 _ H5.out.2 (HR.out.kept H5.out.1 (fun _ _ _ _ => id)) hn).mono ?_
  rintro e w7 ⟨rfl, k, rfl⟩
  go_wp2_with fail
  go_ret
  exact ⟨rfl, (H5.out.1.drewN k).toBelow⟩

set_option maxRecDepth 100000 in
theorem lifted (os : Os) (started : os.Started) (H : Type) (enc : TypeId × Value → H) :
    ReturnsInHanded {} Try.checked os 3 .any (Rows.crcSumsSpec.pre6 enc Try.prog Try.f3 Rows.crcSumsRow.domain false) (Rows.crcSumsSpec.post enc Try.prog Try.f3 false true false false) := by
  refine returnsInHanded_of_change_sized (C := Try.checked) Try.own started (by kernel_rfl) Try.func3
    (ChangeSpec.witness6 (enc := enc) (C := Try.checked) false ⟨#[], #[.slice none 0 0, .int .u32 0], []⟩ 8 (by kernel_rfl) (by kernel_rfl) (by kernel_rfl) (by kernel_rfl)) ?_
  intro W base args ds gs before hval0 hW hcnd hsz0 _
  have hval : ∀ (j : Nat) t v, Try.f3.params[j]? = some t → args[j]? = some v → Value.okWide Try.prog W .any base t v := hval0
  have hpost : ∀ W', Below W.heap.size W W' → Rows.crcSumsSpec.post enc Try.prog Try.f3 false true false false W args (.bool true) W' := fun W' hb =>
    law_post (by kernel_rfl) Try.underlying4 (by kernel_rfl) rfl (fun ds hl => match ds, hl with | [d1, d2], _ => ⟨rfl, rfl, rfl⟩) hW hb
  obtain ⟨p, q, hA0, hV, rfl, hfz, hnd⟩ := hW
  have hA : DataW.TrodAll enc Try.prog W 0 (fun _ => true) true Try.f3.params.toList args.toList ds p := hA0
  have hsz : (DataW.weightsEach Try.prog (Try.f3.params.toList ++ Rows.crcSumsSpec.plain.varTypes Try.prog) (ds ++ gs)).all (· ≤ reachBytes) = true := hsz0
  rw [Try.params3] at hA hval hsz
  obtain ⟨v0, vs0, d0, ds0, p0, q0, hargs, rfl, rfl, h0, r0⟩ := trodAll_cons hA
  obtain ⟨v1, vs1, d1, ds1, p1, q1, rfl, rfl, rfl, h1, r1⟩ := trodAll_cons r0
  obtain ⟨rfl, rfl, rfl⟩ := trodAll_nil r1
  obtain rfl : args = #[v0, v1] := by cases args; simp_all
  obtain ⟨A, n, c, xs, rfl, hnil, hx, hwx, hm⟩ := open_row Try.underlying22 Try.underlying5 (by kernel_rfl) (hval 0 22 v0 rfl rfl) h0
  have hn := sized_row hsz (j := 0) rfl rfl Try.underlying22 Try.underlying5 (by kernel_rfl) h0
  rw [show Try.prog.bytesOf 5 = 1 by kernel_rfl] at hn
  obtain ⟨a1, rfl, rfl, rfl, w1⟩ := open_int Try.underlying23 (hval 1 23 v1 rfl rfl) h1
  have hb1 := bounds_u32 w1
  obtain ⟨s, rfl⟩ := Int.eq_ofNat_of_zero_le hb1.1
  exact (walk A n c xs s W hx (fun x hx => by have := bounds_u8 (hwx x hx); omega) hnil (by omega) (by omega)).mono fun e W' ⟨he, hb⟩ => ⟨_, he, hpost W' hb⟩

/-- The statement. -/
theorem proved : Rows.CrcSumsSaid :=
  OpenClaim.holds_of_wide 3 Try.f3 rfl rfl rfl rfl rfl rfl rfl ⟨rfl, rfl, rfl, rfl, rfl⟩ rfl rfl rfl rfl rfl (by kernel_rfl) Try.func3 (by kernel_rfl)
    (of_decide_eq_true (by kernel_rfl)) (by unfold Func.isWrapper; first | (rw [if_pos (by decide +kernel)]; kernel_rfl) | (rw [if_neg (by decide +kernel)]; exact ⟨rfl, rfl⟩))
    (fun os started H enc _ => lifted os started H enc)
#print axioms proved

end Go.Proofs.Ytfaoolkhepihkaa.crcSums
