/- CrcLinear: of three texts of one length, and what they are together bit by bit, the sums go together likewise. For every three lists of bytes. -/
import Derived.Test.YtfaoolkhepihkaaCrcB
import Derived.Test.YtfaoolkhepihkaaCrcLin
import Derived.Test.YtfaoolkhepihkaaSized
import Derived.Lib.MinMax
import Derived.BigRegion
import Derived.Deep.RegionHeld3
namespace Go.Proofs.Ytfaoolkhepihkaa.crcLinear
open Go.ChangeShapes Go.WideShapes Go.ChangeAt Go.RowKit

theorem byte_size (w : World) : (sizeOf 5).run Try.prog w = .ok 1 w := by
  obtain ⟨i0, hi, _, hz1, _⟩ := info_parts Try.infoByteC
  simp [sizeOf, typeInfo, hi, hz1]
theorem run_slice_to {P : Program} (t e : TypeId) (ht : P.underlying t = some (.slice e)) (hc : ∀ w, (sizeOf e).run P w = .ok 1 w) (A : Option Addr) (n c h : Nat) (k : Int) (hk : k = h) (hh : h ≤ c) (W : World) :
    (Instr.slice t (.slice A n c) none (some (.int .i64 k)) none).run P W = .ok (.slice A h c) W := by
  subst hk
  have he : P.elem t = e := by simp [Program.elem, ht]
  rw [run_slice_h W t A n c (by rw [he]; exact ht) .i64 (h : Int) (by omega) (by omega), he, hc]
  rcases A with _ | a
  · simp [Result.andThen, sliced]
  · simp [Result.andThen, sliced, Addr.add]

theorem run_min3 {P : Program} (w : World) (ts : Array TypeId) (t : TypeId) (x y z u : Int) (hu : min (min x y) z = u) :
    (Builtin.min_ ts t #[.int .i64 x, .int .i64 y, .int .i64 z]).run P w = .ok (.int .i64 u) w := by
  have e1 : (if y < x then y else x) = min x y := by
    rw [Int.min_def]
    split <;> split <;> omega
  have e2 : (if z < min x y then z else min x y) = u := by
    rw [← hu, Int.min_def (min x y)]
    split <;> split <;> omega
  simp [Builtin.min_, Builtin.min2, e1, e2]

theorem x3_bits {a b c : Int} (ha : 0 ≤ a ∧ a < 256) (hb : 0 ≤ b ∧ b < 256) (hc : 0 ≤ c ∧ c < 256) : bits .xor .u8 (bits .xor .u8 a b) c = x3 a b c := by
  have h1 := u8_xor a b ha.1 ha.2 hb.1 hb.2
  have hl := Nat.xor_lt_two_pow (n := 8) (x := a.toNat) (y := b.toNat) (by omega) (by omega)
  rw [h1, u8_xor _ c (by omega) (by omega) hc.1 hc.2, Int.toNat_natCast]
  rfl
theorem sum3_bits {x y z : Nat} (hx : x < 4294967296) (hy : y < 4294967296) (hz : z < 4294967296) : bits .xor .u32 (bits .xor .u32 (x : Int) (y : Int)) (z : Int) = ((x ^^^ y ^^^ z : Nat) : Int) := by
  rw [u32_xor_nat x y hx hy, u32_xor_nat _ z (Nat.xor_lt_two_pow (n := 32) hx hy) hz]

set_option maxHeartbeats 1600000 in
theorem walk (A B C : Option Addr) (n m l c d f : Nat) (xs ys zs : List Int) (w : World) (hA : Row w .u8 A n xs) (hx : Byt xs) (hB : Row w .u8 B m ys) (hy : Byt ys) (hC : Row w .u8 C l zs) (hz : Byt zs)
    (hc : n ≤ c) (hd : m ≤ d) (hf : l ≤ f) (hn : n ≤ 140737488351232) :
    Calls Try.prog 6 #[.slice A n c, .slice B m d, .slice C l f] w fun e w' => e = .returned (.bool true) ∧ Below w.heap.size w w' := by
  obtain ⟨N, hN⟩ : ∃ N : Nat, min (min (n : Int) (m : Int)) (l : Int) = (N : Int) := ⟨min (min n m) l, by omega⟩
  have hNn : N ≤ n := by omega
  have hNm : N ≤ m := by omega
  have hNl : N ≤ l := by omega
  have hsA : ∀ W, (Instr.slice 22 (.slice A n c) none (some (.int .i64 (N : Int))) none).run Try.prog W = .ok (.slice A N c) W := fun W => run_slice_to _ _ Try.underlying22 byte_size A n c N _ rfl (by omega) W
  have hsB : ∀ W, (Instr.slice 22 (.slice B m d) none (some (.int .i64 (N : Int))) none).run Try.prog W = .ok (.slice B N d) W := fun W => run_slice_to _ _ Try.underlying22 byte_size B m d N _ rfl (by omega) W
  have hsC : ∀ W, (Instr.slice 22 (.slice C l f) none (some (.int .i64 (N : Int))) none).run Try.prog W = .ok (.slice C N f) W := fun W => run_slice_to _ _ Try.underlying22 byte_size C l f N _ rfl (by omega) W
  have hmin : ∀ ts t W, (Builtin.min_ ts t #[.int .i64 (n : Int), .int .i64 (m : Int), .int .i64 (l : Int)]).run Try.prog W = .ok (.int .i64 (N : Int)) W := fun ts t W => run_min3 W ts t _ _ _ _ hN
  have hA1 := hA.take hNn
  have hB1 := hB.take hNm
  have hC1 := hC.take hNl
  have hx1 := hx.take N
  have hy1 := hy.take N
  have hz1 := hz.take N
  clear hA hB hC hx hy hz hN
  generalize xs.take N = al at *
  generalize ys.take N = bl at *
  generalize zs.take N = cl at *
  have hla := hA1.len
  have hlb := hB1.len
  have hlc := hC1.len
  have hsum := crcOf_lin al bl cl (by omega) (by omega)
  rw [hla] at hsum
  have hxl := crcOf_lt (sum := 0) (by omega) hx1
  have hyl := crcOf_lt (sum := 0) (by omega) hy1
  have hzl := crcOf_lt (sum := 0) (by omega) hz1
  have hlb3 := lin_byt hx1 hy1 hz1 (by omega) (by omega) N
  have Hsum := Lib.hid (And.intro hsum (And.intro hxl (And.intro hyl (And.intro hzl hlb3))))
  have HA := Lib.hid (And.intro hA1 hx1)
  have HB := Lib.hid (And.intro hB1 hy1)
  have HC := Lib.hid (And.intro hC1 hz1)
  have Hla := Lib.hid (And.intro hla (And.intro hlb hlc))
  have HS := Lib.hid (And.intro hsA (And.intro hsB hsC))
  clear hsum hxl hyl hzl hlb3 hA1 hx1 hB1 hy1 hC1 hz1 hla hlb hlc
  go_enter Try.func6, Try.ntmps6
  go_wp2_with fail
  refine (copyBytes_any A N c al _ HA.out.1 (by omega)).mono ?_
  rintro e w1 ⟨v, rfl, hown, hnew, hk1⟩
  have H1 := Lib.hid (And.intro hown (And.intro hnew hk1))
  clear hown hnew hk1 hsA hsB hsC hmin
  go_wp2_with fail
  go_loopw [9] (fun i wr => ∃ j : Nat, j ≤ N ∧ i = .int .i64 j ∧ Own wr 5 .u8 v (lin al bl cl j) ∧ Fresh w wr) (fun i _ => (N - intOf i).toNat)
  case atStart => exact ⟨0, by omega, rfl, by rw [lin_zero]; exact H1.out.1, H1.out.2.2⟩
  case round =>
    obtain ⟨j, hj, rfl, hown, hk⟩ := hrel
    by_cases hlt : j < N
    · obtain ⟨hla, hlb, hlc⟩ := Hla.out
      obtain ⟨g, cap, hv, hg⟩ := hown.form (by rw [lin_len]; omega)
      rw [lin_len, hla] at hv
      subst hv
      have hnw := H1.out.2.1 g rfl
      have hown' : Own wr 5 .u8 (.slice (some ⟨g, 0, none⟩) (lin al bl cl j).length cap) (lin al bl cl j) := by rw [lin_len, hla]; exact hown
      have hcx := hown'.cell (j := j) (by rw [lin_len]; omega)
      rw [lin_at _ _ _ (by omega)] at hcx
      have hfx := hown'.frozen j
      have hst := hown'.stored j (x3 (al.getD j 0) (bl.getD j 0) (cl.getD j 0))
      rw [lin_set, lin_len, hla] at hst
      obtain ⟨bb, ob, rfl, hbb, hcb⟩ := HB.out.1.at_ j (by omega)
      obtain ⟨bc, oc, rfl, hbc, hcc⟩ := HC.out.1.at_ j (by omega)
      have hcb' := (hk.cell (p := ⟨bb, ob + j, none⟩) hbb id).trans hcb
      have hcc' := (hk.cell (p := ⟨bc, oc + j, none⟩) hbc id).trans hcc
      have ha1 := HA.out.2.at_ (k := j) (by omega)
      have hb1 := HB.out.2.at_ (k := j) (by omega)
      have hc1 := HC.out.2.at_ (k := j) (by omega)
      generalize al.getD j 0 = a at *
      generalize bl.getD j 0 = b at *
      generalize cl.getD j 0 = e at *
      have Hst := Lib.hid hst
      have Hk := Lib.hid hk
      have Hnw := Lib.hid hnw
      have hi0 : (0 : Int) ≤ (j : Int) := by omega
      have hi1 : (j : Int) < (N : Int) := by omega
      have hi2 : (j : Int) < (m : Int) := by omega
      have hi3 : (j : Int) < (l : Int) := by omega
      clear hst hk hown hown' hcb hcc hnw hla hlb hlc
      go_wp2_with fail
      go_region
      rw [x3_bits ha1 hb1 hc1]
      go_wp2_with fail
      go_roundw
      case rel => exact ⟨j + 1, by omega, by go_num, Hst.out.drew, (Hk.out.setCell (p := ⟨g, j, none⟩) (fun h => by have := Hnw.out; simp at h; omega) _).drew⟩
      case measure => simp [intOf]; omega
    · obtain rfl : j = N := by omega
      obtain ⟨X, cx, hv, hrx, _⟩ := hown.row
      rw [lin_len, Hla.out.1] at hv hrx
      subst hv
      obtain ⟨hsA, hsB, hsC⟩ := HS.out
      have hrx' : Row wr.drew .u8 X j (lin al bl cl j) := ⟨hrx.len, hrx.at_⟩
      have HX := Lib.hid hrx'
      have HK := Lib.hid hk.drew
      clear hrx hrx' hk hown HS H1
      go_wp2_with fail
      go_region_held3 (fun _ => True) (first | go_keep | exact True.intro)
        (first
          | (go_at_call 9; refine (cAwake_any _).mono ?_; rintro e w2 ⟨rfl, hk2⟩)
          | (go_at_call 10; refine (sum_any X j cx (lin al bl cl j) _ (HX.out.kept hk2 (fun _ _ _ _ => id)) Hsum.out.2.2.2.2 (by omega)).mono ?_; rintro e w3 ⟨rfl, hk3⟩)
          | (go_at_call 10; refine (sum_any A j c al _ (HA.out.1.kept (HK.out.trans (hk2.trans hk3 (fun _ _ h => h)) (fun _ _ h => h)) (fun _ _ _ _ => id)) HA.out.2 (by omega)).mono ?_; rintro e w4 ⟨rfl, hk4⟩)
          | (go_at_call 10; refine (sum_any B j d bl _ (HB.out.1.kept (HK.out.trans (hk2.trans (hk3.trans hk4 (fun _ _ h => h)) (fun _ _ h => h)) (fun _ _ h => h)) (fun _ _ _ _ => id)) HB.out.2 (by omega)).mono ?_; rintro e w5 ⟨rfl, hk5⟩)
          | (go_at_call 10; refine (sum_any C j f cl _ (HC.out.1.kept (HK.out.trans (hk2.trans (hk3.trans (hk4.trans hk5 (fun _ _ h => h)) (fun _ _ h => h)) (fun _ _ h => h)) (fun _ _ h => h)) (fun _ _ _ _ => id)) HC.out.2 (by omega)).mono ?_; rintro e w6 ⟨rfl, hk6⟩))
      have hf6 : Fresh w w6 := HK.out.trans (hk2.trans (hk3.trans (hk4.trans (hk5.trans hk6 (fun _ _ h => h)) (fun _ _ h => h)) (fun _ _ h => h)) (fun _ _ h => h)) (fun _ _ h => h)
      have H6 := Lib.hid hf6
      rw [sum3_bits Hsum.out.2.1 Hsum.out.2.2.1 Hsum.out.2.2.2.1, ← Hsum.out.1]
      clear hf6 hk2 hk3 hk4 hk5 hk6 hsA hsB hsC
      go_wp2_with fail
      go_ret
      exact ⟨ret_bool (by simp), H6.out.toBelow⟩

set_option maxRecDepth 100000 in
theorem lifted (os : Os) (started : os.Started) (H : Type) (enc : TypeId × Value → H) :
    ReturnsInHanded {} Try.checked os 6 .any (Rows.crcLinearSpec.pre6 enc Try.prog Try.f6 Rows.crcLinearRow.domain false) (Rows.crcLinearSpec.post enc Try.prog Try.f6 false true false false) := by
  refine returnsInHanded_of_change_sized (C := Try.checked) Try.own started (by kernel_rfl) Try.func6
    (ChangeSpec.witness6 (enc := enc) (C := Try.checked) false ⟨#[], #[.slice none 0 0, .slice none 0 0, .slice none 0 0], []⟩ 8 (by kernel_rfl) (by kernel_rfl) (by kernel_rfl) (by kernel_rfl)) ?_
  intro W base args ds gs before hval0 hW hcnd hsz0 _
  have hval : ∀ (j : Nat) t v, Try.f6.params[j]? = some t → args[j]? = some v → Value.okWide Try.prog W .any base t v := hval0
  have hpost : ∀ W', Below W.heap.size W W' → Rows.crcLinearSpec.post enc Try.prog Try.f6 false true false false W args (.bool true) W' := fun W' hb =>
    law_post (by kernel_rfl) Try.underlying4 (by kernel_rfl) rfl (fun ds hl => match ds, hl with | [d1, d2, d3], _ => ⟨rfl, rfl, rfl⟩) hW hb
  obtain ⟨p, q, hA0, hV, rfl, hfz, hnd⟩ := hW
  have hA : DataW.TrodAll enc Try.prog W 0 (fun _ => true) true Try.f6.params.toList args.toList ds p := hA0
  have hsz : (DataW.weightsEach Try.prog (Try.f6.params.toList ++ Rows.crcLinearSpec.plain.varTypes Try.prog) (ds ++ gs)).all (· ≤ reachBytes) = true := hsz0
  rw [Try.params6] at hA hval hsz
  obtain ⟨v0, vs0, d0, ds0, p0, q0, hargs, rfl, rfl, h0, r0⟩ := trodAll_cons hA
  obtain ⟨v1, vs1, d1, ds1, p1, q1, rfl, rfl, rfl, h1, r1⟩ := trodAll_cons r0
  obtain ⟨v2, vs2, d2, ds2, p2, q2, rfl, rfl, rfl, h2, r2⟩ := trodAll_cons r1
  obtain ⟨rfl, rfl, rfl⟩ := trodAll_nil r2
  obtain rfl : args = #[v0, v1, v2] := by cases args; simp_all
  have hb1 : Try.prog.bytesOf 5 = 1 := by kernel_rfl
  obtain ⟨A, n, c, xs, rfl, _, hx, hwx, hc, hn⟩ := open_sized hsz (j := 0) rfl rfl Try.underlying22 Try.underlying5 (by kernel_rfl) (hval 0 22 v0 rfl rfl) h0
  obtain ⟨B, m, d, ys, rfl, _, hy, hwy, hd, _⟩ := open_sized hsz (j := 1) rfl rfl Try.underlying22 Try.underlying5 (by kernel_rfl) (hval 1 22 v1 rfl rfl) h1
  obtain ⟨C, l, f, zs, rfl, _, hz, hwz, hf, _⟩ := open_sized hsz (j := 2) rfl rfl Try.underlying22 Try.underlying5 (by kernel_rfl) (hval 2 22 v2 rfl rfl) h2
  rw [hb1] at hn
  exact (walk A B C n m l c d f xs ys zs W hx (fun x hx => by have := bounds_u8 (hwx x hx); omega) hy (fun x hx => by have := bounds_u8 (hwy x hx); omega) hz (fun x hx => by have := bounds_u8 (hwz x hx); omega) hc hd hf (by omega)).mono fun e W' ⟨he, hb⟩ => ⟨_, he, hpost W' hb⟩

/-- The statement. -/
theorem proved : Rows.CrcLinearSaid :=
  OpenClaim.holds_of_wide 6 Try.f6 rfl rfl rfl rfl rfl rfl rfl ⟨rfl, rfl, rfl, rfl, rfl⟩ rfl rfl rfl rfl rfl (by kernel_rfl) Try.func6 (by kernel_rfl)
    (of_decide_eq_true (by kernel_rfl)) (by unfold Func.isWrapper; first | (rw [if_pos (by decide +kernel)]; kernel_rfl) | (rw [if_neg (by decide +kernel)]; exact ⟨rfl, rfl⟩))
    (fun os started H enc _ => lifted os started H enc)
#print axioms proved

end Go.Proofs.Ytfaoolkhepihkaa.crcLinear
