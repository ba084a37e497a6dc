/- CrcAll: the sum of any parts is that of all of them, one behind the other, and the table is the document's; for every list of texts of bulk at most 1048576 (the second form). -/
import Derived.Test.YtfaoolkhepihkaaCrcAllC
import Derived.Test.YtfaoolkhepihkaaOpen
import Derived.JoinedCond
namespace Go.Proofs.Ytfaoolkhepihkaa.crcAll
open Go.ChangeShapes Go.WideShapes Go.ChangeAt Go.RowKit

set_option maxRecDepth 100000 in
set_option maxHeartbeats 1600000 in
theorem walk (P : Option Addr) (m c : Nat) (L : List (List Int)) (w : World) (hp : Parts w P m L (fun b => w.heap.size ≤ b)) (hL : ∀ l ∈ L, ∀ x ∈ l, 0 ≤ x ∧ x < 256) (hl : L.flatten.length ≤ 1048576) (hmx : m ≤ maxLen) :
    Calls Try.prog 7 #[.slice P m c] w fun e w' => e = .returned (.bool true) ∧ Below w.heap.size w w' := by
  obtain ⟨i0, hi, hz0, hz1, hz2⟩ := info_parts Try.infoByteC
  unfold maxLen at hmx
  by_cases hm : m ≤ 60
  · have hg1 : ¬ (60 : Int) < m := by omega
    have HP := Lib.hid hp
    have HL := Lib.hid hL
    have Hlen := Lib.hid hp.len
    clear hp hL
    go_enter Try.func7, Try.ntmps7
    go_wp2_with fail
    go_loopw [3, 4] (fun a i wr => ∃ j : Nat, j ≤ m ∧ i = .int .i64 j ∧ Own wr 5 .u8 a (L.take j).flatten ∧ (∀ g, a.ownBlock = some g → w.heap.size ≤ g) ∧ Fresh w wr) (fun _ i _ => (m - intOf i).toNat)
    case atStart => exact ⟨0, by omega, rfl, by simpa using Own.nil _ _ _, (fun g e => by cases e), Kept.refl _ _⟩
    case round =>
      obtain ⟨j, hj, rfl, hown, hnew, hk⟩ := hrel
      have H := Lib.hid (And.intro hown (And.intro hnew hk))
      clear hown hnew hk
      by_cases hlt : j < m
      · obtain ⟨b, o, A, k, cA, rfl, hb, hfb, hc', hr', hA⟩ := HP.out.at_ j hlt
        have hc := (H.out.2.2.cell (p := ⟨b, o + j, none⟩) hb id).trans hc'
        have hr := hr'.kept H.out.2.2 (fun _ _ _ _ => id)
        have hjl : j < L.length := by rw [Hlen.out]; exact hlt
        have hlj := flat_le (L := L) hjl
        have hft := flat_take (L := L) hjl
        have hkl := hr.len
        generalize L.getD j [] = xj at *
        have Hft := Lib.hid hft
        have Hr := Lib.hid hr
        have Hb2 := Lib.hid hlj
        have Hkl := Lib.hid hkl
        have hij0 : (0 : Int) ≤ (j : Int) := by omega
        have hij1 : (j : Int) < (m : Int) := by omega
        clear hft hlj hr hr' hc' hkl hA hjl
        go_wp2_with (at_builtin; refine wpList_app _ rfl (.tmp 15) (.tmp 19) 22 rfl 5 i0 .u8 1 Try.underlying22 hi hz0 hz1 hz2 _ _ rfl H.out.1 A k cA _ rfl Hr.out (by unfold maxLen; have := Hb2.out; have := Hkl.out; omega) (by have := Hb2.out; have := Hkl.out; omega) ?_)
        intro va' w2 hown hg hat
        have hk2 : Fresh w w2 := H.out.2.2.grown hg (fun k e hk => by have := H.out.2.1 k e; omega)
        have hnew2 : ∀ g, va'.ownBlock = some g → w.heap.size ≤ g := by
          intro g e
          rcases hat with e' | e'
          · rw [e'] at e; exact H.out.2.1 g e
          · rw [e'] at e; injection e with e; have := H.out.2.2.size; omega
        rw [← Hft.out] at hown
        have H2 := Lib.hid (And.intro hown (And.intro hnew2 hk2))
        clear hown hg hat hk2 hnew2 hc
        go_wp2_with fail
        go_roundw
        case rel => exact ⟨j + 1, by omega, by go_num, H2.out.1, H2.out.2.1, H2.out.2.2⟩
        case measure => simp [intOf]; omega
      · obtain rfl : j = m := by omega
        have hown := H.out.1
        rw [List.take_of_length_le (by rw [Hlen.out]; omega)] at hown
        have hbf : Byt L.flatten := by
          intro x hx
          obtain ⟨l, h1, h2⟩ := List.mem_flatten.1 hx
          exact HL.out l h1 x h2
        have HAll := Lib.hid (fun W (hf : Fresh w W) => all_any P j c L W ((HP.out.kept hf (fun _ _ _ => id)).weaken (fun b hb => Nat.le_trans hf.size hb)) HL.out hl hm)
        have HT : Hid (∀ w, Calls Try.prog 17 #[] w fun e w' => e = .returned (.agg (tabC 256)) ∧ Fresh w w') := Lib.hid table_any
        have HR : Hid (∀ w, Calls Try.prog 18 #[] w fun e w' => e = .returned (.agg (tabC 256)) ∧ Fresh w w') := Lib.hid refTable_any
        have HE := Lib.hid run_eql_tab
        generalize tabC 256 = T at *
        generalize L.flatten = F at *
        obtain ⟨X, cx, hv, hrx, _⟩ := hown.row
        subst hv
        have HX := Lib.hid hrx
        have HBF := Lib.hid hbf
        have HK := Lib.hid H.out.2.2
        clear hown hrx hbf H
        go_wp2_with fail
        refine (cAwake_any _).mono ?_
        rintro e w1 ⟨rfl, hk1⟩
        have hrx1 := HX.out.kept hk1 (fun _ _ _ _ => id)
        have HK1 := Lib.hid (And.intro (HK.out.trans hk1 (fun _ _ h => h)) hrx1)
        clear hk1 hrx1 HX HK
        go_wp2_with fail
        refine (HAll.out _ HK1.out.1).mono ?_
        rintro e w2 ⟨rfl, hk2⟩
        have hrx2 := HK1.out.2.kept hk2 (fun _ _ _ _ => id)
        have HK2 := Lib.hid (And.intro (HK1.out.1.trans hk2 (fun _ _ h => h)) hrx2)
        clear hk2 hrx2 HK1
        go_wp2_with fail
        refine (refSum_any X _ cx F _ HK2.out.2 HBF.out (by omega)).mono ?_
        rintro e w3 ⟨rfl, rfl⟩
        go_wp2_with fail
        refine (all_any none 0 0 [] _ ⟨rfl, fun j hj => by omega⟩ (fun l hl => by cases hl) (by simp) (by omega)).mono ?_
        rintro e w4 ⟨rfl, hk4⟩
        rw [show crcOf 0 ([] : List (List Int)).flatten = 0 from crcOf_nil 0]
        have HK4 := Lib.hid (HK2.out.1.trans hk4 (fun _ _ h => h))
        clear hk4 HK2
        go_wp2_with fail
        refine (HT.out _).mono ?_
        rintro e w5 ⟨rfl, hk5⟩
        have HK5 := Lib.hid (HK4.out.trans hk5 (fun _ _ h => h))
        clear hk5 HK4
        go_wp2_with fail
        refine (HR.out _).mono ?_
        rintro e w6 ⟨rfl, hk6⟩
        have HK6 := Lib.hid (HK5.out.trans hk6 (fun _ _ h => h))
        clear hk6 HK5
        go_wp2_with (refine wpList_eql_by rfl (.tmp 34) (.tmp 35) 37 37 rfl _ _ _ rfl rfl (HE.out _ _ _) ?_)
        go_ret
        exact ⟨rfl, HK6.out.toBelow⟩
  · have hg1 : (60 : Int) < m := by omega
    go_enter Try.func7, Try.ntmps7
    go_wp2_with fail
    refine (cAwake_any _).mono ?_
    rintro e w' ⟨rfl, hk⟩
    go_wp2
    go_ret
    exact ⟨rfl, hk.toBelow⟩

theorem contract (H : Type) (enc : TypeId × Value → H) (W : World) (base : Nat) (args : Array Value) (ds gs : List (DataW H)) (before : List MemPlace)
    (hval0 : ∀ (j : Nat) t v, Try.f7.params[j]? = some t → args[j]? = some v → Value.okWide Try.prog W .any base t v)
    (hW : DataW.Whole enc Try.prog Try.f7.params.toList Rows.crcAllSpec.vars false W args.toList ds gs before) (hk : Rows.uptoSmall H (ds ++ gs) = true) :
    Calls Try.prog 7 args W fun e W' => ∃ v, e = .returned v ∧ Rows.crcAllSpec.post enc Try.prog Try.f7 false true false false W args v W' := by
  have hval : ∀ (j : Nat) t v, Try.f7.params[j]? = some t → args[j]? = some v → Value.okWide Try.prog W .any base t v := hval0
  have hpost : ∀ W', Below W.heap.size W W' → Rows.crcAllSpec.post enc Try.prog Try.f7 false true false false W args (.bool true) W' := fun W' hb =>
    law_post (by kernel_rfl) Try.underlying4 (by kernel_rfl) rfl (fun ds hl => match ds, hl with | [d1], _ => ⟨rfl, rfl, rfl⟩) hW hb
  obtain ⟨p, q, hA0, hV, rfl, hfz, hnd⟩ := hW
  have hA : DataW.TrodAll enc Try.prog W 0 (fun _ => true) true Try.f7.params.toList args.toList ds p := hA0
  rw [Try.params7] at hA hval
  obtain ⟨v0, vs0, d0, ds0, p0, q0, hargs, rfl, rfl, h0, r0⟩ := trodAll_cons hA
  obtain ⟨rfl, rfl, rfl⟩ := trodAll_nil r0
  obtain rfl : args = #[v0] := by cases args; simp_all
  obtain ⟨rfl, rfl⟩ := trodVars_none hV
  have hbulk : Rows.uptoBulkAll ([d0] ++ []) ≤ 1048576 := of_decide_eq_true hk
  simp only [List.append_nil, Rows.uptoBulkAll] at hbulk
  obtain ⟨P, m, c, L, rfl, hnil, hm, hp, hL, hlb⟩ := open_texts Try.underlying35 Try.underlying22 Try.underlying5 (by kernel_rfl) (by kernel_rfl) (hval 0 35 v0 rfl rfl) h0
  exact (walk P m c L W hp hL (by omega) hm).mono fun e W' ⟨he, hb⟩ => ⟨_, he, hpost W' hb⟩

set_option maxRecDepth 100000 in
theorem lifted (os : Os) (started : os.Started) (H : Type) (enc : TypeId × Value → H) (F : Stop.Interp) :
    ReturnsInHanded {} Try.checked os 7 .any ((Rows.OpenSpec.upto Rows.crcAllSpec).pre6 enc Try.prog Try.f7 Rows.crcAllUptoRow.domain false) (((Rows.OpenSpec.upto Rows.crcAllSpec).at F).post enc Try.prog Try.f7 false true false false) := by
  refine returnsInHanded_of_cond (C := Try.checked) (s := Rows.OpenSpec.upto Rows.crcAllSpec) (k := Rows.uptoSmall) rfl Try.own started (by kernel_rfl) Try.func7
    (OpenSpec.witness (enc := enc) (C := Try.checked) (s := Rows.OpenSpec.upto Rows.crcAllSpec) (k := Rows.uptoSmall) rfl false ⟨#[], #[.slice none 0 0], []⟩ 8 (by kernel_rfl) (by kernel_rfl) (by kernel_rfl)
      (x := ([.nil], [], [])) (by kernel_rfl) rfl (by kernel_rfl)) ?_
  intro W base args ds gs before hval hW _ hk _
  exact contract H enc W base args ds gs before hval hW hk

/-- The statement, in its second form. -/
theorem proved : Rows.CrcAllUptoSaid :=
  OpenClaim.holds_of_cond 7 Try.f7 rfl rfl rfl rfl rfl rfl rfl ⟨rfl, rfl, rfl, rfl, rfl⟩ rfl rfl rfl rfl rfl (by kernel_rfl) Try.func7 (by kernel_rfl)
    (of_decide_eq_true (by kernel_rfl)) (by unfold Func.isWrapper; first | (rw [if_pos (by decide +kernel)]; kernel_rfl) | (rw [if_neg (by decide +kernel)]; exact ⟨rfl, rfl⟩))
    (fun os started H enc _ F => lifted os started H enc F)
#print axioms proved

end Go.Proofs.Ytfaoolkhepihkaa.crcAll
