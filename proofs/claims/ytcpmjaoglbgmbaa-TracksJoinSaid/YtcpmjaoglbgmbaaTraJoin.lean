/- TracksJoin: the bytes of any tracks, or why there are none, are what the document says. -/
import Derived.Test.YtcpmjaoglbgmbaaTraAw
import Derived.Test.YtcpmjaoglbgmbaaHelpStr
import Derived.Test.YtcpmjaoglbgmbaaArgs
import Derived.Test.YtcpmjaoglbgmbaaListsArg
namespace Go.Proofs.Ytcpmjaoglbgmbaa.tracksJoin
open Go.ChangeShapes Go.WideShapes Go.ChangeAt Go.RowKit

attribute [local go_sem ↓] Go.wp_at_zero Go.wp_at_succ

theorem encT_b8 (bt v : Int) : B8 (encT bt v) := fun x hx => by
  unfold encT at hx
  split at hx
  · simp only [List.mem_singleton] at hx
    omega
  · simp only [List.mem_cons, List.not_mem_nil, or_false] at hx
    omega
theorem frmT_b8 (bt : Int) (T : Nat → List Int) (j : Nat) : ∀ k, B8 (frmT bt T j k)
  | 0 => fun x hx => by cases hx
  | k + 1 => fun x hx => by
    rw [frmT, List.mem_append] at hx
    exact hx.elim (frmT_b8 bt T j k x) (encT_b8 _ _ x)
theorem bysT_b8 (bt : Int) (n : Nat) (T : Nat → List Int) : ∀ j, B8 (bysT bt n T j)
  | 0 => fun x hx => by cases hx
  | j + 1 => fun x hx => by
    rw [bysT, List.mem_append] at hx
    exact hx.elim (bysT_b8 bt n T j x) (frmT_b8 bt T j n x)

/-- Bytes are told, and an error. -/
def ByO (w w' : World) (e : Ending) (kk : Int) (bs : List Int) : Prop := ∃ A c, e = .returned (.tuple #[.slice A bs.length c, .int .i64 kk]) ∧ Row w' .u8 A bs.length bs ∧ Fresh w w'
theorem ByO.yes {w w' : World} {e : Ending} {bt : Int} {n : Nat} {T : Nat → List Int} (h : JoinR w w' e bt n T) (hj : joinT bt n T) : ByO w w' e 0 (bysT bt n T (T 0).length) := by
  rcases h with ⟨_, u, rfl, hu⟩ | ⟨h, _⟩
  · obtain ⟨A, c, rfl, hA, _⟩ := hu.1.row
    exact ⟨A, c, rfl, hA, hu.2.2⟩
  · exact absurd hj h
theorem ByO.no {w w' : World} {e : Ending} {bt : Int} {n : Nat} {T : Nat → List Int} (h : JoinR w w' e bt n T) (hj : ¬ joinT bt n T) : ByO w w' e 4 [] := by
  rcases h with ⟨h, _⟩ | ⟨_, rfl, hf⟩
  · exact absurd h hj
  · exact ⟨none, 0, rfl, Row.empty _ _ _, hf⟩
theorem ByO.arg {w w' : World} {e : Ending} (h : e = .returned (.tuple #[.slice none 0 0, .int .i64 1]) ∧ Fresh w w') : ByO w w' e 1 [] := ⟨none, 0, h.1, Row.empty _ _ _, h.2⟩
/-- Both calls, whatever is asked. -/
def JoinS (bt : Int) (A : Option Addr) (n c : Nat) (w : World) (kk : Int) (bs : List Int) : Prop :=
  B8 bs ∧ bs.length ≤ 1073741824 ∧ ∀ V, Fresh w V →
    (Calls Try.prog 13 #[.int .i64 bt, .slice A n c] V fun e w' => ByO V w' e kk bs) ∧
    (Calls Try.prog 14 #[.int .i64 bt, .slice A n c] V fun e w' => ByO V w' e kk bs)
theorem b8_nil : B8 [] := fun x hx => by cases hx
theorem joinS (bt : Int) (A : Option Addr) (n c : Nat) (T : Nat → List Int) (w : World) (hr : Trs w A n T) (hf : Few n T) : ∃ kk bs, JoinS bt A n c w kk bs := by
  by_cases hfit : fitT n bt
  · have hn : 1 ≤ n ∧ n ≤ 8 := by unfold fitT at hfit; omega
    have hcs : ∀ V, Fresh w V → (Calls Try.prog 13 #[.int .i64 bt, .slice A n c] V fun e w' => JoinR V w' e bt n T) ∧ (Calls Try.prog 14 #[.int .i64 bt, .slice A n c] V fun e w' => JoinR V w' e bt n T) := fun V hV => by
      rcases hfit.2.2 with rfl | rfl
      · exact ⟨cJoin8_any A n c T V (hr.fresh hV) hn hf, qJoin8_any A n c T V (hr.fresh hV) hn hf⟩
      · exact ⟨cJoin16_any A n c T V (hr.fresh hV) hn hf, qJoin16_any A n c T V (hr.fresh hV) hn hf⟩
    by_cases hj : joinT bt n T
    · refine ⟨0, bysT bt n T (T 0).length, bysT_b8 _ _ _ _, ?_, fun V hV => ⟨(hcs V hV).1.mono fun _ _ h => ByO.yes h hj, (hcs V hV).2.mono fun _ _ h => ByO.yes h hj⟩⟩
      rw [bysT_length]
      have h0 := (hf 0 (by omega)).1
      have := Nat.mul_le_mul h0 (show n * wdT bt ≤ 8 * 2 from Nat.mul_le_mul hn.2 (wdT_pos bt).2)
      omega
    · exact ⟨4, [], b8_nil, by simp, fun V hV => ⟨(hcs V hV).1.mono fun _ _ h => ByO.no h hj, (hcs V hV).2.mono fun _ _ h => ByO.no h hj⟩⟩
  · exact ⟨1, [], b8_nil, by simp, fun V _ => ⟨(cJoinArg_any A n c bt V hfit).mono fun _ _ h => ByO.arg h, (qJoinArg_any A n c bt V hfit).mono fun _ _ h => ByO.arg h⟩⟩

set_option maxRecDepth 100000 in
set_option maxHeartbeats 3200000 in
theorem walk (bt : Int) (A : Option Addr) (n c : Nat) (T : Nat → List Int) (w : World) (hl : Conts w .i32 A n T) (_ : n ≤ maxLen) :
    Calls Try.prog 4 #[.int .i64 bt, .slice A n c] w fun e w' => e = .returned (.bool true) ∧ Below w.heap.size w w' := by
  by_cases hlong : 20 < n
  · have h1 : 20 < (n : Int) := by omega
    have HA := Lib.hid (awakeT_any w)
    clear hl
    go_enter Try.func4, Try.ntmps4
    go_wp2_with fail
    refine HA.out.mono ?_
    rintro e w1 ⟨rfl, hf⟩
    have HF := Lib.hid hf.toBelow
    clear hf HA
    go_wp2_with fail
    go_ret
    exact ⟨rfl, HF.out⟩
  · have h1 : ¬ 20 < (n : Int) := by omega
    have ht : Trs w A n T := fun i hi => by
      obtain ⟨b, o, B, m, c, e, hb, hc, hr, _⟩ := hl i hi
      exact ⟨b, o, B, m, c, e, hb, hc, hr⟩
    have HT := Lib.hid ht
    have H32 : Hid (∀ i, i < n → I32 (T i)) := Lib.hid fun i hi => by
      obtain ⟨b, o, B, m, c, e, hb, hc, hr, _, _, hw⟩ := hl i hi
      exact range_ints32 hw
    have HA : Hid (∀ V, Calls Try.prog 7 #[] V fun e w' => e = .returned (.bool true) ∧ Fresh V w') := Lib.hid awakeT_any
    clear hl ht
    go_enter Try.func4, Try.ntmps4
    go_wp2_with fail
    go_loopw [5] (fun i V => ∃ j : Nat, j ≤ n ∧ i = .int .i64 j ∧ V = w ∧ ∀ i, i < j → (T i).length ≤ 1000) (fun i _ => (n - intOf i).toNat)
    case atStart => exact ⟨0, by omega, rfl, rfl, fun i hi => absurd hi (Nat.not_lt_zero _)⟩
    case round =>
      obtain ⟨j, hj, rfl, rfl, hall⟩ := hrel
      have HL := Lib.hid hall
      clear hall
      by_cases hlt : j < n
      · obtain ⟨b1, o1, B1, m1, c1, rfl, hb1, hc1, hr1⟩ := HT.out j hlt
        have hm1 := hr1.len
        have ij : (j : Int) < (n : Int) := by omega
        clear hr1
        by_cases hmm : 1000 < m1
        · have hm2 : 1000 < (m1 : Int) := by omega
          go_wp2_with fail
          refine (HA.out _).mono ?_
          rintro e w1 ⟨rfl, hf⟩
          have HF := Lib.hid hf.toBelow
          clear hf
          go_wp2_with fail
          go_ret
          exact ⟨rfl, HF.out⟩
        · have hm2 : ¬ 1000 < (m1 : Int) := by omega
          have HM : Hid ((T j).length ≤ 1000) := Lib.hid (by omega)
          clear hm1
          go_wp2_with fail
          go_roundw
          case rel => exact ⟨j + 1, by omega, by go_num, trivial, fun i hi => by
            by_cases e : i = j
            · rw [e]
              exact HM.out
            · exact HL.out i (by omega)⟩
          case measure => simp [intOf]; omega
      · obtain rfl : j = n := by omega
        obtain ⟨kk, bs, hs⟩ := joinS bt A j c T wr HT.out (fun i hi => ⟨by have := HL.out i hi; omega, H32.out i hi⟩)
        have hbl := hs.2.1
        have HB := Lib.hid hs.1
        have HS := Lib.hid hs.2.2
        have HC := Lib.hid (HS.out wr (Kept.refl _ _)).1
        clear hs
        unfold ByO at HS HC
        go_wp2_with fail
        refine HC.out.mono ?_
        rintro e w2 ⟨A2, c2, rfl, hr2, hf2⟩
        have HF2 := Lib.hid hf2
        have HR2 := Lib.hid hr2
        have HC2 := Lib.hid (HS.out w2 hf2).2
        clear hr2 hf2 HC HS
        go_wp2_with fail
        refine HC2.out.mono ?_
        rintro e w3 ⟨A3, c3, rfl, hr3, hf3⟩
        have HF3 := Lib.hid (Fresh.two HF2.out hf3)
        have HR3 := Lib.hid (And.intro (HR2.out.fresh hf3) hr3)
        clear hr3 hf3 HC2 HF2 HR2
        go_wp2_with fail
        refine (HA.out w3).mono ?_
        rintro e w4 ⟨rfl, hf4⟩
        have HBy := Lib.hid (hBytes_any A2 A3 bs.length bs.length c2 c3 bs bs w4 (HR3.out.1.fresh hf4) (HR3.out.2.fresh hf4) HB.out HB.out)
        rw [show decide (bs = bs) = true from by simp] at HBy
        have HF4 := Lib.hid (Fresh.two HF3.out hf4).toBelow
        have hee : (kk == kk) = true := by simp
        clear hf4 HF3 HR3
        go_wp2_with fail
        refine HBy.out.mono ?_
        rintro e w5 ⟨rfl, rfl⟩
        clear HBy
        go_wp2_with fail
        go_ret
        exact ⟨rfl, HF4.out⟩

set_option maxRecDepth 100000 in
theorem lifted (os : Os) (started : os.Started) (H : Type) (enc : TypeId × Value → H) :
    ReturnsInHanded {} Try.checked os 4 .any (Rows.tracksJoinSpec.pre6 enc Try.prog Try.f4 Rows.tracksJoinRow.domain false) (Rows.tracksJoinSpec.post enc Try.prog Try.f4 false true false false) := by
  refine returnsInHanded_of_change (C := Try.checked) Try.own started (by kernel_rfl) Try.func4
    (ChangeSpec.witness6 (enc := enc) (C := Try.checked) false ⟨#[], #[.int .i64 0, .slice none 0 0], []⟩ 8 (by kernel_rfl) (by kernel_rfl) (by kernel_rfl) (by kernel_rfl)) ?_
  intro W base args ds gs before hval0 hW hcnd _
  have hval : ∀ (j : Nat) t v, Try.f4.params[j]? = some t → args[j]? = some v → Value.okWide Try.prog W .any base t v := hval0
  have hpost : ∀ W', Below W.heap.size W W' → Rows.tracksJoinSpec.post enc Try.prog Try.f4 false true false false W args (.bool true) W' := fun W' hb =>
    law_post (by kernel_rfl) Try.underlying4 (by kernel_rfl) rfl (fun ds hl => match ds, hl with | [d1, d2], _ => ⟨rfl, rfl, rfl⟩) hW hb
  obtain ⟨p, q, hA0, hV, rfl, hfz, hnd⟩ := hW
  have hA : DataW.TrodAll enc Try.prog W 0 (fun _ => true) true Try.f4.params.toList args.toList ds p := hA0
  rw [Try.params4] at hA hval
  obtain ⟨v0, vs0, d0, ds0, p0, q0, hargs, rfl, rfl, h0, r0⟩ := trodAll_cons hA
  obtain ⟨v1, vs1, d1, ds1, p1, q1, rfl, rfl, rfl, h1, r1⟩ := trodAll_cons r0
  obtain ⟨rfl, rfl, rfl⟩ := trodAll_nil r1
  obtain rfl : args = #[v0, v1] := by cases args; simp_all
  obtain ⟨a0, rfl, rfl, rfl, w0⟩ := open_int Try.underlying3 (hval 0 3 v0 rfl rfl) h0
  obtain ⟨A1, n1, c1, xs1, rfl, hz1, hn1, hc1, hl1⟩ := open_conts (k := .i32) Try.underlying25 Try.underlying32 Try.underlying21 (by kernel_rfl) (by kernel_rfl) (hval 1 25 v1 rfl rfl) h1
  refine (walk a0 A1 n1 c1 xs1 W hl1 hn1).mono fun e W' ⟨he, hb⟩ => ⟨_, he, hpost W' hb⟩

/-- The statement. -/
theorem proved : Rows.TracksJoinSaid :=
  OpenClaim.holds_of_wide 4 Try.f4 rfl rfl rfl rfl rfl rfl rfl ⟨rfl, rfl, rfl, rfl, rfl⟩ rfl rfl rfl rfl rfl (by kernel_rfl) Try.func4 (by kernel_rfl)
    (of_decide_eq_true (by kernel_rfl)) (by unfold Func.isWrapper; first | (rw [if_pos (by decide +kernel)]; kernel_rfl) | (rw [if_neg (by decide +kernel)]; exact ⟨rfl, rfl⟩))
    (fun os started H enc _ => lifted os started H enc)
#print axioms proved

end Go.Proofs.Ytcpmjaoglbgmbaa.tracksJoin
