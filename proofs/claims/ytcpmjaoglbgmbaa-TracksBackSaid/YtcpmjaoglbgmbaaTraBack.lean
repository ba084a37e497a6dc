/- TracksBack: what is split is joined, what is turned to its middle is turned back, of any bytes and numbers. -/
import Derived.Test.YtcpmjaoglbgmbaaTraAw
import Derived.Test.YtcpmjaoglbgmbaaHelpStr
import Derived.Test.YtcpmjaoglbgmbaaArgs
import Derived.Lib.MinMax
namespace Go.Proofs.Ytcpmjaoglbgmbaa.tracksBack
open Go.ChangeShapes Go.WideShapes Go.ChangeAt Go.RowKit

attribute [local go_sem ↓] Go.wp_at_zero Go.wp_at_succ

theorem run_slice_upto {P : Program} (t e : TypeId) (ht : P.underlying t = some (.slice e)) (hc : ∀ w, (sizeOf e).run P w = .ok 1 w) (A : Option Addr) (n c h : Nat) (hh : h ≤ c) (W : World) :
    (Instr.slice t (.slice A n c) none (some (.int .i64 (h : Int))) none).run P W = .ok (.slice A h c) W := by
  have he : P.elem t = e := by simp [Program.elem, ht]
  rw [run_slice_h W t A n c (by rw [he]; exact ht) .i64 (h : Int) (by omega) (by omega), he, hc]
  have h0 : ∀ a : Addr, a.add 0 = a := fun a => by unfold Addr.add; split <;> simp_all
  cases A <;> simp [Result.andThen, sliced, h0]
theorem back_l {k : Nat} {l r : List Int} (hl : l.length = k) (h1 : I32 l) (h2 : I32 r) : (tn k fun i => ltP ((tn k fun i => mdP (l.getD i 0) (r.getD i 0)).getD i 0) ((tn k fun i => sdP (l.getD i 0) (r.getD i 0)).getD i 0)) = l :=
  (tn_ext hl fun i hi => by rw [tn_getD hi, tn_getD hi, lt_md (h1.at_ i) (h2.at_ i)]).symm
theorem back_r {k : Nat} {l r : List Int} (hr : r.length = k) (h2 : I32 r) : (tn k fun i => rtP ((tn k fun i => mdP (l.getD i 0) (r.getD i 0)).getD i 0) ((tn k fun i => sdP (l.getD i 0) (r.getD i 0)).getD i 0)) = r :=
  (tn_ext hr fun i hi => by rw [tn_getD hi, tn_getD hi, rt_md (h2.at_ i)]).symm
theorem splitG (b : Int) (A : Option Addr) (cA c : Nat) (bs : List Int) (w : World) (hr : Row w .u8 A bs.length bs) (h8 : B8 bs) (hf : fitT c b) (hn : bs.length ≤ 16777216) (hca : bs.length ≤ cA) (hm : bs.length % (c * wdT b) = 0) :
    Calls Try.prog 9 #[.slice A bs.length cA, .int .i64 (c : Int), .int .i64 b] w fun e w' => SplT w w' e b bs c := by
  have hc : 1 ≤ c ∧ c ≤ 8 := by unfold fitT at hf; omega
  rcases hf.2.2 with rfl | rfl
  · exact cSplit8_any A cA c bs w hr h8 hc hn hca hm
  · exact cSplit16_any A cA c bs w hr h8 hc hn hca hm
theorem joinG (b : Int) (A : Option Addr) (n c : Nat) (T : Nat → List Int) (w : World) (hr : Trs w A n T) (hf : fitT n b) (hw : Few n T) :
    Calls Try.prog 13 #[.int .i64 b, .slice A n c] w fun e w' => JoinR w w' e b n T := by
  have hc : 1 ≤ n ∧ n ≤ 8 := by unfold fitT at hf; omega
  rcases hf.2.2 with rfl | rfl
  · exact cJoin8_any A n c T w hr hc hw
  · exact cJoin16_any A n c T w hr hc hw

set_option maxRecDepth 100000 in
set_option maxHeartbeats 6400000 in
theorem walk (A : Option Addr) (n cA : Nat) (xs : List Int) (ci bi : Int) (P : Option Addr) (p pc : Nat) (ls : List Int) (Q : Option Addr) (q qc : Nat) (rs : List Int) (w : World)
    (_ : A = none → cA = 0) (hr : Row w .u8 A n xs) (hb : ∀ x ∈ xs, 0 ≤ x ∧ x < 256) (_ : n ≤ maxLen) (hnc : n ≤ cA)
    (_ : P = none → pc = 0) (hl : Row w .i32 P p ls) (h1 : ∀ x ∈ ls, -2147483648 ≤ x ∧ x < 2147483648) (_ : p ≤ maxLen) (hpc : p ≤ pc)
    (_ : Q = none → qc = 0) (hq : Row w .i32 Q q rs) (h2 : ∀ x ∈ rs, -2147483648 ≤ x ∧ x < 2147483648) (_ : q ≤ maxLen) (hqc : q ≤ qc) :
    Calls Try.prog 6 #[.slice A n cA, .int .i64 ci, .int .i64 bi, .slice P p pc, .slice Q q qc] w fun e w' => e = .returned (.bool true) ∧ Below w.heap.size w w' := by
  by_cases hlong : 5000 < n ∨ 3000 < p ∨ 3000 < q
  · have HA := Lib.hid (awakeT_any w)
    have hcs : (5000 < (n : Int)) ∨ (¬ 5000 < (n : Int) ∧ 3000 < (p : Int)) ∨ (¬ 5000 < (n : Int) ∧ ¬ 3000 < (p : Int) ∧ 3000 < (q : Int)) := by omega
    clear hr hl hq h1 h2 hb hlong
    rcases hcs with k1 | ⟨k1, k2⟩ | ⟨k1, k2, k3⟩
    all_goals
      go_enter Try.func6, Try.ntmps6
      go_wp2_with fail
      refine HA.out.mono ?_
      rintro e w1 ⟨rfl, hf⟩
      have HF := Lib.hid hf.toBelow
      clear hf HA
      go_wp2_with fail
      go_ret
      exact ⟨rfl, HF.out⟩
  · have k1 : ¬ 5000 < (n : Int) := by omega
    have k2 : ¬ 3000 < (p : Int) := by omega
    have k3 : ¬ 3000 < (q : Int) := by omega
    obtain ⟨r8, hr8, e8⟩ := u64_mod ci 8 (by omega)
    obtain ⟨r2, hr2, e2⟩ := u64_mod bi 2 (by omega)
    obtain ⟨ch, hch⟩ : ∃ ch, ch = 1 + r8 := ⟨_, rfl⟩
    obtain ⟨b, hbi⟩ : ∃ b, b = 8 + 8 * r2 := ⟨_, rfl⟩
    have hfit : fitT (ch : Int) (b : Int) := by unfold fitT; omega
    have t1 : 1 + (r8 : Int) = (ch : Int) := by omega
    have t2 : 8 + 8 * (r2 : Int) = (b : Int) := by omega
    have hwd : 8 * wdT (b : Int) = b := by
      have : b = 8 ∨ b = 16 := by omega
      rcases this with e | e <;> rw [e] <;> rfl
    obtain ⟨m8, hm8⟩ : ∃ m8, m8 = ch * b := ⟨_, rfl⟩
    have hm : (ch : Int) * (b : Int) = (m8 : Int) := by rw [hm8]; simp
    obtain ⟨fr, hfr⟩ : ∃ fr, fr = ch * wdT (b : Int) := ⟨_, rfl⟩
    have hm8f : m8 = 8 * fr := by rw [hm8, hfr, ← hwd, hwd, Nat.mul_left_comm, hwd]
    have hfr8 : fr ≤ 16 ∧ 1 ≤ fr := by
      have := wdT_pos (b : Int)
      have h3 := Nat.mul_le_mul (show ch ≤ 8 by omega) this.2
      have h4 := Nat.mul_le_mul (show 1 ≤ ch by omega) this.1
      omega
    have hf8 : (m8 : Int) / 8 = (fr : Int) := by omega
    obtain ⟨qn, hqn⟩ : ∃ qn, qn = n / fr := ⟨_, rfl⟩
    have hq' : (n : Int) / (fr : Int) = (qn : Int) := by rw [hqn]; simp
    obtain ⟨ln, hln⟩ : ∃ ln, ln = qn * fr := ⟨_, rfl⟩
    have hl' : (qn : Int) * (fr : Int) = (ln : Int) := by rw [hln]; simp
    have lnle : ln ≤ n := by rw [hln, hqn]; exact Nat.div_mul_le_self _ _
    have qnle : qn ≤ n := by rw [hqn]; exact Nat.div_le_self _ _
    have g2 : (fr = 0) = False := by simp only [eq_iff_iff, iff_false]; omega
    have fr0 : (0 : Int) < (fr : Int) := by omega
    have ln0 : (0 : Int) ≤ (ln : Int) := by omega
    have ln1 : (ln : Int) ≤ 5000 := by omega
    have ch0 : (0 : Int) ≤ (ch : Int) := by omega
    have r80 : (0 : Int) ≤ (r8 : Int) := by omega
    have r20 : (0 : Int) ≤ (r2 : Int) := by omega
    obtain ⟨b01, b02⟩ : (0 : Int) ≤ (b : Int) ∧ (b : Int) ≤ 16 := by omega
    -- the bytes
    obtain ⟨bs, hbs⟩ : ∃ bs, bs = xs.take ln := ⟨_, rfl⟩
    have hbl : bs.length = ln := by rw [hbs, List.length_take, hr.len]; omega
    have hrt : Row w .u8 A ln bs := by rw [hbs]; exact hr.take lnle
    have h8 : B8 bs := by rw [hbs]; exact fun x hx => hb x (List.mem_of_mem_take hx)
    have hmz : bs.length % (ch * wdT (b : Int)) = 0 := by rw [hbl, hln, ← hfr]; exact Nat.mul_mod_left _ _
    have hrt' : Row w .u8 A bs.length bs := by rw [hbl]; exact hrt
    have HS := splitG (b : Int) A cA ch bs w hrt' h8 hfit (by omega) (by omega) hmz
    rw [hbl] at HS
    have HS := Lib.hid HS
    have HB := Lib.hid (And.intro h8 (And.intro hbl (And.intro hmz hrt)))
    have hjn := join_trk (bt := (b : Int)) (bs := bs) h8 hfit.2.2 (c := ch)
    have hby := bys_trk (bt := (b : Int)) (bs := bs) h8 hfit.2.2 (c := ch) hmz
    have hfew : Few ch (trkT (b : Int) bs ch) := fun i _ => ⟨by rw [trkT_length]; exact Nat.le_trans (Nat.div_le_self _ _) (by omega), I32.tn fun j _ => okT_32 (smpT_ok h8 hfit.2.2 _)⟩
    rw [← trkT_length (b : Int) bs ch 0] at hby
    have HJ := Lib.hid (And.intro hjn (And.intro hby (And.intro hfew hfit)))
    -- the numbers
    obtain ⟨k, hk⟩ : ∃ k, k = min p q := ⟨_, rfl⟩
    have hkm : min (p : Int) (q : Int) = (k : Int) := by omega
    have hkp : k ≤ p := by omega
    have hkq : k ≤ q := by omega
    have hk3 : k ≤ 3000 := by omega
    have hkl := hl.take hkp
    have hkr := hq.take hkq
    have i1 : I32 (ls.take k) := fun x hx => h1 x (List.mem_of_mem_take hx)
    have i2 : I32 (rs.take k) := fun x hx => h2 x (List.mem_of_mem_take hx)
    have HN := Lib.hid (And.intro hkl (And.intro hkr (And.intro i1 i2)))
    have hs1 : ∀ W, (Instr.slice 22 (.slice A n cA) none (some (.int .i64 (ln : Int))) none).run Try.prog W = .ok (.slice A ln cA) W := fun W => by
      obtain ⟨i0, hi, hz0, hz1, hz2⟩ := info_parts Try.infoTr1
      exact run_slice_upto 22 5 Try.underlying22 (fun w => by simp [sizeOf, typeInfo, hi, hz1]) A n cA ln (by omega) W
    have hs2 : ∀ W, (Instr.slice 32 (.slice P p pc) none (some (.int .i64 (k : Int))) none).run Try.prog W = .ok (.slice P k pc) W := fun W => by
      obtain ⟨i0, hi, hz0, hz1, hz2⟩ := info_parts Try.infoTr4
      exact run_slice_upto 32 21 Try.underlying32 (fun w => by simp [sizeOf, typeInfo, hi, hz1]) P p pc k (by omega) W
    have hs3 : ∀ W, (Instr.slice 32 (.slice Q q qc) none (some (.int .i64 (k : Int))) none).run Try.prog W = .ok (.slice Q k qc) W := fun W => by
      obtain ⟨i0, hi, hz0, hz1, hz2⟩ := info_parts Try.infoTr4
      exact run_slice_upto 32 21 Try.underlying32 (fun w => by simp [sizeOf, typeInfo, hi, hz1]) Q q qc k (by omega) W
    have hself : ((ch : Int) != (ch : Int)) = false := by simp
    have kk0 : (0 : Int) ≤ (k : Int) := by omega
    clear hr hl hq h1 h2 hb hrt hrt' h8 hmz hjn hby hfew hkl hkr i1 i2 hbl hbs hk hqn hln hm8 hfr hch hbi hwd hm8f hlong hfit
    go_enter Try.func6, Try.ntmps6
    go_wp2_with fail
    refine HS.out.mono ?_
    rintro e w1 ⟨g, cap, V, rfl, hbg, hf1⟩
    have HJn := Lib.hid (joinG (b : Int) (some ⟨g, 0, none⟩) ch cap (trkT (b : Int) bs ch) w1 hbg.trs HJ.out.2.2.2 HJ.out.2.2.1)
    have HF1 := Lib.hid hf1
    clear hbg hf1 HS
    go_wp2_with fail
    refine HJn.out.mono ?_
    rintro e w2 hj2
    rcases hj2 with ⟨_, u, rfl, hu⟩ | ⟨hno, _⟩
    rotate_left
    · exact absurd HJ.out.1 hno
    rw [HJ.out.2.1] at hu
    obtain ⟨A2, c2, rfl, hr2, _⟩ := hu.1.row
    rw [HB.out.2.1] at hr2 ⊢
    have HF2 := Lib.hid (Fresh.two HF1.out hu.2.2)
    have HR2 := Lib.hid hr2
    have HA := Lib.hid (awakeT_any w2)
    clear hu hr2 HJn
    go_wp2_with fail
    refine HA.out.mono ?_
    rintro e w3 ⟨rfl, hf3⟩
    have HF3 := Lib.hid (Fresh.two HF2.out hf3)
    have HBy := Lib.hid (hBytes_any A A2 ln ln cA c2 bs bs w3 (HB.out.2.2.2.fresh HF3.out) (HR2.out.fresh hf3) HB.out.1 HB.out.1)
    rw [show decide (bs = bs) = true from by simp] at HBy
    clear hf3 HA HR2
    go_wp2_with fail
    refine HBy.out.mono ?_
    rintro e w4 ⟨rfl, rfl⟩
    clear HBy
    have HFd : Hid (∀ m, Fresh w (w3.drewN m)) := Lib.hid fun m => HF3.out.drewN m
    have HM : Hid (∀ m, Calls Try.prog 16 #[.slice P k pc, .slice Q k qc] (w3.drewN m) fun e w' => Two (w3.drewN m) w' e (tn k fun i => mdP ((ls.take k).getD i 0) ((rs.take k).getD i 0)) (tn k fun i => sdP ((ls.take k).getD i 0) ((rs.take k).getD i 0))) := Lib.hid fun m => cMid_any P Q k pc qc (ls.take k) (rs.take k) (w3.drewN m) (HN.out.1.fresh (HF3.out.drewN m)) (HN.out.2.1.fresh (HF3.out.drewN m)) HN.out.2.2.1 HN.out.2.2.2 (by omega)
    go_wp2_with fail
    go_region_held3 (fun _ => True) (first | go_keep | exact True.intro)
      (first
        | (go_at_call 16; refine (HM.out 1).mono ?_; rintro e5 w5 ⟨u5, v5, rfl, hu5, hv5, _⟩))
    have hn1 : ((ls.take k)).length = k := HN.out.1.len
    have hn2 : ((rs.take k)).length = k := HN.out.2.1.len
    have b1 := back_l hn1 HN.out.2.2.1 HN.out.2.2.2
    have b2 := back_r (l := ls.take k) hn2 HN.out.2.2.2
    have i5 : I32 (tn k fun i => mdP ((ls.take k).getD i 0) ((rs.take k).getD i 0)) := I32.tn fun _ _ => w32_in _
    have i6 : I32 (tn k fun i => sdP ((ls.take k).getD i 0) ((rs.take k).getD i 0)) := I32.tn fun _ _ => w32_in _
    obtain ⟨A5, c5, rfl, hA5, _⟩ := hu5.1.row
    obtain ⟨B5, d5, rfl, hB5, _⟩ := hv5.1.row
    rw [tn_length] at hA5 hB5
    simp only [tn_length]
    have HF5 := Lib.hid (Fresh.two (HF3.out.drewN 1) hu5.2.2)
    have HU := cUnmid_any A5 B5 k c5 d5 _ _ w5 hA5 hB5 i5 i6 (by omega)
    rw [b1, b2] at HU
    have HU := Lib.hid HU
    clear hu5 hv5 hA5 hB5 b1 b2 i5 i6 hn1 hn2 HM HFd HF3
    go_wp2_with fail
    refine HU.out.mono ?_
    rintro e w6 ⟨u6, v6, rfl, hu6, hv6, _⟩
    obtain ⟨A6, c6, rfl, hA6, _⟩ := hu6.1.row
    obtain ⟨B6, d6, rfl, hB6, _⟩ := hv6.1.row
    have hn1 : ((ls.take k)).length = k := HN.out.1.len
    have hn2 : ((rs.take k)).length = k := HN.out.2.1.len
    rw [hn1] at hA6
    rw [hn2] at hB6
    simp only [hn1, hn2]
    have HF6 := Lib.hid (Fresh.two HF5.out hu6.2.2)
    have HP1 := Lib.hid (hPlainInt32_any A6 P k k c6 pc _ _ w6 hA6 (HN.out.1.fresh HF6.out) (by omega) (by omega))
    rw [show decide (ls.take k = ls.take k) = true from by simp] at HP1
    have HP2 : Hid (∀ m, Calls Try.prog 20 #[.slice B6 k d6, .slice Q k qc] (w6.drewN m) fun e w' => e = .returned (.bool true) ∧ ∃ j, w' = (w6.drewN m).drewN j) := Lib.hid fun m => by
      have := hPlainInt32_any B6 Q k k d6 qc _ _ (w6.drewN m) (hB6.drewN m) ((HN.out.2.1.fresh HF6.out).drewN m) (by omega) (by omega)
      rwa [show decide (rs.take k = rs.take k) = true from by simp] at this
    clear hu6 hv6 hA6 hB6 hn1 hn2 HU HF5
    go_wp2_with fail
    refine HP1.out.mono ?_
    rintro e w7 ⟨rfl, j7, rfl⟩
    clear HP1
    go_wp2_with fail
    refine (HP2.out j7).mono ?_
    rintro e w8 ⟨rfl, j8, rfl⟩
    have HL := Lib.hid (HF6.out.drewN (j7 + j8)).toBelow
    clear HP2 HF6
    go_wp2_with fail
    go_ret
    exact ⟨rfl, HL.out⟩

set_option maxRecDepth 100000 in
theorem lifted (os : Os) (started : os.Started) (H : Type) (enc : TypeId × Value → H) :
    ReturnsInHanded {} Try.checked os 6 .any (Rows.tracksBackSpec.pre6 enc Try.prog Try.f6 Rows.tracksBackRow.domain false) (Rows.tracksBackSpec.post enc Try.prog Try.f6 false true false false) := by
  refine returnsInHanded_of_change (C := Try.checked) Try.own started (by kernel_rfl) Try.func6
    (ChangeSpec.witness6 (enc := enc) (C := Try.checked) false ⟨#[], #[.slice none 0 0, .int .i64 0, .int .i64 0, .slice none 0 0, .slice none 0 0], []⟩ 8 (by kernel_rfl) (by kernel_rfl) (by kernel_rfl) (by kernel_rfl)) ?_
  intro W base args ds gs before hval0 hW hcnd _
  have hval : ∀ (j : Nat) t v, Try.f6.params[j]? = some t → args[j]? = some v → Value.okWide Try.prog W .any base t v := hval0
  have hpost : ∀ W', Below W.heap.size W W' → Rows.tracksBackSpec.post enc Try.prog Try.f6 false true false false W args (.bool true) W' := fun W' hb =>
    law_post (by kernel_rfl) Try.underlying4 (by kernel_rfl) rfl (fun ds hl => match ds, hl with | [d1, d2, d3, d4, d5], _ => ⟨rfl, rfl, rfl⟩) hW hb
  obtain ⟨p, q, hA0, hV, rfl, hfz, hnd⟩ := hW
  have hA : DataW.TrodAll enc Try.prog W 0 (fun _ => true) true Try.f6.params.toList args.toList ds p := hA0
  rw [Try.params6] at hA hval
  obtain ⟨v0, vs0, d0, ds0, p0, q0, hargs, rfl, rfl, h0, r0⟩ := trodAll_cons hA
  obtain ⟨v1, vs1, d1, ds1, p1, q1, rfl, rfl, rfl, h1, r1⟩ := trodAll_cons r0
  obtain ⟨v2, vs2, d2, ds2, p2, q2, rfl, rfl, rfl, h2, r2⟩ := trodAll_cons r1
  obtain ⟨v3, vs3, d3, ds3, p3, q3, rfl, rfl, rfl, h3, r3⟩ := trodAll_cons r2
  obtain ⟨v4, vs4, d4, ds4, p4, q4, rfl, rfl, rfl, h4, r4⟩ := trodAll_cons r3
  obtain ⟨rfl, rfl, rfl⟩ := trodAll_nil r4
  obtain rfl : args = #[v0, v1, v2, v3, v4] := by cases args; simp_all
  obtain ⟨A0, n0, c0, xs0, rfl, hz0, hr0, hb0, hn0, hc0⟩ := open_rowc Try.underlying22 Try.underlying5 (by kernel_rfl) (hval 0 22 v0 rfl rfl) h0
  obtain ⟨a1, rfl, rfl, rfl, w1⟩ := open_int Try.underlying3 (hval 1 3 v1 rfl rfl) h1
  obtain ⟨a2, rfl, rfl, rfl, w2⟩ := open_int Try.underlying3 (hval 2 3 v2 rfl rfl) h2
  obtain ⟨A3, n3, c3, xs3, rfl, hz3, hr3, hb3, hn3, hc3⟩ := open_rowc Try.underlying32 Try.underlying21 (by kernel_rfl) (hval 3 32 v3 rfl rfl) h3
  obtain ⟨A4, n4, c4, xs4, rfl, hz4, hr4, hb4, hn4, hc4⟩ := open_rowc Try.underlying32 Try.underlying21 (by kernel_rfl) (hval 4 32 v4 rfl rfl) h4
  refine (walk A0 n0 c0 xs0 a1 a2 A3 n3 c3 xs3 A4 n4 c4 xs4 W hz0 hr0 (range_bytes hb0) hn0 hc0 hz3 hr3 (range_ints32 hb3) hn3 hc3 hz4 hr4 (range_ints32 hb4) hn4 hc4).mono fun e W' ⟨he, hb⟩ => ⟨_, he, hpost W' hb⟩

/-- The statement. -/
theorem proved : Rows.TracksBackSaid :=
  OpenClaim.holds_of_wide 6 Try.f6 rfl rfl rfl rfl rfl rfl rfl ⟨rfl, rfl, rfl, rfl, rfl⟩ rfl rfl rfl rfl rfl (by kernel_rfl) Try.func6 (by kernel_rfl)
    (of_decide_eq_true (by kernel_rfl)) (by unfold Func.isWrapper; first | (rw [if_pos (by decide +kernel)]; kernel_rfl) | (rw [if_neg (by decide +kernel)]; exact ⟨rfl, rfl⟩))
    (fun os started H enc _ => lifted os started H enc)
#print axioms proved

end Go.Proofs.Ytcpmjaoglbgmbaa.tracksBack
