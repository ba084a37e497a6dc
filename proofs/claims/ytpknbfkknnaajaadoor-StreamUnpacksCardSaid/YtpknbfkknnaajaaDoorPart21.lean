/- Texts of this proof, one behind the other: Zeros, StrF, Law. -/
import Derived.Test.YtpknbfkknnaajaaDoorPart2
import Derived.OwnWalk
import Derived.Test.YtpknbfkknnaajaaDoorPart20
import Derived.ProofKit
import Derived.OpenShut
import Derived.Deep.Slices
import Derived.Deep.Fields

/- make of a list of numbers: all zeros; a store into a list of one's own. -/
namespace Go.Proofs.YtpknbfkknnaajaaDoor
open Go.RowKit

theorem made_zeros (k : IntKind) (n : Nat) : (madeCells #[Value.int k 0] n).toList = ivs k (List.replicate n 0) := by
  simp only [madeCells, ivs]
  apply List.ext_getElem <;> simp [Nat.mod_one]

theorem wpList_make_zeros {P : Program} (w : World) {ops : Array Oper} {rest : List Oper} {o : Oper} {a : Act} {Q : Exit → Act → World → Prop}
    (hg : o.guard = none) (l c : Operand) (t : TypeId) (hop : o.op = Op.makeSlice t l c)
    (e : TypeId) (i : TypeInfo) (k : IntKind) (bytes : Nat) (h1 : P.underlying t = some (.slice e)) (h2 : P.info? e = some i) (h3 : i.zero = some (.int k 0)) (h4 : i.size = 1) (h5 : i.bytes = bytes)
    (kl kc : IntKind) (L C : Int) (n : Nat) (hl : a.eval l = .int kl L) (hc : a.eval c = .int kc C) (hL : L = (n : Int)) (hC : C = (n : Int)) (b2 : bytes * n ≤ 281474976710656) (b3 : n ≤ maxLen)
    (hK : ∀ w', Own w' e k (.slice (some ⟨w.heap.size, 0, none⟩) n n) (List.replicate n 0) → Fresh w w' → wpList P ops Q rest (a.put o.dst (.slice (some ⟨w.heap.size, 0, none⟩) n n)) w') :
    wpList P ops Q (o :: rest) a w := by
  refine wpList_make_full w hg l c t hop 0 e i (.int k 0) 1 h1 h2 h3 h4 kl kc L C n hl hc hL hC (by rw [h5]; exact b2) b3 (by omega) ?_
  intro w' ho hgr
  rw [Nat.mul_one, show (Value.int k 0).cells = #[Value.int k 0] from rfl, made_zeros] at ho
  refine hK w' ?_ ((Kept.refl _ _).grown hgr (fun k e _ => by cases e))
  unfold Own
  rw [List.length_replicate]
  exact ho

theorem Own.storeN {w : World} {e : TypeId} {k : IntKind} {b n c : Nat} {xs : List Int} (h : Own w e k (.slice (some ⟨b, 0, none⟩) n c) xs) (hn : xs.length = n) (j : Nat) (x : Int) :
    Own (w.setCell ⟨b, j, none⟩ (.int k x)) e k (.slice (some ⟨b, 0, none⟩) n c) (xs.set j x) := by
  subst hn
  exact Own.stored h j x
theorem Own.cellN {w : World} {e : TypeId} {k : IntKind} {b n c : Nat} {xs : List Int} (h : Own w e k (.slice (some ⟨b, 0, none⟩) n c) xs) (hn : xs.length = n) {j : Nat} (hj : j < n) : w.cell? ⟨b, j, none⟩ = some (.int k (xs.getD j 0)) := by
  subst hn
  exact Own.cell h hj
theorem Own.frozenN {w : World} {e : TypeId} {k : IntKind} {b n c : Nat} {xs : List Int} (h : Own w e k (.slice (some ⟨b, 0, none⟩) n c) xs) (hn : xs.length = n) (j : Nat) : w.frozen? ⟨b, j, none⟩ = false := by
  subst hn
  exact Own.frozen h j
theorem set_next (xs : List Int) (m i : Nat) (x : Int) (hi : xs.length = i) (h : i < m) : (xs ++ List.replicate (m - i) 0).set i x = (xs ++ [x]) ++ List.replicate (m - (i + 1)) 0 := by
  subst hi
  obtain ⟨r, hr⟩ : ∃ r, m - xs.length = r + 1 := ⟨m - xs.length - 1, by omega⟩
  rw [hr, show m - (xs.length + 1) = r by omega, List.replicate_succ, List.append_assoc, List.set_append_right _ _ (by omega), Nat.sub_self]
  rfl
/-- The slice of one number that 'append(v, x)' builds. -/
theorem Row.one (w : World) (e : TypeId) (k : IntKind) (x : Int) : Row (w.alloc (.cells #[.int k x] e)) k (some ⟨w.heap.size, 0, none⟩) 1 [x] :=
  ⟨rfl, fun j hj => ⟨w.heap.size, 0, rfl, by simp, by
    obtain rfl : j = 0 := by omega
    exact (Blk.new w e #[.int k x]).cell 0⟩⟩
end Go.Proofs.YtpknbfkknnaajaaDoor

/- The code's Unpack. -/
namespace Go.Proofs.YtpknbfkknnaajaaDoor
set_option maxRecDepth 100000
open Go.RowKit

attribute [local go_sem ↓] Go.wp_at_zero Go.wp_at_succ

set_option maxHeartbeats 400000 in
theorem equal_any (A B : Option Addr) (n m c d : Nat) (xs ys : List Int) (w : World) (ha : Row w .u8 A n xs) (hb : Row w .u8 B m ys) (hx : ∀ c ∈ xs, 0 ≤ c ∧ c < 256) (hy : ∀ c ∈ ys, 0 ≤ c ∧ c < 256) :
    Calls Tryd.prog 31 #[.slice A n c, .slice B m d] w fun e w' => e = .returned (.bool (decide (xs = ys))) ∧ w = w' := by
  have h1 := row_string ha c
  have h2 := row_string hb d
  have hd := str_dec hx hy
  have Hd := Lib.hid hd
  clear ha hb hx hy hd
  go_enter Tryd.func31, Tryd.ntmps31
  go_wp2
  go_ret
  exact ⟨ret_bool (by rw [← Hd.out]), rfl⟩

/-- What Unpack answers, of m bytes. -/
def UnP (w w' : World) (e : Ending) (lv : Nat) (xs : List Int) (m : Nat) : Prop :=
  ∃ u, e = .returned (.tuple #[u, .int .i64 (if okB lv xs m then 0 else 4)]) ∧ NewRow w w' 5 .u8 u (if okB lv xs m then outB lv xs m else [])

theorem past_zero {lv : Nat} {xs : List Int} {t m : Nat} (h : okB lv xs m) (ht : t ≤ 8 * m) : pastN xs (decT lv xs t).p = 0 := by
  have := ok_past h ht
  unfold pastN
  omega
theorem UnP.not {w w' : World} {lv m : Nat} {xs : List Int} (h : ¬ okB lv xs m) (hf : Fresh w w') : UnP w w' (.returned (.tuple #[.slice none 0 0, .int .i64 4])) lv xs m := by
  refine ⟨_, by rw [if_neg h], ?_⟩
  rw [if_neg h]
  exact ⟨Own.nil _ _ _, fun k e => (by cases e), hf⟩

set_option maxHeartbeats 3200000 in
/-- Unpack: P9.2. -/
theorem cUnpack_any (b o n c : Nat) (xs : List Int) (m lv : Nat) (w : World) (hk : Kin w) (hr : Row w .u8 (some ⟨b, o, none⟩) n xs) (hby : ∀ x ∈ xs, 0 ≤ x ∧ x < 256) (hn : n ≤ 1000000000) (hm : m ≤ 1048576) (hl : lv ≤ 2) :
    Calls Tryd.prog 14 #[.slice (some ⟨b, o, none⟩) n c, .int .i64 m, .int .i64 lv] w fun e w' => UnP w w' e lv xs m := by
  obtain ⟨i0, hi, hz0, hz1, hz2⟩ := info_parts Tryd.infoByteC
  have HR := Lib.hid hr
  have HAl := Lib.hid (allowed_any (m : Int) (lv : Int) w)
  rw [if_neg (by omega), if_neg (by omega)] at HAl
  have HN := Lib.hid (cNewUnpacker_any b o n c xs lv w hk hl hr hn hby)
  have m0 : (0 : Int) ≤ (m : Int) := by omega
  have HKP := Lib.hid hk.pos
  clear hr hk
  go_enter Tryd.func14, Tryd.ntmps14
  go_wp2_with fail
  refine HAl.out.mono ?_
  rintro e w1 ⟨rfl, rfl⟩
  clear HAl
  go_wp2_with fail
  refine HN.out.mono ?_
  rintro e w2 ⟨gd, ge, gm, B, cB, rfl, hp, hf⟩
  have hs2 := hf.size
  have hkin := hp.kin
  have hbx := Blk.new w2 54 #[.pointer (some ⟨gd, 0, none⟩), .pointer (some ⟨ge, 0, none⟩), .pointer (some ⟨gm, 0, none⟩)]
  have hfa : Fresh w2 (w2.alloc (.cells #[.pointer (some ⟨gd, 0, none⟩), .pointer (some ⟨ge, 0, none⟩), .pointer (some ⟨gm, 0, none⟩)] 54)) := (Kept.refl _ _).alloc _
  have hsz : (w2.alloc (.cells #[.pointer (some ⟨gd, 0, none⟩), .pointer (some ⟨ge, 0, none⟩), .pointer (some ⟨gm, 0, none⟩)] 54)).heap.size = w2.heap.size + 1 := alloc_size _ _
  have h1 : UpA (fun k => k < w.heap.size ∨ k = w2.heap.size) (w2.alloc (.cells #[.pointer (some ⟨gd, 0, none⟩), .pointer (some ⟨ge, 0, none⟩), .pointer (some ⟨gm, 0, none⟩)] 54)) gd ge gm lv (.slice none 0 0) B cB xs (decT lv xs 0) (decT lv xs 0).L :=
    hp.move hfa (fun k e => e.elim (fun e => ⟨by omega, .inl e⟩) (fun e => ⟨by omega, .inr (by omega)⟩)) (.inl hkin)
  have hf1 : Fresh w (w2.alloc (.cells #[.pointer (some ⟨gd, 0, none⟩), .pointer (some ⟨ge, 0, none⟩), .pointer (some ⟨gm, 0, none⟩)] 54)) := hf.trans hfa (fun _ _ h => h)
  have HP := Lib.hid (And.intro h1 (And.intro hbx (And.intro hf1 (And.intro hsz hs2))))
  clear hp hf HN h1 hbx hf1 hfa hsz hs2
  go_wp2_with (at_make; refine wpList_make_zeros _ rfl _ _ 22 rfl 5 i0 .u8 1 Tryd.underlying22 hi hz0 hz1 hz2 _ _ _ _ m rfl rfl (by omega) (by omega) (by omega) (by unfold maxLen; omega) ?_)
  intro w4 ho4 hf4
  have ho5 : Own w4 5 .u8 (.slice (some ⟨w2.heap.size + 1, 0, none⟩) m m) (outB lv xs 0 ++ List.replicate (m - 0) 0) := by
    simpa [outB] using ho4
  obtain ⟨h1, hbx, hf1, hsz, hs2⟩ := HP.out
  have hs4 := hf4.size
  have hkin := h1.kin
  have h5 : UpA (fun k => k < w.heap.size ∨ k = w2.heap.size ∨ k = w2.heap.size + 1) w4 gd ge gm lv (.slice none 0 0) B cB xs (decT lv xs 0) (decT lv xs 0).L := by
    have hlt := ho5.lt (g := w2.heap.size + 1) rfl
    refine h1.move hf4 (fun k e => ?_) (hkin.elim .inl (fun e => .inr (.inl e)))
    rcases e with e | e | e
    · exact ⟨by omega, .inl (.inl e)⟩
    · exact ⟨by omega, .inl (.inr e)⟩
    · exact ⟨by omega, .inr (by omega)⟩
  have hkp := HKP.out
  have H5 := Lib.hid (And.intro h5 (And.intro (hbx.kept hf4 id) (And.intro (hf1.trans hf4 (fun _ _ h => h)) (And.intro ho5 (And.intro hs2 hkp)))))
  clear h5 ho5 ho4 hf4 hs4 hkin h1 hbx hf1 hsz hs2 hkp HP
  go_wp2_with fail
  generalize hb0 : w2.heap.size = b0 at *
  generalize hgb : b0 + 1 = gb at *
  have HG := Lib.hid hgb
  clear hgb hb0
  go_loopw [25, 11] (fun i _ wr => ∃ (a : Nat) (v : Value), a ≤ m ∧ i = .int .i64 a ∧ UpA (fun k => k < w.heap.size ∨ k = b0 ∨ k = gb) wr gd ge gm lv v B cB xs (decT lv xs (8 * a)) (decT lv xs (8 * a)).L ∧ Blk wr b0 54 #[.pointer (some ⟨gd, 0, none⟩), .pointer (some ⟨ge, 0, none⟩), .pointer (some ⟨gm, 0, none⟩)] ∧ Fresh w wr ∧ Own wr 5 .u8 (.slice (some ⟨gb, 0, none⟩) m m) (outB lv xs a ++ List.replicate (m - a) 0)) (fun i _ _ => (m - intOf i).toNat)
  case atStart => exact ⟨0, _, by omega, rfl, H5.out.1, H5.out.2.1, H5.out.2.2.1, H5.out.2.2.2.1⟩
  case round =>
    obtain ⟨a, v, ha, rfl, hp, hbx, hf, ho⟩ := hrel
    have c0 := hbx.cell 0
    have c1 := hbx.cell 1
    have c2 := hbx.cell 2
    simp only [List.getElem?_toArray, List.getElem?_cons_zero, List.getElem?_cons_succ] at c0 c1 c2
    have hol : (outB lv xs a ++ List.replicate (m - a) 0).length = m := by rw [List.length_append, outB_len, List.length_replicate]; omega
    have hb0s := hbx.lt
    have hgbs := ho.lt (g := gb) rfl
    have hws := hf.size
    have hb5 := H5.out.2.2.2.2.1
    have hg5 := HG.out
    by_cases hlt : a < m
    · have a0 : (a : Int) < (m : Int) := by omega
      have HT := Lib.hid (cTake_any _ gd ge gm lv cB v B xs (8 * a) wr hp (fun k e => by rcases e with e | e | e <;> omega) (by omega))
      have HX := Lib.hid (And.intro hbx (And.intro hf (And.intro ho hol)))
      clear hp hbx hf ho hol
      go_wp2_with fail
      refine HT.out.mono ?_
      rintro e5 w5 ⟨rfl, v5, hp5, hk5⟩
      have ho5 := HX.out.2.2.1.kept hk5 (fun g e e2 => e2 (by injection e with e; exact .inr (.inr e.symm)))
      have cg := ho5.cellN HX.out.2.2.2 hlt
      have fg := ho5.frozenN HX.out.2.2.2 a
      have hb5' := HX.out.1.kept hk5 (fun e => e (.inr (.inl rfl)))
      have hf5 := HX.out.2.1.trans hk5 (fun k hk e => e (.inl hk))
      have H6 := Lib.hid (And.intro hp5 (And.intro ho5 (And.intro hb5' hf5)))
      have hws5 := hf5.size
      have hpos5 := H5.out.2.2.2.2.2
      have hstep := outB lv xs (a + 1)
      have hset := set_next (outB lv xs a) m a (ofB 0 (moreB lv xs (8 * a) 8) : Nat) (outB_len lv xs a) hlt
      have ho6 := ho5.storeN HX.out.2.2.2 a (ofB 0 (moreB lv xs (8 * a) 8) : Nat)
      rw [hset] at ho6
      have hks : Kept (fun k => k = gb) w5 (w5.setCell ⟨gb, a, none⟩ (.int .u8 (ofB 0 (moreB lv xs (8 * a) 8) : Nat))) := Kept.one _ _ _ _
      have hp6 := hp5.kept hks (fun k e => ⟨.inr (.inr e), by have e' : k = gb := e; omega, hp5.far _ (.inr (.inr e))⟩)
      have hb6 := hb5'.kept hks (fun e => by have e' : b0 = gb := e; omega)
      have hf6 := hf5.trans hks (fun k hk e => by have e' : k = gb := e; omega)
      rw [show 8 * a + 8 = 8 * (a + 1) by omega] at hp6
      have c60 := hb6.cell 0
      have c61 := hb6.cell 1
      have c62 := hb6.cell 2
      simp only [List.getElem?_toArray, List.getElem?_cons_zero, List.getElem?_cons_succ] at c60 c61 c62
      have H6 := Lib.hid (And.intro hp6 (And.intro ho6 (And.intro hb6 hf6)))
      clear hp5 ho5 hb5' hf5 hk5 HT c0 c1 c2 hp6 ho6 hb6 hf6 hks hset hstep H5
      generalize hX : ofB 0 (moreB lv xs (8 * a) 8) = X at *
      go_wp2_with fail
      generalize w5.setCell ⟨gb, a, none⟩ (.int .u8 (X : Nat)) = w6 at *
      have HPs := Lib.hid (H6.out.1.past (by rw [decT_len]; omega))
      obtain ⟨pv, hpv⟩ : ∃ pv, pastN xs (decT lv xs (8 * (a + 1))).p = pv := ⟨_, rfl⟩
      rw [hpv] at HPs
      by_cases hpos : 0 < pv
      · have hno : ¬ okB lv xs m := fun h => by
          have := past_zero (t := 8 * (a + 1)) h (by omega)
          omega
        have HNo := Lib.hid hno
        clear hno hpv
        refine HPs.out.mono ?_
        rintro e7 w7 ⟨rfl, k7, rfl⟩
        have HF7 := Lib.hid ((H6.out.2.2.2).drewN k7)
        clear H6 HPs c60 c61 c62 HX
        go_wp2_with fail
        refine bodyPost_ret (results_tmp2 rfl _ _ _) rfl ?_
        exact UnP.not HNo.out HF7.out
      · refine HPs.out.mono ?_
        rintro e7 w7 ⟨rfl, k7, rfl⟩
        have hk7 : Fresh w6 (w6.drewN k7) := (Kept.refl _ _).drewN k7
        have H7 := Lib.hid (And.intro (H6.out.1.fresh hk7) (And.intro (H6.out.2.1.drewN k7) (And.intro (H6.out.2.2.1.drewN k7) (H6.out.2.2.2.drewN k7))))
        clear H6 HPs c60 c61 c62 HX hk7 hpv
        generalize w6.drewN k7 = w8 at *
        go_wp2_with fail
        go_roundw
        case rel => exact ⟨a + 1, _, by omega, by go_num, H7.out.1, H7.out.2.2.1, H7.out.2.2.2, by rw [outB, hX]; exact H7.out.2.1⟩
        case measure => simp [intOf]; omega
    · obtain rfl : a = m := by omega
      have a0 : ¬ (a : Int) < (a : Int) := by omega
      have hfl := hp.pk.flush (by rw [decT_len]; omega)
      have HFl := Lib.hid hfl
      have HX := Lib.hid (And.intro hf (And.intro ho hol))
      clear hfl hp hbx hf ho hol H5
      go_wp2_with fail
      refine HFl.out.mono ?_
      rintro e w7 ⟨u, rfl, hu, hun, hk7⟩
      obtain ⟨Au, cu, rfl, hru, _⟩ := hu.row
      have hf7 : Fresh w w7 := HX.out.1.trans hk7 (fun k hk e => e (.inl (.inl hk)))
      have HE := Lib.hid (equal_any Au (some ⟨b, o, none⟩) _ n cu c _ xs w7 hru (HR.out.kept hf7 (fun _ _ _ _ => id)) (packB_bytes lv _) hby)
      have ho7 := HX.out.2.1.kept hk7 (fun g e e2 => e2 (by injection e with e; exact .inl (.inr (.inr e.symm))))
      have H7 := Lib.hid (And.intro hf7 ho7)
      clear hu hun hk7 hru hf7 ho7 HFl HX c0 c1 c2
      generalize (packB lv (decT lv xs (8 * a)).L).length = lu at *
      go_wp2_with fail
      by_cases hok : packB lv (decT lv xs (8 * a)).L = xs
      · rw [decide_eq_true hok] at HE
        have Hok : Hid (okB lv xs a) := Lib.hid hok.symm
        clear hok
        refine HE.out.mono ?_
        rintro e8 w8 ⟨rfl, rfl⟩
        clear HE
        go_wp2_with fail
        refine bodyPost_ret (results_tmp2 rfl _ _ _) rfl ?_
        refine ⟨_, by rw [if_pos Hok.out]; rfl, ?_⟩
        rw [if_pos Hok.out]
        have ho7 := H7.out.2
        rw [Nat.sub_self, List.replicate_zero, List.append_nil] at ho7
        exact ⟨ho7, fun k e => by injection e with e; have e2 : gb = k := e; have := HG.out; omega, H7.out.1⟩
      · rw [decide_eq_false hok] at HE
        have Hok : Hid (¬ okB lv xs a) := Lib.hid fun e => hok e.symm
        clear hok
        refine HE.out.mono ?_
        rintro e8 w8 ⟨rfl, rfl⟩
        clear HE
        go_wp2_with fail
        refine bodyPost_ret (results_tmp2 rfl _ _ _) rfl ?_
        exact UnP.not Hok.out H7.out.1

set_option maxHeartbeats 800000 in
/-- Unpack, where it refuses. -/
theorem cUnpack_not (A : Option Addr) (n c : Nat) (m lv : Int) (w : World) (h : lv < 0 ∨ 3 ≤ lv ∨ m < 0 ∨ 1048576 < m) :
    Calls Tryd.prog 14 #[.slice A n c, .int .i64 m, .int .i64 lv] w fun e w' => e = .returned (.tuple #[.slice none 0 0, .int .i64 (if lv < 0 ∨ 3 ≤ lv ∨ m < 0 then 1 else 5)]) ∧ w = w' := by
  have HAl := Lib.hid (allowed_any m lv w)
  have e : (if lv < 0 ∨ 3 ≤ lv ∨ m < 0 then (1 : Int) else if 1048576 < m then 5 else 0) = (if lv < 0 ∨ 3 ≤ lv ∨ m < 0 then 1 else 5) := by
    split
    · rfl
    · rw [if_pos (by omega)]
  rw [e] at HAl
  have hne : (if lv < 0 ∨ 3 ≤ lv ∨ m < 0 then (1 : Int) else 5) ≠ 0 := by split <;> omega
  generalize (if lv < 0 ∨ 3 ≤ lv ∨ m < 0 then (1 : Int) else 5) = r at *
  clear e h
  go_enter Tryd.func14, Tryd.ntmps14
  go_wp2_with fail
  refine HAl.out.mono ?_
  rintro e w1 ⟨rfl, rfl⟩
  clear HAl
  go_wp2_with fail
  refine bodyPost_ret (results_tmp2 rfl _ _ _) rfl ?_
  exact ⟨rfl, rfl⟩

end Go.Proofs.YtpknbfkknnaajaaDoor

/- From a walk of a law (it answers true and leaves all that was there) to the given row. -/
namespace Go.Proofs.YtpknbfkknnaajaaDoor
open Go.ChangeShapes Go.WideShapes Go.ChangeAt Go.RowKit

theorem Tryd.own : ownKnob Tryd.prog.godebug = none := by kernel_rfl
theorem Tryd.laidOut : laidOutB Tryd.prog = true := by kernel_rfl

theorem trodAll_below {H : Type} {enc : TypeId × Value → H} {P : Program} (hl : laidOutB P = true) {W W' : World} (hb : Below W.heap.size W W') :
    ∀ {ts : List TypeId} {vs : List Value} {ds : List (DataW H)} {ps : List MemPlace}, ts.all (fun t => P.readableRec t && decide (t < P.types.size)) = true →
      DataW.TrodAll enc P W 0 (fun _ => true) true ts vs ds ps → DataW.TrodAll enc P W' 0 (fun b => decide (b < W.heap.size)) true ts vs ds ps
  | [], [], [], _, _, h => h
  | t :: ts, v :: vs, d :: ds, ps, ha, h => by
    obtain ⟨p, q, h1, h2, e⟩ := h
    rw [List.all_cons, Bool.and_eq_true, Bool.and_eq_true] at ha
    refine ⟨p, q, Below.trod hl ha.1.1 (of_decide_eq_true ha.1.2) h1 hb ?_, trodAll_below hl hb ha.2 h2, e⟩
    obtain ⟨n, hn⟩ := h1
    exact DataW.trod_lt n _ _ _ hn

theorem trodAll_length {H : Type} {enc : TypeId × Value → H} {P : Program} {W : World} {b : Nat} {sp : Nat → Bool} {hd : Bool} :
    ∀ {ts : List TypeId} {vs : List Value} {ds : List (DataW H)} {ps : List MemPlace}, DataW.TrodAll enc P W b sp hd ts vs ds ps → vs.length = ts.length ∧ ds.length = ts.length
  | [], [], [], _, _ => ⟨rfl, rfl⟩
  | _ :: _, _ :: _, _ :: _, _, h => by
    obtain ⟨p, q, _, h2, _⟩ := h
    have := trodAll_length h2
    exact ⟨by simp [this.1], by simp [this.2]⟩

/-- The contract that the row asks for, out of the walk's. -/
theorem law_post {H : Type} {enc : TypeId × Value → H} {fn : Func} {s : ChangeSpec} {W W' : World} {args : Array Value} {ds gs : List (DataW H)} {before : List MemPlace} {bt : TypeId}
    (hrt : fn.resultTypes = #[bt]) (hbt : Tryd.prog.underlying bt = some .bool) (hread : fn.params.toList.all (fun t => Tryd.prog.readableRec t && decide (t < Tryd.prog.types.size)) = true)
    (hv : s.vars = []) (hs : ∀ ds : List (DataW H), ds.length = fn.params.toList.length → (s.fn H ds).results = [.lit (.bool true)] ∧ (s.fn H ds).args = ds ∧ (s.fn H ds).vars = [])
    (hW : DataW.Whole enc Tryd.prog fn.params.toList s.vars false W args.toList ds gs before) (hb : Below W.heap.size W W') :
    s.post enc Tryd.prog fn false true false false W args (.bool true) W' := by
  have hW' := hW
  obtain ⟨p, q, hA, hV, rfl, _, _⟩ := hW
  rw [hv] at hV
  obtain ⟨rfl, rfl⟩ := trodVars_none hV
  obtain ⟨e1, e2, e3⟩ := hs ds (trodAll_length hA).2
  refine ⟨ds, [], p ++ [], [], p, [], hW', ?_, ?_, ?_, hb.frame _, fun h => by cases h⟩
  · rw [List.append_nil, e1, hrt]
    exact trodAll_mk1 (shut_bool hbt true)
  · rw [List.append_nil, e2]
    exact trodAll_below Tryd.laidOut hb hread hA
  · rw [List.append_nil, e3, hv]
    rfl

theorem add_none {a : Addr} {w : World} {v : Value} (h : w.cell? (a.add 0) = some v) : ∃ b o, a = ⟨b, o, none⟩ ∧ ∀ j, a.add j = ⟨b, o + j, none⟩ := by
  obtain ⟨b, o, s⟩ := a
  have hs : s = none := by simpa [Addr.add] using World.cell?_spot h
  subst hs
  refine ⟨b, o, rfl, fun j => ?_⟩
  unfold Addr.add
  split <;> simp_all

/-- An argument that is a slice of numbers. -/
theorem open_row {H : Type} {enc : TypeId × Value → H} {P : Program} {W : World} {base : Nat} {t e : TypeId} {k : IntKind} {v : Value} {d : DataW H} {p : List MemPlace} (ht : P.underlying t = some (.slice e)) (he : P.underlying e = some (.int k)) (hc : P.cellsOf e = 1)
    (hv : Value.okWide P W .any base t v) (h : DataW.Trod enc P W 0 (fun _ => true) true t v d p) :
    ∃ A n c xs, v = .slice A n c ∧ (A = none → c = 0) ∧ Row W k A n xs ∧ (∀ x ∈ xs, (Lit.int k x).wf = true) ∧ n ≤ maxLen := by
  obtain ⟨A, n, c, rfl⟩ := okWide_slice ht hv
  obtain ⟨fuel, hf⟩ := h
  rcases open_ints ht he hc hf with ⟨hcs, _⟩ | ⟨a, l, c', zs, hcs, _, hl, hm, hz, _, hcell, hwz⟩
  · simp [Value.cells] at hcs
    obtain ⟨rfl, rfl, rfl⟩ := hcs
    exact ⟨none, 0, 0, [], rfl, fun _ => rfl, Row.empty _ _ _, (fun x hx => by cases hx), by omega⟩
  · simp [Value.cells] at hcs
    obtain ⟨rfl, rfl, rfl⟩ := hcs
    have hz' : zs.length = c := by simpa using hz
    refine ⟨some a, n, c, zs.take n, rfl, (fun e => by cases e), ⟨by simp; omega, fun j hj => ?_⟩, fun x hx => hwz x (List.mem_of_mem_take hx), by omega⟩
    have h1 := hcell j (by omega)
    obtain ⟨b, o, rfl, e2⟩ := add_none (hcell 0 (by omega))
    rw [e2] at h1
    refine ⟨b, o, rfl, World.block_lt_of_cell? W _ h1, ?_⟩
    rw [h1]
    simp [List.getD, hj]

/-- A slice of numbers at its cell's reading: a field of an argument. -/
theorem open_cell {H : Type} {enc : TypeId × Value → H} {P : Program} {W : World} {t e : TypeId} {k : IntKind} {fuel : Nat} {v : Value} {x : DataW H × List MemPlace} (ht : P.underlying t = some (.slice e)) (he : P.underlying e = some (.int k)) (hc : P.cellsOf e = 1)
    (h : DataW.trod enc P W 0 (fun _ => true) true fuel t [v] = some x) :
    ∃ A n c xs, v = .slice A n c ∧ (A = none → c = 0) ∧ Row W k A n xs ∧ (∀ x ∈ xs, (Lit.int k x).wf = true) ∧ n ≤ c ∧ n ≤ maxLen := by
  rcases open_ints ht he hc h with ⟨hcs, rfl⟩ | ⟨a, l, c', zs, hcs, _, hl, hm, hz, rfl, hcell, hwz⟩
  · simp only [List.cons.injEq, and_true] at hcs
    subst hcs
    exact ⟨none, 0, 0, [], rfl, fun _ => rfl, Row.empty _ _ _, (fun x hx => by cases hx), by omega, by omega⟩
  · simp only [List.cons.injEq, and_true] at hcs
    subst hcs
    have hz' : zs.length = c' := by simpa using hz
    refine ⟨some a, l, c', zs.take l, rfl, (fun e => by cases e), ⟨by simp; omega, fun j hj => ?_⟩, fun x hx => hwz x (List.mem_of_mem_take hx), hl, by omega⟩
    have h1 := hcell j (by omega)
    obtain ⟨b, o, rfl, e2⟩ := add_none (hcell 0 (by omega))
    rw [e2] at h1
    refine ⟨b, o, rfl, World.block_lt_of_cell? W _ h1, ?_⟩
    rw [h1]
    simp [List.getD, hj]

/-- An argument that is a slice of structs whose fields are one cell each. -/
theorem open_recs {H : Type} {enc : TypeId × Value → H} {P : Program} {W : World} {base : Nat} {t e : TypeId} {fs : Array Field} {v : Value} {d : DataW H} {p : List MemPlace} (ht : P.underlying t = some (.slice e)) (he : P.underlying e = some (.struct fs))
    (hone : Go.Deep.oneCellFields P fs = true) (hC : P.cellsOf e = fs.size)
    (hv : Value.okWide P W .any base t v) (h : DataW.Trod enc P W 0 (fun _ => true) true t v d p) :
    ∃ A n c, v = .slice A n c ∧ (A = none → c = 0) ∧ n ≤ maxLen ∧ ∀ i, i < n → ∀ (j : Nat) (f : Field), fs[j]? = some f →
      ∃ b o u y m, A = some ⟨b, o, none⟩ ∧ b < W.heap.size ∧ W.cell? ⟨b, o + (i * fs.size + j), none⟩ = some u ∧ DataW.trod enc P W 0 (fun _ => true) true m f.type [u] = some y := by
  obtain ⟨A, n, c, rfl⟩ := okWide_slice ht hv
  obtain ⟨fuel, hf⟩ := h
  rcases Go.Deep.open_slice ht hf with ⟨hcs, _⟩ | ⟨a, l, c', m', n', D, Pl, hcs, _, hl, hm, hmm, _, hi⟩
  · simp [Value.cells] at hcs
    obtain ⟨rfl, rfl, rfl⟩ := hcs
    exact ⟨none, 0, 0, rfl, fun _ => rfl, by omega, fun i hi => by omega⟩
  · simp [Value.cells] at hcs
    obtain ⟨rfl, rfl, rfl⟩ := hcs
    refine ⟨some a, n, c, rfl, (fun e => by cases e), by omega, fun i hin j f hj => ?_⟩
    have hm' : m' = c := by simpa using hmm
    obtain ⟨cs', hc, ht'⟩ := hi i (by omega)
    rw [hC] at hc
    obtain ⟨ys, k, _, _, _, hyl, hg⟩ := DataW.trod_struct he ht'
    obtain ⟨_, hcl, hat⟩ := World.cells?_some hc
    obtain ⟨ho, hk⟩ := Go.Deep.hone_of hone j f hj
    have hjl : j < fs.size := (Array.getElem?_eq_some_iff.1 hj).1
    have h1 := hg j f hj
    rw [ho, hk] at h1
    have h2 : (cs'.drop j).take 1 = [cs'[j]'(by omega)] := by rw [List.drop_eq_getElem_cons (by omega)]; rfl
    rw [h2] at h1
    have h3 := hat j hjl
    rw [List.getElem?_eq_getElem (by omega : j < cs'.length), Go.Deep.add_add] at h3
    have h30 : ∃ u, W.cell? (a.add 0) = some u := by
      obtain ⟨cs0, hc0, _⟩ := hi 0 (by omega)
      rw [hC] at hc0
      obtain ⟨_, hcl0, hat0⟩ := World.cells?_some hc0
      have := hat0 0 (by omega)
      rw [List.getElem?_eq_getElem (by omega : 0 < cs0.length), Go.Deep.add_add, Nat.zero_mul] at this
      exact ⟨_, this⟩
    obtain ⟨u0, h30⟩ := h30
    obtain ⟨b, o, rfl, e2⟩ := add_none h30
    rw [e2] at h3
    exact ⟨b, o, _, ys[j]'(by omega), k, rfl, World.block_lt_of_cell? W _ h3, h3, by rw [h1, List.getElem?_eq_getElem]⟩

theorem byte_wf {xs : List Int} (h : ∀ x ∈ xs, (Lit.int .u8 x).wf = true) : ∀ j, 0 ≤ xs.getD j 0 ∧ xs.getD j 0 < 256 := by
  intro j
  have := range_u8 h j
  simp only [List.getD]
  omega

end Go.Proofs.YtpknbfkknnaajaaDoor
