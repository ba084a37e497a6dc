/- Texts of this proof, one behind the other: ModG, ModL. -/
import Derived.Test.YtpknbfkknnaajaaDoorPart15

/- The code's guesser: chance and learn. -/
namespace Go.Proofs.YtpknbfkknnaajaaDoor
set_option maxRecDepth 100000
open Go.RowKit

attribute [local go_sem ↓] Go.wp_at_zero Go.wp_at_succ

/-- What the tables say of now. -/
def Mo.at_ (m : Mo) (k : Nat) : Nat := m.tab k (m.key k)
/-- The inputs, of which the first k are laid. -/
def insTo (m : Mo) (k : Nat) : Nat → Int := fun j => if j < k then st (pc (ch (m.at_ j))) else if j = 3 then 256 else 0
theorem insTo_put (m : Mo) (k : Nat) : (fun j => if j = k then st (pc (ch (m.at_ k))) else insTo m k j) = insTo m (k + 1) := by
  funext j; unfold insTo
  by_cases e : j = k
  · subst e; rw [if_pos rfl, if_pos (by omega)]
  · rw [if_neg e]
    by_cases h1 : j < k
    · rw [if_pos h1, if_pos (by omega)]
    · rw [if_neg h1, if_neg (show ¬ j < k + 1 by omega)]
theorem insTo_all (m : Mo) {lv : Nat} (h0 : lv ≠ 0) (h2 : lv ≤ 2) : [insTo m (lv + 1) 0, insTo m (lv + 1) 1, insTo m (lv + 1) 2, insTo m (lv + 1) 3] = ins lv m.now.a m.now.b m.now.c := by
  rcases (by omega : lv = 1 ∨ lv = 2) with rfl | rfl <;> rfl

/-- What mixer and stage stand at, when they have been asked of now. -/
def Rdy (lv : Nat) (m : Mo) (s : Nat) (I : Nat → Int) (t : Int) (q : Option (Nat × Nat)) : Prop :=
  lv ≠ 0 → s = m.part ∧ I = inp (ins lv m.now.a m.now.b m.now.c) ∧ t = m.now.t lv ∧ q = some (m.part, nr (sx (m.now.t lv)))

theorem pl_in {i n : Nat} (h : i < n) : pl (i : Int) n = i := by
  unfold pl
  rw [Int.emod_eq_of_lt (by omega) (by omega)]
  omega

/-- One table asked. -/
theorem asks (m : Mo) {d : Ids} {k : Nat} {w : World} (hf : m.Fine) (h : TabC w (d.g k) (d.v k) (ft (tn k) (m.tab k))) :
    Calls Tryd.prog 81 #[.pointer (some ⟨d.g k, 0, none⟩), .int .i64 (m.key k : Nat)] w fun e w' => e = .returned (.int .i64 (ch (m.at_ k) : Nat)) ∧ w' = w := by
  have := gAt_any (d.g k) (d.v k) (ft (tn k) (m.tab k)) (m.key k : Nat) w h
  rw [ft_len, pl_in (hf.key_lt k), ft_get (hf.key_lt k)] at this
  exact this

theorem chance0 (m : Mo) : m.chance 0 = (ch (m.at_ 0) : Nat) := rfl

theorem alloc_size (w : World) (o : Obj) : (w.alloc o).heap.size = w.heap.size + 1 := Array.size_push o
theorem Row.of_a4 {w : World} {b : Nat} {ty : TypeId} {f : Nat → Int} (h : Blk w b ty (a4 f)) : Row w .i64 (some ⟨b, 0, none⟩) 4 [f 0, f 1, f 2, f 3] :=
  ⟨rfl, fun j hj => ⟨b, 0, rfl, h.lt, by
    rw [Nat.zero_add, h.cell, a4_get hj]
    rcases four hj with rfl | rfl | rfl | rfl <;> rfl⟩⟩

/-- The places as cells. -/
def kcs (m : Mo) : Array Value := #[.int .i64 (m.key 0 : Nat), .int .i64 (m.key 1 : Nat), .int .i64 (m.key 2 : Nat)]
theorem kcs_get (m : Mo) {k : Nat} (h : k < 3) : (kcs m)[k]? = some (.int .i64 (m.key k : Nat)) := by
  rcases (by omega : k = 0 ∨ k = 1 ∨ k = 2) with rfl | rfl | rfl <;> rfl

set_option maxHeartbeats 1600000 in
/-- chance. -/
theorem gchance_any (g : Nat) (d : Ids) (lv : Nat) (m : Mo) (s : Nat) (I : Nat → Int) (t : Int) (q : Option (Nat × Nat)) (u : Int) (w : World)
    (hb : Blk w g 103 (mcs d lv m.part m.last m.older u)) (hp : Prt w d m.tab m.W m.T s I t q) (hf : m.Fine) (h2 : lv ≤ 2) :
    Calls Tryd.prog 73 #[.pointer (some ⟨g, 3, none⟩), .agg (kcs m)] w fun e w' => e = .returned (.int .i64 (m.chance lv)) ∧
      ∃ s' I' t' q', Prt w' d m.tab m.W m.T s' I' t' q' ∧ Rdy lv m s' I' t' q' ∧ Kept (fun k => k = d.m ∨ k = d.s) w w' := by
  have hP0 := Blk.new w 120 (kcs m)
  have hf0 : Fresh w (w.alloc (.cells (kcs m) 120)) := (Kept.refl _ _).alloc _
  have c0 : (w.alloc (.cells (kcs m) 120)).cell? ⟨w.heap.size, 0, none⟩ = some (.int .i64 (m.key 0 : Nat)) := hP0.cell 0
  have c3 : (w.alloc (.cells (kcs m) 120)).cell? ⟨g, 3, none⟩ = some (.int .i64 lv) := (hb.alloc (.cells (kcs m) 120)).cell 3
  have c4 : (w.alloc (.cells (kcs m) 120)).cell? ⟨g, 4, none⟩ = some (.pointer (some ⟨d.g 0, 0, none⟩)) := (hb.alloc (.cells (kcs m) 120)).cell 4
  by_cases hl : lv = 0
  · subst hl
    have HA := Lib.hid (asks m (d := d) (k := 0) hf ((hp.fresh hf0).tab 0 (by omega)))
    have HR : Hid (∃ s' I' t' q', Prt (w.alloc (.cells (kcs m) 120)) d m.tab m.W m.T s' I' t' q' ∧ Rdy 0 m s' I' t' q' ∧ Kept (fun k => k = d.m ∨ k = d.s) w (w.alloc (.cells (kcs m) 120))) :=
      Lib.hid ⟨s, I, t, q, hp.fresh hf0, fun h => absurd rfl h, hf0.mono (fun _ _ h => h.elim)⟩
    rw [chance0]
    clear hP0 hf0 hb hp hf h2
    generalize kcs m = K at *
    generalize m.key 0 = x at *
    generalize ch (m.at_ 0) = y at *
    go_enter Tryd.func73, Tryd.ntmps73
    go_wp2_with fail
    refine HA.out.mono ?_
    rintro e w' ⟨rfl, rfl⟩
    go_wp2_with fail
    go_ret
    exact ⟨rfl, HR.out⟩
  · have hz : ((lv : Int) == 0) = false := by rw [beq_eq_false_iff_ne]; omega
    have hb1 := hb.alloc (.cells (kcs m) 120)
    have hp1 := hp.fresh hf0
    have H1 := Lib.hid (And.intro hP0 (And.intro hb1 (And.intro hp1 hf0)))
    have hQ : Blk ((w.alloc (.cells (kcs m) 120)).alloc (.cells (a4 (insTo m 0)) 131)) (w.heap.size + 1) 131 (a4 (insTo m 0)) := by
      have := Blk.new (w.alloc (.cells (kcs m) 120)) 131 (a4 (insTo m 0))
      rwa [alloc_size] at this
    have H2 : Hid (∀ N, Blk (((w.alloc (.cells (kcs m) 120)).alloc (.cells (a4 (insTo m 0)) 131)).drewN N) w.heap.size 120 (kcs m) ∧ Blk (((w.alloc (.cells (kcs m) 120)).alloc (.cells (a4 (insTo m 0)) 131)).drewN N) (w.heap.size + 1) 131 (a4 (insTo m 0)) ∧ Blk (((w.alloc (.cells (kcs m) 120)).alloc (.cells (a4 (insTo m 0)) 131)).drewN N) g 103 (mcs d lv m.part m.last m.older u) ∧ Prt (((w.alloc (.cells (kcs m) 120)).alloc (.cells (a4 (insTo m 0)) 131)).drewN N) d m.tab m.W m.T s I t q ∧ Fresh w (((w.alloc (.cells (kcs m) 120)).alloc (.cells (a4 (insTo m 0)) 131)).drewN N)) :=
      Lib.hid fun N => ⟨(hP0.alloc _).drewN N, hQ.drewN N, (hb1.alloc _).drewN N, hp1.fresh (((Kept.refl (fun _ => False) _).alloc _).drewN N), (hf0.alloc _).drewN N⟩
    have HA := Lib.hid (asked_any g d lv m.part m.last m.older u ((w.alloc (.cells (kcs m) 120)).alloc (.cells (a4 (insTo m 0)) 131)) (hb1.alloc _) h2)
    clear hP0 hb1 hp1 hf0 hb hp c4 H1 hQ
    go_enter Tryd.func73, Tryd.ntmps73
    go_wp2_with fail
    refine HA.out.mono ?_
    rintro e w3 ⟨rfl, N, hN⟩
    have H3 := H2.out N
    rw [← hN] at H3
    have H4 := Lib.hid H3
    clear hN H2 HA c0 c3 H3
    have l0 : (0 : Int) ≤ (lv : Int) := by omega
    have l1 : (lv : Int) ≤ 2 := by omega
    go_wp2_with fail
    go_loopw [28] (fun i wr => ∃ k : Nat, k ≤ lv + 1 ∧ i = .int .i64 k ∧ Blk wr w.heap.size 120 (kcs m) ∧ Blk wr (w.heap.size + 1) 131 (a4 (insTo m k)) ∧ Blk wr g 103 (mcs d lv m.part m.last m.older u) ∧ Prt wr d m.tab m.W m.T s I t q ∧ Fresh w wr) (fun i _ => (lv + 1 - intOf i).toNat)
    case atStart => exact ⟨0, by omega, rfl, H4.out⟩
    case round =>
      obtain ⟨k, hk, rfl, hP, hQ, hb, hp, hfr⟩ := hrel
      clear H4
      by_cases hlt : k < lv + 1
      · have hk3 : k < 3 := by omega
        have c1 := hb.cell (4 + k)
        rw [mcs_tab hk3] at c1
        have c2 := hP.cell k
        rw [kcs_get m hk3] at c2
        have c5 := hQ.cell k
        rw [a4_get (by omega)] at c5
        have f5 := hQ.frozen k
        have hset := hQ.set_ k (.int .i64 (st (pc (ch (m.at_ k)))))
        rw [a4_set _ (by omega), insTo_put] at hset
        have hfs : Fresh w (wr.setCell ⟨w.heap.size + 1, k, none⟩ (.int .i64 (st (pc (ch (m.at_ k)))))) := hfr.setCell (p := ⟨w.heap.size + 1, k, none⟩) (fun h => by have h' : w.heap.size + 1 < w.heap.size := h; omega) _
        have hks : Kept (fun j => j = w.heap.size + 1) wr (wr.setCell ⟨w.heap.size + 1, k, none⟩ (.int .i64 (st (pc (ch (m.at_ k)))))) := (Kept.refl (fun j => j = w.heap.size + 1) wr).setCell (p := ⟨w.heap.size + 1, k, none⟩) (fun _ => rfl) _
        have HS := Lib.hid (And.intro (hP.kept hks (Blk.ne_ hP hQ (by decide))) (And.intro hset (And.intro (hb.kept hks (Blk.ne_ hb hQ (by decide))) (And.intro (hp.kept hks (fun j hj => hp.ne_ hQ (by decide) (by decide) (by decide) (by decide) (by decide) (by decide) hj)) hfs))))
        have HA := Lib.hid (asks m hf (hp.tab k hk3))
        have HT := Lib.hid (stretch_any (ch (m.at_ k) : Nat) wr)
        clear hP hQ hb hp hfr hset hfs hks
        generalize st (pc (ch (m.at_ k))) = y at *
        generalize insTo m k k = z at *
        generalize m.key k = x at *
        generalize ch (m.at_ k) = v at *
        generalize d.g k = gk at *
        have k0 : (0 : Int) ≤ (k : Int) := by omega
        have k1 : (k : Int) < (lv : Int) + 1 := by omega
        have k2 : (k : Int) < 3 := by omega
        have k3 : (k : Int) < 4 := by omega
        go_wp2_with fail
        refine HA.out.mono ?_
        rintro e w' ⟨rfl, rfl⟩
        go_wp2_with fail
        refine HT.out.mono ?_
        rintro e w'' ⟨rfl, rfl⟩
        go_wp2_with fail
        go_roundw
        case rel => exact ⟨k + 1, by omega, by go_num, HS.out⟩
        case measure => simp [intOf]; omega
      · obtain rfl : k = lv + 1 := by omega
        have k1 : ¬ ((lv + 1 : Nat) : Int) < (lv : Int) + 1 := by omega
        have c7 : wr.cell? ⟨g, 7, none⟩ = some (.pointer (some ⟨d.m, 0, none⟩)) := hb.cell 7
        have hrow := (Row.of_a4 hQ).drewN 1
        rw [insTo_all m hl h2] at hrow
        have HM := Lib.hid (mMix_any d.m d.h 256 m.W s I t (m.key 0 : Nat) (some ⟨w.heap.size + 1, 0, none⟩) 4 4 _ _ (hp.mx.drewN 1) hrow (fun b o e _ => by injection e with e; injection e with e1 e2; rw [← e1]; exact fun e3 => hp.ne_ hQ (by decide) (by decide) (by decide) (by decide) (by decide) (by decide) (.inr (.inl rfl)) e3.symm))
        have hpl : pl ((m.key 0 : Nat) : Int) 256 = m.part := pl_in (n := 256) (hf.key_lt 0)
        rw [hpl] at HM
        have HS := Lib.hid (And.intro hb (And.intro hp hfr))
        clear hP hQ hb hp hfr hrow
        go_wp2_with fail
        go_still_tail 6, (by kernel_rfl)
        change wpList _ _ _ _ _ (wr.drewN 1)
        go_wp2_with fail
        refine HM.out.mono ?_
        rintro e w6 ⟨rfl, hm6, hk6⟩
        have hb6 := (HS.out.1.drewN 1).kept hk6 (fun e => (HS.out.2.1.fresh ((Kept.refl _ _).drewN 1)).ne_ (HS.out.1.drewN 1) (by decide) (by decide) (by decide) (by decide) (by decide) (by decide) (.inr (.inl rfl)) e.symm)
        have hp6 := (HS.out.2.1.fresh ((Kept.refl _ _).drewN 1)).mixed hk6 (fun _ h => h) hm6
        have hk6' : Kept (fun k => k = d.m ∨ k = d.s) w w6 := ((HS.out.2.2.drewN 1).mono (T := fun k => k = d.m ∨ k = d.s) (fun _ _ h => h.elim)).trans hk6 (fun _ _ h => .inl h)
        have c8 : w6.cell? ⟨g, 8, none⟩ = some (.pointer (some ⟨d.s, 0, none⟩)) := hb6.cell 8
        have hch : m.chance lv = (tl (inp (ins lv m.now.a m.now.b m.now.c)) (m.W m.part) + 3 * rd (m.T m.part) (sx (tl (inp (ins lv m.now.a m.now.b m.now.c)) (m.W m.part)))) / 4 := if_neg hl
        have htb := tl_bd (inp (ins lv m.now.a m.now.b m.now.c)) (m.W m.part)
        have hR := sRefine_any d.s d.z 256 m.T q (tl (inp (ins lv m.now.a m.now.b m.now.c)) (m.W m.part)) (m.key 0 : Nat) w6 hp6.sg
        rw [hpl] at hR
        have HR := Lib.hid hR
        have hrb := rd_bd (hf.t m.part) (sx (tl (inp (ins lv m.now.a m.now.b m.now.c)) (m.W m.part)))
        have HF : Hid (∀ w8 : World, Stg w8 d.s d.z 256 m.T (some (m.part, nr (sx (tl (inp (ins lv m.now.a m.now.b m.now.c)) (m.W m.part))))) → Kept (fun j => j = d.s) w6 w8 → ∃ s' I' t' q', Prt w8 d m.tab m.W m.T s' I' t' q' ∧ Rdy lv m s' I' t' q' ∧ Kept (fun k => k = d.m ∨ k = d.s) w w8) :=
          Lib.hid fun w8 hs hk => ⟨_, _, _, _, hp6.staged hk (fun _ h => h) hs, fun _ => ⟨rfl, rfl, rfl, rfl⟩, hk6'.trans hk (fun _ _ h => .inr h)⟩
        have HC := Lib.hid hch
        clear hm6 hk6 hb6 hp6 hk6' hR HM HS hpl hch
        generalize rd (m.T m.part) (sx (tl (inp (ins lv m.now.a m.now.b m.now.c)) (m.W m.part))) = r at *
        generalize nr (sx (tl (inp (ins lv m.now.a m.now.b m.now.c)) (m.W m.part))) = z at *
        generalize tl (inp (ins lv m.now.a m.now.b m.now.c)) (m.W m.part) = T at *
        obtain ⟨t1, t2⟩ := htb
        obtain ⟨r1, r2⟩ := hrb
        go_wp2_with fail
        refine HR.out.mono ?_
        rintro e w8 ⟨rfl, hs8, hk8⟩
        have H8 := Lib.hid (HF.out w8 hs8 hk8)
        clear hs8 hk8 HF
        go_wp2_with fail
        go_ret
        refine ⟨?_, H8.out⟩
        rw [HC.out]
        refine ret_int ?_
        omega

end Go.Proofs.YtpknbfkknnaajaaDoor

/- The code's guesser: learn. -/
namespace Go.Proofs.YtpknbfkknnaajaaDoor
set_option maxRecDepth 100000
open Go.RowKit

attribute [local go_sem ↓] Go.wp_at_zero Go.wp_at_succ

/-- The tables, of which the first k have learnt. -/
def tabTo (m : Mo) (one : Bool) (k : Nat) : Nat → Nat → Nat := fun i => if i < k then upd (m.tab i) (m.key i) (nx (m.at_ i) one (tr i)) else m.tab i
theorem tabTo_at (m : Mo) (one : Bool) (k : Nat) : tabTo m one k k = m.tab k := if_neg (Nat.lt_irrefl k)
theorem tabTo_put (m : Mo) (one : Bool) (k : Nat) : upd (tabTo m one k) k (upd (m.tab k) (m.key k) (nx (m.at_ k) one (tr k))) = tabTo m one (k + 1) := by
  funext i; unfold tabTo upd; dsimp only
  by_cases e : i = k
  · subst e; rw [if_pos rfl, if_pos (Nat.lt_succ_self _)]
  · rw [if_neg e]
    by_cases h1 : i < k
    · rw [if_pos h1, if_pos (by omega)]
    · rw [if_neg h1, if_neg (by omega)]
theorem tabTo_zero (m : Mo) (one : Bool) : tabTo m one 0 = m.tab := by
  funext i; unfold tabTo; rw [if_neg (by omega)]
theorem tabTo_all (m : Mo) (one : Bool) {lv : Nat} (h : lv ≤ 2) {i : Nat} (hi : i < 3) : tabTo m one (lv + 1) i = (m.learn lv one).tab i := by
  rcases (by omega : lv = 0 ∨ lv = 1 ∨ lv = 2) with rfl | rfl | rfl <;> rcases (by omega : i = 0 ∨ i = 1 ∨ i = 2) with rfl | rfl | rfl <;> rfl
theorem Prt.congr {w : World} {d : Ids} {F G : Nat → Nat → Nat} {W : Nat → Nat → Int} {T : Nat → Nat → Int} {s : Nat} {I : Nat → Int} {t : Int} {q : Option (Nat × Nat)} (p : Prt w d F W T s I t q) (h : ∀ i, i < 3 → F i = G i) : Prt w d G W T s I t q :=
  ⟨fun i hi => by rw [← h i hi]; exact p.tab i hi, p.mx, p.sg, p.inj⟩

theorem learnt_upd (W : Nat → Nat → Int) (s : Nat) (I : Nat → Int) (e : Int) : learnt W s I e = upd W s (lrnW (W s) I e) := by
  funext i j; unfold learnt upTo upd lrnW
  by_cases h : i = s
  · subst h
    by_cases hj : j < 4
    · rw [if_pos ⟨rfl, hj⟩, if_pos rfl, if_pos hj]
    · rw [if_neg (fun e => hj e.2), if_pos rfl, if_neg hj]
  · rw [if_neg (fun e => h e.1), if_neg h]
theorem gput_upd (T : Nat → Nat → Int) (s k : Nat) (v : Int) : gput T s k v = upd T s (upd (T s) k v) := by
  funext i j; unfold gput upd
  by_cases h : i = s
  · subst h
    by_cases hj : j = k
    · subst hj; rw [if_pos ⟨rfl, rfl⟩, if_pos rfl, if_pos rfl]
    · rw [if_neg (fun e => hj e.2), if_pos rfl, if_neg hj]
  · rw [if_neg (fun e => h e.1), if_neg h]
theorem learn_W (m : Mo) {lv : Nat} (one : Bool) (h : lv ≠ 0) : (m.learn lv one).W = upd m.W m.part (lrnW (m.W m.part) (inp (ins lv m.now.a m.now.b m.now.c)) (er one (m.now.t lv))) := by
  show (if lv = 0 then m.W else upd m.W m.part (if lv = 0 then m.now.W else _)) = _
  rw [if_neg h, if_neg h]
  rfl
theorem learn_T (m : Mo) {lv : Nat} (one : Bool) (h : lv ≠ 0) : (m.learn lv one).T = upd m.T m.part (upd (m.T m.part) (nr (sx (m.now.t lv))) (lr one 6 (m.T m.part (nr (sx (m.now.t lv)))))) := by
  show (if lv = 0 then m.T else upd m.T m.part (if lv = 0 then m.now.T else _)) = _
  rw [if_neg h, if_neg h]
  rfl
theorem rt_tr {k : Nat} (h : k < 3) : rt ((tr k : Nat) : Int) = tr k := by
  rcases (by omega : k = 0 ∨ k = 1 ∨ k = 2) with rfl | rfl | rfl <;> rfl

/-- One table learns. -/
theorem teaches (m : Mo) {d : Ids} {k : Nat} {w : World} (b : Int) (hk : k < 3) (hf : m.Fine) (h : TabC w (d.g k) (d.v k) (ft (tn k) (m.tab k))) :
    Calls Tryd.prog 87 #[.pointer (some ⟨d.g k, 0, none⟩), .int .i64 (m.key k : Nat), .int .i64 b, .int .i64 (tr k : Nat)] w fun e w' => e = .returned (.tuple #[]) ∧
      TabC w' (d.g k) (d.v k) (ft (tn k) (upd (m.tab k) (m.key k) (nx (m.at_ k) (b != 0) (tr k)))) ∧ Kept (fun j => (d.v k).ownBlock = some j) w w' := by
  have := gLearn_any (d.g k) (d.v k) (ft (tn k) (m.tab k)) (m.key k : Nat) b (tr k : Nat) w h
  rw [ft_len, pl_in (hf.key_lt k), ft_get (hf.key_lt k), ft_set, rt_tr hk] at this
  exact this

set_option maxHeartbeats 1600000 in
/-- learn. -/
theorem glearn_any (g : Nat) (d : Ids) (lv : Nat) (m : Mo) (s : Nat) (I : Nat → Int) (t : Int) (q : Option (Nat × Nat)) (u b : Int) (w : World)
    (hb : Blk w g 103 (mcs d lv m.part m.last m.older u)) (hp : Prt w d m.tab m.W m.T s I t q) (hr : Rdy lv m s I t q) (hki : Kin w) (hd0 : ∀ k, d.has k → 0 < k) (hf : m.Fine) (h2 : lv ≤ 2) :
    Calls Tryd.prog 78 #[.pointer (some ⟨g, 3, none⟩), .agg (kcs m), .int .i64 b] w fun e w' => e = .returned (.tuple #[]) ∧
      ∃ s' I' t' q', Prt w' d (m.learn lv (b != 0)).tab (m.learn lv (b != 0)).W (m.learn lv (b != 0)).T s' I' t' q' ∧ Kept (fun k => d.has k) w w' := by
  have hP0 := Blk.new w 120 (kcs m)
  have hf0 : Fresh w (w.alloc (.cells (kcs m) 120)) := (Kept.refl _ _).alloc _
  have hb1 := hb.alloc (.cells (kcs m) 120)
  have hp1 := hp.fresh hf0
  have hk1 := hki.kept hf0 id
  have HA := Lib.hid (asked_any g d lv m.part m.last m.older u (w.alloc (.cells (kcs m) 120)) hb1 h2)
  have H2 : Hid (∀ N, Blk ((w.alloc (.cells (kcs m) 120)).drewN N) w.heap.size 120 (kcs m) ∧ Blk ((w.alloc (.cells (kcs m) 120)).drewN N) g 103 (mcs d lv m.part m.last m.older u) ∧ Prt ((w.alloc (.cells (kcs m) 120)).drewN N) d (tabTo m (b != 0) 0) m.W m.T s I t q ∧ Kin ((w.alloc (.cells (kcs m) 120)).drewN N) ∧ Kept (fun k => d.has k) w ((w.alloc (.cells (kcs m) 120)).drewN N)) :=
    Lib.hid fun N => ⟨hP0.drewN N, hb1.drewN N, by rw [tabTo_zero]; exact hp1.fresh ((Kept.refl (fun _ => False) _).drewN N), hk1.kept ((Kept.refl (fun _ => False) _).drewN N) id, (hf0.drewN N).mono (fun _ _ h => h.elim)⟩
  obtain ⟨one, hone⟩ : ∃ one, (b != 0) = one := ⟨_, rfl⟩
  have HT : Hid (∀ (k : Nat) (V : World), k < 3 → TabC V (d.g k) (d.v k) (ft (tn k) (m.tab k)) → Calls Tryd.prog 87 #[.pointer (some ⟨d.g k, 0, none⟩), .int .i64 (m.key k : Nat), .int .i64 b, .int .i64 (tr k : Nat)] V fun e w' => e = .returned (.tuple #[]) ∧
      TabC w' (d.g k) (d.v k) (ft (tn k) (upd (m.tab k) (m.key k) (nx (m.at_ k) one (tr k)))) ∧ Kept (fun j => (d.v k).ownBlock = some j) V w') := Lib.hid fun k V hk h => by
    have := teaches m b hk hf h
    rwa [hone] at this
  rw [hone] at H2 ⊢
  have HO := Lib.hid hone
  clear hone
  have l0 : (0 : Int) ≤ (lv : Int) := by omega
  have l1 : (lv : Int) ≤ 2 := by omega
  clear hP0 hf0 hb1 hp1 hk1 hki hb hp
  go_enter Tryd.func78, Tryd.ntmps78
  go_wp2_with fail
  refine HA.out.mono ?_
  rintro e w3 ⟨rfl, N, hN⟩
  have H3 := H2.out N
  rw [← hN] at H3
  have H4 := Lib.hid H3
  clear hN H2 HA H3
  go_wp2_with fail
  go_loopw [11] (fun i wr => ∃ k : Nat, k ≤ lv + 1 ∧ i = .int .i64 k ∧ Blk wr w.heap.size 120 (kcs m) ∧ Blk wr g 103 (mcs d lv m.part m.last m.older u) ∧ Prt wr d (tabTo m one k) m.W m.T s I t q ∧ Kin wr ∧ Kept (fun k => d.has k) w wr) (fun i _ => (lv + 1 - intOf i).toNat)
  case atStart => exact ⟨0, by omega, rfl, H4.out⟩
  case round =>
    obtain ⟨k, hk, rfl, hP, hb, hp, hki, hfr⟩ := hrel
    clear H4
    by_cases hlt : k < lv + 1
    · have hk3 : k < 3 := by omega
      have c1 := hb.cell (4 + k)
      rw [mcs_tab hk3] at c1
      have c2 := hP.cell k
      rw [kcs_get m hk3] at c2
      have c5 := hki.rate hk3
      have ht := hp.tab k hk3
      rw [tabTo_at] at ht
      have HC := Lib.hid (HT.out k wr.drew hk3 ht.drew)
      have HN : Hid (∀ w', TabC w' (d.g k) (d.v k) (ft (tn k) (upd (m.tab k) (m.key k) (nx (m.at_ k) one (tr k)))) → Kept (fun j => (d.v k).ownBlock = some j) wr.drew w' → Blk w' w.heap.size 120 (kcs m) ∧ Blk w' g 103 (mcs d lv m.part m.last m.older u) ∧ Prt w' d (tabTo m one (k + 1)) m.W m.T s I t q ∧ Kin w' ∧ Kept (fun k => d.has k) w w') :=
        Lib.hid fun w' h1 h2 => by
          have hin : ∀ j, (d.v k).ownBlock = some j → d.has j := fun j e => .inl ⟨k, hk3, .inr e⟩
          refine ⟨hP.drew.kept h2 (fun e => hp.ne_ hP (by decide) (by decide) (by decide) (by decide) (by decide) (by decide) (hin _ e) rfl), hb.drew.kept h2 (fun e => hp.ne_ hb (by decide) (by decide) (by decide) (by decide) (by decide) (by decide) (hin _ e) rfl), ?_, hki.kept ((Kept.refl (fun j => (d.v k).ownBlock = some j) wr).drew.trans h2 (fun _ _ h => h)) (fun e => absurd (hd0 _ (hin _ e)) (Nat.lt_irrefl _)), hfr.drew.trans h2 (fun j _ e => hin j e)⟩
          rw [← tabTo_put]
          exact (hp.fresh (Kept.refl _ wr).drew).tabbed hk3 h2 h1
      clear hP hb hp hki hfr ht
      generalize m.key k = x at *
      generalize tr k = y at *
      generalize d.g k = gk at *
      have k0 : (0 : Int) ≤ (k : Int) := by omega
      have k1 : (k : Int) < (lv : Int) + 1 := by omega
      have k2 : (k : Int) < 3 := by omega
      go_wp2_with fail
      go_still_tail 9, (by kernel_rfl)
      change wpList _ _ _ _ _ wr.drew
      go_wp2_with fail
      refine HC.out.mono ?_
      rintro e w5 ⟨rfl, ht5, hk5⟩
      have H5 := Lib.hid (HN.out w5 ht5 hk5)
      clear ht5 hk5 HN HC
      go_wp2_with fail
      go_roundw
      case rel => exact ⟨k + 1, by omega, by go_num, H5.out⟩
      case measure => simp [intOf]; omega
    · obtain rfl : k = lv + 1 := by omega
      have k1 : ¬ ((lv + 1 : Nat) : Int) < (lv : Int) + 1 := by omega
      have hp := hp.congr (fun i hi => tabTo_all m one h2 hi)
      have c3 : wr.cell? ⟨g, 3, none⟩ = some (.int .i64 lv) := hb.cell 3
      have c7 : wr.cell? ⟨g, 7, none⟩ = some (.pointer (some ⟨d.m, 0, none⟩)) := hb.cell 7
      by_cases hl : lv = 0
      · subst hl
        have HF : Hid (∃ s' I' t' q', Prt wr d (m.learn 0 one).tab (m.learn 0 one).W (m.learn 0 one).T s' I' t' q' ∧ Kept (fun k => d.has k) w wr) := Lib.hid ⟨s, I, t, q, hp, hfr⟩
        clear hP hb hp hki hfr
        go_wp2_with fail
        go_end0
        obtain ⟨_, _, _, _, h⟩ := HF.out
        exact ⟨rfl, ⟨_, _, _, _, h.1⟩, h.2⟩
      · obtain ⟨rfl, rfl, rfl, rfl⟩ := hr hl
        have hgt : decide (0 < (lv : Int)) = true := by simp; omega
        have hM := mLearn_any d.m d.h 256 m.W m.part (inp (ins lv m.now.a m.now.b m.now.c)) (m.now.t lv) b wr hp.mx (tl_bd _ _).1
        rw [HO.out, learnt_upd, ← learn_W m one hl] at hM
        have HM := Lib.hid hM
        have HS := Lib.hid (And.intro hb (And.intro hp hfr))
        clear hP hb hp hki hfr hM
        go_wp2_with fail
        refine HM.out.mono ?_
        rintro e w5 ⟨rfl, hm5, hk5⟩
        have hp5 := HS.out.2.1.weighed hk5 (fun _ h => h) hm5
        have hb5 := HS.out.1.kept hk5 (fun e => HS.out.2.1.ne_ HS.out.1 (by decide) (by decide) (by decide) (by decide) (by decide) (by decide) (.inr (.inr (.inl rfl))) e.symm)
        have hf5 := HS.out.2.2.trans hk5 (fun j _ e => e ▸ .inr (.inr (.inl rfl)))
        have c8 : w5.cell? ⟨g, 8, none⟩ = some (.pointer (some ⟨d.s, 0, none⟩)) := hb5.cell 8
        have hS := sLearn_any d.s d.z 256 m.T m.part (nr (sx (m.now.t lv))) b 6 w5 hp5.sg
        rw [HO.out, gput_upd, show rt 6 = 6 from rfl, ← learn_T m one hl] at hS
        have HL := Lib.hid hS
        have HF : Hid (∀ w8 : World, Stg w8 d.s d.z 256 (m.learn lv one).T (some (m.part, nr (sx (m.now.t lv)))) → Kept (fun j => j = d.z) w5 w8 → ∃ s' I' t' q', Prt w8 d (m.learn lv one).tab (m.learn lv one).W (m.learn lv one).T s' I' t' q' ∧ Kept (fun k => d.has k) w w8) :=
          Lib.hid fun w8 hs hk => ⟨_, _, _, _, hp5.stepped hk (fun _ h => h) hs, hf5.trans hk (fun j _ e => e ▸ .inr (.inr (.inr (.inr rfl))))⟩
        clear hm5 hk5 hp5 hb5 hf5 hS HM HS
        go_wp2_with fail
        refine HL.out.mono ?_
        rintro e w8 ⟨rfl, hs8, hk8⟩
        have H8 := Lib.hid (HF.out w8 hs8 hk8)
        clear hs8 hk8 HF
        go_wp2_with fail
        go_end0
        exact ⟨rfl, H8.out⟩

end Go.Proofs.YtpknbfkknnaajaaDoor
