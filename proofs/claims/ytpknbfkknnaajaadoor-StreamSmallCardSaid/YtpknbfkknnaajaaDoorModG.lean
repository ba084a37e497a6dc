/- The code's guesser: chance and learn. -/
import Derived.Test.YtpknbfkknnaajaaDoorModC
namespace Go.Proofs.YtpknbfkknnaajaaDoor
set_option maxRecDepth 100000
open Go.RowKit

attribute [local go_sem ↓] Go.wp_at_zero Go.wp_at_succ

/-- What the tables say of now. -/
def Mo.at_ (m : Mo) (k : Nat) : Nat := m.tab k (m.key k)
/-- The inputs, of which the first k are laid. -/
def insTo (m : Mo) (k : Nat) : Nat → Int := fun j => if j < k then st (pc (ch (m.at_ j))) else if j = 3 then 256 else 0
theorem insTo_put (m : Mo) (k : Nat) : (fun j => if j = k then st (pc (ch (m.at_ k))) else insTo m k j) = insTo m (k + 1) := by
  funext j; unfold insTo
  by_cases e : j = k
  · subst e; rw [if_pos rfl, if_pos (by omega)]
  · rw [if_neg e]
    by_cases h1 : j < k
    · rw [if_pos h1, if_pos (by omega)]
    · rw [if_neg h1, if_neg (show ¬ j < k + 1 by omega)]
theorem insTo_all (m : Mo) {lv : Nat} (h0 : lv ≠ 0) (h2 : lv ≤ 2) : [insTo m (lv + 1) 0, insTo m (lv + 1) 1, insTo m (lv + 1) 2, insTo m (lv + 1) 3] = ins lv m.now.a m.now.b m.now.c := by
  rcases (by omega : lv = 1 ∨ lv = 2) with rfl | rfl <;> rfl

/-- What mixer and stage stand at, when they have been asked of now. -/
def Rdy (lv : Nat) (m : Mo) (s : Nat) (I : Nat → Int) (t : Int) (q : Option (Nat × Nat)) : Prop :=
  lv ≠ 0 → s = m.part ∧ I = inp (ins lv m.now.a m.now.b m.now.c) ∧ t = m.now.t lv ∧ q = some (m.part, nr (sx (m.now.t lv)))

theorem pl_in {i n : Nat} (h : i < n) : pl (i : Int) n = i := by
  unfold pl
  rw [Int.emod_eq_of_lt (by omega) (by omega)]
  omega

/-- One table asked. -/
theorem asks (m : Mo) {d : Ids} {k : Nat} {w : World} (hf : m.Fine) (h : TabC w (d.g k) (d.v k) (ft (tn k) (m.tab k))) :
    Calls Tryd.prog 81 #[.pointer (some ⟨d.g k, 0, none⟩), .int .i64 (m.key k : Nat)] w fun e w' => e = .returned (.int .i64 (ch (m.at_ k) : Nat)) ∧ w' = w := by
  have := gAt_any (d.g k) (d.v k) (ft (tn k) (m.tab k)) (m.key k : Nat) w h
  rw [ft_len, pl_in (hf.key_lt k), ft_get (hf.key_lt k)] at this
  exact this

theorem chance0 (m : Mo) : m.chance 0 = (ch (m.at_ 0) : Nat) := rfl

theorem alloc_size (w : World) (o : Obj) : (w.alloc o).heap.size = w.heap.size + 1 := Array.size_push o
theorem Row.of_a4 {w : World} {b : Nat} {ty : TypeId} {f : Nat → Int} (h : Blk w b ty (a4 f)) : Row w .i64 (some ⟨b, 0, none⟩) 4 [f 0, f 1, f 2, f 3] :=
  ⟨rfl, fun j hj => ⟨b, 0, rfl, h.lt, by
    rw [Nat.zero_add, h.cell, a4_get hj]
    rcases four hj with rfl | rfl | rfl | rfl <;> rfl⟩⟩

/-- The places as cells. -/
def kcs (m : Mo) : Array Value := #[.int .i64 (m.key 0 : Nat), .int .i64 (m.key 1 : Nat), .int .i64 (m.key 2 : Nat)]
theorem kcs_get (m : Mo) {k : Nat} (h : k < 3) : (kcs m)[k]? = some (.int .i64 (m.key k : Nat)) := by
  rcases (by omega : k = 0 ∨ k = 1 ∨ k = 2) with rfl | rfl | rfl <;> rfl

set_option maxHeartbeats 1600000 in
/-- chance. -/
theorem gchance_any (g : Nat) (d : Ids) (lv : Nat) (m : Mo) (s : Nat) (I : Nat → Int) (t : Int) (q : Option (Nat × Nat)) (u : Int) (w : World)
    (hb : Blk w g 103 (mcs d lv m.part m.last m.older u)) (hp : Prt w d m.tab m.W m.T s I t q) (hf : m.Fine) (h2 : lv ≤ 2) :
    Calls Tryd.prog 73 #[.pointer (some ⟨g, 3, none⟩), .agg (kcs m)] w fun e w' => e = .returned (.int .i64 (m.chance lv)) ∧
      ∃ s' I' t' q', Prt w' d m.tab m.W m.T s' I' t' q' ∧ Rdy lv m s' I' t' q' ∧ Kept (fun k => k = d.m ∨ k = d.s) w w' := by
  have hP0 := Blk.new w 120 (kcs m)
  have hf0 : Fresh w (w.alloc (.cells (kcs m) 120)) := (Kept.refl _ _).alloc _
  have c0 : (w.alloc (.cells (kcs m) 120)).cell? ⟨w.heap.size, 0, none⟩ = some (.int .i64 (m.key 0 : Nat)) := hP0.cell 0
  have c3 : (w.alloc (.cells (kcs m) 120)).cell? ⟨g, 3, none⟩ = some (.int .i64 lv) := (hb.alloc (.cells (kcs m) 120)).cell 3
  have c4 : (w.alloc (.cells (kcs m) 120)).cell? ⟨g, 4, none⟩ = some (.pointer (some ⟨d.g 0, 0, none⟩)) := (hb.alloc (.cells (kcs m) 120)).cell 4
  by_cases hl : lv = 0
  · subst hl
    have HA := Lib.hid (asks m (d := d) (k := 0) hf ((hp.fresh hf0).tab 0 (by omega)))
    have HR : Hid (∃ s' I' t' q', Prt (w.alloc (.cells (kcs m) 120)) d m.tab m.W m.T s' I' t' q' ∧ Rdy 0 m s' I' t' q' ∧ Kept (fun k => k = d.m ∨ k = d.s) w (w.alloc (.cells (kcs m) 120))) :=
      Lib.hid ⟨s, I, t, q, hp.fresh hf0, fun h => absurd rfl h, hf0.mono (fun _ _ h => h.elim)⟩
    rw [chance0]
    clear hP0 hf0 hb hp hf h2
    generalize kcs m = K at *
    generalize m.key 0 = x at *
    generalize ch (m.at_ 0) = y at *
    go_enter Tryd.func73, Tryd.ntmps73
    go_wp2_with fail
    refine HA.out.mono ?_
    rintro e w' ⟨rfl, rfl⟩
    go_wp2_with fail
    go_ret
    exact ⟨rfl, HR.out⟩
  · have hz : ((lv : Int) == 0) = false := by rw [beq_eq_false_iff_ne]; omega
    have hb1 := hb.alloc (.cells (kcs m) 120)
    have hp1 := hp.fresh hf0
    have H1 := Lib.hid (And.intro hP0 (And.intro hb1 (And.intro hp1 hf0)))
    have hQ : Blk ((w.alloc (.cells (kcs m) 120)).alloc (.cells (a4 (insTo m 0)) 131)) (w.heap.size + 1) 131 (a4 (insTo m 0)) := by
      have := Blk.new (w.alloc (.cells (kcs m) 120)) 131 (a4 (insTo m 0))
      rwa [alloc_size] at this
    have H2 : Hid (∀ N, Blk (((w.alloc (.cells (kcs m) 120)).alloc (.cells (a4 (insTo m 0)) 131)).drewN N) w.heap.size 120 (kcs m) ∧ Blk (((w.alloc (.cells (kcs m) 120)).alloc (.cells (a4 (insTo m 0)) 131)).drewN N) (w.heap.size + 1) 131 (a4 (insTo m 0)) ∧ Blk (((w.alloc (.cells (kcs m) 120)).alloc (.cells (a4 (insTo m 0)) 131)).drewN N) g 103 (mcs d lv m.part m.last m.older u) ∧ Prt (((w.alloc (.cells (kcs m) 120)).alloc (.cells (a4 (insTo m 0)) 131)).drewN N) d m.tab m.W m.T s I t q ∧ Fresh w (((w.alloc (.cells (kcs m) 120)).alloc (.cells (a4 (insTo m 0)) 131)).drewN N)) :=
      Lib.hid fun N => ⟨(hP0.alloc _).drewN N, hQ.drewN N, (hb1.alloc _).drewN N, hp1.fresh (((Kept.refl (fun _ => False) _).alloc _).drewN N), (hf0.alloc _).drewN N⟩
    have HA := Lib.hid (asked_any g d lv m.part m.last m.older u ((w.alloc (.cells (kcs m) 120)).alloc (.cells (a4 (insTo m 0)) 131)) (hb1.alloc _) h2)
    clear hP0 hb1 hp1 hf0 hb hp c4 H1 hQ
    go_enter Tryd.func73, Tryd.ntmps73
    go_wp2_with fail
    refine HA.out.mono ?_
    rintro e w3 ⟨rfl, N, hN⟩
    have H3 := H2.out N
    rw [← hN] at H3
    have H4 := Lib.hid H3
    clear hN H2 HA c0 c3 H3
    have l0 : (0 : Int) ≤ (lv : Int) := by omega
    have l1 : (lv : Int) ≤ 2 := by omega
    go_wp2_with fail
    go_loopw [28] (fun i wr => ∃ k : Nat, k ≤ lv + 1 ∧ i = .int .i64 k ∧ Blk wr w.heap.size 120 (kcs m) ∧ Blk wr (w.heap.size + 1) 131 (a4 (insTo m k)) ∧ Blk wr g 103 (mcs d lv m.part m.last m.older u) ∧ Prt wr d m.tab m.W m.T s I t q ∧ Fresh w wr) (fun i _ => (lv + 1 - intOf i).toNat)
    case atStart => exact ⟨0, by omega, rfl, H4.out⟩
    case round =>
      obtain ⟨k, hk, rfl, hP, hQ, hb, hp, hfr⟩ := hrel
      clear H4
      by_cases hlt : k < lv + 1
      · have hk3 : k < 3 := by omega
        have c1 := hb.cell (4 + k)
        rw [mcs_tab hk3] at c1
        have c2 := hP.cell k
        rw [kcs_get m hk3] at c2
        have c5 := hQ.cell k
        rw [a4_get (by omega)] at c5
        have f5 := hQ.frozen k
        have hset := hQ.set_ k (.int .i64 (st (pc (ch (m.at_ k)))))
        rw [a4_set _ (by omega), insTo_put] at hset
        have hfs : Fresh w (wr.setCell ⟨w.heap.size + 1, k, none⟩ (.int .i64 (st (pc (ch (m.at_ k)))))) := hfr.setCell (p := ⟨w.heap.size + 1, k, none⟩) (fun h => by have h' : w.heap.size + 1 < w.heap.size := h; omega) _
        have hks : Kept (fun j => j = w.heap.size + 1) wr (wr.setCell ⟨w.heap.size + 1, k, none⟩ (.int .i64 (st (pc (ch (m.at_ k)))))) := (Kept.refl (fun j => j = w.heap.size + 1) wr).setCell (p := ⟨w.heap.size + 1, k, none⟩) (fun _ => rfl) _
        have HS := Lib.hid (And.intro (hP.kept hks (Blk.ne_ hP hQ (by decide))) (And.intro hset (And.intro (hb.kept hks (Blk.ne_ hb hQ (by decide))) (And.intro (hp.kept hks (fun j hj => hp.ne_ hQ (by decide) (by decide) (by decide) (by decide) (by decide) (by decide) hj)) hfs))))
        have HA := Lib.hid (asks m hf (hp.tab k hk3))
        have HT := Lib.hid (stretch_any (ch (m.at_ k) : Nat) wr)
        clear hP hQ hb hp hfr hset hfs hks
        generalize st (pc (ch (m.at_ k))) = y at *
        generalize insTo m k k = z at *
        generalize m.key k = x at *
        generalize ch (m.at_ k) = v at *
        generalize d.g k = gk at *
        have k0 : (0 : Int) ≤ (k : Int) := by omega
        have k1 : (k : Int) < (lv : Int) + 1 := by omega
        have k2 : (k : Int) < 3 := by omega
        have k3 : (k : Int) < 4 := by omega
        go_wp2_with fail
        refine HA.out.mono ?_
        rintro e w' ⟨rfl, rfl⟩
        go_wp2_with fail
        refine HT.out.mono ?_
        rintro e w'' ⟨rfl, rfl⟩
        go_wp2_with fail
        go_roundw
        case rel => exact ⟨k + 1, by omega, by go_num, HS.out⟩
        case measure => simp [intOf]; omega
      · obtain rfl : k = lv + 1 := by omega
        have k1 : ¬ ((lv + 1 : Nat) : Int) < (lv : Int) + 1 := by omega
        have c7 : wr.cell? ⟨g, 7, none⟩ = some (.pointer (some ⟨d.m, 0, none⟩)) := hb.cell 7
        have hrow := (Row.of_a4 hQ).drewN 1
        rw [insTo_all m hl h2] at hrow
        have HM := Lib.hid (mMix_any d.m d.h 256 m.W s I t (m.key 0 : Nat) (some ⟨w.heap.size + 1, 0, none⟩) 4 4 _ _ (hp.mx.drewN 1) hrow (fun b o e _ => by injection e with e; injection e with e1 e2; rw [← e1]; exact fun e3 => hp.ne_ hQ (by decide) (by decide) (by decide) (by decide) (by decide) (by decide) (.inr (.inl rfl)) e3.symm))
        have hpl : pl ((m.key 0 : Nat) : Int) 256 = m.part := pl_in (n := 256) (hf.key_lt 0)
        rw [hpl] at HM
        have HS := Lib.hid (And.intro hb (And.intro hp hfr))
        clear hP hQ hb hp hfr hrow
        go_wp2_with fail
        go_still_tail 6, (by kernel_rfl)
        change wpList _ _ _ _ _ (wr.drewN 1)
        go_wp2_with fail
        refine HM.out.mono ?_
        rintro e w6 ⟨rfl, hm6, hk6⟩
        have hb6 := (HS.out.1.drewN 1).kept hk6 (fun e => (HS.out.2.1.fresh ((Kept.refl _ _).drewN 1)).ne_ (HS.out.1.drewN 1) (by decide) (by decide) (by decide) (by decide) (by decide) (by decide) (.inr (.inl rfl)) e.symm)
        have hp6 := (HS.out.2.1.fresh ((Kept.refl _ _).drewN 1)).mixed hk6 (fun _ h => h) hm6
        have hk6' : Kept (fun k => k = d.m ∨ k = d.s) w w6 := ((HS.out.2.2.drewN 1).mono (T := fun k => k = d.m ∨ k = d.s) (fun _ _ h => h.elim)).trans hk6 (fun _ _ h => .inl h)
        have c8 : w6.cell? ⟨g, 8, none⟩ = some (.pointer (some ⟨d.s, 0, none⟩)) := hb6.cell 8
        have hch : m.chance lv = (tl (inp (ins lv m.now.a m.now.b m.now.c)) (m.W m.part) + 3 * rd (m.T m.part) (sx (tl (inp (ins lv m.now.a m.now.b m.now.c)) (m.W m.part)))) / 4 := if_neg hl
        have htb := tl_bd (inp (ins lv m.now.a m.now.b m.now.c)) (m.W m.part)
        have hR := sRefine_any d.s d.z 256 m.T q (tl (inp (ins lv m.now.a m.now.b m.now.c)) (m.W m.part)) (m.key 0 : Nat) w6 hp6.sg
        rw [hpl] at hR
        have HR := Lib.hid hR
        have hrb := rd_bd (hf.t m.part) (sx (tl (inp (ins lv m.now.a m.now.b m.now.c)) (m.W m.part)))
        have HF : Hid (∀ w8 : World, Stg w8 d.s d.z 256 m.T (some (m.part, nr (sx (tl (inp (ins lv m.now.a m.now.b m.now.c)) (m.W m.part))))) → Kept (fun j => j = d.s) w6 w8 → ∃ s' I' t' q', Prt w8 d m.tab m.W m.T s' I' t' q' ∧ Rdy lv m s' I' t' q' ∧ Kept (fun k => k = d.m ∨ k = d.s) w w8) :=
          Lib.hid fun w8 hs hk => ⟨_, _, _, _, hp6.staged hk (fun _ h => h) hs, fun _ => ⟨rfl, rfl, rfl, rfl⟩, hk6'.trans hk (fun _ _ h => .inr h)⟩
        have HC := Lib.hid hch
        clear hm6 hk6 hb6 hp6 hk6' hR HM HS hpl hch
        generalize rd (m.T m.part) (sx (tl (inp (ins lv m.now.a m.now.b m.now.c)) (m.W m.part))) = r at *
        generalize nr (sx (tl (inp (ins lv m.now.a m.now.b m.now.c)) (m.W m.part))) = z at *
        generalize tl (inp (ins lv m.now.a m.now.b m.now.c)) (m.W m.part) = T at *
        obtain ⟨t1, t2⟩ := htb
        obtain ⟨r1, r2⟩ := hrb
        go_wp2_with fail
        refine HR.out.mono ?_
        rintro e w8 ⟨rfl, hs8, hk8⟩
        have H8 := Lib.hid (HF.out w8 hs8 hk8)
        clear hs8 hk8 HF
        go_wp2_with fail
        go_ret
        refine ⟨?_, H8.out⟩
        rw [HC.out]
        refine ret_int ?_
        omega

end Go.Proofs.YtpknbfkknnaajaaDoor
