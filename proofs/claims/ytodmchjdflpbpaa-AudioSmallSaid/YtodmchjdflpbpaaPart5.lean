/- Texts of this proof, one behind the other: AudMath, AudP, AudK. -/
import Derived.Test.YtodmchjdflpbpaaPart4
import Derived.Test.YtodmchjdflpbpaaPart3
import Derived.Test.YtodmchjdflpbpaaPart1
import Derived.Test.YtodmchjdflpbpaaWavMath
import Derived.Test.YtodmchjdflpbpaaHusMath
import Derived.Handy
import Derived.RangeFuncNested
import Derived.RangeFuncBound
import Derived.RangeFuncCalls
import Derived.RangeFuncLeaves
import Derived.Shelf.Abstract
import Derived.Shelf.RegionOpen
import Derived.WalkKit
import Derived.OwnWalkIn
import Derived.TacticsInMore
import Derived.LoopNIn
import Derived.LoopIn
import Derived.Lib.MinMax

/- Audio, as plain mathematics: what a file becomes. -/
namespace Go.Proofs.Ytodmchjdflpbpaa
open Go.RowKit
set_option maxRecDepth 100000

/-- What is left of numbers by the predictor of a tag, and back. -/
def lev (t : Nat) (l : List Int) : List Int := if t = 4 then lres l else res t l
def unl (t : Nat) (l : List Int) : List Int := if t = 4 then lrst l else rst t l
def pkT (t : Nat) (l : List Int) : List Int := pk (rall (lev t l))
/-- The tag that a track is packed by. -/
def tagT (l : List Int) : Nat := if (pkT 4 l).length < (pkT (bestOr l 3) l).length then 4 else bestOr l 3
def trkP (l : List Int) : List Int := sv (tagT l) ++ tx (pkT (tagT l) l)
/-- Tracks that are packed one way. -/
def wrt (way : Nat) (ls : List (List Int)) : List Int := sv way ++ ls.flatMap trkP
def grp2 (l r : List Int) : List Int := if (wrt 1 [mids l r, sids l r]).length < (wrt 0 [l, r]).length then wrt 1 [mids l r, sids l r] else wrt 0 [l, r]
def grpP (T : Nat → List Int) (n g : Nat) : List Int := if 2 * g + 1 < n then grp2 (T (2 * g)) (T (2 * g + 1)) else wrt 0 [T (2 * g)]
def grpsP (T : Nat → List Int) (n : Nat) : Nat → List Int
  | 0 => []
  | g + 1 => grpsP T n g ++ grpP T n g
def halves (n : Nat) : Nat := (n + 1) / 2
/-- The samples' bytes. -/
def smps (bs : List Int) (r : Nat × Nat × Nat × Nat) : List Int := slc bs r.2.2.1 (r.2.2.2 - r.2.2.1)
def apR (bs : List Int) (r : Nat × Nat × Nat × Nat) : List Int :=
  sv bs.length ++ tx (bs.take r.2.2.1) ++ tx (bs.drop r.2.2.2) ++ grpsP (trkT r.2.1 (smps bs r) r.1) r.1 (halves r.1)
def apC (bs : List Int) : List Int := match wparse bs with
  | none => []
  | some r => apR bs r

theorem lev_length (t : Nat) (l : List Int) : (lev t l).length = l.length := by unfold lev; split; exact lres_length l; exact res_length t l
theorem unl_length (t : Nat) (l : List Int) : (unl t l).length = l.length := by unfold unl; split; exact lrst_length l; exact rst_length t l
theorem lev_32 (t : Nat) (l : List Int) : I32 (lev t l) := by unfold lev; split; exact lres_32 l; exact res_32 t l
theorem unl_32 (t : Nat) (l : List Int) : I32 (unl t l) := by unfold unl; split; exact lrst_32 l; exact rst_32 t l
theorem unl_lev (t : Nat) {l : List Int} (h : I32 l) : unl t (lev t l) = l := by
  unfold unl lev
  split
  · exact lrst_lres h
  · exact rst_res t h
theorem tagT_le (l : List Int) : tagT l ≤ 4 := by
  unfold tagT
  have := bestOr_le l 3
  split <;> omega
theorem mids_length (l r : List Int) : (mids l r).length = l.length := tn_length _ _
theorem sids_length (l r : List Int) : (sids l r).length = l.length := tn_length _ _
theorem lfts_length (l r : List Int) : (lfts l r).length = l.length := tn_length _ _
theorem rgts_length (l r : List Int) : (rgts l r).length = l.length := tn_length _ _
theorem mids_32 (l r : List Int) : I32 (mids l r) := I32.tn fun _ _ => w32_in _
theorem sids_32 (l r : List Int) : I32 (sids l r) := I32.tn fun _ _ => w32_in _
theorem lfts_32 (l r : List Int) : I32 (lfts l r) := I32.tn fun _ _ => w32_in _
theorem rgts_32 (l r : List Int) : I32 (rgts l r) := I32.tn fun _ _ => w32_in _

theorem trkP_byte (l : List Int) : ∀ x ∈ trkP l, 0 ≤ x ∧ x < 256 := all_append (sv_byte _) (tx_byte (pk_bytes _))
theorem wrt_byte (way : Nat) (ls : List (List Int)) : ∀ x ∈ wrt way ls, 0 ≤ x ∧ x < 256 := all_append (sv_byte _) fun x hx => by
  obtain ⟨l, _, hl⟩ := List.mem_flatMap.1 hx
  exact trkP_byte l x hl
theorem grpP_byte (T : Nat → List Int) (n g : Nat) : ∀ x ∈ grpP T n g, 0 ≤ x ∧ x < 256 := by
  unfold grpP grp2
  split
  · split <;> exact wrt_byte _ _
  · exact wrt_byte _ _
theorem grpsP_byte (T : Nat → List Int) (n : Nat) : ∀ g, ∀ x ∈ grpsP T n g, 0 ≤ x ∧ x < 256
  | 0 => by simp [grpsP]
  | g + 1 => all_append (grpsP_byte T n g) (grpP_byte T n g)
theorem apC_byte {bs : List Int} (h : ∀ x ∈ bs, 0 ≤ x ∧ x < 256) : ∀ x ∈ apC bs, 0 ≤ x ∧ x < 256 := by
  unfold apC
  split
  · simp
  · exact all_append (all_append (all_append (sv_byte _) (tx_byte fun x hx => h x (List.mem_of_mem_take hx))) (tx_byte fun x hx => h x (List.mem_of_mem_drop hx))) (grpsP_byte _ _ _)

/-- How long they are. -/
theorem pkT_le (t : Nat) (l : List Int) : (pkT t l).length ≤ 8 * l.length + 2 := by
  unfold pkT
  have := rall_length (lev t l)
  rw [lev_length] at this
  rw [pk_length]
  omega
theorem trkP_le {l : List Int} (h : l.length ≤ 1048576) : (trkP l).length ≤ 22 + 8 * l.length := by
  unfold trkP
  have h1 := sv_le10 (tagT l) (by have := tagT_le l; omega)
  have h2 := pkT_le (tagT l) l
  have h3 := tx_le (xs := pkT (tagT l) l) (by omega)
  rw [List.length_append]
  omega
theorem wrt1_le {way : Nat} (hw : way ≤ 1) {a : List Int} (ha : a.length ≤ 1048576) : (wrt way [a]).length ≤ 32 + 8 * a.length := by
  have h1 := sv_le10 way (by omega)
  have h2 := trkP_le ha
  simp only [wrt, List.length_append, List.flatMap_cons, List.flatMap_nil, List.length_nil]
  omega
theorem wrt2_le {way : Nat} (hw : way ≤ 1) {a b : List Int} (ha : a.length ≤ 1048576) (hb : b.length ≤ 1048576) : (wrt way [a, b]).length ≤ 54 + 8 * a.length + 8 * b.length := by
  have h1 := sv_le10 way (by omega)
  have h2 := trkP_le ha
  have h3 := trkP_le hb
  simp only [wrt, List.length_append, List.flatMap_cons, List.flatMap_nil, List.length_nil]
  omega
theorem grpP_le {T : Nat → List Int} {n g F : Nat} (hF : F ≤ 1048576) (h : ∀ i, i < n → (T i).length = F) (hg : 2 * g < n) : (grpP T n g).length ≤ 54 + 16 * F := by
  unfold grpP grp2
  have e1 := h (2 * g) hg
  split
  · rename_i h2
    have e2 := h (2 * g + 1) h2
    have w2 := wrt2_le (way := 0) (by omega) (a := T (2 * g)) (b := T (2 * g + 1)) (by omega) (by omega)
    split <;> omega
  · have w1 := wrt1_le (way := 0) (by omega) (a := T (2 * g)) (by omega)
    omega
theorem grpsP_le {T : Nat → List Int} {n F : Nat} (hF : F ≤ 1048576) (h : ∀ i, i < n → (T i).length = F) : ∀ g, g ≤ halves n → (grpsP T n g).length ≤ g * (54 + 16 * F)
  | 0, _ => by simp [grpsP]
  | g + 1, hg => by
    have ih := grpsP_le hF h g (by omega)
    have h2 := grpP_le hF h (g := g) (by unfold halves at hg; omega)
    rw [grpsP, List.length_append, Nat.succ_mul]
    omega

/-- A file that may be packed: its parts. -/
structure Pt (bs : List Int) (r : Nat × Nat × Nat × Nat) : Prop where
  ch : 1 ≤ r.1 ∧ r.1 ≤ 8
  bt : r.2.1 = 8 ∨ r.2.1 = 16
  ft : r.2.2.1 < r.2.2.2 ∧ r.2.2.2 ≤ bs.length
  lo : 44 ≤ r.2.2.1
  fr : (r.2.2.2 - r.2.2.1) % (r.1 * wdT r.2.1) = 0
theorem Pt.of {bs : List Int} {r : Nat × Nat × Nat × Nat} (h : wparse bs = some r) : Pt bs r := by
  obtain ⟨a1, a2, a3, a4, a5, a6, a7⟩ := wparse_some h
  refine ⟨⟨a1, a2⟩, a3, ⟨a5, a6⟩, a4, ?_⟩
  rcases a3 with e | e
  · rw [e] at a7 ⊢
    rw [show r.1 * wdT (8 : Nat) = r.1 * 8 / 8 by unfold wdT; simp]
    exact a7
  · rw [e] at a7 ⊢
    rw [show r.1 * wdT (16 : Nat) = r.1 * 16 / 8 by unfold wdT; simp; omega]
    exact a7
theorem Pt.slen {bs : List Int} {r : Nat × Nat × Nat × Nat} (h : Pt bs r) : (smps bs r).length = r.2.2.2 - r.2.2.1 := slc_length (by have := h.ft; omega)
/-- How many frames it has. -/
def frms (r : Nat × Nat × Nat × Nat) : Nat := (r.2.2.2 - r.2.2.1) / (r.1 * wdT r.2.1)
theorem Pt.tlen {bs : List Int} {r : Nat × Nat × Nat × Nat} (h : Pt bs r) (i : Nat) : (trkT r.2.1 (smps bs r) r.1 i).length = frms r := by
  rw [trkT_length, h.slen]; rfl
theorem Pt.frms_le {bs : List Int} {r : Nat × Nat × Nat × Nat} (h : Pt bs r) : frms r ≤ bs.length ∧ frms r * (r.1 * wdT r.2.1) = r.2.2.2 - r.2.2.1 := by
  have h1 := Nat.div_add_mod (r.2.2.2 - r.2.2.1) (r.1 * wdT r.2.1)
  rw [h.fr, Nat.mul_comm] at h1
  refine ⟨?_, by unfold frms; omega⟩
  have := Nat.div_le_self (r.2.2.2 - r.2.2.1) (r.1 * wdT r.2.1)
  have := h.ft
  unfold frms
  omega
theorem apR_le {bs : List Int} {r : Nat × Nat × Nat × Nat} (h : Pt bs r) (hb : bs.length ≤ 1048576) : (apR bs r).length ≤ 70000000 := by
  have h1 := sv_le10 bs.length (by omega)
  have h2 := tx_le (xs := bs.take r.2.2.1) (by rw [List.length_take]; omega)
  have h3 := tx_le (xs := bs.drop r.2.2.2) (by rw [List.length_drop]; omega)
  have h4 := grpsP_le (T := trkT r.2.1 (smps bs r) r.1) (n := r.1) (F := frms r) (by have := h.frms_le.1; omega) (fun i _ => h.tlen i) (halves r.1) (Nat.le_refl _)
  have h5 : halves r.1 ≤ 4 := by have := h.ch; unfold halves; omega
  have h6 : halves r.1 * (54 + 16 * frms r) ≤ 4 * (54 + 16 * frms r) := Nat.mul_le_mul_right _ h5
  have h7 := h.frms_le.1
  rw [List.length_take] at h2
  rw [List.length_drop] at h3
  unfold apR
  simp only [List.length_append]
  omega

theorem apR_len {bs : List Int} {r : Nat × Nat × Nat × Nat} (h : Pt bs r) (hb : bs.length ≤ 1048576) : 0 < (apR bs r).length ∧ (apR bs r).length ≤ 16777216 := by
  have h0 := sv_pos bs.length
  have h1 := sv_le10 bs.length (by omega)
  have h2 := tx_le (xs := bs.take r.2.2.1) (by rw [List.length_take]; omega)
  have h3 := tx_le (xs := bs.drop r.2.2.2) (by rw [List.length_drop]; omega)
  have h4 := grpsP_le (T := trkT r.2.1 (smps bs r) r.1) (n := r.1) (F := frms r) (by have := h.frms_le.1; omega) (fun i _ => h.tlen i) (halves r.1) (Nat.le_refl _)
  have h7 := h.frms_le.2
  have h8 := h.ch
  have h9 := h.ft
  have h10 := h.lo
  have h11 := wdT_pos (r.2.1 : Int)
  rw [List.length_take] at h2
  rw [List.length_drop] at h3
  unfold apR
  simp only [List.length_append]
  generalize (grpsP (trkT (↑r.2.1) (smps bs r) r.1) r.1 (halves r.1)).length = G at *
  generalize (tx (bs.take r.2.2.1)).length = a at *
  generalize (tx (bs.drop r.2.2.2)).length = b at *
  generalize (sv bs.length).length = s at *
  generalize frms r = F at *
  generalize wdT (r.2.1 : Int) = wd at *
  generalize r.2.2.1 = f at *
  generalize r.2.2.2 = t at *
  generalize r.1 = ch at *
  refine ⟨by omega, ?_⟩
  unfold halves at h4
  rcases (show wd = 1 ∨ wd = 2 by omega) with rfl | rfl <;> rcases (show ch = 1 ∨ ch = 2 ∨ ch = 3 ∨ ch = 4 ∨ ch = 5 ∨ ch = 6 ∨ ch = 7 ∨ ch = 8 by omega) with rfl | rfl | rfl | rfl | rfl | rfl | rfl | rfl <;> omega
theorem apC_len {bs : List Int} (hb : bs.length ≤ 1048576) (hw : (wparse bs).isSome = true) : 0 < (apC bs).length ∧ (apC bs).length ≤ 16777216 := by
  obtain ⟨r, hr⟩ := Option.isSome_iff_exists.1 hw
  have hap : apC bs = apR bs r := by unfold apC; rw [hr]
  rw [hap]
  exact apR_len (Pt.of hr) hb

end Go.Proofs.Ytodmchjdflpbpaa

/- Audio's packers: a predictor behind an interface, the shortest one. -/
namespace Go.Proofs.Ytodmchjdflpbpaa
open Go.RowKit
set_option maxRecDepth 100000

attribute [local go_sem ↓] Go.wp_at_zero Go.wp_at_succ

/-- The packer of a tag. -/
def prd (t : Nat) : Value := if t = 4 then .iface 99 (.agg #[]) else .iface 100 (.int .i64 t)
def pkr (t : Nat) : Value := .agg #[prd t, .int .i64 t]
theorem prd_four : prd 4 = .iface 99 (.agg #[]) := rfl
theorem prd_less {t : Nat} (h : t ≠ 4) : prd t = .iface 100 (.int .i64 t) := if_neg h

set_option maxHeartbeats 800000 in
theorem cPackerOf_any (t : Nat) (w : World) : Calls Try.prog 42 #[.int .i64 t] w fun e w' => e = .returned (pkr t) ∧ Fresh w w' := by
  by_cases h : t = 4
  · subst h
    go_enter Try.func42, Try.ntmps42
    go_wp2_with fail
    exact bodyPost_ret (v := pkr 4) (by simp [results, Try.results42, go_sem, pkr, prd_four]) rfl ⟨rfl, (Kept.refl _ _).alloc _⟩
  · have h4 : ¬ (t : Int) = 4 := by omega
    go_enter Try.func42, Try.ntmps42
    go_wp2_with fail
    exact bodyPost_ret (v := pkr t) (by simp [results, Try.results42, go_sem, pkr, prd_less h]) rfl ⟨rfl, (Kept.refl _ _).alloc _⟩

/-- What is made behind new memory is new. -/
theorem NewRow.after {w w1 w2 : World} {e : TypeId} {k : IntKind} {v : Value} {xs : List Int} (hf : Fresh w w1) (h : NewRow w1 w2 e k v xs) : NewRow w w2 e k v xs :=
  ⟨h.1, fun g hg => Nat.le_trans hf.size (h.2.1 g hg), hf.trans h.2.2 fun _ _ e => e⟩
section
variable (A : Option Addr) (n c : Nat) (l : List Int) (w : World) (hr : Row w .i32 A n l) (h32 : I32 l) (hn : n ≤ 1048576)
include hr h32 hn
set_option maxHeartbeats 800000 in
theorem cRigRes_any (t : Nat) (ht : t ≤ 3) : Calls Try.prog 85 #[.int .i64 t, .slice A n c] w fun e w' => ∃ u, e = .returned u ∧ NewRow w w' 21 .i32 u (res t l) := by
  have HC := Lib.hid (cResidual_any A n c l (t : Int) w hr h32 hn)
  rw [ko_in ht] at HC
  clear hr h32
  go_enter Try.func85, Try.ntmps85
  go_wp2_with fail
  refine HC.out.mono ?_
  rintro e w1 ⟨u, rfl, hu⟩
  go_wp2_with fail
  go_ret
  exact ⟨_, rfl, hu⟩
set_option maxHeartbeats 800000 in
theorem cLrnRes_any : Calls Try.prog 77 #[.agg #[], .slice A n c] w fun e w' => ∃ u, e = .returned u ∧ NewRow w w' 21 .i32 u (lres l) := by
  have hf : Fresh w (w.alloc (.cells #[] 99)) := (Kept.refl _ _).alloc _
  have HC := Lib.hid (clResidual_any A n c l _ (hr.kept hf (fun _ _ _ _ => id)) h32 hn)
  have HF := Lib.hid hf
  clear hr h32 hf
  go_enter Try.func77, Try.ntmps77
  go_wp2_with fail
  refine HC.out.mono ?_
  rintro e w1 ⟨u, rfl, hu⟩
  go_wp2_with fail
  go_ret
  exact ⟨_, rfl, hu.after HF.out⟩

set_option maxHeartbeats 1600000 in
/-- pack. -/
theorem cPPack_any (t : Nat) (ht : t ≤ 4) : Calls Try.prog 43 #[pkr t, .slice A n c] w fun e w' => ∃ u, e = .returned u ∧ NewRow w w' 5 .u8 u (pkT t l) := by
  obtain rfl := hr.len
  unfold pkr
  by_cases h : t = 4
  · subst h
    rw [prd_four]
    have hf : Fresh w (w.alloc (.cells #[.iface 99 (.agg #[]), .int .i64 4] 93)) := (Kept.refl _ _).alloc _
    have HC := Lib.hid (cLrnRes_any A l.length c l _ (hr.kept hf (fun _ _ _ _ => id)) h32 hn)
    have HF := Lib.hid hf
    have HL := Lib.hid (lres_length l)
    clear hr h32 hf
    go_enter Try.func43, Try.ntmps43
    go_wp2_with fail
    refine HC.out.mono ?_
    rintro e w1 ⟨u, rfl, hu⟩
    obtain ⟨A1, c1, rfl, hr1, _⟩ := hu.1.row
    have HP := Lib.hid (cPackR_any A1 _ c1 (lres l) w1 hr1 (lres_32 l) (by rw [HL.out]; exact hn) hu.1.cap)
    have HU := Lib.hid hu.2.2
    clear hu hr1 HC
    generalize (lres l).length = m at *
    go_wp2_with fail
    refine HP.out.mono ?_
    rintro e w2 ⟨v, rfl, hv⟩
    go_wp2_with fail
    go_ret
    exact ⟨_, rfl, (hv.after HU.out).after HF.out⟩
  · rw [prd_less h]
    have hf : Fresh w (w.alloc (.cells #[.iface 100 (.int .i64 t), .int .i64 t] 93)) := (Kept.refl _ _).alloc _
    have HC := Lib.hid (cRigRes_any A l.length c l _ (hr.kept hf (fun _ _ _ _ => id)) h32 hn t (by omega))
    have HF := Lib.hid hf
    have HL := Lib.hid (res_length t l)
    have HE : Hid (pkT t l = pk (rall (res t l))) := Lib.hid (by unfold pkT lev; rw [if_neg h])
    clear hr h32 hf
    go_enter Try.func43, Try.ntmps43
    go_wp2_with fail
    refine HC.out.mono ?_
    rintro e w1 ⟨u, rfl, hu⟩
    obtain ⟨A1, c1, rfl, hr1, _⟩ := hu.1.row
    have HP := Lib.hid (cPackR_any A1 _ c1 (res t l) w1 hr1 (res_32 t l) (by rw [HL.out]; exact hn) hu.1.cap)
    have HU := Lib.hid hu.2.2
    clear hu hr1 HC
    generalize (res t l).length = m at *
    go_wp2_with fail
    refine HP.out.mono ?_
    rintro e w2 ⟨v, rfl, hv⟩
    go_wp2_with fail
    go_ret
    rw [HE.out]
    exact ⟨_, rfl, (hv.after HU.out).after HF.out⟩

set_option maxHeartbeats 1600000 in
/-- shortest. -/
theorem cShortest_any : Calls Try.prog 39 #[.slice A n c] w fun e w' => ∃ u, e = .returned (.tuple #[.int .i64 (tagT l : Nat), u]) ∧ NewRow w w' 5 .u8 u (pkT (tagT l) l) := by
  have HB := Lib.hid (cBestO_any A n c l w hr h32 hn)
  have hb3 := bestOr_le l 3
  obtain ⟨b, hb⟩ : ∃ b, b = bestOr l 3 := ⟨_, rfl⟩
  have HT : Hid (tagT l = if (pkT 4 l).length < (pkT b l).length then 4 else b) := Lib.hid (by rw [hb]; rfl)
  rw [← hb] at HB hb3
  have HR := Lib.hid (And.intro hr h32)
  clear hr h32 hb
  go_enter Try.func39, Try.ntmps39
  go_wp2_with fail
  refine HB.out.mono ?_
  rintro e w1 ⟨rfl, hf1⟩
  have H1 := Lib.hid (And.intro hf1 (cPackerOf_any b w1))
  clear hf1 HB
  go_wp2_with fail
  refine H1.out.2.mono ?_
  rintro e w2 ⟨rfl, hf2⟩
  have hf := H1.out.1.trans hf2 fun _ _ e => e
  have H2 := Lib.hid (And.intro hf (cPPack_any A n c l w2 (HR.out.1.kept hf (fun _ _ _ _ => id)) HR.out.2 hn b (by omega)))
  clear hf hf2 H1
  go_wp2_with fail
  refine H2.out.2.mono ?_
  rintro e w3 ⟨u, rfl, hu⟩
  have hu := hu.after H2.out.1
  have H3 := Lib.hid (And.intro hu (cPackerOf_any 4 w3))
  clear hu H2
  go_wp2_with fail
  refine H3.out.2.mono ?_
  rintro e w4 ⟨rfl, hf4⟩
  have hf := H3.out.1.2.2.trans hf4 fun _ _ e => e
  have H4 := Lib.hid (And.intro hf (And.intro (H3.out.1.1.kept hf4 (fun _ _ => id)) (cPPack_any A n c l w4 (HR.out.1.kept hf (fun _ _ _ _ => id)) HR.out.2 hn 4 (by omega))))
  have HU := Lib.hid H3.out.1.2.1
  clear hf hf4 H3
  go_wp2_with fail
  refine H4.out.2.2.mono ?_
  rintro e w5 ⟨v, rfl, hv⟩
  have hu5 := H4.out.2.1.kept hv.2.2 (fun _ _ => id)
  have hv5 := hv.after H4.out.1
  have H5 := Lib.hid (And.intro hu5 hv5)
  obtain ⟨A5, c5, rfl, _, _⟩ := hu5.row
  obtain ⟨A6, c6, rfl, _, _⟩ := hv5.1.row
  clear hu5 hv5 hv H4
  by_cases hlt : (pkT 4 l).length < (pkT b l).length
  · have i1 : ((pkT 4 l).length : Int) < ((pkT b l).length : Int) := by omega
    have HE : Hid (tagT l = 4) := Lib.hid (by rw [HT.out, if_pos hlt])
    clear hlt HT
    generalize (pkT 4 l).length = l4 at *
    generalize (pkT b l).length = lb at *
    go_wp2_with fail
    go_ret2
    rw [HE.out]
    exact ⟨_, rfl, H5.out.2⟩
  · have i1 : ¬ ((pkT 4 l).length : Int) < ((pkT b l).length : Int) := by omega
    have HE : Hid (tagT l = b) := Lib.hid (by rw [HT.out, if_neg hlt])
    clear hlt HT
    generalize (pkT 4 l).length = l4 at *
    generalize (pkT b l).length = lb at *
    go_wp2_with fail
    go_ret2
    rw [HE.out]
    exact ⟨_, rfl, H5.out.1, HU.out, H5.out.2.2.2⟩
end

end Go.Proofs.Ytodmchjdflpbpaa

/- slices.Chunk over a list of lists, by twos, and the iterator that it makes. -/
namespace Go.Proofs.Ytodmchjdflpbpaa
open Go.RowKit Go.Shelf
set_option maxRecDepth 100000

attribute [local go_sem] Oper.semAt_some

/-- The j-th part of 2 of the slice. -/
def pairAt (A : Option Addr) (n j : Nat) : Value := .slice (A.map fun a => ⟨a.block, a.off + 2 * j, none⟩) (min 2 (n - 2 * j)) (min 2 (n - 2 * j))
def pairs2 (n : Nat) : Nat := (n + 1) / 2
set_option maxHeartbeats 1000000 in
theorem pair_any (A : Option Addr) (n c : Nat) (w : World) :
    Calls Try.prog 12 #[.slice A n c, .int .i64 2] w fun e w' => e = .returned (.func (.func 25) #[] #[.pointer (some ⟨w.heap.size, 0, none⟩), .pointer (some ⟨w.heap.size + 1, 0, none⟩)]) ∧
      w' = (w.alloc (.cells #[.slice A n c] 38)).alloc (.cells #[.int .i64 2] 3) := by
  go_enter Try.func12, Try.ntmps12
  go_wp2
  go_ret
  exact ⟨rfl, rfl⟩

set_option maxHeartbeats 2000000 in
/-- The iterator. -/
theorem pair1_in (m : Nat) (hm : 1 ≤ m) (l B b o n c : Nat) (hnc : n ≤ c) (hn : n ≤ 1048576) (J Jx : List Nat → World → Prop) (hJ : ∀ s V, J s V → J s V.drew)
    (hY : ∀ pre x W, J pre W → pre.length < pairs2 n → YieldAt Fence.wide (m - 1) Try.prog l #[pairAt (some ⟨b, o, none⟩) n x] W fun e W' =>
      (e = .returned (.bool true) ∧ J (pre ++ [x]) W' ∧ BoxesAt B W W') ∨ (e = .returned (.bool false) ∧ Jx (pre ++ [x]) W'))
    (W : World) (h1 : Blk W B 38 #[.slice (some ⟨b, o, none⟩) n c]) (h2 : Blk W (B + 1) 3 #[.int .i64 2]) (h0 : J [] W) :
    CallsIn Fence.wide m Try.prog 25 #[.func (.yield l) #[] #[], .pointer (some ⟨B, 0, none⟩), .pointer (some ⟨B + 1, 0, none⟩)] W fun e W' => (∃ v, e = .returned v) ∧
      ((∃ ys, ys = List.range (pairs2 n) ∧ J ys W') ∨ (∃ pre, (∃ k, k ≤ pairs2 n ∧ pre = List.range k) ∧ Jx pre W')) := by
  have n0 : (n : Int) ≤ 1048576 := by omega
  have n1 : (n : Int) ≤ (c : Int) := by omega
  refine callsIn_of_wp Try.func25 rfl trivial ?_ rfl
  simp only [Try.ntmps25, List.size_toArray, List.length_cons, List.length_nil, Nat.reduceAdd, Nat.reduceSub, Array.replicate_succ, Array.replicate_zero, List.push_toArray, List.append_toArray, List.nil_append, List.cons_append]
  gi_wp2
  gi_loopw [4] (fun i wr => ∃ k : Nat, 2 * k < n + 2 ∧ i = .int .i64 ((2 * k : Nat) : Int) ∧ J (List.range k) wr ∧ Blk wr B 38 #[.slice (some ⟨b, o, none⟩) n c] ∧ Blk wr (B + 1) 3 #[.int .i64 2])
    (fun i _ => n + 2 - (intOf i).toNat)
  case atStart => exact ⟨0, by omega, rfl, h0, h1, h2⟩
  case round =>
    obtain ⟨k, hk, rfl, hJs, hb1, hb2⟩ := hrel
    have c1 := hb1.cell 0
    have c2 := hb2.cell 0
    simp only [List.getElem?_toArray, List.getElem?_cons_zero] at c1 c2
    by_cases hlt : 2 * k < n
    · obtain ⟨fn, tmps, assign, body, hy, hR⟩ := hY _ k wr.drew (hJ _ _ hJs) (by rw [List.length_range]; unfold pairs2; omega)
      obtain ⟨m', hm'⟩ : ∃ m', m' = min 2 (n - 2 * k) := ⟨_, rfl⟩
      simp only [pairAt, Option.map_some, ← hm'] at hy
      have j0 : ((2 * k : Nat) : Int) < (n : Int) := by omega
      have HM := Lib.hid hm'
      have hmin : min (2 : Int) ((n - 2 * k : Nat) : Int) = (m' : Int) := by omega
      have hb1' := hb1.drew
      have hb2' := hb2.drew
      have c1' : wr.drew.cell? ⟨B, 0, none⟩ = some (.slice (some ⟨b, o, none⟩) n c) := c1
      have c2' : wr.drew.cell? ⟨B + 1, 0, none⟩ = some (.int .i64 2) := c2
      have jm : 2 * k + m' ≤ n := by omega
      have jm' : ((2 * k : Nat) : Int) + (m' : Int) ≤ (n : Int) := by omega
      clear hm'
      gi_wp2
      gi_region
      have jt : ((2 * k : Nat) : Int) + (m' : Int) = ((2 * k + m' : Nat) : Int) := by omega
      have jd : 2 * k + m' - 2 * k = m' := by omega
      gi_wp2
      refine hR.mono ?_
      rintro e W3 (⟨rfl, hJ3, hk3⟩ | ⟨rfl, hJx3⟩)
      · have hb1'' : Blk W3 B 38 #[.slice (some ⟨b, o, none⟩) n c] := hk3.1.trans hb1'
        have hb2'' : Blk W3 (B + 1) 3 #[.int .i64 2] := hk3.2.trans hb2'
        have c2'' := hb2''.cell 0
        simp only [List.getElem?_toArray, List.getElem?_cons_zero] at c2''
        gi_wp2
        go_roundw
        case rel => exact ⟨k + 1, by omega, by go_num, by rw [List.range_succ]; exact hJ3, hb1'', hb2''⟩
        case measure => simp [intOf]; omega
      · gi_wp2
        refine bodyPost_ret (results_none rfl _ _ _) rfl ?_
        exact ⟨⟨_, rfl⟩, .inr ⟨_, ⟨k + 1, by unfold pairs2; omega, List.range_succ.symm⟩, hJx3⟩⟩
    · have j0 : ¬ ((2 * k : Nat) : Int) < (n : Int) := by omega
      gi_wp2
      go_end0
      exact ⟨⟨_, rfl⟩, .inl (by rw [show pairs2 n = k from by unfold pairs2; omega]; exact hJs)⟩

set_option maxHeartbeats 1000000 in
/-- Of no numbers: no round. -/
theorem pair0_in (m : Nat) (l B : Nat) (A : Option Addr) (c : Nat) (J : List Nat → World → Prop)
    (W : World) (h1 : Blk W B 38 #[.slice A 0 c]) (h0 : J [] W) :
    CallsIn Fence.wide m Try.prog 25 #[.func (.yield l) #[] #[], .pointer (some ⟨B, 0, none⟩), .pointer (some ⟨B + 1, 0, none⟩)] W fun e W' => (∃ v, e = .returned v) ∧ J [] W' := by
  refine callsIn_of_wp Try.func25 rfl trivial ?_ rfl
  simp only [Try.ntmps25, List.size_toArray, List.length_cons, List.length_nil, Nat.reduceAdd, Nat.reduceSub, Array.replicate_succ, Array.replicate_zero, List.push_toArray, List.append_toArray, List.nil_append, List.cons_append]
  have c1 := h1.cell 0
  simp only [List.getElem?_toArray, List.getElem?_cons_zero] at c1
  gi_wp2
  gi_loopw [4] (fun i wr => i = .int .i64 0 ∧ J [] wr ∧ Blk wr B 38 #[.slice A 0 c]) (fun _ _ => 0)
  case atStart => exact ⟨rfl, h0, h1⟩
  case round =>
    obtain ⟨rfl, hJs, hb⟩ := hrel
    have c1 := hb.cell 0
    simp only [List.getElem?_toArray, List.getElem?_cons_zero] at c1
    gi_wp2
    go_end0
    exact ⟨⟨_, rfl⟩, hJs⟩

/-- What Chunk hands back tells the parts of the slice, one behind the other; or the first ones of them. -/
theorem pair_stops (m : Nat) (hm : 1 ≤ m) (B : Nat) (A : Option Addr) (n c : Nat) (hA : 0 < n → ∃ b o, A = some ⟨b, o, none⟩) (hnc : n ≤ c) (hn : n ≤ 1048576) (w : World)
    (h1 : Blk w B 38 #[.slice A n c]) (h2 : Blk w (B + 1) 3 #[.int .i64 2]) :
    SeqStopsK Fence.wide m Try.prog 25 #[.pointer (some ⟨B, 0, none⟩), .pointer (some ⟨B + 1, 0, none⟩)] (fun j : Nat => #[pairAt A n j]) (BoxesAt B) (fun ys => ys = List.range (pairs2 n))
      (fun pre => ∃ k, k ≤ pairs2 n ∧ pre = List.range k) (pairs2 n) w := fun l J Jx W hW hJ _ hY h0 => by
  have g1 : Blk W B 38 #[.slice A n c] := (hW.block B h1.lt).trans h1
  have g2 : Blk W (B + 1) 3 #[.int .i64 2] := (hW.block (B + 1) h2.lt).trans h2
  rcases Nat.eq_zero_or_pos n with h | h
  · subst h
    exact (pair0_in m l B A c J W g1 h0).mono fun e W' ⟨he, hj⟩ => ⟨he, .inl ⟨_, rfl, hj⟩⟩
  · obtain ⟨b, o, rfl⟩ := hA h
    exact pair1_in m hm l B b o n c hnc hn J Jx (fun s V hs => hJ s V V.drew none hs ⟨rfl, rfl, rfl, Nat.le_refl _, fun _ _ _ => rfl⟩ (fun r e => by cases e)) hY W g1 g2 h0

end Go.Proofs.Ytodmchjdflpbpaa
