/- The code of husk: what a file has around the part that is packed otherwise, written and read. -/
import Derived.Test.YtodmchjdflpbpaaHusMath
import Derived.Test.YtodmchjdflpbpaaNumW
import Derived.Test.YtodmchjdflpbpaaConcat
import Derived.Test.YtodmchjdflpbpaaZeros
import Derived.Deep.RegionWith
import Derived.BigQuiet
import Derived.BigRegion
import Derived.Lib.MinMax
namespace Go.Proofs.Ytodmchjdflpbpaa
open Go.RowKit
set_option maxRecDepth 100000

attribute [local go_sem ↓] Go.wp_at_zero Go.wp_at_succ

set_option maxHeartbeats 1600000 in
/-- Write. -/
theorem hWrite_any (g : Nat) (v : Value) (bs : List Int) (size : Nat) (A : Option Addr) (n c : Nat) (hd : List Int) (B : Option Addr) (m d : Nat) (tl : List Int) (w : World) (h : NW w g v bs)
    (hr : Row w .u8 A n hd) (hA : ∀ b o, A = some ⟨b, o, none⟩ → 0 < n → ¬ NFoot g v b) (hs : Row w .u8 B m tl) (hB : ∀ b o, B = some ⟨b, o, none⟩ → 0 < m → ¬ NFoot g v b)
    (hz : size ≤ 9223372036854775807) (hl : bs.length + n + m ≤ 100000000000000) :
    Calls Try.prog 11 #[.pointer (some ⟨g, 0, none⟩), .int .i64 size, .slice A n c, .slice B m d] w fun e w' => e = .returned (.tuple #[]) ∧ NPost w w' g v (bs ++ (sv size ++ (tx hd ++ tx tl))) := by
  have hlA := hr.len
  have hlB := hs.len
  have far : ∀ (D : Option Addr) (k : Nat) (xs : List Int), Row w .u8 D k xs → (∀ b o, D = some ⟨b, o, none⟩ → 0 < k → ¬ NFoot g v b) → ∀ X v1, Kept (NFoot g v) w X → (∀ k, v1.ownBlock = some k → v.ownBlock = some k ∨ w.heap.size ≤ k) →
      Row X .u8 D k xs ∧ (∀ b o, D = some ⟨b, o, none⟩ → 0 < k → ¬ NFoot g v1 b) := fun D k xs hr hD X v1 hk hv => by
    refine ⟨hr.kept hk hD, fun b o e h0 hf => ?_⟩
    have hn := hD b o e h0
    obtain ⟨b', o', e', hb', _⟩ := hr.at_ 0 h0
    rw [e] at e'
    injection e' with e'
    injection e' with e1 _
    rcases hf with hf | hf
    · exact hn (.inl hf)
    · rcases hv b hf with hv | hv
      · exact hn (.inr hv)
      · omega
  have h10 := sv_le10 size (by omega)
  have hn10 := sv_le10 n (by omega)
  have HA : Hid (∀ X v1, Kept (NFoot g v) w X → (∀ k, v1.ownBlock = some k → v.ownBlock = some k ∨ w.heap.size ≤ k) → NW X g v1 (bs ++ sv size) →
      Calls Try.prog 24 #[.pointer (some ⟨g, 0, none⟩), .slice A n c] X fun e w' => e = .returned (.tuple #[]) ∧ NPost X w' g v1 (bs ++ sv size ++ sv n ++ hd)) := Lib.hid fun X v1 hk hv hw => by
    obtain ⟨a1, a2⟩ := far A n hd hr hA X v1 hk hv
    exact nText_any g v1 _ A n c hd X hw a1 a2 (by rw [List.length_append]; omega)
  have HB : Hid (∀ X v1, Kept (NFoot g v) w X → (∀ k, v1.ownBlock = some k → v.ownBlock = some k ∨ w.heap.size ≤ k) → NW X g v1 (bs ++ sv size ++ sv n ++ hd) →
      Calls Try.prog 24 #[.pointer (some ⟨g, 0, none⟩), .slice B m d] X fun e w' => e = .returned (.tuple #[]) ∧ NPost X w' g v1 (bs ++ sv size ++ sv n ++ hd ++ sv m ++ tl)) := Lib.hid fun X v1 hk hv hw => by
    obtain ⟨a1, a2⟩ := far B m tl hs hB X v1 hk hv
    exact nText_any g v1 _ B m d tl X hw a1 a2 (by simp only [List.length_append]; omega)
  have HE : Hid (bs ++ (sv size ++ (tx hd ++ tx tl)) = bs ++ sv size ++ sv n ++ hd ++ sv m ++ tl) := Lib.hid (by unfold tx; rw [hlA, hlB]; simp only [List.append_assoc])
  have HN := Lib.hid (nNum_any g v bs size w h (by omega) (by omega))
  rw [HE.out]
  have i1 : IntKind.u64.wrap (size : Int) = (size : Int) := IntWalk.u64_in _ (by omega)
  clear hr hs hA hB h hlA hlB h10 hn10 hl HE far
  go_enter Try.func11, Try.ntmps11
  go_wp2_with fail
  refine HN.out.mono ?_
  rintro e w1 ⟨rfl, v1, hw1, hv1, hk1⟩
  have HT := Lib.hid (HA.out w1 v1 hk1 hv1 hw1)
  have H1 := Lib.hid (And.intro hv1 hk1)
  clear hw1 hv1 hk1 HN HA
  go_wp2_with fail
  refine HT.out.mono ?_
  rintro e w2 ⟨rfl, hp2⟩
  have hp2 := NPost.trans H1.out.1 H1.out.2 hp2
  obtain ⟨v2, hw2, hv2, hk2⟩ := hp2
  have HU := Lib.hid (HB.out w2 v2 hk2 hv2 hw2)
  have H2 := Lib.hid (And.intro hv2 hk2)
  clear hw2 hv2 hk2 HT HB H1
  go_wp2_with fail
  refine HU.out.mono ?_
  rintro e w3 ⟨rfl, hp3⟩
  have H3 := Lib.hid (NPost.trans H2.out.1 H2.out.2 hp3)
  clear hp3 HU H2
  go_wp2_with fail
  go_end0
  exact ⟨rfl, H3.out⟩

/-- Three texts in a list of their own. -/
theorem Parts.three {w : World} {A B C : Option Addr} {n m k c d e : Nat} {x y z : List Int} (t : TypeId) (hx : Row w .u8 A n x) (hy : Row w .u8 B m y) (hz : Row w .u8 C k z) :
    Parts (w.alloc (.cells #[.slice A n c, .slice B m d, .slice C k e] t)) (some ⟨w.heap.size, 0, none⟩) 3 [x, y, z] (fun _ => False) :=
  ⟨rfl, fun j hj => by
    have hf : Fresh w (w.alloc (.cells #[.slice A n c, .slice B m d, .slice C k e] t)) := (Kept.refl _ _).alloc _
    have hb := Blk.new w t #[.slice A n c, .slice B m d, .slice C k e]
    rcases (show j = 0 ∨ j = 1 ∨ j = 2 by omega) with rfl | rfl | rfl
    · exact ⟨_, 0, A, n, c, rfl, hb.lt, id, (hb.cell 0).trans rfl, hx.kept hf (fun _ _ _ _ => id), fun _ _ _ _ => id⟩
    · exact ⟨_, 0, B, m, d, rfl, hb.lt, id, (hb.cell 1).trans rfl, hy.kept hf (fun _ _ _ _ => id), fun _ _ _ _ => id⟩
    · exact ⟨_, 0, C, k, e, rfl, hb.lt, id, (hb.cell 2).trans rfl, hz.kept hf (fun _ _ _ _ => id), fun _ _ _ _ => id⟩⟩

/-- What reading it leaves. -/
def BlPost (g : Nat) (t : TypeId) (ext : List Value) (A : Option Addr) (c : Nat) (xs : List Int) (w : World) (m : Nat) (e : Ending) (w' : World) : Prop :=
  ∃ u, e = .returned (.tuple #[u, .int .i64 (blkA xs m).1]) ∧ Own w' 5 .u8 u (blkA xs m).2 ∧ (∀ k, u.ownBlock = some k → w.heap.size ≤ k) ∧ ((blkA xs m).1 = 0 → NRd w' g t ext A c xs (blkT xs m).2.1 0) ∧ Mine g w w'


end Go.Proofs.Ytodmchjdflpbpaa
