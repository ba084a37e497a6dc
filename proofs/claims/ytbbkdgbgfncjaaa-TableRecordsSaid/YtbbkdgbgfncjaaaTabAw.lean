/- What the laws of tables ask of the code; awake. -/
import Derived.Test.YtbbkdgbgfncjaaaTabD
import Derived.Test.YtbbkdgbgfncjaaaHelpByte
import Derived.Test.YtbbkdgbgfncjaaaHelpStr
import Derived.Test.YtbbkdgbgfncjaaaArgs
namespace Go.Proofs.Ytbbkdgbgfncjaaa
open Go.RowKit
set_option maxRecDepth 100000

attribute [local go_sem ↓] Go.wp_at_zero Go.wp_at_succ

/-- Bytes that may be packed. -/
def TbIn (bs : List Int) : Prop := (∀ x ∈ bs, 0 ≤ x ∧ x < 256) ∧ bs.length ≤ 1048576 ∧ wdt bs ≠ 0
def I64 (v : Int) : Prop := -9223372036854775808 ≤ v ∧ v ≤ 9223372036854775807

/-- The code's calls: what is packed is tp, what is unpacked is tu. -/
structure TableOK (tp : List Int → List Int) (tu : List Int → Int → Int × List Int) : Prop where
  score : ∀ (A : Option Addr) (n c : Nat) (bs : List Int) (wd : Int) (w : World), Row w .u8 A n bs → (∀ x ∈ bs, 0 ≤ x ∧ x < 256) → n ≤ 1048576 → n ≤ c → I64 wd →
    Calls Try.prog 8 #[.slice A n c, .int .i64 wd] w fun e w' => e = .returned (.int .i64 (scr bs wd : Nat)) ∧ Fresh w w'
  width : ∀ (A : Option Addr) (n c : Nat) (bs : List Int) (w : World), Row w .u8 A n bs → (∀ x ∈ bs, 0 ≤ x ∧ x < 256) → n ≤ 1048576 → n ≤ c →
    Calls Try.prog 10 #[.slice A n c] w fun e w' => e = .returned (.int .i64 (wdt bs : Nat)) ∧ Fresh w w'
  delta : ∀ (A : Option Addr) (n c : Nat) (bs : List Int) (wd : Int) (w : World), Row w .u8 A n bs → (∀ x ∈ bs, 0 ≤ x ∧ x < 256) → n ≤ 1048576 → n ≤ c → I64 wd →
    Calls Try.prog 13 #[.slice A n c, .int .i64 wd] w fun e w' => ∃ u, e = .returned u ∧ NewRow w w' 5 .u8 u (dlt bs (wid1 wd))
  undelta : ∀ (A : Option Addr) (n c : Nat) (bs : List Int) (wd : Int) (w : World), Row w .u8 A n bs → (∀ x ∈ bs, 0 ≤ x ∧ x < 256) → n ≤ 1048576 → n ≤ c → I64 wd →
    Calls Try.prog 15 #[.slice A n c, .int .i64 wd] w fun e w' => ∃ u, e = .returned u ∧ NewRow w w' 5 .u8 u (und bs (wid1 wd))
  pack : ∀ (A : Option Addr) (n c : Nat) (bs : List Int) (w : World), Row w .u8 A n bs → (∀ x ∈ bs, 0 ≤ x ∧ x < 256) → n ≤ 1048576 → n ≤ c → wdt bs ≠ 0 →
    Calls Try.prog 18 #[.slice A n c] w fun e w' => ∃ u, e = .returned (.tuple #[u, .bool true]) ∧ NewRow w w' 5 .u8 u (tp bs)
  refuse : ∀ (A : Option Addr) (n c : Nat) (bs : List Int) (w : World), Row w .u8 A n bs → (∀ x ∈ bs, 0 ≤ x ∧ x < 256) → n ≤ 1048576 → n ≤ c → wdt bs = 0 →
    Calls Try.prog 18 #[.slice A n c] w fun e w' => e = .returned (.tuple #[.slice none 0 0, .bool false]) ∧ Fresh w w'
  unpack : ∀ (A : Option Addr) (n c : Nat) (xs : List Int) (most : Int) (w : World), Row w .u8 A n xs → (∀ x ∈ xs, 0 ≤ x ∧ x < 256) → n ≤ 16777216 → n ≤ c →
    Calls Try.prog 19 #[.slice A n c, .int .i64 most] w fun e w' => ∃ u, e = .returned (.tuple #[u, .int .i64 (tu xs most).1]) ∧ NewRow w w' 5 .u8 u (tu xs most).2
  byte : ∀ bs, TbIn bs → ∀ x ∈ tp bs, 0 ≤ x ∧ x < 256
  len : ∀ bs, TbIn bs → (tp bs).length ≤ bs.length + 4
  back : ∀ bs (most : Int), TbIn bs → tu (tp bs) most = if (bs.length : Int) ≤ most then (0, bs) else (5, [])

theorem wid1_pos (wd : Int) : 1 ≤ wid1 wd := by unfold wid1; omega
theorem wdt_one : wdt [1, 2, 1, 2, 1, 2, 1, 2] = 2 := by
  have h := rep_wdt [1, 2] 4 (by decide) (by decide) (by decide)
  have e : (List.replicate 4 ([1, 2] : List Int)).flatten = [1, 2, 1, 2, 1, 2, 1, 2] := rfl
  rw [e] at h
  have h2 : ([1, 2] : List Int).length = 2 := rfl
  omega
theorem laidT (w : World) (e : TypeId) (fz : Nat × Nat) (xs : List Int) : Row (w.alloc (.cells (ivs .u8 xs).toArray e fz)) .u8 (some ⟨w.heap.size, 0, none⟩) xs.length xs :=
  ⟨rfl, fun j hj => ⟨w.heap.size, 0, rfl, by simp, by
    rw [Nat.zero_add, World.cell?_alloc_mark, List.getElem?_toArray, ivs_get (by simpa using hj)]⟩⟩

set_option maxHeartbeats 1600000 in
theorem awakeT_any {tp : List Int → List Int} {tu : List Int → Int → Int × List Int} (hc : TableOK tp tu) (w : World) : Calls Try.prog 6 #[] w fun e w' => e = .returned (.bool true) ∧ Fresh w w' := by
  have hrow := laidT w 5 (0, 0) [1, 2, 1, 2, 1, 2, 1, 2]
  have hk : Fresh w (w.alloc (.cells (ivs .u8 [1, 2, 1, 2, 1, 2, 1, 2]).toArray 5)) := (Kept.refl _ _).alloc _
  have HP := Lib.hid (hc.width (some ⟨w.heap.size, 0, none⟩) 8 8 [1, 2, 1, 2, 1, 2, 1, 2] _ hrow (by decide) (by omega) (by omega))
  rw [wdt_one] at HP
  have HK := Lib.hid hk
  clear hc hrow hk
  go_enter Try.func6, Try.ntmps6
  go_wp2_with fail
  refine HP.out.mono ?_
  rintro e w2 ⟨rfl, hf2⟩
  have H2 := Lib.hid (HK.out.trans hf2 (fun _ _ h => h))
  clear hf2 HP
  go_wp2_with fail
  go_ret
  exact ⟨rfl, H2.out⟩

end Go.Proofs.Ytbbkdgbgfncjaaa
