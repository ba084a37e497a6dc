/- What the laws of filters ask of the code; awake. -/
import Derived.Test.YtnmapfoinhomdaaFilV
import Derived.Test.YtnmapfoinhomdaaRetRow
namespace Go.Proofs.Ytnmapfoinhomdaa
open Go.RowKit
set_option maxRecDepth 100000

attribute [local go_sem ↓] Go.wp_at_zero Go.wp_at_succ

/-- What an int is. -/
def I64 (v : Int) : Prop := -9223372036854775808 ≤ v ∧ v ≤ 9223372036854775807
open Classical in
/-- What Apply tells. -/
noncomputable def apO (b : List Int) (wd p : Int) : List Int × Int := if okA wd p b.length then (apF b wd.toNat (plN p), 0) else ([], 1)
open Classical in
/-- What Undo tells. -/
noncomputable def udO (x : List Int) (wd p : Int) : List Int × Int := if okU wd p x.length then (if kndF x wd.toNat then (udF x wd.toNat (plN p), 0) else ([], 4)) else ([], 1)

/-- The code's six calls answer as the document's. -/
structure FilterOK : Prop where
  paeth : ∀ (a b c : Int) (w : World), (0 ≤ a ∧ a < 256) → (0 ≤ b ∧ b < 256) → (0 ≤ c ∧ c < 256) →
    Calls Try.prog 17 #[.int .u8 a, .int .u8 b, .int .u8 c] w fun e w' => e = .returned (.int .u8 (pae a b c)) ∧ Fresh w w'
  row : ∀ (A : Option Addr) (n c : Nat) (l : List Int) (B : Option Addr) (m d : Nat) (up : List Int) (k p : Int) (w : World), Row w .u8 A n l → Row w .u8 B m up → B8 l → B8 up → n ≤ 1048576 → m ≤ 1048576 → n ≤ c → m ≤ d → I64 k → I64 p →
    Calls Try.prog 11 #[.int .i64 k, .slice A n c, .slice B m d, .int .i64 p] w fun e w' => ∃ u, e = .returned u ∧ NewRow w w' 5 .u8 u (rowF k l up (plN p))
  un : ∀ (A : Option Addr) (n c : Nat) (l : List Int) (B : Option Addr) (m d : Nat) (up : List Int) (k p : Int) (w : World), Row w .u8 A n l → Row w .u8 B m up → B8 l → B8 up → n ≤ 1048576 → m ≤ 1048576 → n ≤ c → m ≤ d → I64 k → I64 p →
    Calls Try.prog 13 #[.int .i64 k, .slice A n c, .slice B m d, .int .i64 p] w fun e w' => ∃ u, e = .returned u ∧ NewRow w w' 5 .u8 u (unF k l up (plN p))
  best : ∀ (A : Option Addr) (n c : Nat) (l : List Int) (B : Option Addr) (m d : Nat) (up : List Int) (p : Int) (w : World), Row w .u8 A n l → Row w .u8 B m up → B8 l → B8 up → n ≤ 1048576 → m ≤ 1048576 → n ≤ c → m ≤ d → I64 p →
    Calls Try.prog 15 #[.slice A n c, .slice B m d, .int .i64 p] w fun e w' => e = .returned (.int .i64 (bst l up (plN p) : Nat)) ∧ Fresh w w'
  apply : ∀ (A : Option Addr) (n c : Nat) (b : List Int) (wd p : Int) (w : World), Row w .u8 A n b → B8 b → n ≤ 16777216 → n ≤ c → I64 wd → I64 p →
    Calls Try.prog 20 #[.slice A n c, .int .i64 wd, .int .i64 p] w fun e w' => ∃ u, e = .returned (.tuple #[u, .int .i64 (apO b wd p).2]) ∧ NewRow w w' 5 .u8 u (apO b wd p).1
  undo : ∀ (A : Option Addr) (n c : Nat) (x : List Int) (wd p : Int) (w : World), Row w .u8 A n x → B8 x → n ≤ 16777216 → n ≤ c → I64 wd → I64 p →
    Calls Try.prog 22 #[.slice A n c, .int .i64 wd, .int .i64 p] w fun e w' => ∃ u, e = .returned (.tuple #[u, .int .i64 (udO x wd p).2]) ∧ NewRow w w' 5 .u8 u (udO x wd p).1

/-- A list of bytes is told, with room; and one with an error. -/
def ToldB (w w' : World) (e : Ending) (n : Nat) (xs : List Int) : Prop := ∃ B cB, e = .returned (.slice B n cB) ∧ Row w' .u8 B n xs ∧ n ≤ cB ∧ Fresh w w'
def ToldE (w w' : World) (e : Ending) (xs : List Int) (er : Int) : Prop := ∃ B m cB, e = .returned (.tuple #[.slice B m cB, .int .i64 er]) ∧ Row w' .u8 B m xs ∧ m ≤ cB ∧ Fresh w w'
theorem ToldB.of {w w' : World} {e : Ending} {n : Nat} {xs : List Int} (hn : xs.length = n) (h : ∃ u, e = .returned u ∧ NewRow w w' 5 .u8 u xs) : ToldB w w' e n xs := by
  obtain ⟨u, rfl, hu, _, hf⟩ := h
  have hcap := hu
  obtain ⟨B, cB, rfl, hr, _⟩ := hu.row
  have hc := hcap.cap
  rw [hn] at hr hc
  rw [hn]
  exact ⟨B, cB, rfl, hr, hc, hf⟩
theorem ToldE.of {w w' : World} {e : Ending} {xs : List Int} {er : Int} (h : ∃ u, e = .returned (.tuple #[u, .int .i64 er]) ∧ NewRow w w' 5 .u8 u xs) : ToldE w w' e xs er := by
  obtain ⟨u, rfl, hu, _, hf⟩ := h
  have hcap := hu
  obtain ⟨B, cB, rfl, hr, _⟩ := hu.row
  exact ⟨B, _, cB, rfl, hr, hcap.cap, hf⟩
theorem ToldE.nil {w w' : World} {er : Int} (hf : Fresh w w') : ToldE w w' (.returned (.tuple #[.slice none 0 0, .int .i64 er])) [] er := ⟨none, 0, 0, rfl, Row.empty _ _ _, Nat.le_refl _, hf⟩

theorem B8.of_mem {l : List Int} (h : ∀ x ∈ l, 0 ≤ x ∧ x < 256) : B8 l := h
theorem apO_byte (b : List Int) (wd p : Int) : ∀ x ∈ (apO b wd p).1, 0 ≤ x ∧ x < 256 := by
  unfold apO
  split
  · exact apN_byte _ _ _ _
  · intro x hx
    cases hx
theorem udO_byte (b : List Int) (wd p : Int) : ∀ x ∈ (udO b wd p).1, 0 ≤ x ∧ x < 256 := by
  unfold udO
  split
  · split
    · exact udN_byte _ _ _ _
    · intro x hx
      cases hx
  · intro x hx
    cases hx
theorem qApplyT {A : Option Addr} {n : Nat} (c : Nat) {b : List Int} {wd p : Int} {w : World} (hr : Row w .u8 A n b) (h : B8 b) (hn : n ≤ 16777216) (hc : n ≤ c) :
    Calls Try.prog 21 #[.slice A n c, .int .i64 wd, .int .i64 p] w fun e w' => ToldE w w' e (apO b wd p).1 (apO b wd p).2 := by
  have hlen := hr.len
  by_cases ok : okA wd p n
  · rw [apO, if_pos (by rw [hlen]; exact ok)]
    obtain ⟨o1, o2, o3, o4, o5, o6⟩ := ok
    obtain ⟨q, rfl⟩ : ∃ q : Nat, wd = q := ⟨wd.toNat, by omega⟩
    rw [Int.toNat_natCast] at o6 ⊢
    exact (qApplyF_any A n c b q p w hr h hc (by omega) ⟨o3, o4⟩ o5 o6).mono fun e w' h => ToldE.of h
  · rw [apO, if_neg (by rw [hlen]; exact ok)]
    refine (qApplyNo_any A n c wd p w (by omega) ok).mono ?_
    rintro e w' ⟨rfl, hf⟩
    exact ToldE.nil hf
theorem qUndoT {A : Option Addr} {n : Nat} (c : Nat) {x : List Int} {wd p : Int} {w : World} (hr : Row w .u8 A n x) (h : B8 x) (hn : n ≤ 16777216) (hc : n ≤ c) :
    Calls Try.prog 23 #[.slice A n c, .int .i64 wd, .int .i64 p] w fun e w' => ToldE w w' e (udO x wd p).1 (udO x wd p).2 := by
  have hlen := hr.len
  by_cases ok : okU wd p n
  · rw [udO, if_pos (by rw [hlen]; exact ok)]
    obtain ⟨o1, o2, o3, o4, o5, o6⟩ := ok
    obtain ⟨q, rfl⟩ : ∃ q : Nat, wd = q := ⟨wd.toNat, by omega⟩
    rw [Int.toNat_natCast] at o5 o6 ⊢
    refine (qUndoF_any A n c x q p w hr h hc (by omega) ⟨o3, o4⟩ o5 o6).mono ?_
    rintro e w' (⟨k, h⟩ | ⟨k, rfl, hf⟩)
    · rw [if_pos k]
      exact ToldE.of h
    · rw [if_neg k]
      exact ToldE.nil hf
  · rw [udO, if_neg (by rw [hlen]; exact ok)]
    refine (qUndoNo_any A n c wd p w (by omega) ok).mono ?_
    rintro e w' ⟨rfl, hf⟩
    exact ToldE.nil hf
theorem FilterOK.applyT (ok : FilterOK) {A : Option Addr} {n : Nat} (c : Nat) {b : List Int} {wd p : Int} {w : World} (hr : Row w .u8 A n b) (h : B8 b) (hn : n ≤ 16777216) (hc : n ≤ c) (h1 : I64 wd) (h2 : I64 p) :
    Calls Try.prog 20 #[.slice A n c, .int .i64 wd, .int .i64 p] w fun e w' => ToldE w w' e (apO b wd p).1 (apO b wd p).2 := (ok.apply A n c b wd p w hr h hn hc h1 h2).mono fun _ _ h => ToldE.of h
theorem FilterOK.undoT (ok : FilterOK) {A : Option Addr} {n : Nat} (c : Nat) {x : List Int} {wd p : Int} {w : World} (hr : Row w .u8 A n x) (h : B8 x) (hn : n ≤ 16777216) (hc : n ≤ c) (h1 : I64 wd) (h2 : I64 p) :
    Calls Try.prog 22 #[.slice A n c, .int .i64 wd, .int .i64 p] w fun e w' => ToldE w w' e (udO x wd p).1 (udO x wd p).2 := (ok.undo A n c x wd p w hr h hn hc h1 h2).mono fun _ _ h => ToldE.of h
theorem FilterOK.rowT (ok : FilterOK) {A B : Option Addr} {n m : Nat} (c d : Nat) {l up : List Int} {k p : Int} {w : World} (hr : Row w .u8 A n l) (hu : Row w .u8 B m up) (h : B8 l) (h2 : B8 up) (hn : n ≤ 1048576) (hm : m ≤ 1048576) (hc : n ≤ c) (hd : m ≤ d) (hk : I64 k) (hp : I64 p) :
    Calls Try.prog 11 #[.int .i64 k, .slice A n c, .slice B m d, .int .i64 p] w fun e w' => ToldB w w' e n (rowF k l up (plN p)) := (ok.row A n c l B m d up k p w hr hu h h2 hn hm hc hd hk hp).mono fun _ _ h => ToldB.of (by rw [rowF_length, hr.len]) h
theorem FilterOK.unT (ok : FilterOK) {A B : Option Addr} {n m : Nat} (c d : Nat) {l up : List Int} {k p : Int} {w : World} (hr : Row w .u8 A n l) (hu : Row w .u8 B m up) (h : B8 l) (h2 : B8 up) (hn : n ≤ 1048576) (hm : m ≤ 1048576) (hc : n ≤ c) (hd : m ≤ d) (hk : I64 k) (hp : I64 p) :
    Calls Try.prog 13 #[.int .i64 k, .slice A n c, .slice B m d, .int .i64 p] w fun e w' => ToldB w w' e n (unF k l up (plN p)) := (ok.un A n c l B m d up k p w hr hu h h2 hn hm hc hd hk hp).mono fun _ _ h => ToldB.of (by rw [unF_length, hr.len]) h
theorem qRowT {A B : Option Addr} {n m : Nat} (c d : Nat) {l up : List Int} {k p : Int} {w : World} (hr : Row w .u8 A n l) (hu : Row w .u8 B m up) (h : B8 l) (h2 : B8 up) (hn : n ≤ 1048576) (hm : m ≤ 1048576) (hp : I64 p) :
    Calls Try.prog 12 #[.int .i64 k, .slice A n c, .slice B m d, .int .i64 p] w fun e w' => ToldB w w' e n (rowF k l up (plN p)) := (qRowF_any A n c l B m d up k p w hr hu h h2 (by omega) (by omega) hp.2).mono fun _ _ h => ToldB.of (by rw [rowF_length, hr.len]) h
theorem qUnT {A B : Option Addr} {n m : Nat} (c d : Nat) {l up : List Int} {k p : Int} {w : World} (hr : Row w .u8 A n l) (hu : Row w .u8 B m up) (h : B8 l) (h2 : B8 up) (hn : n ≤ 1048576) (hm : m ≤ 1048576) (hp : I64 p) :
    Calls Try.prog 14 #[.int .i64 k, .slice A n c, .slice B m d, .int .i64 p] w fun e w' => ToldB w w' e n (unF k l up (plN p)) := (qUnF_any A n c l B m d up k p w hr hu h h2 (by omega) (by omega) hp.2).mono fun _ _ h => ToldB.of (by rw [unF_length, hr.len]) h
theorem row_two : rowF 1 [5, 7] [] (plN 1) = [5, 2] := by decide +kernel

set_option maxHeartbeats 1600000 in
theorem awakeF_any (ok : FilterOK) (w : World) : Calls Try.prog 8 #[] w fun e w' => e = .returned (.bool true) ∧ Fresh w w' := by
  have HC := Lib.hid ok
  clear ok
  go_enter Try.func8, Try.ntmps8
  go_wp2_with fail
  refine (HC.out.row _ 2 2 [5, 7] none 0 0 [] 1 1 _ (Row.laidF w 5 .u8 [5, 7]) (Row.empty _ _ _) (by unfold B8; simp) (fun x hx => by cases hx) (by omega) (by omega) (by omega) (by omega) (by unfold I64; omega) (by unfold I64; omega)).mono ?_
  rintro e w1 ⟨u, rfl, hu, _, hf1⟩
  rw [row_two] at hu
  obtain ⟨q, cq, rfl, hq⟩ := hu.form (by decide)
  have HD : Hid (∀ V, Fresh w1 V → V.cell? ⟨q, 0, none⟩ = some (.int .u8 5) ∧ V.cell? ⟨q, 1, none⟩ = some (.int .u8 2)) := Lib.hid fun V hV => ⟨(hV.cell hq id).trans (hu.cell (j := 0) (by decide)), (hV.cell hq id).trans (hu.cell (j := 1) (by decide))⟩
  have H1 := Lib.hid (((Kept.refl (fun _ => False) w).alloc (.cells #[.int .u8 5, .int .u8 7] 5)).trans hf1 (fun _ _ h => h))
  have HP := Lib.hid (HC.out.paeth 1 2 3 w1 (by omega) (by omega) (by omega))
  rw [show pae 1 2 3 = 1 from by decide +kernel] at HP
  clear hu hf1 hq
  rw [show ([5, 2] : List Int).length = 2 from rfl]
  go_wp2_with fail
  refine HP.out.mono ?_
  rintro e w2 ⟨rfl, hf2⟩
  obtain ⟨d0, d1⟩ := HD.out w2 hf2
  have H2 := Lib.hid (Fresh.two H1.out hf2)
  clear hf2 HP HD H1
  go_wp2_with fail
  go_ret
  exact ⟨rfl, H2.out⟩

end Go.Proofs.Ytnmapfoinhomdaa
