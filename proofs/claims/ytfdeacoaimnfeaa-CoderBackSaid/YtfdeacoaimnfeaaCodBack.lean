/- CoderBack: what was encoded with some chances is decoded with them, and no byte past the end is taken; for every list of bits. No conditions. -/
import Derived.Test.YtfdeacoaimnfeaaCodF
import Derived.Test.YtfdeacoaimnfeaaCodN
import Derived.Test.YtfdeacoaimnfeaaCodArg
namespace Go.Proofs.Ytfdeacoaimnfeaa.coderBack
open Go.ChangeShapes Go.WideShapes Go.ChangeAt Go.RowKit

attribute [local go_sem ↓] Go.wp_at_zero Go.wp_at_succ

/-- The encoder has put out what the first k bits ask, and lies behind w with its bytes. -/
structure Has (w wr : World) (g : Nat) (L : List (Bool × Nat)) (l h : Nat) (v : Value) (bs : List Int) : Prop where
  c : EncC wr g l h v bs
  o : Open l h
  all : encAll L 0 4294967295 = (bs, l, h)
  fr : Fresh w wr
  hg : w.heap.size ≤ g
  hv : ∀ k, v.ownBlock = some k → w.heap.size ≤ k

section
variable {w wr w1 : World} {g l h : Nat} {L : List (Bool × Nat)} {v : Value} {bs : List Int}
theorem Has.drew (t : Has w wr g L l h v bs) : Has w wr.drew g L l h v bs := ⟨t.c.drew, t.o, t.all, t.fr.drew, t.hg, t.hv⟩
theorem Has.step {one : Bool} {k : Nat} (t : Has w wr g L l h v bs) (hk : k ≤ 4095) (p : EPost wr w1 g 54 v (enc1 one l h k).2.1 (4294967295 - ((enc1 one l h k).2.2 : Int)) (bs ++ (enc1 one l h k).1)) :
    ∃ u, Has w w1 g (L ++ [(one, k)]) (enc1 one l h k).2.1 (enc1 one l h k).2.2 u (bs ++ (enc1 one l h k).1) := by
  obtain ⟨u, he, hu, hk'⟩ := p
  refine ⟨u, he, (enc1_open t.o hk).1, ?_, t.fr.trans hk' (fun i hi hf => ?_), t.hg, fun x hx => ?_⟩
  · rw [encAll_snoc, t.all]
  · rcases hf with rfl | hf
    · have := t.hg; omega
    · have := t.hv i hf; omega
  · rcases hu x hx with e | e
    · exact t.hv x e
    · have := t.fr.size; omega
end

theorem Rest.next {F : List Int} {M : List (Bool × Nat)} {k p l h : Nat} {one : Bool} {c : Nat} (hF : ∀ x ∈ F, 0 ≤ x ∧ x < 256) (hM : ∀ x ∈ M, x.2 ≤ 4095) (o : Open l h) (hd : M.drop k = (one, c) :: M.drop (k + 1)) (hr : F.drop p = (encAll (M.drop k) l h).1 ++ four (encAll (M.drop k) l h).2.1) :
    decBit F l h c p = one ∧ F.drop (p + (enc1 one l h c).1.length) = (encAll (M.drop (k + 1)) (enc1 one l h c).2.1 (enc1 one l h c).2.2).1 ++ four (encAll (M.drop (k + 1)) (enc1 one l h c).2.1 (enc1 one l h c).2.2).2.1 := by
  rw [hd] at hr
  exact enc_bit F hF one c _ l h p o (fun x hx => hM x (by rw [← hd] at hx; exact List.mem_of_mem_drop hx)) hr

theorem take_bc {L : List (Int × Int)} {k : Nat} {x : Int × Int} (h : L[k]? = some x) : (L.take (k + 1)).map bc = (L.take k).map bc ++ [bc x] := by
  have hk := (List.getElem?_eq_some_iff.1 h).1
  have hx := (List.getElem?_eq_some_iff.1 h).2
  rw [List.take_succ_eq_append_getElem hk, List.map_append, hx]
  rfl
theorem drop_bc {L : List (Int × Int)} {k K : Nat} {x : Int × Int} (h : L[k]? = some x) (hk : k < K) : ((L.take K).map bc).drop k = bc x :: ((L.take K).map bc).drop (k + 1) := by
  have hl := (List.getElem?_eq_some_iff.1 h).1
  have hx := (List.getElem?_eq_some_iff.1 h).2
  rw [List.drop_eq_getElem_cons (by simp; omega)]
  simp [hx]

/-- What is left to be decoded. -/
def Rest (F : List Int) (M : List (Bool × Nat)) (k p l h : Nat) : Prop := F.drop p = (encAll (M.drop k) l h).1 ++ four (encAll (M.drop k) l h).2.1

theorem Rest.done {F : List Int} {M : List (Bool × Nat)} {k p l h : Nat} (hr : Rest F M k p l h) (hk : M.length ≤ k) : F.drop p = four l := by
  unfold Rest at hr
  rw [show M.drop k = [] from List.drop_eq_nil_of_le hk] at hr
  simpa [encAll] using hr

set_option maxRecDepth 100000 in
set_option maxHeartbeats 3200000 in
theorem walk (A : Option Addr) (n c : Nat) (L : List (Int × Int)) (w : World) (hA : BitL w A n L) (hn : n ≤ maxLen) :
    Calls Try.prog 5 #[.slice A n c] w fun e w' => e = .returned (.bool true) ∧ Below w.heap.size w w' := by
  unfold maxLen at hn
  have HA := Lib.hid hA
  clear hA
  go_enter Try.func5, Try.ntmps5
  go_wp2_with fail
  refine (newEnc_any _).mono ?_
  rintro e w1 ⟨g, rfl, he, hg, hk⟩
  go_wp2_with fail
  refine (awake_any _).mono ?_
  rintro e w3 ⟨rfl, hk3⟩
  have ht3 : Has w w3 g [] 0 4294967295 (.slice none 0 0) [] := ⟨he.kept hk3 id (fun _ _ => id), open_full, rfl, hk.trans hk3 (fun _ _ h => h), hg, (fun k h => by cases h)⟩
  have HT := Lib.hid ht3
  clear ht3 hk3 he hg hk
  go_wp2_with fail
  go_loopw [4] (fun i wr => ∃ (k : Nat) (l h : Nat) (v : Value) (bs : List Int), k ≤ n ∧ k ≤ 2000 ∧ i = .int .i64 k ∧ bs.length ≤ 4 * k ∧ Has w wr g ((L.take k).map bc) l h v bs) (fun i _ => (2000 - intOf i).toNat)
  case atStart => exact ⟨0, 0, 4294967295, _, [], by omega, by omega, rfl, by simp, HT.out⟩
  case round =>
    obtain ⟨k, l, h, v, bs, hk1, hk2, rfl, hlen, ht⟩ := hrel
    by_cases hlt2 : k < n ∧ k < 2000
    · obtain ⟨ha, hb⟩ := hlt2
      obtain ⟨sb, so, ⟨X, Y⟩, rfl, hsb, hxy, c0', c1'⟩ := HA.out.at_ k ha
      simp only at c0' c1'
      have htk := take_bc hxy
      have HX := Lib.hid htk
      have c0 := (ht.fr.cell (p := ⟨sb, so + k * 2, none⟩) hsb id).trans c0'
      have c1 := (ht.fr.cell (p := ⟨sb, so + k * 2 + 1, none⟩) hsb id).trans c1'
      have hi0 : (0 : Int) ≤ (k : Int) := by omega
      have hi1 : (k : Int) < (n : Int) := by omega
      have hi2 : (k : Int) < 2000 := by omega
      have hi3 : decide ((k : Int) < 2000) = true := by simp; omega
      have HC := Lib.hid (And.intro c0' c1')
      have ho5 := (enc1_open (one := (X != 0)) ht.o (cl_bd Y).2)
      have HO5 := Lib.hid ho5
      clear c0' c1' ho5 htk hxy
      go_wp2_with fail
      go_region_held3 (fun w' => w'.cell? ⟨sb, so + k * 2, none⟩ = some (.int .i64 X) ∧ w'.cell? ⟨sb, so + k * 2 + 1, none⟩ = some (.int .i64 Y))
        (first | go_keep | exact ⟨(hf5.cell (p := ⟨sb, so + k * 2, none⟩) hsb id).trans HC.out.1, (hf5.cell (p := ⟨sb, so + k * 2 + 1, none⟩) hsb id).trans HC.out.2⟩)
        (first
          | (go_at_call 11; refine (encode_any g l h v bs X Y _ ht.drew.c ht.o (by omega)).mono ?_; rintro e5 w5 ⟨rfl, hp5⟩; have ht5 := ht.drew.step (cl_bd Y).2 hp5; have hf5 : Fresh w w5 := (by obtain ⟨_, ht⟩ := ht5; exact ht.fr)))
      obtain ⟨u, ht6⟩ := ht5
      have HT6 := Lib.hid ht6
      clear ht6 hp5 ht hf5 c0 c1
      go_wp2_with fail
      go_roundw
      case rel => exact ⟨k + 1, _, _, u, bs ++ (enc1 (X != 0) l h (cl Y)).1, by omega, by omega, by go_num, by have := HO5.out.2; simp; omega, by rw [HX.out]; exact HT6.out⟩
      case measure => simp [intOf]; omega
    · have hstop : (k < n ∧ 2000 ≤ k) ∨ n ≤ k := by omega
      have HT5 := Lib.hid ht
      have HCs := Lib.hid hstop
      clear ht hlt2
      rcases hstop with ⟨hkn, hk20⟩ | hkn
      · have hdk : decide ((k : Int) < 2000) = false := by simp; omega
        go_wp2_with fail
        refine (flush_any g l h v bs _ HT5.out.c HT5.out.o (by omega)).mono ?_
        rintro e6 w6 ⟨q, rfl, ho6, hq6, he6, hk6⟩
        have hf6 : Fresh w w6 := HT5.out.fr.trans hk6 fun i hi hf => by
          rcases hf with rfl | hf
          · have := HT5.out.hg; omega
          · have := HT5.out.hv i hf; omega
        have hby : ∀ x ∈ bs ++ four l, 0 ≤ x ∧ x < 256 := fun x hx => by
          rcases List.mem_append.1 hx with h | h
          · exact HT5.out.c.byte x h
          · exact four_bytes l x h
        have hln : (bs ++ four l).length ≤ 1000000000 ∧ 0 < (bs ++ four l).length := by simp [four]; omega
        obtain ⟨qb, qc, rfl, hqlt⟩ := ho6.form hln.2
        obtain ⟨_, _, hqe, hrowq, _⟩ := ho6.row
        obtain ⟨rfl, rfl⟩ : some (⟨qb, 0, none⟩ : Addr) = _ ∧ qc = _ := by injection hqe with h1 _ h3; exact ⟨h1, h3⟩
        have hall : Rest (bs ++ four l) ((L.take k).map bc) 0 0 0 4294967295 := by
          unfold Rest
          rw [List.drop_zero, List.drop_zero, HT5.out.all]
        generalize bs ++ four l = F at *
        have hFl := hln.1
        have H6 := Lib.hid (And.intro hf6 (And.intro hby (And.intro hrowq hall)))
        clear hf6 hby hrowq hall hqe ho6 hk6 hq6 he6 HT5 hln
        go_wp2_with fail
        refine (newDec_any qb 0 _ _ F _ H6.out.2.2.1 hFl H6.out.2.1).mono ?_
        rintro e7 w7 ⟨g3, A3, c3, rfl, hd7, hg7, hA7, hk7⟩
        have hf7 : Fresh w w7 := H6.out.1.trans hk7 fun _ _ h => h
        have hg7' : w.heap.size ≤ g3 := Nat.le_trans H6.out.1.size hg7
        have H7 := Lib.hid (And.intro hd7 hf7)
        clear hd7 hf7 hg7 hA7 hk7
        go_wp2_with fail
        go_loopw [6] (fun i wr => ∃ (j p l h : Nat), j ≤ k ∧ i = .int .i64 j ∧ p ≤ 4 * j ∧ DecC wr g3 l h A3 c3 F (win F p) p ∧ Open l h ∧ Rest F ((L.take k).map bc) j p l h ∧ Fresh w wr) (fun i _ => (k - intOf i).toNat)
        case atStart => exact ⟨0, 0, 0, 4294967295, by omega, rfl, by omega, H7.out.1, open_full, H6.out.2.2.2, H7.out.2⟩
        case round =>
          obtain ⟨j, p, l5, h5, hj, rfl, hp, hd, ho, hr, hf⟩ := hrel
          by_cases hjk : j < k
          · have hjn : j < n := by omega
            obtain ⟨sb, so, ⟨X, Y⟩, rfl, hsb, hxy, c0', c1'⟩ := HA.out.at_ j hjn
            simp only at c0' c1'
            have hdr := drop_bc hxy hjk
            obtain ⟨hbit, hnext⟩ := Rest.next H6.out.2.1 (bc_le (L.take k)) ho hdr hr
            have hopn := enc1_open (one := (X != 0)) ho (cl_bd Y).2
            have c0 := (hf.cell (p := ⟨sb, so + j * 2, none⟩) hsb id).trans c0'
            have c1 := (hf.cell (p := ⟨sb, so + j * 2 + 1, none⟩) hsb id).trans c1'
            have hi0 : (0 : Int) ≤ (j : Int) := by omega
            have hi1 : (j : Int) < (n : Int) := by omega
            have hi2 : (j : Int) < 2000 := by omega
            have hi3 : decide ((j : Int) < 2000) = true := by simp; omega
            have HC := Lib.hid (And.intro c0' c1')
            have HF := Lib.hid hf
            have HX := Lib.hid (And.intro hbit (And.intro hnext hopn))
            clear c0' c1' hxy hdr hbit hnext hr hf hopn
            cases hone : (X != 0)
            · rw [hone] at HX
              go_wp2_with fail
              go_region_held3 (fun w' => w'.cell? ⟨sb, so + j * 2, none⟩ = some (.int .i64 X) ∧ w'.cell? ⟨sb, so + j * 2 + 1, none⟩ = some (.int .i64 Y))
                (first | go_keep | exact ⟨(hf8.cell (p := ⟨sb, so + j * 2, none⟩) hsb id).trans HC.out.1, (hf8.cell (p := ⟨sb, so + j * 2 + 1, none⟩) hsb id).trans HC.out.2⟩)
                (first
                  | (go_at_call 21; refine (decode_any g3 l5 h5 A3 c3 F p Y false _ hd.drew ho (by omega) HX.out.1).mono ?_; rw [show bitN false = 0 from rfl]; rintro e8 w8 ⟨rfl, hd8, hk8⟩; have hf8 : Fresh w w8 := HF.out.drew.trans hk8 (fun i hi e => by omega)))
              have H8 := Lib.hid (And.intro hd8 hf8)
              clear hd8 hf8 hk8 hd c0 c1
              go_wp2_with fail
              go_roundw
              case rel => exact ⟨j + 1, _, _, _, by omega, by go_num, by have := HX.out.2.2.2; omega, H8.out.1, HX.out.2.2.1, HX.out.2.1, H8.out.2⟩
              case measure => simp [intOf]; omega
            · rw [hone] at HX
              go_wp2_with fail
              go_region_held3 (fun w' => w'.cell? ⟨sb, so + j * 2, none⟩ = some (.int .i64 X) ∧ w'.cell? ⟨sb, so + j * 2 + 1, none⟩ = some (.int .i64 Y))
                (first | go_keep | exact ⟨(hf8.cell (p := ⟨sb, so + j * 2, none⟩) hsb id).trans HC.out.1, (hf8.cell (p := ⟨sb, so + j * 2 + 1, none⟩) hsb id).trans HC.out.2⟩)
                (first
                  | (go_at_call 21; refine (decode_any g3 l5 h5 A3 c3 F p Y true _ hd.drew ho (by omega) HX.out.1).mono ?_; rw [show bitN true = 1 from rfl]; rintro e8 w8 ⟨rfl, hd8, hk8⟩; have hf8 : Fresh w w8 := HF.out.drew.trans hk8 (fun i hi e => by omega)))
              have H8 := Lib.hid (And.intro hd8 hf8)
              clear hd8 hf8 hk8 hd c0 c1
              go_wp2_with fail
              go_roundw
              case rel => exact ⟨j + 1, _, _, _, by omega, by go_num, by have := HX.out.2.2.2; omega, H8.out.1, HX.out.2.2.1, HX.out.2.1, H8.out.2⟩
              case measure => simp [intOf]; omega
          · have hpast : pastN F p = 0 := by
              have h1 : F.drop p = four l5 := Rest.done hr (by simp; omega)
              have h2 : (F.drop p).length = 4 := by rw [h1]; rfl
              rw [List.length_drop] at h2
              unfold pastN
              omega
            have HP := Lib.hid hpast
            have HF := Lib.hid hf
            clear hr hf hpast
            have hx1 : (j : Int) < (n : Int) := by omega
            have hx2 : decide ((j : Int) < 2000) = false := by simp; omega
            go_wp2_with fail
            refine (past_any g3 l5 h5 A3 c3 F _ p _ hd (by omega)).mono ?_
            rw [HP.out]
            rintro e9 w9 ⟨rfl, n9, rfl⟩
            have hfin := (HF.out.drewN n9).toBelow
            have HFin := Lib.hid hfin
            clear hfin
            go_wp2_with fail
            go_ret
            exact ⟨rfl, HFin.out⟩
      · go_wp2_with fail
        refine (flush_any g l h v bs _ HT5.out.c HT5.out.o (by omega)).mono ?_
        rintro e6 w6 ⟨q, rfl, ho6, hq6, he6, hk6⟩
        have hf6 : Fresh w w6 := HT5.out.fr.trans hk6 fun i hi hf => by
          rcases hf with rfl | hf
          · have := HT5.out.hg; omega
          · have := HT5.out.hv i hf; omega
        have hby : ∀ x ∈ bs ++ four l, 0 ≤ x ∧ x < 256 := fun x hx => by
          rcases List.mem_append.1 hx with h | h
          · exact HT5.out.c.byte x h
          · exact four_bytes l x h
        have hln : (bs ++ four l).length ≤ 1000000000 ∧ 0 < (bs ++ four l).length := by simp [four]; omega
        obtain ⟨qb, qc, rfl, hqlt⟩ := ho6.form hln.2
        obtain ⟨_, _, hqe, hrowq, _⟩ := ho6.row
        obtain ⟨rfl, rfl⟩ : some (⟨qb, 0, none⟩ : Addr) = _ ∧ qc = _ := by injection hqe with h1 _ h3; exact ⟨h1, h3⟩
        have hall : Rest (bs ++ four l) ((L.take k).map bc) 0 0 0 4294967295 := by
          unfold Rest
          rw [List.drop_zero, List.drop_zero, HT5.out.all]
        generalize bs ++ four l = F at *
        have hFl := hln.1
        have H6 := Lib.hid (And.intro hf6 (And.intro hby (And.intro hrowq hall)))
        clear hf6 hby hrowq hall hqe ho6 hk6 hq6 he6 HT5 hln
        go_wp2_with fail
        refine (newDec_any qb 0 _ _ F _ H6.out.2.2.1 hFl H6.out.2.1).mono ?_
        rintro e7 w7 ⟨g3, A3, c3, rfl, hd7, hg7, hA7, hk7⟩
        have hf7 : Fresh w w7 := H6.out.1.trans hk7 fun _ _ h => h
        have hg7' : w.heap.size ≤ g3 := Nat.le_trans H6.out.1.size hg7
        have H7 := Lib.hid (And.intro hd7 hf7)
        clear hd7 hf7 hg7 hA7 hk7
        go_wp2_with fail
        go_loopw [6] (fun i wr => ∃ (j p l h : Nat), j ≤ k ∧ i = .int .i64 j ∧ p ≤ 4 * j ∧ DecC wr g3 l h A3 c3 F (win F p) p ∧ Open l h ∧ Rest F ((L.take k).map bc) j p l h ∧ Fresh w wr) (fun i _ => (k - intOf i).toNat)
        case atStart => exact ⟨0, 0, 0, 4294967295, by omega, rfl, by omega, H7.out.1, open_full, H6.out.2.2.2, H7.out.2⟩
        case round =>
          obtain ⟨j, p, l5, h5, hj, rfl, hp, hd, ho, hr, hf⟩ := hrel
          by_cases hjk : j < k
          · have hjn : j < n := by omega
            obtain ⟨sb, so, ⟨X, Y⟩, rfl, hsb, hxy, c0', c1'⟩ := HA.out.at_ j hjn
            simp only at c0' c1'
            have hdr := drop_bc hxy hjk
            obtain ⟨hbit, hnext⟩ := Rest.next H6.out.2.1 (bc_le (L.take k)) ho hdr hr
            have hopn := enc1_open (one := (X != 0)) ho (cl_bd Y).2
            have c0 := (hf.cell (p := ⟨sb, so + j * 2, none⟩) hsb id).trans c0'
            have c1 := (hf.cell (p := ⟨sb, so + j * 2 + 1, none⟩) hsb id).trans c1'
            have hi0 : (0 : Int) ≤ (j : Int) := by omega
            have hi1 : (j : Int) < (n : Int) := by omega
            have hi2 : (j : Int) < 2000 := by omega
            have hi3 : decide ((j : Int) < 2000) = true := by simp; omega
            have HC := Lib.hid (And.intro c0' c1')
            have HF := Lib.hid hf
            have HX := Lib.hid (And.intro hbit (And.intro hnext hopn))
            clear c0' c1' hxy hdr hbit hnext hr hf hopn
            cases hone : (X != 0)
            · rw [hone] at HX
              go_wp2_with fail
              go_region_held3 (fun w' => w'.cell? ⟨sb, so + j * 2, none⟩ = some (.int .i64 X) ∧ w'.cell? ⟨sb, so + j * 2 + 1, none⟩ = some (.int .i64 Y))
                (first | go_keep | exact ⟨(hf8.cell (p := ⟨sb, so + j * 2, none⟩) hsb id).trans HC.out.1, (hf8.cell (p := ⟨sb, so + j * 2 + 1, none⟩) hsb id).trans HC.out.2⟩)
                (first
                  | (go_at_call 21; refine (decode_any g3 l5 h5 A3 c3 F p Y false _ hd.drew ho (by omega) HX.out.1).mono ?_; rw [show bitN false = 0 from rfl]; rintro e8 w8 ⟨rfl, hd8, hk8⟩; have hf8 : Fresh w w8 := HF.out.drew.trans hk8 (fun i hi e => by omega)))
              have H8 := Lib.hid (And.intro hd8 hf8)
              clear hd8 hf8 hk8 hd c0 c1
              go_wp2_with fail
              go_roundw
              case rel => exact ⟨j + 1, _, _, _, by omega, by go_num, by have := HX.out.2.2.2; omega, H8.out.1, HX.out.2.2.1, HX.out.2.1, H8.out.2⟩
              case measure => simp [intOf]; omega
            · rw [hone] at HX
              go_wp2_with fail
              go_region_held3 (fun w' => w'.cell? ⟨sb, so + j * 2, none⟩ = some (.int .i64 X) ∧ w'.cell? ⟨sb, so + j * 2 + 1, none⟩ = some (.int .i64 Y))
                (first | go_keep | exact ⟨(hf8.cell (p := ⟨sb, so + j * 2, none⟩) hsb id).trans HC.out.1, (hf8.cell (p := ⟨sb, so + j * 2 + 1, none⟩) hsb id).trans HC.out.2⟩)
                (first
                  | (go_at_call 21; refine (decode_any g3 l5 h5 A3 c3 F p Y true _ hd.drew ho (by omega) HX.out.1).mono ?_; rw [show bitN true = 1 from rfl]; rintro e8 w8 ⟨rfl, hd8, hk8⟩; have hf8 : Fresh w w8 := HF.out.drew.trans hk8 (fun i hi e => by omega)))
              have H8 := Lib.hid (And.intro hd8 hf8)
              clear hd8 hf8 hk8 hd c0 c1
              go_wp2_with fail
              go_roundw
              case rel => exact ⟨j + 1, _, _, _, by omega, by go_num, by have := HX.out.2.2.2; omega, H8.out.1, HX.out.2.2.1, HX.out.2.1, H8.out.2⟩
              case measure => simp [intOf]; omega
          · have hpast : pastN F p = 0 := by
              have h1 : F.drop p = four l5 := Rest.done hr (by simp; omega)
              have h2 : (F.drop p).length = 4 := by rw [h1]; rfl
              rw [List.length_drop] at h2
              unfold pastN
              omega
            have HP := Lib.hid hpast
            have HF := Lib.hid hf
            clear hr hf hpast
            have hx1 : ¬ (j : Int) < (n : Int) := by omega
            go_wp2_with fail
            refine (past_any g3 l5 h5 A3 c3 F _ p _ hd (by omega)).mono ?_
            rw [HP.out]
            rintro e9 w9 ⟨rfl, n9, rfl⟩
            have hfin := (HF.out.drewN n9).toBelow
            have HFin := Lib.hid hfin
            clear hfin
            go_wp2_with fail
            go_ret
            exact ⟨rfl, HFin.out⟩

set_option maxRecDepth 100000 in
theorem lifted (os : Os) (started : os.Started) (H : Type) (enc : TypeId × Value → H) :
    ReturnsInHanded {} Try.checked os 5 .any (Rows.coderBackSpec.pre6 enc Try.prog Try.f5 Rows.coderBackRow.domain false) (Rows.coderBackSpec.post enc Try.prog Try.f5 false true false false) := by
  refine returnsInHanded_of_change (C := Try.checked) Try.own started (by kernel_rfl) Try.func5
    (ChangeSpec.witness6 (enc := enc) (C := Try.checked) false ⟨#[], #[.slice none 0 0], []⟩ 8 (by kernel_rfl) (by kernel_rfl) (by kernel_rfl) (by kernel_rfl)) ?_
  intro W base args ds gs before hval0 hW hcnd _
  have hval : ∀ (j : Nat) t v, Try.f5.params[j]? = some t → args[j]? = some v → Value.okWide Try.prog W .any base t v := hval0
  have hpost : ∀ W', Below W.heap.size W W' → Rows.coderBackSpec.post enc Try.prog Try.f5 false true false false W args (.bool true) W' := fun W' hb =>
    law_post (by kernel_rfl) Try.underlying4 (by kernel_rfl) rfl (fun ds hl => match ds, hl with | [d1], _ => ⟨rfl, rfl, rfl⟩) hW hb
  obtain ⟨p, q, hA0, hV, rfl, hfz, hnd⟩ := hW
  have hA : DataW.TrodAll enc Try.prog W 0 (fun _ => true) true Try.f5.params.toList args.toList ds p := hA0
  rw [Try.params5] at hA hval
  obtain ⟨v0, vs0, d0, ds0, p0, q0, hargs, rfl, rfl, h0, r0⟩ := trodAll_cons hA
  obtain ⟨rfl, rfl, rfl⟩ := trodAll_nil r0
  obtain rfl : args = #[v0] := by cases args; simp_all
  obtain ⟨A, n, c, L, rfl, _, hn, hL⟩ := open_bits (hval 0 22 v0 rfl rfl) h0
  exact (walk A n c L W hL hn).mono fun e W' ⟨he, hb⟩ => ⟨_, he, hpost W' hb⟩

/-- The statement. -/
theorem proved : Rows.CoderBackSaid :=
  OpenClaim.holds_of_wide 5 Try.f5 rfl rfl rfl rfl rfl rfl rfl ⟨rfl, rfl, rfl, rfl, rfl⟩ rfl rfl rfl rfl rfl (by kernel_rfl) Try.func5 (by kernel_rfl)
    (of_decide_eq_true (by kernel_rfl)) (by unfold Func.isWrapper; first | (rw [if_pos (by decide +kernel)]; kernel_rfl) | (rw [if_neg (by decide +kernel)]; exact ⟨rfl, rfl⟩))
    (fun os started H enc _ => lifted os started H enc)
#print axioms proved

end Go.Proofs.Ytfdeacoaimnfeaa.coderBack
