/-
  lex: a word.
-/
import Derived.Test.YtghddknhoiaboaaLexI
namespace Go.Proofs.Ytghddknhoiaboaa
open Go.ChangeShapes Go.WideShapes Go.ChangeAt Go.RowKit
set_option linter.unusedVariables false
set_option maxRecDepth 100000

def tokV (k : Int) (p : Nat × Nat) (n : Int) (t : ByteArray) : Value := .agg #[.int .i64 k, .int .i64 (p.1 : Int), .int .i64 (p.2 : Int), .int .i64 n, .string t]
/-- what a word is: its kind, its number, its text -/
def wordS (s : ByteArray) : Option (Int × Int × ByteArray) :=
  if (readS (bytesOf s)).2 = 0 then some (2, (readS (bytesOf s)).1, ⟨#[]⟩)
  else if ¬ (readS (bytesOf s)).2 = 2 then none
  else if (rdS (bytesOf s)).2 = 0 then some (3, 0, bstr (eightS (rdS (bytesOf s)).1))
  else if 40 < s.size then none
  else if isConS (bytesOf s) = true then some (6, 0, s)
  else if isNameS (bytesOf s) = true then some (5, 0, s)
  else none
theorem tok_set {W : World} {b : Nat} {a0 a1 a2 a3 a4 : Value} {t : TypeId} (h : W.heap[b]? = some (.cells #[a0, a1, a2, a3, a4] t)) (v0 v1 v2 v3 v4 : Value) :
    (((((W.setCell ⟨b, 0, none⟩ v0).setCell ⟨b, 1, none⟩ v1).setCell ⟨b, 2, none⟩ v2).setCell ⟨b, 3, none⟩ v3).setCell ⟨b, 4, none⟩ v4).heap[b]? = some (.cells #[v0, v1, v2, v3, v4] t) := by
  rw [set_put _ b 4 v4 (set_put _ b 3 v3 (set_put _ b 2 v2 (set_put _ b 1 v1 (set_put _ b 0 v0 h))))]
  rfl
theorem tok_below {B b : Nat} {w W : World} (h : Below B w W) (hb : B ≤ b) (v0 v1 v2 v3 v4 : Value) :
    Below B w (((((W.setCell ⟨b, 0, none⟩ v0).setCell ⟨b, 1, none⟩ v1).setCell ⟨b, 2, none⟩ v2).setCell ⟨b, 3, none⟩ v3).setCell ⟨b, 4, none⟩ v4) :=
  ((((h.setCell hb _).setCell hb _).setCell hb _).setCell hb _).setCell hb _
def wordV : Option (Int × Int × ByteArray) → Value
  | none => .tuple #[tokV 0 (0, 0) 0 ⟨#[]⟩, .bool false]
  | some (k, n, t) => .tuple #[tokV k (0, 0) n t, .bool true]
theorem clone_any (s : ByteArray) (w : World) (hs : s.size ≤ 281474976710656) : Calls Try.prog 44 #[.string s] w fun e w' => e = .returned (.string s) ∧ Below w.heap.size w w' := by
  have HC := Lib.hid (stringslite_Clone s w hs)
  go_enter Try.func44, Try.ntmps44
  go_wp2_with fail
  refine HC.out.mono ?_
  rintro e w1 ⟨rfl, hb⟩
  have HB := Lib.hid hb
  clear hb
  go_wp2_with fail
  go_ret
  exact ⟨rfl, HB.out⟩
set_option maxHeartbeats 2000000 in
theorem word_any (s : ByteArray) (h0 : 0 < s.size) (hs : s.size ≤ 65000) (w : World) (mx : Int) (hmx : w.cell? ⟨1, 0, none⟩ = some (.int .i64 mx)) :
    Calls Try.prog 36 #[.string s] w fun e w' => e = .returned (wordV (wordS s)) ∧ Below w.heap.size w w' := by
  obtain ⟨W0, hW0⟩ : ∃ W0, W0 = w.alloc (.cells #[.int .i64 0, .int .i64 0, .int .i64 0, .int .i64 0, .string ⟨#[]⟩] 44) := ⟨_, rfl⟩
  have hb0 : Below w.heap.size w W0 := by rw [hW0]; exact (Below.refl _ _).alloc (Nat.le_refl _) _
  have hs0 : W0.heap.size = w.heap.size + 1 := by rw [hW0]; exact size_alloc' w _
  have HZ : Hid (∀ W, Below W0.heap.size W0 W → W.heap[w.heap.size]? = some (.cells #[.int .i64 0, .int .i64 0, .int .i64 0, .int .i64 0, .string ⟨#[]⟩] 44)) := Lib.hid (fun W hb => by
    rw [hb.block w.heap.size (by omega), hW0]
    exact heap_alloc w _)
  have HB0 := Lib.hid hb0
  have HS0 := Lib.hid hs0
  have HW0 := Lib.hid hW0
  have HM0 : Hid (W0.cell? ⟨1, 0, none⟩ = some (.int .i64 mx)) := Lib.hid (by
    have hlt : 1 < w.heap.size := by
      rcases Nat.lt_or_ge 1 w.heap.size with hl | hl
      · exact hl
      · exfalso
        unfold World.cell? at hmx
        rw [Array.getElem?_eq_none (by exact hl)] at hmx
        cases hmx
    rw [World.cell?_of_block (a := ⟨1, 0, none⟩) (hb0.block _ hlt)]
    exact hmx)
  have hS : wordS s = (if (readS (bytesOf s)).2 = 0 then some (2, (readS (bytesOf s)).1, ⟨#[]⟩)
  else if ¬ (readS (bytesOf s)).2 = 2 then none
  else if (rdS (bytesOf s)).2 = 0 then some (3, 0, bstr (eightS (rdS (bytesOf s)).1))
  else if 40 < s.size then none
  else if isConS (bytesOf s) = true then some (6, 0, s)
  else if isNameS (bytesOf s) = true then some (5, 0, s)
  else none) := rfl
  have HRe := Lib.hid (read_any s W0 (by omega))
  have HRf := Lib.hid (readFloat_any s W0 (Nat.le_trans hs (by decide)) mx HM0.out)
  have HCo := Lib.hid (fun W => isCon_any s h0 (by omega) W)
  have HNa := Lib.hid (fun W => isName_any s h0 (by omega) W)
  generalize readS (bytesOf s) = r at *
  generalize rdS (bytesOf s) = f at *
  generalize isConS (bytesOf s) = bc at *
  generalize isNameS (bytesOf s) = bn at *
  obtain ⟨r1, r2⟩ := r
  obtain ⟨f1, f2⟩ := f
  dsimp only at *
  generalize wordS s = R at *
  clear hW0 hb0 hs0 hmx h0
  by_cases h1 : r2 = 0
  · rw [if_pos h1] at hS
    subst h1
    subst hS
    have hz := HZ.out W0 (Below.refl _ _)
    have c0 := cell_of_row W0 w.heap.size 0 _ _ (0, 0) hz
    have c1 := cell_of_row W0 w.heap.size 1 _ _ (0, 0) hz
    have c2 := cell_of_row W0 w.heap.size 2 _ _ (0, 0) hz
    have c3 := cell_of_row W0 w.heap.size 3 _ _ (0, 0) hz
    have c4 := cell_of_row W0 w.heap.size 4 _ _ (0, 0) hz
    have z0 := frozen_of_row W0 w.heap.size 0 _ _ hz
    have z1 := frozen_of_row W0 w.heap.size 1 _ _ hz
    have z2 := frozen_of_row W0 w.heap.size 2 _ _ hz
    have z3 := frozen_of_row W0 w.heap.size 3 _ _ hz
    have z4 := frozen_of_row W0 w.heap.size 4 _ _ hz
    have HF := Lib.hid (fun v0 v1 v2 v3 v4 => And.intro (tok_set hz v0 v1 v2 v3 v4) (tok_below (HB0.out.trans (((Below.refl _ _) : Below W0.heap.size W0 W0).mono (by rw [HS0.out]; exact Nat.le_succ _))) (Nat.le_refl _) v0 v1 v2 v3 v4))
    clear hz
    go_enter Try.func36, Try.ntmps36
    go_wp2_with fail
    rw [← HW0.out]
    refine HRe.out.mono ?_
    rintro e w1 ⟨rfl, rfl⟩
    go_wp2_with fail
    obtain ⟨hh, hbl⟩ := HF.out (.int .i64 2) (.int .i64 0) (.int .i64 0) (.int .i64 r1) (.string ⟨#[]⟩)
    generalize ((((((((((W0).setCell ⟨w.heap.size, 0, none⟩ (.int .i64 2))).setCell ⟨w.heap.size, 1, none⟩ (.int .i64 0))).setCell ⟨w.heap.size, 2, none⟩ (.int .i64 0))).setCell ⟨w.heap.size, 3, none⟩ (.int .i64 r1))).setCell ⟨w.heap.size, 4, none⟩ (.string ⟨#[]⟩)) = WF at *
    have e0 := cell_of_row WF w.heap.size 0 _ _ (0, 0) hh
    have e1 := cell_of_row WF w.heap.size 1 _ _ (0, 0) hh
    have e2 := cell_of_row WF w.heap.size 2 _ _ (0, 0) hh
    have e3 := cell_of_row WF w.heap.size 3 _ _ (0, 0) hh
    have e4 := cell_of_row WF w.heap.size 4 _ _ (0, 0) hh
    clear hh c0 c1 c2 c3 c4 z0 z1 z2 z3 z4
    refine bodyPost_ret (v := wordV (some (2, r1, ⟨#[]⟩))) (by simp [results, Try.results36, go_sem, e0, e1, e2, e3, e4, wordV, tokV]) rfl ⟨rfl, hbl⟩
  · rw [if_neg h1] at hS
    have b1 : (r2 == 0) = false := by simpa using h1
    by_cases h2 : r2 = 2
    · rw [if_neg (fun h => h h2)] at hS
      subst h2
      clear h1 b1
      by_cases h3 : f2 = 0
      · rw [if_pos h3] at hS
        subst h3
        obtain ⟨T, hT⟩ : ∃ T, T = bstr (eightS f1) := ⟨_, rfl⟩
        rw [← hT] at hS
        subst hS
        go_enter Try.func36, Try.ntmps36
        go_wp2_with fail
        rw [← HW0.out]
        refine HRe.out.mono ?_
        rintro e w1 ⟨rfl, rfl⟩
        go_wp2_with fail
        refine HRf.out.mono ?_
        clear HRf
        rintro e w2 ⟨rfl, hb2⟩
        have HB2 := Lib.hid hb2
        clear hb2
        have HBi := Lib.hid (bits_any f1 w2)
        rw [← hT] at HBi
        clear hT
        go_wp2_with fail
        refine HBi.out.mono ?_
        clear HBi
        rintro e w3 ⟨rfl, hb3⟩
        have HB3 := Lib.hid (HB2.out.trans (hb3.mono HB2.out.size))
        clear hb3
        have hz := HZ.out w3 HB3.out
        have c0 := cell_of_row w3 w.heap.size 0 _ _ (0, 0) hz
        have c1 := cell_of_row w3 w.heap.size 1 _ _ (0, 0) hz
        have c2 := cell_of_row w3 w.heap.size 2 _ _ (0, 0) hz
        have c3 := cell_of_row w3 w.heap.size 3 _ _ (0, 0) hz
        have c4 := cell_of_row w3 w.heap.size 4 _ _ (0, 0) hz
        have z0 := frozen_of_row w3 w.heap.size 0 _ _ hz
        have z1 := frozen_of_row w3 w.heap.size 1 _ _ hz
        have z2 := frozen_of_row w3 w.heap.size 2 _ _ hz
        have z3 := frozen_of_row w3 w.heap.size 3 _ _ hz
        have z4 := frozen_of_row w3 w.heap.size 4 _ _ hz
        have HF := Lib.hid (fun v0 v1 v2 v3 v4 => And.intro (tok_set hz v0 v1 v2 v3 v4) (tok_below (HB0.out.trans ((HB3.out : Below W0.heap.size W0 w3).mono (by rw [HS0.out]; exact Nat.le_succ _))) (Nat.le_refl _) v0 v1 v2 v3 v4))
        clear hz
        go_wp2_with fail
        obtain ⟨hh, hbl⟩ := HF.out (.int .i64 3) (.int .i64 0) (.int .i64 0) (.int .i64 0) (.string T)
        generalize ((((((((((w3).setCell ⟨w.heap.size, 0, none⟩ (.int .i64 3))).setCell ⟨w.heap.size, 1, none⟩ (.int .i64 0))).setCell ⟨w.heap.size, 2, none⟩ (.int .i64 0))).setCell ⟨w.heap.size, 3, none⟩ (.int .i64 0))).setCell ⟨w.heap.size, 4, none⟩ (.string T)) = WF at *
        have e0 := cell_of_row WF w.heap.size 0 _ _ (0, 0) hh
        have e1 := cell_of_row WF w.heap.size 1 _ _ (0, 0) hh
        have e2 := cell_of_row WF w.heap.size 2 _ _ (0, 0) hh
        have e3 := cell_of_row WF w.heap.size 3 _ _ (0, 0) hh
        have e4 := cell_of_row WF w.heap.size 4 _ _ (0, 0) hh
        clear hh c0 c1 c2 c3 c4 z0 z1 z2 z3 z4
        refine bodyPost_ret (v := wordV (some (3, 0, T))) (by simp [results, Try.results36, go_sem, e0, e1, e2, e3, e4, wordV, tokV]) rfl ⟨rfl, hbl⟩
      · rw [if_neg h3] at hS
        have b3 : (f2 == 0) = false := by simpa using h3
        by_cases h4 : 40 < s.size
        · rw [if_pos h4] at hS
          have b4 : (40 : Int) < (s.size : Int) := by omega
          subst hS
          clear h3 h4
          go_enter Try.func36, Try.ntmps36
          go_wp2_with fail
          rw [← HW0.out]
          refine HRe.out.mono ?_
          rintro e w1 ⟨rfl, rfl⟩
          go_wp2_with fail
          refine HRf.out.mono ?_
          clear HRf
          rintro e w2 ⟨rfl, hb2⟩
          have HB2 := Lib.hid hb2
          clear hb2
          have hz := HZ.out w2 HB2.out
          have c0 := cell_of_row w2 w.heap.size 0 _ _ (0, 0) hz
          have c1 := cell_of_row w2 w.heap.size 1 _ _ (0, 0) hz
          have c2 := cell_of_row w2 w.heap.size 2 _ _ (0, 0) hz
          have c3 := cell_of_row w2 w.heap.size 3 _ _ (0, 0) hz
          have c4 := cell_of_row w2 w.heap.size 4 _ _ (0, 0) hz
          have z0 := frozen_of_row w2 w.heap.size 0 _ _ hz
          have z1 := frozen_of_row w2 w.heap.size 1 _ _ hz
          have z2 := frozen_of_row w2 w.heap.size 2 _ _ hz
          have z3 := frozen_of_row w2 w.heap.size 3 _ _ hz
          have z4 := frozen_of_row w2 w.heap.size 4 _ _ hz
          have HF := Lib.hid (fun v0 v1 v2 v3 v4 => And.intro (tok_set hz v0 v1 v2 v3 v4) (tok_below (HB0.out.trans ((HB2.out : Below W0.heap.size W0 w2).mono (by rw [HS0.out]; exact Nat.le_succ _))) (Nat.le_refl _) v0 v1 v2 v3 v4))
          clear hz
          go_wp2_with fail
          obtain ⟨hh, hbl⟩ := HF.out (.int .i64 0) (.int .i64 0) (.int .i64 0) (.int .i64 0) (.string ⟨#[]⟩)
          generalize ((((((((((w2).setCell ⟨w.heap.size, 0, none⟩ (.int .i64 0))).setCell ⟨w.heap.size, 1, none⟩ (.int .i64 0))).setCell ⟨w.heap.size, 2, none⟩ (.int .i64 0))).setCell ⟨w.heap.size, 3, none⟩ (.int .i64 0))).setCell ⟨w.heap.size, 4, none⟩ (.string ⟨#[]⟩)) = WF at *
          have e0 := cell_of_row WF w.heap.size 0 _ _ (0, 0) hh
          have e1 := cell_of_row WF w.heap.size 1 _ _ (0, 0) hh
          have e2 := cell_of_row WF w.heap.size 2 _ _ (0, 0) hh
          have e3 := cell_of_row WF w.heap.size 3 _ _ (0, 0) hh
          have e4 := cell_of_row WF w.heap.size 4 _ _ (0, 0) hh
          clear hh c0 c1 c2 c3 c4 z0 z1 z2 z3 z4
          refine bodyPost_ret (v := wordV (none)) (by simp [results, Try.results36, go_sem, e0, e1, e2, e3, e4, wordV, tokV]) rfl ⟨rfl, hbl⟩
        · rw [if_neg h4] at hS
          have b4 : ¬ (40 : Int) < (s.size : Int) := by omega
          by_cases h5 : bc = true
          · rw [if_pos h5] at hS
            subst h5
            subst hS
            clear h3
            go_enter Try.func36, Try.ntmps36
            go_wp2_with fail
            rw [← HW0.out]
            refine HRe.out.mono ?_
            rintro e w1 ⟨rfl, rfl⟩
            go_wp2_with fail
            refine HRf.out.mono ?_
            clear HRf
            rintro e w2 ⟨rfl, hb2⟩
            have HB2 := Lib.hid hb2
            clear hb2
            go_wp2_with fail
            refine (HCo.out w2).mono ?_
            rintro e wx ⟨rfl, rfl⟩
            have HCl := Lib.hid (clone_any s w2 (by omega))
            go_wp2_with fail
            refine HCl.out.mono ?_
            clear HCl
            rintro e w3 ⟨rfl, hb3⟩
            have HB3 := Lib.hid (HB2.out.trans (hb3.mono HB2.out.size))
            clear hb3
            have hz := HZ.out w3 HB3.out
            have c0 := cell_of_row w3 w.heap.size 0 _ _ (0, 0) hz
            have c1 := cell_of_row w3 w.heap.size 1 _ _ (0, 0) hz
            have c2 := cell_of_row w3 w.heap.size 2 _ _ (0, 0) hz
            have c3 := cell_of_row w3 w.heap.size 3 _ _ (0, 0) hz
            have c4 := cell_of_row w3 w.heap.size 4 _ _ (0, 0) hz
            have z0 := frozen_of_row w3 w.heap.size 0 _ _ hz
            have z1 := frozen_of_row w3 w.heap.size 1 _ _ hz
            have z2 := frozen_of_row w3 w.heap.size 2 _ _ hz
            have z3 := frozen_of_row w3 w.heap.size 3 _ _ hz
            have z4 := frozen_of_row w3 w.heap.size 4 _ _ hz
            have HF := Lib.hid (fun v0 v1 v2 v3 v4 => And.intro (tok_set hz v0 v1 v2 v3 v4) (tok_below (HB0.out.trans ((HB3.out : Below W0.heap.size W0 w3).mono (by rw [HS0.out]; exact Nat.le_succ _))) (Nat.le_refl _) v0 v1 v2 v3 v4))
            clear hz
            go_wp2_with fail
            obtain ⟨hh, hbl⟩ := HF.out (.int .i64 6) (.int .i64 0) (.int .i64 0) (.int .i64 0) (.string s)
            generalize ((((((((((w3).setCell ⟨w.heap.size, 0, none⟩ (.int .i64 6))).setCell ⟨w.heap.size, 1, none⟩ (.int .i64 0))).setCell ⟨w.heap.size, 2, none⟩ (.int .i64 0))).setCell ⟨w.heap.size, 3, none⟩ (.int .i64 0))).setCell ⟨w.heap.size, 4, none⟩ (.string s)) = WF at *
            have e0 := cell_of_row WF w.heap.size 0 _ _ (0, 0) hh
            have e1 := cell_of_row WF w.heap.size 1 _ _ (0, 0) hh
            have e2 := cell_of_row WF w.heap.size 2 _ _ (0, 0) hh
            have e3 := cell_of_row WF w.heap.size 3 _ _ (0, 0) hh
            have e4 := cell_of_row WF w.heap.size 4 _ _ (0, 0) hh
            clear hh c0 c1 c2 c3 c4 z0 z1 z2 z3 z4
            refine bodyPost_ret (v := wordV (some (6, 0, s))) (by simp [results, Try.results36, go_sem, e0, e1, e2, e3, e4, wordV, tokV]) rfl ⟨rfl, hbl⟩
          · rw [if_neg h5] at hS
            have b5 : bc = false := by simpa using h5
            subst b5
            clear h5
            by_cases h6 : bn = true
            · rw [if_pos h6] at hS
              subst h6
              subst hS
              clear h3
              go_enter Try.func36, Try.ntmps36
              go_wp2_with fail
              rw [← HW0.out]
              refine HRe.out.mono ?_
              rintro e w1 ⟨rfl, rfl⟩
              go_wp2_with fail
              refine HRf.out.mono ?_
              clear HRf
              rintro e w2 ⟨rfl, hb2⟩
              have HB2 := Lib.hid hb2
              clear hb2
              go_wp2_with fail
              refine (HCo.out w2).mono ?_
              rintro e wx ⟨rfl, rfl⟩
              go_wp2_with fail
              refine (HNa.out w2).mono ?_
              rintro e wx ⟨rfl, rfl⟩
              have HCl := Lib.hid (clone_any s w2 (by omega))
              go_wp2_with fail
              refine HCl.out.mono ?_
              clear HCl
              rintro e w3 ⟨rfl, hb3⟩
              have HB3 := Lib.hid (HB2.out.trans (hb3.mono HB2.out.size))
              clear hb3
              have hz := HZ.out w3 HB3.out
              have c0 := cell_of_row w3 w.heap.size 0 _ _ (0, 0) hz
              have c1 := cell_of_row w3 w.heap.size 1 _ _ (0, 0) hz
              have c2 := cell_of_row w3 w.heap.size 2 _ _ (0, 0) hz
              have c3 := cell_of_row w3 w.heap.size 3 _ _ (0, 0) hz
              have c4 := cell_of_row w3 w.heap.size 4 _ _ (0, 0) hz
              have z0 := frozen_of_row w3 w.heap.size 0 _ _ hz
              have z1 := frozen_of_row w3 w.heap.size 1 _ _ hz
              have z2 := frozen_of_row w3 w.heap.size 2 _ _ hz
              have z3 := frozen_of_row w3 w.heap.size 3 _ _ hz
              have z4 := frozen_of_row w3 w.heap.size 4 _ _ hz
              have HF := Lib.hid (fun v0 v1 v2 v3 v4 => And.intro (tok_set hz v0 v1 v2 v3 v4) (tok_below (HB0.out.trans ((HB3.out : Below W0.heap.size W0 w3).mono (by rw [HS0.out]; exact Nat.le_succ _))) (Nat.le_refl _) v0 v1 v2 v3 v4))
              clear hz
              go_wp2_with fail
              obtain ⟨hh, hbl⟩ := HF.out (.int .i64 5) (.int .i64 0) (.int .i64 0) (.int .i64 0) (.string s)
              generalize ((((((((((w3).setCell ⟨w.heap.size, 0, none⟩ (.int .i64 5))).setCell ⟨w.heap.size, 1, none⟩ (.int .i64 0))).setCell ⟨w.heap.size, 2, none⟩ (.int .i64 0))).setCell ⟨w.heap.size, 3, none⟩ (.int .i64 0))).setCell ⟨w.heap.size, 4, none⟩ (.string s)) = WF at *
              have e0 := cell_of_row WF w.heap.size 0 _ _ (0, 0) hh
              have e1 := cell_of_row WF w.heap.size 1 _ _ (0, 0) hh
              have e2 := cell_of_row WF w.heap.size 2 _ _ (0, 0) hh
              have e3 := cell_of_row WF w.heap.size 3 _ _ (0, 0) hh
              have e4 := cell_of_row WF w.heap.size 4 _ _ (0, 0) hh
              clear hh c0 c1 c2 c3 c4 z0 z1 z2 z3 z4
              refine bodyPost_ret (v := wordV (some (5, 0, s))) (by simp [results, Try.results36, go_sem, e0, e1, e2, e3, e4, wordV, tokV]) rfl ⟨rfl, hbl⟩
            · rw [if_neg h6] at hS
              have b6 : bn = false := by simpa using h6
              subst b6
              subst hS
              clear h3 h6
              go_enter Try.func36, Try.ntmps36
              go_wp2_with fail
              rw [← HW0.out]
              refine HRe.out.mono ?_
              rintro e w1 ⟨rfl, rfl⟩
              go_wp2_with fail
              refine HRf.out.mono ?_
              clear HRf
              rintro e w2 ⟨rfl, hb2⟩
              have HB2 := Lib.hid hb2
              clear hb2
              go_wp2_with fail
              refine (HCo.out w2).mono ?_
              rintro e wx ⟨rfl, rfl⟩
              go_wp2_with fail
              refine (HNa.out w2).mono ?_
              rintro e wx ⟨rfl, rfl⟩
              have hz := HZ.out w2 HB2.out
              have c0 := cell_of_row w2 w.heap.size 0 _ _ (0, 0) hz
              have c1 := cell_of_row w2 w.heap.size 1 _ _ (0, 0) hz
              have c2 := cell_of_row w2 w.heap.size 2 _ _ (0, 0) hz
              have c3 := cell_of_row w2 w.heap.size 3 _ _ (0, 0) hz
              have c4 := cell_of_row w2 w.heap.size 4 _ _ (0, 0) hz
              have z0 := frozen_of_row w2 w.heap.size 0 _ _ hz
              have z1 := frozen_of_row w2 w.heap.size 1 _ _ hz
              have z2 := frozen_of_row w2 w.heap.size 2 _ _ hz
              have z3 := frozen_of_row w2 w.heap.size 3 _ _ hz
              have z4 := frozen_of_row w2 w.heap.size 4 _ _ hz
              have HF := Lib.hid (fun v0 v1 v2 v3 v4 => And.intro (tok_set hz v0 v1 v2 v3 v4) (tok_below (HB0.out.trans ((HB2.out : Below W0.heap.size W0 w2).mono (by rw [HS0.out]; exact Nat.le_succ _))) (Nat.le_refl _) v0 v1 v2 v3 v4))
              clear hz
              go_wp2_with fail
              obtain ⟨hh, hbl⟩ := HF.out (.int .i64 0) (.int .i64 0) (.int .i64 0) (.int .i64 0) (.string ⟨#[]⟩)
              generalize ((((((((((w2).setCell ⟨w.heap.size, 0, none⟩ (.int .i64 0))).setCell ⟨w.heap.size, 1, none⟩ (.int .i64 0))).setCell ⟨w.heap.size, 2, none⟩ (.int .i64 0))).setCell ⟨w.heap.size, 3, none⟩ (.int .i64 0))).setCell ⟨w.heap.size, 4, none⟩ (.string ⟨#[]⟩)) = WF at *
              have e0 := cell_of_row WF w.heap.size 0 _ _ (0, 0) hh
              have e1 := cell_of_row WF w.heap.size 1 _ _ (0, 0) hh
              have e2 := cell_of_row WF w.heap.size 2 _ _ (0, 0) hh
              have e3 := cell_of_row WF w.heap.size 3 _ _ (0, 0) hh
              have e4 := cell_of_row WF w.heap.size 4 _ _ (0, 0) hh
              clear hh c0 c1 c2 c3 c4 z0 z1 z2 z3 z4
              refine bodyPost_ret (v := wordV (none)) (by simp [results, Try.results36, go_sem, e0, e1, e2, e3, e4, wordV, tokV]) rfl ⟨rfl, hbl⟩
    · rw [if_pos h2] at hS
      have b2 : (r2 != 2) = true := by simpa using h2
      subst hS
      clear h1
      have hz := HZ.out W0 (Below.refl _ _)
      have c0 := cell_of_row W0 w.heap.size 0 _ _ (0, 0) hz
      have c1 := cell_of_row W0 w.heap.size 1 _ _ (0, 0) hz
      have c2 := cell_of_row W0 w.heap.size 2 _ _ (0, 0) hz
      have c3 := cell_of_row W0 w.heap.size 3 _ _ (0, 0) hz
      have c4 := cell_of_row W0 w.heap.size 4 _ _ (0, 0) hz
      have z0 := frozen_of_row W0 w.heap.size 0 _ _ hz
      have z1 := frozen_of_row W0 w.heap.size 1 _ _ hz
      have z2 := frozen_of_row W0 w.heap.size 2 _ _ hz
      have z3 := frozen_of_row W0 w.heap.size 3 _ _ hz
      have z4 := frozen_of_row W0 w.heap.size 4 _ _ hz
      have HF := Lib.hid (fun v0 v1 v2 v3 v4 => And.intro (tok_set hz v0 v1 v2 v3 v4) (tok_below (HB0.out.trans (((Below.refl _ _) : Below W0.heap.size W0 W0).mono (by rw [HS0.out]; exact Nat.le_succ _))) (Nat.le_refl _) v0 v1 v2 v3 v4))
      clear hz
      go_enter Try.func36, Try.ntmps36
      go_wp2_with fail
      rw [← HW0.out]
      refine HRe.out.mono ?_
      rintro e w1 ⟨rfl, rfl⟩
      go_wp2_with fail
      obtain ⟨hh, hbl⟩ := HF.out (.int .i64 0) (.int .i64 0) (.int .i64 0) (.int .i64 0) (.string ⟨#[]⟩)
      generalize ((((((((((W0).setCell ⟨w.heap.size, 0, none⟩ (.int .i64 0))).setCell ⟨w.heap.size, 1, none⟩ (.int .i64 0))).setCell ⟨w.heap.size, 2, none⟩ (.int .i64 0))).setCell ⟨w.heap.size, 3, none⟩ (.int .i64 0))).setCell ⟨w.heap.size, 4, none⟩ (.string ⟨#[]⟩)) = WF at *
      have e0 := cell_of_row WF w.heap.size 0 _ _ (0, 0) hh
      have e1 := cell_of_row WF w.heap.size 1 _ _ (0, 0) hh
      have e2 := cell_of_row WF w.heap.size 2 _ _ (0, 0) hh
      have e3 := cell_of_row WF w.heap.size 3 _ _ (0, 0) hh
      have e4 := cell_of_row WF w.heap.size 4 _ _ (0, 0) hh
      clear hh c0 c1 c2 c3 c4 z0 z1 z2 z3 z4
      refine bodyPost_ret (v := wordV (none)) (by simp [results, Try.results36, go_sem, e0, e1, e2, e3, e4, wordV, tokV]) rfl ⟨rfl, hbl⟩
end Go.Proofs.Ytghddknhoiaboaa
