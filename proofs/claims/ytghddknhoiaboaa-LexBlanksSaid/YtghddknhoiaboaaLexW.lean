/-
  lex: the document's word.
-/
import Derived.Test.YtghddknhoiaboaaLexV
import Derived.Test.YtghddknhoiaboaaDigC
import Derived.Deep.CutRange
namespace Go.Proofs.Ytghddknhoiaboaa
open Go.ChangeShapes Go.WideShapes Go.ChangeAt Go.RowKit
set_option linter.unusedVariables false
set_option maxRecDepth 100000

def conK (l : List Nat) (k : Nat) : Bool := isUp (l.getD 0 0) && (l.take k).all conC
def nameK (l : List Nat) (k : Nat) : Bool := signR (l.getD 0 0) && (l.take k).all nameC
def digK (l : List Nat) : Nat → Bool
  | 0 => true
  | k + 1 => digK l k && (isDg (l.getD k 0) || (decide (k = 0) && (decide (l.getD k 0 = 45) && decide (1 < l.length))))
theorem take_all (p : Nat → Bool) (l : List Nat) (k : Nat) (hk : k < l.length) : (l.take (k + 1)).all p = ((l.take k).all p && p (l.getD k 0)) := by
  rw [List.take_succ_eq_append_getElem hk, List.all_append, List.getD_eq_getElem?_getD, List.getElem?_eq_getElem hk]
  show _ = ((l.take k).all p && p l[k])
  rw [List.all_cons, List.all_nil, Bool.and_true]
theorem conK_succ (l : List Nat) (k : Nat) (hk : k < l.length) : conK l (k + 1) = (conK l k && (isUp (l.getD k 0) || (isDg (l.getD k 0) || isLow (l.getD k 0)))) := by
  unfold conK
  rw [take_all conC l k hk, ← Bool.and_assoc]
  congr 1
  unfold conC isLet
  generalize isUp (l.getD k 0) = a
  generalize isLow (l.getD k 0) = b
  generalize isDg (l.getD k 0) = c
  cases a <;> cases b <;> cases c <;> rfl
theorem nameK_succ (l : List Nat) (k : Nat) (hk : k < l.length) : nameK l (k + 1) = (nameK l k && (isUp (l.getD k 0) || (isDg (l.getD k 0) || signR (l.getD k 0)))) := by
  unfold nameK
  rw [take_all nameC l k hk, ← Bool.and_assoc]
  congr 1
  unfold nameC isLet signR
  generalize isUp (l.getD k 0) = a
  generalize isLow (l.getD k 0) = b
  generalize isDg (l.getD k 0) = c
  generalize isSgn (l.getD k 0) = d
  cases a <;> cases b <;> cases c <;> cases d <;> rfl
theorem conK_end (l : List Nat) : conK l l.length = isConS l := by unfold conK isConS; rw [List.take_length]
theorem nameK_end (l : List Nat) : nameK l l.length = refName l := by unfold nameK refName; rw [List.take_length]
theorem isD_Dg (c : Nat) : isD c = isDg c := rfl
theorem digK_minus (t : List Nat) : ∀ k, k ≤ t.length → digK (45 :: t) (k + 1) = (decide (0 < t.length) && (t.take k).all isD)
  | 0, _ => by
    show (true && (isDg 45 || (true && (true && decide (1 < (45 :: t).length))))) = (decide (0 < t.length) && true)
    rw [show isDg 45 = false from rfl, List.length_cons]
    simp
  | k + 1, h => by
    have hr := digK_minus t k (by omega)
    show (digK (45 :: t) (k + 1) && (isDg ((45 :: t).getD (k + 1) 0) || (decide (k + 1 = 0) && _))) = _
    rw [hr, take_all isD t k (by omega), Bool.and_assoc]
    congr 2
    show (isDg (t.getD k 0) || (false && _)) = isD (t.getD k 0)
    rw [Bool.false_and, Bool.or_false]
    rfl
theorem digK_plain (l : List Nat) (h0 : l.getD 0 0 ≠ 45) : ∀ k, k ≤ l.length → digK l k = (l.take k).all isD
  | 0, _ => rfl
  | k + 1, h => by
    have hr := digK_plain l h0 k (by omega)
    show (digK l k && (isDg (l.getD k 0) || (decide (k = 0) && (decide (l.getD k 0 = 45) && decide (1 < l.length))))) = _
    rw [hr, take_all isD l k (by omega)]
    congr 1
    by_cases hk : k = 0
    · subst hk
      rw [decide_eq_false h0]
      show (isDg (l.getD 0 0) || (true && (false && _))) = _
      rw [Bool.false_and, Bool.and_false, Bool.or_false]
      rfl
    · rw [decide_eq_false hk, Bool.false_and, Bool.or_false]
      rfl
theorem digK_end (l : List Nat) (h0 : l ≠ []) : digK l l.length = digS l := by
  cases l with
  | nil => exact absurd rfl h0
  | cons c t =>
    unfold digS
    by_cases hc : c = 45
    · subst hc
      rw [if_pos (show (45 :: t).head? = some 45 from rfl)]
      show digK (45 :: t) (t.length + 1) = isDs t
      rw [digK_minus t t.length (Nat.le_refl _), List.take_length]
      unfold isDs
      cases t <;> simp
    · rw [if_neg (show ¬ (c :: t).head? = some 45 from fun e => hc (Option.some.inj e))]
      rw [digK_plain (c :: t) hc _ (Nat.le_refl _), List.take_length]
      rfl
theorem isLow_dec (c : Nat) : (isLow c = true ∧ 97 ≤ c ∧ c ≤ 122) ∨ (isLow c = false ∧ (c < 97 ∨ 122 < c)) := by
  unfold isLow
  by_cases h : 97 ≤ c ∧ c ≤ 122
  · exact .inl ⟨decide_eq_true h, h.1, h.2⟩
  · exact .inr ⟨decide_eq_false h, by omega⟩
set_option maxHeartbeats 8000000 in
theorem refWord_any (s : ByteArray) (h0 : 0 < s.size) (hs : s.size ≤ 65000) (w : World) :
    Calls Try.prog 14 #[.string s] w fun e w' => e = .returned (wordV (refWordS s)) ∧ Below w.heap.size w w' := by
  obtain ⟨W0, hW0⟩ : ∃ W0, W0 = w.alloc (.cells #[.int .i64 0, .int .i64 0, .int .i64 0, .int .i64 0, .string ⟨#[]⟩] 38) := ⟨_, rfl⟩
  have hb0 : Below w.heap.size w W0 := by rw [hW0]; exact (Below.refl _ _).alloc (Nat.le_refl _) _
  have hs0 : W0.heap.size = w.heap.size + 1 := by rw [hW0]; exact size_alloc' w _
  have HZ : Hid (∀ W, Below W0.heap.size W0 W → W.heap[w.heap.size]? = some (.cells #[.int .i64 0, .int .i64 0, .int .i64 0, .int .i64 0, .string ⟨#[]⟩] 38)) := Lib.hid (fun W hb => by
    rw [hb.block w.heap.size (by omega), hW0]
    exact heap_alloc w _)
  have HB0 := Lib.hid hb0
  have HS0 := Lib.hid hs0
  have HW0 := Lib.hid hW0
  have hS : refWordS s = (if (readS (bytesOf s)).2 = 0 then some (2, (readS (bytesOf s)).1, ⟨#[]⟩)
  else if (rdS (bytesOf s)).2 = 0 then some (3, 0, bstr (eightS (rdS (bytesOf s)).1))
  else if 40 < s.size then none
  else if digS (bytesOf s) = true then none
  else if isConS (bytesOf s) = true then some (6, 0, s)
  else if refName (bytesOf s) = true then some (5, 0, s)
  else none) := rfl
  have HRe := Lib.hid (refRead_any s W0 (by omega))
  have HRf := Lib.hid (refReadFloat_any s W0 (Nat.le_trans hs (by decide)))
  generalize readS (bytesOf s) = r at *
  generalize rdS (bytesOf s) = f at *
  obtain ⟨r1, r2⟩ := r
  obtain ⟨f1, f2⟩ := f
  dsimp only at *
  generalize refWordS s = R at *
  clear hW0 hb0 hs0
  by_cases h1 : r2 = 0
  · rw [if_pos h1] at hS
    subst h1
    subst hS
    have hz := HZ.out W0 (Below.refl _ _)
    have c0 := cell_of_row W0 w.heap.size 0 _ _ (0, 0) hz
    have c1 := cell_of_row W0 w.heap.size 1 _ _ (0, 0) hz
    have c2 := cell_of_row W0 w.heap.size 2 _ _ (0, 0) hz
    have c3 := cell_of_row W0 w.heap.size 3 _ _ (0, 0) hz
    have c4 := cell_of_row W0 w.heap.size 4 _ _ (0, 0) hz
    have z0 := frozen_of_row W0 w.heap.size 0 _ _ hz
    have z1 := frozen_of_row W0 w.heap.size 1 _ _ hz
    have z2 := frozen_of_row W0 w.heap.size 2 _ _ hz
    have z3 := frozen_of_row W0 w.heap.size 3 _ _ hz
    have z4 := frozen_of_row W0 w.heap.size 4 _ _ hz
    have HF := Lib.hid (fun v0 v1 v2 v3 v4 => And.intro (tok_set hz v0 v1 v2 v3 v4) (tok_below (HB0.out.trans (((Below.refl _ _) : Below W0.heap.size W0 W0).mono (by rw [HS0.out]; exact Nat.le_succ _))) (Nat.le_refl _) v0 v1 v2 v3 v4))
    clear hz
    go_enter Try.func14, Try.ntmps14
    go_wp2_with fail
    rw [← HW0.out]
    refine HRe.out.mono ?_
    rintro e w1 ⟨rfl, rfl⟩
    go_wp2_with fail
    obtain ⟨hh, hbl⟩ := HF.out (.int .i64 2) (.int .i64 0) (.int .i64 0) (.int .i64 r1) (.string ⟨#[]⟩)
    generalize ((((((((((W0).setCell ⟨w.heap.size, 0, none⟩ (.int .i64 2))).setCell ⟨w.heap.size, 1, none⟩ (.int .i64 0))).setCell ⟨w.heap.size, 2, none⟩ (.int .i64 0))).setCell ⟨w.heap.size, 3, none⟩ (.int .i64 r1))).setCell ⟨w.heap.size, 4, none⟩ (.string ⟨#[]⟩)) = WF at *
    have e0 := cell_of_row WF w.heap.size 0 _ _ (0, 0) hh
    have e1 := cell_of_row WF w.heap.size 1 _ _ (0, 0) hh
    have e2 := cell_of_row WF w.heap.size 2 _ _ (0, 0) hh
    have e3 := cell_of_row WF w.heap.size 3 _ _ (0, 0) hh
    have e4 := cell_of_row WF w.heap.size 4 _ _ (0, 0) hh
    clear hh c0 c1 c2 c3 c4 z0 z1 z2 z3 z4
    refine bodyPost_ret (v := wordV (some (2, r1, ⟨#[]⟩))) (by simp [results, Try.results14, go_sem, e0, e1, e2, e3, e4, wordV, tokV]) rfl ⟨rfl, hbl⟩
  · rw [if_neg h1] at hS
    have b1 : (r2 == 0) = false := by simpa using h1
    by_cases h3 : f2 = 0
    · rw [if_pos h3] at hS
      subst h3
      obtain ⟨T, hT⟩ : ∃ T, T = bstr (eightS f1) := ⟨_, rfl⟩
      rw [← hT] at hS
      subst hS
      go_enter Try.func14, Try.ntmps14
      go_wp2_with fail
      rw [← HW0.out]
      refine HRe.out.mono ?_
      rintro e w1 ⟨rfl, rfl⟩
      go_wp2_with fail
      refine HRf.out.mono ?_
      clear HRf
      rintro e w2 ⟨rfl, rfl⟩
      have HBi := Lib.hid (eight_any f1 W0)
      rw [← hT] at HBi
      clear hT
      go_wp2_with fail
      refine HBi.out.mono ?_
      clear HBi
      rintro e w3 ⟨rfl, hb3⟩
      have HB3 := Lib.hid hb3
      clear hb3
      have hz := HZ.out w3 HB3.out
      have c0 := cell_of_row w3 w.heap.size 0 _ _ (0, 0) hz
      have c1 := cell_of_row w3 w.heap.size 1 _ _ (0, 0) hz
      have c2 := cell_of_row w3 w.heap.size 2 _ _ (0, 0) hz
      have c3 := cell_of_row w3 w.heap.size 3 _ _ (0, 0) hz
      have c4 := cell_of_row w3 w.heap.size 4 _ _ (0, 0) hz
      have z0 := frozen_of_row w3 w.heap.size 0 _ _ hz
      have z1 := frozen_of_row w3 w.heap.size 1 _ _ hz
      have z2 := frozen_of_row w3 w.heap.size 2 _ _ hz
      have z3 := frozen_of_row w3 w.heap.size 3 _ _ hz
      have z4 := frozen_of_row w3 w.heap.size 4 _ _ hz
      have HF := Lib.hid (fun v0 v1 v2 v3 v4 => And.intro (tok_set hz v0 v1 v2 v3 v4) (tok_below (HB0.out.trans ((HB3.out : Below W0.heap.size W0 w3).mono (by rw [HS0.out]; exact Nat.le_succ _))) (Nat.le_refl _) v0 v1 v2 v3 v4))
      clear hz
      go_wp2_with fail
      obtain ⟨hh, hbl⟩ := HF.out (.int .i64 3) (.int .i64 0) (.int .i64 0) (.int .i64 0) (.string T)
      generalize ((((((((((w3).setCell ⟨w.heap.size, 0, none⟩ (.int .i64 3))).setCell ⟨w.heap.size, 1, none⟩ (.int .i64 0))).setCell ⟨w.heap.size, 2, none⟩ (.int .i64 0))).setCell ⟨w.heap.size, 3, none⟩ (.int .i64 0))).setCell ⟨w.heap.size, 4, none⟩ (.string T)) = WF at *
      have e0 := cell_of_row WF w.heap.size 0 _ _ (0, 0) hh
      have e1 := cell_of_row WF w.heap.size 1 _ _ (0, 0) hh
      have e2 := cell_of_row WF w.heap.size 2 _ _ (0, 0) hh
      have e3 := cell_of_row WF w.heap.size 3 _ _ (0, 0) hh
      have e4 := cell_of_row WF w.heap.size 4 _ _ (0, 0) hh
      clear hh c0 c1 c2 c3 c4 z0 z1 z2 z3 z4
      refine bodyPost_ret (v := wordV (some (3, 0, T))) (by simp [results, Try.results14, go_sem, e0, e1, e2, e3, e4, wordV, tokV]) rfl ⟨rfl, hbl⟩
    · rw [if_neg h3] at hS
      have b3 : (f2 == 0) = false := by simpa using h3
      by_cases h4 : 40 < s.size
      · rw [if_pos h4] at hS
        have b4 : (40 : Int) < (s.size : Int) := by omega
        subst hS
        clear h3 h4
        go_enter Try.func14, Try.ntmps14
        go_wp2_with fail
        rw [← HW0.out]
        refine HRe.out.mono ?_
        rintro e w1 ⟨rfl, rfl⟩
        go_wp2_with fail
        refine HRf.out.mono ?_
        clear HRf
        rintro e w2 ⟨rfl, rfl⟩
        have hz := HZ.out W0 (Below.refl _ _)
        have c0 := cell_of_row W0 w.heap.size 0 _ _ (0, 0) hz
        have c1 := cell_of_row W0 w.heap.size 1 _ _ (0, 0) hz
        have c2 := cell_of_row W0 w.heap.size 2 _ _ (0, 0) hz
        have c3 := cell_of_row W0 w.heap.size 3 _ _ (0, 0) hz
        have c4 := cell_of_row W0 w.heap.size 4 _ _ (0, 0) hz
        have z0 := frozen_of_row W0 w.heap.size 0 _ _ hz
        have z1 := frozen_of_row W0 w.heap.size 1 _ _ hz
        have z2 := frozen_of_row W0 w.heap.size 2 _ _ hz
        have z3 := frozen_of_row W0 w.heap.size 3 _ _ hz
        have z4 := frozen_of_row W0 w.heap.size 4 _ _ hz
        have HF := Lib.hid (fun v0 v1 v2 v3 v4 => And.intro (tok_set hz v0 v1 v2 v3 v4) (tok_below (HB0.out.trans (((Below.refl _ _) : Below W0.heap.size W0 W0).mono (by rw [HS0.out]; exact Nat.le_succ _))) (Nat.le_refl _) v0 v1 v2 v3 v4))
        clear hz
        go_wp2_with fail
        obtain ⟨hh, hbl⟩ := HF.out (.int .i64 0) (.int .i64 0) (.int .i64 0) (.int .i64 0) (.string ⟨#[]⟩)
        generalize ((((((((((W0).setCell ⟨w.heap.size, 0, none⟩ (.int .i64 0))).setCell ⟨w.heap.size, 1, none⟩ (.int .i64 0))).setCell ⟨w.heap.size, 2, none⟩ (.int .i64 0))).setCell ⟨w.heap.size, 3, none⟩ (.int .i64 0))).setCell ⟨w.heap.size, 4, none⟩ (.string ⟨#[]⟩)) = WF at *
        have e0 := cell_of_row WF w.heap.size 0 _ _ (0, 0) hh
        have e1 := cell_of_row WF w.heap.size 1 _ _ (0, 0) hh
        have e2 := cell_of_row WF w.heap.size 2 _ _ (0, 0) hh
        have e3 := cell_of_row WF w.heap.size 3 _ _ (0, 0) hh
        have e4 := cell_of_row WF w.heap.size 4 _ _ (0, 0) hh
        clear hh c0 c1 c2 c3 c4 z0 z1 z2 z3 z4
        refine bodyPost_ret (v := wordV (none)) (by simp [results, Try.results14, go_sem, e0, e1, e2, e3, e4, wordV, tokV]) rfl ⟨rfl, hbl⟩
      · rw [if_neg h4] at hS
        have b4 : ¬ (40 : Int) < (s.size : Int) := by omega
        have hlen := bytesOf_length s
        have HCe := Lib.hid (conK_end (bytesOf s))
        have HNe := Lib.hid (nameK_end (bytesOf s))
        have HDe := Lib.hid (digK_end (bytesOf s) (fun e => by rw [e] at hlen; simp at hlen; omega))
        rw [hlen] at HCe HNe HDe
        have HGR := Lib.hid (fun W => great_any ((bytesOf s).getD 0 0) W)
        have HSG := Lib.hid (fun W => sign_any ((bytesOf s).getD 0 0) W)
        have HC0 : Hid (isUp ((bytesOf s).getD 0 0) = conK (bytesOf s) 0) := Lib.hid (by unfold conK; simp)
        have HN0 : Hid (signR ((bytesOf s).getD 0 0) = nameK (bytesOf s) 0) := Lib.hid (by unfold nameK; simp)
        rw [HC0.out] at HGR
        rw [HN0.out] at HSG
        have HX0 : Hid (s[0].toNat = (bytesOf s).getD 0 0) := Lib.hid (bytesOf_getD s 0 h0).symm
        have HS' := Lib.hid hS
        clear HC0 HN0 hS h3 h1 h4
        obtain ⟨l, hl⟩ : ∃ l, l = bytesOf s := ⟨_, rfl⟩
        rw [← hl] at HGR HSG HX0 HCe HNe HDe HS' hlen
        go_enter Try.func14, Try.ntmps14
        go_wp2_with fail
        rw [← HW0.out]
        refine HRe.out.mono ?_
        rintro e w1 ⟨rfl, rfl⟩
        go_wp2_with fail
        refine HRf.out.mono ?_
        clear HRf
        rintro e w2 ⟨rfl, rfl⟩
        generalize l.getD 0 0 = c0 at *
        generalize hcb : conK l 0 = cb at *
        generalize hnb : nameK l 0 = nb at *
        go_upto_region 9 with fail
        refine wp_region_inv_lit [.is (.string s), .is (.int .u8 (c0 : Int)), .is (.bool cb), .is (.string s), .is (.int .u8 (c0 : Int)), .is (.bool nb), .is (.bool cb), .is (.bool nb)] (by kernel_rfl) (by kernel_rfl) ?_
        iterate 2 (refine wpInv_is ?_ ?_; (focus (intro W hW hF K hK; clear hF; go_simp; first | exact hK _ _ (Gl.refl _) rfl | exact hK _ _ (Gl.refl _) (congrArg (fun n : Nat => Value.int .u8 (n : Int)) HX0.out))); simp only [Act.put, List.setIfInBounds_toArray, List.set_cons_zero, List.set_cons_succ])
        refine wpInv_is ?_ ?_
        · intro W hW hF K hK
          clear hF
          go_simp
          refine (HGR.out W).mono ?_
          rintro e w1 ⟨rfl, rfl⟩
          exact ⟨_, rfl, hK _ _ (Gl.refl _) rfl⟩
        simp only [Act.put, List.setIfInBounds_toArray, List.set_cons_zero, List.set_cons_succ]
        iterate 2 (refine wpInv_is ?_ ?_; (focus (intro W hW hF K hK; clear hF; go_simp; first | exact hK _ _ (Gl.refl _) rfl | exact hK _ _ (Gl.refl _) (congrArg (fun n : Nat => Value.int .u8 (n : Int)) HX0.out))); simp only [Act.put, List.setIfInBounds_toArray, List.set_cons_zero, List.set_cons_succ])
        refine wpInv_is ?_ ?_
        · intro W hW hF K hK
          clear hF
          go_simp
          refine (HSG.out W).mono ?_
          rintro e w1 ⟨rfl, rfl⟩
          exact ⟨_, rfl, hK _ _ (Gl.refl _) rfl⟩
        simp only [Act.put, List.setIfInBounds_toArray, List.set_cons_zero, List.set_cons_succ]
        repeat1' (refine wpInv_is ?_ ?_; (focus (intro W hW hF K hK; clear hF; go_simp; first | exact hK _ _ (Gl.refl _) rfl | exact hK _ _ (Gl.refl _) (congrArg (fun n : Nat => Value.int .u8 (n : Int)) HX0.out))); simp only [Act.put, List.setIfInBounds_toArray, List.set_cons_zero, List.set_cons_succ])
        refine wpInv_end ?_
        intro W hW hF
        have HBW := Lib.hid hW.undrew
        clear hW hF HGR HSG HX0
        go_wp2_with fail
        go_loop [8, 9, 10, 11] (fun vc vn vd vi => ∃ k : Nat, k ≤ s.size ∧ vc = .bool (conK l k) ∧ vn = .bool (nameK l k) ∧ vd = .bool (digK l k) ∧ vi = .int .i64 k) (fun _ _ _ vi => s.size - (intOf vi).toNat)
        case atStart => exact ⟨0, Nat.zero_le _, by rw [hcb], by rw [hnb], rfl, rfl⟩
        case round =>
          clear hcb hnb
          obtain ⟨k, hk, rfl, rfl, rfl, rfl⟩ := hrel
          by_cases hlt : k < s.size
          · have hix := idx_str s k hlt (by omega)
            rw [← hl] at hix
            have HC := Lib.hid (conK_succ l k (by omega))
            have HN := Lib.hid (nameK_succ l k (by omega))
            have HD : Hid (digK l (k + 1) = (digK l k && (isDg (l.getD k 0) || (decide (k = 0) && (decide (l.getD k 0 = 45) && decide (1 < l.length)))))) := Lib.hid rfl
            rw [hlen] at HD
            have HLo := Lib.hid (isLow_dec (l.getD k 0))
            have HGW := Lib.hid (great_any (l.getD k 0) W)
            have HDW := Lib.hid (digitr_any (l.getD k 0) W)
            have HSW := Lib.hid (sign_any (l.getD k 0) W)
            have HX1 : Hid (k = 0 → s[0].toNat = l.getD k 0) := Lib.hid (fun e => by rw [e, hl]; exact (bytesOf_getD s 0 h0).symm)
            clear hl
            generalize conK l k = cb1 at *
            generalize nameK l k = nb1 at *
            generalize digK l k = db1 at *
            generalize hcb2 : conK l (k + 1) = cb2 at *
            generalize hnb2 : nameK l (k + 1) = nb2 at *
            generalize hdb2 : digK l (k + 1) = db2 at *
            generalize l.getD k 0 = c at *
            generalize isUp c = u at *
            generalize isDg c = d at *
            generalize isLow c = lo at *
            generalize signR c = sg at *
            go_upto_region 14 with fail
            go_cut [8] from 41 to 112 (fun v wx => v = .bool (cb1 && (u || (d || lo))) ∧ wx = W)
            case first =>
              cases cb1 with
              | false =>
                go_wp2_with fail
                go_meet
                first | exact ⟨rfl, rfl⟩ | exact ⟨congrArg Value.bool (decide_eq_false (by omega)), rfl⟩
              | true =>
                cases u with
                | true =>
                  go_wp2_with fail
                  refine HGW.out.mono ?_
                  rintro e w1 ⟨rfl, rfl⟩
                  go_wp2_with fail
                  go_meet
                  first | exact ⟨rfl, rfl⟩ | exact ⟨congrArg Value.bool (decide_eq_false (by omega)), rfl⟩
                | false =>
                  cases d with
                  | true =>
                    go_wp2_with fail
                    refine HGW.out.mono ?_
                    rintro e w1 ⟨rfl, rfl⟩
                    go_wp2_with fail
                    refine HDW.out.mono ?_
                    rintro e w1 ⟨rfl, rfl⟩
                    go_wp2_with fail
                    go_meet
                    first | exact ⟨rfl, rfl⟩ | exact ⟨congrArg Value.bool (decide_eq_false (by omega)), rfl⟩
                  | false =>
                    rcases HLo.out with ⟨rfl, i1, i2⟩ | ⟨rfl, i1⟩
                    · have j1 : (97 : Int) ≤ (c : Int) := by omega
                      have j2 : (c : Int) ≤ 122 := by omega
                      go_wp2_with fail
                      refine HGW.out.mono ?_
                      rintro e w1 ⟨rfl, rfl⟩
                      go_wp2_with fail
                      refine HDW.out.mono ?_
                      rintro e w1 ⟨rfl, rfl⟩
                      go_wp2_with fail
                      go_meet
                      first | exact ⟨rfl, rfl⟩ | exact ⟨congrArg Value.bool (decide_eq_false (by omega)), rfl⟩
                    · by_cases i3 : 97 ≤ c
                      · have j1 : (97 : Int) ≤ (c : Int) := by omega
                        have j2 : ¬ (c : Int) ≤ 122 := by omega
                        go_wp2_with fail
                        refine HGW.out.mono ?_
                        rintro e w1 ⟨rfl, rfl⟩
                        go_wp2_with fail
                        refine HDW.out.mono ?_
                        rintro e w1 ⟨rfl, rfl⟩
                        go_wp2_with fail
                        go_meet
                        first | exact ⟨rfl, rfl⟩ | exact ⟨congrArg Value.bool (decide_eq_false (by omega)), rfl⟩
                      · have j1 : ¬ (97 : Int) ≤ (c : Int) := by omega
                        go_wp2_with fail
                        refine HGW.out.mono ?_
                        rintro e w1 ⟨rfl, rfl⟩
                        go_wp2_with fail
                        refine HDW.out.mono ?_
                        rintro e w1 ⟨rfl, rfl⟩
                        go_wp2_with fail
                        go_meet
                        first | exact ⟨rfl, rfl⟩ | exact ⟨congrArg Value.bool (decide_eq_false (by omega)), rfl⟩
            case rest =>
              obtain ⟨rfl, rfl⟩ := hcut
              rw [← HC.out]
              go_upto_region 15 with fail
              go_cut [9] from 41 to 112 (fun v wx => v = .bool (nb1 && (u || (d || sg))) ∧ wx = wc)
              case first =>
                cases nb1 with
                | false =>
                  go_wp2_with fail
                  go_meet
                  first | exact ⟨rfl, rfl⟩ | exact ⟨congrArg Value.bool (decide_eq_false (by omega)), rfl⟩
                | true =>
                  cases u with
                  | true =>
                    go_wp2_with fail
                    refine HGW.out.mono ?_
                    rintro e w1 ⟨rfl, rfl⟩
                    go_wp2_with fail
                    go_meet
                    first | exact ⟨rfl, rfl⟩ | exact ⟨congrArg Value.bool (decide_eq_false (by omega)), rfl⟩
                  | false =>
                    cases d with
                    | true =>
                      go_wp2_with fail
                      refine HGW.out.mono ?_
                      rintro e w1 ⟨rfl, rfl⟩
                      go_wp2_with fail
                      refine HDW.out.mono ?_
                      rintro e w1 ⟨rfl, rfl⟩
                      go_wp2_with fail
                      go_meet
                      first | exact ⟨rfl, rfl⟩ | exact ⟨congrArg Value.bool (decide_eq_false (by omega)), rfl⟩
                    | false =>
                      go_wp2_with fail
                      refine HGW.out.mono ?_
                      rintro e w1 ⟨rfl, rfl⟩
                      go_wp2_with fail
                      refine HDW.out.mono ?_
                      rintro e w1 ⟨rfl, rfl⟩
                      go_wp2_with fail
                      refine HSW.out.mono ?_
                      rintro e w1 ⟨rfl, rfl⟩
                      go_wp2_with fail
                      go_meet
                      first | exact ⟨rfl, rfl⟩ | exact ⟨congrArg Value.bool (decide_eq_false (by omega)), rfl⟩
              case rest =>
                obtain ⟨rfl, rfl⟩ := hcut
                rw [← HN.out]
                cases db1 with
                | false =>
                  go_wp2_with fail
                  go_round
                  case rel => exact ⟨k + 1, by omega, by rw [hcb2], by rw [hnb2], by rw [hdb2, HD.out]; first | rfl | exact congrArg Value.bool (decide_eq_false (by omega)), by go_num⟩
                  case measure => simp [intOf]; omega
                | true =>
                  cases d with
                  | true =>
                    go_wp2_with fail
                    refine HDW.out.mono ?_
                    rintro e w1 ⟨rfl, rfl⟩
                    go_wp2_with fail
                    go_round
                    case rel => exact ⟨k + 1, by omega, by rw [hcb2], by rw [hnb2], by rw [hdb2, HD.out]; first | rfl | exact congrArg Value.bool (decide_eq_false (by omega)), by go_num⟩
                    case measure => simp [intOf]; omega
                  | false =>
                    by_cases k0 : k = 0
                    · have m0 : ((k : Int) == 0) = true := by rw [k0]; rfl
                      have hix0 := HX1.out k0
                      by_cases c45 : c = 45
                      · have m5 : ((c : Int) == 45) = true := by rw [c45]; rfl
                        have HDW5 : Hid (Calls Try.prog 29 #[.int .u8 45] wc fun e w' => e = .returned (.bool false) ∧ wc = w') := by rw [c45] at HDW; exact HDW
                        by_cases l1 : 1 < s.size
                        · have m1 : (1 : Int) < (s.size : Int) := by omega
                          go_wp2_with fail
                          refine HDW5.out.mono ?_
                          rintro e w1 ⟨rfl, rfl⟩
                          go_wp2_with fail
                          go_round
                          case rel => exact ⟨k + 1, by omega, by rw [hcb2], by rw [hnb2], by rw [hdb2, HD.out, decide_eq_true k0, decide_eq_true c45, decide_eq_true l1]; first | rfl | exact congrArg Value.bool (decide_eq_false (by omega)), by go_num⟩
                          case measure => simp [intOf]; omega
                        · have m1 : ¬ (1 : Int) < (s.size : Int) := by omega
                          go_wp2_with fail
                          refine HDW5.out.mono ?_
                          rintro e w1 ⟨rfl, rfl⟩
                          go_wp2_with fail
                          go_round
                          case rel => exact ⟨k + 1, by omega, by rw [hcb2], by rw [hnb2], by rw [hdb2, HD.out, decide_eq_true k0, decide_eq_true c45, decide_eq_false l1]; first | rfl | exact congrArg Value.bool (decide_eq_false (by omega)), by go_num⟩
                          case measure => simp [intOf]; omega
                      · have m1 : ((c : Int) == 45) = false := by
                          have : ¬ (c : Int) = 45 := by omega
                          simpa using this
                        go_wp2_with fail
                        refine HDW.out.mono ?_
                        rintro e w1 ⟨rfl, rfl⟩
                        go_wp2_with fail
                        go_round
                        case rel => exact ⟨k + 1, by omega, by rw [hcb2], by rw [hnb2], by rw [hdb2, HD.out, decide_eq_true k0, decide_eq_false c45]; first | rfl | exact congrArg Value.bool (decide_eq_false (by omega)), by go_num⟩
                        case measure => simp [intOf]; omega
                    · have m1 : ((k : Int) == 0) = false := by
                        have : ¬ (k : Int) = 0 := by omega
                        simpa using this
                      go_wp2_with fail
                      refine HDW.out.mono ?_
                      rintro e w1 ⟨rfl, rfl⟩
                      go_wp2_with fail
                      go_round
                      case rel => exact ⟨k + 1, by omega, by rw [hcb2], by rw [hnb2], by rw [hdb2, HD.out, decide_eq_false k0]; first | rfl | exact congrArg Value.bool (decide_eq_false (by omega)), by go_num⟩
                      case measure => simp [intOf]; omega
          · obtain rfl : k = s.size := by omega
            have hR := HS'.out
            rw [HCe.out, HNe.out, HDe.out]
            generalize digS l = d1 at *
            generalize isConS l = c1 at *
            generalize refName l = n1 at *
            cases d1 with
            | true =>
              rw [if_pos rfl] at hR
              subst hR
              have hz := HZ.out W HBW.out
              have c0 := cell_of_row W w.heap.size 0 _ _ (0, 0) hz
              have c1 := cell_of_row W w.heap.size 1 _ _ (0, 0) hz
              have c2 := cell_of_row W w.heap.size 2 _ _ (0, 0) hz
              have c3 := cell_of_row W w.heap.size 3 _ _ (0, 0) hz
              have c4 := cell_of_row W w.heap.size 4 _ _ (0, 0) hz
              have z0 := frozen_of_row W w.heap.size 0 _ _ hz
              have z1 := frozen_of_row W w.heap.size 1 _ _ hz
              have z2 := frozen_of_row W w.heap.size 2 _ _ hz
              have z3 := frozen_of_row W w.heap.size 3 _ _ hz
              have z4 := frozen_of_row W w.heap.size 4 _ _ hz
              have HF := Lib.hid (fun v0 v1 v2 v3 v4 => And.intro (tok_set hz v0 v1 v2 v3 v4) (tok_below (HB0.out.trans ((HBW.out : Below W0.heap.size W0 W).mono (by rw [HS0.out]; exact Nat.le_succ _))) (Nat.le_refl _) v0 v1 v2 v3 v4))
              clear hz
              go_wp2_with fail
              obtain ⟨hh, hbl⟩ := HF.out (.int .i64 0) (.int .i64 0) (.int .i64 0) (.int .i64 0) (.string ⟨#[]⟩)
              generalize ((((((((((W).setCell ⟨w.heap.size, 0, none⟩ (.int .i64 0))).setCell ⟨w.heap.size, 1, none⟩ (.int .i64 0))).setCell ⟨w.heap.size, 2, none⟩ (.int .i64 0))).setCell ⟨w.heap.size, 3, none⟩ (.int .i64 0))).setCell ⟨w.heap.size, 4, none⟩ (.string ⟨#[]⟩)) = WF at *
              have e0 := cell_of_row WF w.heap.size 0 _ _ (0, 0) hh
              have e1 := cell_of_row WF w.heap.size 1 _ _ (0, 0) hh
              have e2 := cell_of_row WF w.heap.size 2 _ _ (0, 0) hh
              have e3 := cell_of_row WF w.heap.size 3 _ _ (0, 0) hh
              have e4 := cell_of_row WF w.heap.size 4 _ _ (0, 0) hh
              clear hh c0 c1 c2 c3 c4 z0 z1 z2 z3 z4
              refine bodyPost_ret (v := wordV (none)) (by simp [results, Try.results14, go_sem, e0, e1, e2, e3, e4, wordV, tokV]) rfl ⟨rfl, hbl⟩
            | false =>
              rw [if_neg (fun h => by cases h)] at hR
              cases c1 with
              | true =>
                rw [if_pos rfl] at hR
                subst hR
                have hz := HZ.out W HBW.out
                have c0 := cell_of_row W w.heap.size 0 _ _ (0, 0) hz
                have c1 := cell_of_row W w.heap.size 1 _ _ (0, 0) hz
                have c2 := cell_of_row W w.heap.size 2 _ _ (0, 0) hz
                have c3 := cell_of_row W w.heap.size 3 _ _ (0, 0) hz
                have c4 := cell_of_row W w.heap.size 4 _ _ (0, 0) hz
                have z0 := frozen_of_row W w.heap.size 0 _ _ hz
                have z1 := frozen_of_row W w.heap.size 1 _ _ hz
                have z2 := frozen_of_row W w.heap.size 2 _ _ hz
                have z3 := frozen_of_row W w.heap.size 3 _ _ hz
                have z4 := frozen_of_row W w.heap.size 4 _ _ hz
                have HF := Lib.hid (fun v0 v1 v2 v3 v4 => And.intro (tok_set hz v0 v1 v2 v3 v4) (tok_below (HB0.out.trans ((HBW.out : Below W0.heap.size W0 W).mono (by rw [HS0.out]; exact Nat.le_succ _))) (Nat.le_refl _) v0 v1 v2 v3 v4))
                clear hz
                go_wp2_with fail
                obtain ⟨hh, hbl⟩ := HF.out (.int .i64 6) (.int .i64 0) (.int .i64 0) (.int .i64 0) (.string s)
                generalize ((((((((((W).setCell ⟨w.heap.size, 0, none⟩ (.int .i64 6))).setCell ⟨w.heap.size, 1, none⟩ (.int .i64 0))).setCell ⟨w.heap.size, 2, none⟩ (.int .i64 0))).setCell ⟨w.heap.size, 3, none⟩ (.int .i64 0))).setCell ⟨w.heap.size, 4, none⟩ (.string s)) = WF at *
                have e0 := cell_of_row WF w.heap.size 0 _ _ (0, 0) hh
                have e1 := cell_of_row WF w.heap.size 1 _ _ (0, 0) hh
                have e2 := cell_of_row WF w.heap.size 2 _ _ (0, 0) hh
                have e3 := cell_of_row WF w.heap.size 3 _ _ (0, 0) hh
                have e4 := cell_of_row WF w.heap.size 4 _ _ (0, 0) hh
                clear hh c0 c1 c2 c3 c4 z0 z1 z2 z3 z4
                refine bodyPost_ret (v := wordV (some (6, 0, s))) (by simp [results, Try.results14, go_sem, e0, e1, e2, e3, e4, wordV, tokV]) rfl ⟨rfl, hbl⟩
              | false =>
                rw [if_neg (fun h => by cases h)] at hR
                cases n1 with
                | true =>
                  rw [if_pos rfl] at hR
                  subst hR
                  have hz := HZ.out W HBW.out
                  have c0 := cell_of_row W w.heap.size 0 _ _ (0, 0) hz
                  have c1 := cell_of_row W w.heap.size 1 _ _ (0, 0) hz
                  have c2 := cell_of_row W w.heap.size 2 _ _ (0, 0) hz
                  have c3 := cell_of_row W w.heap.size 3 _ _ (0, 0) hz
                  have c4 := cell_of_row W w.heap.size 4 _ _ (0, 0) hz
                  have z0 := frozen_of_row W w.heap.size 0 _ _ hz
                  have z1 := frozen_of_row W w.heap.size 1 _ _ hz
                  have z2 := frozen_of_row W w.heap.size 2 _ _ hz
                  have z3 := frozen_of_row W w.heap.size 3 _ _ hz
                  have z4 := frozen_of_row W w.heap.size 4 _ _ hz
                  have HF := Lib.hid (fun v0 v1 v2 v3 v4 => And.intro (tok_set hz v0 v1 v2 v3 v4) (tok_below (HB0.out.trans ((HBW.out : Below W0.heap.size W0 W).mono (by rw [HS0.out]; exact Nat.le_succ _))) (Nat.le_refl _) v0 v1 v2 v3 v4))
                  clear hz
                  go_wp2_with fail
                  obtain ⟨hh, hbl⟩ := HF.out (.int .i64 5) (.int .i64 0) (.int .i64 0) (.int .i64 0) (.string s)
                  generalize ((((((((((W).setCell ⟨w.heap.size, 0, none⟩ (.int .i64 5))).setCell ⟨w.heap.size, 1, none⟩ (.int .i64 0))).setCell ⟨w.heap.size, 2, none⟩ (.int .i64 0))).setCell ⟨w.heap.size, 3, none⟩ (.int .i64 0))).setCell ⟨w.heap.size, 4, none⟩ (.string s)) = WF at *
                  have e0 := cell_of_row WF w.heap.size 0 _ _ (0, 0) hh
                  have e1 := cell_of_row WF w.heap.size 1 _ _ (0, 0) hh
                  have e2 := cell_of_row WF w.heap.size 2 _ _ (0, 0) hh
                  have e3 := cell_of_row WF w.heap.size 3 _ _ (0, 0) hh
                  have e4 := cell_of_row WF w.heap.size 4 _ _ (0, 0) hh
                  clear hh c0 c1 c2 c3 c4 z0 z1 z2 z3 z4
                  refine bodyPost_ret (v := wordV (some (5, 0, s))) (by simp [results, Try.results14, go_sem, e0, e1, e2, e3, e4, wordV, tokV]) rfl ⟨rfl, hbl⟩
                | false =>
                  rw [if_neg (fun h => by cases h)] at hR
                  subst hR
                  have hz := HZ.out W HBW.out
                  have c0 := cell_of_row W w.heap.size 0 _ _ (0, 0) hz
                  have c1 := cell_of_row W w.heap.size 1 _ _ (0, 0) hz
                  have c2 := cell_of_row W w.heap.size 2 _ _ (0, 0) hz
                  have c3 := cell_of_row W w.heap.size 3 _ _ (0, 0) hz
                  have c4 := cell_of_row W w.heap.size 4 _ _ (0, 0) hz
                  have z0 := frozen_of_row W w.heap.size 0 _ _ hz
                  have z1 := frozen_of_row W w.heap.size 1 _ _ hz
                  have z2 := frozen_of_row W w.heap.size 2 _ _ hz
                  have z3 := frozen_of_row W w.heap.size 3 _ _ hz
                  have z4 := frozen_of_row W w.heap.size 4 _ _ hz
                  have HF := Lib.hid (fun v0 v1 v2 v3 v4 => And.intro (tok_set hz v0 v1 v2 v3 v4) (tok_below (HB0.out.trans ((HBW.out : Below W0.heap.size W0 W).mono (by rw [HS0.out]; exact Nat.le_succ _))) (Nat.le_refl _) v0 v1 v2 v3 v4))
                  clear hz
                  go_wp2_with fail
                  obtain ⟨hh, hbl⟩ := HF.out (.int .i64 0) (.int .i64 0) (.int .i64 0) (.int .i64 0) (.string ⟨#[]⟩)
                  generalize ((((((((((W).setCell ⟨w.heap.size, 0, none⟩ (.int .i64 0))).setCell ⟨w.heap.size, 1, none⟩ (.int .i64 0))).setCell ⟨w.heap.size, 2, none⟩ (.int .i64 0))).setCell ⟨w.heap.size, 3, none⟩ (.int .i64 0))).setCell ⟨w.heap.size, 4, none⟩ (.string ⟨#[]⟩)) = WF at *
                  have e0 := cell_of_row WF w.heap.size 0 _ _ (0, 0) hh
                  have e1 := cell_of_row WF w.heap.size 1 _ _ (0, 0) hh
                  have e2 := cell_of_row WF w.heap.size 2 _ _ (0, 0) hh
                  have e3 := cell_of_row WF w.heap.size 3 _ _ (0, 0) hh
                  have e4 := cell_of_row WF w.heap.size 4 _ _ (0, 0) hh
                  clear hh c0 c1 c2 c3 c4 z0 z1 z2 z3 z4
                  refine bodyPost_ret (v := wordV (none)) (by simp [results, Try.results14, go_sem, e0, e1, e2, e3, e4, wordV, tokV]) rfl ⟨rfl, hbl⟩
end Go.Proofs.Ytghddknhoiaboaa
