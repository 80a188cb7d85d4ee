/-
  lex: blanks and remarks.
-/
import Derived.Test.YtghddknhoiaboaaLexA
namespace Go.Proofs.Ytghddknhoiaboaa
open Go.ChangeShapes Go.WideShapes Go.ChangeAt Go.RowKit
set_option linter.unusedVariables false
set_option maxRecDepth 100000

def isBl (c : Nat) : Bool := c == 32 || c == 9 || c == 10
/-- how many bytes of blanks and remarks come next; true: within a remark -/
def blankLen : Bool → List Nat → Nat
  | _, [] => 0
  | true, c :: t => if c = 10 then 1 + blankLen false t else 1 + blankLen true t
  | false, c :: t => if isBl c = true then 1 + blankLen false t else if c = 59 then 1 + blankLen true t else 0
theorem drop_at (l : List Nat) (j : Nat) (h : j < l.length) : l.drop j = l.getD j 0 :: l.drop (j + 1) := by
  rw [List.drop_eq_getElem_cons h, List.getD_eq_getElem?_getD, List.getElem?_eq_getElem h]
  rfl
theorem blank_10 (t : List Nat) : blankLen true (10 :: t) = blankLen false (10 :: t) := by
  show (1 + blankLen false t) = (if isBl 10 = true then 1 + blankLen false t else if 10 = 59 then 1 + blankLen true t else 0)
  rw [if_pos (show isBl 10 = true by decide)]
theorem blank_end (b : Bool) (l : List Nat) (j : Nat) (h : l.length ≤ j) : blankLen b (l.drop j) = 0 := by
  rw [List.drop_eq_nil_of_le h]
  cases b <;> rfl
theorem blank_le : ∀ (b : Bool) (l : List Nat), blankLen b l ≤ l.length
  | _, [] => by cases ‹Bool› <;> exact Nat.le_refl _
  | true, c :: t => by
    show (if c = 10 then 1 + blankLen false t else 1 + blankLen true t) ≤ _
    have h1 := blank_le false t
    have h2 := blank_le true t
    rw [List.length_cons]
    split <;> omega
  | false, c :: t => by
    show (if isBl c = true then 1 + blankLen false t else if c = 59 then 1 + blankLen true t else 0) ≤ _
    have h1 := blank_le false t
    have h2 := blank_le true t
    rw [List.length_cons]
    split
    · omega
    · split <;> omega
/-- where a text is, read off the world -/
def idxOf (w : World) (tb : Nat) : Nat := match w.cell? ⟨tb, 1, none⟩ with
  | some (.int _ n) => n.toNat
  | _ => 0
theorem idxOf_at {w : World} {tb : Nat} {s : ByteArray} {i : Nat} (h : TextAt w tb s i) : idxOf w tb = i := by
  unfold idxOf
  rw [h.cells.2.1]
  rfl
theorem Only.step {F : Nat → Prop} {a b c : World} (h : Only F a b) (k : Below b.heap.size b c) : Only F a c := h.trans (Only.of_below k)
set_option maxHeartbeats 1000000 in
theorem remark_any (w : World) (tb : Nat) (s : ByteArray) (i : Nat) (h : TextAt w tb s i) (hi : i ≤ s.size) (hs : s.size ≤ 70000) :
    Calls Try.prog 33 #[.pointer (some ⟨tb, 0, none⟩)] w fun e w' => e = .returned (.tuple #[]) ∧ ∃ j, i ≤ j ∧ j ≤ s.size ∧ j + blankLen false ((bytesOf s).drop j) = i + blankLen true ((bytesOf s).drop i) ∧ TextAt w' tb s j ∧ Only (fun k => k = tb) w w' := by
  have HT := Lib.hid h
  have hbl := bytesOf_length s
  clear h
  go_enter Try.func33, Try.ntmps33
  go_wp2_with fail
  go_loopw [2] (fun _ wr => ∃ j : Nat, i ≤ j ∧ j ≤ s.size ∧ Hid (j + blankLen true ((bytesOf s).drop j) = i + blankLen true ((bytesOf s).drop i)) ∧ Hid (TextAt wr tb s j) ∧ Hid (Only (fun k => k = tb) w wr)) (fun _ wr => s.size - idxOf wr tb)
  case atStart => exact ⟨i, Nat.le_refl _, hi, Lib.hid rfl, HT, Lib.hid (Only.refl _ _)⟩
  case round =>
    obtain ⟨j, hij, hjs, HJ, HTj, HO⟩ := hrel
    have HM := Lib.hid (more_any wr tb s j HTj.out (by omega))
    by_cases hlt : j < s.size
    · rw [decide_eq_true hlt] at HM
      go_wp2_with fail
      refine HM.out.mono ?_
      clear HM
      rintro e w1 ⟨rfl, hb1⟩
      have HT1 := Lib.hid (HTj.out.below hb1)
      have HO1 := Lib.hid (HO.out.step hb1)
      have HSe := Lib.hid (see_any w1 tb s j HT1.out hlt (by omega))
      have HDr := Lib.hid (drop_at (bytesOf s) j (by rw [hbl]; exact hlt))
      obtain ⟨c, hc⟩ : ∃ c, c = (bytesOf s).getD j 0 := ⟨_, rfl⟩
      rw [← hc] at HSe HDr
      have HC := Lib.hid hc
      clear hb1 hc
      go_wp2_with fail
      refine HSe.out.mono ?_
      clear HSe
      rintro e w2 ⟨rfl, hb2⟩
      have HT2 := Lib.hid (HT1.out.below hb2)
      have HO2 := Lib.hid (HO1.out.step hb2)
      clear hb2
      by_cases h10 : c = 10
      · subst h10
        go_wp2_with fail
        go_end0
        refine ⟨rfl, j, hij, hjs, ?_, HT2.out, HO2.out⟩
        rw [← HJ.out, HDr.out, blank_10]
      · have h10b : ((c : Int) == 10) = false := by
          have : ¬ (c : Int) = 10 := by omega
          simpa using this
        have h10n : ((c : Int) != 10) = true := by
          have : ¬ (c : Int) = 10 := by omega
          simpa using this
        have HTk := Lib.hid (take_any w2 tb s j HT2.out hlt hs)
        go_wp2_with fail
        refine HTk.out.mono ?_
        clear HTk
        rintro e w3 ⟨rfl, ht3, ho3⟩
        have HT3 := Lib.hid ht3
        have HO3 := Lib.hid (HO2.out.trans ho3)
        have HN : Hid (¬ c = 10) := Lib.hid h10
        clear ht3 ho3 h10 h10b h10n
        go_wp2_with fail
        go_roundw
        case rel =>
          refine ⟨j + 1, by omega, by omega, Lib.hid ?_, HT3, HO3⟩
          rw [← HJ.out, HDr.out]
          show _ = j + (if c = 10 then _ else _)
          rw [if_neg HN.out]
          omega
        case measure =>
          rw [idxOf_at HT3.out, idxOf_at HTj.out]
          omega
    · rw [decide_eq_false hlt] at HM
      go_wp2_with fail
      refine HM.out.mono ?_
      clear HM
      rintro e w1 ⟨rfl, hb1⟩
      have HT1 := Lib.hid (HTj.out.below hb1)
      have HO1 := Lib.hid (HO.out.step hb1)
      clear hb1
      go_wp2_with fail
      go_end0
      refine ⟨rfl, j, hij, hjs, ?_, HT1.out, HO1.out⟩
      rw [← HJ.out, blank_end false _ _ (by rw [hbl]; omega), blank_end true _ _ (by rw [hbl]; omega)]
theorem isBlank_any (c : Nat) (hc : c < 256) (w : World) : Calls Try.prog 30 #[.int .u8 (c : Int)] w fun e w' => e = .returned (.bool (isBl c)) ∧ w = w' := by
  have hb : isBl c = (decide (c = 32) || decide (c = 9) || decide (c = 10)) := rfl
  by_cases h1 : c = 32
  · subst h1
    go_enter Try.func30, Try.ntmps30
    go_wp2_with fail
    go_ret
    exact ⟨rfl, rfl⟩
  · by_cases h2 : c = 9
    · subst h2
      go_enter Try.func30, Try.ntmps30
      go_wp2_with fail
      go_ret
      exact ⟨rfl, rfl⟩
    · by_cases h3 : c = 10
      · subst h3
        go_enter Try.func30, Try.ntmps30
        go_wp2_with fail
        go_ret
        exact ⟨rfl, rfl⟩
      · have e : isBl c = false := by rw [hb]; simp [h1, h2, h3]
        rw [e]
        have b1 : ((c : Int) == 32) = false := by have : ¬ (c : Int) = 32 := by omega
                                                  simpa using this
        have b2 : ((c : Int) == 9) = false := by have : ¬ (c : Int) = 9 := by omega
                                                 simpa using this
        have b3 : ((c : Int) == 10) = false := by have : ¬ (c : Int) = 10 := by omega
                                                  simpa using this
        clear e hb h1 h2 h3
        go_enter Try.func30, Try.ntmps30
        go_wp2_with fail
        go_ret
        exact ⟨rfl, rfl⟩
theorem byte_lt (s : ByteArray) (j : Nat) : (bytesOf s).getD j 0 < 256 := by
  by_cases h : j < s.size
  · exact getD_lt s j h
  · rw [List.getD_eq_getElem?_getD, List.getElem?_eq_none (by rw [bytesOf_length]; omega)]
    decide
set_option maxHeartbeats 1000000 in
theorem blanks_any (w : World) (tb : Nat) (s : ByteArray) (i : Nat) (h : TextAt w tb s i) (hi : i ≤ s.size) (hs : s.size ≤ 70000) :
    Calls Try.prog 18 #[.pointer (some ⟨tb, 0, none⟩)] w fun e w' => e = .returned (.tuple #[]) ∧ TextAt w' tb s (i + blankLen false ((bytesOf s).drop i)) ∧ Only (fun k => k = tb) w w' := by
  have HT := Lib.hid h
  have hbl := bytesOf_length s
  obtain ⟨Z, hZ⟩ : ∃ Z, Z = i + blankLen false ((bytesOf s).drop i) := ⟨_, rfl⟩
  rw [← hZ]
  have HZ := Lib.hid hZ
  clear h hZ
  go_enter Try.func18, Try.ntmps18
  go_wp2_with fail
  go_loopw [2] (fun _ wr => ∃ j : Nat, i ≤ j ∧ j ≤ s.size ∧ Hid (j + blankLen false ((bytesOf s).drop j) = Z) ∧ Hid (TextAt wr tb s j) ∧ Hid (Only (fun k => k = tb) w wr)) (fun _ wr => s.size - idxOf wr tb)
  case atStart => exact ⟨i, Nat.le_refl _, hi, Lib.hid HZ.out.symm, HT, Lib.hid (Only.refl _ _)⟩
  case round =>
    obtain ⟨j, hij, hjs, HJ, HTj, HO⟩ := hrel
    have HM := Lib.hid (more_any wr tb s j HTj.out (by omega))
    by_cases hlt : j < s.size
    · rw [decide_eq_true hlt] at HM
      go_wp2_with fail
      refine HM.out.mono ?_
      clear HM
      rintro e w1 ⟨rfl, hb1⟩
      have HT1 := Lib.hid (HTj.out.below hb1)
      have HO1 := Lib.hid (HO.out.step hb1)
      have HSe := Lib.hid (see_any w1 tb s j HT1.out hlt (by omega))
      have HDr := Lib.hid (drop_at (bytesOf s) j (by rw [hbl]; exact hlt))
      have hc256 := byte_lt s j
      obtain ⟨c, hc⟩ : ∃ c, c = (bytesOf s).getD j 0 := ⟨_, rfl⟩
      rw [← hc] at HSe HDr hc256
      have HC := Lib.hid hc
      have HBl := Lib.hid (fun W => isBlank_any c hc256 W)
      clear hb1 hc
      go_wp2_with fail
      refine HSe.out.mono ?_
      clear HSe
      rintro e w2 ⟨rfl, hb2⟩
      have HT2 := Lib.hid (HT1.out.below hb2)
      have HO2 := Lib.hid (HO1.out.step hb2)
      clear hb2
      by_cases hblk : isBl c = true
      · have h59 : ¬ c = 59 := fun e => by rw [e] at hblk; exact absurd hblk (by decide)
        have h59b : ((c : Int) == 59) = false := by
          have : ¬ (c : Int) = 59 := by omega
          simpa using this
        rw [hblk] at HBl
        have HN := Lib.hid hblk
        clear hblk
        go_wp2_with fail
        refine (HBl.out _).mono ?_
        rintro e w2 ⟨rfl, rfl⟩
        have HTk := Lib.hid (take_any w2 tb s j HT2.out hlt hs)
        rw [← HC.out] at HTk
        go_wp2_with fail
        refine HTk.out.mono ?_
        clear HTk
        rintro e w3 ⟨rfl, ht3, ho3⟩
        have HT3 := Lib.hid ht3
        have HO3 := Lib.hid (HO2.out.trans ho3)
        clear ht3 ho3
        go_wp2_with fail
        go_roundw
        case rel =>
          refine ⟨j + 1, by omega, by omega, Lib.hid ?_, HT3, HO3⟩
          rw [← HJ.out, HDr.out]
          show _ = j + (if isBl c = true then _ else _)
          rw [if_pos HN.out]
          omega
        case measure =>
          rw [idxOf_at HT3.out, idxOf_at HTj.out]
          omega
      · have hblkf : isBl c = false := by simpa using hblk
        rw [hblkf] at HBl
        have HN := Lib.hid hblk
        clear hblk hblkf
        go_wp2_with fail
        refine (HBl.out _).mono ?_
        rintro e w2 ⟨rfl, rfl⟩
        have HSe := Lib.hid (see_any w2 tb s j HT2.out hlt (by omega))
        rw [← HC.out] at HSe
        go_wp2_with fail
        refine HSe.out.mono ?_
        clear HSe
        rintro e w3 ⟨rfl, hb3⟩
        have HT3 := Lib.hid (HT2.out.below hb3)
        have HO3 := Lib.hid (HO2.out.step hb3)
        clear hb3
        by_cases h59 : c = 59
        · have h59b : ((c : Int) == 59) = true := by rw [h59]; decide
          have HTk := Lib.hid (take_any w3 tb s j HT3.out hlt hs)
          rw [← HC.out] at HTk
          have HN2 := Lib.hid h59
          clear h59
          go_wp2_with fail
          refine HTk.out.mono ?_
          clear HTk
          rintro e w4 ⟨rfl, ht4, ho4⟩
          have HT4 := Lib.hid ht4
          have HO4 := Lib.hid (HO3.out.trans ho4)
          clear ht4 ho4
          have HRm := Lib.hid (remark_any w4 tb s (j + 1) HT4.out (by omega) hs)
          go_wp2_with fail
          refine HRm.out.mono ?_
          clear HRm
          rintro e w5 ⟨rfl, j2, hj1, hj2, hje, ht5, ho5⟩
          have HT5 := Lib.hid ht5
          have HO5 := Lib.hid (HO4.out.trans ho5)
          have HJ2 := Lib.hid hje
          clear ht5 ho5 hje
          go_wp2_with fail
          go_roundw
          case rel =>
            refine ⟨j2, by omega, hj2, Lib.hid ?_, HT5, HO5⟩
            rw [HJ2.out, ← HJ.out, HDr.out]
            show _ = j + (if isBl c = true then _ else if c = 59 then _ else _)
            rw [if_neg HN.out, if_pos HN2.out]
            omega
          case measure =>
            rw [idxOf_at HT5.out, idxOf_at HTj.out]
            omega
        · have h59b : ((c : Int) == 59) = false := by
            have : ¬ (c : Int) = 59 := by omega
            simpa using this
          have hz : Z = j := by
            rw [← HJ.out, HDr.out]
            show j + (if isBl c = true then _ else if c = 59 then _ else _) = j
            rw [if_neg HN.out, if_neg h59]
            rfl
          have HZj := Lib.hid hz
          clear hz h59
          go_wp2_with fail
          go_end0
          refine ⟨rfl, ?_, HO3.out⟩
          rw [HZj.out]; exact HT3.out
    · rw [decide_eq_false hlt] at HM
      have hz : Z = j := by
        rw [← HJ.out, blank_end false _ _ (by rw [hbl]; omega)]
        rfl
      have HZj := Lib.hid hz
      clear hz
      go_wp2_with fail
      refine HM.out.mono ?_
      clear HM
      rintro e w1 ⟨rfl, hb1⟩
      have HT1 := Lib.hid (HTj.out.below hb1)
      have HO1 := Lib.hid (HO.out.step hb1)
      clear hb1
      go_wp2_with fail
      go_end0
      refine ⟨rfl, ?_, HO1.out⟩
      rw [HZj.out]; exact HT1.out
end Go.Proofs.Ytghddknhoiaboaa
