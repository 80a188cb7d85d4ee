/-
  lex: kinds of bytes.
-/
import Derived.Test.YtghddknhoiaboaaLexF
namespace Go.Proofs.Ytghddknhoiaboaa
open Go.ChangeShapes Go.WideShapes Go.ChangeAt Go.RowKit
set_option linter.unusedVariables false
set_option maxRecDepth 100000

def isUp (c : Nat) : Bool := decide (65 ≤ c ∧ c ≤ 90)
def isDg (c : Nat) : Bool := decide (48 ≤ c ∧ c ≤ 57)
def isLow (c : Nat) : Bool := decide (97 ≤ c ∧ c ≤ 122)
def isLet (c : Nat) : Bool := isUp c || isLow c
def isSgn (c : Nat) : Bool := [39, 43, 42, 47, 60, 62, 61, 33, 63, 95, 46, 45].contains c
/-- does a word end at it? -/
def isEnd (c : Nat) : Bool := isBl c || c == 40 || c == 41 || c == 34 || c == 59
theorem isUpper_any (c : Nat) (w : World) : Calls Try.prog 55 #[.int .u8 (c : Int)] w fun e w' => e = .returned (.bool (isUp c)) ∧ w = w' := by
  by_cases h1 : 65 ≤ c
  · have i1 : (65 : Int) ≤ (c : Int) := by omega
    by_cases h2 : c ≤ 90
    · have i2 : (c : Int) ≤ 90 := by omega
      have e : isUp c = true := by unfold isUp; exact decide_eq_true ⟨h1, h2⟩
      rw [e]
      clear e h1 h2
      go_enter Try.func55, Try.ntmps55
      go_wp2_with fail
      go_ret
      exact ⟨rfl, rfl⟩
    · have i2 : ¬ (c : Int) ≤ 90 := by omega
      have e : isUp c = false := by unfold isUp; exact decide_eq_false (fun h => h2 h.2)
      rw [e]
      clear e h1 h2
      go_enter Try.func55, Try.ntmps55
      go_wp2_with fail
      go_ret
      exact ⟨rfl, rfl⟩
  · have i1 : ¬ (65 : Int) ≤ (c : Int) := by omega
    have e : isUp c = false := by unfold isUp; exact decide_eq_false (fun h => h1 h.1)
    rw [e]
    clear e h1
    go_enter Try.func55, Try.ntmps55
    go_wp2_with fail
    go_ret
    exact ⟨rfl, rfl⟩
theorem isDigit_any (c : Nat) (w : World) : Calls Try.prog 57 #[.int .u8 (c : Int)] w fun e w' => e = .returned (.bool (isDg c)) ∧ w = w' := by
  by_cases h1 : 48 ≤ c
  · have i1 : (48 : Int) ≤ (c : Int) := by omega
    by_cases h2 : c ≤ 57
    · have i2 : (c : Int) ≤ 57 := by omega
      have e : isDg c = true := by unfold isDg; exact decide_eq_true ⟨h1, h2⟩
      rw [e]
      clear e h1 h2
      go_enter Try.func57, Try.ntmps57
      go_wp2_with fail
      go_ret
      exact ⟨rfl, rfl⟩
    · have i2 : ¬ (c : Int) ≤ 57 := by omega
      have e : isDg c = false := by unfold isDg; exact decide_eq_false (fun h => h2 h.2)
      rw [e]
      clear e h1 h2
      go_enter Try.func57, Try.ntmps57
      go_wp2_with fail
      go_ret
      exact ⟨rfl, rfl⟩
  · have i1 : ¬ (48 : Int) ≤ (c : Int) := by omega
    have e : isDg c = false := by unfold isDg; exact decide_eq_false (fun h => h1 h.1)
    rw [e]
    clear e h1
    go_enter Try.func57, Try.ntmps57
    go_wp2_with fail
    go_ret
    exact ⟨rfl, rfl⟩
theorem isLetter_any (c : Nat) (w : World) : Calls Try.prog 56 #[.int .u8 (c : Int)] w fun e w' => e = .returned (.bool (isLet c)) ∧ w = w' := by
  have HU := Lib.hid (isUpper_any c w)
  by_cases h0 : isUp c = true
  · have e : isLet c = true := by unfold isLet; rw [h0]; rfl
    rw [e]
    rw [h0] at HU
    clear e h0
    go_enter Try.func56, Try.ntmps56
    go_wp2_with fail
    refine HU.out.mono ?_
    rintro e w1 ⟨rfl, rfl⟩
    go_wp2_with fail
    go_ret
    exact ⟨rfl, rfl⟩
  · have h0f : isUp c = false := by simpa using h0
    have e0 : isLet c = isLow c := by unfold isLet; rw [h0f]; rfl
    rw [e0]
    rw [h0f] at HU
    clear e0 h0 h0f
    by_cases h1 : 97 ≤ c
    · have i1 : (97 : Int) ≤ (c : Int) := by omega
      by_cases h2 : c ≤ 122
      · have i2 : (c : Int) ≤ 122 := by omega
        have e : isLow c = true := by unfold isLow; exact decide_eq_true ⟨h1, h2⟩
        rw [e]
        clear e h1 h2
        go_enter Try.func56, Try.ntmps56
        go_wp2_with fail
        refine HU.out.mono ?_
        rintro e w1 ⟨rfl, rfl⟩
        go_wp2_with fail
        go_ret
        exact ⟨rfl, rfl⟩
      · have i2 : ¬ (c : Int) ≤ 122 := by omega
        have e : isLow c = false := by unfold isLow; exact decide_eq_false (fun h => h2 h.2)
        rw [e]
        clear e h1 h2
        go_enter Try.func56, Try.ntmps56
        go_wp2_with fail
        refine HU.out.mono ?_
        rintro e w1 ⟨rfl, rfl⟩
        go_wp2_with fail
        go_ret
        exact ⟨congrArg Ending.returned (congrArg Value.bool (decide_eq_false (by omega))), rfl⟩
    · have i1 : ¬ (97 : Int) ≤ (c : Int) := by omega
      have e : isLow c = false := by unfold isLow; exact decide_eq_false (fun h => h1 h.1)
      rw [e]
      clear e h1
      go_enter Try.func56, Try.ntmps56
      go_wp2_with fail
      refine HU.out.mono ?_
      rintro e w1 ⟨rfl, rfl⟩
      go_wp2_with fail
      go_ret
      exact ⟨rfl, rfl⟩
theorem sgn_all : ∀ c : Fin 256, decide ((0 : Int) ≤ Lib.indexByte [39, 43, 42, 47, 60, 62, 61, 33, 63, 95, 46, 45] (c.val).toUInt8) = isSgn c.val := by decide +kernel
theorem isSign_any (c : Nat) (hc : c < 256) (w : World) : Calls Try.prog 59 #[.int .u8 (c : Int)] w fun e w' => e = .returned (.bool (isSgn c)) ∧ w = w' := by
  have h := sgn_all ⟨c, hc⟩
  have HX := Lib.hid (strings_IndexByte ⟨#[39, 43, 42, 47, 60, 62, 61, 33, 63, 95, 46, 45]⟩ (c : Int) w)
  have hd : ((⟨#[39, 43, 42, 47, 60, 62, 61, 33, 63, 95, 46, 45]⟩ : ByteArray)).data.toList = [39, 43, 42, 47, 60, 62, 61, 33, 63, 95, 46, 45] := rfl
  have ht : (c : Int).toNat.toUInt8 = c.toUInt8 := rfl
  rw [hd, ht] at HX
  dsimp only at h
  generalize Lib.indexByte [39, 43, 42, 47, 60, 62, 61, 33, 63, 95, 46, 45] c.toUInt8 = n at *
  generalize isSgn c = b at *
  clear hd ht
  go_enter Try.func59, Try.ntmps59
  go_wp2_with fail
  refine HX.out.mono ?_
  rintro e w1 ⟨rfl, rfl⟩
  go_wp2_with fail
  go_ret
  exact ⟨rfl, rfl⟩
theorem endsWord_any (c : Nat) (hc : c < 256) (w : World) : Calls Try.prog 35 #[.int .u8 (c : Int)] w fun e w' => e = .returned (.bool (isEnd c)) ∧ w = w' := by
  have HB := Lib.hid (isBlank_any c hc w)
  have he : isEnd c = (isBl c || c == 40 || c == 41 || c == 34 || c == 59) := rfl
  by_cases h0 : isBl c = true
  · have e : isEnd c = true := by rw [he, h0]; rfl
    rw [e]
    rw [h0] at HB
    clear e h0 he
    go_enter Try.func35, Try.ntmps35
    go_wp2_with fail
    refine HB.out.mono ?_
    rintro e w1 ⟨rfl, rfl⟩
    go_wp2_with fail
    go_ret
    exact ⟨rfl, rfl⟩
  · have h0f : isBl c = false := by simpa using h0
    rw [h0f] at HB he
    clear h0
    by_cases h1 : c = 40 ∨ c = 41 ∨ c = 34 ∨ c = 59
    · rcases h1 with rfl | rfl | rfl | rfl
      all_goals
        go_enter Try.func35, Try.ntmps35
        go_wp2_with fail
        refine HB.out.mono ?_
        rintro e w1 ⟨rfl, rfl⟩
        go_wp2_with fail
        go_ret
        exact ⟨rfl, rfl⟩
    · have b1 : ((c : Int) == 40) = false := by
        have : ¬ (c : Int) = 40 := by omega
        simpa using this
      have b2 : ((c : Int) == 41) = false := by
        have : ¬ (c : Int) = 41 := by omega
        simpa using this
      have b3 : ((c : Int) == 34) = false := by
        have : ¬ (c : Int) = 34 := by omega
        simpa using this
      have b4 : ((c : Int) == 59) = false := by
        have : ¬ (c : Int) = 59 := by omega
        simpa using this
      have e : isEnd c = false := by
        rw [he]
        have n1 : (c == 40) = false := by simp; omega
        have n2 : (c == 41) = false := by simp; omega
        have n3 : (c == 34) = false := by simp; omega
        have n4 : (c == 59) = false := by simp; omega
        rw [n1, n2, n3, n4]
        rfl
      rw [e]
      clear e h1 h0f he
      go_enter Try.func35, Try.ntmps35
      go_wp2_with fail
      refine HB.out.mono ?_
      rintro e w1 ⟨rfl, rfl⟩
      go_wp2_with fail
      go_ret
      exact ⟨rfl, rfl⟩
end Go.Proofs.Ytghddknhoiaboaa
