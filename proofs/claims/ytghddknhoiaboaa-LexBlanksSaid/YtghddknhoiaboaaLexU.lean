/-
  lex: the document's hex digits.
-/
import Derived.Test.YtghddknhoiaboaaLexT
namespace Go.Proofs.Ytghddknhoiaboaa
open Go.ChangeShapes Go.WideShapes Go.ChangeAt Go.RowKit
set_option linter.unusedVariables false
set_option maxRecDepth 100000

def hexI (c : Nat) : Int := match hexV c with
  | some v => (v : Int)
  | none => -1
theorem hex_any (c : Nat) (hc : c < 256) (w : World) :
    Calls Try.prog 23 #[.int .u8 (c : Int)] w fun e w' => e = .returned (.int .i64 (hexI c)) ∧ w = w' := by
  have HD := Lib.hid (digitr_any c w)
  by_cases h1 : 48 ≤ c ∧ c ≤ 57
  · have e1 : isDg c = true := by unfold isDg; exact decide_eq_true h1
    have e2 : hexI c = (c : Int) - 48 := by
      unfold hexI hexV
      rw [if_pos h1]
      show ((c - 48 : Nat) : Int) = _
      omega
    rw [e1] at HD
    rw [e2]
    clear e1 e2
    obtain ⟨h2, h3⟩ := h1
    go_enter Try.func23, Try.ntmps23
    go_wp2_with fail
    refine HD.out.mono ?_
    rintro e w1 ⟨rfl, rfl⟩
    go_wp2_with fail
    go_ret
    refine ⟨?_, rfl⟩
    first | rfl | (congr 2; omega)
  · have e1 : isDg c = false := by unfold isDg; exact decide_eq_false h1
    rw [e1] at HD
    by_cases h2 : 97 ≤ c
    · have i2 : (97 : Int) ≤ (c : Int) := by omega
      by_cases h3 : c ≤ 102
      · have i3 : (c : Int) ≤ 102 := by omega
        have e2 : hexI c = (c : Int) - 97 + 10 := by
          unfold hexI hexV
          rw [if_neg h1, if_pos ⟨h2, h3⟩]
          show ((c - 87 : Nat) : Int) = _
          omega
        rw [e2]
        clear e1 e2 h1
        go_enter Try.func23, Try.ntmps23
        go_wp2_with fail
        refine HD.out.mono ?_
        rintro e w1 ⟨rfl, rfl⟩
        go_wp2_with fail
        go_ret
        refine ⟨?_, rfl⟩
        first | rfl | (congr 2; omega)
      · have i3 : ¬ (c : Int) ≤ 102 := by omega
        have e2 : hexI c = -1 := by
          unfold hexI hexV
          rw [if_neg h1, if_neg (fun h => h3 h.2)]
        rw [e2]
        clear e1 e2 h1
        go_enter Try.func23, Try.ntmps23
        go_wp2_with fail
        refine HD.out.mono ?_
        rintro e w1 ⟨rfl, rfl⟩
        go_wp2_with fail
        go_ret
        exact ⟨rfl, rfl⟩
    · have i2 : ¬ (97 : Int) ≤ (c : Int) := by omega
      have e2 : hexI c = -1 := by
        unfold hexI hexV
        rw [if_neg h1, if_neg (fun h => h2 h.1)]
      rw [e2]
      clear e1 e2 h1
      go_enter Try.func23, Try.ntmps23
      go_wp2_with fail
      refine HD.out.mono ?_
      rintro e w1 ⟨rfl, rfl⟩
      go_wp2_with fail
      go_ret
      exact ⟨rfl, rfl⟩
end Go.Proofs.Ytghddknhoiaboaa
