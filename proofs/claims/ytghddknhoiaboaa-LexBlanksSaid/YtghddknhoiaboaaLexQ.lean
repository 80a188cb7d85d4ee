/-
  lex: the document's kinds of bytes, a float's bytes.
-/
import Derived.Test.YtghddknhoiaboaaLexP
namespace Go.Proofs.Ytghddknhoiaboaa
open Go.ChangeShapes Go.WideShapes Go.ChangeAt Go.RowKit
set_option linter.unusedVariables false
set_option maxRecDepth 100000

theorem great_any (c : Nat) (w : World) : Calls Try.prog 27 #[.int .u8 (c : Int)] w fun e w' => e = .returned (.bool (isUp c)) ∧ w = w' := by
  by_cases h1 : 65 ≤ c
  · have i1 : (65 : Int) ≤ (c : Int) := by omega
    by_cases h2 : c ≤ 90
    · have i2 : (c : Int) ≤ 90 := by omega
      have e : isUp c = true := by unfold isUp; exact decide_eq_true ⟨h1, h2⟩
      rw [e]
      clear e h1 h2
      go_enter Try.func27, Try.ntmps27
      go_wp2_with fail
      go_ret
      exact ⟨rfl, rfl⟩
    · have i2 : ¬ (c : Int) ≤ 90 := by omega
      have e : isUp c = false := by unfold isUp; exact decide_eq_false (fun h => h2 h.2)
      rw [e]
      clear e h1 h2
      go_enter Try.func27, Try.ntmps27
      go_wp2_with fail
      go_ret
      exact ⟨rfl, rfl⟩
  · have i1 : ¬ (65 : Int) ≤ (c : Int) := by omega
    have e : isUp c = false := by unfold isUp; exact decide_eq_false (fun h => h1 h.1)
    rw [e]
    clear e h1
    go_enter Try.func27, Try.ntmps27
    go_wp2_with fail
    go_ret
    exact ⟨rfl, rfl⟩
theorem digitr_any (c : Nat) (w : World) : Calls Try.prog 29 #[.int .u8 (c : Int)] w fun e w' => e = .returned (.bool (isDg c)) ∧ w = w' := by
  by_cases h1 : 48 ≤ c
  · have i1 : (48 : Int) ≤ (c : Int) := by omega
    by_cases h2 : c ≤ 57
    · have i2 : (c : Int) ≤ 57 := by omega
      have e : isDg c = true := by unfold isDg; exact decide_eq_true ⟨h1, h2⟩
      rw [e]
      clear e h1 h2
      go_enter Try.func29, Try.ntmps29
      go_wp2_with fail
      go_ret
      exact ⟨rfl, rfl⟩
    · have i2 : ¬ (c : Int) ≤ 57 := by omega
      have e : isDg c = false := by unfold isDg; exact decide_eq_false (fun h => h2 h.2)
      rw [e]
      clear e h1 h2
      go_enter Try.func29, Try.ntmps29
      go_wp2_with fail
      go_ret
      exact ⟨rfl, rfl⟩
  · have i1 : ¬ (48 : Int) ≤ (c : Int) := by omega
    have e : isDg c = false := by unfold isDg; exact decide_eq_false (fun h => h1 h.1)
    rw [e]
    clear e h1
    go_enter Try.func29, Try.ntmps29
    go_wp2_with fail
    go_ret
    exact ⟨rfl, rfl⟩
theorem blank_any (c : Nat) (hc : c < 256) (w : World) : Calls Try.prog 21 #[.int .u8 (c : Int)] w fun e w' => e = .returned (.bool (isBl c)) ∧ w = w' := by
  have hb : isBl c = (decide (c = 32) || decide (c = 9) || decide (c = 10)) := rfl
  by_cases h1 : c = 32
  · subst h1
    go_enter Try.func21, Try.ntmps21
    go_wp2_with fail
    go_ret
    exact ⟨rfl, rfl⟩
  · by_cases h2 : c = 9
    · subst h2
      go_enter Try.func21, Try.ntmps21
      go_wp2_with fail
      go_ret
      exact ⟨rfl, rfl⟩
    · by_cases h3 : c = 10
      · subst h3
        go_enter Try.func21, Try.ntmps21
        go_wp2_with fail
        go_ret
        exact ⟨rfl, rfl⟩
      · have e : isBl c = false := by rw [hb]; simp [h1, h2, h3]
        rw [e]
        have b1 : ((c : Int) == 32) = false := by have : ¬ (c : Int) = 32 := by omega
                                                  simpa using this
        have b2 : ((c : Int) == 9) = false := by have : ¬ (c : Int) = 9 := by omega
                                                 simpa using this
        have b3 : ((c : Int) == 10) = false := by have : ¬ (c : Int) = 10 := by omega
                                                  simpa using this
        clear e hb h1 h2 h3
        go_enter Try.func21, Try.ntmps21
        go_wp2_with fail
        go_ret
        exact ⟨rfl, rfl⟩
theorem ends_any (c : Nat) (hc : c < 256) (w : World) : Calls Try.prog 22 #[.int .u8 (c : Int)] w fun e w' => e = .returned (.bool (isEnd c)) ∧ w = w' := by
  have HB := Lib.hid (blank_any c hc w)
  have he : isEnd c = (isBl c || c == 40 || c == 41 || c == 34 || c == 59) := rfl
  by_cases h0 : isBl c = true
  · have e : isEnd c = true := by rw [he, h0]; rfl
    rw [e]
    rw [h0] at HB
    clear e h0 he
    go_enter Try.func22, Try.ntmps22
    go_wp2_with fail
    refine HB.out.mono ?_
    rintro e w1 ⟨rfl, rfl⟩
    go_wp2_with fail
    go_ret
    exact ⟨rfl, rfl⟩
  · have h0f : isBl c = false := by simpa using h0
    rw [h0f] at HB he
    clear h0
    by_cases h1 : c = 40 ∨ c = 41 ∨ c = 34 ∨ c = 59
    · rcases h1 with rfl | rfl | rfl | rfl
      all_goals
        go_enter Try.func22, Try.ntmps22
        go_wp2_with fail
        refine HB.out.mono ?_
        rintro e w1 ⟨rfl, rfl⟩
        go_wp2_with fail
        go_ret
        exact ⟨rfl, rfl⟩
    · have b1 : ((c : Int) == 40) = false := by
        have : ¬ (c : Int) = 40 := by omega
        simpa using this
      have b2 : ((c : Int) == 41) = false := by
        have : ¬ (c : Int) = 41 := by omega
        simpa using this
      have b3 : ((c : Int) == 34) = false := by
        have : ¬ (c : Int) = 34 := by omega
        simpa using this
      have b4 : ((c : Int) == 59) = false := by
        have : ¬ (c : Int) = 59 := by omega
        simpa using this
      have e : isEnd c = false := by
        rw [he]
        have n1 : (c == 40) = false := by simp; omega
        have n2 : (c == 41) = false := by simp; omega
        have n3 : (c == 34) = false := by simp; omega
        have n4 : (c == 59) = false := by simp; omega
        rw [n1, n2, n3, n4]
        rfl
      rw [e]
      clear e h1 h0f he
      go_enter Try.func22, Try.ntmps22
      go_wp2_with fail
      refine HB.out.mono ?_
      rintro e w1 ⟨rfl, rfl⟩
      go_wp2_with fail
      go_ret
      exact ⟨rfl, rfl⟩
end Go.Proofs.Ytghddknhoiaboaa
