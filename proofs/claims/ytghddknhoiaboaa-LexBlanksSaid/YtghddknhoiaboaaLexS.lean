/-
  lex: the document's signs.
-/
import Derived.Test.YtghddknhoiaboaaLexR
namespace Go.Proofs.Ytghddknhoiaboaa
open Go.ChangeShapes Go.WideShapes Go.ChangeAt Go.RowKit
set_option linter.unusedVariables false
set_option maxRecDepth 100000

def sgnL : List Nat := [39, 43, 42, 47, 60, 62, 61, 33, 63, 95, 46, 45]
def signR (c : Nat) : Bool := isSgn c || isLow c
theorem sgn_hit (c j : Nat) (hj : j < 12) (h : sgnL.getD j 0 = c) : isSgn c = true := by
  subst h
  have : ∀ j : Fin 12, isSgn (sgnL.getD j.val 0) = true := by decide
  exact this ⟨j, hj⟩
theorem sgn_miss (c : Nat) (h : ∀ j, j < 12 → ¬ sgnL.getD j 0 = c) : isSgn c = false := by
  cases hs : isSgn c with
  | false => rfl
  | true =>
    exfalso
    unfold isSgn at hs
    rw [List.contains_iff_mem] at hs
    obtain ⟨j, hj, e⟩ := List.mem_iff_getElem.1 hs
    have hj' : j < 12 := hj
    refine h j hj' ?_
    unfold sgnL
    rw [List.getD_eq_getElem?_getD, List.getElem?_eq_getElem hj]
    exact e
set_option maxHeartbeats 2000000 in
theorem sign_any (c : Nat) (w : World) :
    Calls Try.prog 28 #[.int .u8 (c : Int)] w fun e w' => e = .returned (.bool (signR c)) ∧ w = w' := by
  have hsz : (⟨#[39, 43, 42, 47, 60, 62, 61, 33, 63, 95, 46, 45]⟩ : ByteArray).size = 12 := rfl
  go_enter Try.func28, Try.ntmps28
  go_wp2_with fail
  go_loop [4] (fun v => ∃ k : Nat, k ≤ 12 ∧ v = .int .i64 k ∧ Hid (∀ j, j < k → ¬ sgnL.getD j 0 = c)) (fun v => 12 - (intOf v).toNat)
  case atStart => exact ⟨0, by omega, rfl, Lib.hid (fun j hj => by omega)⟩
  case round =>
    obtain ⟨k, hk, rfl, HI⟩ := hrel
    by_cases hlt : k < 12
    · have hix := idx_str ⟨#[39, 43, 42, 47, 60, 62, 61, 33, 63, 95, 46, 45]⟩ k hlt (by rw [hsz]; decide)
      have hd0 : (bytesOf ⟨#[39, 43, 42, 47, 60, 62, 61, 33, 63, 95, 46, 45]⟩).getD k 0 = sgnL.getD k 0 := rfl
      rw [hd0] at hix
      have HH := Lib.hid (sgn_hit c k hlt)
      have HN : Hid (¬ sgnL.getD k 0 = c → ∀ j, j < k + 1 → ¬ sgnL.getD j 0 = c) := Lib.hid (fun h j hj => by
        by_cases g : j = k
        · subst g; exact h
        · exact HI.out j (by omega))
      clear hd0
      generalize sgnL.getD k 0 = d at *
      by_cases hdc : d = c
      · have hb : ((d : Int) == (c : Int)) = true := by rw [hdc]; exact beq_self_eq_true _
        have HF := Lib.hid (HH.out hdc)
        clear HH HN hdc
        go_wp2_with fail
        go_ret
        exact ⟨ret_bool (by unfold signR; rw [HF.out]; rfl), rfl⟩
      · have hb : ((d : Int) == (c : Int)) = false := by
          have : ¬ (d : Int) = (c : Int) := by omega
          simpa using this
        have HF := Lib.hid (HN.out hdc)
        clear HH HN hdc
        go_wp2_with fail
        go_round
        case rel => exact ⟨k + 1, by omega, by go_num, HF⟩
        case measure => simp [intOf]; omega
    · obtain rfl : k = 12 := by omega
      have HM := Lib.hid (sgn_miss c HI.out)
      have e0 : signR c = isLow c := by unfold signR; rw [HM.out]; rfl
      have HE0 := Lib.hid e0
      clear e0 HM HI hk hlt
      by_cases h1 : 97 ≤ c
      · have i1 : (97 : Int) ≤ (c : Int) := by omega
        by_cases h2 : c ≤ 122
        · have i2 : (c : Int) ≤ 122 := by omega
          have e : isLow c = true := by unfold isLow; exact decide_eq_true ⟨h1, h2⟩
          have HE : Hid (signR c = _) := Lib.hid (HE0.out.trans e)
          clear e h1 h2
          go_wp2_with fail
          go_ret
          exact ⟨ret_bool (by rw [HE.out]), rfl⟩
        · have i2 : ¬ (c : Int) ≤ 122 := by omega
          have e : isLow c = false := by unfold isLow; exact decide_eq_false (fun h => h2 h.2)
          have HE : Hid (signR c = _) := Lib.hid (HE0.out.trans e)
          clear e h1 h2
          go_wp2_with fail
          go_ret
          exact ⟨ret_bool (by rw [HE.out]), rfl⟩
      · have i1 : ¬ (97 : Int) ≤ (c : Int) := by omega
        have e : isLow c = false := by unfold isLow; exact decide_eq_false (fun h => h1 h.1)
        have HE : Hid (signR c = _) := Lib.hid (HE0.out.trans e)
        clear e h1
        go_wp2_with fail
        go_ret
        exact ⟨ret_bool (by rw [HE.out]), rfl⟩
end Go.Proofs.Ytghddknhoiaboaa
