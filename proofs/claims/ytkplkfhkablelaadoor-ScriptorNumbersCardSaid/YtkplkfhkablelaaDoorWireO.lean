/-
  What is written is read; a beginning of it ends too soon (no program in sight).
-/
import Derived.Test.YtkplkfhkablelaaDoorWireN
namespace Go.Proofs.YtkplkfhkablelaaDoor.Wr
set_option maxRecDepth 100000
open Go.ChangeShapes Go.WideShapes Go.ChangeAt Go.RowKit
set_option linter.unusedVariables false

theorem dec_code (n : Int) (h1 : -9223372036854775808 ≤ n) (h2 : n ≤ 9223372036854775807) (R : List Nat) : dec 0 0 (code n ++ R) = (zig n, (code n).length, 0) := by
  have hz := zig_lt n h1 h2
  have h := dec_enc 10 0 0 (zig n) R rfl (by omega) (.inl rfl)
  unfold code
  rw [h]
  refine Prod.ext ?_ (Prod.ext ?_ rfl)
  · show 0 + zig n * 2 ^ (7 * 0) = zig n
    omega
  · exact Nat.zero_add _
theorem readNum_code (least most n : Int) (h1 : -9223372036854775808 ≤ n) (h2 : n ≤ 9223372036854775807) (g1 : least ≤ n) (g2 : n ≤ most) (R : List Nat) : readNum least most (code n ++ R) 0 = (n, R, 0) := by
  unfold readNum
  rw [dec_code n h1 h2 R, if_neg (by decide), if_neg (fun h => h rfl), unz_zig, if_neg (by omega), List.drop_left]

/-- a beginning of a number's bytes -/
theorem dec_begin (j k u v t : Nat) (hj : k + j = 10) (hv : v < 2 ^ (64 - 7 * k)) (ht : t < (enc j v).length) : dec k u ((enc j v).take t) = (0, 0, 3) := by
  induction j generalizing k u v t with
  | zero => simp [enc] at ht
  | succ j ih =>
    cases t with
    | zero => rfl
    | succ t =>
      unfold enc at ht ⊢
      by_cases g : v < 128
      · rw [if_pos g] at ht
        simp at ht
      · rw [if_neg g] at ht ⊢
        simp only [List.length_cons] at ht
        simp only [List.take_succ_cons]
        have hk8 : k ≤ 8 := by
          rcases Nat.lt_or_ge k 9 with h | h
          · omega
          · have : k = 9 ∨ k = 10 := by omega
            rcases this with rfl | rfl
            · simp at hv; omega
            · simp at hv; omega
        have hv2 : v / 128 < 2 ^ (64 - 7 * (k + 1)) := by
          rw [show 64 - 7 * k = (64 - 7 * (k + 1)) + 7 by omega, Nat.pow_add] at hv
          exact Nat.div_lt_of_lt_mul (by rw [Nat.mul_comm]; exact hv)
        rw [dec_more k u _ _ (by omega) (by omega)]
        exact ih (k + 1) _ (v / 128) t (by omega) hv2 (by omega)
theorem readNum_begin (least most n : Int) (h1 : -9223372036854775808 ≤ n) (h2 : n ≤ 9223372036854775807) (t : Nat) (ht : t < (code n).length) : readNum least most ((code n).take t) 0 = (0, (code n).take t, 3) := by
  have h := dec_begin 10 0 0 (zig n) t rfl (zig_lt n h1 h2) ht
  unfold readNum code
  rw [h, if_neg (by decide), if_pos (by decide)]
  rfl
theorem readNum_done (least most : Int) (l : List Nat) : readNum least most l 3 = (0, l, 3) := by
  unfold readNum
  rw [if_pos (by decide)]
theorem readStr_done (most : Int) (l : List Nat) : readStr most l 3 = ([], l, 3) := by
  unfold readStr
  rw [readNum_done, if_pos (show (3 : Int) ≠ 0 by decide)]
theorem endE_done (l : List Nat) : endE l 3 = 3 := by
  unfold endE failE
  split <;> rfl

/-- a text's bytes -/
def text (t : List Nat) : List Nat := code (t.length : Int) ++ t
theorem readStr_text (most : Int) (t R : List Nat) (ht : t.length < 70368744177664) (hm : (t.length : Int) ≤ most) : readStr most (text t ++ R) 0 = (t, R, 0) := by
  unfold readStr text
  rw [List.append_assoc, readNum_code 0 most t.length (by omega) (by omega) (by omega) hm]
  rw [if_neg (fun h => h rfl), if_neg (by simp only [List.length_append]; omega)]
  refine Prod.ext ?_ (Prod.ext ?_ rfl)
  · show (t ++ R).take (Int.toNat (t.length : Int)) = t
    rw [Int.toNat_natCast, List.take_left]
  · show (t ++ R).drop (Int.toNat (t.length : Int)) = R
    rw [Int.toNat_natCast, List.drop_left]
theorem readStr_begin (most : Int) (t : List Nat) (k : Nat) (ht : t.length < 70368744177664) (hm : (t.length : Int) ≤ most) (hk : k < (text t).length) : (readStr most ((text t).take k) 0).2.2 = 3 := by
  unfold readStr
  by_cases g : k < (code (t.length : Int)).length
  · have e : (text t).take k = (code (t.length : Int)).take k := by
      unfold text
      rw [List.take_append_of_le_length (by omega)]
    rw [e, readNum_begin 0 most t.length (by omega) (by omega) k g, if_pos (show (3 : Int) ≠ 0 by decide)]
  · have e : (text t).take k = code (t.length : Int) ++ t.take (k - (code (t.length : Int)).length) := by
      unfold text
      rw [List.take_append, List.take_of_length_le (by omega)]
    have hl : (t.take (k - (code (t.length : Int)).length)).length < t.length := by
      rw [List.length_take]
      unfold text at hk
      rw [List.length_append] at hk
      omega
    rw [e, readNum_code 0 most t.length (by omega) (by omega) (by omega) hm, if_neg (fun h => h rfl), if_pos (by dsimp only; omega)]

/-- what is left while a beginning is read: a beginning of what stands there still, or the error -/
def Cut (R l : List Nat) (e : Int) : Prop := e = 3 ∨ (e = 0 ∧ ∃ k, k < R.length ∧ l = R.take k)
theorem Cut.num {n : Int} {R l : List Nat} {e : Int} (least most : Int) (h1 : -9223372036854775808 ≤ n) (h2 : n ≤ 9223372036854775807) (g1 : least ≤ n) (g2 : n ≤ most) (h : Cut (code n ++ R) l e) :
    Cut R (readNum least most l e).2.1 (readNum least most l e).2.2 := by
  rcases h with rfl | ⟨rfl, k, hk, rfl⟩
  · rw [readNum_done]
    exact .inl rfl
  · by_cases g : k < (code n).length
    · rw [List.take_append_of_le_length (by omega), readNum_begin least most n h1 h2 k g]
      exact .inl rfl
    · rw [List.take_append, List.take_of_length_le (by omega), readNum_code least most n h1 h2 g1 g2]
      refine .inr ⟨rfl, k - (code n).length, ?_, rfl⟩
      rw [List.length_append] at hk
      omega
theorem Cut.text {t R l : List Nat} {e : Int} (most : Int) (ht : t.length < 70368744177664) (hm : (t.length : Int) ≤ most) (h : Cut (text t ++ R) l e) :
    Cut R (readStr most l e).2.1 (readStr most l e).2.2 := by
  rcases h with rfl | ⟨rfl, k, hk, rfl⟩
  · rw [readStr_done]
    exact .inl rfl
  · by_cases g : k < (Go.Proofs.YtkplkfhkablelaaDoor.Wr.text t).length
    · rw [List.take_append_of_le_length (by omega)]
      exact .inl (readStr_begin most t k ht hm g)
    · rw [List.take_append, List.take_of_length_le (by omega), readStr_text most t _ ht hm]
      refine .inr ⟨rfl, k - (Go.Proofs.YtkplkfhkablelaaDoor.Wr.text t).length, ?_, rfl⟩
      rw [List.length_append] at hk
      omega
theorem Cut.done {l : List Nat} {e : Int} (h : Cut [] l e) : endE l e = 3 := by
  rcases h with rfl | ⟨_, k, hk, _⟩
  · exact endE_done l
  · simp at hk

end Go.Proofs.YtkplkfhkablelaaDoor.Wr
