/-
  Reading a number: the contract of wire.number (no world turned).
-/
import Derived.Test.YtkplkfhkablelaaDoorWireD
namespace Go.Proofs.YtkplkfhkablelaaDoor.Wr
open Go.ChangeShapes Go.WideShapes Go.ChangeAt Go.RowKit
set_option linter.unusedVariables false

/-- what is read: the number without a sign, how many bytes it has, the error -/
def dec : Nat → Nat → List Nat → Nat × Nat × Nat
  | _, _, [] => (0, 0, 3)
  | k, u, c :: r => if k = 9 ∧ 1 < c then (0, 0, 2) else if 128 ≤ c then dec (k + 1) (u + c % 128 * 2 ^ (7 * k)) r else if c = 0 ∧ 0 < k then (0, 0, 2) else (u + c * 2 ^ (7 * k), k + 1, 0)

def unz (u : Nat) : Int := if u % 2 = 0 then ((u / 2 : Nat) : Int) else -((u / 2 : Nat) : Int) - 1

theorem unz_zig (n : Int) : unz (zig n) = n := by
  unfold unz zig
  split <;> split <;> omega
theorem zig_unz (u : Nat) : zig (unz u) = u := by
  unfold unz zig
  split <;> split <;> omega

/-- read again what is written -/
theorem dec_enc (j k u v : Nat) (rest : List Nat) (hj : k + j = 10) (hv : v < 2 ^ (64 - 7 * k)) (h0 : k = 0 ∨ v ≠ 0) : dec k u (enc j v ++ rest) = (u + v * 2 ^ (7 * k), k + (enc j v).length, 0) := by
  induction j generalizing k u v with
  | zero =>
    have : k = 10 := by omega
    subst this
    rcases h0 with h | h
    · omega
    · simp at hv; omega
  | succ j ih =>
    unfold enc
    by_cases g : v < 128
    · rw [if_pos g]
      simp only [List.cons_append, List.nil_append, dec, List.length_cons, List.length_nil]
      have h9 : ¬ (k = 9 ∧ 1 < v) := by
        rintro ⟨rfl, h⟩
        omega
      rw [if_neg h9, if_neg (by omega), if_neg (by omega)]
    · rw [if_neg g]
      simp only [List.cons_append, dec, List.length_cons]
      have hk8 : k ≤ 8 := by
        rcases Nat.lt_or_ge k 9 with h | h
        · omega
        · have : k = 9 := by omega
          subst this
          simp at hv
          omega
      have hv2 : v / 128 < 2 ^ (64 - 7 * (k + 1)) := by
        rw [show 64 - 7 * k = (64 - 7 * (k + 1)) + 7 by omega, Nat.pow_add] at hv
        exact Nat.div_lt_of_lt_mul (by rw [Nat.mul_comm]; exact hv)
      rw [if_neg (by omega), if_pos (by omega), ih (k + 1) _ (v / 128) (by omega) hv2 (by omega)]
      have e1 : (v % 128 + 128) % 128 = v % 128 := by omega
      have e2 : 2 ^ (7 * (k + 1)) = 2 ^ (7 * k) * 128 := by rw [show 7 * (k + 1) = 7 * k + 7 by omega, Nat.pow_add]
      rw [e1, e2]
      refine Prod.ext ?_ (Prod.ext ?_ rfl)
      · show u + v % 128 * 2 ^ (7 * k) + v / 128 * (2 ^ (7 * k) * 128) = u + v * 2 ^ (7 * k)
        have e3 : v * 2 ^ (7 * k) = v % 128 * 2 ^ (7 * k) + v / 128 * (2 ^ (7 * k) * 128) := by
          conv => lhs; rw [← Nat.mod_add_div v 128, Nat.add_mul]
          rw [Nat.mul_comm 128 (v / 128), Nat.mul_assoc, Nat.mul_comm 128]
        omega
      · show k + 1 + (enc j (v / 128)).length = k + ((enc j (v / 128)).length + 1)
        omega

/-- what is read as a number is written so, and no other way -/
theorem enc_dec (j k u : Nat) (l : List Nat) (U s : Nat) (hj : k + j = 10) (hk : k ≤ 9) (hl : ∀ c ∈ l, c < 256) (h : dec k u l = (U, s, 0)) :
    ∃ v, U = u + v * 2 ^ (7 * k) ∧ v < 2 ^ (64 - 7 * k) ∧ (k = 0 ∨ v ≠ 0) ∧ k < s ∧ s ≤ k + l.length ∧ enc j v = l.take (s - k) := by
  induction l generalizing j k u with
  | nil => simp [dec] at h
  | cons c r ih =>
    unfold dec at h
    have hc := hl c (List.mem_cons_self ..)
    by_cases h9 : k = 9 ∧ 1 < c
    · rw [if_pos h9] at h; simp at h
    rw [if_neg h9] at h
    obtain ⟨j', rfl⟩ : ∃ j', j = j' + 1 := ⟨j - 1, by omega⟩
    by_cases g : 128 ≤ c
    · rw [if_pos g] at h
      have hk8 : k ≤ 8 := by omega
      obtain ⟨v, e1, hv, h0, hs, hs2, he⟩ := ih j' (k + 1) _ (by omega) (by omega) (fun c hc => hl c (List.mem_cons_of_mem _ hc)) h
      have hv' : v ≠ 0 := by omega
      have e2 : 2 ^ (7 * (k + 1)) = 2 ^ (7 * k) * 128 := by rw [show 7 * (k + 1) = 7 * k + 7 by omega, Nat.pow_add]
      have hd : (c % 128 + 128 * v) / 128 = v := by omega
      have hm : (c % 128 + 128 * v) % 128 + 128 = c := by omega
      refine ⟨c % 128 + 128 * v, ?_, ?_, by omega, by omega, by simp only [List.length_cons]; omega, ?_⟩
      · rw [e1, e2, Nat.add_mul, Nat.add_assoc]
        congr 2
        rw [Nat.mul_comm 128 v, Nat.mul_assoc, Nat.mul_comm 128]
      · rw [show 64 - 7 * k = (64 - 7 * (k + 1)) + 7 by omega, Nat.pow_add]
        omega
      · unfold enc
        rw [if_neg (by omega), hd, hm, he]
        rw [show s - k = (s - (k + 1)) + 1 by omega]
        rfl
    · rw [if_neg g] at h
      by_cases hz : c = 0 ∧ 0 < k
      · rw [if_pos hz] at h; simp at h
      rw [if_neg hz] at h
      simp only [Prod.mk.injEq] at h
      obtain ⟨e1, e2, _⟩ := h
      refine ⟨c, e1.symm, ?_, by omega, by omega, by simp only [List.length_cons]; omega, ?_⟩
      · rcases Nat.lt_or_ge k 9 with hk | hk
        · have : 2 ^ 7 ≤ 2 ^ (64 - 7 * k) := Nat.pow_le_pow_right (by decide) (by omega)
          omega
        · have : k = 9 := by omega
          subst this
          simp
          omega
      · unfold enc
        rw [if_pos (by omega), ← e2, show k + 1 - k = 0 + 1 by omega]
        rfl

end Go.Proofs.YtkplkfhkablelaaDoor.Wr
