/-
  Numbers as bytes, seven bits each (no program in sight).
-/
import Derived.Laws.BitsAllLaws
namespace Go.Proofs.YtkplkfhkablelaaDoor.Wr

/-- a number's bytes: at most k of them -/
def enc : Nat → Nat → List Nat
  | 0, _ => []
  | k + 1, u => if u < 128 then [u] else (u % 128 + 128) :: enc k (u / 128)

theorem enc_lt (k u : Nat) : ∀ c ∈ enc k u, c < 256 := by
  induction k generalizing u with
  | zero => intro c hc; cases hc
  | succ k ih =>
    intro c hc
    unfold enc at hc
    split at hc
    · simp only [List.mem_cons, List.mem_nil_iff, or_false] at hc; omega
    · rcases List.mem_cons.1 hc with rfl | hc
      · omega
      · exact ih _ c hc

/-- the number without a sign -/
def zig (n : Int) : Nat := if 0 ≤ n then (2 * n).toNat else (-2 * n - 1).toNat
theorem zig_lt (n : Int) (h : -9223372036854775808 ≤ n) (h2 : n ≤ 9223372036854775807) : zig n < 18446744073709551616 := by unfold zig; split <;> omega

def code (n : Int) : List Nat := enc 10 (zig n)

/-- sizes -/
theorem enc_len_succ (k u v : Nat) (h : u / 2 = v / 2) : (enc k u).length = (enc k v).length := by
  induction k generalizing u v with
  | zero => rfl
  | succ k ih =>
    unfold enc
    by_cases g : u < 128
    · rw [if_pos g, if_pos (by omega)]; rfl
    · rw [if_neg g, if_neg (by omega)]
      simp only [List.length_cons]
      rw [ih (u / 128) (v / 128) (by omega)]

theorem code_opp (n : Int) : (code (-1 - n)).length = (code n).length := by
  unfold code
  apply enc_len_succ
  unfold zig
  split <;> split <;> omega

end Go.Proofs.YtkplkfhkablelaaDoor.Wr
