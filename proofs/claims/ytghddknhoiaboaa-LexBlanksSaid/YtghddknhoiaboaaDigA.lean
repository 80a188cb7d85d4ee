/-
  The law NumDigits: digits as numbers.
-/
import Derived.Test.YtghddknhoiaboaaRows
import Derived.WalkKit
import Derived.ProofKit
import Derived.Lib.ItoaNum
namespace Go.Proofs.Ytghddknhoiaboaa
set_option maxRecDepth 100000
set_option linter.unusedVariables false

def bytesOf (s : ByteArray) : List Nat := s.data.toList.map fun c => c.toNat
theorem bytesOf_length (s : ByteArray) : (bytesOf s).length = s.size := by
  unfold bytesOf
  rw [List.length_map]
  rfl
theorem bytesOf_lt (s : ByteArray) : ∀ c ∈ bytesOf s, c < 256 := by
  intro c hc
  obtain ⟨x, _, rfl⟩ := List.mem_map.1 hc
  exact x.toNat_lt
def isD (c : Nat) : Bool := decide (48 ≤ c ∧ c ≤ 57)
def val (l : List Nat) : Nat := l.foldl (fun a c => 10 * a + (c - 48)) 0
theorem val_nil : val [] = 0 := rfl
theorem val_snoc (l : List Nat) (c : Nat) : val (l ++ [c]) = 10 * val l + (c - 48) := by
  unfold val
  rw [List.foldl_append]
  rfl
theorem val_step (l : List Nat) (k : Nat) (h : k < l.length) : val (l.take (k + 1)) = 10 * val (l.take k) + (l.getD k 0 - 48) := by
  rw [List.take_add_one, List.getElem?_eq_getElem h, Option.toList_some, val_snoc, List.getD_eq_getElem?_getD, List.getElem?_eq_getElem h]
  rfl
theorem val_le_append (l m : List Nat) : val l ≤ val (l ++ m) := by
  induction m generalizing l with
  | nil => rw [List.append_nil]; exact Nat.le_refl _
  | cons c m ih =>
    have h := ih (l ++ [c])
    rw [List.append_assoc, val_snoc] at h
    exact Nat.le_trans (by omega) h
theorem val_take_le (l : List Nat) (k : Nat) : val (l.take k) ≤ val l := by
  have h := val_le_append (l.take k) (l.drop k)
  rw [List.take_append_drop] at h
  exact h
theorem val_take_mono (l : List Nat) (k : Nat) (h : k < l.length) : 10 * val (l.take k) + (l.getD k 0 - 48) ≤ val l := by
  rw [← val_step l k h]
  exact val_take_le l (k + 1)

/-- the answer of Read: a number, an error -/
def readD (neg : Bool) (d : List Nat) : Int × Int :=
  if d = [] ∨ d.all isD = false then (0, 2)
  else if (if neg = true then 4611686018427387904 else 4611686018427387903) < val d then (0, 4)
  else (if neg = true then -(val d : Int) else (val d : Int), 0)
def readS (l : List Nat) : Int × Int := if l.head? = some 45 then readD true (l.drop 1) else readD false l

def nat (l : List UInt8) : List Nat := l.map fun c => c.toNat
theorem dig_nat (u : Nat) (h : u < 10) : (UInt8.ofNat (48 + u)).toNat = 48 + u := by
  rw [UInt8.toNat_ofNat']
  omega
theorem dec_all (u : Nat) : (nat (Lib.decDigits u)).all isD = true ∧ nat (Lib.decDigits u) ≠ [] ∧ val (nat (Lib.decDigits u)) = u := by
  induction u using Nat.strongRecOn with
  | ind u ih =>
    rw [Lib.decDigits]
    by_cases h : u < 10
    · rw [dif_pos h]
      have e := dig_nat u h
      refine ⟨?_, ?_, ?_⟩
      · simp only [nat, List.map_cons, List.map_nil, List.all_cons, List.all_nil, e]
        unfold isD
        simp
        omega
      · simp [nat]
      · simp only [nat, List.map_cons, List.map_nil, e]
        show 10 * 0 + (48 + u - 48) = u
        omega
    · rw [dif_neg h]
      obtain ⟨h1, h2, h3⟩ := ih (u / 10) (by omega)
      have e := dig_nat (u % 10) (Nat.mod_lt _ (by decide))
      have es : nat (Lib.decDigits (u / 10) ++ [UInt8.ofNat (48 + u % 10)]) = nat (Lib.decDigits (u / 10)) ++ [48 + u % 10] := by
        simp only [nat, List.map_append, List.map_cons, List.map_nil, e]
      rw [es]
      refine ⟨?_, ?_, ?_⟩
      · rw [List.all_append, h1]
        simp [isD]
        omega
      · simp
      · rw [val_snoc, h3]
        omega
theorem read_itoa (n : Int) (h1 : -4611686018427387904 ≤ n) (h2 : n ≤ 4611686018427387903) : readS (nat (Lib.itoa n)) = (n, 0) := by
  unfold Lib.itoa
  by_cases h : n < 0
  · rw [if_pos h]
    obtain ⟨d1, d2, d3⟩ := dec_all n.natAbs
    have e : nat (45 :: Lib.decDigits n.natAbs) = 45 :: nat (Lib.decDigits n.natAbs) := rfl
    rw [e]
    unfold readS
    rw [if_pos (by rfl)]
    show readD true (nat (Lib.decDigits n.natAbs)) = _
    unfold readD
    rw [if_neg (by rw [d1]; intro hh; rcases hh with hh | hh; exact d2 hh; cases hh), d3, if_pos rfl, if_neg (by omega)]
    have : -((n.natAbs : Nat) : Int) = n := by omega
    simp only [if_true, this]
  · rw [if_neg h]
    obtain ⟨d1, d2, d3⟩ := dec_all n.toNat
    have hne : ¬ (nat (Lib.decDigits n.toNat)).head? = some 45 := by
      intro hh
      cases hl : nat (Lib.decDigits n.toNat) with
      | nil => exact d2 hl
      | cons c l =>
        rw [hl] at hh d1
        simp only [List.head?_cons, Option.some.injEq] at hh
        subst hh
        simp [isD] at d1
    unfold readS
    rw [if_neg hne]
    unfold readD
    rw [if_neg (by rw [d1]; intro hh; rcases hh with hh | hh; exact d2 hh; cases hh), d3]
    have : ((n.toNat : Nat) : Int) = n := by omega
    have hb : ¬ 4611686018427387903 < n.toNat := by omega
    simp [this, hb]

/-- what the other's loop holds: the digits that are still to come, and those that are there -/
def Rest (U u : Nat) (s : List UInt8) : Prop := (u = 0 ∧ s ≠ [] ∧ s = Lib.decDigits U) ∨ ((0 < u ∨ s = []) ∧ Lib.decDigits u ++ s = Lib.decDigits U)
theorem rest_start (U : Nat) : Rest U U [] := .inr ⟨.inr rfl, List.append_nil _⟩
theorem rest_step {U u : Nat} {s : List UInt8} (h : Rest U u s) (hg : 0 < u ∨ s = []) : Rest U (u / 10) (UInt8.ofNat (48 + u % 10) :: s) := by
  have h2 : Lib.decDigits u ++ s = Lib.decDigits U := by
    rcases h with ⟨h1, h2, _⟩ | ⟨_, h⟩
    · rcases hg with g | g
      · omega
      · exact absurd g h2
    · exact h
  rw [Lib.decDigits] at h2
  by_cases h3 : u < 10
  · rw [dif_pos h3] at h2
    refine .inl ⟨by omega, by simp, ?_⟩
    rw [Nat.mod_eq_of_lt h3]
    exact h2
  · rw [dif_neg h3] at h2
    refine .inr ⟨.inl (by omega), ?_⟩
    rw [← h2]
    simp
theorem rest_end {U u : Nat} {s : List UInt8} (h : Rest U u s) (hg : ¬ (0 < u ∨ s = [])) : s = Lib.decDigits U := by
  rcases h with ⟨_, _, h⟩ | ⟨h, _⟩
  · exact h
  · exact absurd h hg
end Go.Proofs.Ytghddknhoiaboaa
