/-
  lex: a string that says its bytes by their digits.
-/
import Derived.Test.YtghddknhoiaboaaLnB
namespace Go.Proofs.Ytghddknhoiaboaa
open Go.ChangeShapes Go.WideShapes Go.ChangeAt Go.RowKit
set_option linter.unusedVariables false
set_option maxRecDepth 100000

def hexD (n : Nat) : Nat := if n < 10 then 48 + n else 87 + n
def hexB : List Nat → List Nat
  | [] => []
  | c :: t => 92 :: 120 :: hexD (c / 16) :: hexD (c % 16) :: hexB t
theorem hexB_length : ∀ l, (hexB l).length = 4 * l.length
  | [] => rfl
  | c :: t => by
    show (hexB t).length + 1 + 1 + 1 + 1 = _
    rw [hexB_length t, List.length_cons]
    omega
theorem hexB_append : ∀ l m, hexB (l ++ m) = hexB l ++ hexB m
  | [], m => rfl
  | c :: t, m => by
    show 92 :: 120 :: hexD (c / 16) :: hexD (c % 16) :: hexB (t ++ m) = _
    rw [hexB_append t m]
    rfl
theorem hexD_at (n : Nat) (h : n < 16) : hexV (hexD n) = some n := by
  unfold hexD hexV
  by_cases h10 : n < 10
  · rw [if_pos h10, if_pos (by omega)]
    congr 1
    omega
  · rw [if_neg h10, if_neg (by omega), if_pos (by omega)]
    congr 1
    omega
theorem hexD_lt (n : Nat) (h : n < 16) : hexD n < 256 ∧ 32 < hexD n := by
  unfold hexD
  split <;> omega
theorem hexB_in : ∀ (l : List Nat), (∀ c ∈ l, c < 256) → ∀ c ∈ hexB l, c < 256 ∧ 32 < c
  | [], _, c, h => (List.not_mem_nil h).elim
  | x :: t, hx, c, h => by
    have h1 := hx x (List.mem_cons_self ..)
    rcases List.mem_cons.1 h with rfl | h
    · omega
    · rcases List.mem_cons.1 h with rfl | h
      · omega
      · rcases List.mem_cons.1 h with rfl | h
        · exact hexD_lt _ (by omega)
        · rcases List.mem_cons.1 h with rfl | h
          · exact hexD_lt _ (by omega)
          · exact hexB_in t (fun y hy => hx y (List.mem_cons_of_mem _ hy)) c h
theorem char_hex (c : Nat) (hc : c < 256) (r : List Nat) : charS (92 :: 120 :: hexD (c / 16) :: hexD (c % 16) :: r) = .ok c 4 := by
  show xS (hexD (c / 16) :: hexD (c % 16) :: r) = _
  show (match hexV (hexD (c / 16)), hexV (hexD (c % 16)) with | some x, some y => CR.ok (x * 16 + y) 4 | _, _ => CR.bad 1) = _
  rw [hexD_at _ (by omega), hexD_at _ (by omega)]
  show CR.ok (c / 16 * 16 + c % 16) 4 = _
  congr 1
  omega
theorem hexB_256 (l r : List Nat) (hl : ∀ c ∈ l, c < 256) (hr : ∀ c ∈ r, c < 256) : ∀ c ∈ hexB l ++ r, c < 256 := fun c hc => by
  rcases List.mem_append.1 hc with hc | hc
  · exact (hexB_in l hl c hc).1
  · exact hr c hc
theorem str_hex : ∀ (l r : List Nat), (∀ c ∈ l, c < 256) → (∀ c ∈ r, c < 256) → strR (hexB l ++ 34 :: r) = .done l (4 * l.length + 1)
  | [], r, _, _ => strR_end r
  | c :: t, r, hl, hr => by
    have h1 := hl c (List.mem_cons_self ..)
    have h2 : ∀ x ∈ t, x < 256 := fun y hy => hl y (List.mem_cons_of_mem _ hy)
    have h3 : ∀ x ∈ 34 :: r, x < 256 := fun x hx => by
      rcases List.mem_cons.1 hx with rfl | hx
      · decide
      · exact hr x hx
    show strR (92 :: 120 :: hexD (c / 16) :: hexD (c % 16) :: (hexB t ++ 34 :: r)) = _
    rw [strR_step (by decide) (show ∀ x ∈ 92 :: 120 :: hexD (c / 16) :: hexD (c % 16) :: (hexB t ++ 34 :: r), x < 256 from hexB_256 (c :: t) (34 :: r) hl h3), char_hex c h1]
    show pre [c] 4 (strR (hexB t ++ 34 :: r)) = _
    rw [str_hex t r h2 hr]
    show StrR.done ([c] ++ t) (4 + (4 * t.length + 1)) = _
    rw [List.length_cons, show 4 + (4 * t.length + 1) = 4 * (t.length + 1) + 1 from by omega]
    rfl
theorem str_hex_open : ∀ (l : List Nat), (∀ c ∈ l, c < 256) → strR (hexB l) = .open_
  | [], _ => rfl
  | c :: t, hl => by
    have h1 := hl c (List.mem_cons_self ..)
    show strR (92 :: 120 :: hexD (c / 16) :: hexD (c % 16) :: hexB t) = _
    rw [strR_step (by decide) (fun x hx => (hexB_in (c :: t) hl x hx).1), char_hex c h1]
    show pre [c] 4 (strR (hexB t)) = _
    rw [str_hex_open t (fun y hy => hl y (List.mem_cons_of_mem _ hy))]
    rfl
theorem scanT_lines : ∀ (k n : Nat) (l : List Nat), (∀ c ∈ l, c < 256) → scanT (n, 1) (List.replicate k 10 ++ l) = scanT (n + k, 1) l
  | 0, n, l, _ => rfl
  | k + 1, n, l, h => by
    rw [List.replicate_succ, List.cons_append, scanT_blank (n, 1) 10 _ (fun c hc => by
      rcases List.mem_cons.1 hc with rfl | hc
      · decide
      · rcases List.mem_append.1 hc with hc | hc
        · rw [(List.mem_replicate.1 hc).2]; decide
        · exact h c hc) rfl]
    have hc : adv 10 (n, 1) = (n + 1, 1) := rfl
    rw [hc, scanT_lines k _ l h, Nat.add_assoc, Nat.add_comm 1]
/-- a string's token -/
theorem tok_hex (l r : List Nat) (hl : ∀ c ∈ l, c < 256) (hr : ∀ c ∈ r, c < 256) :
    tokL (34 :: (hexB l ++ 34 :: r)) = if l.length ≤ 4096 then .tok 4 0 (bstr l) (4 * l.length + 2) else .bad 0 := by
  show (match strR (hexB l ++ 34 :: r) with
    | .done b n => if b.length ≤ 4096 then TkR.tok 4 0 (bstr b) (1 + n) else .bad 0
    | .open_ => .bad 0
    | .bad k => .bad (1 + k)) = _
  rw [str_hex l r hl hr]
  dsimp only
  rw [show 1 + (4 * l.length + 1) = 4 * l.length + 2 from by omega]
theorem tok_hex_open (l : List Nat) (hl : ∀ c ∈ l, c < 256) : tokL (34 :: hexB l) = .bad 0 := by
  show (match strR (hexB l) with
    | .done b n => if b.length ≤ 4096 then TkR.tok 4 0 (bstr b) (1 + n) else .bad 0
    | .open_ => .bad 0
    | .bad k => .bad (1 + k)) = _
  rw [str_hex_open l hl]
theorem scan_hex (k : Nat) (l : List Nat) (hl : ∀ c ∈ l, c < 256) : scanS (bstr (List.replicate k 10 ++ 34 :: (hexB l ++ [34]))) = if l.length ≤ 4096 then .ok [⟨4, (1 + k, 1), 0, bstr l⟩] else .bad (1 + k, 1) := by
  have h34 : ∀ c ∈ [34], c < 256 := fun c hc => by rw [List.mem_singleton.1 hc]; decide
  have hin : ∀ c ∈ 34 :: (hexB l ++ [34]), c < 256 := fun c hc => by
    rcases List.mem_cons.1 hc with rfl | hc
    · decide
    · exact hexB_256 l [34] hl h34 c hc
  have hall : ∀ c ∈ List.replicate k 10 ++ 34 :: (hexB l ++ [34]), c < 256 := fun c hc => by
    rcases List.mem_append.1 hc with hc | hc
    · rw [(List.mem_replicate.1 hc).2]; decide
    · exact hin c hc
  have ht := tok_hex l [] hl (fun c hc => (List.not_mem_nil hc).elim)
  have hlen : (34 :: (hexB l ++ [34])).length = 4 * l.length + 2 := by
    rw [List.length_cons, List.length_append, hexB_length]
    rfl
  rw [scanS_T, bytesOf_bstr _ hall, scanT_lines k 1 _ hin]
  by_cases h : l.length ≤ 4096
  · rw [if_pos h] at ht ⊢
    rw [scanT_tok _ _ hin (by rw [hlen]; omega) rfl ht, List.drop_eq_nil_of_le (by rw [hlen]; exact Nat.le_refl _), scanT_nil]
    rfl
  · rw [if_neg h] at ht ⊢
    rw [scanT_bad _ _ (by rw [hlen]; omega) rfl ht]
    rfl
theorem scan_hex_open (k : Nat) (l : List Nat) (hl : ∀ c ∈ l, c < 256) : scanS (bstr (List.replicate k 10 ++ 32 :: 34 :: hexB l)) = .bad (1 + k, 2) := by
  have hin : ∀ c ∈ 34 :: hexB l, c < 256 := fun c hc => by
    rcases List.mem_cons.1 hc with rfl | hc
    · decide
    · exact (hexB_in l hl c hc).1
  have hin2 : ∀ c ∈ 32 :: 34 :: hexB l, c < 256 := fun c hc => by
    rcases List.mem_cons.1 hc with rfl | hc
    · decide
    · exact hin c hc
  have hall : ∀ c ∈ List.replicate k 10 ++ 32 :: 34 :: hexB l, c < 256 := fun c hc => by
    rcases List.mem_append.1 hc with hc | hc
    · rw [(List.mem_replicate.1 hc).2]; decide
    · exact hin2 c hc
  rw [scanS_T, bytesOf_bstr _ hall, scanT_lines k 1 _ hin2, scanT_blank _ _ _ hin2 rfl]
  show scanT (1 + k, 1 + 1) _ = _
  rw [scanT_bad _ _ (by rw [List.length_cons]; omega) rfl (tok_hex_open l hl)]
  rfl
end Go.Proofs.Ytghddknhoiaboaa
