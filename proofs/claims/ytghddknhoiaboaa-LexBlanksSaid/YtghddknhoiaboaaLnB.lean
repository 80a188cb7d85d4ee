/-
  lex: a word between blanks and brackets.
-/
import Derived.Test.YtghddknhoiaboaaLpA
import Derived.Test.YtghddknhoiaboaaLnA
namespace Go.Proofs.Ytghddknhoiaboaa
open Go.ChangeShapes Go.WideShapes Go.ChangeAt Go.RowKit
set_option linter.unusedVariables false
set_option maxRecDepth 100000

theorem advs_plain : ∀ (l : List Nat) (p : Nat × Nat), (∀ c ∈ l, ¬ c = 10) → advs p l = (p.1, p.2 + l.length)
  | [], p, _ => rfl
  | c :: t, p, h => by
    have hc : adv c p = (p.1, p.2 + 1) := if_neg (h c (List.mem_cons_self ..))
    show advs (adv c p) t = _
    rw [hc, advs_plain t _ (fun x hx => h x (List.mem_cons_of_mem _ hx)), List.length_cons]
    show (p.1, p.2 + 1 + t.length) = _
    rw [Nat.add_assoc, Nat.add_comm 1]
theorem scanT_spaces : ∀ (k : Nat) (p : Nat × Nat) (l : List Nat), (∀ c ∈ l, c < 256) → scanT p (List.replicate k 32 ++ l) = scanT (p.1, p.2 + k) l
  | 0, p, l, _ => rfl
  | k + 1, p, l, h => by
    rw [List.replicate_succ, List.cons_append, scanT_blank p 32 _ (fun c hc => by
      rcases List.mem_cons.1 hc with rfl | hc
      · decide
      · rcases List.mem_append.1 hc with hc | hc
        · rw [(List.mem_replicate.1 hc).2]; decide
        · exact h c hc) rfl]
    have hc : adv 32 p = (p.1, p.2 + 1) := if_neg (by decide)
    rw [hc, scanT_spaces k _ l h]
    show scanT (p.1, p.2 + 1 + k) l = _
    rw [Nat.add_assoc, Nat.add_comm 1]
theorem wordLen_app : ∀ (D r : List Nat), (∀ c ∈ D, isEnd c = false) → (r = [] ∨ isEnd (r.getD 0 0) = true) → wordLen (D ++ r) = D.length
  | [], r, _, h => by
    rcases h with rfl | h
    · rfl
    · cases r with
      | nil => rfl
      | cons c t =>
        show (if isEnd c = true then 0 else 1 + wordLen t) = 0
        exact if_pos h
  | c :: D, r, hD, h => by
    show (if isEnd c = true then 0 else 1 + wordLen (D ++ r)) = _
    rw [if_neg (by rw [hD c (List.mem_cons_self ..)]; decide), wordLen_app D r (fun x hx => hD x (List.mem_cons_of_mem _ hx)) h, List.length_cons, Nat.add_comm]
theorem isEnd_parts {c : Nat} (h : isEnd c = false) : isBl c = false ∧ ¬ c = 40 ∧ ¬ c = 41 ∧ ¬ c = 34 ∧ ¬ c = 59 := by
  have he : isEnd c = (isBl c || c == 40 || c == 41 || c == 34 || c == 59) := rfl
  rw [he] at h
  simp only [Bool.or_eq_false_iff, beq_eq_false_iff_ne, ne_eq] at h
  obtain ⟨⟨⟨⟨h1, h2⟩, h3⟩, h4⟩, h5⟩ := h
  exact ⟨h1, h2, h3, h4, h5⟩
theorem word_blank (D r : List Nat) (h0 : D ≠ []) (hD : ∀ c ∈ D, isEnd c = false) : blankLen false (D ++ r) = 0 := by
  cases D with
  | nil => exact absurd rfl h0
  | cons c D =>
    obtain ⟨h1, _, _, _, h5⟩ := isEnd_parts (hD c (List.mem_cons_self ..))
    show (if isBl c = true then 1 + blankLen false (D ++ r) else if c = 59 then 1 + blankLen true (D ++ r) else 0) = 0
    rw [if_neg (by rw [h1]; decide), if_neg h5]
theorem tok_word (D r : List Nat) (h0 : D ≠ []) (hD : ∀ c ∈ D, isEnd c = false) (hr : r = [] ∨ isEnd (r.getD 0 0) = true) :
    tokL (D ++ r) = match wordS (bstr D) with
      | some (k, n, t) => .tok k n t D.length
      | none => .bad 0 := by
  have hw := wordLen_app D r hD hr
  have ht : (D ++ r).take D.length = D := List.take_left
  cases D with
  | nil => exact absurd rfl h0
  | cons c D =>
    obtain ⟨_, h2, h3, h4, _⟩ := isEnd_parts (hD c (List.mem_cons_self ..))
    unfold tokL
    have hg : (c :: D ++ r).getD 0 0 = c := rfl
    rw [hg, if_neg h2, if_neg h3, if_neg h4, hw, ht]
    cases wordS (bstr (c :: D)) with
    | none => rfl
    | some x => obtain ⟨k, n, t⟩ := x; rfl
theorem scanT_close (p : Nat × Nat) : scanT p [41] = .ok [⟨1, p, 0, ⟨#[]⟩⟩] := rfl
theorem nat_itoa (n : Int) : ∀ c ∈ nat (Lib.itoa n), c = 45 ∨ isD c = true := by
  intro c hc
  unfold Lib.itoa at hc
  by_cases h : n < 0
  · rw [if_pos h] at hc
    rcases List.mem_cons.1 hc with hc | hc
    · exact .inl hc
    · exact .inr (List.all_eq_true.1 (dec_all _).1 c hc)
  · rw [if_neg h] at hc
    exact .inr (List.all_eq_true.1 (dec_all _).1 c hc)
theorem digit_not (c : Nat) (h : c = 45 ∨ isD c = true) : isEnd c = false ∧ ¬ c = 10 ∧ c < 256 := by
  have hc : 45 ≤ c ∧ c ≤ 57 := by
    rcases h with rfl | h
    · decide
    · unfold isD at h
      have := of_decide_eq_true h
      omega
  have : ∀ j : Fin 13, isEnd (45 + j.val) = false := by decide
  have h2 := this ⟨c - 45, by omega⟩
  have e : 45 + (c - 45) = c := by omega
  rw [e] at h2
  exact ⟨h2, by omega, by omega⟩
theorem bytesOf_list (l : List UInt8) : bytesOf ⟨l.toArray⟩ = nat l := by
  unfold bytesOf nat
  rw [List.toList_toArray]
theorem bstr_nat (l : List UInt8) : bstr (nat l) = ⟨l.toArray⟩ := by rw [← bytesOf_list, bstr_bytesOf]
theorem nat_itoa_ne (n : Int) (h1 : -4611686018427387904 ≤ n) (h2 : n ≤ 4611686018427387903) : nat (Lib.itoa n) ≠ [] := fun e => by
  have := read_itoa n h1 h2
  rw [e] at this
  have h : readS [] = (0, 2) := rfl
  rw [h] at this
  injection this with _ h
  cases h
theorem word_itoa (n : Int) (h1 : -4611686018427387904 ≤ n) (h2 : n ≤ 4611686018427387903) : wordS (bstr (nat (Lib.itoa n))) = some (2, n, ⟨#[]⟩) := by
  rw [bstr_nat]
  unfold wordS
  rw [bytesOf_list, read_itoa n h1 h2, if_pos rfl]
theorem scan_number (k : Nat) (n : Int) (h1 : -4611686018427387904 ≤ n) (h2 : n ≤ 4611686018427387903) :
    scanS (bstr (List.replicate k 32) ++ ⟨(Lib.itoa n).toArray⟩ ++ ⟨#[41]⟩) = .ok [⟨2, (1, 1 + k), n, ⟨#[]⟩⟩, ⟨1, (1, 1 + k + (nat (Lib.itoa n)).length), 0, ⟨#[]⟩⟩] := by
  have hne := nat_itoa_ne n h1 h2
  have hw := word_itoa n h1 h2
  have hc := nat_itoa n
  have e : bytesOf (bstr (List.replicate k 32) ++ ⟨(Lib.itoa n).toArray⟩ ++ ⟨#[41]⟩) = List.replicate k 32 ++ (nat (Lib.itoa n) ++ [41]) := by
    have hb : bytesOf (bstr (List.replicate k 32)) = List.replicate k 32 := bytesOf_bstr _ (fun c hc => by rw [(List.mem_replicate.1 hc).2]; decide)
    have ha : ∀ a b : ByteArray, bytesOf (a ++ b) = bytesOf a ++ bytesOf b := fun a b => by
      unfold bytesOf
      simp
    rw [ha, ha, hb, bytesOf_list, List.append_assoc]
    rfl
  rw [scanS_T, e]
  generalize nat (Lib.itoa n) = D at *
  have hD : ∀ c ∈ D, isEnd c = false := fun c h => (digit_not c (hc c h)).1
  have h10 : ∀ c ∈ D, ¬ c = 10 := fun c h => (digit_not c (hc c h)).2.1
  have h256 : ∀ c ∈ D ++ [41], c < 256 := fun c h => by
    rcases List.mem_append.1 h with h | h
    · exact (digit_not c (hc c h)).2.2
    · rw [List.mem_singleton.1 h]; decide
  have htk := tok_word D [41] hne hD (.inr rfl)
  rw [hw] at htk
  rw [scanT_spaces k _ _ h256, scanT_tok _ _ h256 (by rw [List.length_append]; exact Nat.lt_of_lt_of_le (Nat.zero_lt_succ 0) (Nat.le_add_left _ _)) (word_blank D [41] hne hD) htk]
  have e1 : (D ++ [41]).take D.length = D := List.take_left
  have e2 : (D ++ [41]).drop D.length = [41] := List.drop_left
  rw [e1, e2, advs_plain D _ h10, scanT_close]
  rfl
theorem lit_big : scanS ⟨#[52, 54, 49, 49, 54, 56, 54, 48, 49, 56, 52, 50, 55, 51, 56, 55, 57, 48, 52]⟩ = .bad (1, 1) := by kernel_rfl
theorem lit_low : scanS ⟨#[45, 52, 54, 49, 49, 54, 56, 54, 48, 49, 56, 52, 50, 55, 51, 56, 55, 57, 48, 53]⟩ = .bad (1, 1) := by kernel_rfl
end Go.Proofs.Ytghddknhoiaboaa
