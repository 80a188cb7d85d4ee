/-
  lex: the tokens of a row of bytes, from a place on.
-/
import Derived.Test.YtghddknhoiaboaaLexP
namespace Go.Proofs.Ytghddknhoiaboaa
open Go.ChangeShapes Go.WideShapes Go.ChangeAt Go.RowKit
set_option linter.unusedVariables false
set_option maxRecDepth 100000

def advs (p : Nat × Nat) (l : List Nat) : Nat × Nat := l.foldl (fun p c => adv c p) p
theorem advs_append (p : Nat × Nat) (l m : List Nat) : advs p (l ++ m) = advs (advs p l) m := List.foldl_append
theorem posAt_advs (l : List Nat) (i : Nat) : posAt l i = advs (1, 1) (l.take i) := rfl
theorem posAt_add (l : List Nat) (i j : Nat) : posAt l (i + j) = advs (posAt l i) ((l.drop i).take j) := by
  rw [posAt_advs, posAt_advs, ← advs_append, ← List.take_add]
def tokL (l : List Nat) : TkR :=
  if l.getD 0 0 = 40 then .tok 0 0 ⟨#[]⟩ 1
  else if l.getD 0 0 = 41 then .tok 1 0 ⟨#[]⟩ 1
  else if l.getD 0 0 = 34 then match strR (l.drop 1) with
    | .done b n => if b.length ≤ 4096 then .tok 4 0 (bstr b) (1 + n) else .bad 0
    | .open_ => .bad 0
    | .bad k => .bad (1 + k)
  else match wordS (bstr (l.take (wordLen l))) with
    | some (k, n, t) => .tok k n t (wordLen l)
    | none => .bad 0
def TkR.off (i : Nat) : TkR → TkR
  | .tok k n t len => .tok k n t len
  | .bad j => .bad (i + j)
theorem tokS_L (s : ByteArray) (i : Nat) : tokS s i = (tokL ((bytesOf s).drop i)).off i := by
  have e : ((bytesOf s).drop i).getD 0 0 = (bytesOf s).getD i 0 := by simp [List.getD_eq_getElem?_getD, List.getElem?_drop]
  have e2 : ((bytesOf s).drop i).drop 1 = (bytesOf s).drop (i + 1) := by rw [List.drop_drop]
  unfold tokS tokL
  rw [e, e2]
  by_cases h1 : (bytesOf s).getD i 0 = 40
  · rw [if_pos h1, if_pos h1]; rfl
  · rw [if_neg h1, if_neg h1]
    by_cases h2 : (bytesOf s).getD i 0 = 41
    · rw [if_pos h2, if_pos h2]; rfl
    · rw [if_neg h2, if_neg h2]
      by_cases h3 : (bytesOf s).getD i 0 = 34
      · rw [if_pos h3, if_pos h3]
        cases strR ((bytesOf s).drop (i + 1)) with
        | done b n =>
          dsimp only
          by_cases h4 : b.length ≤ 4096
          · rw [if_pos h4, if_pos h4]; rfl
          · rw [if_neg h4, if_neg h4]; rfl
        | open_ => rfl
        | bad k => exact congrArg TkR.bad (Nat.add_assoc i 1 k)
      · rw [if_neg h3, if_neg h3]
        cases wordS (bstr (((bytesOf s).drop i).take (wordLen ((bytesOf s).drop i)))) with
        | none => rfl
        | some x => obtain ⟨k, n, t⟩ := x; rfl
def scanL : Nat → Nat × Nat → List Nat → ScR
  | 0, _, _ => .ok []
  | f + 1, p, l =>
    if l.length ≤ blankLen false l then .ok [] else match tokL (l.drop (blankLen false l)) with
      | .bad k => .bad (advs p (l.take (blankLen false l + k)))
      | .tok k n t len => (scanL f (advs p (l.take (blankLen false l + len))) (l.drop (blankLen false l + len))).cons ⟨k, advs p (l.take (blankLen false l)), n, t⟩
theorem scanL_succ (f : Nat) (p : Nat × Nat) (l : List Nat) : scanL (f + 1) p l = if l.length ≤ blankLen false l then .ok [] else match tokL (l.drop (blankLen false l)) with
      | .bad k => .bad (advs p (l.take (blankLen false l + k)))
      | .tok k n t len => (scanL f (advs p (l.take (blankLen false l + len))) (l.drop (blankLen false l + len))).cons ⟨k, advs p (l.take (blankLen false l)), n, t⟩ := rfl
theorem scanF_L (s : ByteArray) : ∀ f i, scanF s f i = scanL f (posAt (bytesOf s) i) ((bytesOf s).drop i)
  | 0, _ => rfl
  | f + 1, i => by
    have hl : ((bytesOf s).drop i).length = s.size - i := by rw [List.length_drop, bytesOf_length]
    rw [scanL_succ]
    by_cases h : s.size ≤ i + blankLen false ((bytesOf s).drop i)
    · rw [scanF_end s f i h, if_pos (by omega)]
    · rw [scanF_step s f i h, if_neg (by omega), tokS_L, List.drop_drop]
      cases tokL ((bytesOf s).drop (i + blankLen false ((bytesOf s).drop i))) with
      | bad k =>
        show ScR.bad (posAt (bytesOf s) (i + blankLen false ((bytesOf s).drop i) + k)) = _
        rw [Nat.add_assoc, posAt_add (bytesOf s) i]
      | tok k n t len =>
        show (scanF s f (i + blankLen false ((bytesOf s).drop i) + len)).cons _ = _
        rw [scanF_L s f, Nat.add_assoc]
        dsimp only
        rw [posAt_add (bytesOf s) i (blankLen false ((bytesOf s).drop i) + len), posAt_add (bytesOf s) i (blankLen false ((bytesOf s).drop i)), List.drop_drop]
theorem tokL_len (l : List Nat) (h256 : ∀ c ∈ l, c < 256) (h0 : 0 < l.length) (hb : blankLen false l = 0) {k n : Int} {t : ByteArray} {len : Nat} (h : tokL l = .tok k n t len) : 1 ≤ len ∧ len ≤ l.length := by
  have hs : (bstr l).size = l.length := size_bstr l
  have hB := bytesOf_bstr l h256
  have h' : tokS (bstr l) 0 = .tok k n t len := by rw [tokS_L, hB, List.drop_zero, h]; rfl
  have h1 := tokS_len (bstr l) 0 (by omega) (by rw [hB, List.drop_zero]; exact hb) h'
  have h2 := tokS_le (bstr l) 0 (by omega) h'
  omega
theorem blank_drop (l : List Nat) : blankLen false (l.drop (blankLen false l)) = 0 := blank_fix false l
theorem scanL_fuel : ∀ (f g : Nat) (p : Nat × Nat) (l : List Nat), (∀ c ∈ l, c < 256) → l.length < f → l.length < g → scanL f p l = scanL g p l
  | 0, _, _, l, _, h, _ => absurd h (Nat.not_lt_zero _)
  | _, 0, _, l, _, _, h => absurd h (Nat.not_lt_zero _)
  | f + 1, g + 1, p, l, h256, hf, hg => by
    rw [scanL_succ, scanL_succ]
    by_cases h : l.length ≤ blankLen false l
    · rw [if_pos h, if_pos h]
    · rw [if_neg h, if_neg h]
      cases hk : tokL (l.drop (blankLen false l)) with
      | bad k => rfl
      | tok k n t len =>
        have hl := tokL_len (l.drop (blankLen false l)) (fun c hc => h256 c (List.mem_of_mem_drop hc)) (by rw [List.length_drop]; omega) (blank_drop l) hk
        dsimp only
        congr 1
        exact scanL_fuel f g _ _ (fun c hc => h256 c (List.mem_of_mem_drop hc)) (by rw [List.length_drop]; omega) (by rw [List.length_drop]; omega)
def scanT (p : Nat × Nat) (l : List Nat) : ScR := scanL (l.length + 1) p l
theorem scanS_T (s : ByteArray) : scanS s = scanT (1, 1) (bytesOf s) := by
  unfold scanS scanT
  rw [scanF_L, List.drop_zero, bytesOf_length]
  rfl
theorem scanT_nil (p : Nat × Nat) : scanT p [] = .ok [] := rfl
theorem scanL_skip (f : Nat) (p : Nat × Nat) (l : List Nat) (j : Nat) (hj : j + blankLen false (l.drop j) = blankLen false l) (hjl : j ≤ l.length) : scanL (f + 1) p l = scanL (f + 1) (advs p (l.take j)) (l.drop j) := by
  have hl : (l.drop j).length = l.length - j := List.length_drop
  rw [scanL_succ, scanL_succ]
  have ht : ∀ m, advs p (l.take (blankLen false l + m)) = advs (advs p (l.take j)) ((l.drop j).take (blankLen false (l.drop j) + m)) := fun m => by
    rw [← hj, Nat.add_assoc, ← advs_append, ← List.take_add]
  have hd : ∀ m, l.drop (blankLen false l + m) = (l.drop j).drop (blankLen false (l.drop j) + m) := fun m => by
    rw [← hj, Nat.add_assoc, List.drop_drop]
  have ht0 := ht 0
  have hd0 := hd 0
  rw [Nat.add_zero, Nat.add_zero] at ht0 hd0
  by_cases h : l.length ≤ blankLen false l
  · rw [if_pos h, if_pos (by omega)]
  · rw [if_neg h, if_neg (by omega), ← hd0]
    cases tokL (l.drop (blankLen false l)) with
    | bad k => dsimp only; rw [ht]
    | tok k n t len => dsimp only; rw [ht, hd, ← ht0]
theorem scanT_skip (p : Nat × Nat) (l : List Nat) (j : Nat) (h256 : ∀ c ∈ l, c < 256) (hj : j + blankLen false (l.drop j) = blankLen false l) (hjl : j ≤ l.length) : scanT p l = scanT (advs p (l.take j)) (l.drop j) := by
  unfold scanT
  rw [scanL_skip _ p l j hj hjl]
  exact scanL_fuel _ _ _ _ (fun c hc => h256 c (List.mem_of_mem_drop hc)) (by rw [List.length_drop]; omega) (Nat.lt_succ_self _)
theorem scanT_blank (p : Nat × Nat) (c : Nat) (t : List Nat) (h256 : ∀ x ∈ c :: t, x < 256) (hb : isBl c = true) : scanT p (c :: t) = scanT (adv c p) t := by
  refine scanT_skip p (c :: t) 1 h256 ?_ (by rw [List.length_cons]; omega)
  show 1 + blankLen false t = (if isBl c = true then 1 + blankLen false t else if c = 59 then 1 + blankLen true t else 0)
  rw [if_pos hb]
theorem scanT_bad (p : Nat × Nat) (l : List Nat) (h0 : 0 < l.length) (hb : blankLen false l = 0) {k : Nat} (h : tokL l = .bad k) : scanT p l = .bad (advs p (l.take k)) := by
  unfold scanT
  rw [scanL_succ, hb, if_neg (by omega), List.drop_zero, h]
  dsimp only
  rw [Nat.zero_add]
theorem scanT_tok (p : Nat × Nat) (l : List Nat) (h256 : ∀ c ∈ l, c < 256) (h0 : 0 < l.length) (hb : blankLen false l = 0) {k n : Int} {t : ByteArray} {len : Nat} (h : tokL l = .tok k n t len) :
    scanT p l = (scanT (advs p (l.take len)) (l.drop len)).cons ⟨k, p, n, t⟩ := by
  have hl := tokL_len l h256 h0 hb h
  unfold scanT
  rw [scanL_succ, hb, if_neg (by omega), List.drop_zero, h]
  dsimp only
  rw [Nat.zero_add, List.take_zero, scanL_fuel l.length ((l.drop len).length + 1) _ _ (fun c hc => h256 c (List.mem_of_mem_drop hc)) (by rw [List.length_drop]; omega) (Nat.lt_succ_self _)]
  rfl
end Go.Proofs.Ytghddknhoiaboaa
