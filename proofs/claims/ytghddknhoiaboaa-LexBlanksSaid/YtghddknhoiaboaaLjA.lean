/-
  lex: two texts, a new line between them.
-/
import Derived.Test.YtghddknhoiaboaaLwA
namespace Go.Proofs.Ytghddknhoiaboaa
open Go.ChangeShapes Go.WideShapes Go.ChangeAt Go.RowKit
set_option linter.unusedVariables false
set_option maxRecDepth 100000

theorem advs_cons (p : Nat × Nat) (c : Nat) (t : List Nat) : advs p (c :: t) = advs (adv c p) t := rfl
theorem advs_shift (d : Nat) : ∀ (l : List Nat) (p : Nat × Nat), advs (p.1 + d, p.2) l = ((advs p l).1 + d, (advs p l).2)
  | [], p => rfl
  | c :: t, p => by
    rw [advs_cons, advs_cons]
    have e : adv c (p.1 + d, p.2) = ((adv c p).1 + d, (adv c p).2) := by
      unfold adv
      by_cases h : c = 10
      · rw [if_pos h, if_pos h]
        show (p.1 + d + 1, 1) = (p.1 + 1 + d, 1)
        congr 1; omega
      · rw [if_neg h, if_neg h]
    rw [e, advs_shift d t]
def Tok.down (d : Nat) (t : Tok) : Tok := ⟨t.kind, (t.at_.1 + d, t.at_.2), t.num, t.text⟩
def ScR.down (d : Nat) : ScR → ScR
  | .ok L => .ok (L.map (Tok.down d))
  | .bad p => .bad (p.1 + d, p.2)
theorem scanL_shift (d : Nat) : ∀ (f : Nat) (p : Nat × Nat) (l : List Nat), scanL f (p.1 + d, p.2) l = (scanL f p l).down d
  | 0, _, _ => rfl
  | f + 1, p, l => by
    rw [scanL_succ, scanL_succ]
    by_cases h : l.length ≤ blankLen false l
    · rw [if_pos h, if_pos h]; rfl
    · rw [if_neg h, if_neg h]
      cases tokL (l.drop (blankLen false l)) with
      | bad k =>
        dsimp only
        rw [advs_shift]
        rfl
      | tok k n t len =>
        dsimp only
        rw [advs_shift, advs_shift, scanL_shift d f]
        cases scanL f (advs p (l.take (blankLen false l + len))) (l.drop (blankLen false l + len)) <;> rfl
theorem scanT_shift (d : Nat) (p : Nat × Nat) (l : List Nat) : scanT (p.1 + d, p.2) l = (scanT p l).down d := scanL_shift d _ p l
theorem blank_app : ∀ (st : Bool) (A r : List Nat), blankLen st A < A.length → blankLen st (A ++ r) = blankLen st A
  | _, [], _, h => absurd h (Nat.not_lt_zero _)
  | true, c :: A, r, h => by
    have h' : (if c = 10 then 1 + blankLen false A else 1 + blankLen true A) < (c :: A).length := h
    show (if c = 10 then 1 + blankLen false (A ++ r) else 1 + blankLen true (A ++ r)) = (if c = 10 then 1 + blankLen false A else 1 + blankLen true A)
    rw [List.length_cons] at h'
    by_cases hc : c = 10
    · rw [if_pos hc] at h'; rw [if_pos hc, if_pos hc, blank_app false A r (by omega)]
    · rw [if_neg hc] at h'; rw [if_neg hc, if_neg hc, blank_app true A r (by omega)]
  | false, c :: A, r, h => by
    have h' : (if isBl c = true then 1 + blankLen false A else if c = 59 then 1 + blankLen true A else 0) < (c :: A).length := h
    show (if isBl c = true then 1 + blankLen false (A ++ r) else if c = 59 then 1 + blankLen true (A ++ r) else 0) = (if isBl c = true then 1 + blankLen false A else if c = 59 then 1 + blankLen true A else 0)
    rw [List.length_cons] at h'
    by_cases hc : isBl c = true
    · rw [if_pos hc] at h'; rw [if_pos hc, if_pos hc, blank_app false A r (by omega)]
    · rw [if_neg hc] at h'; rw [if_neg hc, if_neg hc]
      by_cases h5 : c = 59
      · rw [if_pos h5] at h'; rw [if_pos h5, if_pos h5, blank_app true A r (by omega)]
      · rw [if_neg h5, if_neg h5]
theorem blank_all : ∀ (st : Bool) (A B : List Nat), A.length ≤ blankLen st A → blankLen st (A ++ 10 :: B) = A.length + (1 + blankLen false B)
  | true, [], B, _ => by
    show (if 10 = 10 then 1 + blankLen false B else _) = _
    rw [if_pos rfl, List.length_nil, Nat.zero_add]
  | false, [], B, _ => by
    show (if isBl 10 = true then 1 + blankLen false B else _) = _
    rw [if_pos (show isBl 10 = true from rfl), List.length_nil, Nat.zero_add]
  | true, c :: A, B, h => by
    have h' : (c :: A).length ≤ (if c = 10 then 1 + blankLen false A else 1 + blankLen true A) := h
    show (if c = 10 then 1 + blankLen false (A ++ 10 :: B) else 1 + blankLen true (A ++ 10 :: B)) = _
    rw [List.length_cons] at h' ⊢
    by_cases hc : c = 10
    · rw [if_pos hc] at h'; rw [if_pos hc, blank_all false A B (by omega)]; omega
    · rw [if_neg hc] at h'; rw [if_neg hc, blank_all true A B (by omega)]; omega
  | false, c :: A, B, h => by
    have h' : (c :: A).length ≤ (if isBl c = true then 1 + blankLen false A else if c = 59 then 1 + blankLen true A else 0) := h
    show (if isBl c = true then 1 + blankLen false (A ++ 10 :: B) else if c = 59 then 1 + blankLen true (A ++ 10 :: B) else 0) = _
    rw [List.length_cons] at h' ⊢
    by_cases hc : isBl c = true
    · rw [if_pos hc] at h'; rw [if_pos hc, blank_all false A B (by omega)]; omega
    · rw [if_neg hc] at h'; rw [if_neg hc]
      by_cases h5 : c = 59
      · rw [if_pos h5] at h'; rw [if_pos h5, blank_all true A B (by omega)]; omega
      · rw [if_neg h5] at h'; omega
theorem wordLen_nl (B : List Nat) : ∀ A : List Nat, wordLen (A ++ 10 :: B) = wordLen A
  | [] => by
    show (if isEnd 10 = true then 0 else 1 + wordLen B) = 0
    exact if_pos rfl
  | c :: A => by
    show (if isEnd c = true then 0 else 1 + wordLen (A ++ 10 :: B)) = (if isEnd c = true then 0 else 1 + wordLen A)
    rw [wordLen_nl B A]
theorem charS_app {l : List Nat} {b n : Nat} (h : charS l = .ok b n) (r : List Nat) : charS (l ++ r) = .ok b n := by
  cases l with
  | nil => cases h
  | cons c t =>
    have h1 : (if c < 32 then CR.bad 0 else if c = 92 then escS t else .ok c 1) = .ok b n := h
    show (if c < 32 then CR.bad 0 else if c = 92 then escS (t ++ r) else .ok c 1) = .ok b n
    by_cases hc : c < 32
    · rw [if_pos hc] at h1; cases h1
    · rw [if_neg hc] at h1 ⊢
      by_cases h9 : c = 92
      · rw [if_pos h9] at h1 ⊢
        cases t with
        | nil => cases h1
        | cons d u =>
          have h2 : (if d = 34 ∨ d = 92 then CR.ok d 2 else if d = 110 then .ok 10 2 else if d = 120 then xS u else .bad 1) = .ok b n := h1
          show (if d = 34 ∨ d = 92 then CR.ok d 2 else if d = 110 then .ok 10 2 else if d = 120 then xS (u ++ r) else .bad 1) = .ok b n
          by_cases g1 : d = 34 ∨ d = 92
          · rw [if_pos g1] at h2 ⊢; exact h2
          · rw [if_neg g1] at h2 ⊢
            by_cases g2 : d = 110
            · rw [if_pos g2] at h2 ⊢; exact h2
            · rw [if_neg g2] at h2 ⊢
              by_cases g3 : d = 120
              · rw [if_pos g3] at h2 ⊢
                cases u with
                | nil => cases h2
                | cons x u =>
                  cases u with
                  | nil => cases h2
                  | cons y u => exact h2
              · rw [if_neg g3] at h2; cases h2
      · rw [if_neg h9] at h1 ⊢; exact h1
theorem strS_app (r : List Nat) : ∀ (f : Nat) (l : List Nat) (b : List Nat) (n : Nat), (∀ c ∈ l, c < 256) → strS f l = .done b n → ∀ g, (l ++ r).length < g → strS g (l ++ r) = .done b n
  | 0, _, _, _, _, h, _, _ => by cases h
  | _ + 1, [], _, _, _, h, _, _ => by cases h
  | f + 1, c :: t, b, n, h256, h, g, hg => by
    have h' : (if c = 34 then StrR.done [] 1 else match charS (c :: t) with
      | .open_ => .open_
      | .bad k => .bad k
      | .ok b n => pre [b] n (strS f ((c :: t).drop n))) = .done b n := h
    cases g with
    | zero => exact absurd hg (Nat.not_lt_zero _)
    | succ g =>
      show (if c = 34 then StrR.done [] 1 else match charS (c :: t ++ r) with
        | .open_ => .open_
        | .bad k => .bad k
        | .ok b n => pre [b] n (strS g ((c :: t ++ r).drop n))) = .done b n
      by_cases h3 : c = 34
      · rw [if_pos h3] at h' ⊢; exact h'
      · rw [if_neg h3] at h' ⊢
        cases hc : charS (c :: t) with
        | open_ => rw [hc] at h'; cases h'
        | bad k => rw [hc] at h'; cases h'
        | ok d m =>
          rw [hc] at h'
          rw [charS_app hc r]
          have h4 : pre [d] m (strS f ((c :: t).drop m)) = .done b n := h'
          obtain ⟨hm1, hm2, _⟩ := charS_len hc h256
          cases hr : strS f ((c :: t).drop m) with
          | open_ => rw [hr] at h4; cases h4
          | bad k => rw [hr] at h4; cases h4
          | done b2 n2 =>
            rw [hr] at h4
            show pre [d] m (strS g ((c :: t ++ r).drop m)) = .done b n
            rw [List.drop_append_of_le_length hm2, strS_app r f _ b2 n2 (fun x hx => h256 x (List.mem_of_mem_drop hx)) hr g (by
              rw [List.length_append] at hg ⊢
              rw [List.length_drop]
              omega)]
            exact h4
theorem strR_app {l : List Nat} {b : List Nat} {n : Nat} (h256 : ∀ c ∈ l, c < 256) (h : strR l = .done b n) (r : List Nat) : strR (l ++ r) = .done b n :=
  strS_app r _ l b n h256 h _ (Nat.lt_succ_self _)
theorem tokL_app {l : List Nat} (h256 : ∀ c ∈ l, c < 256) (h0 : 0 < l.length) {k n : Int} {t : ByteArray} {len : Nat} (h : tokL l = .tok k n t len) (B : List Nat) : tokL (l ++ 10 :: B) = .tok k n t len := by
  cases l with
  | nil => exact absurd h0 (Nat.lt_irrefl _)
  | cons c A =>
    have hg : (c :: A ++ 10 :: B).getD 0 0 = c := rfl
    have hg2 : (c :: A).getD 0 0 = c := rfl
    unfold tokL at h ⊢
    rw [hg]
    rw [hg2] at h
    by_cases h1 : c = 40
    · rw [if_pos h1] at h ⊢; exact h
    · rw [if_neg h1] at h ⊢
      by_cases h2 : c = 41
      · rw [if_pos h2] at h ⊢; exact h
      · rw [if_neg h2] at h ⊢
        by_cases h3 : c = 34
        · rw [if_pos h3] at h ⊢
          have e : (c :: A ++ 10 :: B).drop 1 = A ++ 10 :: B := rfl
          have e2 : (c :: A).drop 1 = A := rfl
          rw [e]
          rw [e2] at h
          cases hs : strR A with
          | open_ => rw [hs] at h; cases h
          | bad k => rw [hs] at h; cases h
          | done b m =>
            rw [hs] at h
            rw [strR_app (fun x hx => h256 x (List.mem_cons_of_mem _ hx)) hs]
            exact h
        · rw [if_neg h3] at h ⊢
          rw [wordLen_nl, List.take_append_of_le_length (wordLen_le _)]
          exact h
theorem advs_take (p : Nat × Nat) (l : List Nat) (i : Nat) : advs (advs p (l.take i)) (l.drop i) = advs p l := by rw [← advs_append, List.take_append_drop]
theorem join_T (B : List Nat) : ∀ (N : Nat) (p : Nat × Nat) (A : List Nat) (L : List Tok), A.length ≤ N → (∀ c ∈ A ++ 10 :: B, c < 256) → scanT p A = .ok L → scanT p (A ++ 10 :: B) = ScR.pre L (scanT ((advs p A).1 + 1, 1) B)
  | N, p, A, L, hN, h256, h => by
    have h256A : ∀ c ∈ A, c < 256 := fun c hc => h256 c (List.mem_append_left _ hc)
    by_cases hb : A.length ≤ blankLen false A
    · have hL : L = [] := by
        unfold scanT at h
        rw [scanL_succ, if_pos hb] at h
        injection h with h
        exact h.symm
      subst hL
      rw [pre_nil, scanT_skip p (A ++ 10 :: B) (A.length + 1) h256 (by
        rw [blank_all false A B hb]
        have e : (A ++ 10 :: B).drop (A.length + 1) = B := by rw [← List.drop_drop, List.drop_left]; rfl
        rw [e]; omega) (by rw [List.length_append, List.length_cons]; omega)]
      have e : (A ++ 10 :: B).drop (A.length + 1) = B := by rw [← List.drop_drop, List.drop_left]; rfl
      have e2 : (A ++ 10 :: B).take (A.length + 1) = A ++ [10] := by rw [List.take_append]; simp; exact List.take_of_length_le (Nat.le_succ _)
      rw [e, e2, advs_append]
      rfl
    · have hlt : blankLen false A < A.length := by omega
      have hd0 : 0 < (A.drop (blankLen false A)).length := by rw [List.length_drop]; omega
      have hdb := blank_drop A
      have h256D : ∀ c ∈ A.drop (blankLen false A), c < 256 := fun c hc => h256A c (List.mem_of_mem_drop hc)
      have hskA := scanT_skip p A (blankLen false A) h256A (by rw [hdb]; omega) (by omega)
      rw [hskA] at h
      have hba := blank_app false A (10 :: B) hlt
      have hdr : (A ++ 10 :: B).drop (blankLen false A) = A.drop (blankLen false A) ++ 10 :: B := List.drop_append_of_le_length (by omega)
      have htk : (A ++ 10 :: B).take (blankLen false A) = A.take (blankLen false A) := List.take_append_of_le_length (by omega)
      have hbd : blankLen false (A.drop (blankLen false A) ++ 10 :: B) = 0 := by rw [blank_app false _ _ (by rw [hdb]; exact hd0), hdb]
      have hskJ := scanT_skip p (A ++ 10 :: B) (blankLen false A) h256 (by rw [hdr, hbd, hba]; omega) (by rw [List.length_append]; omega)
      rw [hskJ, hdr, htk]
      have hadv : advs p A = advs (advs p (A.take (blankLen false A))) (A.drop (blankLen false A)) := (advs_take p A _).symm
      rw [hadv]
      generalize advs p (A.take (blankLen false A)) = q at *
      have hDl : (A.drop (blankLen false A)).length ≤ A.length := by rw [List.length_drop]; omega
      have h256J : ∀ c ∈ A.drop (blankLen false A) ++ 10 :: B, c < 256 := fun c hc => by
        rcases List.mem_append.1 hc with hc | hc
        · exact h256D c hc
        · exact h256 c (List.mem_append_right _ hc)
      generalize A.drop (blankLen false A) = D at *
      cases hk : tokL D with
      | bad k =>
        rw [scanT_bad _ _ hd0 hdb hk] at h
        cases h
      | tok k n t len =>
        obtain ⟨hl1, hl2⟩ := tokL_len D h256D hd0 hdb hk
        rw [scanT_tok _ _ h256D hd0 hdb hk] at h
        rw [scanT_tok _ _ h256J (by rw [List.length_append]; omega) hbd (tokL_app h256D hd0 hk B)]
        have e1 : (D ++ 10 :: B).take len = D.take len := List.take_append_of_le_length hl2
        have e2 : (D ++ 10 :: B).drop len = D.drop len ++ 10 :: B := List.drop_append_of_le_length hl2
        rw [e1, e2]
        cases hr : scanT (advs q (D.take len)) (D.drop len) with
        | bad z => rw [hr] at h; cases h
        | ok M =>
          rw [hr] at h
          injection h with h
          subst h
          cases N with
          | zero => omega
          | succ N =>
            rw [join_T B N _ (D.drop len) M (by rw [List.length_drop]; omega) (fun c hc => by
              rcases List.mem_append.1 hc with hc | hc
              · exact h256D c (List.mem_of_mem_drop hc)
              · exact h256J c (List.mem_append_right _ hc)) hr, advs_take]
            cases scanT ((advs q D).1 + 1, 1) B <;> rfl
/-- how many new lines -/
def lines (l : List Nat) : Nat := (l.filter fun c => c == 10).length
theorem advs_lines : ∀ (l : List Nat) (p : Nat × Nat), (advs p l).1 = p.1 + lines l
  | [], _ => rfl
  | c :: t, p => by
    rw [advs_cons, advs_lines t]
    unfold adv lines
    by_cases h : c = 10
    · subst h
      rw [if_pos rfl]
      simp
      omega
    · rw [if_neg h]
      simp [h]
theorem scan_join (a b : ByteArray) (L : List Tok) (h : scanS a = .ok L) : scanS (a ++ ⟨#[10]⟩ ++ b) = ScR.pre L ((scanS b).down (1 + lines (bytesOf a))) := by
  have e : bytesOf (a ++ ⟨#[10]⟩ ++ b) = bytesOf a ++ 10 :: bytesOf b := by
    rw [bytesOf_append, bytesOf_append, List.append_assoc]
    rfl
  rw [scanS_T] at h ⊢
  rw [e, join_T (bytesOf b) _ (1, 1) (bytesOf a) L (Nat.le_refl _) (fun c hc => by rw [← e] at hc; exact bytesOf_lt _ c hc) h, scanS_T, ← scanT_shift, advs_lines]
  congr 2
  show (1 + lines (bytesOf a) + 1, 1) = (1 + (1 + lines (bytesOf a)), 1)
  congr 1; omega
end Go.Proofs.Ytghddknhoiaboaa
