/-
  lex: a word between brackets.
-/
import Derived.Test.YtghddknhoiaboaaLnB
import Derived.Test.YtghddknhoiaboaaLfA
namespace Go.Proofs.Ytghddknhoiaboaa
open Go.ChangeShapes Go.WideShapes Go.ChangeAt Go.RowKit
set_option linter.unusedVariables false
set_option maxRecDepth 100000

def Good (x : ByteArray) : Prop := 0 < x.size ∧ x.size ≤ 350 ∧ ∀ c ∈ bytesOf x, isEnd c = false
theorem bytesOf_append (a b : ByteArray) : bytesOf (a ++ b) = bytesOf a ++ bytesOf b := by
  unfold bytesOf
  simp
theorem scan_paren (x : ByteArray) (h : Good x) : scanS (⟨#[40]⟩ ++ x ++ ⟨#[41]⟩) = match wordS x with
    | some (k, n, t) => .ok [⟨0, (1, 1), 0, ⟨#[]⟩⟩, ⟨k, (1, 2), n, t⟩, ⟨1, advs (1, 2) (bytesOf x), 0, ⟨#[]⟩⟩]
    | none => .bad (1, 2) := by
  obtain ⟨h0, h1, hD⟩ := h
  have hne : bytesOf x ≠ [] := fun e => by
    have := bytesOf_length x
    rw [e] at this
    simp at this
    omega
  have e : bytesOf (⟨#[40]⟩ ++ x ++ ⟨#[41]⟩) = 40 :: (bytesOf x ++ [41]) := by
    rw [bytesOf_append, bytesOf_append]
    rfl
  have h256 : ∀ c ∈ 40 :: (bytesOf x ++ [41]), c < 256 := fun c hc => by
    rw [← e] at hc
    exact bytesOf_lt _ c hc
  have h256b : ∀ c ∈ bytesOf x ++ [41], c < 256 := fun c hc => h256 c (List.mem_cons_of_mem _ hc)
  have hx : bstr (bytesOf x) = x := bstr_bytesOf x
  have htk := tok_word (bytesOf x) [41] hne hD (.inr rfl)
  rw [hx] at htk
  have hbk := word_blank (bytesOf x) [41] hne hD
  have hl0 : 0 < (bytesOf x ++ [41]).length := by rw [List.length_append]; exact Nat.lt_of_lt_of_le (Nat.zero_lt_succ 0) (Nat.le_add_left _ _)
  rw [scanS_T, e, scanT_tok (1, 1) (40 :: (bytesOf x ++ [41])) h256 (Nat.zero_lt_succ _) rfl (k := 0) (n := 0) (t := ⟨#[]⟩) (len := 1) rfl]
  have e1 : advs (1, 1) ((40 :: (bytesOf x ++ [41])).take 1) = (1, 2) := rfl
  have e2 : (40 :: (bytesOf x ++ [41])).drop 1 = bytesOf x ++ [41] := rfl
  rw [e1, e2]
  cases hw : wordS x with
  | none =>
    rw [hw] at htk
    rw [scanT_bad _ _ hl0 hbk htk]
    rfl
  | some r =>
    obtain ⟨k, n, t⟩ := r
    rw [hw] at htk
    rw [scanT_tok _ _ h256b hl0 hbk htk]
    have e3 : (bytesOf x ++ [41]).take (bytesOf x).length = bytesOf x := List.take_left
    have e4 : (bytesOf x ++ [41]).drop (bytesOf x).length = [41] := List.drop_left
    rw [e3, e4, scanT_close]
    rfl
def RowIs (L : List Tok) (v : Value) (W : World) : Prop := ∃ base, W.ownsRow base 38 5 v L.length (toks L)
theorem rowIs_stable (L : List Tok) : Stable (RowIs L) := fun v W W' hb h => by
  obtain ⟨base, ho⟩ := h
  exact ⟨base, own_only ho (Only.of_below (F := fun _ => False) hb) (fun _ _ h => h)⟩
def TokAt (i : Nat) (t : Tok) (v : Value) (W : World) : Prop := ∃ g, v = .pointer (some ⟨g, i * 5, none⟩) ∧ W.cell? ⟨g, i * 5, none⟩ = some (.int .i64 t.kind) ∧ W.cell? ⟨g, i * 5 + 1, none⟩ = some (.int .i64 (t.at_.1 : Int)) ∧ W.cell? ⟨g, i * 5 + 2, none⟩ = some (.int .i64 (t.at_.2 : Int)) ∧ W.cell? ⟨g, i * 5 + 3, none⟩ = some (.int .i64 t.num) ∧ W.cell? ⟨g, i * 5 + 4, none⟩ = some (.string t.text)
theorem tokAt_stable (i : Nat) (t : Tok) : Stable (TokAt i t) := fun v W W' hb h => by
  obtain ⟨g, e, c0, c1, c2, c3, c4⟩ := h
  have hg := lt_of_cell c0
  have hk := fun (o : Nat) => World.cell?_of_block (w := W) (w' := W') (a := ⟨g, o, none⟩) (Below.block hb g hg)
  exact ⟨g, e, (hk _).trans c0, (hk _).trans c1, (hk _).trans c2, (hk _).trans c3, (hk _).trans c4⟩
theorem bytes_prefix (x : ByteArray) (h0 : 0 < x.size) : bytesOf (x.extract 0 1) = [(bytesOf x).getD 0 0] := by
  rw [extract_bstr x 0 1 (by omega), bytesOf_bstr _ (fun c hc => bytesOf_lt x c (List.mem_of_mem_drop (List.mem_of_mem_take hc)))]
  rw [List.drop_zero]
  have hl := bytesOf_length x
  cases hB : bytesOf x with
  | nil => rw [hB] at hl; simp at hl; omega
  | cons a t => rfl
theorem take_end (x : ByteArray) (i : Nat) (hi : i < x.size) (h : ∀ c ∈ (bytesOf x).take i, isEnd c = false) (hc : isEnd ((bytesOf x).getD i 0) = false) : ∀ c ∈ (bytesOf x).take (i + 1), isEnd c = false := by
  have hl : i < (bytesOf x).length := by rw [bytesOf_length]; exact hi
  rw [List.take_succ_eq_append_getElem hl]
  intro c hcm
  rcases List.mem_append.1 hcm with hcm | hcm
  · exact h c hcm
  · rw [List.mem_singleton.1 hcm]
    rw [List.getD_eq_getElem?_getD, List.getElem?_eq_getElem hl] at hc
    exact hc
theorem isEnd_big {c : Nat} (h32 : ¬ c ≤ 32) (h40 : ¬ c = 40) (h41 : ¬ c = 41) (h34 : ¬ c = 34) (h59 : ¬ c = 59) : isEnd c = false := by
  refine isEnd_not c ?_ h40 h41 h34 h59
  have hb : isBl c = (decide (c = 32) || decide (c = 9) || decide (c = 10)) := rfl
  rw [hb, decide_eq_false (by omega), decide_eq_false (by omega), decide_eq_false (by omega)]
  rfl
theorem size_prefix (x : ByteArray) (h0 : 0 < x.size) : (x.extract 0 1).size = 1 := by
  rw [ByteArray.size_extract]
  omega
theorem getD_mem (x : ByteArray) (i : Nat) (h : i < x.size) : (bytesOf x).getD i 0 ∈ bytesOf x := by
  have hl : i < (bytesOf x).length := by rw [bytesOf_length]; exact h
  rw [List.getD_eq_getElem?_getD, List.getElem?_eq_getElem hl]
  exact List.getElem_mem hl
end Go.Proofs.Ytghddknhoiaboaa
