/-
  lex: Scan: its world.
-/
import Derived.Test.YtghddknhoiaboaaLexN
namespace Go.Proofs.Ytghddknhoiaboaa
open Go.ChangeShapes Go.WideShapes Go.ChangeAt Go.RowKit
set_option linter.unusedVariables false
set_option maxRecDepth 100000

theorem blank_fix : ∀ (b : Bool) (l : List Nat), blankLen false (l.drop (blankLen b l)) = 0
  | true, [] => rfl
  | false, [] => rfl
  | true, c :: t => by
    by_cases h : c = 10
    · have e : blankLen true (c :: t) = 1 + blankLen false t := if_pos h
      rw [e, Nat.add_comm, List.drop_succ_cons]
      exact blank_fix false t
    · have e : blankLen true (c :: t) = 1 + blankLen true t := if_neg h
      rw [e, Nat.add_comm, List.drop_succ_cons]
      exact blank_fix true t
  | false, c :: t => by
    by_cases h : isBl c = true
    · have e : blankLen false (c :: t) = 1 + blankLen false t := if_pos h
      rw [e, Nat.add_comm, List.drop_succ_cons]
      exact blank_fix false t
    · by_cases h2 : c = 59
      · have e : blankLen false (c :: t) = 1 + blankLen true t := (if_neg h).trans (if_pos h2)
        rw [e, Nat.add_comm, List.drop_succ_cons]
        exact blank_fix true t
      · have e : blankLen false (c :: t) = 0 := (if_neg h).trans (if_neg h2)
        rw [e]
        exact e
theorem blank_zero (l : List Nat) (j : Nat) (hj : j < l.length) (h : blankLen false (l.drop j) = 0) : isBl (l.getD j 0) = false ∧ ¬ l.getD j 0 = 59 := by
  rw [drop_at l j hj] at h
  have e : blankLen false (l.getD j 0 :: l.drop (j + 1)) = (if isBl (l.getD j 0) = true then 1 + blankLen false (l.drop (j + 1)) else if l.getD j 0 = 59 then 1 + blankLen true (l.drop (j + 1)) else 0) := rfl
  rw [e] at h
  by_cases h1 : isBl (l.getD j 0) = true
  · rw [if_pos h1] at h; omega
  · rw [if_neg h1] at h
    refine ⟨by simpa using h1, fun h2 => ?_⟩
    rw [if_pos h2] at h; omega
theorem isEnd_not (c : Nat) (h1 : isBl c = false) (h40 : ¬ c = 40) (h41 : ¬ c = 41) (h34 : ¬ c = 34) (h59 : ¬ c = 59) : isEnd c = false := by
  unfold isEnd
  rw [h1]
  simp [h40, h41, h34, h59]
theorem token_any (w : World) (tb : Nat) (s : ByteArray) (i : Nat) (h : TextAt w tb s i) (hi : i < s.size) (hs : s.size ≤ 65000) (mx : Int) (hmx : w.cell? ⟨1, 0, none⟩ = some (.int .i64 mx)) (hne : 1 ≠ tb) (hb : blankLen false ((bytesOf s).drop i) = 0) :
    Calls Try.prog 20 #[.pointer (some ⟨tb, 0, none⟩)] w (TokPost w tb s i) := by
  obtain ⟨h1, h2⟩ := blank_zero (bytesOf s) i (by rw [bytesOf_length]; exact hi) hb
  by_cases hc3 : (bytesOf s).getD i 0 = 40 ∨ (bytesOf s).getD i 0 = 41 ∨ (bytesOf s).getD i 0 = 34
  · exact token_sep w tb s i h hi (by omega) hc3
  · refine token_word w tb s i h hi hs mx hmx hne ?_
    exact isEnd_not _ h1 (fun e => hc3 (Or.inl e)) (fun e => hc3 (Or.inr (Or.inl e))) (fun e => hc3 (Or.inr (Or.inr e))) h2
theorem tokS_len (s : ByteArray) (i : Nat) (hi : i < s.size) (hb : blankLen false ((bytesOf s).drop i) = 0) {k n : Int} {t : ByteArray} {len : Nat} (h : tokS s i = .tok k n t len) : 1 ≤ len := by
  unfold tokS at h
  split at h
  · injection h; omega
  · split at h
    · injection h; omega
    · split at h
      · split at h
        · split at h
          · injection h; omega
          · cases h
        · cases h
        · cases h
      · rename_i h40 h41 h34
        obtain ⟨h1, h2⟩ := blank_zero (bytesOf s) i (by rw [bytesOf_length]; exact hi) hb
        have hne : isEnd ((bytesOf s).getD i 0) = false := isEnd_not _ h1 h40 h41 h34 h2
        have := wordLen_in (bytesOf s) i (by rw [bytesOf_length]; exact hi) hne
        split at h
        · injection h; omega
        · cases h
structure SW (w W : World) (s : ByteArray) (i : Nat) (v : Value) (L : List Tok) : Prop where
  below : Below w.heap.size w W
  a : W.heap[w.heap.size]? = some (.cells #[v] 23)
  b : W.heap[w.heap.size + 1]? = some (.cells #[.int .i64 0, .int .i64 0] 25)
  c : W.heap[w.heap.size + 1 + 1]? = some (.cells #[.int .i64 0] 26)
  t : TextAt W (w.heap.size + 1 + 1 + 1) s i
  r : W.ownsRow (w.heap.size + 4) 44 5 v L.length (toks L)
theorem SW.size {w W : World} {s : ByteArray} {i : Nat} {v : Value} {L : List Tok} (h : SW w W s i v L) : w.heap.size + 4 ≤ W.heap.size := h.t.lt
theorem SW.only {w W W' : World} {s : ByteArray} {i j : Nat} {v : Value} {L : List Tok} (h : SW w W s i v L) (ho : Only (fun k => k = w.heap.size + 1 + 1 + 1) W W') (ht : TextAt W' (w.heap.size + 1 + 1 + 1) s j) : SW w W' s j v L := by
  have hz := h.size
  refine ⟨?_, ?_, ?_, ?_, ht, own_only h.r ho (fun k hk e => by omega)⟩
  · have hb := h.below
    exact ⟨ho.os.trans hb.os, ho.tape.trans hb.tape, ho.output.trans hb.output, Nat.le_trans hb.size ho.size, fun k hk => (ho.block k (by omega) (by omega)).trans (hb.block k hk)⟩
  · rw [ho.block _ (by omega) (by omega)]; exact h.a
  · rw [ho.block _ (by omega) (by omega)]; exact h.b
  · rw [ho.block _ (by omega) (by omega)]; exact h.c
theorem SW.step {w W W' : World} {s : ByteArray} {i : Nat} {v : Value} {L : List Tok} (h : SW w W s i v L) (hb : Below W.heap.size W W') : SW w W' s i v L := h.only (Only.of_below hb) (h.t.below hb)
theorem SW.snoc {w W W' : World} {s : ByteArray} {i : Nat} {v v' : Value} {L : List Tok} {t : Tok} (h : SW w W s i v L) (hb : Below (w.heap.size + 4) W W') (ho : W'.ownsRow (w.heap.size + 4) 44 5 v' (L ++ [t]).length (toks (L ++ [t]))) : SW w (W'.setCell ⟨w.heap.size, 0, none⟩ v') s i v' (L ++ [t]) := by
  have hz := h.size
  refine ⟨?_, ?_, ?_, ?_, ?_, ownsRow_setCell_below ho (show w.heap.size < w.heap.size + 4 by omega) v'⟩
  · have h2 := h.below
    exact (Below.setCell (h2.trans (hb.mono (by omega))) (Nat.le_refl _) _)
  · exact set_put W' _ 0 v' ((hb.block _ (by omega)).trans h.a)
  · rw [Below.heap_setCell _ _ _ _ (by show w.heap.size + 1 ≠ w.heap.size; omega), hb.block _ (by omega)]; exact h.b
  · rw [Below.heap_setCell _ _ _ _ (by show w.heap.size + 1 + 1 ≠ w.heap.size; omega), hb.block _ (by omega)]; exact h.c
  · have ht := h.t
    unfold TextAt at ht ⊢
    rw [Below.heap_setCell _ _ _ _ (by show w.heap.size + 1 + 1 + 1 ≠ w.heap.size; omega), hb.block _ (by omega)]
    exact ht
end Go.Proofs.Ytghddknhoiaboaa
