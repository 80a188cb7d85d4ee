/-
  lex: the document's Scan.
-/
import Derived.Test.YtghddknhoiaboaaLsA
namespace Go.Proofs.Ytghddknhoiaboaa
open Go.ChangeShapes Go.WideShapes Go.ChangeAt Go.RowKit
set_option linter.unusedVariables false
set_option maxRecDepth 100000

def RScanP (w : World) (s : ByteArray) (e : Ending) (w' : World) : Prop :=
  (match scanS s with
    | .ok L => ∃ v, e = .returned (.tuple #[v, .agg #[.int .i64 0, .int .i64 0], .int .i64 0]) ∧ w'.ownsRow (w.heap.size + 3) 38 5 v L.length (toks L)
    | .bad p => e = .returned (.tuple #[.slice none 0 0, .agg #[.int .i64 (p.1 : Int), .int .i64 (p.2 : Int)], .int .i64 10])) ∧ Below w.heap.size w w'
theorem LW.cells {w W : World} {s : ByteArray} {i : Nat} (h : LW w W s i) (hi : i ≤ s.size) :
    W.cell? ⟨w.heap.size + 1 + 1, 0, none⟩ = some (.int .i64 ((posAt (bytesOf s) i).1 : Int)) ∧ W.cell? ⟨w.heap.size + 1 + 1, 1, none⟩ = some (.int .i64 ((posAt (bytesOf s) i).2 : Int)) ∧
    W.frozen? ⟨w.heap.size + 1 + 1, 0, none⟩ = false ∧ W.frozen? ⟨w.heap.size + 1 + 1, 1, none⟩ = false ∧
    W.cell? ⟨w.heap.size + 1, i * 2, none⟩ = some (.int .i64 (plv (bytesOf s) i (i * 2))) ∧ W.cell? ⟨w.heap.size + 1, i * 2 + 1, none⟩ = some (.int .i64 (plv (bytesOf s) i (i * 2 + 1))) ∧
    W.frozen? ⟨w.heap.size + 1, i * 2, none⟩ = false ∧ W.frozen? ⟨w.heap.size + 1, i * 2 + 1, none⟩ = false := by
  refine ⟨cell_of_row W _ 0 _ _ (0, 0) h.p, cell_of_row W _ 1 _ _ (0, 0) h.p, frozen_of_row W _ 0 _ _ h.p, frozen_of_row W _ 1 _ _ h.p, ?_, ?_, frozen_of_row W _ _ _ _ h.pl, frozen_of_row W _ _ _ _ h.pl⟩
  · rw [cell_of_cells h.pl, plc_get _ _ _ _ (by omega)]
  · rw [cell_of_cells h.pl, plc_get _ _ _ _ (by omega)]
theorem size_setCell' (W : World) (a : Addr) (u : Value) : (W.setCell a u).heap.size = W.heap.size := by simp only [World.setCell, Array.size_modify]
theorem LW.put {w W : World} {s : ByteArray} {i : Nat} (h : LW w W s i) (hi : i < s.size) (W2 : World)
    (hW : W2 = (W.setCell ⟨w.heap.size + 1, i * 2, none⟩ (.int .i64 ((posAt (bytesOf s) i).1 : Int))).setCell ⟨w.heap.size + 1, i * 2 + 1, none⟩ (.int .i64 ((posAt (bytesOf s) i).2 : Int))) :
    Below w.heap.size w W2 ∧ W2.heap[w.heap.size]? = some (.cells #[.int .i64 0, .int .i64 0] 25) ∧ W2.heap[w.heap.size + 1]? = some (.cells (plc (bytesOf s) (s.size + 1) (i + 1)).toArray 25) ∧
    W2.heap[w.heap.size + 1 + 1]? = some (.cells #[.int .i64 ((posAt (bytesOf s) i).1 : Int), .int .i64 ((posAt (bytesOf s) i).2 : Int)] 25) ∧ w.heap.size + 3 ≤ W2.heap.size := by
  subst hW
  refine ⟨(h.below.setCell (Nat.le_succ _) _).setCell (Nat.le_succ _) _, ?_, ?_, ?_, ?_⟩
  · rw [Below.heap_setCell _ _ _ _ (by show w.heap.size ≠ w.heap.size + 1; omega), Below.heap_setCell _ _ _ _ (by show w.heap.size ≠ w.heap.size + 1; omega)]
    exact h.res
  · rw [set_put _ _ _ _ (set_put _ _ _ _ h.pl), Nat.mul_comm i 2, plc_put _ _ _ (by omega)]
  · rw [Below.heap_setCell _ _ _ _ (by show w.heap.size + 1 + 1 ≠ w.heap.size + 1; omega), Below.heap_setCell _ _ _ _ (by show w.heap.size + 1 + 1 ≠ w.heap.size + 1; omega)]
    exact h.p
  · rw [size_setCell', size_setCell']; exact h.size
theorem LW.plain {w W : World} {s : ByteArray} {i : Nat} (h : LW w W s i) (hi : i < s.size) (hc : ¬ (bytesOf s).getD i 0 = 10) :
    LW w (((W.setCell ⟨w.heap.size + 1, i * 2, none⟩ (.int .i64 ((posAt (bytesOf s) i).1 : Int))).setCell ⟨w.heap.size + 1, i * 2 + 1, none⟩ (.int .i64 ((posAt (bytesOf s) i).2 : Int))).setCell ⟨w.heap.size + 1 + 1, 1, none⟩ (.int .i64 (((posAt (bytesOf s) i).2 : Int) + 1))) s (i + 1) := by
  obtain ⟨h1, h2, h3, h4, h5⟩ := h.put hi _ rfl
  have hp : posAt (bytesOf s) (i + 1) = ((posAt (bytesOf s) i).1, (posAt (bytesOf s) i).2 + 1) := by
    rw [posAt_succ _ _ (by rw [bytesOf_length]; exact hi)]
    exact if_neg hc
  refine ⟨h1.setCell (by show w.heap.size ≤ w.heap.size + 1 + 1; omega) _, ?_, ?_, ?_, ?_⟩
  · rw [Below.heap_setCell _ _ _ _ (by show w.heap.size ≠ w.heap.size + 1 + 1; omega)]; exact h2
  · rw [Below.heap_setCell _ _ _ _ (by show w.heap.size + 1 ≠ w.heap.size + 1 + 1; omega)]; exact h3
  · rw [set_put _ _ _ _ h4, hp]; rfl
  · rw [size_setCell']; exact h5
theorem LW.line {w W : World} {s : ByteArray} {i : Nat} (h : LW w W s i) (hi : i < s.size) (hc : (bytesOf s).getD i 0 = 10) (x : Value) :
    LW w (((((W.setCell ⟨w.heap.size + 1, i * 2, none⟩ (.int .i64 ((posAt (bytesOf s) i).1 : Int))).setCell ⟨w.heap.size + 1, i * 2 + 1, none⟩ (.int .i64 ((posAt (bytesOf s) i).2 : Int))).setCell ⟨w.heap.size + 1 + 1, 1, none⟩ x).setCell ⟨w.heap.size + 1 + 1, 0, none⟩ (.int .i64 (((posAt (bytesOf s) i).1 : Int) + 1))).setCell ⟨w.heap.size + 1 + 1, 1, none⟩ (.int .i64 1)) s (i + 1) := by
  obtain ⟨h1, h2, h3, h4, h5⟩ := h.put hi _ rfl
  have hp : posAt (bytesOf s) (i + 1) = ((posAt (bytesOf s) i).1 + 1, 1) := by
    rw [posAt_succ _ _ (by rw [bytesOf_length]; exact hi)]
    exact if_pos hc
  refine ⟨((h1.setCell (by show w.heap.size ≤ w.heap.size + 1 + 1; omega) _).setCell (by show w.heap.size ≤ w.heap.size + 1 + 1; omega) _).setCell (by show w.heap.size ≤ w.heap.size + 1 + 1; omega) _, ?_, ?_, ?_, ?_⟩
  · rw [Below.heap_setCell _ _ _ _ (by show w.heap.size ≠ w.heap.size + 1 + 1; omega), Below.heap_setCell _ _ _ _ (by show w.heap.size ≠ w.heap.size + 1 + 1; omega), Below.heap_setCell _ _ _ _ (by show w.heap.size ≠ w.heap.size + 1 + 1; omega)]; exact h2
  · rw [Below.heap_setCell _ _ _ _ (by show w.heap.size + 1 ≠ w.heap.size + 1 + 1; omega), Below.heap_setCell _ _ _ _ (by show w.heap.size + 1 ≠ w.heap.size + 1 + 1; omega), Below.heap_setCell _ _ _ _ (by show w.heap.size + 1 ≠ w.heap.size + 1 + 1; omega)]; exact h3
  · rw [set_put _ _ _ _ (set_put _ _ _ _ (set_put _ _ _ _ h4)), hp]; rfl
  · rw [size_setCell', size_setCell', size_setCell']; exact h5
theorem RW.drew {w W : World} {s : ByteArray} {v : Value} {L : List Tok} (h : RW w W s v L) : RW w W.drew s v L :=
  ⟨⟨h.below.os, h.below.tape, h.below.output, h.below.size, h.below.block⟩, h.res, h.pl, h.size, h.row⟩
def ScanAt (s : ByteArray) (L : List Tok) (i : Nat) : Prop := scanS s = ScR.pre L (scanT (posAt (bytesOf s) i) ((bytesOf s).drop i))
theorem drop_256 (s : ByteArray) (i : Nat) : ∀ c ∈ (bytesOf s).drop i, c < 256 := fun c hc => bytesOf_lt s c (List.mem_of_mem_drop hc)
theorem drop_pos (s : ByteArray) (i : Nat) (hi : i < s.size) : 0 < ((bytesOf s).drop i).length := by rw [List.length_drop, bytesOf_length]; omega
theorem ScanAt.tok {s : ByteArray} {L : List Tok} {i : Nat} (h : ScanAt s L i) (hi : i < s.size) (hb : blankLen false ((bytesOf s).drop i) = 0) {k n : Int} {t : ByteArray} {len : Nat} (hk : tokL ((bytesOf s).drop i) = .tok k n t len) :
    ScanAt s (L ++ [⟨k, posAt (bytesOf s) i, n, t⟩]) (i + len) := by
  unfold ScanAt at *
  rw [h, scanT_tok _ _ (drop_256 s i) (drop_pos s i hi) hb hk, pre_cons, posAt_add, List.drop_drop]
theorem ScanAt.bad {s : ByteArray} {L : List Tok} {i : Nat} (h : ScanAt s L i) (hi : i < s.size) (hb : blankLen false ((bytesOf s).drop i) = 0) {k : Nat} (hk : tokL ((bytesOf s).drop i) = .bad k) :
    scanS s = .bad (posAt (bytesOf s) (i + k)) := by
  unfold ScanAt at h
  rw [h, scanT_bad _ _ (drop_pos s i hi) hb hk, posAt_add]
  rfl
theorem ScanAt.skip {s : ByteArray} {L : List Tok} {i : Nat} (h : ScanAt s L i) (j : Nat) (hij : i ≤ j) (hj : j ≤ s.size) (hb : j + blankLen false ((bytesOf s).drop j) = i + blankLen false ((bytesOf s).drop i)) : ScanAt s L j := by
  unfold ScanAt at *
  obtain ⟨d, rfl⟩ : ∃ d, j = i + d := ⟨j - i, by omega⟩
  rw [h, scanT_skip _ _ d (drop_256 s i) (by rw [List.drop_drop]; omega) (by rw [List.length_drop, bytesOf_length]; omega), posAt_add, List.drop_drop]
theorem ScanAt.blank {s : ByteArray} {L : List Tok} {i : Nat} (h : ScanAt s L i) (hi : i < s.size) (hb : isBl ((bytesOf s).getD i 0) = true) : ScanAt s L (i + 1) := by
  refine h.skip (i + 1) (by omega) (by omega) ?_
  rw [drop_at (bytesOf s) i (by rw [bytesOf_length]; exact hi)]
  show _ = i + (if isBl _ = true then 1 + blankLen false _ else _)
  rw [if_pos hb]
  omega
theorem ScanAt.done {s : ByteArray} {L : List Tok} (h : ScanAt s L s.size) : scanS s = .ok L := by
  unfold ScanAt at h
  rw [List.drop_eq_nil_of_le (by rw [bytesOf_length]; exact Nat.le_refl _), scanT_nil] at h
  rw [h]
  show ScR.ok (L ++ []) = _
  rw [List.append_nil]
theorem ScanAt.start (s : ByteArray) : ScanAt s [] 0 := by
  unfold ScanAt
  rw [pre_nil, scanS_T]
  rfl
theorem tok_open (s : ByteArray) (i : Nat) (h : (bytesOf s).getD i 0 = 40) : tokL ((bytesOf s).drop i) = .tok 0 0 ⟨#[]⟩ 1 := by
  have e : ((bytesOf s).drop i).getD 0 0 = (bytesOf s).getD i 0 := by simp [List.getD_eq_getElem?_getD, List.getElem?_drop]
  unfold tokL
  rw [e, if_pos h]
theorem tok_close (s : ByteArray) (i : Nat) (h : (bytesOf s).getD i 0 = 41) : tokL ((bytesOf s).drop i) = .tok 1 0 ⟨#[]⟩ 1 := by
  have e : ((bytesOf s).drop i).getD 0 0 = (bytesOf s).getD i 0 := by simp [List.getD_eq_getElem?_getD, List.getElem?_drop]
  unfold tokL
  rw [e, if_neg (by omega), if_pos h]
theorem tok_str (s : ByteArray) (i : Nat) (h : (bytesOf s).getD i 0 = 34) : tokL ((bytesOf s).drop i) = match strR ((bytesOf s).drop (i + 1)) with
    | .done b n => if b.length ≤ 4096 then .tok 4 0 (bstr b) (1 + n) else .bad 0
    | .open_ => .bad 0
    | .bad k => .bad (1 + k) := by
  have e : ((bytesOf s).drop i).getD 0 0 = (bytesOf s).getD i 0 := by simp [List.getD_eq_getElem?_getD, List.getElem?_drop]
  unfold tokL
  rw [e, if_neg (by omega), if_neg (by omega), if_pos h, List.drop_drop]
  cases strR ((bytesOf s).drop (i + 1)) <;> rfl
theorem tok_wd (s : ByteArray) (i : Nat) (h1 : ¬ (bytesOf s).getD i 0 = 40) (h2 : ¬ (bytesOf s).getD i 0 = 41) (h3 : ¬ (bytesOf s).getD i 0 = 34) : tokL ((bytesOf s).drop i) = match wordS (bstr (((bytesOf s).drop i).take (wordLen ((bytesOf s).drop i)))) with
    | some (k, n, t) => .tok k n t (wordLen ((bytesOf s).drop i))
    | none => .bad 0 := by
  have e : ((bytesOf s).drop i).getD 0 0 = (bytesOf s).getD i 0 := by simp [List.getD_eq_getElem?_getD, List.getElem?_drop]
  unfold tokL
  rw [e, if_neg h1, if_neg h2, if_neg h3]
  cases wordS (bstr (((bytesOf s).drop i).take (wordLen ((bytesOf s).drop i)))) with
  | none => rfl
  | some x => obtain ⟨k, n, t⟩ := x; rfl
theorem blank_none (s : ByteArray) (i : Nat) (hi : i < s.size) (h1 : isBl ((bytesOf s).getD i 0) = false) (h2 : ¬ (bytesOf s).getD i 0 = 59) : blankLen false ((bytesOf s).drop i) = 0 := by
  rw [drop_at (bytesOf s) i (by rw [bytesOf_length]; exact hi)]
  show (if isBl _ = true then 1 + blankLen false _ else if _ = 59 then _ else 0) = 0
  rw [if_neg (by rw [h1]; decide), if_neg h2]
theorem heap_lt {W : World} {g : Nat} {o : Obj} (h : W.heap[g]? = some o) : g < W.heap.size := (Array.getElem?_eq_some_iff.1 h).1
theorem bad_post {w W : World} {s : ByteArray} {v : Value} {L : List Tok} {P : Nat × Nat} (h : RW w W s v L) (hs : scanS s = .bad P) :
    ∃ WF, WF = ((W.setCell ⟨w.heap.size, 0, none⟩ (.int .i64 (P.1 : Int))).setCell ⟨w.heap.size, 1, none⟩ (.int .i64 (P.2 : Int))).drew ∧ WF.cell? ⟨w.heap.size, 0, none⟩ = some (.int .i64 (P.1 : Int)) ∧ WF.cell? ⟨w.heap.size, 1, none⟩ = some (.int .i64 (P.2 : Int)) ∧
      RScanP w s (.returned (.tuple #[.slice none 0 0, .agg #[.int .i64 (P.1 : Int), .int .i64 (P.2 : Int)], .int .i64 10])) WF := by
  have hh : ((W.setCell ⟨w.heap.size, 0, none⟩ (.int .i64 (P.1 : Int))).setCell ⟨w.heap.size, 1, none⟩ (.int .i64 (P.2 : Int))).heap[w.heap.size]? = some (.cells #[.int .i64 (P.1 : Int), .int .i64 (P.2 : Int)] 25) := by
    rw [set_put _ _ _ _ (set_put _ _ _ _ h.res)]; rfl
  refine ⟨_, rfl, cell_of_row _ w.heap.size 0 _ _ (0, 0) hh, cell_of_row _ w.heap.size 1 _ _ (0, 0) hh, ?_⟩
  unfold RScanP
  rw [hs]
  have hb := (h.below.setCell (p := ⟨w.heap.size, 0, none⟩) (Nat.le_refl _) (.int .i64 (P.1 : Int))).setCell (p := ⟨w.heap.size, 1, none⟩) (Nat.le_refl _) (.int .i64 (P.2 : Int))
  exact ⟨rfl, ⟨hb.os, hb.tape, hb.output, hb.size, hb.block⟩⟩
theorem RW.res_cells {w W : World} {s : ByteArray} {v : Value} {L : List Tok} (h : RW w W s v L) :
    W.cell? ⟨w.heap.size, 0, none⟩ = some (.int .i64 0) ∧ W.cell? ⟨w.heap.size, 1, none⟩ = some (.int .i64 0) ∧ W.frozen? ⟨w.heap.size, 0, none⟩ = false ∧ W.frozen? ⟨w.heap.size, 1, none⟩ = false :=
  ⟨cell_of_row W _ 0 _ _ (0, 0) h.res, cell_of_row W _ 1 _ _ (0, 0) h.res, frozen_of_row W _ 0 _ _ h.res, frozen_of_row W _ 1 _ _ h.res⟩
end Go.Proofs.Ytghddknhoiaboaa
