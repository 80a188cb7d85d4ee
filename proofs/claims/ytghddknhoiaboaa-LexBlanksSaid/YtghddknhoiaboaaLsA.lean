/-
  lex: the document's row of places.
-/
import Derived.Test.YtghddknhoiaboaaLpA
import Derived.Test.YtghddknhoiaboaaLexW
import Derived.Laws.MakeOwn
namespace Go.Proofs.Ytghddknhoiaboaa
open Go.ChangeShapes Go.WideShapes Go.ChangeAt Go.RowKit
set_option linter.unusedVariables false
set_option maxRecDepth 100000

def plv (l : List Nat) (i j : Nat) : Int := if j / 2 < i then (if j % 2 = 0 then ((posAt l (j / 2)).1 : Int) else ((posAt l (j / 2)).2 : Int)) else 0
def plc (l : List Nat) (n i : Nat) : List Value := (List.range (2 * n)).map fun j => Value.int .i64 (plv l i j)
theorem plc_length (l : List Nat) (n i : Nat) : (plc l n i).length = 2 * n := by unfold plc; rw [List.length_map, List.length_range]
theorem plc_get (l : List Nat) (n i j : Nat) (hj : j < 2 * n) : (plc l n i)[j]? = some (.int .i64 (plv l i j)) := by
  unfold plc
  rw [List.getElem?_map, List.getElem?_range hj]
  rfl
theorem plc_made (l : List Nat) (n : Nat) : madeCells #[.int .i64 0, .int .i64 0] (n * 2) = (plc l n 0).toArray := by
  have e : (madeCells #[Value.int .i64 0, .int .i64 0] (n * 2)).toList = plc l n 0 := by
    apply List.ext_getElem?
    intro j
    by_cases hj : j < 2 * n
    · rw [plc_get l n 0 j hj]
      have h2 : plv l 0 j = 0 := if_neg (Nat.not_lt_zero _)
      rw [h2]
      simp only [madeCells, Array.toList_map, Array.toList_range, List.getElem?_map]
      rw [List.getElem?_range (by omega)]
      have h3 : j % 2 = 0 ∨ j % 2 = 1 := by omega
      show some (#[Value.int .i64 0, .int .i64 0][j % 2]!) = _
      rcases h3 with h3 | h3 <;> rw [h3] <;> rfl
    · rw [List.getElem?_eq_none (by rw [Array.length_toList, size_madeCells]; omega), List.getElem?_eq_none (by rw [plc_length]; omega)]
  rw [← e]
theorem plc_put (l : List Nat) (n i : Nat) (hi : i < n) : ((plc l n i).toArray.setIfInBounds (2 * i) (.int .i64 ((posAt l i).1 : Int))).setIfInBounds (2 * i + 1) (.int .i64 ((posAt l i).2 : Int)) = (plc l n (i + 1)).toArray := by
  rw [List.setIfInBounds_toArray, List.setIfInBounds_toArray]
  congr 1
  apply List.ext_getElem?
  intro j
  by_cases hj : j < 2 * n
  · rw [plc_get l n (i + 1) j hj, List.getElem?_set, List.getElem?_set, List.length_set, plc_length, plc_get l n i j hj]
    by_cases h1 : 2 * i + 1 = j
    · rw [if_pos h1, if_pos (by omega)]
      congr 2
      unfold plv
      rw [if_pos (by omega), if_neg (by omega)]
      have : j / 2 = i := by omega
      rw [this]
    · rw [if_neg h1]
      by_cases h2 : 2 * i = j
      · rw [if_pos h2, if_pos (by omega)]
        congr 2
        unfold plv
        rw [if_pos (by omega), if_pos (by omega)]
        have : j / 2 = i := by omega
        rw [this]
      · rw [if_neg h2]
        congr 2
        unfold plv
        by_cases h3 : j / 2 < i
        · have h4 : j / 2 < i + 1 := by omega
          rw [if_pos h3, if_pos h4]
        · have h4 : ¬ j / 2 < i + 1 := by omega
          rw [if_neg h3, if_neg h4]
  · rw [List.getElem?_eq_none (by rw [List.length_set, List.length_set, plc_length]; omega), List.getElem?_eq_none (by rw [plc_length]; omega)]
theorem cell_of_cells {W : World} {g : Nat} {cs : List Value} {t : TypeId} (h : W.heap[g]? = some (.cells cs.toArray t)) (j : Nat) : W.cell? ⟨g, j, none⟩ = cs[j]? := by
  simp only [World.cell?, h]
  simp
structure LW (w W : World) (s : ByteArray) (i : Nat) : Prop where
  below : Below w.heap.size w W
  res : W.heap[w.heap.size]? = some (.cells #[.int .i64 0, .int .i64 0] 25)
  pl : W.heap[w.heap.size + 1]? = some (.cells (plc (bytesOf s) (s.size + 1) i).toArray 25)
  p : W.heap[w.heap.size + 1 + 1]? = some (.cells #[.int .i64 ((posAt (bytesOf s) i).1 : Int), .int .i64 ((posAt (bytesOf s) i).2 : Int)] 25)
  size : w.heap.size + 3 ≤ W.heap.size
structure RW (w W : World) (s : ByteArray) (v : Value) (L : List Tok) : Prop where
  below : Below w.heap.size w W
  res : W.heap[w.heap.size]? = some (.cells #[.int .i64 0, .int .i64 0] 25)
  pl : W.heap[w.heap.size + 1]? = some (.cells (plc (bytesOf s) (s.size + 1) s.size).toArray 25)
  size : w.heap.size + 3 ≤ W.heap.size
  row : W.ownsRow (w.heap.size + 3) 38 5 v L.length (toks L)
theorem RW.step {w W W' : World} {s : ByteArray} {v : Value} {L : List Tok} (h : RW w W s v L) (hb : Below W.heap.size W W') : RW w W' s v L :=
  ⟨Below.step hb h.below (by have := h.size; omega), (hb.block _ (by have := h.size; omega)).trans h.res, (hb.block _ (by have := h.size; omega)).trans h.pl, Nat.le_trans h.size hb.size, own_only h.row (Only.of_below (F := fun _ => False) hb) (fun _ _ h => h)⟩
theorem RW.place {w W : World} {s : ByteArray} {v : Value} {L : List Tok} (h : RW w W s v L) (i : Nat) (hi : i < s.size) :
    W.cell? ⟨w.heap.size + 1, i * 2, none⟩ = some (.int .i64 ((posAt (bytesOf s) i).1 : Int)) ∧ W.cell? ⟨w.heap.size + 1, i * 2 + 1, none⟩ = some (.int .i64 ((posAt (bytesOf s) i).2 : Int)) := by
  rw [cell_of_cells h.pl, cell_of_cells h.pl, plc_get _ _ _ _ (by omega), plc_get _ _ _ _ (by omega)]
  unfold plv
  have e1 : i * 2 / 2 = i := by omega
  have e2 : (i * 2 + 1) / 2 = i := by omega
  rw [e1, e2, if_pos hi, if_pos hi, if_pos (by omega), if_neg (by omega)]
  exact ⟨rfl, rfl⟩
/-- the row has grown, nothing else of elder blocks changed -/
theorem RW.grow {w W W' : World} {s : ByteArray} {v v' : Value} {L L' : List Tok} (h : RW w W s v L) (hb : Below (w.heap.size + 3) W W') (ho : W'.ownsRow (w.heap.size + 3) 38 5 v' L'.length (toks L')) : RW w W' s v' L' :=
  ⟨h.below.trans (hb.mono (by omega)), (hb.block _ (by omega)).trans h.res, (hb.block _ (by omega)).trans h.pl, Nat.le_trans h.size hb.size, ho⟩
theorem infoPos : (Try.prog.info? 25).map (fun i => (i.zero, i.size, i.bytes)) = some (some (.agg #[.int .i64 0, .int .i64 0]), 2, 16) := by kernel_rfl
theorem infoTokR : (Try.prog.info? 38).map (fun i => (i.zero, i.size, i.bytes)) = some (some (tokV 0 (0, 0) 0 ⟨#[]⟩), 5, 48) := by kernel_rfl
/-- append(l, t) -/
theorem run_snoc_tokR (W : World) (ty : TypeId) (base g : Nat) (v : Value) (L : List Tok) (t : Tok) (h0 : W.ownsRow base 38 5 v L.length (toks L)) (hg : ∀ j u, (tokCells t)[j]? = some u → W.cell? ⟨g, j, none⟩ = some u) (hl : L.length ≤ 100000) (hbase : base ≤ W.heap.size) :
    ∃ v' W', (Builtin.append_ #[29, 29] ty #[v, .slice (some ⟨g, 0, none⟩) 1 1]).run Try.prog W = .ok v' W' ∧ W'.ownsRow base 38 5 v' (L ++ [t]).length (toks (L ++ [t])) ∧ Below base W W' := by
  obtain ⟨i0, hi, hz0, hz1, hz2⟩ := info_parts infoTokR
  obtain ⟨v', W', hr, ho, hgr, hnil⟩ := run_append_own (P := Try.prog) W base 29 ty 38 i0 _ 5 48 Try.underlying29 hi hz0 hz1 hz2 rfl (by decide) v L.length (toks L) h0 ⟨g, 0, none⟩ 1 1 (tokCells t) rfl (fun j u hu => by
    have h := hg j u hu
    have e : (⟨g, 0, none⟩ : Addr).add j = ⟨g, j, none⟩ := by simp [Addr.add]; omega
    rw [e]
    exact h) (fun u hu => by
      simp only [tokCells, List.mem_cons, List.not_mem_nil, or_false] at hu
      rcases hu with rfl | rfl | rfl | rfl | rfl <;> rfl) (by unfold maxLen; omega) (by omega) hbase
  refine ⟨v', W', hr, ?_, (Below.refl _ W).grown hgr hbase (fun k hk => own_baseN h0 hk)⟩
  rw [List.length_append, toks_append, toks_one]
  exact ho
theorem toksR_none (W : World) (base : Nat) : W.ownsRow base 38 5 (.slice none 0 0) 0 (toks []) := ⟨rfl, .inl ⟨rfl, rfl⟩⟩
end Go.Proofs.Ytghddknhoiaboaa
