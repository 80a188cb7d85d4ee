/-
  The disk's has and Read.
-/
import Derived.Test.YtnbmmlepbifciaaDiskB
import Derived.Laws.IdiomStrings
import Derived.Outline
namespace Go.Proofs.Ytnbmmlepbifciaa
open Go.ChangeShapes Go.WideShapes Go.ChangeAt Go.RowKit
set_option linter.unusedVariables false

/-- a text's bytes as numbers -/
def bytesOf (s : ByteArray) : List Nat := s.data.toList.map fun c => c.toNat
theorem bytesOf_length (s : ByteArray) : (bytesOf s).length = s.size := by
  unfold bytesOf
  rw [List.length_map, Array.length_toList]
  rfl
theorem bytesOf_lt (s : ByteArray) : ∀ c ∈ bytesOf s, c < 256 := by
  intro c hc
  obtain ⟨x, _, rfl⟩ := List.mem_map.1 hc
  exact x.toNat_lt
/-- a slice of bytes: its elements -/
def ByteRow (w : World) (a : Option Addr) (len : Nat) (l : List Nat) : Prop :=
  l.length = len ∧ len ≤ maxLen ∧ (∀ c ∈ l, c < 256) ∧ (0 < len → ∃ b o, a = some ⟨b, o, none⟩ ∧ ∀ i, i < len → w.cell? ⟨b, o + i, none⟩ = some (.int .u8 ((l.getD i 0 : Nat) : Int)))

/-- the rows of the disk, by their cells -/
theorem DiskAt.rows {w : World} {F : Nat → Prop} {p : Nat} {s : DSt} (h : DiskAt w F p s) : ∃ lb nb lc nc wv,
    w.cell? ⟨p, 0, none⟩ = some (.slice (some ⟨lb, 0, none⟩) s.L.length lc) ∧ w.cell? ⟨p, 1, none⟩ = some (.slice (some ⟨nb, 0, none⟩) s.L.length nc) ∧ w.cell? ⟨p, 2, none⟩ = some wv ∧
    (∀ i, i < s.L.length → w.cell? ⟨lb, i, none⟩ = some (.string (s.L.getD i ⟨#[]⟩))) ∧ (∀ i, i < s.L.length → w.cell? ⟨nb, i, none⟩ = some (.string (s.N.getD i ⟨#[]⟩))) ∧
    s.N.length = s.L.length ∧ s.L.length ≤ lc ∧ lc ≤ maxLen ∧ (∀ i, w.frozen? ⟨lb, i, none⟩ = false) ∧ (∀ i, w.frozen? ⟨nb, i, none⟩ = false) ∧ F lb ∧ F nb ∧ lb ≠ nb ∧ lb ≠ p ∧ nb ≠ p := by
  obtain ⟨lb, nb, lc, nc, wv, h1, h2, h3, h4, h5, h6, h7, h8, h9, h10, h11⟩ := h
  have hl : s.N.length = s.L.length := by have := h3.1; simp only [strs, List.length_map] at this; omega
  obtain ⟨cur, hc⟩ := row_heap h2
  obtain ⟨cur', hc'⟩ := row_heap h3
  have hcap : s.L.length ≤ lc ∧ lc ≤ maxLen := by
    rcases h2.2 with ⟨h', _⟩ | ⟨g, cap, cur, h', _, _, a1, a2, _⟩
    · cases h'
    · injection h' with _ _ h'
      subst h'
      exact ⟨a1, a2⟩
  refine ⟨lb, nb, lc, nc, wv, by simp [World.cell?, h1], by simp [World.cell?, h1], by simp [World.cell?, h1], fun i hi => ?_, fun i hi => ?_, hl, hcap.1, hcap.2, fun i => by simp [World.frozen?, hc], fun i => by simp [World.frozen?, hc'], h7, h8, h5, types_ne hc h1 (by decide), types_ne hc' h1 (by decide)⟩
  · rw [World.ownsRow.cellAt h2 i (by omega)]
    simp [strs, List.getElem?_map, List.getElem?_eq_getElem hi, List.getD]
  · rw [World.ownsRow.cellAt h3 i (by omega)]
    have hi' : i < s.N.length := by omega
    simp [strs, List.getElem?_map, List.getElem?_eq_getElem hi', List.getD]

theorem has_any (w : World) (F : Nat → Prop) (p : Nat) (s : DSt) (n : Int) (h : DiskAt w F p s) :
    Calls Try.prog 22 #[.pointer (some ⟨p, 0, none⟩), .int .i64 n] w fun e w' => e = .returned (.bool (decide (0 ≤ n ∧ n < (s.L.length : Int)))) ∧ w = w' := by
  obtain ⟨lb, nb, lc, nc, wv, c0, c1, c2, cl, cn, hl, _⟩ := h.rows
  clear c1 c2 cl cn h
  generalize s.L.length = m at *
  by_cases h0 : 0 ≤ n
  · by_cases h1 : n < (m : Int)
    · have e : Hid (decide (0 ≤ n ∧ n < (m : Int)) = true) := Lib.hid (decide_eq_true ⟨h0, h1⟩)
      go_enter Try.func22, Try.ntmps22
      go_wp2
      go_ret
      exact ⟨ret_bool e.out.symm, rfl⟩
    · go_enter Try.func22, Try.ntmps22
      go_wp2
      go_ret
      exact ⟨ret_bool (decide_eq_false (by omega)).symm, rfl⟩
  · go_enter Try.func22, Try.ntmps22
    go_wp2
    go_ret
    exact ⟨ret_bool (by rw [decide_eq_false (show ¬ 0 ≤ n by omega)]; rfl), rfl⟩

theorem row_of_string (W : World) (s : ByteArray) (hs : s.size ≤ maxLen) (c : Nat) (fr : Nat × Nat) : ByteRow (W.drew.alloc (.cells (bytesRow s c) 5 fr)) (some ⟨W.heap.size, 0, none⟩) s.size (bytesOf s) := by
  refine ⟨bytesOf_length s, hs, bytesOf_lt s, fun h0 => ⟨_, _, rfl, fun i hi => ?_⟩⟩
  have e1 : (W.drew.alloc (.cells (bytesRow s c) 5 fr)).heap[W.heap.size]? = some (.cells (bytesRow s c) 5 fr) := by
    show (W.heap.push _)[W.heap.size]? = _
    simp
  have hd : i < s.data.size := hi
  rw [Nat.zero_add]
  simp only [World.cell?, e1]
  have h2 := bytesRow_at s c i hd
  simp only [h2]
  simp [bytesOf, List.getD, List.getElem?_map, Array.getElem?_toList, Array.getElem?_eq_getElem hd]

/-- Read, and what it answers -/
theorem read_ok (w : World) (F : Nat → Prop) (p : Nat) (s : DSt) (n : Nat) (h : DiskAt w F p s) (ho : s.off = false) (hn : n < s.L.length) (hz : (s.N.getD n ⟨#[]⟩).size ≤ maxLen) :
    Calls Try.prog 12 #[.pointer (some ⟨p, 0, none⟩), .int .i64 n] w fun e w' => ∃ g c, e = .returned (.tuple #[.slice (some ⟨g, 0, none⟩) (s.N.getD n ⟨#[]⟩).size c, .int .i64 0]) ∧ ByteRow w' (some ⟨g, 0, none⟩) (s.N.getD n ⟨#[]⟩).size (bytesOf (s.N.getD n ⟨#[]⟩)) ∧ w.heap.size ≤ g ∧ Below w.heap.size w w' := by
  have hready := ready_any w F p s h
  have hhas := has_any w F p s n h
  rw [ho, if_neg (by decide)] at hready
  rw [decide_eq_true (by omega)] at hhas
  obtain ⟨lb, nb, lc, nc, wv, c0, c1, c2, cl, cn, hl, hcap, hmx, _⟩ := h.rows
  have hcell := cn n hn
  have hm : s.L.length ≤ 9223372036854775807 := by unfold maxLen at hmx; omega
  generalize s.N.getD n ⟨#[]⟩ = t at *
  generalize s.L.length = m at *
  have HR := Lib.hid hready
  have HH := Lib.hid hhas
  have hconv := fun W => run_bytes_of_string (P := Try.prog) W 9 22 5 t Try.underlying9 Try.underlying22 Try.underlying5
  clear hready hhas h ho cl cn c0 c2 hl hcap hmx
  go_enter Try.func12, Try.ntmps12
  go_wp2_with (first
    | (go_at_call 21; refine HR.out.mono ?_; rintro e1 w1 ⟨rfl, rfl⟩)
    | (go_at_call 22; refine HH.out.mono ?_; rintro e1 w1 ⟨rfl, rfl⟩))
  go_ret2
  exact ⟨_, _, rfl, row_of_string w t hz _ _, Nat.le_refl _, ((Below.refl _ _).drew.alloc (Nat.le_refl _) _)⟩
theorem read_down (w : World) (F : Nat → Prop) (p : Nat) (s : DSt) (n : Int) (h : DiskAt w F p s) (ho : s.off = true) :
    Calls Try.prog 12 #[.pointer (some ⟨p, 0, none⟩), .int .i64 n] w fun e w' => e = .returned (.tuple #[.slice none 0 0, .int .i64 8]) ∧ w = w' := by
  have hready := ready_any w F p s h
  rw [ho, if_pos rfl] at hready
  have HR := Lib.hid hready
  clear hready h ho
  go_enter Try.func12, Try.ntmps12
  go_wp2_with (go_at_call 21; refine HR.out.mono ?_; rintro e1 w1 ⟨rfl, rfl⟩)
  go_ret2
  exact ⟨rfl, rfl⟩
end Go.Proofs.Ytnbmmlepbifciaa
