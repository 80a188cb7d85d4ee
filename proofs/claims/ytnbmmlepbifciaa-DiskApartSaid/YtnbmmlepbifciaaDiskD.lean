/-
  The disk's Write.
-/
import Derived.Test.YtnbmmlepbifciaaDiskC
import Derived.Laws.BytesArg
import Derived.Deep.RegionHeld3
import Derived.Deep.AppendLies
import Derived.Outline
namespace Go.Proofs.Ytnbmmlepbifciaa
open Go.ChangeShapes Go.WideShapes Go.ChangeAt Go.RowKit
set_option linter.unusedVariables false

/-- bytes as a text -/
def bstr (l : List Nat) : ByteArray := ⟨(l.map fun c => UInt8.ofNat c).toArray⟩
theorem size_bstr (l : List Nat) : (bstr l).size = l.length := by
  unfold bstr
  show (l.map fun c => UInt8.ofNat c).toArray.size = _
  simp
theorem u8_toNat (n : Nat) (h : n < 256) : (UInt8.ofNat n).toNat = n := by simp [UInt8.toNat_ofNat']; omega
theorem bytesOf_bstr (l : List Nat) (h : ∀ c ∈ l, c < 256) : bytesOf (bstr l) = l := by
  unfold bytesOf bstr
  rw [List.toList_toArray, List.map_map]
  conv => rhs; rw [← List.map_id l]
  refine List.map_congr_left fun c hc => ?_
  exact u8_toNat c (h c hc)
theorem bstr_bytesOf (s : ByteArray) : bstr (bytesOf s) = s := by
  unfold bstr bytesOf
  rw [List.map_map]
  have e : (List.map ((fun c => UInt8.ofNat c) ∘ fun c => c.toNat) s.data.toList) = s.data.toList := by
    conv => rhs; rw [← List.map_id s.data.toList]
    refine List.map_congr_left fun c _ => ?_
    simp
  rw [e]
theorem conv_row {w : World} {a : Option Addr} {m : Nat} {l : List Nat} (cap : Nat) (h : ByteRow w a m l) :
    (convert 22 9 (.slice a m cap)).run Try.prog w = .ok (.string (bstr l)) w := by
  obtain ⟨h1, h2, h3, h4⟩ := h
  by_cases h0 : m = 0
  · subst h0
    obtain rfl : l = [] := List.eq_nil_of_length_eq_zero h1
    rw [run_convert_bytes_string w 22 9 5 a 0 cap Try.underlying22 Try.underlying5 Try.underlying9]
    cases a with
    | none => rfl
    | some a => exact run_bytesToString w a 0 cap [] rfl
  · obtain ⟨b, o, rfl, hc⟩ := h4 (by omega)
    have e : bstr l = strOfNums (l.map fun (n : Nat) => (n : Int)) := by
      unfold bstr strOfNums
      rw [List.map_map]
      rfl
    rw [e]
    refine run_convert_bytes_arg w 22 5 Try.underlying22 Try.underlying5 b o m cap _ (by rw [List.length_map]; exact h1) (fun i hi => ?_) 9 Try.underlying9
    rw [hc i hi]
    have e3 : (l.map fun (n : Nat) => (n : Int)).getD i 0 = ((l.getD i 0 : Nat) : Int) := by
      simp [List.getD, List.getElem?_map]
      cases l[i]? <;> rfl
    rw [e3]
theorem ByteRow.keep {w w' : World} {a : Option Addr} {n : Nat} {l : List Nat} (h : ByteRow w a n l) (hk : ∀ b o i, a = some ⟨b, o, none⟩ → 0 < n → w'.cell? ⟨b, i, none⟩ = w.cell? ⟨b, i, none⟩) : ByteRow w' a n l := by
  refine ⟨h.1, h.2.1, h.2.2.1, fun h0 => ?_⟩
  obtain ⟨b, o, rfl, hc⟩ := h.2.2.2 h0
  exact ⟨b, o, rfl, fun i hi => (hk b o _ rfl h0).trans (hc i hi)⟩
theorem cell_lt {w : World} {a : Addr} {v : Value} (h : w.cell? a = some v) : a.block < w.heap.size := by
  rcases Nat.lt_or_ge a.block w.heap.size with h' | h'
  · exact h'
  · simp [World.cell?, Array.getElem?_eq_none h'] at h
theorem ByteRow.only {w w' : World} {F : Nat → Prop} {a : Option Addr} {n : Nat} {l : List Nat} (h : ByteRow w a n l) (ho : Only F w w') (ha : ∀ x, a = some x → ¬ F x.block) : ByteRow w' a n l := by
  refine ⟨h.1, h.2.1, h.2.2.1, fun h0 => ?_⟩
  obtain ⟨b, o, rfl, hc⟩ := h.2.2.2 h0
  exact ⟨b, o, rfl, fun i hi => (World.cell?_of_block (ho.block b (cell_lt (hc i hi)) (ha _ rfl))).trans (hc i hi)⟩

/-- the blocks, and the new ones -/
def Gr (F : Nat → Prop) (w w' : World) (k : Nat) : Prop := F k ∨ (w.heap.size ≤ k ∧ k < w'.heap.size)

/-- a disk, its rows by name -/
def DiskR (w : World) (F : Nat → Prop) (p : Nat) (s : DSt) (lb nb lc nc : Nat) (wv : Value) : Prop :=
  w.heap[p]? = some (.cells #[.slice (some ⟨lb, 0, none⟩) s.L.length lc, .slice (some ⟨nb, 0, none⟩) s.L.length nc, wv, .bool s.armed, .int .i64 s.left, .bool s.off, .int .i64 s.steps] 57) ∧
    Row w 9 1 (.slice (some ⟨lb, 0, none⟩) s.L.length lc) s.L.length (strs s.L) ∧ Row w 9 1 (.slice (some ⟨nb, 0, none⟩) s.L.length nc) s.L.length (strs s.N) ∧
    Row w 54 2 wv s.W.length (wcells s.W) ∧ lb ≠ nb ∧ F p ∧ F lb ∧ F nb ∧ (∀ g, wv.ownBlock = some g → F g) ∧ (∀ x ∈ s.W, x.1 < s.L.length) ∧ (∀ k, F k → k < w.heap.size)
theorem DiskR.at_ {w : World} {F : Nat → Prop} {p : Nat} {s : DSt} {lb nb lc nc : Nat} {wv : Value} (h : DiskR w F p s lb nb lc nc wv) : DiskAt w F p s := ⟨lb, nb, lc, nc, wv, h⟩
theorem DiskR.facts {w : World} {F : Nat → Prop} {p : Nat} {s : DSt} {lb nb lc nc : Nat} {wv : Value} (h : DiskR w F p s lb nb lc nc wv) :
    w.cell? ⟨p, 0, none⟩ = some (.slice (some ⟨lb, 0, none⟩) s.L.length lc) ∧ w.cell? ⟨p, 1, none⟩ = some (.slice (some ⟨nb, 0, none⟩) s.L.length nc) ∧ w.cell? ⟨p, 2, none⟩ = some wv ∧
    (∀ i, i < s.L.length → w.cell? ⟨lb, i, none⟩ = some (.string (s.L.getD i ⟨#[]⟩))) ∧ (∀ i, i < s.L.length → w.cell? ⟨nb, i, none⟩ = some (.string (s.N.getD i ⟨#[]⟩))) ∧
    s.N.length = s.L.length ∧ s.L.length ≤ 9223372036854775807 ∧ (∀ i, w.frozen? ⟨lb, i, none⟩ = false) ∧ (∀ i, w.frozen? ⟨nb, i, none⟩ = false) ∧ (∀ i, w.frozen? ⟨p, i, none⟩ = false) ∧ lb ≠ p ∧ nb ≠ p ∧ (∀ g, wv.ownBlock = some g → g ≠ p ∧ g ≠ lb ∧ g ≠ nb) ∧ p < w.heap.size := by
  have hlt := h.at_.lt
  obtain ⟨h1, h2, h3, h4, h5, h6, h7, h8, h9, h10, h11⟩ := h
  have hl : s.N.length = s.L.length := by have := h3.1; simp only [strs, List.length_map] at this; omega
  obtain ⟨cur, hc⟩ := row_heap h2
  obtain ⟨cur', hc'⟩ := row_heap h3
  have hcap : s.L.length ≤ 9223372036854775807 := by
    rcases h2.2 with ⟨h', _⟩ | ⟨g, cap, cur, h', _, _, a1, a2, _⟩
    · cases h'
    · unfold maxLen at a2
      omega
  refine ⟨by simp [World.cell?, h1], by simp [World.cell?, h1], by simp [World.cell?, h1], fun i hi => ?_, fun i hi => ?_, hl, hcap, fun i => by simp [World.frozen?, hc], fun i => by simp [World.frozen?, hc'], fun i => by simp [World.frozen?, h1], types_ne hc h1 (by decide), types_ne hc' h1 (by decide), fun g hg => ?_, hlt⟩
  · rw [World.ownsRow.cellAt h2 i (by omega)]
    simp [strs, List.getElem?_map, List.getElem?_eq_getElem hi, List.getD]
  · rw [World.ownsRow.cellAt h3 i (by omega)]
    have hi' : i < s.N.length := by omega
    simp [strs, List.getElem?_map, List.getElem?_eq_getElem hi', List.getD]
  · obtain ⟨c2, hg2⟩ := row_heap' h4 hg
    exact ⟨types_ne hg2 h1 (by decide), types_ne hg2 hc (by decide), types_ne hg2 hc' (by decide)⟩
theorem row_set {w : World} {n b c i : Nat} {l : List ByteArray} (h : Row w 9 1 (.slice (some ⟨b, 0, none⟩) n c) n (strs l)) (x : ByteArray) : Row (w.setCell ⟨b, i, none⟩ (.string x)) 9 1 (.slice (some ⟨b, 0, none⟩) n c) n (strs (l.set i x)) := by
  have e : strs (l.set i x) = (strs l).set i (.string x) := by unfold strs; rw [List.map_set]
  rw [e]
  exact (World.ownsRow.stored h i (.string x)).1
theorem DiskR.setN {w : World} {F : Nat → Prop} {p : Nat} {s : DSt} {lb nb lc nc : Nat} {wv : Value} (h : DiskR w F p s lb nb lc nc wv) (i : Nat) (x : ByteArray) : DiskR (w.setCell ⟨nb, i, none⟩ (.string x)) F p { s with N := s.N.set i x } lb nb lc nc wv := by
  obtain ⟨_, _, _, _, _, _, _, _, _, _, g1, g2, g3, _⟩ := h.facts
  obtain ⟨h1, h2, h3, h4, h5, h6, h7, h8, h9, h10, h11⟩ := h
  refine ⟨by rw [Below.heap_setCell w ⟨nb, i, none⟩ _ p g2.symm]; exact h1, h2.keep (fun g hg => by cases hg; exact Below.heap_setCell w _ _ _ h5), row_set h3 x, h4.keep (fun g hg => Below.heap_setCell w _ _ _ (g3 g hg).2.2), h5, h6, h7, h8, h9, h10, fun k hk => by simp only [World.setCell, Array.size_modify]; exact h11 k hk⟩
theorem DiskR.setL {w : World} {F : Nat → Prop} {p : Nat} {s : DSt} {lb nb lc nc : Nat} {wv : Value} (h : DiskR w F p s lb nb lc nc wv) (i : Nat) (x : ByteArray) : DiskR (w.setCell ⟨lb, i, none⟩ (.string x)) F p { s with L := s.L.set i x } lb nb lc nc wv := by
  obtain ⟨_, _, _, _, _, _, _, _, _, _, g1, g2, g3, _⟩ := h.facts
  obtain ⟨h1, h2, h3, h4, h5, h6, h7, h8, h9, h10, h11⟩ := h
  have e : (s.L.set i x).length = s.L.length := List.length_set ..
  refine ⟨by rw [Below.heap_setCell w ⟨lb, i, none⟩ _ p g1.symm]; dsimp only; rw [e]; exact h1, by dsimp only; rw [e]; exact row_set h2 x, by dsimp only; rw [e]; exact h3.keep (fun g hg => by cases hg; exact Below.heap_setCell w _ _ _ h5.symm), h4.keep (fun g hg => Below.heap_setCell w _ _ _ (g3 g hg).2.1), h5, h6, h7, h8, h9, fun y hy => by dsimp only; rw [e]; exact h10 y hy, fun k hk => by simp only [World.setCell, Array.size_modify]; exact h11 k hk⟩
theorem DiskR.keep {w w' : World} {F G : Nat → Prop} {p : Nat} {s : DSt} {lb nb lc nc : Nat} {wv : Value} (h : DiskR w F p s lb nb lc nc wv) (ho : Only G w w') (hd : ∀ k, F k → ¬ G k) : DiskR w' F p s lb nb lc nc wv := by
  have hp := h.at_.lt
  obtain ⟨h1, h2, h3, h4, h5, h6, h7, h8, h9, h10, h11⟩ := h
  have k : ∀ g, F g → w'.heap[g]? = w.heap[g]? := fun g hg => ho.block g (h11 g hg) (hd g hg)
  exact ⟨(k p h6).trans h1, h2.keep (fun g hg => by cases hg; exact k _ h7), h3.keep (fun g hg => by cases hg; exact k _ h8), h4.keep (fun g hg => k g (h9 g hg)), h5, h6, h7, h8, h9, h10, fun g hg => Nat.lt_of_lt_of_le (h11 g hg) ho.size⟩
theorem wcells_snoc (l : List (Nat × ByteArray)) (x : Nat × ByteArray) : wcells (l ++ [x]) = wcells l ++ [.int .i64 (x.1 : Int), .string x.2] := by
  unfold wcells
  simp
/-- a write more that waits -/
theorem DiskR.waits {w w' : World} {F : Nat → Prop} {p : Nat} {s : DSt} {lb nb lc nc : Nat} {wv : Value} (h : DiskR w F p s lb nb lc nc wv) (n : Nat) (x : ByteArray) (hn : n < s.L.length) (g c : Nat) (hown : w'.ownsRow 0 54 2 (.slice (some ⟨g, 0, none⟩) (s.W.length + 1) c) (s.W.length + 1) (wcells s.W ++ [.int .i64 (n : Int), .string x]))
    (hgrow : w.grownBy w' wv.ownBlock) (hat : wv.ownBlock = some g ∨ w.heap.size ≤ g) (hlt : g < w'.heap.size) :
    DiskR (w'.setCell ⟨p, 2, none⟩ (.slice (some ⟨g, 0, none⟩) (s.W.length + 1) c)) (Gr F w w') p { s with W := s.W ++ [(n, x)] } lb nb lc nc (.slice (some ⟨g, 0, none⟩) (s.W.length + 1) c) := by
  obtain ⟨_, _, _, _, _, _, _, _, _, _, g1, g2, g3, g4⟩ := h.facts
  obtain ⟨h1, h2, h3, h4, h5, h6, h7, h8, h9, h10, h11⟩ := h
  have hl := row_lt h2
  have hn' := row_lt h3
  have e1 : w'.heap[p]? = w.heap[p]? := hgrow.block p g4 (fun e => (g3 p e.symm).1 rfl)
  have hgp : g ≠ p := by
    rcases hat with e | e
    · exact (g3 g e).1
    · omega
  have e2 : (s.W ++ [(n, x)]).length = s.W.length + 1 := by simp
  refine ⟨?_, h2.keep ?_, h3.keep ?_, ?_, h5, .inl h6, .inl h7, .inl h8, ?_, ?_, ?_⟩
  · have h1' := e1.trans h1
    rw [set_put w' p 2 _ h1']
    rfl
  · intro k hk
    cases hk
    rw [Below.heap_setCell w' ⟨p, 2, none⟩ _ _ g1]
    exact hgrow.block _ hl (fun e => (g3 _ e.symm).2.1 rfl)
  · intro k hk
    cases hk
    rw [Below.heap_setCell w' ⟨p, 2, none⟩ _ _ g2]
    exact hgrow.block _ hn' (fun e => (g3 _ e.symm).2.2 rfl)
  · dsimp only
    rw [e2, wcells_snoc]
    exact Row.keep (w := w') hown (fun k hk => by cases hk; exact Below.heap_setCell w' _ _ _ hgp)
  · intro k hk
    cases hk
    rcases hat with e | e
    · exact .inl (h9 g e)
    · exact .inr ⟨e, hlt⟩
  · intro y hy
    rcases List.mem_append.1 hy with hy | hy
    · exact h10 y hy
    · simp only [List.mem_singleton] at hy
      subst hy
      exact hn
  · intro k hk
    simp only [World.setCell, Array.size_modify]
    rcases hk with hk | hk
    · exact Nat.lt_of_lt_of_le (h11 k hk) hgrow.size
    · exact hk.2
end Go.Proofs.Ytnbmmlepbifciaa
