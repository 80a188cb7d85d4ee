/-
  The disk in memory: its state, its cells, what may change.
-/
import Derived.Test.YtnbmmlepbifciaaRows
import Derived.WalkKit
import Derived.ProofKit
import Derived.OpenShut
import Derived.Lib.Hide
import Derived.OwnWalk
import Derived.Below
import Derived.Laws.OwnMore
import Derived.WalkSpells
import Derived.Deep.Draws
namespace Go.Proofs.Ytnbmmlepbifciaa
open Go.ChangeShapes Go.WideShapes Go.ChangeAt Go.RowKit
set_option linter.unusedVariables false

theorem ret_int {k : IntKind} {a b : Int} (h : a = b) : Ending.returned (.int k a) = .returned (.int k b) := by rw [h]
theorem ret_bool {a b : Bool} (h : a = b) : Ending.returned (.bool a) = .returned (.bool b) := by rw [h]

/-- what a disk holds -/
structure DSt where
  L : List ByteArray
  N : List ByteArray
  W : List (Nat × ByteArray)
  armed : Bool
  left : Int
  off : Bool
  steps : Int

def strs (l : List ByteArray) : List Value := l.map Value.string
def wcells (l : List (Nat × ByteArray)) : List Value := l.flatMap fun x => [.int .i64 (x.1 : Int), .string x.2]

/-- only blocks of F, and new ones, are other than they were -/
structure Only (F : Nat → Prop) (w w' : World) : Prop where
  os : w'.os = w.os
  tape : w'.tape = w.tape
  output : w'.output = w.output
  size : w.heap.size ≤ w'.heap.size
  block : ∀ k, k < w.heap.size → ¬ F k → w'.heap[k]? = w.heap[k]?
theorem Only.refl (F : Nat → Prop) (w : World) : Only F w w := ⟨rfl, rfl, rfl, Nat.le_refl _, fun _ _ _ => rfl⟩
theorem Only.trans {F : Nat → Prop} {a b c : World} (h : Only F a b) (k : Only F b c) : Only F a c :=
  ⟨k.os.trans h.os, k.tape.trans h.tape, k.output.trans h.output, Nat.le_trans h.size k.size, fun j hj hF => (k.block j (Nat.lt_of_lt_of_le hj h.size) hF).trans (h.block j hj hF)⟩
theorem Only.setCell {F : Nat → Prop} {a w : World} (h : Only F a w) {p : Addr} (hp : F p.block) (u : Value) : Only F a (w.setCell p u) :=
  ⟨h.os, h.tape, h.output, by simp only [World.setCell, Array.size_modify]; exact h.size, fun j hj hF => (Below.heap_setCell w p u j (fun e => hF (e ▸ hp))).trans (h.block j hj hF)⟩
theorem Only.alloc {F : Nat → Prop} {a w : World} (h : Only F a w) (o : Obj) : Only F a (w.alloc o) :=
  ⟨h.os, h.tape, h.output, by show a.heap.size ≤ (w.heap.push o).size; simp; exact Nat.le_succ_of_le h.size, fun j hj hF => (Below.heap_alloc w o j (Nat.lt_of_lt_of_le hj h.size)).trans (h.block j hj hF)⟩
theorem Only.drew {F : Nat → Prop} {a w : World} (h : Only F a w) : Only F a w.drew := ⟨h.os, h.tape, h.output, h.size, h.block⟩
theorem Only.drewN {F : Nat → Prop} {a w : World} (h : Only F a w) (n : Nat) : Only F a (w.drewN n) := ⟨h.os, h.tape, h.output, h.size, h.block⟩
theorem Only.grown {F : Nat → Prop} {a w w' : World} {row : Option Nat} (h : Only F a w) (hg : w.grownBy w' row) (hr : ∀ k, row = some k → F k ∨ a.heap.size ≤ k) : Only F a w' :=
  ⟨hg.os.trans h.os, hg.tape.trans h.tape, hg.output.trans h.output, Nat.le_trans h.size hg.size, fun j hj hF => (hg.block j (Nat.lt_of_lt_of_le hj h.size) (fun e => by
    rcases hr j e.symm with g | g
    · exact hF g
    · omega)).trans (h.block j hj hF)⟩
theorem Only.mono {F G : Nat → Prop} {w w' : World} (h : Only F w w') (hF : ∀ k, F k → G k) : Only G w w' := ⟨h.os, h.tape, h.output, h.size, fun j hj hG => h.block j hj (fun g => hG (hF j g))⟩
theorem Only.below {F : Nat → Prop} {w w' : World} {B : Nat} (h : Only F w w') (hB : B ≤ w.heap.size) (hF : ∀ k, F k → B ≤ k) : Below B w w' :=
  ⟨h.os, h.tape, h.output, h.size, fun j hj => h.block j (Nat.lt_of_lt_of_le hj hB) (fun g => by have := hF j g; omega)⟩
theorem Only.of_below {F : Nat → Prop} {w w' : World} (h : Below w.heap.size w w') : Only F w w' := ⟨h.os, h.tape, h.output, h.size, fun j hj _ => h.block j hj⟩

/-- a row of cells of one element type, in a block of the call's own -/
def Row (w : World) (e : TypeId) (size : Nat) (v : Value) (n : Nat) (xs : List Value) : Prop := w.ownsRow 0 e size v n xs

/-- a disk, at block p, in the blocks F -/
def DiskAt (w : World) (F : Nat → Prop) (p : Nat) (s : DSt) : Prop :=
  ∃ lb nb lc nc wv, w.heap[p]? = some (.cells #[.slice (some ⟨lb, 0, none⟩) s.L.length lc, .slice (some ⟨nb, 0, none⟩) s.L.length nc, wv, .bool s.armed, .int .i64 s.left, .bool s.off, .int .i64 s.steps] 57) ∧
    Row w 9 1 (.slice (some ⟨lb, 0, none⟩) s.L.length lc) s.L.length (strs s.L) ∧ Row w 9 1 (.slice (some ⟨nb, 0, none⟩) s.L.length nc) s.L.length (strs s.N) ∧
    Row w 54 2 wv s.W.length (wcells s.W) ∧ lb ≠ nb ∧ F p ∧ F lb ∧ F nb ∧ (∀ g, wv.ownBlock = some g → F g) ∧ (∀ x ∈ s.W, x.1 < s.L.length) ∧ (∀ k, F k → k < w.heap.size)

theorem row_lt {w : World} {e : TypeId} {size n b c : Nat} {xs : List Value} (h : Row w e size (.slice (some ⟨b, 0, none⟩) n c) n xs) : b < w.heap.size := (World.ownsRow.lt h b rfl).2
theorem row_heap {w : World} {e : TypeId} {size n b c : Nat} {xs : List Value} (h : Row w e size (.slice (some ⟨b, 0, none⟩) n c) n xs) : ∃ cur, w.heap[b]? = some (.cells cur e (0, 0)) := by
  rcases h.2 with ⟨h', _⟩ | ⟨g, cap, cur, h', _, hh, _⟩
  · cases h'
  · injection h' with h' _ _
    injection h' with h'
    injection h' with h' _ _
    subst h'
    exact ⟨cur, hh⟩
theorem row_heap' {w : World} {e : TypeId} {size n b : Nat} {v : Value} {xs : List Value} (h : Row w e size v n xs) (hb : v.ownBlock = some b) : ∃ cur, w.heap[b]? = some (.cells cur e (0, 0)) := by
  rcases h.2 with ⟨rfl, _⟩ | ⟨g, cap, cur, rfl, _, hh, _⟩
  · cases hb
  · cases hb
    exact ⟨cur, hh⟩

theorem DiskAt.lt {w : World} {F : Nat → Prop} {p : Nat} {s : DSt} (h : DiskAt w F p s) : p < w.heap.size := by
  obtain ⟨lb, nb, lc, nc, wv, h1, _⟩ := h
  rcases Nat.lt_or_ge p w.heap.size with g | g
  · exact g
  · rw [Array.getElem?_eq_none g] at h1
    cases h1
theorem Row.keep {w w' : World} {e : TypeId} {size n : Nat} {v : Value} {xs : List Value} (h : Row w e size v n xs) (hk : ∀ g, v.ownBlock = some g → w'.heap[g]? = w.heap[g]?) : Row w' e size v n xs := by
  obtain ⟨h1, h2⟩ := h
  refine ⟨h1, ?_⟩
  rcases h2 with h2 | ⟨g, cap, cur, rfl, hbs, hh, r⟩
  · exact .inl h2
  · exact .inr ⟨g, cap, cur, rfl, hbs, (hk g rfl).trans hh, r⟩
/-- it stays where nothing of its blocks is other -/
theorem DiskAt.keep {w w' : World} {F G : Nat → Prop} {p : Nat} {s : DSt} (h : DiskAt w F p s) (ho : Only G w w') (hd : ∀ k, F k → ¬ G k) : DiskAt w' F p s := by
  have hp := h.lt
  obtain ⟨lb, nb, lc, nc, wv, h1, h2, h3, h4, h5, h6, h7, h8, h9, h10, h11⟩ := h
  have k : ∀ g, F g → w'.heap[g]? = w.heap[g]? := fun g hg => ho.block g (h11 g hg) (hd g hg)
  exact ⟨lb, nb, lc, nc, wv, (k p h6).trans h1, h2.keep (fun g hg => by cases hg; exact k _ h7), h3.keep (fun g hg => by cases hg; exact k _ h8), h4.keep (fun g hg => k g (h9 g hg)), h5, h6, h7, h8, h9, h10, fun g hg => Nat.lt_of_lt_of_le (h11 g hg) ho.size⟩
theorem DiskAt.drew {w : World} {F : Nat → Prop} {p : Nat} {s : DSt} (h : DiskAt w F p s) : DiskAt w.drew F p s := h
theorem DiskAt.wider {w : World} {F G : Nat → Prop} {p : Nat} {s : DSt} (h : DiskAt w F p s) (hF : ∀ k, F k → G k) (hG : ∀ k, G k → k < w.heap.size) : DiskAt w G p s := by
  obtain ⟨lb, nb, lc, nc, wv, h1, h2, h3, h4, h5, h6, h7, h8, h9, h10, h11⟩ := h
  exact ⟨lb, nb, lc, nc, wv, h1, h2, h3, h4, h5, hF _ h6, hF _ h7, hF _ h8, fun g hg => hF _ (h9 g hg), h10, hG⟩

/-- the cells of the disk's own block -/
theorem DiskAt.cells {w : World} {F : Nat → Prop} {p : Nat} {s : DSt} (h : DiskAt w F p s) : w.cell? ⟨p, 3, none⟩ = some (.bool s.armed) ∧ w.cell? ⟨p, 4, none⟩ = some (.int .i64 s.left) ∧ w.cell? ⟨p, 5, none⟩ = some (.bool s.off) ∧ w.cell? ⟨p, 6, none⟩ = some (.int .i64 s.steps) ∧ (∀ i, w.frozen? ⟨p, i, none⟩ = false) := by
  obtain ⟨lb, nb, lc, nc, wv, h1, _⟩ := h
  refine ⟨?_, ?_, ?_, ?_, fun i => ?_⟩
  · simp [World.cell?, h1]
  · simp [World.cell?, h1]
  · simp [World.cell?, h1]
  · simp [World.cell?, h1]
  · simp [World.frozen?, h1]

theorem off_any (w : World) (F : Nat → Prop) (p : Nat) (s : DSt) (h : DiskAt w F p s) :
    Calls Try.prog 14 #[.pointer (some ⟨p, 0, none⟩)] w fun e w' => e = .returned (.bool s.off) ∧ w = w' := by
  obtain ⟨c3, c4, c5, c6, cf⟩ := h.cells
  clear h
  generalize s.off = b at *
  go_enter Try.func14, Try.ntmps14
  go_wp2
  go_ret
  exact ⟨rfl, rfl⟩
theorem steps_any (w : World) (F : Nat → Prop) (p : Nat) (s : DSt) (h : DiskAt w F p s) :
    Calls Try.prog 15 #[.pointer (some ⟨p, 0, none⟩)] w fun e w' => e = .returned (.int .i64 s.steps) ∧ w = w' := by
  obtain ⟨c3, c4, c5, c6, cf⟩ := h.cells
  clear h
  generalize s.steps = b at *
  go_enter Try.func15, Try.ntmps15
  go_wp2
  go_ret
  exact ⟨rfl, rfl⟩
theorem ready_any (w : World) (F : Nat → Prop) (p : Nat) (s : DSt) (h : DiskAt w F p s) :
    Calls Try.prog 21 #[.pointer (some ⟨p, 0, none⟩)] w fun e w' => e = .returned (.int .i64 (if s.off = true then 8 else 0)) ∧ w = w' := by
  obtain ⟨c3, c4, c5, c6, cf⟩ := h.cells
  clear h
  cases hb : s.off with
  | true =>
    rw [hb] at c5
    go_enter Try.func21, Try.ntmps21
    go_wp2
    go_ret
    exact ⟨rfl, rfl⟩
  | false =>
    rw [hb] at c5
    go_enter Try.func21, Try.ntmps21
    go_wp2
    go_ret
    exact ⟨rfl, rfl⟩
end Go.Proofs.Ytnbmmlepbifciaa
