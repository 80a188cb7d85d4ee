/-
  Texts put together: DiskA, DiskB, DiskC, DiskD, DiskE, DiskF, DiskG, DiskH, DiskI, DiskK.
-/
import Derived.Test.YtcmnfbpmkndfkaaDoorRows
import Derived.WalkKit
import Derived.ProofKit
import Derived.OpenShut
import Derived.Lib.Hide
import Derived.OwnWalk
import Derived.Below
import Derived.Laws.OwnMore
import Derived.WalkSpells
import Derived.Deep.Draws
import Derived.Outline
import Derived.Laws.IdiomStrings
import Derived.Laws.BytesArg
import Derived.Deep.RegionHeld3
import Derived.Deep.AppendLies
import Derived.Deep.RegionLaw
import Derived.Deep.LoopGhost
import Derived.Laws.BitsAllLaws
import Derived.Deep.OwnRows
import Derived.Laws.CopyOwn
import Derived.Deep.Onto
import Derived.Deep.Slices
namespace Go.Proofs.YtcmnfbpmkndfkaaDoor
set_option maxRecDepth 100000
open Go.ChangeShapes Go.WideShapes Go.ChangeAt Go.RowKit
set_option linter.unusedVariables false

theorem ret_int {k : IntKind} {a b : Int} (h : a = b) : Ending.returned (.int k a) = .returned (.int k b) := by rw [h]
theorem ret_bool {a b : Bool} (h : a = b) : Ending.returned (.bool a) = .returned (.bool b) := by rw [h]

/-- what a disk holds -/
structure DSt where
  L : List ByteArray
  N : List ByteArray
  W : List (Nat × ByteArray)
  armed : Bool
  left : Int
  off : Bool
  steps : Int

def strs (l : List ByteArray) : List Value := l.map Value.string
def wcells (l : List (Nat × ByteArray)) : List Value := l.flatMap fun x => [.int .i64 (x.1 : Int), .string x.2]

/-- only blocks of F, and new ones, are other than they were -/
structure Only (F : Nat → Prop) (w w' : World) : Prop where
  os : w'.os = w.os
  tape : w'.tape = w.tape
  output : w'.output = w.output
  size : w.heap.size ≤ w'.heap.size
  block : ∀ k, k < w.heap.size → ¬ F k → w'.heap[k]? = w.heap[k]?
theorem Only.refl (F : Nat → Prop) (w : World) : Only F w w := ⟨rfl, rfl, rfl, Nat.le_refl _, fun _ _ _ => rfl⟩
theorem Only.trans {F : Nat → Prop} {a b c : World} (h : Only F a b) (k : Only F b c) : Only F a c :=
  ⟨k.os.trans h.os, k.tape.trans h.tape, k.output.trans h.output, Nat.le_trans h.size k.size, fun j hj hF => (k.block j (Nat.lt_of_lt_of_le hj h.size) hF).trans (h.block j hj hF)⟩
theorem Only.setCell {F : Nat → Prop} {a w : World} (h : Only F a w) {p : Addr} (hp : F p.block) (u : Value) : Only F a (w.setCell p u) :=
  ⟨h.os, h.tape, h.output, by simp only [World.setCell, Array.size_modify]; exact h.size, fun j hj hF => (Below.heap_setCell w p u j (fun e => hF (e ▸ hp))).trans (h.block j hj hF)⟩
theorem Only.alloc {F : Nat → Prop} {a w : World} (h : Only F a w) (o : Obj) : Only F a (w.alloc o) :=
  ⟨h.os, h.tape, h.output, by show a.heap.size ≤ (w.heap.push o).size; simp; exact Nat.le_succ_of_le h.size, fun j hj hF => (Below.heap_alloc w o j (Nat.lt_of_lt_of_le hj h.size)).trans (h.block j hj hF)⟩
theorem Only.drew {F : Nat → Prop} {a w : World} (h : Only F a w) : Only F a w.drew := ⟨h.os, h.tape, h.output, h.size, h.block⟩
theorem Only.drewN {F : Nat → Prop} {a w : World} (h : Only F a w) (n : Nat) : Only F a (w.drewN n) := ⟨h.os, h.tape, h.output, h.size, h.block⟩
theorem Only.grown {F : Nat → Prop} {a w w' : World} {row : Option Nat} (h : Only F a w) (hg : w.grownBy w' row) (hr : ∀ k, row = some k → F k ∨ a.heap.size ≤ k) : Only F a w' :=
  ⟨hg.os.trans h.os, hg.tape.trans h.tape, hg.output.trans h.output, Nat.le_trans h.size hg.size, fun j hj hF => (hg.block j (Nat.lt_of_lt_of_le hj h.size) (fun e => by
    rcases hr j e.symm with g | g
    · exact hF g
    · omega)).trans (h.block j hj hF)⟩
theorem Only.mono {F G : Nat → Prop} {w w' : World} (h : Only F w w') (hF : ∀ k, F k → G k) : Only G w w' := ⟨h.os, h.tape, h.output, h.size, fun j hj hG => h.block j hj (fun g => hG (hF j g))⟩
theorem Only.below {F : Nat → Prop} {w w' : World} {B : Nat} (h : Only F w w') (hB : B ≤ w.heap.size) (hF : ∀ k, F k → B ≤ k) : Below B w w' :=
  ⟨h.os, h.tape, h.output, h.size, fun j hj => h.block j (Nat.lt_of_lt_of_le hj hB) (fun g => by have := hF j g; omega)⟩
theorem Only.of_below {F : Nat → Prop} {w w' : World} (h : Below w.heap.size w w') : Only F w w' := ⟨h.os, h.tape, h.output, h.size, fun j hj _ => h.block j hj⟩

/-- a row of cells of one element type, in a block of the call's own -/
def Row (w : World) (e : TypeId) (size : Nat) (v : Value) (n : Nat) (xs : List Value) : Prop := w.ownsRow 0 e size v n xs

/-- a disk, at block p, in the blocks F -/
def DiskAt (w : World) (F : Nat → Prop) (p : Nat) (s : DSt) : Prop :=
  ∃ lb nb lc nc wv, w.heap[p]? = some (.cells #[.slice (some ⟨lb, 0, none⟩) s.L.length lc, .slice (some ⟨nb, 0, none⟩) s.L.length nc, wv, .bool s.armed, .int .i64 s.left, .bool s.off, .int .i64 s.steps] 86) ∧
    Row w 9 1 (.slice (some ⟨lb, 0, none⟩) s.L.length lc) s.L.length (strs s.L) ∧ Row w 9 1 (.slice (some ⟨nb, 0, none⟩) s.L.length nc) s.L.length (strs s.N) ∧
    Row w 103 2 wv s.W.length (wcells s.W) ∧ lb ≠ nb ∧ F p ∧ F lb ∧ F nb ∧ (∀ g, wv.ownBlock = some g → F g) ∧ (∀ x ∈ s.W, x.1 < s.L.length) ∧ (∀ k, F k → k < w.heap.size)

theorem row_lt {w : World} {e : TypeId} {size n b c : Nat} {xs : List Value} (h : Row w e size (.slice (some ⟨b, 0, none⟩) n c) n xs) : b < w.heap.size := (World.ownsRow.lt h b rfl).2
theorem row_heap {w : World} {e : TypeId} {size n b c : Nat} {xs : List Value} (h : Row w e size (.slice (some ⟨b, 0, none⟩) n c) n xs) : ∃ cur, w.heap[b]? = some (.cells cur e (0, 0)) := by
  rcases h.2 with ⟨h', _⟩ | ⟨g, cap, cur, h', _, hh, _⟩
  · cases h'
  · injection h' with h' _ _
    injection h' with h'
    injection h' with h' _ _
    subst h'
    exact ⟨cur, hh⟩
theorem row_heap' {w : World} {e : TypeId} {size n b : Nat} {v : Value} {xs : List Value} (h : Row w e size v n xs) (hb : v.ownBlock = some b) : ∃ cur, w.heap[b]? = some (.cells cur e (0, 0)) := by
  rcases h.2 with ⟨rfl, _⟩ | ⟨g, cap, cur, rfl, _, hh, _⟩
  · cases hb
  · cases hb
    exact ⟨cur, hh⟩

theorem DiskAt.lt {w : World} {F : Nat → Prop} {p : Nat} {s : DSt} (h : DiskAt w F p s) : p < w.heap.size := by
  obtain ⟨lb, nb, lc, nc, wv, h1, _⟩ := h
  rcases Nat.lt_or_ge p w.heap.size with g | g
  · exact g
  · rw [Array.getElem?_eq_none g] at h1
    cases h1
theorem Row.keep {w w' : World} {e : TypeId} {size n : Nat} {v : Value} {xs : List Value} (h : Row w e size v n xs) (hk : ∀ g, v.ownBlock = some g → w'.heap[g]? = w.heap[g]?) : Row w' e size v n xs := by
  obtain ⟨h1, h2⟩ := h
  refine ⟨h1, ?_⟩
  rcases h2 with h2 | ⟨g, cap, cur, rfl, hbs, hh, r⟩
  · exact .inl h2
  · exact .inr ⟨g, cap, cur, rfl, hbs, (hk g rfl).trans hh, r⟩
/-- it stays where nothing of its blocks is other -/
theorem DiskAt.keep {w w' : World} {F G : Nat → Prop} {p : Nat} {s : DSt} (h : DiskAt w F p s) (ho : Only G w w') (hd : ∀ k, F k → ¬ G k) : DiskAt w' F p s := by
  have hp := h.lt
  obtain ⟨lb, nb, lc, nc, wv, h1, h2, h3, h4, h5, h6, h7, h8, h9, h10, h11⟩ := h
  have k : ∀ g, F g → w'.heap[g]? = w.heap[g]? := fun g hg => ho.block g (h11 g hg) (hd g hg)
  exact ⟨lb, nb, lc, nc, wv, (k p h6).trans h1, h2.keep (fun g hg => by cases hg; exact k _ h7), h3.keep (fun g hg => by cases hg; exact k _ h8), h4.keep (fun g hg => k g (h9 g hg)), h5, h6, h7, h8, h9, h10, fun g hg => Nat.lt_of_lt_of_le (h11 g hg) ho.size⟩
theorem DiskAt.drew {w : World} {F : Nat → Prop} {p : Nat} {s : DSt} (h : DiskAt w F p s) : DiskAt w.drew F p s := h
theorem DiskAt.wider {w : World} {F G : Nat → Prop} {p : Nat} {s : DSt} (h : DiskAt w F p s) (hF : ∀ k, F k → G k) (hG : ∀ k, G k → k < w.heap.size) : DiskAt w G p s := by
  obtain ⟨lb, nb, lc, nc, wv, h1, h2, h3, h4, h5, h6, h7, h8, h9, h10, h11⟩ := h
  exact ⟨lb, nb, lc, nc, wv, h1, h2, h3, h4, h5, hF _ h6, hF _ h7, hF _ h8, fun g hg => hF _ (h9 g hg), h10, hG⟩

/-- the cells of the disk's own block -/
theorem DiskAt.cells {w : World} {F : Nat → Prop} {p : Nat} {s : DSt} (h : DiskAt w F p s) : w.cell? ⟨p, 3, none⟩ = some (.bool s.armed) ∧ w.cell? ⟨p, 4, none⟩ = some (.int .i64 s.left) ∧ w.cell? ⟨p, 5, none⟩ = some (.bool s.off) ∧ w.cell? ⟨p, 6, none⟩ = some (.int .i64 s.steps) ∧ (∀ i, w.frozen? ⟨p, i, none⟩ = false) := by
  obtain ⟨lb, nb, lc, nc, wv, h1, _⟩ := h
  refine ⟨?_, ?_, ?_, ?_, fun i => ?_⟩
  · simp [World.cell?, h1]
  · simp [World.cell?, h1]
  · simp [World.cell?, h1]
  · simp [World.cell?, h1]
  · simp [World.frozen?, h1]

theorem ready_any (w : World) (F : Nat → Prop) (p : Nat) (s : DSt) (h : DiskAt w F p s) :
    Calls Tryd.prog 65 #[.pointer (some ⟨p, 0, none⟩)] w fun e w' => e = .returned (.int .i64 (if s.off = true then 8 else 0)) ∧ w = w' := by
  obtain ⟨c3, c4, c5, c6, cf⟩ := h.cells
  clear h
  cases hb : s.off with
  | true =>
    rw [hb] at c5
    go_enter Tryd.func65, Tryd.ntmps65
    go_wp2
    go_ret
    exact ⟨rfl, rfl⟩
  | false =>
    rw [hb] at c5
    go_enter Tryd.func65, Tryd.ntmps65
    go_wp2
    go_ret
    exact ⟨rfl, rfl⟩
end Go.Proofs.YtcmnfbpmkndfkaaDoor
namespace Go.Proofs.YtcmnfbpmkndfkaaDoor
set_option maxRecDepth 100000
open Go.ChangeShapes Go.WideShapes Go.ChangeAt Go.RowKit
set_option linter.unusedVariables false

theorem types_ne {w : World} {b p : Nat} {cur cur' : Array Value} {e t : TypeId} (h : w.heap[b]? = some (.cells cur e (0, 0))) (h' : w.heap[p]? = some (.cells cur' t)) (ht : e ≠ t) : b ≠ p := by
  rintro rfl
  rw [h] at h'
  injection h' with h'
  injection h' with _ h' _
  exact ht h'
/-- another word in the disk's own block -/
theorem DiskAt.put {w w' : World} {F : Nat → Prop} {p : Nat} {s : DSt} (h : DiskAt w F p s) (a' : Bool) (l' : Int) (o' : Bool) (n' : Int)
    (hp : ∀ x y z, w.heap[p]? = some (.cells #[x, y, z, .bool s.armed, .int .i64 s.left, .bool s.off, .int .i64 s.steps] 86) → w'.heap[p]? = some (.cells #[x, y, z, .bool a', .int .i64 l', .bool o', .int .i64 n'] 86))
    (hk : ∀ k, k ≠ p → w'.heap[k]? = w.heap[k]?) (hs : w.heap.size ≤ w'.heap.size) : DiskAt w' F p { s with armed := a', left := l', off := o', steps := n' } := by
  obtain ⟨lb, nb, lc, nc, wv, h1, h2, h3, h4, h5, h6, h7, h8, h9, h10, h11⟩ := h
  refine ⟨lb, nb, lc, nc, wv, hp _ _ _ h1, h2.keep ?_, h3.keep ?_, h4.keep ?_, h5, h6, h7, h8, h9, h10, fun k hk => Nat.lt_of_lt_of_le (h11 k hk) hs⟩
  · intro g hg
    cases hg
    obtain ⟨cur, hc⟩ := row_heap h2
    exact hk _ (types_ne hc h1 (by decide))
  · intro g hg
    cases hg
    obtain ⟨cur, hc⟩ := row_heap h3
    exact hk _ (types_ne hc h1 (by decide))
  · intro g hg
    obtain ⟨cur, hc⟩ := row_heap' h4 hg
    exact hk _ (types_ne hc h1 (by decide))
theorem set_put (w : World) (p i : Nat) (v : Value) {cs : Array Value} {t : TypeId} (h : w.heap[p]? = some (.cells cs t)) : (w.setCell ⟨p, i, none⟩ v).heap[p]? = some (.cells (cs.setIfInBounds i v) t) := by
  simp only [World.setCell, Array.getElem?_modify, h]
  simp
theorem DiskAt.armed_ {w : World} {F : Nat → Prop} {p : Nat} {s : DSt} (h : DiskAt w F p s) (b : Bool) : DiskAt (w.setCell ⟨p, 3, none⟩ (.bool b)) F p { s with armed := b } :=
  h.put b s.left s.off s.steps (fun x y z e => by rw [set_put w p 3 _ e]; rfl) (fun k hk => Below.heap_setCell w _ _ k hk) (by simp [World.setCell])
theorem DiskAt.left_ {w : World} {F : Nat → Prop} {p : Nat} {s : DSt} (h : DiskAt w F p s) (b : Int) : DiskAt (w.setCell ⟨p, 4, none⟩ (.int .i64 b)) F p { s with left := b } :=
  h.put s.armed b s.off s.steps (fun x y z e => by rw [set_put w p 4 _ e]; rfl) (fun k hk => Below.heap_setCell w _ _ k hk) (by simp [World.setCell])
theorem DiskAt.off_ {w : World} {F : Nat → Prop} {p : Nat} {s : DSt} (h : DiskAt w F p s) (b : Bool) : DiskAt (w.setCell ⟨p, 5, none⟩ (.bool b)) F p { s with off := b } :=
  h.put s.armed s.left b s.steps (fun x y z e => by rw [set_put w p 5 _ e]; rfl) (fun k hk => Below.heap_setCell w _ _ k hk) (by simp [World.setCell])
theorem DiskAt.steps_ {w : World} {F : Nat → Prop} {p : Nat} {s : DSt} (h : DiskAt w F p s) (b : Int) : DiskAt (w.setCell ⟨p, 6, none⟩ (.int .i64 b)) F p { s with steps := b } :=
  h.put s.armed s.left s.off b (fun x y z e => by rw [set_put w p 6 _ e]; rfl) (fun k hk => Below.heap_setCell w _ _ k hk) (by simp [World.setCell])
theorem DiskAt.self {w : World} {F : Nat → Prop} {p : Nat} {s : DSt} (h : DiskAt w F p s) : F p := by
  obtain ⟨lb, nb, lc, nc, wv, h1, h2, h3, h4, h5, h6, _⟩ := h
  exact h6

/-- Arm -/
theorem arm_any (w : World) (F : Nat → Prop) (p : Nat) (s : DSt) (n : Int) (h : DiskAt w F p s) (h0 : 0 ≤ n) :
    Calls Tryd.prog 19 #[.pointer (some ⟨p, 0, none⟩), .int .i64 n] w fun e w' => e = .returned (.tuple #[]) ∧ DiskAt w' F p { s with armed := true, left := n } ∧ Only F w w' := by
  have H := Lib.hid h
  obtain ⟨c3, c4, c5, c6, cf⟩ := h.cells
  clear h
  have f3 := cf 3
  have f4 := cf 4
  clear cf c5 c6
  go_enter Tryd.func19, Tryd.ntmps19
  go_wp2
  go_end0
  exact ⟨rfl, (H.out.armed_ true).left_ n, ((Only.refl F w).setCell H.out.self _).setCell H.out.self _⟩

/-- change: one more -/
def chg (s : DSt) : DSt := if s.armed = true ∧ s.left = 0 then { s with off := true } else { s with left := if s.armed = true then s.left - 1 else s.left, steps := s.steps + 1 }
def chgE (s : DSt) : Int := if s.armed = true ∧ s.left = 0 then 8 else 0
theorem change_any (w : World) (F : Nat → Prop) (p : Nat) (s : DSt) (h : DiskAt w F p s) (hs : 0 ≤ s.steps ∧ s.steps < 4611686018427387904) (hl : 0 ≤ s.left ∧ s.left < 4611686018427387904) :
    Calls Tryd.prog 67 #[.pointer (some ⟨p, 0, none⟩)] w fun e w' => e = .returned (.int .i64 (chgE s)) ∧ DiskAt w' F p (chg s) ∧ Only F w w' := by
  have H := Lib.hid h
  have HF := Lib.hid h.self
  obtain ⟨c3, c4, c5, c6, cf⟩ := h.cells
  clear h
  have f4 := cf 4
  have f5 := cf 5
  have f6 := cf 6
  clear cf
  obtain ⟨L, N, W, armed, left, off, steps⟩ := s
  dsimp only at *
  cases armed with
  | true =>
    by_cases hz : left = 0
    · subst hz
      go_enter Tryd.func67, Tryd.ntmps67
      go_wp2
      go_ret
      have e : chg ⟨L, N, W, true, 0, off, steps⟩ = ⟨L, N, W, true, 0, true, steps⟩ := if_pos ⟨rfl, rfl⟩
      have e2 : chgE ⟨L, N, W, true, 0, off, steps⟩ = 8 := if_pos ⟨rfl, rfl⟩
      rw [e, e2]
      exact ⟨rfl, H.out.off_ true, (Only.refl F w).setCell HF.out _⟩
    · have hzb : (left == 0) = false := by rw [beq_eq_false_iff_ne]; exact hz
      go_enter Tryd.func67, Tryd.ntmps67
      go_wp2
      go_ret
      have e : chg ⟨L, N, W, true, left, off, steps⟩ = ⟨L, N, W, true, left - 1, off, steps + 1⟩ := if_neg (fun h => hz h.2)
      have e2 : chgE ⟨L, N, W, true, left, off, steps⟩ = 0 := if_neg (fun h => hz h.2)
      rw [e, e2]
      exact ⟨rfl, (H.out.left_ (left - 1)).steps_ (steps + 1), ((Only.refl F w).setCell HF.out _).setCell HF.out _⟩
  | false =>
    go_enter Tryd.func67, Tryd.ntmps67
    go_wp2
    go_ret
    have e : chg ⟨L, N, W, false, left, off, steps⟩ = ⟨L, N, W, false, left, off, steps + 1⟩ := if_neg (fun h => Bool.noConfusion h.1)
    have e2 : chgE ⟨L, N, W, false, left, off, steps⟩ = 0 := if_neg (fun h => Bool.noConfusion h.1)
    rw [e, e2]
    exact ⟨rfl, H.out.steps_ (steps + 1), (Only.refl F w).setCell HF.out _⟩
end Go.Proofs.YtcmnfbpmkndfkaaDoor
namespace Go.Proofs.YtcmnfbpmkndfkaaDoor
set_option maxRecDepth 100000
open Go.ChangeShapes Go.WideShapes Go.ChangeAt Go.RowKit
set_option linter.unusedVariables false

/-- a text's bytes as numbers -/
def bytesOf (s : ByteArray) : List Nat := s.data.toList.map fun c => c.toNat
theorem bytesOf_length (s : ByteArray) : (bytesOf s).length = s.size := by
  unfold bytesOf
  rw [List.length_map, Array.length_toList]
  rfl
theorem bytesOf_lt (s : ByteArray) : ∀ c ∈ bytesOf s, c < 256 := by
  intro c hc
  obtain ⟨x, _, rfl⟩ := List.mem_map.1 hc
  exact x.toNat_lt
/-- a slice of bytes: its elements -/
def ByteRow (w : World) (a : Option Addr) (len : Nat) (l : List Nat) : Prop :=
  l.length = len ∧ len ≤ maxLen ∧ (∀ c ∈ l, c < 256) ∧ (0 < len → ∃ b o, a = some ⟨b, o, none⟩ ∧ ∀ i, i < len → w.cell? ⟨b, o + i, none⟩ = some (.int .u8 ((l.getD i 0 : Nat) : Int)))

/-- the rows of the disk, by their cells -/
theorem DiskAt.rows {w : World} {F : Nat → Prop} {p : Nat} {s : DSt} (h : DiskAt w F p s) : ∃ lb nb lc nc wv,
    w.cell? ⟨p, 0, none⟩ = some (.slice (some ⟨lb, 0, none⟩) s.L.length lc) ∧ w.cell? ⟨p, 1, none⟩ = some (.slice (some ⟨nb, 0, none⟩) s.L.length nc) ∧ w.cell? ⟨p, 2, none⟩ = some wv ∧
    (∀ i, i < s.L.length → w.cell? ⟨lb, i, none⟩ = some (.string (s.L.getD i ⟨#[]⟩))) ∧ (∀ i, i < s.L.length → w.cell? ⟨nb, i, none⟩ = some (.string (s.N.getD i ⟨#[]⟩))) ∧
    s.N.length = s.L.length ∧ s.L.length ≤ lc ∧ lc ≤ maxLen ∧ (∀ i, w.frozen? ⟨lb, i, none⟩ = false) ∧ (∀ i, w.frozen? ⟨nb, i, none⟩ = false) ∧ F lb ∧ F nb ∧ lb ≠ nb ∧ lb ≠ p ∧ nb ≠ p := by
  obtain ⟨lb, nb, lc, nc, wv, h1, h2, h3, h4, h5, h6, h7, h8, h9, h10, h11⟩ := h
  have hl : s.N.length = s.L.length := by have := h3.1; simp only [strs, List.length_map] at this; omega
  obtain ⟨cur, hc⟩ := row_heap h2
  obtain ⟨cur', hc'⟩ := row_heap h3
  have hcap : s.L.length ≤ lc ∧ lc ≤ maxLen := by
    rcases h2.2 with ⟨h', _⟩ | ⟨g, cap, cur, h', _, _, a1, a2, _⟩
    · cases h'
    · injection h' with _ _ h'
      subst h'
      exact ⟨a1, a2⟩
  refine ⟨lb, nb, lc, nc, wv, by simp [World.cell?, h1], by simp [World.cell?, h1], by simp [World.cell?, h1], fun i hi => ?_, fun i hi => ?_, hl, hcap.1, hcap.2, fun i => by simp [World.frozen?, hc], fun i => by simp [World.frozen?, hc'], h7, h8, h5, types_ne hc h1 (by decide), types_ne hc' h1 (by decide)⟩
  · rw [World.ownsRow.cellAt h2 i (by omega)]
    simp [strs, List.getElem?_map, List.getElem?_eq_getElem hi, List.getD]
  · rw [World.ownsRow.cellAt h3 i (by omega)]
    have hi' : i < s.N.length := by omega
    simp [strs, List.getElem?_map, List.getElem?_eq_getElem hi', List.getD]

theorem has_any (w : World) (F : Nat → Prop) (p : Nat) (s : DSt) (n : Int) (h : DiskAt w F p s) :
    Calls Tryd.prog 66 #[.pointer (some ⟨p, 0, none⟩), .int .i64 n] w fun e w' => e = .returned (.bool (decide (0 ≤ n ∧ n < (s.L.length : Int)))) ∧ w = w' := by
  obtain ⟨lb, nb, lc, nc, wv, c0, c1, c2, cl, cn, hl, _⟩ := h.rows
  clear c1 c2 cl cn h
  generalize s.L.length = m at *
  by_cases h0 : 0 ≤ n
  · by_cases h1 : n < (m : Int)
    · have e : Hid (decide (0 ≤ n ∧ n < (m : Int)) = true) := Lib.hid (decide_eq_true ⟨h0, h1⟩)
      go_enter Tryd.func66, Tryd.ntmps66
      go_wp2
      go_ret
      exact ⟨ret_bool e.out.symm, rfl⟩
    · go_enter Tryd.func66, Tryd.ntmps66
      go_wp2
      go_ret
      exact ⟨ret_bool (decide_eq_false (by omega)).symm, rfl⟩
  · go_enter Tryd.func66, Tryd.ntmps66
    go_wp2
    go_ret
    exact ⟨ret_bool (by rw [decide_eq_false (show ¬ 0 ≤ n by omega)]; rfl), rfl⟩

theorem row_of_string (W : World) (s : ByteArray) (hs : s.size ≤ maxLen) (c : Nat) (fr : Nat × Nat) : ByteRow (W.drew.alloc (.cells (bytesRow s c) 5 fr)) (some ⟨W.heap.size, 0, none⟩) s.size (bytesOf s) := by
  refine ⟨bytesOf_length s, hs, bytesOf_lt s, fun h0 => ⟨_, _, rfl, fun i hi => ?_⟩⟩
  have e1 : (W.drew.alloc (.cells (bytesRow s c) 5 fr)).heap[W.heap.size]? = some (.cells (bytesRow s c) 5 fr) := by
    show (W.heap.push _)[W.heap.size]? = _
    simp
  have hd : i < s.data.size := hi
  rw [Nat.zero_add]
  simp only [World.cell?, e1]
  have h2 := bytesRow_at s c i hd
  simp only [h2]
  simp [bytesOf, List.getD, List.getElem?_map, Array.getElem?_toList, Array.getElem?_eq_getElem hd]

/-- Read, and what it answers -/
theorem read_ok (w : World) (F : Nat → Prop) (p : Nat) (s : DSt) (n : Nat) (h : DiskAt w F p s) (ho : s.off = false) (hn : n < s.L.length) (hz : (s.N.getD n ⟨#[]⟩).size ≤ maxLen) :
    Calls Tryd.prog 74 #[.pointer (some ⟨p, 0, none⟩), .int .i64 n] w fun e w' => ∃ g c, e = .returned (.tuple #[.slice (some ⟨g, 0, none⟩) (s.N.getD n ⟨#[]⟩).size c, .int .i64 0]) ∧ ByteRow w' (some ⟨g, 0, none⟩) (s.N.getD n ⟨#[]⟩).size (bytesOf (s.N.getD n ⟨#[]⟩)) ∧ w.heap.size ≤ g ∧ Below w.heap.size w w' := by
  have hready := ready_any w F p s h
  have hhas := has_any w F p s n h
  rw [ho, if_neg (by decide)] at hready
  rw [decide_eq_true (by omega)] at hhas
  obtain ⟨lb, nb, lc, nc, wv, c0, c1, c2, cl, cn, hl, hcap, hmx, _⟩ := h.rows
  have hcell := cn n hn
  have hm : s.L.length ≤ 9223372036854775807 := by unfold maxLen at hmx; omega
  generalize s.N.getD n ⟨#[]⟩ = t at *
  generalize s.L.length = m at *
  have HR := Lib.hid hready
  have HH := Lib.hid hhas
  have hconv := fun W => run_bytes_of_string (P := Tryd.prog) W 9 34 5 t Tryd.underlying9 Tryd.underlying34 Tryd.underlying5
  clear hready hhas h ho cl cn c0 c2 hl hcap hmx
  go_enter Tryd.func74, Tryd.ntmps74
  go_wp2_with (first
    | (go_at_call 65; refine HR.out.mono ?_; rintro e1 w1 ⟨rfl, rfl⟩)
    | (go_at_call 66; refine HH.out.mono ?_; rintro e1 w1 ⟨rfl, rfl⟩))
  go_ret2
  exact ⟨_, _, rfl, row_of_string w t hz _ _, Nat.le_refl _, ((Below.refl _ _).drew.alloc (Nat.le_refl _) _)⟩
theorem read_down (w : World) (F : Nat → Prop) (p : Nat) (s : DSt) (n : Int) (h : DiskAt w F p s) (ho : s.off = true) :
    Calls Tryd.prog 74 #[.pointer (some ⟨p, 0, none⟩), .int .i64 n] w fun e w' => e = .returned (.tuple #[.slice none 0 0, .int .i64 8]) ∧ w = w' := by
  have hready := ready_any w F p s h
  rw [ho, if_pos rfl] at hready
  have HR := Lib.hid hready
  clear hready h ho
  go_enter Tryd.func74, Tryd.ntmps74
  go_wp2_with (go_at_call 65; refine HR.out.mono ?_; rintro e1 w1 ⟨rfl, rfl⟩)
  go_ret2
  exact ⟨rfl, rfl⟩
end Go.Proofs.YtcmnfbpmkndfkaaDoor
namespace Go.Proofs.YtcmnfbpmkndfkaaDoor
set_option maxRecDepth 100000
open Go.ChangeShapes Go.WideShapes Go.ChangeAt Go.RowKit
set_option linter.unusedVariables false

/-- bytes as a text -/
def bstr (l : List Nat) : ByteArray := ⟨(l.map fun c => UInt8.ofNat c).toArray⟩
theorem size_bstr (l : List Nat) : (bstr l).size = l.length := by
  unfold bstr
  show (l.map fun c => UInt8.ofNat c).toArray.size = _
  simp
theorem u8_toNat (n : Nat) (h : n < 256) : (UInt8.ofNat n).toNat = n := by simp [UInt8.toNat_ofNat']; omega
theorem bytesOf_bstr (l : List Nat) (h : ∀ c ∈ l, c < 256) : bytesOf (bstr l) = l := by
  unfold bytesOf bstr
  rw [List.toList_toArray, List.map_map]
  conv => rhs; rw [← List.map_id l]
  refine List.map_congr_left fun c hc => ?_
  exact u8_toNat c (h c hc)
theorem bstr_bytesOf (s : ByteArray) : bstr (bytesOf s) = s := by
  unfold bstr bytesOf
  rw [List.map_map]
  have e : (List.map ((fun c => UInt8.ofNat c) ∘ fun c => c.toNat) s.data.toList) = s.data.toList := by
    conv => rhs; rw [← List.map_id s.data.toList]
    refine List.map_congr_left fun c _ => ?_
    simp
  rw [e]
theorem conv_row {w : World} {a : Option Addr} {m : Nat} {l : List Nat} (cap : Nat) (h : ByteRow w a m l) :
    (convert 34 9 (.slice a m cap)).run Tryd.prog w = .ok (.string (bstr l)) w := by
  obtain ⟨h1, h2, h3, h4⟩ := h
  by_cases h0 : m = 0
  · subst h0
    obtain rfl : l = [] := List.eq_nil_of_length_eq_zero h1
    rw [run_convert_bytes_string w 34 9 5 a 0 cap Tryd.underlying34 Tryd.underlying5 Tryd.underlying9]
    cases a with
    | none => rfl
    | some a => exact run_bytesToString w a 0 cap [] rfl
  · obtain ⟨b, o, rfl, hc⟩ := h4 (by omega)
    have e : bstr l = strOfNums (l.map fun (n : Nat) => (n : Int)) := by
      unfold bstr strOfNums
      rw [List.map_map]
      rfl
    rw [e]
    refine run_convert_bytes_arg w 34 5 Tryd.underlying34 Tryd.underlying5 b o m cap _ (by rw [List.length_map]; exact h1) (fun i hi => ?_) 9 Tryd.underlying9
    rw [hc i hi]
    have e3 : (l.map fun (n : Nat) => (n : Int)).getD i 0 = ((l.getD i 0 : Nat) : Int) := by
      simp [List.getD, List.getElem?_map]
      cases l[i]? <;> rfl
    rw [e3]
theorem ByteRow.keep {w w' : World} {a : Option Addr} {n : Nat} {l : List Nat} (h : ByteRow w a n l) (hk : ∀ b o i, a = some ⟨b, o, none⟩ → 0 < n → w'.cell? ⟨b, i, none⟩ = w.cell? ⟨b, i, none⟩) : ByteRow w' a n l := by
  refine ⟨h.1, h.2.1, h.2.2.1, fun h0 => ?_⟩
  obtain ⟨b, o, rfl, hc⟩ := h.2.2.2 h0
  exact ⟨b, o, rfl, fun i hi => (hk b o _ rfl h0).trans (hc i hi)⟩
theorem cell_lt {w : World} {a : Addr} {v : Value} (h : w.cell? a = some v) : a.block < w.heap.size := by
  rcases Nat.lt_or_ge a.block w.heap.size with h' | h'
  · exact h'
  · simp [World.cell?, Array.getElem?_eq_none h'] at h
theorem ByteRow.only {w w' : World} {F : Nat → Prop} {a : Option Addr} {n : Nat} {l : List Nat} (h : ByteRow w a n l) (ho : Only F w w') (ha : ∀ x, a = some x → ¬ F x.block) : ByteRow w' a n l := by
  refine ⟨h.1, h.2.1, h.2.2.1, fun h0 => ?_⟩
  obtain ⟨b, o, rfl, hc⟩ := h.2.2.2 h0
  exact ⟨b, o, rfl, fun i hi => (World.cell?_of_block (ho.block b (cell_lt (hc i hi)) (ha _ rfl))).trans (hc i hi)⟩

/-- the blocks, and the new ones -/
def Gr (F : Nat → Prop) (w w' : World) (k : Nat) : Prop := F k ∨ (w.heap.size ≤ k ∧ k < w'.heap.size)

/-- a disk, its rows by name -/
def DiskR (w : World) (F : Nat → Prop) (p : Nat) (s : DSt) (lb nb lc nc : Nat) (wv : Value) : Prop :=
  w.heap[p]? = some (.cells #[.slice (some ⟨lb, 0, none⟩) s.L.length lc, .slice (some ⟨nb, 0, none⟩) s.L.length nc, wv, .bool s.armed, .int .i64 s.left, .bool s.off, .int .i64 s.steps] 86) ∧
    Row w 9 1 (.slice (some ⟨lb, 0, none⟩) s.L.length lc) s.L.length (strs s.L) ∧ Row w 9 1 (.slice (some ⟨nb, 0, none⟩) s.L.length nc) s.L.length (strs s.N) ∧
    Row w 103 2 wv s.W.length (wcells s.W) ∧ lb ≠ nb ∧ F p ∧ F lb ∧ F nb ∧ (∀ g, wv.ownBlock = some g → F g) ∧ (∀ x ∈ s.W, x.1 < s.L.length) ∧ (∀ k, F k → k < w.heap.size)
theorem DiskR.at_ {w : World} {F : Nat → Prop} {p : Nat} {s : DSt} {lb nb lc nc : Nat} {wv : Value} (h : DiskR w F p s lb nb lc nc wv) : DiskAt w F p s := ⟨lb, nb, lc, nc, wv, h⟩
theorem DiskR.facts {w : World} {F : Nat → Prop} {p : Nat} {s : DSt} {lb nb lc nc : Nat} {wv : Value} (h : DiskR w F p s lb nb lc nc wv) :
    w.cell? ⟨p, 0, none⟩ = some (.slice (some ⟨lb, 0, none⟩) s.L.length lc) ∧ w.cell? ⟨p, 1, none⟩ = some (.slice (some ⟨nb, 0, none⟩) s.L.length nc) ∧ w.cell? ⟨p, 2, none⟩ = some wv ∧
    (∀ i, i < s.L.length → w.cell? ⟨lb, i, none⟩ = some (.string (s.L.getD i ⟨#[]⟩))) ∧ (∀ i, i < s.L.length → w.cell? ⟨nb, i, none⟩ = some (.string (s.N.getD i ⟨#[]⟩))) ∧
    s.N.length = s.L.length ∧ s.L.length ≤ 9223372036854775807 ∧ (∀ i, w.frozen? ⟨lb, i, none⟩ = false) ∧ (∀ i, w.frozen? ⟨nb, i, none⟩ = false) ∧ (∀ i, w.frozen? ⟨p, i, none⟩ = false) ∧ lb ≠ p ∧ nb ≠ p ∧ (∀ g, wv.ownBlock = some g → g ≠ p ∧ g ≠ lb ∧ g ≠ nb) ∧ p < w.heap.size := by
  have hlt := h.at_.lt
  obtain ⟨h1, h2, h3, h4, h5, h6, h7, h8, h9, h10, h11⟩ := h
  have hl : s.N.length = s.L.length := by have := h3.1; simp only [strs, List.length_map] at this; omega
  obtain ⟨cur, hc⟩ := row_heap h2
  obtain ⟨cur', hc'⟩ := row_heap h3
  have hcap : s.L.length ≤ 9223372036854775807 := by
    rcases h2.2 with ⟨h', _⟩ | ⟨g, cap, cur, h', _, _, a1, a2, _⟩
    · cases h'
    · unfold maxLen at a2
      omega
  refine ⟨by simp [World.cell?, h1], by simp [World.cell?, h1], by simp [World.cell?, h1], fun i hi => ?_, fun i hi => ?_, hl, hcap, fun i => by simp [World.frozen?, hc], fun i => by simp [World.frozen?, hc'], fun i => by simp [World.frozen?, h1], types_ne hc h1 (by decide), types_ne hc' h1 (by decide), fun g hg => ?_, hlt⟩
  · rw [World.ownsRow.cellAt h2 i (by omega)]
    simp [strs, List.getElem?_map, List.getElem?_eq_getElem hi, List.getD]
  · rw [World.ownsRow.cellAt h3 i (by omega)]
    have hi' : i < s.N.length := by omega
    simp [strs, List.getElem?_map, List.getElem?_eq_getElem hi', List.getD]
  · obtain ⟨c2, hg2⟩ := row_heap' h4 hg
    exact ⟨types_ne hg2 h1 (by decide), types_ne hg2 hc (by decide), types_ne hg2 hc' (by decide)⟩
theorem row_set {w : World} {n b c i : Nat} {l : List ByteArray} (h : Row w 9 1 (.slice (some ⟨b, 0, none⟩) n c) n (strs l)) (x : ByteArray) : Row (w.setCell ⟨b, i, none⟩ (.string x)) 9 1 (.slice (some ⟨b, 0, none⟩) n c) n (strs (l.set i x)) := by
  have e : strs (l.set i x) = (strs l).set i (.string x) := by unfold strs; rw [List.map_set]
  rw [e]
  exact (World.ownsRow.stored h i (.string x)).1
theorem DiskR.setN {w : World} {F : Nat → Prop} {p : Nat} {s : DSt} {lb nb lc nc : Nat} {wv : Value} (h : DiskR w F p s lb nb lc nc wv) (i : Nat) (x : ByteArray) : DiskR (w.setCell ⟨nb, i, none⟩ (.string x)) F p { s with N := s.N.set i x } lb nb lc nc wv := by
  obtain ⟨_, _, _, _, _, _, _, _, _, _, g1, g2, g3, _⟩ := h.facts
  obtain ⟨h1, h2, h3, h4, h5, h6, h7, h8, h9, h10, h11⟩ := h
  refine ⟨by rw [Below.heap_setCell w ⟨nb, i, none⟩ _ p g2.symm]; exact h1, h2.keep (fun g hg => by cases hg; exact Below.heap_setCell w _ _ _ h5), row_set h3 x, h4.keep (fun g hg => Below.heap_setCell w _ _ _ (g3 g hg).2.2), h5, h6, h7, h8, h9, h10, fun k hk => by simp only [World.setCell, Array.size_modify]; exact h11 k hk⟩
theorem DiskR.setL {w : World} {F : Nat → Prop} {p : Nat} {s : DSt} {lb nb lc nc : Nat} {wv : Value} (h : DiskR w F p s lb nb lc nc wv) (i : Nat) (x : ByteArray) : DiskR (w.setCell ⟨lb, i, none⟩ (.string x)) F p { s with L := s.L.set i x } lb nb lc nc wv := by
  obtain ⟨_, _, _, _, _, _, _, _, _, _, g1, g2, g3, _⟩ := h.facts
  obtain ⟨h1, h2, h3, h4, h5, h6, h7, h8, h9, h10, h11⟩ := h
  have e : (s.L.set i x).length = s.L.length := List.length_set ..
  refine ⟨by rw [Below.heap_setCell w ⟨lb, i, none⟩ _ p g1.symm]; dsimp only; rw [e]; exact h1, by dsimp only; rw [e]; exact row_set h2 x, by dsimp only; rw [e]; exact h3.keep (fun g hg => by cases hg; exact Below.heap_setCell w _ _ _ h5.symm), h4.keep (fun g hg => Below.heap_setCell w _ _ _ (g3 g hg).2.1), h5, h6, h7, h8, h9, fun y hy => by dsimp only; rw [e]; exact h10 y hy, fun k hk => by simp only [World.setCell, Array.size_modify]; exact h11 k hk⟩
theorem DiskR.keep {w w' : World} {F G : Nat → Prop} {p : Nat} {s : DSt} {lb nb lc nc : Nat} {wv : Value} (h : DiskR w F p s lb nb lc nc wv) (ho : Only G w w') (hd : ∀ k, F k → ¬ G k) : DiskR w' F p s lb nb lc nc wv := by
  have hp := h.at_.lt
  obtain ⟨h1, h2, h3, h4, h5, h6, h7, h8, h9, h10, h11⟩ := h
  have k : ∀ g, F g → w'.heap[g]? = w.heap[g]? := fun g hg => ho.block g (h11 g hg) (hd g hg)
  exact ⟨(k p h6).trans h1, h2.keep (fun g hg => by cases hg; exact k _ h7), h3.keep (fun g hg => by cases hg; exact k _ h8), h4.keep (fun g hg => k g (h9 g hg)), h5, h6, h7, h8, h9, h10, fun g hg => Nat.lt_of_lt_of_le (h11 g hg) ho.size⟩
theorem wcells_snoc (l : List (Nat × ByteArray)) (x : Nat × ByteArray) : wcells (l ++ [x]) = wcells l ++ [.int .i64 (x.1 : Int), .string x.2] := by
  unfold wcells
  simp
/-- a write more that waits -/
theorem DiskR.waits {w w' : World} {F : Nat → Prop} {p : Nat} {s : DSt} {lb nb lc nc : Nat} {wv : Value} (h : DiskR w F p s lb nb lc nc wv) (n : Nat) (x : ByteArray) (hn : n < s.L.length) (g c : Nat) (hown : w'.ownsRow 0 103 2 (.slice (some ⟨g, 0, none⟩) (s.W.length + 1) c) (s.W.length + 1) (wcells s.W ++ [.int .i64 (n : Int), .string x]))
    (hgrow : w.grownBy w' wv.ownBlock) (hat : wv.ownBlock = some g ∨ w.heap.size ≤ g) (hlt : g < w'.heap.size) :
    DiskR (w'.setCell ⟨p, 2, none⟩ (.slice (some ⟨g, 0, none⟩) (s.W.length + 1) c)) (Gr F w w') p { s with W := s.W ++ [(n, x)] } lb nb lc nc (.slice (some ⟨g, 0, none⟩) (s.W.length + 1) c) := by
  obtain ⟨_, _, _, _, _, _, _, _, _, _, g1, g2, g3, g4⟩ := h.facts
  obtain ⟨h1, h2, h3, h4, h5, h6, h7, h8, h9, h10, h11⟩ := h
  have hl := row_lt h2
  have hn' := row_lt h3
  have e1 : w'.heap[p]? = w.heap[p]? := hgrow.block p g4 (fun e => (g3 p e.symm).1 rfl)
  have hgp : g ≠ p := by
    rcases hat with e | e
    · exact (g3 g e).1
    · omega
  have e2 : (s.W ++ [(n, x)]).length = s.W.length + 1 := by simp
  refine ⟨?_, h2.keep ?_, h3.keep ?_, ?_, h5, .inl h6, .inl h7, .inl h8, ?_, ?_, ?_⟩
  · have h1' := e1.trans h1
    rw [set_put w' p 2 _ h1']
    rfl
  · intro k hk
    cases hk
    rw [Below.heap_setCell w' ⟨p, 2, none⟩ _ _ g1]
    exact hgrow.block _ hl (fun e => (g3 _ e.symm).2.1 rfl)
  · intro k hk
    cases hk
    rw [Below.heap_setCell w' ⟨p, 2, none⟩ _ _ g2]
    exact hgrow.block _ hn' (fun e => (g3 _ e.symm).2.2 rfl)
  · dsimp only
    rw [e2, wcells_snoc]
    exact Row.keep (w := w') hown (fun k hk => by cases hk; exact Below.heap_setCell w' _ _ _ hgp)
  · intro k hk
    cases hk
    rcases hat with e | e
    · exact .inl (h9 g e)
    · exact .inr ⟨e, hlt⟩
  · intro y hy
    rcases List.mem_append.1 hy with hy | hy
    · exact h10 y hy
    · simp only [List.mem_singleton] at hy
      subst hy
      exact hn
  · intro k hk
    simp only [World.setCell, Array.size_modify]
    rcases hk with hk | hk
    · exact Nat.lt_of_lt_of_le (h11 k hk) hgrow.size
    · exact hk.2
end Go.Proofs.YtcmnfbpmkndfkaaDoor
namespace Go.Proofs.YtcmnfbpmkndfkaaDoor
set_option maxRecDepth 100000
open Go.ChangeShapes Go.WideShapes Go.ChangeAt Go.RowKit
set_option linter.unusedVariables false

theorem info54 : (Tryd.prog.info? 103).map (fun i => (i.zero, i.size, i.bytes)) = some (some (.agg #[.int .i64 0, .string ⟨#[]⟩]), 2, 24) := by kernel_rfl
theorem chg_L (s : DSt) : (chg s).L = s.L := by unfold chg; split <;> rfl
theorem chg_N (s : DSt) : (chg s).N = s.N := by unfold chg; split <;> rfl
theorem chg_W (s : DSt) : (chg s).W = s.W := by unfold chg; split <;> rfl

/-- a write's sector, and its bytes, in its variable -/
def Wrote (w : World) (B : Nat) (n : Nat) (x : ByteArray) : Prop := w.heap[B]? = some (.cells #[.int .i64 (n : Int), .string x] 103)
theorem Wrote.two {w : World} {B n : Nat} {x : ByteArray} (h : Wrote w B n x) : w.cell? ⟨B, 0, none⟩ = some (.int .i64 (n : Int)) ∧ w.cell? ⟨B, 1, none⟩ = some (.string x) := by
  unfold Wrote at h
  constructor <;> simp [World.cell?, h]
theorem Wrote.lt {w : World} {B n : Nat} {x : ByteArray} (h : Wrote w B n x) : B < w.heap.size := by
  unfold Wrote at h
  rcases Nat.lt_or_ge B w.heap.size with g | g
  · exact g
  · rw [Array.getElem?_eq_none g] at h
    cases h
theorem wrote (w : World) (n : Nat) (x : ByteArray) : Wrote (w.alloc (.cells #[.int .i64 (n : Int), .string x] 103)) w.heap.size n x := by
  show (w.heap.push _)[w.heap.size]? = _
  simp

/-- what a write does -/
def wr (s : DSt) (n : Nat) (x : ByteArray) : DSt := { chg s with N := s.N.set n x, W := s.W ++ [(n, x)] }

theorem disk_own {wu : World} {o : Obj} {F : Nat → Prop} {p : Nat} {s : DSt} {lb nb lc nc Z : Nat} {wv : Value} {N : List ByteArray} (h : DiskR wu F p { s with N := N } lb nb lc nc wv) (hz : s.W.length = Z) : ((wu.alloc o).drew).ownsRow 0 103 2 wv Z (wcells s.W) := by
  subst hz
  exact World.ownsRow.drew (World.ownsRow.alloc h.2.2.2.1 o)
theorem undo_grown {wu w3 : World} {o : Obj} {row : Option Nat} (h : ((wu.alloc o).drew).grownBy w3 row) : wu.grownBy w3 row := by
  have e : (wu.alloc o).drew.heap.size = wu.heap.size + 1 := by
    show (wu.heap.push o).size = _
    simp
  refine ⟨h.os, h.tape, h.output, by have := h.size; omega, fun j hj hne => ?_⟩
  rw [h.block j (by omega) hne]
  exact Below.heap_alloc wu o j hj
theorem keep2 {w w3 : World} {F : Nat → Prop} {p : Nat} {s : DSt} {lb nb lc nc : Nat} {wv : Value} (h : DiskR w F p s lb nb lc nc wv) (hg : w.grownBy w3 wv.ownBlock) : w3.cell? ⟨p, 2, none⟩ = some wv ∧ w3.frozen? ⟨p, 2, none⟩ = false := by
  obtain ⟨d0, d1, d2, dl, dn, dln, dm, el, en, ep, q1, q2, q3, q4⟩ := h.facts
  exact ⟨(hg.cell_far ⟨p, 2, none⟩ q4 (fun e => (q3 p e.symm).1 rfl)).trans d2, (hg.frozen_far ⟨p, 2, none⟩ q4 (fun e => (q3 p e.symm).1 rfl)).trans (ep 2)⟩
theorem write_end {w wu w3 : World} {F : Nat → Prop} {p n lb nb lc nc Z g c : Nat} {s : DSt} {wv : Value} {x : ByteArray} (h : DiskR wu F p { chg s with N := (chg s).N.set n x } lb nb lc nc wv) (hn : n < (chg s).L.length) (hz : (chg s).W.length = Z)
    (hown : w3.ownsRow 0 103 2 (.slice (some ⟨g, 0, none⟩) (Z + 1) c) (Z + 1) (wcells (chg s).W ++ [.int .i64 (n : Int), .string x])) (hg : wu.grownBy w3 wv.ownBlock) (hat : wv.ownBlock = some g ∨ g = wu.heap.size + 1) (hlt : g < w3.heap.size) (ho : Only F w wu) :
    DiskAt (w3.setCell ⟨p, 2, none⟩ (.slice (some ⟨g, 0, none⟩) (Z + 1) c)) (Gr F w (w3.setCell ⟨p, 2, none⟩ (.slice (some ⟨g, 0, none⟩) (Z + 1) c))) p (wr s n x) ∧ Only F w (w3.setCell ⟨p, 2, none⟩ (.slice (some ⟨g, 0, none⟩) (Z + 1) c)) := by
  subst hz
  have hF := h.2.2.2.2.2.1
  have hO := h.2.2.2.2.2.2.2.2.1
  have hlt2 := h.2.2.2.2.2.2.2.2.2.2
  have d := h.waits n x hn g c hown hg (hat.imp id (fun e => by omega)) hlt
  have e : wr s n x = { chg s with N := (chg s).N.set n x, W := (chg s).W ++ [(n, x)] } := by unfold wr; rw [chg_N, chg_W]
  rw [e]
  have es : (w3.setCell ⟨p, 2, none⟩ (.slice (some ⟨g, 0, none⟩) ((chg s).W.length + 1) c)).heap.size = w3.heap.size := by simp [World.setCell]
  refine ⟨DiskAt.wider (DiskR.at_ d) (fun k hk => ?_) (fun k hk => ?_), (ho.grown hg (fun k hk => .inl (hO k hk))).setCell hF _⟩
  · rcases hk with hk | hk
    · exact .inl hk
    · exact .inr ⟨Nat.le_trans ho.size hk.1, by rw [es]; exact hk.2⟩
  · rw [es]
    rcases hk with hk | hk
    · exact Nat.lt_of_lt_of_le (hlt2 k hk) hg.size
    · rw [es] at hk
      exact hk.2
set_option maxRecDepth 100000 in
set_option maxHeartbeats 2000000 in
theorem write_ok (w : World) (F : Nat → Prop) (p : Nat) (s : DSt) (n : Nat) (a : Option Addr) (cap : Nat) (l : List Nat) (h : DiskAt w F p s) (ho : s.off = false) (hn : n < s.L.length) (hb : ByteRow w a 512 l) (ha : ∀ x, a = some x → ¬ F x.block)
    (hs : 0 ≤ s.steps ∧ s.steps < 4611686018427387904) (hl : 0 ≤ s.left ∧ s.left < 4611686018427387904) (hw : s.W.length < 1000000) (hc : chgE s = 0) :
    Calls Tryd.prog 46 #[.pointer (some ⟨p, 0, none⟩), .int .i64 n, .slice a 512 cap] w fun e w' => e = .returned (.int .i64 0) ∧ DiskAt w' (Gr F w w') p (wr s n (bstr l)) ∧ Only F w w' := by
  obtain ⟨i0, hi, hz0, hz1, hz2⟩ := info_parts info54
  have hready := ready_any w F p s h
  have hhas := has_any w F p s n h
  have hchange := change_any w F p s h hs hl
  rw [ho, if_neg (by decide)] at hready
  rw [decide_eq_true (by omega)] at hhas
  rw [hc] at hchange
  have HR := Lib.hid hready
  have HH := Lib.hid hhas
  have HC := Lib.hid hchange
  have HB := Lib.hid hb
  have HA := Lib.hid ha
  have HN := Lib.hid hn
  have HW := Lib.hid hw
  clear hready hhas hchange hb ha h ho hn hs hl hw hc
  go_enter Tryd.func46, Tryd.ntmps46
  go_wp2_with (first
    | (go_at_call 65; refine HR.out.mono ?_; rintro e1 w1 ⟨rfl, rfl⟩)
    | (go_at_call 66; refine HH.out.mono ?_; rintro e1 w1 ⟨rfl, rfl⟩)
    | (go_at_call 67; refine HC.out.mono ?_; rintro e1 w1 ⟨rfl, hd, ho⟩; have HD := Lib.hid hd; have HO := Lib.hid ho; have hconv := conv_row cap (HB.out.only ho HA.out); clear hd ho))
  obtain ⟨lb, nb, lc, nc, wv, hR⟩ := HD.out
  have HT := Lib.hid (wrote w1 n (bstr l))
  have HR2 : Hid (DiskR (w1.alloc (.cells #[.int .i64 (n : Int), .string (bstr l)] 103)) F p (chg s) lb nb lc nc wv) := Lib.hid (DiskR.keep hR (Only.alloc (Only.refl (fun _ => False) w1) _) (fun _ _ h => h))
  have HO2 := Lib.hid (Only.alloc HO.out (.cells #[.int .i64 (n : Int), .string (bstr l)] 103))
  have HF : Hid (F p ∧ F nb) := Lib.hid ⟨hR.2.2.2.2.2.1, hR.2.2.2.2.2.2.2.1⟩
  have HBW : Hid (∀ k, F k → k < w1.heap.size) := Lib.hid hR.2.2.2.2.2.2.2.2.2.2
  have HL : Hid ((chg s).L.length = s.L.length) := Lib.hid (by rw [chg_L])
  clear hR hconv
  have HCOPY := HN.out
  have HCOPY' : n < (chg s).L.length := by rw [HL.out]; exact HCOPY
  have HCP := Lib.hid HCOPY'
  clear HCOPY'
  obtain ⟨c0, c1, c2, cl, cn, hln, hm, fl, fn, fp, g1, g2, g3, g4⟩ := HR2.out.facts
  rw [HL.out] at c1 cn hm hln
  have hT := HT.out.two.2
  have hcell := cn n HCOPY
  have hfn := fn n
  have hnB : nb ≠ w1.heap.size := by have := HBW.out nb HF.out.2; omega
  have hpB : p ≠ w1.heap.size := by have := HBW.out p HF.out.1; omega
  clear c0 c2 cl cn fl fn fp g3
  generalize hx : bstr l = x at *
  have HX := Lib.hid hx
  clear hx
  generalize wd : w1.alloc (.cells #[.int .i64 (n : Int), .string x] 103) = wt at *
  have HWD := Lib.hid wd
  clear wd
  generalize hBB : w1.heap.size = B at *
  generalize s.L.length = m at *
  have hS : wt.cell? ⟨p, 1, none⟩ = some (.slice (some ⟨nb, 0, none⟩) m nc) ∧ wt.cell? ⟨B, 1, none⟩ = some (.string x) := ⟨c1, hT⟩
  have hS' : (wt.setCell ⟨nb, n, none⟩ (.string x)).cell? ⟨p, 1, none⟩ = some (.slice (some ⟨nb, 0, none⟩) m nc) ∧ (wt.setCell ⟨nb, n, none⟩ (.string x)).cell? ⟨B, 1, none⟩ = some (.string x) :=
    ⟨(World.cell?_of_block (Below.heap_setCell wt _ _ p g2.symm)).trans c1, (World.cell?_of_block (Below.heap_setCell wt _ _ B hnB.symm)).trans hT⟩
  go_region_held3 (fun w' => w'.cell? ⟨p, 1, none⟩ = some (.slice (some ⟨nb, 0, none⟩) m nc) ∧ w'.cell? ⟨B, 1, none⟩ = some (.string x)) (first | exact hS | exact hS') (fail)
  go_wp2_with fail
  have HR3 : Hid (DiskR (wt.setCell ⟨nb, n, none⟩ (.string x)).drew F p { chg s with N := (chg s).N.set n x } lb nb lc nc wv) := Lib.hid (HR2.out.setN n x)
  have HT3 : Hid (Wrote (wt.setCell ⟨nb, n, none⟩ (.string x)).drew B n x) := Lib.hid ((Below.heap_setCell wt ⟨nb, n, none⟩ (.string x) B hnB.symm).trans HT.out)
  have HO3 : Hid (Only F w (wt.setCell ⟨nb, n, none⟩ (.string x)).drew) := Lib.hid (HO2.out.setCell (p := ⟨nb, n, none⟩) HF.out.2 _).drew
  clear hS hS' c1 hT hcell hfn
  generalize (wt.setCell ⟨nb, n, none⟩ (.string x)).drew = wu at *
  obtain ⟨d0, d1, d2, dl, dn, dln, dm, el, en, ep, q1, q2, q3, q4⟩ := HR3.out.facts
  have hT0 := HT3.out.two.1
  have hT1 := HT3.out.two.2
  have hfp := ep 2
  have HQ := Lib.hid q3
  have HWN : Hid ((chg s).W.length < 1000000) := Lib.hid (by rw [chg_W]; exact HW.out)
  clear d0 d1 dl dn dln dm el en ep q3 q1 q2
  generalize hZ : (chg s).W.length = Z at *
  have HZ := Lib.hid hZ
  have hZW := HWN.out
  clear hZ
  go_region_law (refine step_append_lies _ (by rfl) _ _ _ (by rfl) 0 103 i0 _ 2 24 Tryd.underlying84 hi hz0 hz1 hz2 rfl (by decide) wv Z (wcells (chg s).W) (by rfl) (disk_own HR3.out HZ.out) ⟨wu.heap.size, 0, none⟩ 1 1 [.int .i64 (n : Int), .string x] (by rfl) (by rfl) (World.news_of_block (cs := #[.int .i64 (n : Int), .string x]) (t := 103) (fr := (0, 0)) (heap_alloc_new wu _)) (by simp [Value.oneCell']) (by decide) (by unfold maxLen; omega) (by omega) (Nat.zero_le _) (wu.heap.size + 1) (by simp) ?_; intro g9 c9 w3 hown hgrow hat hlt; have H3 := Lib.hid (undo_grown hgrow); have HOW := Lib.hid hown; have HAT := Lib.hid hat; have HLT := Lib.hid hlt; have hp3 := (keep2 HR3.out H3.out).1; have hf3 := (keep2 HR3.out H3.out).2; clear hown hgrow hat hlt)
  all_goals go_wp2_with fail
  all_goals go_ret
  all_goals exact ⟨rfl, by rw [HX.out]; exact (write_end HR3.out HCP.out HZ.out HOW.out H3.out HAT.out HLT.out HO3.out).1, (write_end HR3.out HCP.out HZ.out HOW.out H3.out HAT.out HLT.out HO3.out).2⟩

theorem write_off (w : World) (F : Nat → Prop) (p : Nat) (s : DSt) (n : Int) (a : Option Addr) (len cap : Nat) (h : DiskAt w F p s) (ho : s.off = true) :
    Calls Tryd.prog 46 #[.pointer (some ⟨p, 0, none⟩), .int .i64 n, .slice a len cap] w fun e w' => e = .returned (.int .i64 8) ∧ w = w' := by
  have hready := ready_any w F p s h
  rw [ho, if_pos rfl] at hready
  have HR := Lib.hid hready
  clear hready h ho
  go_enter Tryd.func46, Tryd.ntmps46
  go_wp2_with (go_at_call 65; refine HR.out.mono ?_; rintro e1 w1 ⟨rfl, rfl⟩)
  go_ret
  exact ⟨rfl, rfl⟩
theorem write_arg (w : World) (F : Nat → Prop) (p : Nat) (s : DSt) (n : Int) (a : Option Addr) (cap : Nat) (h : DiskAt w F p s) (ho : s.off = false) (hn : ¬ (0 ≤ n ∧ n < (s.L.length : Int))) :
    Calls Tryd.prog 46 #[.pointer (some ⟨p, 0, none⟩), .int .i64 n, .slice a 512 cap] w fun e w' => e = .returned (.int .i64 1) ∧ w = w' := by
  have hready := ready_any w F p s h
  have hhas := has_any w F p s n h
  rw [ho, if_neg (by decide)] at hready
  rw [decide_eq_false hn] at hhas
  have HR := Lib.hid hready
  have HH := Lib.hid hhas
  clear hready hhas h ho hn
  go_enter Tryd.func46, Tryd.ntmps46
  go_wp2_with (first
    | (go_at_call 65; refine HR.out.mono ?_; rintro e1 w1 ⟨rfl, rfl⟩)
    | (go_at_call 66; refine HH.out.mono ?_; rintro e1 w1 ⟨rfl, rfl⟩))
  go_ret
  exact ⟨rfl, rfl⟩
theorem write_down (w : World) (F : Nat → Prop) (p : Nat) (s : DSt) (n : Nat) (a : Option Addr) (cap : Nat) (h : DiskAt w F p s) (ho : s.off = false) (hn : n < s.L.length)
    (hs : 0 ≤ s.steps ∧ s.steps < 4611686018427387904) (hl : 0 ≤ s.left ∧ s.left < 4611686018427387904) (hc : chgE s = 8) :
    Calls Tryd.prog 46 #[.pointer (some ⟨p, 0, none⟩), .int .i64 n, .slice a 512 cap] w fun e w' => e = .returned (.int .i64 8) ∧ DiskAt w' F p (chg s) ∧ Only F w w' := by
  have hready := ready_any w F p s h
  have hhas := has_any w F p s n h
  have hchange := change_any w F p s h hs hl
  rw [ho, if_neg (by decide)] at hready
  rw [decide_eq_true (by omega)] at hhas
  rw [hc] at hchange
  have HR := Lib.hid hready
  have HH := Lib.hid hhas
  have HC := Lib.hid hchange
  clear hready hhas hchange h ho hn hs hl hc
  go_enter Tryd.func46, Tryd.ntmps46
  go_wp2_with (first
    | (go_at_call 65; refine HR.out.mono ?_; rintro e1 w1 ⟨rfl, rfl⟩)
    | (go_at_call 66; refine HH.out.mono ?_; rintro e1 w1 ⟨rfl, rfl⟩)
    | (go_at_call 67; refine HC.out.mono ?_; rintro e1 w1 ⟨rfl, hd, ho⟩; have HD := Lib.hid hd; have HO := Lib.hid ho; clear hd ho))
  go_ret
  exact ⟨rfl, HD.out, HO.out⟩
end Go.Proofs.YtcmnfbpmkndfkaaDoor
namespace Go.Proofs.YtcmnfbpmkndfkaaDoor
set_option maxRecDepth 100000
open Go.ChangeShapes Go.WideShapes Go.ChangeAt Go.RowKit
set_option linter.unusedVariables false

/-- what lasts behind the first k of the writes that wait, of those that are picked -/
def lastsK (pk : Nat → Bool) (L : List ByteArray) (W : List (Nat × ByteArray)) : Nat → List ByteArray
  | 0 => L
  | k + 1 => match W[k]? with
    | some x => if pk k = true then (lastsK pk L W k).set x.1 x.2 else lastsK pk L W k
    | none => lastsK pk L W k
/-- what is read then -/
def nowK (L : List ByteArray) (N : List ByteArray) (W : List (Nat × ByteArray)) : Nat → List ByteArray
  | 0 => N
  | k + 1 => match W[k]? with
    | some x => (nowK L N W k).set x.1 (L.getD x.1 ⟨#[]⟩)
    | none => nowK L N W k
def settleS (pk : Nat → Bool) (s : DSt) : DSt := { s with L := lastsK pk s.L s.W s.W.length, N := nowK (lastsK pk s.L s.W s.W.length) s.N s.W s.W.length, W := [] }
theorem lastsK_len (pk : Nat → Bool) (L : List ByteArray) (W : List (Nat × ByteArray)) (k : Nat) : (lastsK pk L W k).length = L.length := by
  induction k with
  | zero => rfl
  | succ k ih =>
    unfold lastsK
    split
    · split
      · rw [List.length_set, ih]
      · exact ih
    · exact ih
theorem nowK_len (L N : List ByteArray) (W : List (Nat × ByteArray)) (k : Nat) : (nowK L N W k).length = N.length := by
  induction k with
  | zero => rfl
  | succ k ih =>
    unfold nowK
    split
    · rw [List.length_set, ih]
    · exact ih
theorem wcells_two (W : List (Nat × ByteArray)) (k : Nat) (h : k < W.length) : (wcells W)[k * 2]? = some (.int .i64 ((W[k]).1 : Int)) ∧ (wcells W)[k * 2 + 1]? = some (.string (W[k]).2) := by
  induction W generalizing k with
  | nil => simp at h
  | cons x W ih =>
    have e : wcells (x :: W) = .int .i64 (x.1 : Int) :: .string x.2 :: wcells W := by unfold wcells; simp
    rw [e]
    cases k with
    | zero => exact ⟨rfl, rfl⟩
    | succ k =>
      have h' := ih k (by simpa using h)
      rw [show (k + 1) * 2 = k * 2 + 1 + 1 by omega]
      simpa using h'
/-- the writes that wait, as a slice -/
theorem waits_shape {w : World} {F : Nat → Prop} {p : Nat} {s : DSt} {lb nb lc nc : Nat} {wv : Value} (h : DiskR w F p s lb nb lc nc wv) : ∃ A c, wv = .slice A s.W.length c ∧ s.W.length ≤ maxLen ∧ (0 < s.W.length → ∃ g, A = some ⟨g, 0, none⟩ ∧ g ≠ lb ∧ g ≠ nb ∧ g ≠ p ∧ F g) := by
  obtain ⟨_, _, _, _, _, _, _, _, _, _, g1, g2, g3, g4⟩ := h.facts
  have ho := h.2.2.2.2.2.2.2.2.1
  rcases h.2.2.2.1.2 with ⟨e, e2⟩ | ⟨g, cap, cur, rfl, _, hh, a1, a2, _⟩
  · rw [e2]
    exact ⟨none, 0, e, Nat.zero_le _, fun h => by omega⟩
  · exact ⟨_, _, rfl, by omega, fun _ => ⟨g, rfl, (g3 g rfl).2.1, (g3 g rfl).2.2, (g3 g rfl).1, ho g rfl⟩⟩
theorem waits_cells {w : World} {F : Nat → Prop} {p : Nat} {s : DSt} {lb nb lc nc : Nat} {g c : Nat} (h : DiskR w F p s lb nb lc nc (.slice (some ⟨g, 0, none⟩) s.W.length c)) (k : Nat) (hk : k < s.W.length) :
    w.cell? ⟨g, k * 2, none⟩ = some (.int .i64 ((s.W[k]).1 : Int)) ∧ w.cell? ⟨g, k * 2 + 1, none⟩ = some (.string (s.W[k]).2) := by
  obtain ⟨e1, e2⟩ := wcells_two s.W k hk
  have h4 := h.2.2.2.1
  exact ⟨by rw [World.ownsRow.cellAt h4 (k * 2) (by omega), e1], by rw [World.ownsRow.cellAt h4 (k * 2 + 1) (by omega), e2]⟩
theorem idx_waits (g n c k : Nat) (hk : k < n) (W : World) : (Instr.indexAt 84 (.slice (some ⟨g, 0, none⟩) n c) (.int .i64 (k : Int))).run Tryd.prog W = .ok (.pointer (some ⟨g, k * 2, none⟩)) W := by
  have h1 : (0 : Int) ≤ (k : Int) := by omega
  have h2 : (k : Int) < (n : Int) := by omega
  go_simp
theorem lastsK_at (pk : Nat → Bool) (L : List ByteArray) (W : List (Nat × ByteArray)) (k : Nat) (h : k < W.length) : lastsK pk L W (k + 1) = if pk k = true then (lastsK pk L W k).set (W[k]).1 (W[k]).2 else lastsK pk L W k := by
  conv => lhs; unfold lastsK
  rw [List.getElem?_eq_getElem h]
theorem nowK_at (L N : List ByteArray) (W : List (Nat × ByteArray)) (k : Nat) (h : k < W.length) : nowK L N W (k + 1) = (nowK L N W k).set (W[k]).1 (L.getD (W[k]).1 ⟨#[]⟩) := by
  conv => lhs; unfold nowK
  rw [List.getElem?_eq_getElem h]
theorem DiskR.wait_lt {w : World} {F : Nat → Prop} {p : Nat} {s : DSt} {lb nb lc nc : Nat} {wv : Value} (h : DiskR w F p s lb nb lc nc wv) (k : Nat) (hk : k < s.W.length) : (s.W[k]).1 < s.L.length := h.2.2.2.2.2.2.2.2.2.1 _ (List.getElem_mem hk)
theorem DiskR.own {w : World} {F : Nat → Prop} {p : Nat} {s : DSt} {lb nb lc nc : Nat} {wv : Value} (h : DiskR w F p s lb nb lc nc wv) : F p ∧ F lb ∧ F nb ∧ ∀ k, F k → k < w.heap.size := ⟨h.2.2.2.2.2.1, h.2.2.2.2.2.2.1, h.2.2.2.2.2.2.2.1, h.2.2.2.2.2.2.2.2.2.2⟩
theorem DiskR.drew {w : World} {F : Nat → Prop} {p : Nat} {s : DSt} {lb nb lc nc : Nat} {wv : Value} (h : DiskR w F p s lb nb lc nc wv) : DiskR w.drew F p s lb nb lc nc wv := h
theorem DiskR.alloc {w : World} {F : Nat → Prop} {p : Nat} {s : DSt} {lb nb lc nc : Nat} {wv : Value} (h : DiskR w F p s lb nb lc nc wv) (o : Obj) : DiskR (w.alloc o) F p s lb nb lc nc wv := h.keep (Only.alloc (Only.refl (fun _ => False) w) o) (fun _ _ h => h)
/-- nothing waits -/
theorem DiskR.none_ {w : World} {F : Nat → Prop} {p : Nat} {s : DSt} {lb nb lc nc : Nat} {wv : Value} (h : DiskR w F p s lb nb lc nc wv) : DiskAt (w.setCell ⟨p, 2, none⟩ (.slice none 0 0)) F p { s with W := [] } := by
  obtain ⟨_, _, _, _, _, _, _, _, _, _, g1, g2, g3, g4⟩ := h.facts
  obtain ⟨h1, h2, h3, h4, h5, h6, h7, h8, h9, h10, h11⟩ := h
  refine ⟨lb, nb, lc, nc, .slice none 0 0, ?_, h2.keep (fun g hg => by cases hg; exact Below.heap_setCell w _ _ _ g1), h3.keep (fun g hg => by cases hg; exact Below.heap_setCell w _ _ _ g2), World.ownsRow_nil _ _ _ _, h5, h6, h7, h8, (fun g hg => by cases hg), (fun x hx => by cases hx), fun k hk => by simp only [World.setCell, Array.size_modify]; exact h11 k hk⟩
  rw [set_put w p 2 _ h1]
  rfl

/-- the barrier's own pick: all -/
theorem all_any (k : Int) (w : World) : Calls Tryd.prog 69 #[.int .i64 k] w fun e w' => e = .returned (.bool true) ∧ w = w' := by
  go_enter Tryd.func69, Tryd.ntmps69
  go_wp2
  go_ret
  exact ⟨rfl, rfl⟩
/-- a slice of integers that came in -/
def IntRow (w : World) (a : Option Addr) (n : Nat) (zs : List Int) : Prop :=
  zs.length = n ∧ n ≤ maxLen ∧ (∀ z ∈ zs, -9223372036854775808 ≤ z ∧ z ≤ 9223372036854775807) ∧ (0 < n → ∃ b o, a = some ⟨b, o, none⟩ ∧ ∀ i, i < n → w.cell? ⟨b, o + i, none⟩ = some (.int .i64 (zs.getD i 0)))
theorem IntRow.at_ {w : World} {a : Option Addr} {n : Nat} {zs : List Int} (h : IntRow w a n zs) {k : Nat} (hk : k < n) :
    ∃ p : Addr, p.block < w.heap.size ∧ w.cell? p = some (.int .i64 (zs.getD k 0)) ∧ ∀ (cap : Nat) (W : World), (Instr.indexAt 47 (.slice a n cap) (.int .i64 (k : Int))).run Tryd.prog W = .ok (.pointer (some p)) W := by
  obtain ⟨_, _, _, h4⟩ := h
  obtain ⟨b, o, rfl, hc⟩ := h4 (by omega)
  refine ⟨⟨b, o + k, none⟩, cell_lt (hc k hk), hc k hk, fun cap W => ?_⟩
  have h1 : (0 : Int) ≤ (k : Int) := by omega
  have h2 : (k : Int) < (n : Int) := by omega
  clear hc h4
  go_simp
theorem IntRow.only {w w' : World} {F : Nat → Prop} {a : Option Addr} {n : Nat} {l : List Int} (h : IntRow w a n l) (ho : Only F w w') (ha : ∀ x, a = some x → ¬ F x.block) : IntRow w' a n l := by
  refine ⟨h.1, h.2.1, h.2.2.1, fun h0 => ?_⟩
  obtain ⟨b, o, rfl, hc⟩ := h.2.2.2 h0
  exact ⟨b, o, rfl, fun i hi => (World.cell?_of_block (ho.block b (cell_lt (hc i hi)) (ha _ rfl))).trans (hc i hi)⟩
/-- a crash's pick -/
def pkOf (zs : List Int) (n : Nat) (k : Nat) : Bool := decide (k < n) && (bits .and .i64 (zs.getD k 0) 1 == 1)
theorem pick_any (cb : Nat) (a : Option Addr) (n cap : Nat) (zs : List Int) (k : Nat) (w : World) (hc : w.cell? ⟨cb, 0, none⟩ = some (.slice a n cap)) (hz : IntRow w a n zs) :
    Calls Tryd.prog 41 #[.int .i64 (k : Int), .pointer (some ⟨cb, 0, none⟩)] w fun e w' => e = .returned (.bool (pkOf zs n k)) ∧ w = w' := by
  by_cases g : k < n
  · obtain ⟨q, hq, hcell, hix⟩ := hz.at_ g
    have hix1 := hix cap
    have e : pkOf zs n k = (bits .and .i64 (zs.getD k 0) 1 == 1) := by unfold pkOf; rw [decide_eq_true g]; rfl
    rw [e]
    clear e hix hz
    generalize zs.getD k 0 = z at *
    go_enter Tryd.func41, Tryd.ntmps41
    go_wp2
    go_ret
    exact ⟨rfl, rfl⟩
  · have e : pkOf zs n k = false := by unfold pkOf; rw [decide_eq_false g]; rfl
    rw [e]
    clear e hz
    go_enter Tryd.func41, Tryd.ntmps41
    go_wp2
    go_ret
    exact ⟨rfl, rfl⟩


theorem picks_at (w : World) (F : Nat → Prop) (a : Option Addr) (n cap : Nat) (zs : List Int) (hz : IntRow w a n zs) (ha : ∀ x, a = some x → ¬ F x.block) (hF : ∀ k, F k → k < w.heap.size) : ∀ W, Only F (w.alloc (.cells #[.slice a n cap] 47)) W → W.cell? ⟨w.heap.size, 0, none⟩ = some (.slice a n cap) ∧ IntRow W a n zs := by
  intro W h
  refine ⟨?_, IntRow.only (IntRow.only hz (Only.alloc (Only.refl F w) _) ha) h ha⟩
  have e1 : (w.alloc (.cells #[.slice a n cap] 47)).heap[w.heap.size]? = some (.cells #[.slice a n cap] 47) := by
    show (w.heap.push _)[w.heap.size]? = _
    simp
  have e2 : (w.alloc (.cells #[.slice a n cap] 47)).heap.size = w.heap.size + 1 := by
    show (w.heap.push _).size = _
    simp
  have e3 := (h.block w.heap.size (by omega) (fun g => by have := hF _ g; omega)).trans e1
  simp [World.cell?, e3]

set_option maxRecDepth 100000 in
set_option maxHeartbeats 2000000 in
theorem settle_all (w : World) (F : Nat → Prop) (p : Nat) (s : DSt) (pk : Nat → Bool) (h : DiskAt w F p s)
    (hpk : ∀ (k : Nat) (W : World), k < s.W.length → Only F w W → Calls Tryd.prog 69 #[.int .i64 (k : Int)] W fun e w' => e = .returned (.bool (pk k)) ∧ W = w') :
    Calls Tryd.prog 40 #[.pointer (some ⟨p, 0, none⟩), .func (.func 69) #[] #[]] w fun e w' => e = .returned (.tuple #[]) ∧ DiskAt w' F p (settleS pk s) ∧ Only F w w' := by
  obtain ⟨lb, nb, lc, nc, wv, hR⟩ := h
  obtain ⟨A, c, rfl, hm, hA⟩ := waits_shape hR
  have HPK := Lib.hid hpk
  have HA := Lib.hid hA
  have HR := Lib.hid (show DiskR w F p s lb nb lc nc (.slice A s.W.length c) from hR)
  obtain ⟨c0, c1, c2, cl, cn, hln, hmm, fl, fn, fp, g1, g2, g3, g4⟩ := HR.out.facts
  clear hpk hA hR c0 c1 cl cn fl fn fp hln hmm
  unfold maxLen at hm
  have HS := Lib.hid (rfl : settleS pk s = settleS pk s)
  generalize hZ : s.W.length = Z at *
  have HZ := Lib.hid hZ
  clear hZ g1 g2 g3 g4
  go_enter Tryd.func40, Tryd.ntmps40
  go_wp2
  clear c2
  go_loopw [13] (fun i wr => ∃ k : Nat, i = .int .i64 k ∧ k ≤ Z ∧ DiskR wr F p { s with L := lastsK pk s.L s.W k } lb nb lc nc (.slice A Z c) ∧ Only F w wr) (fun i _ => Z - (intOf i).toNat)
  case atStart => exact ⟨0, rfl, Nat.zero_le _, by have h := HR.out; exact h, Only.refl F w⟩
  case round =>
    obtain ⟨k, rfl, hk, hr, ho⟩ := hrel
    have HR1 := Lib.hid hr
    have HO1 := Lib.hid ho
    clear hr ho
    by_cases g : k < Z
    · have hkW : k < s.W.length := by rw [HZ.out]; exact g
      obtain ⟨gb, hgA, gne1, gne2, gne3, gF⟩ := HA.out (by omega)
      have hcc := waits_cells (s := { s with L := lastsK pk s.L s.W k }) (g := gb) (c := c) (by rw [← hgA]; dsimp only; rw [HZ.out]; exact HR1.out) k hkW
      obtain ⟨hd0, hd1⟩ := hcc
      have hix : ∀ W, (Instr.indexAt 84 (.slice A Z c) (.int .i64 (k : Int))).run Tryd.prog W = .ok (.pointer (some ⟨gb, k * 2, none⟩)) W := fun W => by rw [hgA]; exact idx_waits gb Z c k g W
      have HAT := Lib.hid (lastsK_at pk s.L s.W k hkW)
      have HWL := Lib.hid (HR1.out.wait_lt k hkW)
      have HPK1 : Hid (∀ W, Only F w W → Calls Tryd.prog 69 #[.int .i64 (k : Int)] W fun e w' => e = .returned (.bool (pk k)) ∧ W = w') := Lib.hid (fun W h => HPK.out k W g h)
      clear hgA gne1 gne2 gne3 gF
      dsimp only at hd0 hd1 HWL
      generalize (s.W[k]).1 = n at *
      generalize (s.W[k]).2 = x at *
      clear hkW
      have HT := Lib.hid (wrote wr n x)
      have HR2 := Lib.hid (HR1.out.alloc (.cells #[.int .i64 (n : Int), .string x] 103))
      have HO2 := Lib.hid (Only.alloc HO1.out (.cells #[.int .i64 (n : Int), .string x] 103))
      have HB := Lib.hid HR1.out.own
      generalize pk k = b at HAT HPK1
      cases b with
      | false =>
        go_wp2_with (go_at_call 69; refine (HPK1.out _ HO2.out).mono ?_; rintro e' w' ⟨rfl, rfl⟩)
        go_roundw
        case rel => exact ⟨k + 1, by go_num, by omega, by rw [HAT.out]; exact HR2.out, HO2.out⟩
        case measure => simp [intOf]; omega
      | true =>
        go_wp2_with (go_at_call 69; refine (HPK1.out _ HO2.out).mono ?_; rintro e' w' ⟨rfl, rfl⟩)
        obtain ⟨d0, d1, d2, dl, dn, dln, dm, el, en, ep, q1, q2, q3, q4⟩ := HR2.out.facts
        have hcell := dl n (by dsimp only; rw [lastsK_len]; rw [lastsK_len] at HWL; exact HWL.out)
        have hfl := el n
        have hT0 := HT.out.two.1
        have hT1 := HT.out.two.2
        have hnL := HWL.out
        have hlbT : lb ≠ wr.heap.size := by have := HB.out.2.2.2 lb HB.out.2.1; omega
        clear d1 d2 dl dn dln el en ep q2 q3 q4 hd0 hd1 hix
        dsimp only at d0 dm hcell hnL
        rw [lastsK_len] at d0 dm hnL
        generalize wr.alloc (.cells #[.int .i64 (n : Int), .string x] 103) = wt at *
        generalize wr.heap.size = B at *
        generalize s.L.length = m at *
        have hS : wt.cell? ⟨p, 0, none⟩ = some (.slice (some ⟨lb, 0, none⟩) m lc) ∧ wt.cell? ⟨B, 0, none⟩ = some (.int .i64 (n : Int)) ∧ wt.cell? ⟨B, 1, none⟩ = some (.string x) := ⟨d0, hT0, hT1⟩
        have hS' : (wt.setCell ⟨lb, n, none⟩ (.string x)).cell? ⟨p, 0, none⟩ = some (.slice (some ⟨lb, 0, none⟩) m lc) ∧ (wt.setCell ⟨lb, n, none⟩ (.string x)).cell? ⟨B, 0, none⟩ = some (.int .i64 (n : Int)) ∧ (wt.setCell ⟨lb, n, none⟩ (.string x)).cell? ⟨B, 1, none⟩ = some (.string x) :=
          ⟨(World.cell?_of_block (Below.heap_setCell wt _ _ p q1.symm)).trans d0, (World.cell?_of_block (Below.heap_setCell wt _ _ B hlbT.symm)).trans hT0, (World.cell?_of_block (Below.heap_setCell wt _ _ B hlbT.symm)).trans hT1⟩
        go_region_held3 (fun w' => w'.cell? ⟨p, 0, none⟩ = some (.slice (some ⟨lb, 0, none⟩) m lc) ∧ w'.cell? ⟨B, 0, none⟩ = some (.int .i64 (n : Int)) ∧ w'.cell? ⟨B, 1, none⟩ = some (.string x)) (first | exact hS | exact hS') (fail)
        go_wp2_with fail
        go_roundw
        case rel => exact ⟨k + 1, by go_num, by omega, by rw [HAT.out]; exact HR2.out.setL n x, (HO2.out.setCell (p := ⟨lb, n, none⟩) HB.out.2.1 _).drew⟩
        case measure => simp [intOf]; omega
    · obtain rfl : k = Z := by omega
      obtain ⟨d0, d1, d2, dl, dn, dln, dm, el, en, ep, q1, q2, q3, q4⟩ := HR1.out.facts
      have hc2 := d2
      clear d0 d1 dl dn dln dm el en ep q1 q2 q3 q4
      go_wp2_with fail
      clear hc2 d2
      obtain ⟨wo, rfl⟩ : ∃ wo : World, wo = wr := ⟨_, rfl⟩
      go_loopw [36] (fun i wr => ∃ j : Nat, i = .int .i64 j ∧ j ≤ k ∧ DiskR wr F p { s with L := lastsK pk s.L s.W k, N := nowK (lastsK pk s.L s.W k) s.N s.W j } lb nb lc nc (.slice A k c) ∧ Only F w wr) (fun i _ => k - (intOf i).toNat)
      case atStart => exact ⟨0, rfl, Nat.zero_le _, HR1.out, HO1.out⟩
      case round =>
        obtain ⟨j, rfl, hj, hr, ho⟩ := hrel
        have HR3 := Lib.hid hr
        have HO3 := Lib.hid ho
        clear hr ho HR1 HO1 g hk
        by_cases g : j < k
        · have hkW : j < s.W.length := by rw [HZ.out]; exact g
          obtain ⟨gb, hgA, gne1, gne2, gne3, gF⟩ := HA.out (by omega)
          have hcc := waits_cells (s := { s with L := lastsK pk s.L s.W k, N := nowK (lastsK pk s.L s.W k) s.N s.W j }) (g := gb) (c := c) (by rw [← hgA]; dsimp only; rw [HZ.out]; exact HR3.out) j hkW
          obtain ⟨hd0, hd1⟩ := hcc
          have hix : ∀ W, (Instr.indexAt 84 (.slice A k c) (.int .i64 (j : Int))).run Tryd.prog W = .ok (.pointer (some ⟨gb, j * 2, none⟩)) W := fun W => by rw [hgA]; exact idx_waits gb k c j g W
          have HAT := Lib.hid (nowK_at (lastsK pk s.L s.W k) s.N s.W j hkW)
          have HWL := Lib.hid (HR3.out.wait_lt j hkW)
          clear hgA gne1 gne2 gne3 gF
          dsimp only at hd0 hd1 HWL
          generalize (s.W[j]).1 = n at *
          generalize (s.W[j]).2 = x at *
          clear hkW
          have HT := Lib.hid (wrote wr n x)
          have HR4 := Lib.hid (HR3.out.alloc (.cells #[.int .i64 (n : Int), .string x] 103))
          have HO4 := Lib.hid (Only.alloc HO3.out (.cells #[.int .i64 (n : Int), .string x] 103))
          have HB := Lib.hid HR3.out.own
          go_wp2_with fail
          obtain ⟨d0, d1, d2, dl, dn, dln, dm, el, en, ep, q1, q2, q3, q4⟩ := HR4.out.facts
          have hcl := dl n HWL.out
          have hcn := dn n HWL.out
          have hfn := en n
          have hT0 := HT.out.two.1
          have hnL := HWL.out
          have hnbT : nb ≠ wr.heap.size := by have := HB.out.2.2.2 nb HB.out.2.2.1; omega
          have hlbnb : lb ≠ nb := HR3.out.2.2.2.2.1
          clear d2 dl dn dln el en ep q3 q4 hd0 hd1 hix
          dsimp only at d0 d1 dm hcl hcn hnL
          rw [lastsK_len] at d0 d1 dm hnL
          generalize (lastsK pk s.L s.W k).getD n ⟨#[]⟩ = y at *
          generalize wr.alloc (.cells #[.int .i64 (n : Int), .string x] 103) = wt at *
          generalize wr.heap.size = B at *
          generalize s.L.length = m at *
          have hS : wt.cell? ⟨p, 0, none⟩ = some (.slice (some ⟨lb, 0, none⟩) m lc) ∧ wt.cell? ⟨p, 1, none⟩ = some (.slice (some ⟨nb, 0, none⟩) m nc) ∧ wt.cell? ⟨B, 0, none⟩ = some (.int .i64 (n : Int)) ∧ wt.cell? ⟨lb, n, none⟩ = some (.string y) := ⟨d0, d1, hT0, hcl⟩
          have hS' : (wt.setCell ⟨nb, n, none⟩ (.string y)).cell? ⟨p, 0, none⟩ = some (.slice (some ⟨lb, 0, none⟩) m lc) ∧ (wt.setCell ⟨nb, n, none⟩ (.string y)).cell? ⟨p, 1, none⟩ = some (.slice (some ⟨nb, 0, none⟩) m nc) ∧ (wt.setCell ⟨nb, n, none⟩ (.string y)).cell? ⟨B, 0, none⟩ = some (.int .i64 (n : Int)) ∧ (wt.setCell ⟨nb, n, none⟩ (.string y)).cell? ⟨lb, n, none⟩ = some (.string y) :=
            ⟨(World.cell?_of_block (Below.heap_setCell wt _ _ p q2.symm)).trans d0, (World.cell?_of_block (Below.heap_setCell wt _ _ p q2.symm)).trans d1, (World.cell?_of_block (Below.heap_setCell wt _ _ B hnbT.symm)).trans hT0, (World.cell?_of_block (Below.heap_setCell wt _ _ lb hlbnb)).trans hcl⟩
          go_region_held3 (fun w' => w'.cell? ⟨p, 0, none⟩ = some (.slice (some ⟨lb, 0, none⟩) m lc) ∧ w'.cell? ⟨p, 1, none⟩ = some (.slice (some ⟨nb, 0, none⟩) m nc) ∧ w'.cell? ⟨B, 0, none⟩ = some (.int .i64 (n : Int)) ∧ w'.cell? ⟨lb, n, none⟩ = some (.string y)) (first | exact hS | exact hS') (fail)
          go_wp2_with fail
          go_roundw
          case rel => exact ⟨j + 1, by go_num, by omega, by rw [HAT.out]; exact HR4.out.setN n y, (HO4.out.setCell (p := ⟨nb, n, none⟩) HB.out.2.2.1 _).drew⟩
          case measure => simp [intOf]; omega
        · obtain rfl : j = k := by omega
          obtain ⟨d0, d1, d2, dl, dn, dln, dm, el, en, ep, q1, q2, q3, q4⟩ := HR3.out.facts
          have hc2 := d2
          have hf2 := ep 2
          clear d0 d1 dl dn dln dm el en ep q1 q2 q3 q4
          go_wp2_with fail
          go_end0
          have d := HR3.out.none_
          have e : settleS pk s = { s with L := lastsK pk s.L s.W j, N := nowK (lastsK pk s.L s.W j) s.N s.W j, W := [] } := by unfold settleS; rw [HZ.out]
          rw [e]
          exact ⟨rfl, d, HO3.out.setCell (p := ⟨p, 2, none⟩) HR3.out.own.1 _⟩

set_option maxRecDepth 100000 in
set_option maxHeartbeats 2000000 in
theorem settle_some (w : World) (F : Nat → Prop) (p : Nat) (s : DSt) (pk : Nat → Bool) (cb : Nat) (h : DiskAt w F p s)
    (hpk : ∀ (k : Nat) (W : World), k < s.W.length → Only F w W → Calls Tryd.prog 41 #[.int .i64 (k : Int), .pointer (some ⟨cb, 0, none⟩)] W fun e w' => e = .returned (.bool (pk k)) ∧ W = w') :
    Calls Tryd.prog 40 #[.pointer (some ⟨p, 0, none⟩), .func (.func 41) #[] #[.pointer (some ⟨cb, 0, none⟩)]] w fun e w' => e = .returned (.tuple #[]) ∧ DiskAt w' F p (settleS pk s) ∧ Only F w w' := by
  obtain ⟨lb, nb, lc, nc, wv, hR⟩ := h
  obtain ⟨A, c, rfl, hm, hA⟩ := waits_shape hR
  have HPK := Lib.hid hpk
  have HA := Lib.hid hA
  have HR := Lib.hid (show DiskR w F p s lb nb lc nc (.slice A s.W.length c) from hR)
  obtain ⟨c0, c1, c2, cl, cn, hln, hmm, fl, fn, fp, g1, g2, g3, g4⟩ := HR.out.facts
  clear hpk hA hR c0 c1 cl cn fl fn fp hln hmm
  unfold maxLen at hm
  have HS := Lib.hid (rfl : settleS pk s = settleS pk s)
  generalize hZ : s.W.length = Z at *
  have HZ := Lib.hid hZ
  clear hZ g1 g2 g3 g4
  go_enter Tryd.func40, Tryd.ntmps40
  go_wp2
  clear c2
  go_loopw [13] (fun i wr => ∃ k : Nat, i = .int .i64 k ∧ k ≤ Z ∧ DiskR wr F p { s with L := lastsK pk s.L s.W k } lb nb lc nc (.slice A Z c) ∧ Only F w wr) (fun i _ => Z - (intOf i).toNat)
  case atStart => exact ⟨0, rfl, Nat.zero_le _, by have h := HR.out; exact h, Only.refl F w⟩
  case round =>
    obtain ⟨k, rfl, hk, hr, ho⟩ := hrel
    have HR1 := Lib.hid hr
    have HO1 := Lib.hid ho
    clear hr ho
    by_cases g : k < Z
    · have hkW : k < s.W.length := by rw [HZ.out]; exact g
      obtain ⟨gb, hgA, gne1, gne2, gne3, gF⟩ := HA.out (by omega)
      have hcc := waits_cells (s := { s with L := lastsK pk s.L s.W k }) (g := gb) (c := c) (by rw [← hgA]; dsimp only; rw [HZ.out]; exact HR1.out) k hkW
      obtain ⟨hd0, hd1⟩ := hcc
      have hix : ∀ W, (Instr.indexAt 84 (.slice A Z c) (.int .i64 (k : Int))).run Tryd.prog W = .ok (.pointer (some ⟨gb, k * 2, none⟩)) W := fun W => by rw [hgA]; exact idx_waits gb Z c k g W
      have HAT := Lib.hid (lastsK_at pk s.L s.W k hkW)
      have HWL := Lib.hid (HR1.out.wait_lt k hkW)
      have HPK1 : Hid (∀ W, Only F w W → Calls Tryd.prog 41 #[.int .i64 (k : Int), .pointer (some ⟨cb, 0, none⟩)] W fun e w' => e = .returned (.bool (pk k)) ∧ W = w') := Lib.hid (fun W h => HPK.out k W g h)
      clear hgA gne1 gne2 gne3 gF
      dsimp only at hd0 hd1 HWL
      generalize (s.W[k]).1 = n at *
      generalize (s.W[k]).2 = x at *
      clear hkW
      have HT := Lib.hid (wrote wr n x)
      have HR2 := Lib.hid (HR1.out.alloc (.cells #[.int .i64 (n : Int), .string x] 103))
      have HO2 := Lib.hid (Only.alloc HO1.out (.cells #[.int .i64 (n : Int), .string x] 103))
      have HB := Lib.hid HR1.out.own
      generalize pk k = b at HAT HPK1
      cases b with
      | false =>
        go_wp2_with (go_at_call 41; refine (HPK1.out _ HO2.out).mono ?_; rintro e' w' ⟨rfl, rfl⟩)
        go_roundw
        case rel => exact ⟨k + 1, by go_num, by omega, by rw [HAT.out]; exact HR2.out, HO2.out⟩
        case measure => simp [intOf]; omega
      | true =>
        go_wp2_with (go_at_call 41; refine (HPK1.out _ HO2.out).mono ?_; rintro e' w' ⟨rfl, rfl⟩)
        obtain ⟨d0, d1, d2, dl, dn, dln, dm, el, en, ep, q1, q2, q3, q4⟩ := HR2.out.facts
        have hcell := dl n (by dsimp only; rw [lastsK_len]; rw [lastsK_len] at HWL; exact HWL.out)
        have hfl := el n
        have hT0 := HT.out.two.1
        have hT1 := HT.out.two.2
        have hnL := HWL.out
        have hlbT : lb ≠ wr.heap.size := by have := HB.out.2.2.2 lb HB.out.2.1; omega
        clear d1 d2 dl dn dln el en ep q2 q3 q4 hd0 hd1 hix
        dsimp only at d0 dm hcell hnL
        rw [lastsK_len] at d0 dm hnL
        generalize wr.alloc (.cells #[.int .i64 (n : Int), .string x] 103) = wt at *
        generalize wr.heap.size = B at *
        generalize s.L.length = m at *
        have hS : wt.cell? ⟨p, 0, none⟩ = some (.slice (some ⟨lb, 0, none⟩) m lc) ∧ wt.cell? ⟨B, 0, none⟩ = some (.int .i64 (n : Int)) ∧ wt.cell? ⟨B, 1, none⟩ = some (.string x) := ⟨d0, hT0, hT1⟩
        have hS' : (wt.setCell ⟨lb, n, none⟩ (.string x)).cell? ⟨p, 0, none⟩ = some (.slice (some ⟨lb, 0, none⟩) m lc) ∧ (wt.setCell ⟨lb, n, none⟩ (.string x)).cell? ⟨B, 0, none⟩ = some (.int .i64 (n : Int)) ∧ (wt.setCell ⟨lb, n, none⟩ (.string x)).cell? ⟨B, 1, none⟩ = some (.string x) :=
          ⟨(World.cell?_of_block (Below.heap_setCell wt _ _ p q1.symm)).trans d0, (World.cell?_of_block (Below.heap_setCell wt _ _ B hlbT.symm)).trans hT0, (World.cell?_of_block (Below.heap_setCell wt _ _ B hlbT.symm)).trans hT1⟩
        go_region_held3 (fun w' => w'.cell? ⟨p, 0, none⟩ = some (.slice (some ⟨lb, 0, none⟩) m lc) ∧ w'.cell? ⟨B, 0, none⟩ = some (.int .i64 (n : Int)) ∧ w'.cell? ⟨B, 1, none⟩ = some (.string x)) (first | exact hS | exact hS') (fail)
        go_wp2_with fail
        go_roundw
        case rel => exact ⟨k + 1, by go_num, by omega, by rw [HAT.out]; exact HR2.out.setL n x, (HO2.out.setCell (p := ⟨lb, n, none⟩) HB.out.2.1 _).drew⟩
        case measure => simp [intOf]; omega
    · obtain rfl : k = Z := by omega
      obtain ⟨d0, d1, d2, dl, dn, dln, dm, el, en, ep, q1, q2, q3, q4⟩ := HR1.out.facts
      have hc2 := d2
      clear d0 d1 dl dn dln dm el en ep q1 q2 q3 q4
      go_wp2_with fail
      clear hc2 d2
      obtain ⟨wo, rfl⟩ : ∃ wo : World, wo = wr := ⟨_, rfl⟩
      go_loopw [36] (fun i wr => ∃ j : Nat, i = .int .i64 j ∧ j ≤ k ∧ DiskR wr F p { s with L := lastsK pk s.L s.W k, N := nowK (lastsK pk s.L s.W k) s.N s.W j } lb nb lc nc (.slice A k c) ∧ Only F w wr) (fun i _ => k - (intOf i).toNat)
      case atStart => exact ⟨0, rfl, Nat.zero_le _, HR1.out, HO1.out⟩
      case round =>
        obtain ⟨j, rfl, hj, hr, ho⟩ := hrel
        have HR3 := Lib.hid hr
        have HO3 := Lib.hid ho
        clear hr ho HR1 HO1 g hk
        by_cases g : j < k
        · have hkW : j < s.W.length := by rw [HZ.out]; exact g
          obtain ⟨gb, hgA, gne1, gne2, gne3, gF⟩ := HA.out (by omega)
          have hcc := waits_cells (s := { s with L := lastsK pk s.L s.W k, N := nowK (lastsK pk s.L s.W k) s.N s.W j }) (g := gb) (c := c) (by rw [← hgA]; dsimp only; rw [HZ.out]; exact HR3.out) j hkW
          obtain ⟨hd0, hd1⟩ := hcc
          have hix : ∀ W, (Instr.indexAt 84 (.slice A k c) (.int .i64 (j : Int))).run Tryd.prog W = .ok (.pointer (some ⟨gb, j * 2, none⟩)) W := fun W => by rw [hgA]; exact idx_waits gb k c j g W
          have HAT := Lib.hid (nowK_at (lastsK pk s.L s.W k) s.N s.W j hkW)
          have HWL := Lib.hid (HR3.out.wait_lt j hkW)
          clear hgA gne1 gne2 gne3 gF
          dsimp only at hd0 hd1 HWL
          generalize (s.W[j]).1 = n at *
          generalize (s.W[j]).2 = x at *
          clear hkW
          have HT := Lib.hid (wrote wr n x)
          have HR4 := Lib.hid (HR3.out.alloc (.cells #[.int .i64 (n : Int), .string x] 103))
          have HO4 := Lib.hid (Only.alloc HO3.out (.cells #[.int .i64 (n : Int), .string x] 103))
          have HB := Lib.hid HR3.out.own
          go_wp2_with fail
          obtain ⟨d0, d1, d2, dl, dn, dln, dm, el, en, ep, q1, q2, q3, q4⟩ := HR4.out.facts
          have hcl := dl n HWL.out
          have hcn := dn n HWL.out
          have hfn := en n
          have hT0 := HT.out.two.1
          have hnL := HWL.out
          have hnbT : nb ≠ wr.heap.size := by have := HB.out.2.2.2 nb HB.out.2.2.1; omega
          have hlbnb : lb ≠ nb := HR3.out.2.2.2.2.1
          clear d2 dl dn dln el en ep q3 q4 hd0 hd1 hix
          dsimp only at d0 d1 dm hcl hcn hnL
          rw [lastsK_len] at d0 d1 dm hnL
          generalize (lastsK pk s.L s.W k).getD n ⟨#[]⟩ = y at *
          generalize wr.alloc (.cells #[.int .i64 (n : Int), .string x] 103) = wt at *
          generalize wr.heap.size = B at *
          generalize s.L.length = m at *
          have hS : wt.cell? ⟨p, 0, none⟩ = some (.slice (some ⟨lb, 0, none⟩) m lc) ∧ wt.cell? ⟨p, 1, none⟩ = some (.slice (some ⟨nb, 0, none⟩) m nc) ∧ wt.cell? ⟨B, 0, none⟩ = some (.int .i64 (n : Int)) ∧ wt.cell? ⟨lb, n, none⟩ = some (.string y) := ⟨d0, d1, hT0, hcl⟩
          have hS' : (wt.setCell ⟨nb, n, none⟩ (.string y)).cell? ⟨p, 0, none⟩ = some (.slice (some ⟨lb, 0, none⟩) m lc) ∧ (wt.setCell ⟨nb, n, none⟩ (.string y)).cell? ⟨p, 1, none⟩ = some (.slice (some ⟨nb, 0, none⟩) m nc) ∧ (wt.setCell ⟨nb, n, none⟩ (.string y)).cell? ⟨B, 0, none⟩ = some (.int .i64 (n : Int)) ∧ (wt.setCell ⟨nb, n, none⟩ (.string y)).cell? ⟨lb, n, none⟩ = some (.string y) :=
            ⟨(World.cell?_of_block (Below.heap_setCell wt _ _ p q2.symm)).trans d0, (World.cell?_of_block (Below.heap_setCell wt _ _ p q2.symm)).trans d1, (World.cell?_of_block (Below.heap_setCell wt _ _ B hnbT.symm)).trans hT0, (World.cell?_of_block (Below.heap_setCell wt _ _ lb hlbnb)).trans hcl⟩
          go_region_held3 (fun w' => w'.cell? ⟨p, 0, none⟩ = some (.slice (some ⟨lb, 0, none⟩) m lc) ∧ w'.cell? ⟨p, 1, none⟩ = some (.slice (some ⟨nb, 0, none⟩) m nc) ∧ w'.cell? ⟨B, 0, none⟩ = some (.int .i64 (n : Int)) ∧ w'.cell? ⟨lb, n, none⟩ = some (.string y)) (first | exact hS | exact hS') (fail)
          go_wp2_with fail
          go_roundw
          case rel => exact ⟨j + 1, by go_num, by omega, by rw [HAT.out]; exact HR4.out.setN n y, (HO4.out.setCell (p := ⟨nb, n, none⟩) HB.out.2.2.1 _).drew⟩
          case measure => simp [intOf]; omega
        · obtain rfl : j = k := by omega
          obtain ⟨d0, d1, d2, dl, dn, dln, dm, el, en, ep, q1, q2, q3, q4⟩ := HR3.out.facts
          have hc2 := d2
          have hf2 := ep 2
          clear d0 d1 dl dn dln dm el en ep q1 q2 q3 q4
          go_wp2_with fail
          go_end0
          have d := HR3.out.none_
          have e : settleS pk s = { s with L := lastsK pk s.L s.W j, N := nowK (lastsK pk s.L s.W j) s.N s.W j, W := [] } := by unfold settleS; rw [HZ.out]
          rw [e]
          exact ⟨rfl, d, HO3.out.setCell (p := ⟨p, 2, none⟩) HR3.out.own.1 _⟩

theorem barrier_ok (w : World) (F : Nat → Prop) (p : Nat) (s : DSt) (h : DiskAt w F p s) (ho : s.off = false)
    (hs : 0 ≤ s.steps ∧ s.steps < 4611686018427387904) (hl : 0 ≤ s.left ∧ s.left < 4611686018427387904) (hc : chgE s = 0) :
    Calls Tryd.prog 49 #[.pointer (some ⟨p, 0, none⟩)] w fun e w' => e = .returned (.int .i64 0) ∧ DiskAt w' F p (settleS (fun _ => true) (chg s)) ∧ Only F w w' := by
  have hready := ready_any w F p s h
  have hchange := change_any w F p s h hs hl
  rw [ho, if_neg (by decide)] at hready
  rw [hc] at hchange
  have HR := Lib.hid hready
  have HC := Lib.hid hchange
  clear hready hchange h ho hs hl hc
  go_enter Tryd.func49, Tryd.ntmps49
  go_wp2_with (first
    | (go_at_call 65; refine HR.out.mono ?_; rintro e1 w1 ⟨rfl, rfl⟩)
    | (go_at_call 67; refine HC.out.mono ?_; rintro e1 w1 ⟨rfl, hd, ho⟩; have HD := Lib.hid hd; have HO := Lib.hid ho; clear hd ho)
    | (go_at_call 40; refine (settle_all _ F p (chg s) (fun _ => true) HD.out (fun k W _ _ => all_any k W)).mono ?_; rintro e2 w2 ⟨rfl, hd, ho⟩; have HD2 := Lib.hid hd; have HO2 := Lib.hid ho; clear hd ho))
  go_ret
  exact ⟨rfl, HD2.out, HO.out.trans HO2.out⟩
theorem barrier_off (w : World) (F : Nat → Prop) (p : Nat) (s : DSt) (h : DiskAt w F p s) (ho : s.off = true) :
    Calls Tryd.prog 49 #[.pointer (some ⟨p, 0, none⟩)] w fun e w' => e = .returned (.int .i64 8) ∧ w = w' := by
  have hready := ready_any w F p s h
  rw [ho, if_pos rfl] at hready
  have HR := Lib.hid hready
  clear hready h ho
  go_enter Tryd.func49, Tryd.ntmps49
  go_wp2_with (go_at_call 65; refine HR.out.mono ?_; rintro e1 w1 ⟨rfl, rfl⟩)
  go_ret
  exact ⟨rfl, rfl⟩
theorem barrier_down (w : World) (F : Nat → Prop) (p : Nat) (s : DSt) (h : DiskAt w F p s) (ho : s.off = false)
    (hs : 0 ≤ s.steps ∧ s.steps < 4611686018427387904) (hl : 0 ≤ s.left ∧ s.left < 4611686018427387904) (hc : chgE s = 8) :
    Calls Tryd.prog 49 #[.pointer (some ⟨p, 0, none⟩)] w fun e w' => e = .returned (.int .i64 8) ∧ DiskAt w' F p (chg s) ∧ Only F w w' := by
  have hready := ready_any w F p s h
  have hchange := change_any w F p s h hs hl
  rw [ho, if_neg (by decide)] at hready
  rw [hc] at hchange
  have HR := Lib.hid hready
  have HC := Lib.hid hchange
  clear hready hchange h ho hs hl hc
  go_enter Tryd.func49, Tryd.ntmps49
  go_wp2_with (first
    | (go_at_call 65; refine HR.out.mono ?_; rintro e1 w1 ⟨rfl, rfl⟩)
    | (go_at_call 67; refine HC.out.mono ?_; rintro e1 w1 ⟨rfl, hd, ho⟩; have HD := Lib.hid hd; have HO := Lib.hid ho; clear hd ho))
  go_ret
  exact ⟨rfl, HD.out, HO.out⟩
/-- Crash -/
def crashS (pk : Nat → Bool) (s : DSt) : DSt := { settleS pk s with armed := false, left := 0, off := false }
theorem crash_any (w : World) (F : Nat → Prop) (p : Nat) (s : DSt) (h : DiskAt w F p s) (a : Option Addr) (n cap : Nat) (zs : List Int) (hz : IntRow w a n zs) (ha : ∀ x, a = some x → ¬ F x.block) :
    Calls Tryd.prog 20 #[.pointer (some ⟨p, 0, none⟩), .slice a n cap] w fun e w' => e = .returned (.tuple #[]) ∧ DiskAt w' F p (crashS (pkOf zs n) s) ∧ Only F w w' := by
  have HD := Lib.hid (DiskAt.keep h (Only.alloc (Only.refl (fun _ => False) w) (.cells #[.slice a n cap] 47)) (fun _ _ h => h))
  have hFl : ∀ k, F k → k < w.heap.size := by
    obtain ⟨lb, nb, lc, nc, wv, hR⟩ := h
    exact hR.2.2.2.2.2.2.2.2.2.2
  have HP := Lib.hid (picks_at w F a n cap zs hz ha hFl)
  have HO := Lib.hid (Only.alloc (Only.refl F w) (.cells #[.slice a n cap] 47))
  clear h hz ha hFl
  go_enter Tryd.func20, Tryd.ntmps20
  go_wp2_with fail
  refine (settle_some _ F p s (pkOf zs n) w.heap.size HD.out (fun k W _ h => pick_any w.heap.size a n cap zs k W (HP.out W h).1 (HP.out W h).2)).mono ?_
  rintro e2 w2 ⟨rfl, hd, ho⟩
  have HD2 := Lib.hid hd
  have HO2 := Lib.hid ho
  obtain ⟨c3, c4, c5, c6, cf⟩ := hd.cells
  have f3 := cf 3
  have f4 := cf 4
  have f5 := cf 5
  clear hd ho cf c6
  go_wp2_with fail
  go_end0
  exact ⟨rfl, ((HD2.out.armed_ false).left_ 0).off_ false, (((HO.out.trans HO2.out).setCell (p := ⟨p, 3, none⟩) HD2.out.self _).setCell (p := ⟨p, 4, none⟩) HD2.out.self _).setCell (p := ⟨p, 5, none⟩) HD2.out.self _⟩
end Go.Proofs.YtcmnfbpmkndfkaaDoor
namespace Go.Proofs.YtcmnfbpmkndfkaaDoor
set_option maxRecDepth 100000
open Go.ChangeShapes Go.WideShapes Go.ChangeAt Go.RowKit
set_option linter.unusedVariables false

theorem info9 : (Tryd.prog.info? 9).map (fun i => (i.zero, i.size, i.bytes)) = some (some (.string ⟨#[]⟩), 1, 16) := by kernel_rfl
theorem strs_length (L : List ByteArray) : (strs L).length = L.length := List.length_map ..
theorem strs_get (L : List ByteArray) (i : Nat) (h : i < L.length) : (strs L)[i]? = some (.string (L.getD i ⟨#[]⟩)) := by
  simp [strs, List.getElem?_map, List.getElem?_eq_getElem h, List.getD]
theorem strs_one (L : List ByteArray) : ∀ u ∈ strs L, u.oneCell' = true := by
  intro u hu
  obtain ⟨c, _, rfl⟩ := List.mem_map.1 hu
  rfl
theorem own_empty (W : World) (e : TypeId) (base : Nat) (hb : base ≤ W.heap.size) : (W.alloc (.cells #[] e)).ownsRow base e 1 (.slice (some ⟨W.heap.size, 0, none⟩) 0 0) 0 [] := by
  refine ⟨rfl, .inr ⟨W.heap.size, 0, #[], rfl, hb, ?_, Nat.le_refl _, Nat.zero_le _, rfl, rfl⟩⟩
  show (W.heap.push _)[W.heap.size]? = _
  simp
theorem own_some {w : World} {base n : Nat} {e : TypeId} {v : Value} {xs : List Value} (h : w.ownsRow base e 1 v n xs) (hv : v ≠ .slice none 0 0) :
    ∃ g cap, v = .slice (some ⟨g, 0, none⟩) n cap ∧ base ≤ g := by
  rcases h.2 with ⟨h2, _⟩ | ⟨g, cap, cur, rfl, hb, r⟩
  · exact absurd h2 hv
  · exact ⟨g, cap, rfl, hb⟩
theorem own_base {w : World} {base n size : Nat} {e : TypeId} {v : Value} {xs : List Value} (h : w.ownsRow base e size v n xs) {k : Nat} (hk : v.ownBlock = some k) : base ≤ k := (h.lt k hk).1

set_option maxRecDepth 100000 in
theorem cloneS_any (x n cap : Nat) (L : List ByteArray) (w : World) (hL : L.length = n) (hn : n ≤ 65536) (hc : ∀ i, i < n → w.cell? ⟨x, i, none⟩ = some (.string (L.getD i ⟨#[]⟩))) (hx : x < w.heap.size) :
    Calls Tryd.prog 72 #[.slice (some ⟨x, 0, none⟩) n cap] w fun e w' => ∃ g c, e = .returned (.slice (some ⟨g, 0, none⟩) n c) ∧ w'.ownsRow w.heap.size 9 1 (.slice (some ⟨g, 0, none⟩) n c) n (strs L) ∧ w.heap.size ≤ g ∧ Below w.heap.size w w' := by
  obtain ⟨i0, hi, hz0, hz1, hz2⟩ := info_parts info9
  have hne : ∀ W, (binOp .eql 33 (.slice (some ⟨x, 0, none⟩) n cap) (.slice none 0 0)).run Tryd.prog W = .ok (.bool false) W := fun _ => rfl
  have hsrc : Hid (∀ (j : Nat) (u : Value), (strs L)[j]? = some u → (w.alloc (.cells #[] 9)).cell? ((⟨x, 0, none⟩ : Addr).add j) = some u) := Lib.hid (by
    intro j u hj
    have hj2 : j < L.length := by
      rcases Nat.lt_or_ge j L.length with h | h
      · exact h
      · rw [List.getElem?_eq_none (by rw [strs_length]; exact h)] at hj
        cases hj
    rw [strs_get L j hj2] at hj
    rw [add_plain, Nat.zero_add, World.cell?_alloc_lt w _ ⟨x, j, none⟩ hx, hc j (by omega)]
    exact hj)
  clear hc
  subst hL
  go_enter Tryd.func72, Tryd.ntmps72
  go_wp2_with (at_builtin; refine wpList_append_own _ rfl (.tmp 5) (.tmp 6) 33 rfl w.heap.size 9 i0 (.string ⟨#[]⟩) 1 16 Tryd.underlying33 hi hz0 hz1 hz2 rfl (by decide) _ 0 [] rfl (own_empty w _ _ (Nat.le_refl _)) ⟨x, 0, none⟩ L.length cap (strs L) rfl ?c1 ?c2 ?c3 ?c4 ?c5 ?c6 ?_)
  case c1 => rw [strs_length, Nat.mul_one]
  case c2 => exact hsrc.out
  case c3 => exact strs_one _
  case c4 => unfold maxLen; omega
  case c5 => omega
  case c6 => simp
  intro v' w1 hown hgrow hnil
  have bel : Below w.heap.size w w1 := ((Below.refl w.heap.size w).alloc (Nat.le_refl _) _).grown hgrow (by simp) (fun k hk => by cases hk; exact Nat.le_refl _)
  have hn2 : v' ≠ .slice none 0 0 := by simpa using hnil
  have hown' : w1.ownsRow w.heap.size 9 1 v' L.length (strs L) := by simpa using hown
  obtain ⟨g, c, rfl, hg⟩ := own_some hown' hn2
  have HO := Lib.hid hown'
  have HB := Lib.hid bel
  clear hown hgrow hnil bel hn2 hown'
  go_wp2_with fail
  go_ret
  exact ⟨g, c, rfl, HO.out, hg, HB.out⟩

theorem and32 (n : Nat) (h : n < 4294967296) : bits .and .u64 (n : Int) 4294967295 = (n : Int) := by
  have h2 := u64_and_nat n 4294967295 (by omega) (by decide)
  rw [show n &&& 4294967295 = n % 4294967296 from Nat.and_two_pow_sub_one_eq_mod n 32, Nat.mod_eq_of_lt h] at h2
  exact h2
theorem mul_any (n : Nat) (hn : n ≤ 65536) (w : World) :
    Calls Tryd.prog 73 #[.int .u64 1, .int .u64 (n : Int)] w fun e w' => e = .returned (.tuple #[.int .u64 0, .int .u64 (n : Int)]) ∧ w = w' := by
  have h1 := and32 n (by omega)
  have h2 : bits .and .u64 1 4294967295 = 1 := and32 1 (by decide)
  have h3 : bits .and .u64 0 4294967295 = 0 := and32 0 (by decide)
  have h4 : (n : Int) / 4294967296 = 0 := by omega
  go_enter Tryd.func73, Tryd.ntmps73
  go_wp2
  go_ret2
  exact ⟨rfl, rfl⟩

/-- a row that is filled up to a place -/
def filled (z : ByteArray) (n m : Nat) : List Value := List.replicate m (.string z) ++ List.replicate (n - m) (.string ⟨#[]⟩)
theorem filled_len (z : ByteArray) (n m : Nat) (h : m ≤ n) : (filled z n m).length = n := by unfold filled; simp; omega
theorem filled_splice (z : ByteArray) (n m c : Nat) (h : m + c ≤ n) : splice (filled z n m) m (List.replicate c (.string z)) = filled z n (m + c) := by
  unfold splice filled
  have e1 : (List.replicate m (Value.string z) ++ List.replicate (n - m) (Value.string ⟨#[]⟩)).take m = List.replicate m (Value.string z) := by
    rw [List.take_append_of_le_length (by simp), List.take_of_length_le (by simp)]
  have e2 : (List.replicate m (Value.string z) ++ List.replicate (n - m) (Value.string ⟨#[]⟩)).drop (m + (List.replicate c (Value.string z)).length) = List.replicate (n - (m + c)) (Value.string ⟨#[]⟩) := by
    rw [List.drop_append, List.drop_of_length_le (by simp), List.nil_append, List.length_replicate, List.length_replicate, List.drop_replicate]
    congr 1
    omega
  rw [e1, e2, ← List.append_assoc, List.replicate_append_replicate]
theorem filled_zero (z : ByteArray) (n : Nat) : (filled z n 0).toArray = madeCells #[.string ⟨#[]⟩] n := by
  unfold filled
  apply Array.ext
  · simp [size_madeCells]
  · intro i h1 h2
    simp [madeCells, Nat.mod_one]
theorem filled_full (z : ByteArray) (n : Nat) : filled z n n = strs (List.replicate n z) := by
  unfold filled strs
  simp
theorem filled_at (z : ByteArray) (n m j : Nat) (h : j < m) : (filled z n m)[j]? = some (.string z) := by
  unfold filled
  rw [List.getElem?_append_left (by simpa using h)]
  simp [h]
theorem rep_get (z : ByteArray) (c j : Nat) (v : Value) (h : (List.replicate c (Value.string z))[j]? = some v) : j < c ∧ v = .string z := by
  rw [List.getElem?_replicate] at h
  split at h
  · injection h with h
    exact ⟨by assumption, h.symm⟩
  · cases h
theorem rep_one (z : ByteArray) (c : Nat) : ∀ v ∈ List.replicate c (Value.string z), v.oneCell' = true := by
  intro v hv
  rw [List.eq_of_mem_replicate hv]
  rfl
theorem slice_toS (a : Option Addr) (m cap k : Nat) (hk : k ≤ cap) (w : World) : (Instr.slice 33 (.slice a m cap) none (some (.int .i64 (k : Int))) none).run Tryd.prog w = .ok (.slice a k cap) w := by
  rw [run_slice_h w 33 a m cap (by kernel_rfl) .i64 (k : Int) (by omega) (by omega)]
  go_simp
theorem slice_fromS (g m cap k : Nat) (hk : k ≤ m) (hc : k < cap) (w : World) : (Instr.slice 33 (.slice (some ⟨g, 0, none⟩) m cap) (some (.int .i64 (k : Int))) none none).run Tryd.prog w = .ok (.slice (some ⟨g, k, none⟩) (m - k) (cap - k)) w := by
  rw [run_slice_l w 33 (some ⟨g, 0, none⟩) m cap (by kernel_rfl) .i64 (k : Int) (by omega) (by omega)]
  have hne : ¬ cap = k := by omega
  go_simp

set_option maxRecDepth 100000 in
set_option maxHeartbeats 600000 in
theorem repeat_any (b n : Nat) (z : ByteArray) (w : World) (h1 : 1 ≤ n) (hn : n ≤ 65536) (hc : w.cell? ⟨b, 0, none⟩ = some (.string z)) :
    Calls Tryd.prog 55 #[.slice (some ⟨b, 0, none⟩) 1 1, .int .i64 (n : Int)] w fun e w' => ∃ g, e = .returned (.slice (some ⟨g, 0, none⟩) n n) ∧ (∀ i, i < n → w'.cell? ⟨g, i, none⟩ = some (.string z)) ∧ w.heap.size ≤ g ∧ g < w'.heap.size ∧ Below w.heap.size w w' := by
  have hmk := run_make_row' (P := Tryd.prog) 33 9 (.string ⟨#[]⟩) 16 Tryd.underlying33 info9 rfl .i64 .i64 n (by omega) (by omega)
  have hb := cell_lt hc
  have HC := Lib.hid hc
  clear hc
  have hr0 : Hid ((w.alloc (.cells (madeCells #[.string ⟨#[]⟩] n) 9)).heap[w.heap.size]? = some (.cells (filled z n 0).toArray 9 (0, 0))) := Lib.hid (by
    rw [filled_zero]
    show (w.heap.push _)[w.heap.size]? = _
    simp)
  have hsrc0 : Hid (∀ j v, [Value.string z][j]? = some v → (w.alloc (.cells (madeCells #[.string ⟨#[]⟩] n) 9)).cell? ((⟨b, 0, none⟩ : Addr).add j) = some v) := Lib.hid (by
    intro j v hj
    match j, hj with
    | 0, hj =>
      rw [add_plain, World.cell?_alloc_lt w _ ⟨b, 0 + 0, none⟩ hb]
      simp at hj
      subst hj
      exact HC.out)
  go_enter Tryd.func55, Tryd.ntmps55
  go_wp2_with (first
    | (go_at_call 73; refine (mul_any n hn _).mono ?_; rintro e w' ⟨rfl, rfl⟩)
    | (with_reducible refine wpList_copy_splice rfl (.tmp 31) (.tmp 32) 33 33 rfl 9 Tryd.underlying33 (by kernel_rfl) (some ⟨w.heap.size, 0, none⟩) (some ⟨b, 0, none⟩) n n 1 1 rfl rfl w.heap.size 0 (filled z n 0) 9 hr0.out [.string z] ?q1 ?q2 ?q3 ?q4 w.heap.size w ?q5 (Nat.le_refl _) ?_))
  case q1 => show 1 = min 1 n; omega
  case q2 =>
    intro j v hj
    match j, hj with
    | 0, hj =>
      simp at hj
      subst hj
      exact HC.out
  case q3 => rw [filled_len z n 0 (by omega)]; simp; omega
  case q4 => exact fun v hv => by simp at hv; subst hv; rfl
  case q5 => exact (Below.refl w.heap.size w).alloc (Nat.le_refl _) _
  intro w1 hrow hbel
  have HB1 := Lib.hid hbel
  have HR1 : Hid (w1.heap[w.heap.size]? = some (.cells (filled z n 1).toArray 9 (0, 0))) := Lib.hid (by have h := hrow.out; rw [show [Value.string z] = List.replicate 1 (Value.string z) from rfl, filled_splice z n 0 1 (by omega)] at h; exact h)
  clear hrow hbel hr0 hsrc0
  go_wp2_with fail
  go_loopw [8] (fun c wr => ∃ m : Nat, c = .int .i64 m ∧ 1 ≤ m ∧ m ≤ n ∧ wr.heap[w.heap.size]? = some (.cells (filled z n m).toArray 9 (0, 0)) ∧ Below w.heap.size w wr) (fun c _ => n - (intOf c).toNat)
  case atStart => exact ⟨1, rfl, Nat.le_refl _, h1, HR1.out, HB1.out⟩
  case round =>
    obtain ⟨m, rfl, hm1, hmn, hrow, hbel⟩ := hrel
    have HR2 := Lib.hid hrow
    have HB2 := Lib.hid hbel
    clear hrow hbel HR1 HB1
    by_cases g : m < n
    · have s1 := fun W => slice_toS (some ⟨w.heap.size, 0, none⟩) n n m (by omega) W
      have s2 := fun W => slice_fromS w.heap.size n n m (by omega) g W
      obtain ⟨c, hcc⟩ : ∃ c, c = min m (n - m) := ⟨_, rfl⟩
      have hc1 : 1 ≤ c := by omega
      have hc2 : m + c ≤ n := by omega
      have HCC := Lib.hid hcc
      clear hcc
      have hsrc : Hid (∀ j v, (List.replicate c (Value.string z))[j]? = some v → wr.cell? ((⟨w.heap.size, 0, none⟩ : Addr).add j) = some v) := Lib.hid (by
        intro j v hj
        obtain ⟨hjc, rfl⟩ := rep_get z c j v hj
        rw [add_plain, Nat.zero_add]
        have hat := filled_at z n m j (by have := HCC.out; omega)
        simp only [World.cell?, HR2.out]
        simpa using hat)
      have HRD : Hid (wr.drew.heap[w.heap.size]? = some (.cells (filled z n m).toArray 9 (0, 0))) := HR2
      have HSD : Hid (∀ j v, (List.replicate c (Value.string z))[j]? = some v → wr.drew.cell? ((⟨w.heap.size, 0, none⟩ : Addr).add j) = some v) := hsrc
      have Q1 : Hid ((List.replicate c (Value.string z)).length = Nat.min m (n - m)) := Lib.hid (by rw [List.length_replicate, HCC.out])
      have Q2 : Hid (m + (List.replicate c (Value.string z)).length ≤ (filled z n m).length) := Lib.hid (by rw [filled_len z n m (by omega), List.length_replicate]; exact hc2)
      have Q3 := Lib.hid (rep_one z c)
      have Q4 := Lib.hid HB2.out.drew
      go_wp2_with fail
      go_region_law (refine step_copy_splice (by rfl) (.tmp 41) (.tmp 44) 33 33 (by rfl) 9 Tryd.underlying33 (by kernel_rfl) (some ⟨w.heap.size, m, none⟩) (some ⟨w.heap.size, 0, none⟩) (n - m) (n - m) m n (by simp [Act.eval, Act.put]) (by simp [Act.eval, Act.put]) w.heap.size m (filled z n m) 9 HRD.out (List.replicate c (.string z)) Q1.out (fun _ => ⟨rfl, _, rfl, HSD.out⟩) Q2.out Q3.out w.heap.size w Q4.out (Nat.le_refl _) ?_; intro w4 hg4 hb4)
      have HG4 : Hid (w4.heap[w.heap.size]? = some (.cells (filled z n (m + c)).toArray 9 (0, 0))) := Lib.hid (by have h := hg4.out; rw [filled_splice z n m c hc2] at h; exact h)
      have HB4 := Lib.hid hb4
      clear hg4 hb4
      go_simp
      have hwr : IntKind.i64.wrap ((m : Int) + (c : Int)) = ((m + c : Nat) : Int) := by rw [IntKind.wrap_i64]; omega
      rw [hwr]
      go_roundw
      case rel => (repeat apply Exists.intro); exact ⟨⟨m + c, rfl, by omega, hc2, HG4.out, HB4.out⟩, rfl⟩
      case measure => simp [intOf]; omega
    · obtain rfl : m = n := by omega
      go_wp2_with fail
      go_ret
      refine ⟨w.heap.size, rfl, fun i hi => ?_, Nat.le_refl _, ?_, HB2.out⟩
      · have hat := filled_at z m m i hi
        simp only [World.cell?, HR2.out]
        simpa using hat
      · rcases Nat.lt_or_ge w.heap.size wr.heap.size with h | h
        · exact h
        · have := HR2.out
          rw [Array.getElem?_eq_none h] at this
          cases this

/-- a sector of noughts -/
def blank : ByteArray := bstr (List.replicate 512 0)
theorem blank_size : blank.size = 512 := by unfold blank; rw [size_bstr, List.length_replicate]
/-- the cells of one that is new -/
def noughts : Array Value := madeCells #[.int .u8 0] 512
theorem info5 : (Tryd.prog.info? 5).map (fun i => (i.zero, i.size, i.bytes)) = some (some (.int .u8 0), 1, 1) := by kernel_rfl
theorem noughts_row (W : World) : ByteRow (W.alloc (.cells noughts 5)) (some ⟨W.heap.size, 0, none⟩) 512 (List.replicate 512 0) := by
  refine ⟨List.length_replicate, by decide, fun c hc => by rw [List.eq_of_mem_replicate hc]; decide, fun _ => ⟨_, _, rfl, fun i hi => ?_⟩⟩
  have e1 : (W.alloc (.cells noughts 5)).heap[W.heap.size]? = some (.cells noughts 5) := by
    show (W.heap.push _)[W.heap.size]? = _
    simp
  rw [Nat.zero_add]
  simp only [World.cell?, e1]
  unfold noughts
  generalize 512 = q at *
  simp [madeCells, hi, Nat.mod_one, List.getD]
theorem make512 (W : World) : (Instr.makeSlice 34 (.int .i64 512) (.int .i64 512)).run Tryd.prog W = .ok (.slice (some ⟨W.heap.size, 0, none⟩) 512 512) (W.alloc (.cells noughts 5)) :=
  run_make_row' (P := Tryd.prog) 34 5 (.int .u8 0) 1 Tryd.underlying34 info5 rfl .i64 .i64 512 (by decide) (by decide) W

theorem of_end {w w1 w2 : World} {n g1 c1 g2 c2 : Nat} {z : ByteArray} (hb1 : Below w.heap.size w w1) (h1 : w1.ownsRow w.heap.size 9 1 (.slice (some ⟨g1, 0, none⟩) n c1) n (strs (List.replicate n z))) (h2 : w2.ownsRow w1.heap.size 9 1 (.slice (some ⟨g2, 0, none⟩) n c2) n (strs (List.replicate n z))) (hb2 : Below w1.heap.size w1 w2) :
    DiskAt (w2.alloc (.cells #[.slice (some ⟨g1, 0, none⟩) n c1, .slice (some ⟨g2, 0, none⟩) n c2, .slice none 0 0, .bool false, .int .i64 0, .bool false, .int .i64 0] 86)) (Gr (fun _ => False) w (w2.alloc (.cells #[.slice (some ⟨g1, 0, none⟩) n c1, .slice (some ⟨g2, 0, none⟩) n c2, .slice none 0 0, .bool false, .int .i64 0, .bool false, .int .i64 0] 86))) w2.heap.size ⟨List.replicate n z, List.replicate n z, [], false, 0, false, 0⟩ := by
  have l1 := h1.lt g1 rfl
  have l2 := h2.lt g2 rfl
  have s1 := hb1.size
  have s2 := hb2.size
  have e : ∀ o : Obj, (w2.alloc o).heap.size = w2.heap.size + 1 := fun o => Array.size_push ..
  have el : (List.replicate n z).length = n := List.length_replicate
  unfold DiskAt
  dsimp only
  rw [el]
  refine ⟨g1, g2, c1, c2, .slice none 0 0, ?_, ?_, ?_, World.ownsRow_nil _ _ _ _, by omega, .inr ⟨by omega, by rw [e]; omega⟩, .inr ⟨by omega, by rw [e]; omega⟩, .inr ⟨by omega, by rw [e]; omega⟩, (fun g hg => by cases hg), (fun x hx => by cases hx), fun k hk => ?_⟩
  · show (w2.heap.push _)[w2.heap.size]? = _
    simp
  · refine Row.keep (w := w1) (World.ownsRow.mono h1 (Nat.zero_le _)) (fun g hg => ?_)
    cases hg
    show (w2.alloc _).heap[g1]? = w1.heap[g1]?
    rw [Below.heap_alloc w2 _ g1 (by omega)]
    exact hb2.block g1 (by omega)
  · refine Row.keep (w := w2) (World.ownsRow.mono h2 (Nat.zero_le _)) (fun g hg => ?_)
    cases hg
    exact Below.heap_alloc w2 _ g2 (by omega)
  · rcases hk with hk | hk
    · exact hk.elim
    · exact hk.2
theorem of_any (x n : Nat) (z : ByteArray) (w : World) (h1 : 1 ≤ n) (hn : n ≤ 65536) (hc : ∀ i, i < n → w.cell? ⟨x, i, none⟩ = some (.string z)) (hx : x < w.heap.size) :
    Calls Tryd.prog 54 #[.slice (some ⟨x, 0, none⟩) n n] w fun e w' => ∃ p, e = .returned (.pointer (some ⟨p, 0, none⟩)) ∧ DiskAt w' (Gr (fun _ => False) w w') p ⟨List.replicate n z, List.replicate n z, [], false, 0, false, 0⟩ ∧ Below w.heap.size w w' := by
  have hcl : ∀ i, i < n → w.cell? ⟨x, i, none⟩ = some (.string ((List.replicate n z).getD i ⟨#[]⟩)) := fun i hi => by rw [hc i hi]; simp [List.getD, hi]
  have H1 := Lib.hid (cloneS_any x n n (List.replicate n z) w List.length_replicate hn hcl hx)
  have H2 : Hid (∀ W, Below w.heap.size w W → Calls Tryd.prog 72 #[.slice (some ⟨x, 0, none⟩) n n] W fun e w' => ∃ g c, e = .returned (.slice (some ⟨g, 0, none⟩) n c) ∧ w'.ownsRow W.heap.size 9 1 (.slice (some ⟨g, 0, none⟩) n c) n (strs (List.replicate n z)) ∧ W.heap.size ≤ g ∧ Below W.heap.size W w') := Lib.hid (fun W hB => cloneS_any x n n (List.replicate n z) W List.length_replicate hn (fun i hi => (hB.cell (p := ⟨x, i, none⟩) hx).trans (hcl i hi)) (Nat.lt_of_lt_of_le hx hB.size))
  clear hc hcl
  go_enter Tryd.func54, Tryd.ntmps54
  go_wp2_with fail
  refine H1.out.mono ?_
  rintro e w1 ⟨g1, c1, rfl, ho1, hg1, hb1⟩
  have HO1 := Lib.hid ho1
  have HB1 := Lib.hid hb1
  clear ho1 hb1
  go_wp2_with fail
  refine (H2.out _ HB1.out).mono ?_
  rintro e w2 ⟨g2, c2, rfl, ho2, hg2, hb2⟩
  have HO2 := Lib.hid ho2
  have HB2 := Lib.hid hb2
  clear ho2 hb2
  go_wp2_with fail
  go_ret
  exact ⟨_, rfl, of_end HB1.out HO1.out HO2.out HB2.out, (HB1.out.trans (HB2.out.mono HB1.out.size)).alloc (Nat.le_trans HB1.out.size HB2.out.size) _⟩

set_option maxRecDepth 100000 in
theorem new_any (n : Nat) (w : World) (h1 : 1 ≤ n) (hn : n ≤ 65536) :
    Calls Tryd.prog 31 #[.int .i64 (n : Int)] w fun e w' => ∃ p, e = .returned (.tuple #[.pointer (some ⟨p, 0, none⟩), .int .i64 0]) ∧ DiskAt w' (Gr (fun _ => False) w w') p ⟨List.replicate n blank, List.replicate n blank, [], false, 0, false, 0⟩ ∧ Below w.heap.size w w' := by
  have hmk := make512
  have hcv : ∀ W : World, (convert 34 9 (.slice (some ⟨W.heap.size, 0, none⟩) 512 512)).run Tryd.prog (W.alloc (.cells noughts 5)) = .ok (.string blank) (W.alloc (.cells noughts 5)) := fun W => conv_row 512 (noughts_row W)
  generalize hz : blank = z at *
  have HZ := Lib.hid hz
  clear hz
  generalize noughts = q at *
  go_enter Tryd.func31, Tryd.ntmps31
  go_wp2_with fail
  refine (repeat_any _ n z _ h1 hn ?_).mono ?_
  · go_simp
  rintro e w1 ⟨g, rfl, hc, hg, hgl, hb⟩
  have HB1 := Lib.hid hb
  have HC := Lib.hid hc
  clear hc hb
  go_wp2_with fail
  refine (of_any g n z _ h1 hn HC.out hgl).mono ?_
  rintro e w2 ⟨p, rfl, hd, hb⟩
  have HD := Lib.hid hd
  have HB2 := Lib.hid hb
  clear hd hb
  go_wp2_with fail
  go_ret2
  have hb0 : Below w.heap.size w w1 := (((Below.refl w.heap.size w).alloc (Nat.le_refl _) (.cells q 5)).alloc (by simp) (.cells #[.string z] 9)).trans (HB1.out.mono (by simp; omega))
  have hd := HD.out
  refine ⟨p, rfl, DiskAt.wider hd (fun k hk => ?_) (fun k hk => ?_), hb0.trans (HB2.out.mono hb0.size)⟩
  · rcases hk with hk | hk
    · exact .inl hk
    · exact .inr ⟨Nat.le_trans hb0.size hk.1, hk.2⟩
  · rcases hk with hk | hk
    · exact hk.elim
    · exact hk.2
end Go.Proofs.YtcmnfbpmkndfkaaDoor
namespace Go.Proofs.YtcmnfbpmkndfkaaDoor
set_option maxRecDepth 100000
open Go.ChangeShapes Go.WideShapes Go.ChangeAt Go.RowKit
set_option linter.unusedVariables false

/-- a sector of a byte -/
def fullL (x : Nat) : List Nat := List.replicate 512 x
theorem fullL_len (x : Nat) : (fullL x).length = 512 := List.length_replicate
theorem fullL_get (x i : Nat) (h : i < 512) : (fullL x).getD i 0 = x := by
  unfold fullL
  generalize 512 = q at *
  simp [List.getD, h]
theorem own_cell {w : World} {base n g cap k : Nat} {e : TypeId} {xs : List Value} (h : w.ownsRow base e 1 (.slice (some ⟨g, 0, none⟩) n cap) n xs) (hk : k < n) : ∃ v, w.cell? ⟨g, k, none⟩ = some v := by
  have hl := h.1
  have hc := h.cellAt k (by omega)
  rw [List.getElem?_eq_getElem (by omega)] at hc
  exact ⟨_, hc⟩
theorem set_upto {xs : List Value} {k : Nat} {v : Value} (h : ∀ j, j < k → xs[j]? = some v) (hk : k < xs.length) : ∀ j, j < k + 1 → (xs.set k v)[j]? = some v := by
  intro j hj
  by_cases e : j = k
  · subst e
    simp [hk]
  · rw [List.getElem?_set_ne (by omega)]
    exact h j (by omega)
theorem DiskAt.lts {w : World} {F : Nat → Prop} {p : Nat} {s : DSt} (h : DiskAt w F p s) : ∀ k, F k → k < w.heap.size := by
  obtain ⟨lb, nb, lc, nc, wv, h1, h2, h3, h4, h5, h6, h7, h8, h9, h10, h11⟩ := h
  exact h11
/-- the disk stays behind what only makes memory -/
theorem DiskAt.below {w w' : World} {F : Nat → Prop} {p : Nat} {s : DSt} (h : DiskAt w F p s) (hb : Below w.heap.size w w') : DiskAt w' F p s := h.keep (Only.of_below (F := fun _ => False) hb) (fun _ _ g => g)
theorem gr_from {F : Nat → Prop} {B : Nat} {w w' : World} (hF : ∀ k, F k → B ≤ k) (hB : B ≤ w.heap.size) : ∀ k, Gr F w w' k → B ≤ k := fun k hk => by
  rcases hk with hk | hk
  · exact hF k hk
  · omega
theorem bstr_full_size (x : Nat) : (bstr (fullL x)).size = 512 := by rw [size_bstr, fullL_len]

/-- a write of a sector of a byte: the sector and the call -/
theorem writeF_ok (w : World) (F : Nat → Prop) (p : Nat) (s : DSt) (n g x : Nat) (h : DiskAt w F p s) (ho : s.off = false) (hn : n < s.L.length) (hb : ByteRow w (some ⟨g, 0, none⟩) 512 (fullL x)) (hg : ¬ F g) (B : Nat) (hF : ∀ k, F k → B ≤ k) (hB : B ≤ w.heap.size)
    (hs : 0 ≤ s.steps ∧ s.steps < 4611686018427387904) (hl : 0 ≤ s.left ∧ s.left < 4611686018427387904) (hw : s.W.length < 1000000) (hc : chgE s = 0) :
    Calls Tryd.prog 46 #[.pointer (some ⟨p, 0, none⟩), .int .i64 n, .slice (some ⟨g, 0, none⟩) 512 512] w fun e w' => e = .returned (.int .i64 0) ∧ ∃ F', DiskAt w' F' p (wr s n (bstr (fullL x))) ∧ (∀ k, F' k → B ≤ k) ∧ Below B w w' := by
  refine (write_ok w F p s n (some ⟨g, 0, none⟩) 512 (fullL x) h ho hn hb (fun y hy => by cases hy; exact hg) hs hl hw hc).mono ?_
  rintro e w' ⟨rfl, hd, ho⟩
  exact ⟨rfl, _, hd, gr_from hF hB, ho.below hB hF⟩

def st0 : DSt := ⟨List.replicate 1 blank, List.replicate 1 blank, [], false, 0, false, 0⟩
def st1 : DSt := wr st0 0 (bstr (fullL 1))
def st2 : DSt := settleS (fun _ => true) (chg st1)
def st3 : DSt := wr st2 0 (bstr (fullL 2))
def st4 : DSt := wr st3 0 (bstr (fullL 3))
def st5 : DSt := crashS (pkOf [1] 1) st4
theorem st5_N : st5.N.getD 0 ⟨#[]⟩ = bstr (fullL 2) ∧ st5.off = false ∧ st5.L.length = 1 := by
  have e0 : pkOf [1] 1 0 = true := by decide +kernel
  have e1 : pkOf [1] 1 1 = false := by decide +kernel
  refine ⟨?_, rfl, ?_⟩
  · unfold st5 crashS settleS st4 st3 st2 st1 st0
    generalize bstr (fullL 1) = a
    generalize bstr (fullL 2) = b
    generalize bstr (fullL 3) = c
    generalize blank = z
    simp [wr, chg, settleS, lastsK, nowK, e0, e1]
  · unfold st5 crashS settleS st4 st3 st2 st1 st0
    generalize bstr (fullL 1) = a
    generalize bstr (fullL 2) = b
    generalize bstr (fullL 3) = c
    generalize blank = z
    simp [wr, chg, settleS, lastsK, nowK, e0, e1]

theorem one_row (W : World) : IntRow (W.alloc (.cells #[.int .i64 1] 3)) (some ⟨W.heap.size, 0, none⟩) 1 [1] := by
  refine ⟨rfl, by decide, fun z hz => by simp at hz; subst hz; decide, fun _ => ⟨_, _, rfl, fun i hi => ?_⟩⟩
  have e : i = 0 := by omega
  subst e
  have e1 : (W.alloc (.cells #[.int .i64 1] 3)).heap[W.heap.size]? = some (.cells #[.int .i64 1] 3) := by
    show (W.heap.push _)[W.heap.size]? = _
    simp
  show World.cell? _ ⟨W.heap.size, 0, none⟩ = _
  simp only [World.cell?, e1]
  rfl

end Go.Proofs.YtcmnfbpmkndfkaaDoor
namespace Go.Proofs.YtcmnfbpmkndfkaaDoor
set_option maxRecDepth 100000
open Go.ChangeShapes Go.WideShapes Go.ChangeAt Go.RowKit Go.Deep
set_option linter.unusedVariables false

/-- k sectors, all of 512 bytes -/
def Good (s : DSt) (k : Nat) : Prop := s.L.length = k ∧ s.N.length = k ∧ (∀ b ∈ s.L, b.size = 512) ∧ (∀ b ∈ s.N, b.size = 512) ∧ (∀ x ∈ s.W, x.1 < k ∧ x.2.size = 512)
theorem good_chg {s : DSt} {k : Nat} (h : Good s k) : Good (chg s) k := by
  unfold Good at *
  rw [chg_L, chg_N, chg_W]
  exact h
theorem good_wr {s : DSt} {k : Nat} (h : Good s k) (j : Nat) (hj : j < k) (x : ByteArray) (hx : x.size = 512) : Good (wr s j x) k := by
  obtain ⟨h1, h2, h3, h4, h5⟩ := h
  refine ⟨by unfold wr; dsimp only; rw [chg_L]; exact h1, by unfold wr; dsimp only; rw [List.length_set]; exact h2, fun b hb => ?_, fun b hb => ?_, fun y hy => ?_⟩
  · unfold wr at hb
    dsimp only at hb
    rw [chg_L] at hb
    exact h3 b hb
  · unfold wr at hb
    rcases List.mem_or_eq_of_mem_set hb with hb | hb
    · exact h4 b hb
    · rw [hb]; exact hx
  · unfold wr at hy
    rcases List.mem_append.1 hy with hy | hy
    · exact h5 y hy
    · simp only [List.mem_singleton] at hy
      subst hy
      exact ⟨hj, hx⟩
theorem lastsK_good (pk : Nat → Bool) (L : List ByteArray) (W : List (Nat × ByteArray)) (hL : ∀ b ∈ L, b.size = 512) (hW : ∀ x ∈ W, x.2.size = 512) (k : Nat) : ∀ b ∈ lastsK pk L W k, b.size = 512 := by
  induction k with
  | zero => exact hL
  | succ k ih =>
    unfold lastsK
    split
    · rename_i x hx
      split
      · intro b hb
        rcases List.mem_or_eq_of_mem_set hb with hb | hb
        · exact ih b hb
        · rw [hb]; exact hW _ (List.mem_of_getElem? hx)
      · exact ih
    · exact ih
theorem nowK_good (L N : List ByteArray) (W : List (Nat × ByteArray)) (hL : ∀ b ∈ L, b.size = 512) (hN : ∀ b ∈ N, b.size = 512) (hW : ∀ x ∈ W, x.1 < L.length) (k : Nat) : ∀ b ∈ nowK L N W k, b.size = 512 := by
  induction k with
  | zero => exact hN
  | succ k ih =>
    unfold nowK
    split
    · rename_i x hx
      intro b hb
      rcases List.mem_or_eq_of_mem_set hb with hb | hb
      · exact ih b hb
      · rw [hb]
        have hl := hW _ (List.mem_of_getElem? hx)
        rw [List.getD_eq_getElem?_getD, List.getElem?_eq_getElem hl]
        exact hL _ (List.getElem_mem hl)
    · exact ih
theorem good_settle {s : DSt} {k : Nat} (h : Good s k) (pk : Nat → Bool) : Good (settleS pk s) k := by
  obtain ⟨h1, h2, h3, h4, h5⟩ := h
  refine ⟨by unfold settleS; dsimp only; rw [lastsK_len]; exact h1, by unfold settleS; dsimp only; rw [nowK_len]; exact h2, lastsK_good pk _ _ h3 (fun x hx => (h5 x hx).2) _, nowK_good _ _ _ (lastsK_good pk _ _ h3 (fun x hx => (h5 x hx).2) _) h4 (fun x hx => by rw [lastsK_len, h1]; exact (h5 x hx).1) _, fun x hx => by cases hx⟩
theorem good_new (n : Nat) : Good ⟨List.replicate n blank, List.replicate n blank, [], false, 0, false, 0⟩ n :=
  ⟨List.length_replicate, List.length_replicate, fun b hb => by rw [List.eq_of_mem_replicate hb]; exact blank_size, fun b hb => by rw [List.eq_of_mem_replicate hb]; exact blank_size, fun x hx => by cases hx⟩
theorem good_at {s : DSt} {k : Nat} (h : Good s k) (i : Nat) (hi : i < k) : (s.N.getD i ⟨#[]⟩).size = 512 := by
  have hl : i < s.N.length := by rw [h.2.1]; exact hi
  rw [List.getD_eq_getElem?_getD, List.getElem?_eq_getElem hl]
  exact h.2.2.2.1 _ (List.getElem_mem hl)

/-- a row of bools that came in -/
def BoolRow (w : World) (a : Option Addr) (n : Nat) (zs : Nat → Bool) : Prop := n ≤ maxLen ∧ (0 < n → ∃ b o, a = some ⟨b, o, none⟩ ∧ ∀ i, i < n → w.cell? ⟨b, o + i, none⟩ = some (.bool (zs i)))
end Go.Proofs.YtcmnfbpmkndfkaaDoor
namespace Go.Proofs.YtcmnfbpmkndfkaaDoor
set_option maxRecDepth 100000
open Go.ChangeShapes Go.WideShapes Go.ChangeAt Go.RowKit Go.Deep
set_option linter.unusedVariables false

def em : ByteArray := ⟨#[]⟩
theorem lastsK_snoc (pk : Nat → Bool) (L : List ByteArray) (W : List (Nat × ByteArray)) (x : Nat × ByteArray) (k : Nat) (h : k ≤ W.length) : lastsK pk L (W ++ [x]) k = lastsK pk L W k := by
  induction k with
  | zero => rfl
  | succ k ih =>
    have hk : k < W.length := by omega
    rw [lastsK_at pk L W k hk, lastsK_at pk L (W ++ [x]) k (by simp; omega), ih (by omega), List.getElem_append_left hk]
theorem lastsK_end (pk : Nat → Bool) (L : List ByteArray) (W : List (Nat × ByteArray)) (x : Nat × ByteArray) : lastsK pk L (W ++ [x]) (W.length + 1) = if pk W.length = true then (lastsK pk L W W.length).set x.1 x.2 else lastsK pk L W W.length := by
  rw [lastsK_at pk L (W ++ [x]) W.length (by simp), lastsK_snoc pk L W x W.length (Nat.le_refl _)]
  have e : (W ++ [x])[W.length]'(by simp) = x := by simp
  rw [e]
theorem getD_set_eq (l : List ByteArray) (i : Nat) (x d : ByteArray) (h : i < l.length) : (l.set i x).getD i d = x := by
  simp [List.getD, h]
theorem getD_set_ne (l : List ByteArray) (i j : Nat) (x d : ByteArray) (h : i ≠ j) : (l.set i x).getD j d = l.getD j d := by
  simp [List.getD, List.getElem?_set_ne h]
theorem set_self (l : List ByteArray) (i : Nat) (d : ByteArray) : l.set i (l.getD i d) = l := by
  apply List.ext_getElem?
  intro j
  by_cases h : i = j
  · subst h
    by_cases hl : i < l.length
    · rw [List.getElem?_set_self hl, List.getD_eq_getElem?_getD, List.getElem?_eq_getElem hl]
      rfl
    · rw [List.getElem?_eq_none (by rw [List.length_set]; omega), List.getElem?_eq_none (by omega)]
  · rw [List.getElem?_set_ne h]

/-- what is read is what would last if all lasted -/
def App (s : DSt) : Prop := lastsK (fun _ => true) s.L s.W s.W.length = s.N
theorem app_new (n : Nat) : App ⟨List.replicate n blank, List.replicate n blank, [], false, 0, false, 0⟩ := rfl
theorem app_wr {s : DSt} (h : App s) (n : Nat) (x : ByteArray) : App (wr s n x) := by
  unfold App wr at *
  dsimp only
  rw [chg_L, List.length_append, List.length_singleton, lastsK_end, h]
  rfl
theorem nowK_self (N : List ByteArray) (W : List (Nat × ByteArray)) (k : Nat) : nowK N N W k = N := by
  induction k with
  | zero => rfl
  | succ k ih =>
    unfold nowK
    split
    · rw [ih, set_self]
    · exact ih
theorem app_barrier {s : DSt} (h : App s) : settleS (fun _ => true) (chg s) = { chg s with L := s.N, N := s.N, W := [] } := by
  unfold settleS
  rw [chg_L, chg_N, chg_W]
  unfold App at h
  rw [h, nowK_self]
theorem lasts_from (pk : Nat → Bool) (L : List ByteArray) (W : List (Nat × ByteArray)) (n : Nat) (d : ByteArray) (hn : n < L.length) (k : Nat) (hk : k ≤ W.length) :
    ((lastsK pk L W k).getD n d = L.getD n d) ∨ ∃ j, j < k ∧ W[j]? = some (n, (lastsK pk L W k).getD n d) := by
  induction k with
  | zero => exact .inl rfl
  | succ k ih =>
    have hkW : k < W.length := by omega
    have e := lastsK_at pk L W k hkW
    have ih' := ih (by omega)
    by_cases hp : pk k = true
    · rw [if_pos hp] at e
      rw [e]
      by_cases hx : (W[k]).1 = n
      · rw [hx, getD_set_eq _ _ _ _ (by rw [lastsK_len]; exact hn)]
        refine .inr ⟨k, by omega, ?_⟩
        rw [List.getElem?_eq_getElem hkW]
        congr 1
        exact Prod.ext hx rfl
      · rw [getD_set_ne _ _ _ _ _ hx]
        rcases ih' with h | ⟨j, hj, h⟩
        · exact .inl h
        · exact .inr ⟨j, by omega, h⟩
    · rw [if_neg hp] at e
      rw [e]
      rcases ih' with h | ⟨j, hj, h⟩
      · exact .inl h
      · exact .inr ⟨j, by omega, h⟩
theorem lasts_un (pk : Nat → Bool) (L : List ByteArray) (W : List (Nat × ByteArray)) (n : Nat) (d : ByteArray) (k : Nat) (hk : k ≤ W.length) (hW : ∀ j (hj : j < W.length), j < k → (W[j]).1 ≠ n) : (lastsK pk L W k).getD n d = L.getD n d := by
  induction k with
  | zero => rfl
  | succ k ih =>
    have hkW : k < W.length := by omega
    have e := lastsK_at pk L W k hkW
    have ih' := ih (by omega) (fun j hj hjk => hW j hj (by omega))
    rw [e]
    split
    · rw [getD_set_ne _ _ _ _ _ (hW k hkW (by omega))]
      exact ih'
    · exact ih'
theorem now_at (L N : List ByteArray) (W : List (Nat × ByteArray)) (n : Nat) (d : ByteArray) (hd : d = ⟨#[]⟩) (hn : n < N.length) (k : Nat) (hk : k ≤ W.length) :
    ((nowK L N W k).getD n d = L.getD n d) ∨ ((nowK L N W k).getD n d = N.getD n d ∧ ∀ j (hj : j < W.length), j < k → (W[j]).1 ≠ n) := by
  subst hd
  induction k with
  | zero => exact .inr ⟨rfl, fun j hj h => by omega⟩
  | succ k ih =>
    have hkW : k < W.length := by omega
    have e := nowK_at L N W k hkW
    rw [e]
    by_cases hx : (W[k]).1 = n
    · rw [hx, getD_set_eq _ _ _ _ (by rw [nowK_len]; exact hn)]
      exact .inl rfl
    · rw [getD_set_ne _ _ _ _ _ hx]
      rcases ih (by omega) with h | ⟨h, hW⟩
      · exact .inl h
      · refine .inr ⟨h, fun j hj hjk => ?_⟩
        by_cases hjk' : j = k
        · subst hjk'
          exact hx
        · exact hW j hj (by omega)
/-- behind a crash a sector has what lasted, or one of the writes -/
theorem crash_at {s : DSt} (h : App s) (pk : Nat → Bool) (n : Nat) (hn : n < s.L.length) (hl : s.N.length = s.L.length) :
    ((crashS pk s).N.getD n ⟨#[]⟩ = s.L.getD n ⟨#[]⟩) ∨ ∃ j, j < s.W.length ∧ s.W[j]? = some (n, (crashS pk s).N.getD n ⟨#[]⟩) := by
  have e : (crashS pk s).N = nowK (lastsK pk s.L s.W s.W.length) s.N s.W s.W.length := rfl
  rw [e]
  rcases now_at (lastsK pk s.L s.W s.W.length) s.N s.W n ⟨#[]⟩ rfl (by omega) s.W.length (Nat.le_refl _) with g | ⟨g, gW⟩
  · rw [g]
    exact lasts_from pk s.L s.W n ⟨#[]⟩ hn s.W.length (Nat.le_refl _)
  · rw [g]
    unfold App at h
    rw [← h, lasts_un (fun _ => true) s.L s.W n ⟨#[]⟩ s.W.length (Nat.le_refl _) gW]
    exact .inl rfl
end Go.Proofs.YtcmnfbpmkndfkaaDoor
