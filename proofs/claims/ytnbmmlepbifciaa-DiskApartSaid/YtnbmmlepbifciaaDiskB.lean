/-
  The disk's small methods that write: change, Arm; has, Read.
-/
import Derived.Test.YtnbmmlepbifciaaDiskA
import Derived.Outline
namespace Go.Proofs.Ytnbmmlepbifciaa
open Go.ChangeShapes Go.WideShapes Go.ChangeAt Go.RowKit
set_option linter.unusedVariables false

theorem types_ne {w : World} {b p : Nat} {cur cur' : Array Value} {e t : TypeId} (h : w.heap[b]? = some (.cells cur e (0, 0))) (h' : w.heap[p]? = some (.cells cur' t)) (ht : e ≠ t) : b ≠ p := by
  rintro rfl
  rw [h] at h'
  injection h' with h'
  injection h' with _ h' _
  exact ht h'
/-- another word in the disk's own block -/
theorem DiskAt.put {w w' : World} {F : Nat → Prop} {p : Nat} {s : DSt} (h : DiskAt w F p s) (a' : Bool) (l' : Int) (o' : Bool) (n' : Int)
    (hp : ∀ x y z, w.heap[p]? = some (.cells #[x, y, z, .bool s.armed, .int .i64 s.left, .bool s.off, .int .i64 s.steps] 57) → w'.heap[p]? = some (.cells #[x, y, z, .bool a', .int .i64 l', .bool o', .int .i64 n'] 57))
    (hk : ∀ k, k ≠ p → w'.heap[k]? = w.heap[k]?) (hs : w.heap.size ≤ w'.heap.size) : DiskAt w' F p { s with armed := a', left := l', off := o', steps := n' } := by
  obtain ⟨lb, nb, lc, nc, wv, h1, h2, h3, h4, h5, h6, h7, h8, h9, h10, h11⟩ := h
  refine ⟨lb, nb, lc, nc, wv, hp _ _ _ h1, h2.keep ?_, h3.keep ?_, h4.keep ?_, h5, h6, h7, h8, h9, h10, fun k hk => Nat.lt_of_lt_of_le (h11 k hk) hs⟩
  · intro g hg
    cases hg
    obtain ⟨cur, hc⟩ := row_heap h2
    exact hk _ (types_ne hc h1 (by decide))
  · intro g hg
    cases hg
    obtain ⟨cur, hc⟩ := row_heap h3
    exact hk _ (types_ne hc h1 (by decide))
  · intro g hg
    obtain ⟨cur, hc⟩ := row_heap' h4 hg
    exact hk _ (types_ne hc h1 (by decide))
theorem set_put (w : World) (p i : Nat) (v : Value) {cs : Array Value} {t : TypeId} (h : w.heap[p]? = some (.cells cs t)) : (w.setCell ⟨p, i, none⟩ v).heap[p]? = some (.cells (cs.setIfInBounds i v) t) := by
  simp only [World.setCell, Array.getElem?_modify, h]
  simp
theorem DiskAt.armed_ {w : World} {F : Nat → Prop} {p : Nat} {s : DSt} (h : DiskAt w F p s) (b : Bool) : DiskAt (w.setCell ⟨p, 3, none⟩ (.bool b)) F p { s with armed := b } :=
  h.put b s.left s.off s.steps (fun x y z e => by rw [set_put w p 3 _ e]; rfl) (fun k hk => Below.heap_setCell w _ _ k hk) (by simp [World.setCell])
theorem DiskAt.left_ {w : World} {F : Nat → Prop} {p : Nat} {s : DSt} (h : DiskAt w F p s) (b : Int) : DiskAt (w.setCell ⟨p, 4, none⟩ (.int .i64 b)) F p { s with left := b } :=
  h.put s.armed b s.off s.steps (fun x y z e => by rw [set_put w p 4 _ e]; rfl) (fun k hk => Below.heap_setCell w _ _ k hk) (by simp [World.setCell])
theorem DiskAt.off_ {w : World} {F : Nat → Prop} {p : Nat} {s : DSt} (h : DiskAt w F p s) (b : Bool) : DiskAt (w.setCell ⟨p, 5, none⟩ (.bool b)) F p { s with off := b } :=
  h.put s.armed s.left b s.steps (fun x y z e => by rw [set_put w p 5 _ e]; rfl) (fun k hk => Below.heap_setCell w _ _ k hk) (by simp [World.setCell])
theorem DiskAt.steps_ {w : World} {F : Nat → Prop} {p : Nat} {s : DSt} (h : DiskAt w F p s) (b : Int) : DiskAt (w.setCell ⟨p, 6, none⟩ (.int .i64 b)) F p { s with steps := b } :=
  h.put s.armed s.left s.off b (fun x y z e => by rw [set_put w p 6 _ e]; rfl) (fun k hk => Below.heap_setCell w _ _ k hk) (by simp [World.setCell])
theorem DiskAt.self {w : World} {F : Nat → Prop} {p : Nat} {s : DSt} (h : DiskAt w F p s) : F p := by
  obtain ⟨lb, nb, lc, nc, wv, h1, h2, h3, h4, h5, h6, _⟩ := h
  exact h6

/-- Arm -/
theorem arm_any (w : World) (F : Nat → Prop) (p : Nat) (s : DSt) (n : Int) (h : DiskAt w F p s) (h0 : 0 ≤ n) :
    Calls Try.prog 13 #[.pointer (some ⟨p, 0, none⟩), .int .i64 n] w fun e w' => e = .returned (.tuple #[]) ∧ DiskAt w' F p { s with armed := true, left := n } ∧ Only F w w' := by
  have H := Lib.hid h
  obtain ⟨c3, c4, c5, c6, cf⟩ := h.cells
  clear h
  have f3 := cf 3
  have f4 := cf 4
  clear cf c5 c6
  go_enter Try.func13, Try.ntmps13
  go_wp2
  go_end0
  exact ⟨rfl, (H.out.armed_ true).left_ n, ((Only.refl F w).setCell H.out.self _).setCell H.out.self _⟩

/-- change: one more -/
def chg (s : DSt) : DSt := if s.armed = true ∧ s.left = 0 then { s with off := true } else { s with left := if s.armed = true then s.left - 1 else s.left, steps := s.steps + 1 }
def chgE (s : DSt) : Int := if s.armed = true ∧ s.left = 0 then 8 else 0
theorem change_any (w : World) (F : Nat → Prop) (p : Nat) (s : DSt) (h : DiskAt w F p s) (hs : 0 ≤ s.steps ∧ s.steps < 4611686018427387904) (hl : 0 ≤ s.left ∧ s.left < 4611686018427387904) :
    Calls Try.prog 23 #[.pointer (some ⟨p, 0, none⟩)] w fun e w' => e = .returned (.int .i64 (chgE s)) ∧ DiskAt w' F p (chg s) ∧ Only F w w' := by
  have H := Lib.hid h
  have HF := Lib.hid h.self
  obtain ⟨c3, c4, c5, c6, cf⟩ := h.cells
  clear h
  have f4 := cf 4
  have f5 := cf 5
  have f6 := cf 6
  clear cf
  obtain ⟨L, N, W, armed, left, off, steps⟩ := s
  dsimp only at *
  cases armed with
  | true =>
    by_cases hz : left = 0
    · subst hz
      go_enter Try.func23, Try.ntmps23
      go_wp2
      go_ret
      have e : chg ⟨L, N, W, true, 0, off, steps⟩ = ⟨L, N, W, true, 0, true, steps⟩ := if_pos ⟨rfl, rfl⟩
      have e2 : chgE ⟨L, N, W, true, 0, off, steps⟩ = 8 := if_pos ⟨rfl, rfl⟩
      rw [e, e2]
      exact ⟨rfl, H.out.off_ true, (Only.refl F w).setCell HF.out _⟩
    · have hzb : (left == 0) = false := by rw [beq_eq_false_iff_ne]; exact hz
      go_enter Try.func23, Try.ntmps23
      go_wp2
      go_ret
      have e : chg ⟨L, N, W, true, left, off, steps⟩ = ⟨L, N, W, true, left - 1, off, steps + 1⟩ := if_neg (fun h => hz h.2)
      have e2 : chgE ⟨L, N, W, true, left, off, steps⟩ = 0 := if_neg (fun h => hz h.2)
      rw [e, e2]
      exact ⟨rfl, (H.out.left_ (left - 1)).steps_ (steps + 1), ((Only.refl F w).setCell HF.out _).setCell HF.out _⟩
  | false =>
    go_enter Try.func23, Try.ntmps23
    go_wp2
    go_ret
    have e : chg ⟨L, N, W, false, left, off, steps⟩ = ⟨L, N, W, false, left, off, steps + 1⟩ := if_neg (fun h => Bool.noConfusion h.1)
    have e2 : chgE ⟨L, N, W, false, left, off, steps⟩ = 0 := if_neg (fun h => Bool.noConfusion h.1)
    rw [e, e2]
    exact ⟨rfl, H.out.steps_ (steps + 1), (Only.refl F w).setCell HF.out _⟩
end Go.Proofs.Ytnbmmlepbifciaa
