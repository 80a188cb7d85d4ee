/-
  The contract of reading a number.
-/
import Derived.Test.YtkplkfhkablelaaDoorWireJ
namespace Go.Proofs.YtkplkfhkablelaaDoor.Wr
set_option maxRecDepth 100000
open Go.ChangeShapes Go.WideShapes Go.ChangeAt Go.RowKit
set_option linter.unusedVariables false

def fromA (a : Option Addr) (cap k : Nat) : Option Addr := if cap = k then a else a.map (·.add k)
theorem getD_drop (l : List Nat) (k i : Nat) : (l.drop k).getD i 0 = l.getD (k + i) 0 := by
  simp [List.getD, List.getElem?_drop]
theorem ByteRow.drop {w : World} {a : Option Addr} {n : Nat} {l : List Nat} (h : ByteRow w a n l) (cap k : Nat) (hk : k ≤ n) (hc : n ≤ cap) : ByteRow w (fromA a cap k) (n - k) (l.drop k) := by
  obtain ⟨h1, h2, h3, h4⟩ := h
  refine ⟨by rw [List.length_drop]; omega, by omega, fun c hc => h3 c (List.mem_of_mem_drop hc), fun h0 => ?_⟩
  obtain ⟨b, o, rfl, hcell⟩ := h4 (by omega)
  refine ⟨b, o + k, ?_, fun i hi => ?_⟩
  · unfold fromA
    rw [if_neg (by omega)]
    simp [Addr.add]
  · rw [getD_drop, Nat.add_assoc]
    exact hcell (k + i) (by omega)
theorem slice_from (a : Option Addr) (m cap k : Nat) (hk : k ≤ m) (w : World) : (Instr.slice 22 (.slice a m cap) (some (.int .i64 (k : Int))) none none).run Tryd.prog w = .ok (.slice (fromA a cap k) (m - k) (cap - k)) w := by
  rw [run_slice_l w 22 a m cap (by kernel_rfl) .i64 (k : Int) (by omega) (by omega)]
  go_simp
  rfl

theorem InAt.cells {w : World} {p : Nat} {l : List Nat} {e : Int} (h : InAt w p l e) : ∃ a len cap, w.cell? ⟨p, 0, none⟩ = some (.slice a len cap) ∧ w.cell? ⟨p, 1, none⟩ = some (.int .i64 e) ∧ w.frozen? ⟨p, 0, none⟩ = false ∧ w.frozen? ⟨p, 1, none⟩ = false ∧ Bytes w a len cap l ∧ (∀ x, a = some x → x.block ≠ p) ∧ w.heap[p]? = some (.cells #[.slice a len cap, .int .i64 e] 66) := by
  obtain ⟨a, len, cap, h1, h2, h3⟩ := h
  refine ⟨a, len, cap, ?_, ?_, ?_, ?_, h2, h3, h1⟩
  · simp [World.cell?, h1]
  · simp [World.cell?, h1]
  · simp [World.frozen?, h1]
  · simp [World.frozen?, h1]

/-- reading a number between two -/
def readNum (least most : Int) (l : List Nat) (e : Int) : Int × List Nat × Int :=
  if e ≠ 0 then (0, l, e)
  else if (dec 0 0 l).2.2 ≠ 0 then (0, l, (dec 0 0 l).2.2)
  else if unz (dec 0 0 l).1 < least ∨ unz (dec 0 0 l).1 > most then (0, l, 4)
  else (unz (dec 0 0 l).1, l.drop (dec 0 0 l).2.1, 0)

theorem err_any (p : Nat) (l : List Nat) (e : Int) (w : World) (h : InAt w p l e) :
    Calls Tryd.prog 41 #[.pointer (some ⟨p, 0, none⟩)] w fun e' w' => e' = .returned (.int .i64 e) ∧ w = w' := by
  obtain ⟨a, len, cap, h0, h1, f0, f1, hb, hx, hh⟩ := h.cells
  clear hb hx hh h
  go_enter Tryd.func41, Tryd.ntmps41
  go_wp2
  go_ret
  exact ⟨rfl, rfl⟩

theorem left_any (p : Nat) (l : List Nat) (e : Int) (w : World) (h : InAt w p l e) :
    Calls Tryd.prog 42 #[.pointer (some ⟨p, 0, none⟩)] w fun e' w' => e' = .returned (.int .i64 l.length) ∧ w = w' := by
  obtain ⟨a, len, cap, h0, h1, f0, f1, hb, hx, hh⟩ := h.cells
  have hlen := hb.1.1
  clear hb hx hh h
  subst hlen
  go_enter Tryd.func42, Tryd.ntmps42
  go_wp2
  go_ret
  exact ⟨rfl, rfl⟩

end Go.Proofs.YtkplkfhkablelaaDoor.Wr
