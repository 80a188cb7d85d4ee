/-
  lex: what is thrown is taken.
-/
import Derived.Test.YtghddknhoiaboaaLexK
import Derived.Defers
import Derived.Recover
import Derived.Laws.Pointers
namespace Go.Proofs.Ytghddknhoiaboaa
open Go.ChangeShapes Go.WideShapes Go.ChangeAt Go.RowKit
set_option linter.unusedVariables false
set_option maxRecDepth 100000

theorem as_wrong (v : Value) (W : World) : (Instr.typeAssert (.iface 53 v) 20 53 true).run Try.prog W = .ok (.tuple #[v, .bool true]) W := by kernel_rfl
theorem lt_of_cell {w : World} {p : Nat} {o : Nat} {v : Value} (h : w.cell? ⟨p, o, none⟩ = some v) : p < w.heap.size := by
  rcases Nat.lt_or_ge p w.heap.size with hl | hl
  · exact hl
  · exfalso
    unfold World.cell? at h
    rw [Array.getElem?_eq_none (by exact hl)] at h
    cases h
theorem catch_idle (a b c : Addr) (w : World) :
    CallsD Try.prog 17 #[.pointer (some a), .pointer (some b), .pointer (some c)] .returning w fun e u' w' => e = .returned (.tuple #[]) ∧ u' = .returning ∧ w' = w := by
  refine callsD_of_wpS Try.func17 rfl fun c₀ cs hu => ?_
  apply wpS_seq
  apply wpS_region
  simp [wpOpsS, go_sem, recoverD, hu, Try.ntmps17, Exit.thenS]
  refine wpS_of_wp ?_
  go_wp2_with fail
  cases c₀
  simp_all [bodyPostS, results, Try.results17]
set_option maxHeartbeats 8000000 in
theorem catch_wrong (a b c : Nat) (lo co er : Int) (w : World) (older : List PanicEntry) (hab : a ≠ b) (hac : a ≠ c) (hbc : b ≠ c) {va : Value} {vl vc ve : Int} (ha : w.cell? ⟨a, 0, none⟩ = some va) (fa : w.frozen? ⟨a, 0, none⟩ = false) (hb0 : w.cell? ⟨b, 0, none⟩ = some (.int .i64 vl)) (hb1 : w.cell? ⟨b, 1, none⟩ = some (.int .i64 vc)) (fb0 : w.frozen? ⟨b, 0, none⟩ = false) (fb1 : w.frozen? ⟨b, 1, none⟩ = false) (hc : w.cell? ⟨c, 0, none⟩ = some (.int .i64 ve)) (fc : w.frozen? ⟨c, 0, none⟩ = false) :
    CallsD Try.prog 17 #[.pointer (some ⟨a, 0, none⟩), .pointer (some ⟨b, 0, none⟩), .pointer (some ⟨c, 0, none⟩)] (.panicking ({ v := .iface 53 (.agg #[.int .i64 lo, .int .i64 co, .int .i64 er]), recovered := false } :: older)) w fun e u' w' =>
      e = .returned (.tuple #[]) ∧ u' = .panicking ({ v := .iface 53 (.agg #[.int .i64 lo, .int .i64 co, .int .i64 er]), recovered := true } :: older) ∧ Below w.heap.size ((((w.setCell ⟨a, 0, none⟩ (.slice none 0 0)).setCell ⟨b, 0, none⟩ (.int .i64 lo)).setCell ⟨b, 1, none⟩ (.int .i64 co)).setCell ⟨c, 0, none⟩ (.int .i64 er)) w' := by
  refine callsD_of_wpS Try.func17 rfl fun c₀ cs hu => ?_
  apply wpS_seq
  apply wpS_region
  simp [wpOpsS, go_sem, recoverD, hu, Try.ntmps17, Exit.thenS]
  refine wpS_of_wp ?_
  have has := fun W => as_wrong (.agg #[.int .i64 lo, .int .i64 co, .int .i64 er]) W
  clear hu
  have la : a < w.heap.size := lt_of_cell ha
  have lb : b < w.heap.size := lt_of_cell hb0
  have lc : c < w.heap.size := lt_of_cell hc
  have na : ¬ a = w.heap.size := by omega
  have nb : ¬ b = w.heap.size := by omega
  have nc : ¬ c = w.heap.size := by omega
  have na' : ¬ w.heap.size = a := by omega
  have nb' : ¬ w.heap.size = b := by omega
  have nc' : ¬ w.heap.size = c := by omega
  have hba : ¬ b = a := fun e => hab e.symm
  have hca : ¬ c = a := fun e => hac e.symm
  have hcb : ¬ c = b := fun e => hbc e.symm
  go_upto_region 7 with fail
  go_region
  all_goals
    refine ⟨rfl, _, rfl, _, results_none rfl _ _ _, rfl, rfl, ?_⟩
    exact ((Below.refl _ _).alloc (by simp only [World.setCell, Array.size_modify]; exact Nat.le_refl _) _).drew
end Go.Proofs.Ytghddknhoiaboaa
