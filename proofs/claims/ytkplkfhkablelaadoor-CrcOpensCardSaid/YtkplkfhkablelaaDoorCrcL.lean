/-
  The law CrcOpens: texts of bytes, the document's Four and Open, Open of few bytes.
-/
import Derived.Test.YtkplkfhkablelaaDoorCrcJ
import Derived.Test.YtkplkfhkablelaaDoorReg
import Derived.Deep.DeepCutAuto
import Derived.Deep.CutBlock
namespace Go.Proofs.YtkplkfhkablelaaDoor
open Go.ChangeShapes Go.WideShapes Go.ChangeAt Go.RowKit
set_option linter.unusedVariables false

/-- bytes as a text -/
def tx (l : List Nat) : ByteArray := ⟨(l.map fun c => UInt8.ofNat c).toArray⟩
theorem nums_tx (l : List Nat) (h : ∀ c ∈ l, c < 256) : nums (tx l) = l := by
  unfold nums tx
  rw [List.toList_toArray, List.map_map]
  conv => rhs; rw [← List.map_id l]
  exact List.map_congr_left fun c hc => u8_toNat c (h c hc)
theorem tx_nums (s : ByteArray) : tx (nums s) = s := by
  unfold tx nums
  rw [List.map_map]
  have e : (List.map ((fun c => UInt8.ofNat c) ∘ UInt8.toNat) s.data.toList) = s.data.toList := by
    conv => rhs; rw [← List.map_id s.data.toList]
    exact List.map_congr_left fun c _ => by simp
  rw [e]
theorem tx_size (l : List Nat) : (tx l).size = l.length := by
  show (l.map fun c => UInt8.ofNat c).toArray.size = _
  simp
theorem tx_append (l m : List Nat) : tx l ++ tx m = tx (l ++ m) := by
  apply ByteArray.ext
  simp [tx]
theorem tx_take (l : List Nat) (k : Nat) : (tx l).extract 0 k = tx (l.take k) := by
  apply ByteArray.ext
  simp [tx, List.map_take]
theorem tx_drop (l : List Nat) (k : Nat) (hk : k ≤ l.length) : (tx l).extract k (tx l).size = tx (l.drop k) := by
  rw [tx_size]
  apply ByteArray.ext
  simp [tx, List.map_drop, List.take_of_length_le]
theorem tx_inj {l m : List Nat} (hl : ∀ c ∈ l, c < 256) (hm : ∀ c ∈ m, c < 256) (h : tx l = tx m) : l = m := by
  rw [← nums_tx l hl, ← nums_tx m hm, h]
theorem conv_tx {w : World} {a : Option Addr} {m : Nat} {l : List Nat} (cap : Nat) (h : ByteRow w a m l) :
    (convert 22 9 (.slice a m cap)).run Tryd.prog w = .ok (.string (tx l)) w := by
  obtain ⟨s, h1, h2, _⟩ := str_of_row cap h
  rw [h1, ← h2, tx_nums]
theorem texts_same (a : ByteArray) : (a.toList == a.toList) = true := beq_self_eq_true _
theorem texts_ne {a b : ByteArray} (h : ¬ a = b) : (a.toList == b.toList) = false := by
  rw [beq_eq_false_iff_ne, ByteArray.toList_eq, ByteArray.toList_eq]
  intro e
  exact h (ByteArray.ext (Array.toList_inj.1 e))

theorem four_cells (w : World) (S : Nat) (hS : S < 4294967296) :
    (convert 22 9 (.slice (some ⟨w.heap.size, 0, none⟩) 4 4)).run Tryd.prog (w.alloc (.cells #[.int .u8 ((S : Int) % 256), .int .u8 ((S : Int) / 256 % 256), .int .u8 ((S : Int) / 65536 % 256), .int .u8 ((S : Int) / 16777216)] 5)) =
      .ok (.string (tx (four S))) (w.alloc (.cells #[.int .u8 ((S : Int) % 256), .int .u8 ((S : Int) / 256 % 256), .int .u8 ((S : Int) / 65536 % 256), .int .u8 ((S : Int) / 16777216)] 5)) := by
  refine conv_tx 4 ⟨rfl, by decide, four_lt S hS, fun _ => ⟨w.heap.size, 0, rfl, fun i hi => ?_⟩⟩
  rw [Nat.zero_add]
  have e : i = 0 ∨ i = 1 ∨ i = 2 ∨ i = 3 := by omega
  rcases e with rfl | rfl | rfl | rfl <;> exact cell_at0 _ _ _ _ _ rfl
theorem fourRef_any (S : Nat) (hS : S < 4294967296) (w : World) :
    Calls Tryd.prog 17 #[.int .u32 (S : Int)] w fun e w' => e = .returned (.string (tx (four S))) ∧ Below w.heap.size w w' := by
  have hcv := four_cells w S hS
  go_enter Tryd.func17, Tryd.ntmps17
  go_wp2_with fail
  go_ret
  exact ⟨rfl, Below.alloc' (Below.refl _ _) _⟩
/-- what Open answers -/
def openS (l : List Nat) : List Nat × Bool := if 4 ≤ l.length ∧ stored l (l.length - 4) = sum (l.take (l.length - 4)) then (l.take (l.length - 4), true) else ([], false)

theorem str_to (s : ByteArray) (N : Nat) (h : s.size = N + 4) (hn : N ≤ 3000) (W : World) : (Instr.slice 9 (.string s) none (some (.int .i64 (N : Int))) none).run Tryd.prog W = .ok (.string (s.extract 0 N)) W := by
  have h1 : ¬ ((N : Int) + 4 < N) := by omega
  go_simp
theorem str_from (s : ByteArray) (N : Nat) (h : s.size = N + 4) (hn : N ≤ 3000) (W : World) : (Instr.slice 9 (.string s) (some (.int .i64 (N : Int))) none none).run Tryd.prog W = .ok (.string (s.extract N s.size)) W := by
  have h1 : ¬ ((N : Int) + 4 < N) := by omega
  go_simp
set_option maxRecDepth 100000 in
theorem refOpen_short (s : ByteArray) (n : Nat) (hs : s.size = n) (hn : n < 4) (w : World) :
    Calls Tryd.prog 16 #[.string s] w fun e w' => e = .returned (.tuple #[.string ⟨#[]⟩, .bool false]) ∧ Below w.heap.size w w' := by
  have hn4 : (n : Int) < 4 := by omega
  go_enter Tryd.func16, Tryd.ntmps16
  go_upto_region 1 with fail
  refine wp_region_inv_lit [.is (.string s), .is (.int .i64 n), .is (.bool true), .is (.bool true), .is undef, .is undef, .is undef, .is undef, .is undef, .is undef, .is undef, .is undef, .is undef, .is undef, .is undef, .is undef, .is undef, .is (.bool true)] (by kernel_rfl) (by kernel_rfl) ?_
  repeat1' (refine wpInv_is ?_ ?_; (focus (intro W hW hF K hK; clear hF; go_simp; exact hK _ _ (Gl.refl _) rfl)); simp only [Act.put, List.setIfInBounds_toArray, List.set_cons_zero, List.set_cons_succ])
  refine wpInv_end ?_
  intro W hW hF
  have HW := Lib.hid hW.undrew
  clear hF hW
  go_wp2_with fail
  go_ret2
  exact ⟨rfl, HW.out⟩
set_option maxRecDepth 100000 in
theorem refOpen_long (s sA sB f : ByteArray) (N S : Nat) (b : Bool) (hs : s.size = N + 4) (hn : N ≤ 3000) (w : World)
    (hA : ∀ W, (Instr.slice 9 (.string s) none (some (.int .i64 (N : Int))) none).run Tryd.prog W = .ok (.string sA) W)
    (hB : ∀ W, (Instr.slice 9 (.string s) (some (.int .i64 (N : Int))) none none).run Tryd.prog W = .ok (.string sB) W)
    (hS : ∀ W, Calls Tryd.prog 10 #[.string sA] W fun e w' => e = .returned (.int .u32 (S : Int)) ∧ W = w')
    (hf : ∀ W, Calls Tryd.prog 17 #[.int .u32 (S : Int)] W fun e w' => e = .returned (.string f) ∧ Below W.heap.size W w')
    (hb : (f.toList == sB.toList) = b) :
    Calls Tryd.prog 16 #[.string s] w fun e w' => e = .returned (.tuple #[.string (if b = true then sA else ⟨#[]⟩), .bool b]) ∧ Below w.heap.size w w' := by
  have hn4 : ¬ ((N : Int) + 4 < 4) := by omega
  have hw : IntKind.i64.wrap (N : Int) = N := by simp only [IntKind.wrap, IntKind.bits, IntKind.signed]; simp; omega
  have HS := Lib.hid hS
  have HF := Lib.hid hf
  clear hS hf
  go_enter Tryd.func16, Tryd.ntmps16
  go_upto_region 1 with fail
  refine wp_region_inv_lit [.is (.string s), .is (.int .i64 (N + 4)), .is (.bool false), .is (.bool false), .is (.string s), .is (.string s), .is (.int .i64 (N + 4)), .is (.int .i64 N), .is (.string sA), .is (.int .u32 S), .is (.string f),
    .is (.string s), .is (.string s), .is (.int .i64 (N + 4)), .is (.int .i64 N), .is (.string sB), .is (.bool (!b)), .is (.bool (!b))] (by kernel_rfl) (by kernel_rfl) ?_
  repeat1' (refine wpInv_is ?_ ?_; (focus (intro W hW hF K hK; clear hF; go_simp; exact hK _ _ (Gl.refl _) rfl)); simp only [Act.put, List.setIfInBounds_toArray, List.set_cons_zero, List.set_cons_succ])
  refine wpInv_is ?_ ?_
  · intro W hW hF K hK
    clear hF
    go_simp
    refine (HS.out W).mono ?_
    rintro e w1 ⟨rfl, rfl⟩
    exact ⟨_, rfl, hK _ _ (Gl.refl _) rfl⟩
  simp only [Act.put, List.setIfInBounds_toArray, List.set_cons_zero, List.set_cons_succ]
  refine wpInv_is ?_ ?_
  · intro W hW hF K hK
    clear hF
    go_simp
    refine (HF.out W).mono ?_
    rintro e w1 ⟨rfl, hb1⟩
    exact ⟨_, rfl, hK _ _ hb1 rfl⟩
  simp only [Act.put, List.setIfInBounds_toArray, List.set_cons_zero, List.set_cons_succ]
  repeat1' (refine wpInv_is ?_ ?_; (focus (intro W hW hF K hK; clear hF; go_simp; exact hK _ _ (Gl.refl _) rfl)); simp only [Act.put, List.setIfInBounds_toArray, List.set_cons_zero, List.set_cons_succ])
  refine wpInv_end ?_
  intro W hW hF
  have HW := Lib.hid hW.undrew
  clear hF hW
  cases b with
  | false =>
    go_wp2_with fail
    go_ret2
    exact ⟨rfl, HW.out⟩
  | true =>
    go_wp2_with fail
    go_ret2
    exact ⟨rfl, HW.out⟩
theorem stored_tail (l : List Nat) (N : Nat) (hl : l.length = N + 4) (h : ∀ c ∈ l, c < 256) : four (stored l N) = l.drop N ∧ stored l N < 4294967296 := by
  have hd : ∀ i, i < N + 4 → l.getD i 0 < 256 := fun i hi => h _ (getD_mem l i (by omega))
  have e := list_four l N hl
  have e2 : l.drop N = [l.getD N 0, l.getD (N + 1) 0, l.getD (N + 2) 0, l.getD (N + 3) 0] := by
    have h3 : (l.take N).length = N := by rw [List.length_take]; omega
    conv => lhs; rw [e]
    rw [List.drop_append, h3, List.drop_of_length_le (by omega)]
    simp
  have h0 := hd N (by omega)
  have h1 := hd (N + 1) (by omega)
  have h2 := hd (N + 2) (by omega)
  have h3 := hd (N + 3) (by omega)
  rw [e2]
  unfold stored four
  generalize l.getD N 0 = a at *
  generalize l.getD (N + 1) 0 = b at *
  generalize l.getD (N + 2) 0 = c at *
  generalize l.getD (N + 3) 0 = d at *
  refine ⟨?_, by omega⟩
  simp only [List.cons.injEq, and_true]
  refine ⟨by omega, by omega, by omega, by omega⟩
theorem four_inj {a b : Nat} (ha : a < 4294967296) (hb : b < 4294967296) (h : four a = four b) : a = b := by
  unfold four at h
  simp only [List.cons.injEq, and_true] at h
  omega
theorem refOpen_any (l : List Nat) (hn : l.length ≤ 3000) (h : ∀ c ∈ l, c < 256) (w : World) :
    Calls Tryd.prog 16 #[.string (tx l)] w fun e w' => e = .returned (.tuple #[.string (tx (openS l).1), .bool (openS l).2]) ∧ Below w.heap.size w w' := by
  by_cases h4 : 4 ≤ l.length
  · obtain ⟨N, hN⟩ : ∃ N, l.length = N + 4 := ⟨l.length - 4, by omega⟩
    have hsz : (tx l).size = N + 4 := by rw [tx_size, hN]
    have ht : ∀ c ∈ l.take N, c < 256 := fun c hc => h c (List.mem_of_mem_take hc)
    have hsum : sum (l.take N) < 4294967296 := more_lt _ _ (by decide) ht
    have hst := stored_tail l N hN h
    have key := refOpen_long (tx l) ((tx l).extract 0 N) ((tx l).extract N (tx l).size) (tx (four (sum (l.take N)))) N (sum (l.take N)) (decide (stored l N = sum (l.take N))) hsz (by omega) w (str_to _ N hsz (by omega)) (str_from _ N hsz (by omega))
      (fun W => by
        have := refSum_any (tx (l.take N)) W (by rw [tx_size, List.length_take]; unfold maxLen; omega)
        rw [nums_tx _ ht] at this
        rw [tx_take]
        exact this)
      (fun W => fourRef_any _ hsum W)
      (by
        rw [tx_drop l N (by omega), ← hst.1]
        by_cases g : stored l N = sum (l.take N)
        · rw [decide_eq_true g, g]
          exact texts_same _
        · rw [decide_eq_false g]
          refine texts_ne (fun e => g ?_)
          exact (four_inj hsum hst.2 (tx_inj (four_lt _ hsum) (four_lt _ hst.2) e)).symm)
    refine key.mono ?_
    rintro e w' ⟨rfl, hb⟩
    refine ⟨?_, hb⟩
    have hN4 : l.length - 4 = N := by omega
    unfold openS
    rw [hN4]
    by_cases g : stored l N = sum (l.take N)
    · have hc : 4 ≤ l.length ∧ stored l N = sum (l.take N) := ⟨h4, g⟩
      rw [if_pos hc, decide_eq_true g, if_pos rfl, tx_take]
    · have hc : ¬ (4 ≤ l.length ∧ stored l N = sum (l.take N)) := fun hh => g hh.2
      rw [if_neg hc, decide_eq_false g]
      rfl
  · have e : openS l = ([], false) := if_neg (fun hh => h4 hh.1)
    rw [e]
    exact refOpen_short (tx l) l.length (tx_size l) (by omega) w
end Go.Proofs.YtkplkfhkablelaaDoor
