/-
  lex: the document's bytes of a float, its signs.
-/
import Derived.Test.YtghddknhoiaboaaLexQ
namespace Go.Proofs.Ytghddknhoiaboaa
open Go.ChangeShapes Go.WideShapes Go.ChangeAt Go.RowKit
set_option linter.unusedVariables false
set_option maxRecDepth 100000

def firstB (x m : Nat) : List Nat := (List.range m).map fun j => bAt x j
theorem firstB_succ (x m : Nat) : firstB x (m + 1) = firstB x m ++ [bAt x m] := by
  unfold firstB
  rw [List.range_succ, List.map_append]
  rfl
theorem firstB_length (x m : Nat) : (firstB x m).length = m := by
  unfold firstB
  rw [List.length_map, List.length_range]
theorem firstB_lt (x m : Nat) : ∀ c ∈ firstB x m, c < 256 := fun c hc => by
  obtain ⟨j, _, rfl⟩ := List.mem_map.1 hc
  exact Nat.mod_lt _ (by decide)
set_option maxHeartbeats 4000000 in
theorem eight_any (x : Nat) (w : World) :
    Calls Try.prog 26 #[.int .u64 (x : Int)] w fun e w' => e = .returned (.string (bstr (eightS x))) ∧ Below w.heap.size w w' := by
  go_enter Try.func26, Try.ntmps26
  go_wp2_with fail
  go_loopw [3, 4] (fun b v wr => ∃ m : Nat, m ≤ 8 ∧ v = .int .i64 (56 - 8 * (m : Int)) ∧ Hid (wr.ownsRow w.heap.size 5 1 b (firstB x m).length (vals (firstB x m))) ∧ Hid (Below w.heap.size w wr)) (fun _ v _ => (intOf v + 8).toNat)
  case atStart => exact ⟨0, by omega, rfl, Lib.hid (own_none _ _), Lib.hid (Below.refl _ _)⟩
  case round =>
    obtain ⟨m, hm, rfl, HO, HB⟩ := hrel
    by_cases h8 : m < 8
    · obtain ⟨va, vc, rfl⟩ := own_slice HO.out
      have hal : Below wr.heap.size wr (wr.alloc (.cells #[.int .u8 ((bAt x m : Nat) : Int)] 5)) := (Below.refl _ _).alloc (Nat.le_refl _) _
      obtain ⟨nv, W9, hr, hown, hb9⟩ := run_snoc_byte (wr.alloc (.cells #[.int .u8 ((bAt x m : Nat) : Int)] 5)) 46 w.heap.size wr.heap.size _ (firstB x m) (bAt x m) (own_only HO.out (Only.of_below (F := fun _ => False) hal) (fun _ _ h => h)) (cell_at0 wr _ _ 0 _ rfl) (by rw [firstB_length]; omega) (by have := HB.out.size; have := hal.size; omega)
      have HN : Hid (W9.ownsRow w.heap.size 5 1 nv (firstB x (m + 1)).length (vals (firstB x (m + 1)))) := Lib.hid (by rw [firstB_succ]; exact hown)
      have HB9 : Hid (Below w.heap.size w W9) := Lib.hid (HB.out.trans ((hal.mono HB.out.size).trans hb9))
      have HRn := Lib.hid hr
      have HE : Hid ((bAt x m : Nat) = x / 2 ^ (56 - 8 * m) % 256) := Lib.hid rfl
      clear hal hr hown hb9
      generalize (firstB x m).length = lm at *
      generalize bAt x m = y at *
      have h0 : m = 0 ∨ m = 1 ∨ m = 2 ∨ m = 3 ∨ m = 4 ∨ m = 5 ∨ m = 6 ∨ m = 7 := by omega
      rcases h0 with rfl | rfl | rfl | rfl | rfl | rfl | rfl | rfl
      all_goals
        have hy0 := HE.out
        simp only [Nat.reduceMul, Nat.reduceSub, Nat.reducePow, Nat.mul_zero, Nat.sub_zero, Nat.pow_zero, Nat.div_one, Nat.sub_self] at hy0
      · have hy : (x : Int) / 72057594037927936 % 256 = (y : Int) := by omega
        clear h8 hm hy0
        go_wp2_with (at_builtin; refine wpList_append_run rfl (.tmp 9) (.tmp 14) 46 46 rfl rfl rfl HRn.out ?_)
        exact ⟨⟨1, by decide, rfl, HN, HB9⟩, by decide⟩
      · have hy : (x : Int) / 281474976710656 % 256 = (y : Int) := by omega
        clear h8 hm hy0
        go_wp2_with (at_builtin; refine wpList_append_run rfl (.tmp 9) (.tmp 14) 46 46 rfl rfl rfl HRn.out ?_)
        exact ⟨⟨2, by decide, rfl, HN, HB9⟩, by decide⟩
      · have hy : (x : Int) / 1099511627776 % 256 = (y : Int) := by omega
        clear h8 hm hy0
        go_wp2_with (at_builtin; refine wpList_append_run rfl (.tmp 9) (.tmp 14) 46 46 rfl rfl rfl HRn.out ?_)
        exact ⟨⟨3, by decide, rfl, HN, HB9⟩, by decide⟩
      · have hy : (x : Int) / 4294967296 % 256 = (y : Int) := by omega
        clear h8 hm hy0
        go_wp2_with (at_builtin; refine wpList_append_run rfl (.tmp 9) (.tmp 14) 46 46 rfl rfl rfl HRn.out ?_)
        exact ⟨⟨4, by decide, rfl, HN, HB9⟩, by decide⟩
      · have hy : (x : Int) / 16777216 % 256 = (y : Int) := by omega
        clear h8 hm hy0
        go_wp2_with (at_builtin; refine wpList_append_run rfl (.tmp 9) (.tmp 14) 46 46 rfl rfl rfl HRn.out ?_)
        exact ⟨⟨5, by decide, rfl, HN, HB9⟩, by decide⟩
      · have hy : (x : Int) / 65536 % 256 = (y : Int) := by omega
        clear h8 hm hy0
        go_wp2_with (at_builtin; refine wpList_append_run rfl (.tmp 9) (.tmp 14) 46 46 rfl rfl rfl HRn.out ?_)
        exact ⟨⟨6, by decide, rfl, HN, HB9⟩, by decide⟩
      · have hy : (x : Int) / 256 % 256 = (y : Int) := by omega
        clear h8 hm hy0
        go_wp2_with (at_builtin; refine wpList_append_run rfl (.tmp 9) (.tmp 14) 46 46 rfl rfl rfl HRn.out ?_)
        exact ⟨⟨7, by decide, rfl, HN, HB9⟩, by decide⟩
      · have hy : (x : Int) % 256 = (y : Int) := by omega
        clear h8 hm hy0
        go_wp2_with (at_builtin; refine wpList_append_run rfl (.tmp 9) (.tmp 14) 46 46 rfl rfl rfl HRn.out ?_)
        exact ⟨⟨8, by decide, rfl, HN, HB9⟩, by decide⟩
    · obtain rfl : m = 8 := by omega
      obtain ⟨va, vc, rfl, hrow, _⟩ := own_bytes HO.out (firstB_lt x 8) (by rw [firstB_length]; decide)
      have hcv := conv_row vc hrow
      clear hrow h8 hm
      go_wp2_with fail
      go_ret
      exact ⟨rfl, HB.out⟩
end Go.Proofs.Ytghddknhoiaboaa
