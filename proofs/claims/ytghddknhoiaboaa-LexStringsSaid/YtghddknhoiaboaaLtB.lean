/-
  lex: a token as the law writes it.
-/
import Derived.Test.YtghddknhoiaboaaLtA
namespace Go.Proofs.Ytghddknhoiaboaa
open Go.ChangeShapes Go.WideShapes Go.ChangeAt Go.RowKit
set_option linter.unusedVariables false
set_option maxRecDepth 100000

theorem bstr_append (a b : List Nat) : bstr (a ++ b) = bstr a ++ bstr b := by
  unfold bstr
  apply ByteArray.ext
  simp only [ByteArray.data_append, List.map_append, List.append_toArray]
theorem dig_cut8 (r : Nat) (h : r < 16) (W : World) : (Instr.slice 9 (.string ⟨#[48, 49, 50, 51, 52, 53, 54, 55, 56, 57, 97, 98, 99, 100, 101, 102]⟩) (some (.int .u8 (r : Int))) (some (.int .u8 ((r : Int) + 1))) none).run Try.prog W = .ok (.string (bstr [hexD r])) W := by
  have e : r = 0 ∨ r = 1 ∨ r = 2 ∨ r = 3 ∨ r = 4 ∨ r = 5 ∨ r = 6 ∨ r = 7 ∨ r = 8 ∨ r = 9 ∨ r = 10 ∨ r = 11 ∨ r = 12 ∨ r = 13 ∨ r = 14 ∨ r = 15 := by omega
  rcases e with rfl | rfl | rfl | rfl | rfl | rfl | rfl | rfl | rfl | rfl | rfl | rfl | rfl | rfl | rfl | rfl <;> rfl
theorem take_snoc (l : List Nat) (j : Nat) (hj : j < l.length) : l.take (j + 1) = l.take j ++ [l.getD j 0] := by
  rw [List.take_add_one, List.getD_eq_getElem?_getD, List.getElem?_eq_getElem hj]
  rfl
def spellL (k n : Int) (t : ByteArray) : List Nat :=
  if k = 0 then [40] else if k = 1 then [41] else if k = 2 then nat (Lib.itoa n) else if k = 3 then [48, 46, 53] else if k = 4 then 34 :: (hexB (bytesOf t) ++ [34]) else bytesOf t
theorem wrap8 (r : Nat) (h : r < 256) : IntKind.u8.wrap (r : Int) = (r : Int) := by
  simp only [IntKind.wrap, IntKind.bits, IntKind.signed]; simp; omega
theorem wrap8s (r : Nat) (h : r < 255) : IntKind.u8.wrap ((r : Int) + 1) = (r : Int) + 1 := by
  simp only [IntKind.wrap, IntKind.bits, IntKind.signed]; simp; omega
set_option maxHeartbeats 4000000 in
theorem spell_any (k n : Int) (p : Nat × Nat) (t : ByteArray) (hn : k = 2 → -4611686018427387904 ≤ n ∧ n ≤ 4611686018427387903) (ht : t.size ≤ 10000) (w : World) :
    Calls Try.prog 15 #[.agg #[.int .i64 k, .int .i64 (p.1 : Int), .int .i64 (p.2 : Int), .int .i64 n, .string t]] w fun e w' => e = .returned (.string (bstr (spellL k n t))) ∧ Below w.heap.size w w' := by
  obtain ⟨W0, hW0⟩ : ∃ W0, W0 = w.alloc (.cells #[.int .i64 k, .int .i64 (p.1 : Int), .int .i64 (p.2 : Int), .int .i64 n, .string t] 44) := ⟨_, rfl⟩
  have hb0 : Below w.heap.size w W0 := by rw [hW0]; exact (Below.refl _ _).alloc (Nat.le_refl _) _
  have hg0 : W0.heap[w.heap.size]? = some (.cells #[.int .i64 k, .int .i64 (p.1 : Int), .int .i64 (p.2 : Int), .int .i64 n, .string t] 44) := by rw [hW0]; exact heap_alloc w _
  have hs0 : W0.heap.size = w.heap.size + 1 := by rw [hW0]; exact size_alloc' w _
  have HG : Hid (∀ W, Below W0.heap.size W0 W → W.cell? ⟨w.heap.size, 0, none⟩ = some (.int .i64 k) ∧ W.cell? ⟨w.heap.size, 3, none⟩ = some (.int .i64 n) ∧ W.cell? ⟨w.heap.size, 4, none⟩ = some (.string t)) := Lib.hid (fun W hb => by
    have e := (hb.block w.heap.size (by omega)).trans hg0
    exact ⟨cell_of_row W _ 0 _ _ (0, 0) e, cell_of_row W _ 3 _ _ (0, 0) e, cell_of_row W _ 4 _ _ (0, 0) e⟩)
  have HB0 := Lib.hid hb0
  have HW0 := Lib.hid hW0
  obtain ⟨c0, c3, c4⟩ := HG.out W0 (Below.refl _ _)
  clear hW0 hb0 hg0 hs0
  have hfin : ∀ (x : ByteArray), spellL k n t = bytesOf x → bstr (spellL k n t) = x := fun x h => by rw [h, bstr_bytesOf]
  have HF := Lib.hid hfin
  clear hfin
  by_cases k0 : k = 0
  · subst k0
    go_enter Try.func15, Try.ntmps15
    go_wp2_with fail
    rw [← HW0.out]
    go_ret
    exact ⟨rfl, HB0.out⟩
  have b0 : (k == 0) = false := by simpa using k0
  by_cases k1 : k = 1
  · subst k1
    go_enter Try.func15, Try.ntmps15
    go_wp2_with fail
    rw [← HW0.out]
    go_ret
    exact ⟨rfl, HB0.out⟩
  have b1 : (k == 1) = false := by simpa using k1
  by_cases k2 : k = 2
  · obtain ⟨n1, n2⟩ := hn k2
    subst k2
    have HN := Lib.hid (number_any n n1 n2 W0)
    have HE := Lib.hid (HF.out ⟨(Lib.itoa n).toArray⟩ (by rw [bytesOf_list]; rfl))
    clear hn HF
    go_enter Try.func15, Try.ntmps15
    go_wp2_with fail
    rw [← HW0.out]
    refine HN.out.mono ?_
    clear HN
    rintro e w1 ⟨rfl, hb1⟩
    have HB1 := Lib.hid (HB0.out.trans (hb1.mono HB0.out.size))
    clear hb1
    go_wp2_with fail
    go_ret
    refine ⟨?_, HB1.out⟩
    rw [HE.out]
    rfl
  have b2 : (k == 2) = false := by simpa using k2
  by_cases k3 : k = 3
  · subst k3
    go_enter Try.func15, Try.ntmps15
    go_wp2_with fail
    rw [← HW0.out]
    go_ret
    exact ⟨rfl, HB0.out⟩
  have b3 : (k == 3) = false := by simpa using k3
  by_cases k4 : k = 4
  · subst k4
    clear hn HF k0 k1 k2 k3 b0 b1 b2 b3
    go_enter Try.func15, Try.ntmps15
    go_wp2_with fail
    rw [← HW0.out]
    have hbl := bytesOf_length t
    have HBl := Lib.hid hbl
    clear c0 c3 c4 hbl
    go_loopw [4, 5] (fun sv iv wr => ∃ j : Nat, j ≤ t.size ∧ iv = .int .i64 j ∧ sv = .string (bstr (34 :: hexB ((bytesOf t).take j))) ∧ Hid (Below W0.heap.size W0 wr)) (fun _ iv _ => t.size - (intOf iv).toNat)
    case atStart => exact ⟨0, Nat.zero_le _, rfl, rfl, Lib.hid (Below.refl _ _)⟩
    case round =>
      obtain ⟨j, hj, rfl, rfl, HB⟩ := hrel
      obtain ⟨c0, c3, c4⟩ := HG.out wr HB.out
      have hjS : (bstr (34 :: hexB ((bytesOf t).take j))).size = 4 * j + 1 := by
        rw [size_bstr, List.length_cons, hexB_length, List.length_take, HBl.out]
        omega
      by_cases hlt : j < t.size
      · have i1 : (j : Int) < (t.size : Int) := by omega
        have hix := idx_str t j hlt (by omega)
        have h256 := byte_lt t j
        have htk := take_snoc (bytesOf t) j (by rw [HBl.out]; exact hlt)
        generalize (bytesOf t).getD j 0 = c at *
        have hcat1 : bstr (34 :: hexB ((bytesOf t).take j)) ++ ⟨#[92, 120]⟩ = bstr (34 :: hexB ((bytesOf t).take j) ++ [92, 120]) := by rw [bstr_append]; rfl
        have hcat2 : bstr (34 :: hexB ((bytesOf t).take j) ++ [92, 120]) ++ bstr [hexD (c / 16)] = bstr (34 :: hexB ((bytesOf t).take j) ++ [92, 120] ++ [hexD (c / 16)]) := (bstr_append _ _).symm
        have hcat3 : bstr (34 :: hexB ((bytesOf t).take j) ++ [92, 120] ++ [hexD (c / 16)]) ++ bstr [hexD (c % 16)] = bstr (34 :: hexB ((bytesOf t).take (j + 1))) := by
          rw [← bstr_append, htk, hexB_append]
          congr 1
          simp [hexB, List.append_assoc]
        have hS2 : (bstr (34 :: hexB ((bytesOf t).take j) ++ [92, 120])).size = 4 * j + 3 := by
          rw [← hcat1, ByteArray.size_append, hjS]
          rfl
        have hS3 : (bstr (34 :: hexB ((bytesOf t).take j) ++ [92, 120] ++ [hexD (c / 16)])).size = 4 * j + 4 := by
          rw [← hcat2, ByteArray.size_append, hS2]
          rfl
        have hT1 : (bstr [hexD (c / 16)]).size = 1 := rfl
        have hT2 : (bstr [hexD (c % 16)]).size = 1 := rfl
        have l1 : ¬ 9223372036854775807 < 4 * j + 1 + 2 := by omega
        have l2 : ¬ 9223372036854775807 < 4 * j + 3 + 1 := by omega
        have l3 : ¬ 9223372036854775807 < 4 * j + 4 + 1 := by omega
        have hcut1 := dig_cut8 (c / 16) (by omega)
        have hcut2 := dig_cut8 (c % 16) (by omega)
        have hq : (c : Int).tdiv 16 = ((c / 16 : Nat) : Int) := rfl
        have hr : (c : Int).tmod 16 = ((c % 16 : Nat) : Int) := rfl
        have hq2 : (c : Int) / 16 = ((c / 16 : Nat) : Int) := by omega
        have hr2 : (c : Int) % 16 = ((c % 16 : Nat) : Int) := by omega
        have w1 := wrap8 (c / 16) (by omega)
        have w2 := wrap8 (c % 16) (by omega)
        have w3 := wrap8s (c / 16) (by omega)
        have w4 := wrap8s (c % 16) (by omega)
        clear htk
        generalize bstr (34 :: hexB ((bytesOf t).take j) ++ [92, 120] ++ [hexD (c / 16)]) = S3 at *
        generalize bstr (34 :: hexB ((bytesOf t).take j) ++ [92, 120]) = S2 at *
        generalize hS4 : bstr (34 :: hexB ((bytesOf t).take (j + 1))) = S4 at *
        generalize bstr (34 :: hexB ((bytesOf t).take j)) = S1 at *
        generalize bstr [hexD (c / 16)] = T1 at *
        generalize bstr [hexD (c % 16)] = T2 at *
        generalize c / 16 = x at *
        generalize c % 16 = y at *
        have HS4 := Lib.hid hS4
        have HC4 : Hid (∀ W, Gl wr.drew W → W.cell? ⟨w.heap.size, 4, none⟩ = some (.string t)) := Lib.hid (fun W hW => by
          have hb := hW.undrew.block _ (lt_of_cell c4)
          exact (World.cell?_of_block (a := ⟨w.heap.size, 4, none⟩) hb).trans c4)
        clear hS4
        go_upto_region 16 with fail
        clear c0 c3 c4
        refine wp_region_inv_lit [.is (.string S1), .is (.string S2), .is (.string ⟨#[48, 49, 50, 51, 52, 53, 54, 55, 56, 57, 97, 98, 99, 100, 101, 102]⟩), .is (.pointer (some ⟨w.heap.size, 4, none⟩)), .is (.string t), .is (.int .i64 (j : Int)), .is (.int .u8 (c : Int)), .is (.int .u8 (x : Int)), .is (.pointer (some ⟨w.heap.size, 4, none⟩)), .is (.string t), .is (.int .i64 (j : Int)), .is (.int .u8 (c : Int)), .is (.int .u8 (x : Int)), .is (.int .u8 ((x : Int) + 1)), .is (.string T1), .is (.string S3), .is (.string ⟨#[48, 49, 50, 51, 52, 53, 54, 55, 56, 57, 97, 98, 99, 100, 101, 102]⟩), .is (.pointer (some ⟨w.heap.size, 4, none⟩)), .is (.string t), .is (.int .i64 (j : Int)), .is (.int .u8 (c : Int)), .is (.int .u8 (y : Int)), .is (.pointer (some ⟨w.heap.size, 4, none⟩)), .is (.string t), .is (.int .i64 (j : Int)), .is (.int .u8 (c : Int)), .is (.int .u8 (y : Int)), .is (.int .u8 ((y : Int) + 1)), .is (.string T2), .is (.string S4), .is (.string S4)] (by kernel_rfl) (by kernel_rfl) ?_
        repeat1' (refine wpInv_is ?_ ?_; (focus (intro W hW hF K hK; clear hF; have d4 := HC4.out W hW; go_simp; exact hK _ _ (Gl.refl _) rfl)); simp only [Act.put, List.setIfInBounds_toArray, List.set_cons_zero, List.set_cons_succ])
        refine wpInv_end ?_
        intro W hW hF
        clear hF
        have HWW := Lib.hid (HB.out.trans (hW.undrew.mono HB.out.size))
        clear hW
        go_wp2_with fail
        go_roundw
        case rel => exact ⟨j + 1, by omega, by go_num, by rw [HS4.out], HWW⟩
        case measure => simp [intOf]; omega
      · have i1 : ¬ (j : Int) < (t.size : Int) := by omega
        obtain rfl : j = t.size := by omega
        have hall : (bytesOf t).take t.size = bytesOf t := by rw [← HBl.out, List.take_length]
        have HE : Hid (bstr (34 :: hexB (bytesOf t)) ++ ⟨#[34]⟩ = bstr (spellL 4 n t)) := Lib.hid (by
          have e : spellL 4 n t = 34 :: hexB (bytesOf t) ++ [34] := rfl
          rw [e, bstr_append]
          rfl)
        rw [hall] at hjS
        have l1 : ¬ 9223372036854775807 < 4 * t.size + 1 + 1 := by omega
        have HBF := Lib.hid (HB0.out.trans (HB.out.mono HB0.out.size))
        rw [hall]
        clear hall
        generalize bstr (34 :: hexB (bytesOf t)) = S1 at *
        clear i1
        have i1 : ¬ (t.size : Int) < (t.size : Int) := by omega
        go_wp2_with fail
        go_ret
        refine ⟨?_, HBF.out⟩
        rw [← HE.out]
        rfl
  have b4 : (k == 4) = false := by simpa using k4
  have HE := Lib.hid (HF.out t (by unfold spellL; rw [if_neg k0, if_neg k1, if_neg k2, if_neg k3, if_neg k4]))
  clear hn HF k0 k1 k2 k3 k4
  go_enter Try.func15, Try.ntmps15
  go_wp2_with fail
  rw [← HW0.out]
  go_ret
  refine ⟨?_, HB0.out⟩
  rw [HE.out]
  rfl
end Go.Proofs.Ytghddknhoiaboaa
