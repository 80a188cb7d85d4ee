/-
  The law LexWords.
-/
import Derived.Test.YtilobcdoihfooaaLwA
import Derived.Test.YtilobcdoihfooaaLexW
namespace Go.Proofs.Ytilobcdoihfooaa
open Go.ChangeShapes Go.WideShapes Go.ChangeAt Go.RowKit
set_option linter.unusedVariables false
set_option maxRecDepth 100000

set_option maxHeartbeats 8000000 in
theorem lexWords_law (x0 : ByteArray) (b : Int) (w : World) (mx : Int) (hmx : w.cell? ⟨1, 0, none⟩ = some (.int .i64 mx)) (hx : x0.size ≤ maxLen) (hb : (Lit.int .i64 b).wf = true) :
    Calls Try.prog 4 #[.string x0, .int .i64 b] w fun e w' => e = .returned (.bool true) ∧ Below w.heap.size w w' := by
  have hlt := lt_of_cell hmx
  have HM : Hid (∀ W, Below w.heap.size w W → W.cell? ⟨1, 0, none⟩ = some (.int .i64 mx)) := Lib.hid (fun W hb => by
    rw [World.cell?_of_block (a := ⟨1, 0, none⟩) (hb.block _ hlt)]
    exact hmx)
  have HL0 := Lib.hid (lexes_any w mx hmx)
  unfold maxLen at hx
  clear hmx hlt
  obtain ⟨m, hm, hm45⟩ : ∃ m : Nat, wrap64 ((IntKind.u64.wrap b).tmod 45) = (m : Int) ∧ m < 45 := by
    have h1 : 0 ≤ IntKind.u64.wrap b := by simp only [IntKind.wrap, IntKind.bits, IntKind.signed]; simp; omega
    generalize IntKind.u64.wrap b = x at *
    rw [Int.tmod_eq_emod_of_nonneg h1]
    refine ⟨(x % 45).toNat, ?_, by omega⟩
    unfold wrap64
    omega
  by_cases hz : x0.size = 0
  · obtain rfl := empty_of x0 hz
    go_enter Try.func4, Try.ntmps4
    go_wp2_with fail
    clear hm
    go_loop [5] (fun vi => vi = .int .i64 0) (fun _ => 0)
    case atStart => rfl
    case round =>
      subst hrel
      go_wp2_with fail
      refine HL0.out.mono ?_
      rintro e w1 ⟨rfl, hb1⟩
      have HB1 := Lib.hid hb1
      clear hb1
      go_wp2_with fail
      go_ret
      exact ⟨rfl, HB1.out⟩
  · have h0 : 0 < x0.size := by omega
    have hne := empty_ne x0 h0
    have hne2 : ¬ x0.toList = [] := fun e => by
      rw [e] at hne
      have : (⟨#[]⟩ : ByteArray).toList = [] := by rw [ByteArray.toList_eq]
      rw [this] at hne
      cases hne
    have hne3 : x0.toList.isEmpty = false := by
      cases hq : x0.toList with
      | nil => exact absurd hq hne2
      | cons a t => rfl
    go_enter Try.func4, Try.ntmps4
    go_wp2_with fail
    clear hm
    go_loop [5] (fun vi => ∃ i : Nat, i ≤ x0.size ∧ vi = .int .i64 i ∧ Hid (∀ c ∈ (bytesOf x0).take i, isEnd c = false)) (fun vi => x0.size - (intOf vi).toNat)
    case atStart => exact ⟨0, Nat.zero_le _, rfl, Lib.hid (fun c hc => (List.not_mem_nil hc).elim)⟩
    case round =>
      obtain ⟨i, hi, rfl, HI⟩ := hrel
      by_cases hlt : i < x0.size
      · have i1 : (i : Int) < (x0.size : Int) := by omega
        have hix := idx_str x0 i hlt (by omega)
        have HT := Lib.hid (fun h => take_end x0 i hlt HI.out h)
        generalize (bytesOf x0).getD i 0 = c at *
        by_cases h32 : c ≤ 32
        · have j32 : (c : Int) ≤ 32 := by omega
          clear h32
          go_wp2_with fail
          refine HL0.out.mono ?_
          rintro e w1 ⟨rfl, hb1⟩
          have HB1 := Lib.hid hb1
          clear hb1
          go_wp2_with fail
          go_ret
          exact ⟨rfl, HB1.out⟩
        · have j32 : ¬ (c : Int) ≤ 32 := by omega
          by_cases h40 : c = 40
          · have j40 : ((c : Int) == 40) = true := by rw [h40]; rfl
            clear h40 h32
            go_wp2_with fail
            refine HL0.out.mono ?_
            rintro e w1 ⟨rfl, hb1⟩
            have HB1 := Lib.hid hb1
            clear hb1
            go_wp2_with fail
            go_ret
            exact ⟨rfl, HB1.out⟩
          · have j40 : ((c : Int) == 40) = false := by
              have : ¬ (c : Int) = 40 := by omega
              simpa using this
            by_cases h41 : c = 41
            · have j41 : ((c : Int) == 41) = true := by rw [h41]; rfl
              clear h41 h32
              go_wp2_with fail
              refine HL0.out.mono ?_
              rintro e w1 ⟨rfl, hb1⟩
              have HB1 := Lib.hid hb1
              clear hb1
              go_wp2_with fail
              go_ret
              exact ⟨rfl, HB1.out⟩
            · have j41 : ((c : Int) == 41) = false := by
                have : ¬ (c : Int) = 41 := by omega
                simpa using this
              by_cases h34 : c = 34
              · have j34 : ((c : Int) == 34) = true := by rw [h34]; rfl
                clear h34 h32
                go_wp2_with fail
                refine HL0.out.mono ?_
                rintro e w1 ⟨rfl, hb1⟩
                have HB1 := Lib.hid hb1
                clear hb1
                go_wp2_with fail
                go_ret
                exact ⟨rfl, HB1.out⟩
              · have j34 : ((c : Int) == 34) = false := by
                  have : ¬ (c : Int) = 34 := by omega
                  simpa using this
                by_cases h59 : c = 59
                · have j59 : ((c : Int) == 59) = true := by rw [h59]; rfl
                  clear h59 h32
                  go_wp2_with fail
                  refine HL0.out.mono ?_
                  rintro e w1 ⟨rfl, hb1⟩
                  have HB1 := Lib.hid hb1
                  clear hb1
                  go_wp2_with fail
                  go_ret
                  exact ⟨rfl, HB1.out⟩
                · have j59 : ((c : Int) == 59) = false := by
                    have : ¬ (c : Int) = 59 := by omega
                    simpa using this
                  have HN := Lib.hid (HT.out (isEnd_big h32 h40 h41 h34 h59))
                  clear h32 h40 h41 h34 h59
                  go_wp2_with fail
                  go_round
                  case rel => exact ⟨i + 1, by omega, by go_num, HN⟩
                  case measure => simp [intOf]; omega
      · have i1 : ¬ (i : Int) < (x0.size : Int) := by omega
        obtain rfl : i = x0.size := by omega
        have HAll : Hid (∀ c ∈ bytesOf x0, isEnd c = false) := Lib.hid (by
          have := HI.out
          rw [List.take_of_length_le (by rw [bytesOf_length]; exact Nat.le_refl _)] at this
          exact this)
        clear HI
        by_cases h300 : 300 < x0.size
        · have i3 : (300 : Int) < (x0.size : Int) := by omega
          go_wp2_with fail
          refine HL0.out.mono ?_
          rintro e w1 ⟨rfl, hb1⟩
          have HB1 := Lib.hid hb1
          clear hb1
          go_wp2_with fail
          go_ret
          exact ⟨rfl, HB1.out⟩
        · have i3 : ¬ (300 : Int) < (x0.size : Int) := by omega
          go_wp2_with fail
          go_loop [6, 7] (fun vl vj => ∃ (j : Nat) (lg : ByteArray), 1 ≤ j ∧ j ≤ 1 + m ∧ vl = .string lg ∧ vj = .int .i64 j ∧ Hid (lg.size = x0.size + (j - 1) ∧ ∀ c ∈ bytesOf lg, isEnd c = false)) (fun _ vj => 1 + m - (intOf vj).toNat)
          case atStart => exact ⟨1, x0, Nat.le_refl _, by omega, rfl, rfl, Lib.hid ⟨rfl, HAll.out⟩⟩
          case round =>
            obtain ⟨j, lg, hj1, hjm, rfl, rfl, HG⟩ := hrel
            by_cases hjl : j < 1 + m
            · have j1 : (j : Int) < 1 + (m : Int) := by omega
              have HN : Hid ((lg ++ x0.extract 0 1).size = x0.size + (j + 1 - 1) ∧ ∀ c ∈ bytesOf (lg ++ x0.extract 0 1), isEnd c = false) := Lib.hid (by
                refine ⟨?_, ?_⟩
                · rw [ByteArray.size_append, HG.out.1, size_prefix x0 h0]; omega
                · intro c hc
                  rw [bytesOf_append, bytes_prefix x0 h0] at hc
                  rcases List.mem_append.1 hc with hc | hc
                  · exact HG.out.2 c hc
                  · rw [List.mem_singleton.1 hc]
                    exact HAll.out _ (getD_mem x0 0 h0))
              have hs1 : ¬ 9223372036854775807 < lg.size + (x0.extract 0 1).size := by rw [HG.out.1, size_prefix x0 h0]; omega
              have hs2 : lg.size + (x0.extract 0 1).size ≤ 9223372036854775807 := by omega
              go_wp2_with fail
              go_round
              case rel => exact ⟨j + 1, _, by omega, by omega, rfl, by go_num, HN⟩
              case measure => simp [intOf]; omega
            · have j1 : ¬ (j : Int) < 1 + (m : Int) := by omega
              have HG1 : Hid (Good x0) := Lib.hid ⟨h0, by omega, HAll.out⟩
              have HG2 : Hid (Good lg) := Lib.hid ⟨by have := HG.out.1; omega, by have := HG.out.1; omega, HG.out.2⟩
              clear HG HAll
              obtain ⟨w1, hw1⟩ : ∃ w1, w1 = w.alloc (.cells #[.string x0, .string lg] 9) := ⟨_, rfl⟩
              have hb1 : Below w.heap.size w w1 := by rw [hw1]; exact (Below.refl _ _).alloc (Nat.le_refl _) _
              have hc1 : w1.heap[w.heap.size]? = some (.cells #[.string x0, .string lg] 9) := by rw [hw1]; exact heap_alloc _ _
              have HB1 := Lib.hid hb1
              have HC1 := Lib.hid hc1
              have HW1 := Lib.hid hw1
              clear hb1 hc1 hw1
              go_wp2_with fail
              rw [← HW1.out]
              go_loopw [9] (fun vi wr => ∃ i : Nat, i ≤ 2 ∧ vi = .int .i64 i ∧ Hid (Below w1.heap.size w1 wr)) (fun vi _ => 2 - (intOf vi).toNat)
              case atStart => exact ⟨0, by omega, rfl, Lib.hid (Below.refl _ _)⟩
              case round =>
                obtain ⟨i, hi2, rfl, HB⟩ := hrel
                have HBw := Lib.hid (HB1.out.trans (HB.out.mono HB1.out.size))
                by_cases hil : i < 2
                · have i2 : (i : Int) < 2 := by omega
                  obtain ⟨x, hcx, hgood⟩ : ∃ x, wr.cell? ⟨w.heap.size, i, none⟩ = some (.string x) ∧ Good x := by
                    have hh := (HB.out.block _ (heap_lt HC1.out)).trans HC1.out
                    have h01 : i = 0 ∨ i = 1 := by omega
                    rcases h01 with rfl | rfl
                    · exact ⟨x0, cell_of_row wr _ 0 _ _ (0, 0) hh, HG1.out⟩
                    · exact ⟨lg, cell_of_row wr _ 1 _ _ (0, 0) hh, HG2.out⟩
                  have hxs := hgood.2.1
                  have hx0 := hgood.1
                  have HSP := Lib.hid (scan_paren x hgood)
                  have hT6 : (⟨#[40]⟩ ++ x ++ ⟨#[41]⟩ : ByteArray).size ≤ 6000 := by
                    rw [ByteArray.size_append, ByteArray.size_append]
                    have : (⟨#[40]⟩ : ByteArray).size = 1 := rfl
                    have : (⟨#[41]⟩ : ByteArray).size = 1 := rfl
                    omega
                  have HS1 := Lib.hid (scan_any _ hT6 wr mx (HM.out wr HBw.out))
                  have HWd := Lib.hid (fun W => refWord_any x hx0 (by omega) W)
                  rw [← word_order x hx0] at HWd
                  have s1 : ¬ 9223372036854775807 < 1 + x.size := by omega
                  have s2 : ¬ 9223372036854775807 < 1 + x.size + 1 := by omega
                  clear hT6 hgood
                  go_wp2_with fail
                  refine HS1.out.mono ?_
                  clear HS1
                  rintro e w2 ⟨hr, hb2⟩
                  rw [HSP.out] at hr
                  have HB2 := Lib.hid hb2
                  have hlw := lt_of_cell hcx
                  cases hwd : wordS x with
                  | none =>
                    rw [hwd] at hr HWd
                    have hr2 : e = .returned (.tuple #[.slice none 0 0, .agg #[.int .i64 1, .int .i64 2], .int .i64 10]) := hr
                    subst hr2
                    obtain ⟨W3, hW3⟩ : ∃ W3, W3 = w2.alloc (.cells #[.int .i64 1, .int .i64 2] 25) := ⟨_, rfl⟩
                    have hb3 : Below w2.heap.size w2 W3 := by rw [hW3]; exact (Below.refl _ _).alloc (Nat.le_refl _) _
                    have HB3 := Lib.hid (HB2.out.trans (hb3.mono HB2.out.size))
                    have hcx3 := (World.cell?_of_block (a := ⟨w.heap.size, i, none⟩) (HB3.out.block _ hlw)).trans hcx
                    have HW3 := Lib.hid hW3
                    clear hr hb2 hb3 hW3 hwd
                    go_upto_region 19 with fail
                    rw [← HW3.out]
                    go_wp2_with fail
                    refine (HWd.out W3).mono ?_
                    clear HWd
                    rintro e w4 ⟨he, hb4⟩
                    have he2 : e = .returned (.tuple #[.agg #[.int .i64 0, .int .i64 0, .int .i64 0, .int .i64 0, .string ⟨#[]⟩], .bool false]) := he
                    subst he2
                    have HB4 := Lib.hid (HB3.out.trans (hb4.mono HB3.out.size))
                    obtain ⟨W5, hW5⟩ : ∃ W5, W5 = w4.alloc (.cells #[.int .i64 0, .int .i64 1, .int .i64 2, .int .i64 0, .string ⟨#[]⟩] 38) := ⟨_, rfl⟩
                    have hb5 : Below w4.heap.size w4 W5 := by rw [hW5]; exact (Below.refl _ _).alloc (Nat.le_refl _) _
                    have HB5 := Lib.hid (HB4.out.trans (hb5.mono HB4.out.size))
                    have HW5 := Lib.hid hW5
                    clear he hb4 hb5 hW5
                    go_upto_region 23 with fail
                    rw [← HW5.out]
                    refine wp_region_inv_lit [.is (.bool false), .is (.bool false), .is undef, .is undef, .is undef, .is undef, .is undef, .is undef, .is undef, .is undef, .is undef, .is undef, .is undef, .is (.bool false)] (by kernel_rfl) (by kernel_rfl) ?_
                    repeat1' (refine wpInv_is ?_ ?_; (focus (intro W hW hF K hK; clear hF; go_simp; exact hK _ _ (Gl.refl _) rfl)); simp only [Act.put, List.setIfInBounds_toArray, List.set_cons_zero, List.set_cons_succ])
                    refine wpInv_end ?_
                    intro W hW hF
                    have HBW : Hid (Below w1.heap.size w1 W) := Lib.hid (HB.out.trans ((HB5.out.trans (hW.undrew.mono HB5.out.size)).mono HB.out.size))
                    clear hW hF
                    go_wp2_with fail
                    go_roundw
                    case rel => exact ⟨i + 1, by omega, by go_num, HBW⟩
                    case measure => simp [intOf]; omega
                  | some r =>
                    obtain ⟨k, n, t⟩ := r
                    rw [hwd] at hr HWd
                    obtain ⟨v, rfl, hown⟩ := hr
                    obtain ⟨va, vc, rfl⟩ := own_slice hown
                    obtain ⟨L3, hL3⟩ : ∃ L3 : List Tok, L3 = [⟨0, (1, 1), 0, ⟨#[]⟩⟩, ⟨k, (1, 2), n, t⟩, ⟨1, advs (1, 2) (bytesOf x), 0, ⟨#[]⟩⟩] := ⟨_, rfl⟩
                    rw [← hL3] at hown
                    have h3 : L3.length = 3 := by rw [hL3]; rfl
                    have h31 : L3[1]? = some ⟨k, (1, 2), n, t⟩ := by rw [hL3]; rfl
                    have HOw : Hid (w2.ownsRow (wr.heap.size + 4) 44 5 (.slice va 3 vc) L3.length (toks L3)) := Lib.hid (by have := hown; rw [h3] at this; rw [h3]; exact this)
                    have H3 := Lib.hid h3
                    have H31 := Lib.hid h31
                    obtain ⟨W3, hW3⟩ : ∃ W3, W3 = w2.alloc (.cells #[.int .i64 0, .int .i64 0] 25) := ⟨_, rfl⟩
                    have hb3 : Below w2.heap.size w2 W3 := by rw [hW3]; exact (Below.refl _ _).alloc (Nat.le_refl _) _
                    have HB3 := Lib.hid (HB2.out.trans (hb3.mono HB2.out.size))
                    have HB23 := Lib.hid hb3
                    have hcx3 := (World.cell?_of_block (a := ⟨w.heap.size, i, none⟩) (HB3.out.block _ hlw)).trans hcx
                    have HW3 := Lib.hid hW3
                    clear hb2 hb3 hW3 hwd hown hL3 h3 h31
                    go_upto_region 19 with fail
                    rw [← HW3.out]
                    go_wp2_with fail
                    refine (HWd.out W3).mono ?_
                    clear HWd
                    rintro e w4 ⟨he, hb4⟩
                    have he2 : e = .returned (.tuple #[.agg #[.int .i64 k, .int .i64 0, .int .i64 0, .int .i64 n, .string t], .bool true]) := he
                    subst he2
                    have HB24 := Lib.hid (HB23.out.trans (hb4.mono HB23.out.size))
                    have HB4 := Lib.hid (HB3.out.trans (hb4.mono HB3.out.size))
                    obtain ⟨W5, hW5⟩ : ∃ W5, W5 = w4.alloc (.cells #[.int .i64 k, .int .i64 1, .int .i64 2, .int .i64 n, .string t] 38) := ⟨_, rfl⟩
                    have hb5 : Below w4.heap.size w4 W5 := by rw [hW5]; exact (Below.refl _ _).alloc (Nat.le_refl _) _
                    have hc5 : W5.heap[w4.heap.size]? = some (.cells #[.int .i64 k, .int .i64 1, .int .i64 2, .int .i64 n, .string t] 38) := by rw [hW5]; exact heap_alloc _ _
                    have HC5 := Lib.hid hc5
                    have HB5 := Lib.hid (HB4.out.trans (hb5.mono HB4.out.size))
                    have HB25 := Lib.hid (HB24.out.trans (hb5.mono HB24.out.size))
                    have HW5 := Lib.hid hW5
                    clear he hb4 hb5 hW5 hc5
                    go_upto_region 23 with fail
                    rw [← HW5.out]
                    have HT5 : Hid (∀ W, Gl W5.drew W → W.cell? ⟨w4.heap.size, 0, none⟩ = some (.int .i64 k) ∧ W.cell? ⟨w4.heap.size, 1, none⟩ = some (.int .i64 1) ∧ W.cell? ⟨w4.heap.size, 2, none⟩ = some (.int .i64 2) ∧ W.cell? ⟨w4.heap.size, 3, none⟩ = some (.int .i64 n) ∧ W.cell? ⟨w4.heap.size, 4, none⟩ = some (.string t)) := Lib.hid (fun W hW => by
                      have hh := (hW.undrew.block _ (heap_lt HC5.out)).trans HC5.out
                      exact ⟨cell_of_row W _ 0 _ _ (0, 0) hh, cell_of_row W _ 1 _ _ (0, 0) hh, cell_of_row W _ 2 _ _ (0, 0) hh, cell_of_row W _ 3 _ _ (0, 0) hh, cell_of_row W _ 4 _ _ (0, 0) hh⟩)
                    have HFr : Hid (∀ W, Gl W5.drew W → Calls Try.prog 13 #[.slice va 3 vc] W fun e w' => ∃ v', e = .returned v' ∧ w'.ownsRow W.heap.size 38 5 v' L3.length (toks L3) ∧ Below W.heap.size W w') := Lib.hid (fun W hW =>
                      from_any W _ _ L3 (own_only HOw.out (Only.of_below (F := fun _ => False) (HB25.out.trans (hW.undrew.mono HB25.out.size))) (fun _ _ h => h)) (by rw [H3.out]; omega))
                    refine wp_region_inv_lit [.is (.bool true), .is (.bool true), .is (.slice va 3 vc), .is (.int .i64 3), .is (.bool false), .is (.bool false), .is (.slice va 3 vc), .has (RowIs L3), .has (TokAt 1 ⟨k, (1, 2), n, t⟩), .is (tokV k (1, 2) n t), .is (tokV k (1, 2) n t), .is (.bool false), .is (.bool false), .is (.bool false)] (by kernel_rfl) (by kernel_rfl) ?_
                    iterate 7 (refine wpInv_is ?_ ?_; (focus (intro W hW hF K hK; clear hF; go_simp; exact hK _ _ (Gl.refl _) rfl)); simp only [Act.put, List.setIfInBounds_toArray, List.set_cons_zero, List.set_cons_succ])
                    refine wpInv_has _ (rowIs_stable _) ?_ ?_
                    · intro W hW hF K hK
                      clear hF
                      go_simp
                      refine (HFr.out W hW).mono ?_
                      rintro e w6 ⟨v', rfl, ho, hb⟩
                      exact ⟨_, rfl, hK _ _ hb ⟨_, ho⟩⟩
                    intro v120
                    simp only [Act.put, List.setIfInBounds_toArray, List.set_cons_zero, List.set_cons_succ]
                    refine wpInv_has _ (tokAt_stable _ _) ?_ ?_
                    · intro W hW hF K hK
                      obtain ⟨base, ho⟩ := hF _ (List.mem_cons_self ..) (by kernel_rfl)
                      clear hF
                      obtain ⟨g, cap, rfl, hg, hcells⟩ := row_tok ho (by rw [H3.out]; decide)
                      have hq := hcells W rfl 1 _ H31.out
                      have HQ := Lib.hid hq
                      rw [H3.out]
                      clear ho hcells hq
                      go_simp
                      exact hK _ _ (Gl.refl _) ⟨g, rfl, HQ.out⟩
                    intro v121
                    simp only [Act.put, List.setIfInBounds_toArray, List.set_cons_zero, List.set_cons_succ]
                    refine wpInv_is ?_ ?_
                    · intro W hW hF K hK
                      obtain ⟨g, rfl, c0, c1, c2, c3, c4⟩ := hF _ (List.mem_cons_self ..) (by kernel_rfl)
                      clear hF
                      have d0 : W.cell? ⟨g, 5, none⟩ = some (.int .i64 k) := c0
                      have d1 : W.cell? ⟨g, 6, none⟩ = some (.int .i64 1) := c1
                      have d2 : W.cell? ⟨g, 7, none⟩ = some (.int .i64 2) := c2
                      have d3 : W.cell? ⟨g, 8, none⟩ = some (.int .i64 n) := c3
                      have d4 : W.cell? ⟨g, 9, none⟩ = some (.string t) := c4
                      clear c0 c1 c2 c3 c4
                      go_simp
                      exact hK _ _ (Gl.refl _) rfl
                    simp only [Act.put, List.setIfInBounds_toArray, List.set_cons_zero, List.set_cons_succ]
                    refine wpInv_is ?_ ?_
                    · intro W hW hF K hK
                      clear hF
                      obtain ⟨c0, c1, c2, c3, c4⟩ := HT5.out W hW
                      go_simp
                      exact hK _ _ (Gl.refl _) rfl
                    simp only [Act.put, List.setIfInBounds_toArray, List.set_cons_zero, List.set_cons_succ]
                    refine wpInv_is ?_ ?_
                    · intro W hW hF K hK
                      clear hF
                      simp only [tokV]
                      go_simp
                      exact hK _ _ (Gl.refl _) rfl
                    simp only [Act.put, List.setIfInBounds_toArray, List.set_cons_zero, List.set_cons_succ]
                    iterate 2 (refine wpInv_is ?_ ?_; (focus (intro W hW hF K hK; clear hF; go_simp; exact hK _ _ (Gl.refl _) rfl)); simp only [Act.put, List.setIfInBounds_toArray, List.set_cons_zero, List.set_cons_succ])
                    refine wpInv_end ?_
                    intro W hW hF
                    have HBW : Hid (Below w1.heap.size w1 W) := Lib.hid (HB.out.trans ((HB5.out.trans (hW.undrew.mono HB5.out.size)).mono HB.out.size))
                    clear hW hF
                    go_wp2_with fail
                    go_roundw
                    case rel => exact ⟨i + 1, by omega, by go_num, HBW⟩
                    case measure => simp [intOf]; omega
                · have i2 : ¬ (i : Int) < 2 := by omega
                  have HL2 := Lib.hid (lexes_any wr mx (HM.out wr HBw.out))
                  go_wp2_with fail
                  refine HL2.out.mono ?_
                  rintro e w2 ⟨rfl, hb2⟩
                  have HB2 := Lib.hid (HBw.out.trans (hb2.mono HBw.out.size))
                  clear hb2
                  go_wp2_with fail
                  go_ret
                  exact ⟨rfl, HB2.out⟩
end Go.Proofs.Ytilobcdoihfooaa
