/-
  The law LexScans.
-/
import Derived.Test.YtghddknhoiaboaaLsC
import Derived.Test.YtghddknhoiaboaaLjB
namespace Go.Proofs.Ytghddknhoiaboaa
open Go.ChangeShapes Go.WideShapes Go.ChangeAt Go.RowKit
set_option linter.unusedVariables false
set_option maxRecDepth 100000

theorem RScanP.view {w w' : World} {s : ByteArray} {e : Ending} (h : RScanP w s e w') :
    ∃ v, e = .returned (.tuple #[v, .agg #[.int .i64 ((resOf s).2.1.1 : Int), .int .i64 ((resOf s).2.1.2 : Int)], .int .i64 (resOf s).2.2]) ∧ w'.ownsRow (w.heap.size + 3) 38 5 v (resOf s).1.length (toks (resOf s).1) ∧ Below w.heap.size w w' := by
  obtain ⟨h1, h2⟩ := h
  unfold resOf
  cases hs : scanS s with
  | ok L =>
    rw [hs] at h1
    obtain ⟨v, he, ho⟩ := h1
    exact ⟨v, he, ho, h2⟩
  | bad p =>
    rw [hs] at h1
    exact ⟨_, h1, toksR_none _ _, h2⟩
set_option maxHeartbeats 4000000 in
theorem lexScans_law (s : ByteArray) (w : World) (mx : Int) (hmx : w.cell? ⟨1, 0, none⟩ = some (.int .i64 mx)) (hs : s.size ≤ maxLen) :
    Calls Try.prog 3 #[.string s] w fun e w' => e = .returned (.bool true) ∧ Below w.heap.size w w' := by
  have hlt := lt_of_cell hmx
  have HM : Hid (∀ W, Below w.heap.size w W → W.cell? ⟨1, 0, none⟩ = some (.int .i64 mx)) := Lib.hid (fun W hb => by
    rw [World.cell?_of_block (a := ⟨1, 0, none⟩) (hb.block _ hlt)]
    exact hmx)
  have HL0 := Lib.hid (lexes_any w mx hmx)
  unfold maxLen at hs
  by_cases h5 : s.size ≤ 5000
  · have i5 : ¬ (5000 : Int) < (s.size : Int) := by omega
    have HS1 := Lib.hid (scan_any s (by omega) w mx hmx)
    have HS2 := Lib.hid (fun W => refScan_any s (by omega) W)
    have hcnt := resOf_count s
    have hV1 := fun e w' (h : ScanP w s e w') => h.view
    have hV2 := fun W e w' (h : RScanP W s e w') => h.view
    generalize resOf s = r at *
    obtain ⟨L, ⟨p1, p2⟩, er⟩ := r
    dsimp only at *
    have HV1 := Lib.hid hV1
    have HV2 := Lib.hid hV2
    have hL : L.length ≤ 6000 := by omega
    clear hmx hlt HL0 hV1 hV2 hcnt
    go_enter Try.func3, Try.ntmps3
    go_wp2_with fail
    refine HS1.out.mono ?_
    clear HS1
    intro e w1 hpost
    obtain ⟨v1, rfl, hown1, hb1⟩ := HV1.out e w1 hpost
    have HO1 := Lib.hid hown1
    have HB1 := Lib.hid hb1
    clear hpost hown1 hb1 HV1
    obtain ⟨W2, hW2⟩ : ∃ W2, W2 = w1.alloc (.cells #[.int .i64 (p1 : Int), .int .i64 (p2 : Int)] 25) := ⟨_, rfl⟩
    have hb2 : Below w1.heap.size w1 W2 := by rw [hW2]; exact (Below.refl _ _).alloc (Nat.le_refl _) _
    have hc2 : W2.heap[w1.heap.size]? = some (.cells #[.int .i64 (p1 : Int), .int .i64 (p2 : Int)] 25) := by rw [hW2]; exact heap_alloc _ _
    have HB2 := Lib.hid (HB1.out.trans (hb2.mono HB1.out.size))
    have HO2 := Lib.hid (own_only HO1.out (Only.of_below (F := fun _ => False) hb2) (fun _ _ h => h))
    have HC2 := Lib.hid hc2
    have HW2 := Lib.hid hW2
    clear hb2 hc2 hW2
    go_wp2_with fail
    rw [← HW2.out]
    refine (HS2.out W2).mono ?_
    clear HS2
    intro e w3 hpost
    obtain ⟨v2, rfl, hown3, hb3⟩ := HV2.out W2 e w3 hpost
    obtain ⟨W4, hW4⟩ : ∃ W4, W4 = w3.alloc (.cells #[.int .i64 (p1 : Int), .int .i64 (p2 : Int)] 25) := ⟨_, rfl⟩
    have hb4 : Below w3.heap.size w3 W4 := by rw [hW4]; exact (Below.refl _ _).alloc (Nat.le_refl _) _
    have hc4 : W4.heap[w3.heap.size]? = some (.cells #[.int .i64 (p1 : Int), .int .i64 (p2 : Int)] 25) := by rw [hW4]; exact heap_alloc _ _
    have HB24 : Hid (Below W2.heap.size W2 W4) := Lib.hid (hb3.trans (hb4.mono hb3.size))
    have HP4 := Lib.hid (own_only hown3 (Only.of_below (F := fun _ => False) hb4) (fun _ _ h => h))
    have HC4 := Lib.hid hc4
    have HB4 := Lib.hid (HB2.out.trans (HB24.out.mono HB2.out.size))
    have HLx := Lib.hid (lexes_any W4 mx (HM.out W4 HB4.out))
    have HW4 := Lib.hid hW4
    clear hpost hown3 hb3 hb4 hc4 hW4 HV2
    go_wp2_with fail
    rw [← HW4.out]
    refine HLx.out.mono ?_
    clear HLx
    rintro e w5 ⟨rfl, hb5⟩
    have HB5 := Lib.hid hb5
    have HO5 := Lib.hid (own_only HO2.out (Only.of_below (F := fun _ => False) (HB24.out.trans (hb5.mono HB24.out.size))) (fun _ _ h => h))
    have HP5 := Lib.hid (own_only HP4.out (Only.of_below (F := fun _ => False) hb5) (fun _ _ h => h))
    have HFr := Lib.hid (from_any w5 _ v1 L HO5.out hL)
    clear hb5
    go_wp2_with fail
    refine HFr.out.mono ?_
    clear HFr
    rintro e w6 ⟨v6, rfl, hown6, hb6⟩
    have HP6 := Lib.hid (own_only HP5.out (Only.of_below (F := fun _ => False) hb6) (fun _ _ h => h))
    have HSm := Lib.hid (same_any w6 _ _ v6 v2 L hown6 HP6.out hL)
    have HB6 := Lib.hid (HB5.out.trans (hb6.mono HB5.out.size))
    clear hown6 hb6
    go_wp2_with fail
    refine HSm.out.mono ?_
    clear HSm
    rintro e w7 ⟨rfl, hb7⟩
    have HB47 := Lib.hid (HB6.out.trans (hb7.mono HB6.out.size))
    have HB7 := Lib.hid (HB4.out.trans (HB47.out.mono HB4.out.size))
    have q2 := (HB47.out.block _ (Nat.lt_of_lt_of_le (heap_lt HC2.out) HB24.out.size)).trans ((HB24.out.block _ (heap_lt HC2.out)).trans HC2.out)
    have q4 := (HB47.out.block _ (heap_lt HC4.out)).trans HC4.out
    have a0 := cell_of_row w7 w1.heap.size 0 _ _ (0, 0) q2
    have a1 := cell_of_row w7 w1.heap.size 1 _ _ (0, 0) q2
    have b0 := cell_of_row w7 w3.heap.size 0 _ _ (0, 0) q4
    have b1 := cell_of_row w7 w3.heap.size 1 _ _ (0, 0) q4
    clear hb7 q2 q4
    go_wp2_with fail
    go_ret
    exact ⟨rfl, HB7.out⟩
  · have i5 : (5000 : Int) < (s.size : Int) := by omega
    clear hmx hlt
    go_enter Try.func3, Try.ntmps3
    go_wp2_with fail
    refine HL0.out.mono ?_
    rintro e w1 ⟨rfl, hb⟩
    have HB := Lib.hid hb
    clear hb
    go_wp2_with fail
    go_ret
    exact ⟨rfl, HB.out⟩
end Go.Proofs.Ytghddknhoiaboaa
