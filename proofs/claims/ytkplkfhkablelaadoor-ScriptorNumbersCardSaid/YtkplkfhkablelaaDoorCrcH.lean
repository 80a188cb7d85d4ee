/-
  The contracts of crc.Close and crc.Open.
-/
import Derived.Test.YtkplkfhkablelaaDoorCrcG
import Derived.Deep.QuietTactic
import Derived.BigQuiet
namespace Go.Proofs.YtkplkfhkablelaaDoor
open Go.ChangeShapes Go.WideShapes Go.ChangeAt Go.RowKit
set_option linter.unusedVariables false

def four (s : Nat) : List Nat := [s % 256, s / 256 % 256, s / 65536 % 256, s / 16777216]
theorem four_lt (s : Nat) (hs : s < 4294967296) : ∀ c ∈ four s, c < 256 := by
  intro c hc
  simp only [four, List.mem_cons, List.mem_nil_iff, or_false] at hc
  rcases hc with rfl | rfl | rfl | rfl <;> omega

/-- what an append of these bytes reads -/
def Src (w : World) (x : Addr) (l : List Nat) : Prop := ∀ W, Below w.heap.size w W → ∀ (j : Nat) (u : Value), (vals l)[j]? = some u → W.cell? (x.add j) = some u
theorem Src.of {w : World} {x : Addr} {n : Nat} {l : List Nat} (h : ByteRow w (some x) n l) : Src w x l := by
  intro W hb j u hj
  by_cases h0 : 0 < n
  · obtain ⟨b, o, e, _⟩ := h.2.2.2 h0
    cases e
    exact src_cells (h.below hb) h0 j u hj
  · have e : l = [] := List.eq_nil_of_length_eq_zero (by rw [h.1]; omega)
    subst e
    simp [vals] at hj

theorem ownsRow_alloc {w : World} {base n : Nat} {v : Value} {xs : List Value} (h : w.ownsRow base 5 1 v n xs) (o : Obj) : (w.alloc o).ownsRow base 5 1 v n xs := h.alloc o
theorem owns_made (w : World) (base g n : Nat) (hn : n ≤ maxLen) (hb : base ≤ w.heap.size) (hg : g = w.heap.size) : (w.alloc (.cells (madeCells #[.int .u8 0] n) 5)).ownsRow base 5 1 (.slice (some ⟨g, 0, none⟩) 0 n) 0 (vals []) := by
  subst hg
  refine ⟨rfl, .inr ⟨w.heap.size, n, madeCells #[.int .u8 0] n, rfl, hb, ?_, Nat.zero_le _, hn, ?_, rfl⟩⟩
  · show (w.heap.push _)[w.heap.size]? = _
    simp
  · simp [madeCells]

set_option maxRecDepth 100000 in
set_option maxHeartbeats 1000000 in
theorem close_some (x : Addr) (n cap : Nat) (l : List Nat) (w : World) (hr : ByteRow w (some x) n l) (hn : n ≤ 3000) (ht : Tab w) :
    Calls Tryd.prog 14 #[.slice (some x) n cap] w fun e w' => ∃ g cap2, e = .returned (.slice (some ⟨g, 0, none⟩) (n + 4) cap2) ∧ Mine w' w.heap.size g (n + 4) cap2 (l ++ four (sum l)) ∧ Below w.heap.size w w' := by
  obtain ⟨i0, hi, hz0, hz1, hz2⟩ := info_parts info5
  have hmk : ∀ u : World, (Instr.makeSlice 22 (.int .i64 0) (.int .i64 ((n : Int) + 4))).run Tryd.prog u =
      .ok (.slice (some ⟨u.heap.size, 0, none⟩) 0 (n + 4)) (u.alloc (.cells (madeCells #[.int .u8 0] (n + 4)) 5)) := fun u => by
    have h := run_make (P := Tryd.prog) u 22 5 i0 (.int .u8 0) Tryd.underlying22 hi hz0 .i64 .i64 0 ((n : Int) + 4) (by omega) (by omega) (by rw [hz2]; omega) (by omega)
    have e : ((n : Int) + 4).toNat = n + 4 := by omega
    rw [e] at h
    simpa [hz1, Value.cells] using h
  have hs1 := sum_one w.heap.size 1 (some x) n cap l (w.alloc (.cells #[.slice (some x) n cap] 22)) (cell_at0 _ _ _ _ _ rfl) (hr.below ((Below.refl _ _).alloc (Nat.le_refl _) _)) (ht.alloc _)
  have hsl : sum l < 4294967296 := more_lt _ _ (by decide) hr.2.2.1
  have HS := Lib.hid hs1
  have HR := Lib.hid hr
  have HX := Lib.hid (Src.of hr)
  clear hs1 hr ht
  generalize hS : sum l = S at *
  have HS0 := Lib.hid hS
  clear hS
  go_enter Tryd.func14, Tryd.ntmps14
  go_wp2_with (first | (go_at_call 12; refine HS.out.mono ?_; rintro e w' ⟨rfl, rfl⟩) | (at_builtin; refine wpList_append_own _ rfl (.tmp 12) (.tmp 13) 22 rfl w.heap.size 5 i0 (.int .u8 0) 1 1 Tryd.underlying22 hi hz0 hz1 hz2 rfl (by decide) (.slice (some ⟨w.heap.size + 1, 0, none⟩) 0 (n + 4)) 0 (vals []) rfl (owns_made _ _ _ _ ?c0 ?c7 ?c8) x n cap (vals l) rfl ?c1 ?c2 ?c3 ?c4 ?c5 ?c6 ?_))
  case c0 => unfold maxLen; omega
  case c7 => simp
  case c8 => simp
  case c1 => rw [vals_length, HR.out.1]; omega
  case c2 => exact HX.out _ (((Below.refl _ _).alloc (Nat.le_refl _) _).alloc (by simp) _)
  case c3 => exact vals_one l
  case c4 => unfold maxLen; omega
  case c5 => omega
  case c6 => simp; omega
  intro v1 w1 hown hgrow hnil
  have bel : Below w.heap.size w w1 := (((Below.refl _ _).alloc (Nat.le_refl _) _).alloc (by simp) _).grown hgrow (by simp; omega) (fun k hk => by cases hk; simp)
  have hv1 : v1 ≠ .slice none 0 0 := hnil
  have hown1 : w1.ownsRow w.heap.size 5 1 v1 n (vals l) := hown
  obtain ⟨g1, cap1, rfl, hM1⟩ := Mine.of hown1 hv1 HR.out.2.2.1
  have HO := Lib.hid hown1
  have HM := Lib.hid hM1
  have HL := Lib.hid bel
  clear hown hgrow hnil hv1 hown1 hM1 bel
  have hsz : w.heap.size ≤ w1.heap.size := HL.out.size
  go_wp2_with (at_builtin; refine wpList_append_own _ rfl (.tmp 15) (.tmp 27) 22 rfl w.heap.size 5 i0 (.int .u8 0) 1 1 Tryd.underlying22 hi hz0 hz1 hz2 rfl (by decide) (.slice (some ⟨g1, 0, none⟩) n cap1) n (vals l) rfl (ownsRow_alloc HO.out _) ⟨w1.heap.size, 0, none⟩ 4 4 (vals (four S)) rfl ?d1 ?d2 ?d3 ?d4 ?d5 ?d6 ?_)
  case d1 => rfl
  case d2 =>
    intro j u hj
    have hj4 : j < 4 := by
      rcases Nat.lt_or_ge j 4 with h | h
      · exact h
      · rw [List.getElem?_eq_none (by exact h)] at hj; cases hj
    rw [addr_add, Nat.zero_add]
    have e : j = 0 ∨ j = 1 ∨ j = 2 ∨ j = 3 := by omega
    rcases e with rfl | rfl | rfl | rfl <;> (rw [← hj]; exact cell_at0 _ _ _ _ _ rfl)
  case d3 => exact vals_one _
  case d4 => unfold maxLen; omega
  case d5 => omega
  case d6 => simp; omega
  intro v2 w2 hown hgrow hnil
  have bel : Below w.heap.size w w2 := (Below.alloc' HL.out _).grown hgrow (by simp; omega) (fun k hk => by cases hk; exact HM.out.1)
  obtain ⟨g2, cap2, rfl, hM2⟩ := Mine.of (l := l ++ four S) (by rw [vals_append]; exact hown) (by simpa using hnil) (by
    intro c hc
    rcases List.mem_append.1 hc with hc | hc
    · exact HR.out.2.2.1 c hc
    · exact four_lt S hsl c hc)
  have HM2 := Lib.hid hM2
  have HL2 := Lib.hid bel
  clear hown hgrow hnil hM2 bel
  go_wp2_with fail
  go_ret
  exact ⟨g2, cap2, rfl, HM2.out, HL2.out⟩

set_option maxRecDepth 100000 in
set_option maxHeartbeats 1000000 in
theorem close_none (w : World) (ht : Tab w) :
    Calls Tryd.prog 14 #[.slice none 0 0] w fun e w' => ∃ g cap2, e = .returned (.slice (some ⟨g, 0, none⟩) 4 cap2) ∧ Mine w' w.heap.size g 4 cap2 (four (sum [])) ∧ Below w.heap.size w w' := by
  obtain ⟨i0, hi, hz0, hz1, hz2⟩ := info_parts info5
  have hmk : ∀ u : World, (Instr.makeSlice 22 (.int .i64 0) (.int .i64 4)).run Tryd.prog u =
      .ok (.slice (some ⟨u.heap.size, 0, none⟩) 0 4) (u.alloc (.cells (madeCells #[.int .u8 0] 4) 5)) := fun u => by
    have h := run_make (P := Tryd.prog) u 22 5 i0 (.int .u8 0) Tryd.underlying22 hi hz0 .i64 .i64 0 4 (by omega) (by omega) (by rw [hz2]; omega) (by omega)
    simpa [hz1, Value.cells] using h
  have hs1 := sum_one w.heap.size 1 none 0 0 [] (w.alloc (.cells #[.slice none 0 0] 22)) (cell_at0 _ _ _ _ _ rfl) (ByteRow.nil _ _) (ht.alloc _)
  have hsl : sum [] < 4294967296 := by decide
  have HS := Lib.hid hs1
  clear hs1 ht
  generalize hS : sum [] = S at *
  have HS0 := Lib.hid hS
  clear hS
  go_enter Tryd.func14, Tryd.ntmps14
  go_wp2_with (first | (go_at_call 12; refine HS.out.mono ?_; rintro e w' ⟨rfl, rfl⟩) | (at_builtin; refine wpList_append_own_none rfl (.tmp 12) (.tmp 13) 22 rfl w.heap.size 5 i0 1 Tryd.underlying22 hi (.slice (some ⟨w.heap.size + 1, 0, none⟩) 0 4) 0 (vals []) rfl (owns_made _ _ _ _ ?c0 ?c7 ?c8) rfl ?_) | (at_builtin; refine wpList_append_own _ rfl (.tmp 15) (.tmp 27) 22 rfl w.heap.size 5 i0 (.int .u8 0) 1 1 Tryd.underlying22 hi hz0 hz1 hz2 rfl (by decide) (.slice (some ⟨w.heap.size + 1, 0, none⟩) 0 4) 0 (vals []) rfl (ownsRow_alloc (owns_made _ _ _ _ ?e0 ?e7 ?e8) _) ⟨w.heap.size + 1 + 1, 0, none⟩ 4 4 (vals (four S)) rfl ?d1 ?d2 ?d3 ?d4 ?d5 ?d6 ?_))
  case c0 => unfold maxLen; omega
  case c7 => simp
  case c8 => simp
  case e0 => unfold maxLen; omega
  case e7 => simp
  case e8 => simp
  case d1 => rfl
  case d2 =>
    intro j u hj
    have hj4 : j < 4 := by
      rcases Nat.lt_or_ge j 4 with h | h
      · exact h
      · rw [List.getElem?_eq_none (by exact h)] at hj; cases hj
    rw [addr_add, Nat.zero_add]
    have e : j = 0 ∨ j = 1 ∨ j = 2 ∨ j = 3 := by omega
    rcases e with rfl | rfl | rfl | rfl <;> (rw [← hj]; exact cell_at2 _ _ _ _ _ _ _ rfl)
  case d3 => exact vals_one _
  case d4 => unfold maxLen; omega
  case d5 => omega
  case d6 => simp; omega
  intro v2 w2 hown hgrow hnil
  have bel : Below w.heap.size w w2 := (Below.alloc' (Below.alloc' (Below.alloc' (Below.refl _ _) _) _) _).grown hgrow (by simp; omega) (fun k hk => by cases hk; exact Nat.le_succ _)
  obtain ⟨g2, cap2, rfl, hM2⟩ := Mine.of (l := four S) hown (by simpa using hnil) (four_lt S hsl)
  have HM2 := Lib.hid hM2
  have HL2 := Lib.hid bel
  clear hown hgrow hnil hM2 bel
  go_wp2_with fail
  go_ret
  exact ⟨g2, cap2, rfl, HM2.out, HL2.out⟩

end Go.Proofs.YtkplkfhkablelaaDoor
