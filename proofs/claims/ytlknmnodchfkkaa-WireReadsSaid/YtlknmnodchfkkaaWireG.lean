/-
  The law WireWrites.
-/
import Derived.Test.YtlknmnodchfkkaaWireF
import Derived.Deep.RegionHeldLaw
namespace Go.Proofs.Ytlknmnodchfkkaa
open Go.ChangeShapes Go.WideShapes Go.ChangeAt Go.RowKit
set_option linter.unusedVariables false

/-- a slice that reads as these bytes, and goes on to -/
def Txt (W : World) (g len cap : Nat) (l : List Nat) : Prop := W.ownsRow 0 5 1 (.slice (some ⟨g, 0, none⟩) len cap) l.length (vals l)

theorem Txt.conv {W : World} {g len cap : Nat} {l : List Nat} (h : Txt W g len cap l) :
    (convert 23 9 (.slice (some ⟨g, 0, none⟩) len cap)).run Try.prog W = .ok (.string (bstr l)) W := by
  obtain ⟨g', cap', h1, h2⟩ := str_of_own (base := 0) h (by simp)
  exact h2

theorem Txt.later {W w' : World} {g len cap : Nat} {l : List Nat} (h : Txt W g len cap l) (b : Below W.heap.size W w') : Txt w' g len cap l := by
  obtain ⟨h1, h2⟩ := h
  refine ⟨h1, ?_⟩
  rcases h2 with ⟨h2, _⟩ | ⟨g', cap', cur, hv, hb, hh, r⟩
  · cases h2
  · have hlt : g' < W.heap.size := by
      rcases Nat.lt_or_ge g' W.heap.size with h | h
      · exact h
      · rw [Array.getElem?_eq_none h] at hh
        cases hh
    exact .inr ⟨g', cap', cur, hv, hb, by rw [b.block g' hlt]; exact hh, r⟩

theorem Txt.of {w' : World} {base : Nat} {v : Value} {l : List Nat} (ho : w'.ownsRow base 5 1 v l.length (vals l)) (hn : v ≠ .slice none 0 0) :
    ∃ g len cap, v = .slice (some ⟨g, 0, none⟩) len cap ∧ Txt w' g len cap l := by
  obtain ⟨h1, h2⟩ := ho
  rcases h2 with ⟨h2, _⟩ | ⟨g, cap, cur, rfl, hb, r⟩
  · exact absurd h2 hn
  · exact ⟨g, _, cap, rfl, h1, .inr ⟨g, cap, cur, rfl, Nat.zero_le _, r⟩⟩

theorem num_txt (n : Int) (h1 : -9223372036854775808 ≤ n) (h2 : n ≤ 9223372036854775807) (w W : World) (b : Below w.heap.size w W) :
    Calls Try.prog 9 #[.int .i64 n] W fun e w' => ∃ g len cap, e = .returned (.slice (some ⟨g, 0, none⟩) len cap) ∧ Hid (Txt w' g len cap (code n)) ∧ Below w.heap.size w w' ∧ (convert 23 9 (.slice (some ⟨g, 0, none⟩) len cap)).run Try.prog w' = .ok (.string (bstr (code n))) w' := by
  refine (num_any n h1 h2 W).mono ?_
  rintro e w' ⟨v, rfl, ho, hn, hb⟩
  obtain ⟨g, len, cap, rfl, ht⟩ := Txt.of ho hn
  exact ⟨g, len, cap, rfl, ht, Below.step hb b, ht.conv⟩
theorem str_txt (s : ByteArray) (hs : s.size < 70368744177664) (w W : World) (b : Below w.heap.size w W) :
    Calls Try.prog 11 #[.string s] W fun e w' => ∃ g len cap, e = .returned (.slice (some ⟨g, 0, none⟩) len cap) ∧ Hid (Txt w' g len cap (code s.size ++ bytesOf s)) ∧ Below w.heap.size w w' ∧ (convert 23 9 (.slice (some ⟨g, 0, none⟩) len cap)).run Try.prog w' = .ok (.string (bstr (code s.size ++ bytesOf s))) w' := by
  refine (str_any s hs W).mono ?_
  rintro e w' ⟨v, rfl, ho, hn, hb⟩
  obtain ⟨g, len, cap, rfl, ht⟩ := Txt.of ho hn
  exact ⟨g, len, cap, rfl, ht, Below.step hb b, ht.conv⟩
theorem refNum_txt (n : Int) (h1 : -9223372036854775808 ≤ n) (h2 : n ≤ 9223372036854775807) (w W : World) (b : Below w.heap.size w W) :
    Calls Try.prog 10 #[.int .i64 n] W fun e w' => e = .returned (.string (bstr (code n))) ∧ Below w.heap.size w w' ∧ Hid (∀ g len cap l, Txt W g len cap l → Txt w' g len cap l) := by
  refine (refNum_any n h1 h2 W).mono ?_
  rintro e w' ⟨rfl, hb⟩
  exact ⟨rfl, Below.step hb b, fun g len cap l h => h.later hb⟩
theorem refStr_txt (s : ByteArray) (hs : s.size < 70368744177664) (w W : World) (b : Below w.heap.size w W) :
    Calls Try.prog 12 #[.string s] W fun e w' => e = .returned (.string (bstr (code s.size ++ bytesOf s))) ∧ Below w.heap.size w w' ∧ Hid (∀ g len cap l, Txt W g len cap l → Txt w' g len cap l) := by
  refine (refStr_any s hs W).mono ?_
  rintro e w' ⟨rfl, hb⟩
  exact ⟨rfl, Below.step hb b, fun g len cap l h => h.later hb⟩
theorem wires_txt (w W : World) (b : Below w.heap.size w W) :
    Calls Try.prog 8 #[] W fun e w' => e = .returned (.bool true) ∧ Below w.heap.size w w' :=
  (wires_any W).mono fun e w' ⟨he, hb⟩ => ⟨he, Below.step hb b⟩

set_option maxRecDepth 100000 in
set_option maxHeartbeats 2000000 in
theorem writes_main (n : Int) (s : ByteArray) (h1 : -9223372036854775808 ≤ n) (h2 : n ≤ 9223372036854775807) (hs : s.size ≤ 3000) (w : World) :
    Calls Try.prog 3 #[.int .i64 n, .string s] w fun e w' => e = .returned (.bool true) ∧ Below w.heap.size w w' := by
  have H0 := Lib.hid (wires_txt w)
  have H1 := Lib.hid (num_txt n h1 h2 w)
  have H2 := Lib.hid (refNum_txt n h1 h2 w)
  have H3 := Lib.hid (str_txt s (by omega) w)
  have H4 := Lib.hid (refStr_txt s (by omega) w)
  go_enter Try.func3, Try.ntmps3
  go_wp2
  have b0 := Below.refl w.heap.size w
  go_region_held_law (fun w' => Below w.heap.size w w') (with_reducible first | assumption | exact Below.drew (by assumption)) (first
    | (go_at_call 8; with_reducible refine (H0.out _ (by assumption)).mono ?_; rintro e w1 ⟨rfl, b1⟩)
    | (go_at_call 9; with_reducible refine (H1.out _ (by assumption)).mono ?_; rintro e w1 ⟨g1, len1, cap1, rfl, T1, b1, c1⟩)
    | (go_at_call 10; with_reducible refine (H2.out _ (by assumption)).mono ?_; rintro e w1 ⟨rfl, b1, K1⟩; have c2 := (K1.out _ _ _ _ T1.out).conv; have T2 := K1.out _ _ _ _ T1.out)
    | (go_at_call 11; with_reducible refine (H3.out _ (by assumption)).mono ?_; rintro e w1 ⟨g3, len3, cap3, rfl, T3, b1, c3⟩)
    | (go_at_call 12; with_reducible refine (H4.out _ (by assumption)).mono ?_; rintro e w1 ⟨rfl, b1, K3⟩; have c4 := (K3.out _ _ _ _ T3.out).conv))
  all_goals go_wp2
  all_goals go_ret
  all_goals exact ⟨rfl, by assumption⟩

theorem wireWrites_law (n : Int) (s : ByteArray) (w0 : (Lit.int .i64 n).wf = true) (w1 : s.size ≤ maxLen) (w : World) :
    Calls Try.prog 3 #[.int .i64 n, .string s] w fun e w' => e = .returned (.bool true) ∧ Below w.heap.size w w' := by
  have hb : -9223372036854775808 ≤ n ∧ n ≤ 9223372036854775807 := by
    simp [Lit.wf, IntKind.min, IntKind.max, IntKind.signed, IntKind.bits] at w0
    omega
  by_cases hs : s.size ≤ 3000
  · exact writes_main n s hb.1 hb.2 hs w
  · go_enter Try.func3, Try.ntmps3
    go_wp2_with (go_at_call 8; refine (wires_any _).mono ?_; rintro e w1 ⟨rfl, hb⟩; have HB1 := Lib.hid hb; clear hb)
    go_ret
    exact ⟨rfl, HB1.out⟩

end Go.Proofs.Ytlknmnodchfkkaa
