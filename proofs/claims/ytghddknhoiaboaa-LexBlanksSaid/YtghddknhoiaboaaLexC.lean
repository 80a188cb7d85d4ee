/-
  lex: what is thrown; a digit, a byte of a string.
-/
import Derived.Test.YtghddknhoiaboaaLexB
import Derived.WalkLawsBesides
namespace Go.Proofs.Ytghddknhoiaboaa
open Go.ChangeShapes Go.WideShapes Go.ChangeAt Go.RowKit
set_option linter.unusedVariables false
set_option maxRecDepth 100000

def wrongV (l c : Nat) (er : Int) : Value := .iface 53 (.agg #[.int .i64 (l : Int), .int .i64 (c : Int), .int .i64 er])
/-- a place is thrown, with the error of a text that is no program -/
def Thrown (e : Ending) (p : Nat × Nat) : Prop := e = .panicked [{ v := wrongV p.1 p.2 10, recovered := false }]
theorem size_alloc' (w : World) (o : Obj) : (w.alloc o).heap.size = w.heap.size + 1 := by
  show (w.heap.push o).size = _
  simp
theorem cell_at0 (w : World) (cs : Array Value) (t : TypeId) (i : Nat) (v : Value) (h : cs[i]? = some v) : (w.alloc (.cells cs t)).cell? ⟨w.heap.size, i, none⟩ = some v := by
  have e : (w.alloc (.cells cs t)).heap[w.heap.size]? = some (.cells cs t (0, 0)) := by
    show (w.heap.push _)[w.heap.size]? = _
    simp
  exact (cell_of_row _ _ _ _ _ (0, 0) e).trans h
theorem syntax_any (l c : Nat) (w : World) : Calls Try.prog 37 #[.agg #[.int .i64 (l : Int), .int .i64 (c : Int)]] w fun e w' => e = .returned (.agg #[.int .i64 (l : Int), .int .i64 (c : Int), .int .i64 10]) ∧ Below w.heap.size w w' := by
  go_enter Try.func37, Try.ntmps37
  go_wp2_with fail
  exact bodyPost_ret (v := .agg #[.int .i64 (l : Int), .int .i64 (c : Int), .int .i64 10]) (by simp [results, Try.results37, go_sem]) rfl ⟨rfl, by
    have h1 : w.heap.size ≤ w.heap.size + 1 := Nat.le_succ _
    have b1 : Below w.heap.size w (w.alloc (.cells #[.int .i64 (l : Int), .int .i64 (c : Int)] 25)) := (Below.refl _ w).alloc (Nat.le_refl _) _
    exact b1.alloc (by rw [size_alloc']; exact h1) _⟩
def hexV (c : Nat) : Option Nat := if 48 ≤ c ∧ c ≤ 57 then some (c - 48) else if 97 ≤ c ∧ c ≤ 102 then some (c - 87) else none
def DigPost (w : World) (tb : Nat) (s : ByteArray) (i : Nat) (p : Nat × Nat) (e : Ending) (w' : World) : Prop :=
  ((∃ v, i < s.size ∧ hexV ((bytesOf s).getD i 0) = some v ∧ e = .returned (.int .u8 (v : Int)) ∧ TextAt w' tb s (i + 1)) ∨ ((s.size ≤ i ∨ hexV ((bytesOf s).getD i 0) = none) ∧ Thrown e p)) ∧ Only (fun k => k = tb) w w'
set_option maxHeartbeats 1000000 in
theorem digit_any (w : World) (tb : Nat) (s : ByteArray) (i : Nat) (p : Nat × Nat) (h : TextAt w tb s i) (hi : i ≤ s.size) (hs : s.size ≤ 70000) :
    Calls Try.prog 47 #[.pointer (some ⟨tb, 0, none⟩), .agg #[.int .i64 (p.1 : Int), .int .i64 (p.2 : Int)]] w (DigPost w tb s i p) := by
  obtain ⟨p1, p2⟩ := p
  dsimp only
  have hbx : Below w.heap.size w (w.alloc (.cells #[.int .i64 (p1 : Int), .int .i64 (p2 : Int)] 25)) := (Below.refl _ _).alloc (Nat.le_refl _) _
  have x0 : (w.alloc (.cells #[.int .i64 (p1 : Int), .int .i64 (p2 : Int)] 25)).cell? ⟨w.heap.size, 0, none⟩ = some (.int .i64 (p1 : Int)) := cell_at0 w _ _ 0 _ rfl
  have x1 : (w.alloc (.cells #[.int .i64 (p1 : Int), .int .i64 (p2 : Int)] 25)).cell? ⟨w.heap.size, 1, none⟩ = some (.int .i64 (p2 : Int)) := cell_at0 w _ _ 1 _ rfl
  have hsz : (w.alloc (.cells #[.int .i64 (p1 : Int), .int .i64 (p2 : Int)] 25)).heap.size = w.heap.size + 1 := size_alloc' w _
  have htb := h.lt
  have HT := Lib.hid (h.below hbx)
  obtain ⟨W0, hW0⟩ : ∃ W0, W0 = w.alloc (.cells #[.int .i64 (p1 : Int), .int .i64 (p2 : Int)] 25) := ⟨_, rfl⟩
  rw [← hW0] at hbx x0 x1 hsz HT
  have HB0 := Lib.hid hbx
  have HX := Lib.hid (And.intro x0 (And.intro x1 hsz))
  have HW0 := Lib.hid hW0
  have HM := Lib.hid (more_any W0 tb s i HT.out (by omega))
  clear h hbx x0 x1 hsz hW0
  by_cases hlt : i < s.size
  · rw [decide_eq_true hlt] at HM
    go_enter Try.func47, Try.ntmps47
    go_wp2_with fail
    rw [← HW0.out]
    refine HM.out.mono ?_
    clear HM
    rintro e w1 ⟨rfl, hb1⟩
    have HT1 := Lib.hid (HT.out.below hb1)
    have HTk := Lib.hid (take_any w1 tb s i HT1.out hlt hs)
    have HB1 := Lib.hid hb1
    have hc256 := byte_lt s i
    obtain ⟨c, hc⟩ : ∃ c, c = (bytesOf s).getD i 0 := ⟨_, rfl⟩
    rw [← hc] at HTk hc256
    have HC := Lib.hid hc
    clear hb1 hc
    go_wp2_with fail
    refine HTk.out.mono ?_
    clear HTk
    rintro e w2 ⟨rfl, ht2, ho2⟩
    have HT2 := Lib.hid ht2
    have HO2 := Lib.hid ho2
    have HOA : Hid (Only (fun k => k = tb) w w2) := Lib.hid (((Only.refl _ w).step HB0.out).trans ((Only.of_below HB1.out).trans ho2))
    have y0 : w2.cell? ⟨w.heap.size, 0, none⟩ = some (.int .i64 (p1 : Int)) := by
      rw [World.cell?_of_block (w := w1) (ho2.block w.heap.size (by have := HX.out.2.2; have := HB1.out.size; omega) (by omega))]
      exact (HB1.out.cell (p := ⟨w.heap.size, 0, none⟩) (by have := HX.out.2.2; show w.heap.size < _; omega)).trans HX.out.1
    have y1 : w2.cell? ⟨w.heap.size, 1, none⟩ = some (.int .i64 (p2 : Int)) := by
      rw [World.cell?_of_block (w := w1) (ho2.block w.heap.size (by have := HX.out.2.2; have := HB1.out.size; omega) (by omega))]
      exact (HB1.out.cell (p := ⟨w.heap.size, 1, none⟩) (by have := HX.out.2.2; show w.heap.size < _; omega)).trans HX.out.2.1
    clear ht2 ho2
    by_cases h1 : 48 ≤ c ∧ c ≤ 57
    · have a1 : (48 : Int) ≤ (c : Int) := by omega
      have a2 : (c : Int) ≤ 57 := by omega
      have hv : hexV ((bytesOf s).getD i 0) = some (c - 48) := by rw [← HC.out]; exact if_pos h1
      have e1 : ((c - 48 : Nat) : Int) = (c : Int) - 48 := by omega
      have HV := Lib.hid (And.intro hv e1)
      clear hv e1
      go_wp2_with fail
      go_ret
      refine ⟨.inl ⟨c - 48, hlt, HV.out.1, ?_, HT2.out⟩, HOA.out⟩
      rw [HV.out.2]
      rfl
    · by_cases h2 : 97 ≤ c ∧ c ≤ 102
      · have a1 : (97 : Int) ≤ (c : Int) := by omega
        have a2 : (c : Int) ≤ 102 := by omega
        have a3 : ¬ (c : Int) ≤ 57 := by omega
        have a4 : (48 : Int) ≤ (c : Int) := by omega
        have hv : hexV ((bytesOf s).getD i 0) = some (c - 87) := by
          rw [← HC.out]
          unfold hexV
          rw [if_neg h1, if_pos h2]
        have e1 : ((c - 87 : Nat) : Int) = (c : Int) - 97 + 10 := by omega
        have HV := Lib.hid (And.intro hv e1)
        clear hv e1 h1
        go_wp2_with fail
        go_ret
        refine ⟨.inl ⟨c - 87, hlt, HV.out.1, ?_, HT2.out⟩, HOA.out⟩
        rw [HV.out.2]
        rfl
      · have hv : hexV ((bytesOf s).getD i 0) = none := by
          rw [← HC.out]
          unfold hexV
          rw [if_neg h1, if_neg h2]
        have HV := Lib.hid hv
        have HSy := Lib.hid (syntax_any p1 p2 w2)
        clear hv
        have hcase : c < 48 ∨ (57 < c ∧ c < 97) ∨ 102 < c := by omega
        clear h1 h2
        rcases hcase with g | g | g
        all_goals
          go_wp2_with fail
          refine HSy.out.mono ?_
          rintro e w3 ⟨rfl, hb3⟩
          have HO3 := Lib.hid (HOA.out.step hb3)
          clear hb3
          go_wp2_with fail
          exact ⟨rfl, .inr ⟨.inr HV.out, rfl⟩, HO3.out⟩
  · rw [decide_eq_false hlt] at HM
    have hle : s.size ≤ i := by omega
    go_enter Try.func47, Try.ntmps47
    go_wp2_with fail
    rw [← HW0.out]
    refine HM.out.mono ?_
    clear HM
    rintro e w1 ⟨rfl, hb1⟩
    have HOA : Hid (Only (fun k => k = tb) w w1) := Lib.hid (((Only.refl _ w).step HB0.out).step hb1)
    have y0 := (hb1.cell (p := ⟨w.heap.size, 0, none⟩) (by have := HX.out.2.2; show w.heap.size < _; omega)).trans HX.out.1
    have y1 := (hb1.cell (p := ⟨w.heap.size, 1, none⟩) (by have := HX.out.2.2; show w.heap.size < _; omega)).trans HX.out.2.1
    have HSy := Lib.hid (syntax_any p1 p2 w1)
    clear hb1
    go_wp2_with fail
    refine HSy.out.mono ?_
    rintro e w3 ⟨rfl, hb3⟩
    have HO3 := Lib.hid (HOA.out.step hb3)
    clear hb3
    go_wp2_with fail
    exact ⟨rfl, .inr ⟨.inl hle, rfl⟩, HO3.out⟩
end Go.Proofs.Ytghddknhoiaboaa
