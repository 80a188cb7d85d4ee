/-
  lex: a text that is read byte by byte: see, more, take.
-/
import Derived.Test.YtghddknhoiaboaaRdE
import Derived.Below
import Derived.Laws.OwnMore
namespace Go.Proofs.Ytghddknhoiaboaa
open Go.ChangeShapes Go.WideShapes Go.ChangeAt Go.RowKit
set_option linter.unusedVariables false
set_option maxRecDepth 100000

def adv (c : Nat) (p : Nat × Nat) : Nat × Nat := if c = 10 then (p.1 + 1, 1) else (p.1, p.2 + 1)
/-- the place of byte i -/
def posAt (l : List Nat) (i : Nat) : Nat × Nat := (l.take i).foldl (fun p c => adv c p) (1, 1)
theorem posAt_succ (l : List Nat) (i : Nat) (h : i < l.length) : posAt l (i + 1) = adv (l.getD i 0) (posAt l i) := by
  unfold posAt
  rw [List.take_succ_eq_append_getElem h, List.foldl_append, List.getD_eq_getElem?_getD, List.getElem?_eq_getElem h]
  rfl
theorem posAt_le (l : List Nat) : ∀ i, 1 ≤ (posAt l i).1 ∧ (posAt l i).1 ≤ i + 1 ∧ 1 ≤ (posAt l i).2 ∧ (posAt l i).2 ≤ i + 1
  | 0 => ⟨Nat.le_refl _, Nat.le_refl _, Nat.le_refl _, Nat.le_refl _⟩
  | i + 1 => by
    have h := posAt_le l i
    by_cases g : i < l.length
    · rw [posAt_succ l i g]
      unfold adv
      split <;> (dsimp only; omega)
    · have e : posAt l (i + 1) = posAt l i := by
        unfold posAt
        rw [List.take_of_length_le (by omega), List.take_of_length_le (by omega)]
      rw [e]; omega
/-- a text, read up to byte i -/
def TextAt (w : World) (tb : Nat) (s : ByteArray) (i : Nat) : Prop :=
  w.heap[tb]? = some (.cells #[.string s, .int .i64 (i : Int), .int .i64 ((posAt (bytesOf s) i).1 : Int), .int .i64 ((posAt (bytesOf s) i).2 : Int)] 55)
structure Only (F : Nat → Prop) (w w' : World) : Prop where
  os : w'.os = w.os
  tape : w'.tape = w.tape
  output : w'.output = w.output
  size : w.heap.size ≤ w'.heap.size
  block : ∀ k, k < w.heap.size → ¬ F k → w'.heap[k]? = w.heap[k]?
theorem Only.refl (F : Nat → Prop) (w : World) : Only F w w := ⟨rfl, rfl, rfl, Nat.le_refl _, fun _ _ _ => rfl⟩
theorem Only.trans {F : Nat → Prop} {a b c : World} (h : Only F a b) (k : Only F b c) : Only F a c :=
  ⟨k.os.trans h.os, k.tape.trans h.tape, k.output.trans h.output, Nat.le_trans h.size k.size, fun j hj hF => (k.block j (Nat.lt_of_lt_of_le hj h.size) hF).trans (h.block j hj hF)⟩
theorem Only.of_below {F : Nat → Prop} {w w' : World} (h : Below w.heap.size w w') : Only F w w' := ⟨h.os, h.tape, h.output, h.size, fun j hj _ => h.block j hj⟩
theorem Only.setCell {F : Nat → Prop} {a w : World} (h : Only F a w) {p : Addr} (hp : F p.block) (u : Value) : Only F a (w.setCell p u) :=
  ⟨h.os, h.tape, h.output, by simp only [World.setCell, Array.size_modify]; exact h.size, fun j hj hF => (Below.heap_setCell w p u j (fun e => hF (e ▸ hp))).trans (h.block j hj hF)⟩
theorem Only.below {F : Nat → Prop} {w w' : World} {B : Nat} (h : Only F w w') (hB : B ≤ w.heap.size) (hF : ∀ k, F k → B ≤ k) : Below B w w' :=
  ⟨h.os, h.tape, h.output, h.size, fun k hk => h.block k (Nat.lt_of_lt_of_le hk hB) (fun g => by have := hF k g; omega)⟩
theorem Only.mono {F G : Nat → Prop} {w w' : World} (h : Only F w w') (hF : ∀ k, F k → G k) : Only G w w' := ⟨h.os, h.tape, h.output, h.size, fun j hj hG => h.block j hj (fun g => hG (hF j g))⟩
theorem TextAt.lt {w : World} {tb : Nat} {s : ByteArray} {i : Nat} (h : TextAt w tb s i) : tb < w.heap.size := by
  unfold TextAt at h
  rcases Nat.lt_or_ge tb w.heap.size with g | g
  · exact g
  · rw [Array.getElem?_eq_none g] at h; cases h
theorem TextAt.below {w w' : World} {tb : Nat} {s : ByteArray} {i : Nat} (h : TextAt w tb s i) (hb : Below w.heap.size w w') : TextAt w' tb s i := by
  have hl := h.lt
  unfold TextAt at *
  rw [hb.block tb hl]
  exact h
theorem TextAt.cells {w : World} {tb : Nat} {s : ByteArray} {i : Nat} (h : TextAt w tb s i) : w.cell? ⟨tb, 0, none⟩ = some (.string s) ∧ w.cell? ⟨tb, 1, none⟩ = some (.int .i64 (i : Int)) ∧ w.cell? ⟨tb, 2, none⟩ = some (.int .i64 ((posAt (bytesOf s) i).1 : Int)) ∧ w.cell? ⟨tb, 3, none⟩ = some (.int .i64 ((posAt (bytesOf s) i).2 : Int)) ∧ ∀ k, w.frozen? ⟨tb, k, none⟩ = false := by
  unfold TextAt at h
  exact ⟨cell_of_row w tb 0 _ _ (0, 0) h, cell_of_row w tb 1 _ _ (0, 0) h, cell_of_row w tb 2 _ _ (0, 0) h, cell_of_row w tb 3 _ _ (0, 0) h, fun k => frozen_of_row w tb k _ _ h⟩
theorem Below.step {w w1 w2 : World} {B : Nat} (h : Below w1.heap.size w1 w2) (k : Below B w w1) (hB : B ≤ w1.heap.size) : Below B w w2 := k.trans (h.mono hB)
theorem see_any (w : World) (tb : Nat) (s : ByteArray) (i : Nat) (h : TextAt w tb s i) (hi : i < s.size) (hs : s.size ≤ 9223372036854775807) :
    Calls Try.prog 31 #[.pointer (some ⟨tb, 0, none⟩)] w fun e w' => e = .returned (.int .u8 (((bytesOf s).getD i 0 : Nat) : Int)) ∧ Below w.heap.size w w' := by
  have HC : Hid (∀ W, Gl w.drew W → W.cell? ⟨tb, 0, none⟩ = some (.string s) ∧ W.cell? ⟨tb, 1, none⟩ = some (.int .i64 (i : Int))) := Lib.hid (fun W hW => by
    have h := (h.below hW.undrew).cells
    exact ⟨h.1, h.2.1⟩)
  have hix := fun W => idx_str s i hi hs W
  generalize (bytesOf s).getD i 0 = b at *
  clear h
  go_enter Try.func31, Try.ntmps31
  go_wp2_with fail
  refine wp_region_inv_lit [.is (.pointer (some ⟨tb, 0, none⟩)), .is (.pointer (some ⟨tb, 0, none⟩)), .is (.pointer (some ⟨tb, 0, none⟩)), .is (.string s), .is (.pointer (some ⟨tb, 0, none⟩)), .is (.pointer (some ⟨tb, 0, none⟩)), .is (.pointer (some ⟨tb, 1, none⟩)), .is (.int .i64 (i : Int)), .is (.int .u8 (b : Int)), .is (.int .u8 (b : Int))] (by kernel_rfl) (by kernel_rfl) ?_
  repeat1' (refine wpInv_is ?_ ?_; (focus (intro W hW hF K hK; clear hF; obtain ⟨d0, d1⟩ := HC.out W hW; go_simp; exact hK _ _ (Gl.refl _) rfl)); simp only [Act.put, List.setIfInBounds_toArray, List.set_cons_zero, List.set_cons_succ])
  refine wpInv_end ?_
  intro W hW hF
  have HB := Lib.hid hW.undrew
  clear hW hF
  go_wp2_with fail
  go_ret
  exact ⟨rfl, HB.out⟩
theorem more_any (w : World) (tb : Nat) (s : ByteArray) (i : Nat) (h : TextAt w tb s i) (hs : s.size ≤ 9223372036854775807) :
    Calls Try.prog 19 #[.pointer (some ⟨tb, 0, none⟩)] w fun e w' => e = .returned (.bool (decide (i < s.size))) ∧ Below w.heap.size w w' := by
  have HC : Hid (∀ W, Gl w.drew W → W.cell? ⟨tb, 0, none⟩ = some (.string s) ∧ W.cell? ⟨tb, 1, none⟩ = some (.int .i64 (i : Int))) := Lib.hid (fun W hW => by
    have h := (h.below hW.undrew).cells
    exact ⟨h.1, h.2.1⟩)
  clear h
  obtain ⟨b, hb⟩ : ∃ b, b = decide (i < s.size) := ⟨_, rfl⟩
  have hbi : decide ((i : Int) < (s.size : Int)) = b := by rw [hb]; exact decide_eq_decide.2 (by omega)
  rw [← hb]
  have hbn : decide (i < s.size) = b := hb.symm
  clear hb
  go_enter Try.func19, Try.ntmps19
  go_wp2_with fail
  refine wp_region_inv_lit [.is (.pointer (some ⟨tb, 0, none⟩)), .is (.pointer (some ⟨tb, 0, none⟩)), .is (.pointer (some ⟨tb, 1, none⟩)), .is (.int .i64 (i : Int)), .is (.pointer (some ⟨tb, 0, none⟩)), .is (.pointer (some ⟨tb, 0, none⟩)), .is (.pointer (some ⟨tb, 0, none⟩)), .is (.string s), .is (.int .i64 (s.size : Int)), .is (.bool b), .is (.bool b)] (by kernel_rfl) (by kernel_rfl) ?_
  repeat1' (refine wpInv_is ?_ ?_; (focus (intro W hW hF K hK; clear hF; obtain ⟨d0, d1⟩ := HC.out W hW; go_simp; exact hK _ _ (Gl.refl _) rfl)); simp only [Act.put, List.setIfInBounds_toArray, List.set_cons_zero, List.set_cons_succ])
  refine wpInv_end ?_
  intro W hW hF
  have HB := Lib.hid hW.undrew
  clear hW hF
  go_wp2_with fail
  go_ret
  exact ⟨rfl, HB.out⟩
set_option maxHeartbeats 1000000 in
theorem take_any (w : World) (tb : Nat) (s : ByteArray) (i : Nat) (h : TextAt w tb s i) (hi : i < s.size) (hs : s.size ≤ 70000) :
    Calls Try.prog 32 #[.pointer (some ⟨tb, 0, none⟩)] w fun e w' => e = .returned (.int .u8 (((bytesOf s).getD i 0 : Nat) : Int)) ∧ TextAt w' tb s (i + 1) ∧ Only (fun k => k = tb) w w' := by
  have HS := Lib.hid (see_any w tb s i h hi (by omega))
  have hp := posAt_le (bytesOf s) i
  have hps := posAt_succ (bytesOf s) i (by rw [bytesOf_length]; exact hi)
  have HT := Lib.hid h
  have HPS := Lib.hid hps
  obtain ⟨P, hP⟩ : ∃ P, P = posAt (bytesOf s) i := ⟨_, rfl⟩
  obtain ⟨b, hb⟩ : ∃ b, b = (bytesOf s).getD i 0 := ⟨_, rfl⟩
  rw [← hP] at hp
  have HP := Lib.hid (And.intro hP hb)
  rw [← hb] at HS ⊢
  clear h hps hP hb
  by_cases h10 : b = 10
  · subst h10
    go_enter Try.func32, Try.ntmps32
    go_wp2_with fail
    refine HS.out.mono ?_
    clear HS
    rintro e w1 ⟨rfl, hb1⟩
    have HB1 := Lib.hid hb1
    have HT1 := Lib.hid (HT.out.below hb1)
    obtain ⟨d0, d1, d2, d3, df⟩ := HT1.out.cells
    rw [← HP.out.1] at d2 d3
    have f1 := df 1
    have f2 := df 2
    have f3 := df 3
    clear hb1 df
    obtain ⟨p1, p2⟩ := P
    dsimp only at *
    go_wp2_with fail
    go_ret
    have hpn := HPS.out
    rw [← HP.out.2, ← HP.out.1] at hpn
    have ho0 : Only (fun k => k = tb) w w1 := Only.of_below HB1.out
    refine ⟨rfl, ?_, ((ho0.setCell (p := ⟨tb, 1, none⟩) rfl _).setCell (p := ⟨tb, 2, none⟩) rfl _).setCell (p := ⟨tb, 3, none⟩) rfl _⟩
    have h0 := HT1.out
    unfold TextAt at h0 ⊢
    have e := heap_setCell_same _ tb 3 _ _ (.int .i64 1) (heap_setCell_same _ tb 2 _ _ (.int .i64 ((p1 : Int) + 1)) (heap_setCell_same w1 tb 1 _ _ (.int .i64 ((i : Int) + 1)) h0))
    rw [e, hpn]
    rfl
  · have h10b : ((b : Int) == 10) = false := by
      have : ¬ (b : Int) = 10 := by omega
      simpa using this
    go_enter Try.func32, Try.ntmps32
    go_wp2_with fail
    refine HS.out.mono ?_
    clear HS
    rintro e w1 ⟨rfl, hb1⟩
    have HB1 := Lib.hid hb1
    have HT1 := Lib.hid (HT.out.below hb1)
    obtain ⟨d0, d1, d2, d3, df⟩ := HT1.out.cells
    rw [← HP.out.1] at d2 d3
    have f1 := df 1
    have f2 := df 2
    have f3 := df 3
    clear hb1 df
    obtain ⟨p1, p2⟩ := P
    dsimp only at *
    go_wp2_with fail
    go_ret
    have hpn := HPS.out
    rw [← HP.out.2, ← HP.out.1] at hpn
    have ho0 : Only (fun k => k = tb) w w1 := Only.of_below HB1.out
    refine ⟨rfl, ?_, (ho0.setCell (p := ⟨tb, 1, none⟩) rfl _).setCell (p := ⟨tb, 3, none⟩) rfl _⟩
    have h0 := HT1.out
    unfold TextAt at h0 ⊢
    have e := heap_setCell_same _ tb 3 _ _ (.int .i64 ((p2 : Int) + 1)) (heap_setCell_same w1 tb 1 _ _ (.int .i64 ((i : Int) + 1)) h0)
    have e2 : adv b (p1, p2) = (p1, p2 + 1) := if_neg h10
    rw [e, hpn, e2, ← HP.out.1]
    rfl
end Go.Proofs.Ytghddknhoiaboaa
