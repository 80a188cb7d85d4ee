/-
  lex: a token.
-/
import Derived.Test.YtghddknhoiaboaaLexJ
import Derived.Test.YtghddknhoiaboaaRegT
namespace Go.Proofs.Ytghddknhoiaboaa
open Go.ChangeShapes Go.WideShapes Go.ChangeAt Go.RowKit
set_option linter.unusedVariables false
set_option maxRecDepth 100000

/-- how long the word is that comes next -/
def wordLen : List Nat → Nat
  | [] => 0
  | c :: t => if isEnd c = true then 0 else 1 + wordLen t
theorem wordLen_le : ∀ l, wordLen l ≤ l.length
  | [] => Nat.le_refl _
  | c :: t => by
    show (if isEnd c = true then 0 else 1 + wordLen t) ≤ _
    have := wordLen_le t
    rw [List.length_cons]
    split <;> omega
inductive TkR where
  | tok (k n : Int) (t : ByteArray) (len : Nat)
  | bad (j : Nat)
/-- the token that begins at byte i -/
def tokS (s : ByteArray) (i : Nat) : TkR :=
  if (bytesOf s).getD i 0 = 40 then .tok 0 0 ⟨#[]⟩ 1
  else if (bytesOf s).getD i 0 = 41 then .tok 1 0 ⟨#[]⟩ 1
  else if (bytesOf s).getD i 0 = 34 then match strR ((bytesOf s).drop (i + 1)) with
    | .done b n => if b.length ≤ 4096 then .tok 4 0 (bstr b) (1 + n) else .bad i
    | .open_ => .bad i
    | .bad k => .bad (i + 1 + k)
  else match wordS (bstr (((bytesOf s).drop i).take (wordLen ((bytesOf s).drop i)))) with
    | some (k, n, t) => .tok k n t (wordLen ((bytesOf s).drop i))
    | none => .bad i
def TokPost (w : World) (tb : Nat) (s : ByteArray) (i : Nat) (e : Ending) (w' : World) : Prop :=
  (match tokS s i with
    | .tok k n t len => e = .returned (tokV k (posAt (bytesOf s) i) n t) ∧ TextAt w' tb s (i + len)
    | .bad j => Thrown e (posAt (bytesOf s) j)) ∧ Only (fun k => k = tb) w w'
theorem Only.setHigh {F : Nat → Prop} {a w : World} (h : Only F a w) {p : Addr} (hp : a.heap.size ≤ p.block) (u : Value) : Only F a (w.setCell p u) :=
  ⟨h.os, h.tape, h.output, by simp only [World.setCell, Array.size_modify]; exact h.size, fun j hj hF => (Below.heap_setCell w p u j (fun e => by omega)).trans (h.block j hj hF)⟩
theorem TextAt.other {w : World} {tb : Nat} {s : ByteArray} {i : Nat} (h : TextAt w tb s i) {p : Addr} (hp : tb ≠ p.block) (u : Value) : TextAt (w.setCell p u) tb s i := by
  unfold TextAt at *
  rw [Below.heap_setCell w p u tb hp]
  exact h
theorem tok_only {F : Nat → Prop} {b : Nat} {w W : World} (h : Only F w W) (hb : w.heap.size ≤ b) (v0 v1 v2 v3 v4 : Value) :
    Only F w (((((W.setCell ⟨b, 0, none⟩ v0).setCell ⟨b, 1, none⟩ v1).setCell ⟨b, 2, none⟩ v2).setCell ⟨b, 3, none⟩ v3).setCell ⟨b, 4, none⟩ v4) :=
  ((((h.setHigh hb _).setHigh hb _).setHigh hb _).setHigh hb _).setHigh hb _
theorem tok_text {b tb i : Nat} {W : World} {s : ByteArray} (h : TextAt W tb s i) (hb : tb ≠ b) (v0 v1 v2 v3 v4 : Value) :
    TextAt (((((W.setCell ⟨b, 0, none⟩ v0).setCell ⟨b, 1, none⟩ v1).setCell ⟨b, 2, none⟩ v2).setCell ⟨b, 3, none⟩ v3).setCell ⟨b, 4, none⟩ v4) tb s i :=
  ((((h.other hb _).other hb _).other hb _).other hb _).other hb _
theorem tok_lay {tb b i : Nat} {w W : World} {s : ByteArray} {a0 a1 a2 a3 a4 : Value} {t : TypeId} (hz : W.heap[b]? = some (.cells #[a0, a1, a2, a3, a4] t)) (ho : Only (fun k => k = tb) w W) (ht : TextAt W tb s i) (hb : tb ≠ b) (hwb : w.heap.size ≤ b) :
    W.cell? ⟨b, 0, none⟩ = some a0 ∧ W.cell? ⟨b, 1, none⟩ = some a1 ∧ W.cell? ⟨b, 2, none⟩ = some a2 ∧ W.cell? ⟨b, 3, none⟩ = some a3 ∧ W.cell? ⟨b, 4, none⟩ = some a4 ∧
    W.frozen? ⟨b, 0, none⟩ = false ∧ W.frozen? ⟨b, 1, none⟩ = false ∧ W.frozen? ⟨b, 2, none⟩ = false ∧ W.frozen? ⟨b, 3, none⟩ = false ∧ W.frozen? ⟨b, 4, none⟩ = false ∧
    Hid (∀ v0 v1 v2 v3 v4, (((((W.setCell ⟨b, 0, none⟩ v0).setCell ⟨b, 1, none⟩ v1).setCell ⟨b, 2, none⟩ v2).setCell ⟨b, 3, none⟩ v3).setCell ⟨b, 4, none⟩ v4).heap[b]? = some (.cells #[v0, v1, v2, v3, v4] t) ∧
      Only (fun k => k = tb) w (((((W.setCell ⟨b, 0, none⟩ v0).setCell ⟨b, 1, none⟩ v1).setCell ⟨b, 2, none⟩ v2).setCell ⟨b, 3, none⟩ v3).setCell ⟨b, 4, none⟩ v4) ∧
      TextAt (((((W.setCell ⟨b, 0, none⟩ v0).setCell ⟨b, 1, none⟩ v1).setCell ⟨b, 2, none⟩ v2).setCell ⟨b, 3, none⟩ v3).setCell ⟨b, 4, none⟩ v4) tb s i) :=
  ⟨cell_of_row W b 0 _ _ (0, 0) hz, cell_of_row W b 1 _ _ (0, 0) hz, cell_of_row W b 2 _ _ (0, 0) hz, cell_of_row W b 3 _ _ (0, 0) hz, cell_of_row W b 4 _ _ (0, 0) hz,
    frozen_of_row W b 0 _ _ hz, frozen_of_row W b 1 _ _ hz, frozen_of_row W b 2 _ _ hz, frozen_of_row W b 3 _ _ hz, frozen_of_row W b 4 _ _ hz,
    Lib.hid (fun v0 v1 v2 v3 v4 => ⟨tok_set hz v0 v1 v2 v3 v4, tok_only ho hwb v0 v1 v2 v3 v4, tok_text ht hb v0 v1 v2 v3 v4⟩)⟩
set_option maxHeartbeats 4000000 in
theorem token_sep (w : World) (tb : Nat) (s : ByteArray) (i : Nat) (h : TextAt w tb s i) (hi : i < s.size) (hs : s.size ≤ 70000) (hc3 : (bytesOf s).getD i 0 = 40 ∨ (bytesOf s).getD i 0 = 41 ∨ (bytesOf s).getD i 0 = 34) :
    Calls Try.prog 20 #[.pointer (some ⟨tb, 0, none⟩)] w (TokPost w tb s i) := by
  have hbl := bytesOf_length s
  have htb := h.lt
  obtain ⟨P, hP⟩ : ∃ P, P = posAt (bytesOf s) i := ⟨_, rfl⟩
  obtain ⟨W0, hW0⟩ : ∃ W0, W0 = (w.alloc (.cells #[.int .i64 0, .int .i64 0, .int .i64 0, .int .i64 0, .string ⟨#[]⟩] 44)).alloc (.cells #[.int .i64 (P.1 : Int), .int .i64 (P.2 : Int)] 25) := ⟨_, rfl⟩
  have hsz1 := size_alloc' w (.cells #[.int .i64 0, .int .i64 0, .int .i64 0, .int .i64 0, .string ⟨#[]⟩] 44)
  have ha1 : Below w.heap.size w (w.alloc (.cells #[.int .i64 0, .int .i64 0, .int .i64 0, .int .i64 0, .string ⟨#[]⟩] 44)) := (Below.refl _ _).alloc (Nat.le_refl _) _
  have hb0 : Below w.heap.size w W0 := by rw [hW0]; exact ha1.alloc (by rw [hsz1]; exact Nat.le_succ _) _
  have hs0 : W0.heap.size = w.heap.size + 2 := by rw [hW0, size_alloc', hsz1]
  have g1 : W0.heap[w.heap.size]? = some (.cells #[.int .i64 0, .int .i64 0, .int .i64 0, .int .i64 0, .string ⟨#[]⟩] 44) := by
    have b2 : Below (w.heap.size + 1) (w.alloc (.cells #[.int .i64 0, .int .i64 0, .int .i64 0, .int .i64 0, .string ⟨#[]⟩] 44)) W0 := by rw [hW0]; exact (Below.refl _ _).alloc (by rw [hsz1]; exact Nat.le_refl _) _
    rw [b2.block w.heap.size (by omega)]
    exact heap_alloc w _
  have g2 : W0.heap[w.heap.size + 1]? = some (.cells #[.int .i64 (P.1 : Int), .int .i64 (P.2 : Int)] 25) := by
    rw [hW0, ← hsz1]
    exact heap_alloc _ _
  have HZ : Hid (∀ W, Only (fun k => k = tb) W0 W → W.cell? ⟨w.heap.size + 1, 0, none⟩ = some (.int .i64 (P.1 : Int)) ∧ W.cell? ⟨w.heap.size + 1, 1, none⟩ = some (.int .i64 (P.2 : Int)) ∧ W.heap[w.heap.size]? = some (.cells #[.int .i64 0, .int .i64 0, .int .i64 0, .int .i64 0, .string ⟨#[]⟩] 44) ∧ Only (fun k => k = tb) w W) := Lib.hid (fun W ho => by
    have hb := ho.block (w.heap.size + 1) (by omega) (by omega)
    have hb2 := ho.block w.heap.size (by omega) (by omega)
    rw [g2] at hb
    exact ⟨cell_of_row W _ 0 _ _ (0, 0) hb, cell_of_row W _ 1 _ _ (0, 0) hb, hb2.trans g1, ((Only.refl _ w).step hb0).trans ho⟩)
  have HT0 := Lib.hid (h.below hb0)
  have HTB := Lib.hid htb
  have HW0 := Lib.hid hW0
  obtain ⟨_, _, y2, y3, _⟩ := h.cells
  rw [← hP] at y2 y3
  have HSe := Lib.hid (see_any W0 tb s i HT0.out hi (by omega))
  have HP := Lib.hid hP
  have hS : tokS s i = (if (bytesOf s).getD i 0 = 40 then .tok 0 0 ⟨#[]⟩ 1
  else if (bytesOf s).getD i 0 = 41 then .tok 1 0 ⟨#[]⟩ 1
  else if (bytesOf s).getD i 0 = 34 then match strR ((bytesOf s).drop (i + 1)) with
    | .done b n => if b.length ≤ 4096 then .tok 4 0 (bstr b) (1 + n) else .bad i
    | .open_ => .bad i
    | .bad k => .bad (i + 1 + k)
  else match wordS (bstr (((bytesOf s).drop i).take (wordLen ((bytesOf s).drop i)))) with
    | some (k, n, t) => .tok k n t (wordLen ((bytesOf s).drop i))
    | none => .bad i) := rfl
  obtain ⟨c, hc⟩ : ∃ c, c = (bytesOf s).getD i 0 := ⟨_, rfl⟩
  rw [← hc] at hS HSe
  have HC := Lib.hid hc
  have HC3 := Lib.hid hc3
  clear hP hW0 hb0 hs0 g1 g2 ha1 hsz1 h hc hc3
  by_cases h40 : c = 40
  · rw [if_pos h40] at hS
    have HS := Lib.hid hS
    subst h40
    clear hS
    go_enter Try.func20, Try.ntmps20
    go_wp2_with fail
    rw [← HW0.out]
    refine HSe.out.mono ?_
    clear HSe
    rintro e w1 ⟨rfl, hb1⟩
    have HT1 := Lib.hid (HT0.out.below hb1)
    have HO1 : Hid (Only (fun k => k = tb) W0 w1) := Lib.hid (Only.of_below hb1)
    clear hb1 y2 y3
    have HTk := Lib.hid (take_any w1 tb s i HT1.out hi (by omega))
    go_wp2_with fail
    refine HTk.out.mono ?_
    clear HTk
    rintro e w2 ⟨rfl, ht2, ho2⟩
    have HT2 := Lib.hid ht2
    have HO2 := Lib.hid (HO1.out.trans ho2)
    clear ht2 ho2
    obtain ⟨v0, v1, hz, hoa⟩ := HZ.out w2 HO2.out
    have c0 := cell_of_row w2 w.heap.size 0 _ _ (0, 0) hz
    have c1 := cell_of_row w2 w.heap.size 1 _ _ (0, 0) hz
    have c2 := cell_of_row w2 w.heap.size 2 _ _ (0, 0) hz
    have c3 := cell_of_row w2 w.heap.size 3 _ _ (0, 0) hz
    have c4 := cell_of_row w2 w.heap.size 4 _ _ (0, 0) hz
    have z0 := frozen_of_row w2 w.heap.size 0 _ _ hz
    have z1 := frozen_of_row w2 w.heap.size 1 _ _ hz
    have z2 := frozen_of_row w2 w.heap.size 2 _ _ hz
    have z3 := frozen_of_row w2 w.heap.size 3 _ _ hz
    have z4 := frozen_of_row w2 w.heap.size 4 _ _ hz
    have HF := Lib.hid (fun v0 v1 v2 v3 v4 => And.intro (tok_set hz v0 v1 v2 v3 v4) (And.intro (tok_only hoa (Nat.le_refl _) v0 v1 v2 v3 v4) (tok_text (b := w.heap.size) HT2.out (Nat.ne_of_lt HTB.out) v0 v1 v2 v3 v4)))
    clear hz hoa
    go_wp2_with fail
    obtain ⟨hh, hof, htf⟩ := HF.out (.int .i64 0) (.int .i64 (P.1 : Int)) (.int .i64 (P.2 : Int)) (.int .i64 0) (.string ⟨#[]⟩)
    generalize ((((((((((w2).setCell ⟨w.heap.size, 0, none⟩ (.int .i64 0))).setCell ⟨w.heap.size, 1, none⟩ (.int .i64 (P.1 : Int)))).setCell ⟨w.heap.size, 2, none⟩ (.int .i64 (P.2 : Int)))).setCell ⟨w.heap.size, 3, none⟩ (.int .i64 0))).setCell ⟨w.heap.size, 4, none⟩ (.string ⟨#[]⟩)) = WF at *
    have e0 := cell_of_row WF w.heap.size 0 _ _ (0, 0) hh
    have e1 := cell_of_row WF w.heap.size 1 _ _ (0, 0) hh
    have e2 := cell_of_row WF w.heap.size 2 _ _ (0, 0) hh
    have e3 := cell_of_row WF w.heap.size 3 _ _ (0, 0) hh
    have e4 := cell_of_row WF w.heap.size 4 _ _ (0, 0) hh
    clear hh c0 c1 c2 c3 c4 z0 z1 z2 z3 z4
    refine bodyPost_ret (v := tokV 0 P 0 ⟨#[]⟩) (by simp [results, Try.results20, go_sem, e0, e1, e2, e3, e4, tokV]) rfl ⟨?_, hof⟩
    rw [HS.out]
    show Ending.returned (tokV 0 P 0 ⟨#[]⟩) = Ending.returned (tokV 0 (posAt (bytesOf s) i) 0 ⟨#[]⟩) ∧ _
    rw [← HP.out]
    exact ⟨rfl, htf⟩
  · rw [if_neg h40] at hS
    have b40 : ((c : Int) == 40) = false := by
      have : ¬ (c : Int) = 40 := by omega
      simpa using this
    by_cases h41 : c = 41
    · rw [if_pos h41] at hS
      have HS := Lib.hid hS
      subst h41
      clear hS h40
      go_enter Try.func20, Try.ntmps20
      go_wp2_with fail
      rw [← HW0.out]
      refine HSe.out.mono ?_
      clear HSe
      rintro e w1 ⟨rfl, hb1⟩
      have HT1 := Lib.hid (HT0.out.below hb1)
      have HO1 : Hid (Only (fun k => k = tb) W0 w1) := Lib.hid (Only.of_below hb1)
      clear hb1 y2 y3
      have HTk := Lib.hid (take_any w1 tb s i HT1.out hi (by omega))
      go_wp2_with fail
      refine HTk.out.mono ?_
      clear HTk
      rintro e w2 ⟨rfl, ht2, ho2⟩
      have HT2 := Lib.hid ht2
      have HO2 := Lib.hid (HO1.out.trans ho2)
      clear ht2 ho2
      obtain ⟨v0, v1, hz, hoa⟩ := HZ.out w2 HO2.out
      have c0 := cell_of_row w2 w.heap.size 0 _ _ (0, 0) hz
      have c1 := cell_of_row w2 w.heap.size 1 _ _ (0, 0) hz
      have c2 := cell_of_row w2 w.heap.size 2 _ _ (0, 0) hz
      have c3 := cell_of_row w2 w.heap.size 3 _ _ (0, 0) hz
      have c4 := cell_of_row w2 w.heap.size 4 _ _ (0, 0) hz
      have z0 := frozen_of_row w2 w.heap.size 0 _ _ hz
      have z1 := frozen_of_row w2 w.heap.size 1 _ _ hz
      have z2 := frozen_of_row w2 w.heap.size 2 _ _ hz
      have z3 := frozen_of_row w2 w.heap.size 3 _ _ hz
      have z4 := frozen_of_row w2 w.heap.size 4 _ _ hz
      have HF := Lib.hid (fun v0 v1 v2 v3 v4 => And.intro (tok_set hz v0 v1 v2 v3 v4) (And.intro (tok_only hoa (Nat.le_refl _) v0 v1 v2 v3 v4) (tok_text (b := w.heap.size) HT2.out (Nat.ne_of_lt HTB.out) v0 v1 v2 v3 v4)))
      clear hz hoa
      go_wp2_with fail
      obtain ⟨hh, hof, htf⟩ := HF.out (.int .i64 1) (.int .i64 (P.1 : Int)) (.int .i64 (P.2 : Int)) (.int .i64 0) (.string ⟨#[]⟩)
      generalize ((((((((((w2).setCell ⟨w.heap.size, 0, none⟩ (.int .i64 1))).setCell ⟨w.heap.size, 1, none⟩ (.int .i64 (P.1 : Int)))).setCell ⟨w.heap.size, 2, none⟩ (.int .i64 (P.2 : Int)))).setCell ⟨w.heap.size, 3, none⟩ (.int .i64 0))).setCell ⟨w.heap.size, 4, none⟩ (.string ⟨#[]⟩)) = WF at *
      have e0 := cell_of_row WF w.heap.size 0 _ _ (0, 0) hh
      have e1 := cell_of_row WF w.heap.size 1 _ _ (0, 0) hh
      have e2 := cell_of_row WF w.heap.size 2 _ _ (0, 0) hh
      have e3 := cell_of_row WF w.heap.size 3 _ _ (0, 0) hh
      have e4 := cell_of_row WF w.heap.size 4 _ _ (0, 0) hh
      clear hh c0 c1 c2 c3 c4 z0 z1 z2 z3 z4
      refine bodyPost_ret (v := tokV 1 P 0 ⟨#[]⟩) (by simp [results, Try.results20, go_sem, e0, e1, e2, e3, e4, tokV]) rfl ⟨?_, hof⟩
      rw [HS.out]
      show Ending.returned (tokV 1 P 0 ⟨#[]⟩) = Ending.returned (tokV 1 (posAt (bytesOf s) i) 0 ⟨#[]⟩) ∧ _
      rw [← HP.out]
      exact ⟨rfl, htf⟩
    · rw [if_neg h41] at hS
      have b41 : ((c : Int) == 41) = false := by
        have : ¬ (c : Int) = 41 := by omega
        simpa using this
      by_cases h34 : c = 34
      · rw [if_pos h34] at hS
        subst h34
        clear h40 h41
        have HStr := Lib.hid (fun W (hT : TextAt W tb s i) => str_any W tb s i hT hi (by omega))
        unfold StrPost at HStr
        cases hr : strR ((bytesOf s).drop (i + 1)) with
        | done b n =>
          rw [hr] at hS HStr
          dsimp only at hS HStr
          by_cases hb4 : b.length ≤ 4096
          · rw [if_pos hb4] at hS
            have HStr2 : Hid (∀ W, TextAt W tb s i → Calls Try.prog 34 #[.pointer (some ⟨tb, 0, none⟩)] W fun e w' => e = .returned (.string (bstr b)) ∧ TextAt w' tb s (i + (1 + n)) ∧ Only (fun k => k = tb) W w') := Lib.hid (fun W hT => (HStr.out W hT).mono (fun e w' h => by
              rw [if_pos hb4] at h
              exact ⟨h.1.1, by rw [← Nat.add_assoc]; exact h.1.2, h.2⟩))
            have HS : Hid (tokS s i = .tok 4 0 (bstr b) (1 + n)) := Lib.hid hS
            clear hS HStr hr hb4
            generalize bstr b = T at *
            go_enter Try.func20, Try.ntmps20
            go_wp2_with fail
            rw [← HW0.out]
            refine HSe.out.mono ?_
            clear HSe
            rintro e w1 ⟨rfl, hb1⟩
            have HT1 := Lib.hid (HT0.out.below hb1)
            have HO1 : Hid (Only (fun k => k = tb) W0 w1) := Lib.hid (Only.of_below hb1)
            clear hb1 y2 y3
            obtain ⟨v0, v1, _, _⟩ := HZ.out w1 HO1.out
            go_wp2_with fail
            go_region_with (go_at_call 34; refine (HStr2.out w1.drew HT1.out).mono ?_; rintro e w2 ⟨rfl, ht2, ho2⟩; have HT2 := Lib.hid ht2; have HO2 := Lib.hid (HO1.out.trans (Only.trans (b := w1) (Only.refl _ _) ⟨ho2.os, ho2.tape, ho2.output, ho2.size, ho2.block⟩)); clear ht2 ho2; obtain ⟨v0, v1, hz, hoa⟩ := HZ.out w2 HO2.out; obtain ⟨c0, c1, c2, c3, c4, z0, z1, z2, z3, z4, HF⟩ := tok_lay hz hoa HT2.out (Nat.ne_of_lt HTB.out) (Nat.le_refl _); clear hz hoa)
            all_goals
              go_wp2_with fail
              obtain ⟨hh, hof, htf⟩ := HF.out (.int .i64 4) (.int .i64 (P.1 : Int)) (.int .i64 (P.2 : Int)) (.int .i64 0) (.string T)
              generalize ((((((((((w2).setCell ⟨w.heap.size, 0, none⟩ (.int .i64 4))).setCell ⟨w.heap.size, 1, none⟩ (.int .i64 (P.1 : Int)))).setCell ⟨w.heap.size, 2, none⟩ (.int .i64 (P.2 : Int)))).setCell ⟨w.heap.size, 3, none⟩ (.int .i64 0))).setCell ⟨w.heap.size, 4, none⟩ (.string T)) = WF at *
              have e0 := cell_of_row WF w.heap.size 0 _ _ (0, 0) hh
              have e1 := cell_of_row WF w.heap.size 1 _ _ (0, 0) hh
              have e2 := cell_of_row WF w.heap.size 2 _ _ (0, 0) hh
              have e3 := cell_of_row WF w.heap.size 3 _ _ (0, 0) hh
              have e4 := cell_of_row WF w.heap.size 4 _ _ (0, 0) hh
              clear hh c0 c1 c2 c3 c4 z0 z1 z2 z3 z4
              refine bodyPost_ret (v := tokV 4 P 0 T) (by simp [results, Try.results20, go_sem, e0, e1, e2, e3, e4, tokV]) rfl ⟨?_, hof⟩
              rw [HS.out]
              show Ending.returned (tokV 4 P 0 T) = Ending.returned (tokV 4 (posAt (bytesOf s) i) 0 T) ∧ _
              rw [← HP.out]
              exact ⟨rfl, htf⟩
          · rw [if_neg hb4] at hS
            have HStr2 : Hid (∀ W, TextAt W tb s i → Calls Try.prog 34 #[.pointer (some ⟨tb, 0, none⟩)] W fun e w' => Thrown e (posAt (bytesOf s) (i)) ∧ Only (fun k => k = tb) W w') := Lib.hid (fun W hT => (HStr.out W hT).mono (fun e w' h => by rw [if_neg hb4] at h; exact h))
            have HS : Hid (tokS s i = .bad (i)) := Lib.hid hS
            clear hS HStr hr
            go_enter Try.func20, Try.ntmps20
            go_wp2_with fail
            rw [← HW0.out]
            refine HSe.out.mono ?_
            clear HSe
            rintro e w1 ⟨rfl, hb1⟩
            have HT1 := Lib.hid (HT0.out.below hb1)
            have HO1 : Hid (Only (fun k => k = tb) W0 w1) := Lib.hid (Only.of_below hb1)
            clear hb1 y2 y3
            obtain ⟨v0, v1, _, _⟩ := HZ.out w1 HO1.out
            go_wp2_with fail
            refine wp_region_any (by kernel_rfl) ?_
            change wpAny _ _ _ _ _ _ _ (World.drew _)
            refine wpAny_ready (rs := [0, 1]) (by kernel_rfl) (by simp) ?_
            refine AllReady.cons rfl (fun K hK => ?_) (AllReady.cons rfl (fun K hK => ?_) AllReady.nil)
            · go_simp
              refine hK _ _ ?_
              clear hK K
              refine wpAny_ready (rs := [1]) (by kernel_rfl) (by simp) ?_
              refine AllReady.cons rfl (fun K hK => ?_) AllReady.nil
              go_simp
              refine hK _ _ ?_
              clear hK K
              refine wpAny_ready (rs := [2]) (by kernel_rfl) (by simp) ?_
              refine AllReady.cons rfl (fun K hK => ?_) AllReady.nil
              go_simp
              refine (HStr2.out w1.drew HT1.out).mono ?_
              rintro e w2 ⟨hth, ho2⟩
              have ho2' : Only (fun k => k = tb) w1 w2 := ⟨ho2.os, ho2.tape, ho2.output, ho2.size, ho2.block⟩
              have HOA := Lib.hid (HZ.out w2 (HO1.out.trans ho2')).2.2.2
              unfold Thrown at hth
              subst hth
              refine ⟨rfl, ?_, HOA.out⟩
              rw [HS.out]
              exact rfl
            · go_simp
              refine hK _ _ ?_
              clear hK K
              refine wpAny_ready (rs := [0, 2]) (by kernel_rfl) (by simp) ?_
              refine AllReady.cons rfl (fun K hK => ?_) (AllReady.cons rfl (fun K hK => ?_) AllReady.nil)
              · go_simp
                refine hK _ _ ?_
                clear hK K
                refine wpAny_ready (rs := [2]) (by kernel_rfl) (by simp) ?_
                refine AllReady.cons rfl (fun K hK => ?_) AllReady.nil
                go_simp
                refine (HStr2.out w1.drew HT1.out).mono ?_
                rintro e w2 ⟨hth, ho2⟩
                have ho2' : Only (fun k => k = tb) w1 w2 := ⟨ho2.os, ho2.tape, ho2.output, ho2.size, ho2.block⟩
                have HOA := Lib.hid (HZ.out w2 (HO1.out.trans ho2')).2.2.2
                unfold Thrown at hth
                subst hth
                refine ⟨rfl, ?_, HOA.out⟩
                rw [HS.out]
                exact rfl
              · go_simp
                refine (HStr2.out w1.drew HT1.out).mono ?_
                rintro e w2 ⟨hth, ho2⟩
                have ho2' : Only (fun k => k = tb) w1 w2 := ⟨ho2.os, ho2.tape, ho2.output, ho2.size, ho2.block⟩
                have HOA := Lib.hid (HZ.out w2 (HO1.out.trans ho2')).2.2.2
                unfold Thrown at hth
                subst hth
                refine ⟨rfl, ?_, HOA.out⟩
                rw [HS.out]
                exact rfl
        | open_ =>
          rw [hr] at hS HStr
          dsimp only at hS HStr
          have HStr2 : Hid (∀ W, TextAt W tb s i → Calls Try.prog 34 #[.pointer (some ⟨tb, 0, none⟩)] W fun e w' => Thrown e (posAt (bytesOf s) (i)) ∧ Only (fun k => k = tb) W w') := Lib.hid (fun W hT => (HStr.out W hT).mono (fun e w' h => h))
          have HS : Hid (tokS s i = .bad (i)) := Lib.hid hS
          clear hS HStr hr
          go_enter Try.func20, Try.ntmps20
          go_wp2_with fail
          rw [← HW0.out]
          refine HSe.out.mono ?_
          clear HSe
          rintro e w1 ⟨rfl, hb1⟩
          have HT1 := Lib.hid (HT0.out.below hb1)
          have HO1 : Hid (Only (fun k => k = tb) W0 w1) := Lib.hid (Only.of_below hb1)
          clear hb1 y2 y3
          obtain ⟨v0, v1, _, _⟩ := HZ.out w1 HO1.out
          go_wp2_with fail
          refine wp_region_any (by kernel_rfl) ?_
          change wpAny _ _ _ _ _ _ _ (World.drew _)
          refine wpAny_ready (rs := [0, 1]) (by kernel_rfl) (by simp) ?_
          refine AllReady.cons rfl (fun K hK => ?_) (AllReady.cons rfl (fun K hK => ?_) AllReady.nil)
          · go_simp
            refine hK _ _ ?_
            clear hK K
            refine wpAny_ready (rs := [1]) (by kernel_rfl) (by simp) ?_
            refine AllReady.cons rfl (fun K hK => ?_) AllReady.nil
            go_simp
            refine hK _ _ ?_
            clear hK K
            refine wpAny_ready (rs := [2]) (by kernel_rfl) (by simp) ?_
            refine AllReady.cons rfl (fun K hK => ?_) AllReady.nil
            go_simp
            refine (HStr2.out w1.drew HT1.out).mono ?_
            rintro e w2 ⟨hth, ho2⟩
            have ho2' : Only (fun k => k = tb) w1 w2 := ⟨ho2.os, ho2.tape, ho2.output, ho2.size, ho2.block⟩
            have HOA := Lib.hid (HZ.out w2 (HO1.out.trans ho2')).2.2.2
            unfold Thrown at hth
            subst hth
            refine ⟨rfl, ?_, HOA.out⟩
            rw [HS.out]
            exact rfl
          · go_simp
            refine hK _ _ ?_
            clear hK K
            refine wpAny_ready (rs := [0, 2]) (by kernel_rfl) (by simp) ?_
            refine AllReady.cons rfl (fun K hK => ?_) (AllReady.cons rfl (fun K hK => ?_) AllReady.nil)
            · go_simp
              refine hK _ _ ?_
              clear hK K
              refine wpAny_ready (rs := [2]) (by kernel_rfl) (by simp) ?_
              refine AllReady.cons rfl (fun K hK => ?_) AllReady.nil
              go_simp
              refine (HStr2.out w1.drew HT1.out).mono ?_
              rintro e w2 ⟨hth, ho2⟩
              have ho2' : Only (fun k => k = tb) w1 w2 := ⟨ho2.os, ho2.tape, ho2.output, ho2.size, ho2.block⟩
              have HOA := Lib.hid (HZ.out w2 (HO1.out.trans ho2')).2.2.2
              unfold Thrown at hth
              subst hth
              refine ⟨rfl, ?_, HOA.out⟩
              rw [HS.out]
              exact rfl
            · go_simp
              refine (HStr2.out w1.drew HT1.out).mono ?_
              rintro e w2 ⟨hth, ho2⟩
              have ho2' : Only (fun k => k = tb) w1 w2 := ⟨ho2.os, ho2.tape, ho2.output, ho2.size, ho2.block⟩
              have HOA := Lib.hid (HZ.out w2 (HO1.out.trans ho2')).2.2.2
              unfold Thrown at hth
              subst hth
              refine ⟨rfl, ?_, HOA.out⟩
              rw [HS.out]
              exact rfl
        | bad k =>
          rw [hr] at hS HStr
          dsimp only at hS HStr
          have HStr2 : Hid (∀ W, TextAt W tb s i → Calls Try.prog 34 #[.pointer (some ⟨tb, 0, none⟩)] W fun e w' => Thrown e (posAt (bytesOf s) (i + 1 + k)) ∧ Only (fun k => k = tb) W w') := Lib.hid (fun W hT => (HStr.out W hT).mono (fun e w' h => h))
          have HS : Hid (tokS s i = .bad (i + 1 + k)) := Lib.hid hS
          clear hS HStr hr
          go_enter Try.func20, Try.ntmps20
          go_wp2_with fail
          rw [← HW0.out]
          refine HSe.out.mono ?_
          clear HSe
          rintro e w1 ⟨rfl, hb1⟩
          have HT1 := Lib.hid (HT0.out.below hb1)
          have HO1 : Hid (Only (fun k => k = tb) W0 w1) := Lib.hid (Only.of_below hb1)
          clear hb1 y2 y3
          obtain ⟨v0, v1, _, _⟩ := HZ.out w1 HO1.out
          go_wp2_with fail
          refine wp_region_any (by kernel_rfl) ?_
          change wpAny _ _ _ _ _ _ _ (World.drew _)
          refine wpAny_ready (rs := [0, 1]) (by kernel_rfl) (by simp) ?_
          refine AllReady.cons rfl (fun K hK => ?_) (AllReady.cons rfl (fun K hK => ?_) AllReady.nil)
          · go_simp
            refine hK _ _ ?_
            clear hK K
            refine wpAny_ready (rs := [1]) (by kernel_rfl) (by simp) ?_
            refine AllReady.cons rfl (fun K hK => ?_) AllReady.nil
            go_simp
            refine hK _ _ ?_
            clear hK K
            refine wpAny_ready (rs := [2]) (by kernel_rfl) (by simp) ?_
            refine AllReady.cons rfl (fun K hK => ?_) AllReady.nil
            go_simp
            refine (HStr2.out w1.drew HT1.out).mono ?_
            rintro e w2 ⟨hth, ho2⟩
            have ho2' : Only (fun k => k = tb) w1 w2 := ⟨ho2.os, ho2.tape, ho2.output, ho2.size, ho2.block⟩
            have HOA := Lib.hid (HZ.out w2 (HO1.out.trans ho2')).2.2.2
            unfold Thrown at hth
            subst hth
            refine ⟨rfl, ?_, HOA.out⟩
            rw [HS.out]
            exact rfl
          · go_simp
            refine hK _ _ ?_
            clear hK K
            refine wpAny_ready (rs := [0, 2]) (by kernel_rfl) (by simp) ?_
            refine AllReady.cons rfl (fun K hK => ?_) (AllReady.cons rfl (fun K hK => ?_) AllReady.nil)
            · go_simp
              refine hK _ _ ?_
              clear hK K
              refine wpAny_ready (rs := [2]) (by kernel_rfl) (by simp) ?_
              refine AllReady.cons rfl (fun K hK => ?_) AllReady.nil
              go_simp
              refine (HStr2.out w1.drew HT1.out).mono ?_
              rintro e w2 ⟨hth, ho2⟩
              have ho2' : Only (fun k => k = tb) w1 w2 := ⟨ho2.os, ho2.tape, ho2.output, ho2.size, ho2.block⟩
              have HOA := Lib.hid (HZ.out w2 (HO1.out.trans ho2')).2.2.2
              unfold Thrown at hth
              subst hth
              refine ⟨rfl, ?_, HOA.out⟩
              rw [HS.out]
              exact rfl
            · go_simp
              refine (HStr2.out w1.drew HT1.out).mono ?_
              rintro e w2 ⟨hth, ho2⟩
              have ho2' : Only (fun k => k = tb) w1 w2 := ⟨ho2.os, ho2.tape, ho2.output, ho2.size, ho2.block⟩
              have HOA := Lib.hid (HZ.out w2 (HO1.out.trans ho2')).2.2.2
              unfold Thrown at hth
              subst hth
              refine ⟨rfl, ?_, HOA.out⟩
              rw [HS.out]
              exact rfl
      · have hc3 := HC3.out
        rw [← HC.out] at hc3
        omega
end Go.Proofs.Ytghddknhoiaboaa
