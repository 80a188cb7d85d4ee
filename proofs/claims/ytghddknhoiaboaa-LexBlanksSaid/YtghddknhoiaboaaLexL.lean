/-
  lex: a token that is a word.
-/
import Derived.Test.YtghddknhoiaboaaLexK
namespace Go.Proofs.Ytghddknhoiaboaa
open Go.ChangeShapes Go.WideShapes Go.ChangeAt Go.RowKit
set_option linter.unusedVariables false
set_option maxRecDepth 100000

theorem wordLen_in (l : List Nat) (j : Nat) (hj : j < l.length) (h : isEnd (l.getD j 0) = false) : wordLen (l.drop j) = 1 + wordLen (l.drop (j + 1)) := by
  rw [drop_at l j hj]
  show (if isEnd _ = true then 0 else _) = _
  rw [h]
  rfl
theorem wordLen_out (l : List Nat) (j : Nat) (h : l.length ≤ j ∨ isEnd (l.getD j 0) = true) : wordLen (l.drop j) = 0 := by
  by_cases hj : j < l.length
  · rw [drop_at l j hj]
    show (if isEnd _ = true then 0 else _) = _
    rw [h.resolve_left (by omega)]
    rfl
  · rw [List.drop_eq_nil_of_le (by omega)]
    rfl
theorem extract_bstr (s : ByteArray) (i j : Nat) (hij : i ≤ j) : s.extract i j = bstr (((bytesOf s).drop i).take (j - i)) := by
  have e : s.extract i j = bstr (bytesOf (s.extract i j)) := (bstr_bytesOf _).symm
  rw [e]
  congr 1
  unfold bytesOf
  rw [← List.map_drop, ← List.map_take]
  congr 1
  rw [ByteArray.data_extract, Array.toList_extract]
theorem below_undrew {w W : World} (h : Below w.drew.heap.size w.drew W) : Below w.heap.size w W := ⟨h.os, h.tape, h.output, h.size, h.block⟩
theorem alloc_keep {w W : World} {o : Obj} (h : Below (w.alloc o).heap.size (w.alloc o) W) : W.heap[w.heap.size]? = some o := by
  rw [h.block w.heap.size (by rw [size_alloc']; exact Nat.lt_succ_self _)]
  exact heap_alloc w o
set_option maxHeartbeats 40000000 in
theorem token_word (w : World) (tb : Nat) (s : ByteArray) (i : Nat) (h : TextAt w tb s i) (hi : i < s.size) (hs : s.size ≤ 65000) (mx : Int) (hmx : w.cell? ⟨1, 0, none⟩ = some (.int .i64 mx)) (hne : 1 ≠ tb) (hnb : isEnd ((bytesOf s).getD i 0) = false) :
    Calls Try.prog 20 #[.pointer (some ⟨tb, 0, none⟩)] w (TokPost w tb s i) := by
  have hbl := bytesOf_length s
  have htb := h.lt
  obtain ⟨P, hP⟩ : ∃ P, P = posAt (bytesOf s) i := ⟨_, rfl⟩
  obtain ⟨W0, hW0⟩ : ∃ W0, W0 = (w.alloc (.cells #[.int .i64 0, .int .i64 0, .int .i64 0, .int .i64 0, .string ⟨#[]⟩] 44)).alloc (.cells #[.int .i64 (P.1 : Int), .int .i64 (P.2 : Int)] 25) := ⟨_, rfl⟩
  have hsz1 := size_alloc' w (.cells #[.int .i64 0, .int .i64 0, .int .i64 0, .int .i64 0, .string ⟨#[]⟩] 44)
  have ha1 : Below w.heap.size w (w.alloc (.cells #[.int .i64 0, .int .i64 0, .int .i64 0, .int .i64 0, .string ⟨#[]⟩] 44)) := (Below.refl _ _).alloc (Nat.le_refl _) _
  have hb0 : Below w.heap.size w W0 := by rw [hW0]; exact ha1.alloc (by rw [hsz1]; exact Nat.le_succ _) _
  have hs0 : W0.heap.size = w.heap.size + 2 := by rw [hW0, size_alloc', hsz1]
  have g1 : W0.heap[w.heap.size]? = some (.cells #[.int .i64 0, .int .i64 0, .int .i64 0, .int .i64 0, .string ⟨#[]⟩] 44) := by
    have b2 : Below (w.heap.size + 1) (w.alloc (.cells #[.int .i64 0, .int .i64 0, .int .i64 0, .int .i64 0, .string ⟨#[]⟩] 44)) W0 := by rw [hW0]; exact (Below.refl _ _).alloc (by rw [hsz1]; exact Nat.le_refl _) _
    rw [b2.block w.heap.size (by omega)]
    exact heap_alloc w _
  have g2 : W0.heap[w.heap.size + 1]? = some (.cells #[.int .i64 (P.1 : Int), .int .i64 (P.2 : Int)] 25) := by
    rw [hW0, ← hsz1]
    exact heap_alloc _ _
  have hlt : 1 < w.heap.size := by
    rcases Nat.lt_or_ge 1 w.heap.size with hl | hl
    · exact hl
    · exfalso
      unfold World.cell? at hmx
      rw [Array.getElem?_eq_none (by exact hl)] at hmx
      cases hmx
  have HZ : Hid (∀ W, Only (fun k => k = tb) W0 W → W.cell? ⟨w.heap.size + 1, 0, none⟩ = some (.int .i64 (P.1 : Int)) ∧ W.cell? ⟨w.heap.size + 1, 1, none⟩ = some (.int .i64 (P.2 : Int)) ∧ W.heap[w.heap.size]? = some (.cells #[.int .i64 0, .int .i64 0, .int .i64 0, .int .i64 0, .string ⟨#[]⟩] 44) ∧ Only (fun k => k = tb) w W ∧ W.cell? ⟨1, 0, none⟩ = some (.int .i64 mx) ∧ w.heap.size + 2 ≤ W.heap.size) := Lib.hid (fun W ho => by
    have hb := ho.block (w.heap.size + 1) (by omega) (by omega)
    have hb2 := ho.block w.heap.size (by omega) (by omega)
    have hb3 := ho.block 1 (by omega) hne
    rw [g2] at hb
    exact ⟨cell_of_row W _ 0 _ _ (0, 0) hb, cell_of_row W _ 1 _ _ (0, 0) hb, hb2.trans g1, ((Only.refl _ w).step hb0).trans ho, ((World.cell?_of_block (a := ⟨1, 0, none⟩) (hb3.trans (hb0.block _ hlt))).trans hmx), by have := ho.size; omega⟩)
  have HT0 := Lib.hid (h.below hb0)
  have HTB := Lib.hid htb
  have HW0 := Lib.hid hW0
  obtain ⟨_, _, y2, y3, _⟩ := h.cells
  rw [← hP] at y2 y3
  have HSe := Lib.hid (see_any W0 tb s i HT0.out hi (by omega))
  have HP := Lib.hid hP
  obtain ⟨Z, hZe⟩ : ∃ Z, Z = i + wordLen ((bytesOf s).drop i) := ⟨_, rfl⟩
  have hzl : 1 ≤ wordLen ((bytesOf s).drop i) := by
    rw [wordLen_in _ i (by rw [hbl]; exact hi) hnb]
    omega
  have hzs : Z ≤ s.size := by
    have := wordLen_le ((bytesOf s).drop i)
    rw [List.length_drop, hbl] at this
    omega
  obtain ⟨X, hX⟩ : ∃ X, X = bstr (((bytesOf s).drop i).take (wordLen ((bytesOf s).drop i))) := ⟨_, rfl⟩
  have hXe : s.extract i Z = X := by
    rw [extract_bstr s i Z (by omega), hX]
    congr 2
    omega
  have hXs : X.size = Z - i := by
    rw [hX, size_bstr, List.length_take, List.length_drop, hbl]
    omega
  obtain ⟨c, hc⟩ : ∃ c, c = (bytesOf s).getD i 0 := ⟨_, rfl⟩
  have hS : tokS s i = (match wordS X with
    | some (k, n, t) => .tok k n t (Z - i)
    | none => .bad i) := by
    have e0 : ∀ d, isEnd d = true → ¬ (bytesOf s).getD i 0 = d := fun d hd e => by rw [e, hd] at hnb; cases hnb
    have hn : Z - i = wordLen ((bytesOf s).drop i) := by omega
    rw [hn, hX]
    unfold tokS
    rw [if_neg (e0 40 rfl), if_neg (e0 41 rfl), if_neg (e0 34 rfl)]
    cases wordS (bstr (((bytesOf s).drop i).take (wordLen ((bytesOf s).drop i)))) <;> rfl
  have h40 : ((c : Int) == 40) = false := by
    have : ¬ (c : Int) = 40 := fun e => by
      have e2 : c = 40 := by omega
      rw [← hc, e2] at hnb; cases hnb
    simpa using this
  have h41 : ((c : Int) == 41) = false := by
    have : ¬ (c : Int) = 41 := fun e => by
      have e2 : c = 41 := by omega
      rw [← hc, e2] at hnb; cases hnb
    simpa using this
  have h34 : ((c : Int) == 34) = false := by
    have : ¬ (c : Int) = 34 := fun e => by
      have e2 : c = 34 := by omega
      rw [← hc, e2] at hnb; cases hnb
    simpa using this
  rw [← hc] at HSe
  have hiz : i < Z := by omega
  have HS := Lib.hid hS
  have HZe := Lib.hid hZe
  have HXe := Lib.hid hXe
  clear hP hW0 hb0 hs0 g1 g2 ha1 hsz1 h hc hS hZe hX hXe hnb hmx hlt hne
  go_enter Try.func20, Try.ntmps20
  go_wp2_with fail
  rw [← HW0.out]
  refine HSe.out.mono ?_
  clear HSe
  rintro e w1 ⟨rfl, hb1⟩
  have HT1 := Lib.hid (HT0.out.below hb1)
  have HO1 : Hid (Only (fun k => k = tb) W0 w1) := Lib.hid (Only.of_below hb1)
  obtain ⟨_, yi, _, _, _⟩ := HT1.out.cells
  clear hb1 y2 y3
  go_wp2_with fail
  go_loopw [35] (fun _ wr => ∃ j : Nat, i ≤ j ∧ j ≤ Z ∧ Hid (j + wordLen ((bytesOf s).drop j) = Z) ∧ Hid (TextAt wr tb s j) ∧ Hid (Only (fun k => k = tb) W0 wr)) (fun _ wr => s.size - idxOf wr tb)
  case atStart => exact ⟨i, Nat.le_refl _, by omega, Lib.hid HZe.out.symm, HT1, HO1⟩
  case round =>
    obtain ⟨j, hij, hjz, HJ, HTj, HO⟩ := hrel
    have HM := Lib.hid (more_any wr tb s j HTj.out (by omega))
    by_cases hlt : j < s.size
    · rw [decide_eq_true hlt] at HM
      go_wp2_with fail
      refine HM.out.mono ?_
      clear HM
      rintro e w3 ⟨rfl, hb3⟩
      have HT3 := Lib.hid (HTj.out.below hb3)
      have HO3 := Lib.hid (HO.out.step hb3)
      have HSe := Lib.hid (see_any w3 tb s j HT3.out hlt (by omega))
      have hd256 := byte_lt s j
      have HIn := Lib.hid (wordLen_in (bytesOf s) j (by rw [hbl]; exact hlt))
      have HOut := Lib.hid (fun h => wordLen_out (bytesOf s) j (Or.inr h))
      have HTk := Lib.hid (fun W (hT : TextAt W tb s j) => take_any W tb s j hT hlt (by omega))
      obtain ⟨d, hd⟩ : ∃ d, d = (bytesOf s).getD j 0 := ⟨_, rfl⟩
      rw [← hd] at HSe hd256 HIn HOut HTk
      have HE := Lib.hid (fun W => endsWord_any d hd256 W)
      clear hb3 hd
      go_wp2_with fail
      refine HSe.out.mono ?_
      clear HSe
      rintro e w4 ⟨rfl, hb4⟩
      have HT4 := Lib.hid (HT3.out.below hb4)
      have HO4 := Lib.hid (HO3.out.step hb4)
      clear hb4
      by_cases hend : isEnd d = true
      · rw [hend] at HE
        have hZj : Z = j := by
          have := HJ.out
          rw [HOut.out hend] at this
          exact this.symm
        subst hZj
        clear hend HIn HOut HTk
        go_wp2_with fail
        refine (HE.out _).mono ?_
        rintro e wy ⟨rfl, rfl⟩
        clear HE
        have HS0 := HS
        clear HS
        cases hws : wordS X with
        | none =>
          have HWs := Lib.hid hws
          rw [hws] at HS0
          clear hws
          obtain ⟨v0, v1, _, _, _, _⟩ := HZ.out w4 HO4.out
          have HC : Hid (∀ W, Gl w4.drew W → W.cell? ⟨tb, 0, none⟩ = some (.string s) ∧ W.cell? ⟨tb, 1, none⟩ = some (.int .i64 (Z : Int))) := Lib.hid (fun W hW => by
            have h := (HT4.out.below hW.undrew).cells
            exact ⟨h.1, h.2.1⟩)
          have hx := HXe.out
          have HWd := Lib.hid (fun W (hm : W.cell? ⟨1, 0, none⟩ = some (.int .i64 mx)) => word_any X (by omega) (by omega) W mx hm)
          have hiZ : (i : Int) ≤ (Z : Int) := by omega
          have hZs : (Z : Int) ≤ (s.size : Int) := by omega
          have HS : Hid (tokS s i = .bad i) := Lib.hid HS0.out
          have HR : Hid (∀ W, W.cell? ⟨1, 0, none⟩ = some (.int .i64 mx) → Calls Try.prog 36 #[.string X] W fun e w' => e = .returned (.tuple #[.agg #[.int .i64 0, .int .i64 0, .int .i64 0, .int .i64 0, .string ⟨#[]⟩], .bool false]) ∧ Below W.heap.size W w') := Lib.hid (fun W hm => (HWd.out W hm).mono (fun e w' h => ⟨by rw [h.1, HWs.out]; rfl, h.2⟩))
          have hA : Below w4.heap.size w4 (w4.alloc (.cells #[.int .i64 0, .int .i64 0, .int .i64 0, .int .i64 0, .string ⟨#[]⟩] 44)) := (Below.refl _ _).alloc (Nat.le_refl _) _
          have HA : Hid (Only (fun k => k = tb) W0 (w4.alloc (.cells #[.int .i64 0, .int .i64 0, .int .i64 0, .int .i64 0, .string ⟨#[]⟩] 44)) ∧ TextAt (w4.alloc (.cells #[.int .i64 0, .int .i64 0, .int .i64 0, .int .i64 0, .string ⟨#[]⟩] 44)) tb s Z) := Lib.hid ⟨HO4.out.step hA, HT4.out.below hA⟩
          obtain ⟨x0, x1, _, _, _⟩ := HT4.out.cells
          obtain ⟨x2, x3, _, _, _⟩ := HA.out.2.cells
          clear hA HWd
          go_upto_region 14 with fail
          go_cut [5, 6] from 45 to 58 (fun v5 v6 wx => ∃ ub, v5 = .pointer (some ⟨ub, 0, none⟩) ∧ v6 = .bool false ∧ Hid (wx.heap[ub]? = some (.cells #[.int .i64 0, .int .i64 0, .int .i64 0, .int .i64 0, .string ⟨#[]⟩] 44)) ∧ Hid (w.heap.size + 2 ≤ ub) ∧ Hid (Only (fun k => k = tb) W0 wx) ∧ Hid (TextAt wx tb s Z))
          case first =>
            go_region_with (first
              | (go_at_call 36; refine (HR.out w4.drew (HZ.out w4 HO4.out).2.2.2.2.1).mono ?_; rintro e w8 ⟨rfl, hb8⟩; have HO8 := Lib.hid (HO4.out.step (below_undrew hb8)); have HT8 := Lib.hid (HT4.out.below (below_undrew hb8)); clear hb8)
              | (go_at_call 36; refine (HR.out (w4.alloc (.cells #[.int .i64 0, .int .i64 0, .int .i64 0, .int .i64 0, .string ⟨#[]⟩] 44)).drew (HZ.out _ HA.out.1).2.2.2.2.1).mono ?_; rintro e w8 ⟨rfl, hb8⟩; have HB8 := Lib.hid (below_undrew hb8); have HO8 := Lib.hid (HA.out.1.step HB8.out); have HT8 := Lib.hid (HA.out.2.below HB8.out); have hz8 := alloc_keep HB8.out; have c0 := cell_of_row w8 w4.heap.size 0 _ _ (0, 0) hz8; have c1 := cell_of_row w8 w4.heap.size 1 _ _ (0, 0) hz8; have c2 := cell_of_row w8 w4.heap.size 2 _ _ (0, 0) hz8; have c3 := cell_of_row w8 w4.heap.size 3 _ _ (0, 0) hz8; have c4 := cell_of_row w8 w4.heap.size 4 _ _ (0, 0) hz8; have z0 := frozen_of_row w8 w4.heap.size 0 _ _ hz8; have z1 := frozen_of_row w8 w4.heap.size 1 _ _ hz8; have z2 := frozen_of_row w8 w4.heap.size 2 _ _ hz8; have z3 := frozen_of_row w8 w4.heap.size 3 _ _ hz8; have z4 := frozen_of_row w8 w4.heap.size 4 _ _ hz8; have HZ8 := Lib.hid hz8; clear hb8 hz8))
            all_goals
              go_wp2_with fail
              go_meet
              refine ⟨_, rfl, rfl, ?_, ?_, ?_, ?_⟩
              · first | exact Lib.hid (tok_set HZ8.out _ _ _ _ _) | exact Lib.hid (heap_alloc w8 _)
              · first | exact (have _ := HZ8; Lib.hid (HZ.out w4 HO4.out).2.2.2.2.2) | exact Lib.hid (HZ.out w8 HO8.out).2.2.2.2.2
              · first | exact (have _ := HZ8; Lib.hid (tok_only HO8.out HO4.out.size _ _ _ _ _)) | exact Lib.hid (HO8.out.step ((Below.refl _ _).alloc (Nat.le_refl _) _))
              · first | exact (have _ := HZ8; Lib.hid (tok_text HT8.out (Nat.ne_of_lt HT4.out.lt) _ _ _ _ _)) | exact Lib.hid (HT8.out.below ((Below.refl _ _).alloc (Nat.le_refl _) _))
          case rest =>
            obtain ⟨ub, rfl, rfl, HU, HUb, HO9, HT9⟩ := hcut
            obtain ⟨v0, v1, hz, hoa, _, _⟩ := HZ.out wc HO9.out
            have HOA := Lib.hid hoa
            have HSy := Lib.hid (syntax_any P.1 P.2 wc)
            clear hz hoa
            go_wp2_with fail
            refine HSy.out.mono ?_
            rintro e w10 ⟨rfl, hb10⟩
            have HO10 := Lib.hid (HOA.out.step hb10)
            clear hb10
            go_wp2_with fail
            refine ⟨rfl, ?_, HO10.out⟩
            rw [HS.out]
            show Thrown _ (posAt (bytesOf s) i)
            rw [← HP.out]
            rfl
        | some r =>
          obtain ⟨k, n, t⟩ := r
          have HWs := Lib.hid hws
          rw [hws] at HS0
          clear hws
          obtain ⟨v0, v1, _, _, _, _⟩ := HZ.out w4 HO4.out
          have HC : Hid (∀ W, Gl w4.drew W → W.cell? ⟨tb, 0, none⟩ = some (.string s) ∧ W.cell? ⟨tb, 1, none⟩ = some (.int .i64 (Z : Int))) := Lib.hid (fun W hW => by
            have h := (HT4.out.below hW.undrew).cells
            exact ⟨h.1, h.2.1⟩)
          have hx := HXe.out
          have HWd := Lib.hid (fun W (hm : W.cell? ⟨1, 0, none⟩ = some (.int .i64 mx)) => word_any X (by omega) (by omega) W mx hm)
          have hiZ : (i : Int) ≤ (Z : Int) := by omega
          have hZs : (Z : Int) ≤ (s.size : Int) := by omega
          have HS : Hid (tokS s i = .tok k n t (Z - i)) := Lib.hid HS0.out
          have HR : Hid (∀ W, W.cell? ⟨1, 0, none⟩ = some (.int .i64 mx) → Calls Try.prog 36 #[.string X] W fun e w' => e = .returned (.tuple #[.agg #[.int .i64 k, .int .i64 0, .int .i64 0, .int .i64 n, .string t], .bool true]) ∧ Below W.heap.size W w') := Lib.hid (fun W hm => (HWd.out W hm).mono (fun e w' h => ⟨by rw [h.1, HWs.out]; rfl, h.2⟩))
          have hA : Below w4.heap.size w4 (w4.alloc (.cells #[.int .i64 0, .int .i64 0, .int .i64 0, .int .i64 0, .string ⟨#[]⟩] 44)) := (Below.refl _ _).alloc (Nat.le_refl _) _
          have HA : Hid (Only (fun k => k = tb) W0 (w4.alloc (.cells #[.int .i64 0, .int .i64 0, .int .i64 0, .int .i64 0, .string ⟨#[]⟩] 44)) ∧ TextAt (w4.alloc (.cells #[.int .i64 0, .int .i64 0, .int .i64 0, .int .i64 0, .string ⟨#[]⟩] 44)) tb s Z) := Lib.hid ⟨HO4.out.step hA, HT4.out.below hA⟩
          obtain ⟨x0, x1, _, _, _⟩ := HT4.out.cells
          obtain ⟨x2, x3, _, _, _⟩ := HA.out.2.cells
          clear hA HWd
          go_upto_region 14 with fail
          go_cut [5, 6] from 45 to 58 (fun v5 v6 wx => ∃ ub, v5 = .pointer (some ⟨ub, 0, none⟩) ∧ v6 = .bool true ∧ Hid (wx.heap[ub]? = some (.cells #[.int .i64 k, .int .i64 0, .int .i64 0, .int .i64 n, .string t] 44)) ∧ Hid (w.heap.size + 2 ≤ ub) ∧ Hid (Only (fun k => k = tb) W0 wx) ∧ Hid (TextAt wx tb s Z))
          case first =>
            go_region_with (first
              | (go_at_call 36; refine (HR.out w4.drew (HZ.out w4 HO4.out).2.2.2.2.1).mono ?_; rintro e w8 ⟨rfl, hb8⟩; have HO8 := Lib.hid (HO4.out.step (below_undrew hb8)); have HT8 := Lib.hid (HT4.out.below (below_undrew hb8)); clear hb8)
              | (go_at_call 36; refine (HR.out (w4.alloc (.cells #[.int .i64 0, .int .i64 0, .int .i64 0, .int .i64 0, .string ⟨#[]⟩] 44)).drew (HZ.out _ HA.out.1).2.2.2.2.1).mono ?_; rintro e w8 ⟨rfl, hb8⟩; have HB8 := Lib.hid (below_undrew hb8); have HO8 := Lib.hid (HA.out.1.step HB8.out); have HT8 := Lib.hid (HA.out.2.below HB8.out); have hz8 := alloc_keep HB8.out; have c0 := cell_of_row w8 w4.heap.size 0 _ _ (0, 0) hz8; have c1 := cell_of_row w8 w4.heap.size 1 _ _ (0, 0) hz8; have c2 := cell_of_row w8 w4.heap.size 2 _ _ (0, 0) hz8; have c3 := cell_of_row w8 w4.heap.size 3 _ _ (0, 0) hz8; have c4 := cell_of_row w8 w4.heap.size 4 _ _ (0, 0) hz8; have z0 := frozen_of_row w8 w4.heap.size 0 _ _ hz8; have z1 := frozen_of_row w8 w4.heap.size 1 _ _ hz8; have z2 := frozen_of_row w8 w4.heap.size 2 _ _ hz8; have z3 := frozen_of_row w8 w4.heap.size 3 _ _ hz8; have z4 := frozen_of_row w8 w4.heap.size 4 _ _ hz8; have HZ8 := Lib.hid hz8; clear hb8 hz8))
            all_goals
              go_wp2_with fail
              go_meet
              refine ⟨_, rfl, rfl, ?_, ?_, ?_, ?_⟩
              · first | exact Lib.hid (tok_set HZ8.out _ _ _ _ _) | exact Lib.hid (heap_alloc w8 _)
              · first | exact (have _ := HZ8; Lib.hid (HZ.out w4 HO4.out).2.2.2.2.2) | exact Lib.hid (HZ.out w8 HO8.out).2.2.2.2.2
              · first | exact (have _ := HZ8; Lib.hid (tok_only HO8.out HO4.out.size _ _ _ _ _)) | exact Lib.hid (HO8.out.step ((Below.refl _ _).alloc (Nat.le_refl _) _))
              · first | exact (have _ := HZ8; Lib.hid (tok_text HT8.out (Nat.ne_of_lt HT4.out.lt) _ _ _ _ _)) | exact Lib.hid (HT8.out.below ((Below.refl _ _).alloc (Nat.le_refl _) _))
          case rest =>
            obtain ⟨ub, rfl, rfl, HU, HUb, HO9, HT9⟩ := hcut
            obtain ⟨v0, v1, hz, hoa, _, _⟩ := HZ.out wc HO9.out
            have HZc := Lib.hid hz
            have HOA := Lib.hid hoa
            have t0 := cell_of_row wc ub 0 _ _ (0, 0) HU.out
            have t1 := cell_of_row wc ub 1 _ _ (0, 0) HU.out
            have t2 := cell_of_row wc ub 2 _ _ (0, 0) HU.out
            have t3 := cell_of_row wc ub 3 _ _ (0, 0) HU.out
            have t4 := cell_of_row wc ub 4 _ _ (0, 0) HU.out
            have tf1 := frozen_of_row wc ub 1 _ _ HU.out
            have tf2 := frozen_of_row wc ub 2 _ _ HU.out
            clear hz hoa
            go_upto_region 18 with fail
            have hA1 : ((wc.setCell ⟨ub, 1, none⟩ (.int .i64 (P.1 : Int))).setCell ⟨ub, 2, none⟩ (.int .i64 (P.2 : Int))).heap[ub]? = some (.cells #[.int .i64 k, .int .i64 (P.1 : Int), .int .i64 (P.2 : Int), .int .i64 n, .string t] 44) := by
              rw [set_put _ ub 2 _ (set_put _ ub 1 _ HU.out)]
              rfl
            have hu1 : w.heap.size ≠ ub := by have := HUb.out; omega
            have hu2 : tb ≠ ub := by have := HUb.out; have := HTB.out; omega
            have hu3 : w.heap.size ≤ ub := by have := HUb.out; omega
            have hA2 : ((wc.setCell ⟨ub, 1, none⟩ (.int .i64 (P.1 : Int))).setCell ⟨ub, 2, none⟩ (.int .i64 (P.2 : Int))).heap[w.heap.size]? = some (.cells #[.int .i64 0, .int .i64 0, .int .i64 0, .int .i64 0, .string ⟨#[]⟩] 44) := by
              rw [Below.heap_setCell _ _ _ _ hu1, Below.heap_setCell _ _ _ _ hu1]
              exact HZc.out
            have hA3 : Only (fun k => k = tb) w ((wc.setCell ⟨ub, 1, none⟩ (.int .i64 (P.1 : Int))).setCell ⟨ub, 2, none⟩ (.int .i64 (P.2 : Int))) := (HOA.out.setHigh (p := ⟨ub, 1, none⟩) hu3 _).setHigh (p := ⟨ub, 2, none⟩) hu3 _
            have hA4 : TextAt ((wc.setCell ⟨ub, 1, none⟩ (.int .i64 (P.1 : Int))).setCell ⟨ub, 2, none⟩ (.int .i64 (P.2 : Int))) tb s (i + (Z - i)) := by
              rw [show i + (Z - i) = Z by omega]
              exact (HT9.out.other (p := ⟨ub, 1, none⟩) hu2 _).other (p := ⟨ub, 2, none⟩) hu2 _
            clear t0 t1 t2 t3 t4 tf1 tf2 v0 v1
            generalize ((wc.setCell ⟨ub, 1, none⟩ (.int .i64 (P.1 : Int))).setCell ⟨ub, 2, none⟩ (.int .i64 (P.2 : Int))) = wa at *
            have t0 := cell_of_row wa ub 0 _ _ (0, 0) hA1
            have t1 := cell_of_row wa ub 1 _ _ (0, 0) hA1
            have t2 := cell_of_row wa ub 2 _ _ (0, 0) hA1
            have t3 := cell_of_row wa ub 3 _ _ (0, 0) hA1
            have t4 := cell_of_row wa ub 4 _ _ (0, 0) hA1
            obtain ⟨c0, c1, c2, c3, c4, z0, z1, z2, z3, z4, HF⟩ := tok_lay hA2 hA3 hA4 (Nat.ne_of_lt HTB.out) (Nat.le_refl _)
            clear hA1 hA2 hA3 hA4 hu1 hu2 hu3
            go_wp2_with fail
            obtain ⟨hh, hof, htf⟩ := HF.out (.int .i64 k) (.int .i64 (P.1 : Int)) (.int .i64 (P.2 : Int)) (.int .i64 n) (.string t)
            generalize ((((((((((wa).setCell ⟨w.heap.size, 0, none⟩ (.int .i64 k))).setCell ⟨w.heap.size, 1, none⟩ (.int .i64 (P.1 : Int)))).setCell ⟨w.heap.size, 2, none⟩ (.int .i64 (P.2 : Int)))).setCell ⟨w.heap.size, 3, none⟩ (.int .i64 n))).setCell ⟨w.heap.size, 4, none⟩ (.string t)) = WF at *
            have e0 := cell_of_row WF w.heap.size 0 _ _ (0, 0) hh
            have e1 := cell_of_row WF w.heap.size 1 _ _ (0, 0) hh
            have e2 := cell_of_row WF w.heap.size 2 _ _ (0, 0) hh
            have e3 := cell_of_row WF w.heap.size 3 _ _ (0, 0) hh
            have e4 := cell_of_row WF w.heap.size 4 _ _ (0, 0) hh
            clear hh c0 c1 c2 c3 c4 z0 z1 z2 z3 z4 t0 t1 t2 t3 t4
            refine bodyPost_ret (v := tokV k P n t) (by simp [results, Try.results20, go_sem, e0, e1, e2, e3, e4, tokV]) rfl ⟨?_, hof⟩
            rw [HS.out]
            show Ending.returned (tokV k P n t) = Ending.returned (tokV k (posAt (bytesOf s) i) n t) ∧ _
            rw [← HP.out]
            exact ⟨rfl, htf⟩
      · have hef : isEnd d = false := by simpa using hend
        rw [hef] at HE
        have HN : Hid (j + 1 + wordLen ((bytesOf s).drop (j + 1)) = Z) := Lib.hid (by
          have h1 := HJ.out
          rw [HIn.out hef] at h1
          omega)
        clear hend hef HIn HOut
        go_wp2_with fail
        refine (HE.out _).mono ?_
        rintro e w5 ⟨rfl, rfl⟩
        have HTk2 := Lib.hid (HTk.out w4 HT4.out)
        clear HE HTk
        go_wp2_with fail
        refine HTk2.out.mono ?_
        rintro e w6 ⟨rfl, ht6, ho6⟩
        have HT6 := Lib.hid ht6
        have HO6 := Lib.hid (HO4.out.trans ho6)
        clear ht6 ho6 HTk2
        go_wp2_with fail
        go_roundw
        case rel => exact ⟨j + 1, by omega, by have := HN.out; omega, HN, HT6, HO6⟩
        case measure =>
          rw [idxOf_at HT6.out, idxOf_at HTj.out]
          omega
    · rw [decide_eq_false hlt] at HM
      have hZj : Z = j := by omega
      subst hZj
      go_wp2_with fail
      refine HM.out.mono ?_
      clear HM
      rintro e we ⟨rfl, hb3⟩
      have HTe := Lib.hid (HTj.out.below hb3)
      have HOe := Lib.hid (HO.out.step hb3)
      clear hb3
      have HS0 := HS
      clear HS
      cases hws : wordS X with
      | none =>
        have HWs := Lib.hid hws
        rw [hws] at HS0
        clear hws
        obtain ⟨v0, v1, _, _, _, _⟩ := HZ.out we HOe.out
        have HC : Hid (∀ W, Gl we.drew W → W.cell? ⟨tb, 0, none⟩ = some (.string s) ∧ W.cell? ⟨tb, 1, none⟩ = some (.int .i64 (Z : Int))) := Lib.hid (fun W hW => by
          have h := (HTe.out.below hW.undrew).cells
          exact ⟨h.1, h.2.1⟩)
        have hx := HXe.out
        have HWd := Lib.hid (fun W (hm : W.cell? ⟨1, 0, none⟩ = some (.int .i64 mx)) => word_any X (by omega) (by omega) W mx hm)
        have hiZ : (i : Int) ≤ (Z : Int) := by omega
        have hZs : (Z : Int) ≤ (s.size : Int) := by omega
        have HS : Hid (tokS s i = .bad i) := Lib.hid HS0.out
        have HR : Hid (∀ W, W.cell? ⟨1, 0, none⟩ = some (.int .i64 mx) → Calls Try.prog 36 #[.string X] W fun e w' => e = .returned (.tuple #[.agg #[.int .i64 0, .int .i64 0, .int .i64 0, .int .i64 0, .string ⟨#[]⟩], .bool false]) ∧ Below W.heap.size W w') := Lib.hid (fun W hm => (HWd.out W hm).mono (fun e w' h => ⟨by rw [h.1, HWs.out]; rfl, h.2⟩))
        have hA : Below we.heap.size we (we.alloc (.cells #[.int .i64 0, .int .i64 0, .int .i64 0, .int .i64 0, .string ⟨#[]⟩] 44)) := (Below.refl _ _).alloc (Nat.le_refl _) _
        have HA : Hid (Only (fun k => k = tb) W0 (we.alloc (.cells #[.int .i64 0, .int .i64 0, .int .i64 0, .int .i64 0, .string ⟨#[]⟩] 44)) ∧ TextAt (we.alloc (.cells #[.int .i64 0, .int .i64 0, .int .i64 0, .int .i64 0, .string ⟨#[]⟩] 44)) tb s Z) := Lib.hid ⟨HOe.out.step hA, HTe.out.below hA⟩
        obtain ⟨x0, x1, _, _, _⟩ := HTe.out.cells
        obtain ⟨x2, x3, _, _, _⟩ := HA.out.2.cells
        clear hA HWd
        go_upto_region 14 with fail
        go_cut [5, 6] from 45 to 58 (fun v5 v6 wx => ∃ ub, v5 = .pointer (some ⟨ub, 0, none⟩) ∧ v6 = .bool false ∧ Hid (wx.heap[ub]? = some (.cells #[.int .i64 0, .int .i64 0, .int .i64 0, .int .i64 0, .string ⟨#[]⟩] 44)) ∧ Hid (w.heap.size + 2 ≤ ub) ∧ Hid (Only (fun k => k = tb) W0 wx) ∧ Hid (TextAt wx tb s Z))
        case first =>
          go_region_with (first
            | (go_at_call 36; refine (HR.out we.drew (HZ.out we HOe.out).2.2.2.2.1).mono ?_; rintro e w8 ⟨rfl, hb8⟩; have HO8 := Lib.hid (HOe.out.step (below_undrew hb8)); have HT8 := Lib.hid (HTe.out.below (below_undrew hb8)); clear hb8)
            | (go_at_call 36; refine (HR.out (we.alloc (.cells #[.int .i64 0, .int .i64 0, .int .i64 0, .int .i64 0, .string ⟨#[]⟩] 44)).drew (HZ.out _ HA.out.1).2.2.2.2.1).mono ?_; rintro e w8 ⟨rfl, hb8⟩; have HB8 := Lib.hid (below_undrew hb8); have HO8 := Lib.hid (HA.out.1.step HB8.out); have HT8 := Lib.hid (HA.out.2.below HB8.out); have hz8 := alloc_keep HB8.out; have c0 := cell_of_row w8 we.heap.size 0 _ _ (0, 0) hz8; have c1 := cell_of_row w8 we.heap.size 1 _ _ (0, 0) hz8; have c2 := cell_of_row w8 we.heap.size 2 _ _ (0, 0) hz8; have c3 := cell_of_row w8 we.heap.size 3 _ _ (0, 0) hz8; have c4 := cell_of_row w8 we.heap.size 4 _ _ (0, 0) hz8; have z0 := frozen_of_row w8 we.heap.size 0 _ _ hz8; have z1 := frozen_of_row w8 we.heap.size 1 _ _ hz8; have z2 := frozen_of_row w8 we.heap.size 2 _ _ hz8; have z3 := frozen_of_row w8 we.heap.size 3 _ _ hz8; have z4 := frozen_of_row w8 we.heap.size 4 _ _ hz8; have HZ8 := Lib.hid hz8; clear hb8 hz8))
          all_goals
            go_wp2_with fail
            go_meet
            refine ⟨_, rfl, rfl, ?_, ?_, ?_, ?_⟩
            · first | exact Lib.hid (tok_set HZ8.out _ _ _ _ _) | exact Lib.hid (heap_alloc w8 _)
            · first | exact (have _ := HZ8; Lib.hid (HZ.out we HOe.out).2.2.2.2.2) | exact Lib.hid (HZ.out w8 HO8.out).2.2.2.2.2
            · first | exact (have _ := HZ8; Lib.hid (tok_only HO8.out HOe.out.size _ _ _ _ _)) | exact Lib.hid (HO8.out.step ((Below.refl _ _).alloc (Nat.le_refl _) _))
            · first | exact (have _ := HZ8; Lib.hid (tok_text HT8.out (Nat.ne_of_lt HTe.out.lt) _ _ _ _ _)) | exact Lib.hid (HT8.out.below ((Below.refl _ _).alloc (Nat.le_refl _) _))
        case rest =>
          obtain ⟨ub, rfl, rfl, HU, HUb, HO9, HT9⟩ := hcut
          obtain ⟨v0, v1, hz, hoa, _, _⟩ := HZ.out wc HO9.out
          have HOA := Lib.hid hoa
          have HSy := Lib.hid (syntax_any P.1 P.2 wc)
          clear hz hoa
          go_wp2_with fail
          refine HSy.out.mono ?_
          rintro e w10 ⟨rfl, hb10⟩
          have HO10 := Lib.hid (HOA.out.step hb10)
          clear hb10
          go_wp2_with fail
          refine ⟨rfl, ?_, HO10.out⟩
          rw [HS.out]
          show Thrown _ (posAt (bytesOf s) i)
          rw [← HP.out]
          rfl
      | some r =>
        obtain ⟨k, n, t⟩ := r
        have HWs := Lib.hid hws
        rw [hws] at HS0
        clear hws
        obtain ⟨v0, v1, _, _, _, _⟩ := HZ.out we HOe.out
        have HC : Hid (∀ W, Gl we.drew W → W.cell? ⟨tb, 0, none⟩ = some (.string s) ∧ W.cell? ⟨tb, 1, none⟩ = some (.int .i64 (Z : Int))) := Lib.hid (fun W hW => by
          have h := (HTe.out.below hW.undrew).cells
          exact ⟨h.1, h.2.1⟩)
        have hx := HXe.out
        have HWd := Lib.hid (fun W (hm : W.cell? ⟨1, 0, none⟩ = some (.int .i64 mx)) => word_any X (by omega) (by omega) W mx hm)
        have hiZ : (i : Int) ≤ (Z : Int) := by omega
        have hZs : (Z : Int) ≤ (s.size : Int) := by omega
        have HS : Hid (tokS s i = .tok k n t (Z - i)) := Lib.hid HS0.out
        have HR : Hid (∀ W, W.cell? ⟨1, 0, none⟩ = some (.int .i64 mx) → Calls Try.prog 36 #[.string X] W fun e w' => e = .returned (.tuple #[.agg #[.int .i64 k, .int .i64 0, .int .i64 0, .int .i64 n, .string t], .bool true]) ∧ Below W.heap.size W w') := Lib.hid (fun W hm => (HWd.out W hm).mono (fun e w' h => ⟨by rw [h.1, HWs.out]; rfl, h.2⟩))
        have hA : Below we.heap.size we (we.alloc (.cells #[.int .i64 0, .int .i64 0, .int .i64 0, .int .i64 0, .string ⟨#[]⟩] 44)) := (Below.refl _ _).alloc (Nat.le_refl _) _
        have HA : Hid (Only (fun k => k = tb) W0 (we.alloc (.cells #[.int .i64 0, .int .i64 0, .int .i64 0, .int .i64 0, .string ⟨#[]⟩] 44)) ∧ TextAt (we.alloc (.cells #[.int .i64 0, .int .i64 0, .int .i64 0, .int .i64 0, .string ⟨#[]⟩] 44)) tb s Z) := Lib.hid ⟨HOe.out.step hA, HTe.out.below hA⟩
        obtain ⟨x0, x1, _, _, _⟩ := HTe.out.cells
        obtain ⟨x2, x3, _, _, _⟩ := HA.out.2.cells
        clear hA HWd
        go_upto_region 14 with fail
        go_cut [5, 6] from 45 to 58 (fun v5 v6 wx => ∃ ub, v5 = .pointer (some ⟨ub, 0, none⟩) ∧ v6 = .bool true ∧ Hid (wx.heap[ub]? = some (.cells #[.int .i64 k, .int .i64 0, .int .i64 0, .int .i64 n, .string t] 44)) ∧ Hid (w.heap.size + 2 ≤ ub) ∧ Hid (Only (fun k => k = tb) W0 wx) ∧ Hid (TextAt wx tb s Z))
        case first =>
          go_region_with (first
            | (go_at_call 36; refine (HR.out we.drew (HZ.out we HOe.out).2.2.2.2.1).mono ?_; rintro e w8 ⟨rfl, hb8⟩; have HO8 := Lib.hid (HOe.out.step (below_undrew hb8)); have HT8 := Lib.hid (HTe.out.below (below_undrew hb8)); clear hb8)
            | (go_at_call 36; refine (HR.out (we.alloc (.cells #[.int .i64 0, .int .i64 0, .int .i64 0, .int .i64 0, .string ⟨#[]⟩] 44)).drew (HZ.out _ HA.out.1).2.2.2.2.1).mono ?_; rintro e w8 ⟨rfl, hb8⟩; have HB8 := Lib.hid (below_undrew hb8); have HO8 := Lib.hid (HA.out.1.step HB8.out); have HT8 := Lib.hid (HA.out.2.below HB8.out); have hz8 := alloc_keep HB8.out; have c0 := cell_of_row w8 we.heap.size 0 _ _ (0, 0) hz8; have c1 := cell_of_row w8 we.heap.size 1 _ _ (0, 0) hz8; have c2 := cell_of_row w8 we.heap.size 2 _ _ (0, 0) hz8; have c3 := cell_of_row w8 we.heap.size 3 _ _ (0, 0) hz8; have c4 := cell_of_row w8 we.heap.size 4 _ _ (0, 0) hz8; have z0 := frozen_of_row w8 we.heap.size 0 _ _ hz8; have z1 := frozen_of_row w8 we.heap.size 1 _ _ hz8; have z2 := frozen_of_row w8 we.heap.size 2 _ _ hz8; have z3 := frozen_of_row w8 we.heap.size 3 _ _ hz8; have z4 := frozen_of_row w8 we.heap.size 4 _ _ hz8; have HZ8 := Lib.hid hz8; clear hb8 hz8))
          all_goals
            go_wp2_with fail
            go_meet
            refine ⟨_, rfl, rfl, ?_, ?_, ?_, ?_⟩
            · first | exact Lib.hid (tok_set HZ8.out _ _ _ _ _) | exact Lib.hid (heap_alloc w8 _)
            · first | exact (have _ := HZ8; Lib.hid (HZ.out we HOe.out).2.2.2.2.2) | exact Lib.hid (HZ.out w8 HO8.out).2.2.2.2.2
            · first | exact (have _ := HZ8; Lib.hid (tok_only HO8.out HOe.out.size _ _ _ _ _)) | exact Lib.hid (HO8.out.step ((Below.refl _ _).alloc (Nat.le_refl _) _))
            · first | exact (have _ := HZ8; Lib.hid (tok_text HT8.out (Nat.ne_of_lt HTe.out.lt) _ _ _ _ _)) | exact Lib.hid (HT8.out.below ((Below.refl _ _).alloc (Nat.le_refl _) _))
        case rest =>
          obtain ⟨ub, rfl, rfl, HU, HUb, HO9, HT9⟩ := hcut
          obtain ⟨v0, v1, hz, hoa, _, _⟩ := HZ.out wc HO9.out
          have HZc := Lib.hid hz
          have HOA := Lib.hid hoa
          have t0 := cell_of_row wc ub 0 _ _ (0, 0) HU.out
          have t1 := cell_of_row wc ub 1 _ _ (0, 0) HU.out
          have t2 := cell_of_row wc ub 2 _ _ (0, 0) HU.out
          have t3 := cell_of_row wc ub 3 _ _ (0, 0) HU.out
          have t4 := cell_of_row wc ub 4 _ _ (0, 0) HU.out
          have tf1 := frozen_of_row wc ub 1 _ _ HU.out
          have tf2 := frozen_of_row wc ub 2 _ _ HU.out
          clear hz hoa
          go_upto_region 18 with fail
          have hA1 : ((wc.setCell ⟨ub, 1, none⟩ (.int .i64 (P.1 : Int))).setCell ⟨ub, 2, none⟩ (.int .i64 (P.2 : Int))).heap[ub]? = some (.cells #[.int .i64 k, .int .i64 (P.1 : Int), .int .i64 (P.2 : Int), .int .i64 n, .string t] 44) := by
            rw [set_put _ ub 2 _ (set_put _ ub 1 _ HU.out)]
            rfl
          have hu1 : w.heap.size ≠ ub := by have := HUb.out; omega
          have hu2 : tb ≠ ub := by have := HUb.out; have := HTB.out; omega
          have hu3 : w.heap.size ≤ ub := by have := HUb.out; omega
          have hA2 : ((wc.setCell ⟨ub, 1, none⟩ (.int .i64 (P.1 : Int))).setCell ⟨ub, 2, none⟩ (.int .i64 (P.2 : Int))).heap[w.heap.size]? = some (.cells #[.int .i64 0, .int .i64 0, .int .i64 0, .int .i64 0, .string ⟨#[]⟩] 44) := by
            rw [Below.heap_setCell _ _ _ _ hu1, Below.heap_setCell _ _ _ _ hu1]
            exact HZc.out
          have hA3 : Only (fun k => k = tb) w ((wc.setCell ⟨ub, 1, none⟩ (.int .i64 (P.1 : Int))).setCell ⟨ub, 2, none⟩ (.int .i64 (P.2 : Int))) := (HOA.out.setHigh (p := ⟨ub, 1, none⟩) hu3 _).setHigh (p := ⟨ub, 2, none⟩) hu3 _
          have hA4 : TextAt ((wc.setCell ⟨ub, 1, none⟩ (.int .i64 (P.1 : Int))).setCell ⟨ub, 2, none⟩ (.int .i64 (P.2 : Int))) tb s (i + (Z - i)) := by
            rw [show i + (Z - i) = Z by omega]
            exact (HT9.out.other (p := ⟨ub, 1, none⟩) hu2 _).other (p := ⟨ub, 2, none⟩) hu2 _
          clear t0 t1 t2 t3 t4 tf1 tf2 v0 v1
          generalize ((wc.setCell ⟨ub, 1, none⟩ (.int .i64 (P.1 : Int))).setCell ⟨ub, 2, none⟩ (.int .i64 (P.2 : Int))) = wa at *
          have t0 := cell_of_row wa ub 0 _ _ (0, 0) hA1
          have t1 := cell_of_row wa ub 1 _ _ (0, 0) hA1
          have t2 := cell_of_row wa ub 2 _ _ (0, 0) hA1
          have t3 := cell_of_row wa ub 3 _ _ (0, 0) hA1
          have t4 := cell_of_row wa ub 4 _ _ (0, 0) hA1
          obtain ⟨c0, c1, c2, c3, c4, z0, z1, z2, z3, z4, HF⟩ := tok_lay hA2 hA3 hA4 (Nat.ne_of_lt HTB.out) (Nat.le_refl _)
          clear hA1 hA2 hA3 hA4 hu1 hu2 hu3
          go_wp2_with fail
          obtain ⟨hh, hof, htf⟩ := HF.out (.int .i64 k) (.int .i64 (P.1 : Int)) (.int .i64 (P.2 : Int)) (.int .i64 n) (.string t)
          generalize ((((((((((wa).setCell ⟨w.heap.size, 0, none⟩ (.int .i64 k))).setCell ⟨w.heap.size, 1, none⟩ (.int .i64 (P.1 : Int)))).setCell ⟨w.heap.size, 2, none⟩ (.int .i64 (P.2 : Int)))).setCell ⟨w.heap.size, 3, none⟩ (.int .i64 n))).setCell ⟨w.heap.size, 4, none⟩ (.string t)) = WF at *
          have e0 := cell_of_row WF w.heap.size 0 _ _ (0, 0) hh
          have e1 := cell_of_row WF w.heap.size 1 _ _ (0, 0) hh
          have e2 := cell_of_row WF w.heap.size 2 _ _ (0, 0) hh
          have e3 := cell_of_row WF w.heap.size 3 _ _ (0, 0) hh
          have e4 := cell_of_row WF w.heap.size 4 _ _ (0, 0) hh
          clear hh c0 c1 c2 c3 c4 z0 z1 z2 z3 z4 t0 t1 t2 t3 t4
          refine bodyPost_ret (v := tokV k P n t) (by simp [results, Try.results20, go_sem, e0, e1, e2, e3, e4, tokV]) rfl ⟨?_, hof⟩
          rw [HS.out]
          show Ending.returned (tokV k P n t) = Ending.returned (tokV k (posAt (bytesOf s) i) n t) ∧ _
          rw [← HP.out]
          exact ⟨rfl, htf⟩
end Go.Proofs.Ytghddknhoiaboaa
