/-
  lex: a byte of a string.
-/
import Derived.Test.YtghddknhoiaboaaLexC
namespace Go.Proofs.Ytghddknhoiaboaa
open Go.ChangeShapes Go.WideShapes Go.ChangeAt Go.RowKit
set_option linter.unusedVariables false
set_option maxRecDepth 100000

inductive CR where
  | ok (b n : Nat)
  | open_
  | bad (k : Nat)
def xS : List Nat → CR
  | h :: g :: _ => match hexV h, hexV g with
    | some x, some y => .ok (x * 16 + y) 4
    | _, _ => .bad 1
  | _ => .bad 1
def escS : List Nat → CR
  | [] => .open_
  | d :: t => if d = 34 ∨ d = 92 then .ok d 2 else if d = 110 then .ok 10 2 else if d = 120 then xS t else .bad 1
/-- the byte of a string that comes next -/
def charS : List Nat → CR
  | [] => .open_
  | c :: t => if c < 32 then .bad 0 else if c = 92 then escS t else .ok c 1
theorem xS_no1 (l : List Nat) (j : Nat) (h : l.length ≤ j ∨ hexV (l.getD j 0) = none) : xS (l.drop j) = .bad 1 := by
  by_cases hj : j < l.length
  · have hn : hexV (l.getD j 0) = none := h.resolve_left (by omega)
    rw [drop_at l j hj]
    by_cases hj1 : j + 1 < l.length
    · rw [drop_at l (j + 1) hj1]
      show (match hexV (l.getD j 0), hexV (l.getD (j + 1) 0) with | some x, some y => CR.ok (x * 16 + y) 4 | _, _ => CR.bad 1) = _
      rw [hn]
    · rw [List.drop_eq_nil_of_le (by omega : l.length ≤ j + 1)]
      rfl
  · rw [List.drop_eq_nil_of_le (by omega)]
    rfl
theorem xS_no2 (l : List Nat) (j : Nat) (hj : j < l.length) (h : l.length ≤ j + 1 ∨ hexV (l.getD (j + 1) 0) = none) : xS (l.drop j) = .bad 1 := by
  rw [drop_at l j hj]
  by_cases hj1 : j + 1 < l.length
  · have hn : hexV (l.getD (j + 1) 0) = none := h.resolve_left (by omega)
    rw [drop_at l (j + 1) hj1]
    show (match hexV (l.getD j 0), hexV (l.getD (j + 1) 0) with | some x, some y => CR.ok (x * 16 + y) 4 | _, _ => CR.bad 1) = _
    rw [hn]
    cases hexV (l.getD j 0) <;> rfl
  · rw [List.drop_eq_nil_of_le (by omega : l.length ≤ j + 1)]
    rfl
theorem xS_yes (l : List Nat) (j x y : Nat) (hj : j + 1 < l.length) (hx : hexV (l.getD j 0) = some x) (hy : hexV (l.getD (j + 1) 0) = some y) : xS (l.drop j) = .ok (x * 16 + y) 4 := by
  rw [drop_at l j (by omega), drop_at l (j + 1) hj]
  show (match hexV (l.getD j 0), hexV (l.getD (j + 1) 0) with | some x, some y => CR.ok (x * 16 + y) 4 | _, _ => CR.bad 1) = _
  rw [hx, hy]
theorem hexV_lt {c v : Nat} (h : hexV c = some v) : v < 16 := by
  unfold hexV at h
  split at h
  · injection h with h; omega
  · split at h
    · injection h with h; omega
    · cases h
theorem or16' : ∀ (x y : Fin 16), bits .or .u8 (((x.val * 16 : Nat) : Int)) ((y.val : Nat) : Int) = ((x.val * 16 + y.val : Nat) : Int) := by decide +kernel
theorem or16 (x y : Nat) (hx : x < 16) (hy : y < 16) : bits .or .u8 ((x : Int) * 16) (y : Int) = (x : Int) * 16 + (y : Int) := by
  have := or16' ⟨x, hx⟩ ⟨y, hy⟩
  simpa using this
def CharPost (w : World) (tb : Nat) (s : ByteArray) (i : Nat) (p : Nat × Nat) (e : Ending) (w' : World) : Prop :=
  (match charS ((bytesOf s).drop i) with
    | .ok b n => e = .returned (.int .u8 (b : Int)) ∧ TextAt w' tb s (i + n)
    | .open_ => Thrown e p
    | .bad k => Thrown e (posAt (bytesOf s) (i + k))) ∧ Only (fun k => k = tb) w w'
set_option maxHeartbeats 4000000 in
theorem char_any (w : World) (tb : Nat) (s : ByteArray) (i : Nat) (p : Nat × Nat) (h : TextAt w tb s i) (hi : i < s.size) (hs : s.size ≤ 70000) :
    Calls Try.prog 39 #[.pointer (some ⟨tb, 0, none⟩), .agg #[.int .i64 (p.1 : Int), .int .i64 (p.2 : Int)]] w (CharPost w tb s i p) := by
  obtain ⟨p1, p2⟩ := p
  dsimp only
  have hbl := bytesOf_length s
  have hbx : Below w.heap.size w (w.alloc (.cells #[.int .i64 (p1 : Int), .int .i64 (p2 : Int)] 25)) := (Below.refl _ _).alloc (Nat.le_refl _) _
  have x0 : (w.alloc (.cells #[.int .i64 (p1 : Int), .int .i64 (p2 : Int)] 25)).cell? ⟨w.heap.size, 0, none⟩ = some (.int .i64 (p1 : Int)) := cell_at0 w _ _ 0 _ rfl
  have x1 : (w.alloc (.cells #[.int .i64 (p1 : Int), .int .i64 (p2 : Int)] 25)).cell? ⟨w.heap.size, 1, none⟩ = some (.int .i64 (p2 : Int)) := cell_at0 w _ _ 1 _ rfl
  have hsz : (w.alloc (.cells #[.int .i64 (p1 : Int), .int .i64 (p2 : Int)] 25)).heap.size = w.heap.size + 1 := size_alloc' w _
  have htb := h.lt
  have HT := Lib.hid (h.below hbx)
  obtain ⟨W0, hW0⟩ : ∃ W0, W0 = w.alloc (.cells #[.int .i64 (p1 : Int), .int .i64 (p2 : Int)] 25) := ⟨_, rfl⟩
  rw [← hW0] at hbx x0 x1 hsz HT
  have HB0 := Lib.hid hbx
  have HX : Hid (∀ W, Only (fun k => k = tb) W0 W → W.cell? ⟨w.heap.size, 0, none⟩ = some (.int .i64 (p1 : Int)) ∧ W.cell? ⟨w.heap.size, 1, none⟩ = some (.int .i64 (p2 : Int)) ∧ Only (fun k => k = tb) w W) := Lib.hid (fun W ho => by
    have hb := ho.block w.heap.size (by omega) (by omega)
    exact ⟨(World.cell?_of_block (a := ⟨w.heap.size, 0, none⟩) hb).trans x0, (World.cell?_of_block (a := ⟨w.heap.size, 1, none⟩) hb).trans x1, ((Only.refl _ w).step hbx).trans ho⟩)
  have HW0 := Lib.hid hW0
  have HSe := Lib.hid (see_any W0 tb s i HT.out hi (by omega))
  have hc256 := byte_lt s i
  have HDr := Lib.hid (drop_at (bytesOf s) i (by rw [hbl]; exact hi))
  obtain ⟨c, hc⟩ : ∃ c, c = (bytesOf s).getD i 0 := ⟨_, rfl⟩
  rw [← hc] at HSe hc256 HDr
  have HC := Lib.hid hc
  clear h hbx x0 x1 hsz hW0 hc
  by_cases hlow : c < 32
  · have hlowi : (c : Int) < 32 := by omega
    have HS : Hid (charS ((bytesOf s).drop i) = .bad 0) := Lib.hid (by rw [HDr.out]; exact if_pos hlow)
    obtain ⟨P, hP⟩ : ∃ P, P = posAt (bytesOf s) i := ⟨_, rfl⟩
    have HP := Lib.hid hP
    go_enter Try.func39, Try.ntmps39
    go_wp2_with fail
    rw [← HW0.out]
    refine HSe.out.mono ?_
    clear HSe
    rintro e w1 ⟨rfl, hb1⟩
    have HT1 := Lib.hid (HT.out.below hb1)
    obtain ⟨_, _, y2, y3, _⟩ := HT1.out.cells
    rw [← hP] at y2 y3
    have HSy := Lib.hid (syntax_any P.1 P.2 w1)
    have HOA := Lib.hid (HX.out w1 ((Only.refl _ W0).step hb1)).2.2
    clear hb1 hP
    go_wp2_with fail
    refine HSy.out.mono ?_
    rintro e w3 ⟨rfl, hb3⟩
    have HO3 := Lib.hid (HOA.out.step hb3)
    clear hb3
    go_wp2_with fail
    refine ⟨rfl, ?_, HO3.out⟩
    rw [HS.out]
    show Thrown _ (posAt (bytesOf s) i)
    rw [← HP.out]
    rfl
  · have hlown : ¬ (c : Int) < 32 := by omega
    have HTk := Lib.hid (fun W (hT : TextAt W tb s i) => take_any W tb s i hT hi hs)
    rw [← HC.out] at HTk
    by_cases h92 : c = 92
    · have h92b : ((c : Int) == 92) = true := by rw [h92]; decide
      have h92n : ((c : Int) != 92) = false := by rw [h92]; decide
      have HS0 : Hid (charS ((bytesOf s).drop i) = escS ((bytesOf s).drop (i + 1))) := Lib.hid (by rw [HDr.out]; show (if c < 32 then _ else if c = 92 then _ else _) = _; rw [if_neg hlow, if_pos h92])
      clear h92 hlow
      go_enter Try.func39, Try.ntmps39
      go_wp2_with fail
      rw [← HW0.out]
      refine HSe.out.mono ?_
      clear HSe
      rintro e w1 ⟨rfl, hb1⟩
      have HT1 := Lib.hid (HT.out.below hb1)
      have HO1 : Hid (Only (fun k => k = tb) W0 w1) := Lib.hid ((Only.refl _ W0).step hb1)
      clear hb1
      go_wp2_with fail
      refine (HTk.out w1 HT1.out).mono ?_
      clear HTk
      rintro e w2 ⟨rfl, ht2, ho2⟩
      have HT2 := Lib.hid ht2
      have HO2 := Lib.hid (HO1.out.trans ho2)
      have HM := Lib.hid (more_any w2 tb s (i + 1) ht2 (by omega))
      clear ht2 ho2
      by_cases hlt : i + 1 < s.size
      · rw [decide_eq_true hlt] at HM
        go_wp2_with fail
        refine HM.out.mono ?_
        clear HM
        rintro e w3 ⟨rfl, hb3⟩
        have HT3 := Lib.hid (HT2.out.below hb3)
        have HO3 := Lib.hid (HO2.out.step hb3)
        obtain ⟨_, _, y2, y3, _⟩ := HT3.out.cells
        obtain ⟨P, hP⟩ : ∃ P, P = posAt (bytesOf s) (i + 1) := ⟨_, rfl⟩
        rw [← hP] at y2 y3
        have HP := Lib.hid hP
        obtain ⟨W4, hW4⟩ : ∃ W4, W4 = w3.alloc (.cells #[.int .i64 (P.1 : Int), .int .i64 (P.2 : Int)] 25) := ⟨_, rfl⟩
        have hb4 : Below w3.heap.size w3 W4 := by rw [hW4]; exact (Below.refl _ _).alloc (Nat.le_refl _) _
        have hs4 : W4.heap.size = w3.heap.size + 1 := by rw [hW4]; exact size_alloc' w3 _
        have z0 : W4.cell? ⟨w3.heap.size, 0, none⟩ = some (.int .i64 (P.1 : Int)) := by rw [hW4]; exact cell_at0 w3 _ _ 0 _ rfl
        have z1 : W4.cell? ⟨w3.heap.size, 1, none⟩ = some (.int .i64 (P.2 : Int)) := by rw [hW4]; exact cell_at0 w3 _ _ 1 _ rfl
        have ht3 := HT3.out.lt
        have HZ : Hid (∀ W, Only (fun k => k = tb) W4 W → W.cell? ⟨w3.heap.size, 0, none⟩ = some (.int .i64 (P.1 : Int)) ∧ W.cell? ⟨w3.heap.size, 1, none⟩ = some (.int .i64 (P.2 : Int))) := Lib.hid (fun W ho => by
          have hb := ho.block w3.heap.size (by omega) (by omega)
          exact ⟨(World.cell?_of_block (a := ⟨w3.heap.size, 0, none⟩) hb).trans z0, (World.cell?_of_block (a := ⟨w3.heap.size, 1, none⟩) hb).trans z1⟩)
        have HT4 := Lib.hid (HT3.out.below hb4)
        have HO4 := Lib.hid (HO3.out.step hb4)
        have HW4 := Lib.hid hW4
        have HTk2 := Lib.hid (take_any W4 tb s (i + 1) HT4.out hlt hs)
        have HDr2 := Lib.hid (drop_at (bytesOf s) (i + 1) (by rw [hbl]; exact hlt))
        have hd256 := byte_lt s (i + 1)
        obtain ⟨d, hd⟩ : ∃ d, d = (bytesOf s).getD (i + 1) 0 := ⟨_, rfl⟩
        rw [← hd] at HTk2 HDr2 hd256
        have HS1 : Hid (charS ((bytesOf s).drop i) = escS (d :: (bytesOf s).drop (i + 2))) := Lib.hid (by rw [HS0.out, HDr2.out])
        clear hb3 hP hW4 hb4 hs4 z0 z1 hd
        go_wp2_with fail
        rw [← HW4.out]
        refine HTk2.out.mono ?_
        clear HTk2
        rintro e w5 ⟨rfl, ht5, ho5⟩
        have HT5 := Lib.hid ht5
        have HO5 := Lib.hid (HO4.out.trans ho5)
        obtain ⟨v0, v1⟩ := HZ.out w5 ho5
        have HO45 := Lib.hid ho5
        have HOA := Lib.hid (HX.out w5 HO5.out).2.2
        clear ht5 ho5 y2 y3
        by_cases hd1 : d = 34 ∨ d = 92
        · have HS : Hid (charS ((bytesOf s).drop i) = .ok d 2) := Lib.hid (by rw [HS1.out]; exact if_pos hd1)
          rcases hd1 with rfl | rfl
          all_goals
            go_wp2_with fail
            go_ret
            refine ⟨?_, HOA.out⟩
            rw [HS.out]
            exact ⟨rfl, HT5.out⟩
        · have d34 : ((d : Int) == 34) = false := by
            have : ¬ (d : Int) = 34 := by omega
            simpa using this
          have d92 : ((d : Int) == 92) = false := by
            have : ¬ (d : Int) = 92 := by omega
            simpa using this
          by_cases hd2 : d = 110
          · have HS : Hid (charS ((bytesOf s).drop i) = .ok 10 2) := Lib.hid (by rw [HS1.out]; show (if d = 34 ∨ d = 92 then _ else if d = 110 then _ else _) = _; rw [if_neg hd1, if_pos hd2])
            subst hd2
            clear hd1
            go_wp2_with fail
            go_ret
            refine ⟨?_, HOA.out⟩
            rw [HS.out]
            exact ⟨rfl, HT5.out⟩
          · have d110 : ((d : Int) == 110) = false := by
              have : ¬ (d : Int) = 110 := by omega
              simpa using this
            by_cases hd3 : d = 120
            · have HS2 : Hid (charS ((bytesOf s).drop i) = xS ((bytesOf s).drop (i + 2))) := Lib.hid (by rw [HS1.out]; show (if d = 34 ∨ d = 92 then _ else if d = 110 then _ else if d = 120 then _ else _) = _; rw [if_neg hd1, if_neg hd2, if_pos hd3])
              subst hd3
              clear hd1 hd2
              have HDg := Lib.hid (digit_any w5 tb s (i + 2) P HT5.out (by omega) hs)
              go_wp2_with fail
              refine HDg.out.mono ?_
              clear HDg
              rintro e w6 ⟨hcase, ho6⟩
              have HO6 := Lib.hid (HO5.out.trans ho6)
              have HO46 := Lib.hid (HO45.out.trans ho6)
              have HOA6 := Lib.hid (HX.out w6 HO6.out).2.2
              clear ho6
              rcases hcase with ⟨x, hxi, hx, rfl, ht6⟩ | ⟨hno, hth⟩
              · have HT6 := Lib.hid ht6
                have HXv := Lib.hid hx
                have hx16 := hexV_lt hx
                have HDg := Lib.hid (digit_any w6 tb s (i + 2 + 1) P ht6 (by omega) hs)
                obtain ⟨u0, u1⟩ := HZ.out w6 HO46.out
                clear ht6 hx v0 v1
                go_wp2_with fail
                refine HDg.out.mono ?_
                clear HDg
                rintro e w7 ⟨hcase, ho7⟩
                have HOA7 := Lib.hid (HX.out w7 (HO6.out.trans ho7)).2.2
                clear ho7
                rcases hcase with ⟨y, hyi, hy, rfl, ht7⟩ | ⟨hno, hth⟩
                · have HT7 := Lib.hid ht7
                  have hy16 := hexV_lt hy
                  have HS : Hid (charS ((bytesOf s).drop i) = .ok (x * 16 + y) 4) := Lib.hid (by rw [HS2.out]; exact xS_yes _ _ _ _ (by rw [hbl]; omega) HXv.out hy)
                  have hor := or16 x y hx16 hy16
                  clear ht7 hy u0 u1
                  go_wp2_with fail
                  go_ret
                  refine ⟨?_, HOA7.out⟩
                  rw [HS.out]
                  exact ⟨rfl, HT7.out⟩
                · have HS : Hid (charS ((bytesOf s).drop i) = .bad 1) := Lib.hid (by rw [HS2.out]; exact xS_no2 _ _ (by rw [hbl]; omega) (by rw [hbl]; exact hno))
                  have hth2 := hth
                  unfold Thrown at hth2
                  subst hth2
                  refine ⟨rfl, ?_, HOA7.out⟩
                  rw [HS.out]
                  show Thrown _ (posAt (bytesOf s) (i + 1))
                  rw [← HP.out]
                  rfl
              · have HS : Hid (charS ((bytesOf s).drop i) = .bad 1) := Lib.hid (by rw [HS2.out]; exact xS_no1 _ _ (by rw [hbl]; exact hno))
                have hth2 := hth
                unfold Thrown at hth2
                subst hth2
                refine ⟨rfl, ?_, HOA6.out⟩
                rw [HS.out]
                show Thrown _ (posAt (bytesOf s) (i + 1))
                rw [← HP.out]
                rfl
            · have d120 : ((d : Int) == 120) = false := by
                have : ¬ (d : Int) = 120 := by omega
                simpa using this
              have HS : Hid (charS ((bytesOf s).drop i) = .bad 1) := Lib.hid (by rw [HS1.out]; show (if d = 34 ∨ d = 92 then _ else if d = 110 then _ else if d = 120 then _ else _) = _; rw [if_neg hd1, if_neg hd2, if_neg hd3])
              have HSy := Lib.hid (syntax_any P.1 P.2 w5)
              clear hd1 hd2 hd3
              go_wp2_with fail
              refine HSy.out.mono ?_
              rintro e w6 ⟨rfl, hb6⟩
              have HO6 := Lib.hid (HOA.out.step hb6)
              clear hb6
              go_wp2_with fail
              refine ⟨rfl, ?_, HO6.out⟩
              rw [HS.out]
              show Thrown _ (posAt (bytesOf s) (i + 1))
              rw [← HP.out]
              rfl
      · rw [decide_eq_false hlt] at HM
        have HS : Hid (charS ((bytesOf s).drop i) = .open_) := Lib.hid (by rw [HS0.out, List.drop_eq_nil_of_le (by omega)]; rfl)
        go_wp2_with fail
        refine HM.out.mono ?_
        clear HM
        rintro e w3 ⟨rfl, hb3⟩
        have HO3 := Lib.hid (HO2.out.step hb3)
        obtain ⟨y0, y1, hoo⟩ := HX.out w3 HO3.out
        have HOA := Lib.hid hoo
        have HSy := Lib.hid (syntax_any p1 p2 w3)
        clear hb3 hoo
        go_wp2_with fail
        refine HSy.out.mono ?_
        rintro e w4 ⟨rfl, hb4⟩
        have HO4 := Lib.hid (HOA.out.step hb4)
        clear hb4
        go_wp2_with fail
        refine ⟨rfl, ?_, HO4.out⟩
        rw [HS.out]
        rfl
    · have h92b : ((c : Int) == 92) = false := by
        have : ¬ (c : Int) = 92 := by omega
        simpa using this
      have h92n : ((c : Int) != 92) = true := by
        have : ¬ (c : Int) = 92 := by omega
        simpa using this
      have HS : Hid (charS ((bytesOf s).drop i) = .ok c 1) := Lib.hid (by rw [HDr.out]; show (if c < 32 then _ else if c = 92 then _ else _) = _; rw [if_neg hlow, if_neg h92])
      clear h92 hlow
      go_enter Try.func39, Try.ntmps39
      go_wp2_with fail
      rw [← HW0.out]
      refine HSe.out.mono ?_
      clear HSe
      rintro e w1 ⟨rfl, hb1⟩
      have HT1 := Lib.hid (HT.out.below hb1)
      have HO1 : Hid (Only (fun k => k = tb) W0 w1) := Lib.hid ((Only.refl _ W0).step hb1)
      clear hb1
      go_wp2_with fail
      refine (HTk.out w1 HT1.out).mono ?_
      clear HTk
      rintro e w2 ⟨rfl, ht2, ho2⟩
      have HT2 := Lib.hid ht2
      have HOA := Lib.hid (HX.out w2 (HO1.out.trans ho2)).2.2
      clear ht2 ho2
      go_wp2_with fail
      go_ret
      refine ⟨?_, HOA.out⟩
      rw [HS.out]
      exact ⟨rfl, HT2.out⟩
end Go.Proofs.Ytghddknhoiaboaa
