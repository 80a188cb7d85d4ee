/-
  The law LexJoins.
-/
import Derived.Test.YtilobcdoihfooaaLjB
namespace Go.Proofs.Ytilobcdoihfooaa
open Go.ChangeShapes Go.WideShapes Go.ChangeAt Go.RowKit
set_option linter.unusedVariables false
set_option maxRecDepth 100000

theorem map_take_succ (d : Nat) (M : List Tok) (i : Nat) (t : Tok) (h : M[i]? = some t) : (M.take (i + 1)).map (Tok.down d) = (M.take i).map (Tok.down d) ++ [t.down d] := by
  have hi : i < M.length := by
    rcases Nat.lt_or_ge i M.length with g | g
    · exact g
    · rw [List.getElem?_eq_none g] at h; cases h
  rw [List.take_succ_eq_append_getElem hi, List.map_append]
  rw [List.getElem?_eq_getElem hi] at h
  rw [Option.some.inj h]
  rfl
theorem lines_bound (p : Nat × Nat) (l : List Nat) (j : Nat) : (advs p (l.take j)).1 ≤ p.1 + l.length := by
  rw [advs_lines]
  have := lines_le (l.take j)
  have h2 : (l.take j).length ≤ l.length := by rw [List.length_take]; exact Nat.min_le_right _ _
  omega
theorem scanL_lines : ∀ (f : Nat) (p : Nat × Nat) (l : List Nat), match scanL f p l with
    | .ok L => ∀ t ∈ L, t.at_.1 ≤ p.1 + l.length
    | .bad q => q.1 ≤ p.1 + l.length
  | 0, _, _ => fun t ht => (List.not_mem_nil ht).elim
  | f + 1, p, l => by
    rw [scanL_succ]
    by_cases h : l.length ≤ blankLen false l
    · rw [if_pos h]; exact fun t ht => (List.not_mem_nil ht).elim
    · rw [if_neg h]
      cases tokL (l.drop (blankLen false l)) with
      | bad k => exact lines_bound p l _
      | tok k n t len =>
        dsimp only
        have hr := scanL_lines f (advs p (l.take (blankLen false l + len))) (l.drop (blankLen false l + len))
        have hb : (advs p (l.take (blankLen false l + len))).1 + (l.drop (blankLen false l + len)).length ≤ p.1 + l.length := by
          rw [advs_lines, List.length_drop]
          have h1 := lines_le (l.take (blankLen false l + len))
          rw [List.length_take] at h1
          omega
        cases hq : scanL f (advs p (l.take (blankLen false l + len))) (l.drop (blankLen false l + len)) with
        | bad q =>
          rw [hq] at hr
          exact Nat.le_trans hr hb
        | ok M =>
          rw [hq] at hr
          intro t ht
          rcases List.mem_cons.1 ht with rfl | ht
          · exact lines_bound p l _
          · exact Nat.le_trans (hr t ht) hb
theorem resOf_lines (s : ByteArray) : (resOf s).2.1.1 ≤ s.size + 1 ∧ ∀ t ∈ (resOf s).1, t.at_.1 ≤ s.size + 1 := by
  have h := scanL_lines ((bytesOf s).length + 1) (1, 1) (bytesOf s)
  have hs : scanS s = scanL ((bytesOf s).length + 1) (1, 1) (bytesOf s) := scanS_T s
  rw [← hs, bytesOf_length] at h
  unfold resOf
  cases hq : scanS s with
  | ok L =>
    rw [hq] at h
    exact ⟨Nat.zero_le _, fun t ht => by have := h t ht; omega⟩
  | bad q =>
    rw [hq] at h
    refine ⟨?_, fun t ht => (List.not_mem_nil ht).elim⟩
    have h' : q.1 ≤ 1 + s.size := h
    show q.1 ≤ s.size + 1
    omega
set_option maxHeartbeats 8000000 in
theorem lexJoins_law (a b : ByteArray) (w : World) (mx : Int) (hmx : w.cell? ⟨1, 0, none⟩ = some (.int .i64 mx)) (ha : a.size ≤ maxLen) (hb : b.size ≤ maxLen) :
    Calls Try.prog 7 #[.string a, .string b] w fun e w' => e = .returned (.bool true) ∧ Below w.heap.size w w' := by
  have hlt := lt_of_cell hmx
  have HM : Hid (∀ W, Below w.heap.size w W → W.cell? ⟨1, 0, none⟩ = some (.int .i64 mx)) := Lib.hid (fun W hb => by
    rw [World.cell?_of_block (a := ⟨1, 0, none⟩) (hb.block _ hlt)]
    exact hmx)
  have HL0 := Lib.hid (lexes_any w mx hmx)
  have HBX : Hid (Below w.heap.size w w) := Lib.hid (Below.refl _ _)
  unfold maxLen at ha hb
  clear hlt
  by_cases h2 : a.size ≤ 2000 ∧ b.size ≤ 2000
  · obtain ⟨ha2, hb2⟩ := h2
    have i1 : ¬ (2000 : Int) < (a.size : Int) := by omega
    have i2 : ¬ (2000 : Int) < (b.size : Int) := by omega
    obtain ⟨J, hJ⟩ : ∃ J, J = a ++ ⟨#[10]⟩ ++ b := ⟨_, rfl⟩
    have hJs : J.size ≤ 6000 := by
      rw [hJ, ByteArray.size_append, ByteArray.size_append]
      have : (⟨#[10]⟩ : ByteArray).size = 1 := rfl
      omega
    have HS1 := Lib.hid (fun W hm => scan_any a (by omega) W mx hm)
    have HS2 := Lib.hid (fun W hm => scan_any b (by omega) W mx hm)
    have HS3 := Lib.hid (fun W hm => scan_any J hJs W mx hm)
    have HV1 := Lib.hid (fun W e w' (h : ScanP W a e w') => h.view)
    have HV2 := Lib.hid (fun W e w' (h : ScanP W b e w') => h.view)
    have HV3 := Lib.hid (fun W e w' (h : ScanP W J e w') => h.view)
    have HJ1 := Lib.hid (fun h => res_join a b h)
    rw [← hJ] at HJ1
    have hc1 := resOf_count a
    have hc2 := resOf_count b
    have hc3 := resOf_count J
    have ht1 : (resOf a).2.2 = 0 ∨ (resOf a).2.2 = 10 := by
      rcases resOf_two a with ⟨h, _⟩ | ⟨h, _⟩
      · exact .inl h
      · exact .inr h
    have hll := lines_le (bytesOf a)
    rw [bytesOf_length] at hll
    have HLt := Lib.hid (fun i (h : i < (bytesOf a).length) => lines_take (bytesOf a) i h)
    rw [bytesOf_length] at HLt
    have HLf : Hid (lines ((bytesOf a).take a.size) = lines (bytesOf a)) := Lib.hid (by rw [List.take_of_length_le (by rw [bytesOf_length]; exact Nat.le_refl _)])
    have hbd := resOf_lines b
    generalize resOf a = r1 at *
    generalize resOf b = r2 at *
    generalize resOf J = r3 at *
    obtain ⟨L1, ⟨p1, q1⟩, e1⟩ := r1
    obtain ⟨L2, ⟨p2, q2⟩, e2⟩ := r2
    obtain ⟨L3, ⟨p3, q3⟩, e3⟩ := r3
    dsimp only at *
    have hjs1 : ¬ 9223372036854775807 < a.size + 1 := by omega
    have hjs2 : ¬ 9223372036854775807 < a.size + 1 + b.size := by omega
    have hL1 : L1.length ≤ 6000 := by omega
    have hL2 : L2.length ≤ 6000 := by omega
    have hL3 : L3.length ≤ 6000 := by omega
    obtain ⟨hbd1, hbd2⟩ := hbd
    have HBd := Lib.hid hbd2
    have hmxw := HM.out w (Below.refl _ _)
    clear hmx hc1 hc2 hc3 hbd2
    go_enter Try.func7, Try.ntmps7
    go_wp2_with fail
    refine (HS1.out w hmxw).mono ?_
    intro e w10 hpost
    obtain ⟨v1, rfl, hown, hb⟩ := HV1.out w e w10 hpost
    obtain ⟨W1, hW⟩ : ∃ W, W = w10.alloc (.cells #[.int .i64 (p1 : Int), .int .i64 (q1 : Int)] 25) := ⟨_, rfl⟩
    have hb2 : Below w10.heap.size w10 W1 := by rw [hW]; exact (Below.refl _ _).alloc (Nat.le_refl _) _
    have hc : W1.heap[w10.heap.size]? = some (.cells #[.int .i64 (p1 : Int), .int .i64 (q1 : Int)] 25) := by rw [hW]; exact heap_alloc _ _
    have HC1 := Lib.hid hc
    have HO1 := Lib.hid (own_only hown (Only.of_below (F := fun _ => False) hb2) (fun _ _ h => h))
    have HD1 : Hid (Below w.heap.size w W1) := Lib.hid (hb.trans (hb2.mono hb.size))
    have HW1 := Lib.hid hW
    clear hpost hown hb hb2 hc hW
    go_wp2_with fail
    rw [← HW1.out]
    refine (HS2.out W1 (HM.out W1 HD1.out)).mono ?_
    intro e w20 hpost
    obtain ⟨v2, rfl, hown, hb⟩ := HV2.out W1 e w20 hpost
    obtain ⟨W2, hW⟩ : ∃ W, W = w20.alloc (.cells #[.int .i64 (p2 : Int), .int .i64 (q2 : Int)] 25) := ⟨_, rfl⟩
    have hb2 : Below w20.heap.size w20 W2 := by rw [hW]; exact (Below.refl _ _).alloc (Nat.le_refl _) _
    have hc : W2.heap[w20.heap.size]? = some (.cells #[.int .i64 (p2 : Int), .int .i64 (q2 : Int)] 25) := by rw [hW]; exact heap_alloc _ _
    have HC2 := Lib.hid hc
    have HO2 := Lib.hid (own_only hown (Only.of_below (F := fun _ => False) hb2) (fun _ _ h => h))
    have HD2 : Hid (Below W1.heap.size W1 W2) := Lib.hid (hb.trans (hb2.mono hb.size))
    have HW2 := Lib.hid hW
    clear hpost hown hb hb2 hc hW
    have HB2 : Hid (Below w.heap.size w W2) := Lib.hid (HD1.out.trans (HD2.out.mono HD1.out.size))
    go_wp2_with fail
    rw [← HW2.out]
    try rw [← hJ]
    refine (HS3.out W2 (HM.out W2 HB2.out)).mono ?_
    intro e w30 hpost
    obtain ⟨v3, rfl, hown, hb⟩ := HV3.out W2 e w30 hpost
    obtain ⟨W3, hW⟩ : ∃ W, W = w30.alloc (.cells #[.int .i64 (p3 : Int), .int .i64 (q3 : Int)] 25) := ⟨_, rfl⟩
    have hb2 : Below w30.heap.size w30 W3 := by rw [hW]; exact (Below.refl _ _).alloc (Nat.le_refl _) _
    have hc : W3.heap[w30.heap.size]? = some (.cells #[.int .i64 (p3 : Int), .int .i64 (q3 : Int)] 25) := by rw [hW]; exact heap_alloc _ _
    have HC3 := Lib.hid hc
    have HO3 := Lib.hid (own_only hown (Only.of_below (F := fun _ => False) hb2) (fun _ _ h => h))
    have HD3 : Hid (Below W2.heap.size W2 W3) := Lib.hid (hb.trans (hb2.mono hb.size))
    have HW3 := Lib.hid hW
    clear hpost hown hb hb2 hc hW
    have HB3 : Hid (Below w.heap.size w W3) := Lib.hid (HB2.out.trans (HD3.out.mono HB2.out.size))
    have HL3 := Lib.hid (lexes_any W3 mx (HM.out W3 HB3.out))
    go_wp2_with fail
    rw [← HW3.out]
    refine HL3.out.mono ?_
    clear HL3
    rintro e w4 ⟨rfl, hb4⟩
    have HD4 := Lib.hid hb4
    have HB4 := Lib.hid (HB3.out.trans (hb4.mono HB3.out.size))
    clear hb4 HBX
    rcases ht1 with h10 | h11
    · subst h10
      have HJ2 := Lib.hid (HJ1.out rfl)
      clear HJ1
      go_wp2_with fail
      go_loop [14, 15] (fun vl vi => ∃ i : Nat, i ≤ a.size ∧ vl = .int .i64 (1 + (lines ((bytesOf a).take i) : Nat) : Int) ∧ vi = .int .i64 i) (fun _ vi => a.size - (intOf vi).toNat)
      case atStart => exact ⟨0, Nat.zero_le _, rfl, rfl⟩
      case round =>
        obtain ⟨i, hi, rfl, rfl⟩ := hrel
        by_cases hlt : i < a.size
        · have j1 : (i : Int) < (a.size : Int) := by omega
          have hix := idx_str a i hlt (by omega)
          have hls := HLt.out i hlt
          have hlb : lines ((bytesOf a).take i) ≤ i := Nat.le_trans (lines_le _) (by rw [List.length_take]; exact Nat.min_le_left _ _)
          have HLS := Lib.hid hls
          clear hls
          generalize lines ((bytesOf a).take i) = ln at *
          generalize hln2 : lines ((bytesOf a).take (i + 1)) = ln2 at *
          generalize (bytesOf a).getD i 0 = c at *
          by_cases hc : c = 10
          · have hcb : ((c : Int) == 10) = true := by rw [hc]; rfl
            have HE : Hid (ln2 = ln + 1) := Lib.hid (by rw [HLS.out, if_pos hc])
            clear hc HLS
            go_wp2_with fail
            go_round
            case rel => exact ⟨i + 1, by omega, by have h1 := hln2; have h2 := HE.out; rw [h1]; exact congrArg (Value.int .i64) (by omega), by go_num⟩
            case measure => simp [intOf]; omega
          · have hcb : ((c : Int) == 10) = false := by
              have : ¬ (c : Int) = 10 := by omega
              simpa using this
            have HE : Hid (ln2 = ln) := Lib.hid (by rw [HLS.out, if_neg hc]; rfl)
            clear hc HLS
            go_wp2_with fail
            go_round
            case rel => exact ⟨i + 1, by omega, by have h1 := hln2; have h2 := HE.out; rw [h1]; exact congrArg (Value.int .i64) (by omega), by go_num⟩
            case measure => simp [intOf]; omega
        · have j1 : ¬ (i : Int) < (a.size : Int) := by omega
          obtain rfl : i = a.size := by omega
          rw [HLf.out]
          generalize lines (bytesOf a) = ln at *
          clear HLt HLf
          have HW4c1 := Lib.hid ((HD4.out.block _ (Nat.lt_of_lt_of_le (heap_lt HC2.out) HD3.out.size)).trans ((HD3.out.block _ (heap_lt HC2.out)).trans HC2.out))
          have HW4c3 := Lib.hid ((HD4.out.block _ (heap_lt HC3.out)).trans HC3.out)
          rcases HJ2.out with ⟨rfl, rfl, hL⟩ | ⟨rfl, rfl, hP⟩
          · have HL3e := Lib.hid hL
            clear hL
            have HO14 := Lib.hid (own_only HO1.out (Only.of_below (F := fun _ => False) (HD2.out.trans ((HD3.out.trans (HD4.out.mono HD3.out.size)).mono HD2.out.size))) (fun _ _ h => h))
            have HO24 := Lib.hid (own_only HO2.out (Only.of_below (F := fun _ => False) (HD3.out.trans (HD4.out.mono HD3.out.size))) (fun _ _ h => h))
            have HO34 := Lib.hid (own_only HO3.out (Only.of_below (F := fun _ => False) HD4.out) (fun _ _ h => h))
            have HF1 := Lib.hid (from_any w4 _ v1 L1 HO14.out hL1)
            clear HO1 HO2 HO3 HC2 HC3 HW4c1 HW4c3
            go_wp2_with fail
            refine HF1.out.mono ?_
            clear HF1
            rintro e w5 ⟨u5, rfl, hown5, hb5⟩
            obtain ⟨nv, W6, hr, hown6, hb6⟩ := run_all_tokR w5 29 w5.heap.size _ u5 L1 hown5 (by omega) (Nat.le_refl _)
            have HRn := Lib.hid hr
            have HD5 := Lib.hid hb5
            have HO6 : Hid (W6.ownsRow w5.heap.size 38 5 nv (L1 ++ (L2.take 0).map (Tok.down (1 + ln))).length (toks (L1 ++ (L2.take 0).map (Tok.down (1 + ln))))) := Lib.hid (by
              have e : L1 ++ (L2.take 0).map (Tok.down (1 + ln)) = L1 := by rw [List.take_zero]; exact List.append_nil _
              rw [e]; exact hown6)
            have HB6 := Lib.hid hb6
            clear hr hown5 hown6 hb5 hb6
            go_wp2_with (at_builtin; refine wpList_append_run rfl (.tmp 84) (.tmp 86) 29 29 rfl rfl rfl HRn.out ?_)
            clear HRn
            obtain ⟨va2, vc2, hv2⟩ := own_slice HO24.out
            subst hv2
            go_loopw [16, 17] (fun vw vi wx => ∃ i : Nat, i ≤ L2.length ∧ vi = .int .i64 i ∧ Hid (wx.ownsRow w5.heap.size 38 5 vw (L1 ++ (L2.take i).map (Tok.down (1 + ln))).length (toks (L1 ++ (L2.take i).map (Tok.down (1 + ln))))) ∧ Hid (Below w5.heap.size w5 wx)) (fun _ vi _ => L2.length - (intOf vi).toNat)
            case atStart => exact ⟨0, Nat.zero_le _, rfl, HO6, HB6⟩
            case round =>
              obtain ⟨i, hi, rfl, HR, HB⟩ := hrel
              have HD4x := Lib.hid (HD5.out.trans (HB.out.mono HD5.out.size))
              have HBx := Lib.hid (HB4.out.trans (HD4x.out.mono HB4.out.size))
              by_cases hlt : i < L2.length
              · have j2 : (i : Int) < (L2.length : Int) := by omega
                have HF2 := Lib.hid (from_any wr _ _ L2 (own_only HO24.out (Only.of_below (F := fun _ => False) HD4x.out) (fun _ _ h => h)) hL2)
                obtain ⟨t, ht⟩ : ∃ t, L2[i]? = some t := ⟨_, List.getElem?_eq_getElem hlt⟩
                have hmt := map_take_succ (1 + ln) L2 i t ht
                have hxl : (L1 ++ (L2.take i).map (Tok.down (1 + ln))).length ≤ 100000 := by
                  rw [List.length_append, List.length_map, List.length_take]; omega
                obtain ⟨X, hX⟩ : ∃ X, X = L1 ++ (L2.take i).map (Tok.down (1 + ln)) := ⟨_, rfl⟩
                have hXn : L1 ++ (L2.take (i + 1)).map (Tok.down (1 + ln)) = X ++ [t.down (1 + ln)] := by rw [hmt, hX, List.append_assoc]
                rw [← hX] at HR hxl
                have hbt : t.at_.1 ≤ b.size + 1 := HBd.out t (List.mem_of_getElem? ht)
                obtain ⟨vb, vc, hvo⟩ := own_slice HR.out
                subst hvo
                have HXn := Lib.hid hXn
                have HT := Lib.hid ht
                clear hX hXn hmt ht
                go_wp2_with fail
                refine HF2.out.mono ?_
                clear HF2
                rintro e w7 ⟨v7, rfl, hown7, hb7⟩
                obtain ⟨g, cap, rfl, hg, hcells⟩ := row_tok hown7 (by omega)
                obtain ⟨d0, d1, d2, d3, d4⟩ := hcells w7 rfl i t HT.out
                have HB7 := Lib.hid hb7
                obtain ⟨tk, ⟨tp, tq⟩, tn, tt⟩ := t
                dsimp only at d0 d1 d2 d3 d4 hbt
                obtain ⟨z, hz⟩ : ∃ z : Nat, z = tp + (1 + ln) := ⟨_, rfl⟩
                have hzi : (tp : Int) + (1 + (ln : Int)) = (z : Int) := by omega
                obtain ⟨W8, hW8⟩ : ∃ W8, W8 = w7.alloc (.cells #[.int .i64 tk, .int .i64 (z : Int), .int .i64 (tq : Int), .int .i64 tn, .string tt] 38) := ⟨_, rfl⟩
                have hb8 : Below w7.heap.size w7 W8 := by rw [hW8]; exact (Below.refl _ _).alloc (Nat.le_refl _) _
                have hs8 : W8.heap.size = w7.heap.size + 1 := by rw [hW8]; exact size_alloc' w7 _
                have hal : Below W8.heap.size W8 (W8.alloc (.cells #[.int .i64 tk, .int .i64 (z : Int), .int .i64 (tq : Int), .int .i64 tn, .string tt] 38)) := (Below.refl _ _).alloc (Nat.le_refl _) _
                have hb78 : Below wr.heap.size wr (W8.alloc (.cells #[.int .i64 tk, .int .i64 (z : Int), .int .i64 (tq : Int), .int .i64 tn, .string tt] 38)) := hb7.trans ((hb8.trans (hal.mono hb8.size)).mono hb7.size)
                obtain ⟨nv9, W9, hr, hown9, hb9⟩ := run_snoc_tokR (W8.alloc (.cells #[.int .i64 tk, .int .i64 (z : Int), .int .i64 (tq : Int), .int .i64 tn, .string tt] 38)) 29 w5.heap.size W8.heap.size (.slice vb X.length vc) X ⟨tk, (z, tq), tn, tt⟩ (own_only HR.out (Only.of_below (F := fun _ => False) hb78) (fun _ _ h => h)) (fun j u hu => cell_at0 W8 _ _ j u (by
                  show (tokCells ⟨tk, (z, tq), tn, tt⟩).toArray[j]? = some u
                  rw [List.getElem?_toArray]
                  exact hu)) hxl (Nat.le_trans HB.out.size hb78.size)
                have HO9 : Hid (W9.ownsRow w5.heap.size 38 5 nv9 (L1 ++ (L2.take (i + 1)).map (Tok.down (1 + ln))).length (toks (L1 ++ (L2.take (i + 1)).map (Tok.down (1 + ln))))) := Lib.hid (by
                  rw [HXn.out]
                  have e : (Tok.down (1 + ln) ⟨tk, (tp, tq), tn, tt⟩) = ⟨tk, (z, tq), tn, tt⟩ := by rw [hz]; rfl
                  rw [e]; exact hown9)
                have HB9 : Hid (Below w5.heap.size w5 W9) := Lib.hid (HB.out.trans ((hb78.mono HB.out.size).trans hb9))
                rw [hs8, hW8] at hr
                have HRn := Lib.hid hr
                clear hr hown9 hb9 hal hb78 hW8 hb8 hs8 hb7 hown7 hcells hz
                go_wp2_with (at_builtin; refine wpList_append_run rfl (.tmp 106) (.tmp 108) 29 29 rfl rfl rfl HRn.out ?_)
                go_roundw
                case rel => exact ⟨i + 1, by omega, by go_num, HO9, HB9⟩
                case measure => simp [intOf]; omega
              · have j2 : ¬ (i : Int) < (L2.length : Int) := by omega
                obtain rfl : i = L2.length := by omega
                have HRf : Hid (L1 ++ (L2.take L2.length).map (Tok.down (1 + ln)) = L3) := Lib.hid (by rw [List.take_length, HL3e.out])
                have hO3x := own_only HO34.out (Only.of_below (F := fun _ => False) HD4x.out) (fun _ _ h => h)
                have HF3 := Lib.hid (from_any wr _ v3 L3 hO3x hL3)
                clear hO3x
                go_wp2_with fail
                refine HF3.out.mono ?_
                clear HF3
                rintro e w7 ⟨v7, rfl, hown7, hb7⟩
                have hRx := HR.out
                rw [HRf.out] at hRx
                have HSm := Lib.hid (same_any w7 _ _ v7 _ L3 hown7 (own_only hRx (Only.of_below (F := fun _ => False) hb7) (fun _ _ h => h)) hL3)
                have HB7 := Lib.hid (HBx.out.trans (hb7.mono HBx.out.size))
                clear hown7 hb7 hRx
                go_wp2_with fail
                refine HSm.out.mono ?_
                rintro e w8 ⟨rfl, hb8⟩
                have HB8 := Lib.hid (HB7.out.trans (hb8.mono HB7.out.size))
                clear hb8
                go_wp2_with fail
                go_ret
                exact ⟨rfl, HB8.out⟩
          · have x0 := cell_of_row w4 w20.heap.size 0 _ _ (0, 0) HW4c1.out
            have x1 := cell_of_row w4 w20.heap.size 1 _ _ (0, 0) HW4c1.out
            have y0 := cell_of_row w4 w30.heap.size 0 _ _ (0, 0) HW4c3.out
            have y1 := cell_of_row w4 w30.heap.size 1 _ _ (0, 0) HW4c3.out
            injection hP with hP1 hP2
            subst hP2
            have hp3 : (p2 : Int) + (1 + (ln : Int)) = (p3 : Int) := by omega
            clear hP1 HC2 HC3 HW4c1 HW4c3
            go_wp2_with fail
            go_ret
            exact ⟨rfl, HB4.out⟩
    · subst h11
      have HL4 := Lib.hid (lexes_any w4 mx (HM.out w4 HB4.out))
      go_wp2_with fail
      refine HL4.out.mono ?_
      rintro e w5 ⟨rfl, hb5⟩
      have HB5 := Lib.hid (HB4.out.trans (hb5.mono HB4.out.size))
      clear hb5
      go_wp2_with fail
      go_ret
      exact ⟨rfl, HB5.out⟩
  · clear hmx
    by_cases ha2 : 2000 < a.size
    · have i1 : (2000 : Int) < (a.size : Int) := by omega
      go_enter Try.func7, Try.ntmps7
      go_wp2_with fail
      refine HL0.out.mono ?_
      rintro e w9 ⟨rfl, hb9⟩
      have HB9 := Lib.hid (HBX.out.trans (hb9.mono HBX.out.size))
      clear hb9
      go_wp2_with fail
      go_ret
      exact ⟨rfl, HB9.out⟩
    · have i1 : ¬ (2000 : Int) < (a.size : Int) := by omega
      have i2 : (2000 : Int) < (b.size : Int) := by omega
      go_enter Try.func7, Try.ntmps7
      go_wp2_with fail
      refine HL0.out.mono ?_
      rintro e w9 ⟨rfl, hb9⟩
      have HB9 := Lib.hid (HBX.out.trans (hb9.mono HBX.out.size))
      clear hb9
      go_wp2_with fail
      go_ret
      exact ⟨rfl, HB9.out⟩
end Go.Proofs.Ytilobcdoihfooaa
