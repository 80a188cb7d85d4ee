/-
  lex: a string.
-/
import Derived.Test.YtghddknhoiaboaaLexE
namespace Go.Proofs.Ytghddknhoiaboaa
open Go.ChangeShapes Go.WideShapes Go.ChangeAt Go.RowKit
set_option linter.unusedVariables false
set_option maxRecDepth 100000

def StrPost (w : World) (tb : Nat) (s : ByteArray) (i : Nat) (e : Ending) (w' : World) : Prop :=
  (match strR ((bytesOf s).drop (i + 1)) with
    | .done b n => if b.length ≤ 4096 then e = .returned (.string (bstr b)) ∧ TextAt w' tb s (i + 1 + n) else Thrown e (posAt (bytesOf s) i)
    | .open_ => Thrown e (posAt (bytesOf s) i)
    | .bad k => Thrown e (posAt (bytesOf s) (i + 1 + k))) ∧ Only (fun k => k = tb) w w'
set_option maxHeartbeats 4000000 in
theorem str_any (w : World) (tb : Nat) (s : ByteArray) (i : Nat) (h : TextAt w tb s i) (hi : i < s.size) (hs : s.size ≤ 70000) :
    Calls Try.prog 34 #[.pointer (some ⟨tb, 0, none⟩)] w (StrPost w tb s i) := by
  have hbl := bytesOf_length s
  have htb := h.lt
  obtain ⟨P, hP⟩ : ∃ P, P = posAt (bytesOf s) i := ⟨_, rfl⟩
  obtain ⟨_, _, y2, y3, _⟩ := h.cells
  rw [← hP] at y2 y3
  have HP := Lib.hid hP
  obtain ⟨W0, hW0⟩ : ∃ W0, W0 = w.alloc (.cells #[.int .i64 (P.1 : Int), .int .i64 (P.2 : Int)] 25) := ⟨_, rfl⟩
  have hb0 : Below w.heap.size w W0 := by rw [hW0]; exact (Below.refl _ _).alloc (Nat.le_refl _) _
  have hs0 : W0.heap.size = w.heap.size + 1 := by rw [hW0]; exact size_alloc' w _
  have z0 : W0.cell? ⟨w.heap.size, 0, none⟩ = some (.int .i64 (P.1 : Int)) := by rw [hW0]; exact cell_at0 w _ _ 0 _ rfl
  have z1 : W0.cell? ⟨w.heap.size, 1, none⟩ = some (.int .i64 (P.2 : Int)) := by rw [hW0]; exact cell_at0 w _ _ 1 _ rfl
  have HZ : Hid (∀ W, Only (fun k => k = tb) W0 W → W.cell? ⟨w.heap.size, 0, none⟩ = some (.int .i64 (P.1 : Int)) ∧ W.cell? ⟨w.heap.size, 1, none⟩ = some (.int .i64 (P.2 : Int)) ∧ Only (fun k => k = tb) w W) := Lib.hid (fun W ho => by
    have hb := ho.block w.heap.size (by omega) (by omega)
    exact ⟨(World.cell?_of_block (a := ⟨w.heap.size, 0, none⟩) hb).trans z0, (World.cell?_of_block (a := ⟨w.heap.size, 1, none⟩) hb).trans z1, ((Only.refl _ w).step hb0).trans ho⟩)
  have HT0 := Lib.hid (h.below hb0)
  have HW0 := Lib.hid hW0
  have HS0 := Lib.hid hs0
  have HTk := Lib.hid (take_any W0 tb s i HT0.out hi hs)
  have h256 : ∀ j, ∀ c ∈ (bytesOf s).drop j, c < 256 := fun j c hc => bytesOf_lt s c (List.mem_of_mem_drop hc)
  have H256 := Lib.hid h256
  obtain ⟨b0, hb0'⟩ : ∃ b0, b0 = (bytesOf s).getD i 0 := ⟨_, rfl⟩
  rw [← hb0'] at HTk
  clear hP hW0 hb0 hs0 z0 z1 h h256 hb0'
  go_enter Try.func34, Try.ntmps34
  go_wp2_with fail
  rw [← HW0.out]
  refine HTk.out.mono ?_
  clear HTk
  rintro e w1 ⟨rfl, ht1, ho1⟩
  have HT1 := Lib.hid ht1
  have HO1 := Lib.hid ho1
  clear ht1 ho1 y2 y3
  go_wp2_with fail
  go_loopw [4] (fun b wr => ∃ (j : Nat) (bs : List Nat), i + 1 ≤ j ∧ j ≤ s.size ∧ bs.length ≤ j ∧ Hid (strR ((bytesOf s).drop (i + 1)) = pre bs (j - (i + 1)) (strR ((bytesOf s).drop j)) ∧ ∀ c ∈ bs, c < 256) ∧ Hid (wr.ownsRow W0.heap.size 5 1 b bs.length (vals bs)) ∧ Hid (TextAt wr tb s j) ∧ Hid (Only (fun k => k = tb) W0 wr)) (fun _ wr => s.size - idxOf wr tb)
  case atStart => exact ⟨i + 1, [], Nat.le_refl _, hi, Nat.zero_le _, Lib.hid ⟨by rw [Nat.sub_self]; cases strR ((bytesOf s).drop (i + 1)) <;> simp [pre], fun c hc => (List.not_mem_nil hc).elim⟩, Lib.hid (own_none _ _), HT1, HO1⟩
  case round =>
    obtain ⟨j, bs, hij, hjs, hbj, HR, HOb, HT, HO⟩ := hrel
    obtain ⟨ba, bc, rfl, hrowb, _⟩ := own_bytes HOb.out HR.out.2 (by unfold maxLen; omega)
    have HRowb := Lib.hid hrowb
    have HM := Lib.hid (more_any wr tb s j HT.out (by omega))
    clear hrowb
    by_cases hlt : j < s.size
    · rw [decide_eq_true hlt] at HM
      go_wp2_with fail
      refine HM.out.mono ?_
      clear HM
      rintro e w2 ⟨rfl, hb2⟩
      have HT2 := Lib.hid (HT.out.below hb2)
      have HO2 := Lib.hid (HO.out.step hb2)
      have HRow2 := Lib.hid (own_only HOb.out (Only.of_below (F := fun _ => False) hb2) (fun _ _ h => h))
      have HSe := Lib.hid (see_any w2 tb s j HT2.out hlt (by omega))
      have HDr := Lib.hid (drop_at (bytesOf s) j (by rw [hbl]; exact hlt))
      obtain ⟨c, hc⟩ : ∃ c, c = (bytesOf s).getD j 0 := ⟨_, rfl⟩
      rw [← hc] at HSe HDr
      have HC := Lib.hid hc
      clear hb2 hc
      go_wp2_with fail
      refine HSe.out.mono ?_
      clear HSe
      rintro e w3 ⟨rfl, hb3⟩
      have HT3 := Lib.hid (HT2.out.below hb3)
      have HO3 := Lib.hid (HO2.out.step hb3)
      have HRow3 := Lib.hid (own_only HRow2.out (Only.of_below (F := fun _ => False) hb3) (fun _ _ h => h))
      clear hb3
      by_cases h34 : c = 34
      · have h34b : ((c : Int) == 34) = true := by rw [h34]; decide
        have h34n : ((c : Int) != 34) = false := by rw [h34]; decide
        have HR34 : Hid (strR ((bytesOf s).drop (i + 1)) = .done bs (j - (i + 1) + 1)) := Lib.hid (by
          rw [HR.out.1, HDr.out, h34, strR_end]
          show StrR.done (bs ++ []) _ = _
          rw [List.append_nil])
        have HM := Lib.hid (more_any w3 tb s j HT3.out (by omega))
        rw [decide_eq_true hlt] at HM
        clear h34
        go_wp2_with fail
        refine HM.out.mono ?_
        clear HM
        rintro e w4 ⟨rfl, hb4⟩
        have HT4 := Lib.hid (HT3.out.below hb4)
        have HO4 := Lib.hid (HO3.out.step hb4)
        have HRow4 := Lib.hid (own_only HRow3.out (Only.of_below (F := fun _ => False) hb4) (fun _ _ h => h))
        have HTk := Lib.hid (take_any w4 tb s j HT4.out hlt hs)
        clear hb4
        go_wp2_with fail
        refine HTk.out.mono ?_
        clear HTk
        rintro e w5 ⟨rfl, ht5, ho5⟩
        have HT5 := Lib.hid ht5
        have HO5 := Lib.hid (HO4.out.trans ho5)
        have HRow5 := Lib.hid (own_only HRow4.out ho5 (fun k hk e => by have := HS0.out; omega))
        obtain ⟨v0, v1, hoa⟩ := HZ.out w5 HO5.out
        have HOA := Lib.hid hoa
        clear ht5 ho5 hoa
        by_cases hbig : bs.length ≤ 4096
        · have hbigi : ¬ (4096 : Int) < (bs.length : Int) := by omega
          obtain ⟨ba', bc', ev, hrow5, _⟩ := own_bytes HRow5.out HR.out.2 (by unfold maxLen; omega)
          injection ev with e1 _ e2
          subst e1 e2
          have hcv := conv_row bc hrow5
          clear hrow5
          go_wp2_with fail
          go_ret
          refine ⟨?_, HOA.out⟩
          rw [HR34.out]
          show (if bs.length ≤ 4096 then _ else _)
          rw [if_pos hbig]
          refine ⟨rfl, ?_⟩
          rw [show i + 1 + (j - (i + 1) + 1) = j + 1 by omega]
          exact HT5.out
        · have hbigi : (4096 : Int) < (bs.length : Int) := by omega
          have HSy := Lib.hid (syntax_any P.1 P.2 w5)
          go_wp2_with fail
          refine HSy.out.mono ?_
          rintro e w6 ⟨rfl, hb6⟩
          have HO6 := Lib.hid (HOA.out.step hb6)
          clear hb6
          go_wp2_with fail
          refine ⟨rfl, ?_, HO6.out⟩
          rw [HR34.out]
          show (if bs.length ≤ 4096 then _ else _)
          rw [if_neg hbig, ← HP.out]
          rfl
      · have h34b : ((c : Int) == 34) = false := by
          have : ¬ (c : Int) = 34 := by omega
          simpa using this
        have h34n : ((c : Int) != 34) = true := by
          have : ¬ (c : Int) = 34 := by omega
          simpa using this
        have HCh := Lib.hid (char_any w3 tb s j P HT3.out hlt hs)
        obtain ⟨v0, v1, hoa⟩ := HZ.out w3 HO3.out
        have HStep : Hid (strR ((bytesOf s).drop j) = match charS ((bytesOf s).drop j) with
            | .open_ => .open_
            | .bad k => .bad k
            | .ok b n => pre [b] n (strR ((bytesOf s).drop (j + n)))) := Lib.hid (by
          have h := H256.out j
          rw [HDr.out] at h ⊢
          rw [strR_step h34 h, ← HDr.out]
          simp only [List.drop_drop]
          cases charS (List.drop j (bytesOf s)) <;> rfl)
        clear hoa h34
        go_wp2_with fail
        refine HCh.out.mono ?_
        clear HCh
        rintro e w4 ⟨hcase, ho4⟩
        have HO4 := Lib.hid (HO3.out.trans ho4)
        have HOA := Lib.hid (HZ.out w4 (HO3.out.trans ho4)).2.2
        have HRow4 := Lib.hid (own_only HRow3.out ho4 (fun k hk e => by have := HS0.out; omega))
        clear ho4
        cases hch : charS ((bytesOf s).drop j) with
        | open_ =>
          rw [hch] at hcase
          have hst := HStep.out
          rw [hch] at hst
          have hth : Thrown e P := hcase
          have hth2 := hth
          unfold Thrown at hth2
          subst hth2
          refine ⟨rfl, ?_, HOA.out⟩
          rw [HR.out.1, hst]
          show Thrown _ (posAt (bytesOf s) i)
          rw [← HP.out]
          exact hth
        | bad k =>
          rw [hch] at hcase
          have hst := HStep.out
          rw [hch] at hst
          have hth : Thrown e (posAt (bytesOf s) (j + k)) := hcase
          have hth2 := hth
          unfold Thrown at hth2
          subst hth2
          refine ⟨rfl, ?_, HOA.out⟩
          rw [HR.out.1, hst]
          show Thrown _ (posAt (bytesOf s) (i + 1 + (j - (i + 1) + k)))
          rw [show i + 1 + (j - (i + 1) + k) = j + k by omega]
          exact hth
        | ok b n =>
          rw [hch] at hcase
          have hst := HStep.out
          rw [hch] at hst
          obtain ⟨rfl, ht4⟩ := hcase
          obtain ⟨hn1, hn2, hb256⟩ := charS_len hch (H256.out j)
          rw [List.length_drop, hbl] at hn2
          have HT4 := Lib.hid ht4
          have hal : Below w4.heap.size w4 (w4.alloc (.cells #[.int .u8 (b : Int)] 5)) := (Below.refl _ _).alloc (Nat.le_refl _) _
          obtain ⟨nv, W9, hr, hown, hbl9⟩ := run_snoc_byte (w4.alloc (.cells #[.int .u8 (b : Int)] 5)) 46 W0.heap.size w4.heap.size (.slice ba bs.length bc) bs b (own_only HRow4.out (Only.of_below (F := fun _ => False) hal) (fun _ _ h => h)) (cell_at0 w4 _ _ 0 _ rfl) (by omega) (by have := HO4.out.size; have := hal.size; omega)
          have htl := ht4.lt
          have hbb : Below W0.heap.size w4 W9 := (hal.mono HO4.out.size).trans hbl9
          have HT9 : Hid (TextAt W9 tb s (j + n)) := Lib.hid (by
            unfold TextAt at ht4 ⊢
            rw [hbb.block tb (by have := HS0.out; omega)]
            exact ht4)
          have HO9 : Hid (Only (fun k => k = tb) W0 W9) := Lib.hid ⟨hbb.os.trans HO4.out.os, hbb.tape.trans HO4.out.tape, hbb.output.trans HO4.out.output, Nat.le_trans HO4.out.size hbb.size, fun k hk hne => (hbb.block k hk).trans (HO4.out.block k hk hne)⟩
          have HRn := Lib.hid hr
          have hchK := Lib.hid hch
          have HOwn := Lib.hid hown
          clear hal hbl9 hbb hr hown hch htl v0 v1
          go_wp2_with (at_builtin; refine wpList_append_run rfl (.tmp 18) (.tmp 22) 46 46 rfl rfl rfl HRn.out ?_)
          refine ⟨⟨j + n, bs ++ [b], by omega, by omega, by rw [List.length_append]; simp only [List.length_singleton]; omega, Lib.hid ⟨?_, ?_⟩, HOwn, HT9, HO9⟩, ?_⟩
          · rw [HR.out.1, HStep.out]
            have hch := hchK.out
            rw [hch]
            show pre bs _ (pre [b] n _) = _
            rw [pre_pre]
            congr 1
            omega
          · intro x hx
            rcases List.mem_append.1 hx with hx | hx
            · exact HR.out.2 x hx
            · rw [List.mem_singleton] at hx
              subst hx
              exact hb256
          · rw [idxOf_at HT9.out, idxOf_at HT.out]
            omega
    · rw [decide_eq_false hlt] at HM
      have hRo : Hid (strR ((bytesOf s).drop (i + 1)) = .open_) := Lib.hid (by
        rw [HR.out.1, List.drop_eq_nil_of_le (by rw [hbl]; omega)]
        rfl)
      go_wp2_with fail
      refine HM.out.mono ?_
      clear HM
      rintro e w2 ⟨rfl, hb2⟩
      have HT2 := Lib.hid (HT.out.below hb2)
      have HO2 := Lib.hid (HO.out.step hb2)
      clear hb2
      have HM := Lib.hid (more_any w2 tb s j HT2.out (by omega))
      rw [decide_eq_false hlt] at HM
      go_wp2_with fail
      refine HM.out.mono ?_
      clear HM
      rintro e w3 ⟨rfl, hb3⟩
      have HO3 := Lib.hid (HO2.out.step hb3)
      clear hb3
      obtain ⟨v0, v1, hoa⟩ := HZ.out w3 HO3.out
      have HOA := Lib.hid hoa
      have HSy := Lib.hid (syntax_any P.1 P.2 w3)
      clear hoa
      go_wp2_with fail
      refine HSy.out.mono ?_
      rintro e w6 ⟨rfl, hb6⟩
      have HO6 := Lib.hid (HOA.out.step hb6)
      clear hb6
      go_wp2_with fail
      refine ⟨rfl, ?_, HO6.out⟩
      rw [hRo.out]
      show Thrown _ (posAt (bytesOf s) i)
      rw [← HP.out]
      rfl
end Go.Proofs.Ytghddknhoiaboaa
