/-
  The law LexStrings.
-/
import Derived.Test.YtghddknhoiaboaaLtB
namespace Go.Proofs.Ytghddknhoiaboaa
open Go.ChangeShapes Go.WideShapes Go.ChangeAt Go.RowKit
set_option linter.unusedVariables false
set_option maxRecDepth 100000

/-- a slice of integers that came in: nil, or a row of 'cap' cells -/
def IsRow (k : IntKind) (w : World) (a : Option Addr) (len cap : Nat) (zs : List Int) : Prop :=
  (a = none ∧ len = 0 ∧ cap = 0 ∧ zs = []) ∨
  ∃ x, a = some x ∧ len ≤ cap ∧ cap ≤ maxLen ∧ zs.length = cap ∧ (∀ i, i < zs.length → w.cell? (x.add i) = some (.int k (zs.getD i 0))) ∧ ∀ n ∈ zs, (Lit.int k n).wf = true
theorem row_bytes {w : World} {a : Option Addr} {len cap : Nat} {zs : List Int} (h : IsRow .u8 w a len cap zs) : ∃ l, ByteRow w a len l ∧ len ≤ cap ∧ cap ≤ maxLen := by
  rcases h with ⟨rfl, rfl, rfl, rfl⟩ | ⟨x, rfl, h1, h2, h3, h4, h5⟩
  · exact ⟨[], ⟨rfl, Nat.zero_le _, (by intro z hz; cases hz), (by intro h; omega)⟩, Nat.le_refl _, Nat.zero_le _⟩
  · have hb : ∀ n ∈ zs, 0 ≤ n ∧ n ≤ 255 := fun n hn => by
      have := h5 n hn
      simpa [Lit.wf, IntKind.min, IntKind.max, IntKind.signed, IntKind.bits] using this
    refine ⟨(zs.take len).map Int.toNat, ⟨by rw [List.length_map, List.length_take]; omega, by omega, ?_, ?_⟩, h1, h2⟩
    · intro c hc
      obtain ⟨n, hn, rfl⟩ := List.mem_map.1 hc
      have := hb n (List.mem_of_mem_take hn)
      omega
    · intro h0
      obtain ⟨b, off, spot⟩ := x
      have hc0 := h4 0 (by omega)
      have hspot : spot = none := by simpa [Addr.add] using World.cell?_spot hc0
      subst hspot
      refine ⟨b, off, rfl, fun i hi => ?_⟩
      have hci := h4 i (by omega)
      have e1 : (⟨b, off, none⟩ : Addr).add i = ⟨b, off + i, none⟩ := by simp [Addr.add]
      rw [e1] at hci
      rw [hci]
      have hlt : i < zs.length := by omega
      have hm := hb zs[i] (List.getElem_mem hlt)
      have e2 : zs.getD i 0 = zs[i] := by simp [List.getD, List.getElem?_eq_getElem hlt]
      have e3 : ((zs.take len).map Int.toNat).getD i 0 = zs[i].toNat := by
        simp [List.getD, List.getElem?_map, hi, List.getElem?_eq_getElem hlt]
      rw [e2, e3]
      congr 2
      omega
theorem ByteRow.below {w W : World} {a : Option Addr} {n : Nat} {l : List Nat} (h : ByteRow w a n l) (hb : Below w.heap.size w W) : ByteRow W a n l := by
  obtain ⟨h1, h2, h3, h4⟩ := h
  refine ⟨h1, h2, h3, fun h0 => ?_⟩
  obtain ⟨b, o, ha, hc⟩ := h4 h0
  refine ⟨b, o, ha, fun i hi => ?_⟩
  have h := hc i hi
  rw [World.cell?_of_block (a := ⟨b, o + i, none⟩) (hb.block b (lt_of_cell h))]
  exact h
theorem bstr_nl (k : Nat) : bstr (List.replicate k 10) ++ (⟨#[10]⟩ : ByteArray) = bstr (List.replicate (k + 1) 10) := by
  rw [List.replicate_succ', bstr_append]
  rfl
theorem mod20 (b : Int) : ∃ m : Nat, wrap64 ((IntKind.u64.wrap b).tmod 20) = (m : Int) ∧ m < 20 := by
  have h1 : 0 ≤ IntKind.u64.wrap b := by simp only [IntKind.wrap, IntKind.bits, IntKind.signed]; simp; omega
  generalize IntKind.u64.wrap b = x at *
  rw [Int.tmod_eq_emod_of_nonneg h1]
  refine ⟨(x % 20).toNat, ?_, by omega⟩
  unfold wrap64
  omega
/-- what the law's string is, and what it is without its end -/
theorem spell_str (l : List Nat) (hl : ∀ c ∈ l, c < 256) : bstr (spellL 4 0 (bstr l)) = bstr (34 :: (hexB l ++ [34])) := by
  unfold spellL
  rw [if_neg (by decide), if_neg (by decide), if_neg (by decide), if_neg (by decide), if_pos rfl, bytesOf_bstr l hl]
theorem str_cut (l : List Nat) (hl : ∀ c ∈ l, c < 256) : (bstr (34 :: (hexB l ++ [34]))).extract 0 (4 * l.length + 1) = bstr (34 :: hexB l) := by
  have hin : ∀ c ∈ 34 :: (hexB l ++ [34]), c < 256 := fun c hc => by
    rcases List.mem_cons.1 hc with rfl | hc
    · decide
    · exact hexB_256 l [34] hl (fun c hc => by rw [List.mem_singleton.1 hc]; decide) c hc
  rw [extract_bstr _ _ _ (Nat.zero_le _), bytesOf_bstr _ hin, List.drop_zero]
  congr 1
  show List.take (4 * l.length + 1 - 0) ((34 :: hexB l) ++ [34]) = _
  have e : 4 * l.length + 1 - 0 = (34 :: hexB l).length := by rw [List.length_cons, hexB_length]; omega
  rw [e, List.take_left]
set_option maxHeartbeats 4000000 in
theorem lexStrings_law (a : Option Addr) (len cap : Nat) (zs : List Int) (n : Int) (w : World) (mx : Int) (hmx : w.cell? ⟨1, 0, none⟩ = some (.int .i64 mx)) (w0 : IsRow .u8 w a len cap zs) (hn : (Lit.int .i64 n).wf = true) :
    Calls Try.prog 6 #[.slice a len cap, .int .i64 n] w fun e w' => e = .returned (.bool true) ∧ Below w.heap.size w w' := by
  have hlt := lt_of_cell hmx
  have HM : Hid (∀ W, Below w.heap.size w W → W.cell? ⟨1, 0, none⟩ = some (.int .i64 mx)) := Lib.hid (fun W hb => by
    rw [World.cell?_of_block (a := ⟨1, 0, none⟩) (hb.block _ hlt)]
    exact hmx)
  have HL0 := Lib.hid (lexes_any w mx hmx)
  obtain ⟨l, hrow, _, _⟩ := row_bytes w0
  have hlen : l.length = len := hrow.1
  have hl256 : ∀ c ∈ l, c < 256 := hrow.2.2.1
  have HCV : Hid (∀ W, Below w.heap.size w W → (convert 46 9 (.slice a len cap)).run Try.prog W = .ok (.string (bstr l)) W) := Lib.hid (fun W hb => conv_row cap (hrow.below hb))
  have hlm : len ≤ maxLen := hrow.2.1
  clear hmx hlt hrow w0
  obtain ⟨m, hm, hm20⟩ := mod20 n
  have HQ := Lib.hid hm
  clear hm
  unfold maxLen at hlm
  by_cases hbig : len ≤ 4200
  · have i1 : ¬ (4200 : Int) < (len : Int) := by omega
    go_enter Try.func6, Try.ntmps6
    go_wp2_with fail
    go_loop [5, 6] (fun va vi => ∃ k : Nat, k ≤ m ∧ va = .string (bstr (List.replicate k 10)) ∧ vi = .int .i64 k) (fun _ vi => m - (intOf vi).toNat)
    case atStart => exact ⟨0, Nat.zero_le _, rfl, rfl⟩
    case round =>
      obtain ⟨k, hk, rfl, rfl⟩ := hrel
      have hsz : ¬ 9223372036854775807 < (bstr (List.replicate k 10)).size + 1 := by rw [size_bstr, List.length_replicate]; omega
      by_cases hlt : k < m
      · have i2 : (k : Int) < (m : Int) := by omega
        have hq := HQ.out
        go_wp2_with fail
        clear hq
        go_round
        case rel => exact ⟨k + 1, by omega, by rw [bstr_nl], by go_num⟩
        case measure => simp [intOf]; omega
      · have i2 : ¬ (k : Int) < (m : Int) := by omega
        obtain rfl : k = m := by omega
        clear hlt hsz
        have hcv := HCV.out w (Below.refl _ _)
        have HSP := Lib.hid (spell_any 4 0 (0, 0) (bstr l) (by decide) (by rw [size_bstr]; omega) w)
        rw [spell_str l hl256] at HSP
        have HX : Hid ((bstr (34 :: (hexB l ++ [34]))).extract 0 (4 * len + 1) = bstr (34 :: hexB l)) := Lib.hid (by rw [← hlen]; exact str_cut l hl256)
        have HJ1 : Hid (bstr (List.replicate k 10) ++ bstr (34 :: (hexB l ++ [34])) = bstr (List.replicate k 10 ++ 34 :: (hexB l ++ [34]))) := Lib.hid (bstr_append _ _).symm
        have HJ2 : Hid (bstr (List.replicate k 10) ++ ⟨#[32]⟩ ++ bstr (34 :: hexB l) = bstr (List.replicate k 10 ++ 32 :: 34 :: hexB l)) := Lib.hid (by
          rw [bstr_append, ByteArray.append_assoc]
          congr 1)
        have HS1 := Lib.hid (scan_hex k l hl256)
        have HS2 := Lib.hid (scan_hex_open k l hl256)
        have z1 : (bstr (List.replicate k 10)).size = k := by rw [size_bstr, List.length_replicate]
        have z2 : (bstr (34 :: (hexB l ++ [34]))).size = 4 * len + 2 := by
          rw [size_bstr, List.length_cons, List.length_append, hexB_length, hlen]
          rfl
        have z3 : (bstr (34 :: hexB l)).size = 4 * len + 1 := by rw [size_bstr, List.length_cons, hexB_length, hlen]
        rw [hlen] at HS1
        generalize bstr (List.replicate k 10 ++ 34 :: (hexB l ++ [34])) = J1 at *
        generalize bstr (List.replicate k 10 ++ 32 :: 34 :: hexB l) = J2 at *
        generalize bstr (List.replicate k 10) = SP at *
        generalize bstr (34 :: (hexB l ++ [34])) = TX at *
        generalize bstr (34 :: hexB l) = TY at *
        have zj1 : J1.size = k + (4 * len + 2) := by rw [← HJ1.out, ByteArray.size_append, z1, z2]
        have zj2 : J2.size = k + 1 + (4 * len + 1) := by
          rw [← HJ2.out, ByteArray.size_append, ByteArray.size_append, z1, z3]
          rfl
        have HZ1 : Hid (J1.size ≤ 65000) := Lib.hid (by omega)
        have HZ2 : Hid (J2.size ≤ 65000) := Lib.hid (by omega)
        clear zj1 zj2
        have s1 : ¬ 9223372036854775807 < k + (4 * len + 2) := by omega
        have s2 : ¬ 9223372036854775807 < k + 1 := by omega
        have s3 : ¬ 9223372036854775807 < k + 1 + (4 * len + 1) := by omega
        have hq := HQ.out
        go_wp2_with fail
        clear hq
        refine HSP.out.mono ?_
        clear HSP
        rintro e w1 ⟨rfl, hb1⟩
        have HB1 := Lib.hid hb1
        have hj1 := HJ1.out
        have HC1 := Lib.hid (scan_any J1 HZ1.out w1 mx (HM.out w1 hb1))
        clear hb1 hcv
        go_wp2_with fail
        refine HC1.out.mono ?_
        clear HC1 hj1
        rintro e w2 ⟨hr, hb2⟩
        rw [HS1.out] at hr
        have HB2 := Lib.hid (HB1.out.trans (hb2.mono HB1.out.size))
        have hk20 : (1 : Int) + (k : Int) = ((1 + k : Nat) : Int) := by omega
        have HK := Lib.hid hk20
        clear hb2 hk20 HS1
        by_cases hshort : len ≤ 4096
        · rw [if_pos hshort] at hr
          obtain ⟨v, rfl, hown⟩ := hr
          obtain ⟨g, cap', rfl, hcells⟩ := own_cells hown (Nat.zero_lt_succ _)
          have d0 := hcells 0 _ rfl
          have d4 := hcells 4 _ rfl
          have hgl := lt_of_cell d0
          have HG : Hid (∀ W, Below w2.heap.size w2 W → W.cell? ⟨g, 0, none⟩ = some (.int .i64 4) ∧ W.cell? ⟨g, 4, none⟩ = some (.string (bstr l))) := Lib.hid (fun W hb => by
            have e := hb.block g hgl
            exact ⟨(World.cell?_of_block (a := ⟨g, 0, none⟩) e).trans d0, (World.cell?_of_block (a := ⟨g, 4, none⟩) e).trans d4⟩)
          clear hown hcells d0 d4 hgl
          obtain ⟨W3, hW3⟩ : ∃ W3, W3 = w2.alloc (.cells #[.int .i64 0, .int .i64 0] 25) := ⟨_, rfl⟩
          have hb3 : Below w2.heap.size w2 W3 := by rw [hW3]; exact (Below.refl _ _).alloc (Nat.le_refl _) _
          have HB3 := Lib.hid hb3
          have HC2 := Lib.hid (scan_any J2 HZ2.out W3 mx (HM.out W3 (HB2.out.trans (hb3.mono HB2.out.size))))
          have HW3 := Lib.hid hW3
          have hx := HX.out
          have hj2 := HJ2.out
          clear hb3 hW3
          go_wp2_with fail
          rw [← HW3.out]
          clear hx hj2 s1 s2 s3
          refine HC2.out.mono ?_
          clear HC2
          rintro e w4 ⟨hr, hb4⟩
          rw [HS2.out] at hr
          have hr2 : e = .returned (.tuple #[.slice none 0 0, .agg #[.int .i64 ((1 + k : Nat) : Int), .int .i64 2], .int .i64 10]) := hr
          rw [← HK.out] at hr2
          subst hr2
          obtain ⟨W5, hW5⟩ : ∃ W5, W5 = w4.alloc (.cells #[.int .i64 (1 + (k : Int)), .int .i64 2] 25) := ⟨_, rfl⟩
          have hb5 : Below w4.heap.size w4 W5 := by rw [hW5]; exact (Below.refl _ _).alloc (Nat.le_refl _) _
          have hc5 : W5.heap[w4.heap.size]? = some (.cells #[.int .i64 (1 + (k : Int)), .int .i64 2] 25) := by rw [hW5]; exact heap_alloc _ _
          have HP : Hid (∀ W, Below W5.heap.size W5 W → W.cell? ⟨w4.heap.size, 0, none⟩ = some (.int .i64 (1 + (k : Int))) ∧ W.cell? ⟨w4.heap.size, 1, none⟩ = some (.int .i64 2)) := Lib.hid (fun W hb => by
            have e := (hb.block _ (by have := hb5.size; exact (Array.getElem?_eq_some_iff.1 hc5).1)).trans hc5
            exact ⟨cell_of_row W _ 0 _ _ (0, 0) e, cell_of_row W _ 1 _ _ (0, 0) e⟩)
          have HB5 := Lib.hid (HB3.out.trans ((hb4.trans (hb5.mono hb4.size)).mono HB3.out.size))
          have HL := Lib.hid (lexes_any W5 mx (HM.out W5 (HB2.out.trans (HB5.out.mono HB2.out.size))))
          have HW5 := Lib.hid hW5
          have HB35 := Lib.hid (hb4.trans (hb5.mono hb4.size))
          clear hr hb4 hb5 hW5 hc5 HS2
          have hq := HQ.out
          go_wp2_with fail
          rw [← HW5.out]
          clear hq
          refine HL.out.mono ?_
          clear HL
          rintro e w6 ⟨rfl, hb6⟩
          obtain ⟨p0, p1⟩ := HP.out w6 hb6
          obtain ⟨d0, d4⟩ := HG.out w6 (HB5.out.trans (hb6.mono HB5.out.size))
          have HB6 := Lib.hid ((HB2.out.trans (HB5.out.mono HB2.out.size)).trans (hb6.mono (Nat.le_trans HB2.out.size HB5.out.size)))
          have hcv := HCV.out w6 HB6.out
          have hq := HQ.out
          have i3 : ¬ (4096 : Int) < (len : Int) := by omega
          clear hb6 HP HG
          go_upto_region 16 with fail
          have HC6 : Hid (∀ W, Gl w6.drew W → (W.cell? ⟨g, 0, none⟩ = some (.int .i64 4) ∧ W.cell? ⟨g, 4, none⟩ = some (.string (bstr l))) ∧ (convert 46 9 (.slice a len cap)).run Try.prog W = .ok (.string (bstr l)) W ∧ Below w.heap.size w W) := Lib.hid (fun W hW => by
            have hb := hW.undrew
            have e := hb.block _ (lt_of_cell d0)
            have hbb := HB6.out.trans (hb.mono HB6.out.size)
            exact ⟨⟨(World.cell?_of_block (a := ⟨g, 0, none⟩) e).trans d0, (World.cell?_of_block (a := ⟨g, 4, none⟩) e).trans d4⟩, HCV.out W hbb, hbb⟩)
          clear p0 p1 hq d0 d4 hcv i3
          have hbq : ((bstr l).toList == (bstr l).toList) = true := by simp
          generalize bstr l = X at *
          refine wp_region_inv_lit [.is (.int .i64 0), .is (.bool true), .is (.bool true), .is (.slice (some ⟨g, 0, none⟩) 1 cap'), .is (.int .i64 1), .is (.bool true), .is (.bool true), .is (.bool true), .is (.slice (some ⟨g, 0, none⟩) 1 cap'), .is (.pointer (some ⟨g, 0, none⟩)), .is (.pointer (some ⟨g, 0, none⟩)), .is (.int .i64 4), .is (.bool true), .is (.bool true), .is (.bool true), .is (.slice (some ⟨g, 0, none⟩) 1 cap'), .is (.pointer (some ⟨g, 0, none⟩)), .is (.pointer (some ⟨g, 4, none⟩)), .is (.string (X)), .is (.slice a len cap), .is (.string (X)), .is (.bool true), .is (.bool true), .is (.bool true)] (by kernel_rfl) (by kernel_rfl) ?_
          repeat1' (refine wpInv_is ?_ ?_; (focus (intro W hW hF K hK; clear hF; obtain ⟨⟨d0, d4⟩, hcv, hbb⟩ := HC6.out W hW; clear hbb; go_simp; exact hK _ _ (Gl.refl _) rfl)); simp only [Act.put, List.setIfInBounds_toArray, List.set_cons_zero, List.set_cons_succ])
          refine wpInv_end ?_
          intro W hW hF
          clear hF
          have HB7 := Lib.hid (HC6.out W hW).2.2
          clear hW
          go_wp2_with fail
          go_ret
          exact ⟨rfl, HB7.out⟩
        · rw [if_neg hshort] at hr
          have hr1 : e = .returned (.tuple #[.slice none 0 0, .agg #[.int .i64 ((1 + k : Nat) : Int), .int .i64 1], .int .i64 10]) := hr
          rw [← HK.out] at hr1
          subst hr1
          clear hr
          obtain ⟨W3, hW3⟩ : ∃ W3, W3 = w2.alloc (.cells #[.int .i64 (1 + (k : Int)), .int .i64 1] 25) := ⟨_, rfl⟩
          have hb3 : Below w2.heap.size w2 W3 := by rw [hW3]; exact (Below.refl _ _).alloc (Nat.le_refl _) _
          have hc3 : W3.heap[w2.heap.size]? = some (.cells #[.int .i64 (1 + (k : Int)), .int .i64 1] 25) := by rw [hW3]; exact heap_alloc _ _
          have HG : Hid (∀ W, Below W3.heap.size W3 W → W.cell? ⟨w2.heap.size, 0, none⟩ = some (.int .i64 (1 + (k : Int))) ∧ W.cell? ⟨w2.heap.size, 1, none⟩ = some (.int .i64 1)) := Lib.hid (fun W hb => by
            have e := (hb.block _ (by exact (Array.getElem?_eq_some_iff.1 hc3).1)).trans hc3
            exact ⟨cell_of_row W _ 0 _ _ (0, 0) e, cell_of_row W _ 1 _ _ (0, 0) e⟩)
          have HB3 := Lib.hid hb3
          have HC2 := Lib.hid (scan_any J2 HZ2.out W3 mx (HM.out W3 (HB2.out.trans (hb3.mono HB2.out.size))))
          have HW3 := Lib.hid hW3
          have hx := HX.out
          have hj2 := HJ2.out
          clear hb3 hW3 hc3
          go_wp2_with fail
          rw [← HW3.out]
          clear hx hj2 s1 s2 s3
          refine HC2.out.mono ?_
          clear HC2
          rintro e w4 ⟨hr, hb4⟩
          rw [HS2.out] at hr
          have hr2 : e = .returned (.tuple #[.slice none 0 0, .agg #[.int .i64 ((1 + k : Nat) : Int), .int .i64 2], .int .i64 10]) := hr
          rw [← HK.out] at hr2
          subst hr2
          obtain ⟨W5, hW5⟩ : ∃ W5, W5 = w4.alloc (.cells #[.int .i64 (1 + (k : Int)), .int .i64 2] 25) := ⟨_, rfl⟩
          have hb5 : Below w4.heap.size w4 W5 := by rw [hW5]; exact (Below.refl _ _).alloc (Nat.le_refl _) _
          have hc5 : W5.heap[w4.heap.size]? = some (.cells #[.int .i64 (1 + (k : Int)), .int .i64 2] 25) := by rw [hW5]; exact heap_alloc _ _
          have HP : Hid (∀ W, Below W5.heap.size W5 W → W.cell? ⟨w4.heap.size, 0, none⟩ = some (.int .i64 (1 + (k : Int))) ∧ W.cell? ⟨w4.heap.size, 1, none⟩ = some (.int .i64 2)) := Lib.hid (fun W hb => by
            have e := (hb.block _ (by have := hb5.size; exact (Array.getElem?_eq_some_iff.1 hc5).1)).trans hc5
            exact ⟨cell_of_row W _ 0 _ _ (0, 0) e, cell_of_row W _ 1 _ _ (0, 0) e⟩)
          have HB5 := Lib.hid (HB3.out.trans ((hb4.trans (hb5.mono hb4.size)).mono HB3.out.size))
          have HL := Lib.hid (lexes_any W5 mx (HM.out W5 (HB2.out.trans (HB5.out.mono HB2.out.size))))
          have HW5 := Lib.hid hW5
          have HB35 := Lib.hid (hb4.trans (hb5.mono hb4.size))
          clear hr hb4 hb5 hW5 hc5 HS2
          have hq := HQ.out
          go_wp2_with fail
          rw [← HW5.out]
          clear hq
          refine HL.out.mono ?_
          clear HL
          rintro e w6 ⟨rfl, hb6⟩
          obtain ⟨p0, p1⟩ := HP.out w6 hb6
          obtain ⟨d0, d1⟩ := HG.out w6 (HB35.out.trans (hb6.mono HB35.out.size))
          have HB6 := Lib.hid ((HB2.out.trans (HB5.out.mono HB2.out.size)).trans (hb6.mono (Nat.le_trans HB2.out.size HB5.out.size)))
          have hq := HQ.out
          have i3 : (4096 : Int) < (len : Int) := by omega
          clear hb6 HP HG
          go_wp2_with fail
          go_ret
          exact ⟨rfl, HB6.out⟩
  · have i1 : (4200 : Int) < (len : Int) := by omega
    go_enter Try.func6, Try.ntmps6
    go_wp2_with fail
    refine HL0.out.mono ?_
    rintro e w1 ⟨rfl, hb1⟩
    have HB1 := Lib.hid hb1
    clear hb1
    go_wp2_with fail
    go_ret
    exact ⟨rfl, HB1.out⟩
end Go.Proofs.Ytghddknhoiaboaa
