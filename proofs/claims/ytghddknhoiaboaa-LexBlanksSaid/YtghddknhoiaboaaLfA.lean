/-
  lex: the law's from, the document's Same.
-/
import Derived.Test.YtghddknhoiaboaaLsD
namespace Go.Proofs.Ytghddknhoiaboaa
open Go.ChangeShapes Go.WideShapes Go.ChangeAt Go.RowKit
set_option linter.unusedVariables false
set_option maxRecDepth 100000

theorem toks_get : ∀ (L : List Tok) (i j : Nat) (t : Tok), L[i]? = some t → j < 5 → (toks L)[i * 5 + j]? = (tokCells t)[j]?
  | [], _, _, _, h, _ => by simp at h
  | a :: L, 0, j, t, h, hj => by
    obtain rfl : a = t := by simpa using h
    show (tokCells a ++ toks L)[0 * 5 + j]? = _
    rw [Nat.zero_mul, Nat.zero_add, List.getElem?_append_left (by rw [tokCells_length]; exact hj)]
  | a :: L, i + 1, j, t, h, hj => by
    have h' : L[i]? = some t := by simpa using h
    show (tokCells a ++ toks L)[(i + 1) * 5 + j]? = _
    rw [List.getElem?_append_right (by rw [tokCells_length]; omega), tokCells_length]
    have e : (i + 1) * 5 + j - 5 = i * 5 + j := by omega
    rw [e]
    exact toks_get L i j t h' hj
theorem toks_length (L : List Tok) : (toks L).length = L.length * 5 := by
  induction L with
  | nil => rfl
  | cons a L ih =>
    show (tokCells a ++ toks L).length = _
    rw [List.length_append, ih, tokCells_length, List.length_cons]
    omega
/-- a row of tokens: the cells of token i -/
theorem row_tok {w : World} {base : Nat} {e : TypeId} {v : Value} {L : List Tok} (h : w.ownsRow base e 5 v L.length (toks L)) (hL : 0 < L.length) :
    ∃ g cap, v = .slice (some ⟨g, 0, none⟩) L.length cap ∧ g < w.heap.size ∧ ∀ (W : World), W.heap[g]? = w.heap[g]? → ∀ (i : Nat) (t : Tok), L[i]? = some t → W.cell? ⟨g, i * 5, none⟩ = some (.int .i64 t.kind) ∧ W.cell? ⟨g, i * 5 + 1, none⟩ = some (.int .i64 (t.at_.1 : Int)) ∧ W.cell? ⟨g, i * 5 + 2, none⟩ = some (.int .i64 (t.at_.2 : Int)) ∧ W.cell? ⟨g, i * 5 + 3, none⟩ = some (.int .i64 t.num) ∧ W.cell? ⟨g, i * 5 + 4, none⟩ = some (.string t.text) := by
  obtain ⟨g, cap, rfl, hc⟩ := own_cells h (by rw [toks_length]; omega)
  have hg : g < w.heap.size := by
    have h0 : ∃ u, (toks L)[0]? = some u := ⟨_, List.getElem?_eq_getElem (by rw [toks_length]; omega)⟩
    obtain ⟨u, hu⟩ := h0
    exact lt_of_cell (hc 0 u hu)
  refine ⟨g, cap, rfl, hg, fun W hW i t ht => ?_⟩
  have hk := fun j u (hj : j < 5) (hu : (tokCells t)[j]? = some u) => (World.cell?_of_block (a := ⟨g, i * 5 + j, none⟩) hW).trans (hc (i * 5 + j) u ((toks_get L i j t ht hj).trans hu))
  exact ⟨hk 0 _ (by decide) rfl, hk 1 _ (by decide) rfl, hk 2 _ (by decide) rfl, hk 3 _ (by decide) rfl, hk 4 _ (by decide) rfl⟩
def OneTok (t : Tok) (v : Value) (W : World) : Prop := ∃ g, v = .slice (some ⟨g, 0, none⟩) 1 1 ∧ ∀ j u, (tokCells t)[j]? = some u → W.cell? ⟨g, j, none⟩ = some u
theorem oneTok_stable (t : Tok) : Stable (OneTok t) := fun v W W' hb h => by
  obtain ⟨g, e, hc⟩ := h
  have hg := lt_of_cell (hc 0 _ rfl)
  exact ⟨g, e, fun j u hu => (World.cell?_of_block (a := ⟨g, j, none⟩) (Below.block hb g hg)).trans (hc j u hu)⟩
set_option maxHeartbeats 4000000 in
theorem from_any (w : World) (base : Nat) (v : Value) (L : List Tok) (h : w.ownsRow base 44 5 v L.length (toks L)) (hL : L.length ≤ 6000) :
    Calls Try.prog 13 #[v] w fun e w' => ∃ v', e = .returned v' ∧ w'.ownsRow w.heap.size 38 5 v' L.length (toks L) ∧ Below w.heap.size w w' := by
  obtain ⟨a, cap, rfl⟩ := own_slice h
  have HO := Lib.hid h
  clear h
  go_enter Try.func13, Try.ntmps13
  go_wp2_with fail
  go_loopw [3, 4] (fun vo vi wr => ∃ i : Nat, i ≤ L.length ∧ vi = .int .i64 i ∧ Hid (wr.ownsRow w.heap.size 38 5 vo (L.take i).length (toks (L.take i))) ∧ Hid (Below w.heap.size w wr)) (fun _ vi _ => L.length - (intOf vi).toNat)
  case atStart => exact ⟨0, Nat.zero_le _, rfl, Lib.hid (toksR_none _ _), Lib.hid (Below.refl _ _)⟩
  case round =>
    obtain ⟨i, hi, rfl, HR, HB⟩ := hrel
    by_cases hlt : i < L.length
    · have i1 : (i : Int) < (L.length : Int) := by omega
      obtain ⟨g, cap2, hv, hg, hcells⟩ := row_tok HO.out (by omega)
      cases hv
      obtain ⟨t, ht⟩ : ∃ t, L[i]? = some t := ⟨_, List.getElem?_eq_getElem hlt⟩
      have HC : Hid (∀ W, Gl wr.drew W → W.cell? ⟨g, i * 5, none⟩ = some (.int .i64 t.kind) ∧ W.cell? ⟨g, i * 5 + 1, none⟩ = some (.int .i64 (t.at_.1 : Int)) ∧ W.cell? ⟨g, i * 5 + 2, none⟩ = some (.int .i64 (t.at_.2 : Int)) ∧ W.cell? ⟨g, i * 5 + 3, none⟩ = some (.int .i64 t.num) ∧ W.cell? ⟨g, i * 5 + 4, none⟩ = some (.string t.text)) := Lib.hid (fun W hW => hcells W ((hW.undrew.block g (Nat.lt_of_lt_of_le hg HB.out.size)).trans (HB.out.block g hg)) i t ht)
      have HT : Hid (L.take (i + 1) = L.take i ++ [t]) := Lib.hid (by
        rw [List.take_succ_eq_append_getElem hlt]
        congr 2
        rw [List.getElem?_eq_getElem hlt] at ht
        exact Option.some.inj ht)
      have hll : (L.take i).length = i := by rw [List.length_take]; omega
      obtain ⟨vb, vc, hvo⟩ := own_slice HR.out
      rw [hll] at hvo
      subst hvo
      have HRi : Hid (wr.ownsRow w.heap.size 38 5 (.slice vb i vc) i (toks (L.take i))) := Lib.hid (by have := HR.out; rw [hll] at this; exact this)
      have HLL := Lib.hid hll
      clear hcells hg ht
      obtain ⟨tk, ⟨p1, p2⟩, tn, tt⟩ := t
      dsimp only at HC
      generalize hX : L.take i = X at *
      clear hX hll HR
      go_upto_region 5 with fail
      refine wp_region_tail_lit [.is (.slice vb i vc), .is (.slice (some ⟨g, 0, none⟩) L.length cap), .is (.int .i64 (i : Int)), .is (.pointer (some ⟨g, i * 5, none⟩)), .is (.pointer (some ⟨g, i * 5, none⟩)), .is (.int .i64 tk), .is (.slice (some ⟨g, 0, none⟩) L.length cap), .is (.int .i64 (i : Int)), .is (.pointer (some ⟨g, i * 5, none⟩)), .is (.pointer (some ⟨g, i * 5 + 1, none⟩)), .is (.agg #[.int .i64 (p1 : Int), .int .i64 (p2 : Int)]), .is (.slice (some ⟨g, 0, none⟩) L.length cap), .is (.int .i64 (i : Int)), .is (.pointer (some ⟨g, i * 5, none⟩)), .is (.pointer (some ⟨g, i * 5 + 3, none⟩)), .is (.int .i64 tn), .is (.slice (some ⟨g, 0, none⟩) L.length cap), .is (.int .i64 (i : Int)), .is (.pointer (some ⟨g, i * 5, none⟩)), .is (.pointer (some ⟨g, i * 5 + 4, none⟩)), .is (.string tt), .is (tokV tk (p1, p2) tn tt), .has (OneTok ⟨tk, (p1, p2), tn, tt⟩)] (by kernel_rfl) (by kernel_rfl) (by kernel_rfl) (by kernel_rfl) ?_
      iterate 22 (refine wpInvT_is ?_ ?_; (focus (intro W hW hF K hK; clear hF; obtain ⟨c0, c1, c2, c3, c4⟩ := HC.out W hW; go_simp; exact hK _ _ (Gl.refl _) rfl)); simp only [Act.put, List.setIfInBounds_toArray, List.set_cons_zero, List.set_cons_succ])
      refine wpInvT_has _ (oneTok_stable _) ?_ ?_
      · intro W hW hF K hK
        clear hF
        simp only [tokV]
        go_simp
        exact hK _ _ (Gl.alloc W _) ⟨W.heap.size, rfl, fun j u hu => cell_at0 W _ _ j u (by
          show (tokCells ⟨tk, (p1, p2), tn, tt⟩).toArray[j]? = some u
          rw [List.getElem?_toArray]
          exact hu)⟩
      intro v33
      simp only [Act.put, List.setIfInBounds_toArray, List.set_cons_zero, List.set_cons_succ]
      refine wpInvT_tail ?_
      intro W hW hF
      obtain ⟨g1, rfl, hg1⟩ := hF _ (List.mem_cons_self ..)
      clear hF
      have hrow : wr.ownsRow w.heap.size 38 5 (.slice vb i vc) X.length (toks X) := by rw [HLL.out]; exact HRi.out
      obtain ⟨nv, W5, hr, hown, hb5⟩ := run_snoc_tokR W 29 w.heap.size g1 (.slice vb i vc) X ⟨tk, (p1, p2), tn, tt⟩ (own_only hrow (Only.of_below (F := fun _ => False) hW.undrew) (fun _ _ h => h)) hg1 (by rw [HLL.out]; omega) (by have := HB.out.size; have := hW.undrew.size; omega)
      have HO9 : Hid (W5.ownsRow w.heap.size 38 5 nv (L.take (i + 1)).length (toks (L.take (i + 1)))) := Lib.hid (by rw [HT.out]; exact hown)
      have HB9 : Hid (Below w.heap.size w W5) := Lib.hid (HB.out.trans ((hW.undrew.mono HB.out.size).trans hb5))
      rw [TailL]
      refine step_append rfl (.tmp 11) (.tmp 33) 29 rfl rfl rfl hr ?_
      clear hr hW hown hb5 hg1 hrow
      simp only [TailL]
      go_simp
      go_wp2_with fail
      go_roundw
      case rel => exact ⟨i + 1, by omega, by go_num, HO9, HB9⟩
      case measure => simp [intOf]; omega
    · obtain rfl : i = L.length := by omega
      have hfull : L.take L.length = L := List.take_length
      obtain ⟨vb, vc, hvo⟩ := own_slice HR.out
      rw [hfull] at hvo
      subst hvo
      have HF : Hid (wr.ownsRow w.heap.size 38 5 (.slice vb L.length vc) L.length (toks L)) := Lib.hid (by have := HR.out; rw [hfull] at this; exact this)
      clear hfull HR
      go_wp2_with fail
      go_ret
      exact ⟨_, rfl, HF.out, HB.out⟩
set_option maxHeartbeats 4000000 in
theorem same_any (w : World) (b1 b2 : Nat) (u v : Value) (L : List Tok) (h1 : w.ownsRow b1 38 5 u L.length (toks L)) (h2 : w.ownsRow b2 38 5 v L.length (toks L)) (hL : L.length ≤ 6000) :
    Calls Try.prog 12 #[u, v] w fun e w' => e = .returned (.bool true) ∧ Below w.heap.size w w' := by
  obtain ⟨a, cap, rfl⟩ := own_slice h1
  obtain ⟨b, cap2, rfl⟩ := own_slice h2
  have HO1 := Lib.hid h1
  have HO2 := Lib.hid h2
  clear h1 h2
  go_enter Try.func12, Try.ntmps12
  go_wp2_with fail
  go_loopw [5] (fun vi wr => ∃ i : Nat, i ≤ L.length ∧ vi = .int .i64 i ∧ Hid (Below w.heap.size w wr)) (fun vi _ => L.length - (intOf vi).toNat)
  case atStart => exact ⟨0, Nat.zero_le _, rfl, Lib.hid (Below.refl _ _)⟩
  case round =>
    obtain ⟨i, hi, rfl, HB⟩ := hrel
    by_cases hlt : i < L.length
    · have i1 : (i : Int) < (L.length : Int) := by omega
      obtain ⟨g, c1, hv1, hg1, hcells1⟩ := row_tok HO1.out (by omega)
      cases hv1
      obtain ⟨f, c2, hv2, hg2, hcells2⟩ := row_tok HO2.out (by omega)
      cases hv2
      obtain ⟨t, ht⟩ : ∃ t, L[i]? = some t := ⟨_, List.getElem?_eq_getElem hlt⟩
      have HC : Hid (∀ W, Gl wr.drew W → W.cell? ⟨g, i * 5, none⟩ = some (.int .i64 t.kind) ∧ W.cell? ⟨g, i * 5 + 1, none⟩ = some (.int .i64 (t.at_.1 : Int)) ∧ W.cell? ⟨g, i * 5 + 2, none⟩ = some (.int .i64 (t.at_.2 : Int)) ∧ W.cell? ⟨g, i * 5 + 3, none⟩ = some (.int .i64 t.num) ∧ W.cell? ⟨g, i * 5 + 4, none⟩ = some (.string t.text)) := Lib.hid (fun W hW => hcells1 W ((hW.undrew.block g (Nat.lt_of_lt_of_le hg1 HB.out.size)).trans (HB.out.block g hg1)) i t ht)
      have HD : Hid (∀ W, Gl wr.drew W → W.cell? ⟨f, i * 5, none⟩ = some (.int .i64 t.kind) ∧ W.cell? ⟨f, i * 5 + 1, none⟩ = some (.int .i64 (t.at_.1 : Int)) ∧ W.cell? ⟨f, i * 5 + 2, none⟩ = some (.int .i64 (t.at_.2 : Int)) ∧ W.cell? ⟨f, i * 5 + 3, none⟩ = some (.int .i64 t.num) ∧ W.cell? ⟨f, i * 5 + 4, none⟩ = some (.string t.text)) := Lib.hid (fun W hW => hcells2 W ((hW.undrew.block f (Nat.lt_of_lt_of_le hg2 HB.out.size)).trans (HB.out.block f hg2)) i t ht)
      clear hcells1 hcells2 hg1 hg2 ht
      obtain ⟨tk, ⟨p1, p2⟩, tn, tt⟩ := t
      dsimp only at HC HD
      go_upto_region 6 with fail
      refine wp_region_inv_lit [.is (.slice (some ⟨g, 0, none⟩) L.length cap), .is (.int .i64 (i : Int)), .is (.pointer (some ⟨g, i * 5, none⟩)), .is (tokV tk (p1, p2) tn tt), .is (.slice (some ⟨f, 0, none⟩) L.length cap2), .is (.int .i64 (i : Int)), .is (.pointer (some ⟨f, i * 5, none⟩)), .is (tokV tk (p1, p2) tn tt), .is (.bool false)] (by kernel_rfl) (by kernel_rfl) ?_
      iterate 8 (refine wpInv_is ?_ ?_; (focus (intro W hW hF K hK; clear hF; obtain ⟨c0, c1, c2, c3, c4⟩ := HC.out W hW; obtain ⟨d0, d1, d2, d3, d4⟩ := HD.out W hW; go_simp; exact hK _ _ (Gl.refl _) rfl)); simp only [Act.put, List.setIfInBounds_toArray, List.set_cons_zero, List.set_cons_succ])
      refine wpInv_is ?_ ?_
      · intro W hW hF K hK
        clear hF
        simp only [tokV]
        go_simp
        exact hK _ _ (Gl.refl _) rfl
      simp only [Act.put, List.setIfInBounds_toArray, List.set_cons_zero, List.set_cons_succ]
      refine wpInv_end ?_
      intro W hW hF
      have HBW : Hid (Below w.heap.size w W) := Lib.hid (HB.out.trans (hW.undrew.mono HB.out.size))
      clear hW hF HC HD
      go_wp2_with fail
      go_roundw
      case rel => exact ⟨i + 1, by omega, by go_num, HBW⟩
      case measure => simp [intOf]; omega
    · have i1 : ¬ (i : Int) < (L.length : Int) := by omega
      go_wp2_with fail
      go_ret
      exact ⟨rfl, HB.out⟩
end Go.Proofs.Ytghddknhoiaboaa
