/-
  lex: the law's own two texts.
-/
import Derived.Test.YtghddknhoiaboaaLexU
namespace Go.Proofs.Ytghddknhoiaboaa
open Go.ChangeShapes Go.WideShapes Go.ChangeAt Go.RowKit
set_option linter.unusedVariables false
set_option maxRecDepth 100000

theorem lit_one : scanS ⟨#[40, 97, 32, 45, 49, 32, 34, 120, 92, 110, 34, 41]⟩ = .ok [⟨0, (1, 1), 0, ⟨#[]⟩⟩, ⟨5, (1, 2), 0, ⟨#[97]⟩⟩, ⟨2, (1, 4), -1, ⟨#[]⟩⟩, ⟨4, (1, 7), 0, ⟨#[120, 10]⟩⟩, ⟨1, (1, 12), 0, ⟨#[]⟩⟩] := by kernel_rfl
theorem lit_two : scanS ⟨#[49, 50, 97]⟩ = .bad (1, 1) := by kernel_rfl
theorem own_cells {w : World} {base n size : Nat} {e : TypeId} {v : Value} {xs : List Value} (h : w.ownsRow base e size v n xs) (hn : 0 < xs.length) :
    ∃ g cap, v = .slice (some ⟨g, 0, none⟩) n cap ∧ ∀ j u, xs[j]? = some u → w.cell? ⟨g, j, none⟩ = some u := by
  obtain ⟨h1, h2⟩ := h
  rcases h2 with ⟨rfl, rfl⟩ | ⟨g, cap, cur, rfl, hb, hh, hcap, hmx, hs, ht⟩
  · rw [Nat.zero_mul] at h1; omega
  · refine ⟨g, cap, rfl, fun j u hu => ?_⟩
    have hj : j < xs.length := by
      rcases Nat.lt_or_ge j xs.length with hl | hl
      · exact hl
      · rw [List.getElem?_eq_none hl] at hu; cases hu
    rw [← ht, List.getElem?_take, if_pos (by omega)] at hu
    simp only [World.cell?, hh]
    simpa using hu
set_option maxHeartbeats 2000000 in
theorem lexes_any (w : World) (mx : Int) (hmx : w.cell? ⟨1, 0, none⟩ = some (.int .i64 mx)) :
    Calls Try.prog 9 #[] w fun e w' => e = .returned (.bool true) ∧ Below w.heap.size w w' := by
  have hlt := lt_of_cell hmx
  have HM : Hid (∀ W, Below w.heap.size w W → W.cell? ⟨1, 0, none⟩ = some (.int .i64 mx)) := Lib.hid (fun W hb => by
    rw [World.cell?_of_block (a := ⟨1, 0, none⟩) (hb.block _ hlt)]
    exact hmx)
  have HS1 := Lib.hid (scan_any ⟨#[40, 97, 32, 45, 49, 32, 34, 120, 92, 110, 34, 41]⟩ (by decide) w mx hmx)
  clear hmx hlt
  go_enter Try.func9, Try.ntmps9
  go_wp2_with fail
  refine HS1.out.mono ?_
  clear HS1
  rintro e w1 ⟨hr, hb1⟩
  rw [lit_one] at hr
  obtain ⟨v, rfl, hown⟩ := hr
  obtain ⟨g, cap, rfl, hcells⟩ := own_cells hown (by decide)
  have t1 := hcells 19 _ rfl
  have n1 := hcells 13 _ rfl
  have HB1 := Lib.hid hb1
  have hgl := lt_of_cell t1
  obtain ⟨W2, hW2⟩ : ∃ W2, W2 = w1.alloc (.cells #[.int .i64 0, .int .i64 0] 25) := ⟨_, rfl⟩
  have hb2 : Below w1.heap.size w1 W2 := by rw [hW2]; exact (Below.refl _ _).alloc (Nat.le_refl _) _
  have HB2 := Lib.hid (HB1.out.trans (hb2.mono HB1.out.size))
  have HS2 := Lib.hid (scan_any ⟨#[49, 50, 97]⟩ (by decide) W2 mx (HM.out W2 HB2.out))
  have HW2 := Lib.hid hW2
  have HG : Hid (∀ W, Below W2.heap.size W2 W → W.cell? ⟨g, 19, none⟩ = some (.string ⟨#[120, 10]⟩) ∧ W.cell? ⟨g, 13, none⟩ = some (.int .i64 (-1))) := Lib.hid (fun W hb => by
    have e := (hb.block g (Nat.lt_of_lt_of_le hgl hb2.size)).trans (hb2.block g hgl)
    exact ⟨(World.cell?_of_block (a := ⟨g, 19, none⟩) e).trans t1, (World.cell?_of_block (a := ⟨g, 13, none⟩) e).trans n1⟩)
  clear hb1 hown hcells t1 n1 hW2 hb2 hgl
  go_wp2_with fail
  rw [← HW2.out]
  refine HS2.out.mono ?_
  clear HS2
  rintro e w3 ⟨hr, hb3⟩
  rw [lit_two] at hr
  have hr2 : e = .returned (.tuple #[.slice none 0 0, .agg #[.int .i64 1, .int .i64 1], .int .i64 10]) := hr
  subst hr2
  obtain ⟨W4, hW4⟩ : ∃ W4, W4 = w3.alloc (.cells #[.int .i64 1, .int .i64 1] 25) := ⟨_, rfl⟩
  have hb4 : Below w3.heap.size w3 W4 := by rw [hW4]; exact (Below.refl _ _).alloc (Nat.le_refl _) _
  have p0 : W4.cell? ⟨w3.heap.size, 0, none⟩ = some (.int .i64 1) := by rw [hW4]; exact cell_at0 w3 _ _ 0 _ rfl
  have p1 : W4.cell? ⟨w3.heap.size, 1, none⟩ = some (.int .i64 1) := by rw [hW4]; exact cell_at0 w3 _ _ 1 _ rfl
  obtain ⟨t3, n3⟩ := HG.out W4 (hb3.trans (hb4.mono hb3.size))
  have HB4 := Lib.hid ((HB2.out.trans (hb3.mono HB2.out.size)).trans (hb4.mono (Nat.le_trans HB2.out.size hb3.size)))
  have HW4 := Lib.hid hW4
  clear hb3 hr hb4 hW4 HG
  go_upto_region 3 with fail
  rw [← HW4.out]
  go_wp2_with fail
  go_ret
  exact ⟨rfl, HB4.out⟩
end Go.Proofs.Ytghddknhoiaboaa
