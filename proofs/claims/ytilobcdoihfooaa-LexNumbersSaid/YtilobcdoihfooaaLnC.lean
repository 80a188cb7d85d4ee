/-
  The law LexNumbers.
-/
import Derived.Test.YtilobcdoihfooaaLnB
namespace Go.Proofs.Ytilobcdoihfooaa
open Go.ChangeShapes Go.WideShapes Go.ChangeAt Go.RowKit
set_option linter.unusedVariables false
set_option maxRecDepth 100000

theorem bstr_space (k : Nat) : bstr (List.replicate k 32) ++ (⟨#[32]⟩ : ByteArray) = bstr (List.replicate (k + 1) 32) := by
  rw [List.replicate_succ']
  unfold bstr
  apply ByteArray.ext
  simp only [ByteArray.data_append, List.map_append, List.append_toArray]
  rfl
set_option maxHeartbeats 4000000 in
theorem lexNumbers_law (n b : Int) (w : World) (mx : Int) (hmx : w.cell? ⟨1, 0, none⟩ = some (.int .i64 mx)) (hn : (Lit.int .i64 n).wf = true) (hb : (Lit.int .i64 b).wf = true) :
    Calls Try.prog 8 #[.int .i64 n, .int .i64 b] w fun e w' => e = .returned (.bool true) ∧ Below w.heap.size w w' := by
  have hlt := lt_of_cell hmx
  have HM : Hid (∀ W, Below w.heap.size w W → W.cell? ⟨1, 0, none⟩ = some (.int .i64 mx)) := Lib.hid (fun W hb => by
    rw [World.cell?_of_block (a := ⟨1, 0, none⟩) (hb.block _ hlt)]
    exact hmx)
  clear hmx hlt
  go_enter Try.func8, Try.ntmps8
  go_wp2_with fail
  obtain ⟨m, hm, hm20⟩ : ∃ m : Nat, wrap64 ((IntKind.u64.wrap b).tmod 20) = (m : Int) ∧ m < 20 := by
    have h1 : 0 ≤ IntKind.u64.wrap b := by simp only [IntKind.wrap, IntKind.bits, IntKind.signed]; simp; omega
    generalize IntKind.u64.wrap b = x at *
    rw [Int.tmod_eq_emod_of_nonneg h1]
    refine ⟨(x % 20).toNat, ?_, by omega⟩
    unfold wrap64
    omega
  have HQ := Lib.hid hm
  clear hm
  go_loop [5, 6] (fun va vi => ∃ k : Nat, k ≤ m ∧ va = .string (bstr (List.replicate k 32)) ∧ vi = .int .i64 k) (fun _ vi => m - (intOf vi).toNat)
  case atStart => exact ⟨0, Nat.zero_le _, rfl, rfl⟩
  case round =>
    obtain ⟨k, hk, rfl, rfl⟩ := hrel
    have hsz : ¬ 9223372036854775807 < (bstr (List.replicate k 32)).size + 1 := by rw [size_bstr, List.length_replicate]; omega
    by_cases hlt : k < m
    · have i1 : (k : Int) < (m : Int) := by omega
      have hq := HQ.out
      go_wp2_with fail
      clear hq
      go_round
      case rel => exact ⟨k + 1, by omega, by rw [bstr_space], by go_num⟩
      case measure => simp [intOf]; omega
    · have i1 : ¬ (k : Int) < (m : Int) := by omega
      obtain rfl : k = m := by omega
      obtain ⟨z1, z2⟩ := w63_bd n
      have HN := Lib.hid (number_any (w63 n) z1 z2 w)
      have hls : (⟨(Lib.itoa (w63 n)).toArray⟩ : ByteArray).size ≤ 100 := by
        show (Lib.itoa (w63 n)).toArray.size ≤ 100
        rw [List.size_toArray]
        unfold Lib.itoa
        have h20 : ∀ u : Nat, u < 18446744073709551616 → (Lib.decDigits u).length ≤ 20 := fun u hu => by
          have := Lib.nDigits_le20 u hu
          rw [← Lib.decDigits_length] at this
          exact this
        split
        · rw [List.length_cons]
          have := h20 ((w63 n).natAbs) (by omega)
          omega
        · have := h20 ((w63 n).toNat) (by omega)
          omega
      have HSc := Lib.hid (scan_number k (w63 n) z1 z2)
      have hz := wrap_shift n
      have HZ := Lib.hid hz
      generalize w63 n = x at *
      generalize Lib.itoa x = I at *
      have hlen : (bstr (List.replicate k 32)).size = k := by rw [size_bstr, List.length_replicate]
      generalize (bstr (List.replicate k 32)) = SP at *
      generalize (⟨I.toArray⟩ : ByteArray) = IT at *
      have s1 : ¬ 9223372036854775807 < SP.size + IT.size := by omega
      have s2 : ¬ 9223372036854775807 < SP.size + IT.size + 1 := by omega
      have HLen := Lib.hid hlen
      have hT6 : (SP ++ IT ++ (⟨#[41]⟩ : ByteArray)).size ≤ 6000 := by
        rw [ByteArray.size_append, ByteArray.size_append]
        have : (⟨#[41]⟩ : ByteArray).size = 1 := rfl
        omega
      have HT6 := Lib.hid hT6
      clear hlen hT6
      have hq := HQ.out
      go_wp2_with fail
      clear hq
      refine HN.out.mono ?_
      clear HN hz
      rintro e w1 ⟨rfl, hb1⟩
      have HB1 := Lib.hid hb1
      clear hb1
      have HS1 := Lib.hid (scan_any _ HT6.out w1 mx (HM.out w1 HB1.out))
      go_wp2_with fail
      refine HS1.out.mono ?_
      clear HS1
      rintro e w2 ⟨hr, hb2⟩
      rw [HSc.out] at hr
      obtain ⟨v, rfl, hown⟩ := hr
      obtain ⟨g, cap, rfl, hcells⟩ := own_cells hown (Nat.zero_lt_succ _)
      have d0 := hcells 0 _ rfl
      have d1 := hcells 1 _ rfl
      have d2 := hcells 2 _ rfl
      have d3 := hcells 3 _ rfl
      have d5 := hcells 5 _ rfl
      have hgl := lt_of_cell d0
      have HG : Hid (∀ W, Below w2.heap.size w2 W → W.cell? ⟨g, 0, none⟩ = some (.int .i64 2) ∧ W.cell? ⟨g, 1, none⟩ = some (.int .i64 1) ∧ W.cell? ⟨g, 2, none⟩ = some (.int .i64 ((1 + k : Nat) : Int)) ∧ W.cell? ⟨g, 3, none⟩ = some (.int .i64 x) ∧ W.cell? ⟨g, 5, none⟩ = some (.int .i64 1)) := Lib.hid (fun W hb => by
        have e := hb.block g hgl
        exact ⟨(World.cell?_of_block (a := ⟨g, 0, none⟩) e).trans d0, (World.cell?_of_block (a := ⟨g, 1, none⟩) e).trans d1, (World.cell?_of_block (a := ⟨g, 2, none⟩) e).trans d2, (World.cell?_of_block (a := ⟨g, 3, none⟩) e).trans d3, (World.cell?_of_block (a := ⟨g, 5, none⟩) e).trans d5⟩)
      have HB2 := Lib.hid (HB1.out.trans (hb2.mono HB1.out.size))
      clear hb2 hown hcells d0 d1 d2 d3 d5 hgl HSc
      obtain ⟨W3, hW3⟩ : ∃ W3, W3 = w2.alloc (.cells #[.int .i64 0, .int .i64 0] 25) := ⟨_, rfl⟩
      have hb3 : Below w2.heap.size w2 W3 := by rw [hW3]; exact (Below.refl _ _).alloc (Nat.le_refl _) _
      have HB3 := Lib.hid hb3
      have HS2 := Lib.hid (scan_any ⟨#[52, 54, 49, 49, 54, 56, 54, 48, 49, 56, 52, 50, 55, 51, 56, 55, 57, 48, 52]⟩ (by decide) W3 mx (HM.out W3 (HB2.out.trans (hb3.mono HB2.out.size))))
      have HW3 := Lib.hid hW3
      clear hb3 hW3 s1 s2
      go_wp2_with fail
      rw [← HW3.out]
      refine HS2.out.mono ?_
      clear HS2
      rintro e w4 ⟨hr, hb4⟩
      rw [lit_big] at hr
      have hr2 : e = .returned (.tuple #[.slice none 0 0, .agg #[.int .i64 1, .int .i64 1], .int .i64 10]) := hr
      subst hr2
      obtain ⟨W5, hW5⟩ : ∃ W5, W5 = w4.alloc (.cells #[.int .i64 1, .int .i64 1] 25) := ⟨_, rfl⟩
      have hb5 : Below w4.heap.size w4 W5 := by rw [hW5]; exact (Below.refl _ _).alloc (Nat.le_refl _) _
      have HB5 := Lib.hid (HB3.out.trans ((hb4.trans (hb5.mono hb4.size)).mono HB3.out.size))
      have HS3 := Lib.hid (scan_any ⟨#[45, 52, 54, 49, 49, 54, 56, 54, 48, 49, 56, 52, 50, 55, 51, 56, 55, 57, 48, 53]⟩ (by decide) W5 mx (HM.out W5 (HB2.out.trans (HB5.out.mono HB2.out.size))))
      have HW5 := Lib.hid hW5
      clear hr hb4 hb5 hW5 HB3
      go_wp2_with fail
      rw [← HW5.out]
      refine HS3.out.mono ?_
      clear HS3
      rintro e w6 ⟨hr, hb6⟩
      rw [lit_low] at hr
      have hr2 : e = .returned (.tuple #[.slice none 0 0, .agg #[.int .i64 1, .int .i64 1], .int .i64 10]) := hr
      subst hr2
      obtain ⟨W7, hW7⟩ : ∃ W7, W7 = w6.alloc (.cells #[.int .i64 1, .int .i64 1] 25) := ⟨_, rfl⟩
      have hb7 : Below w6.heap.size w6 W7 := by rw [hW7]; exact (Below.refl _ _).alloc (Nat.le_refl _) _
      have HB7 := Lib.hid (HB5.out.trans ((hb6.trans (hb7.mono hb6.size)).mono HB5.out.size))
      have HL := Lib.hid (lexes_any W7 mx (HM.out W7 (HB2.out.trans (HB7.out.mono HB2.out.size))))
      have HW7 := Lib.hid hW7
      clear hr hb6 hb7 hW7 HB5
      go_wp2_with fail
      rw [← HW7.out]
      refine HL.out.mono ?_
      clear HL
      rintro e w8 ⟨rfl, hb8⟩
      have hb28 := HB7.out.trans (hb8.mono HB7.out.size)
      obtain ⟨d0, d1, d2, d3, d5⟩ := HG.out w8 hb28
      have HB8 := Lib.hid (HB2.out.trans (hb28.mono HB2.out.size))
      have hk1 : ((k : Int) + 1) = ((1 + k : Nat) : Int) := by omega
      have hsk := HLen.out
      clear hb8 hb28 HG
      go_wp2_with fail
      go_ret
      exact ⟨rfl, HB8.out⟩
end Go.Proofs.Ytilobcdoihfooaa
