/-
  The contract of the reference's (*In).Num.
-/
import Derived.Test.YtlknmnodchfkkaaWireO
namespace Go.Proofs.Ytlknmnodchfkkaa
open Go.ChangeShapes Go.WideShapes Go.ChangeAt Go.RowKit
set_option linter.unusedVariables false

/-- the reference's place of reading -/
def RefAt (w : World) (p : Nat) (s : ByteArray) (e : Int) : Prop := w.heap[p]? = some (.cells #[.string s, .int .i64 e] 40)
theorem RefAt.cells {w : World} {p : Nat} {s : ByteArray} {e : Int} (h : RefAt w p s e) : w.cell? ⟨p, 0, none⟩ = some (.string s) ∧ w.cell? ⟨p, 1, none⟩ = some (.int .i64 e) ∧ w.frozen? ⟨p, 0, none⟩ = false ∧ w.frozen? ⟨p, 1, none⟩ = false := by
  unfold RefAt at h
  refine ⟨?_, ?_, ?_, ?_⟩
  · simp [World.cell?, h]
  · simp [World.cell?, h]
  · simp [World.frozen?, h]
  · simp [World.frozen?, h]
theorem bytesOf_drop (s : ByteArray) (k : Nat) (hk : k < s.size) : (bytesOf s).drop k = s[k].toNat :: (bytesOf s).drop (k + 1) := by
  have h : k < (bytesOf s).length := by rw [bytesOf_length]; exact hk
  rw [List.drop_eq_getElem_cons h]
  congr 1
  simp only [bytesOf, List.getElem_map, Array.getElem_toList]
  rfl
theorem add_step (U c k : Nat) (hk : k ≤ 8) (hU : U < 2 ^ (7 * k)) :
    IntKind.u64.wrap ((U : Int) + IntKind.u64.wrap ((c : Int) % 128 * 2 ^ (7 * k))) = ((U + c % 128 * 2 ^ (7 * k) : Nat) : Int) := by
  have h63 : 2 ^ (7 * k) ≤ 2 ^ 56 := Nat.pow_le_pow_right (by decide) (by omega)
  have hx := step_in c k hk
  have hlt := step_lt U c k hU
  have h3 : 2 ^ (7 * (k + 1)) ≤ 2 ^ 63 := Nat.pow_le_pow_right (by decide) (by omega)
  have e1 : ((c : Int) % 128 * 2 ^ (7 * k)) = ((c % 128 * 2 ^ (7 * k) : Nat) : Int) := by
    rw [Int.natCast_mul, Int.natCast_pow]
    rfl
  rw [e1, IntKind.wrap_u64, IntKind.wrap_u64]
  generalize c % 128 * 2 ^ (7 * k) = X at *
  omega

set_option maxRecDepth 100000 in
theorem refIn_err (p : Nat) (least most : Int) (s : ByteArray) (e : Int) (he : e ≠ 0) (w : World) (h : RefAt w p s e) :
    Calls Try.prog 21 #[.pointer (some ⟨p, 0, none⟩), .int .i64 least, .int .i64 most] w fun e' w' => e' = .returned (.int .i64 0) ∧ RefAt w' p s e ∧ w.grownBy w' (some p) := by
  have H := Lib.hid h
  obtain ⟨h0, h1, f0, f1⟩ := h.cells
  clear h
  have hb : (e == 0) = false := by rw [beq_eq_false_iff_ne]; exact he
  clear he
  go_enter Try.func21, Try.ntmps21
  go_wp2
  go_ret
  exact ⟨rfl, H.out, World.grownBy.refl _ _⟩

theorem readNum_bad {least most : Int} {l : List Nat} {E : Nat} (h : dec 0 0 l = (0, 0, E)) (hE : E ≠ 0) : readNum least most l 0 = (0, l, (E : Int)) := by
  unfold readNum
  rw [h, if_neg (by decide), if_pos hE]
theorem readNum_fit {least most : Int} {l : List Nat} {X S : Nat} (h : dec 0 0 l = (X, S, 0)) (g1 : least ≤ unz X) (g2 : unz X ≤ most) : readNum least most l 0 = (unz X, l.drop S, 0) := by
  unfold readNum
  rw [h, if_neg (by decide), if_neg (fun h => h rfl), if_neg (by dsimp only; omega)]
theorem readNum_big {least most : Int} {l : List Nat} {X S : Nat} (h : dec 0 0 l = (X, S, 0)) (g : unz X < least ∨ most < unz X) : readNum least most l 0 = (0, l, 4) := by
  unfold readNum
  rw [h, if_neg (by decide), if_neg (fun h => h rfl), if_pos (by dsimp only; omega)]
theorem add_nine (U c : Nat) (hU : U < 9223372036854775808) (hc : c ≤ 1) : ∃ X : Nat,
    ((U : Int) + (c : Int) % 128 * 9223372036854775808) = (X : Int) ∧ X = U + c * 9223372036854775808 ∧ X < 18446744073709551616 :=
  ⟨U + c * 9223372036854775808, by omega, rfl, by omega⟩
theorem bytesOf_extract (s : ByteArray) (k : Nat) (hk : k ≤ s.size) : bytesOf (s.extract k s.size) = (bytesOf s).drop k := by
  unfold bytesOf
  rw [← List.map_drop]
  congr 1
  simp
  exact List.take_of_length_le (by rw [List.length_drop, Array.length_toList]; exact Nat.le_refl _)
theorem par (X : Nat) : (((X : Int) % 2 == 1) = true ∧ Hid (unz X = -1 - (X : Int) / 2)) ∨ (((X : Int) % 2 == 1) = false ∧ Hid (unz X = (X : Int) / 2)) := by
  by_cases h : X % 2 = 0
  · refine .inr ⟨by rw [beq_eq_false_iff_ne]; omega, ?_⟩
    show unz X = _
    unfold unz
    rw [if_pos h]
    rfl
  · refine .inl ⟨by rw [beq_iff_eq]; omega, ?_⟩
    show unz X = _
    unfold unz
    rw [if_neg h]
    omega
theorem set0 {w : World} {p : Nat} {s s' : ByteArray} {e : Int} (h : RefAt w p s e) : RefAt (w.setCell ⟨p, 0, none⟩ (.string s')) p s' e := heap_set0 h
theorem set1 {w : World} {p : Nat} {s : ByteArray} {e e' : Int} (h : RefAt w p s e) : RefAt (w.setCell ⟨p, 1, none⟩ (.int .i64 e')) p s e' := heap_set1 h

set_option maxRecDepth 100000 in
set_option maxHeartbeats 4000000 in
theorem refIn_walk (p : Nat) (least most : Int) (s : ByteArray) (w : World) (h : RefAt w p s 0) (hs : s.size ≤ maxLen) :
    Calls Try.prog 21 #[.pointer (some ⟨p, 0, none⟩), .int .i64 least, .int .i64 most] w fun e' w' => e' = .returned (.int .i64 (readNum least most (bytesOf s) 0).1) ∧ (∃ s', bytesOf s' = (readNum least most (bytesOf s) 0).2.1 ∧ RefAt w' p s' (readNum least most (bytesOf s) 0).2.2) ∧ w.grownBy w' (some p) := by
  have H := Lib.hid h
  obtain ⟨h0, h1, f0, f1⟩ := h.cells
  have hs63 : s.size ≤ 9223372036854775807 := by unfold maxLen at hs; omega
  clear h hs
  go_enter Try.func21, Try.ntmps21
  go_wp2
  go_loop [7, 8] (fun u i => ∃ (k U : Nat), i = .int .i64 k ∧ u = .int .u64 U ∧ k ≤ s.size ∧ k ≤ 9 ∧ U < 2 ^ (7 * k) ∧ dec 0 0 (bytesOf s) = dec k U ((bytesOf s).drop k)) (fun _ i => s.size - (intOf i).toNat)
  case atStart => exact ⟨0, 0, rfl, rfl, by omega, by omega, by decide, rfl⟩
  case round =>
    obtain ⟨k, U, rfl, rfl, hk, hk9, hU, hd⟩ := hrel
    have HD := Lib.hid hd
    have HU := Lib.hid hU
    clear hd hU
    by_cases g : k < s.size
    · have hdrop := bytesOf_drop s k g
      obtain ⟨c, hc⟩ : ∃ c, s[k].toNat = c := ⟨_, rfl⟩
      have hc256 : c < 256 := by rw [← hc]; exact s[k].toNat_lt
      rw [hc] at hdrop
      have HD2 : Hid (dec 0 0 (bytesOf s) = dec k U (c :: (bytesOf s).drop (k + 1))) := by rw [← hdrop]; exact HD.out
      clear hdrop HD
      by_cases g9 : k = 9
      · subst g9
        by_cases g1 : 1 < c
        · have e : dec 0 0 (bytesOf s) = (0, 0, 2) := by rw [HD2.out, dec_nine U c _ g1]
          have R := Lib.hid (readNum_bad (least := least) (most := most) e (by decide))
          clear e
          go_wp2
          go_ret
          exact ⟨ret_int (by rw [R.out]), ⟨s, by rw [R.out], by rw [R.out]; exact set1 H.out⟩, grown_cell w p _ _⟩
        · by_cases gz : c = 0
          · have e : dec 0 0 (bytesOf s) = (0, 0, 2) := by
              rw [HD2.out, dec_zero 9 U c _ ⟨gz, by omega⟩]
            have R := Lib.hid (readNum_bad (least := least) (most := most) e (by decide))
            clear e
            go_wp2
            go_ret
            exact ⟨ret_int (by rw [R.out]), ⟨s, by rw [R.out], by rw [R.out]; exact set1 H.out⟩, grown_cell w p _ _⟩
          · obtain ⟨X, hadd, hX, hu64⟩ := add_nine U c HU.out (by omega)
            have E : Hid (dec 0 0 (bytesOf s) = (X, 10, 0)) := by rw [HD2.out, dec_nine_last U c _ g1 gz, hX]; rfl
            clear hX
            rcases par X with ⟨hp, HZ⟩ | ⟨hp, HZ⟩
            all_goals go_wp2
            all_goals go_ret
            all_goals have hz := HZ.out
            all_goals first
              | (have R := readNum_fit (least := least) (most := most) E.out (by omega) (by omega); exact ⟨ret_int (by rw [R]; exact hz.symm), ⟨s.extract (10) s.size, by rw [R]; exact bytesOf_extract s _ (by omega), by rw [R]; exact set0 H.out⟩, grown_cell w p _ _⟩)
              | (have R := readNum_big (least := least) (most := most) E.out (by omega); exact ⟨ret_int (by rw [R]), ⟨s, by rw [R], by rw [R]; exact set1 H.out⟩, grown_cell w p _ _⟩)
      · have hk8 : k ≤ 8 := by omega
        have hadd := add_step U c k hk8 HU.out
        by_cases g128 : 128 ≤ c
        · have HX := Lib.hid (step_lt U c k HU.out)
          have e : dec 0 0 (bytesOf s) = dec (k + 1) (U + c % 128 * 2 ^ (7 * k)) ((bytesOf s).drop (k + 1)) := by rw [HD2.out, dec_more k U c _ (by omega) g128]
          have E := Lib.hid e
          clear e
          generalize U + c % 128 * 2 ^ (7 * k) = X at *
          go_wp2
          go_round
          case rel => exact ⟨k + 1, X, by go_num, rfl, by omega, by omega, HX.out, E.out⟩
          case measure => simp [intOf]; omega
        · by_cases gz : c = 0 ∧ 0 < k
          · obtain ⟨gz0, gk⟩ := gz
            have e : dec 0 0 (bytesOf s) = (0, 0, 2) := by
              rw [HD2.out, dec_zero k U c _ ⟨gz0, gk⟩]
            have R := Lib.hid (readNum_bad (least := least) (most := most) e (by decide))
            clear e
            go_wp2
            go_ret
            exact ⟨ret_int (by rw [R.out]), ⟨s, by rw [R.out], by rw [R.out]; exact set1 H.out⟩, grown_cell w p _ _⟩
          · have e : dec 0 0 (bytesOf s) = (U + c % 128 * 2 ^ (7 * k), k + 1, 0) := by
              rw [HD2.out, dec_last k U c _ (by omega) g128 gz, Nat.mod_eq_of_lt (by omega)]
            have E := Lib.hid e
            have hst := step_lt U c k HU.out
            have hu64 : U + c % 128 * 2 ^ (7 * k) < 18446744073709551616 := by
              have h3 : 2 ^ (7 * (k + 1)) ≤ 2 ^ 64 := Nat.pow_le_pow_right (by decide) (by omega)
              omega
            clear e hst
            generalize U + c % 128 * 2 ^ (7 * k) = X at *
            rcases par X with ⟨hp, HZ⟩ | ⟨hp, HZ⟩
            all_goals go_wp2
            all_goals go_ret
            all_goals have hz := HZ.out
            all_goals first
              | (have R := readNum_fit (least := least) (most := most) E.out (by omega) (by omega); exact ⟨ret_int (by rw [R]; exact hz.symm), ⟨s.extract (k + 1) s.size, by rw [R]; exact bytesOf_extract s _ (by omega), by rw [R]; exact set0 H.out⟩, grown_cell w p _ _⟩)
              | (have R := readNum_big (least := least) (most := most) E.out (by omega); exact ⟨ret_int (by rw [R]), ⟨s, by rw [R], by rw [R]; exact set1 H.out⟩, grown_cell w p _ _⟩)
    · have e : dec 0 0 (bytesOf s) = (0, 0, 3) := by
        rw [HD.out, List.drop_of_length_le (by rw [bytesOf_length]; omega)]
        rfl
      have R := Lib.hid (readNum_bad (least := least) (most := most) e (by decide))
      clear e
      go_wp2
      go_ret
      exact ⟨ret_int (by rw [R.out]), ⟨s, by rw [R.out], by rw [R.out]; exact set1 H.out⟩, grown_cell w p _ _⟩

/-- the reference's reading of a number: the one contract -/
theorem refIn_any (p : Nat) (least most : Int) (s : ByteArray) (e : Int) (w : World) (h : RefAt w p s e) (hs : s.size ≤ maxLen) :
    Calls Try.prog 21 #[.pointer (some ⟨p, 0, none⟩), .int .i64 least, .int .i64 most] w fun e' w' => e' = .returned (.int .i64 (readNum least most (bytesOf s) e).1) ∧ (∃ s', bytesOf s' = (readNum least most (bytesOf s) e).2.1 ∧ RefAt w' p s' (readNum least most (bytesOf s) e).2.2) ∧ w.grownBy w' (some p) := by
  by_cases he : e = 0
  · subst he
    exact refIn_walk p least most s w h hs
  · refine (refIn_err p least most s e he w h).mono ?_
    rintro e' w' ⟨rfl, hr, hb⟩
    have R : readNum least most (bytesOf s) e = (0, bytesOf s, e) := by
      unfold readNum
      rw [if_pos he]
    exact ⟨ret_int (by rw [R]), ⟨s, by rw [R], by rw [R]; exact hr⟩, hb⟩

end Go.Proofs.Ytlknmnodchfkkaa
