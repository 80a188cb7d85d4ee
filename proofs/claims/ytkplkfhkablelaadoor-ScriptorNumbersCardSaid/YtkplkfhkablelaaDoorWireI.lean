/-
  The contracts of wire.unfold and wire.number.
-/
import Derived.Test.YtkplkfhkablelaaDoorWireH
namespace Go.Proofs.YtkplkfhkablelaaDoor.Wr
open Go.ChangeShapes Go.WideShapes Go.ChangeAt Go.RowKit
set_option linter.unusedVariables false

theorem xor_i64_nat (a b : Nat) (ha : a < 9223372036854775808) (hb : b < 18446744073709551616) (c : Int) (hc : BitVec.ofInt 64 c = BitVec.ofNat 64 b) : bits .xor .i64 (a : Int) c = IntKind.i64.wrap ((a ^^^ b : Nat) : Int) := by
  show IntKind.i64.wrap ((BitVec.ofInt 64 (a : Int) ^^^ BitVec.ofInt 64 c).toNat : Int) = _
  have ea : BitVec.ofInt 64 (a : Int) = BitVec.ofNat 64 a := rfl
  rw [hc, ea, BitVec.toNat_xor, BitVec.toNat_ofNat, BitVec.toNat_ofNat, Nat.mod_eq_of_lt (by omega), Nat.mod_eq_of_lt (by omega)]

theorem and1 (u : Nat) (hu : u < 18446744073709551616) : bits .and .u64 (u : Int) 1 = ((u % 2 : Nat) : Int) := by
  have h := u64_and_nat u 1 hu (by decide)
  rw [Nat.and_one_is_mod] at h
  exact h

theorem unfold_eq (u : Nat) (hu : u < 18446744073709551616) : bits .xor .i64 ((u : Int) / 2) (wrap64 (-wrap64 (bits .and .u64 (u : Int) 1))) = unz u := by
  rw [and1 u hu]
  have e : ((u : Int) / 2) = ((u / 2 : Nat) : Int) := rfl
  rw [e]
  unfold unz
  by_cases g : u % 2 = 0
  · rw [if_pos g, g]
    have h := xor_i64_nat (u / 2) 0 (by omega) (by decide) (wrap64 (-wrap64 ((0 : Nat) : Int))) (by decide +kernel)
    rw [h, Nat.xor_zero, IntKind.wrap_i64]
    omega
  · have g1 : u % 2 = 1 := by omega
    rw [if_neg g, g1]
    have h := xor_i64_nat (u / 2) 18446744073709551615 (by omega) (by decide) (wrap64 (-wrap64 ((1 : Nat) : Int))) (by decide +kernel)
    rw [h, not_nat _ (by omega), IntKind.wrap_i64]
    omega

theorem unfold_any (u : Nat) (hu : u < 18446744073709551616) (w : World) :
    Calls Tryd.prog 65 #[.int .u64 u] w fun e w' => e = .returned (.int .i64 (unz u)) ∧ w = w' := by
  go_enter Tryd.func65, Tryd.ntmps65
  go_wp2
  go_ret
  exact ⟨ret_int (unfold_eq u hu), rfl⟩

/-- a row of bytes that is there -/
def ByteRow (w : World) (a : Option Addr) (len : Nat) (l : List Nat) : Prop :=
  l.length = len ∧ len ≤ maxLen ∧ (∀ c ∈ l, c < 256) ∧ (0 < len → ∃ b o, a = some ⟨b, o, none⟩ ∧ ∀ i, i < len → w.cell? ⟨b, o + i, none⟩ = some (.int .u8 ((l.getD i 0 : Nat) : Int)))

theorem and127 (c : Nat) (hc : c < 256) : bits .and .u8 (c : Int) 127 = ((c % 128 : Nat) : Int) := by
  have h := u8_and_nat c 127 hc (by decide)
  rw [show (127 : Nat) = 2 ^ 7 - 1 from rfl, Nat.and_two_pow_sub_one_eq_mod] at h
  exact h

theorem or_step (U c k : Nat) (hk : k ≤ 9) (hU : U < 2 ^ (7 * k)) (hx : c % 128 * 2 ^ (7 * k) < 18446744073709551616) :
    bits .or .u64 (U : Int) (IntKind.u64.wrap ((c : Int) % 128 * 2 ^ (7 * k))) = ((U + c % 128 * 2 ^ (7 * k) : Nat) : Int) := by
  have h63 : 2 ^ (7 * k) ≤ 2 ^ 63 := Nat.pow_le_pow_right (by decide) (by omega)
  have e1 : ((c : Int) % 128 * 2 ^ (7 * k)) = ((c % 128 * 2 ^ (7 * k) : Nat) : Int) := by
    rw [Int.natCast_mul, Int.natCast_pow]
    rfl
  rw [e1, IntKind.wrap_u64]
  have e2 : ((c % 128 * 2 ^ (7 * k) : Nat) : Int) % 18446744073709551616 = ((c % 128 * 2 ^ (7 * k) : Nat) : Int) := by
    generalize c % 128 * 2 ^ (7 * k) = X at *
    omega
  rw [e2, u64_or_nat _ _ (by omega) hx]
  have h := Nat.two_pow_add_eq_or_of_lt hU (c % 128)
  rw [Nat.or_comm, Nat.mul_comm (c % 128), ← h, Nat.add_comm]
theorem step_lt (U c k : Nat) (hU : U < 2 ^ (7 * k)) : U + c % 128 * 2 ^ (7 * k) < 2 ^ (7 * (k + 1)) := by
  have e2 : 2 ^ (7 * (k + 1)) = 2 ^ (7 * k) * 128 := by rw [show 7 * (k + 1) = 7 * k + 7 by omega, Nat.pow_add]
  have h : c % 128 * 2 ^ (7 * k) ≤ 127 * 2 ^ (7 * k) := Nat.mul_le_mul_right _ (by omega)
  omega
theorem step_in (c k : Nat) (hk : k ≤ 8) : c % 128 * 2 ^ (7 * k) < 18446744073709551616 := by
  have h1 : c % 128 * 2 ^ (7 * k) ≤ 127 * 2 ^ (7 * k) := Nat.mul_le_mul_right _ (by omega)
  have h2 : 2 ^ (7 * k) ≤ 2 ^ 56 := Nat.pow_le_pow_right (by decide) (by omega)
  omega

theorem dec_nine (u c : Nat) (r : List Nat) (h : 1 < c) : dec 9 u (c :: r) = (0, 0, 2) := by
  unfold dec
  rw [if_pos ⟨rfl, h⟩]
theorem dec_more (k u c : Nat) (r : List Nat) (h9 : ¬ (k = 9 ∧ 1 < c)) (h : 128 ≤ c) : dec k u (c :: r) = dec (k + 1) (u + c % 128 * 2 ^ (7 * k)) r := by
  conv => lhs; unfold dec
  rw [if_neg h9, if_pos h]
theorem dec_zero (k u c : Nat) (r : List Nat) (h : c = 0 ∧ 0 < k) : dec k u (c :: r) = (0, 0, 2) := by
  unfold dec
  rw [if_neg (by omega), if_neg (by omega), if_pos h]
theorem dec_last (k u c : Nat) (r : List Nat) (h9 : ¬ (k = 9 ∧ 1 < c)) (h : ¬ 128 ≤ c) (hz : ¬ (c = 0 ∧ 0 < k)) : dec k u (c :: r) = (u + c * 2 ^ (7 * k), k + 1, 0) := by
  unfold dec
  rw [if_neg h9, if_neg h, if_neg hz]

theorem ret3 {a b c a' b' c' : Int} (h1 : a = a') (h2 : b = b') (h3 : c = c') :
    Ending.returned (.tuple #[.int .i64 a, .int .i64 b, .int .i64 c]) = .returned (.tuple #[.int .i64 a', .int .i64 b', .int .i64 c']) := by rw [h1, h2, h3]

theorem or_nine (U c : Nat) (hU : U < 9223372036854775808) (hc : c ≤ 1) : ∃ X : Nat,
    bits .or .u64 (U : Int) ((c : Int) % 128 * 9223372036854775808) = (X : Int) ∧ X = U + c * 9223372036854775808 ∧ X < 18446744073709551616 := by
  refine ⟨U + c * 9223372036854775808, ?_, rfl, by omega⟩
  have e1 : ((c : Int) % 128 * 9223372036854775808) = ((c * 9223372036854775808 : Nat) : Int) := by omega
  rw [e1, u64_or_nat _ _ (by omega) (by omega)]
  rcases Nat.lt_or_ge c 1 with h | h
  · obtain rfl : c = 0 := by omega
    rw [Nat.zero_mul, Nat.or_zero, Nat.add_zero]
  · obtain rfl : c = 1 := by omega
    have h := Nat.two_pow_add_eq_or_of_lt (i := 63) (b := U) (by omega) 1
    have e2 : (2 ^ 63 : Nat) = 9223372036854775808 := rfl
    rw [e2] at h
    rw [Nat.one_mul]
    rw [Nat.mul_one] at h
    rw [Nat.or_comm, ← h, Nat.add_comm]
theorem dec_nine_last (U c : Nat) (r : List Nat) (h1 : ¬ 1 < c) (h0 : ¬ c = 0) : dec 9 U (c :: r) = (U + c * 9223372036854775808, 10, 0) := by
  rw [dec_last 9 U c r (by omega) (by omega) (by omega)]

def errOf (r : Nat × Nat × Nat) : Int := r.2.2
def numOf (r : Nat × Nat × Nat) : Int := if r.2.2 = 0 then unz r.1 else 0

set_option maxRecDepth 100000 in
theorem number_any (a : Option Addr) (len cap : Nat) (l : List Nat) (hm : len ≤ maxLen) (w : World) (hr : ByteRow w a len l) :
    Calls Tryd.prog 54 #[.slice a len cap] w fun e w' => e = .returned (.tuple #[.int .i64 (numOf (dec 0 0 l)), .int .i64 ((dec 0 0 l).2.1 : Nat), .int .i64 (errOf (dec 0 0 l))]) ∧ w = w' := by
  obtain ⟨h1, h2, h3, h4⟩ := hr
  have H3 := Lib.hid h3
  have H4 := Lib.hid h4
  have H1 := Lib.hid h1
  clear h3 h4 h1
  go_enter Tryd.func54, Tryd.ntmps54
  go_wp2
  go_loop [5, 10] (fun u i => ∃ (k U : Nat), i = .int .i64 k ∧ u = .int .u64 U ∧ k ≤ len ∧ k ≤ 9 ∧ U < 2 ^ (7 * k) ∧ dec 0 0 l = dec k U (l.drop k)) (fun _ i => len - (intOf i).toNat)
  case atStart => exact ⟨0, 0, rfl, rfl, by omega, by omega, by decide, rfl⟩
  case round =>
    obtain ⟨k, U, rfl, rfl, hk, hk9, hU, hd⟩ := hrel
    have HD := Lib.hid hd
    have HU := Lib.hid hU
    clear hd hU
    by_cases g : k < len
    · obtain ⟨b, o, rfl, hcell⟩ := H4.out (by omega)
      obtain ⟨c, hc⟩ : ∃ c, c = l.getD k 0 := ⟨_, rfl⟩
      have hck := hcell k g
      rw [← hc] at hck
      have hc256 : c < 256 := by
        rw [hc]
        refine H3.out _ ?_
        rw [List.getD_eq_getElem?_getD, List.getElem?_eq_getElem (by rw [H1.out]; exact g)]
        exact List.getElem_mem _
      have hdrop : l.drop k = c :: l.drop (k + 1) := by
        rw [hc, List.getD_eq_getElem?_getD, List.getElem?_eq_getElem (by rw [H1.out]; exact g)]
        exact List.drop_eq_getElem_cons (by rw [H1.out]; exact g)
      have HD2 : Hid (dec 0 0 l = dec k U (c :: l.drop (k + 1))) := by rw [← hdrop]; exact HD.out
      have h127 := and127 c hc256
      clear hcell hdrop hc HD
      by_cases g9 : k = 9
      · subst g9
        by_cases g1 : 1 < c
        · have e : dec 0 0 l = (0, 0, 2) := by rw [HD2.out, dec_nine U c _ g1]
          have E := Lib.hid e
          clear e
          go_wp2
          go_ret3
          exact ⟨ret3 (by rw [E.out]; rfl) (by rw [E.out]; rfl) (by rw [E.out]; rfl), rfl⟩
        · by_cases gz : c = 0
          · subst gz
            have hor := or_step U 0 9 (by omega) HU.out (by omega)
            have e : dec 0 0 l = (0, 0, 2) := by
              rw [HD2.out, dec_zero 9 U 0 _ ⟨rfl, by omega⟩]
            have E := Lib.hid e
            clear e
            go_wp2
            go_ret3
            exact ⟨ret3 (by rw [E.out]; rfl) (by rw [E.out]; rfl) (by rw [E.out]; rfl), rfl⟩
          · obtain ⟨X, hor, hX, hu64⟩ := or_nine U c HU.out (by omega)
            have E : Hid (dec 0 0 l = (X, 10, 0)) := by rw [HD2.out, dec_nine_last U c _ g1 gz, hX]; rfl
            clear hX
            go_wp2_with (go_at_call 65; refine (unfold_any X hu64 _).mono ?_; rintro e w1 ⟨rfl, rfl⟩)
            go_ret3
            exact ⟨ret3 (by rw [E.out]; rfl) (by rw [E.out]; rfl) (by rw [E.out]; rfl), rfl⟩
      · have hk8 : k ≤ 8 := by omega
        by_cases g128 : 128 ≤ c
        · have hor := or_step U c k hk9 HU.out (step_in c k hk8)
          go_wp2
          go_round
          case rel =>
            refine ⟨k + 1, U + c % 128 * 2 ^ (7 * k), by go_num, by go_num, by omega, by omega, step_lt U c k HU.out, ?_⟩
            rw [HD2.out, dec_more k U c _ (by omega) g128]
          case measure => simp [intOf]; omega
        · by_cases gz : c = 0 ∧ 0 < k
          · obtain ⟨rfl, gk⟩ := gz
            have hor := or_step U 0 k hk9 HU.out (step_in 0 k hk8)
            have e : dec 0 0 l = (0, 0, 2) := by
              rw [HD2.out, dec_zero k U 0 _ ⟨rfl, gk⟩]
            have E := Lib.hid e
            clear e
            go_wp2
            go_ret3
            exact ⟨ret3 (by rw [E.out]; rfl) (by rw [E.out]; rfl) (by rw [E.out]; rfl), rfl⟩
          · have hor := or_step U c k hk9 HU.out (step_in c k hk8)
            have hst := step_lt U c k HU.out
            have e : dec 0 0 l = (U + c % 128 * 2 ^ (7 * k), k + 1, 0) := by
              rw [HD2.out, dec_last k U c _ (by omega) g128 gz, Nat.mod_eq_of_lt (by omega)]
            have E := Lib.hid e
            clear e
            have hu64 : U + c % 128 * 2 ^ (7 * k) < 18446744073709551616 := by
              have h3 : 2 ^ (7 * (k + 1)) ≤ 2 ^ 64 := Nat.pow_le_pow_right (by decide) (by omega)
              omega
            generalize U + c % 128 * 2 ^ (7 * k) = X at *
            go_wp2_with (go_at_call 65; refine (unfold_any X hu64 _).mono ?_; rintro e w1 ⟨rfl, rfl⟩)
            all_goals go_ret3
            all_goals exact ⟨ret3 (by rw [E.out]; rfl) (by rw [E.out]; rfl) (by rw [E.out]; rfl), rfl⟩
    · obtain rfl : k = len := by omega
      have e : dec 0 0 l = (0, 0, 3) := by
        rw [HD.out, List.drop_of_length_le (by rw [H1.out]; exact Nat.le_refl _)]
        rfl
      have E := Lib.hid e
      clear e
      go_wp2
      go_ret3
      exact ⟨ret3 (by rw [E.out]; rfl) (by rw [E.out]; rfl) (by rw [E.out]; rfl), rfl⟩

end Go.Proofs.YtkplkfhkablelaaDoor.Wr
