/-
  The law WireSizes.
-/
import Derived.Test.YtlknmnodchfkkaaWireD
namespace Go.Proofs.Ytlknmnodchfkkaa
open Go.ChangeShapes Go.WideShapes Go.ChangeAt Go.RowKit
set_option linter.unusedVariables false

theorem below_back {w W w1 : World} (k : Hid (Below W.heap.size W w1)) (h : Below w.heap.size w W) : Below w.heap.size w w1 := Below.step k.out h

theorem slice_of_own {w : World} {base L : Nat} {v : Value} {l : List Nat} (h : w.ownsRow base 5 1 v l.length (vals l)) (hv : v ≠ .slice none 0 0) (hL : Hid (L = l.length)) :
    ∃ g cap, v = .slice (some ⟨g, 0, none⟩) L cap := by
  obtain ⟨g, cap, h1, h2⟩ := str_of_own h hv
  rw [hL.out]
  exact ⟨g, cap, h1⟩

theorem zig_pos (n : Int) (h1 : 0 ≤ n) (h2 : n ≤ 9223372036854775807) : IntKind.u64.wrap (IntKind.u64.wrap n * 2) = ((zig n : Nat) : Int) := by
  rw [IntKind.wrap_u64 n, IntKind.wrap_u64 (_ * 2)]
  unfold zig
  rw [if_pos h1]
  omega
theorem zig_neg (n : Int) (h1 : n < 0) (h2 : -9223372036854775808 ≤ n) : bits .xor .u64 IntKind.u64.max (IntKind.u64.wrap (IntKind.u64.wrap n * 2)) = ((zig n : Nat) : Int) := by
  rw [IntKind.wrap_u64 n, IntKind.wrap_u64 (_ * 2)]
  have e1 : n % 18446744073709551616 * 2 % 18446744073709551616 = (((2 * n + 18446744073709551616).toNat : Nat) : Int) := by omega
  have e2 : IntKind.u64.max = ((18446744073709551615 : Nat) : Int) := by decide
  rw [e1, e2, u64_xor_nat _ _ (by decide) (by omega), Nat.xor_comm, not_nat _ (by omega)]
  unfold zig
  rw [if_neg (by omega)]
  omega

theorem code_one (n : Int) (i U : Nat) (hi : i ≤ 9) (h : (code n).length = i + (enc (10 - i) U).length) (g : U < 128) : (code n).length = i + 1 := by
  rw [h, show 10 - i = (9 - i) + 1 by omega]
  unfold enc
  rw [if_pos g]
  rfl
theorem code_more (n : Int) (i U : Nat) (hi : i ≤ 9) (hU : U < 2 ^ (64 - 7 * i)) (h : (code n).length = i + (enc (10 - i) U).length) (g : 128 ≤ U) :
    i + 1 ≤ 9 ∧ U / 128 < 2 ^ (64 - 7 * (i + 1)) ∧ (code n).length = (i + 1) + (enc (10 - (i + 1)) (U / 128)).length := by
  have hi8 : i ≤ 8 := by
    rcases Nat.lt_or_ge i 9 with h | h
    · omega
    · have e : i = 9 := by omega
      rw [e] at hU
      omega
  refine ⟨by omega, ?_, ?_⟩
  · rw [show 64 - 7 * i = (64 - 7 * (i + 1)) + 7 by omega, Nat.pow_add] at hU
    exact Nat.div_lt_of_lt_mul (by rw [Nat.mul_comm]; exact hU)
  · rw [h, show 10 - i = (10 - (i + 1)) + 1 by omega]
    conv => lhs; unfold enc
    rw [if_neg (by omega)]
    simp only [List.length_cons]
    omega

theorem zig_pos2 (n : Int) (h1 : 0 ≤ n) (h2 : n ≤ 9223372036854775807) : n * 2 = ((zig n : Nat) : Int) := by
  unfold zig
  rw [if_pos h1]
  omega

set_option maxRecDepth 100000 in
theorem sizes_np (n : Int) (s : ByteArray) (h1 : -9223372036854775808 ≤ n) (h2 : n ≤ 9223372036854775807) (w1 : s.size ≤ maxLen) (hn : n < 0) (hs : s.size ≤ 2000) (w : World) :
    Calls Try.prog 7 #[.int .i64 n, .string s] w fun e w' => e = .returned (.bool true) ∧ Below w.heap.size w w' := by
  have hz := zig_neg n hn h1
  have hzl := zig_lt n h1 h2
  go_enter Try.func7, Try.ntmps7
  go_wp2
  clear hz
  go_loop [5, 6] (fun c u => ∃ (i U : Nat), c = .int .i64 ((i : Int) + 1) ∧ u = .int .u64 U ∧ i ≤ 9 ∧ U < 2 ^ (64 - 7 * i) ∧ (code n).length = i + (enc (10 - i) U).length) (fun _ u => (intOf u).toNat)
  case atStart => exact ⟨0, zig n, rfl, rfl, by omega, hzl, by simp [code]⟩
  case round =>
    obtain ⟨i, U, rfl, rfl, hi9, hU, hlen⟩ := hrel
    have HU := Lib.hid hU
    have HL := Lib.hid hlen
    clear hU hlen
    by_cases g : 128 ≤ U
    · have hm := code_more n i U hi9 HU.out HL.out g
      have HM := Lib.hid hm
      clear hm
      go_wp2
      go_round
      case rel => exact ⟨i + 1, U / 128, by go_num, by go_num, HM.out.1, HM.out.2.1, HM.out.2.2⟩
      case measure => simp [intOf]; omega
    · have hc := code_one n i U hi9 HL.out (by omega)
      have HC := Lib.hid hc
      clear hc
      have HC1 : Hid (i + 1 = (code n).length) := HC.out.symm
      have HC2 : Hid (i + 1 = (code (-1 - n)).length) := (HC.out.symm.trans (code_opp n).symm)
      obtain ⟨M, hM⟩ : ∃ M : Nat, M = (code s.size).length := ⟨_, rfl⟩
      have hM10 : M ≤ 10 := by rw [hM]; exact code_len _
      have HC3 : Hid (M = (code s.size).length) := hM
      have HC4 : Hid (M + s.size = (code s.size ++ bytesOf s).length) := by rw [List.length_append, bytesOf_length, hM]; exact rfl
      have HC0 := HC
      clear hM HC HL HU
      go_wp2_with (first
        | (go_at_call 8; refine (wires_any _).mono ?_; rintro e w1 ⟨rfl, hb⟩; have HB1 := Lib.hid hb; clear hb)
        | (go_at_call 9; refine (num_any _ (by omega) (by omega) _).mono ?_; rintro e w1 ⟨v, rfl, ho, hn, hb⟩; (first | (with_reducible obtain ⟨g, cap, rfl⟩ := slice_of_own ho hn HC1) | (with_reducible obtain ⟨g, cap, rfl⟩ := slice_of_own ho hn HC2) | (with_reducible obtain ⟨g, cap, rfl⟩ := slice_of_own ho hn HC3)); have HB1 := Lib.hid hb; clear ho hn hb)
        | (go_at_call 11; refine (str_any _ (by omega) _).mono ?_; rintro e w1 ⟨v, rfl, ho, hn, hb⟩; (first | (with_reducible obtain ⟨g, cap, rfl⟩ := slice_of_own ho hn HC4)); have HB1 := Lib.hid hb; clear ho hn hb))
      go_ret
      refine ⟨rfl, ?_⟩
      repeat (first | exact Hid.out (by assumption) | (apply below_back; assumption))

set_option maxRecDepth 100000 in
theorem sizes_pp (n : Int) (s : ByteArray) (h1 : -9223372036854775808 ≤ n) (h2 : n ≤ 9223372036854775807) (w1 : s.size ≤ maxLen) (hn : 0 ≤ n) (hs : s.size ≤ 2000) (w : World) :
    Calls Try.prog 7 #[.int .i64 n, .string s] w fun e w' => e = .returned (.bool true) ∧ Below w.heap.size w w' := by
  have hz := zig_pos2 n hn h2
  have hzl := zig_lt n h1 h2
  go_enter Try.func7, Try.ntmps7
  go_wp2
  clear hz
  go_loop [5, 6] (fun c u => ∃ (i U : Nat), c = .int .i64 ((i : Int) + 1) ∧ u = .int .u64 U ∧ i ≤ 9 ∧ U < 2 ^ (64 - 7 * i) ∧ (code n).length = i + (enc (10 - i) U).length) (fun _ u => (intOf u).toNat)
  case atStart => exact ⟨0, zig n, rfl, rfl, by omega, hzl, by simp [code]⟩
  case round =>
    obtain ⟨i, U, rfl, rfl, hi9, hU, hlen⟩ := hrel
    have HU := Lib.hid hU
    have HL := Lib.hid hlen
    clear hU hlen
    by_cases g : 128 ≤ U
    · have hm := code_more n i U hi9 HU.out HL.out g
      have HM := Lib.hid hm
      clear hm
      go_wp2
      go_round
      case rel => exact ⟨i + 1, U / 128, by go_num, by go_num, HM.out.1, HM.out.2.1, HM.out.2.2⟩
      case measure => simp [intOf]; omega
    · have hc := code_one n i U hi9 HL.out (by omega)
      have HC := Lib.hid hc
      clear hc
      have HC1 : Hid (i + 1 = (code n).length) := HC.out.symm
      have HC2 : Hid (i + 1 = (code (-1 - n)).length) := (HC.out.symm.trans (code_opp n).symm)
      obtain ⟨M, hM⟩ : ∃ M : Nat, M = (code s.size).length := ⟨_, rfl⟩
      have hM10 : M ≤ 10 := by rw [hM]; exact code_len _
      have HC3 : Hid (M = (code s.size).length) := hM
      have HC4 : Hid (M + s.size = (code s.size ++ bytesOf s).length) := by rw [List.length_append, bytesOf_length, hM]; exact rfl
      have HC0 := HC
      clear hM HC HL HU
      go_wp2_with (first
        | (go_at_call 8; refine (wires_any _).mono ?_; rintro e w1 ⟨rfl, hb⟩; have HB1 := Lib.hid hb; clear hb)
        | (go_at_call 9; refine (num_any _ (by omega) (by omega) _).mono ?_; rintro e w1 ⟨v, rfl, ho, hn, hb⟩; (first | (with_reducible obtain ⟨g, cap, rfl⟩ := slice_of_own ho hn HC1) | (with_reducible obtain ⟨g, cap, rfl⟩ := slice_of_own ho hn HC2) | (with_reducible obtain ⟨g, cap, rfl⟩ := slice_of_own ho hn HC3)); have HB1 := Lib.hid hb; clear ho hn hb)
        | (go_at_call 11; refine (str_any _ (by omega) _).mono ?_; rintro e w1 ⟨v, rfl, ho, hn, hb⟩; (first | (with_reducible obtain ⟨g, cap, rfl⟩ := slice_of_own ho hn HC4)); have HB1 := Lib.hid hb; clear ho hn hb))
      go_ret
      refine ⟨rfl, ?_⟩
      repeat (first | exact Hid.out (by assumption) | (apply below_back; assumption))

set_option maxRecDepth 100000 in
theorem sizes_ng (n : Int) (s : ByteArray) (h1 : -9223372036854775808 ≤ n) (h2 : n ≤ 9223372036854775807) (w1 : s.size ≤ maxLen) (hn : n < 0) (hs : 2000 < s.size) (w : World) :
    Calls Try.prog 7 #[.int .i64 n, .string s] w fun e w' => e = .returned (.bool true) ∧ Below w.heap.size w w' := by
  have hz := zig_neg n hn h1
  have hzl := zig_lt n h1 h2
  go_enter Try.func7, Try.ntmps7
  go_wp2
  clear hz
  generalize hT : s.extract 0 2000 = T
  have hT2 : T.size ≤ 2000 := by rw [← hT]; simp; omega
  clear hT
  go_loop [5, 6] (fun c u => ∃ (i U : Nat), c = .int .i64 ((i : Int) + 1) ∧ u = .int .u64 U ∧ i ≤ 9 ∧ U < 2 ^ (64 - 7 * i) ∧ (code n).length = i + (enc (10 - i) U).length) (fun _ u => (intOf u).toNat)
  case atStart => exact ⟨0, zig n, rfl, rfl, by omega, hzl, by simp [code]⟩
  case round =>
    obtain ⟨i, U, rfl, rfl, hi9, hU, hlen⟩ := hrel
    have HU := Lib.hid hU
    have HL := Lib.hid hlen
    clear hU hlen
    by_cases g : 128 ≤ U
    · have hm := code_more n i U hi9 HU.out HL.out g
      have HM := Lib.hid hm
      clear hm
      go_wp2
      go_round
      case rel => exact ⟨i + 1, U / 128, by go_num, by go_num, HM.out.1, HM.out.2.1, HM.out.2.2⟩
      case measure => simp [intOf]; omega
    · have hc := code_one n i U hi9 HL.out (by omega)
      have HC := Lib.hid hc
      clear hc
      have HC1 : Hid (i + 1 = (code n).length) := HC.out.symm
      have HC2 : Hid (i + 1 = (code (-1 - n)).length) := (HC.out.symm.trans (code_opp n).symm)
      obtain ⟨M, hM⟩ : ∃ M : Nat, M = (code T.size).length := ⟨_, rfl⟩
      have hM10 : M ≤ 10 := by rw [hM]; exact code_len _
      have HC3 : Hid (M = (code T.size).length) := hM
      have HC4 : Hid (M + T.size = (code T.size ++ bytesOf T).length) := by rw [List.length_append, bytesOf_length, hM]; exact rfl
      have HC0 := HC
      clear hM HC HL HU
      go_wp2_with (first
        | (go_at_call 8; refine (wires_any _).mono ?_; rintro e w1 ⟨rfl, hb⟩; have HB1 := Lib.hid hb; clear hb)
        | (go_at_call 9; refine (num_any _ (by omega) (by omega) _).mono ?_; rintro e w1 ⟨v, rfl, ho, hn, hb⟩; (first | (with_reducible obtain ⟨g, cap, rfl⟩ := slice_of_own ho hn HC1) | (with_reducible obtain ⟨g, cap, rfl⟩ := slice_of_own ho hn HC2) | (with_reducible obtain ⟨g, cap, rfl⟩ := slice_of_own ho hn HC3)); have HB1 := Lib.hid hb; clear ho hn hb)
        | (go_at_call 11; refine (str_any _ (by omega) _).mono ?_; rintro e w1 ⟨v, rfl, ho, hn, hb⟩; (first | (with_reducible obtain ⟨g, cap, rfl⟩ := slice_of_own ho hn HC4)); have HB1 := Lib.hid hb; clear ho hn hb))
      go_ret
      refine ⟨rfl, ?_⟩
      repeat (first | exact Hid.out (by assumption) | (apply below_back; assumption))

set_option maxRecDepth 100000 in
theorem sizes_pg (n : Int) (s : ByteArray) (h1 : -9223372036854775808 ≤ n) (h2 : n ≤ 9223372036854775807) (w1 : s.size ≤ maxLen) (hn : 0 ≤ n) (hs : 2000 < s.size) (w : World) :
    Calls Try.prog 7 #[.int .i64 n, .string s] w fun e w' => e = .returned (.bool true) ∧ Below w.heap.size w w' := by
  have hz := zig_pos2 n hn h2
  have hzl := zig_lt n h1 h2
  go_enter Try.func7, Try.ntmps7
  go_wp2
  clear hz
  generalize hT : s.extract 0 2000 = T
  have hT2 : T.size ≤ 2000 := by rw [← hT]; simp; omega
  clear hT
  go_loop [5, 6] (fun c u => ∃ (i U : Nat), c = .int .i64 ((i : Int) + 1) ∧ u = .int .u64 U ∧ i ≤ 9 ∧ U < 2 ^ (64 - 7 * i) ∧ (code n).length = i + (enc (10 - i) U).length) (fun _ u => (intOf u).toNat)
  case atStart => exact ⟨0, zig n, rfl, rfl, by omega, hzl, by simp [code]⟩
  case round =>
    obtain ⟨i, U, rfl, rfl, hi9, hU, hlen⟩ := hrel
    have HU := Lib.hid hU
    have HL := Lib.hid hlen
    clear hU hlen
    by_cases g : 128 ≤ U
    · have hm := code_more n i U hi9 HU.out HL.out g
      have HM := Lib.hid hm
      clear hm
      go_wp2
      go_round
      case rel => exact ⟨i + 1, U / 128, by go_num, by go_num, HM.out.1, HM.out.2.1, HM.out.2.2⟩
      case measure => simp [intOf]; omega
    · have hc := code_one n i U hi9 HL.out (by omega)
      have HC := Lib.hid hc
      clear hc
      have HC1 : Hid (i + 1 = (code n).length) := HC.out.symm
      have HC2 : Hid (i + 1 = (code (-1 - n)).length) := (HC.out.symm.trans (code_opp n).symm)
      obtain ⟨M, hM⟩ : ∃ M : Nat, M = (code T.size).length := ⟨_, rfl⟩
      have hM10 : M ≤ 10 := by rw [hM]; exact code_len _
      have HC3 : Hid (M = (code T.size).length) := hM
      have HC4 : Hid (M + T.size = (code T.size ++ bytesOf T).length) := by rw [List.length_append, bytesOf_length, hM]; exact rfl
      have HC0 := HC
      clear hM HC HL HU
      go_wp2_with (first
        | (go_at_call 8; refine (wires_any _).mono ?_; rintro e w1 ⟨rfl, hb⟩; have HB1 := Lib.hid hb; clear hb)
        | (go_at_call 9; refine (num_any _ (by omega) (by omega) _).mono ?_; rintro e w1 ⟨v, rfl, ho, hn, hb⟩; (first | (with_reducible obtain ⟨g, cap, rfl⟩ := slice_of_own ho hn HC1) | (with_reducible obtain ⟨g, cap, rfl⟩ := slice_of_own ho hn HC2) | (with_reducible obtain ⟨g, cap, rfl⟩ := slice_of_own ho hn HC3)); have HB1 := Lib.hid hb; clear ho hn hb)
        | (go_at_call 11; refine (str_any _ (by omega) _).mono ?_; rintro e w1 ⟨v, rfl, ho, hn, hb⟩; (first | (with_reducible obtain ⟨g, cap, rfl⟩ := slice_of_own ho hn HC4)); have HB1 := Lib.hid hb; clear ho hn hb))
      go_ret
      refine ⟨rfl, ?_⟩
      repeat (first | exact Hid.out (by assumption) | (apply below_back; assumption))

theorem wireSizes_law (n : Int) (s : ByteArray) (w0 : (Lit.int .i64 n).wf = true) (w1 : s.size ≤ maxLen) (w : World) :
    Calls Try.prog 7 #[.int .i64 n, .string s] w fun e w' => e = .returned (.bool true) ∧ Below w.heap.size w w' := by
  have hb : -9223372036854775808 ≤ n ∧ n ≤ 9223372036854775807 := by
    simp [Lit.wf, IntKind.min, IntKind.max, IntKind.signed, IntKind.bits] at w0
    omega
  by_cases hn : n < 0
  · by_cases hs : s.size ≤ 2000
    · exact sizes_np n s hb.1 hb.2 w1 hn hs w
    · exact sizes_ng n s hb.1 hb.2 w1 hn (by omega) w
  · by_cases hs : s.size ≤ 2000
    · exact sizes_pp n s hb.1 hb.2 w1 (by omega) hs w
    · exact sizes_pg n s hb.1 hb.2 w1 (by omega) (by omega) w

end Go.Proofs.Ytlknmnodchfkkaa
