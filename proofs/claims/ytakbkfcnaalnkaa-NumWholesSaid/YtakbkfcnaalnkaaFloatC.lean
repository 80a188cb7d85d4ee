/-
  The document's own answer for what two floats make; the law of floats.
-/
import Derived.Test.YtakbkfcnaalnkaaFloatB
namespace Go.Proofs.Ytakbkfcnaalnkaa
open Go.ChangeShapes Go.WideShapes Go.ChangeAt Go.RowKit
set_option linter.unusedVariables false

theorem make0_any (x y : Nat) (w : World) :
    Calls Try.prog 22 #[.int .i64 0, .int .u64 x, .int .u64 y] w fun e w' => e = .returned (.int .u64 (made (D.add x y) : Nat)) ∧ Dr w w' := by
  obtain ⟨b, w1, hrun, hw, hb, hc⟩ := run_arith (P := Try.prog) .add (D.add x y) x y rfl (.inl rfl) 38 w
  have HC := Lib.hid hc
  have HW := Lib.hid hw
  clear hc hw
  go_enter Try.func22, Try.ntmps22
  go_wp2_with (go_at_call 39; refine (refOf_any _ hb _).mono ?_; rintro e w' ⟨rfl, rfl⟩)
  go_ret
  exact ⟨ret_int (by rw [HC.out]), Dr.of HW.out⟩

theorem make1_any (x y : Nat) (w : World) :
    Calls Try.prog 22 #[.int .i64 1, .int .u64 x, .int .u64 y] w fun e w' => e = .returned (.int .u64 (made (D.sub x y) : Nat)) ∧ Dr w w' := by
  obtain ⟨b, w1, hrun, hw, hb, hc⟩ := run_arith (P := Try.prog) .sub (D.sub x y) x y rfl (.inr (.inl rfl)) 38 w
  have HC := Lib.hid hc
  have HW := Lib.hid hw
  clear hc hw
  go_enter Try.func22, Try.ntmps22
  go_wp2_with (go_at_call 39; refine (refOf_any _ hb _).mono ?_; rintro e w' ⟨rfl, rfl⟩)
  go_ret
  exact ⟨ret_int (by rw [HC.out]), Dr.of HW.out⟩

theorem make2_any (x y : Nat) (w : World) :
    Calls Try.prog 22 #[.int .i64 2, .int .u64 x, .int .u64 y] w fun e w' => e = .returned (.int .u64 (made (D.mul x y) : Nat)) ∧ Dr w w' := by
  obtain ⟨b, w1, hrun, hw, hb, hc⟩ := run_arith (P := Try.prog) .mul (D.mul x y) x y rfl (.inr (.inr (.inl rfl))) 38 w
  have HC := Lib.hid hc
  have HW := Lib.hid hw
  clear hc hw
  go_enter Try.func22, Try.ntmps22
  go_wp2_with (go_at_call 39; refine (refOf_any _ hb _).mono ?_; rintro e w' ⟨rfl, rfl⟩)
  go_ret
  exact ⟨ret_int (by rw [HC.out]), Dr.of HW.out⟩

theorem make3_any (x y : Nat) (w : World) :
    Calls Try.prog 22 #[.int .i64 3, .int .u64 x, .int .u64 y] w fun e w' => e = .returned (.int .u64 (made (D.div x y) : Nat)) ∧ Dr w w' := by
  obtain ⟨b, w1, hrun, hw, hb, hc⟩ := run_arith (P := Try.prog) .quo (D.div x y) x y rfl (.inr (.inr (.inr rfl))) 38 w
  have HC := Lib.hid hc
  have HW := Lib.hid hw
  clear hc hw
  go_enter Try.func22, Try.ntmps22
  go_wp2_with (go_at_call 39; refine (refOf_any _ hb _).mono ?_; rintro e w' ⟨rfl, rfl⟩)
  go_ret
  exact ⟨ret_int (by rw [HC.out]), Dr.of HW.out⟩

theorem make4_any (x y : Nat) (w : World) :
    Calls Try.prog 22 #[.int .i64 4, .int .u64 x, .int .u64 y] w fun e w' => e = .returned (.int .u64 (made (D.sqrt x) : Nat)) ∧ Dr w w' := by
  obtain ⟨b, w1, hrun, hw, hb, hc⟩ := run_sqrt x w
  have HC := Lib.hid hc
  have HW := Lib.hid hw
  clear hc hw
  go_enter Try.func22, Try.ntmps22
  go_wp2_with (first | (go_at_call 39; refine (refOf_any _ hb _).mono ?_; rintro e w' ⟨rfl, rfl⟩) | go_in)
  go_ret
  exact ⟨ret_int (by rw [HC.out]), Dr.of HW.out⟩

theorem make5_any (x y : Nat) (hx : x < 18446744073709551616) (w : World) :
    Calls Try.prog 22 #[.int .i64 5, .int .u64 x, .int .u64 y] w fun e w' => e = .returned (.int .u64 (fneg x : Nat)) ∧ Dr w w' := by
  have h1 : (FloatKind.f64.format.order x x != some .eq) = isNan x := order_self_ne x
  cases h : isNan x
  · rw [h] at h1
    go_enter Try.func22, Try.ntmps22
    go_wp2
    go_ret
    exact ⟨ret_int (by rw [fneg_not h, ← xor_sign x hx]), Dr.refl _⟩
  · rw [h] at h1
    go_enter Try.func22, Try.ntmps22
    go_wp2
    go_ret
    exact ⟨ret_int (by rw [fneg_nan h]; rfl), Dr.refl _⟩

theorem Grown.dr {W w w' : World} (h : Grown W w) (d : Dr w w') : Grown W w' := by
  obtain ⟨n, rfl⟩ := d
  exact h

set_option maxHeartbeats 800000 in
theorem numFloats_walk (x y : Nat) (hx : x < 18446744073709551616) (w : World) :
    Calls Try.prog 6 #[.int .u64 x, .int .u64 y] w fun e w' => e = .returned (.bool true) ∧ Grown w w' := by
  go_enter Try.func6, Try.ntmps6
  go_wp2_with (first | (go_at_call 12; refine (counts_any _).mono ?_; rintro e w' ⟨rfl, rfl⟩) | (go_at_call 21; refine (plus_any _ _ _).mono ?_; rintro e w' ⟨rfl, n, rfl⟩) | (go_at_call 23; refine (minus_any _ _ _).mono ?_; rintro e w' ⟨rfl, n, rfl⟩) | (go_at_call 24; refine (times_any _ _ _).mono ?_; rintro e w' ⟨rfl, n, rfl⟩) | (go_at_call 25; refine (over_any _ _ _).mono ?_; rintro e w' ⟨rfl, n, rfl⟩) | (go_at_call 26; refine (root_any _ _).mono ?_; rintro e w' ⟨rfl, n, rfl⟩) | (go_at_call 27; refine (neg_any _ hx _).mono ?_; rintro e w' ⟨rfl, rfl⟩) | (go_at_call 29; refine (go_any _ _).mono ?_; rintro e w' ⟨rfl, rfl⟩) | (go_at_call 28; refine (of_any _ hx _).mono ?_; rintro e w' ⟨rfl, rfl⟩) | (go_at_call 30; refine (refCanon_any _ hx _).mono ?_; rintro e w' ⟨rfl, rfl⟩) | (go_at_call 22; (first | (with_reducible refine (make0_any _ _ _).mono ?_) | (with_reducible refine (make1_any _ _ _).mono ?_) | (with_reducible refine (make2_any _ _ _).mono ?_) | (with_reducible refine (make3_any _ _ _).mono ?_) | (with_reducible refine (make4_any _ _ _).mono ?_) | (with_reducible refine (make5_any _ _ hx _).mono ?_)); rintro e w' ⟨rfl, n, rfl⟩))
  go_ret
  exact ⟨rfl, Grown.refl _⟩

theorem u64_wf {a : Int} (h : (Lit.int .u64 a).wf = true) : ∃ n : Nat, a = n ∧ n < 18446744073709551616 := by
  have h' : 0 ≤ a ∧ a ≤ 18446744073709551615 := by simpa [Lit.wf, IntKind.min, IntKind.max, IntKind.signed, IntKind.bits] using h
  exact ⟨a.toNat, by omega, by omega⟩

theorem numFloats_law (a b : Int) (w0 : (Lit.int .u64 a).wf = true) (w1 : (Lit.int .u64 b).wf = true) (w : World) :
    Calls Try.prog 6 #[.int .u64 a, .int .u64 b] w fun e w' => e = .returned (.bool true) ∧ Grown w w' := by
  obtain ⟨x, rfl, hx⟩ := u64_wf w0
  obtain ⟨y, rfl, hy⟩ := u64_wf w1
  exact numFloats_walk x y hx w

end Go.Proofs.Ytakbkfcnaalnkaa
