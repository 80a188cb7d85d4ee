/-
  The contracts of wire.Num and wire.Str.
-/
import Derived.Test.YtkplkfhkablelaaDoorRows
import Derived.Test.YtkplkfhkablelaaDoorWireA
import Derived.WalkKit
import Derived.ProofKit
import Derived.OpenShut
import Derived.Lib.Hide
import Derived.Lib.AppendStr
import Derived.Laws.AppendOwnNone
import Derived.OwnWalk
import Derived.Below
namespace Go.Proofs.YtkplkfhkablelaaDoor.Wr
open Go.ChangeShapes Go.WideShapes Go.ChangeAt Go.RowKit
set_option linter.unusedVariables false

theorem ret_int {k : IntKind} {a b : Int} (h : a = b) : Ending.returned (.int k a) = .returned (.int k b) := by rw [h]
def vals (l : List Nat) : List Value := l.map fun (c : Nat) => Value.int .u8 (c : Int)
theorem vals_length (l : List Nat) : (vals l).length = l.length := List.length_map ..
theorem vals_get (l : List Nat) (i : Nat) (h : i < l.length) : (vals l)[i]? = some (.int .u8 ((l.getD i 0 : Nat) : Int)) := by
  simp [vals, List.getElem?_map, List.getElem?_eq_getElem h, List.getD]
theorem vals_append (l m : List Nat) : vals (l ++ m) = vals l ++ vals m := List.map_append
theorem vals_one (l : List Nat) : ∀ u ∈ vals l, u.oneCell' = true := by
  intro u hu
  obtain ⟨c, _, rfl⟩ := List.mem_map.1 hu
  rfl

theorem Below.alloc' {w W : World} (h : Below w.heap.size w W) (o : Obj) : Below w.heap.size w (W.alloc o) := h.alloc h.size o
theorem Below.step {w W w1 : World} (k : Below W.heap.size W w1) (h : Below w.heap.size w W) : Below w.heap.size w w1 := h.trans (k.mono h.size)
theorem info5 : (Tryd.prog.info? 5).map (fun i => (i.zero, i.size, i.bytes)) = some (some (.int .u8 0), 1, 1) := by kernel_rfl

theorem not_nat (x : Nat) (hx : x < 18446744073709551616) : x ^^^ 18446744073709551615 = 18446744073709551615 - x := by
  have h : (BitVec.ofNat 64 x ^^^ BitVec.allOnes 64) = ~~~ (BitVec.ofNat 64 x) := BitVec.xor_allOnes
  have h2 := congrArg BitVec.toNat h
  rw [BitVec.toNat_xor, BitVec.toNat_not, BitVec.toNat_allOnes, BitVec.toNat_ofNat, Nat.mod_eq_of_lt hx] at h2
  exact h2
theorem fold_eq (n : Int) (h1 : -9223372036854775808 ≤ n) (h2 : n ≤ 9223372036854775807) :
    bits .xor .u64 (IntKind.u64.wrap (IntKind.u64.wrap n * 2)) (IntKind.u64.wrap (n / 9223372036854775808)) = ((zig n : Nat) : Int) := by
  rw [IntKind.wrap_u64 n, IntKind.wrap_u64 (_ * 2), IntKind.wrap_u64 (n / _)]
  by_cases g : 0 ≤ n
  · have e1 : n % 18446744073709551616 * 2 % 18446744073709551616 = (((2 * n).toNat : Nat) : Int) := by omega
    have e2 : n / 9223372036854775808 % 18446744073709551616 = ((0 : Nat) : Int) := by omega
    rw [e1, e2, u64_xor_nat _ _ (by omega) (by decide), Nat.xor_zero]
    unfold zig
    rw [if_pos g]
  · have e1 : n % 18446744073709551616 * 2 % 18446744073709551616 = (((2 * n + 18446744073709551616).toNat : Nat) : Int) := by omega
    have e2 : n / 9223372036854775808 % 18446744073709551616 = ((18446744073709551615 : Nat) : Int) := by omega
    rw [e1, e2, u64_xor_nat _ _ (by omega) (by decide), not_nat _ (by omega)]
    unfold zig
    rw [if_neg g]
    omega

theorem fold_any (n : Int) (h1 : -9223372036854775808 ≤ n) (h2 : n ≤ 9223372036854775807) (w : World) :
    Calls Tryd.prog 44 #[.int .i64 n] w fun e w' => e = .returned (.int .u64 (zig n : Nat)) ∧ w = w' := by
  go_enter Tryd.func44, Tryd.ntmps44
  go_wp2
  go_ret
  exact ⟨ret_int (fold_eq n h1 h2), rfl⟩

theorem or128 (U : Nat) : bits .or .u8 ((U : Int) % 256) 128 = ((U % 128 + 128 : Nat) : Int) := by
  have e : ((U : Int) % 256) = ((U % 256 : Nat) : Int) := rfl
  rw [e]
  have h := u8_or_nat (U % 256) 128 (by omega) (by decide)
  have h2 : U % 256 ||| 128 = U % 128 + 128 := by
    have hh : U % 256 < 256 := Nat.mod_lt _ (by decide)
    have hall : ∀ x : Fin 256, x.val ||| 128 = x.val % 128 + 128 := by decide +kernel
    have := hall ⟨U % 256, hh⟩
    simp only at this
    rw [this]
    omega
  rw [h2] at h
  exact h

theorem own_base {w : World} {base n : Nat} {e : TypeId} {v : Value} {xs : List Value} (h : w.ownsRow base e 1 v n xs) {k : Nat} (hk : v.ownBlock = some k) : base ≤ k := by
  rcases h.2 with ⟨rfl, _⟩ | ⟨g, cap, cur, rfl, hb, _⟩
  · cases hk
  · cases hk; exact hb
theorem cell_one_new' (w : World) (c : Nat) : ∀ (j : Nat) (u : Value), (vals [c])[j]? = some u → (w.alloc (.cells #[.int .u8 (c : Int)] 5)).cell? ((⟨w.heap.size, 0, none⟩ : Addr).add j) = some u := by
  intro j u hj
  cases j with
  | zero =>
    have e1 : (w.alloc (.cells #[.int .u8 (c : Int)] 5)).heap[w.heap.size]? = some (.cells #[.int .u8 (c : Int)] 5) := by
      show (w.heap.push _)[w.heap.size]? = _
      simp
    obtain rfl : u = .int .u8 (c : Int) := by simpa [vals] using hj.symm
    show World.cell? _ ⟨w.heap.size, 0, none⟩ = _
    simp only [World.cell?, e1]
    rfl
  | succ j => simp [vals] at hj

set_option maxRecDepth 100000 in
set_option maxHeartbeats 1000000 in
theorem num_any (n : Int) (h1 : -9223372036854775808 ≤ n) (h2 : n ≤ 9223372036854775807) (w : World) :
    Calls Tryd.prog 29 #[.int .i64 n] w fun e w' => ∃ v, e = .returned v ∧ w'.ownsRow w.heap.size 5 1 v (code n).length (vals (code n)) ∧ v ≠ .slice none 0 0 ∧ Below w.heap.size w w' := by
  obtain ⟨i0, hi, hz0, hz1, hz2⟩ := info_parts info5
  have hz := zig_lt n h1 h2
  go_enter Tryd.func29, Tryd.ntmps29
  go_wp2_with (go_at_call 44; refine (fold_any n h1 h2 _).mono ?_; rintro e w' ⟨rfl, rfl⟩)
  go_loopw [3, 4] (fun u b wr => ∃ (i U : Nat) (pre : List Nat), u = .int .u64 U ∧ wr.ownsRow w.heap.size 5 1 b pre.length (vals pre) ∧ code n = pre ++ enc (10 - i) U ∧ i ≤ 9 ∧ U < 2 ^ (64 - 7 * i) ∧ pre.length = i ∧ Below w.heap.size w wr) (fun u _ _ => (intOf u).toNat)
  case atStart => exact ⟨0, zig n, [], rfl, ⟨rfl, .inl ⟨rfl, rfl⟩⟩, rfl, by omega, hz, rfl, Below.refl _ _⟩
  case round =>
    obtain ⟨i, U, pre, rfl, hown, hcode, hi9, hU, hlen, hbel⟩ := hrel
    have HO := Lib.hid hown
    have HC := Lib.hid hcode
    have HU := Lib.hid hU
    have HL := Lib.hid hlen
    have HB := Lib.hid hbel
    clear hown hcode hU hlen hbel
    have hor := or128 U
    by_cases g : 128 ≤ U
    · have hi8 : i ≤ 8 := by
        rcases Nat.lt_or_ge i 9 with h | h
        · omega
        · have e : i = 9 := by omega
          have hU := HU.out
          rw [e] at hU
          omega
      have hstep : code n = (pre ++ [U % 128 + 128]) ++ enc (10 - (i + 1)) (U / 128) := by
        rw [HC.out, show 10 - i = (10 - (i + 1)) + 1 by omega]
        conv => lhs; unfold enc
        rw [if_neg (by omega), List.append_assoc]
        rfl
      have hU2 : U / 128 < 2 ^ (64 - 7 * (i + 1)) := by
        have hU := HU.out
        rw [show 64 - 7 * i = (64 - 7 * (i + 1)) + 7 by omega, Nat.pow_add] at hU
        exact Nat.div_lt_of_lt_mul (by rw [Nat.mul_comm]; exact hU)
      have HS := Lib.hid hstep
      have HU2 := Lib.hid hU2
      clear hstep hU2
      go_wp2_with (at_builtin; refine wpList_append_own _ rfl (.tmp 9) (.tmp 13) 22 rfl w.heap.size 5 i0 (.int .u8 0) 1 1 Tryd.underlying22 hi hz0 hz1 hz2 rfl (by decide) _ pre.length (vals pre) rfl (HO.out.alloc _) ⟨wr.heap.size, 0, none⟩ 1 1 (vals [U % 128 + 128]) rfl ?c1 ?c2 ?c3 ?c4 ?c5 ?c6 ?_)
      case c1 => rfl
      case c2 => exact cell_one_new' wr _
      case c3 => exact vals_one _
      case c4 => have := HL.out; unfold maxLen; omega
      case c5 => have := HL.out; omega
      case c6 => have := HB.out.size; simp; omega
      intro v' w1 hown hgrow hnil
      have bel : Below w.heap.size w w1 := (Below.alloc' HB.out _).grown hgrow (by have := HB.out.size; simp; omega) (fun k hk => own_base HO.out hk)
      have hown' : w1.ownsRow w.heap.size 5 1 v' (pre ++ [U % 128 + 128]).length (vals (pre ++ [U % 128 + 128])) := by
        rw [vals_append, List.length_append]
        exact hown
      have HO2 := Lib.hid hown'
      have HB2 := Lib.hid bel
      clear hown hgrow hnil bel hown'
      go_wp2_with fail
      go_roundw
      case rel => exact ⟨i + 1, U / 128, pre ++ [U % 128 + 128], by go_num, HO2.out, HS.out, by omega, HU2.out, by rw [List.length_append, HL.out]; rfl, HB2.out⟩
      case measure => simp [intOf]; omega
    · have hend : code n = pre ++ [U] := by
        rw [HC.out, show 10 - i = (9 - i) + 1 by omega]
        conv => lhs; unfold enc
        rw [if_pos (by omega)]
      have HE := Lib.hid hend
      clear hend
      go_wp2_with (at_builtin; refine wpList_append_own _ rfl (.tmp 17) (.tmp 20) 22 rfl w.heap.size 5 i0 (.int .u8 0) 1 1 Tryd.underlying22 hi hz0 hz1 hz2 rfl (by decide) _ pre.length (vals pre) rfl (HO.out.alloc _) ⟨wr.heap.size, 0, none⟩ 1 1 (vals [U]) rfl ?c1 ?c2 ?c3 ?c4 ?c5 ?c6 ?_)
      case c1 => rfl
      case c2 => exact cell_one_new' wr _
      case c3 => exact vals_one _
      case c4 => have := HL.out; unfold maxLen; omega
      case c5 => have := HL.out; omega
      case c6 => have := HB.out.size; simp; omega
      intro v' w1 hown hgrow hnil
      have bel : Below w.heap.size w w1 := (Below.alloc' HB.out _).grown hgrow (by have := HB.out.size; simp; omega) (fun k hk => own_base HO.out hk)
      have hown' : w1.ownsRow w.heap.size 5 1 v' (pre ++ [U]).length (vals (pre ++ [U])) := by
        rw [vals_append, List.length_append]
        exact hown
      have hne : v' ≠ .slice none 0 0 := by simpa using hnil
      have HO2 := Lib.hid hown'
      have HB2 := Lib.hid bel
      have HN := Lib.hid hne
      clear hown hgrow hnil bel hown' hne
      go_wp2_with fail
      go_ret
      exact ⟨v', rfl, by rw [HE.out]; exact HO2.out, HN.out, HB2.out⟩

end Go.Proofs.YtkplkfhkablelaaDoor.Wr
