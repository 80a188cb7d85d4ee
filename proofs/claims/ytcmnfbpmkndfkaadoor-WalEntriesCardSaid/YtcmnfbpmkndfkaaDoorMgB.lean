/-
  Texts put together: WireA, WireB, WireC, WireD, WireH, WireI, WireJ, WireK, WireL, WireM, WireE, WireF, WireN, WireO, WireP.
-/
import Derived.Laws.BitsAllLaws
import Derived.Test.YtcmnfbpmkndfkaaDoorRows
import Derived.WalkKit
import Derived.ProofKit
import Derived.OpenShut
import Derived.Lib.Hide
import Derived.Lib.AppendStr
import Derived.Laws.AppendOwnNone
import Derived.OwnWalk
import Derived.Below
import Derived.WalkSpells
import Derived.Laws.BytesArg
import Derived.Outline
import Derived.Maps.AppendAt
import Derived.Deep.RegionHeldLaw
namespace Go.Proofs.YtcmnfbpmkndfkaaDoor.Wr
set_option maxRecDepth 100000

/-- a number's bytes: at most k of them -/
def enc : Nat → Nat → List Nat
  | 0, _ => []
  | k + 1, u => if u < 128 then [u] else (u % 128 + 128) :: enc k (u / 128)

theorem enc_lt (k u : Nat) : ∀ c ∈ enc k u, c < 256 := by
  induction k generalizing u with
  | zero => intro c hc; cases hc
  | succ k ih =>
    intro c hc
    unfold enc at hc
    split at hc
    · simp only [List.mem_cons, List.mem_nil_iff, or_false] at hc; omega
    · rcases List.mem_cons.1 hc with rfl | hc
      · omega
      · exact ih _ c hc

/-- the number without a sign -/
def zig (n : Int) : Nat := if 0 ≤ n then (2 * n).toNat else (-2 * n - 1).toNat
theorem zig_lt (n : Int) (h : -9223372036854775808 ≤ n) (h2 : n ≤ 9223372036854775807) : zig n < 18446744073709551616 := by unfold zig; split <;> omega

def code (n : Int) : List Nat := enc 10 (zig n)

/-- sizes -/
theorem enc_len_succ (k u v : Nat) (h : u / 2 = v / 2) : (enc k u).length = (enc k v).length := by
  induction k generalizing u v with
  | zero => rfl
  | succ k ih =>
    unfold enc
    by_cases g : u < 128
    · rw [if_pos g, if_pos (by omega)]; rfl
    · rw [if_neg g, if_neg (by omega)]
      simp only [List.length_cons]
      rw [ih (u / 128) (v / 128) (by omega)]

theorem code_opp (n : Int) : (code (-1 - n)).length = (code n).length := by
  unfold code
  apply enc_len_succ
  unfold zig
  split <;> split <;> omega

end Go.Proofs.YtcmnfbpmkndfkaaDoor.Wr
namespace Go.Proofs.YtcmnfbpmkndfkaaDoor.Wr
set_option maxRecDepth 100000
open Go.ChangeShapes Go.WideShapes Go.ChangeAt Go.RowKit
set_option linter.unusedVariables false

theorem ret_int {k : IntKind} {a b : Int} (h : a = b) : Ending.returned (.int k a) = .returned (.int k b) := by rw [h]
def vals (l : List Nat) : List Value := l.map fun (c : Nat) => Value.int .u8 (c : Int)
theorem vals_length (l : List Nat) : (vals l).length = l.length := List.length_map ..
theorem vals_get (l : List Nat) (i : Nat) (h : i < l.length) : (vals l)[i]? = some (.int .u8 ((l.getD i 0 : Nat) : Int)) := by
  simp [vals, List.getElem?_map, List.getElem?_eq_getElem h, List.getD]
theorem vals_append (l m : List Nat) : vals (l ++ m) = vals l ++ vals m := List.map_append
theorem vals_one (l : List Nat) : ∀ u ∈ vals l, u.oneCell' = true := by
  intro u hu
  obtain ⟨c, _, rfl⟩ := List.mem_map.1 hu
  rfl

theorem Below.alloc' {w W : World} (h : Below w.heap.size w W) (o : Obj) : Below w.heap.size w (W.alloc o) := h.alloc h.size o
theorem Below.step {w W w1 : World} (k : Below W.heap.size W w1) (h : Below w.heap.size w W) : Below w.heap.size w w1 := h.trans (k.mono h.size)
theorem info5 : (Tryd.prog.info? 5).map (fun i => (i.zero, i.size, i.bytes)) = some (some (.int .u8 0), 1, 1) := by kernel_rfl

theorem not_nat (x : Nat) (hx : x < 18446744073709551616) : x ^^^ 18446744073709551615 = 18446744073709551615 - x := by
  have h : (BitVec.ofNat 64 x ^^^ BitVec.allOnes 64) = ~~~ (BitVec.ofNat 64 x) := BitVec.xor_allOnes
  have h2 := congrArg BitVec.toNat h
  rw [BitVec.toNat_xor, BitVec.toNat_not, BitVec.toNat_allOnes, BitVec.toNat_ofNat, Nat.mod_eq_of_lt hx] at h2
  exact h2
theorem fold_eq (n : Int) (h1 : -9223372036854775808 ≤ n) (h2 : n ≤ 9223372036854775807) :
    bits .xor .u64 (IntKind.u64.wrap (IntKind.u64.wrap n * 2)) (IntKind.u64.wrap (n / 9223372036854775808)) = ((zig n : Nat) : Int) := by
  rw [IntKind.wrap_u64 n, IntKind.wrap_u64 (_ * 2), IntKind.wrap_u64 (n / _)]
  by_cases g : 0 ≤ n
  · have e1 : n % 18446744073709551616 * 2 % 18446744073709551616 = (((2 * n).toNat : Nat) : Int) := by omega
    have e2 : n / 9223372036854775808 % 18446744073709551616 = ((0 : Nat) : Int) := by omega
    rw [e1, e2, u64_xor_nat _ _ (by omega) (by decide), Nat.xor_zero]
    unfold zig
    rw [if_pos g]
  · have e1 : n % 18446744073709551616 * 2 % 18446744073709551616 = (((2 * n + 18446744073709551616).toNat : Nat) : Int) := by omega
    have e2 : n / 9223372036854775808 % 18446744073709551616 = ((18446744073709551615 : Nat) : Int) := by omega
    rw [e1, e2, u64_xor_nat _ _ (by omega) (by decide), not_nat _ (by omega)]
    unfold zig
    rw [if_neg g]
    omega

theorem fold_any (n : Int) (h1 : -9223372036854775808 ≤ n) (h2 : n ≤ 9223372036854775807) (w : World) :
    Calls Tryd.prog 71 #[.int .i64 n] w fun e w' => e = .returned (.int .u64 (zig n : Nat)) ∧ w = w' := by
  go_enter Tryd.func71, Tryd.ntmps71
  go_wp2
  go_ret
  exact ⟨ret_int (fold_eq n h1 h2), rfl⟩

theorem or128 (U : Nat) : bits .or .u8 ((U : Int) % 256) 128 = ((U % 128 + 128 : Nat) : Int) := by
  have e : ((U : Int) % 256) = ((U % 256 : Nat) : Int) := rfl
  rw [e]
  have h := u8_or_nat (U % 256) 128 (by omega) (by decide)
  have h2 : U % 256 ||| 128 = U % 128 + 128 := by
    have hh : U % 256 < 256 := Nat.mod_lt _ (by decide)
    have hall : ∀ x : Fin 256, x.val ||| 128 = x.val % 128 + 128 := by decide +kernel
    have := hall ⟨U % 256, hh⟩
    simp only at this
    rw [this]
    omega
  rw [h2] at h
  exact h

theorem own_base {w : World} {base n : Nat} {e : TypeId} {v : Value} {xs : List Value} (h : w.ownsRow base e 1 v n xs) {k : Nat} (hk : v.ownBlock = some k) : base ≤ k := by
  rcases h.2 with ⟨rfl, _⟩ | ⟨g, cap, cur, rfl, hb, _⟩
  · cases hk
  · cases hk; exact hb
theorem cell_one_new' (w : World) (c : Nat) : ∀ (j : Nat) (u : Value), (vals [c])[j]? = some u → (w.alloc (.cells #[.int .u8 (c : Int)] 5)).cell? ((⟨w.heap.size, 0, none⟩ : Addr).add j) = some u := by
  intro j u hj
  cases j with
  | zero =>
    have e1 : (w.alloc (.cells #[.int .u8 (c : Int)] 5)).heap[w.heap.size]? = some (.cells #[.int .u8 (c : Int)] 5) := by
      show (w.heap.push _)[w.heap.size]? = _
      simp
    obtain rfl : u = .int .u8 (c : Int) := by simpa [vals] using hj.symm
    show World.cell? _ ⟨w.heap.size, 0, none⟩ = _
    simp only [World.cell?, e1]
    rfl
  | succ j => simp [vals] at hj

set_option maxRecDepth 100000 in
set_option maxHeartbeats 1000000 in
theorem num_any (n : Int) (h1 : -9223372036854775808 ≤ n) (h2 : n ≤ 9223372036854775807) (w : World) :
    Calls Tryd.prog 52 #[.int .i64 n] w fun e w' => ∃ v, e = .returned v ∧ w'.ownsRow w.heap.size 5 1 v (code n).length (vals (code n)) ∧ v ≠ .slice none 0 0 ∧ Below w.heap.size w w' := by
  obtain ⟨i0, hi, hz0, hz1, hz2⟩ := info_parts info5
  have hz := zig_lt n h1 h2
  go_enter Tryd.func52, Tryd.ntmps52
  go_wp2_with (go_at_call 71; refine (fold_any n h1 h2 _).mono ?_; rintro e w' ⟨rfl, rfl⟩)
  go_loopw [3, 4] (fun u b wr => ∃ (i U : Nat) (pre : List Nat), u = .int .u64 U ∧ wr.ownsRow w.heap.size 5 1 b pre.length (vals pre) ∧ code n = pre ++ enc (10 - i) U ∧ i ≤ 9 ∧ U < 2 ^ (64 - 7 * i) ∧ pre.length = i ∧ Below w.heap.size w wr) (fun u _ _ => (intOf u).toNat)
  case atStart => exact ⟨0, zig n, [], rfl, ⟨rfl, .inl ⟨rfl, rfl⟩⟩, rfl, by omega, hz, rfl, Below.refl _ _⟩
  case round =>
    obtain ⟨i, U, pre, rfl, hown, hcode, hi9, hU, hlen, hbel⟩ := hrel
    have HO := Lib.hid hown
    have HC := Lib.hid hcode
    have HU := Lib.hid hU
    have HL := Lib.hid hlen
    have HB := Lib.hid hbel
    clear hown hcode hU hlen hbel
    have hor := or128 U
    by_cases g : 128 ≤ U
    · have hi8 : i ≤ 8 := by
        rcases Nat.lt_or_ge i 9 with h | h
        · omega
        · have e : i = 9 := by omega
          have hU := HU.out
          rw [e] at hU
          omega
      have hstep : code n = (pre ++ [U % 128 + 128]) ++ enc (10 - (i + 1)) (U / 128) := by
        rw [HC.out, show 10 - i = (10 - (i + 1)) + 1 by omega]
        conv => lhs; unfold enc
        rw [if_neg (by omega), List.append_assoc]
        rfl
      have hU2 : U / 128 < 2 ^ (64 - 7 * (i + 1)) := by
        have hU := HU.out
        rw [show 64 - 7 * i = (64 - 7 * (i + 1)) + 7 by omega, Nat.pow_add] at hU
        exact Nat.div_lt_of_lt_mul (by rw [Nat.mul_comm]; exact hU)
      have HS := Lib.hid hstep
      have HU2 := Lib.hid hU2
      clear hstep hU2
      go_wp2_with (at_builtin; refine wpList_append_own _ rfl (.tmp 9) (.tmp 13) 34 rfl w.heap.size 5 i0 (.int .u8 0) 1 1 Tryd.underlying34 hi hz0 hz1 hz2 rfl (by decide) _ pre.length (vals pre) rfl (HO.out.alloc _) ⟨wr.heap.size, 0, none⟩ 1 1 (vals [U % 128 + 128]) rfl ?c1 ?c2 ?c3 ?c4 ?c5 ?c6 ?_)
      case c1 => rfl
      case c2 => exact cell_one_new' wr _
      case c3 => exact vals_one _
      case c4 => have := HL.out; unfold maxLen; omega
      case c5 => have := HL.out; omega
      case c6 => have := HB.out.size; simp; omega
      intro v' w1 hown hgrow hnil
      have bel : Below w.heap.size w w1 := (Below.alloc' HB.out _).grown hgrow (by have := HB.out.size; simp; omega) (fun k hk => own_base HO.out hk)
      have hown' : w1.ownsRow w.heap.size 5 1 v' (pre ++ [U % 128 + 128]).length (vals (pre ++ [U % 128 + 128])) := by
        rw [vals_append, List.length_append]
        exact hown
      have HO2 := Lib.hid hown'
      have HB2 := Lib.hid bel
      clear hown hgrow hnil bel hown'
      go_wp2_with fail
      go_roundw
      case rel => exact ⟨i + 1, U / 128, pre ++ [U % 128 + 128], by go_num, HO2.out, HS.out, by omega, HU2.out, by rw [List.length_append, HL.out]; rfl, HB2.out⟩
      case measure => simp [intOf]; omega
    · have hend : code n = pre ++ [U] := by
        rw [HC.out, show 10 - i = (9 - i) + 1 by omega]
        conv => lhs; unfold enc
        rw [if_pos (by omega)]
      have HE := Lib.hid hend
      clear hend
      go_wp2_with (at_builtin; refine wpList_append_own _ rfl (.tmp 17) (.tmp 20) 34 rfl w.heap.size 5 i0 (.int .u8 0) 1 1 Tryd.underlying34 hi hz0 hz1 hz2 rfl (by decide) _ pre.length (vals pre) rfl (HO.out.alloc _) ⟨wr.heap.size, 0, none⟩ 1 1 (vals [U]) rfl ?c1 ?c2 ?c3 ?c4 ?c5 ?c6 ?_)
      case c1 => rfl
      case c2 => exact cell_one_new' wr _
      case c3 => exact vals_one _
      case c4 => have := HL.out; unfold maxLen; omega
      case c5 => have := HL.out; omega
      case c6 => have := HB.out.size; simp; omega
      intro v' w1 hown hgrow hnil
      have bel : Below w.heap.size w w1 := (Below.alloc' HB.out _).grown hgrow (by have := HB.out.size; simp; omega) (fun k hk => own_base HO.out hk)
      have hown' : w1.ownsRow w.heap.size 5 1 v' (pre ++ [U]).length (vals (pre ++ [U])) := by
        rw [vals_append, List.length_append]
        exact hown
      have hne : v' ≠ .slice none 0 0 := by simpa using hnil
      have HO2 := Lib.hid hown'
      have HB2 := Lib.hid bel
      have HN := Lib.hid hne
      clear hown hgrow hnil bel hown' hne
      go_wp2_with fail
      go_ret
      exact ⟨v', rfl, by rw [HE.out]; exact HO2.out, HN.out, HB2.out⟩

end Go.Proofs.YtcmnfbpmkndfkaaDoor.Wr
namespace Go.Proofs.YtcmnfbpmkndfkaaDoor.Wr
set_option maxRecDepth 100000
open Go.ChangeShapes Go.WideShapes Go.ChangeAt Go.RowKit
set_option linter.unusedVariables false

/-- bytes as a text -/
def bstr (l : List Nat) : ByteArray := ⟨(l.map fun c => UInt8.ofNat c).toArray⟩

theorem str_of_own {w : World} {base : Nat} {v : Value} {l : List Nat} (h : w.ownsRow base 5 1 v l.length (vals l)) (hv : v ≠ .slice none 0 0) :
    ∃ g cap, v = .slice (some ⟨g, 0, none⟩) l.length cap ∧ (convert 34 9 v).run Tryd.prog w = .ok (.string (bstr l)) w := by
  obtain ⟨h1, h2⟩ := h
  rcases h2 with ⟨h2, _⟩ | ⟨g, cap, cur, rfl, hb, hh, hn, hm, hs, ht⟩
  · exact absurd h2 hv
  · refine ⟨g, cap, rfl, ?_⟩
    have e : bstr l = strOfNums (l.map fun (n : Nat) => (n : Int)) := by
      unfold bstr strOfNums
      rw [List.map_map]
      rfl
    rw [e]
    refine run_convert_bytes_arg w 34 5 Tryd.underlying34 Tryd.underlying5 g 0 l.length cap _ (by rw [List.length_map]) (fun i hi => ?_) 9 Tryd.underlying9
    have e2 := vals_get l i hi
    rw [← ht, List.getElem?_take, if_pos (by omega)] at e2
    have e3 : (l.map fun (n : Nat) => (n : Int)).getD i 0 = ((l.getD i 0 : Nat) : Int) := by
      simp [List.getD, List.getElem?_map]
      cases l[i]? <;> rfl
    rw [e3, Nat.zero_add]
    simp only [World.cell?, hh]
    simpa using e2

theorem size_bstr (l : List Nat) : (bstr l).size = l.length := by
  unfold bstr
  show (l.map fun c => UInt8.ofNat c).toArray.size = _
  simp

theorem strCells_bstr (s : ByteArray) : Lib.strCells s = vals (s.data.toList.map fun c => c.toNat) := by
  unfold Lib.strCells vals
  rw [List.map_map]
  rfl

/-- a text's bytes -/
def bytesOf (s : ByteArray) : List Nat := s.data.toList.map fun c => c.toNat
theorem bytesOf_length (s : ByteArray) : (bytesOf s).length = s.size := by
  unfold bytesOf
  rw [List.length_map, Array.length_toList]
  rfl
theorem enc_len (k u : Nat) : (enc k u).length ≤ k := by
  induction k generalizing u with
  | zero => exact Nat.le_refl _
  | succ k ih =>
    unfold enc
    split
    · simp
    · simp only [List.length_cons]
      have := ih (u / 128)
      omega
theorem code_len (n : Int) : (code n).length ≤ 10 := enc_len _ _

end Go.Proofs.YtcmnfbpmkndfkaaDoor.Wr
namespace Go.Proofs.YtcmnfbpmkndfkaaDoor.Wr
set_option maxRecDepth 100000
open Go.ChangeShapes Go.WideShapes Go.ChangeAt Go.RowKit
set_option linter.unusedVariables false

theorem below_of_step {w w1 w2 : World} (h : Below w.heap.size w w1) (k : Below w1.heap.size w1 w2) : Below w.heap.size w w2 := Below.step k h
theorem text_of_own {w : World} {base : Nat} {v : Value} {l : List Nat} (h : w.ownsRow base 5 1 v l.length (vals l)) (hv : v ≠ .slice none 0 0) :
    ∃ g n cap, v = .slice (some ⟨g, 0, none⟩) n cap ∧ (convert 34 9 v).run Tryd.prog w = .ok (.string (bstr l)) w ∧ Hid (n = l.length) := by
  obtain ⟨g, cap, h1, h2⟩ := str_of_own h hv
  exact ⟨g, _, cap, h1, h2, Lib.hid rfl⟩

theorem bstr1 : bstr (code (-1)) = ⟨#[1]⟩ := by decide +kernel
theorem bstr2 : bstr (code ((2 : Nat) : Int) ++ bytesOf ⟨#[97, 98]⟩) = ⟨#[4, 97, 98]⟩ := by decide +kernel
theorem bstr3 : bstr (code 64) = ⟨#[128, 1]⟩ := by decide +kernel

end Go.Proofs.YtcmnfbpmkndfkaaDoor.Wr
namespace Go.Proofs.YtcmnfbpmkndfkaaDoor.Wr
set_option maxRecDepth 100000
open Go.ChangeShapes Go.WideShapes Go.ChangeAt Go.RowKit
set_option linter.unusedVariables false

/-- what is read: the number without a sign, how many bytes it has, the error -/
def dec : Nat → Nat → List Nat → Nat × Nat × Nat
  | _, _, [] => (0, 0, 3)
  | k, u, c :: r => if k = 9 ∧ 1 < c then (0, 0, 2) else if 128 ≤ c then dec (k + 1) (u + c % 128 * 2 ^ (7 * k)) r else if c = 0 ∧ 0 < k then (0, 0, 2) else (u + c * 2 ^ (7 * k), k + 1, 0)

def unz (u : Nat) : Int := if u % 2 = 0 then ((u / 2 : Nat) : Int) else -((u / 2 : Nat) : Int) - 1

theorem unz_zig (n : Int) : unz (zig n) = n := by
  unfold unz zig
  split <;> split <;> omega
theorem zig_unz (u : Nat) : zig (unz u) = u := by
  unfold unz zig
  split <;> split <;> omega

/-- read again what is written -/
theorem dec_enc (j k u v : Nat) (rest : List Nat) (hj : k + j = 10) (hv : v < 2 ^ (64 - 7 * k)) (h0 : k = 0 ∨ v ≠ 0) : dec k u (enc j v ++ rest) = (u + v * 2 ^ (7 * k), k + (enc j v).length, 0) := by
  induction j generalizing k u v with
  | zero =>
    have : k = 10 := by omega
    subst this
    rcases h0 with h | h
    · omega
    · simp at hv; omega
  | succ j ih =>
    unfold enc
    by_cases g : v < 128
    · rw [if_pos g]
      simp only [List.cons_append, List.nil_append, dec, List.length_cons, List.length_nil]
      have h9 : ¬ (k = 9 ∧ 1 < v) := by
        rintro ⟨rfl, h⟩
        omega
      rw [if_neg h9, if_neg (by omega), if_neg (by omega)]
    · rw [if_neg g]
      simp only [List.cons_append, dec, List.length_cons]
      have hk8 : k ≤ 8 := by
        rcases Nat.lt_or_ge k 9 with h | h
        · omega
        · have : k = 9 := by omega
          subst this
          simp at hv
          omega
      have hv2 : v / 128 < 2 ^ (64 - 7 * (k + 1)) := by
        rw [show 64 - 7 * k = (64 - 7 * (k + 1)) + 7 by omega, Nat.pow_add] at hv
        exact Nat.div_lt_of_lt_mul (by rw [Nat.mul_comm]; exact hv)
      rw [if_neg (by omega), if_pos (by omega), ih (k + 1) _ (v / 128) (by omega) hv2 (by omega)]
      have e1 : (v % 128 + 128) % 128 = v % 128 := by omega
      have e2 : 2 ^ (7 * (k + 1)) = 2 ^ (7 * k) * 128 := by rw [show 7 * (k + 1) = 7 * k + 7 by omega, Nat.pow_add]
      rw [e1, e2]
      refine Prod.ext ?_ (Prod.ext ?_ rfl)
      · show u + v % 128 * 2 ^ (7 * k) + v / 128 * (2 ^ (7 * k) * 128) = u + v * 2 ^ (7 * k)
        have e3 : v * 2 ^ (7 * k) = v % 128 * 2 ^ (7 * k) + v / 128 * (2 ^ (7 * k) * 128) := by
          conv => lhs; rw [← Nat.mod_add_div v 128, Nat.add_mul]
          rw [Nat.mul_comm 128 (v / 128), Nat.mul_assoc, Nat.mul_comm 128]
        omega
      · show k + 1 + (enc j (v / 128)).length = k + ((enc j (v / 128)).length + 1)
        omega

/-- what is read as a number is written so, and no other way -/
theorem enc_dec (j k u : Nat) (l : List Nat) (U s : Nat) (hj : k + j = 10) (hk : k ≤ 9) (hl : ∀ c ∈ l, c < 256) (h : dec k u l = (U, s, 0)) :
    ∃ v, U = u + v * 2 ^ (7 * k) ∧ v < 2 ^ (64 - 7 * k) ∧ (k = 0 ∨ v ≠ 0) ∧ k < s ∧ s ≤ k + l.length ∧ enc j v = l.take (s - k) := by
  induction l generalizing j k u with
  | nil => simp [dec] at h
  | cons c r ih =>
    unfold dec at h
    have hc := hl c (List.mem_cons_self ..)
    by_cases h9 : k = 9 ∧ 1 < c
    · rw [if_pos h9] at h; simp at h
    rw [if_neg h9] at h
    obtain ⟨j', rfl⟩ : ∃ j', j = j' + 1 := ⟨j - 1, by omega⟩
    by_cases g : 128 ≤ c
    · rw [if_pos g] at h
      have hk8 : k ≤ 8 := by omega
      obtain ⟨v, e1, hv, h0, hs, hs2, he⟩ := ih j' (k + 1) _ (by omega) (by omega) (fun c hc => hl c (List.mem_cons_of_mem _ hc)) h
      have hv' : v ≠ 0 := by omega
      have e2 : 2 ^ (7 * (k + 1)) = 2 ^ (7 * k) * 128 := by rw [show 7 * (k + 1) = 7 * k + 7 by omega, Nat.pow_add]
      have hd : (c % 128 + 128 * v) / 128 = v := by omega
      have hm : (c % 128 + 128 * v) % 128 + 128 = c := by omega
      refine ⟨c % 128 + 128 * v, ?_, ?_, by omega, by omega, by simp only [List.length_cons]; omega, ?_⟩
      · rw [e1, e2, Nat.add_mul, Nat.add_assoc]
        congr 2
        rw [Nat.mul_comm 128 v, Nat.mul_assoc, Nat.mul_comm 128]
      · rw [show 64 - 7 * k = (64 - 7 * (k + 1)) + 7 by omega, Nat.pow_add]
        omega
      · unfold enc
        rw [if_neg (by omega), hd, hm, he]
        rw [show s - k = (s - (k + 1)) + 1 by omega]
        rfl
    · rw [if_neg g] at h
      by_cases hz : c = 0 ∧ 0 < k
      · rw [if_pos hz] at h; simp at h
      rw [if_neg hz] at h
      simp only [Prod.mk.injEq] at h
      obtain ⟨e1, e2, _⟩ := h
      refine ⟨c, e1.symm, ?_, by omega, by omega, by simp only [List.length_cons]; omega, ?_⟩
      · rcases Nat.lt_or_ge k 9 with hk | hk
        · have : 2 ^ 7 ≤ 2 ^ (64 - 7 * k) := Nat.pow_le_pow_right (by decide) (by omega)
          omega
        · have : k = 9 := by omega
          subst this
          simp
          omega
      · unfold enc
        rw [if_pos (by omega), ← e2, show k + 1 - k = 0 + 1 by omega]
        rfl

end Go.Proofs.YtcmnfbpmkndfkaaDoor.Wr
namespace Go.Proofs.YtcmnfbpmkndfkaaDoor.Wr
set_option maxRecDepth 100000
open Go.ChangeShapes Go.WideShapes Go.ChangeAt Go.RowKit
set_option linter.unusedVariables false

theorem xor_i64_nat (a b : Nat) (ha : a < 9223372036854775808) (hb : b < 18446744073709551616) (c : Int) (hc : BitVec.ofInt 64 c = BitVec.ofNat 64 b) : bits .xor .i64 (a : Int) c = IntKind.i64.wrap ((a ^^^ b : Nat) : Int) := by
  show IntKind.i64.wrap ((BitVec.ofInt 64 (a : Int) ^^^ BitVec.ofInt 64 c).toNat : Int) = _
  have ea : BitVec.ofInt 64 (a : Int) = BitVec.ofNat 64 a := rfl
  rw [hc, ea, BitVec.toNat_xor, BitVec.toNat_ofNat, BitVec.toNat_ofNat, Nat.mod_eq_of_lt (by omega), Nat.mod_eq_of_lt (by omega)]

theorem and1 (u : Nat) (hu : u < 18446744073709551616) : bits .and .u64 (u : Int) 1 = ((u % 2 : Nat) : Int) := by
  have h := u64_and_nat u 1 hu (by decide)
  rw [Nat.and_one_is_mod] at h
  exact h

theorem unfold_eq (u : Nat) (hu : u < 18446744073709551616) : bits .xor .i64 ((u : Int) / 2) (wrap64 (-wrap64 (bits .and .u64 (u : Int) 1))) = unz u := by
  rw [and1 u hu]
  have e : ((u : Int) / 2) = ((u / 2 : Nat) : Int) := rfl
  rw [e]
  unfold unz
  by_cases g : u % 2 = 0
  · rw [if_pos g, g]
    have h := xor_i64_nat (u / 2) 0 (by omega) (by decide) (wrap64 (-wrap64 ((0 : Nat) : Int))) (by decide +kernel)
    rw [h, Nat.xor_zero, IntKind.wrap_i64]
    omega
  · have g1 : u % 2 = 1 := by omega
    rw [if_neg g, g1]
    have h := xor_i64_nat (u / 2) 18446744073709551615 (by omega) (by decide) (wrap64 (-wrap64 ((1 : Nat) : Int))) (by decide +kernel)
    rw [h, not_nat _ (by omega), IntKind.wrap_i64]
    omega

theorem unfold_any (u : Nat) (hu : u < 18446744073709551616) (w : World) :
    Calls Tryd.prog 79 #[.int .u64 u] w fun e w' => e = .returned (.int .i64 (unz u)) ∧ w = w' := by
  go_enter Tryd.func79, Tryd.ntmps79
  go_wp2
  go_ret
  exact ⟨ret_int (unfold_eq u hu), rfl⟩

/-- a row of bytes that is there -/
def ByteRow (w : World) (a : Option Addr) (len : Nat) (l : List Nat) : Prop :=
  l.length = len ∧ len ≤ maxLen ∧ (∀ c ∈ l, c < 256) ∧ (0 < len → ∃ b o, a = some ⟨b, o, none⟩ ∧ ∀ i, i < len → w.cell? ⟨b, o + i, none⟩ = some (.int .u8 ((l.getD i 0 : Nat) : Int)))

theorem and127 (c : Nat) (hc : c < 256) : bits .and .u8 (c : Int) 127 = ((c % 128 : Nat) : Int) := by
  have h := u8_and_nat c 127 hc (by decide)
  rw [show (127 : Nat) = 2 ^ 7 - 1 from rfl, Nat.and_two_pow_sub_one_eq_mod] at h
  exact h

theorem or_step (U c k : Nat) (hk : k ≤ 9) (hU : U < 2 ^ (7 * k)) (hx : c % 128 * 2 ^ (7 * k) < 18446744073709551616) :
    bits .or .u64 (U : Int) (IntKind.u64.wrap ((c : Int) % 128 * 2 ^ (7 * k))) = ((U + c % 128 * 2 ^ (7 * k) : Nat) : Int) := by
  have h63 : 2 ^ (7 * k) ≤ 2 ^ 63 := Nat.pow_le_pow_right (by decide) (by omega)
  have e1 : ((c : Int) % 128 * 2 ^ (7 * k)) = ((c % 128 * 2 ^ (7 * k) : Nat) : Int) := by
    rw [Int.natCast_mul, Int.natCast_pow]
    rfl
  rw [e1, IntKind.wrap_u64]
  have e2 : ((c % 128 * 2 ^ (7 * k) : Nat) : Int) % 18446744073709551616 = ((c % 128 * 2 ^ (7 * k) : Nat) : Int) := by
    generalize c % 128 * 2 ^ (7 * k) = X at *
    omega
  rw [e2, u64_or_nat _ _ (by omega) hx]
  have h := Nat.two_pow_add_eq_or_of_lt hU (c % 128)
  rw [Nat.or_comm, Nat.mul_comm (c % 128), ← h, Nat.add_comm]
theorem step_lt (U c k : Nat) (hU : U < 2 ^ (7 * k)) : U + c % 128 * 2 ^ (7 * k) < 2 ^ (7 * (k + 1)) := by
  have e2 : 2 ^ (7 * (k + 1)) = 2 ^ (7 * k) * 128 := by rw [show 7 * (k + 1) = 7 * k + 7 by omega, Nat.pow_add]
  have h : c % 128 * 2 ^ (7 * k) ≤ 127 * 2 ^ (7 * k) := Nat.mul_le_mul_right _ (by omega)
  omega
theorem step_in (c k : Nat) (hk : k ≤ 8) : c % 128 * 2 ^ (7 * k) < 18446744073709551616 := by
  have h1 : c % 128 * 2 ^ (7 * k) ≤ 127 * 2 ^ (7 * k) := Nat.mul_le_mul_right _ (by omega)
  have h2 : 2 ^ (7 * k) ≤ 2 ^ 56 := Nat.pow_le_pow_right (by decide) (by omega)
  omega

theorem dec_nine (u c : Nat) (r : List Nat) (h : 1 < c) : dec 9 u (c :: r) = (0, 0, 2) := by
  unfold dec
  rw [if_pos ⟨rfl, h⟩]
theorem dec_more (k u c : Nat) (r : List Nat) (h9 : ¬ (k = 9 ∧ 1 < c)) (h : 128 ≤ c) : dec k u (c :: r) = dec (k + 1) (u + c % 128 * 2 ^ (7 * k)) r := by
  conv => lhs; unfold dec
  rw [if_neg h9, if_pos h]
theorem dec_zero (k u c : Nat) (r : List Nat) (h : c = 0 ∧ 0 < k) : dec k u (c :: r) = (0, 0, 2) := by
  unfold dec
  rw [if_neg (by omega), if_neg (by omega), if_pos h]
theorem dec_last (k u c : Nat) (r : List Nat) (h9 : ¬ (k = 9 ∧ 1 < c)) (h : ¬ 128 ≤ c) (hz : ¬ (c = 0 ∧ 0 < k)) : dec k u (c :: r) = (u + c * 2 ^ (7 * k), k + 1, 0) := by
  unfold dec
  rw [if_neg h9, if_neg h, if_neg hz]

theorem ret3 {a b c a' b' c' : Int} (h1 : a = a') (h2 : b = b') (h3 : c = c') :
    Ending.returned (.tuple #[.int .i64 a, .int .i64 b, .int .i64 c]) = .returned (.tuple #[.int .i64 a', .int .i64 b', .int .i64 c']) := by rw [h1, h2, h3]

theorem or_nine (U c : Nat) (hU : U < 9223372036854775808) (hc : c ≤ 1) : ∃ X : Nat,
    bits .or .u64 (U : Int) ((c : Int) % 128 * 9223372036854775808) = (X : Int) ∧ X = U + c * 9223372036854775808 ∧ X < 18446744073709551616 := by
  refine ⟨U + c * 9223372036854775808, ?_, rfl, by omega⟩
  have e1 : ((c : Int) % 128 * 9223372036854775808) = ((c * 9223372036854775808 : Nat) : Int) := by omega
  rw [e1, u64_or_nat _ _ (by omega) (by omega)]
  rcases Nat.lt_or_ge c 1 with h | h
  · obtain rfl : c = 0 := by omega
    rw [Nat.zero_mul, Nat.or_zero, Nat.add_zero]
  · obtain rfl : c = 1 := by omega
    have h := Nat.two_pow_add_eq_or_of_lt (i := 63) (b := U) (by omega) 1
    have e2 : (2 ^ 63 : Nat) = 9223372036854775808 := rfl
    rw [e2] at h
    rw [Nat.one_mul]
    rw [Nat.mul_one] at h
    rw [Nat.or_comm, ← h, Nat.add_comm]
theorem dec_nine_last (U c : Nat) (r : List Nat) (h1 : ¬ 1 < c) (h0 : ¬ c = 0) : dec 9 U (c :: r) = (U + c * 9223372036854775808, 10, 0) := by
  rw [dec_last 9 U c r (by omega) (by omega) (by omega)]

def errOf (r : Nat × Nat × Nat) : Int := r.2.2
def numOf (r : Nat × Nat × Nat) : Int := if r.2.2 = 0 then unz r.1 else 0

set_option maxRecDepth 100000 in
theorem number_any (a : Option Addr) (len cap : Nat) (l : List Nat) (hm : len ≤ maxLen) (w : World) (hr : ByteRow w a len l) :
    Calls Tryd.prog 76 #[.slice a len cap] w fun e w' => e = .returned (.tuple #[.int .i64 (numOf (dec 0 0 l)), .int .i64 ((dec 0 0 l).2.1 : Nat), .int .i64 (errOf (dec 0 0 l))]) ∧ w = w' := by
  obtain ⟨h1, h2, h3, h4⟩ := hr
  have H3 := Lib.hid h3
  have H4 := Lib.hid h4
  have H1 := Lib.hid h1
  clear h3 h4 h1
  go_enter Tryd.func76, Tryd.ntmps76
  go_wp2
  go_loop [5, 10] (fun u i => ∃ (k U : Nat), i = .int .i64 k ∧ u = .int .u64 U ∧ k ≤ len ∧ k ≤ 9 ∧ U < 2 ^ (7 * k) ∧ dec 0 0 l = dec k U (l.drop k)) (fun _ i => len - (intOf i).toNat)
  case atStart => exact ⟨0, 0, rfl, rfl, by omega, by omega, by decide, rfl⟩
  case round =>
    obtain ⟨k, U, rfl, rfl, hk, hk9, hU, hd⟩ := hrel
    have HD := Lib.hid hd
    have HU := Lib.hid hU
    clear hd hU
    by_cases g : k < len
    · obtain ⟨b, o, rfl, hcell⟩ := H4.out (by omega)
      obtain ⟨c, hc⟩ : ∃ c, c = l.getD k 0 := ⟨_, rfl⟩
      have hck := hcell k g
      rw [← hc] at hck
      have hc256 : c < 256 := by
        rw [hc]
        refine H3.out _ ?_
        rw [List.getD_eq_getElem?_getD, List.getElem?_eq_getElem (by rw [H1.out]; exact g)]
        exact List.getElem_mem _
      have hdrop : l.drop k = c :: l.drop (k + 1) := by
        rw [hc, List.getD_eq_getElem?_getD, List.getElem?_eq_getElem (by rw [H1.out]; exact g)]
        exact List.drop_eq_getElem_cons (by rw [H1.out]; exact g)
      have HD2 : Hid (dec 0 0 l = dec k U (c :: l.drop (k + 1))) := by rw [← hdrop]; exact HD.out
      have h127 := and127 c hc256
      clear hcell hdrop hc HD
      by_cases g9 : k = 9
      · subst g9
        by_cases g1 : 1 < c
        · have e : dec 0 0 l = (0, 0, 2) := by rw [HD2.out, dec_nine U c _ g1]
          have E := Lib.hid e
          clear e
          go_wp2
          go_ret3
          exact ⟨ret3 (by rw [E.out]; rfl) (by rw [E.out]; rfl) (by rw [E.out]; rfl), rfl⟩
        · by_cases gz : c = 0
          · subst gz
            have hor := or_step U 0 9 (by omega) HU.out (by omega)
            have e : dec 0 0 l = (0, 0, 2) := by
              rw [HD2.out, dec_zero 9 U 0 _ ⟨rfl, by omega⟩]
            have E := Lib.hid e
            clear e
            go_wp2
            go_ret3
            exact ⟨ret3 (by rw [E.out]; rfl) (by rw [E.out]; rfl) (by rw [E.out]; rfl), rfl⟩
          · obtain ⟨X, hor, hX, hu64⟩ := or_nine U c HU.out (by omega)
            have E : Hid (dec 0 0 l = (X, 10, 0)) := by rw [HD2.out, dec_nine_last U c _ g1 gz, hX]; rfl
            clear hX
            go_wp2_with (go_at_call 79; refine (unfold_any X hu64 _).mono ?_; rintro e w1 ⟨rfl, rfl⟩)
            go_ret3
            exact ⟨ret3 (by rw [E.out]; rfl) (by rw [E.out]; rfl) (by rw [E.out]; rfl), rfl⟩
      · have hk8 : k ≤ 8 := by omega
        by_cases g128 : 128 ≤ c
        · have hor := or_step U c k hk9 HU.out (step_in c k hk8)
          go_wp2
          go_round
          case rel =>
            refine ⟨k + 1, U + c % 128 * 2 ^ (7 * k), by go_num, by go_num, by omega, by omega, step_lt U c k HU.out, ?_⟩
            rw [HD2.out, dec_more k U c _ (by omega) g128]
          case measure => simp [intOf]; omega
        · by_cases gz : c = 0 ∧ 0 < k
          · obtain ⟨rfl, gk⟩ := gz
            have hor := or_step U 0 k hk9 HU.out (step_in 0 k hk8)
            have e : dec 0 0 l = (0, 0, 2) := by
              rw [HD2.out, dec_zero k U 0 _ ⟨rfl, gk⟩]
            have E := Lib.hid e
            clear e
            go_wp2
            go_ret3
            exact ⟨ret3 (by rw [E.out]; rfl) (by rw [E.out]; rfl) (by rw [E.out]; rfl), rfl⟩
          · have hor := or_step U c k hk9 HU.out (step_in c k hk8)
            have hst := step_lt U c k HU.out
            have e : dec 0 0 l = (U + c % 128 * 2 ^ (7 * k), k + 1, 0) := by
              rw [HD2.out, dec_last k U c _ (by omega) g128 gz, Nat.mod_eq_of_lt (by omega)]
            have E := Lib.hid e
            clear e
            have hu64 : U + c % 128 * 2 ^ (7 * k) < 18446744073709551616 := by
              have h3 : 2 ^ (7 * (k + 1)) ≤ 2 ^ 64 := Nat.pow_le_pow_right (by decide) (by omega)
              omega
            generalize U + c % 128 * 2 ^ (7 * k) = X at *
            go_wp2_with (go_at_call 79; refine (unfold_any X hu64 _).mono ?_; rintro e w1 ⟨rfl, rfl⟩)
            all_goals go_ret3
            all_goals exact ⟨ret3 (by rw [E.out]; rfl) (by rw [E.out]; rfl) (by rw [E.out]; rfl), rfl⟩
    · obtain rfl : k = len := by omega
      have e : dec 0 0 l = (0, 0, 3) := by
        rw [HD.out, List.drop_of_length_le (by rw [H1.out]; exact Nat.le_refl _)]
        rfl
      have E := Lib.hid e
      clear e
      go_wp2
      go_ret3
      exact ⟨ret3 (by rw [E.out]; rfl) (by rw [E.out]; rfl) (by rw [E.out]; rfl), rfl⟩

end Go.Proofs.YtcmnfbpmkndfkaaDoor.Wr
namespace Go.Proofs.YtcmnfbpmkndfkaaDoor.Wr
set_option maxRecDepth 100000
open Go.ChangeShapes Go.WideShapes Go.ChangeAt Go.RowKit
set_option linter.unusedVariables false

theorem ByteRow.nil (w : World) (a : Option Addr) : ByteRow w a 0 [] := ⟨rfl, Nat.zero_le _, (by intro c hc; cases hc), (by intro h; omega)⟩
theorem cell_lt {w : World} {a : Addr} {v : Value} (h : w.cell? a = some v) : a.block < w.heap.size := by
  rcases Nat.lt_or_ge a.block w.heap.size with h' | h'
  · exact h'
  · simp [World.cell?, Array.getElem?_eq_none h'] at h
theorem ByteRow.below {w w' : World} {a : Option Addr} {n : Nat} {l : List Nat} (h : ByteRow w a n l) (hb : Below w.heap.size w w') : ByteRow w' a n l := by
  obtain ⟨h1, h2, h3, h4⟩ := h
  refine ⟨h1, h2, h3, fun h0 => ?_⟩
  obtain ⟨b, o, rfl, hc⟩ := h4 h0
  exact ⟨b, o, rfl, fun i hi => by rw [hb.cell (cell_lt (hc i hi))]; exact hc i hi⟩

set_option maxRecDepth 100000 in
theorem clone_some (x : Addr) (len cap : Nat) (l : List Nat) (w : World) (hr : ByteRow w (some x) len l) (hl : len ≤ 70368744177664) :
    Calls Tryd.prog 75 #[.slice (some x) len cap] w fun e w' => ∃ v, e = .returned v ∧ w'.ownsRow w.heap.size 5 1 v l.length (vals l) ∧ v ≠ .slice none 0 0 ∧ Below w.heap.size w w' := by
  obtain ⟨i0, hi, hz0, hz1, hz2⟩ := info_parts info5
  have hne : ∀ W, (binOp .eql 34 (.slice (some x) len cap) (.slice none 0 0)).run Tryd.prog W = .ok (.bool false) W := by
    intro W
    rfl
  have hsrc : ∀ (W : World), Below w.heap.size w W → ∀ (j : Nat) (u : Value), (vals l)[j]? = some u → W.cell? (x.add j) = some u := by
    intro W hB j u hj
    obtain ⟨h1, h2, h3, h4⟩ := hr.below hB
    have hj2 : j < l.length := by
      rcases Nat.lt_or_ge j l.length with h | h
      · exact h
      · rw [List.getElem?_eq_none (by rw [vals_length]; exact h)] at hj
        cases hj
    obtain ⟨b, o, hx, hc⟩ := h4 (by omega)
    obtain rfl : x = ⟨b, o, none⟩ := by simpa using hx
    rw [vals_get l j hj2] at hj
    have hu : u = .int .u8 ((l.getD j 0 : Nat) : Int) := by injection hj with h; exact h.symm
    rw [hu]
    have e1 : (⟨b, o, none⟩ : Addr).add j = ⟨b, o + j, none⟩ := by simp [Addr.add]
    rw [e1]
    exact hc j (by omega)
  have HSRC := Lib.hid hsrc
  have hlen := hr.1
  clear hsrc hr
  subst hlen
  have hown0 : (w.alloc (.cells #[] 5)).ownsRow w.heap.size 5 1 (.slice (some ⟨w.heap.size, 0, none⟩) 0 0) 0 [] := by
    refine ⟨rfl, .inr ⟨w.heap.size, 0, #[], rfl, Nat.le_refl _, ?_, Nat.le_refl _, Nat.zero_le _, rfl, rfl⟩⟩
    show (w.heap.push _)[w.heap.size]? = _
    simp
  have HO := Lib.hid hown0
  clear hown0
  go_enter Tryd.func75, Tryd.ntmps75
  go_wp2_with (at_builtin; refine wpList_append_own _ rfl (.tmp 5) (.tmp 6) 34 rfl w.heap.size 5 i0 (.int .u8 0) 1 1 Tryd.underlying34 hi hz0 hz1 hz2 rfl (by decide) _ 0 [] rfl HO.out x l.length cap (vals l) rfl ?c1 ?c2 ?c3 ?c4 ?c5 ?c6 ?_)
  case c1 => rw [vals_length, Nat.mul_one]
  case c2 => exact HSRC.out _ (Below.alloc' (Below.refl _ _) _)
  case c3 => exact vals_one _
  case c4 => unfold maxLen; omega
  case c5 => omega
  case c6 => simp
  intro v' w1 hown hgrow hnil
  have bel : Below w.heap.size w w1 := (Below.alloc' (Below.refl _ w) _).grown hgrow (by simp) (fun k hk => own_base HO.out hk)
  have hn2 : v' ≠ .slice none 0 0 := by simpa using hnil
  have HO2 := Lib.hid hown
  have HN := Lib.hid hn2
  have HB := Lib.hid bel
  clear hown hgrow hnil bel hn2
  go_wp2_with fail
  go_ret
  exact ⟨v', rfl, HO2.out, HN.out, HB.out⟩

/-- a slice of bytes, with room for its growing -/
def Bytes (w : World) (a : Option Addr) (len cap : Nat) (l : List Nat) : Prop := ByteRow w a len l ∧ len ≤ cap ∧ cap ≤ maxLen ∧ (a = none → len = 0 ∧ cap = 0)

theorem bytes_of_own {w : World} {base : Nat} {v : Value} {l : List Nat} (h : w.ownsRow base 5 1 v l.length (vals l)) (hl : ∀ c ∈ l, c < 256) (hm : l.length ≤ maxLen) :
    ∃ a cap, v = .slice a l.length cap ∧ Bytes w a l.length cap l ∧ ∀ x, a = some x → base ≤ x.block ∧ x.block < w.heap.size := by
  obtain ⟨h1, h2⟩ := h
  rcases h2 with ⟨rfl, h2⟩ | ⟨g, cap, cur, rfl, hb, hh, hn, hmx, hs, ht⟩
  · obtain rfl : l = [] := List.eq_nil_of_length_eq_zero h2
    exact ⟨none, 0, rfl, ⟨ByteRow.nil w none, Nat.le_refl _, Nat.zero_le _, fun _ => ⟨rfl, rfl⟩⟩, (fun x h => by cases h)⟩
  · refine ⟨some ⟨g, 0, none⟩, cap, rfl, ⟨⟨rfl, hm, hl, fun _ => ⟨g, 0, rfl, fun i hi => ?_⟩⟩, hn, hmx, fun h => by cases h⟩, fun x hx => ?_⟩
    · have e2 := vals_get l i hi
      rw [← ht, List.getElem?_take, if_pos (by omega)] at e2
      rw [Nat.zero_add]
      simp only [World.cell?, hh]
      simpa using e2
    · cases hx
      refine ⟨hb, ?_⟩
      rcases Nat.lt_or_ge g w.heap.size with h | h
      · exact h
      · rw [Array.getElem?_eq_none h] at hh
        cases hh

/-- slices.Clone -/
theorem clone_any (a : Option Addr) (len cap : Nat) (l : List Nat) (w : World) (hr : Bytes w a len cap l) (hl : len ≤ 70368744177664) :
    Calls Tryd.prog 75 #[.slice a len cap] w fun e w' => ∃ a2 cap2, e = .returned (.slice a2 len cap2) ∧ Bytes w' a2 len cap2 l ∧ (∀ x, a2 = some x → w.heap.size ≤ x.block ∧ x.block < w'.heap.size) ∧ Below w.heap.size w w' := by
  obtain ⟨hb, hc, hm, hz⟩ := hr
  cases a with
  | some x =>
    refine (clone_some x len cap l w hb hl).mono ?_
    rintro e w' ⟨v, rfl, ho, hn, hB⟩
    obtain ⟨a2, cap2, rfl, h1, h2⟩ := bytes_of_own ho hb.2.2.1 (by rw [hb.1]; exact hb.2.1)
    rw [hb.1] at h1 ⊢
    exact ⟨a2, cap2, rfl, h1, h2, hB⟩
  | none =>
    obtain ⟨rfl, rfl⟩ := hz rfl
    obtain rfl : l = [] := List.eq_nil_of_length_eq_zero hb.1
    have hne : ∀ W, (binOp .eql 34 (.slice none 0 0) (.slice none 0 0)).run Tryd.prog W = .ok (.bool true) W := fun _ => rfl
    go_enter Tryd.func75, Tryd.ntmps75
    go_wp2
    go_ret
    exact ⟨none, 0, rfl, ⟨ByteRow.nil w none, Nat.le_refl _, Nat.zero_le _, fun _ => ⟨rfl, rfl⟩⟩, (fun x h => by cases h), Below.refl _ _⟩

/-- what is read from: the bytes that are left, the first error -/
def InAt (w : World) (p : Nat) (l : List Nat) (e : Int) : Prop :=
  ∃ a len cap, w.heap[p]? = some (.cells #[.slice a len cap, .int .i64 e] 115) ∧ Bytes w a len cap l ∧ ∀ x, a = some x → x.block ≠ p

theorem Bytes.below {w w' : World} {a : Option Addr} {len cap : Nat} {l : List Nat} (h : Bytes w a len cap l) (hb : Below w.heap.size w w') : Bytes w' a len cap l := ⟨h.1.below hb, h.2⟩

theorem open_any (a : Option Addr) (len cap : Nat) (l : List Nat) (w : World) (hr : Bytes w a len cap l) (hl : len ≤ 70368744177664) :
    Calls Tryd.prog 59 #[.slice a len cap] w fun e w' => ∃ p, e = .returned (.pointer (some ⟨p, 0, none⟩)) ∧ InAt w' p l 0 ∧ w.heap.size ≤ p ∧ Below w.heap.size w w' := by
  have HR := Lib.hid hr
  have hlen := hr.1.1
  clear hr
  go_enter Tryd.func59, Tryd.ntmps59
  go_wp2_with (go_at_call 75; refine (clone_any a len cap l _ HR.out hl).mono ?_; rintro e w1 ⟨a2, cap2, rfl, hb, hx, hB⟩; have HBY := Lib.hid hb; have HX := Lib.hid hx; have HB := Lib.hid hB; clear hb hx hB)
  go_ret
  refine ⟨w1.heap.size, rfl, ⟨a2, len, cap2, ?_, HBY.out.below (Below.alloc' (Below.refl _ _) _), fun x hx => ?_⟩, HB.out.size, Below.alloc' HB.out _⟩
  · show (w1.heap.push _)[w1.heap.size]? = _
    simp
  · have := (HX.out x hx).2
    omega

end Go.Proofs.YtcmnfbpmkndfkaaDoor.Wr
namespace Go.Proofs.YtcmnfbpmkndfkaaDoor.Wr
set_option maxRecDepth 100000
open Go.ChangeShapes Go.WideShapes Go.ChangeAt Go.RowKit
set_option linter.unusedVariables false

def fromA (a : Option Addr) (cap k : Nat) : Option Addr := if cap = k then a else a.map (·.add k)
theorem getD_drop (l : List Nat) (k i : Nat) : (l.drop k).getD i 0 = l.getD (k + i) 0 := by
  simp [List.getD, List.getElem?_drop]
theorem ByteRow.drop {w : World} {a : Option Addr} {n : Nat} {l : List Nat} (h : ByteRow w a n l) (cap k : Nat) (hk : k ≤ n) (hc : n ≤ cap) : ByteRow w (fromA a cap k) (n - k) (l.drop k) := by
  obtain ⟨h1, h2, h3, h4⟩ := h
  refine ⟨by rw [List.length_drop]; omega, by omega, fun c hc => h3 c (List.mem_of_mem_drop hc), fun h0 => ?_⟩
  obtain ⟨b, o, rfl, hcell⟩ := h4 (by omega)
  refine ⟨b, o + k, ?_, fun i hi => ?_⟩
  · unfold fromA
    rw [if_neg (by omega)]
    simp [Addr.add]
  · rw [getD_drop, Nat.add_assoc]
    exact hcell (k + i) (by omega)
theorem slice_from (a : Option Addr) (m cap k : Nat) (hk : k ≤ m) (w : World) : (Instr.slice 34 (.slice a m cap) (some (.int .i64 (k : Int))) none none).run Tryd.prog w = .ok (.slice (fromA a cap k) (m - k) (cap - k)) w := by
  rw [run_slice_l w 34 a m cap (by kernel_rfl) .i64 (k : Int) (by omega) (by omega)]
  go_simp
  rfl

theorem InAt.cells {w : World} {p : Nat} {l : List Nat} {e : Int} (h : InAt w p l e) : ∃ a len cap, w.cell? ⟨p, 0, none⟩ = some (.slice a len cap) ∧ w.cell? ⟨p, 1, none⟩ = some (.int .i64 e) ∧ w.frozen? ⟨p, 0, none⟩ = false ∧ w.frozen? ⟨p, 1, none⟩ = false ∧ Bytes w a len cap l ∧ (∀ x, a = some x → x.block ≠ p) ∧ w.heap[p]? = some (.cells #[.slice a len cap, .int .i64 e] 115) := by
  obtain ⟨a, len, cap, h1, h2, h3⟩ := h
  refine ⟨a, len, cap, ?_, ?_, ?_, ?_, h2, h3, h1⟩
  · simp [World.cell?, h1]
  · simp [World.cell?, h1]
  · simp [World.frozen?, h1]
  · simp [World.frozen?, h1]

/-- reading a number between two -/
def readNum (least most : Int) (l : List Nat) (e : Int) : Int × List Nat × Int :=
  if e ≠ 0 then (0, l, e)
  else if (dec 0 0 l).2.2 ≠ 0 then (0, l, (dec 0 0 l).2.2)
  else if unz (dec 0 0 l).1 < least ∨ unz (dec 0 0 l).1 > most then (0, l, 4)
  else (unz (dec 0 0 l).1, l.drop (dec 0 0 l).2.1, 0)

theorem err_any (p : Nat) (l : List Nat) (e : Int) (w : World) (h : InAt w p l e) :
    Calls Tryd.prog 61 #[.pointer (some ⟨p, 0, none⟩)] w fun e' w' => e' = .returned (.int .i64 e) ∧ w = w' := by
  obtain ⟨a, len, cap, h0, h1, f0, f1, hb, hx, hh⟩ := h.cells
  clear hb hx hh h
  go_enter Tryd.func61, Tryd.ntmps61
  go_wp2
  go_ret
  exact ⟨rfl, rfl⟩

end Go.Proofs.YtcmnfbpmkndfkaaDoor.Wr
namespace Go.Proofs.YtcmnfbpmkndfkaaDoor.Wr
set_option maxRecDepth 100000
open Go.ChangeShapes Go.WideShapes Go.ChangeAt Go.RowKit
set_option linter.unusedVariables false

theorem heap_set0 {w : World} {p : Nat} {x y v : Value} {t : TypeId} (h : w.heap[p]? = some (.cells #[x, y] t)) : (w.setCell ⟨p, 0, none⟩ v).heap[p]? = some (.cells #[v, y] t) := by
  simp only [World.setCell, Array.getElem?_modify, h]
  simp
theorem heap_set1 {w : World} {p : Nat} {x y v : Value} {t : TypeId} (h : w.heap[p]? = some (.cells #[x, y] t)) : (w.setCell ⟨p, 1, none⟩ v).heap[p]? = some (.cells #[x, v] t) := by
  simp only [World.setCell, Array.getElem?_modify, h]
  simp
theorem grown_cell (w : World) (p i : Nat) (v : Value) : w.grownBy (w.setCell ⟨p, i, none⟩ v) (some p) :=
  ⟨rfl, rfl, rfl, by simp [World.setCell], fun j hj hne => Below.heap_setCell w ⟨p, i, none⟩ v j (fun e => hne (by rw [e]))⟩
theorem grown_below {w w' : World} {p : Nat} (h : w.grownBy w' (some p)) (hp : p < w.heap.size) : ∀ B, B ≤ p → Below B w w' :=
  fun B hB => (Below.refl B w).grown h (by omega) (fun k hk => by cases hk; exact hB)
theorem InAt.lt {w : World} {p : Nat} {l : List Nat} {e : Int} (h : InAt w p l e) : p < w.heap.size := by
  obtain ⟨a, len, cap, h1, _⟩ := h
  rcases Nat.lt_or_ge p w.heap.size with h | h
  · exact h
  · rw [Array.getElem?_eq_none h] at h1
    cases h1
theorem ByteRow.aside {w : World} {a : Option Addr} {n : Nat} {l : List Nat} (h : ByteRow w a n l) {p i : Nat} {v : Value} (hx : ∀ x, a = some x → x.block ≠ p) : ByteRow (w.setCell ⟨p, i, none⟩ v) a n l := by
  refine ⟨h.1, h.2.1, h.2.2.1, fun h0 => ?_⟩
  obtain ⟨b, o, rfl, hc⟩ := h.2.2.2 h0
  refine ⟨b, o, rfl, fun i hi => ?_⟩
  rw [← hc i hi]
  exact World.cell?_of_block (Below.heap_setCell w ⟨p, _, none⟩ v b (hx _ rfl))
theorem fromA_block {a : Option Addr} {cap k p : Nat} (hx : ∀ x, a = some x → x.block ≠ p) : ∀ x, fromA a cap k = some x → x.block ≠ p := by
  intro x h
  unfold fromA at h
  split at h
  · exact hx x h
  · cases a with
    | none => cases h
    | some y =>
      simp only [Option.map_some, Option.some.injEq] at h
      rw [← h]
      have e : (y.add k).block = y.block := by unfold Addr.add; split <;> rfl
      rw [e]
      exact hx y rfl
theorem dec_size (l : List Nat) (hl : ∀ c ∈ l, c < 256) (h : (dec 0 0 l).2.2 = 0) : (dec 0 0 l).2.1 ≤ l.length := by
  obtain ⟨v, _, _, _, _, h2, _⟩ := enc_dec 10 0 0 l (dec 0 0 l).1 (dec 0 0 l).2.1 rfl (by omega) hl (Prod.ext rfl (Prod.ext rfl h))
  omega

set_option maxRecDepth 100000 in
theorem inNum_err (p : Nat) (least most : Int) (l : List Nat) (e : Int) (he : e ≠ 0) (w : World) (h : InAt w p l e) :
    Calls Tryd.prog 60 #[.pointer (some ⟨p, 0, none⟩), .int .i64 least, .int .i64 most] w fun e' w' => e' = .returned (.int .i64 0) ∧ InAt w' p l e ∧ w.grownBy w' (some p) := by
  have H := Lib.hid h
  clear h
  have hb : (e == 0) = false := by rw [beq_eq_false_iff_ne]; exact he
  clear he
  go_enter Tryd.func60, Tryd.ntmps60
  go_wp2_with (go_at_call 61; refine (err_any p l e _ H.out).mono ?_; rintro e' w' ⟨rfl, rfl⟩)
  go_ret
  exact ⟨rfl, H.out, World.grownBy.refl _ _⟩

set_option maxRecDepth 100000 in
theorem inNum_ok (p : Nat) (least most : Int) (l : List Nat) (w : World) (h : InAt w p l 0) (g : (dec 0 0 l).2.2 = 0) (g1 : ¬ unz (dec 0 0 l).1 < least) (g2 : ¬ unz (dec 0 0 l).1 > most) :
    Calls Tryd.prog 60 #[.pointer (some ⟨p, 0, none⟩), .int .i64 least, .int .i64 most] w fun e' w' => e' = .returned (.int .i64 (unz (dec 0 0 l).1)) ∧ InAt w' p (l.drop (dec 0 0 l).2.1) 0 ∧ w.grownBy w' (some p) := by
  have H := Lib.hid h
  obtain ⟨a, len, cap, h0, h1, f0, f1, hb, hx, hh⟩ := h.cells
  have HBY := Lib.hid hb
  have HX := Lib.hid hx
  have HH := Lib.hid hh
  have hsz : (dec 0 0 l).2.1 ≤ len := by rw [← hb.1.1]; exact dec_size l hb.1.2.2.1 g
  have hm : len ≤ maxLen := hb.1.2.1
  clear h hb hx hh
  have hnum := number_any a len cap l hm w HBY.out.1
  have en : numOf (dec 0 0 l) = unz (dec 0 0 l).1 := by unfold numOf; rw [if_pos g]
  have ee : errOf (dec 0 0 l) = 0 := by unfold errOf; rw [g]; rfl
  rw [en, ee] at hnum
  clear en ee g
  have HN := Lib.hid hnum
  clear hnum
  generalize unz (dec 0 0 l).1 = N at *
  generalize (dec 0 0 l).2.1 = S at *
  have hsl := fun W => slice_from a len cap S hsz W
  go_enter Tryd.func60, Tryd.ntmps60
  go_wp2_with (first
    | (go_at_call 61; refine (err_any p l 0 _ H.out).mono ?_; rintro e' w' ⟨rfl, rfl⟩)
    | (go_at_call 76; refine HN.out.mono ?_; rintro e' w' ⟨rfl, rfl⟩))
  go_ret
  refine ⟨rfl, ⟨fromA a cap S, len - S, cap - S, heap_set0 HH.out, ⟨(HBY.out.1.drop cap S hsz HBY.out.2.1).aside (fromA_block HX.out), by have := HBY.out.2.1; omega, by have := HBY.out.2.2.1; omega, fun hz => ?_⟩, fromA_block HX.out⟩, grown_cell w p _ _⟩
  have hc := HBY.out.2.1
  cases a with
  | none =>
    have := HBY.out.2.2.2 rfl
    omega
  | some y =>
    unfold fromA at hz
    split at hz
    · cases hz
    · cases hz

set_option maxRecDepth 100000 in
/-- the error that is met -/
theorem inNum_bad (p : Nat) (least most : Int) (l : List Nat) (w : World) (h : InAt w p l 0) (E : Nat) (hE : E ≠ 0)
    (hgo : (dec 0 0 l).2.2 = E ∨ ((dec 0 0 l).2.2 = 0 ∧ (unz (dec 0 0 l).1 < least ∨ unz (dec 0 0 l).1 > most) ∧ E = 4)) :
    Calls Tryd.prog 60 #[.pointer (some ⟨p, 0, none⟩), .int .i64 least, .int .i64 most] w fun e' w' => e' = .returned (.int .i64 0) ∧ InAt w' p l E ∧ w.grownBy w' (some p) := by
  have H := Lib.hid h
  obtain ⟨a, len, cap, h0, h1, f0, f1, hb, hx, hh⟩ := h.cells
  have HBY := Lib.hid hb
  have HX := Lib.hid hx
  have HH := Lib.hid hh
  have hm : len ≤ maxLen := hb.1.2.1
  clear h hb hx hh
  have hnum := number_any a len cap l hm w HBY.out.1
  rcases hgo with hgo | ⟨hgo, hbig, rfl⟩
  · have ee : errOf (dec 0 0 l) = E := by unfold errOf; rw [hgo]
    rw [ee] at hnum
    generalize numOf (dec 0 0 l) = N at *
    generalize ((dec 0 0 l).2.1 : Int) = S at *
    clear ee hgo
    have HN := Lib.hid hnum
    clear hnum
    have hEb : ((E : Int) == 0) = false := by rw [beq_eq_false_iff_ne]; omega
    clear hE
    go_enter Tryd.func60, Tryd.ntmps60
    go_wp2_with (first
      | (go_at_call 61; refine (err_any p l 0 _ H.out).mono ?_; rintro e' w' ⟨rfl, rfl⟩)
      | (go_at_call 76; refine HN.out.mono ?_; rintro e' w' ⟨rfl, rfl⟩))
    go_ret
    exact ⟨rfl, ⟨a, len, cap, heap_set1 HH.out, ⟨HBY.out.1.aside HX.out, HBY.out.2⟩, HX.out⟩, grown_cell w p _ _⟩
  · have en : numOf (dec 0 0 l) = unz (dec 0 0 l).1 := by unfold numOf; rw [if_pos hgo]
    have ee : errOf (dec 0 0 l) = 0 := by unfold errOf; rw [hgo]; rfl
    rw [en, ee] at hnum
    clear en ee hgo hE
    have HN := Lib.hid hnum
    clear hnum
    generalize unz (dec 0 0 l).1 = N at *
    generalize (dec 0 0 l).2.1 = S at *
    rcases Int.lt_or_le N least with g1 | g1
    · clear hbig
      go_enter Tryd.func60, Tryd.ntmps60
      go_wp2_with (first
        | (go_at_call 61; refine (err_any p l 0 _ H.out).mono ?_; rintro e' w' ⟨rfl, rfl⟩)
        | (go_at_call 76; refine HN.out.mono ?_; rintro e' w' ⟨rfl, rfl⟩))
      all_goals go_ret
      all_goals exact ⟨rfl, ⟨a, len, cap, heap_set1 HH.out, ⟨HBY.out.1.aside HX.out, HBY.out.2⟩, HX.out⟩, grown_cell w p _ _⟩
    · have g2 : most < N := by omega
      clear hbig
      go_enter Tryd.func60, Tryd.ntmps60
      go_wp2_with (first
        | (go_at_call 61; refine (err_any p l 0 _ H.out).mono ?_; rintro e' w' ⟨rfl, rfl⟩)
        | (go_at_call 76; refine HN.out.mono ?_; rintro e' w' ⟨rfl, rfl⟩))
      all_goals go_ret
      all_goals exact ⟨rfl, ⟨a, len, cap, heap_set1 HH.out, ⟨HBY.out.1.aside HX.out, HBY.out.2⟩, HX.out⟩, grown_cell w p _ _⟩

/-- reading a number: the one contract -/
theorem inNum_only (p : Nat) (least most : Int) (l : List Nat) (e : Int) (w : World) (h : InAt w p l e) :
    Calls Tryd.prog 60 #[.pointer (some ⟨p, 0, none⟩), .int .i64 least, .int .i64 most] w fun e' w' => e' = .returned (.int .i64 (readNum least most l e).1) ∧ InAt w' p (readNum least most l e).2.1 (readNum least most l e).2.2 ∧ w.grownBy w' (some p) := by
  unfold readNum
  by_cases he : e = 0
  · subst he
    rw [if_neg (by decide)]
    by_cases g : (dec 0 0 l).2.2 = 0
    · rw [if_neg (by omega)]
      by_cases gb : unz (dec 0 0 l).1 < least ∨ unz (dec 0 0 l).1 > most
      · rw [if_pos gb]
        exact inNum_bad p least most l w h 4 (by decide) (.inr ⟨g, gb, rfl⟩)
      · rw [if_neg gb]
        exact inNum_ok p least most l w h g (fun x => gb (.inl x)) (fun x => gb (.inr x))
    · rw [if_pos g]
      exact inNum_bad p least most l w h _ g (.inl rfl)
  · rw [if_pos he]
    exact inNum_err p least most l e he w h

theorem inNum_any (p : Nat) (least most : Int) (l : List Nat) (e : Int) (w : World) (h : InAt w p l e) :
    Calls Tryd.prog 60 #[.pointer (some ⟨p, 0, none⟩), .int .i64 least, .int .i64 most] w fun e' w' => e' = .returned (.int .i64 (readNum least most l e).1) ∧ InAt w' p (readNum least most l e).2.1 (readNum least most l e).2.2 ∧ ∀ B, B ≤ p → Below B w w' := by
  refine (inNum_only p least most l e w h).mono ?_
  rintro e' w' ⟨rfl, hi, hg⟩
  exact ⟨rfl, hi, grown_below hg h.lt⟩

end Go.Proofs.YtcmnfbpmkndfkaaDoor.Wr
namespace Go.Proofs.YtcmnfbpmkndfkaaDoor.Wr
set_option maxRecDepth 100000
open Go.ChangeShapes Go.WideShapes Go.ChangeAt Go.RowKit
set_option linter.unusedVariables false

def IsRow (k : IntKind) (w : World) (a : Option Addr) (len cap : Nat) (zs : List Int) : Prop :=
  (a = none ∧ len = 0 ∧ cap = 0 ∧ zs = []) ∨
  ∃ x, a = some x ∧ len ≤ cap ∧ cap ≤ maxLen ∧ zs.length = cap ∧ (∀ i, i < zs.length → w.cell? (x.add i) = some (.int k (zs.getD i 0))) ∧ ∀ n ∈ zs, (Lit.int k n).wf = true

theorem row_bytes {w : World} {a : Option Addr} {len cap : Nat} {zs : List Int} (h : IsRow .u8 w a len cap zs) : ∃ l, ByteRow w a len l ∧ len ≤ cap ∧ cap ≤ maxLen := by
  rcases h with ⟨rfl, rfl, rfl, rfl⟩ | ⟨x, rfl, h1, h2, h3, h4, h5⟩
  · exact ⟨[], ByteRow.nil w none, Nat.le_refl _, Nat.zero_le _⟩
  · have hb : ∀ n ∈ zs, 0 ≤ n ∧ n ≤ 255 := fun n hn => by
      have := h5 n hn
      simpa [Lit.wf, IntKind.min, IntKind.max, IntKind.signed, IntKind.bits] using this
    refine ⟨(zs.take len).map Int.toNat, ⟨by rw [List.length_map, List.length_take]; omega, by omega, ?_, ?_⟩, h1, h2⟩
    · intro c hc
      obtain ⟨n, hn, rfl⟩ := List.mem_map.1 hc
      have := hb n (List.mem_of_mem_take hn)
      omega
    · intro h0
      obtain ⟨b, off, spot⟩ := x
      have hc0 := h4 0 (by omega)
      have hspot : spot = none := by simpa [Addr.add] using World.cell?_spot hc0
      subst hspot
      refine ⟨b, off, rfl, fun i hi => ?_⟩
      have hci := h4 i (by omega)
      have e1 : (⟨b, off, none⟩ : Addr).add i = ⟨b, off + i, none⟩ := by simp [Addr.add]
      rw [e1] at hci
      rw [hci]
      have hlt : i < zs.length := by omega
      have hm := hb zs[i] (List.getElem_mem hlt)
      have e2 : zs.getD i 0 = zs[i] := by simp [List.getD, List.getElem?_eq_getElem hlt]
      have e3 : ((zs.take len).map Int.toNat).getD i 0 = zs[i].toNat := by
        simp [List.getD, List.getElem?_map, hi, List.getElem?_eq_getElem hlt]
      rw [e2, e3]
      congr 2
      omega
theorem getD_take (l : List Nat) (k i : Nat) (h : i < k) : (l.take k).getD i 0 = l.getD i 0 := by
  simp [List.getD, h]
theorem ByteRow.take {w : World} {a : Option Addr} {n : Nat} {l : List Nat} (h : ByteRow w a n l) (k : Nat) (hk : k ≤ n) : ByteRow w a k (l.take k) := by
  obtain ⟨h1, h2, h3, h4⟩ := h
  refine ⟨by rw [List.length_take]; omega, by omega, fun c hc => h3 c (List.mem_of_mem_take hc), fun h0 => ?_⟩
  obtain ⟨b, o, rfl, hc⟩ := h4 (by omega)
  exact ⟨b, o, rfl, fun i hi => by rw [getD_take l k i hi]; exact hc i (by omega)⟩
theorem slice_to (a : Option Addr) (m cap k : Nat) (hk : k ≤ cap) (w : World) : (Instr.slice 34 (.slice a m cap) none (some (.int .i64 (k : Int))) none).run Tryd.prog w = .ok (.slice a k cap) w := by
  rw [run_slice_h w 34 a m cap (by kernel_rfl) .i64 (k : Int) (by omega) (by omega)]
  go_simp
theorem u8_toNat (n : Nat) (h : n < 256) : (UInt8.ofNat n).toNat = n := by simp [UInt8.toNat_ofNat']; omega

theorem row_bytes' {w : World} {a : Option Addr} {len cap : Nat} {zs : List Int} (h : IsRow .u8 w a len cap zs) : ∃ l, Bytes w a len cap l := by
  obtain ⟨l, h1, h2, h3⟩ := row_bytes h
  refine ⟨l, h1, h2, h3, fun hz => ?_⟩
  subst hz
  rcases h with ⟨_, e1, e2, _⟩ | ⟨x, e, _⟩
  · exact ⟨e1, e2⟩
  · cases e

theorem conv_row {w : World} {a : Option Addr} {m : Nat} {l : List Nat} (cap : Nat) (h : ByteRow w a m l) (h0 : 0 < m) :
    (convert 34 9 (.slice a m cap)).run Tryd.prog w = .ok (.string (bstr l)) w := by
  obtain ⟨h1, h2, h3, h4⟩ := h
  obtain ⟨b, o, rfl, hc⟩ := h4 h0
  have e : bstr l = strOfNums (l.map fun (n : Nat) => (n : Int)) := by
    unfold bstr strOfNums
    rw [List.map_map]
    rfl
  rw [e]
  refine run_convert_bytes_arg w 34 5 Tryd.underlying34 Tryd.underlying5 b o m cap _ (by rw [List.length_map]; exact h1) (fun i hi => ?_) 9 Tryd.underlying9
  rw [hc i hi]
  have e3 : (l.map fun (n : Nat) => (n : Int)).getD i 0 = ((l.getD i 0 : Nat) : Int) := by
    simp [List.getD, List.getElem?_map]
    cases l[i]? <;> rfl
  rw [e3]

theorem InAt.below {w w' : World} {p : Nat} {l : List Nat} {e : Int} (h : InAt w p l e) (hb : Below w.heap.size w w') : InAt w' p l e := by
  obtain ⟨a, len, cap, h1, h2, h3⟩ := h
  have hp : p < w.heap.size := by
    rcases Nat.lt_or_ge p w.heap.size with h | h
    · exact h
    · rw [Array.getElem?_eq_none h] at h1
      cases h1
  exact ⟨a, len, cap, by rw [hb.block p hp]; exact h1, h2.below hb, h3⟩

theorem unz_in (u : Nat) (hu : u < 18446744073709551616) : -9223372036854775808 ≤ unz u ∧ unz u ≤ 9223372036854775807 := by
  unfold unz
  split <;> omega
theorem dec_lt (l : List Nat) (hl : ∀ c ∈ l, c < 256) (h : (dec 0 0 l).2.2 = 0) : (dec 0 0 l).1 < 18446744073709551616 ∧ code (unz (dec 0 0 l).1) = l.take (dec 0 0 l).2.1 ∧ 0 < (dec 0 0 l).2.1 := by
  obtain ⟨v, h1, h2, _, h4, _, h6⟩ := enc_dec 10 0 0 l (dec 0 0 l).1 (dec 0 0 l).2.1 rfl (by omega) hl (Prod.ext rfl (Prod.ext rfl h))
  have e : (dec 0 0 l).1 = v := by rw [h1]; omega
  refine ⟨by rw [e]; exact h2, ?_, h4⟩
  unfold code
  rw [zig_unz, e, h6]
  rfl
theorem readNum_all (l : List Nat) (hl : ∀ c ∈ l, c < 256) : readNum (-9223372036854775808) 9223372036854775807 l 0 = if (dec 0 0 l).2.2 = 0 then (unz (dec 0 0 l).1, l.drop (dec 0 0 l).2.1, (0 : Int)) else (0, l, ((dec 0 0 l).2.2 : Int)) := by
  unfold readNum
  rw [if_neg (by decide)]
  by_cases g : (dec 0 0 l).2.2 = 0
  · have := unz_in _ (dec_lt l hl g).1
    rw [if_neg (by omega), if_neg (by omega), if_pos g]
  · rw [if_pos g, if_neg g]

end Go.Proofs.YtcmnfbpmkndfkaaDoor.Wr
namespace Go.Proofs.YtcmnfbpmkndfkaaDoor.Wr
set_option maxRecDepth 100000
open Go.ChangeShapes Go.WideShapes Go.ChangeAt Go.RowKit
set_option linter.unusedVariables false

theorem below_back {w W w1 : World} (k : Hid (Below W.heap.size W w1)) (h : Below w.heap.size w W) : Below w.heap.size w w1 := Below.step k.out h

theorem slice_of_own {w : World} {base L : Nat} {v : Value} {l : List Nat} (h : w.ownsRow base 5 1 v l.length (vals l)) (hv : v ≠ .slice none 0 0) (hL : Hid (L = l.length)) :
    ∃ g cap, v = .slice (some ⟨g, 0, none⟩) L cap := by
  obtain ⟨g, cap, h1, h2⟩ := str_of_own h hv
  rw [hL.out]
  exact ⟨g, cap, h1⟩

theorem zig_pos (n : Int) (h1 : 0 ≤ n) (h2 : n ≤ 9223372036854775807) : IntKind.u64.wrap (IntKind.u64.wrap n * 2) = ((zig n : Nat) : Int) := by
  rw [IntKind.wrap_u64 n, IntKind.wrap_u64 (_ * 2)]
  unfold zig
  rw [if_pos h1]
  omega
theorem zig_neg (n : Int) (h1 : n < 0) (h2 : -9223372036854775808 ≤ n) : bits .xor .u64 IntKind.u64.max (IntKind.u64.wrap (IntKind.u64.wrap n * 2)) = ((zig n : Nat) : Int) := by
  rw [IntKind.wrap_u64 n, IntKind.wrap_u64 (_ * 2)]
  have e1 : n % 18446744073709551616 * 2 % 18446744073709551616 = (((2 * n + 18446744073709551616).toNat : Nat) : Int) := by omega
  have e2 : IntKind.u64.max = ((18446744073709551615 : Nat) : Int) := by decide
  rw [e1, e2, u64_xor_nat _ _ (by decide) (by omega), Nat.xor_comm, not_nat _ (by omega)]
  unfold zig
  rw [if_neg (by omega)]
  omega

theorem code_one (n : Int) (i U : Nat) (hi : i ≤ 9) (h : (code n).length = i + (enc (10 - i) U).length) (g : U < 128) : (code n).length = i + 1 := by
  rw [h, show 10 - i = (9 - i) + 1 by omega]
  unfold enc
  rw [if_pos g]
  rfl
theorem code_more (n : Int) (i U : Nat) (hi : i ≤ 9) (hU : U < 2 ^ (64 - 7 * i)) (h : (code n).length = i + (enc (10 - i) U).length) (g : 128 ≤ U) :
    i + 1 ≤ 9 ∧ U / 128 < 2 ^ (64 - 7 * (i + 1)) ∧ (code n).length = (i + 1) + (enc (10 - (i + 1)) (U / 128)).length := by
  have hi8 : i ≤ 8 := by
    rcases Nat.lt_or_ge i 9 with h | h
    · omega
    · have e : i = 9 := by omega
      rw [e] at hU
      omega
  refine ⟨by omega, ?_, ?_⟩
  · rw [show 64 - 7 * i = (64 - 7 * (i + 1)) + 7 by omega, Nat.pow_add] at hU
    exact Nat.div_lt_of_lt_mul (by rw [Nat.mul_comm]; exact hU)
  · rw [h, show 10 - i = (10 - (i + 1)) + 1 by omega]
    conv => lhs; unfold enc
    rw [if_neg (by omega)]
    simp only [List.length_cons]
    omega

theorem zig_pos2 (n : Int) (h1 : 0 ≤ n) (h2 : n ≤ 9223372036854775807) : n * 2 = ((zig n : Nat) : Int) := by
  unfold zig
  rw [if_pos h1]
  omega

end Go.Proofs.YtcmnfbpmkndfkaaDoor.Wr
namespace Go.Proofs.YtcmnfbpmkndfkaaDoor.Wr
set_option maxRecDepth 100000
open Go.ChangeShapes Go.WideShapes Go.ChangeAt Go.RowKit
set_option linter.unusedVariables false

theorem bstr_append (l m : List Nat) : bstr l ++ bstr m = bstr (l ++ m) := by
  apply ByteArray.ext
  simp [bstr]
theorem ret_str {l m : List Nat} (h : l = m) : Ending.returned (.string (bstr l)) = .returned (.string (bstr m)) := by rw [h]
theorem bstr_nil : bstr [] = ⟨#[]⟩ := rfl

/-- a fresh cell as a text -/
theorem convert_one (wr : World) (c : Nat) :
    (convert 34 9 (.slice (some ⟨wr.heap.size, 0, none⟩) 1 1)).run Tryd.prog (wr.alloc (.cells #[.int .u8 (c : Int)] 5)) = .ok (.string (bstr [c])) (wr.alloc (.cells #[.int .u8 (c : Int)] 5)) := by
  have e : bstr [c] = strOfNums ([c].map fun (n : Nat) => (n : Int)) := by
    unfold bstr strOfNums
    rw [List.map_map]
    rfl
  rw [e]
  refine run_convert_bytes_arg _ 34 5 Tryd.underlying34 Tryd.underlying5 wr.heap.size 0 1 1 _ rfl (fun i hi => ?_) 9 Tryd.underlying9
  obtain rfl : i = 0 := by omega
  exact cell_one_new' wr c 0 _ rfl

set_option maxRecDepth 100000 in
theorem refNum_n (n : Int) (h1 : -9223372036854775808 ≤ n) (h2 : n ≤ 9223372036854775807) (hn : n < 0) (w : World) :
    Calls Tryd.prog 43 #[.int .i64 n] w fun e w' => e = .returned (.string (bstr (code n))) ∧ Below w.heap.size w w' := by
  have hz := zig_neg n hn h1
  have hzl := zig_lt n h1 h2
  go_enter Tryd.func43, Tryd.ntmps43
  go_wp2
  clear hz
  go_loopw [3, 4] (fun u b wr => ∃ (i U : Nat) (pre : List Nat), u = .int .u64 U ∧ b = .string (bstr pre) ∧ code n = pre ++ enc (10 - i) U ∧ i ≤ 9 ∧ U < 2 ^ (64 - 7 * i) ∧ pre.length = i ∧ Below w.heap.size w wr) (fun u _ _ => (intOf u).toNat)
  case atStart => exact ⟨0, zig n, [], rfl, rfl, rfl, by omega, hzl, rfl, Below.refl _ _⟩
  case round =>
    obtain ⟨i, U, pre, rfl, rfl, hcode, hi9, hU, hlen, hbel⟩ := hrel
    have HC := Lib.hid hcode
    have HU := Lib.hid hU
    have HB := Lib.hid hbel
    have HL := Lib.hid hlen
    have hsz : (bstr pre).size ≤ 10 := by rw [size_bstr, hlen]; omega
    have hU64 : U < 18446744073709551616 := by
      have h3 : 2 ^ (64 - 7 * i) ≤ 2 ^ 64 := Nat.pow_le_pow_right (by omega) (by omega)
      omega
    clear hcode hU hbel hlen
    by_cases g : 128 ≤ U
    · have hi8 : i ≤ 8 := by
        rcases Nat.lt_or_ge i 9 with h | h
        · omega
        · have e : i = 9 := by omega
          have hU := HU.out
          rw [e] at hU
          omega
      have hstep : code n = (pre ++ [U % 128 + 128]) ++ enc (10 - (i + 1)) (U / 128) := by
        rw [HC.out, show 10 - i = (10 - (i + 1)) + 1 by omega]
        conv => lhs; unfold enc
        rw [if_neg (by omega), List.append_assoc]
        rfl
      have hU2 : U / 128 < 2 ^ (64 - 7 * (i + 1)) := by
        have hU := HU.out
        rw [show 64 - 7 * i = (64 - 7 * (i + 1)) + 7 by omega, Nat.pow_add] at hU
        exact Nat.div_lt_of_lt_mul (by rw [Nat.mul_comm]; exact hU)
      have HS := Lib.hid hstep
      have HU2 := Lib.hid hU2
      clear hstep hU2
      have hcv := convert_one wr (U % 128 + 128)
      have hap := bstr_append pre [U % 128 + 128]
      have hs1 : (bstr [U % 128 + 128]).size = 1 := size_bstr _
      simp only [Int.natCast_add, Int.natCast_emod, Int.cast_ofNat_Int] at hcv
      go_wp2
      go_roundw
      case rel => exact ⟨i + 1, U / 128, pre ++ [U % 128 + 128], by go_num, rfl, HS.out, by omega, HU2.out, by rw [List.length_append, HL.out]; rfl, Below.alloc' HB.out _⟩
      case measure => simp [intOf]; omega
    · have hend : code n = pre ++ [U] := by
        rw [HC.out, show 10 - i = (9 - i) + 1 by omega]
        conv => lhs; unfold enc
        rw [if_pos (by omega)]
      have HE := Lib.hid hend
      clear hend
      have hcv := convert_one wr U
      have hap := bstr_append pre [U]
      have hs1 : (bstr [U]).size = 1 := size_bstr _
      go_wp2
      go_ret
      exact ⟨ret_str HE.out.symm, Below.alloc' HB.out _⟩

set_option maxRecDepth 100000 in
theorem refNum_p (n : Int) (h1 : -9223372036854775808 ≤ n) (h2 : n ≤ 9223372036854775807) (hn : 0 ≤ n) (w : World) :
    Calls Tryd.prog 43 #[.int .i64 n] w fun e w' => e = .returned (.string (bstr (code n))) ∧ Below w.heap.size w w' := by
  have hz := zig_pos2 n hn h2
  have hzl := zig_lt n h1 h2
  go_enter Tryd.func43, Tryd.ntmps43
  go_wp2
  clear hz
  go_loopw [3, 4] (fun u b wr => ∃ (i U : Nat) (pre : List Nat), u = .int .u64 U ∧ b = .string (bstr pre) ∧ code n = pre ++ enc (10 - i) U ∧ i ≤ 9 ∧ U < 2 ^ (64 - 7 * i) ∧ pre.length = i ∧ Below w.heap.size w wr) (fun u _ _ => (intOf u).toNat)
  case atStart => exact ⟨0, zig n, [], rfl, rfl, rfl, by omega, hzl, rfl, Below.refl _ _⟩
  case round =>
    obtain ⟨i, U, pre, rfl, rfl, hcode, hi9, hU, hlen, hbel⟩ := hrel
    have HC := Lib.hid hcode
    have HU := Lib.hid hU
    have HB := Lib.hid hbel
    have HL := Lib.hid hlen
    have hsz : (bstr pre).size ≤ 10 := by rw [size_bstr, hlen]; omega
    have hU64 : U < 18446744073709551616 := by
      have h3 : 2 ^ (64 - 7 * i) ≤ 2 ^ 64 := Nat.pow_le_pow_right (by omega) (by omega)
      omega
    clear hcode hU hbel hlen
    by_cases g : 128 ≤ U
    · have hi8 : i ≤ 8 := by
        rcases Nat.lt_or_ge i 9 with h | h
        · omega
        · have e : i = 9 := by omega
          have hU := HU.out
          rw [e] at hU
          omega
      have hstep : code n = (pre ++ [U % 128 + 128]) ++ enc (10 - (i + 1)) (U / 128) := by
        rw [HC.out, show 10 - i = (10 - (i + 1)) + 1 by omega]
        conv => lhs; unfold enc
        rw [if_neg (by omega), List.append_assoc]
        rfl
      have hU2 : U / 128 < 2 ^ (64 - 7 * (i + 1)) := by
        have hU := HU.out
        rw [show 64 - 7 * i = (64 - 7 * (i + 1)) + 7 by omega, Nat.pow_add] at hU
        exact Nat.div_lt_of_lt_mul (by rw [Nat.mul_comm]; exact hU)
      have HS := Lib.hid hstep
      have HU2 := Lib.hid hU2
      clear hstep hU2
      have hcv := convert_one wr (U % 128 + 128)
      have hap := bstr_append pre [U % 128 + 128]
      have hs1 : (bstr [U % 128 + 128]).size = 1 := size_bstr _
      simp only [Int.natCast_add, Int.natCast_emod, Int.cast_ofNat_Int] at hcv
      go_wp2
      go_roundw
      case rel => exact ⟨i + 1, U / 128, pre ++ [U % 128 + 128], by go_num, rfl, HS.out, by omega, HU2.out, by rw [List.length_append, HL.out]; rfl, Below.alloc' HB.out _⟩
      case measure => simp [intOf]; omega
    · have hend : code n = pre ++ [U] := by
        rw [HC.out, show 10 - i = (9 - i) + 1 by omega]
        conv => lhs; unfold enc
        rw [if_pos (by omega)]
      have HE := Lib.hid hend
      clear hend
      have hcv := convert_one wr U
      have hap := bstr_append pre [U]
      have hs1 : (bstr [U]).size = 1 := size_bstr _
      go_wp2
      go_ret
      exact ⟨ret_str HE.out.symm, Below.alloc' HB.out _⟩

theorem refNum_any (n : Int) (h1 : -9223372036854775808 ≤ n) (h2 : n ≤ 9223372036854775807) (w : World) :
    Calls Tryd.prog 43 #[.int .i64 n] w fun e w' => e = .returned (.string (bstr (code n))) ∧ Below w.heap.size w w' := by
  by_cases hn : n < 0
  · exact refNum_n n h1 h2 hn w
  · exact refNum_p n h1 h2 (by omega) w

theorem bstr_bytesOf (s : ByteArray) : bstr (bytesOf s) = s := by
  apply ByteArray.ext
  apply Array.ext'
  simp only [bstr, bytesOf, List.map_map]
  conv => rhs; rw [← List.map_id s.data.toList]
  apply List.map_congr_left
  intro c _
  simp

end Go.Proofs.YtcmnfbpmkndfkaaDoor.Wr
namespace Go.Proofs.YtcmnfbpmkndfkaaDoor.Wr
set_option maxRecDepth 100000
open Go.ChangeShapes Go.WideShapes Go.ChangeAt Go.RowKit
set_option linter.unusedVariables false

def failE (e x : Int) : Int := if e = 0 then x else e

def endE (l : List Nat) (e : Int) : Int := if 0 < l.length then failE e 2 else e

theorem conv_all {w : World} {a : Option Addr} {m : Nat} {l : List Nat} (cap : Nat) (h : ByteRow w a m l) :
    (convert 34 9 (.slice a m cap)).run Tryd.prog w = .ok (.string (bstr l)) w := by
  by_cases h0 : m = 0
  · subst h0
    obtain rfl : l = [] := List.eq_nil_of_length_eq_zero h.1
    rw [run_convert_bytes_string w 34 9 5 a 0 cap Tryd.underlying34 Tryd.underlying5 Tryd.underlying9]
    cases a with
    | none => rfl
    | some a => exact run_bytesToString w a 0 cap [] rfl
  · exact conv_row cap h (by omega)
theorem ret_string {s t : ByteArray} (h : s = t) : Ending.returned (.string s) = .returned (.string t) := by rw [h]
theorem fromA_none {a : Option Addr} {len cap k : Nat} (hk : k ≤ len) (hc : len ≤ cap) (hz : a = none → len = 0 ∧ cap = 0) (h : fromA a cap k = none) : len - k = 0 ∧ cap - k = 0 := by
  cases a with
  | none =>
    have := hz rfl
    omega
  | some y =>
    unfold fromA at h
    split at h
    · cases h
    · cases h

/-- reading a text of so many bytes at most -/
def readStr (most : Int) (l : List Nat) (e : Int) : List Nat × List Nat × Int :=
  if (readNum 0 most l e).2.2 ≠ 0 then ([], (readNum 0 most l e).2.1, (readNum 0 most l e).2.2)
  else if (readNum 0 most l e).1 > ((readNum 0 most l e).2.1.length : Int) then ([], (readNum 0 most l e).2.1, 3)
  else ((readNum 0 most l e).2.1.take (readNum 0 most l e).1.toNat, (readNum 0 most l e).2.1.drop (readNum 0 most l e).1.toNat, 0)

theorem readNum_pos (most : Int) (l : List Nat) (e : Int) : 0 ≤ (readNum 0 most l e).1 := by
  unfold readNum
  split
  · exact Int.le_refl _
  · split
    · exact Int.le_refl _
    · split
      · exact Int.le_refl _
      · show 0 ≤ unz _
        omega

end Go.Proofs.YtcmnfbpmkndfkaaDoor.Wr
namespace Go.Proofs.YtcmnfbpmkndfkaaDoor.Wr
set_option maxRecDepth 100000
open Go.ChangeShapes Go.WideShapes Go.ChangeAt Go.RowKit
set_option linter.unusedVariables false

theorem dec_code (n : Int) (h1 : -9223372036854775808 ≤ n) (h2 : n ≤ 9223372036854775807) (R : List Nat) : dec 0 0 (code n ++ R) = (zig n, (code n).length, 0) := by
  have hz := zig_lt n h1 h2
  have h := dec_enc 10 0 0 (zig n) R rfl (by omega) (.inl rfl)
  unfold code
  rw [h]
  refine Prod.ext ?_ (Prod.ext ?_ rfl)
  · show 0 + zig n * 2 ^ (7 * 0) = zig n
    omega
  · exact Nat.zero_add _
theorem readNum_code (least most n : Int) (h1 : -9223372036854775808 ≤ n) (h2 : n ≤ 9223372036854775807) (g1 : least ≤ n) (g2 : n ≤ most) (R : List Nat) : readNum least most (code n ++ R) 0 = (n, R, 0) := by
  unfold readNum
  rw [dec_code n h1 h2 R, if_neg (by decide), if_neg (fun h => h rfl), unz_zig, if_neg (by omega), List.drop_left]

/-- a beginning of a number's bytes -/
theorem dec_begin (j k u v t : Nat) (hj : k + j = 10) (hv : v < 2 ^ (64 - 7 * k)) (ht : t < (enc j v).length) : dec k u ((enc j v).take t) = (0, 0, 3) := by
  induction j generalizing k u v t with
  | zero => simp [enc] at ht
  | succ j ih =>
    cases t with
    | zero => rfl
    | succ t =>
      unfold enc at ht ⊢
      by_cases g : v < 128
      · rw [if_pos g] at ht
        simp at ht
      · rw [if_neg g] at ht ⊢
        simp only [List.length_cons] at ht
        simp only [List.take_succ_cons]
        have hk8 : k ≤ 8 := by
          rcases Nat.lt_or_ge k 9 with h | h
          · omega
          · have : k = 9 ∨ k = 10 := by omega
            rcases this with rfl | rfl
            · simp at hv; omega
            · simp at hv; omega
        have hv2 : v / 128 < 2 ^ (64 - 7 * (k + 1)) := by
          rw [show 64 - 7 * k = (64 - 7 * (k + 1)) + 7 by omega, Nat.pow_add] at hv
          exact Nat.div_lt_of_lt_mul (by rw [Nat.mul_comm]; exact hv)
        rw [dec_more k u _ _ (by omega) (by omega)]
        exact ih (k + 1) _ (v / 128) t (by omega) hv2 (by omega)
theorem readNum_begin (least most n : Int) (h1 : -9223372036854775808 ≤ n) (h2 : n ≤ 9223372036854775807) (t : Nat) (ht : t < (code n).length) : readNum least most ((code n).take t) 0 = (0, (code n).take t, 3) := by
  have h := dec_begin 10 0 0 (zig n) t rfl (zig_lt n h1 h2) ht
  unfold readNum code
  rw [h, if_neg (by decide), if_pos (by decide)]
  rfl
theorem readNum_done (least most : Int) (l : List Nat) : readNum least most l 3 = (0, l, 3) := by
  unfold readNum
  rw [if_pos (by decide)]
theorem readStr_done (most : Int) (l : List Nat) : readStr most l 3 = ([], l, 3) := by
  unfold readStr
  rw [readNum_done, if_pos (show (3 : Int) ≠ 0 by decide)]
theorem endE_done (l : List Nat) : endE l 3 = 3 := by
  unfold endE failE
  split <;> rfl

/-- a text's bytes -/
def text (t : List Nat) : List Nat := code (t.length : Int) ++ t
theorem readStr_text (most : Int) (t R : List Nat) (ht : t.length < 70368744177664) (hm : (t.length : Int) ≤ most) : readStr most (text t ++ R) 0 = (t, R, 0) := by
  unfold readStr text
  rw [List.append_assoc, readNum_code 0 most t.length (by omega) (by omega) (by omega) hm]
  rw [if_neg (fun h => h rfl), if_neg (by simp only [List.length_append]; omega)]
  refine Prod.ext ?_ (Prod.ext ?_ rfl)
  · show (t ++ R).take (Int.toNat (t.length : Int)) = t
    rw [Int.toNat_natCast, List.take_left]
  · show (t ++ R).drop (Int.toNat (t.length : Int)) = R
    rw [Int.toNat_natCast, List.drop_left]
theorem readStr_begin (most : Int) (t : List Nat) (k : Nat) (ht : t.length < 70368744177664) (hm : (t.length : Int) ≤ most) (hk : k < (text t).length) : (readStr most ((text t).take k) 0).2.2 = 3 := by
  unfold readStr
  by_cases g : k < (code (t.length : Int)).length
  · have e : (text t).take k = (code (t.length : Int)).take k := by
      unfold text
      rw [List.take_append_of_le_length (by omega)]
    rw [e, readNum_begin 0 most t.length (by omega) (by omega) k g, if_pos (show (3 : Int) ≠ 0 by decide)]
  · have e : (text t).take k = code (t.length : Int) ++ t.take (k - (code (t.length : Int)).length) := by
      unfold text
      rw [List.take_append, List.take_of_length_le (by omega)]
    have hl : (t.take (k - (code (t.length : Int)).length)).length < t.length := by
      rw [List.length_take]
      unfold text at hk
      rw [List.length_append] at hk
      omega
    rw [e, readNum_code 0 most t.length (by omega) (by omega) (by omega) hm, if_neg (fun h => h rfl), if_pos (by dsimp only; omega)]

/-- what is left while a beginning is read: a beginning of what stands there still, or the error -/
def Cut (R l : List Nat) (e : Int) : Prop := e = 3 ∨ (e = 0 ∧ ∃ k, k < R.length ∧ l = R.take k)
theorem Cut.num {n : Int} {R l : List Nat} {e : Int} (least most : Int) (h1 : -9223372036854775808 ≤ n) (h2 : n ≤ 9223372036854775807) (g1 : least ≤ n) (g2 : n ≤ most) (h : Cut (code n ++ R) l e) :
    Cut R (readNum least most l e).2.1 (readNum least most l e).2.2 := by
  rcases h with rfl | ⟨rfl, k, hk, rfl⟩
  · rw [readNum_done]
    exact .inl rfl
  · by_cases g : k < (code n).length
    · rw [List.take_append_of_le_length (by omega), readNum_begin least most n h1 h2 k g]
      exact .inl rfl
    · rw [List.take_append, List.take_of_length_le (by omega), readNum_code least most n h1 h2 g1 g2]
      refine .inr ⟨rfl, k - (code n).length, ?_, rfl⟩
      rw [List.length_append] at hk
      omega
theorem Cut.text {t R l : List Nat} {e : Int} (most : Int) (ht : t.length < 70368744177664) (hm : (t.length : Int) ≤ most) (h : Cut (text t ++ R) l e) :
    Cut R (readStr most l e).2.1 (readStr most l e).2.2 := by
  rcases h with rfl | ⟨rfl, k, hk, rfl⟩
  · rw [readStr_done]
    exact .inl rfl
  · by_cases g : k < (Go.Proofs.YtcmnfbpmkndfkaaDoor.Wr.text t).length
    · rw [List.take_append_of_le_length (by omega)]
      exact .inl (readStr_begin most t k ht hm g)
    · rw [List.take_append, List.take_of_length_le (by omega), readStr_text most t _ ht hm]
      refine .inr ⟨rfl, k - (Go.Proofs.YtcmnfbpmkndfkaaDoor.Wr.text t).length, ?_, rfl⟩
      rw [List.length_append] at hk
      omega
theorem Cut.done {l : List Nat} {e : Int} (h : Cut [] l e) : endE l e = 3 := by
  rcases h with rfl | ⟨_, k, hk, _⟩
  · exact endE_done l
  · simp at hk

end Go.Proofs.YtcmnfbpmkndfkaaDoor.Wr
namespace Go.Proofs.YtcmnfbpmkndfkaaDoor.Wr
set_option maxRecDepth 100000
open Go.ChangeShapes Go.WideShapes Go.ChangeAt Go.RowKit
set_option linter.unusedVariables false

/-- the reference's place of reading -/
def RefAt (w : World) (p : Nat) (s : ByteArray) (e : Int) : Prop := w.heap[p]? = some (.cells #[.string s, .int .i64 e] 80)
theorem RefAt.cells {w : World} {p : Nat} {s : ByteArray} {e : Int} (h : RefAt w p s e) : w.cell? ⟨p, 0, none⟩ = some (.string s) ∧ w.cell? ⟨p, 1, none⟩ = some (.int .i64 e) ∧ w.frozen? ⟨p, 0, none⟩ = false ∧ w.frozen? ⟨p, 1, none⟩ = false := by
  unfold RefAt at h
  refine ⟨?_, ?_, ?_, ?_⟩
  · simp [World.cell?, h]
  · simp [World.cell?, h]
  · simp [World.frozen?, h]
  · simp [World.frozen?, h]
theorem bytesOf_drop (s : ByteArray) (k : Nat) (hk : k < s.size) : (bytesOf s).drop k = s[k].toNat :: (bytesOf s).drop (k + 1) := by
  have h : k < (bytesOf s).length := by rw [bytesOf_length]; exact hk
  rw [List.drop_eq_getElem_cons h]
  congr 1
  simp only [bytesOf, List.getElem_map, Array.getElem_toList]
  rfl
theorem add_step (U c k : Nat) (hk : k ≤ 8) (hU : U < 2 ^ (7 * k)) :
    IntKind.u64.wrap ((U : Int) + IntKind.u64.wrap ((c : Int) % 128 * 2 ^ (7 * k))) = ((U + c % 128 * 2 ^ (7 * k) : Nat) : Int) := by
  have h63 : 2 ^ (7 * k) ≤ 2 ^ 56 := Nat.pow_le_pow_right (by decide) (by omega)
  have hx := step_in c k hk
  have hlt := step_lt U c k hU
  have h3 : 2 ^ (7 * (k + 1)) ≤ 2 ^ 63 := Nat.pow_le_pow_right (by decide) (by omega)
  have e1 : ((c : Int) % 128 * 2 ^ (7 * k)) = ((c % 128 * 2 ^ (7 * k) : Nat) : Int) := by
    rw [Int.natCast_mul, Int.natCast_pow]
    rfl
  rw [e1, IntKind.wrap_u64, IntKind.wrap_u64]
  generalize c % 128 * 2 ^ (7 * k) = X at *
  omega

set_option maxRecDepth 100000 in
theorem refIn_err (p : Nat) (least most : Int) (s : ByteArray) (e : Int) (he : e ≠ 0) (w : World) (h : RefAt w p s e) :
    Calls Tryd.prog 37 #[.pointer (some ⟨p, 0, none⟩), .int .i64 least, .int .i64 most] w fun e' w' => e' = .returned (.int .i64 0) ∧ RefAt w' p s e ∧ w.grownBy w' (some p) := by
  have H := Lib.hid h
  obtain ⟨h0, h1, f0, f1⟩ := h.cells
  clear h
  have hb : (e == 0) = false := by rw [beq_eq_false_iff_ne]; exact he
  clear he
  go_enter Tryd.func37, Tryd.ntmps37
  go_wp2
  go_ret
  exact ⟨rfl, H.out, World.grownBy.refl _ _⟩

theorem readNum_bad {least most : Int} {l : List Nat} {E : Nat} (h : dec 0 0 l = (0, 0, E)) (hE : E ≠ 0) : readNum least most l 0 = (0, l, (E : Int)) := by
  unfold readNum
  rw [h, if_neg (by decide), if_pos hE]
theorem readNum_fit {least most : Int} {l : List Nat} {X S : Nat} (h : dec 0 0 l = (X, S, 0)) (g1 : least ≤ unz X) (g2 : unz X ≤ most) : readNum least most l 0 = (unz X, l.drop S, 0) := by
  unfold readNum
  rw [h, if_neg (by decide), if_neg (fun h => h rfl), if_neg (by dsimp only; omega)]
theorem readNum_big {least most : Int} {l : List Nat} {X S : Nat} (h : dec 0 0 l = (X, S, 0)) (g : unz X < least ∨ most < unz X) : readNum least most l 0 = (0, l, 4) := by
  unfold readNum
  rw [h, if_neg (by decide), if_neg (fun h => h rfl), if_pos (by dsimp only; omega)]
theorem add_nine (U c : Nat) (hU : U < 9223372036854775808) (hc : c ≤ 1) : ∃ X : Nat,
    ((U : Int) + (c : Int) % 128 * 9223372036854775808) = (X : Int) ∧ X = U + c * 9223372036854775808 ∧ X < 18446744073709551616 :=
  ⟨U + c * 9223372036854775808, by omega, rfl, by omega⟩
theorem bytesOf_extract (s : ByteArray) (k : Nat) (hk : k ≤ s.size) : bytesOf (s.extract k s.size) = (bytesOf s).drop k := by
  unfold bytesOf
  rw [← List.map_drop]
  congr 1
  simp
  exact List.take_of_length_le (by rw [List.length_drop, Array.length_toList]; exact Nat.le_refl _)
theorem par (X : Nat) : (((X : Int) % 2 == 1) = true ∧ Hid (unz X = -1 - (X : Int) / 2)) ∨ (((X : Int) % 2 == 1) = false ∧ Hid (unz X = (X : Int) / 2)) := by
  by_cases h : X % 2 = 0
  · refine .inr ⟨by rw [beq_eq_false_iff_ne]; omega, ?_⟩
    show unz X = _
    unfold unz
    rw [if_pos h]
    rfl
  · refine .inl ⟨by rw [beq_iff_eq]; omega, ?_⟩
    show unz X = _
    unfold unz
    rw [if_neg h]
    omega
theorem set0 {w : World} {p : Nat} {s s' : ByteArray} {e : Int} (h : RefAt w p s e) : RefAt (w.setCell ⟨p, 0, none⟩ (.string s')) p s' e := heap_set0 h
theorem set1 {w : World} {p : Nat} {s : ByteArray} {e e' : Int} (h : RefAt w p s e) : RefAt (w.setCell ⟨p, 1, none⟩ (.int .i64 e')) p s e' := heap_set1 h

set_option maxRecDepth 100000 in
set_option maxHeartbeats 4000000 in
theorem refIn_walk (p : Nat) (least most : Int) (s : ByteArray) (w : World) (h : RefAt w p s 0) (hs : s.size ≤ maxLen) :
    Calls Tryd.prog 37 #[.pointer (some ⟨p, 0, none⟩), .int .i64 least, .int .i64 most] w fun e' w' => e' = .returned (.int .i64 (readNum least most (bytesOf s) 0).1) ∧ (∃ s', bytesOf s' = (readNum least most (bytesOf s) 0).2.1 ∧ RefAt w' p s' (readNum least most (bytesOf s) 0).2.2) ∧ w.grownBy w' (some p) := by
  have H := Lib.hid h
  obtain ⟨h0, h1, f0, f1⟩ := h.cells
  have hs63 : s.size ≤ 9223372036854775807 := by unfold maxLen at hs; omega
  clear h hs
  go_enter Tryd.func37, Tryd.ntmps37
  go_wp2
  go_loop [7, 8] (fun u i => ∃ (k U : Nat), i = .int .i64 k ∧ u = .int .u64 U ∧ k ≤ s.size ∧ k ≤ 9 ∧ U < 2 ^ (7 * k) ∧ dec 0 0 (bytesOf s) = dec k U ((bytesOf s).drop k)) (fun _ i => s.size - (intOf i).toNat)
  case atStart => exact ⟨0, 0, rfl, rfl, by omega, by omega, by decide, rfl⟩
  case round =>
    obtain ⟨k, U, rfl, rfl, hk, hk9, hU, hd⟩ := hrel
    have HD := Lib.hid hd
    have HU := Lib.hid hU
    clear hd hU
    by_cases g : k < s.size
    · have hdrop := bytesOf_drop s k g
      obtain ⟨c, hc⟩ : ∃ c, s[k].toNat = c := ⟨_, rfl⟩
      have hc256 : c < 256 := by rw [← hc]; exact s[k].toNat_lt
      rw [hc] at hdrop
      have HD2 : Hid (dec 0 0 (bytesOf s) = dec k U (c :: (bytesOf s).drop (k + 1))) := by rw [← hdrop]; exact HD.out
      clear hdrop HD
      by_cases g9 : k = 9
      · subst g9
        by_cases g1 : 1 < c
        · have e : dec 0 0 (bytesOf s) = (0, 0, 2) := by rw [HD2.out, dec_nine U c _ g1]
          have R := Lib.hid (readNum_bad (least := least) (most := most) e (by decide))
          clear e
          go_wp2
          go_ret
          exact ⟨ret_int (by rw [R.out]), ⟨s, by rw [R.out], by rw [R.out]; exact set1 H.out⟩, grown_cell w p _ _⟩
        · by_cases gz : c = 0
          · have e : dec 0 0 (bytesOf s) = (0, 0, 2) := by
              rw [HD2.out, dec_zero 9 U c _ ⟨gz, by omega⟩]
            have R := Lib.hid (readNum_bad (least := least) (most := most) e (by decide))
            clear e
            go_wp2
            go_ret
            exact ⟨ret_int (by rw [R.out]), ⟨s, by rw [R.out], by rw [R.out]; exact set1 H.out⟩, grown_cell w p _ _⟩
          · obtain ⟨X, hadd, hX, hu64⟩ := add_nine U c HU.out (by omega)
            have E : Hid (dec 0 0 (bytesOf s) = (X, 10, 0)) := by rw [HD2.out, dec_nine_last U c _ g1 gz, hX]; rfl
            clear hX
            rcases par X with ⟨hp, HZ⟩ | ⟨hp, HZ⟩
            all_goals go_wp2
            all_goals go_ret
            all_goals have hz := HZ.out
            all_goals first
              | (have R := readNum_fit (least := least) (most := most) E.out (by omega) (by omega); exact ⟨ret_int (by rw [R]; exact hz.symm), ⟨s.extract (10) s.size, by rw [R]; exact bytesOf_extract s _ (by omega), by rw [R]; exact set0 H.out⟩, grown_cell w p _ _⟩)
              | (have R := readNum_big (least := least) (most := most) E.out (by omega); exact ⟨ret_int (by rw [R]), ⟨s, by rw [R], by rw [R]; exact set1 H.out⟩, grown_cell w p _ _⟩)
      · have hk8 : k ≤ 8 := by omega
        have hadd := add_step U c k hk8 HU.out
        by_cases g128 : 128 ≤ c
        · have HX := Lib.hid (step_lt U c k HU.out)
          have e : dec 0 0 (bytesOf s) = dec (k + 1) (U + c % 128 * 2 ^ (7 * k)) ((bytesOf s).drop (k + 1)) := by rw [HD2.out, dec_more k U c _ (by omega) g128]
          have E := Lib.hid e
          clear e
          generalize U + c % 128 * 2 ^ (7 * k) = X at *
          go_wp2
          go_round
          case rel => exact ⟨k + 1, X, by go_num, rfl, by omega, by omega, HX.out, E.out⟩
          case measure => simp [intOf]; omega
        · by_cases gz : c = 0 ∧ 0 < k
          · obtain ⟨gz0, gk⟩ := gz
            have e : dec 0 0 (bytesOf s) = (0, 0, 2) := by
              rw [HD2.out, dec_zero k U c _ ⟨gz0, gk⟩]
            have R := Lib.hid (readNum_bad (least := least) (most := most) e (by decide))
            clear e
            go_wp2
            go_ret
            exact ⟨ret_int (by rw [R.out]), ⟨s, by rw [R.out], by rw [R.out]; exact set1 H.out⟩, grown_cell w p _ _⟩
          · have e : dec 0 0 (bytesOf s) = (U + c % 128 * 2 ^ (7 * k), k + 1, 0) := by
              rw [HD2.out, dec_last k U c _ (by omega) g128 gz, Nat.mod_eq_of_lt (by omega)]
            have E := Lib.hid e
            have hst := step_lt U c k HU.out
            have hu64 : U + c % 128 * 2 ^ (7 * k) < 18446744073709551616 := by
              have h3 : 2 ^ (7 * (k + 1)) ≤ 2 ^ 64 := Nat.pow_le_pow_right (by decide) (by omega)
              omega
            clear e hst
            generalize U + c % 128 * 2 ^ (7 * k) = X at *
            rcases par X with ⟨hp, HZ⟩ | ⟨hp, HZ⟩
            all_goals go_wp2
            all_goals go_ret
            all_goals have hz := HZ.out
            all_goals first
              | (have R := readNum_fit (least := least) (most := most) E.out (by omega) (by omega); exact ⟨ret_int (by rw [R]; exact hz.symm), ⟨s.extract (k + 1) s.size, by rw [R]; exact bytesOf_extract s _ (by omega), by rw [R]; exact set0 H.out⟩, grown_cell w p _ _⟩)
              | (have R := readNum_big (least := least) (most := most) E.out (by omega); exact ⟨ret_int (by rw [R]), ⟨s, by rw [R], by rw [R]; exact set1 H.out⟩, grown_cell w p _ _⟩)
    · have e : dec 0 0 (bytesOf s) = (0, 0, 3) := by
        rw [HD.out, List.drop_of_length_le (by rw [bytesOf_length]; omega)]
        rfl
      have R := Lib.hid (readNum_bad (least := least) (most := most) e (by decide))
      clear e
      go_wp2
      go_ret
      exact ⟨ret_int (by rw [R.out]), ⟨s, by rw [R.out], by rw [R.out]; exact set1 H.out⟩, grown_cell w p _ _⟩

/-- the reference's reading of a number: the one contract -/
theorem refIn_any (p : Nat) (least most : Int) (s : ByteArray) (e : Int) (w : World) (h : RefAt w p s e) (hs : s.size ≤ maxLen) :
    Calls Tryd.prog 37 #[.pointer (some ⟨p, 0, none⟩), .int .i64 least, .int .i64 most] w fun e' w' => e' = .returned (.int .i64 (readNum least most (bytesOf s) e).1) ∧ (∃ s', bytesOf s' = (readNum least most (bytesOf s) e).2.1 ∧ RefAt w' p s' (readNum least most (bytesOf s) e).2.2) ∧ w.grownBy w' (some p) := by
  by_cases he : e = 0
  · subst he
    exact refIn_walk p least most s w h hs
  · refine (refIn_err p least most s e he w h).mono ?_
    rintro e' w' ⟨rfl, hr, hb⟩
    have R : readNum least most (bytesOf s) e = (0, bytesOf s, e) := by
      unfold readNum
      rw [if_pos he]
    exact ⟨ret_int (by rw [R]), ⟨s, by rw [R], by rw [R]; exact hr⟩, hb⟩

end Go.Proofs.YtcmnfbpmkndfkaaDoor.Wr
