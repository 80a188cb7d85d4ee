/-
  Digits of base 16: the library's formatBits, FormatUint.
-/
import Derived.Test.YtkplkfhkablelaaDoorDigB
import Derived.Laws.BytesArg
namespace Go.Proofs.YtkplkfhkablelaaDoor.Di
set_option maxRecDepth 100000
open Go.ChangeShapes Go.WideShapes Go.ChangeAt Go.RowKit
set_option linter.unusedVariables false

theorem pow2_16 (w : World) :
    Calls Tryd.prog 69 #[.int .i64 16] w fun e w' => e = .returned (.bool true) ∧ w = w' := by
  go_enter Tryd.func69, Tryd.ntmps69
  go_wp2_with fail
  go_ret
  exact ⟨rfl, rfl⟩
theorem tz64_16 (w : World) (ht : w.cell? ⟨5, 15, none⟩ = some (.int .u8 4)) :
    Calls Tryd.prog 74 #[.int .u64 16] w fun e w' => e = .returned (.int .i64 4) ∧ w = w' := by
  have h1 : IntKind.u64.wrap (-16) = 18446744073709551600 := by decide
  have h2 : bits .and .u64 16 18446744073709551600 = 16 := by decide
  have h3 : IntKind.u64.wrap (16 * 285870213051353865) = 4573923408821661840 := by decide
  go_enter Tryd.func74, Tryd.ntmps74
  go_wp2_with fail
  go_ret
  exact ⟨rfl, rfl⟩
theorem tz_16 (w : World) (ht : w.cell? ⟨5, 15, none⟩ = some (.int .u8 4)) :
    Calls Tryd.prog 70 #[.int .u64 16] w fun e w' => e = .returned (.int .i64 4) ∧ w = w' := by
  have H := Lib.hid (tz64_16 w ht)
  clear ht
  go_enter Tryd.func70, Tryd.ntmps70
  go_wp2_with (go_at_call 74; refine H.out.mono ?_; rintro e w' ⟨rfl, rfl⟩)
  go_ret
  exact ⟨rfl, rfl⟩

/-- a digit of base 16 -/
def hexN (d : Nat) : Nat := if d < 10 then 48 + d else 87 + d
def hexL (U : Nat) : Nat → List Nat
  | 0 => []
  | k + 1 => hexN (U / 16 ^ k % 16) :: hexL U k
theorem hexL_length (U k : Nat) : (hexL U k).length = k := by
  induction k with
  | zero => rfl
  | succ k ih => simp [hexL, ih]
theorem hexN_lt (d : Nat) (h : d < 16) : hexN d < 128 := by unfold hexN; split <;> omega
theorem hexL_lt (U k : Nat) : ∀ c ∈ hexL U k, c < 256 := by
  induction k with
  | zero => intro c hc; cases hc
  | succ k ih =>
    intro c hc
    rcases List.mem_cons.1 hc with rfl | hc
    · have := hexN_lt (U / 16 ^ k % 16) (Nat.mod_lt _ (by decide)); omega
    · exact ih c hc
def DIG : ByteArray := ⟨#[48, 49, 50, 51, 52, 53, 54, 55, 56, 57, 97, 98, 99, 100, 101, 102, 103, 104, 105, 106, 107, 108, 109, 110, 111, 112, 113, 114, 115, 116, 117, 118, 119, 120, 121, 122]⟩
theorem idx_dig (r : Nat) (h : r < 16) (W : World) : (Instr.index 9 (.string ⟨#[48, 49, 50, 51, 52, 53, 54, 55, 56, 57, 97, 98, 99, 100, 101, 102, 103, 104, 105, 106, 107, 108, 109, 110, 111, 112, 113, 114, 115, 116, 117, 118, 119, 120, 121, 122]⟩) (.int .u64 (r : Int))).run Tryd.prog W = .ok (.int .u8 ((hexN r : Nat) : Int)) W := by
  have e : r = 0 ∨ r = 1 ∨ r = 2 ∨ r = 3 ∨ r = 4 ∨ r = 5 ∨ r = 6 ∨ r = 7 ∨ r = 8 ∨ r = 9 ∨ r = 10 ∨ r = 11 ∨ r = 12 ∨ r = 13 ∨ r = 14 ∨ r = 15 := by omega
  rcases e with rfl | rfl | rfl | rfl | rfl | rfl | rfl | rfl | rfl | rfl | rfl | rfl | rfl | rfl | rfl | rfl <;> first | rfl | go_simp
theorem and_15 (x : Nat) (hx : x < 18446744073709551616) : bits .and .u64 (x : Int) 15 = ((x % 16 : Nat) : Int) := by
  have h := u64_and_nat x 15 hx (by decide)
  have e : x &&& 15 = x % 16 := Nat.and_two_pow_sub_one_eq_mod x 4
  rw [e] at h
  exact h
/-- the buffer: its last k cells hold the digits -/
def Buf (w : World) (A U k : Nat) : Prop := k ≤ 65 ∧ ∃ cur : Array Value, w.heap[A]? = some (.cells cur 98 (0, 0)) ∧ cur.size = 65 ∧ ∀ j, j < k → cur[65 - k + j]? = some (.int .u8 (((hexL U k).getD j 0 : Nat) : Int))
theorem Buf.cell {w : World} {A U k : Nat} (h : Buf w A U k) (i : Nat) (hi : i < 65) : (∃ v, w.cell? ⟨A, i, none⟩ = some v) ∧ w.frozen? ⟨A, i, none⟩ = false := by
  obtain ⟨_, cur, hh, hs, _⟩ := h
  refine ⟨⟨cur[i], ?_⟩, by simp [World.frozen?, hh]⟩
  simp only [World.cell?, hh]
  simp [hs, hi]
theorem Buf.set {w : World} {A U k : Nat} (h : Buf w A U k) (hk : k < 65) : Buf (w.setCell ⟨A, 65 - (k + 1), none⟩ (.int .u8 ((hexN (U / 16 ^ k % 16) : Nat) : Int))) A U (k + 1) := by
  obtain ⟨_, cur, hh, hs, hc⟩ := h
  refine ⟨by omega, cur.setIfInBounds (65 - (k + 1)) (.int .u8 ((hexN (U / 16 ^ k % 16) : Nat) : Int)), ?_, by rw [Array.size_setIfInBounds]; exact hs, fun j hj => ?_⟩
  · simp only [World.setCell, Array.getElem?_modify, if_pos, hh]
    rfl
  · rw [Array.getElem?_setIfInBounds]
    cases j with
    | zero =>
      rw [if_pos (by omega), if_pos (by omega)]
      rfl
    | succ j =>
      rw [if_neg (by omega)]
      have := hc j (by omega)
      rw [show 65 - k + j = 65 - (k + 1) + (j + 1) by omega] at this
      rw [this]
      rfl
theorem Buf.row {w : World} {A U k : Nat} (h : Buf w A U k) : ∀ j, j < k → w.cell? ⟨A, 65 - k + j, none⟩ = some (.int .u8 (((hexL U k).getD j 0 : Nat) : Int)) := by
  obtain ⟨_, cur, hh, hs, hc⟩ := h
  intro j hj
  simp only [World.cell?, hh]
  exact hc j hj
/-- bytes as a text -/
def tx (l : List Nat) : ByteArray := ⟨(l.map fun c => UInt8.ofNat c).toArray⟩
theorem tx_size (l : List Nat) : (tx l).size = l.length := by
  show (l.map fun c => UInt8.ofNat c).toArray.size = _
  simp
theorem tx_append (l m : List Nat) : tx l ++ tx m = tx (l ++ m) := by
  apply ByteArray.ext
  simp [tx]
theorem Buf.conv {w : World} {A U k : Nat} (h : Buf w A U k) (h0 : 0 < k) (c : Nat) : (convert 22 9 (.slice (some ⟨A, 65 - k, none⟩) k c)).run Tryd.prog w = .ok (.string (tx (hexL U k))) w := by
  have e : tx (hexL U k) = strOfNums ((hexL U k).map fun (n : Nat) => (n : Int)) := by
    unfold tx strOfNums
    rw [List.map_map]
    rfl
  rw [e]
  refine run_convert_bytes_arg w 22 5 Tryd.underlying22 Tryd.underlying5 A (65 - k) k c _ (by rw [List.length_map, hexL_length]) (fun i hi => ?_) 9 Tryd.underlying9
  rw [h.row i hi]
  have e2 : ((hexL U k).map fun (n : Nat) => (n : Int)).getD i 0 = (((hexL U k).getD i 0 : Nat) : Int) := by
    simp only [List.getD, List.getElem?_map]
    cases (hexL U k)[i]? <;> rfl
  rw [e2]
theorem slice_arr (A q : Nat) (hq : q < 65) (W : World) : (Instr.sliceAt 98 (.pointer (some ⟨A, 0, none⟩)) (some (.int .i64 (q : Int))) none none).run Tryd.prog W = .ok (.slice (some ⟨A, q, none⟩) (65 - q) (65 - q)) W := by
  have h1 : ¬ ((65 : Int) < (q : Int)) := by omega
  have h2 : (q : Int) ≤ 65 := by omega
  go_simp
  intro h
  omega
theorem div_pow_succ (U k : Nat) : U / 16 ^ k / 16 = U / 16 ^ (k + 1) := by rw [Nat.div_div_eq_div_mul, Nat.pow_succ]

theorem buf_new (w : World) (U : Nat) : Buf (w.alloc (.cells Tryd.zeroCells98 98)) w.heap.size U 0 := by
  refine ⟨by omega, Tryd.zeroCells98, ?_, by kernel_rfl, fun j hj => by omega⟩
  show (w.heap.push _)[w.heap.size]? = _
  simp
set_option maxRecDepth 100000 in
theorem fmt16 (U : Nat) (hU : U < 18446744073709551616) (w : World) (ht : w.cell? ⟨5, 15, none⟩ = some (.int .u8 4)) :
    Calls Tryd.prog 59 #[.slice none 0 0, .int .u64 (U : Int), .int .i64 16, .bool false, .bool false] w fun e w' => ∃ k, e = .returned (.tuple #[.slice none 0 0, .string (tx (hexL U k))]) ∧ (0 < k ∧ k ≤ 16 ∧ U < 16 ^ k) ∧ Below w.heap.size w w' := by
  have HN := Lib.hid (buf_new w U)
  have HB0 := Lib.hid ((Below.refl w.heap.size w).alloc (Nat.le_refl _) (.cells Tryd.zeroCells98 98))
  have HT : Hid ((w.alloc (.cells Tryd.zeroCells98 98)).cell? ⟨5, 15, none⟩ = some (.int .u8 4)) := Lib.hid ((HB0.out.cell (World.block_lt_of_cell? w _ ht)).trans ht)
  clear ht
  generalize hw1 : (w.alloc (.cells Tryd.zeroCells98 98)) = w1 at *
  go_enter Tryd.func59, Tryd.ntmps59
  go_wp2_with (first
    | (go_at_call 69; refine (pow2_16 _).mono ?_; rintro e w' ⟨rfl, rfl⟩)
    | (go_at_call 70; refine (tz_16 _ HT.out).mono ?_; rintro e w' ⟨rfl, rfl⟩))
  clear hw1
  go_loopw [1, 13] (fun uv iv wr => ∃ k u p : Nat, uv = .int .u64 u ∧ iv = .int .i64 p ∧ p + k = 65 ∧ k ≤ 15 ∧ u < 18446744073709551616 ∧ Hid (u = U / 16 ^ k) ∧ Hid (Buf wr w.heap.size U k) ∧ Below w.heap.size w wr) (fun uv _ _ => (intOf uv).toNat)
  case atStart => exact ⟨0, U, 65, rfl, rfl, rfl, by omega, hU, Lib.hid (by rw [Nat.pow_zero, Nat.div_one]), HN, HB0.out⟩
  case round =>
    clear HN HB0 HT
    obtain ⟨k, u, p, rfl, rfl, hpk, hk, hu, HU, HBF, hb⟩ := hrel
    have HB := Lib.hid hb
    clear hb
    obtain ⟨q, rfl⟩ : ∃ q, p = q + 1 := ⟨p - 1, by omega⟩
    have hqe : 65 - (k + 1) = q := by omega
    have hq0 : (0 : Int) ≤ (q : Int) := by omega
    have hq65 : (q : Int) < 65 := by omega
    have hqn : q < 65 := by omega
    obtain ⟨⟨v, hcell⟩, hfr⟩ := HBF.out.cell q hqn
    have hand := and_15 u hu
    have hr16 : u % 16 < 16 := Nat.mod_lt _ (by decide)
    have hixr := idx_dig (u % 16) hr16
    have HST := Lib.hid (HBF.out.set (by omega))
    have HR : Hid (u % 16 = U / 16 ^ k % 16) := Lib.hid (by rw [HU.out])
    rw [← HR.out, hqe] at HST
    have HDV : Hid (u / 16 = U / 16 ^ (k + 1)) := Lib.hid (by rw [HU.out, div_pow_succ])
    by_cases hg : 16 ≤ u
    · have hgi : (16 : Int) ≤ (u : Int) := by omega
      have hk14 : k ≤ 14 := by
        rcases Nat.lt_or_ge k 15 with h | h
        · omega
        · have e : k = 15 := by omega
          have h1 := HU.out
          rw [e] at h1
          omega
      have hdi : (u : Int) / 16 = ((u / 16 : Nat) : Int) := by omega
      have hul : u / 16 < 18446744073709551616 := by omega
      have HM : Hid (u / 16 < u) := Lib.hid (by omega)
      have HPK : Hid (q + (k + 1) = 65) := Lib.hid (by omega)
      generalize u % 16 = r at *
      generalize u / 16 = u2 at *
      clear hqe hpk
      go_wp2_with fail
      go_roundw
      case rel => exact ⟨k + 1, u2, q, rfl, rfl, HPK.out, by omega, hul, HDV, HST, HB.out.setCell (p := ⟨w.heap.size, q, none⟩) (Nat.le_refl _) _⟩
      case measure => have := HM.out; simp [intOf]; omega
    · have hgi : ¬ ((16 : Int) ≤ (u : Int)) := by omega
      have hum : u % 16 = u := Nat.mod_eq_of_lt (by omega)
      have hU2 : Hid (0 < k + 1 ∧ k + 1 ≤ 16 ∧ U < 16 ^ (k + 1)) := Lib.hid ⟨by omega, by omega, by
        have h1 := HDV.out
        have h2 : u / 16 = 0 := by omega
        rw [h2] at h1
        exact (Nat.div_eq_zero_iff_lt (Nat.pow_pos (by decide))).1 h1.symm⟩
      have hcv := HST.out.conv (by omega) (65 - q)
      rw [hqe, show k + 1 = 65 - q by omega] at hcv
      have hs85 := slice_arr w.heap.size q (by omega)
      rw [hum] at hixr hcv HST
      have HKK : Hid (65 - q = k + 1) := Lib.hid (by omega)
      clear hum hand HR HBF HU HDV hqe hpk
      have HBS := Lib.hid (HB.out.setCell (p := ⟨w.heap.size, q, none⟩) (Nat.le_refl _) (.int .u8 ((hexN u : Nat) : Int)))
      go_wp2_with fail
      go_ret2
      exact ⟨k + 1, by rw [← HKK.out]; rfl, hU2.out, HBS.out⟩
end Go.Proofs.YtkplkfhkablelaaDoor.Di
