/-
  lex: the law's own digits.
-/
import Derived.Test.YtghddknhoiaboaaLexV
import Derived.Laws.BytesArg
import Derived.Lib.ItoaLen
namespace Go.Proofs.Ytghddknhoiaboaa
open Go.ChangeShapes Go.WideShapes Go.ChangeAt Go.RowKit
set_option linter.unusedVariables false
set_option maxRecDepth 100000

def lenOf : Value → Nat
  | .string b => b.size
  | _ => 0
def mz (u s : Value) : Nat := 2 * (intOf u).toNat + (1 - lenOf s)
theorem conv_one (w : World) (c : Nat) (hc : c < 256) :
    (convert 46 9 (.slice (some ⟨w.heap.size, 0, none⟩) 1 1)).run Try.prog (w.alloc (.cells #[.int .u8 (c : Int)] 5)) = .ok (.string ⟨[UInt8.ofNat c].toArray⟩) (w.alloc (.cells #[.int .u8 (c : Int)] 5)) := by
  have e : (⟨[UInt8.ofNat c].toArray⟩ : ByteArray) = strOfNums [(c : Int)] := by
    unfold strOfNums
    rfl
  rw [e]
  refine run_convert_bytes_arg _ 46 5 Try.underlying46 Try.underlying5 w.heap.size 0 1 1 _ rfl (fun i hi => ?_) 9 Try.underlying9
  obtain rfl : i = 0 := by omega
  have h : (w.alloc (.cells #[.int .u8 (c : Int)] 5)).heap[w.heap.size]? = some (.cells #[.int .u8 (c : Int)] 5) := by
    show (w.heap.push _)[w.heap.size]? = _
    simp
  simp only [World.cell?, h]
  simp
theorem cons_text (c : UInt8) (S : List UInt8) : (⟨[c].toArray⟩ : ByteArray) ++ ⟨S.toArray⟩ = ⟨(c :: S).toArray⟩ := by
  apply ByteArray.ext
  simp
theorem text_ne (c : UInt8) (S : List UInt8) : ((⟨(c :: S).toArray⟩ : ByteArray).toList == (⟨#[]⟩ : ByteArray).toList) = false := empty_ne _ (by show 0 < (c :: S).toArray.size; simp)
theorem text_ne2 (c : UInt8) (S : List UInt8) : (⟨(c :: S).toArray⟩ : ByteArray).toList.isEmpty = false := by
  rw [ByteArray.toList_eq]
  simp
theorem rest_len {U u : Nat} {S : List UInt8} (h : Rest U u S) (hU : U < 18446744073709551616) : S.length ≤ 20 := by
  have h20 := Lib.nDigits_le20 U hU
  rw [← Lib.decDigits_length] at h20
  rcases h with ⟨_, _, h⟩ | ⟨_, h⟩
  · rw [h]; exact h20
  · rw [← h, List.length_append] at h20
    omega
theorem number_pos (U : Nat) (hU : U ≤ 4611686018427387904) (w : World) :
    Calls Try.prog 16 #[.int .i64 (U : Int)] w fun e w' => e = .returned (.string ⟨(Lib.decDigits U).toArray⟩) ∧ Below w.heap.size w w' := by
  have h1 : ((U : Int) == -4611686018427387904) = false := by
    have : ¬ (U : Int) = -4611686018427387904 := by omega
    simp [this]
  have h2 : ¬ (U : Int) < 0 := by omega
  go_enter Try.func16, Try.ntmps16
  go_wp2_with fail
  go_loopw [0, 3] (fun uv sv wr => ∃ (u : Nat) (S : List UInt8), uv = .int .i64 u ∧ sv = .string ⟨S.toArray⟩ ∧ u ≤ 4611686018427387904 ∧ Hid (Rest U u S) ∧ Below w.heap.size w wr) (fun uv sv _ => mz uv sv)
  case atStart => exact ⟨U, [], rfl, rfl, hU, Lib.hid (rest_start U), Below.refl _ _⟩
  case round =>
    obtain ⟨u, S, rfl, rfl, hu, HR, hb⟩ := hrel
    have HB := Lib.hid hb
    clear hb h1 h2
    have hSl : S.length ≤ 20 := rest_len HR.out (by omega)
    by_cases hu0 : u = 0
    · subst hu0
      cases S with
      | nil =>
        have hcv : (convert 46 9 (.slice (some ⟨wr.heap.size, 0, none⟩) 1 1)).run Try.prog (wr.alloc (.cells #[.int .u8 48] 5)) = .ok (.string ⟨[(48 : UInt8)].toArray⟩) (wr.alloc (.cells #[.int .u8 48] 5)) := conv_one wr 48 (by decide)
        have HR2 := Lib.hid (rest_step HR.out (.inr rfl))
        have hcat := cons_text 48 []
        go_wp2_with fail
        go_roundw
        case rel => exact ⟨0, [48], rfl, rfl, by omega, HR2, HB.out.alloc HB.out.size _⟩
        case measure => decide
      | cons a S =>
        have hne := text_ne a S
        have hne2 := text_ne2 a S
        have hSl2 : S.length ≤ 20 := Nat.le_trans (Nat.le_succ _) hSl
        have HE := Lib.hid (rest_end HR.out (by simp))
        go_wp2_with fail
        go_ret
        exact ⟨by rw [← HE.out]; rfl, HB.out⟩
    · have hup : 0 < u := by omega
      have hupi : (0 : Int) < (u : Int) := by omega
      have hcv := conv_one wr (48 + u % 10) (by omega)
      have HR2 := Lib.hid (rest_step HR.out (.inl (by omega)))
      have hcat := cons_text (UInt8.ofNat (48 + u % 10)) S
      have hq9 : u / 10 ≤ 4611686018427387904 := by omega
      have HM : Hid (u / 10 < u) := Lib.hid (by omega)
      have hrem : (u : Int).tmod 10 = ((u % 10 : Nat) : Int) := by rw [Int.tmod_eq_emod_of_nonneg (by omega)]; omega
      have hquo : (u : Int).tdiv 10 = ((u / 10 : Nat) : Int) := by rw [Int.tdiv_eq_ediv_of_nonneg (by omega)]; omega
      have hr9 : u % 10 ≤ 9 := by omega
      have e48 : ((48 + u % 10 : Nat) : Int) = 48 + ((u % 10 : Nat) : Int) := by omega
      rw [e48] at hcv
      clear e48
      generalize u % 10 = r at *
      generalize u / 10 = q at *
      generalize UInt8.ofNat (48 + r) = c at *
      go_wp2_with fail
      go_roundw
      case rel => exact ⟨q, c :: S, rfl, rfl, hq9, HR2, HB.out.alloc HB.out.size _⟩
      case measure =>
        have h1 := HM.out
        have h2 : 1 ≤ lenOf (.string ⟨(c :: S).toArray⟩) := by simp [lenOf]; exact Nat.succ_le_succ (Nat.zero_le _)
        simp only [mz, intOf]
        omega
theorem itoa_least : Lib.itoa (-4611686018427387904) = [45, 52, 54, 49, 49, 54, 56, 54, 48, 49, 56, 52, 50, 55, 51, 56, 55, 57, 48, 52] := by kernel_rfl
theorem number_any (n : Int) (h1 : -4611686018427387904 ≤ n) (h2 : n ≤ 4611686018427387903) (w : World) :
    Calls Try.prog 16 #[.int .i64 n] w fun e w' => e = .returned (.string ⟨(Lib.itoa n).toArray⟩) ∧ Below w.heap.size w w' := by
  by_cases hl : n = -4611686018427387904
  · subst hl
    rw [itoa_least]
    go_enter Try.func16, Try.ntmps16
    go_wp2_with fail
    go_ret
    exact ⟨rfl, Below.refl _ _⟩
  · by_cases hneg : n < 0
    · obtain ⟨U, rfl⟩ : ∃ U : Nat, n = -(U : Int) := ⟨n.natAbs, by omega⟩
      have hit : Lib.itoa (-(U : Int)) = 45 :: Lib.decDigits U := by
        unfold Lib.itoa
        rw [if_pos (by omega)]
        have : (-(U : Int)).natAbs = U := by omega
        rw [this]
      rw [hit]
      have hb : (-(U : Int) == -4611686018427387904) = false := by simpa using hl
      have hU : U ≤ 4611686018427387904 := by omega
      have hU0 : 0 < (U : Int) := by omega
      have HP := Lib.hid (number_pos U hU w)
      have hcat := cons_text 45 (Lib.decDigits U)
      have hsz : (⟨(Lib.decDigits U).toArray⟩ : ByteArray).size ≤ 20 := by
        have h20 := Lib.nDigits_le20 U (by omega)
        rw [← Lib.decDigits_length] at h20
        exact h20
      generalize Lib.decDigits U = D at *
      have hcat2 : (⟨#[45]⟩ : ByteArray) ++ ⟨D.toArray⟩ = ⟨(45 :: D).toArray⟩ := hcat
      have hsz1 : ¬ (9223372036854775807 : Nat) < (⟨#[45]⟩ : ByteArray).size + (⟨D.toArray⟩ : ByteArray).size := by
        have : (⟨#[45]⟩ : ByteArray).size = 1 := rfl
        omega
      clear hit hl h1 h2 hcat
      go_enter Try.func16, Try.ntmps16
      go_wp2_with fail
      refine HP.out.mono ?_
      rintro e w1 ⟨rfl, hb1⟩
      have HB1 := Lib.hid hb1
      clear hb1
      go_wp2_with fail
      go_ret
      exact ⟨rfl, HB1.out⟩
    · obtain ⟨U, rfl⟩ : ∃ U : Nat, n = (U : Int) := ⟨n.toNat, by omega⟩
      have hit : Lib.itoa (U : Int) = Lib.decDigits U := by
        unfold Lib.itoa
        rw [if_neg (by omega)]
        have : ((U : Int)).toNat = U := by omega
        rw [this]
      rw [hit]
      exact number_pos U (by omega) w
end Go.Proofs.Ytghddknhoiaboaa
