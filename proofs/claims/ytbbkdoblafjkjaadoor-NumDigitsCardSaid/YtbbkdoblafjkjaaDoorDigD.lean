/-
  The law NumDigits: the contracts of Text, of both.
-/
import Derived.Test.YtbbkdoblafjkjaaDoorDigC
import Derived.Laws.BytesArg
import Derived.Lib.ItoaLen
namespace Go.Proofs.YtbbkdoblafjkjaaDoor
open Go.ChangeShapes Go.WideShapes Go.ChangeAt Go.RowKit
set_option linter.unusedVariables false

def lenOf : Value → Nat
  | .string b => b.size
  | _ => 0
def mz (u s : Value) : Nat := 2 * (intOf u).toNat + (1 - lenOf s)
theorem conv_one (w : World) (c : Nat) (hc : c < 256) :
    (convert 43 9 (.slice (some ⟨w.heap.size, 0, none⟩) 1 1)).run Tryd.prog (w.alloc (.cells #[.int .u8 (c : Int)] 5)) = .ok (.string ⟨[UInt8.ofNat c].toArray⟩) (w.alloc (.cells #[.int .u8 (c : Int)] 5)) := by
  have e : (⟨[UInt8.ofNat c].toArray⟩ : ByteArray) = strOfNums [(c : Int)] := by
    unfold strOfNums
    rfl
  rw [e]
  refine run_convert_bytes_arg _ 43 5 Tryd.underlying43 Tryd.underlying5 w.heap.size 0 1 1 _ rfl (fun i hi => ?_) 9 Tryd.underlying9
  obtain rfl : i = 0 := by omega
  have h : (w.alloc (.cells #[.int .u8 (c : Int)] 5)).heap[w.heap.size]? = some (.cells #[.int .u8 (c : Int)] 5) := by
    show (w.heap.push _)[w.heap.size]? = _
    simp
  simp only [World.cell?, h]
  simp
theorem cons_text (c : UInt8) (S : List UInt8) : (⟨[c].toArray⟩ : ByteArray) ++ ⟨S.toArray⟩ = ⟨(c :: S).toArray⟩ := by
  apply ByteArray.ext
  simp
theorem text_ne (c : UInt8) (S : List UInt8) : ((⟨(c :: S).toArray⟩ : ByteArray).toList == (⟨#[]⟩ : ByteArray).toList) = false := empty_ne _ (by show 0 < (c :: S).toArray.size; simp)

theorem text_ne2 (c : UInt8) (S : List UInt8) : (⟨(c :: S).toArray⟩ : ByteArray).toList.isEmpty = false := by
  rw [ByteArray.toList_eq]
  simp
theorem rest_len {U u : Nat} {S : List UInt8} (h : Rest U u S) (hU : U < 18446744073709551616) : S.length ≤ 20 := by
  have h20 := Lib.nDigits_le20 U hU
  rw [← Lib.decDigits_length] at h20
  rcases h with ⟨_, _, h⟩ | ⟨_, h⟩
  · rw [h]; exact h20
  · rw [← h, List.length_append] at h20
    omega
set_option maxRecDepth 100000 in
theorem refText_any (n : Int) (w : World) :
    Calls Tryd.prog 9 #[.int .i64 n] w fun e w' => e = .returned (.string ⟨(Lib.itoa (w63 n)).toArray⟩) ∧ Below w.heap.size w w' := by
  obtain ⟨b1, b2⟩ := w63_bd n
  have HW := Lib.hid (refWrap_any n)
  generalize w63 n = m at *
  by_cases hneg : m < 0
  · obtain ⟨U, hU⟩ : ∃ U : Nat, m = -(U : Int) := ⟨m.natAbs, by omega⟩
    have hit : Lib.itoa m = 45 :: Lib.decDigits U := by
      rw [hU]
      unfold Lib.itoa
      rw [if_pos (by omega)]
      have : (-(U : Int)).natAbs = U := by omega
      rw [this]
    rw [hit]
    have hu1 : IntKind.u64.wrap m = 18446744073709551616 - U := by rw [hU]; simp only [IntKind.wrap, IntKind.bits, IntKind.signed]; simp; omega
    have hu2 : IntKind.u64.wrap (-(18446744073709551616 - (U : Int))) = U := by simp only [IntKind.wrap, IntKind.bits, IntKind.signed]; simp; omega
    have hU2 : U ≤ 4611686018427387904 := by omega
    clear hit hU b1 b2
    go_enter Tryd.func9, Tryd.ntmps9
    go_wp2_with (go_at_call 20; refine (HW.out w).mono ?_; rintro e w' ⟨rfl, rfl⟩)
    go_loopw [4, 5] (fun uv sv wr => ∃ (u : Nat) (S : List UInt8), uv = .int .u64 u ∧ sv = .string ⟨S.toArray⟩ ∧ u ≤ 4611686018427387904 ∧ Hid (Rest U u S) ∧ Below w.heap.size w wr) (fun uv sv _ => mz uv sv)
    case atStart => exact ⟨U, [], rfl, rfl, hU2, Lib.hid (rest_start U), Below.refl _ _⟩
    case round =>
      obtain ⟨u, S, rfl, rfl, hu, HR, hb⟩ := hrel
      have HB := Lib.hid hb
      clear hb
      have hSl : S.length ≤ 20 := rest_len HR.out (by omega)
      by_cases hu0 : u = 0
      · subst hu0
        cases S with
        | nil =>
          have hcv : (convert 43 9 (.slice (some ⟨wr.heap.size, 0, none⟩) 1 1)).run Tryd.prog (wr.alloc (.cells #[.int .u8 48] 5)) = .ok (.string ⟨[(48 : UInt8)].toArray⟩) (wr.alloc (.cells #[.int .u8 48] 5)) := conv_one wr 48 (by decide)
          have HR2 := Lib.hid (rest_step HR.out (.inr rfl))
          have hcat := cons_text 48 []
          go_wp2_with fail
          go_roundw
          case rel => exact ⟨0, [48], rfl, rfl, by omega, HR2, HB.out.alloc HB.out.size _⟩
          case measure => decide
        | cons a S =>
          have hne := text_ne a S
          have hne2 := text_ne2 a S
          have hSl2 : S.length ≤ 20 := Nat.le_trans (Nat.le_succ _) hSl
          have HE := Lib.hid (rest_end HR.out (by simp))
          have hcat : (⟨#[45]⟩ : ByteArray) ++ ⟨(a :: S).toArray⟩ = ⟨(45 :: a :: S).toArray⟩ := cons_text 45 (a :: S)
          go_wp2_with fail
          go_ret
          exact ⟨by rw [← HE.out]; rfl, HB.out⟩
      · have hup : 0 < u := by omega
        have hupi : (0 : Int) < (u : Int) := by omega
        have hcv := conv_one wr (48 + u % 10) (by omega)
        have HR2 := Lib.hid (rest_step HR.out (.inl (by omega)))
        have hcat := cons_text (UInt8.ofNat (48 + u % 10)) S
        have hq9 : u / 10 ≤ 4611686018427387904 := by omega
        have HM : Hid (u / 10 < u) := Lib.hid (by omega)
        have hrem : (u : Int) % 10 = ((u % 10 : Nat) : Int) := by omega
        have hquo : (u : Int) / 10 = ((u / 10 : Nat) : Int) := by omega
        have hr9 : u % 10 ≤ 9 := by omega
        have e48 : ((48 + u % 10 : Nat) : Int) = 48 + ((u % 10 : Nat) : Int) := by omega
        rw [e48] at hcv
        clear e48
        generalize u % 10 = r at *
        generalize u / 10 = q at *
        generalize UInt8.ofNat (48 + r) = c at *
        go_wp2_with fail
        go_roundw
        case rel => exact ⟨q, c :: S, rfl, rfl, hq9, HR2, HB.out.alloc HB.out.size _⟩
        case measure =>
          have h1 := HM.out
          have h2 : 1 ≤ lenOf (.string ⟨(c :: S).toArray⟩) := by simp [lenOf]; exact Nat.succ_le_succ (Nat.zero_le _)
          simp only [mz, intOf]
          omega

  · obtain ⟨U, hU⟩ : ∃ U : Nat, m = (U : Int) := ⟨m.toNat, by omega⟩
    have hit : Lib.itoa m = Lib.decDigits U := by
      rw [hU]
      unfold Lib.itoa
      rw [if_neg (by omega)]
      have : ((U : Int)).toNat = U := by omega
      rw [this]
    rw [hit]
    have hu1 : IntKind.u64.wrap m = U := by rw [hU]; simp only [IntKind.wrap, IntKind.bits, IntKind.signed]; simp; omega
    have hU2 : U ≤ 4611686018427387904 := by omega
    clear hit hU b1 b2
    go_enter Tryd.func9, Tryd.ntmps9
    go_wp2_with (go_at_call 20; refine (HW.out w).mono ?_; rintro e w' ⟨rfl, rfl⟩)
    go_loopw [4, 5] (fun uv sv wr => ∃ (u : Nat) (S : List UInt8), uv = .int .u64 u ∧ sv = .string ⟨S.toArray⟩ ∧ u ≤ 4611686018427387904 ∧ Hid (Rest U u S) ∧ Below w.heap.size w wr) (fun uv sv _ => mz uv sv)
    case atStart => exact ⟨U, [], rfl, rfl, hU2, Lib.hid (rest_start U), Below.refl _ _⟩
    case round =>
      obtain ⟨u, S, rfl, rfl, hu, HR, hb⟩ := hrel
      have HB := Lib.hid hb
      clear hb
      have hSl : S.length ≤ 20 := rest_len HR.out (by omega)
      by_cases hu0 : u = 0
      · subst hu0
        cases S with
        | nil =>
          have hcv : (convert 43 9 (.slice (some ⟨wr.heap.size, 0, none⟩) 1 1)).run Tryd.prog (wr.alloc (.cells #[.int .u8 48] 5)) = .ok (.string ⟨[(48 : UInt8)].toArray⟩) (wr.alloc (.cells #[.int .u8 48] 5)) := conv_one wr 48 (by decide)
          have HR2 := Lib.hid (rest_step HR.out (.inr rfl))
          have hcat := cons_text 48 []
          go_wp2_with fail
          go_roundw
          case rel => exact ⟨0, [48], rfl, rfl, by omega, HR2, HB.out.alloc HB.out.size _⟩
          case measure => decide
        | cons a S =>
          have hne := text_ne a S
          have hne2 := text_ne2 a S
          have hSl2 : S.length ≤ 20 := Nat.le_trans (Nat.le_succ _) hSl
          have HE := Lib.hid (rest_end HR.out (by simp))
          go_wp2_with fail
          go_ret
          exact ⟨by rw [← HE.out]; rfl, HB.out⟩
      · have hup : 0 < u := by omega
        have hupi : (0 : Int) < (u : Int) := by omega
        have hcv := conv_one wr (48 + u % 10) (by omega)
        have HR2 := Lib.hid (rest_step HR.out (.inl (by omega)))
        have hcat := cons_text (UInt8.ofNat (48 + u % 10)) S
        have hq9 : u / 10 ≤ 4611686018427387904 := by omega
        have HM : Hid (u / 10 < u) := Lib.hid (by omega)
        have hrem : (u : Int) % 10 = ((u % 10 : Nat) : Int) := by omega
        have hquo : (u : Int) / 10 = ((u / 10 : Nat) : Int) := by omega
        have hr9 : u % 10 ≤ 9 := by omega
        have e48 : ((48 + u % 10 : Nat) : Int) = 48 + ((u % 10 : Nat) : Int) := by omega
        rw [e48] at hcv
        clear e48
        generalize u % 10 = r at *
        generalize u / 10 = q at *
        generalize UInt8.ofNat (48 + r) = c at *
        go_wp2_with fail
        go_roundw
        case rel => exact ⟨q, c :: S, rfl, rfl, hq9, HR2, HB.out.alloc HB.out.size _⟩
        case measure =>
          have h1 := HM.out
          have h2 : 1 ≤ lenOf (.string ⟨(c :: S).toArray⟩) := by simp [lenOf]; exact Nat.succ_le_succ (Nat.zero_le _)
          simp only [mz, intOf]
          omega

def pow10 : String := "internal/strconv.uint64pow10"
theorem below_grow (w : World) (k : Nat) (os : Array Obj) : Below w.heap.size w (Sort.grow (w.drewN k) os) := by
  refine ⟨rfl, rfl, rfl, ?_, fun j hj => ?_⟩
  · show w.heap.size ≤ (w.heap ++ os).size
    simp
  · show (w.heap ++ os)[j]? = w.heap[j]?
    rw [Array.getElem?_append_left hj]
theorem text_any (n : Int) (w : World) (htab : Lib.TabIs Tryd.prog w "internal/strconv.uint64pow10" .u64 Lib.pow10Tab) :
    Calls Tryd.prog 8 #[.int .i64 n] w fun e w' => e = .returned (.string ⟨(Lib.itoa (w63 n)).toArray⟩) ∧ Below w.heap.size w w' := by
  obtain ⟨b1, b2⟩ := w63_bd n
  have HW := Lib.hid (wrap_any n)
  generalize w63 n = m at *
  have HI := Lib.hid (strconv_Itoa m (by omega) (by omega) w htab)
  clear htab
  go_enter Tryd.func8, Tryd.ntmps8
  go_wp2_with (first
    | (go_at_call 10; refine (HW.out _).mono ?_; rintro e w' ⟨rfl, rfl⟩)
    | (go_at_call 19; refine HI.out.mono ?_; rintro e w' ⟨rfl, k, os, rfl⟩))
  go_ret
  exact ⟨rfl, below_grow _ k os⟩
end Go.Proofs.YtbbkdoblafjkjaaDoor
