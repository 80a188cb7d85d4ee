/-
  The law NumDigits: the contracts of Text, of both.
-/
import Derived.Test.YtkplkfhkablelaaDoorDigC
import Derived.Laws.BytesArg
import Derived.Lib.ItoaLen
namespace Go.Proofs.YtkplkfhkablelaaDoor.Di
set_option maxRecDepth 100000
open Go.ChangeShapes Go.WideShapes Go.ChangeAt Go.RowKit
set_option linter.unusedVariables false

def lenOf : Value → Nat
  | .string b => b.size
  | _ => 0
def mz (u s : Value) : Nat := 2 * (intOf u).toNat + (1 - lenOf s)
theorem conv_one (w : World) (c : Nat) (hc : c < 256) :
    (convert 22 9 (.slice (some ⟨w.heap.size, 0, none⟩) 1 1)).run Tryd.prog (w.alloc (.cells #[.int .u8 (c : Int)] 5)) = .ok (.string ⟨[UInt8.ofNat c].toArray⟩) (w.alloc (.cells #[.int .u8 (c : Int)] 5)) := by
  have e : (⟨[UInt8.ofNat c].toArray⟩ : ByteArray) = strOfNums [(c : Int)] := by
    unfold strOfNums
    rfl
  rw [e]
  refine run_convert_bytes_arg _ 22 5 Tryd.underlying22 Tryd.underlying5 w.heap.size 0 1 1 _ rfl (fun i hi => ?_) 9 Tryd.underlying9
  obtain rfl : i = 0 := by omega
  have h : (w.alloc (.cells #[.int .u8 (c : Int)] 5)).heap[w.heap.size]? = some (.cells #[.int .u8 (c : Int)] 5) := by
    show (w.heap.push _)[w.heap.size]? = _
    simp
  simp only [World.cell?, h]
  simp
theorem cons_text (c : UInt8) (S : List UInt8) : (⟨[c].toArray⟩ : ByteArray) ++ ⟨S.toArray⟩ = ⟨(c :: S).toArray⟩ := by
  apply ByteArray.ext
  simp
theorem text_ne (c : UInt8) (S : List UInt8) : ((⟨(c :: S).toArray⟩ : ByteArray).toList == (⟨#[]⟩ : ByteArray).toList) = false := empty_ne _ (by show 0 < (c :: S).toArray.size; simp)

theorem text_ne2 (c : UInt8) (S : List UInt8) : (⟨(c :: S).toArray⟩ : ByteArray).toList.isEmpty = false := by
  rw [ByteArray.toList_eq]
  simp
theorem rest_len {U u : Nat} {S : List UInt8} (h : Rest U u S) (hU : U < 18446744073709551616) : S.length ≤ 20 := by
  have h20 := Lib.nDigits_le20 U hU
  rw [← Lib.decDigits_length] at h20
  rcases h with ⟨_, _, h⟩ | ⟨_, h⟩
  · rw [h]; exact h20
  · rw [← h, List.length_append] at h20
    omega
def pow10 : String := "internal/strconv.uint64pow10"
theorem below_grow (w : World) (k : Nat) (os : Array Obj) : Below w.heap.size w (Sort.grow (w.drewN k) os) := by
  refine ⟨rfl, rfl, rfl, ?_, fun j hj => ?_⟩
  · show w.heap.size ≤ (w.heap ++ os).size
    simp
  · show (w.heap ++ os)[j]? = w.heap[j]?
    rw [Array.getElem?_append_left hj]
theorem text_any (n : Int) (w : World) (htab : Lib.TabIs Tryd.prog w "internal/strconv.uint64pow10" .u64 Lib.pow10Tab) :
    Calls Tryd.prog 19 #[.int .i64 n] w fun e w' => e = .returned (.string ⟨(Lib.itoa (w63 n)).toArray⟩) ∧ Below w.heap.size w w' := by
  obtain ⟨b1, b2⟩ := w63_bd n
  have HW := Lib.hid (wrap_any n)
  generalize w63 n = m at *
  have HI := Lib.hid (strconv_Itoa m (by omega) (by omega) w htab)
  clear htab
  go_enter Tryd.func19, Tryd.ntmps19
  go_wp2_with (first
    | (go_at_call 27; refine (HW.out _).mono ?_; rintro e w' ⟨rfl, rfl⟩)
    | (go_at_call 30; refine HI.out.mono ?_; rintro e w' ⟨rfl, k, os, rfl⟩))
  go_ret
  exact ⟨rfl, below_grow _ k os⟩
end Go.Proofs.YtkplkfhkablelaaDoor.Di
