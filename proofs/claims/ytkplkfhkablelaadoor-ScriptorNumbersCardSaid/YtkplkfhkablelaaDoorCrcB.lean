/-
  The contracts of crc.More and of the document's own sum.
-/
import Derived.Test.YtkplkfhkablelaaDoorRows
import Derived.Test.YtkplkfhkablelaaDoorCrcA
import Derived.WalkKit
import Derived.ProofKit
import Derived.OpenShut
import Derived.Lib.Hide
import Derived.Outline
namespace Go.Proofs.YtkplkfhkablelaaDoor
open Go.ChangeShapes Go.WideShapes Go.ChangeAt Go.RowKit
set_option linter.unusedVariables false

theorem ret_int {k : IntKind} {a b : Int} (h : a = b) : Ending.returned (.int k a) = .returned (.int k b) := by rw [h]

/-- a slice of bytes: its elements -/
def ByteRow (w : World) (a : Option Addr) (len : Nat) (l : List Nat) : Prop :=
  l.length = len ∧ len ≤ maxLen ∧ (∀ c ∈ l, c < 256) ∧ (0 < len → ∃ b o, a = some ⟨b, o, none⟩ ∧ ∀ i, i < len → w.cell? ⟨b, o + i, none⟩ = some (.int .u8 ((l.getD i 0 : Nat) : Int)))

/-- the table of four steps -/
def Tab (w : World) : Prop := ∀ i, i < 16 → w.cell? ⟨0, i, none⟩ = some (.int .u32 ((quarterL.getD i 0 : Nat) : Int))

theorem xor32 (a b : Nat) (ha : a < 4294967296) (hb : b < 4294967296) : ∃ c : Nat, bits .xor .u32 (a : Int) (b : Int) = (c : Int) ∧ c = a ^^^ b ∧ c < 4294967296 :=
  ⟨a ^^^ b, u32_xor_nat a b ha hb, rfl, Nat.xor_lt_two_pow (n := 32) ha hb⟩
theorem and15 (a : Nat) (ha : a < 4294967296) : bits .and .u32 (a : Int) 15 = ((a % 16 : Nat) : Int) := by
  have h := u32_and_nat a 15 ha (by decide)
  rw [nat_mask4] at h
  exact h
theorem quarter_lt : ∀ i : Fin 16, quarterL.getD i.val 0 < 4294967296 := by decide
theorem flip32_eq (a : Nat) (ha : a < 4294967296) : bits .xor .u32 IntKind.u32.max (a : Int) = ((flip32 a : Nat) : Int) := by
  have h := u32_xor_nat 4294967295 a (by decide) ha
  rw [Nat.xor_comm] at h
  exact h

theorem reg_take (r : Nat) (l : List Nat) (k : Nat) (hk : k < l.length) : reg r (l.take (k + 1)) = byteS (reg r (l.take k)) (l.getD k 0) := by
  have e : l.getD k 0 = l[k] := by simp [List.getD, List.getElem?_eq_getElem hk]
  rw [List.take_succ_eq_append_getElem hk, reg_snoc, e]

theorem getD_mem (l : List Nat) (k : Nat) (hk : k < l.length) : l.getD k 0 ∈ l := by
  have e : l.getD k 0 = l[k] := by simp [List.getD, List.getElem?_eq_getElem hk]
  rw [e]; exact List.getElem_mem hk

/-- what a byte does, as the walk spells it -/
theorem byte_walk (R C : Nat) (hR : R < 4294967296) (hC : C < 256) : ∃ X Q1 Y Q2 Z : Nat,
    bits .xor .u32 (R : Int) (C : Int) = (X : Int) ∧ X < 4294967296 ∧ bits .and .u32 (X : Int) 15 = ((X % 16 : Nat) : Int) ∧ X % 16 < 16 ∧ Q1 = quarterL.getD (X % 16) 0 ∧
    bits .xor .u32 ((X : Int) / 16) (Q1 : Int) = (Y : Int) ∧ Y < 4294967296 ∧ bits .and .u32 (Y : Int) 15 = ((Y % 16 : Nat) : Int) ∧ Y % 16 < 16 ∧ Q2 = quarterL.getD (Y % 16) 0 ∧
    bits .xor .u32 ((Y : Int) / 16) (Q2 : Int) = (Z : Int) ∧ Z = byteS R C ∧ Z < 4294967296 := by
  obtain ⟨X, hX, eX, lX⟩ := xor32 R C hR (by omega)
  have q1 := quarter_lt ⟨X % 16, by omega⟩
  obtain ⟨Y, hY, eY, lY⟩ := xor32 (X / 16) (quarterL.getD (X % 16) 0) (by omega) q1
  have q2 := quarter_lt ⟨Y % 16, by omega⟩
  obtain ⟨Z, hZ, eZ, lZ⟩ := xor32 (Y / 16) (quarterL.getD (Y % 16) 0) (by omega) q2
  refine ⟨X, _, Y, _, Z, hX, lX, and15 X lX, by omega, rfl, hY, lY, and15 Y lY, by omega, rfl, hZ, ?_, lZ⟩
  rw [eZ, eY, byte_steps X, eX]
  rfl

set_option maxHeartbeats 400000 in
theorem more_any (s : Nat) (hs : s < 4294967296) (a : Option Addr) (len cap : Nat) (l : List Nat) (w : World) (hl : ByteRow w a len l) (ht : Tab w) :
    Calls Tryd.prog 13 #[.int .u32 s, .slice a len cap] w fun e w' => e = .returned (.int .u32 (more s l : Nat)) ∧ w = w' := by
  obtain ⟨h1, h2, h3, h4⟩ := hl
  have hf := flip32_eq s hs
  have hfl := flip32_lt s hs
  have hmm : len ≤ 9223372036854775807 := by unfold maxLen at h2; omega
  have HL := Lib.hid h1
  have H3 := Lib.hid h3
  have HT := Lib.hid ht
  clear h1 h3 ht h2
  by_cases h0 : len = 0
  · subst h0
    clear h4
    obtain rfl : l = [] := List.eq_nil_of_length_eq_zero HL.out
    go_enter Tryd.func13, Tryd.ntmps13
    go_wp2_with fail
    go_loop [5, 12] (fun r i => i = .int .i64 0 ∧ r = .int .u32 (flip32 s : Nat)) (fun _ i => 0)
    case atStart => exact ⟨rfl, rfl⟩
    case round =>
      obtain ⟨rfl, rfl⟩ := hrel
      have hf2 := flip32_eq (flip32 s) hfl
      go_wp2
      go_ret
      exact ⟨ret_int rfl, rfl⟩
  · obtain ⟨b, o, rfl, hc⟩ := h4 (by omega)
    clear h4
    have HC := Lib.hid hc
    clear hc
    go_enter Tryd.func13, Tryd.ntmps13
    go_wp2_with fail
    go_loop [5, 12] (fun r i => ∃ k R : Nat, k ≤ len ∧ i = .int .i64 k ∧ r = .int .u32 (R : Nat) ∧ R = reg (flip32 s) (l.take k)) (fun _ i => len - (intOf i).toNat)
    case atStart => exact ⟨0, flip32 s, Nat.zero_le _, rfl, rfl, rfl⟩
    case round =>
      obtain ⟨k, R, hk, rfl, rfl, hR⟩ := hrel
      have hRl : R < 4294967296 := by rw [hR]; exact reg_lt _ _ hfl (fun c hc => H3.out c (List.mem_of_mem_take hc))
      have HR := Lib.hid hR
      clear hR
      by_cases hlt : k < len
      · have hcell := HC.out k hlt
        have hcm := H3.out _ (getD_mem l k (by rw [HL.out]; exact hlt))
        obtain ⟨C, hC⟩ : ∃ C, C = l.getD k 0 := ⟨_, rfl⟩
        rw [← hC] at hcell hcm
        obtain ⟨X, Q1, Y, Q2, Z, x1, x2, x3, x4, x5, y1, y2, y3, y4, y5, z1, z2, z3⟩ := byte_walk R C hRl hcm
        have t1 := HT.out (X % 16) x4
        have t2 := HT.out (Y % 16) y4
        rw [← x5] at t1
        rw [← y5] at t2
        have Z2 := Lib.hid z2
        have HCC := Lib.hid hC
        clear x5 y5 z2 hC
        go_wp2_with fail
        go_round
        case rel => exact ⟨k + 1, Z, by omega, by go_num, rfl, by rw [Z2.out, HCC.out, HR.out, reg_take _ _ _ (by rw [HL.out]; exact hlt)]⟩
        case measure => simp [intOf]; omega
      · have hf2 := flip32_eq R hRl
        go_wp2_with fail
        go_ret
        exact ⟨ret_int (by rw [HR.out, List.take_of_length_le (by rw [HL.out]; omega)]; rfl), rfl⟩

end Go.Proofs.YtkplkfhkablelaaDoor
