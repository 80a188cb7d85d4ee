/-
  The law WireBack: the walk.
-/
import Derived.Test.YtkplkfhkablelaaDoorWireS
namespace Go.Proofs.YtkplkfhkablelaaDoor.Wr
set_option maxRecDepth 100000
open Go.ChangeShapes Go.WideShapes Go.ChangeAt Go.RowKit
set_option linter.unusedVariables false

theorem own_src {w : World} {base n : Nat} {v : Value} {l : List Nat} (h : w.ownsRow base 5 1 v n (vals l)) (hv : v ≠ .slice none 0 0) :
    ∃ g len cap, v = .slice (some ⟨g, 0, none⟩) len cap ∧ Hid (len = l.length) ∧ Hid (∀ (j : Nat) (u : Value), (vals l)[j]? = some u → w.cell? ((⟨g, 0, none⟩ : Addr).add j) = some u) := by
  have hl : n = l.length := by have := h.1; rw [vals_length] at this; omega
  have hcells := fun g => @World.ownsRow.cells _ _ _ _ _ _ _ h g
  rcases h.2 with ⟨h2, _⟩ | ⟨g, cap, cur, rfl, r⟩
  · exact absurd h2 hv
  · exact ⟨g, n, cap, rfl, Lib.hid hl, Lib.hid (hcells g rfl)⟩

theorem str_cut (s : ByteArray) (hs : s.size ≤ maxLen) : ∃ S : Nat, S ≤ s.size ∧ (if (200 : Int) < (s.size : Int) then 200 else (s.size : Int)) = (S : Int) ∧
    ∀ W, (Instr.slice 9 (.string s) none (some (.int .i64 (S : Int))) none).run Tryd.prog W = .ok (.string (cut200 s)) W := by
  refine ⟨min s.size 200, by omega, by split <;> omega, fun W => ?_⟩
  unfold cut200
  generalize hS : min s.size 200 = S
  have h1 : (S : Int) ≤ (s.size : Int) := by omega
  have h2 : (0 : Int) ≤ (S : Int) := by omega
  clear hS
  unfold maxLen at hs
  go_simp

theorem bytes_of_own' {w : World} {base n : Nat} {v : Value} {l : List Nat} (h : w.ownsRow base 5 1 v n (vals l)) (hl : ∀ c ∈ l, c < 256) (hn : n = l.length) (hm : n ≤ 7000) :
    ∃ a cap, v = .slice a n cap ∧ Hid (Bytes w a n cap l) ∧ Hid (∀ x, a = some x → base ≤ x.block ∧ x.block < w.heap.size) := by
  subst hn
  obtain ⟨a, cap, h1, h2, h3⟩ := bytes_of_own h hl (by unfold maxLen; omega)
  exact ⟨a, cap, h1, Lib.hid h2, Lib.hid h3⟩
theorem mod_cut (c : Int) (m : Nat) (h : 0 < m) (h7 : m ≤ 7000) : ∃ q : Nat, q < m ∧ wrap64 ((IntKind.u64.wrap c).tmod (m : Int)) = (q : Int) := by
  rw [IntKind.wrap_u64]
  have h1 : 0 ≤ c % 18446744073709551616 := by omega
  generalize c % 18446744073709551616 = x at *
  rw [Int.tmod_eq_emod_of_nonneg h1]
  have h2 : 0 ≤ x % (m : Int) := Int.emod_nonneg _ (by omega)
  have h3 : x % (m : Int) < (m : Int) := Int.emod_lt_of_pos _ (by omega)
  generalize x % (m : Int) = y at *
  refine ⟨y.toNat, by omega, ?_⟩
  unfold wrap64
  omega
theorem Below.drewK {B : Nat} {w w1 : World} (h : Below B w w1) (n : Nat) : Below B w (w1.drewN n) := ⟨h.os, h.tape, h.output, h.size, h.block⟩
theorem InAt.drewK {w : World} {p : Nat} {l : List Nat} {e : Int} (h : InAt w p l e) (n : Nat) : InAt (w.drewN n) p l e := h.below (below_drewN w n)
theorem cut_bytes {w : World} {a : Option Addr} {len cap : Nat} {l : List Nat} (q : Nat) (hq : q < len) (h : Bytes w a len cap l) : Bytes w a q cap (l.take q) :=
  ⟨h.1.take q (by omega), by have := h.2.1; omega, h.2.2.1, fun hz => by have := h.2.2.2 hz; omega⟩
theorem slice_to1 (a : Option Addr) (m cap k : Nat) (hk : k ≤ cap) (w : World) : (Instr.slice 39 (.slice a m cap) none (some (.int .i64 (k : Int))) none).run Tryd.prog w = .ok (.slice a k cap) w := by
  rw [run_slice_h w 39 a m cap (by kernel_rfl) .i64 (k : Int) (by omega) (by omega)]
  go_simp
theorem code_pos (n : Int) : 0 < (code n).length := by
  unfold code
  unfold enc
  split
  · exact Nat.one_pos
  · exact Nat.succ_pos _
theorem cut_len (t : ByteArray) (h : t.size ≤ 200) : (code (t.size : Int) ++ bytesOf t).length ≤ 210 := by
  rw [List.length_append, bytesOf_length]
  have := code_len (t.size : Int)
  omega
theorem below_undrew {w w1 : World} (h : Below w.drew.heap.size w.drew w1) : Below w.heap.size w w1 := ⟨h.os, h.tape, h.output, h.size, h.block⟩

/-- the row of a slice of texts that came in, with its spare room -/
def IsStrs (w : World) (a : Option Addr) (len cap : Nat) (ss : List ByteArray) : Prop :=
  (a = none ∧ len = 0 ∧ cap = 0 ∧ ss = []) ∨
  ∃ x, a = some x ∧ len ≤ cap ∧ cap ≤ maxLen ∧ ss.length = cap ∧ (∀ i, i < ss.length → w.cell? (x.add i) = some (.string (ss.getD i ⟨#[]⟩))) ∧ ∀ s ∈ ss, s.size ≤ maxLen
theorem intRow_of {w : World} {a : Option Addr} {len cap : Nat} {zs : List Int} (h : IsRow .i64 w a len cap zs) (K : Nat) (hK : K ≤ len) : IntRow w a K (zs.take K) ∧ len ≤ cap := by
  rcases h with ⟨rfl, rfl, rfl, rfl⟩ | ⟨x, rfl, h1, h2, h3, h4, h5⟩
  · obtain rfl : K = 0 := by omega
    exact ⟨⟨rfl, Nat.zero_le _, (by intro z hz; cases hz), (by intro h; omega)⟩, Nat.le_refl _⟩
  · refine ⟨⟨by rw [List.length_take]; omega, by omega, fun z hz => ?_, fun h0 => ?_⟩, h1⟩
    · have := h5 z (List.mem_of_mem_take hz)
      simpa [Lit.wf, IntKind.min, IntKind.max, IntKind.signed, IntKind.bits] using this
    · obtain ⟨b, off, spot⟩ := x
      have hc0 := h4 0 (by omega)
      have hspot : spot = none := by simpa [Addr.add] using World.cell?_spot hc0
      subst hspot
      refine ⟨b, off, rfl, fun i hi => ?_⟩
      have hci := h4 i (by omega)
      have e1 : (⟨b, off, none⟩ : Addr).add i = ⟨b, off + i, none⟩ := by simp [Addr.add]
      rw [e1] at hci
      rw [hci]
      simp [List.getD, hi]
theorem strRow_of {w : World} {a : Option Addr} {len cap : Nat} {ss : List ByteArray} (h : IsStrs w a len cap ss) (K : Nat) (hK : K ≤ len) : StrRow w a K (ss.take K) ∧ len ≤ cap := by
  rcases h with ⟨rfl, rfl, rfl, rfl⟩ | ⟨x, rfl, h1, h2, h3, h4, h5⟩
  · obtain rfl : K = 0 := by omega
    exact ⟨⟨rfl, Nat.zero_le _, (by intro z hz; cases hz), (by intro h; omega)⟩, Nat.le_refl _⟩
  · refine ⟨⟨by rw [List.length_take]; omega, by omega, fun z hz => h5 z (List.mem_of_mem_take hz), fun h0 => ?_⟩, h1⟩
    obtain ⟨b, off, spot⟩ := x
    have hc0 := h4 0 (by omega)
    have hspot : spot = none := by simpa [Addr.add] using World.cell?_spot hc0
    subst hspot
    refine ⟨b, off, rfl, fun i hi => ?_⟩
    have hci := h4 i (by omega)
    have e1 : (⟨b, off, none⟩ : Addr).add i = ⟨b, off + i, none⟩ := by simp [Addr.add]
    rw [e1] at hci
    rw [hci]
    simp [List.getD, hi]
end Go.Proofs.YtkplkfhkablelaaDoor.Wr
