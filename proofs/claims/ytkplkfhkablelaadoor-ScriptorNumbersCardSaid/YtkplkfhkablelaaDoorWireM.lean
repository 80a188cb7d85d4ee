/-
  The law WireOnce.
-/
import Derived.Test.YtkplkfhkablelaaDoorWireL
import Derived.Test.YtkplkfhkablelaaDoorWireD
import Derived.Deep.RegionHeldLaw
namespace Go.Proofs.YtkplkfhkablelaaDoor.Wr
set_option maxRecDepth 100000
open Go.ChangeShapes Go.WideShapes Go.ChangeAt Go.RowKit
set_option linter.unusedVariables false

def IsRow (k : IntKind) (w : World) (a : Option Addr) (len cap : Nat) (zs : List Int) : Prop :=
  (a = none ∧ len = 0 ∧ cap = 0 ∧ zs = []) ∨
  ∃ x, a = some x ∧ len ≤ cap ∧ cap ≤ maxLen ∧ zs.length = cap ∧ (∀ i, i < zs.length → w.cell? (x.add i) = some (.int k (zs.getD i 0))) ∧ ∀ n ∈ zs, (Lit.int k n).wf = true

theorem row_bytes {w : World} {a : Option Addr} {len cap : Nat} {zs : List Int} (h : IsRow .u8 w a len cap zs) : ∃ l, ByteRow w a len l ∧ len ≤ cap ∧ cap ≤ maxLen := by
  rcases h with ⟨rfl, rfl, rfl, rfl⟩ | ⟨x, rfl, h1, h2, h3, h4, h5⟩
  · exact ⟨[], ByteRow.nil w none, Nat.le_refl _, Nat.zero_le _⟩
  · have hb : ∀ n ∈ zs, 0 ≤ n ∧ n ≤ 255 := fun n hn => by
      have := h5 n hn
      simpa [Lit.wf, IntKind.min, IntKind.max, IntKind.signed, IntKind.bits] using this
    refine ⟨(zs.take len).map Int.toNat, ⟨by rw [List.length_map, List.length_take]; omega, by omega, ?_, ?_⟩, h1, h2⟩
    · intro c hc
      obtain ⟨n, hn, rfl⟩ := List.mem_map.1 hc
      have := hb n (List.mem_of_mem_take hn)
      omega
    · intro h0
      obtain ⟨b, off, spot⟩ := x
      have hc0 := h4 0 (by omega)
      have hspot : spot = none := by simpa [Addr.add] using World.cell?_spot hc0
      subst hspot
      refine ⟨b, off, rfl, fun i hi => ?_⟩
      have hci := h4 i (by omega)
      have e1 : (⟨b, off, none⟩ : Addr).add i = ⟨b, off + i, none⟩ := by simp [Addr.add]
      rw [e1] at hci
      rw [hci]
      have hlt : i < zs.length := by omega
      have hm := hb zs[i] (List.getElem_mem hlt)
      have e2 : zs.getD i 0 = zs[i] := by simp [List.getD, List.getElem?_eq_getElem hlt]
      have e3 : ((zs.take len).map Int.toNat).getD i 0 = zs[i].toNat := by
        simp [List.getD, List.getElem?_map, hi, List.getElem?_eq_getElem hlt]
      rw [e2, e3]
      congr 2
      omega
theorem getD_take (l : List Nat) (k i : Nat) (h : i < k) : (l.take k).getD i 0 = l.getD i 0 := by
  simp [List.getD, h]
theorem ByteRow.take {w : World} {a : Option Addr} {n : Nat} {l : List Nat} (h : ByteRow w a n l) (k : Nat) (hk : k ≤ n) : ByteRow w a k (l.take k) := by
  obtain ⟨h1, h2, h3, h4⟩ := h
  refine ⟨by rw [List.length_take]; omega, by omega, fun c hc => h3 c (List.mem_of_mem_take hc), fun h0 => ?_⟩
  obtain ⟨b, o, rfl, hc⟩ := h4 (by omega)
  exact ⟨b, o, rfl, fun i hi => by rw [getD_take l k i hi]; exact hc i (by omega)⟩
theorem slice_to (a : Option Addr) (m cap k : Nat) (hk : k ≤ cap) (w : World) : (Instr.slice 22 (.slice a m cap) none (some (.int .i64 (k : Int))) none).run Tryd.prog w = .ok (.slice a k cap) w := by
  rw [run_slice_h w 22 a m cap (by kernel_rfl) .i64 (k : Int) (by omega) (by omega)]
  go_simp
theorem u8_toNat (n : Nat) (h : n < 256) : (UInt8.ofNat n).toNat = n := by simp [UInt8.toNat_ofNat']; omega

theorem row_bytes' {w : World} {a : Option Addr} {len cap : Nat} {zs : List Int} (h : IsRow .u8 w a len cap zs) : ∃ l, Bytes w a len cap l := by
  obtain ⟨l, h1, h2, h3⟩ := row_bytes h
  refine ⟨l, h1, h2, h3, fun hz => ?_⟩
  subst hz
  rcases h with ⟨_, e1, e2, _⟩ | ⟨x, e, _⟩
  · exact ⟨e1, e2⟩
  · cases e

theorem conv_row {w : World} {a : Option Addr} {m : Nat} {l : List Nat} (cap : Nat) (h : ByteRow w a m l) (h0 : 0 < m) :
    (convert 22 9 (.slice a m cap)).run Tryd.prog w = .ok (.string (bstr l)) w := by
  obtain ⟨h1, h2, h3, h4⟩ := h
  obtain ⟨b, o, rfl, hc⟩ := h4 h0
  have e : bstr l = strOfNums (l.map fun (n : Nat) => (n : Int)) := by
    unfold bstr strOfNums
    rw [List.map_map]
    rfl
  rw [e]
  refine run_convert_bytes_arg w 22 5 Tryd.underlying22 Tryd.underlying5 b o m cap _ (by rw [List.length_map]; exact h1) (fun i hi => ?_) 9 Tryd.underlying9
  rw [hc i hi]
  have e3 : (l.map fun (n : Nat) => (n : Int)).getD i 0 = ((l.getD i 0 : Nat) : Int) := by
    simp [List.getD, List.getElem?_map]
    cases l[i]? <;> rfl
  rw [e3]

theorem InAt.below {w w' : World} {p : Nat} {l : List Nat} {e : Int} (h : InAt w p l e) (hb : Below w.heap.size w w') : InAt w' p l e := by
  obtain ⟨a, len, cap, h1, h2, h3⟩ := h
  have hp : p < w.heap.size := by
    rcases Nat.lt_or_ge p w.heap.size with h | h
    · exact h
    · rw [Array.getElem?_eq_none h] at h1
      cases h1
  exact ⟨a, len, cap, by rw [hb.block p hp]; exact h1, h2.below hb, h3⟩

theorem unz_in (u : Nat) (hu : u < 18446744073709551616) : -9223372036854775808 ≤ unz u ∧ unz u ≤ 9223372036854775807 := by
  unfold unz
  split <;> omega
theorem dec_lt (l : List Nat) (hl : ∀ c ∈ l, c < 256) (h : (dec 0 0 l).2.2 = 0) : (dec 0 0 l).1 < 18446744073709551616 ∧ code (unz (dec 0 0 l).1) = l.take (dec 0 0 l).2.1 ∧ 0 < (dec 0 0 l).2.1 := by
  obtain ⟨v, h1, h2, _, h4, _, h6⟩ := enc_dec 10 0 0 l (dec 0 0 l).1 (dec 0 0 l).2.1 rfl (by omega) hl (Prod.ext rfl (Prod.ext rfl h))
  have e : (dec 0 0 l).1 = v := by rw [h1]; omega
  refine ⟨by rw [e]; exact h2, ?_, h4⟩
  unfold code
  rw [zig_unz, e, h6]
  rfl
theorem readNum_all (l : List Nat) (hl : ∀ c ∈ l, c < 256) : readNum (-9223372036854775808) 9223372036854775807 l 0 = if (dec 0 0 l).2.2 = 0 then (unz (dec 0 0 l).1, l.drop (dec 0 0 l).2.1, (0 : Int)) else (0, l, ((dec 0 0 l).2.2 : Int)) := by
  unfold readNum
  rw [if_neg (by decide)]
  by_cases g : (dec 0 0 l).2.2 = 0
  · have := unz_in _ (dec_lt l hl g).1
    rw [if_neg (by omega), if_neg (by omega), if_pos g]
  · rw [if_pos g, if_neg g]

end Go.Proofs.YtkplkfhkablelaaDoor.Wr
