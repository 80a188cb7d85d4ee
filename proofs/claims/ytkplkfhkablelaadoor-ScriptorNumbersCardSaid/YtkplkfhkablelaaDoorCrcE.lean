/-
  The law CrcSums, walked.
-/
import Derived.Test.YtkplkfhkablelaaDoorCrcD
import Derived.Deep.RegionHeld2
namespace Go.Proofs.YtkplkfhkablelaaDoor
open Go.ChangeShapes Go.WideShapes Go.ChangeAt Go.RowKit
set_option linter.unusedVariables false

/-- a slice of integers that came in: nil, or a row of 'cap' cells, the numbers 'zs' -/
def IsRow (k : IntKind) (w : World) (a : Option Addr) (len cap : Nat) (zs : List Int) : Prop :=
  (a = none ∧ len = 0 ∧ cap = 0 ∧ zs = []) ∨
  ∃ x, a = some x ∧ len ≤ cap ∧ cap ≤ maxLen ∧ zs.length = cap ∧ (∀ i, i < zs.length → w.cell? (x.add i) = some (.int k (zs.getD i 0))) ∧ ∀ n ∈ zs, (Lit.int k n).wf = true

theorem row_bytes {w : World} {a : Option Addr} {len cap : Nat} {zs : List Int} (h : IsRow .u8 w a len cap zs) : ∃ l, ByteRow w a len l ∧ len ≤ cap ∧ cap ≤ maxLen := by
  rcases h with ⟨rfl, rfl, rfl, rfl⟩ | ⟨x, rfl, h1, h2, h3, h4, h5⟩
  · exact ⟨[], ByteRow.nil w none, Nat.le_refl _, Nat.zero_le _⟩
  · have hb : ∀ n ∈ zs, 0 ≤ n ∧ n ≤ 255 := fun n hn => by
      have := h5 n hn
      simpa [Lit.wf, IntKind.min, IntKind.max, IntKind.signed, IntKind.bits] using this
    refine ⟨(zs.take len).map Int.toNat, ⟨by rw [List.length_map, List.length_take]; omega, by omega, ?_, ?_⟩, h1, h2⟩
    · intro c hc
      obtain ⟨n, hn, rfl⟩ := List.mem_map.1 hc
      have := hb n (List.mem_of_mem_take hn)
      omega
    · intro h0
      obtain ⟨b, off, spot⟩ := x
      have hc0 := h4 0 (by omega)
      have hspot : spot = none := by simpa [Addr.add] using World.cell?_spot hc0
      subst hspot
      refine ⟨b, off, rfl, fun i hi => ?_⟩
      have hci := h4 i (by omega)
      have e1 : (⟨b, off, none⟩ : Addr).add i = ⟨b, off + i, none⟩ := by simp [Addr.add]
      rw [e1] at hci
      rw [hci]
      have hlt : i < zs.length := by omega
      have hm := hb zs[i] (List.getElem_mem hlt)
      have e2 : zs.getD i 0 = zs[i] := by simp [List.getD, List.getElem?_eq_getElem hlt]
      have e3 : ((zs.take len).map Int.toNat).getD i 0 = zs[i].toNat := by
        simp [List.getD, List.getElem?_map, hi, List.getElem?_eq_getElem hlt]
      rw [e2, e3]
      congr 2
      omega

theorem Below.undrew {w w1 : World} (h : Below w.drew.heap.size w.drew w1) : Below w.heap.size w w1 := ⟨h.os, h.tape, h.output, h.size, h.block⟩
theorem Below.drew' {w : World} : Below w.heap.size w w.drew := (Below.refl _ _).drew
theorem Below.alloc' {w W : World} (h : Below w.heap.size w W) (o : Obj) : Below w.heap.size w (W.alloc o) := h.alloc h.size o
theorem Below.step {w W w1 : World} (k : Below W.heap.size W w1) (h : Below w.heap.size w W) : Below w.heap.size w w1 := h.trans (k.mono h.size)
theorem cell_lt {w : World} {a : Addr} {v : Value} (h : w.cell? a = some v) : a.block < w.heap.size := by
  rcases Nat.lt_or_ge a.block w.heap.size with h' | h'
  · exact h'
  · simp [World.cell?, Array.getElem?_eq_none h'] at h

theorem Tab.below {w w' : World} (h : Tab w) (hb : Below w.heap.size w w') : Tab w' := fun i hi => by
  rw [hb.cell (cell_lt (h i hi))]; exact h i hi
theorem ByteRow.below {w w' : World} {a : Option Addr} {n : Nat} {l : List Nat} (h : ByteRow w a n l) (hb : Below w.heap.size w w') : ByteRow w' a n l := by
  obtain ⟨h1, h2, h3, h4⟩ := h
  refine ⟨h1, h2, h3, fun h0 => ?_⟩
  obtain ⟨b, o, rfl, hc⟩ := h4 h0
  exact ⟨b, o, rfl, fun i hi => by rw [hb.cell (cell_lt (hc i hi))]; exact hc i hi⟩

theorem getD_take (l : List Nat) (k i : Nat) (h : i < k) : (l.take k).getD i 0 = l.getD i 0 := by
  simp [List.getD, h]
theorem getD_drop (l : List Nat) (k i : Nat) : (l.drop k).getD i 0 = l.getD (k + i) 0 := by
  simp [List.getD, List.getElem?_drop]

theorem ByteRow.take {w : World} {a : Option Addr} {n : Nat} {l : List Nat} (h : ByteRow w a n l) (k : Nat) (hk : k ≤ n) : ByteRow w a k (l.take k) := by
  obtain ⟨h1, h2, h3, h4⟩ := h
  refine ⟨by rw [List.length_take]; omega, by omega, fun c hc => h3 c (List.mem_of_mem_take hc), fun h0 => ?_⟩
  obtain ⟨b, o, rfl, hc⟩ := h4 (by omega)
  exact ⟨b, o, rfl, fun i hi => by rw [getD_take l k i hi]; exact hc i (by omega)⟩

def fromA (a : Option Addr) (cap k : Nat) : Option Addr := if cap = k then a else a.map (·.add k)
theorem ByteRow.drop {w : World} {a : Option Addr} {n : Nat} {l : List Nat} (h : ByteRow w a n l) (cap k : Nat) (hk : k ≤ n) (hc : n ≤ cap) : ByteRow w (fromA a cap k) (n - k) (l.drop k) := by
  obtain ⟨h1, h2, h3, h4⟩ := h
  refine ⟨by rw [List.length_drop]; omega, by omega, fun c hc => h3 c (List.mem_of_mem_drop hc), fun h0 => ?_⟩
  obtain ⟨b, o, rfl, hcell⟩ := h4 (by omega)
  refine ⟨b, o + k, ?_, fun i hi => ?_⟩
  · unfold fromA
    rw [if_neg (by omega)]
    simp [Addr.add]
  · rw [getD_drop, Nat.add_assoc]
    exact hcell (k + i) (by omega)

theorem slice_to (a : Option Addr) (m cap k : Nat) (hk : k ≤ cap) (w : World) : (Instr.slice 22 (.slice a m cap) none (some (.int .i64 (k : Int))) none).run Tryd.prog w = .ok (.slice a k cap) w := by
  rw [run_slice_h w 22 a m cap (by kernel_rfl) .i64 (k : Int) (by omega) (by omega)]
  go_simp
theorem slice_from (a : Option Addr) (m cap k : Nat) (hk : k ≤ m) (w : World) : (Instr.slice 22 (.slice a m cap) (some (.int .i64 (k : Int))) none none).run Tryd.prog w = .ok (.slice (fromA a cap k) (m - k) (cap - k)) w := by
  rw [run_slice_l w 22 a m cap (by kernel_rfl) .i64 (k : Int) (by omega) (by omega)]
  go_simp
  rfl

theorem bytes_any (a : Option Addr) (len cap : Nat) (w : World) (hc : len ≤ cap) (hm : cap ≤ maxLen) :
    Calls Tryd.prog 9 #[.slice a len cap] w fun e w' => e = .returned (.slice a (min len 3000) cap) ∧ w = w' := by
  go_enter Tryd.func9, Tryd.ntmps9
  go_wp2_with fail
  · have e : min len 3000 = 3000 := by omega
    go_ret
    exact ⟨by rw [e]; rfl, rfl⟩
  · have e : min len 3000 = len := by omega
    go_ret
    exact ⟨by rw [e]; rfl, rfl⟩

theorem size_alloc (w : World) (X : Obj) : (w.alloc X).heap.size = w.heap.size + 1 := Array.size_push ..
theorem cell_at0 (w : World) (C : Array Value) (e : TypeId) (i : Nat) (v : Value) (h : C[i]? = some v) : (w.alloc (.cells C e)).cell? ⟨w.heap.size, i, none⟩ = some v := cell_new w C e _ _ i v rfl h
theorem cell_at1 (w : World) (X : Obj) (C : Array Value) (e : TypeId) (i : Nat) (v : Value) (h : C[i]? = some v) : ((w.alloc X).alloc (.cells C e)).cell? ⟨w.heap.size + 1, i, none⟩ = some v := cell_new _ C e _ _ i v (size_alloc w X).symm h
theorem cell_at2 (w : World) (X Y : Obj) (C : Array Value) (e : TypeId) (i : Nat) (v : Value) (h : C[i]? = some v) : (((w.alloc X).alloc Y).alloc (.cells C e)).cell? ⟨w.heap.size + 1 + 1, i, none⟩ = some v := cell_new _ C e _ _ i v (by rw [size_alloc, size_alloc]) h
theorem u8_toNat (n : Nat) (h : n < 256) : (UInt8.ofNat n).toNat = n := by simp [UInt8.toNat_ofNat']; omega

/-- a row of bytes as a text -/
theorem str_of_row {w : World} {a : Option Addr} {m : Nat} {l : List Nat} (cap : Nat) (h : ByteRow w a m l) :
    ∃ s : ByteArray, (convert 22 9 (.slice a m cap)).run Tryd.prog w = .ok (.string s) w ∧ nums s = l ∧ s.size = m := by
  obtain ⟨h1, h2, h3, h4⟩ := h
  by_cases h0 : m = 0
  · subst h0
    obtain rfl : l = [] := List.eq_nil_of_length_eq_zero h1
    refine ⟨.empty, ?_, rfl, rfl⟩
    rw [run_convert_bytes_string w 22 9 5 a 0 cap Tryd.underlying22 Tryd.underlying5 Tryd.underlying9]
    cases a with
    | none => rfl
    | some a => exact run_bytesToString w a 0 cap [] rfl
  · obtain ⟨b, o, rfl, hc⟩ := h4 (by omega)
    refine ⟨strOfNums (l.map fun (n : Nat) => (n : Int)), run_convert_bytes_arg w 22 5 Tryd.underlying22 Tryd.underlying5 b o m cap _ (by rw [List.length_map]; exact h1) (fun i hi => ?_) 9 Tryd.underlying9, ?_, ?_⟩
    · rw [hc i hi]
      have e : (l.map fun (n : Nat) => (n : Int)).getD i 0 = ((l.getD i 0 : Nat) : Int) := by
        simp [List.getD, List.getElem?_map]
        cases l[i]? <;> rfl
      rw [e]
    · unfold nums
      rw [strOfNums_data, List.map_map, List.map_map]
      refine Eq.trans (List.map_congr_left (g := id) fun c hc => ?_) (List.map_id l)
      exact u8_toNat c (h3 c hc)
    · rw [strOfNums_size, List.length_map]; exact h1

theorem cut_fact (cut : Int) (m : Nat) (hm : m ≤ 3000) : ∃ K : Nat, wrap64 ((IntKind.u64.wrap cut).tmod ((m : Int) + 1)) = (K : Int) ∧ K ≤ m := by
  have h := IntKind.wrap_u64 cut
  have h0 : 0 ≤ IntKind.u64.wrap cut := by omega
  have e : (IntKind.u64.wrap cut).tmod ((m : Int) + 1) = IntKind.u64.wrap cut % ((m : Int) + 1) := Int.tmod_eq_emod_of_nonneg h0
  have h1 : 0 ≤ IntKind.u64.wrap cut % ((m : Int) + 1) := Int.emod_nonneg _ (by omega)
  have h2 : IntKind.u64.wrap cut % ((m : Int) + 1) < (m : Int) + 1 := Int.emod_lt_of_pos _ (by omega)
  refine ⟨(IntKind.u64.wrap cut % ((m : Int) + 1)).toNat, ?_, by omega⟩
  rw [e, Go.IntWalk.wrap64_in _ (by omega)]
  omega

set_option maxRecDepth 100000 in
set_option maxHeartbeats 400000 in
theorem crcSums_walk (a : Option Addr) (len cap : Nat) (l : List Nat) (cut : Int) (w : World) (hr : ByteRow w a len l) (hc : len ≤ cap) (hm : cap ≤ maxLen) (ht : Tab w) :
    Calls Tryd.prog 3 #[.slice a len cap, .int .i64 cut] w fun e w' => e = .returned (.bool true) ∧ Below w.heap.size w w' := by
  obtain ⟨m, hm1⟩ : ∃ m, m = min len 3000 := ⟨_, rfl⟩
  have hb := bytes_any a len cap w hc hm
  rw [← hm1] at hb
  have hm2 : m ≤ len := by omega
  have hm3 : m ≤ 3000 := by omega
  obtain ⟨K, hK, hK2⟩ := cut_fact cut m hm3
  have hrow := hr.take m hm2
  obtain ⟨t, htl⟩ : ∃ t, t = l.take m := ⟨_, rfl⟩
  rw [← htl] at hrow
  obtain ⟨S, hS, hn, hz⟩ := str_of_row cap hrow
  have hsum := refSum_any S w (by rw [hz]; unfold maxLen; omega)
  rw [hn] at hsum
  have s1 := slice_to a m cap K (by omega)
  have s2 := slice_from a m cap K hK2
  have HB := Lib.hid hb
  have HR := Lib.hid hrow
  have HR1 := Lib.hid (hrow.take K hK2)
  have HR2 := Lib.hid (hrow.drop cap K hK2 (by omega))
  have HT := Lib.hid ht
  have HS := Lib.hid hsum
  have hk1 : sum (t.take K) < 4294967296 := more_lt _ _ (by decide) (HR1.out.2.2.1)
  have C1 : ∀ w1 : World, Below w.heap.size w (w1.alloc (.cells #[.slice a m cap] 22)) → Calls Tryd.prog 12 #[.slice (some ⟨w1.heap.size, 0, none⟩) 1 1] (w1.alloc (.cells #[.slice a m cap] 22)) fun e w' => e = .returned (.int .u32 (sum t : Nat)) ∧ (w1.alloc (.cells #[.slice a m cap] 22)) = w' := fun w1 b =>
    sum_one _ 1 a m cap t _ (cell_at0 _ _ _ _ _ rfl) (HR.out.below b) (HT.out.below b)
  have C2 : ∀ (w1 : World) (X : Obj), Below w.heap.size w ((w1.alloc X).alloc (.cells #[.slice a K cap, .slice (fromA a cap K) (m - K) (cap - K)] 22)) → Calls Tryd.prog 12 #[.slice (some ⟨w1.heap.size + 1, 0, none⟩) 2 2] ((w1.alloc X).alloc (.cells #[.slice a K cap, .slice (fromA a cap K) (m - K) (cap - K)] 22)) fun e w' => e = .returned (.int .u32 (sum t : Nat)) ∧ ((w1.alloc X).alloc (.cells #[.slice a K cap, .slice (fromA a cap K) (m - K) (cap - K)] 22)) = w' := fun w1 X b => by
    have h := sum_two _ 2 a K cap (t.take K) (fromA a cap K) (m - K) (cap - K) (t.drop K) _ (cell_at1 w1 X #[.slice a K cap, .slice (fromA a cap K) (m - K) (cap - K)] 22 0 _ rfl) (cell_at1 _ _ _ _ 1 _ rfl) (HR1.out.below b) (HR2.out.below b) (HT.out.below b)
    rw [List.take_append_drop] at h
    exact h
  have C3 : ∀ (w1 : World) (X Y : Obj), Below w.heap.size w (((w1.alloc X).alloc Y).alloc (.cells #[.slice a K cap] 22)) → Calls Tryd.prog 12 #[.slice (some ⟨w1.heap.size + 1 + 1, 0, none⟩) 1 1] (((w1.alloc X).alloc Y).alloc (.cells #[.slice a K cap] 22)) fun e w' => e = .returned (.int .u32 (sum (t.take K) : Nat)) ∧ (((w1.alloc X).alloc Y).alloc (.cells #[.slice a K cap] 22)) = w' := fun w1 X Y b =>
    sum_one _ 1 a K cap (t.take K) _ (cell_at2 _ _ _ _ _ _ _ rfl) (HR1.out.below b) (HT.out.below b)
  have C4 : ∀ (W : World), Below w.heap.size w W → Calls Tryd.prog 13 #[.int .u32 (sum (t.take K) : Nat), .slice (fromA a cap K) (m - K) (cap - K)] W fun e w' => e = .returned (.int .u32 (sum t : Nat)) ∧ W = w' := fun W b => by
    have h := more_any (sum (t.take K)) hk1 _ _ (cap - K) _ W (HR2.out.below b) (HT.out.below b)
    unfold sum at h
    rw [← more_append, List.take_append_drop] at h
    exact h
  have C0 : ∀ (W : World), Below w.heap.size w W → Calls Tryd.prog 11 #[] W fun e w' => e = .returned (.bool true) ∧ Below w.heap.size w w' := fun W b =>
    (sums_any W (HT.out.below b)).mono fun e w1 ⟨h1, h2⟩ => ⟨h1, Below.step h2 b⟩
  have H0 := Lib.hid C0
  have H1 := Lib.hid C1
  have H2 := Lib.hid C2
  have H3 := Lib.hid C3
  have H4 := Lib.hid C4
  clear C0 C1 C2 C3 C4
  clear hb hm1 hrow hsum hn hz ht hr htl hk1
  go_enter Tryd.func3, Tryd.ntmps3
  go_wp2_with (first | (go_at_call 9; refine HB.out.mono ?_; rintro e w' ⟨rfl, rfl⟩) | (go_at_call 10; refine HS.out.mono ?_; rintro e w' ⟨rfl, rfl⟩))
  go_region_held2 (fun w' => Below w.heap.size w w') (with_reducible first | assumption | exact Below.alloc' (by assumption) _ | exact Below.drew') (first | (go_at_call 11; with_reducible refine (H0.out _ (by assumption)).mono ?_; rintro e w1 ⟨rfl, b1⟩) | (go_at_call 12; (first | with_reducible refine (H1.out _ (by assumption)).mono ?_ | with_reducible refine (H2.out _ _ (by assumption)).mono ?_ | with_reducible refine (H3.out _ _ _ (by assumption)).mono ?_); rintro e w2 ⟨rfl, rfl⟩) | (go_at_call 13; with_reducible refine (H4.out _ (by assumption)).mono ?_; rintro e w2 ⟨rfl, rfl⟩))
  go_wp2
  go_ret
  exact ⟨rfl, (by assumption)⟩

theorem crcSums_law {w : World} (a : Option Addr) (len cap : Nat) (zs : List Int) (w0 : IsRow .u8 w a len cap zs) (cut : Int) (w1 : (Lit.int .i64 cut).wf = true) (ht : Tab w) :
    Calls Tryd.prog 3 #[.slice a len cap, .int .i64 cut] w fun e w' => e = .returned (.bool true) ∧ Below w.heap.size w w' := by
  obtain ⟨l, hr, h1, h2⟩ := row_bytes w0
  exact crcSums_walk a len cap l cut w hr h1 h2 ht

end Go.Proofs.YtkplkfhkablelaaDoor
