/-
  The law WireOnce.
-/
import Derived.Test.YtlknmnodchfkkaaWireL
import Derived.Test.YtlknmnodchfkkaaWireG
import Derived.Deep.RegionHeldLaw
namespace Go.Proofs.Ytlknmnodchfkkaa
open Go.ChangeShapes Go.WideShapes Go.ChangeAt Go.RowKit
set_option linter.unusedVariables false

def IsRow (k : IntKind) (w : World) (a : Option Addr) (len cap : Nat) (zs : List Int) : Prop :=
  (a = none ∧ len = 0 ∧ cap = 0 ∧ zs = []) ∨
  ∃ x, a = some x ∧ len ≤ cap ∧ cap ≤ maxLen ∧ zs.length = cap ∧ (∀ i, i < zs.length → w.cell? (x.add i) = some (.int k (zs.getD i 0))) ∧ ∀ n ∈ zs, (Lit.int k n).wf = true

theorem row_bytes {w : World} {a : Option Addr} {len cap : Nat} {zs : List Int} (h : IsRow .u8 w a len cap zs) : ∃ l, ByteRow w a len l ∧ len ≤ cap ∧ cap ≤ maxLen := by
  rcases h with ⟨rfl, rfl, rfl, rfl⟩ | ⟨x, rfl, h1, h2, h3, h4, h5⟩
  · exact ⟨[], ByteRow.nil w none, Nat.le_refl _, Nat.zero_le _⟩
  · have hb : ∀ n ∈ zs, 0 ≤ n ∧ n ≤ 255 := fun n hn => by
      have := h5 n hn
      simpa [Lit.wf, IntKind.min, IntKind.max, IntKind.signed, IntKind.bits] using this
    refine ⟨(zs.take len).map Int.toNat, ⟨by rw [List.length_map, List.length_take]; omega, by omega, ?_, ?_⟩, h1, h2⟩
    · intro c hc
      obtain ⟨n, hn, rfl⟩ := List.mem_map.1 hc
      have := hb n (List.mem_of_mem_take hn)
      omega
    · intro h0
      obtain ⟨b, off, spot⟩ := x
      have hc0 := h4 0 (by omega)
      have hspot : spot = none := by simpa [Addr.add] using World.cell?_spot hc0
      subst hspot
      refine ⟨b, off, rfl, fun i hi => ?_⟩
      have hci := h4 i (by omega)
      have e1 : (⟨b, off, none⟩ : Addr).add i = ⟨b, off + i, none⟩ := by simp [Addr.add]
      rw [e1] at hci
      rw [hci]
      have hlt : i < zs.length := by omega
      have hm := hb zs[i] (List.getElem_mem hlt)
      have e2 : zs.getD i 0 = zs[i] := by simp [List.getD, List.getElem?_eq_getElem hlt]
      have e3 : ((zs.take len).map Int.toNat).getD i 0 = zs[i].toNat := by
        simp [List.getD, List.getElem?_map, hi, List.getElem?_eq_getElem hlt]
      rw [e2, e3]
      congr 2
      omega
theorem getD_take (l : List Nat) (k i : Nat) (h : i < k) : (l.take k).getD i 0 = l.getD i 0 := by
  simp [List.getD, h]
theorem ByteRow.take {w : World} {a : Option Addr} {n : Nat} {l : List Nat} (h : ByteRow w a n l) (k : Nat) (hk : k ≤ n) : ByteRow w a k (l.take k) := by
  obtain ⟨h1, h2, h3, h4⟩ := h
  refine ⟨by rw [List.length_take]; omega, by omega, fun c hc => h3 c (List.mem_of_mem_take hc), fun h0 => ?_⟩
  obtain ⟨b, o, rfl, hc⟩ := h4 (by omega)
  exact ⟨b, o, rfl, fun i hi => by rw [getD_take l k i hi]; exact hc i (by omega)⟩
theorem slice_to (a : Option Addr) (m cap k : Nat) (hk : k ≤ cap) (w : World) : (Instr.slice 23 (.slice a m cap) none (some (.int .i64 (k : Int))) none).run Try.prog w = .ok (.slice a k cap) w := by
  rw [run_slice_h w 23 a m cap (by kernel_rfl) .i64 (k : Int) (by omega) (by omega)]
  go_simp
theorem u8_toNat (n : Nat) (h : n < 256) : (UInt8.ofNat n).toNat = n := by simp [UInt8.toNat_ofNat']; omega

theorem row_bytes' {w : World} {a : Option Addr} {len cap : Nat} {zs : List Int} (h : IsRow .u8 w a len cap zs) : ∃ l, Bytes w a len cap l := by
  obtain ⟨l, h1, h2, h3⟩ := row_bytes h
  refine ⟨l, h1, h2, h3, fun hz => ?_⟩
  subst hz
  rcases h with ⟨_, e1, e2, _⟩ | ⟨x, e, _⟩
  · exact ⟨e1, e2⟩
  · cases e

theorem conv_row {w : World} {a : Option Addr} {m : Nat} {l : List Nat} (cap : Nat) (h : ByteRow w a m l) (h0 : 0 < m) :
    (convert 23 9 (.slice a m cap)).run Try.prog w = .ok (.string (bstr l)) w := by
  obtain ⟨h1, h2, h3, h4⟩ := h
  obtain ⟨b, o, rfl, hc⟩ := h4 h0
  have e : bstr l = strOfNums (l.map fun (n : Nat) => (n : Int)) := by
    unfold bstr strOfNums
    rw [List.map_map]
    rfl
  rw [e]
  refine run_convert_bytes_arg w 23 5 Try.underlying23 Try.underlying5 b o m cap _ (by rw [List.length_map]; exact h1) (fun i hi => ?_) 9 Try.underlying9
  rw [hc i hi]
  have e3 : (l.map fun (n : Nat) => (n : Int)).getD i 0 = ((l.getD i 0 : Nat) : Int) := by
    simp [List.getD, List.getElem?_map]
    cases l[i]? <;> rfl
  rw [e3]

theorem InAt.below {w w' : World} {p : Nat} {l : List Nat} {e : Int} (h : InAt w p l e) (hb : Below w.heap.size w w') : InAt w' p l e := by
  obtain ⟨a, len, cap, h1, h2, h3⟩ := h
  have hp : p < w.heap.size := by
    rcases Nat.lt_or_ge p w.heap.size with h | h
    · exact h
    · rw [Array.getElem?_eq_none h] at h1
      cases h1
  exact ⟨a, len, cap, by rw [hb.block p hp]; exact h1, h2.below hb, h3⟩

theorem unz_in (u : Nat) (hu : u < 18446744073709551616) : -9223372036854775808 ≤ unz u ∧ unz u ≤ 9223372036854775807 := by
  unfold unz
  split <;> omega
theorem dec_lt (l : List Nat) (hl : ∀ c ∈ l, c < 256) (h : (dec 0 0 l).2.2 = 0) : (dec 0 0 l).1 < 18446744073709551616 ∧ code (unz (dec 0 0 l).1) = l.take (dec 0 0 l).2.1 ∧ 0 < (dec 0 0 l).2.1 := by
  obtain ⟨v, h1, h2, _, h4, _, h6⟩ := enc_dec 10 0 0 l (dec 0 0 l).1 (dec 0 0 l).2.1 rfl (by omega) hl (Prod.ext rfl (Prod.ext rfl h))
  have e : (dec 0 0 l).1 = v := by rw [h1]; omega
  refine ⟨by rw [e]; exact h2, ?_, h4⟩
  unfold code
  rw [zig_unz, e, h6]
  rfl
theorem readNum_all (l : List Nat) (hl : ∀ c ∈ l, c < 256) : readNum (-9223372036854775808) 9223372036854775807 l 0 = if (dec 0 0 l).2.2 = 0 then (unz (dec 0 0 l).1, l.drop (dec 0 0 l).2.1, (0 : Int)) else (0, l, ((dec 0 0 l).2.2 : Int)) := by
  unfold readNum
  rw [if_neg (by decide)]
  by_cases g : (dec 0 0 l).2.2 = 0
  · have := unz_in _ (dec_lt l hl g).1
    rw [if_neg (by omega), if_neg (by omega), if_pos g]
  · rw [if_pos g, if_neg g]

set_option maxRecDepth 100000 in
theorem once_bad_s (a : Option Addr) (len cap : Nat) (l : List Nat) (hlen : len ≤ 14) (w : World) (hr : Bytes w a len cap l) (hcl : len ≤ cap) (hcm : cap ≤ maxLen) (g : ¬ (dec 0 0 l).2.2 = 0) :
    Calls Try.prog 6 #[.slice a len cap] w fun e w' => e = .returned (.bool true) ∧ Below w.heap.size w w' := by
  have hcut : ∀ W, (Instr.slice 23 (.slice a len cap) none (some (.int .i64 (len : Int))) none).run Try.prog W = .ok (.slice a len cap) W := fun W => slice_to a len cap len (by omega) W
  have hopen := Lib.hid (open_any a len cap l w hr (by omega))
  have hnum : ∀ (W : World) (p : Nat), InAt W p l 0 → Calls Try.prog 15 #[.pointer (some ⟨p, 0, none⟩), .int .i64 (-9223372036854775808), .int .i64 9223372036854775807] W fun e' w' => e' = .returned (.int .i64 0) ∧ InAt w' p l (dec 0 0 l).2.2 ∧ ∀ B, B ≤ p → Below B W w' := by
    intro W p hi
    have h := inNum_any p (-9223372036854775808) 9223372036854775807 l 0 W hi
    rw [readNum_all l hr.1.2.2.1, if_neg g] at h
    exact h
  have HN := Lib.hid hnum
  generalize (dec 0 0 l).2.2 = E at *
  have hEb : ((E : Int) == 0) = false := by rw [beq_eq_false_iff_ne]; omega
  have HG : Hid (¬ E = 0) := g
  clear hnum hr g
  go_enter Try.func6, Try.ntmps6
  go_wp2_with (first
    | (go_at_call 20; refine hopen.out.mono ?_; rintro e1 w1 ⟨p, rfl, hi, hp, hb⟩; have HI := Lib.hid hi; have HP := Lib.hid hp; have HB := Lib.hid hb; clear hi hp hb)
    | (go_at_call 15; refine (HN.out _ _ HI.out).mono ?_; rintro e2 w2 ⟨rfl, hi, hb⟩; have HI2 := Lib.hid hi; have HB2 := Lib.hid (HB.out.trans (hb _ HP.out)); clear hi hb)
    | (go_at_call 8; refine (wires_any _).mono ?_; rintro e3 w3 ⟨rfl, hb⟩; (try have HI3 := Lib.hid (HI2.out.below hb)); have HB3 := Lib.hid hb; clear hb)
    | (go_at_call 16; refine (err_any _ _ _ _ HI3.out).mono ?_; rintro e4 w4 ⟨rfl, rfl⟩))
  go_ret
  rename_i wa HBa hE
  exact ⟨rfl, below_back HB3 (below_back HBa HB2.out)⟩


set_option maxRecDepth 100000 in
theorem once_bad_l (a : Option Addr) (len cap : Nat) (l : List Nat) (hlen : 14 < len) (w : World) (hr : Bytes w a 14 cap l) (hcl : len ≤ cap) (hcm : cap ≤ maxLen) (g : ¬ (dec 0 0 l).2.2 = 0) :
    Calls Try.prog 6 #[.slice a len cap] w fun e w' => e = .returned (.bool true) ∧ Below w.heap.size w w' := by
  have hcut : ∀ W, (Instr.slice 23 (.slice a len cap) none (some (.int .i64 14)) none).run Try.prog W = .ok (.slice a 14 cap) W := fun W => slice_to a len cap 14 (by omega) W
  have hopen := Lib.hid (open_any a 14 cap l w hr (by omega))
  have hnum : ∀ (W : World) (p : Nat), InAt W p l 0 → Calls Try.prog 15 #[.pointer (some ⟨p, 0, none⟩), .int .i64 (-9223372036854775808), .int .i64 9223372036854775807] W fun e' w' => e' = .returned (.int .i64 0) ∧ InAt w' p l (dec 0 0 l).2.2 ∧ ∀ B, B ≤ p → Below B W w' := by
    intro W p hi
    have h := inNum_any p (-9223372036854775808) 9223372036854775807 l 0 W hi
    rw [readNum_all l hr.1.2.2.1, if_neg g] at h
    exact h
  have HN := Lib.hid hnum
  generalize (dec 0 0 l).2.2 = E at *
  have hEb : ((E : Int) == 0) = false := by rw [beq_eq_false_iff_ne]; omega
  have HG : Hid (¬ E = 0) := g
  clear hnum hr g
  go_enter Try.func6, Try.ntmps6
  go_wp2_with (first
    | (go_at_call 20; refine hopen.out.mono ?_; rintro e1 w1 ⟨p, rfl, hi, hp, hb⟩; have HI := Lib.hid hi; have HP := Lib.hid hp; have HB := Lib.hid hb; clear hi hp hb)
    | (go_at_call 15; refine (HN.out _ _ HI.out).mono ?_; rintro e2 w2 ⟨rfl, hi, hb⟩; have HI2 := Lib.hid hi; have HB2 := Lib.hid (HB.out.trans (hb _ HP.out)); clear hi hb)
    | (go_at_call 8; refine (wires_any _).mono ?_; rintro e3 w3 ⟨rfl, hb⟩; (try have HI3 := Lib.hid (HI2.out.below hb)); have HB3 := Lib.hid hb; clear hb)
    | (go_at_call 16; refine (err_any _ _ _ _ HI3.out).mono ?_; rintro e4 w4 ⟨rfl, rfl⟩))
  go_ret
  rename_i wa HBa hE
  exact ⟨rfl, below_back HB3 (below_back HBa HB2.out)⟩


set_option maxRecDepth 100000 in
set_option maxHeartbeats 2000000 in
theorem once_good_s (a : Option Addr) (len cap : Nat) (l : List Nat) (hlen : len ≤ 14) (w : World) (hr : Bytes w a len cap l) (hcl : len ≤ cap) (hcm : cap ≤ maxLen) (g : (dec 0 0 l).2.2 = 0) :
    Calls Try.prog 6 #[.slice a len cap] w fun e w' => e = .returned (.bool true) ∧ Below w.heap.size w w' := by
  have hcut : ∀ W, (Instr.slice 23 (.slice a len cap) none (some (.int .i64 (len : Int))) none).run Try.prog W = .ok (.slice a len cap) W := fun W => slice_to a len cap len (by omega) W
  have hopen := Lib.hid (open_any a len cap l w hr (by omega))
  obtain ⟨hU, hcode, hS0⟩ := dec_lt l hr.1.2.2.1 g
  have hSm : (dec 0 0 l).2.1 ≤ len := by rw [← hr.1.1]; exact dec_size l hr.1.2.2.1 g
  have hn := unz_in _ hU
  have hnum : ∀ (W : World) (p : Nat), InAt W p l 0 → Calls Try.prog 15 #[.pointer (some ⟨p, 0, none⟩), .int .i64 (-9223372036854775808), .int .i64 9223372036854775807] W fun e' w' => e' = .returned (.int .i64 (unz (dec 0 0 l).1)) ∧ InAt w' p (l.drop (dec 0 0 l).2.1) 0 ∧ ∀ B, B ≤ p → Below B W w' := by
    intro W p hi
    have h := inNum_any p (-9223372036854775808) 9223372036854775807 l 0 W hi
    rw [readNum_all l hr.1.2.2.1, if_pos g] at h
    exact h
  have HN := Lib.hid hnum
  have hrow := hr.1
  clear hnum hr g hU
  generalize unz (dec 0 0 l).1 = N at *
  generalize (dec 0 0 l).2.1 = S at *
  obtain ⟨hn1, hn2⟩ := hn
  have hrt := hrow.take S hSm
  have HSC : Hid (∀ W, Below w.heap.size w W → (convert 23 9 (.slice a S cap)).run Try.prog W = .ok (.string (bstr (l.take S))) W) := fun W hB => conv_row cap (hrt.below hB) hS0
  have hcut2 : ∀ W, (Instr.slice 23 (.slice a len cap) none (some (.int .i64 ((S : Nat) : Int))) none).run Try.prog W = .ok (.slice a S cap) W := fun W => slice_to a len cap S (by omega) W
  have HL : Hid (S = (code N).length) := by rw [hcode, List.length_take, hrow.1]; show S = min S len; omega
  have HC : Hid (code N = l.take S) := hcode
  have hdl : (l.drop S).length = len - S := by rw [List.length_drop, hrow.1]
  have hleft : ∀ (W : World) (p : Nat), InAt W p (l.drop S) 0 → Calls Try.prog 18 #[.pointer (some ⟨p, 0, none⟩)] W fun e' w' => e' = .returned (.int .i64 ((len : Int) - (S : Int))) ∧ W = w' := by
    intro W p hi
    have h := left_any p (l.drop S) 0 W hi
    rw [hdl, Int.natCast_sub hSm] at h
    exact h
  have HLF := Lib.hid hleft
  clear hleft hdl hcode hrow hrt
  go_enter Try.func6, Try.ntmps6
  go_wp2_with (first
    | (go_at_call 20; refine hopen.out.mono ?_; rintro e1 w1 ⟨p, rfl, hi, hp, hb⟩; have HI := Lib.hid hi; have HP := Lib.hid hp; have HB := Lib.hid hb; clear hi hp hb)
    | (go_at_call 15; refine (HN.out _ _ HI.out).mono ?_; rintro e2 w2 ⟨rfl, hi, hb⟩; have HI2 := Lib.hid hi; have HB2 := Lib.hid (HB.out.trans (hb _ HP.out)); clear hi hb)
    | (go_at_call 8; refine (wires_any _).mono ?_; rintro e3 w3 ⟨rfl, hb⟩; have HI3 := Lib.hid (HI2.out.below hb); have HB3 := Lib.hid (Below.step hb HB2.out); clear hb)
    | (go_at_call 16; refine (err_any _ _ _ _ HI3.out).mono ?_; rintro e4 w4 ⟨rfl, rfl⟩)
    | (go_at_call 9; refine (num_any N hn1 hn2 _).mono ?_; rintro e5 w5 ⟨v, rfl, ho, hv, hb⟩; obtain ⟨g5, cap5, rfl⟩ := slice_of_own ho hv HL; have HO := Lib.hid ho; have HI5 := Lib.hid (HI3.out.below hb); have HB5 := Lib.hid (Below.step hb HB3.out); clear ho hv hb))
  have ht : Txt w5 g5 S cap5 (code N) := (by
    obtain ⟨h1, h2⟩ := HO.out
    refine ⟨h1, ?_⟩
    rcases h2 with h2 | ⟨g', cap', cur, hv, hb, r⟩
    · exact .inl h2
    · exact .inr ⟨g', cap', cur, hv, Nat.zero_le _, r⟩)
  have hcA : ∀ W, Below w5.heap.size w5 W → (convert 23 9 (.slice (some ⟨g5, 0, none⟩) S cap5)).run Try.prog W = .ok (.string (bstr (l.take S))) W := fun W hB => by
    have h := (ht.later hB).conv
    rw [HC.out] at h
    exact h
  have hcB : ∀ W, Below w5.heap.size w5 W → (convert 23 9 (.slice a S cap)).run Try.prog W = .ok (.string (bstr (l.take S))) W := fun W hB => HSC.out W (Below.step hB HB5.out)
  have HLF2 : Hid (∀ W, Below w5.heap.size w5 W → Calls Try.prog 18 #[.pointer (some ⟨p, 0, none⟩)] W fun e' w' => e' = .returned (.int .i64 ((len : Int) - (S : Int))) ∧ W = w') := fun W hB => HLF.out W p (HI5.out.below hB)
  have hsub : ((len : Int) - ((len : Int) - (S : Int))) = (S : Int) := by omega
  have hwr : IntKind.i64.wrap (S : Int) = (S : Int) := by rw [IntKind.wrap_i64]; unfold maxLen at hcm; omega
  have HB6 : Hid (∀ W, Below w5.heap.size w5 W → Below w.heap.size w W) := fun W hB => Below.step hB HB5.out
  have b0 := Below.refl w5.heap.size w5
  clear ht hcut HO HI5 HI3 HB3 HB2 HI2 HI HP HB HLF HN hopen HSC HL HC
  go_region_held_law (fun w' => Below w5.heap.size w5 w') (with_reducible first | assumption | exact Below.drew (by assumption)) (first
    | (go_at_call 18; with_reducible refine (HLF2.out _ (by assumption)).mono ?_; rintro e1 w6 ⟨rfl, rfl⟩))
  go_wp2
  go_ret
  exact ⟨rfl, HB6.out _ (by assumption)⟩

set_option maxRecDepth 100000 in
set_option maxHeartbeats 2000000 in
theorem once_good_l (a : Option Addr) (len cap : Nat) (l : List Nat) (hlen : 14 < len) (w : World) (hr : Bytes w a 14 cap l) (hcl : len ≤ cap) (hcm : cap ≤ maxLen) (g : (dec 0 0 l).2.2 = 0) :
    Calls Try.prog 6 #[.slice a len cap] w fun e w' => e = .returned (.bool true) ∧ Below w.heap.size w w' := by
  have hcut : ∀ W, (Instr.slice 23 (.slice a len cap) none (some (.int .i64 14)) none).run Try.prog W = .ok (.slice a 14 cap) W := fun W => slice_to a len cap 14 (by omega) W
  have hopen := Lib.hid (open_any a 14 cap l w hr (by omega))
  obtain ⟨hU, hcode, hS0⟩ := dec_lt l hr.1.2.2.1 g
  have hSm : (dec 0 0 l).2.1 ≤ 14 := by rw [← hr.1.1]; exact dec_size l hr.1.2.2.1 g
  have hn := unz_in _ hU
  have hnum : ∀ (W : World) (p : Nat), InAt W p l 0 → Calls Try.prog 15 #[.pointer (some ⟨p, 0, none⟩), .int .i64 (-9223372036854775808), .int .i64 9223372036854775807] W fun e' w' => e' = .returned (.int .i64 (unz (dec 0 0 l).1)) ∧ InAt w' p (l.drop (dec 0 0 l).2.1) 0 ∧ ∀ B, B ≤ p → Below B W w' := by
    intro W p hi
    have h := inNum_any p (-9223372036854775808) 9223372036854775807 l 0 W hi
    rw [readNum_all l hr.1.2.2.1, if_pos g] at h
    exact h
  have HN := Lib.hid hnum
  have hrow := hr.1
  clear hnum hr g hU
  generalize unz (dec 0 0 l).1 = N at *
  generalize (dec 0 0 l).2.1 = S at *
  obtain ⟨hn1, hn2⟩ := hn
  have hrt := hrow.take S hSm
  have HSC : Hid (∀ W, Below w.heap.size w W → (convert 23 9 (.slice a S cap)).run Try.prog W = .ok (.string (bstr (l.take S))) W) := fun W hB => conv_row cap (hrt.below hB) hS0
  have hcut2 : ∀ W, (Instr.slice 23 (.slice a 14 cap) none (some (.int .i64 ((S : Nat) : Int))) none).run Try.prog W = .ok (.slice a S cap) W := fun W => slice_to a 14 cap S (by omega) W
  have HL : Hid (S = (code N).length) := by rw [hcode, List.length_take, hrow.1]; show S = min S 14; omega
  have HC : Hid (code N = l.take S) := hcode
  have hdl : (l.drop S).length = 14 - S := by rw [List.length_drop, hrow.1]
  have hleft : ∀ (W : World) (p : Nat), InAt W p (l.drop S) 0 → Calls Try.prog 18 #[.pointer (some ⟨p, 0, none⟩)] W fun e' w' => e' = .returned (.int .i64 (14 - (S : Int))) ∧ W = w' := by
    intro W p hi
    have h := left_any p (l.drop S) 0 W hi
    rw [hdl, Int.natCast_sub hSm] at h
    exact h
  have HLF := Lib.hid hleft
  clear hleft hdl hcode hrow hrt
  go_enter Try.func6, Try.ntmps6
  go_wp2_with (first
    | (go_at_call 20; refine hopen.out.mono ?_; rintro e1 w1 ⟨p, rfl, hi, hp, hb⟩; have HI := Lib.hid hi; have HP := Lib.hid hp; have HB := Lib.hid hb; clear hi hp hb)
    | (go_at_call 15; refine (HN.out _ _ HI.out).mono ?_; rintro e2 w2 ⟨rfl, hi, hb⟩; have HI2 := Lib.hid hi; have HB2 := Lib.hid (HB.out.trans (hb _ HP.out)); clear hi hb)
    | (go_at_call 8; refine (wires_any _).mono ?_; rintro e3 w3 ⟨rfl, hb⟩; have HI3 := Lib.hid (HI2.out.below hb); have HB3 := Lib.hid (Below.step hb HB2.out); clear hb)
    | (go_at_call 16; refine (err_any _ _ _ _ HI3.out).mono ?_; rintro e4 w4 ⟨rfl, rfl⟩)
    | (go_at_call 9; refine (num_any N hn1 hn2 _).mono ?_; rintro e5 w5 ⟨v, rfl, ho, hv, hb⟩; obtain ⟨g5, cap5, rfl⟩ := slice_of_own ho hv HL; have HO := Lib.hid ho; have HI5 := Lib.hid (HI3.out.below hb); have HB5 := Lib.hid (Below.step hb HB3.out); clear ho hv hb))
  have ht : Txt w5 g5 S cap5 (code N) := (by
    obtain ⟨h1, h2⟩ := HO.out
    refine ⟨h1, ?_⟩
    rcases h2 with h2 | ⟨g', cap', cur, hv, hb, r⟩
    · exact .inl h2
    · exact .inr ⟨g', cap', cur, hv, Nat.zero_le _, r⟩)
  have hcA : ∀ W, Below w5.heap.size w5 W → (convert 23 9 (.slice (some ⟨g5, 0, none⟩) S cap5)).run Try.prog W = .ok (.string (bstr (l.take S))) W := fun W hB => by
    have h := (ht.later hB).conv
    rw [HC.out] at h
    exact h
  have hcB : ∀ W, Below w5.heap.size w5 W → (convert 23 9 (.slice a S cap)).run Try.prog W = .ok (.string (bstr (l.take S))) W := fun W hB => HSC.out W (Below.step hB HB5.out)
  have HLF2 : Hid (∀ W, Below w5.heap.size w5 W → Calls Try.prog 18 #[.pointer (some ⟨p, 0, none⟩)] W fun e' w' => e' = .returned (.int .i64 (14 - (S : Int))) ∧ W = w') := fun W hB => HLF.out W p (HI5.out.below hB)
  have hsub : (14 - (14 - (S : Int))) = (S : Int) := by omega
  have hwr : IntKind.i64.wrap (S : Int) = (S : Int) := by rw [IntKind.wrap_i64]; unfold maxLen at hcm; omega
  have HB6 : Hid (∀ W, Below w5.heap.size w5 W → Below w.heap.size w W) := fun W hB => Below.step hB HB5.out
  have b0 := Below.refl w5.heap.size w5
  clear ht hcut HO HI5 HI3 HB3 HB2 HI2 HI HP HB HLF HN hopen HSC HL HC
  go_region_held_law (fun w' => Below w5.heap.size w5 w') (with_reducible first | assumption | exact Below.drew (by assumption)) (first
    | (go_at_call 18; with_reducible refine (HLF2.out _ (by assumption)).mono ?_; rintro e1 w6 ⟨rfl, rfl⟩))
  go_wp2
  go_ret
  exact ⟨rfl, HB6.out _ (by assumption)⟩

theorem wireOnce_law (a : Option Addr) {len cap : Nat} (zs : List Int) (w : World) (w0 : IsRow .u8 w a len cap zs) :
    Calls Try.prog 6 #[.slice a len cap] w fun e w' => e = .returned (.bool true) ∧ Below w.heap.size w w' := by
  obtain ⟨l, hb⟩ := row_bytes' w0
  have h2 := hb.2.1
  have h3 := hb.2.2.1
  by_cases hlen : len ≤ 14
  · by_cases g : (dec 0 0 l).2.2 = 0
    · exact once_good_s a len cap l hlen w hb h2 h3 g
    · exact once_bad_s a len cap l hlen w hb h2 h3 g
  · have hb2 : Bytes w a 14 cap (l.take 14) := ⟨hb.1.take 14 (by omega), by omega, h3, fun hz => by have := hb.2.2.2 hz; omega⟩
    by_cases g : (dec 0 0 (l.take 14)).2.2 = 0
    · exact once_good_l a len cap (l.take 14) (by omega) w hb2 h2 h3 g
    · exact once_bad_l a len cap (l.take 14) (by omega) w hb2 h2 h3 g

end Go.Proofs.Ytlknmnodchfkkaa
