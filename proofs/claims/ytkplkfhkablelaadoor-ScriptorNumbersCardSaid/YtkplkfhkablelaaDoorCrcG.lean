/-
  A row of bytes of the call's own; the law CrcApart, walked.
-/
import Derived.Test.YtkplkfhkablelaaDoorCrcE
import Derived.Test.YtkplkfhkablelaaDoorCrcF
import Derived.Laws.AppendOwnNone
import Derived.OwnWalk
namespace Go.Proofs.YtkplkfhkablelaaDoor
open Go.ChangeShapes Go.WideShapes Go.ChangeAt Go.RowKit
set_option linter.unusedVariables false

def vals (l : List Nat) : List Value := l.map fun (c : Nat) => Value.int .u8 (c : Int)
theorem vals_length (l : List Nat) : (vals l).length = l.length := List.length_map ..
theorem vals_get (l : List Nat) (i : Nat) (h : i < l.length) : (vals l)[i]? = some (.int .u8 ((l.getD i 0 : Nat) : Int)) := by
  simp [vals, List.getElem?_map, List.getElem?_eq_getElem h, List.getD]
theorem vals_append (l m : List Nat) : vals (l ++ m) = vals l ++ vals m := List.map_append
theorem vals_one (l : List Nat) : ∀ u ∈ vals l, u.oneCell' = true := by
  intro u hu
  obtain ⟨c, _, rfl⟩ := List.mem_map.1 hu
  rfl

/-- block g is the call's own: its first n cells hold the bytes l -/
def Mine (w : World) (base g n cap : Nat) (l : List Nat) : Prop :=
  base ≤ g ∧ n ≤ cap ∧ cap ≤ maxLen ∧ l.length = n ∧ (∀ c ∈ l, c < 256) ∧ ∃ cur : Array Value, w.heap[g]? = some (.cells cur 5 (0, 0)) ∧ cur.size = cap ∧ ∀ i, i < n → cur[i]? = some (.int .u8 ((l.getD i 0 : Nat) : Int))

theorem Mine.of {w : World} {base n : Nat} {v : Value} {l : List Nat} (h : w.ownsRow base 5 1 v n (vals l)) (hv : v ≠ .slice none 0 0) (hl : ∀ c ∈ l, c < 256) : ∃ g cap, v = .slice (some ⟨g, 0, none⟩) n cap ∧ Mine w base g n cap l := by
  obtain ⟨h1, h2⟩ := h
  rcases h2 with ⟨h2, _⟩ | ⟨g, cap, cur, rfl, hb, hh, hn, hm, hs, ht⟩
  · exact absurd h2 hv
  · rw [vals_length] at h1
    refine ⟨g, cap, rfl, hb, hn, hm, by omega, hl, cur, hh, by omega, fun i hi => ?_⟩
    have e := vals_get l i (by omega)
    rw [← ht] at e
    rw [List.getElem?_take] at e
    rw [if_pos (by omega)] at e
    simpa using e

theorem Mine.cell {w : World} {base g n cap : Nat} {l : List Nat} (h : Mine w base g n cap l) (i : Nat) (hi : i < n) : w.cell? ⟨g, i, none⟩ = some (.int .u8 ((l.getD i 0 : Nat) : Int)) := by
  obtain ⟨_, _, _, _, _, cur, hh, _, hc⟩ := h
  simp only [World.cell?, hh]
  exact hc i hi
theorem Mine.frozen {w : World} {base g n cap : Nat} {l : List Nat} (h : Mine w base g n cap l) (i : Nat) : w.frozen? ⟨g, i, none⟩ = false := by
  obtain ⟨_, _, _, _, _, cur, hh, _, _⟩ := h
  simp [World.frozen?, hh]
theorem Mine.lt {w : World} {base g n cap : Nat} {l : List Nat} (h : Mine w base g n cap l) : g < w.heap.size := by
  obtain ⟨_, _, _, _, _, cur, hh, _, _⟩ := h
  exact (Array.getElem?_eq_some_iff.1 hh).1
theorem Mine.row {w : World} {base g n cap : Nat} {l : List Nat} (h : Mine w base g n cap l) : ByteRow w (some ⟨g, 0, none⟩) n l := by
  have h' := h
  obtain ⟨_, h1, h2, h3, h4, _⟩ := h'
  exact ⟨h3, by omega, h4, fun _ => ⟨g, 0, rfl, fun i hi => by rw [Nat.zero_add]; exact h.cell i hi⟩⟩
theorem Mine.below {w w' : World} {base g n cap : Nat} {l : List Nat} (h : Mine w base g n cap l) (hb : Below w.heap.size w w') : Mine w' base g n cap l := by
  have hg := h.lt
  obtain ⟨h0, h1, h2, h3, h4, cur, hh, h5, h6⟩ := h
  exact ⟨h0, h1, h2, h3, h4, cur, by rw [hb.block g hg]; exact hh, h5, h6⟩
theorem Mine.set {w : World} {base g n cap : Nat} {l : List Nat} (h : Mine w base g n cap l) (q x : Nat) (hq : q < n) (hx : x < 256) : Mine (w.setCell ⟨g, q, none⟩ (.int .u8 (x : Int))) base g n cap (l.set q x) := by
  obtain ⟨h0, h1, h2, h3, h4, cur, hh, h5, h6⟩ := h
  refine ⟨h0, h1, h2, by rw [List.length_set]; exact h3, fun c hc => ?_, cur.setIfInBounds q (.int .u8 (x : Int)), ?_, by rw [Array.size_setIfInBounds]; exact h5, fun i hi => ?_⟩
  · rcases List.mem_or_eq_of_mem_set hc with hc | rfl
    · exact h4 c hc
    · exact hx
  · simp only [World.setCell, Array.getElem?_modify, if_pos, hh]
    rfl
  · rw [Array.getElem?_setIfInBounds]
    by_cases e : q = i
    · subst e
      rw [if_pos rfl, if_pos (by omega)]
      simp [List.getD, show q < l.length by omega]
    · rw [if_neg e, h6 i hi]
      simp [List.getD, e]

theorem info5 : (Tryd.prog.info? 5).map (fun i => (i.zero, i.size, i.bytes)) = some (some (.int .u8 0), 1, 1) := by kernel_rfl

theorem addr_add (b o j : Nat) : (⟨b, o, none⟩ : Addr).add j = ⟨b, o + j, none⟩ := by
  unfold Addr.add
  split
  · simp_all
  · rfl
/-- a sum over a row of the call's own -/
theorem sum_mine (W : World) (base g n cap : Nat) (l : List Nat) (hM : Mine W base g n cap l) (ht : Tab W) :
    Calls Tryd.prog 12 #[.slice (some ⟨W.heap.size, 0, none⟩) 1 1] (W.alloc (.cells #[.slice (some ⟨g, 0, none⟩) n cap] 22)) fun e w' => e = .returned (.int .u32 (sum l : Nat)) ∧ (W.alloc (.cells #[.slice (some ⟨g, 0, none⟩) n cap] 22)) = w' :=
  sum_one _ 1 (some ⟨g, 0, none⟩) n cap l _ (cell_at0 _ _ _ _ _ rfl) (hM.row.below ((Below.refl _ _).alloc (Nat.le_refl _) _)) (ht.alloc _)
theorem src_cells {W : World} {b o m : Nat} {t : List Nat} (h : ByteRow W (some ⟨b, o, none⟩) m t) (h0 : 0 < m) : ∀ (j : Nat) (u : Value), (vals t)[j]? = some u → W.cell? ((⟨b, o, none⟩ : Addr).add j) = some u := by
  intro j u hj
  have hjl : j < t.length := by
    rcases Nat.lt_or_ge j t.length with h | h
    · exact h
    · rw [List.getElem?_eq_none (by rw [vals_length]; exact h)] at hj; cases hj
  rw [vals_get t j hjl] at hj
  obtain rfl := Option.some.inj hj
  obtain ⟨b', o', e, hcell⟩ := h.2.2.2 h0
  cases e
  rw [addr_add]
  exact hcell j (by rw [← h.1]; exact hjl)
theorem owns_empty (w : World) : (w.alloc (.cells #[] 5)).ownsRow w.heap.size 5 1 (.slice (some ⟨w.heap.size, 0, none⟩) 0 0) 0 (vals []) := by
  refine ⟨rfl, .inr ⟨w.heap.size, 0, #[], rfl, Nat.le_refl _, ?_, Nat.le_refl _, Nat.zero_le _, rfl, rfl⟩⟩
  show (w.heap.push _)[w.heap.size]? = _
  simp

theorem cut_fact2 (cut : Int) (m : Nat) (h0 : 0 < m) (hm : m ≤ 3000) : ∃ K : Nat, wrap64 ((IntKind.u64.wrap cut).tmod (m : Int)) = (K : Int) ∧ K < m := by
  have h := IntKind.wrap_u64 cut
  have h0 : 0 ≤ IntKind.u64.wrap cut := by omega
  have e : (IntKind.u64.wrap cut).tmod (m : Int) = IntKind.u64.wrap cut % (m : Int) := Int.tmod_eq_emod_of_nonneg h0
  have h1 : 0 ≤ IntKind.u64.wrap cut % (m : Int) := Int.emod_nonneg _ (by omega)
  have h2 : IntKind.u64.wrap cut % (m : Int) < (m : Int) := Int.emod_lt_of_pos _ (by omega)
  refine ⟨(IntKind.u64.wrap cut % (m : Int)).toNat, ?_, by omega⟩
  rw [e, Go.IntWalk.wrap64_in _ (by omega)]
  omega

set_option maxRecDepth 100000 in
set_option maxHeartbeats 1000000 in
theorem crcApart_main (b o len cap m : Nat) (t : List Nat) (at_ : Int) (by_ : Nat) (w : World) (hb : ∀ W : World, Calls Tryd.prog 9 #[.slice (some ⟨b, o, none⟩) len cap] W fun e w' => e = .returned (.slice (some ⟨b, o, none⟩) m cap) ∧ W = w') (hr : ByteRow w (some ⟨b, o, none⟩) m t) (h0 : 0 < m) (hm : m ≤ 3000) (hby : by_ < 4294967296) (hn : ((by_ : Int) == 0) = false) (ht : Tab w) :
    Calls Tryd.prog 7 #[.slice (some ⟨b, o, none⟩) len cap, .int .i64 at_, .int .u32 by_] w fun e w' => e = .returned (.bool true) ∧ Below w.heap.size w w' := by
  obtain ⟨i0, hi, hz0, hz1, hz2⟩ := info_parts info5
  obtain ⟨K, hK, hK2⟩ := cut_fact2 at_ m h0 hm
  have hmne : ((m : Int) == 0) = false := by rw [beq_eq_false_iff_ne]; omega
  have hmz : ¬ (m : Int) = 0 := by omega
  have HB : Hid (∀ W : World, Calls Tryd.prog 9 #[.slice (some ⟨b, o, none⟩) len cap] W fun e w' => e = .returned (.slice (some ⟨b, o, none⟩) m cap) ∧ W = w') := hb
  have HR := Lib.hid hr
  have HT := Lib.hid ht
  clear hb hr ht
  go_enter Tryd.func7, Tryd.ntmps7
  go_wp2_with (first | (go_at_call 9; refine (HB.out _).mono ?_; rintro e w' ⟨rfl, rfl⟩) | (at_builtin; refine wpList_append_own _ rfl _ _ 22 rfl w.heap.size 5 i0 (.int .u8 0) 1 1 Tryd.underlying22 hi hz0 hz1 hz2 rfl (by decide) _ 0 (vals []) rfl (owns_empty w) ⟨b, o, none⟩ m cap (vals t) rfl ?c1 ?c2 ?c3 ?c4 ?c5 ?c6 ?_))
  case c1 => rw [vals_length, HR.out.1]; omega
  case c2 => exact src_cells (HR.out.below ((Below.refl _ _).alloc (Nat.le_refl _) (.cells #[] 5))) h0
  case c3 => exact vals_one t
  case c4 => unfold maxLen; omega
  case c5 => omega
  case c6 => simp
  intro v' w1 hown hgrow hnil
  obtain ⟨g, cap2, rfl, hmine⟩ := Mine.of hown hnil HR.out.2.2.1
  have bel : Below w.heap.size w w1 := ((Below.refl _ _).alloc (Nat.le_refl _) _).grown hgrow (by simp) (fun k hk => by cases hk; exact Nat.le_refl _)
  have HM := Lib.hid hmine
  have HL := Lib.hid bel
  clear hown hgrow hnil hmine bel
  go_wp2_with (go_at_call 11; refine (sums_any _ (HT.out.below HL.out)).mono ?_; rintro e w2 ⟨rfl, b2⟩; have HM2 := Lib.hid (HM.out.below b2); have HL2 := Lib.hid (Below.step b2 HL.out); clear b2)
  refine (sum_mine w2 _ g m cap2 t HM2.out (HT.out.below HL2.out)).mono ?_
  rintro e w3 ⟨rfl, rfl⟩
  obtain ⟨w3, hw3⟩ : ∃ w3, w3 = w2.alloc (.cells #[.slice (some ⟨g, 0, none⟩) m cap2] 22) := ⟨_, rfl⟩
  rw [← hw3]
  have HM3 : Hid (Mine w3 w.heap.size g m cap2 t) := by rw [hw3]; exact HM2.out.below ((Below.refl _ _).alloc (Nat.le_refl _) _)
  have HL3 : Hid (Below w.heap.size w w3) := by rw [hw3]; exact Below.alloc' HL2.out _
  clear hw3 HM HL HM2 HL2
  go_wp2_with fail
  rw [hK]
  clear hK
  go_loopw [9, 10] (fun ch i wr => ∃ (j : Nat) (l : List Nat) (cb : Bool), j ≤ 4 ∧ K + j ≤ m ∧ i = .int .i64 j ∧ ch = .bool cb ∧ cb = !(by_ % 2 ^ (8 * j) == 0) ∧ Mine wr w.heap.size g m cap2 l ∧ Below w.heap.size w wr ∧ reg 4294967295 l = reg 4294967295 t ^^^ SN (8 * (m - K)) (by_ % 2 ^ (8 * j))) (fun _ i _ => 4 - (intOf i).toNat)
  case atStart => exact ⟨0, t, false, Nat.zero_le _, by omega, rfl, rfl, by rw [Nat.mul_zero, Nat.pow_zero, Nat.mod_one]; rfl, HM3.out, HL3.out, by rw [Nat.mul_zero, Nat.pow_zero, Nat.mod_one, SN_zero, Nat.xor_zero]⟩
  case round =>
    obtain ⟨j, l, cb, hj, hkj, rfl, rfl, hcb, hM, hL, hR⟩ := hrel
    have HM := Lib.hid hM
    have HL := Lib.hid hL
    have HG := Lib.hid hR
    have HC := Lib.hid hcb
    clear hM hL hR hcb
    by_cases hgo : j < 4 ∧ K + j < m
    · obtain ⟨h4, hin⟩ := hgo
      obtain ⟨C, hC⟩ : ∃ C, C = l.getD (K + j) 0 := ⟨_, rfl⟩
      obtain ⟨X, hX⟩ : ∃ X, X = by_ / 2 ^ (8 * j) % 256 := ⟨_, rfl⟩
      have hcell := HM.out.cell (K + j) hin
      rw [← hC] at hcell
      have hfr := HM.out.frozen (K + j)
      have hX2 : (by_ : Int) / 2 ^ (8 * j) % 256 = (X : Int) := by rw [hX, Int.natCast_emod, Int.natCast_ediv, Int.natCast_pow]; rfl
      have hCl : C < 256 := by rw [hC]; exact HM.out.2.2.2.2.1 _ (getD_mem l _ (by rw [HM.out.2.2.2.1]; exact hin))
      have hXl : X < 256 := by rw [hX]; exact Nat.mod_lt _ (by decide)
      have hxor := u8_xor_nat C X hCl hXl
      have hnew := HM.out.set (K + j) (C ^^^ X) hin (Nat.xor_lt_two_pow (n := 8) hCl hXl)
      have hL' : Below w.heap.size w (wr.setCell ⟨g, K + j, none⟩ (.int .u8 ((C ^^^ X : Nat) : Int))) := HL.out.setCell HM.out.1 _
      have hreg : reg 4294967295 (l.set (K + j) (C ^^^ X)) = reg 4294967295 t ^^^ SN (8 * (m - K)) (by_ % 2 ^ (8 * (j + 1))) := by
        rw [hC, reg_set l (K + j) X (by rw [HM.out.2.2.2.1]; exact hin), HG.out, HM.out.2.2.2.1, show 8 * (j + 1) = 8 * j + 8 by omega, low_split8, ← hX, SN_xor, ← Nat.xor_assoc, show 8 * (m - (K + j)) = 8 * (m - K) - 8 * j by omega, SN_low _ _ _ (by omega)]
      have hcb' : ∀ cx : Bool, (cx = !(X == 0)) → (cb || cx) = !(by_ % 2 ^ (8 * (j + 1)) == 0) := by
        intro cx hcx
        rw [hcx, HC.out, show 8 * (j + 1) = 8 * j + 8 by omega, Bool.eq_iff_iff]
        have e : by_ % 2 ^ (8 * j + 8) = by_ % 2 ^ (8 * j) + 2 ^ (8 * j) * X := by rw [Nat.pow_add, Nat.mod_mul, hX]
        rw [e]
        have p := Nat.two_pow_pos (8 * j)
        have q : 2 ^ (8 * j) * X = 0 ↔ X = 0 := by rw [Nat.mul_eq_zero]; omega
        simp only [Bool.or_eq_true, Bool.not_eq_true', beq_eq_false_iff_ne, ne_eq]
        omega
      have HN := Lib.hid hnew
      have HN2 := Lib.hid hL'
      have HN3 := Lib.hid hreg
      have HN4 := Lib.hid hcb'
      clear hnew hL' hreg hcb' hC hX
      cases hx0 : ((X : Int) != 0)
      · have hxz : X = 0 := by
          rw [bne_eq_false_iff_eq] at hx0
          omega
        cases cb
        · have HF := Lib.hid (HN4.out false (by rw [hxz]; rfl))
          clear hxz
          go_wp2_with fail
          go_roundw
          case rel => exact ⟨j + 1, _, false, by omega, by omega, by go_num, rfl, HF.out, HN.out, HN2.out, HN3.out⟩
          case measure => simp [intOf]; omega
        · have HF := Lib.hid (HN4.out (!(X == 0)) rfl)
          clear hxz
          go_wp2_with fail
          go_roundw
          case rel => exact ⟨j + 1, _, true, by omega, by omega, by go_num, rfl, HF.out, HN.out, HN2.out, HN3.out⟩
          case measure => simp [intOf]; omega
      · have hxz : ¬ X = 0 := by
          rw [bne_iff_ne] at hx0
          omega
        cases cb
        · have HF := Lib.hid (HN4.out true (by simp [hxz]))
          clear hxz
          go_wp2_with fail
          go_roundw
          case rel => exact ⟨j + 1, _, true, by omega, by omega, by go_num, rfl, HF.out, HN.out, HN2.out, HN3.out⟩
          case measure => simp [intOf]; omega
        · have HF := Lib.hid (HN4.out (!(X == 0)) rfl)
          clear hxz
          go_wp2_with fail
          go_roundw
          case rel => exact ⟨j + 1, _, true, by omega, by omega, by go_num, rfl, HF.out, HN.out, HN2.out, HN3.out⟩
          case measure => simp [intOf]; omega
    · have hfin : (((sum l : Nat) : Int) != ((sum t : Nat) : Int)) = cb := by
        rw [HC.out, Bool.eq_iff_iff, bne_iff_ne, Bool.not_eq_true', beq_eq_false_iff_ne]
        have e1 : sum l = sum t ↔ by_ % 2 ^ (8 * j) = 0 := by
          constructor
          · intro h
            have h2 : reg 4294967295 l = reg 4294967295 t := flip32_inj _ _ h
            rw [HG.out] at h2
            exact SN_eq_zero _ _ (Nat.lt_of_le_of_lt (Nat.mod_le _ _) hby) ((xor_eq_self _ _).1 h2)
          · intro h
            have h2 : reg 4294967295 l = reg 4294967295 t := by rw [HG.out, h, SN_zero, Nat.xor_zero]
            exact congrArg flip32 h2
        have e2 : (((sum l : Nat) : Int) ≠ ((sum t : Nat) : Int)) ↔ ¬ (sum l = sum t) := by omega
        exact e2.trans (not_congr e1)
      have HF := Lib.hid hfin
      have HE : Hid (Tab wr) := HT.out.below HL.out
      clear hfin
      by_cases h4 : j < 4
      · have hin : K + j = m := by omega
        have hin2 : ¬ ((K : Int) + (j : Int) < (m : Int)) := by omega
        clear hin hgo
        go_wp2_with fail
        refine (sum_mine wr _ g m cap2 l HM.out HE.out).mono ?_
        rintro e w4 ⟨rfl, rfl⟩
        have hfin := HF.out
        go_wp2_with fail
        go_ret
        exact ⟨rfl, Below.alloc' HL.out _⟩
      · clear hgo
        go_wp2_with fail
        refine (sum_mine wr _ g m cap2 l HM.out HE.out).mono ?_
        rintro e w4 ⟨rfl, rfl⟩
        have hfin := HF.out
        go_wp2_with fail
        go_ret
        exact ⟨rfl, Below.alloc' HL.out _⟩

set_option maxRecDepth 100000 in
set_option maxHeartbeats 1000000 in
theorem crcApart_by0 (b o len cap m : Nat) (t : List Nat) (at_ : Int) (w : World) (hb : ∀ W : World, Calls Tryd.prog 9 #[.slice (some ⟨b, o, none⟩) len cap] W fun e w' => e = .returned (.slice (some ⟨b, o, none⟩) m cap) ∧ W = w') (hr : ByteRow w (some ⟨b, o, none⟩) m t) (h0 : 0 < m) (hm : m ≤ 3000) (ht : Tab w) :
    Calls Tryd.prog 7 #[.slice (some ⟨b, o, none⟩) len cap, .int .i64 at_, .int .u32 0] w fun e w' => e = .returned (.bool true) ∧ Below w.heap.size w w' := by
  obtain ⟨i0, hi, hz0, hz1, hz2⟩ := info_parts info5
  have hmne : ((m : Int) == 0) = false := by rw [beq_eq_false_iff_ne]; omega
  have HB : Hid (∀ W : World, Calls Tryd.prog 9 #[.slice (some ⟨b, o, none⟩) len cap] W fun e w' => e = .returned (.slice (some ⟨b, o, none⟩) m cap) ∧ W = w') := hb
  have HR := Lib.hid hr
  have HT := Lib.hid ht
  clear hb hr ht
  go_enter Tryd.func7, Tryd.ntmps7
  go_wp2_with (first | (go_at_call 9; refine (HB.out _).mono ?_; rintro e w' ⟨rfl, rfl⟩) | (at_builtin; refine wpList_append_own _ rfl _ _ 22 rfl w.heap.size 5 i0 (.int .u8 0) 1 1 Tryd.underlying22 hi hz0 hz1 hz2 rfl (by decide) _ 0 (vals []) rfl (owns_empty w) ⟨b, o, none⟩ m cap (vals t) rfl ?c1 ?c2 ?c3 ?c4 ?c5 ?c6 ?_))
  case c1 => rw [vals_length, HR.out.1]; omega
  case c2 => exact src_cells (HR.out.below ((Below.refl _ _).alloc (Nat.le_refl _) (.cells #[] 5))) h0
  case c3 => exact vals_one t
  case c4 => unfold maxLen; omega
  case c5 => omega
  case c6 => simp
  intro v' w1 hown hgrow hnil
  obtain ⟨g, cap2, rfl, hmine⟩ := Mine.of hown hnil HR.out.2.2.1
  have bel : Below w.heap.size w w1 := ((Below.refl _ _).alloc (Nat.le_refl _) _).grown hgrow (by simp) (fun k hk => by cases hk; exact Nat.le_refl _)
  clear hown hgrow hnil hmine
  go_wp2_with (go_at_call 11; refine (sums_any _ (HT.out.below (by assumption))).mono ?_; rintro e w2 ⟨rfl, b2⟩; have b3 := Below.step b2 (by assumption); clear b2)
  go_ret
  exact ⟨rfl, by assumption⟩

set_option maxRecDepth 100000 in
set_option maxHeartbeats 1000000 in
theorem crcApart_none (at_ by_ : Int) (w : World) (hb : ∀ W : World, Calls Tryd.prog 9 #[.slice none 0 0] W fun e w' => e = .returned (.slice none 0 0) ∧ W = w') (ht : Tab w) :
    Calls Tryd.prog 7 #[.slice none 0 0, .int .i64 at_, .int .u32 by_] w fun e w' => e = .returned (.bool true) ∧ Below w.heap.size w w' := by
  obtain ⟨i0, hi, hz0, hz1, hz2⟩ := info_parts info5
  have HB : Hid (∀ W : World, Calls Tryd.prog 9 #[.slice none 0 0] W fun e w' => e = .returned (.slice none 0 0) ∧ W = w') := hb
  have HT := Lib.hid ht
  clear hb ht
  have bel : Below w.heap.size w (w.alloc (.cells #[] 5)) := (Below.refl _ _).alloc (Nat.le_refl _) _
  go_enter Tryd.func7, Tryd.ntmps7
  go_wp2_with (first | (go_at_call 9; refine (HB.out _).mono ?_; rintro e w' ⟨rfl, rfl⟩) | (at_builtin; refine wpList_append_own_none rfl _ _ 22 rfl w.heap.size 5 i0 1 Tryd.underlying22 hi _ 0 (vals []) rfl (owns_empty w) rfl ?_) | (go_at_call 11; refine (sums_any _ (HT.out.below (by assumption))).mono ?_; rintro e w2 ⟨rfl, b2⟩; have b3 := Below.step b2 (by assumption); clear b2))
  go_ret
  exact ⟨rfl, by assumption⟩

set_option maxRecDepth 100000 in
set_option maxHeartbeats 1000000 in
theorem crcApart_zero (x : Addr) (cap : Nat) (at_ by_ : Int) (w : World) (hb : ∀ W : World, Calls Tryd.prog 9 #[.slice (some x) 0 cap] W fun e w' => e = .returned (.slice (some x) 0 cap) ∧ W = w') (ht : Tab w) :
    Calls Tryd.prog 7 #[.slice (some x) 0 cap, .int .i64 at_, .int .u32 by_] w fun e w' => e = .returned (.bool true) ∧ Below w.heap.size w w' := by
  obtain ⟨i0, hi, hz0, hz1, hz2⟩ := info_parts info5
  have HB : Hid (∀ W : World, Calls Tryd.prog 9 #[.slice (some x) 0 cap] W fun e w' => e = .returned (.slice (some x) 0 cap) ∧ W = w') := hb
  have HT := Lib.hid ht
  clear hb ht
  go_enter Tryd.func7, Tryd.ntmps7
  go_wp2_with (first | (go_at_call 9; refine (HB.out _).mono ?_; rintro e w' ⟨rfl, rfl⟩) | (at_builtin; refine wpList_append_own _ rfl _ _ 22 rfl w.heap.size 5 i0 (.int .u8 0) 1 1 Tryd.underlying22 hi hz0 hz1 hz2 rfl (by decide) _ 0 (vals []) rfl (owns_empty w) x 0 cap (vals []) rfl ?c1 ?c2 ?c3 ?c4 ?c5 ?c6 ?_))
  case c1 => rfl
  case c2 => intro j u hj; simp [vals] at hj
  case c3 => exact vals_one []
  case c4 => unfold maxLen; omega
  case c5 => omega
  case c6 => simp
  intro v' w1 hown hgrow hnil
  obtain ⟨g, cap2, rfl, hmine⟩ := Mine.of (l := []) hown (by simpa using hnil) (by intro c hc; cases hc)
  have bel : Below w.heap.size w w1 := ((Below.refl _ _).alloc (Nat.le_refl _) _).grown hgrow (by simp) (fun k hk => by cases hk; exact Nat.le_refl _)
  clear hown hgrow hnil hmine
  go_wp2_with (go_at_call 11; refine (sums_any _ (HT.out.below (by assumption))).mono ?_; rintro e w2 ⟨rfl, b2⟩; have b3 := Below.step b2 (by assumption); clear b2)
  go_ret
  exact ⟨rfl, by assumption⟩

theorem u32_wf {a : Int} (h : (Lit.int .u32 a).wf = true) : ∃ n : Nat, a = n ∧ n < 4294967296 := by
  have h' : 0 ≤ a ∧ a ≤ 4294967295 := by simpa [Lit.wf, IntKind.min, IntKind.max, IntKind.signed, IntKind.bits] using h
  exact ⟨a.toNat, by omega, by omega⟩

theorem crcApart_law {w : World} (a : Option Addr) (len cap : Nat) (zs : List Int) (w0 : IsRow .u8 w a len cap zs) (at_ : Int) (w1 : (Lit.int .i64 at_).wf = true) (by_ : Int) (w2 : (Lit.int .u32 by_).wf = true) (ht : Tab w) :
    Calls Tryd.prog 7 #[.slice a len cap, .int .i64 at_, .int .u32 by_] w fun e w' => e = .returned (.bool true) ∧ Below w.heap.size w w' := by
  obtain ⟨l, hr, h1, h2⟩ := row_bytes w0
  obtain ⟨y, rfl, hy⟩ := u32_wf w2
  have hb : ∀ W : World, Calls Tryd.prog 9 #[.slice a len cap] W fun e w' => e = .returned (.slice a (min len 3000) cap) ∧ W = w' := fun W => bytes_any a len cap W h1 h2
  by_cases h0 : len = 0
  · subst h0
    rw [Nat.zero_min] at hb
    rcases w0 with ⟨rfl, _, rfl, _⟩ | ⟨x, rfl, _⟩
    · exact crcApart_none at_ y w hb ht
    · exact crcApart_zero x cap at_ y w hb ht
  · obtain ⟨b, o, rfl, hc⟩ := hr.2.2.2 (by omega)
    have hrow := hr.take (min len 3000) (Nat.min_le_left _ _)
    by_cases hy0 : y = 0
    · subst hy0
      exact crcApart_by0 b o len cap _ _ at_ w hb hrow (by omega) (Nat.min_le_right _ _) ht
    · exact crcApart_main b o len cap _ _ at_ y w hb hrow (by omega) (Nat.min_le_right _ _) hy (by rw [beq_eq_false_iff_ne]; omega) ht

end Go.Proofs.YtkplkfhkablelaaDoor
