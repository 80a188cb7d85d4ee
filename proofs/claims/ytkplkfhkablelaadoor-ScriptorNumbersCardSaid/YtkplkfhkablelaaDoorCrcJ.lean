/-
  The law CrcBursts, walked.
-/
import Derived.Test.YtkplkfhkablelaaDoorCrcI
import Derived.RegionTactic
import Derived.ChangeAlike
import Derived.BigRegion
namespace Go.Proofs.YtkplkfhkablelaaDoor
open Go.ChangeShapes Go.WideShapes Go.ChangeAt Go.RowKit
set_option linter.unusedVariables false

theorem xor_flip (a b : Nat) : a ^^^ b = 4294967295 ↔ b = flip32 a := by
  unfold flip32
  constructor
  · intro h
    rw [← h, ← Nat.xor_assoc, Nat.xor_self, Nat.zero_xor]
  · intro h
    rw [h, ← Nat.xor_assoc, Nat.xor_self, Nat.zero_xor]

theorem reg_four (r a b c d : Nat) : reg r [a, b, c, d] = SN 32 (r ^^^ (a ^^^ 2 ^ 8 * b ^^^ 2 ^ 16 * c ^^^ 2 ^ 24 * d)) := by
  have h1 : reg r [a] = SN 8 (r ^^^ a) := rfl
  have h2 : reg r [a, b] = SN 16 (r ^^^ (a ^^^ 2 ^ 8 * b)) := by
    show SN 8 (SN 8 (r ^^^ a) ^^^ b) = _
    rw [show (16 : Nat) = 8 + 8 from rfl, SN_add, ← Nat.xor_assoc, SN_xor 8 (r ^^^ a), SN_shift]
  have h3 : reg r [a, b, c] = SN 24 (r ^^^ (a ^^^ 2 ^ 8 * b ^^^ 2 ^ 16 * c)) := by
    show SN 8 (reg r [a, b] ^^^ c) = _
    rw [h2, show (24 : Nat) = 16 + 8 from rfl, SN_add, show r ^^^ (a ^^^ 2 ^ 8 * b ^^^ 2 ^ 16 * c) = (r ^^^ (a ^^^ 2 ^ 8 * b)) ^^^ 2 ^ 16 * c by rw [Nat.xor_assoc r], SN_xor 16 (r ^^^ (a ^^^ 2 ^ 8 * b)), SN_shift]
  show SN 8 (reg r [a, b, c] ^^^ d) = _
  rw [h3, show (32 : Nat) = 24 + 8 from rfl, SN_add, show r ^^^ (a ^^^ 2 ^ 8 * b ^^^ 2 ^ 16 * c ^^^ 2 ^ 24 * d) = (r ^^^ (a ^^^ 2 ^ 8 * b ^^^ 2 ^ 16 * c)) ^^^ 2 ^ 24 * d by rw [Nat.xor_assoc r], SN_xor 24 (r ^^^ (a ^^^ 2 ^ 8 * b ^^^ 2 ^ 16 * c)), SN_shift]

theorem or_xor (i x y : Nat) (hx : x % 2 ^ i = 0) (hy : y < 2 ^ i) : x ^^^ y = x + y := by
  rw [← nat_join i x y hx hy]
  apply Nat.eq_of_testBit_eq
  intro k
  rw [Nat.testBit_xor, Nat.testBit_or]
  by_cases g : k < i
  · have h : x.testBit k = false := by
      have e : x = 2 ^ i * (x / 2 ^ i) := by have := Nat.div_add_mod x (2 ^ i); omega
      rw [e, Nat.testBit_two_pow_mul]
      simp [show ¬ i ≤ k by omega]
    rw [h]; simp
  · have h : y.testBit k = false := Nat.testBit_lt_two_pow (Nat.lt_of_lt_of_le hy (Nat.pow_le_pow_right (by decide) (by omega)))
    rw [h]; simp

theorem four_xor (a b c d : Nat) (ha : a < 256) (hb : b < 256) (hc : c < 256) (hd : d < 256) : a ^^^ 2 ^ 8 * b ^^^ 2 ^ 16 * c ^^^ 2 ^ 24 * d = a + 256 * b + 65536 * c + 16777216 * d := by
  rw [Nat.xor_comm a, or_xor 8 (2 ^ 8 * b) a (by omega) (by omega), Nat.xor_comm (2 ^ 8 * b + a), or_xor 16 (2 ^ 16 * c) _ (by omega) (by omega), Nat.xor_comm (2 ^ 16 * c + _), or_xor 24 (2 ^ 24 * d) _ (by omega) (by omega)]
  omega

theorem list_four (l : List Nat) (N : Nat) (h : l.length = N + 4) : l = l.take N ++ [l.getD N 0, l.getD (N + 1) 0, l.getD (N + 2) 0, l.getD (N + 3) 0] := by
  have e : l.drop N = [l.getD N 0, l.getD (N + 1) 0, l.getD (N + 2) 0, l.getD (N + 3) 0] := by
    apply List.ext_getElem
    · rw [List.length_drop, h]; simp
    · intro i h1 h2
      have hi : i < 4 := by simpa using h2
      rw [List.getElem_drop]
      have e2 : ∀ j (hj : j < l.length), l.getD j 0 = l[j] := fun j hj => by simp [List.getD, List.getElem?_eq_getElem hj]
      have hcases : i = 0 ∨ i = 1 ∨ i = 2 ∨ i = 3 := by omega
      rcases hcases with rfl | rfl | rfl | rfl <;> (simp only [List.getElem_cons_zero, List.getElem_cons_succ]; rw [e2 _ (by omega)]; try rfl)
  rw [← e, List.take_append_drop]

def MAGIC : Nat := SN 32 4294967295

theorem valid_iff (l : List Nat) (N : Nat) (h : l.length = N + 4) (hb : ∀ c ∈ l, c < 256) : stored l N = sum (l.take N) ↔ reg 4294967295 l = MAGIC := by
  have hd : ∀ i, i < N + 4 → l.getD i 0 < 256 := fun i hi => hb _ (getD_mem l i (by omega))
  have e : reg 4294967295 l = SN 32 (reg 4294967295 (l.take N) ^^^ stored l N) := by
    conv => lhs; rw [list_four l N h]
    rw [reg_append, reg_four, four_xor _ _ _ _ (hd _ (by omega)) (hd _ (by omega)) (hd _ (by omega)) (hd _ (by omega))]
    rfl
  have hr : reg 4294967295 (l.take N) < 4294967296 := reg_lt _ _ (by decide) (fun c hc => hb c (List.mem_of_mem_take hc))
  have hs : stored l N < 4294967296 := by
    have a0 := hd N (by omega)
    have a1 := hd (N + 1) (by omega)
    have a2 := hd (N + 2) (by omega)
    have a3 := hd (N + 3) (by omega)
    unfold stored
    omega
  rw [e]
  constructor
  · intro g
    unfold MAGIC
    have g' : stored l N = flip32 (reg 4294967295 (l.take N)) := g
    rw [(xor_flip _ _).2 g']
  · intro g
    exact (xor_flip _ _).1 (SN_inj 32 _ _ (Nat.xor_lt_two_pow (n := 32) hr hs) (by decide) g)

theorem stored_four (l : List Nat) (s : Nat) : stored (l ++ four s) l.length = s := by
  have e : ∀ i, (l ++ four s).getD (l.length + i) 0 = (four s).getD i 0 := fun i => by
    simp [List.getD, List.getElem?_append_right]
  unfold stored
  rw [show (l ++ four s).getD l.length 0 = (four s).getD 0 0 from e 0, e 1, e 2, e 3]
  simp [four]
  omega

theorem closed_magic (l : List Nat) (hb : ∀ c ∈ l, c < 256) : reg 4294967295 (l ++ four (sum l)) = MAGIC := by
  have hs : sum l < 4294967296 := more_lt _ _ (by decide) hb
  refine (valid_iff (l ++ four (sum l)) l.length (by rw [List.length_append]; rfl) (fun c hc => ?_)).1 ?_
  · rcases List.mem_append.1 hc with hc | hc
    · exact hb c hc
    · exact four_lt _ hs c hc
  · rw [stored_four, List.take_left]

/-- one bit turned -/
theorem reg_flip (l : List Nat) (q r : Nat) (hq : q < l.length) (hr : r < 8) (s : Nat) : reg s (l.set q (l.getD q 0 ^^^ 2 ^ r)) = reg s l ^^^ SN (8 * l.length - (8 * q + r)) 1 := by
  rw [reg_set l q (2 ^ r) hq s]
  congr 1
  have h := SN_low (8 * (l.length - q)) r 1 (by omega)
  rw [Nat.mul_one] at h
  rw [← h]
  congr 1
  omega

theorem cut_fact3 (cut : Int) (m : Nat) (hm : m ≤ 3000) : ∃ K : Nat, wrap64 ((IntKind.u64.wrap cut).tmod (8 * ((m : Int) + 4))) = (K : Int) ∧ K < 8 * (m + 4) := by
  have h := IntKind.wrap_u64 cut
  have h0 : 0 ≤ IntKind.u64.wrap cut := by omega
  have e : (IntKind.u64.wrap cut).tmod (8 * ((m : Int) + 4)) = IntKind.u64.wrap cut % (8 * ((m : Int) + 4)) := Int.tmod_eq_emod_of_nonneg h0
  have h1 : 0 ≤ IntKind.u64.wrap cut % (8 * ((m : Int) + 4)) := Int.emod_nonneg _ (by omega)
  have h2 : IntKind.u64.wrap cut % (8 * ((m : Int) + 4)) < 8 * ((m : Int) + 4) := Int.emod_lt_of_pos _ (by omega)
  refine ⟨(IntKind.u64.wrap cut % (8 * ((m : Int) + 4))).toNat, ?_, by omega⟩
  rw [e, Go.IntWalk.wrap64_in _ (by omega)]
  omega

set_option maxRecDepth 100000 in
set_option maxHeartbeats 1000000 in
theorem bursts_main (a : Option Addr) (len cap : Nat) (m : Nat) (t : List Nat) (at_ : Int) (B : Nat) (w : World) (hb : ∀ W : World, Calls Tryd.prog 9 #[.slice a len cap] W fun e w' => e = .returned (.slice a m cap) ∧ W = w')
    (hcl : ∀ W : World, Below w.heap.size w W → Calls Tryd.prog 14 #[.slice a m cap] W fun e w' => ∃ g cap2, e = .returned (.slice (some ⟨g, 0, none⟩) (m + 4) cap2) ∧ Mine w' w.heap.size g (m + 4) cap2 (t ++ four (sum t)) ∧ Below w.heap.size w w')
    (hml : t.length = m) (hm : m ≤ 3000) (ht256 : ∀ c ∈ t, c < 256) (hB : B < 4294967296) (hn : ((B : Int) == 0) = false) (ht : Tab w) :
    Calls Tryd.prog 5 #[.slice a len cap, .int .i64 at_, .int .u32 B] w fun e w' => e = .returned (.bool true) ∧ Below w.heap.size w w' := by
  obtain ⟨K, hK, hK2⟩ := cut_fact3 at_ m hm
  have HB : Hid (∀ W : World, Calls Tryd.prog 9 #[.slice a len cap] W fun e w' => e = .returned (.slice a m cap) ∧ W = w') := hb
  have HCL := Lib.hid hcl
  have HT := Lib.hid ht
  have HML := Lib.hid hml
  have H256 := Lib.hid ht256
  clear hb hcl ht hml ht256
  go_enter Tryd.func5, Tryd.ntmps5
  go_wp2_with (first | (go_at_call 9; refine (HB.out _).mono ?_; rintro e w' ⟨rfl, rfl⟩) | (go_at_call 14; refine (HCL.out _ (Below.refl _ _)).mono ?_; rintro e w1 ⟨g, cap2, rfl, hM, hL⟩; have HM := Lib.hid hM; have HL := Lib.hid hL; clear hM hL) | (go_at_call 11; refine (sums_any _ (HT.out.below HL.out)).mono ?_; rintro e w2 ⟨rfl, b2⟩; have HM2 := Lib.hid (HM.out.below b2); have HL2 := Lib.hid (Below.step b2 HL.out); clear b2))
  rw [hK]
  clear hK HM HL
  go_loopw [10, 11] (fun ch i wr => ∃ (j : Nat) (l : List Nat) (cb : Bool), j ≤ 32 ∧ K + j ≤ 8 * (m + 4) ∧ i = .int .i64 j ∧ ch = .bool cb ∧ cb = !(B % 2 ^ j == 0) ∧ Mine wr w.heap.size g (m + 4) cap2 l ∧ Below w.heap.size w wr ∧ reg 4294967295 l = MAGIC ^^^ SN (8 * (m + 4) - K) (B % 2 ^ j)) (fun _ i _ => 32 - (intOf i).toNat)
  case atStart => exact ⟨0, _, false, Nat.zero_le _, by omega, rfl, rfl, by rw [Nat.pow_zero, Nat.mod_one]; rfl, HM2.out, HL2.out, by rw [Nat.pow_zero, Nat.mod_one, SN_zero, Nat.xor_zero]; exact closed_magic t H256.out⟩
  case round =>
    obtain ⟨j, l, cb, hj, hkj, rfl, rfl, hcb, hM, hL, hR⟩ := hrel
    have HM := Lib.hid hM
    have HL := Lib.hid hL
    have HG := Lib.hid hR
    have HC := Lib.hid hcb
    clear hM hL hR hcb HM2 HL2
    by_cases hgo : j < 32 ∧ K + j < 8 * (m + 4)
    · obtain ⟨h4, hin⟩ := hgo
      have hin2 : (K : Int) + (j : Int) < 8 * ((m : Int) + 4) := by omega
      have hbm : B % 2 ^ (j + 1) = B % 2 ^ j + 2 ^ j * (B / 2 ^ j % 2) := Nat.mod_pow_succ
      have hx := low_step B j
      have hbt : ((B : Int) / 2 ^ j).tmod 2 = ((B / 2 ^ j % 2 : Nat) : Int) := by
        have hp : ((B : Int) / 2 ^ j) = ((B / 2 ^ j : Nat) : Int) := by rw [Int.natCast_ediv, Int.natCast_pow]; rfl
        rw [hp, Int.tmod_eq_emod_of_nonneg (Int.natCast_nonneg _)]
        rfl
      have pj := Nat.two_pow_pos j
      cases hbit : (((B : Int) / 2 ^ j).tmod 2 == 1)
      · have hz : B / 2 ^ j % 2 = 0 := by
          rw [hbt, beq_eq_false_iff_ne] at hbit
          omega
        have e1 : B % 2 ^ (j + 1) = B % 2 ^ j := by rw [hbm, hz, Nat.mul_zero, Nat.add_zero]
        have E1 := Lib.hid e1
        clear e1 hz hbm hx hbt
        go_wp2_with fail
        go_roundw
        case rel => exact ⟨j + 1, l, cb, by omega, by omega, by go_num, rfl, by rw [E1.out]; exact HC.out, HM.out, HL.out, by rw [E1.out]; exact HG.out⟩
        case measure => simp [intOf]; omega
      · have ho : B / 2 ^ j % 2 = 1 := by
          rw [hbt, beq_iff_eq] at hbit
          omega
        have e1 : true = !(B % 2 ^ (j + 1) == 0) := by
          rw [hbm, ho, Nat.mul_one]
          simp
        obtain ⟨q, hq⟩ : ∃ q, q = (K + j) / 8 := ⟨_, rfl⟩
        obtain ⟨r, hr⟩ : ∃ r, r = (K + j) % 8 := ⟨_, rfl⟩
        have hql : q < m + 4 := by omega
        have hrl : r < 8 := by omega
        obtain ⟨C, hC⟩ : ∃ C, C = l.getD q 0 := ⟨_, rfl⟩
        have hcell := HM.out.cell q hql
        rw [← hC] at hcell
        have hfr := HM.out.frozen q
        have hCl : C < 256 := by rw [hC]; exact HM.out.2.2.2.2.1 _ (getD_mem l _ (by rw [HM.out.2.2.2.1]; exact hql))
        have hXl : 2 ^ r < 256 := by
          have : (2 : Nat) ^ r ≤ 2 ^ 7 := Nat.pow_le_pow_right (by decide) (by omega)
          omega
        have hll : l.length = m + 4 := HM.out.2.2.2.1
        have hreg : reg 4294967295 (l.set q (C ^^^ 2 ^ r)) = MAGIC ^^^ SN (8 * (m + 4) - K) (B % 2 ^ (j + 1)) := by
          rw [hC, reg_flip l q r (by omega) hrl, HG.out, hx, ho, Nat.mul_one, SN_xor, ← Nat.xor_assoc, hll]
          congr 1
          have h := SN_low (8 * (m + 4) - K) j 1 (by omega)
          rw [Nat.mul_one] at h
          rw [← h]
          congr 1
          omega
        have E1 := Lib.hid e1
        have HN := Lib.hid (HM.out.set q (C ^^^ 2 ^ r) hql (Nat.xor_lt_two_pow (n := 8) hCl hXl))
        have HN2 := Lib.hid (HL.out.setCell (p := ⟨g, q, none⟩) HM.out.1 (.int .u8 ((C ^^^ 2 ^ r : Nat) : Int)))
        have HN3 := Lib.hid hreg
        have q1 : ((K : Int) + (j : Int)) / 8 = (q : Int) := by omega
        have r1 : ((K : Int) + (j : Int)) % 8 = (r : Int) := by omega
        have hxr : bits .xor .u8 (C : Int) (2 ^ r % 256) = ((C ^^^ 2 ^ r : Nat) : Int) := by
          have e : (2 : Int) ^ r % 256 = ((2 ^ r : Nat) : Int) := by
            rw [Int.natCast_pow]
            have : ((2 ^ r : Nat) : Int) < 256 := by omega
            rw [Int.natCast_pow] at this
            exact Int.emod_eq_of_lt (Int.le_of_lt (Int.pow_pos (by decide))) this
          rw [e]
          exact u8_xor_nat C (2 ^ r) hCl hXl
        have HXR := Lib.hid hxr
        clear e1 hreg hbm hx hbt ho hC hq hr hll hxr
        have hq2 : (q : Int) < (m : Int) + 4 := by omega
        have hq3 : (0 : Int) ≤ (q : Int) := by omega
        have hr3 : (0 : Int) ≤ (r : Int) := by omega
        go_wp2_with fail
        go_region
        rw [HXR.out]
        have HN' : Hid (Mine (wr.setCell ⟨g, q, none⟩ (.int .u8 ((C ^^^ 2 ^ r : Nat) : Int))).drew w.heap.size g (m + 4) cap2 (l.set q (C ^^^ 2 ^ r))) := HN.out
        have HN2' : Hid (Below w.heap.size w (wr.setCell ⟨g, q, none⟩ (.int .u8 ((C ^^^ 2 ^ r : Nat) : Int))).drew) := HN2.out.drew
        clear HN HN2 HXR
        go_wp2_with fail
        go_roundw
        case rel => exact ⟨j + 1, _, true, by omega, by omega, by go_num, rfl, E1.out, HN'.out, HN2'.out, HN3.out⟩
        case measure => simp [intOf]; omega
    · have hval := valid_iff l m HM.out.2.2.2.1 HM.out.2.2.2.2.1
      rw [HG.out, xor_eq_self] at hval
      have hz : SN (8 * (m + 4) - K) (B % 2 ^ j) = 0 ↔ B % 2 ^ j = 0 :=
        ⟨fun h => SN_eq_zero _ _ (Nat.lt_of_le_of_lt (Nat.mod_le _ _) hB) h, fun h => by rw [h, SN_zero]⟩
      rw [hz] at hval
      have HE : Hid (Tab wr) := HT.out.below HL.out
      have htest : j < 32 → ¬ ((K : Int) + (j : Int) < 8 * ((m : Int) + 4)) := fun h => by omega
      cases cb
      · have hb0 : B % 2 ^ j = 0 := by
          have := HC.out
          simpa using this
        have hs := hval.2 hb0
        have hne : (((stored l m : Nat) : Int) != ((sum (l.take m) : Nat) : Int)) = false := by rw [hs]; simp
        have HO := Lib.hid (open_yes _ g m cap2 l wr HM.out hm HE.out hne)
        clear hne hs hb0 hval hz
        by_cases h4 : j < 32
        · have ht2 := htest h4
          clear htest hgo
          go_wp2_with (go_at_call 15; refine HO.out.mono ?_; rintro e w4 ⟨v, rfl, hov, b4⟩; have B4 := Lib.hid (Below.step b4 HL.out); clear b4 hov)
          go_ret
          exact ⟨rfl, B4.out⟩
        · clear htest hgo
          go_wp2_with (go_at_call 15; refine HO.out.mono ?_; rintro e w4 ⟨v, rfl, hov, b4⟩; have B4 := Lib.hid (Below.step b4 HL.out); clear b4 hov)
          go_ret
          exact ⟨rfl, B4.out⟩
      · have hb0 : ¬ B % 2 ^ j = 0 := by
          have := HC.out
          simpa using this
        have hs : ¬ stored l m = sum (l.take m) := fun h => hb0 (hval.1 h)
        have hne : (((stored l m : Nat) : Int) != ((sum (l.take m) : Nat) : Int)) = true := by rw [bne_iff_ne]; omega
        have HO := Lib.hid (open_no _ g m cap2 l wr HM.out hm HE.out hne)
        clear hne hs hb0 hval hz
        by_cases h4 : j < 32
        · have ht2 := htest h4
          clear htest hgo
          go_wp2_with (go_at_call 15; refine HO.out.mono ?_; rintro e w4 ⟨rfl, b4⟩; have B4 := Lib.hid (Below.step b4 HL.out); clear b4)
          go_ret
          exact ⟨rfl, B4.out⟩
        · clear htest hgo
          go_wp2_with (go_at_call 15; refine HO.out.mono ?_; rintro e w4 ⟨rfl, b4⟩; have B4 := Lib.hid (Below.step b4 HL.out); clear b4)
          go_ret
          exact ⟨rfl, B4.out⟩

set_option maxRecDepth 100000 in
set_option maxHeartbeats 1000000 in
theorem bursts_zero (a : Option Addr) (len cap : Nat) (m : Nat) (t : List Nat) (at_ : Int) (w : World) (hb : ∀ W : World, Calls Tryd.prog 9 #[.slice a len cap] W fun e w' => e = .returned (.slice a m cap) ∧ W = w')
    (hcl : ∀ W : World, Below w.heap.size w W → Calls Tryd.prog 14 #[.slice a m cap] W fun e w' => ∃ g cap2, e = .returned (.slice (some ⟨g, 0, none⟩) (m + 4) cap2) ∧ Mine w' w.heap.size g (m + 4) cap2 (t ++ four (sum t)) ∧ Below w.heap.size w w')
    (ht : Tab w) :
    Calls Tryd.prog 5 #[.slice a len cap, .int .i64 at_, .int .u32 0] w fun e w' => e = .returned (.bool true) ∧ Below w.heap.size w w' := by
  have HB : Hid (∀ W : World, Calls Tryd.prog 9 #[.slice a len cap] W fun e w' => e = .returned (.slice a m cap) ∧ W = w') := hb
  have HCL := Lib.hid hcl
  have HT := Lib.hid ht
  clear hb hcl ht
  go_enter Tryd.func5, Tryd.ntmps5
  go_wp2_with (first | (go_at_call 9; refine (HB.out _).mono ?_; rintro e w' ⟨rfl, rfl⟩) | (go_at_call 14; refine (HCL.out _ (Below.refl _ _)).mono ?_; rintro e w1 ⟨g, cap2, rfl, hM, hL⟩; clear hM) | (go_at_call 11; refine (sums_any _ (HT.out.below (by assumption))).mono ?_; rintro e w2 ⟨rfl, b2⟩; have b3 := Below.step b2 (by assumption); clear b2))
  go_ret
  exact ⟨rfl, by assumption⟩

theorem Mine.from_ {w : World} {base base' g n cap : Nat} {l : List Nat} (h : Mine w base' g n cap l) (hb : base ≤ base') : Mine w base g n cap l :=
  ⟨Nat.le_trans hb h.1, h.2⟩

theorem crcBursts_law {w : World} (a : Option Addr) (len cap : Nat) (zs : List Int) (w0 : IsRow .u8 w a len cap zs) (at_ : Int) (w1 : (Lit.int .i64 at_).wf = true) (by_ : Int) (w2 : (Lit.int .u32 by_).wf = true) (ht : Tab w) :
    Calls Tryd.prog 5 #[.slice a len cap, .int .i64 at_, .int .u32 by_] w fun e w' => e = .returned (.bool true) ∧ Below w.heap.size w w' := by
  obtain ⟨l, hr, h1, h2⟩ := row_bytes w0
  obtain ⟨B, rfl, hB⟩ := u32_wf w2
  have hb : ∀ W : World, Calls Tryd.prog 9 #[.slice a len cap] W fun e w' => e = .returned (.slice a (min len 3000) cap) ∧ W = w' := fun W => bytes_any a len cap W h1 h2
  have hrow := hr.take (min len 3000) (Nat.min_le_left _ _)
  have hm3 : min len 3000 ≤ 3000 := Nat.min_le_right _ _
  generalize hm : min len 3000 = m at *
  have hcl : ∀ W : World, Below w.heap.size w W → Calls Tryd.prog 14 #[.slice a m cap] W fun e w' => ∃ g cap2, e = .returned (.slice (some ⟨g, 0, none⟩) (m + 4) cap2) ∧ Mine w' w.heap.size g (m + 4) cap2 (l.take m ++ four (sum (l.take m))) ∧ Below w.heap.size w w' := by
    intro W b
    cases a with
    | some x =>
      refine (close_some x m cap (l.take m) W (hrow.below b) hm3 (ht.below b)).mono ?_
      rintro e w' ⟨g, cap2, he, hM, hL⟩
      exact ⟨g, cap2, he, hM.from_ b.size, Below.step hL b⟩
    | none =>
      obtain ⟨rfl, rfl⟩ : len = 0 ∧ cap = 0 := by
        rcases w0 with ⟨_, e1, e2, _⟩ | ⟨x, e, _⟩
        · exact ⟨e1, e2⟩
        · cases e
      obtain rfl : m = 0 := by omega
      refine (close_none W (ht.below b)).mono ?_
      rintro e w' ⟨g, cap2, he, hM, hL⟩
      exact ⟨g, cap2, he, hM.from_ b.size, Below.step hL b⟩
  by_cases h0 : B = 0
  · subst h0
    exact bursts_zero a len cap m (l.take m) at_ w hb hcl ht
  · exact bursts_main a len cap m (l.take m) at_ B w hb hcl hrow.1 hm3 hrow.2.2.1 hB (by rw [beq_eq_false_iff_ne]; omega) ht

end Go.Proofs.YtkplkfhkablelaaDoor
