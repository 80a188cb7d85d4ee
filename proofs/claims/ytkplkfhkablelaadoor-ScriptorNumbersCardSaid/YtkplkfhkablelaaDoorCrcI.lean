/-
  The contract of crc.Open.
-/
import Derived.Test.YtkplkfhkablelaaDoorCrcH
namespace Go.Proofs.YtkplkfhkablelaaDoor
open Go.ChangeShapes Go.WideShapes Go.ChangeAt Go.RowKit
set_option linter.unusedVariables false

theorem below_dN (w : World) (n : Nat) : Below w.heap.size w (w.drewN n) := ⟨rfl, rfl, rfl, Nat.le_refl _, fun _ _ => rfl⟩
theorem slice_tail (g N cap : Nat) (hc : N + 4 ≤ cap) (w : World) : (Instr.slice 22 (.slice (some ⟨g, 0, none⟩) (N + 4) cap) (some (.int .i64 (N : Int))) none none).run Tryd.prog w = .ok (.slice (some ⟨g, N, none⟩) 4 (cap - N)) w := by
  rw [slice_from (some ⟨g, 0, none⟩) (N + 4) cap N (by omega) w]
  have e : fromA (some ⟨g, 0, none⟩) cap N = some ⟨g, N, none⟩ := by
    unfold fromA
    rw [if_neg (by omega)]
    show some ((⟨g, 0, none⟩ : Addr).add N) = _
    rw [addr_add, Nat.zero_add]
  rw [e, show N + 4 - N = 4 by omega]

theorem or4 (a b c d : Nat) (ha : a < 256) (hb : b < 256) (hc : c < 256) (hd : d < 256) :
    bits .or .u32 (bits .or .u32 (bits .or .u32 ((a : Int) % 4294967296) ((b : Int) % 4294967296 * 256 % 4294967296)) ((c : Int) % 4294967296 * 65536 % 4294967296)) ((d : Int) % 4294967296 * 16777216 % 4294967296) = ((a + 256 * b + 65536 * c + 16777216 * d : Nat) : Int) := by
  have e0 : (a : Int) % 4294967296 = (a : Int) := by omega
  have e1 : (b : Int) % 4294967296 * 256 % 4294967296 = ((256 * b : Nat) : Int) := by omega
  have e2 : (c : Int) % 4294967296 * 65536 % 4294967296 = ((65536 * c : Nat) : Int) := by omega
  have e3 : (d : Int) % 4294967296 * 16777216 % 4294967296 = ((16777216 * d : Nat) : Int) := by omega
  rw [e0, e1, e2, e3, u32_or_nat a (256 * b) (by omega) (by omega), Nat.or_comm, nat_join 8 (256 * b) a (by omega) (by omega), u32_or_nat _ _ (by omega) (by omega), Nat.or_comm, nat_join 16 (65536 * c) _ (by omega) (by omega), u32_or_nat _ _ (by omega) (by omega), Nat.or_comm, nat_join 24 (16777216 * d) _ (by omega) (by omega)]
  omega

/-- the number that stands in four bytes behind N -/
def stored (l : List Nat) (N : Nat) : Nat := l.getD N 0 + 256 * l.getD (N + 1) 0 + 65536 * l.getD (N + 2) 0 + 16777216 * l.getD (N + 3) 0

set_option maxRecDepth 100000 in
set_option maxHeartbeats 1000000 in
theorem open_no (base g N cap : Nat) (l : List Nat) (w : World) (hM : Mine w base g (N + 4) cap l) (hn : N ≤ 3000) (ht : Tab w) (hne : (((stored l N : Nat) : Int) != ((sum (l.take N) : Nat) : Int)) = true) :
    Calls Tryd.prog 15 #[.slice (some ⟨g, 0, none⟩) (N + 4) cap] w fun e w' => e = .returned (.tuple #[.slice none 0 0, .bool false]) ∧ Below w.heap.size w w' := by
  obtain ⟨c0, hc0⟩ : ∃ c, c = l.getD N 0 := ⟨_, rfl⟩
  obtain ⟨c1, hc1⟩ : ∃ c, c = l.getD (N + 1) 0 := ⟨_, rfl⟩
  obtain ⟨c2, hc2⟩ : ∃ c, c = l.getD (N + 2) 0 := ⟨_, rfl⟩
  obtain ⟨c3, hc3⟩ : ∃ c, c = l.getD (N + 3) 0 := ⟨_, rfl⟩
  have k0 := hM.cell N (by omega)
  have k1 := hM.cell (N + 1) (by omega)
  have k2 := hM.cell (N + 2) (by omega)
  have k3 := hM.cell (N + 3) (by omega)
  rw [← hc0] at k0
  rw [← hc1] at k1
  rw [← hc2] at k2
  rw [← hc3] at k3
  have hcap : N + 4 ≤ cap := hM.2.1
  have hll : l.length = N + 4 := hM.2.2.2.1
  have hb : ∀ i, i < N + 4 → l.getD i 0 < 256 := fun i hi => hM.2.2.2.2.1 _ (getD_mem l i (by omega))
  have ho := or4 c0 c1 c2 c3 (by rw [hc0]; exact hb _ (by omega)) (by rw [hc1]; exact hb _ (by omega)) (by rw [hc2]; exact hb _ (by omega)) (by rw [hc3]; exact hb _ (by omega))
  have hv : stored l N = c0 + 256 * c1 + 65536 * c2 + 16777216 * c3 := by rw [hc0, hc1, hc2, hc3]; rfl
  rw [← hv] at ho
  have s1 := slice_tail g N cap hcap
  have s2 := slice_to (some ⟨g, 0, none⟩) (N + 4) cap N (by omega)
  have hrow := hM.row.take N (by omega)
  have HX := Lib.hid (Src.of hrow)
  have HR := Lib.hid hrow
  have HM := Lib.hid hM
  have HT := Lib.hid ht
  clear hM ht hc0 hc1 hc2 hc3 hll hb hv hrow
  go_enter Tryd.func15, Tryd.ntmps15
  go_wp2_with fail
  go_quiet (fail)
  go_wp2_with fail
  refine (sum_one _ 1 (some ⟨g, 0, none⟩) N cap (l.take N) _ (cell_new _ _ _ _ _ _ _ rfl rfl) (HR.out.below (Below.alloc' (below_dN w nq) _)) (HT.out.below (Below.alloc' (below_dN w nq) _))).mono ?_
  rintro e w1' ⟨rfl, rfl⟩
  go_wp2_with fail
  go_ret2
  exact ⟨rfl, Below.alloc' (below_dN w nq) _⟩

set_option maxRecDepth 100000 in
set_option maxHeartbeats 1000000 in
theorem open_yes (base g N cap : Nat) (l : List Nat) (w : World) (hM : Mine w base g (N + 4) cap l) (hn : N ≤ 3000) (ht : Tab w) (hne : (((stored l N : Nat) : Int) != ((sum (l.take N) : Nat) : Int)) = false) :
    Calls Tryd.prog 15 #[.slice (some ⟨g, 0, none⟩) (N + 4) cap] w fun e w' => ∃ v, e = .returned (.tuple #[v, .bool true]) ∧ w'.ownsRow w.heap.size 5 1 v N (vals (l.take N)) ∧ Below w.heap.size w w' := by
  obtain ⟨i0, hi, hz0, hz1, hz2⟩ := info_parts info5
  obtain ⟨c0, hc0⟩ : ∃ c, c = l.getD N 0 := ⟨_, rfl⟩
  obtain ⟨c1, hc1⟩ : ∃ c, c = l.getD (N + 1) 0 := ⟨_, rfl⟩
  obtain ⟨c2, hc2⟩ : ∃ c, c = l.getD (N + 2) 0 := ⟨_, rfl⟩
  obtain ⟨c3, hc3⟩ : ∃ c, c = l.getD (N + 3) 0 := ⟨_, rfl⟩
  have k0 := hM.cell N (by omega)
  have k1 := hM.cell (N + 1) (by omega)
  have k2 := hM.cell (N + 2) (by omega)
  have k3 := hM.cell (N + 3) (by omega)
  rw [← hc0] at k0
  rw [← hc1] at k1
  rw [← hc2] at k2
  rw [← hc3] at k3
  have hcap : N + 4 ≤ cap := hM.2.1
  have hll : l.length = N + 4 := hM.2.2.2.1
  have hb : ∀ i, i < N + 4 → l.getD i 0 < 256 := fun i hi => hM.2.2.2.2.1 _ (getD_mem l i (by omega))
  have ho := or4 c0 c1 c2 c3 (by rw [hc0]; exact hb _ (by omega)) (by rw [hc1]; exact hb _ (by omega)) (by rw [hc2]; exact hb _ (by omega)) (by rw [hc3]; exact hb _ (by omega))
  have hv : stored l N = c0 + 256 * c1 + 65536 * c2 + 16777216 * c3 := by rw [hc0, hc1, hc2, hc3]; rfl
  rw [← hv] at ho
  have s1 := slice_tail g N cap hcap
  have s2 := slice_to (some ⟨g, 0, none⟩) (N + 4) cap N (by omega)
  have hrow := hM.row.take N (by omega)
  have HX := Lib.hid (Src.of hrow)
  have HR := Lib.hid hrow
  have HM := Lib.hid hM
  have HT := Lib.hid ht
  clear hM ht hc0 hc1 hc2 hc3 hll hb hv hrow
  go_enter Tryd.func15, Tryd.ntmps15
  go_wp2_with fail
  go_quiet (fail)
  go_wp2_with fail
  refine (sum_one _ 1 (some ⟨g, 0, none⟩) N cap (l.take N) _ (cell_new _ _ _ _ _ _ _ rfl rfl) (HR.out.below (Below.alloc' (below_dN w nq) _)) (HT.out.below (Below.alloc' (below_dN w nq) _))).mono ?_
  rintro e w1' ⟨rfl, rfl⟩
  go_wp2_with (at_builtin; refine wpList_append_own _ rfl _ _ 22 rfl w.heap.size 5 i0 (.int .u8 0) 1 1 Tryd.underlying22 hi hz0 hz1 hz2 rfl (by decide) (.slice none 0 0) 0 (vals []) rfl ⟨rfl, .inl ⟨rfl, rfl⟩⟩ ⟨g, 0, none⟩ N cap (vals (l.take N)) rfl ?c1 ?c2 ?c3 ?c4 ?c5 ?c6 ?_)
  case c1 => rw [vals_length, HR.out.1]; omega
  case c2 => exact HX.out _ (Below.alloc' (below_dN w nq) _)
  case c3 => exact vals_one _
  case c4 => unfold maxLen; omega
  case c5 => omega
  case c6 => simp
  intro v1 w1 hown hgrow hnil
  have bel : Below w.heap.size w w1 := (Below.alloc' (below_dN w nq) _).grown hgrow (by simp) (fun k hk => by cases hk)
  have HO : Hid (w1.ownsRow w.heap.size 5 1 v1 N (vals (l.take N))) := hown
  have HL := Lib.hid bel
  clear hown hgrow hnil bel
  go_wp2_with fail
  go_ret2
  exact ⟨v1, rfl, HO.out, HL.out⟩

end Go.Proofs.YtkplkfhkablelaaDoor
